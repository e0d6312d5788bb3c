/- Package event's own Read. -/
import Derived.Test.YthclffafbkeepaaEvL
namespace Go.Proofs.Ythclffafbkeepaa
open Go.RowKit

theorem results_cell2E {P : Program} {fn : Func} {p u : Tmp} {ty : TypeId} (h : fn.results = #[.cell p ty, .tmp u]) (tmps : Array Value) (w : World) (g : Nat) (t : TypeId) (cs : Array Value) (fr : Nat × Nat) (d : TypeDesc)
    (hp : tmps.getD p undef = .pointer (some ⟨g, 0, none⟩)) (hg : w.heap[g]? = some (.cells cs t fr))
    (hu : P.underlying ty = some d) (hd : (match d with | .struct _ | .array _ _ => true | _ => false) = true) (hi : (P.info? ty).map (·.size) = some cs.size) :
    (results fn tmps).run P w = .ok (.tuple #[.agg cs, tmps.getD u undef]) w := by
  rw [results_cell_tmp h, hp]
  simp [asAddr, run_loadVar_row w g t ty cs fr d hg hu hd hi, Result.andThen]

/-- What Read comes to. -/
def RdE (w : World) (r : Option EvP) (e : Ending) (w' : World) : Prop :=
  Turn (fun _ => False) w w' ∧ match r with
  | none => e = .returned (.tuple #[evV zeroE (.slice none 0 0) (.slice none 0 0), .int .i64 5])
  | some x => ∃ dv fv, e = .returned (.tuple #[evV x dv fv, .int .i64 0]) ∧ EvQ (fun j => w.heap.size ≤ j) w' dv fv x

theorem EvQ.mono {Q Q' : Nat → Prop} {w : World} {dv fv : Value} {x : EvP} (h : EvQ Q w dv fv x) (hq : ∀ j, Q j → Q' j) : EvQ Q' w dv fv x :=
  ⟨h.data, fun h0 j hj => hq j (h.mem h0 j hj), h.defs.mono hq, h.name, h.long⟩

section
variable {w : World} {v : Value}

set_option maxHeartbeats 8000000 in
set_option maxRecDepth 100000 in
theorem evRead_any (bs : List UInt8) (h : Sees w v bs) (hb : bs.length ≤ 100000000000) :
    Calls Try.prog 8 #[v] w (RdE w (readE bs)) := by
  obtain ⟨vo, vc, rfl⟩ := h.shape
  obtain ⟨n, hn⟩ : ∃ n, n = bs.length := ⟨_, rfl⟩
  have H := hide h
  have HN := hide hn
  obtain ⟨res, hres⟩ : ∃ r, r = readE bs := ⟨_, rfl⟩
  rw [← hres]
  rw [← hn] at H ⊢
  obtain ⟨wa, hwa⟩ : ∃ wa, wa = w.alloc (.cells #[.int .i64 0, .int .i64 0, .int .i64 0, .int .i64 0, .int .i64 0, .int .i64 0, .string ⟨#[]⟩, .slice none 0 0, .slice none 0 0] 25) := ⟨_, rfl⟩
  have ta : Turn (fun _ => False) w wa := by rw [hwa]; exact (Turn.refl _ _).alloc _
  have hA : At 25 wa w.heap.size #[.int .i64 0, .int .i64 0, .int .i64 0, .int .i64 0, .int .i64 0, .int .i64 0, .string ⟨#[]⟩, .slice none 0 0, .slice none 0 0] := by rw [hwa]; exact At.new _ _ _
  have hsa := h.kept ta (fun _ _ e => e)
  rw [← hn] at hsa
  have Hwa := hide hwa
  have HA := hide hA
  have TA := hide ta
  have HS := hide hsa
  have HB := hide hb
  clear h hwa hA ta hsa hn hb
  go_enter Try.func8, Try.ntmps8
  go_wp2_with fail
  rw [← unhide Hwa]
  refine (newReader_any _ bs wa (unhide HS) (by have := unhide HB; omega)).mono ?_
  rintro e w1 ⟨b, rfl, v1, hR1, hb1, hs1, t1⟩
  have KT := hide (told_any ⟨bs, false⟩ hR1 (fun k hk => (hs1 k hk).2) (unhide HB))
  have T1 := hide ((unhide TA).trans t1)
  have HA1 := hide ((unhide HA).kept t1 (fun e => e))
  have HBn := hide hb1
  clear hR1 hb1 hs1 t1
  go_wp2_with fail
  refine (unhide KT).mono ?_
  rintro e w2 ⟨dv, fv, rfl, hq, v2, st2⟩
  have hlt := (unhide HA1).lt
  have hal := (unhide HA).lt
  have hbn := unhide HBn
  have t02 : Turn (fun _ => False) w w2 := (unhide T1).trans' st2.turn (fun i hi (e : i = b) => by omega)
  have hA2 := (unhide HA1).kept st2.turn (fun (e : w.heap.size = b) => by omega)
  have hw1 : w.heap.size < w1.heap.size := hlt
  have hq2 := hq.mono (Q' := fun j => w.heap.size < j) (fun j (hj : w1.heap.size ≤ j) => by omega)
  obtain ⟨x, hx⟩ : ∃ x, x = (toldE ⟨bs, false⟩).1 := ⟨_, rfl⟩
  have hrd : res = if rightE x = true ∧ layE x = bs then some x else none := by rw [hres, hx]; rfl
  clear hres
  rw [← hx] at hq2 ⊢
  have tb : Turn (fun _ => False) w2 (w2.alloc (.cells (evC x dv fv) 25)) := (Turn.refl _ _).alloc _
  have hB : At 25 (w2.alloc (.cells (evC x dv fv) 25)) w2.heap.size (evC x dv fv) := At.new _ _ _
  have hq3 := hq2.kept tb (fun _ _ h => h)
  have KY := hide (fun hr => evLay_yes hq3 hr)
  have KN := hide (fun hr => evLay_no hq3 hr)
  have hshD := hq2.data.shape
  have hshF := hq2.defs.shape
  have HQ := hide hq3
  have HR0 := hide (hA2.kept tb (fun e => e))
  have T3 := hide (t02.trans tb)
  have HB2 := hide hB
  have HS3 := hide ((unhide H).kept (t02.trans tb) (fun _ _ h => h))
  obtain ⟨rt, hrt⟩ : ∃ rt, rt = rightE x := ⟨_, rfl⟩
  obtain ⟨ly, hly⟩ : ∃ ly, ly = layE x := ⟨_, rfl⟩
  rw [← hrt, ← hly] at hrd
  rw [← hrt] at KY KN
  rw [← hly] at KY
  unfold evV at KY KN
  unfold evC at HB2 T3 HQ HR0 HS3 KY KN
  have RR := hide hrd
  clear hq hq2 hq3 t02 hA2 hx hrd tb hB hrt hly st2 KT T1 HA1 HBn TA HA HS H
  unfold evV
  obtain ⟨xi, xv, xt, xk, xd, xn, xs, xb, xf⟩ := x
  simp only at *
  obtain ⟨do1, dc1, rfl⟩ := hshD
  obtain ⟨fo1, fc1, rfl, -⟩ := hshF
  generalize hxb : xb.length = xbn at *
  generalize hxf : xf.length = xfn at *
  have HXB := hide (And.intro hxb hxf)
  clear hxb hxf
  go_wp2_with fail
  rcases rt with _ | _
  · have hr0 : res = none := by rw [unhide RR]; simp
    subst hr0
    refine (unhide KN rfl).mono ?_
    rintro e w3 ⟨rfl, t3⟩
    have hr8 := (unhide HR0).kept t3 (fun h => h)
    obtain ⟨g0, g1, g2, g3, g4, g5, g6, g7, g8⟩ := at_nine hr8
    have z0 := hr8.frozen 0
    have z1 := hr8.frozen 1
    have z2 := hr8.frozen 2
    have z3 := hr8.frozen 3
    have z4 := hr8.frozen 4
    have z5 := hr8.frozen 5
    have z6 := hr8.frozen 6
    have z7 := hr8.frozen 7
    have z8 := hr8.frozen 8
    have HF := hide (And.intro hr8 ((unhide T3).trans t3))
    clear hr8 t3 KY KN RR HQ HR0 HB2 HS3 T3
    go_wp2
    obtain ⟨hr8, t8⟩ := unhide HF
    refine bodyPost_ret (results_cell2E rfl _ _ w.heap.size 25 _ (0, 0) _ rfl ((((((((((hr8).set 0 _).set 1 _).set 2 _).set 3 _).set 4 _).set 5 _).set 6 _).set 7 _).set 8 _) Try.underlying25 rfl (by kernel_rfl)) rfl ?_
    exact ⟨t8.trans' (turn_set9 w3 w.heap.size ..) (fun i hi (e : i = w.heap.size) => by omega), rfl⟩
  · refine (unhide KY rfl).mono ?_
    rintro e w3 ⟨v3, rfl, hm3⟩
    have t3 := hm3.2.1
    have KE := hide (bytesEqual_any _ _ _ _ w3 hm3.1.sees ((unhide HS3).kept t3 (fun _ _ h => h)))
    obtain ⟨o3, c3, e3⟩ := hm3.1.shape
    have hr8 := (unhide HR0).kept t3 (fun h => h)
    obtain ⟨g0, g1, g2, g3, g4, g5, g6, g7, g8⟩ := at_nine hr8
    have z0 := hr8.frozen 0
    have z1 := hr8.frozen 1
    have z2 := hr8.frozen 2
    have z3 := hr8.frozen 3
    have z4 := hr8.frozen 4
    have z5 := hr8.frozen 5
    have z6 := hr8.frozen 6
    have z7 := hr8.frozen 7
    have z8 := hr8.frozen 8
    have hB8 := (unhide HB2).kept t3 (fun h => h)
    obtain ⟨b0, b1, b2, b3, b4, b5, b6, b7, b8⟩ := at_nine hB8
    have HF := hide (And.intro hr8 (And.intro ((unhide T3).trans t3) ((unhide HQ).kept t3 (fun _ _ h => h))))
    generalize ly.length = lyn at *
    subst e3
    clear hr8 t3 hm3 hB8 KY KN HQ HR0 HB2 HS3 T3
    rcases hd : decide (ly = bs) with _ | _
    · have hr0 : res = none := by rw [unhide RR, if_neg (by simpa using hd)]
      subst hr0
      rw [hd] at KE
      clear hd RR
      go_wp2_with (go_at_call 31; refine (unhide KE).mono ?_; rintro e w4 ⟨rfl, rfl⟩)
      obtain ⟨hr8, t8, _⟩ := unhide HF
      refine bodyPost_ret (results_cell2E rfl _ _ w.heap.size 25 _ (0, 0) _ rfl ((((((((((hr8).set 0 _).set 1 _).set 2 _).set 3 _).set 4 _).set 5 _).set 6 _).set 7 _).set 8 _) Try.underlying25 rfl (by kernel_rfl)) rfl ?_
      exact ⟨t8.trans' (turn_set9 w3 w.heap.size ..) (fun i hi (e : i = w.heap.size) => by omega), rfl⟩
    · have hr0 : res = some ⟨xi, xv, xt, xk, xd, xn, xs, xb, xf⟩ := by rw [unhide RR, if_pos (by simpa using hd)]
      subst hr0
      rw [hd] at KE
      clear hd RR
      go_wp2_with (go_at_call 31; refine (unhide KE).mono ?_; rintro e w4 ⟨rfl, rfl⟩)
      obtain ⟨hr8, t8, hq8⟩ := unhide HF
      refine bodyPost_ret (results_cell2E rfl _ _ w.heap.size 25 _ (0, 0) _ rfl ((((((((((hr8).set 0 _).set 1 _).set 2 _).set 3 _).set 4 _).set 5 _).set 6 _).set 7 _).set 8 _) Try.underlying25 rfl (by kernel_rfl)) rfl ?_
      refine ⟨t8.trans' (turn_set9 w3 w.heap.size ..) (fun i hi (e : i = w.heap.size) => by omega), _, _, rfl, ?_⟩
      exact (hq8.kept (turn_set9 w3 w.heap.size ..) (fun j hj (e : j = w.heap.size) => by have hj : w.heap.size < j := hj; omega)).mono (fun j hj => by have hj : w.heap.size < j := hj; omega)

end

end Go.Proofs.Ythclffafbkeepaa
