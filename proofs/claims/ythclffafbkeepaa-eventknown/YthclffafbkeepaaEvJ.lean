/- Package event's own toldDef. -/
import Derived.Test.YthclffafbkeepaaEvI
import Derived.Test.YthclffafbkeepaaOctR
import Derived.Test.YthclffafbkeepaaRec
import Derived.Test.YthclffafbkeepaaInts
import Derived.Laws.ResultCell
import Derived.Deep.RegionLaw
namespace Go.Proofs.Ythclffafbkeepaa
open Go.RowKit

theorem Try.infoIntE : (Try.prog.info? 3).map (fun i => (i.zero, i.size, i.bytes)) = some (some (.int .i64 0), 1, 8) := by kernel_rfl

theorem num_take1 (s : St) : 0 ≤ num (s.take 1).1 ∧ num (s.take 1).1 < 256 := by
  have h := s.take_len 1
  match hx : (s.take 1).1 with
  | [] => rw [num_nil]; omega
  | [a] => rw [num_one]; have := a.toNat_lt; omega
  | a :: b :: r => rw [hx] at h; simp at h; omega

/-- A Reader's step, with what else was turned in new memory. -/
theorem rstep_other {T : TypeId} {b : Nat} {w w1 w2 : World} {v v1 : Value} {bs1 : List UInt8} {l1 : Bool} {S : Nat → Prop} (h : RStep T b w v w1 v1 bs1 l1) (t : Turn S w1 w2) (hS : ∀ k, S k → w.heap.size ≤ k) (hb : b < w.heap.size) (hv : ∀ k, slab v = some k → k < w.heap.size) : RStep T b w v w2 v1 bs1 l1 :=
  ⟨h.at'.kept t (fun e => by have := hS _ e; omega) (fun k hk e => by have := hS _ e; have := hv k (h.slab k hk); omega), h.turn.trans' t (fun i hi e => by have := hS _ e; omega), h.slab⟩

/-- One number more. -/
theorem ints_cat {w1 : World} {v : Value} {xs : List Int} (h : OwnsC 3 w1 v (i64s xs)) (x : Int) (hb : xs.length ≤ 1000000000) :
    ∃ v2 w2, (Builtin.append_ #[37, 37] 37 #[v, .slice (some ⟨w1.heap.size, 0, none⟩) 1 1]).run Try.prog (w1.alloc (.cells #[.int .i64 x] 3)) = .ok v2 w2 ∧ OwnsC 3 w2 v2 (i64s (xs ++ [x])) ∧ Turn (fun j => v.ownBlock = some j) w1 w2 ∧ (v2.ownBlock = v.ownBlock ∨ ∀ j, v2.ownBlock = some j → w1.heap.size ≤ j) := by
  obtain ⟨i, hi, hz, hsz, hby⟩ := info_parts Try.infoIntE
  have ta : Turn (fun _ => False) w1 (w1.alloc (.cells #[.int .i64 x] 3)) := (Turn.refl _ _).alloc _
  obtain ⟨v2, w2, hr, ho, hg, hat⟩ := run_append_cells (P := Try.prog) (w1.alloc (.cells #[.int .i64 x] 3)) 37 37 3 i _ 8 Try.underlying37 hi hz hsz hby rfl v (i64s xs) (h.kept ta (fun _ _ e => e)) _ [.int .i64 x] (SeesC.lit w1 [.int .i64 x] _ (by simp [maxLen])) (by intro u hu; rw [List.mem_singleton.1 hu]; rfl) (by rw [i64s_length]; simp [maxLen]; omega) (by rw [i64s_length]; simp; omega)
  have hs2 := ta.size
  refine ⟨v2, w2, hr, by rw [i64s_append]; exact ho, (ta.mono (fun _ _ h => h.elim)).trans ((Turn.refl _ _).grown hg (fun j hj => .inl hj)), ?_⟩
  rcases hat with e | e
  · exact .inl e
  · refine .inr fun j hj => ?_
    rw [e] at hj
    injection hj with hj
    omega

theorem OwnsC.intsQ {w : World} {v : Value} {xs : List Int} (h : OwnsC 3 w v (i64s xs)) {Q : Nat → Prop} (hq : ∀ j, v.ownBlock = some j → Q j) : IntsQ Q w v xs := by
  have hc := h.sees
  rcases h.shape with ⟨rfl, he⟩ | ⟨g, cap, rfl, h1, h2⟩
  · refine .inl ⟨rfl, ?_⟩
    have := congrArg List.length he
    rw [i64s_length] at this
    exact List.eq_nil_of_length_eq_zero this
  · rw [i64s_length] at h1 hc
    rcases hc with ⟨hc, _⟩ | ⟨a, cap', e, hc1, hc2, hc3⟩
    · injection hc with hc; cases hc
    · injection e with e e2 e3
      injection e with e
      subst e
      rw [i64s_length]
      refine .inr ⟨_, cap, rfl, by omega, fun k hk => ⟨hq g rfl, hc3 k _ ?_⟩⟩
      unfold i64s
      rw [List.getElem?_map, List.getElem?_eq_getElem hk]
      rfl

theorem ints_shape {w : World} {v : Value} {xs : List Int} (h : OwnsC 3 w v (i64s xs)) {n : Nat} (hn : xs.length = n) : ∃ o c, v = .slice o n c := by
  rcases h.shape with ⟨e1, e2⟩ | ⟨gg, cap, e1, _, _⟩
  · have := congrArg List.length e2
    rw [i64s_length, hn] at this
    simp only [List.length_nil] at this
    exact ⟨none, 0, by rw [e1, this]⟩
  · rw [i64s_length, hn] at e1
    exact ⟨_, _, e1⟩

/-- Where toldDef's loop stands. -/
def TdAt (wa : World) (b c : Nat) (v : Value) (d1 d2 : Int) (cnt : Nat) (s2 : St) (n : Nat) (wr : World) : Prop :=
  ∃ (xs : List Int) (s1 : St) (nv v1 : Value), RStep 71 b wa v wr v1 s1.bs s1.lack ∧ At 45 wr c #[nv, .int .i64 d1, .int .i64 d2] ∧ OwnsC 3 wr nv (i64s xs) ∧
    (∀ j, nv.ownBlock = some j → wa.heap.size ≤ j ∧ j ≠ c) ∧ xs.length = n ∧ toldN cnt s2 = (xs ++ (toldN (cnt - n) s1).1, (toldN (cnt - n) s1).2)

/-- One round of it. -/
theorem td_step {wa wr w5 : World} {b c n : Nat} {v u1 u5 : Value} {d1 d2 : Int} {s1 s5 : St} {xs : List Int} {no : Option Addr} {nc : Nat} (hbw : b < wa.heap.size ∧ (b ≠ c ∧ ∀ k, slab v = some k → k < wa.heap.size) ∧ wa.heap.size ≤ c)
    (h : RStep 71 b wa v wr u1 s1.bs s1.lack ∧ At 45 wr c #[.slice no n nc, .int .i64 d1, .int .i64 d2] ∧ OwnsC 3 wr (.slice no n nc) (i64s xs) ∧
    (∀ j, (Value.slice no n nc).ownBlock = some j → wa.heap.size ≤ j ∧ j ≠ c) ∧ xs.length = n ∧ n < 256)
    (hs5 : RStep 71 b wr.drew u1 w5 u5 s5.bs s5.lack) (x : Int) :
    ∃ v6 w6 no6 nc6, (Builtin.append_ #[37, 37] 37 #[.slice no n nc, .slice (some ⟨w5.heap.size, 0, none⟩) 1 1]).run Try.prog (w5.alloc (.cells #[.int .i64 x] 3)) = .ok v6 w6 ∧ v6 = .slice no6 (n + 1) nc6 ∧
      w5.cell? ⟨c, 0, none⟩ = some (.slice no n nc) ∧ w6.cell? ⟨c, 0, none⟩ = some (.slice no n nc) ∧ w6.frozen? ⟨c, 0, none⟩ = false ∧
      (∀ w7, w7 = w6.setCell ⟨c, 0, none⟩ v6 → RStep 71 b wa v w7 u5 s5.bs s5.lack ∧ At 45 w7 c #[v6, .int .i64 d1, .int .i64 d2] ∧ OwnsC 3 w7 v6 (i64s (xs ++ [x])) ∧ ∀ j, v6.ownBlock = some j → wa.heap.size ≤ j ∧ j ≠ c) := by
  obtain ⟨a1, a2, a3, a4, a5, a6⟩ := h
  have t5 : Turn (fun k => k = b) wr w5 := ((Turn.refl _ wr).drew).trans hs5.turn
  have hAt5 := a2.kept t5 (fun e => hbw.2.1.1 e.symm)
  have hown5 := a3.kept t5 (fun j hj (e : j = b) => by have := (a4 j hj).1; omega)
  obtain ⟨v6, w6, r6, ho6, t6, hm6⟩ := ints_cat hown5 x (by omega)
  have hAt6 := hAt5.kept t6 (fun e => (a4 c e).2 rfl)
  obtain ⟨no6, nc6, e6⟩ := ints_shape ho6 (n := n + 1) (by rw [List.length_append, a5]; rfl)
  have hn6 : ∀ j, v6.ownBlock = some j → wa.heap.size ≤ j ∧ j ≠ c := fun j hj => by
    rcases hm6 with e | e
    · exact a4 j (e ▸ hj)
    · have h1 := e j hj
      have h2 := hAt5.lt
      have h3 := a1.turn.size
      have h4 := t5.size
      exact ⟨by omega, by omega⟩
  refine ⟨v6, w6, no6, nc6, r6, e6, hAt5.cell 0, hAt6.cell 0, hAt6.frozen 0, fun w7 e7 => ?_⟩
  have t7 : Turn (fun k => k = c) w6 w7 := by rw [e7]; exact (Turn.refl (fun k => k = c) w6).setCell (p := ⟨c, 0, none⟩) (.inl rfl) _
  have hcw := hn6
  have hcl : wa.heap.size ≤ c := hbw.2.2
  refine ⟨?_, by rw [e7]; exact hAt6.set 0 v6, ho6.kept t7 (fun j hj (e : j = c) => (hn6 j hj).2 e), hn6⟩
  have hv : ∀ k, slab v = some k → k < wa.heap.size := hbw.2.1.2
  have h1 : RStep 71 b wa v w5 u5 s5.bs s5.lack := (a1.grown ((Turn.refl _ wr).drew)).trans hs5
  have h2 := rstep_other h1 t6 (fun k hk => (a4 k hk).1) hbw.1 hv
  exact rstep_other h2 t7 (fun k (hk : k = c) => by omega) hbw.1 hv

section
variable {w : World} {b : Nat} {v : Value}

set_option maxHeartbeats 8000000 in
set_option maxRecDepth 100000 in
theorem toldDef_any (s : St) (h : RIs 71 w b v s) (hv : ∀ k, slab v = some k → k < w.heap.size) :
    Calls Try.prog 47 #[.pointer (some ⟨b, 0, none⟩)] w fun e w' => ∃ nv, e = .returned (dfV (toldD s).1 nv) ∧ IntsQ (fun j => w.heap.size ≤ j) w' nv (toldD s).1.1 ∧ Now 71 w b v (toldD s).2 w' := by
  obtain ⟨wa, hwa⟩ : ∃ wa, wa = w.alloc (.cells #[.slice none 0 0, .int .i64 0, .int .i64 0] 45) := ⟨_, rfl⟩
  have ta : Turn (fun _ => False) w wa := by rw [hwa]; exact (Turn.refl _ _).alloc _
  have hA : At 45 wa w.heap.size #[.slice none 0 0, .int .i64 0, .int .i64 0] := by rw [hwa]; exact At.new _ _ _
  have hra : RIs 71 wa b v s := h.kept ta (fun e => e) (fun _ _ e => e)
  have hbl : b < w.heap.size := h.1.lt
  have hwl : w.heap.size < wa.heap.size := hA.lt
  have Hwa := hide hwa
  have HA := hide hA
  have TA := hide ta
  have HV := hide (show ∀ k, slab v = some k → k < wa.heap.size from fun k hk => by have := hv k hk; omega)
  have HR := hide (RStep.refl hra)
  have HV0 := hide hv
  obtain ⟨res, hres⟩ : ∃ r, r = toldD s := ⟨_, rfl⟩
  unfold toldD headD at hres
  rw [show (toldD s) = res by rw [hres]; rfl]
  clear h hwa ta hA hra hv
  go_enter Try.func47, Try.ntmps47
  go_wp2_with fail
  rw [← unhide Hwa]
  refine (ru8_any b v _ wa (unhide HR).at').mono ?_
  rintro e w1 ⟨rfl, v1, s1⟩
  obtain ⟨a, ha⟩ : ∃ a, a = s.take 1 := ⟨_, rfl⟩
  have q1 := num_take1 s
  rw [← ha] at hres s1 q1 ⊢
  have S1 := hide s1
  clear ha s1
  go_wp2_with fail
  refine (ru64_any b v1 _ w1 (unhide S1).at').mono ?_
  rintro e w2 ⟨rfl, v2, s2⟩
  obtain ⟨d, hd⟩ : ∃ d, d = a.2.take 8 := ⟨_, rfl⟩
  rw [← hd] at hres s2 ⊢
  have S2 := hide ((unhide S1).trans s2)
  clear hd s2 S1
  obtain ⟨wb, hwb⟩ : ∃ wb, wb = w2.alloc (.cells #[.slice none 0 0, .int .i64 (num a.1), .int .i64 (num d.1)] 45) := ⟨_, rfl⟩
  obtain ⟨c, hc⟩ : ∃ c, c = w2.heap.size := ⟨_, rfl⟩
  have tb : Turn (fun _ => False) w2 wb := by rw [hwb]; exact (Turn.refl _ _).alloc _
  have hB : At 45 wb c #[.slice none 0 0, .int .i64 (num a.1), .int .i64 (num d.1)] := by rw [hwb, hc]; exact At.new _ _ _
  have s3 := (unhide S2).grown tb
  have hcs : wa.heap.size ≤ c := by rw [hc]; exact (unhide S2).turn.size
  have Hwb := hide hwb
  have Hc := hide hc
  have HB := hide hB
  have S3 := hide s3
  clear hwb hc tb hB s3 S2
  go_wp2_with fail
  rw [← unhide Hwb, ← unhide Hc]
  refine (ru8_any b v2 _ wb (unhide S3).at').mono ?_
  rintro e w3 ⟨rfl, v3, s3⟩
  obtain ⟨g, hg⟩ : ∃ g, g = d.2.take 1 := ⟨_, rfl⟩
  have q3 := num_take1 d.2
  rw [← hg] at hres s3 q3 ⊢
  obtain ⟨cn, hcn⟩ : ∃ cn : Nat, num g.1 = cn := ⟨(num g.1).toNat, by omega⟩
  rw [hcn] at hres q3 ⊢
  rw [Int.toNat_natCast] at hres
  have S4 := hide ((unhide S3).trans s3)
  have hbc : b ≠ c := by omega
  have hbw := hide (show b < wa.heap.size ∧ (b ≠ c ∧ ∀ k, slab v = some k → k < wa.heap.size) ∧ wa.heap.size ≤ c from ⟨by omega, ⟨hbc, unhide HV⟩, hcs⟩)
  have hB3 : At 45 w3 c #[.slice none 0 0, .int .i64 (num a.1), .int .i64 (num d.1)] := (unhide HB).kept s3.turn (fun e => hbc e.symm)
  have R := hide hres
  have hcn2 : cn < 256 := by omega
  have hst : Hid (TdAt wa b c v (num a.1) (num d.1) cn g.2 0 w3) := hide ⟨[], g.2, .slice none 0 0, v3, unhide S4, hB3, OwnsC.nil _ _, fun j hj => by simp [Value.ownBlock] at hj, rfl, by simp⟩
  clear hres hg s3 S3 hB3 HB Hwb Hc hcn q3 S4
  generalize num a.1 = d1 at *
  generalize num d.1 = d2 at *
  go_wp2_with fail
  go_loopw [11] (fun i wr => ∃ n : Nat, i = .int .i64 n ∧ n ≤ cn ∧ TdAt wa b c v d1 d2 cn g.2 n wr) (fun i _ => cn - (intOf i).toNat)
  case atStart => exact ⟨0, rfl, by omega, unhide hst⟩
  case round =>
    obtain ⟨n, rfl, hn, xs, s1, nv, u1, hs1, hAt, hown, hnew, hxl, htd⟩ := hrel
    by_cases hlt : n < cn
    · have q4 : (n : Int) < cn := by omega
      obtain ⟨x, hx⟩ : ∃ x, x = s1.take 1 := ⟨_, rfl⟩
      have htd2 : toldN cn g.2 = (xs ++ [num x.1] ++ (toldN (cn - (n + 1)) x.2).1, (toldN (cn - (n + 1)) x.2).2) := by
        rw [htd, show cn - n = (cn - (n + 1)) + 1 by omega, toldN, ← hx]
        simp
      have td : Turn (fun _ => False) wr wr.drew := (Turn.refl _ wr).drew
      have KU := hide (ru8_any b u1 s1 wr.drew (hs1.at'.kept td (fun e => e) (fun _ _ e => e)))
      rw [← hx] at KU
      obtain ⟨no, nc, hnv⟩ : ∃ no nc, nv = .slice no n nc := ints_shape hown hxl
      subst hnv
      have k0 : wr.cell? ⟨c, 0, none⟩ = some (.slice no n nc) := hAt.cell 0
      have HS1 := hide (And.intro hs1 (And.intro hAt (And.intro hown (And.intro hnew (And.intro hxl (show n < 256 by omega))))))
      have HTd := hide htd2
      have HX := hide hx
      clear hs1 hAt hown hnew htd htd2 hxl hx td
      go_wp2_with fail
      go_region_law (first
        | (go_simp; go_at_call 44; refine (unhide KU).mono ?_; rintro e w5 ⟨rfl, u5, hs5⟩; obtain ⟨v6, w6, no6, nc6, r6, e6, k5, k6, f6, h6⟩ := td_step (unhide hbw) (unhide HS1) hs5 (num x.1); have k5a : (w5.alloc (.cells #[.int .i64 (num x.1)] 3)).cell? ⟨c, 0, none⟩ = some (.slice no n nc) := (((Turn.refl (fun _ => False) w5).alloc (.cells #[.int .i64 (num x.1)] 3)).cell (p := ⟨c, 0, none⟩) (World.block_lt_of_cell? w5 ⟨c, 0, none⟩ k5) (fun h => h)).trans k5; have R6 := hide r6; have H6 := hide h6; subst e6; clear r6 h6 hs5)
        | (refine step_append_run (by rfl) (.tmp 14) (.tmp 17) 37 (by rfl) _ _ _ w6 (by rfl) (by rfl) (unhide R6) ?_)
        | fail)
      all_goals (
        go_wp2_with fail
        go_roundw
        case rel =>
          obtain ⟨h1, h2, h3, h4⟩ := unhide H6 _ rfl
          exact ⟨n + 1, by go_num, by omega, xs ++ [num x.1], x.2, _, u5, h1, h2, h3, h4, by rw [List.length_append, (unhide HS1).2.2.2.2.1]; rfl, unhide HTd⟩
        case measure => simp [intOf]; omega)
    · obtain rfl : n = cn := by omega
      have q4 : ¬ (n : Int) < n := by omega
      have hrA : At 45 wr w.heap.size #[.slice none 0 0, .int .i64 0, .int .i64 0] := (unhide HA).kept hs1.turn (fun e => by omega)
      rw [Nat.sub_self, toldN, List.append_nil] at htd
      have hresv : res = ((xs, d1, d2), s1) := by rw [unhide R, htd]
      obtain ⟨no, nc, hnv⟩ : ∃ no nc, nv = .slice no n nc := ints_shape hown hxl
      subst hnv
      have c0 : wr.cell? ⟨c, 0, none⟩ = some (.slice no n nc) := hAt.cell 0
      have c1 : wr.cell? ⟨c, 1, none⟩ = some (.int .i64 d1) := hAt.cell 1
      have c2 : wr.cell? ⟨c, 2, none⟩ = some (.int .i64 d2) := hAt.cell 2
      have g0 : wr.cell? ⟨w.heap.size, 0, none⟩ = some (.slice none 0 0) := hrA.cell 0
      have g1 : wr.cell? ⟨w.heap.size, 1, none⟩ = some (.int .i64 0) := hrA.cell 1
      have g2 : wr.cell? ⟨w.heap.size, 2, none⟩ = some (.int .i64 0) := hrA.cell 2
      have z0 := hrA.frozen 0
      have z1 := hrA.frozen 1
      have z2 := hrA.frozen 2
      have Hf := hide (And.intro hs1 (And.intro hown (And.intro hnew (And.intro hresv hrA))))
      clear hs1 hAt hown hnew hxl htd hrA hresv
      go_wp2
      obtain ⟨a1, a2, a3, a4, a5⟩ := unhide Hf
      refine bodyPost_ret (results_cell_row rfl _ _ w.heap.size 45 _ (0, 0) _ rfl (((a5.set 0 _).set 1 _).set 2 _) Try.underlying45 rfl (by kernel_rfl)) rfl ?_
      have tset : ∀ u0 u1 u2, Turn (fun i => i = w.heap.size) wr (((wr.setCell ⟨w.heap.size, 0, none⟩ u0).setCell ⟨w.heap.size, 1, none⟩ u1).setCell ⟨w.heap.size, 2, none⟩ u2) := fun u0 u1 u2 => (((Turn.refl (fun i => i = w.heap.size) wr).setCell (p := ⟨w.heap.size, 0, none⟩) (.inl rfl) u0).setCell (p := ⟨w.heap.size, 1, none⟩) (.inl rfl) u1).setCell (p := ⟨w.heap.size, 2, none⟩) (.inl rfl) u2
      refine ⟨.slice no n nc, ?_, ?_, ?_⟩
      · rw [a4]
        rfl
      · rw [a4]
        exact (a2.kept (tset _ _ _) (fun j hj (e : j = w.heap.size) => by have := (a3 j hj).1; omega)).intsQ (fun j hj => by have := (a3 j hj).1; omega)
      · rw [a4]
        refine ⟨_, a1.at'.kept (tset _ _ _) (fun (e : b = w.heap.size) => by omega) (fun k hk (e : k = w.heap.size) => by have := unhide HV0 k (a1.slab k hk); omega), ?_, a1.slab⟩
        exact (((unhide TA).mono (S' := fun k => k = b) (fun _ _ e => e.elim)).trans a1.turn).trans' (tset _ _ _) (fun i hi (e : i = w.heap.size) => by omega)

end

end Go.Proofs.Ythclffafbkeepaa
