/- Package event's own Copy. -/
import Derived.Test.YthclffafbkeepaaEvV
import Derived.Test.YthclffafbkeepaaEvU
import Derived.Deep.RegionHeld
namespace Go.Proofs.Ythclffafbkeepaa
open Go.RowKit

theorem RowOwns.cellAt {T : TypeId} {m : Nat} {w : World} {g cap n : Nat} {rows : List (List Value)} (h : RowOwns T m w (.slice (some ⟨g, 0, none⟩) n cap) rows) (k j : Nat) (hk : k < rows.length) (u : Value) (hu : rows[k][j]? = some u) : w.cell? ⟨g, 0 + k * m + j, none⟩ = some u := by
  rcases h.cells with ⟨e, _⟩ | ⟨g', cap', e, _, _, _, hc⟩
  · injection e with e
    cases e
  · injection e with e1 e2 e3
    injection e1 with e1
    injection e1 with e1
    subst e1
    exact hc k hk j u hu

/-- Where Copy's loop stands: the first n nodes have needs of their own. -/
structure CpI (w : World) (x : EvP) (dv fv : Value) (l1 l2 : List (Value × Df)) (wr : World) : Prop where
  turn : Turn (fun _ => False) w wr
  at' : At 25 wr w.heap.size (evC x dv fv)
  rows : RowOwns 45 3 wr fv ((l1 ++ l2).map row3)
  new : ∀ j, fv.ownBlock = some j → w.heap.size + 1 < j
  all : (l1 ++ l2).map (·.2) = x.defs
  ints1 : ∀ p ∈ l1, IntsQ (fun j => w.heap.size + 1 < j ∧ fv.ownBlock ≠ some j) wr p.1 p.2.1
  ints2 : ∀ p ∈ l2, IntsQ (fun j => j < w.heap.size) wr p.1 p.2.1
  data : Owns wr dv x.data
  dnew : ∀ j, dv.ownBlock = some j → w.heap.size + 1 < j ∧ fv.ownBlock ≠ some j
  zero : At 25 wr (w.heap.size + 1) #[.int .i64 0, .int .i64 0, .int .i64 0, .int .i64 0, .int .i64 0, .int .i64 0, .string ⟨#[]⟩, .slice none 0 0, .slice none 0 0]

/-- One round of it. -/
theorem cp_step {w wr w5 : World} {g cap n : Nat} {x : EvP} {dv : Value} {l1 l2 : List (Value × Df)} {p : Value × Df} {nv : Value}
    (h : CpI w x dv (.slice (some ⟨g, 0, none⟩) n cap) l1 (p :: l2) wr) (hc : OwnsC 3 w5 nv (i64s p.2.1)) (t5 : Turn (fun _ => False) wr w5) (hnv : ∀ j, nv.ownBlock = some j → wr.heap.size ≤ j) :
    CpI w x dv (.slice (some ⟨g, 0, none⟩) n cap) (l1 ++ [(nv, p.2)]) l2 (w5.setCell ⟨g, 0 + l1.length * 3, none⟩ nv) := by
  have hgl : g < wr.heap.size := h.rows.lt rfl
  have hgb : w.heap.size + 1 < g := h.new g rfl
  have t6 : Turn (fun k => k = g) w5 (w5.setCell ⟨g, 0 + l1.length * 3, none⟩ nv) := (Turn.refl (fun k => k = g) w5).setCell (p := ⟨g, 0 + l1.length * 3, none⟩) (.inl rfl) _
  have h0 := h.turn.size
  have h5 := t5.size
  have h6 := t6.size
  refine ⟨(h.turn.trans t5).trans' t6 (fun i hi (e : i = g) => by omega), (h.at'.kept t5 (fun e => e)).kept t6 (fun (e : w.heap.size = g) => by omega), ?_, h.new, ?_, fun q hq => ?_, fun q hq => ?_, (h.data.kept t5 (fun _ _ e => e)).kept t6 (fun j hj (e : j = g) => (h.dnew j hj).2 (by rw [e]; rfl)), h.dnew, (h.zero.kept t5 (fun e => e)).kept t6 (fun (e : w.heap.size + 1 = g) => by omega)⟩
  · have hr := h.rows.kept t5 (fun _ _ e => e)
    have hk : l1.length < ((l1 ++ p :: l2).map row3).length := by simp
    have hp := hr.put l1.length 0 hk (by omega) nv
    rw [Nat.add_zero] at hp
    have e : ((l1 ++ p :: l2).map row3).set l1.length ((((l1 ++ p :: l2).map row3)[l1.length]).set 0 nv) = (l1 ++ [(nv, p.2)] ++ l2).map row3 := by
      simp [row3]
    rw [e] at hp
    exact hp
  · rw [← h.all]
    simp
  · rcases List.mem_append.1 hq with hq | hq
    · exact ((h.ints1 q hq).kept t5 (fun _ _ e => e)).kept t6 (fun j hj (e : j = g) => hj.2 (by rw [e]; rfl))
    · rw [List.mem_singleton.1 hq]
      have h7 := hc.kept t6 (fun j hj (e : j = g) => by have := hnv j hj; omega)
      exact h7.intsQ (fun j hj => ⟨by have := hnv j hj; have := h.zero.lt; omega, fun e => by injection e with e; have e : g = j := e; have := hnv j hj; omega⟩)
  · exact ((h.ints2 q (List.mem_cons_of_mem _ hq)).kept t5 (fun _ _ e => e)).kept t6 (fun j hj (e : j = g) => by have hj : j < w.heap.size := hj; omega)

theorem cp_more {w wr w5 : World} {g cap n k : Nat} {x : EvP} {dv : Value} {l1 l2 : List (Value × Df)} {p : Value × Df} {nv : Value}
    (h : CpI w x dv (.slice (some ⟨g, 0, none⟩) n cap) l1 (p :: l2) wr) (hk : l1.length = k) (hc : OwnsC 3 w5 nv (i64s p.2.1)) (t5 : Turn (fun _ => False) wr w5) (hnv : ∀ j, nv.ownBlock = some j → wr.heap.size ≤ j) :
    w5.cell? ⟨w.heap.size, 8, none⟩ = some (.slice (some ⟨g, 0, none⟩) n cap) ∧ w5.cell? ⟨g, k * 3, none⟩ = some p.1 ∧ w5.frozen? ⟨g, k * 3, none⟩ = false ∧
    (w5.setCell ⟨g, k * 3, none⟩ nv).cell? ⟨w.heap.size, 8, none⟩ = some (.slice (some ⟨g, 0, none⟩) n cap) ∧
    CpI w x dv (.slice (some ⟨g, 0, none⟩) n cap) (l1 ++ [(nv, p.2)]) l2 (w5.setCell ⟨g, k * 3, none⟩ nv) := by
  have h2 := cp_step h hc t5 hnv
  rw [Nat.zero_add] at h2
  have hr := h.rows.kept t5 (fun _ _ e => e)
  subst hk
  have hc := hr.cellAt l1.length 0 (by simp) p.1 (by simp [row3])
  rw [Nat.add_zero, Nat.zero_add] at hc
  exact ⟨(h.at'.kept t5 (fun e => e)).cell 8, hc, hr.frozen _, h2.at'.cell 8, h2⟩

section
variable {Q : Nat → Prop} {w : World} {dv fv : Value}

/-- What Copy answers: an event of one's own, in new memory. -/
structure EvNew (w : World) (x : EvP) (dv fv : Value) (w' : World) : Prop where
  turn : Turn (fun _ => False) w w'
  data : Owns w' dv x.data
  dnew : ∀ j, dv.ownBlock = some j → w.heap.size ≤ j ∧ fv.ownBlock ≠ some j
  defs : ∃ l, DOwn (fun j => w.heap.size ≤ j) w' fv l ∧ l.map (·.2) = x.defs
  new : ∀ j, fv.ownBlock = some j → w.heap.size ≤ j
  name : x.name.size ≤ 140737488355328
  long : x.data.length ≤ 140737488355328

theorem EvNew.evQ {x : EvP} {w' : World} (h : EvNew w x dv fv w') : EvQ (fun j => w.heap.size ≤ j) w' dv fv x := by
  obtain ⟨l, hl, he⟩ := h.defs
  exact ⟨h.data.sees, fun _ j hj => by rw [h.data.slab_eq] at hj; exact (h.dnew j hj).1, he ▸ hl.defs (fun _ h => h) h.new, h.name, h.long⟩

set_option maxHeartbeats 8000000 in
set_option maxRecDepth 100000 in
theorem evCopy_any {x : EvP} (hx : EvQ Q w dv fv x) (hd : x.defs.length ≤ 1000000) (hn : ∀ d ∈ x.defs, d.1.length ≤ 1000000000) : Calls Try.prog 5 #[evV x dv fv] w fun e w' => ∃ dv' fv', e = .returned (evV x dv' fv') ∧ EvNew w x dv' fv' w' := by
  have hshD := hx.data.shape
  have hshF := hx.defs.shape
  have hname := hx.name
  have hlong := hx.long
  obtain ⟨wa, hwa⟩ : ∃ wa, wa = (w.alloc (.cells (evC x dv fv) 25)).alloc (.cells #[.int .i64 0, .int .i64 0, .int .i64 0, .int .i64 0, .int .i64 0, .int .i64 0, .string ⟨#[]⟩, .slice none 0 0, .slice none 0 0] 25) := ⟨_, rfl⟩
  have ta : Turn (fun _ => False) w wa := by rw [hwa]; exact ((Turn.refl _ _).alloc _).alloc _
  have hA : At 25 wa w.heap.size (evC x dv fv) := by rw [hwa]; exact (At.new _ _ _).kept ((Turn.refl (fun _ => False) _).alloc _) (fun e => e)
  have hZ : At 25 wa (w.heap.size + 1) #[.int .i64 0, .int .i64 0, .int .i64 0, .int .i64 0, .int .i64 0, .int .i64 0, .string ⟨#[]⟩, .slice none 0 0, .slice none 0 0] := by
    rw [hwa]
    have := At.new 25 (w.alloc (.cells (evC x dv fv) 25)) #[.int .i64 0, .int .i64 0, .int .i64 0, .int .i64 0, .int .i64 0, .int .i64 0, .string ⟨#[]⟩, .slice none 0 0, .slice none 0 0]
    simpa using this
  have HX := hide hx
  have TA := hide ta
  have HZ := hide hZ
  have HXa := hide (hx.kept ta (fun _ _ h => h))
  have HW := hide hwa
  have HD := hide hd
  have HN := hide hn
  unfold evC at hA HW
  unfold evV
  obtain ⟨x0, hx0⟩ : ∃ x0, x0 = x := ⟨_, rfl⟩
  have HX0 := hide hx0
  clear hx hwa ta hZ hd hn hx0
  obtain ⟨xi, xv, xt, xk, xd, xn, xs, xb, xf⟩ := x
  simp only at *
  obtain ⟨do1, dc1, rfl⟩ := hshD
  obtain ⟨fo1, fc1, rfl, -⟩ := hshF
  obtain ⟨xbn, hxbn⟩ : ∃ n, n = xb.length := ⟨_, rfl⟩
  obtain ⟨len, hlen⟩ : ∃ n, n = xf.length := ⟨_, rfl⟩
  rw [← hxbn, ← hlen] at hA HW HXa HX ⊢
  have HL := hide (And.intro hxbn hlen)
  have HLg := hide hlong
  obtain ⟨c0, c1, c2, c3, c4, c5, c6, c7, c8⟩ := at_nine hA
  have z7 := hA.frozen 7
  have KB := hide (bclone_any _ xb wa (unhide HXa).data hlong)
  have HA := hide hA
  clear hxbn hlen hA
  go_enter Try.func5, Try.ntmps5
  go_upto_region 1 with fail
  rw [← unhide HW]
  go_upto_region 2 with (go_at_call 16; refine (unhide KB).mono ?_; rintro e w2 ⟨dv2, rfl, hm2⟩; have hA2 := (unhide HA).kept hm2.2.1 (fun e => e); have d7 : w2.cell? ⟨w.heap.size, 7, none⟩ = some (.slice do1 xbn dc1) := hA2.cell 7; have y7 := hA2.frozen 7; obtain ⟨o2, cp2, e2⟩ := hm2.1.shape; rw [← (unhide HL).1] at e2; subst e2)
  obtain ⟨w3, hw3⟩ : ∃ w3, w3 = w2.setCell ⟨w.heap.size, 7, none⟩ (.slice o2 xbn cp2) := ⟨_, rfl⟩
  rw [← hw3]
  have t3 : Turn (fun k => k = w.heap.size) w2 w3 := by rw [hw3]; exact (Turn.refl (fun k => k = w.heap.size) w2).setCell (p := ⟨w.heap.size, 7, none⟩) (.inl rfl) _
  have hA3 : At 25 w3 w.heap.size #[.int .i64 xi, .int .i64 xv, .int .i64 xt, .int .i64 xk, .int .i64 xd, .int .i64 xn, .string xs, .slice o2 xbn cp2, .slice fo1 len fc1] := by rw [hw3]; exact hA2.set 7 _
  have hZ3 := ((unhide HZ).kept hm2.2.1 (fun e => e)).kept t3 (fun (e : w.heap.size + 1 = w.heap.size) => by omega)
  have hzl := (unhide HZ).lt
  have ho3 := hm2.1.kept t3 (fun j hj (e : j = w.heap.size) => by have := hm2.2.2 j hj; omega)
  have hn3 : ∀ j, (Value.slice o2 xbn cp2).ownBlock = some j → w.heap.size + 1 < j ∧ j < w3.heap.size := fun j hj => ⟨by have := hm2.2.2 j hj; omega, ho3.lt hj⟩
  have tw3 : Turn (fun _ => False) w w3 := ((unhide TA).trans hm2.2.1).trans' t3 (fun i hi (e : i = w.heap.size) => by omega)
  have hdf := (unhide HX).defs.ltE.kept tw3 (fun _ _ h => h)
  have KD := hide (dclone_any hdf (unhide HD))
  have e8 : w3.cell? ⟨w.heap.size, 8, none⟩ = some (.slice fo1 len fc1) := hA3.cell 8
  have x8 := hA3.frozen 8
  have HA3 := hide hA3
  have HZ3 := hide hZ3
  have HO3 := hide (And.intro ho3 hn3)
  have T3 := hide tw3
  clear hw3 t3 hA3 hZ3 ho3 hn3 tw3 hdf hm2 hA2 d7 y7 c0 c1 c2 c3 c4 c5 c6 c7 c8 z7 KB HA HZ HXa TA HW
  go_upto_region 3 with (go_at_call 17; refine (unhide KD).mono ?_; rintro e w4 ⟨fv4, l, rfl, hr4, hl4, hi4, t4, hn4⟩; have hA4 := (unhide HA3).kept t4 (fun e => e); have d8 : w4.cell? ⟨w.heap.size, 8, none⟩ = some (.slice fo1 len fc1) := hA4.cell 8; have y8 := hA4.frozen 8; obtain ⟨o4, cp4, e4⟩ := hr4.shape; rw [List.length_map, show l.length = len by (rw [(unhide HL).2, ← hl4, List.length_map])] at e4; subst e4)
  obtain ⟨w5, hw5⟩ : ∃ w5, w5 = w4.setCell ⟨w.heap.size, 8, none⟩ (.slice o4 len cp4) := ⟨_, rfl⟩
  rw [← hw5]
  have hll : l.length = len := by rw [(unhide HL).2, ← hl4, List.length_map]
  have t5 : Turn (fun k => k = w.heap.size) w4 w5 := by rw [hw5]; exact (Turn.refl (fun k => k = w.heap.size) w4).setCell (p := ⟨w.heap.size, 8, none⟩) (.inl rfl) _
  have hcp : CpI w x0 (.slice o2 xbn cp2) (.slice o4 len cp4) [] l w5 := by
    have h3l := (unhide HZ3).lt
    have ht3 := (unhide T3).size
    refine ⟨((unhide T3).trans t4).trans' t5 (fun i hi (e : i = w.heap.size) => by omega), ?_, ?_, fun j hj => by have := hn4 j hj; omega, ?_, by simp, fun p hp => ?_, ?_, fun j hj => ?_, ?_⟩
    · rw [unhide HX0, hw5]
      exact hA4.set 8 _
    · exact hr4.kept t5 (fun j hj (e : j = w.heap.size) => by have := hn4 j hj; omega)
    · rw [unhide HX0]
      exact hl4
    · exact ((hi4 p hp).kept t4 (fun _ _ h => h)).kept t5 (fun j hj (e : j = w.heap.size) => by have hj : j < w.heap.size := hj; omega)
    · rw [unhide HX0]
      exact ((unhide HO3).1.kept t4 (fun _ _ h => h)).kept t5 (fun j hj (e : j = w.heap.size) => by have := ((unhide HO3).2 j hj).1; omega)
    · have h1 := (unhide HO3).2 j hj
      exact ⟨h1.1, fun e => by have := hn4 j e; omega⟩
    · exact ((unhide HZ3).kept t4 (fun e => e)).kept t5 (fun (e : w.heap.size + 1 = w.heap.size) => by omega)
  have HC := hide (show ∃ l1 l2, CpI w x0 (.slice o2 xbn cp2) (.slice o4 len cp4) l1 l2 w5 ∧ l1.length = 0 from ⟨[], l, hcp, rfl⟩)
  have e8 : w5.cell? ⟨w.heap.size, 8, none⟩ = some (.slice o4 len cp4) := hcp.at'.cell 8
  clear hw5 t5 hcp hr4 hl4 hi4 t4 hn4 hA4 d8 y8 KD HA3 HZ3 HO3 T3 hll
  have hlen6 : len ≤ 1000000 := by have := unhide HD; have := (unhide HL).2; omega
  go_wp2_with fail
  go_loopw [3, 15] (fun _ i wr => ∃ n : Nat, i = .int .i64 n ∧ n ≤ len ∧ ∃ l1 l2, CpI w x0 (.slice o2 xbn cp2) (.slice o4 len cp4) l1 l2 wr ∧ l1.length = n) (fun _ i _ => len - (intOf i).toNat)
  case atStart => exact ⟨0, rfl, by omega, unhide HC⟩
  case round =>
    obtain ⟨n, rfl, hn, l1, l2, hti, hl1⟩ := hrel
    have htot : l1.length + l2.length = len := by
      have h1 := congrArg List.length hti.all
      rw [List.length_map, List.length_append] at h1
      rw [h1, unhide HX0, (unhide HL).2]
    by_cases hlt : n < len
    · have q4 : (n : Int) < len := by omega
      obtain ⟨p, l3, rfl⟩ : ∃ p l3, l2 = p :: l3 := by
        cases l2 with
        | nil => simp at htot; omega
        | cons p l3 => exact ⟨p, l3, rfl⟩
      obtain ⟨g, rfl⟩ : ∃ g, o4 = some ⟨g, 0, none⟩ := by
        rcases hti.rows.cells with ⟨e, e2⟩ | ⟨g, cap, e, _⟩
        · have := congrArg List.length e2
          rw [List.length_map, List.length_append, List.length_cons] at this
          simp at this
        · injection e with e
          exact ⟨g, e⟩
      have hpn : p.2.1.length ≤ 1000000000 := by
        have hm : p.2 ∈ x0.defs := by rw [← hti.all]; simp
        have := unhide HX0
        rw [this] at hm
        exact unhide HN _ hm
      have td : Turn (fun _ => False) wr wr.drew := (Turn.refl _ wr).drew
      have KC := hide (nclone_any ((hti.ints2 p (List.mem_cons_self ..)).kept td (fun _ _ h => h)) hpn)
      have a0 : wr.cell? ⟨g, 0 + l1.length * 3 + 0, none⟩ = some p.1 := hti.rows.cellAt l1.length 0 (by simp) _ (by simp [row3])
      obtain ⟨no, nc, hpv, -⟩ := (hti.ints2 p (List.mem_cons_self ..)).shape
      rw [Nat.add_zero, Nat.zero_add, hl1] at a0
      have b8 : wr.cell? ⟨w.heap.size, 8, none⟩ = some (.slice (some ⟨g, 0, none⟩) len cp4) := hti.at'.cell 8
      have fz := hti.rows.frozen (l1.length * 3)
      rw [hl1] at fz
      have hgl : g < wr.heap.size := hti.rows.lt rfl
      have HTI := hide hti
      have HL1 := hide hl1
      have HP := hide hpv
      rw [hpv] at a0 KC
      generalize p.2.1.length = pn at *
      clear hti hl1 htot td e8 hpv
      go_wp2_with fail
      go_region_with (first
        | (go_at_call 18; refine (unhide KC).mono ?_; rintro e w6 ⟨v6, rfl, ho6, t6, hn6⟩; obtain ⟨no6, nc6, e6⟩ := ints_shape ho6 rfl; obtain ⟨k8, kc, kf, k8s, hfin⟩ := cp_more (unhide HTI) (unhide HL1) ho6 (((Turn.refl _ wr).drew).trans t6) (fun j hj => hn6 j hj); have HFin := hide hfin; generalize p.2.1.length = pn6 at e6; clear hfin ho6 hn6 t6; rw [unhide HP] at kc; subst e6))
      all_goals (
        go_wp2_with fail
        go_roundw
        case rel => exact ⟨n + 1, by go_num, by omega, _, l3, unhide HFin, by rw [List.length_append, unhide HL1]; rfl⟩
        case measure => simp [intOf]; omega)
    · obtain rfl : n = len := by omega
      have q4 : ¬ (n : Int) < n := by omega
      have hl2 : l2 = [] := List.eq_nil_of_length_eq_zero (by omega)
      subst hl2
      have hAt : At 25 wr w.heap.size #[.int .i64 xi, .int .i64 xv, .int .i64 xt, .int .i64 xk, .int .i64 xd, .int .i64 xn, .string xs, .slice o2 xbn cp2, .slice o4 n cp4] := by
        have h := hti.at'
        rw [unhide HX0] at h
        exact h
      obtain ⟨c0, c1, c2, c3, c4, c5, c6, c7, c8⟩ := at_nine hAt
      obtain ⟨g0, g1, g2, g3, g4, g5, g6, g7, g8⟩ := at_nine hti.zero
      have z0 := hti.zero.frozen 0
      have z1 := hti.zero.frozen 1
      have z2 := hti.zero.frozen 2
      have z3 := hti.zero.frozen 3
      have z4 := hti.zero.frozen 4
      have z5 := hti.zero.frozen 5
      have z6 := hti.zero.frozen 6
      have z7 := hti.zero.frozen 7
      have z8 := hti.zero.frozen 8
      have HTI := hide hti
      clear hti htot hAt HC e8
      go_wp2
      have hti := unhide HTI
      have a5 := hti.zero
      refine bodyPost_ret (results_cell_row rfl _ _ (w.heap.size + 1) 25 _ (0, 0) _ rfl ((((((((((a5).set 0 _).set 1 _).set 2 _).set 3 _).set 4 _).set 5 _).set 6 _).set 7 _).set 8 _) Try.underlying25 rfl (by kernel_rfl)) rfl ?_
      suffices h : ∀ wf, Turn (fun i => i = w.heap.size + 1) wr wf → EvNew w ⟨xi, xv, xt, xk, xd, xn, xs, xb, xf⟩ (.slice o2 xbn cp2) (.slice o4 n cp4) wf by
        refine ⟨.slice o2 xbn cp2, .slice o4 n cp4, ?_, ?_⟩
        · rfl
        · exact h _ (turn_set9 wr (w.heap.size + 1) _ _ _ _ _ _ _ _ _)
      intro wf tset
      refine ⟨hti.turn.trans' tset (fun i hi (e : i = w.heap.size + 1) => by omega), ?_, fun j hj => ⟨by have := (hti.dnew j hj).1; omega, (hti.dnew j hj).2⟩, ⟨l1, ⟨?_, fun p hp => ?_⟩, ?_⟩, fun j hj => by have := hti.new j hj; omega, hname, hlong⟩
      · have h := hti.data.kept tset (fun j hj (e : j = w.heap.size + 1) => by have := (hti.dnew j hj).1; omega)
        rw [unhide HX0] at h
        exact h
      · have h := hti.rows.kept tset (fun j hj (e : j = w.heap.size + 1) => by have := hti.new j hj; omega)
        rw [List.append_nil] at h
        exact h
      · have h := (hti.ints1 p hp).kept tset (fun j hj (e : j = w.heap.size + 1) => by have := hj.1; omega)
        exact h.mono (fun j hj => ⟨by have := hj.1; omega, hj.2⟩)
      · have h := hti.all
        rw [List.append_nil, unhide HX0] at h
        exact h

end

end Go.Proofs.Ythclffafbkeepaa
