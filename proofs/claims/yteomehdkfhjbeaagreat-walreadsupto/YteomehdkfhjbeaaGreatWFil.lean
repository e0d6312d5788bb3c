/- Are the disk's files the reference's: the law's own function files. -/
import Derived.Test.YteomehdkfhjbeaaGreatPkJ
import Derived.Test.YteomehdkfhjbeaaGreatPkC
import Derived.Test.YteomehdkfhjbeaaGreatPkG
import Derived.Deep.RegionHeld
import Derived.Deep.CutRange
import Derived.Deep.DeepMust
namespace Go.Proofs.YteomehdkfhjbeaaGreat
open Go.RowKit

/-- A Disk and the reference's, side by side. -/
structure Two6 (w : World) (K : Nat → Prop) (wr : World) (b : Nat) (Q : Nat → Prop) (rb N : Nat) (s : DSt) (r : RSt) : Prop where
  dl : DL w K wr b N s
  rd : RDk Q wr rb r
  qk : ∀ j, Q j → K j
  rk : K rb
  same : PSam6 N s r

section
variable {w : World} {K Q : Nat → Prop} {wr w1 : World} {b rb N : Nat} {s : DSt} {r : RSt}

theorem Two6.new (h : Two6 w K wr b Q rb N s r) (t : Turn (fun _ => False) wr w1) : Two6 w (grow K wr w1) w1 b Q rb N s r :=
  ⟨h.dl.new t, h.rd.keeps t (fun _ _ e => e) (fun e => e), fun j hj => .inl (h.qk j hj), .inl h.rk, h.same⟩

theorem seesI_cell {w : World} {g n c j : Nat} {l : List Int} {x : Int} (h : OwnsC 3 w (.slice (some ⟨g, 0, none⟩) n c) (i64s l)) (hx : l[j]? = some x) : w.cell? ⟨g, j, none⟩ = some (.int .i64 x) := by
  rcases h.sees with ⟨h0, _⟩ | ⟨a, cap, e, _, _, hc⟩
  · simp at h0
  · simp only [Value.slice.injEq, Option.some.injEq] at e
    have := hc j (.int .i64 x) (by rw [i64s, List.getElem?_map, hx]; rfl)
    rwa [← e.1, addr_lit, Nat.zero_add] at this

set_option maxHeartbeats 4000000 in
set_option maxRecDepth 100000 in
theorem files6_any (h : Two6 w K wr b Q rb N s r) (hN : N ≤ 60) :
    Calls Tryz.prog 21 #[.pointer (some ⟨b, 0, none⟩), .pointer (some ⟨rb, 0, none⟩)] wr fun e w' => e = .returned (.bool true) ∧ Turn (fun _ => False) wr w' := by
  have qT : ∀ (w : World) {v : Value} {bs : List UInt8}, Sees w v bs → (convert 29 9 v).run Tryz.prog w = .ok (.string ⟨bs.toArray⟩) w := fun w _ _ h => run_text_of_sees w _ _ Tryz.underlying29 Tryz.underlying5 Tryz.underlying9 h
  have QT := hide qT
  clear qT
  have hsz : ∀ k, (s.now k).length ≤ 140737488355328 := fun k => by
    have := h.same.size s.ops.length k
    rw [List.take_length] at this
    exact Nat.le_trans this (Nat.le_trans (Nat.mul_le_mul_right 2097152 hN) (by decide))
  have Hcf := hide (dl_files h.dl (by omega))
  have H := hide h
  have Hsz := hide hsz
  clear h hsz
  go_enter Tryz.func21, Tryz.ntmps21
  go_wp2_with fail
  refine (unhide Hcf).mono ?_
  rintro e w7 ⟨fv, fl, rfl, hmf, hnf, hlf, _⟩
  have h7 := (unhide H).new hmf.2.1
  have hcg := rfiles_any h7.rd (h7.same.fit (by omega))
  obtain ⟨fo, fc, hfv⟩ := hmf.shape
  subst hfv
  have H7 := hide (And.intro h7 hmf)
  have Hcg := hide hcg
  clear hcg h7 Hcf hmf
  go_wp2_with fail
  refine (unhide Hcg).mono ?_
  rintro e w8 ⟨gv, gl, rfl, hmg, hng, _⟩
  obtain ⟨h7, hmf⟩ := unhide H7
  have hgl : gl = fl := rise_same hng.1 hnf.1 (fun k => by rw [hng.2 k, hnf.2 k, h7.same.read])
  subst hgl
  have h8 := h7.new hmg.2.1
  have t8 := hmf.2.1.trans hmg.2.1
  obtain ⟨go, gc, hgv⟩ := hmg.shape
  subst hgv
  have cd : ∀ n, Calls Tryz.prog 38 #[.pointer (some ⟨b, 0, none⟩)] (w8.drewN n) fun e w' => e = .returned (.bool s.dead) ∧ w' = w8.drewN n := fun n => (dl_dead (h8.dl.new (turn_drewN6 w8 n))).mono fun _ _ h => ⟨h.1, h.2.symm⟩
  have cw : ∀ n, Calls Tryz.prog 43 #[.pointer (some ⟨b, 0, none⟩)] (w8.drewN n) fun e w' => e = .returned (.int .i64 s.works) ∧ w' = w8.drewN n := fun n => (dl_works (h8.dl.new (turn_drewN6 w8 n))).mono fun _ _ h => ⟨h.1, h.2.symm⟩
  have d3 : w8.cell? ⟨rb, 3, none⟩ = some (.bool s.dead) := by
    obtain ⟨kv, pv, kl, pl, hrd⟩ := h8.rd
    rw [hrd.head.cell 3, h8.same.dead]; rfl
  have d4 : w8.cell? ⟨rb, 4, none⟩ = some (.int .i64 s.works) := by
    obtain ⟨kv, pv, kl, pl, hrd⟩ := h8.rd
    rw [hrd.head.cell 4, h8.same.works]; rfl
  have H8 := hide (And.intro h8 (And.intro (hmf.1.kept hmg.2.1 (fun _ _ e => e)) (And.intro hmg.1 t8)))
  have Hcd := hide cd
  have Hcw := hide cw
  clear cd cw h8 t8 hmf hmg hng h7 H7 Hcg hnf
  generalize s.dead = dd at *
  generalize s.works = ww at *
  have z1 : ((gl.length : Int) != (gl.length : Int)) = false := by simp
  have z2 : (dd != dd) = false := by simp
  have z3 : ((ww : Int) != (ww : Int)) = false := by simp
  go_wp2_with fail
  go_quiet ((first
    | (go_at_call 38; exact Calls.quiet_of_same (unhide Hcd _))
    | (go_at_call 43; exact Calls.quiet_of_same (unhide Hcw _))))
  have h9 := (unhide H8).1.new (turn_drewN6 w8 nq)
  have t9 := (unhide H8).2.2.2.trans (turn_drewN6 w8 nq)
  have hf9 := (unhide H8).2.1.kept (turn_drewN6 w8 nq) (fun _ _ e => e)
  have hg9 := (unhide H8).2.2.1.kept (turn_drewN6 w8 nq) (fun _ _ e => e)
  generalize grow _ w8 (w8.drewN nq) = K9 at h9
  generalize w8.drewN nq = w9 at *
  have H9 := hide (And.intro h9 (And.intro t9 (And.intro hf9 hg9)))
  clear h9 t9 hf9 hg9 H8 d3 d4 Hcd Hcw z1 z2 z3
  go_wp2_with fail
  go_loopw [7] (fun i wx => ∃ m : Nat, i = .int .i64 m ∧ m ≤ gl.length ∧ Turn (fun _ => False) w9 wx) (fun i _ => gl.length - (intOf i).toNat)
  case atStart => exact ⟨0, rfl, by omega, Turn.refl _ _⟩
  case round =>
    obtain ⟨m, rfl, hml, tx⟩ := hrel
    by_cases hlt : m < gl.length
    · obtain ⟨y, hy⟩ : ∃ y, gl[m]? = some y := ⟨_, List.getElem?_eq_getElem hlt⟩
      obtain ⟨g1, hg1⟩ : ∃ g, fo = some ⟨g, 0, none⟩ := by
        rcases (unhide H9).2.2.1.shape with ⟨h0, _⟩ | ⟨g, cap, h0, _⟩
        · injection h0 with _ e2; omega
        · injection h0 with e1; exact ⟨g, e1⟩
      obtain ⟨g2, hg2⟩ : ∃ g, go = some ⟨g, 0, none⟩ := by
        rcases (unhide H9).2.2.2.shape with ⟨h0, _⟩ | ⟨g, cap, h0, _⟩
        · injection h0 with _ e2; omega
        · injection h0 with e1; exact ⟨g, e1⟩
      subst hg1 hg2
      have x1 := seesI_cell ((unhide H9).2.2.1.kept tx (fun _ _ e => e)) hy
      have x2 := seesI_cell ((unhide H9).2.2.2.kept tx (fun _ _ e => e)) hy
      have x3 : (y != y) = false := by simp
      have x4 : (m : Int) < gl.length := by omega
      have td : Turn (fun _ => False) w9 wr.drew := tx.drew
      have h10 := (unhide H9).1.new td
      have HR1 := hide (dl_read y h10.dl (by omega) (unhide Hsz y))
      have hread := h10.same.read y
      have HR2 : Hid (∀ w2, Turn (fun _ => False) wr.drew w2 → Calls Tryz.prog 64 #[.pointer (some ⟨rb, 0, none⟩), .int .i64 y] w2 fun e w' => ∃ v, e = .returned v ∧ Sees w' v (s.read y) ∧ Turn (fun _ => False) w2 w') := hide (fun w2 t2 => (rread_any y (h10.new t2).rd (h10.same.fit (by omega))).mono (fun e w' ⟨v, e1, e2, _, e4⟩ => ⟨v, e1, by rw [← hread]; exact e2, e4⟩))
      clear hy h10 td hread
      generalize s.read y = bs at *
      go_wp2_with fail
      go_region_held (fun w' => w'.cell? ⟨g1, m, none⟩ = some (.int .i64 y) ∧ w'.cell? ⟨g2, m, none⟩ = some (.int .i64 y)) (first | go_keep | exact ⟨k1, k2⟩ | exact ⟨j1, j2⟩)
        (first
        | (go_at_call 59; refine (unhide HR1).mono ?_; rintro e w10 ⟨v10, rfl, hm10, _⟩; have k1 := (hm10.2.1.cell (p := ⟨g1, m, none⟩) (World.block_lt_of_cell? wr _ x1) (fun e => e)).trans x1; have k2 := (hm10.2.1.cell (p := ⟨g2, m, none⟩) (World.block_lt_of_cell? wr _ x2) (fun e => e)).trans x2; have cv10 := unhide QT _ hm10.1.sees; obtain ⟨o10, c10, e10⟩ := hm10.1.shape; subst e10; have Hm10 := hide hm10; clear hm10)
        | (go_at_call 64; refine (unhide HR2 w10 (unhide Hm10).2.1).mono ?_; rintro e w11 ⟨v11, rfl, hs11, t11⟩; have j1 := (t11.cell (p := ⟨g1, m, none⟩) (World.block_lt_of_cell? w10 _ k1) (fun e => e)).trans k1; have j2 := (t11.cell (p := ⟨g2, m, none⟩) (World.block_lt_of_cell? w10 _ k2) (fun e => e)).trans k2; have cw11 := unhide QT _ ((unhide Hm10).1.sees.kept t11 (fun _ _ e => e)); have cv11 := unhide QT _ hs11; obtain ⟨o11, c11, e11⟩ := hs11.shape; subst e11; have T11 := hide t11; clear t11 hs11))
      all_goals (
        have hfin : Turn (fun _ => False) w9 w11 := ((tx.drew).trans (unhide Hm10).2.1).trans (unhide T11)
        have Hfin := hide hfin
        clear hfin
        go_wp2_with fail
        go_roundw
        case rel => exact ⟨m + 1, by go_num, by omega, unhide Hfin⟩
        case measure => simp [intOf]; omega)
    · obtain rfl : m = gl.length := by omega
      have x1 : ¬ (gl.length : Int) < gl.length := by omega
      have hfin := (unhide H9).2.1.trans tx
      go_wp2
      go_ret
      exact ⟨rfl, hfin⟩

end

end Go.Proofs.YteomehdkfhjbeaaGreat
