/- Whatever is added and raised, each counter is as a plain number would be: the law's walk. -/
import Derived.Test.YtdfamclggeaejaaMKnown
import Derived.Test.YtdfamclggeaejaaHand
import Derived.ChangeKeysEq
import Derived.Deep.RegionWith
import Derived.Deep.DeepMust
import Derived.Deep.CutRange
import Derived.BigQuiet
import Derived.Deep.QuietTactic
namespace Go.Proofs.Ytdfamclggeaejaa
open Go.RowKit

/-- One raw call. -/
structure StepM where
  up : Bool
  kind : Int
  n : Int

/-- A slice of raw calls, in a world W; all of it below block B. -/
structure CallsAt (W : World) (B : Nat) (ab off cap : Nat) (xs : List StepM) : Prop where
  le : xs.length ≤ cap
  lt : 0 < xs.length → ab < B
  c0 : ∀ k (hk : k < xs.length), W.cell? ⟨ab, off + k * 3, none⟩ = some (.bool xs[k].up)
  c1 : ∀ k (hk : k < xs.length), W.cell? ⟨ab, off + k * 3 + 1, none⟩ = some (.int .i64 xs[k].kind)
  c2 : ∀ k (hk : k < xs.length), W.cell? ⟨ab, off + k * 3 + 2, none⟩ = some (.int .i64 xs[k].n)

theorem CallsAt.kept {S : Nat → Prop} {W w : World} {B ab off cap : Nat} {xs : List StepM} (h : CallsAt W B ab off cap xs) (ht : Turn S W w) (hB : B ≤ W.heap.size) (hS : ∀ k, k < B → ¬ S k) : CallsAt w B ab off cap xs where
  le := h.le
  lt := h.lt
  c0 k hk := (ht.cell (p := ⟨ab, off + k * 3, none⟩) (Nat.lt_of_lt_of_le (h.lt (by omega)) hB) (hS _ (h.lt (by omega)))).trans (h.c0 k hk)
  c1 k hk := (ht.cell (p := ⟨ab, off + k * 3 + 1, none⟩) (Nat.lt_of_lt_of_le (h.lt (by omega)) hB) (hS _ (h.lt (by omega)))).trans (h.c1 k hk)
  c2 k hk := (ht.cell (p := ⟨ab, off + k * 3 + 2, none⟩) (Nat.lt_of_lt_of_le (h.lt (by omega)) hB) (hS _ (h.lt (by omega)))).trans (h.c2 k hk)

theorem run_equalIn_five (d : Nat) (g : Nat → Int) (w : World) : (Op.equalIn (d + 2) 32 (.agg (acells g)) (.agg (acells g))).run Try.prog w = .ok true w := by
  obtain ⟨i, hi⟩ := info_of_underlying Try.underlying3
  have hc : Try.prog.cellsOf 3 = 1 := by kernel_rfl
  have hp : ∀ (j : Nat), j < 5 → ∀ w, (Go.part 3 (acells g) j).run Try.prog w = .ok (.int .i64 (g j)) w := by
    intro j hj w
    have := acells_at g j hj
    simp [Go.part, isAgg, run_underlying Try.underlying3, this, Sem.run_bind]
  rw [run_equalIn_array w (d + 1) _ _ Try.underlying32 hi, hc]
  simp [List.range, List.range.loop, Op.eqItems, Sem.run_bind, hp 0 (by omega), hp 1 (by omega), hp 2 (by omega), hp 3 (by omega), hp 4 (by omega), run_equalIn_int w d 3 .i64 .i64 _ _ Try.underlying3]

theorem run_neq_five (g : Nat → Int) (w : World) : (binOp .neq 32 (.agg (acells g)) (.agg (acells g))).run Try.prog w = .ok (.bool false) w := by
  rw [run_neq_struct, show (10000 : Nat) = 9998 + 2 from rfl, run_equalIn_five 9998 g w]
  rfl

/-- A meter, the plain numbers beside it, and what else is so. -/
structure Beside (w wr : World) (m p : Nat) (g : Nat → Int) : Prop where
  m : Met wr m g 0 0 0
  p : At 32 wr p (acells g)
  turn : Turn (fun _ => False) w wr

theorem Beside.drewN {w wr : World} {m p : Nat} {g : Nat → Int} (h : Beside w wr m p g) (n : Nat) : Beside w (wr.drewN n) m p g := ⟨h.m, h.p, ⟨h.turn.os, h.turn.tape, h.turn.output, h.turn.size, h.turn.block⟩⟩

theorem Beside.turned {w wr w6 : World} {m p j : Nat} {g : Nat → Int} {x : Int} (h : Beside w wr m p g) (hd : w.heap.size = m ∧ m < p) (hj : j < 5) (h6 : Met w6 m (upd g j x) 0 0 0) (t6 : Turn (fun k => k = m) wr w6) :
    Beside w (w6.setCell ⟨p, j, none⟩ (.int .i64 x)) m p (upd g j x) := by
  have t7 : Turn (fun k => k = p) w6 (w6.setCell ⟨p, j, none⟩ (.int .i64 x)) := Turn.here j _
  refine ⟨h6.kept t7 (by omega), ?_, (h.turn.trans' t6 (fun i hi e => by omega)).trans' t7 (fun i hi e => by omega)⟩
  have := (h.p.kept t6 (by omega)).set j (.int .i64 x)
  rw [acells_set g x j hj] at this
  exact this

set_option maxHeartbeats 8000000 in
set_option maxRecDepth 100000 in
theorem meterPlays_some (ab off cap : Nat) (xs : List StepM) (w : World) (hlen : xs.length ≤ maxLen) (hL : CallsAt w w.heap.size ab off cap xs) :
    Calls Try.prog 5 #[.slice (some ⟨ab, off, none⟩) xs.length cap] w fun e w' => e = .returned (.bool true) ∧ Turn (fun _ => False) w w' := by
  have hnot : ∀ (x : Bool) (w : World), (Op.unary .not (.bool x)).run Try.prog w = .ok (.bool (!x)) w := fun _ _ => rfl
  unfold maxLen at hlen
  go_enter Try.func5, Try.ntmps5
  go_wp2_with fail
  refine (mnew_any w).mono ?_
  rintro e w1 ⟨rfl, e1⟩
  have t1 : Turn (fun _ => False) w w1 := e1 ▸ (Turn.refl _ _).alloc _
  have h1 : Met w1 w.heap.size (fun _ => 0) 0 0 0 := e1 ▸ met_new w
  clear e1
  go_wp2_with fail
  refine (mknown_any _).mono ?_
  rintro e w3 ⟨rfl, ht3⟩
  have t3 : Turn (fun _ => False) w w3 := t1.trans ht3
  have h30 := h1.kept ht3 (fun h => h)
  have hop := h30.lt
  clear ht3 t1 h1
  have tt : Turn (fun _ => False) w3 (w3.alloc (.cells (acells fun _ => 0) 32)) := (Turn.refl _ _).alloc _
  have hB : Beside w (w3.alloc (.cells (acells fun _ => 0) 32)) w.heap.size w3.heap.size (fun _ => 0) := ⟨h30.kept tt (fun h => h), At.new _ _ _, t3.trans tt⟩
  have hB := hide hB
  clear tt h30 t3
  go_wp2_with fail
  have hB : Beside w (w3.alloc (.cells #[.int .i64 0, .int .i64 0, .int .i64 0, .int .i64 0, .int .i64 0] 32)) w.heap.size w3.heap.size (fun _ => 0) := unhide hB
  generalize w3.alloc (.cells #[.int .i64 0, .int .i64 0, .int .i64 0, .int .i64 0, .int .i64 0] 32) = w4 at *
  generalize w3.heap.size = p at *
  obtain ⟨m, hm⟩ : ∃ m, m = w.heap.size := ⟨_, rfl⟩
  rw [← hm] at hB hop ⊢
  have HD : Hid (w.heap.size = m ∧ m < p) := ⟨hm.symm, hop⟩
  clear hm hop
  go_loopw [2, 5, 6, 7, 8] (fun _ i _ _ _ wr => ∃ (k : Nat) (g : Nat → Int), k ≤ xs.length ∧ k ≤ 80 ∧ i = .int .i64 k ∧ Beside w wr m p g) (fun _ i _ _ _ _ => (80 - intOf i).toNat)
  case atStart => exact ⟨0, _, by omega, by omega, rfl, hB⟩
  case round =>
    obtain ⟨k, g, hk, hk80, rfl, hr⟩ := hrel
    clear hB
    by_cases hlt : k < xs.length ∧ k < 80
    · obtain ⟨hlt, hlt80⟩ := hlt
      have q1 : (k : Int) < xs.length := by omega
      have q2 : (k : Int) < 80 := by omega
      have Hab : Hid (ab < w.heap.size) := hL.lt (by omega)
      have hLr := hL.kept hr.turn (Nat.le_refl _) (fun _ _ h => h)
      have c0 := hLr.c0 k hlt
      have c1 := hLr.c1 k hlt
      have c2 := hLr.c2 k hlt
      clear hLr
      generalize xs[k] = x at *
      obtain ⟨up, kind, n⟩ := x
      simp only at c0 c1 c2
      go_wp2_with fail
      refine (pick_any kind 7 _ (by omega) (by omega)).mono ?_
      rintro e w5 ⟨rfl, rfl⟩
      have hk0 := Int.emod_nonneg kind (show (7 : Int) ≠ 0 by omega)
      have hk7 := Int.emod_lt_of_pos kind (show (0 : Int) < 7 by omega)
      generalize kind % 7 = kk at *
      by_cases hin : 1 ≤ kk ∧ kk ≤ 5
      · obtain ⟨j, rfl⟩ : ∃ j : Nat, kk = (j : Int) + 1 := ⟨(kk - 1).toNat, by omega⟩
        have hj : j < 5 := by omega
        have hj' : (j : Int) < 5 := by omega
        clear hin hk0 hk7
        have w0 := hr.p.cell j
        rw [acells_at g j hj] at w0
        cases up with
        | true =>
          by_cases hup : g j < n
          · go_wp2_with fail
            go_quiet ((fail))
            have hq := hr.drewN nq
            have d2 : (wr.drewN nq).cell? ⟨ab, off + k * 3 + 2, none⟩ = some (.int .i64 n) := c2
            have d0 := hq.p.cell j
            rw [acells_at g j hj] at d0
            have z0 := hq.p.frozen j
            clear hr c0 c1 c2 w0
            generalize wr.drewN nq = wq at *

            go_wp2_with fail
            refine (raise_up m j hj n g hup 0 0 0 _ hq.m).mono ?_
            rintro e w6 ⟨rfl, hm6, t6⟩
            have HD' := unhide HD
            have d2' : w6.cell? ⟨ab, off + k * 3 + 2, none⟩ = some (.int .i64 n) := (t6.cell (p := ⟨ab, off + k * 3 + 2, none⟩) (World.block_lt_of_cell? _ _ d2) (by have := unhide Hab; simp only; omega)).trans d2
            have hp6 := hq.p.kept t6 (by omega)
            have d0' := hp6.cell j
            rw [acells_at g j hj] at d0'
            have z0' := hp6.frozen j
            have hT := hq.turned HD' hj hm6 t6
            clear hp6 hm6 t6 hq d0 z0 d2 HD'
            go_upto_region 20 with fail
            generalize w6.setCell ⟨p, j, none⟩ (.int .i64 n) = wT at *
            generalize upd g j n = gT at *
            clear d0' z0' d2'

            have a0 : wT.drew.cell? ⟨p, 0, none⟩ = some (.int .i64 (gT 0)) := hT.p.cell 0
            have a1 : wT.drew.cell? ⟨p, 1, none⟩ = some (.int .i64 (gT 1)) := hT.p.cell 1
            have a2 : wT.drew.cell? ⟨p, 2, none⟩ = some (.int .i64 (gT 2)) := hT.p.cell 2
            have a3 : wT.drew.cell? ⟨p, 3, none⟩ = some (.int .i64 (gT 3)) := hT.p.cell 3
            have a4 : wT.drew.cell? ⟨p, 4, none⟩ = some (.int .i64 (gT 4)) := hT.p.cell 4
            have hne := run_neq_five gT
            unfold acells at hne
            have hTd : Beside w wT.drew m p gT := hT.drewN 1
            go_wp2_with fail
            go_region_with (go_at_call 18; go_must (refine (all_any m gT 0 0 0 _ hTd.m).mono ?_; rintro e w8 ⟨rfl, t8⟩; have h8 : Beside w w8 m p gT := ⟨hTd.m.kept t8 (fun h => h), hTd.p.kept t8 (fun h => h), hTd.turn.trans t8⟩; have b0 : w8.cell? ⟨p, 0, none⟩ = some (.int .i64 (gT 0)) := h8.p.cell 0; have b1 : w8.cell? ⟨p, 1, none⟩ = some (.int .i64 (gT 1)) := h8.p.cell 1; have b2 : w8.cell? ⟨p, 2, none⟩ = some (.int .i64 (gT 2)) := h8.p.cell 2; have b3 : w8.cell? ⟨p, 3, none⟩ = some (.int .i64 (gT 3)) := h8.p.cell 3; have b4 : w8.cell? ⟨p, 4, none⟩ = some (.int .i64 (gT 4)) := h8.p.cell 4; try unfold acells))

            all_goals (
              have v0 := h8.p.cell j
              rw [acells_at gT j hj] at v0
              have hv : ∀ n, Calls Try.prog 15 #[.pointer (some ⟨m, 0, none⟩), .int .i64 j] (w8.drewN n) fun e w' => e = .returned (.int .i64 (gT j)) ∧ w' = w8.drewN n := fun n => (value_in m j hj gT 0 0 0 _ (h8.drewN n).m).mono fun _ _ h => ⟨h.1, h.2.symm⟩
              have hv := hide hv
              have H8 : ∀ n, Beside w (w8.drewN n) m p gT := fun n => h8.drewN n
              have H8 := hide H8
              have e0 : (gT j != gT j) = false := bne_self_eq_false _
              clear h8 hTd hT b0 b1 b2 b3 b4 a0 a1 a2 a3 a4 hne
              generalize gT j = vj at *
              go_wp2_with fail
              go_simp
              go_quiet ((go_at_call 15; exact Calls.quiet_of_same (unhide hv _)))
              go_wp2
              go_roundw
              case rel => exact ⟨k + 1, _, by omega, by omega, by go_num, unhide H8 _⟩
              case measure => simp [intOf]; omega)
          · go_wp2_with fail
            go_quiet ((fail))
            have hq := hr.drewN nq
            have d2 : (wr.drewN nq).cell? ⟨ab, off + k * 3 + 2, none⟩ = some (.int .i64 n) := c2
            have d0 := hq.p.cell j
            rw [acells_at g j hj] at d0
            have z0 := hq.p.frozen j
            clear hr c0 c1 c2 w0
            generalize wr.drewN nq = wq at *

            go_wp2_with fail
            refine (raise_not m j hj n g (by omega) 0 0 0 _ hq.m).mono ?_
            rintro e w6 ⟨rfl, rfl⟩
            have hT := hq
            clear hq
            go_upto_region 20 with fail
            generalize wq = wT at *
            generalize g = gT at *

            have a0 : wT.drew.cell? ⟨p, 0, none⟩ = some (.int .i64 (gT 0)) := hT.p.cell 0
            have a1 : wT.drew.cell? ⟨p, 1, none⟩ = some (.int .i64 (gT 1)) := hT.p.cell 1
            have a2 : wT.drew.cell? ⟨p, 2, none⟩ = some (.int .i64 (gT 2)) := hT.p.cell 2
            have a3 : wT.drew.cell? ⟨p, 3, none⟩ = some (.int .i64 (gT 3)) := hT.p.cell 3
            have a4 : wT.drew.cell? ⟨p, 4, none⟩ = some (.int .i64 (gT 4)) := hT.p.cell 4
            have hne := run_neq_five gT
            unfold acells at hne
            have hTd : Beside w wT.drew m p gT := hT.drewN 1
            go_wp2_with fail
            go_region_with (go_at_call 18; go_must (refine (all_any m gT 0 0 0 _ hTd.m).mono ?_; rintro e w8 ⟨rfl, t8⟩; have h8 : Beside w w8 m p gT := ⟨hTd.m.kept t8 (fun h => h), hTd.p.kept t8 (fun h => h), hTd.turn.trans t8⟩; have b0 : w8.cell? ⟨p, 0, none⟩ = some (.int .i64 (gT 0)) := h8.p.cell 0; have b1 : w8.cell? ⟨p, 1, none⟩ = some (.int .i64 (gT 1)) := h8.p.cell 1; have b2 : w8.cell? ⟨p, 2, none⟩ = some (.int .i64 (gT 2)) := h8.p.cell 2; have b3 : w8.cell? ⟨p, 3, none⟩ = some (.int .i64 (gT 3)) := h8.p.cell 3; have b4 : w8.cell? ⟨p, 4, none⟩ = some (.int .i64 (gT 4)) := h8.p.cell 4; try unfold acells))

            all_goals (
              have v0 := h8.p.cell j
              rw [acells_at gT j hj] at v0
              have hv : ∀ n, Calls Try.prog 15 #[.pointer (some ⟨m, 0, none⟩), .int .i64 j] (w8.drewN n) fun e w' => e = .returned (.int .i64 (gT j)) ∧ w' = w8.drewN n := fun n => (value_in m j hj gT 0 0 0 _ (h8.drewN n).m).mono fun _ _ h => ⟨h.1, h.2.symm⟩
              have hv := hide hv
              have H8 : ∀ n, Beside w (w8.drewN n) m p gT := fun n => h8.drewN n
              have H8 := hide H8
              have e0 : (gT j != gT j) = false := bne_self_eq_false _
              clear h8 hTd hT b0 b1 b2 b3 b4 a0 a1 a2 a3 a4 hne
              generalize gT j = vj at *
              go_wp2_with fail
              go_simp
              go_quiet ((go_at_call 15; exact Calls.quiet_of_same (unhide hv _)))
              go_wp2
              go_roundw
              case rel => exact ⟨k + 1, _, by omega, by omega, by go_num, unhide H8 _⟩
              case measure => simp [intOf]; omega)
        | false =>
          have hq := hr
          have d2 := c2
          have d0 := w0
          clear hr
          go_wp2_with fail
          refine (add_in m j hj n g 0 0 0 _ hq.m).mono ?_
          rintro e w6 ⟨rfl, hm6, t6⟩
          clear c0 c1 c2 w0
          have HD' := unhide HD
          have d2' : w6.drew.cell? ⟨ab, off + k * 3 + 2, none⟩ = some (.int .i64 n) := (t6.cell (p := ⟨ab, off + k * 3 + 2, none⟩) (World.block_lt_of_cell? _ _ d2) (by have := unhide Hab; simp only; omega)).trans d2
          have hp6 : At 32 w6.drew p (acells g) := hq.p.kept t6.drew (by omega)
          have d0' := hp6.cell j
          rw [acells_at g j hj] at d0'
          have z0' := hp6.frozen j
          have hT : Beside w (w6.setCell ⟨p, j, none⟩ (.int .i64 (wrap64 (g j + n)))).drew m p (upd g j (wrap64 (g j + n))) := (hq.turned HD' hj hm6 t6).drewN 1
          clear hp6 hm6 t6 hq d0 d2 HD'
          go_wp2_with fail
          go_region
          all_goals (
            go_upto_region 20 with fail
            generalize (w6.setCell ⟨p, j, none⟩ (.int .i64 (wrap64 (g j + n)))).drew = wT at *
            generalize upd g j (wrap64 (g j + n)) = gT at *
            clear d0' z0' d2'
            have a0 : wT.drew.cell? ⟨p, 0, none⟩ = some (.int .i64 (gT 0)) := hT.p.cell 0
            have a1 : wT.drew.cell? ⟨p, 1, none⟩ = some (.int .i64 (gT 1)) := hT.p.cell 1
            have a2 : wT.drew.cell? ⟨p, 2, none⟩ = some (.int .i64 (gT 2)) := hT.p.cell 2
            have a3 : wT.drew.cell? ⟨p, 3, none⟩ = some (.int .i64 (gT 3)) := hT.p.cell 3
            have a4 : wT.drew.cell? ⟨p, 4, none⟩ = some (.int .i64 (gT 4)) := hT.p.cell 4
            have hne := run_neq_five gT
            unfold acells at hne
            have hTd : Beside w wT.drew m p gT := hT.drewN 1
            go_wp2_with fail
            go_region_with (go_at_call 18; go_must (refine (all_any m gT 0 0 0 _ hTd.m).mono ?_; rintro e w8 ⟨rfl, t8⟩; have h8 : Beside w w8 m p gT := ⟨hTd.m.kept t8 (fun h => h), hTd.p.kept t8 (fun h => h), hTd.turn.trans t8⟩; have b0 : w8.cell? ⟨p, 0, none⟩ = some (.int .i64 (gT 0)) := h8.p.cell 0; have b1 : w8.cell? ⟨p, 1, none⟩ = some (.int .i64 (gT 1)) := h8.p.cell 1; have b2 : w8.cell? ⟨p, 2, none⟩ = some (.int .i64 (gT 2)) := h8.p.cell 2; have b3 : w8.cell? ⟨p, 3, none⟩ = some (.int .i64 (gT 3)) := h8.p.cell 3; have b4 : w8.cell? ⟨p, 4, none⟩ = some (.int .i64 (gT 4)) := h8.p.cell 4; try unfold acells))

            all_goals (
              have v0 := h8.p.cell j
              rw [acells_at gT j hj] at v0
              have hv : ∀ n, Calls Try.prog 15 #[.pointer (some ⟨m, 0, none⟩), .int .i64 j] (w8.drewN n) fun e w' => e = .returned (.int .i64 (gT j)) ∧ w' = w8.drewN n := fun n => (value_in m j hj gT 0 0 0 _ (h8.drewN n).m).mono fun _ _ h => ⟨h.1, h.2.symm⟩
              have hv := hide hv
              have H8 : ∀ n, Beside w (w8.drewN n) m p gT := fun n => h8.drewN n
              have H8 := hide H8
              have e0 : (gT j != gT j) = false := bne_self_eq_false _
              clear h8 hTd hT b0 b1 b2 b3 b4 a0 a1 a2 a3 a4 hne
              generalize gT j = vj at *
              go_wp2_with fail
              go_simp
              go_quiet ((go_at_call 15; exact Calls.quiet_of_same (unhide hv _)))
              go_wp2
              go_roundw
              case rel => exact ⟨k + 1, _, by omega, by omega, by go_num, unhide H8 _⟩
              case measure => simp [intOf]; omega))
      · have hkk : kk = 0 ∨ kk = 6 := by omega
        clear hin hk0 hk7
        rcases hkk with rfl | rfl
        · cases up with
          | true =>
            go_wp2_with fail
            go_quiet ((fail))
            have hq := hr.drewN nq
            have d2 : (wr.drewN nq).cell? ⟨ab, off + k * 3 + 2, none⟩ = some (.int .i64 n) := c2
            clear hr c0 c1 c2
            generalize wr.drewN nq = wq at *
            go_wp2_with fail
            refine (raise_out m (-1) (by omega) n _).mono ?_
            rintro e w6 ⟨rfl, rfl⟩
            have hT := hq
            clear hq
            go_upto_region 20 with fail
            generalize wq = wT at *
            generalize g = gT at *
            have a0 : wT.drew.cell? ⟨p, 0, none⟩ = some (.int .i64 (gT 0)) := hT.p.cell 0
            have a1 : wT.drew.cell? ⟨p, 1, none⟩ = some (.int .i64 (gT 1)) := hT.p.cell 1
            have a2 : wT.drew.cell? ⟨p, 2, none⟩ = some (.int .i64 (gT 2)) := hT.p.cell 2
            have a3 : wT.drew.cell? ⟨p, 3, none⟩ = some (.int .i64 (gT 3)) := hT.p.cell 3
            have a4 : wT.drew.cell? ⟨p, 4, none⟩ = some (.int .i64 (gT 4)) := hT.p.cell 4
            have hne := run_neq_five gT
            unfold acells at hne
            have hTd : Beside w wT.drew m p gT := hT.drewN 1
            go_wp2_with fail
            go_region_with (go_at_call 18; go_must (refine (all_any m gT 0 0 0 _ hTd.m).mono ?_; rintro e w8 ⟨rfl, t8⟩; have h8 : Beside w w8 m p gT := ⟨hTd.m.kept t8 (fun h => h), hTd.p.kept t8 (fun h => h), hTd.turn.trans t8⟩; have b0 : w8.cell? ⟨p, 0, none⟩ = some (.int .i64 (gT 0)) := h8.p.cell 0; have b1 : w8.cell? ⟨p, 1, none⟩ = some (.int .i64 (gT 1)) := h8.p.cell 1; have b2 : w8.cell? ⟨p, 2, none⟩ = some (.int .i64 (gT 2)) := h8.p.cell 2; have b3 : w8.cell? ⟨p, 3, none⟩ = some (.int .i64 (gT 3)) := h8.p.cell 3; have b4 : w8.cell? ⟨p, 4, none⟩ = some (.int .i64 (gT 4)) := h8.p.cell 4; try unfold acells))

            all_goals (
              have H8 : ∀ n, Beside w (w8.drewN n) m p gT := fun n => h8.drewN n
              have H8 := hide H8
              clear h8 hTd hT b0 b1 b2 b3 b4 a0 a1 a2 a3 a4 hne
              go_wp2_with fail
              go_simp
              go_quiet ((fail))
              go_wp2
              go_roundw
              case rel => exact ⟨k + 1, _, by omega, by omega, by go_num, unhide H8 _⟩
              case measure => simp [intOf]; omega)
          | false =>
            have hq := hr
            have d2 := c2
            clear hr
            go_wp2_with fail
            refine (add_out m (-1) (by omega) n _).mono ?_
            rintro e w6 ⟨rfl, rfl⟩
            have hT := hq
            clear hq c0 c1 c2
            go_upto_region 20 with fail
            generalize wr = wT at *
            generalize g = gT at *
            have a0 : wT.drew.cell? ⟨p, 0, none⟩ = some (.int .i64 (gT 0)) := hT.p.cell 0
            have a1 : wT.drew.cell? ⟨p, 1, none⟩ = some (.int .i64 (gT 1)) := hT.p.cell 1
            have a2 : wT.drew.cell? ⟨p, 2, none⟩ = some (.int .i64 (gT 2)) := hT.p.cell 2
            have a3 : wT.drew.cell? ⟨p, 3, none⟩ = some (.int .i64 (gT 3)) := hT.p.cell 3
            have a4 : wT.drew.cell? ⟨p, 4, none⟩ = some (.int .i64 (gT 4)) := hT.p.cell 4
            have hne := run_neq_five gT
            unfold acells at hne
            have hTd : Beside w wT.drew m p gT := hT.drewN 1
            go_wp2_with fail
            go_region_with (go_at_call 18; go_must (refine (all_any m gT 0 0 0 _ hTd.m).mono ?_; rintro e w8 ⟨rfl, t8⟩; have h8 : Beside w w8 m p gT := ⟨hTd.m.kept t8 (fun h => h), hTd.p.kept t8 (fun h => h), hTd.turn.trans t8⟩; have b0 : w8.cell? ⟨p, 0, none⟩ = some (.int .i64 (gT 0)) := h8.p.cell 0; have b1 : w8.cell? ⟨p, 1, none⟩ = some (.int .i64 (gT 1)) := h8.p.cell 1; have b2 : w8.cell? ⟨p, 2, none⟩ = some (.int .i64 (gT 2)) := h8.p.cell 2; have b3 : w8.cell? ⟨p, 3, none⟩ = some (.int .i64 (gT 3)) := h8.p.cell 3; have b4 : w8.cell? ⟨p, 4, none⟩ = some (.int .i64 (gT 4)) := h8.p.cell 4; try unfold acells))

            all_goals (
              have H8 : ∀ n, Beside w (w8.drewN n) m p gT := fun n => h8.drewN n
              have H8 := hide H8
              clear h8 hTd hT b0 b1 b2 b3 b4 a0 a1 a2 a3 a4 hne
              go_wp2_with fail
              go_simp
              go_quiet ((fail))
              go_wp2
              go_roundw
              case rel => exact ⟨k + 1, _, by omega, by omega, by go_num, unhide H8 _⟩
              case measure => simp [intOf]; omega)
        · cases up with
          | true =>
            go_wp2_with fail
            go_quiet ((fail))
            have hq := hr.drewN nq
            have d2 : (wr.drewN nq).cell? ⟨ab, off + k * 3 + 2, none⟩ = some (.int .i64 n) := c2
            clear hr c0 c1 c2
            generalize wr.drewN nq = wq at *
            go_wp2_with fail
            refine (raise_out m 5 (by omega) n _).mono ?_
            rintro e w6 ⟨rfl, rfl⟩
            have hT := hq
            clear hq
            go_upto_region 20 with fail
            generalize wq = wT at *
            generalize g = gT at *
            have a0 : wT.drew.cell? ⟨p, 0, none⟩ = some (.int .i64 (gT 0)) := hT.p.cell 0
            have a1 : wT.drew.cell? ⟨p, 1, none⟩ = some (.int .i64 (gT 1)) := hT.p.cell 1
            have a2 : wT.drew.cell? ⟨p, 2, none⟩ = some (.int .i64 (gT 2)) := hT.p.cell 2
            have a3 : wT.drew.cell? ⟨p, 3, none⟩ = some (.int .i64 (gT 3)) := hT.p.cell 3
            have a4 : wT.drew.cell? ⟨p, 4, none⟩ = some (.int .i64 (gT 4)) := hT.p.cell 4
            have hne := run_neq_five gT
            unfold acells at hne
            have hTd : Beside w wT.drew m p gT := hT.drewN 1
            go_wp2_with fail
            go_region_with (go_at_call 18; go_must (refine (all_any m gT 0 0 0 _ hTd.m).mono ?_; rintro e w8 ⟨rfl, t8⟩; have h8 : Beside w w8 m p gT := ⟨hTd.m.kept t8 (fun h => h), hTd.p.kept t8 (fun h => h), hTd.turn.trans t8⟩; have b0 : w8.cell? ⟨p, 0, none⟩ = some (.int .i64 (gT 0)) := h8.p.cell 0; have b1 : w8.cell? ⟨p, 1, none⟩ = some (.int .i64 (gT 1)) := h8.p.cell 1; have b2 : w8.cell? ⟨p, 2, none⟩ = some (.int .i64 (gT 2)) := h8.p.cell 2; have b3 : w8.cell? ⟨p, 3, none⟩ = some (.int .i64 (gT 3)) := h8.p.cell 3; have b4 : w8.cell? ⟨p, 4, none⟩ = some (.int .i64 (gT 4)) := h8.p.cell 4; try unfold acells))

            all_goals (
              have H8 : ∀ n, Beside w (w8.drewN n) m p gT := fun n => h8.drewN n
              have H8 := hide H8
              clear h8 hTd hT b0 b1 b2 b3 b4 a0 a1 a2 a3 a4 hne
              go_wp2_with fail
              go_simp
              go_quiet ((fail))
              go_wp2
              go_roundw
              case rel => exact ⟨k + 1, _, by omega, by omega, by go_num, unhide H8 _⟩
              case measure => simp [intOf]; omega)
          | false =>
            have hq := hr
            have d2 := c2
            clear hr
            go_wp2_with fail
            refine (add_out m 5 (by omega) n _).mono ?_
            rintro e w6 ⟨rfl, rfl⟩
            have hT := hq
            clear hq c0 c1 c2
            go_upto_region 20 with fail
            generalize wr = wT at *
            generalize g = gT at *
            have a0 : wT.drew.cell? ⟨p, 0, none⟩ = some (.int .i64 (gT 0)) := hT.p.cell 0
            have a1 : wT.drew.cell? ⟨p, 1, none⟩ = some (.int .i64 (gT 1)) := hT.p.cell 1
            have a2 : wT.drew.cell? ⟨p, 2, none⟩ = some (.int .i64 (gT 2)) := hT.p.cell 2
            have a3 : wT.drew.cell? ⟨p, 3, none⟩ = some (.int .i64 (gT 3)) := hT.p.cell 3
            have a4 : wT.drew.cell? ⟨p, 4, none⟩ = some (.int .i64 (gT 4)) := hT.p.cell 4
            have hne := run_neq_five gT
            unfold acells at hne
            have hTd : Beside w wT.drew m p gT := hT.drewN 1
            go_wp2_with fail
            go_region_with (go_at_call 18; go_must (refine (all_any m gT 0 0 0 _ hTd.m).mono ?_; rintro e w8 ⟨rfl, t8⟩; have h8 : Beside w w8 m p gT := ⟨hTd.m.kept t8 (fun h => h), hTd.p.kept t8 (fun h => h), hTd.turn.trans t8⟩; have b0 : w8.cell? ⟨p, 0, none⟩ = some (.int .i64 (gT 0)) := h8.p.cell 0; have b1 : w8.cell? ⟨p, 1, none⟩ = some (.int .i64 (gT 1)) := h8.p.cell 1; have b2 : w8.cell? ⟨p, 2, none⟩ = some (.int .i64 (gT 2)) := h8.p.cell 2; have b3 : w8.cell? ⟨p, 3, none⟩ = some (.int .i64 (gT 3)) := h8.p.cell 3; have b4 : w8.cell? ⟨p, 4, none⟩ = some (.int .i64 (gT 4)) := h8.p.cell 4; try unfold acells))

            all_goals (
              have H8 : ∀ n, Beside w (w8.drewN n) m p gT := fun n => h8.drewN n
              have H8 := hide H8
              clear h8 hTd hT b0 b1 b2 b3 b4 a0 a1 a2 a3 a4 hne
              go_wp2_with fail
              go_simp
              go_quiet ((fail))
              go_wp2
              go_roundw
              case rel => exact ⟨k + 1, _, by omega, by omega, by go_num, unhide H8 _⟩
              case measure => simp [intOf]; omega)
    · by_cases hlt1 : k < xs.length
      · have q1 : (k : Int) < xs.length := by omega
        have q2 : ¬ (k : Int) < 80 := by omega
        go_wp2
        go_ret
        exact ⟨rfl, hr.turn⟩
      · have q1 : ¬ (k : Int) < xs.length := by omega
        go_wp2
        go_ret
        exact ⟨rfl, hr.turn⟩

end Go.Proofs.Ytdfamclggeaejaa
