/- Of many stops the first one alone does what it was handed: the law's walk. -/
import Derived.Test.YtdfamclggeaejaaMKnown
import Derived.Test.YtdfamclggeaejaaHand
import Derived.Test.YtdfamclggeaejaaLists
namespace Go.Proofs.Ytdfamclggeaejaa
open Go.RowKit

/-- Whether, as a number. -/
def flag (s : Bool) : Int := if s then 1 else 0

/-- Two meters, of which one was stopped or not, and the number that tells how often. -/
structure Two (w wr : World) (m o p k : Nat) (s : Bool) : Prop where
  m : ∃ g : Nat → Int, g 0 = k ∧ Met wr m g (flag s) 0 (flag s)
  o : Met wr o (fun _ => 0) 0 0 0
  p : At 3 wr p #[.int .i64 (flag s)]
  turn : Turn (fun _ => False) w wr

set_option maxHeartbeats 8000000 in
set_option maxRecDepth 100000 in
theorem meterOnce_any (lv : Value) (l : List Bool) (n : Int) (w : World) (hL : FlagsAt w w.heap.size lv l) :
    Calls Try.prog 4 #[lv, .int .i64 n] w fun e w' => e = .returned (.bool true) ∧ Turn (fun _ => False) w w' := by
  have hnot : ∀ (x : Bool) (w : World), (Op.unary .not (.bool x)).run Try.prog w = .ok (.bool (!x)) w := fun _ _ => rfl
  have hmf : ∀ (fn : Fn) (first cap : Array Value) (w : World), (Instr.makeFunc fn first cap).run Try.prog w = .ok (.func fn first cap) w := fun _ _ _ _ => rfl
  obtain ⟨al, lcap, rfl, hlm⟩ := hL.shape
  unfold maxLen at hlm
  go_enter Try.func4, Try.ntmps4
  go_wp2_with fail
  refine (mnew_any w).mono ?_
  rintro e w1 ⟨rfl, e1⟩
  have t1 : Turn (fun _ => False) w w1 := e1 ▸ (Turn.refl _ _).alloc _
  have h1 : Met w1 w.heap.size (fun _ => 0) 0 0 0 := e1 ▸ met_new w
  clear e1
  go_wp2_with fail
  refine (mnew_any w1).mono ?_
  rintro e w2 ⟨rfl, e2⟩
  have ht2 : Turn (fun _ => False) w1 w2 := e2 ▸ (Turn.refl _ _).alloc _
  have t2 : Turn (fun _ => False) w w2 := t1.trans ht2
  have h20 := h1.kept ht2 (fun h => h)
  have h21 : Met w2 w1.heap.size (fun _ => 0) 0 0 0 := e2 ▸ met_new w1
  have hmo := h1.lt
  clear e2 ht2 t1 h1
  go_wp2_with fail
  refine (mknown_any _).mono ?_
  rintro e w3 ⟨rfl, ht3⟩
  have t3 : Turn (fun _ => False) w w3 := t2.trans ht3
  have h30 := h20.kept ht3 (fun h => h)
  have h31 := h21.kept ht3 (fun h => h)
  have hop := h31.lt
  clear ht3 t2 h20 h21
  have tt : Turn (fun _ => False) w3 (w3.alloc (.cells #[.int .i64 0] 3)) := (Turn.refl _ _).alloc _
  have hB : Two w (w3.alloc (.cells #[.int .i64 0] 3)) w.heap.size w1.heap.size w3.heap.size 0 false := ⟨⟨fun _ => 0, rfl, h30.kept tt (fun h => h)⟩, h31.kept tt (fun h => h), At.new _ _ _, t3.trans tt⟩
  have HD : Hid (w.heap.size < w1.heap.size ∧ w1.heap.size < w3.heap.size) := ⟨hmo, hop⟩
  clear tt h30 h31 hmo hop t3
  go_wp2_with fail
  generalize w3.alloc (.cells #[.int .i64 0] 3) = w4 at *
  generalize w3.heap.size = p at *
  generalize w1.heap.size = o at *
  obtain ⟨m, hm⟩ : ∃ m, m = w.heap.size := ⟨_, rfl⟩
  rw [← hm] at hB ⊢
  have HD : Hid (w.heap.size = m ∧ m < o ∧ o < p) := ⟨hm.symm, by have := unhide HD; omega, (unhide HD).2⟩
  clear hm
  go_loopw [4, 8, 9] (fun _ st i wr => ∃ (k : Nat) (s : Bool), k ≤ l.length ∧ k ≤ 30 ∧ st = .bool s ∧ i = .int .i64 k ∧ Two w wr m o p k s) (fun _ _ i _ => (30 - intOf i).toNat)
  case atStart => exact ⟨0, false, by omega, by omega, rfl, rfl, hB⟩
  case round =>
    obtain ⟨k, s, hk, hk30, rfl, rfl, hr⟩ := hrel
    clear hB
    by_cases hlt : k < l.length ∧ k < 30
    · obtain ⟨hlt, hlt30⟩ := hlt
      have q1 : (k : Int) < l.length := by omega
      have q2 : (k : Int) < 30 := by omega
      obtain ⟨⟨g, hg, hm⟩, ho, hp, ht⟩ := hr
      go_wp2_with fail
      refine (add_in m 0 (by omega) 1 g (flag s) 0 (flag s) _ hm).mono ?_
      rintro e w5 ⟨rfl, hm5, t5⟩
      have HD' := unhide HD
      have ho5 := ho.kept t5 (by omega)
      have hp5 := hp.kept t5 (by omega)
      replace t5 := ht.trans' t5 (fun i hi e => by omega)
      have hwr : wrap64 (g 0 + 1) = k + 1 := by rw [hg]; unfold wrap64; omega
      rw [hwr] at hm5
      have hg5 : upd g 0 ((k : Int) + 1) 0 = (k : Int) + 1 := upd_same _ _ _
      generalize upd g 0 ((k : Int) + 1) = g5 at *
      clear hm ho hp ht hg hwr HD' g
      have hLr := hL.kept t5 (Nat.le_refl _) (fun _ _ h => h)
      obtain ⟨a, rfl, hc⟩ := hLr.at k hlt
      clear hLr
      generalize l[k] = f at *
      cases s with
      | false =>
        cases f with
        | false =>
          obtain ⟨w6, hw6⟩ : ∃ w6, w6 = w5 := ⟨_, rfl⟩
          have hm6 : Met w5 m g5 0 0 0 := hm5
          have ho6 := ho5
          have hp6 : At 3 w5 p #[.int .i64 0] := hp5
          have t6 := t5
          have hcp : w5.cell? ⟨p, 0, none⟩ = some (.int .i64 0) := hp6.cell 0
          clear hm5 ho5 hp5 t5 hw6 w6

          go_wp2_with fail
          refine (stopped_any m _ 0 0 0 _ hm6).mono ?_
          rintro e w7 ⟨rfl, rfl⟩
          go_wp2_with fail
          refine (stopped_any o _ 0 0 0 _ ho6).mono ?_
          rintro e w7 ⟨rfl, rfl⟩
          go_wp2_with fail
          refine (value_is m 0 (by omega) ((k : Int) + 1) _ hg5 0 0 0 _ hm6).mono ?_
          rintro e w7 ⟨rfl, rfl⟩
          go_wp2
          go_roundw
          case rel => exact ⟨k + 1, false, by omega, by omega, rfl, by go_num, ⟨g5, by rw [hg5]; simp, hm6⟩, ho6, hp6, t6⟩
          case measure => simp [intOf]; omega
        | true =>
          go_wp2_with fail
          refine (stop_first m _ (.inr ⟨_, _, _, rfl⟩) _ _ _ (hook_fn 16 m p 0 1 (by have := unhide HD; omega) enters_once (fun w h => more_any _ rfl p 0 (by omega) w h)) _ _ hm5 hp5 (by rintro k rfl; exact hp5.lt)).mono ?_
          rintro e w6 ⟨rfl, hm6, hp6, t6⟩
          have ho6 := ho5.kept t6 (by have := unhide HD; omega)
          replace t6 := t5.trans' t6 (fun i hi e => by have := unhide HD; omega)
          have hcp : w6.cell? ⟨p, 0, none⟩ = some (.int .i64 1) := hp6.cell 0
          clear hm5 ho5 hp5 t5

          go_wp2_with fail
          refine (stopped_any m _ 1 0 1 _ hm6).mono ?_
          rintro e w7 ⟨rfl, rfl⟩
          go_wp2_with fail
          refine (stopped_any o _ 0 0 0 _ ho6).mono ?_
          rintro e w7 ⟨rfl, rfl⟩
          go_wp2_with fail
          refine (value_is m 0 (by omega) ((k : Int) + 1) _ hg5 1 0 1 _ hm6).mono ?_
          rintro e w7 ⟨rfl, rfl⟩
          go_wp2
          go_roundw
          case rel => exact ⟨k + 1, true, by omega, by omega, rfl, by go_num, ⟨g5, by rw [hg5]; simp, hm6⟩, ho6, hp6, t6⟩
          case measure => simp [intOf]; omega
      | true =>
        cases f with
        | false =>
          obtain ⟨w6, hw6⟩ : ∃ w6, w6 = w5 := ⟨_, rfl⟩
          have hm6 : Met w5 m g5 1 0 1 := hm5
          have ho6 := ho5
          have hp6 : At 3 w5 p #[.int .i64 1] := hp5
          have t6 := t5
          have hcp : w5.cell? ⟨p, 0, none⟩ = some (.int .i64 1) := hp6.cell 0
          clear hm5 ho5 hp5 t5 hw6 w6

          go_wp2_with fail
          refine (stopped_any m _ 1 0 1 _ hm6).mono ?_
          rintro e w7 ⟨rfl, rfl⟩
          go_wp2_with fail
          refine (stopped_any o _ 0 0 0 _ ho6).mono ?_
          rintro e w7 ⟨rfl, rfl⟩
          go_wp2_with fail
          refine (value_is m 0 (by omega) ((k : Int) + 1) _ hg5 1 0 1 _ hm6).mono ?_
          rintro e w7 ⟨rfl, rfl⟩
          go_wp2
          go_roundw
          case rel => exact ⟨k + 1, true, by omega, by omega, rfl, by go_num, ⟨g5, by rw [hg5]; simp, hm6⟩, ho6, hp6, t6⟩
          case measure => simp [intOf]; omega
        | true =>
          go_wp2_with fail
          refine (stop_again m _ (.inr ⟨_, _, _, rfl⟩) _ 1 _ hm5).mono ?_
          rintro e w6 ⟨rfl, t6⟩
          have hm6 := hm5.kept t6 (fun h => h)
          have ho6 := ho5.kept t6 (fun h => h)
          have hp6 : At 3 w6 p #[.int .i64 1] := hp5.kept t6 (fun h => h)
          replace t6 := t5.trans t6
          have hcp : w6.cell? ⟨p, 0, none⟩ = some (.int .i64 1) := hp6.cell 0
          clear hm5 ho5 hp5 t5

          go_wp2_with fail
          refine (stopped_any m _ 1 0 1 _ hm6).mono ?_
          rintro e w7 ⟨rfl, rfl⟩
          go_wp2_with fail
          refine (stopped_any o _ 0 0 0 _ ho6).mono ?_
          rintro e w7 ⟨rfl, rfl⟩
          go_wp2_with fail
          refine (value_is m 0 (by omega) ((k : Int) + 1) _ hg5 1 0 1 _ hm6).mono ?_
          rintro e w7 ⟨rfl, rfl⟩
          go_wp2
          go_roundw
          case rel => exact ⟨k + 1, true, by omega, by omega, rfl, by go_num, ⟨g5, by rw [hg5]; simp, hm6⟩, ho6, hp6, t6⟩
          case measure => simp [intOf]; omega
    · by_cases hlt1 : k < l.length
      · have q1 : (k : Int) < l.length := by omega
        have q2 : ¬ (k : Int) < 30 := by omega
        go_wp2_with fail
        refine (value_is o 0 (by omega) 0 (fun _ => 0) rfl 0 0 0 _ hr.o).mono ?_
        rintro e w7 ⟨rfl, rfl⟩
        go_wp2_with fail
        refine (pick_any n 9 _ (by omega) (by omega)).mono ?_
        rintro e w7 ⟨rfl, rfl⟩
        have hn9 := Int.emod_nonneg n (show (9 : Int) ≠ 0 by omega)
        have hn9' := Int.emod_lt_of_pos n (show (0 : Int) < 9 by omega)
        generalize n % 9 = n9 at *
        go_wp2_with fail
        refine (raise_up o 3 (by omega) (1 + n9) _ (by show (0 : Int) < _; omega) 0 0 0 _ hr.o).mono ?_
        rintro e w7 ⟨rfl, _, t7⟩
        go_wp2
        go_ret
        exact ⟨rfl, hr.turn.trans' t7 (fun i hi e => by have := unhide HD; omega)⟩
      · have q1 : ¬ (k : Int) < l.length := by omega
        go_wp2_with fail
        refine (value_is o 0 (by omega) 0 (fun _ => 0) rfl 0 0 0 _ hr.o).mono ?_
        rintro e w7 ⟨rfl, rfl⟩
        go_wp2_with fail
        refine (pick_any n 9 _ (by omega) (by omega)).mono ?_
        rintro e w7 ⟨rfl, rfl⟩
        have hn9 := Int.emod_nonneg n (show (9 : Int) ≠ 0 by omega)
        have hn9' := Int.emod_lt_of_pos n (show (0 : Int) < 9 by omega)
        generalize n % 9 = n9 at *
        go_wp2_with fail
        refine (raise_up o 3 (by omega) (1 + n9) _ (by show (0 : Int) < _; omega) 0 0 0 _ hr.o).mono ?_
        rintro e w7 ⟨rfl, _, t7⟩
        go_wp2
        go_ret
        exact ⟨rfl, hr.turn.trans' t7 (fun i hi e => by have := unhide HD; omega)⟩

end Go.Proofs.Ytdfamclggeaejaa
