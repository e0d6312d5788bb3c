/- What the calls of package meter do to memory: counters. -/
import Derived.Test.YtdfamclggeaejaaSync
namespace Go.Proofs.Ytdfamclggeaejaa
open Go.RowKit

/-- The cells of a Meter: five counters, whether its Once is done, its lock, whether it is stopped. -/
def mcells (f : Nat → Int) (d l s : Int) : Array Value := #[.int .i64 (f 0), .int .i64 (f 1), .int .i64 (f 2), .int .i64 (f 3), .int .i64 (f 4), .int .u32 d, .int .i32 l, .int .u32 0, .int .u32 s]

/-- One counter turned. -/
def upd (f : Nat → Int) (k : Nat) (x : Int) : Nat → Int := fun i => if i = k then x else f i

theorem upd_same (f : Nat → Int) (k : Nat) (x : Int) : upd f k x k = x := if_pos rfl
theorem upd_other (f : Nat → Int) (k : Nat) (x : Int) (i : Nat) (h : i ≠ k) : upd f k x i = f i := if_neg h

theorem mcells_at (f : Nat → Int) (d l s : Int) (k : Nat) (hk : k < 5) : (mcells f d l s)[k]? = some (.int .i64 (f k)) := by
  match k, hk with
  | 0, _ => rfl
  | 1, _ => rfl
  | 2, _ => rfl
  | 3, _ => rfl
  | 4, _ => rfl

theorem mcells_set (f : Nat → Int) (d l s x : Int) (k : Nat) (hk : k < 5) : (mcells f d l s).setIfInBounds k (.int .i64 x) = mcells (upd f k x) d l s := by
  match k, hk with
  | 0, _ => rfl
  | 1, _ => rfl
  | 2, _ => rfl
  | 3, _ => rfl
  | 4, _ => rfl

/-- A Meter in block b. -/
def Met (w : World) (b : Nat) (f : Nat → Int) (d l s : Int) : Prop := At 56 w b (mcells f d l s)

theorem Met.lt {w : World} {b : Nat} {f : Nat → Int} {d l s : Int} (h : Met w b f d l s) : b < w.heap.size := At.lt h

theorem Met.count {w : World} {b : Nat} {f : Nat → Int} {d l s : Int} (h : Met w b f d l s) (k : Nat) (hk : k < 5) : w.cell? ⟨b, k, none⟩ = some (.int .i64 (f k)) := by
  rw [At.cell h, mcells_at f d l s k hk]

theorem Met.done {w : World} {b : Nat} {f : Nat → Int} {d l s : Int} (h : Met w b f d l s) : w.cell? ⟨b, 5, none⟩ = some (.int .u32 d) := by rw [At.cell h]; rfl
theorem Met.lock {w : World} {b : Nat} {f : Nat → Int} {d l s : Int} (h : Met w b f d l s) : w.cell? ⟨b, 6, none⟩ = some (.int .i32 l) := by rw [At.cell h]; rfl
theorem Met.stop {w : World} {b : Nat} {f : Nat → Int} {d l s : Int} (h : Met w b f d l s) : w.cell? ⟨b, 8, none⟩ = some (.int .u32 s) := by rw [At.cell h]; rfl
theorem Met.frozen {w : World} {b : Nat} {f : Nat → Int} {d l s : Int} (h : Met w b f d l s) (j : Nat) : w.frozen? ⟨b, j, none⟩ = false := At.frozen h j
theorem Met.kept {S : Nat → Prop} {w w' : World} {b : Nat} {f : Nat → Int} {d l s : Int} (h : Met w b f d l s) (ht : Turn S w w') (hs : ¬ S b) : Met w' b f d l s := At.kept h ht hs

theorem Met.set {w : World} {b : Nat} {f : Nat → Int} {d l s : Int} (h : Met w b f d l s) (k : Nat) (hk : k < 5) (x : Int) : Met (w.setCell ⟨b, k, none⟩ (.int .i64 x)) b (upd f k x) d l s := by
  have := At.set h k (.int .i64 x)
  rw [mcells_set f d l s x k hk] at this
  exact this
theorem Met.setDone {w : World} {b : Nat} {f : Nat → Int} {d l s : Int} (h : Met w b f d l s) (d' : Int) : Met (w.setCell ⟨b, 5, none⟩ (.int .u32 d')) b f d' l s := At.set h 5 (.int .u32 d')
theorem Met.setLock {w : World} {b : Nat} {f : Nat → Int} {d l s : Int} (h : Met w b f d l s) (l' : Int) : Met (w.setCell ⟨b, 6, none⟩ (.int .i32 l')) b f d l' s := At.set h 6 (.int .i32 l')
theorem Met.setStop {w : World} {b : Nat} {f : Nat → Int} {d l s : Int} (h : Met w b f d l s) (s' : Int) : Met (w.setCell ⟨b, 8, none⟩ (.int .u32 s')) b f d l s' := At.set h 8 (.int .u32 s')
theorem Met.drew {w : World} {b : Nat} {f : Nat → Int} {d l s : Int} (h : Met w b f d l s) : Met w.drew b f d l s := h

theorem Turn.here {w : World} {b : Nat} (j : Nat) (u : Value) : Turn (fun k => k = b) w (w.setCell ⟨b, j, none⟩ u) := (Turn.refl (fun k => k = b) w).setCell (p := ⟨b, j, none⟩) (.inl rfl) _

set_option maxHeartbeats 400000 in
theorem mnew_any (w : World) : Calls Try.prog 7 #[] w fun e w' => e = .returned (.pointer (some ⟨w.heap.size, 0, none⟩)) ∧ w' = w.alloc (.cells (mcells (fun _ => 0) 0 0 0) 56) := by
  go_enter Try.func7, Try.ntmps7
  go_wp2
  go_ret
  exact ⟨rfl, rfl⟩

set_option maxHeartbeats 400000 in
theorem counter_in (b k : Nat) (hk : k < 5) (w : World) : Calls Try.prog 23 #[.pointer (some ⟨b, 0, none⟩), .int .i64 k] w fun e w' => e = .returned (.pointer (some ⟨b, k, none⟩)) ∧ w = w' := by
  go_enter Try.func23, Try.ntmps23
  go_wp2
  go_ret
  exact ⟨rfl, rfl⟩

set_option maxHeartbeats 400000 in
theorem counter_out (b : Nat) (k : Int) (hk : k < 0 ∨ 5 ≤ k) (w : World) : Calls Try.prog 23 #[.pointer (some ⟨b, 0, none⟩), .int .i64 k] w fun e w' => e = .returned (.pointer none) ∧ w = w' := by
  rcases hk with hk | hk
  · go_enter Try.func23, Try.ntmps23
    go_wp2
    go_ret
    exact ⟨rfl, rfl⟩
  · go_enter Try.func23, Try.ntmps23
    go_wp2
    go_ret
    exact ⟨rfl, rfl⟩

set_option maxHeartbeats 400000 in
theorem add_in (b k : Nat) (hk : k < 5) (n : Int) (f : Nat → Int) (d l s : Int) (w : World) (h : Met w b f d l s) :
    Calls Try.prog 13 #[.pointer (some ⟨b, 0, none⟩), .int .i64 k, .int .i64 n] w fun e w' => e = .returned (.bool true) ∧ Met w' b (upd f k (wrap64 (f k + n))) d l s ∧ Turn (fun j => j = b) w w' := by
  go_enter Try.func13, Try.ntmps13
  go_wp2_with fail
  refine (counter_in b k hk _).mono ?_
  rintro e w1 ⟨rfl, rfl⟩
  go_wp2_with fail
  refine (intAdd_any ⟨b, k, none⟩ (f k) n _ _ (h.count k hk) (h.frozen k) rfl).mono ?_
  rintro e w1 ⟨rfl, e1⟩
  go_wp2
  go_ret
  subst e1
  exact ⟨rfl, h.set k hk _, Turn.here k _⟩

set_option maxHeartbeats 400000 in
theorem add_out (b : Nat) (k : Int) (hk : k < 0 ∨ 5 ≤ k) (n : Int) (w : World) :
    Calls Try.prog 13 #[.pointer (some ⟨b, 0, none⟩), .int .i64 k, .int .i64 n] w fun e w' => e = .returned (.bool false) ∧ w = w' := by
  go_enter Try.func13, Try.ntmps13
  go_wp2_with fail
  refine (counter_out b k hk _).mono ?_
  rintro e w1 ⟨rfl, rfl⟩
  go_wp2
  go_ret
  exact ⟨rfl, rfl⟩

set_option maxHeartbeats 400000 in
theorem value_in (b k : Nat) (hk : k < 5) (f : Nat → Int) (d l s : Int) (w : World) (h : Met w b f d l s) :
    Calls Try.prog 15 #[.pointer (some ⟨b, 0, none⟩), .int .i64 k] w fun e w' => e = .returned (.int .i64 (f k)) ∧ w = w' := by
  go_enter Try.func15, Try.ntmps15
  go_wp2_with fail
  refine (counter_in b k hk _).mono ?_
  rintro e w1 ⟨rfl, rfl⟩
  go_wp2_with fail
  refine (intLoad_any ⟨b, k, none⟩ (f k) _ (h.count k hk)).mono ?_
  rintro e w1 ⟨rfl, rfl⟩
  go_wp2
  go_ret
  exact ⟨rfl, rfl⟩

set_option maxHeartbeats 400000 in
theorem value_out (b : Nat) (k : Int) (hk : k < 0 ∨ 5 ≤ k) (w : World) :
    Calls Try.prog 15 #[.pointer (some ⟨b, 0, none⟩), .int .i64 k] w fun e w' => e = .returned (.int .i64 0) ∧ w = w' := by
  go_enter Try.func15, Try.ntmps15
  go_wp2_with fail
  refine (counter_out b k hk _).mono ?_
  rintro e w1 ⟨rfl, rfl⟩
  go_wp2
  go_ret
  exact ⟨rfl, rfl⟩

set_option maxHeartbeats 400000 in
theorem raise_up (b k : Nat) (hk : k < 5) (n : Int) (f : Nat → Int) (hn : f k < n) (d l s : Int) (w : World) (h : Met w b f d l s) :
    Calls Try.prog 14 #[.pointer (some ⟨b, 0, none⟩), .int .i64 k, .int .i64 n] w fun e w' => e = .returned (.bool true) ∧ Met w' b (upd f k n) d l s ∧ Turn (fun j => j = b) w w' := by
  go_enter Try.func14, Try.ntmps14
  go_wp2_with fail
  refine (counter_in b k hk _).mono ?_
  rintro e w1 ⟨rfl, rfl⟩
  go_wp2_with fail
  go_loopw [8] (fun _ w1 => w1 = w) (fun _ _ => 0)
  case atStart => rfl
  case round =>
    obtain rfl := hrel
    go_wp2_with fail
    refine (intLoad_any ⟨b, k, none⟩ (f k) _ (h.count k hk)).mono ?_
    rintro e w1 ⟨rfl, rfl⟩
    go_wp2_with fail
    refine (intCas_hit ⟨b, k, none⟩ (f k) n _ (h.count k hk) (h.frozen k)).mono ?_
    rintro e w1 ⟨rfl, e1⟩
    go_wp2
    go_ret
    subst e1
    exact ⟨rfl, h.set k hk _, Turn.here k _⟩

set_option maxHeartbeats 400000 in
theorem raise_not (b k : Nat) (hk : k < 5) (n : Int) (f : Nat → Int) (hn : ¬ f k < n) (d l s : Int) (w : World) (h : Met w b f d l s) :
    Calls Try.prog 14 #[.pointer (some ⟨b, 0, none⟩), .int .i64 k, .int .i64 n] w fun e w' => e = .returned (.bool false) ∧ w = w' := by
  go_enter Try.func14, Try.ntmps14
  go_wp2_with fail
  refine (counter_in b k hk _).mono ?_
  rintro e w1 ⟨rfl, rfl⟩
  go_wp2_with fail
  go_loopw [8] (fun _ w1 => w1 = w) (fun _ _ => 0)
  case atStart => rfl
  case round =>
    obtain rfl := hrel
    have hn' : n ≤ f k := by omega
    go_wp2_with fail
    refine (intLoad_any ⟨b, k, none⟩ (f k) _ (h.count k hk)).mono ?_
    rintro e w1 ⟨rfl, rfl⟩
    go_wp2
    go_ret
    exact ⟨rfl, rfl⟩

set_option maxHeartbeats 400000 in
theorem raise_out (b : Nat) (k : Int) (hk : k < 0 ∨ 5 ≤ k) (n : Int) (w : World) :
    Calls Try.prog 14 #[.pointer (some ⟨b, 0, none⟩), .int .i64 k, .int .i64 n] w fun e w' => e = .returned (.bool false) ∧ w = w' := by
  go_enter Try.func14, Try.ntmps14
  go_wp2_with fail
  refine (counter_out b k hk _).mono ?_
  rintro e w1 ⟨rfl, rfl⟩
  go_wp2
  go_ret
  exact ⟨rfl, rfl⟩

set_option maxHeartbeats 400000 in
theorem stopped_any (b : Nat) (f : Nat → Int) (d l s : Int) (w : World) (h : Met w b f d l s) :
    Calls Try.prog 9 #[.pointer (some ⟨b, 0, none⟩)] w fun e w' => e = .returned (.bool (s != 0)) ∧ w = w' := by
  go_enter Try.func9, Try.ntmps9
  go_wp2_with fail
  refine (boolLoad_any ⟨b, 8, none⟩ s _ h.stop).mono ?_
  rintro e w1 ⟨rfl, rfl⟩
  go_wp2
  go_ret
  exact ⟨rfl, rfl⟩

/-- The cells of an array of five numbers. -/
def acells (g : Nat → Int) : Array Value := #[.int .i64 (g 0), .int .i64 (g 1), .int .i64 (g 2), .int .i64 (g 3), .int .i64 (g 4)]

theorem acells_at (g : Nat → Int) (k : Nat) (hk : k < 5) : (acells g)[k]? = some (.int .i64 (g k)) := by
  match k, hk with
  | 0, _ => rfl
  | 1, _ => rfl
  | 2, _ => rfl
  | 3, _ => rfl
  | 4, _ => rfl

theorem acells_set (g : Nat → Int) (x : Int) (k : Nat) (hk : k < 5) : (acells g).setIfInBounds k (.int .i64 x) = acells (upd g k x) := by
  match k, hk with
  | 0, _ => rfl
  | 1, _ => rfl
  | 2, _ => rfl
  | 3, _ => rfl
  | 4, _ => rfl

/-- The first k numbers, and noughts. -/
def part (f : Nat → Int) (k : Nat) : Nat → Int := fun i => if i < k then f i else 0

theorem part_next (f : Nat → Int) (k : Nat) : upd (part f k) k (f k) = part f (k + 1) := by
  funext i
  unfold upd part
  by_cases h : i = k
  · subst h; simp
  · simp only [h, if_false]
    by_cases h2 : i < k
    · rw [if_pos h2, if_pos (by omega)]
    · rw [if_neg h2, if_neg (by omega)]

theorem acells_part (f : Nat → Int) : acells (part f 5) = acells f := rfl

set_option maxHeartbeats 1000000 in
set_option maxRecDepth 100000 in
theorem all_any (b : Nat) (f : Nat → Int) (d l s : Int) (w : World) (h : Met w b f d l s) :
    Calls Try.prog 18 #[.pointer (some ⟨b, 0, none⟩)] w fun e w' => e = .returned (.agg (acells f)) ∧ Turn (fun _ => False) w w' := by
  go_enter Try.func18, Try.ntmps18
  go_wp2_with fail
  go_loopw [4, 5] (fun _ i w1 => ∃ k : Nat, k ≤ 5 ∧ i = .int .i64 k ∧ At 32 w1 (w.heap.size + 1) (acells (part f k)) ∧ At 32 w1 w.heap.size (acells (fun _ => 0)) ∧ Turn (fun _ => False) w w1) (fun _ i _ => (5 - intOf i).toNat)
  case atStart =>
    refine ⟨0, by omega, rfl, ?_, ?_, ?_⟩
    · have := At.new 32 (w.alloc (.cells (acells (fun _ => 0)) 32)) (acells (fun _ => 0))
      rw [show (w.alloc (.cells (acells (fun _ => 0)) 32)).heap.size = w.heap.size + 1 by simp] at this
      exact this
    · exact (At.new 32 w (acells (fun _ => 0))).kept (S := fun _ => False) ((Turn.refl _ _).alloc _) (fun h => h)
    · exact ((Turn.refl _ _).alloc _).alloc _
  case round =>
    obtain ⟨k, hk, rfl, ha, hr, ht⟩ := hrel
    by_cases hlt : k < 5
    · have hx := ha.cell k
      rw [acells_at _ k hlt] at hx
      have hf := ha.frozen k
      have hm := h.kept ht (fun h => h)
      go_wp2_with fail
      refine (value_in b k hlt f d l s _ hm).mono ?_
      rintro e w1 ⟨rfl, rfl⟩
      have ha1 := ha.set k (.int .i64 (f k))
      rw [acells_set _ _ k hlt, part_next] at ha1
      have hr1 := hr.kept (S := fun j => j = w.heap.size + 1) (w' := wr.setCell ⟨w.heap.size + 1, k, none⟩ (.int .i64 (f k))) (Turn.here k _) (by omega)
      have ht1 := ht.setCell (p := ⟨w.heap.size + 1, k, none⟩) (.inr (Nat.le_succ _)) (.int .i64 (f k))
      go_wp2
      go_roundw
      case rel => exact ⟨k + 1, by omega, by go_num, ha1, hr1, ht1⟩
      case measure => simp [intOf]; omega
    · obtain rfl : k = 5 := by omega
      have l0 : wr.cell? ⟨w.heap.size + 1, 0, none⟩ = some (.int .i64 (f 0)) := ha.cell 0
      have l1 : wr.cell? ⟨w.heap.size + 1, 1, none⟩ = some (.int .i64 (f 1)) := ha.cell 1
      have l2 : wr.cell? ⟨w.heap.size + 1, 2, none⟩ = some (.int .i64 (f 2)) := ha.cell 2
      have l3 : wr.cell? ⟨w.heap.size + 1, 3, none⟩ = some (.int .i64 (f 3)) := ha.cell 3
      have l4 : wr.cell? ⟨w.heap.size + 1, 4, none⟩ = some (.int .i64 (f 4)) := ha.cell 4
      have r0 : wr.cell? ⟨w.heap.size, 0, none⟩ = some (.int .i64 0) := hr.cell 0
      have r1 : wr.cell? ⟨w.heap.size, 1, none⟩ = some (.int .i64 0) := hr.cell 1
      have r2 : wr.cell? ⟨w.heap.size, 2, none⟩ = some (.int .i64 0) := hr.cell 2
      have r3 : wr.cell? ⟨w.heap.size, 3, none⟩ = some (.int .i64 0) := hr.cell 3
      have r4 : wr.cell? ⟨w.heap.size, 4, none⟩ = some (.int .i64 0) := hr.cell 4
      have z0 := hr.frozen 0
      have z1 := hr.frozen 1
      have z2 := hr.frozen 2
      have z3 := hr.frozen 3
      have z4 := hr.frozen 4
      have hat : At 32 (((((wr.setCell ⟨w.heap.size, 0, none⟩ (.int .i64 (f 0))).setCell ⟨w.heap.size, 1, none⟩ (.int .i64 (f 1))).setCell ⟨w.heap.size, 2, none⟩ (.int .i64 (f 2))).setCell ⟨w.heap.size, 3, none⟩ (.int .i64 (f 3))).setCell ⟨w.heap.size, 4, none⟩ (.int .i64 (f 4))) w.heap.size (acells f) :=
        ((((hr.set 0 _).set 1 _).set 2 _).set 3 _).set 4 _
      have hte : Turn (fun _ => False) w (((((wr.setCell ⟨w.heap.size, 0, none⟩ (.int .i64 (f 0))).setCell ⟨w.heap.size, 1, none⟩ (.int .i64 (f 1))).setCell ⟨w.heap.size, 2, none⟩ (.int .i64 (f 2))).setCell ⟨w.heap.size, 3, none⟩ (.int .i64 (f 3))).setCell ⟨w.heap.size, 4, none⟩ (.int .i64 (f 4))) :=
        ((((ht.setCell (.inr (Nat.le_refl _)) _).setCell (.inr (Nat.le_refl _)) _).setCell (.inr (Nat.le_refl _)) _).setCell (.inr (Nat.le_refl _)) _).setCell (.inr (Nat.le_refl _)) _
      go_wp2
      refine bodyPost_ret (results_cell_row rfl _ _ w.heap.size 32 (acells f) (0, 0) _ rfl hat Try.underlying32 rfl (by kernel_rfl)) rfl ?_
      exact ⟨rfl, hte⟩

end Go.Proofs.Ytdfamclggeaejaa
