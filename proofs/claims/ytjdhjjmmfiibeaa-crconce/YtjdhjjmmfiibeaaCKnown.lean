/- The closed sentence of chapter 2: its walk. -/
import Derived.Test.YtjdhjjmmfiibeaaSummed
import Derived.Test.YtjdhjjmmfiibeaaLit
namespace Go.Proofs.Ytjdhjjmmfiibeaa
open Go.RowKit

/-- A Table of the law's own, beyond B, and nothing else turned. -/
structure Own (w w' : World) (b : Nat) (used : Bool) : Prop where
  tab : Tab w' b used
  turn : Turn (fun _ => False) w w'
  new : w.heap.size ≤ b

theorem Own.start (w : World) : Own w (w.alloc (.cells tabZero 54)) w.heap.size false := ⟨Tab.new w, (Turn.refl _ _).alloc _, Nat.le_refl _⟩

theorem Own.sum {w w1 w2 : World} {b : Nat} {u : Bool} (h : Own w w1 b u) (h2 : Tab w2 b true) (t : Turn (fun k => k = b) w1 w2) : Own w w2 b true :=
  ⟨h2, h.turn.trans' t (fun i hi e => by have := h.new; omega), h.new⟩

theorem Own.goes {w w1 w2 : World} {b : Nat} {u : Bool} (h : Own w w1 b u) (t : Turn (fun _ => False) w1 w2) : Own w w2 b u :=
  ⟨h.tab.kept t (fun h => h), h.turn.trans t, h.new⟩

set_option maxHeartbeats 1000000 in
set_option maxRecDepth 100000 in
theorem crcExample_any (w : World) : Calls Try.prog 8 #[] w fun e w' => e = .returned (.bool true) ∧ Turn (fun _ => False) w w' := by
  go_enter Try.func8, Try.ntmps8
  go_wp2_with fail
  refine (new_any w).mono ?_
  rintro e w1 ⟨rfl, e1⟩
  have h1 : Own w w1 w.heap.size false := e1 ▸ Own.start w
  generalize w.heap.size = b at h1 ⊢
  clear e1
  go_wp2_with fail
  refine (made_any b false w1 h1.tab).mono ?_
  rintro e w2 ⟨rfl, rfl⟩
  obtain ⟨w3, hcv, hs3, t3⟩ := run_lit w1 [49, 50, 51, 52, 53, 54, 55, 56, 57] (by simp [maxLen])
  have h3 := h1.goes t3
  have hlt := h1.tab.lt
  simp [u8s] at hcv
  simp only [List.length_cons, List.length_nil, Nat.zero_add, Nat.reduceAdd] at hs3
  go_wp2_with fail
  refine (sum_any b _ _ false w3 h3.tab hs3 (fun _ e => by simp [slab] at e; omega)).mono ?_
  rintro e w4 ⟨rfl, h4, t4⟩
  have h5 := h3.sum h4 t4
  clear t4 h4 h3 t3 hs3 hcv h1 hlt
  rw [csum_nine]
  go_wp2_with fail
  refine (made_any b true w4 h5.tab).mono ?_
  rintro e w5 ⟨rfl, rfl⟩
  go_wp2
  go_ret
  exact ⟨rfl, h5.turn⟩

set_option maxHeartbeats 1000000 in
set_option maxRecDepth 100000 in
theorem crcKnown_any (w : World) : Calls Try.prog 3 #[] w fun e w' => e = .returned (.bool true) ∧ Turn (fun _ => False) w w' := by
  go_enter Try.func3, Try.ntmps3
  go_wp2_with fail
  refine (new_any w).mono ?_
  rintro e w1 ⟨rfl, e1⟩
  have h1 : Own w w1 w.heap.size false := e1 ▸ Own.start w
  generalize w.heap.size = b at h1 ⊢
  clear e1
  go_wp2_with fail
  refine (crcExample_any w1).mono ?_
  rintro e w2 ⟨rfl, t2⟩
  have h2 := h1.goes t2
  clear h1 t2
  go_wp2_with fail
  refine (sum_any b _ [] false w2 h2.tab (Sees.nil _) (fun h => by simp at h)).mono ?_
  rintro e w3 ⟨rfl, h3, t3⟩
  have h3 := h2.sum h3 t3
  clear h2 t3
  rw [csum_nil]
  obtain ⟨w4, hcv, hs4, t4⟩ := run_lit w3 [97] (by simp [maxLen])
  have h4 := h3.goes t4
  have hlt := h3.tab.lt
  simp [u8s] at hcv
  simp only [List.length_cons, List.length_nil, Nat.zero_add] at hs4
  go_wp2_with fail
  refine (sum_any b _ _ true w4 h4.tab hs4 (fun _ e => by simp [slab] at e; omega)).mono ?_
  rintro e w5 ⟨rfl, h5, t5⟩
  have h5 := h4.sum h5 t5
  clear h4 t5 hs4 hcv h3 hlt t4
  rw [csum_a]
  have hlt := h5.tab.lt
  have hs6 := Sees.lit w5 [0] 5 (by simp [maxLen])
  have h6 := h5.goes ((Turn.refl _ w5).alloc (.cells (u8s [0]).toArray 5))
  simp [u8s] at hs6 h6
  go_wp2_with fail
  refine (sum_any b _ [0] true _ h6.tab hs6 (fun _ e => by simp [slab] at e; omega)).mono ?_
  rintro e w7 ⟨rfl, h7, t7⟩
  have h7 := h6.sum h7 t7
  clear h6 t7 hs6 h5 hlt
  rw [csum_zero]
  go_wp2_with fail
  refine (made_any b true w7 h7.tab).mono ?_
  rintro e w5 ⟨rfl, rfl⟩
  go_wp2
  go_ret
  exact ⟨rfl, h7.turn⟩

end Go.Proofs.Ytjdhjjmmfiibeaa
