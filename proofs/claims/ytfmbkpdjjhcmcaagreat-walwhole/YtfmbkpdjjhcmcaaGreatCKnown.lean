/- The closed sentence of chapter 2: its walk. -/
import Derived.Test.YtfmbkpdjjhcmcaaGreatSummed
import Derived.Test.YtfmbkpdjjhcmcaaGreatLit
namespace Go.Proofs.YtfmbkpdjjhcmcaaGreat
open Go.RowKit

/-- A Table of the law's own, beyond B, and nothing else turned. -/
structure Own (w w' : World) (b : Nat) (used : Bool) : Prop where
  tab : Tab w' b used
  turn : Turn (fun _ => False) w w'
  new : w.heap.size ≤ b

theorem Own.start (w : World) : Own w (w.alloc (.cells tabZero 136)) w.heap.size false := ⟨Tab.new w, (Turn.refl _ _).alloc _, Nat.le_refl _⟩

theorem Own.sum {w w1 w2 : World} {b : Nat} {u : Bool} (h : Own w w1 b u) (h2 : Tab w2 b true) (t : Turn (fun k => k = b) w1 w2) : Own w w2 b true :=
  ⟨h2, h.turn.trans' t (fun i hi e => by have := h.new; omega), h.new⟩

theorem Own.goes {w w1 w2 : World} {b : Nat} {u : Bool} (h : Own w w1 b u) (t : Turn (fun _ => False) w1 w2) : Own w w2 b u :=
  ⟨h.tab.kept t (fun h => h), h.turn.trans t, h.new⟩

end Go.Proofs.YtfmbkpdjjhcmcaaGreat
