/- The reference's rightDefs. -/
import Derived.Test.YthclffafbkeepaaEvM
import Derived.BigQuiet
import Derived.Deep.CutRange
import Derived.Deep.CutBlock
namespace Go.Proofs.Ythclffafbkeepaa
open Go.RowKit

/-- Whether needs rise from behind p on, below m. -/
def needsR (m : Int) : Int → List Int → Bool
  | _, [] => true
  | p, x :: r => decide (0 ≤ x) && decide (x < m) && decide (p < x) && needsR m x r

/-- Whether a node may be, in a graph of m. -/
def defB (m : Int) (d : Df) : Bool := decide (1 ≤ d.2.1) && decide (d.2.1 ≤ 5) && decide (1 ≤ d.2.2) && decide (d.2.2 ≤ 1048576) && needsR m (-1) d.1

/-- Whether a graph may be, as far as its numbers go. -/
def defsB (ds : List Df) : Bool := ds.all (defB ds.length) && decide (1 ≤ ds.length) && decide (ds.length ≤ 8)

theorem turn_drewNE (S : Nat → Prop) (w : World) (n : Nat) : Turn S w (w.drewN n) := ⟨rfl, rfl, rfl, Nat.le_refl _, fun _ _ _ => rfl⟩

/-- Where the inner loop stands. -/
def NeAt (m : Int) (xs : List Int) (k : Nat) (wx wr : World) : Prop :=
  ∃ p : Int, (k = 0 → p = -1) ∧ (∀ j, k = j + 1 → xs[j]? = some p) ∧ needsR m (-1) xs = needsR m p (xs.drop k) ∧ Turn (fun _ => False) wx wr

section
variable {Q : Nat → Prop} {w : World} {a : Value}

end

end Go.Proofs.Ythclffafbkeepaa
