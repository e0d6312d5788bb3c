/- The reference's Right. -/
import Derived.Test.YthclffafbkeepaaEvD
import Derived.Test.YthclffafbkeepaaEvN
namespace Go.Proofs.Ythclffafbkeepaa
open Go.RowKit

def nodeK (k : Int) : Bool := k == 2 || k == 3 || k == 4
def nameK (k : Int) : Bool := k == 5 || k == 6 || k == 7
def dataK (k : Int) : Bool := k == 3 || k == 7

def baseB (e : EvP) : Bool := decide (1 ≤ e.id) && decide (e.id ≤ 200) && rightB e.ver && decide (0 ≤ e.time) && decide (e.time ≤ 1099511627776) && decide (1 ≤ e.kind) && decide (e.kind ≤ 12)
def defsP (e : EvP) : Bool := if e.kind = 1 then defsB e.defs else decide (e.defs.length = 0)
def nodeP (e : EvP) : Bool := if nodeK e.kind = true then decide (0 ≤ e.node) && decide (e.node < 8) && decide (1 ≤ e.n) && decide (e.n ≤ 5) else decide (e.node = 0)
def numP (e : EvP) : Bool := if e.kind = 5 then decide (1 ≤ e.n) && decide (e.n ≤ 1048576) else nodeK e.kind || decide (e.n = 0)
def nameP (e : EvP) : Bool := if nameK e.kind = true then nameB e.name else decide (e.name.size = 0)
def dataP (e : EvP) : Bool := if dataK e.kind = true then decide (e.data.length ≤ 40) else decide (e.data.length = 0)

/-- Whether an event may be. -/
def rightE (e : EvP) : Bool := baseB e && defsP e && nodeP e && numP e && nameP e && dataP e

theorem size_zero (xs : ByteArray) : xs.size = 0 ↔ xs = ⟨#[]⟩ := by
  constructor
  · intro h
    cases xs with
    | mk d => exact congrArg _ (Array.eq_empty_of_size_eq_zero h)
  · rintro rfl
    rfl

theorem some_bytes {xs : ByteArray} (z : ¬ xs = ⟨#[]⟩) : xs.toList.isEmpty = false := by
  rw [Lib.toList_data]
  cases h : xs.data.toList with
  | nil => exact absurd ((size_zero xs).1 (show xs.data.size = 0 by simpa using congrArg List.length h)) z
  | cons a b => rfl

section
variable {Q : Nat → Prop} {w : World} {dv fv : Value}

end

end Go.Proofs.Ythclffafbkeepaa
