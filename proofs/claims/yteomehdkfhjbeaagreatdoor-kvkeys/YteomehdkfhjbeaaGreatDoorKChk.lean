/- kv's Checkpoint. -/
import Derived.Test.YteomehdkfhjbeaaGreatDoorKMade
import Derived.Test.YteomehdkfhjbeaaGreatDoorWRem
namespace Go.Proofs.YteomehdkfhjbeaaGreatDoor
open Go.RowKit

section
variable {w0 w w1 : World} {K Q : Nat → Prop} {sb mb l b f t N : Nat} {s : WSt} {m : List (List UInt8 × List UInt8)}

/-- The records of a checkpoint. -/
def recsOf (m : List (List UInt8 × List UInt8)) : List (List UInt8) := (madeC m).map Chg.laid

/-- What Checkpoint comes to. -/
def KCk (w0 : World) (K : Nat → Prop) (w : World) (sb mb l b f t N M : Nat) (s : WSt) (m : List (List UInt8 × List UInt8)) (e : Ending) (w' : World) : Prop :=
  Turn (KOuts w0 K sb mb) w w' ∧ ∃ K' : Nat → Prop, (∀ j, K j → K' j) ∧ ∃ ns, ((s.kept (recsOf m)).1 = 0 → (s.kept (recsOf m)).2.d.Nums ns) ∧
  (((s.checkpoint (recsOf m) ns).1 ≠ 0 ∧ e = .returned (.int .i64 14) ∧ KD w0 K' w' sb l b f t (N + M + 3) (s.checkpoint (recsOf m) ns).2) ∨
   ((s.checkpoint (recsOf m) ns).1 = 0 ∧ e = .returned (.int .i64 0) ∧ KS w0 K' w' sb mb l b f t (N + M + 3) (s.checkpoint (recsOf m) ns).2 m))

end

end Go.Proofs.YteomehdkfhjbeaaGreatDoor
