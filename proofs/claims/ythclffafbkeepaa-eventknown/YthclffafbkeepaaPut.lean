/- One byte of a slice of one's own, read and stored. -/
import Derived.Test.YthclffafbkeepaaBase
namespace Go.Proofs.Ythclffafbkeepaa
open Go.RowKit

theorem Owns.at {w : World} {g cap : Nat} {bs : List UInt8} (h : Owns w (.slice (some ⟨g, 0, none⟩) bs.length cap) bs) (j : Nat) (hj : j < bs.length) : w.cell? ⟨g, j, none⟩ = some (.int .u8 (bs[j].toNat : Int)) := by
  rw [World.ownsRow.cellAt h j (by omega)]
  simp [u8s, hj]

theorem Owns.frozenAt {w : World} {g cap : Nat} {bs : List UInt8} (h : Owns w (.slice (some ⟨g, 0, none⟩) bs.length cap) bs) (j : Nat) : w.frozen? ⟨g, j, none⟩ = false := World.ownsRow.frozenAt h j

theorem u8s_set (bs : List UInt8) (j : Nat) (y : UInt8) : u8s (bs.set j y) = (u8s bs).set j (.int .u8 (y.toNat : Int)) := by simp [u8s, List.map_set]

theorem Owns.put {w : World} {g cap : Nat} {bs : List UInt8} (h : Owns w (.slice (some ⟨g, 0, none⟩) bs.length cap) bs) (j : Nat) (y : UInt8) : Owns (w.setCell ⟨g, j, none⟩ (.int .u8 (y.toNat : Int))) (.slice (some ⟨g, 0, none⟩) (bs.set j y).length cap) (bs.set j y) := by
  unfold Owns
  rw [u8s_set, List.length_set]
  exact (World.ownsRow.stored h j _).1

end Go.Proofs.Ythclffafbkeepaa
