/- Names of a few, out of the package's table, where that lies as it was laid. -/
import Derived.Test.YteomehdkfhjbeaaGreatDoorPkB
namespace Go.Proofs.YteomehdkfhjbeaaGreatDoor
open Go.RowKit

/-- The table, plainly. -/
def nam : Nat → ByteArray
  | 0 => ⟨#[97]⟩
  | 1 => ⟨#[98]⟩
  | 2 => ⟨#[106, 111, 98, 45, 49]⟩
  | 3 => ⟨#[122, 57]⟩
  | 4 => ⟨#[109]⟩
  | _ => ⟨#[120, 45]⟩

theorem nam_size (r : Nat) : 1 ≤ (nam r).size ∧ (nam r).size ≤ 5 := by
  unfold nam
  split <;> simp [ByteArray.size]

/-- The table lies in block 0. -/
def Names (w : World) : Prop := ∀ r, r < 6 → w.cell? ⟨0, r, none⟩ = some (.string (nam r))

theorem Names.kept {S : Nat → Prop} {w w' : World} (h : Names w) (t : Turn S w w') (hS : ¬ S 0) : Names w' := fun r hr => by
  have h0 := h 0 (by omega)
  have hl := World.block_lt_of_cell? _ _ h0
  exact (t.cell (p := ⟨0, r, none⟩) hl hS).trans (h r hr)

set_option maxHeartbeats 2000000 in
set_option maxRecDepth 100000 in
theorem name_any (n : Int) (w : World) (h : Names w) : Calls Tryz.prog 7 #[.int .i64 n] w fun e w' => e = .returned (.string (nam (n % 6).toNat)) ∧ w = w' := by
  obtain ⟨r, hr⟩ : ∃ r : Nat, n % 6 = (r : Int) := ⟨(n % 6).toNat, by omega⟩
  have hr6 : r < 6 := by omega
  have hc := h r hr6
  have HP := hide (pick_any n 6 w (by omega) (by omega))
  rw [hr] at HP ⊢
  have e : ((r : Int)).toNat = r := Int.toNat_natCast r
  rw [e]
  clear h hr e
  go_enter Tryz.func7, Tryz.ntmps7
  go_wp2_with fail
  refine (unhide HP).mono ?_
  rintro e w1 ⟨rfl, rfl⟩
  go_wp2
  go_ret
  exact ⟨rfl, rfl⟩

end Go.Proofs.YteomehdkfhjbeaaGreatDoor
