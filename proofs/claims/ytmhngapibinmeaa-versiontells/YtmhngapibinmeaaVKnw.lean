/- Chapter 8's examples: the closed law's walk. -/
import Derived.Test.YtmhngapibinmeaaVer
namespace Go.Proofs.Ytmhngapibinmeaa
open Go.RowKit

theorem nx1 : nextT 1 2 = (2, 0) := by decide
theorem nx2 : nextT 12 2 = (22, 0) := by decide
theorem nx3 : nextT 12 1 = (21, 0) := by decide
theorem nx4 : nextT 1 9 = (0, 1) := by decide
theorem nx5 : nextT 9 1 = (0, 1) := by decide
theorem nx6 : nextT (-1) 1 = (0, 1) := by decide
theorem nx7 : nextT 0 8 = (8, 0) := by decide
theorem nx8 : nextT 1099511627761 8 = (1099511627768, 0) := by decide
theorem rt1 : rightB 8 = true := by decide
theorem rt2 : rightB 9 = false := by decide
theorem rt3 : rightB 10 = false := by decide
theorem rt4 : rightB 0 = false := by decide
theorem rt5 : rightB (-3) = false := by decide
theorem rg1 : regB 3 = true := by decide
theorem rg2 : regB 9 = false := by decide

theorem vknown_any (w : World) : Calls Try.prog 8 #[] w fun e w' => e = .returned (.bool true) ∧ w = w' := by
  go_enter Try.func8, Try.ntmps8
  go_wp2_with (go_at_call 7; refine (next_any _ _ _).mono ?_; (first | rw [nx1] | rw [nx2] | rw [nx3]); rintro e w' ⟨rfl, rfl⟩)
  go_ret
  exact ⟨rfl, rfl⟩

set_option maxHeartbeats 4000000 in
set_option maxRecDepth 100000 in
theorem versionKnown_any (w : World) : Calls Try.prog 3 #[] w fun e w' => e = .returned (.bool true) ∧ w = w' := by
  go_enter Try.func3, Try.ntmps3
  go_wp2_with (first
    | (go_at_call 8; refine (vknown_any _).mono ?_; rintro e w' ⟨rfl, rfl⟩)
    | (go_at_call 7; refine (next_any _ _ _).mono ?_; (first | rw [nx4] | rw [nx5] | rw [nx6] | rw [nx7] | rw [nx8]); rintro e w' ⟨rfl, rfl⟩)
    | (go_at_call 9; refine (owner_any _ _).mono ?_; rintro e w' ⟨rfl, rfl⟩)
    | (go_at_call 10; refine (right_any _ _).mono ?_; (first | rw [rt1] | rw [rt2] | rw [rt3] | rw [rt4] | rw [rt5]); rintro e w' ⟨rfl, rfl⟩)
    | (go_at_call 11; refine (first_any _ _).mono ?_; (first | rw [rg1] | rw [rg2]); rintro e w' ⟨rfl, rfl⟩))
  go_ret
  exact ⟨rfl, rfl⟩

end Go.Proofs.Ytmhngapibinmeaa
