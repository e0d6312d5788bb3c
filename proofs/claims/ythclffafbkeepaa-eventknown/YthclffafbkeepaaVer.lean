/- What each function of package version answers: whose a number is, whether it is a version, which one comes next. -/
import Derived.Test.YthclffafbkeepaaHand
namespace Go.Proofs.Ythclffafbkeepaa
open Go.RowKit

def regB (r : Int) : Bool := decide (1 ≤ r ∧ r ≤ 8)
def rightB (v : Int) : Bool := decide (1 ≤ v ∧ v ≤ 1099511627776 ∧ 1 ≤ v % 10 ∧ v % 10 ≤ 8)
/-- The least number above v of which r is the owner. -/
def nextV (v r : Int) : Int := v + ((r - v - 1) % 10 + 1)
/-- What Next tells. -/
def nextT (v r : Int) : Int × Int := if regB r = true ∧ (v = 0 ∨ rightB v = true) then (if nextV v r > 1099511627776 then (0, 2) else (nextV v r, 0)) else (0, 1)

theorem tmod10 (n : Int) : (wrap64 (n.tmod 10 + 10)).tmod 10 = n % 10 := by
  have h0 := Int.emod_nonneg n (show (10 : Int) ≠ 0 by omega)
  have h1 := Int.emod_lt_of_pos n (show (0 : Int) < 10 by omega)
  have e := Int.tmod_eq_emod (a := n) (b := 10)
  have hw : wrap64 (n.tmod 10 + 10) = n.tmod 10 + 10 := by
    unfold wrap64
    split at e <;> omega
  rw [hw, Int.tmod_eq_emod_of_nonneg (by split at e <;> omega)]
  split at e <;> omega

theorem owner_any (v : Int) (w : World) : Calls Try.prog 50 #[.int .i64 v] w fun e w' => e = .returned (.int .i64 (v % 10)) ∧ w = w' := by
  go_enter Try.func50, Try.ntmps50
  go_wp2
  go_ret
  exact ⟨ret_int (tmod10 v), rfl⟩

theorem isRegion_any (r : Int) (w : World) : Calls Try.prog 49 #[.int .i64 r] w fun e w' => e = .returned (.bool (regB r)) ∧ w = w' := by
  by_cases h1 : 1 ≤ r
  · by_cases h2 : r ≤ 8
    · have hr : regB r = true := decide_eq_true ⟨h1, h2⟩
      rw [hr]
      go_enter Try.func49, Try.ntmps49
      go_wp2
      go_ret
      exact ⟨rfl, rfl⟩
    · have hr : regB r = false := decide_eq_false fun h => h2 h.2
      rw [hr]
      go_enter Try.func49, Try.ntmps49
      go_wp2
      go_ret
      exact ⟨rfl, rfl⟩
  · have hr : regB r = false := decide_eq_false fun h => h1 h.1
    rw [hr]
    go_enter Try.func49, Try.ntmps49
    go_wp2
    go_ret
    exact ⟨rfl, rfl⟩

theorem right_any (v : Int) (w : World) : Calls Try.prog 37 #[.int .i64 v] w fun e w' => e = .returned (.bool (rightB v)) ∧ w = w' := by
  by_cases h1 : 1 ≤ v
  · by_cases h2 : v ≤ 1099511627776
    · have hr : rightB v = regB (v % 10) := by simp [rightB, regB, h1, h2]
      rw [hr]
      go_enter Try.func37, Try.ntmps37
      go_wp2_with (first
        | (go_at_call 50; refine (owner_any _ _).mono ?_; rintro e w' ⟨rfl, rfl⟩)
        | (go_at_call 49; refine (isRegion_any _ _).mono ?_; rintro e w' ⟨rfl, rfl⟩))
      go_ret
      exact ⟨rfl, rfl⟩
    · have hr : rightB v = false := decide_eq_false fun h => h2 h.2.1
      rw [hr]
      go_enter Try.func37, Try.ntmps37
      go_wp2
      go_ret
      exact ⟨rfl, rfl⟩
  · have hr : rightB v = false := decide_eq_false fun h => h1 h.1
    rw [hr]
    go_enter Try.func37, Try.ntmps37
    go_wp2
    go_ret
    exact ⟨rfl, rfl⟩

theorem right_bounds {v : Int} (h : v = 0 ∨ rightB v = true) : 0 ≤ v ∧ v ≤ 1099511627776 := by
  rcases h with rfl | h
  · omega
  · simp only [rightB, decide_eq_true_eq] at h
    omega

theorem reg_bounds {r : Int} (h : regB r = true) : 1 ≤ r ∧ r ≤ 8 := by
  simpa only [regB, decide_eq_true_eq] using h

theorem nextV_bounds {v r : Int} (hr : 1 ≤ r ∧ r ≤ 8) : v < nextV v r ∧ nextV v r ≤ v + 10 ∧ nextV v r % 10 = r := by
  unfold nextV
  omega

end Go.Proofs.Ythclffafbkeepaa
