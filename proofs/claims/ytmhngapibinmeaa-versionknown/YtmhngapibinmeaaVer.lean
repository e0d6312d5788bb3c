/- What each function of package version answers: whose a number is, whether it is a version, which one comes next. -/
import Derived.Test.YtmhngapibinmeaaHand
namespace Go.Proofs.Ytmhngapibinmeaa
open Go.RowKit

def regB (r : Int) : Bool := decide (1 ≤ r ∧ r ≤ 8)
def rightB (v : Int) : Bool := decide (1 ≤ v ∧ v ≤ 1099511627776 ∧ 1 ≤ v % 10 ∧ v % 10 ≤ 8)
/-- The least number above v of which r is the owner. -/
def nextV (v r : Int) : Int := v + ((r - v - 1) % 10 + 1)
/-- What Next tells. -/
def nextT (v r : Int) : Int × Int := if regB r = true ∧ (v = 0 ∨ rightB v = true) then (if nextV v r > 1099511627776 then (0, 2) else (nextV v r, 0)) else (0, 1)

theorem tmod10 (n : Int) : (wrap64 (n.tmod 10 + 10)).tmod 10 = n % 10 := by
  have h0 := Int.emod_nonneg n (show (10 : Int) ≠ 0 by omega)
  have h1 := Int.emod_lt_of_pos n (show (0 : Int) < 10 by omega)
  have e := Int.tmod_eq_emod (a := n) (b := 10)
  have hw : wrap64 (n.tmod 10 + 10) = n.tmod 10 + 10 := by
    unfold wrap64
    split at e <;> omega
  rw [hw, Int.tmod_eq_emod_of_nonneg (by split at e <;> omega)]
  split at e <;> omega

theorem owner_any (v : Int) (w : World) : Calls Try.prog 9 #[.int .i64 v] w fun e w' => e = .returned (.int .i64 (v % 10)) ∧ w = w' := by
  go_enter Try.func9, Try.ntmps9
  go_wp2
  go_ret
  exact ⟨ret_int (tmod10 v), rfl⟩

theorem isRegion_any (r : Int) (w : World) : Calls Try.prog 17 #[.int .i64 r] w fun e w' => e = .returned (.bool (regB r)) ∧ w = w' := by
  by_cases h1 : 1 ≤ r
  · by_cases h2 : r ≤ 8
    · have hr : regB r = true := decide_eq_true ⟨h1, h2⟩
      rw [hr]
      go_enter Try.func17, Try.ntmps17
      go_wp2
      go_ret
      exact ⟨rfl, rfl⟩
    · have hr : regB r = false := decide_eq_false fun h => h2 h.2
      rw [hr]
      go_enter Try.func17, Try.ntmps17
      go_wp2
      go_ret
      exact ⟨rfl, rfl⟩
  · have hr : regB r = false := decide_eq_false fun h => h1 h.1
    rw [hr]
    go_enter Try.func17, Try.ntmps17
    go_wp2
    go_ret
    exact ⟨rfl, rfl⟩

theorem first_any (r : Int) (w : World) : Calls Try.prog 11 #[.int .i64 r] w fun e w' => e = .returned (.int .i64 (if regB r = true then r else 0)) ∧ w = w' := by
  rcases hb : regB r with _ | _
  · go_enter Try.func11, Try.ntmps11
    go_wp2_with (go_at_call 17; refine (isRegion_any _ _).mono ?_; rw [hb]; rintro e w' ⟨rfl, rfl⟩)
    go_ret
    exact ⟨rfl, rfl⟩
  · go_enter Try.func11, Try.ntmps11
    go_wp2_with (go_at_call 17; refine (isRegion_any _ _).mono ?_; rw [hb]; rintro e w' ⟨rfl, rfl⟩)
    go_ret
    exact ⟨rfl, rfl⟩

theorem right_any (v : Int) (w : World) : Calls Try.prog 10 #[.int .i64 v] w fun e w' => e = .returned (.bool (rightB v)) ∧ w = w' := by
  by_cases h1 : 1 ≤ v
  · by_cases h2 : v ≤ 1099511627776
    · have hr : rightB v = regB (v % 10) := by simp [rightB, regB, h1, h2]
      rw [hr]
      go_enter Try.func10, Try.ntmps10
      go_wp2_with (first
        | (go_at_call 9; refine (owner_any _ _).mono ?_; rintro e w' ⟨rfl, rfl⟩)
        | (go_at_call 17; refine (isRegion_any _ _).mono ?_; rintro e w' ⟨rfl, rfl⟩))
      go_ret
      exact ⟨rfl, rfl⟩
    · have hr : rightB v = false := decide_eq_false fun h => h2 h.2.1
      rw [hr]
      go_enter Try.func10, Try.ntmps10
      go_wp2
      go_ret
      exact ⟨rfl, rfl⟩
  · have hr : rightB v = false := decide_eq_false fun h => h1 h.1
    rw [hr]
    go_enter Try.func10, Try.ntmps10
    go_wp2
    go_ret
    exact ⟨rfl, rfl⟩

theorem right_bounds {v : Int} (h : v = 0 ∨ rightB v = true) : 0 ≤ v ∧ v ≤ 1099511627776 := by
  rcases h with rfl | h
  · omega
  · simp only [rightB, decide_eq_true_eq] at h
    omega

theorem reg_bounds {r : Int} (h : regB r = true) : 1 ≤ r ∧ r ≤ 8 := by
  simpa only [regB, decide_eq_true_eq] using h

theorem step_any (v r : Int) (w : World) (hv : 0 ≤ v ∧ v ≤ 1099511627776) (hr : 1 ≤ r ∧ r ≤ 8) : Calls Try.prog 18 #[.int .i64 v, .int .i64 r] w fun e w' => e = .returned (.int .i64 ((r - v - 1) % 10 + 1)) ∧ w = w' := by
  go_enter Try.func18, Try.ntmps18
  go_wp2_with (go_at_call 9; refine (owner_any _ _).mono ?_; rintro e w' ⟨rfl, rfl⟩)
  go_ret
  exact ⟨rfl, rfl⟩

theorem nextV_bounds {v r : Int} (hr : 1 ≤ r ∧ r ≤ 8) : v < nextV v r ∧ nextV v r ≤ v + 10 ∧ nextV v r % 10 = r := by
  unfold nextV
  omega

theorem next_any (v r : Int) (w : World) : Calls Try.prog 7 #[.int .i64 v, .int .i64 r] w fun e w' => e = .returned (.tuple #[.int .i64 (nextT v r).1, .int .i64 (nextT v r).2]) ∧ w = w' := by
  rcases hb : regB r with _ | _
  · have hn : nextT v r = (0, 1) := by simp [nextT, hb]
    rw [hn]
    go_enter Try.func7, Try.ntmps7
    go_wp2_with (go_at_call 17; refine (isRegion_any _ _).mono ?_; rw [hb]; rintro e w' ⟨rfl, rfl⟩)
    refine bodyPost_ret (results_tmp2 rfl _ _ _) rfl ?_
    exact ⟨rfl, rfl⟩
  by_cases h0 : v = 0 ∨ rightB v = true
  · have hvb := right_bounds h0
    have hrb := reg_bounds hb
    have hnb := nextV_bounds (v := v) hrb
    have hw : wrap64 (v + ((r - v - 1) % 10 + 1)) = nextV v r := by
      unfold nextV at hnb ⊢
      unfold wrap64
      omega
    by_cases hf : nextV v r > 1099511627776
    · have hn : nextT v r = (0, 2) := by simp [nextT, hb, h0, hf]
      rw [hn]
      rcases h0 with rfl | h0
      · exfalso; omega
      · have hz : v ≠ 0 := by
          rintro rfl
          simp [rightB] at h0
        go_enter Try.func7, Try.ntmps7
        go_wp2_with (first
          | (go_at_call 17; refine (isRegion_any _ _).mono ?_; rw [hb]; rintro e w' ⟨rfl, rfl⟩)
          | (go_at_call 10; refine (right_any _ _).mono ?_; rw [h0]; rintro e w' ⟨rfl, rfl⟩)
          | (go_at_call 18; refine (step_any _ _ _ hvb hrb).mono ?_; rintro e w' ⟨rfl, rfl⟩))
        refine bodyPost_ret (results_tmp2 rfl _ _ _) rfl ?_
        exact ⟨rfl, rfl⟩
    · have hn : nextT v r = (nextV v r, 0) := by simp [nextT, hb, h0, hf]
      rw [hn]
      rcases h0 with rfl | h0
      · have e0 : nextV 0 r = (r - 1) % 10 + 1 := by unfold nextV; omega
        go_enter Try.func7, Try.ntmps7
        go_wp2_with (first
          | (go_at_call 17; refine (isRegion_any _ _).mono ?_; rw [hb]; rintro e w' ⟨rfl, rfl⟩)
          | (go_at_call 18; refine (step_any _ _ _ hvb hrb).mono ?_; rintro e w' ⟨rfl, rfl⟩))
        refine bodyPost_ret (results_tmp2 rfl _ _ _) rfl ?_
        exact ⟨by rw [e0]; rfl, rfl⟩
      · have hz : v ≠ 0 := by
          rintro rfl
          simp [rightB] at h0
        go_enter Try.func7, Try.ntmps7
        go_wp2_with (first
          | (go_at_call 17; refine (isRegion_any _ _).mono ?_; rw [hb]; rintro e w' ⟨rfl, rfl⟩)
          | (go_at_call 10; refine (right_any _ _).mono ?_; rw [h0]; rintro e w' ⟨rfl, rfl⟩)
          | (go_at_call 18; refine (step_any _ _ _ hvb hrb).mono ?_; rintro e w' ⟨rfl, rfl⟩))
        refine bodyPost_ret (results_tmp2 rfl _ _ _) rfl ?_
        exact ⟨rfl, rfl⟩
  · have hn : nextT v r = (0, 1) := by simp [nextT, h0]
    rw [hn]
    have hz : v ≠ 0 := fun h => h0 (.inl h)
    have hr : rightB v = false := by
      rcases h : rightB v with _ | _
      · rfl
      · exact absurd (.inr h) h0
    go_enter Try.func7, Try.ntmps7
    go_wp2_with (first
      | (go_at_call 17; refine (isRegion_any _ _).mono ?_; rw [hb]; rintro e w' ⟨rfl, rfl⟩)
      | (go_at_call 10; refine (right_any _ _).mono ?_; rw [hr]; rintro e w' ⟨rfl, rfl⟩))
    refine bodyPost_ret (results_tmp2 rfl _ _ _) rfl ?_
    exact ⟨rfl, rfl⟩

end Go.Proofs.Ytmhngapibinmeaa
