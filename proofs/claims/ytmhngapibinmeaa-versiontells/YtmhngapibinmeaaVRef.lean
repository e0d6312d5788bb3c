/- What the reference answers of versions: the same, said plainly. -/
import Derived.Test.YtmhngapibinmeaaVer
namespace Go.Proofs.Ytmhngapibinmeaa
open Go.RowKit

theorem refOwner_any (v : Int) (w : World) : Calls Try.prog 15 #[.int .i64 v] w fun e w' => e = .returned (.int .i64 (v % 10)) ∧ w = w' := by
  go_enter Try.func15, Try.ntmps15
  go_wp2
  go_ret
  exact ⟨ret_int (tmod10 v), rfl⟩

theorem refRight_any (v : Int) (w : World) : Calls Try.prog 14 #[.int .i64 v] w fun e w' => e = .returned (.bool (rightB v)) ∧ w = w' := by
  by_cases h1 : 1 ≤ v
  · by_cases h2 : v ≤ 1099511627776
    · by_cases h3 : 1 ≤ v % 10
      · by_cases h4 : v % 10 ≤ 8
        · have hr : rightB v = true := decide_eq_true ⟨h1, h2, h3, h4⟩
          rw [hr]
          go_enter Try.func14, Try.ntmps14
          go_wp2_with (go_at_call 15; refine (refOwner_any _ _).mono ?_; rintro e w' ⟨rfl, rfl⟩)
          go_ret
          exact ⟨rfl, rfl⟩
        · have hr : rightB v = false := decide_eq_false fun h => h4 h.2.2.2
          rw [hr]
          go_enter Try.func14, Try.ntmps14
          go_wp2_with (go_at_call 15; refine (refOwner_any _ _).mono ?_; rintro e w' ⟨rfl, rfl⟩)
          go_ret
          exact ⟨congrArg (fun b => Ending.returned (.bool b)) (decide_eq_false (by omega : ¬ v % 10 ≤ 8)), rfl⟩
      · have hr : rightB v = false := decide_eq_false fun h => h3 h.2.2.1
        rw [hr]
        go_enter Try.func14, Try.ntmps14
        go_wp2_with (go_at_call 15; refine (refOwner_any _ _).mono ?_; rintro e w' ⟨rfl, rfl⟩)
        go_ret
        exact ⟨rfl, rfl⟩
    · have hr : rightB v = false := decide_eq_false fun h => h2 h.2.1
      rw [hr]
      go_enter Try.func14, Try.ntmps14
      go_wp2
      go_ret
      exact ⟨rfl, rfl⟩
  · have hr : rightB v = false := decide_eq_false fun h => h1 h.1
    rw [hr]
    go_enter Try.func14, Try.ntmps14
    go_wp2
    go_ret
    exact ⟨rfl, rfl⟩

theorem refFirst_any (r : Int) (w : World) : Calls Try.prog 16 #[.int .i64 r] w fun e w' => e = .returned (.int .i64 (if regB r = true then r else 0)) ∧ w = w' := by
  by_cases h1 : 1 ≤ r
  · by_cases h2 : r ≤ 8
    · have hr : regB r = true := decide_eq_true ⟨h1, h2⟩
      rw [hr]
      go_enter Try.func16, Try.ntmps16
      go_wp2
      go_ret
      exact ⟨rfl, rfl⟩
    · have hr : regB r = false := decide_eq_false fun h => h2 h.2
      rw [hr]
      go_enter Try.func16, Try.ntmps16
      go_wp2
      go_ret
      exact ⟨rfl, rfl⟩
  · have hr : regB r = false := decide_eq_false fun h => h1 h.1
    rw [hr]
    go_enter Try.func16, Try.ntmps16
    go_wp2
    go_ret
    exact ⟨rfl, rfl⟩

set_option maxHeartbeats 1000000 in
theorem refNext_any (v r : Int) (w : World) : Calls Try.prog 13 #[.int .i64 v, .int .i64 r] w fun e w' => e = .returned (.tuple #[.int .i64 (nextT v r).1, .int .i64 (nextT v r).2]) ∧ w = w' := by
  by_cases h1 : 1 ≤ r
  case neg =>
    have hb : regB r = false := decide_eq_false fun h => h1 h.1
    have hn : nextT v r = (0, 1) := by simp [nextT, hb]
    rw [hn]
    go_enter Try.func13, Try.ntmps13
    go_wp2_with fail
    refine bodyPost_ret (results_tmp2 rfl _ _ _) rfl ?_
    exact ⟨rfl, rfl⟩
  by_cases h2 : r ≤ 8
  case neg =>
    have hb : regB r = false := decide_eq_false fun h => h2 h.2
    have hn : nextT v r = (0, 1) := by simp [nextT, hb]
    rw [hn]
    go_enter Try.func13, Try.ntmps13
    go_wp2_with fail
    refine bodyPost_ret (results_tmp2 rfl _ _ _) rfl ?_
    exact ⟨rfl, rfl⟩
  have hb : regB r = true := decide_eq_true ⟨h1, h2⟩
  by_cases hz : v = 0 ∨ rightB v = true
  case neg =>
    have hn : nextT v r = (0, 1) := by simp [nextT, hz]
    rw [hn]
    have hz0 : v ≠ 0 := fun h => hz (.inl h)
    have hz1 : (v != 0) = true := by simp [hz0]
    have hr : rightB v = false := by
      rcases h : rightB v with _ | _
      · rfl
      · exact absurd (.inr h) hz
    go_enter Try.func13, Try.ntmps13
    go_wp2_with (go_at_call 14; refine (refRight_any _ _).mono ?_; rw [hr]; rintro e w' ⟨rfl, rfl⟩)
    refine bodyPost_ret (results_tmp2 rfl _ _ _) rfl ?_
    exact ⟨rfl, rfl⟩
  have hvb := right_bounds hz
  have hnb := nextV_bounds (v := v) ⟨h1, h2⟩
  obtain ⟨t, ht⟩ : ∃ t, t = nextV v r := ⟨_, rfl⟩
  have hleast : ∀ m, v < m → m ≤ t → m % 10 = r → m = t := by
    intro m a b c
    rw [← ht] at hnb
    unfold nextV at ht
    omega
  have hT : nextT v r = if t > 1099511627776 then (0, 2) else (t, 0) := by simp [nextT, hb, hz, ht]
  rw [← ht] at hnb
  rw [hT]
  have H := hide (And.intro hleast hnb)
  rcases Decidable.em (v = 0) with hv0 | hv0
  · subst hv0
    go_enter Try.func13, Try.ntmps13
    go_wp2_with fail
    go_loopw [6] (fun n wr => ∃ m : Int, n = .int .i64 m ∧ (0 : Int) < m ∧ m ≤ t ∧ wr = w) (fun n _ => (t - intOf n).toNat)
    case atStart => exact ⟨_, rfl, by omega, by have := (unhide H).2; omega, rfl⟩
    case round =>
      obtain ⟨m, rfl, hm1, hm2, rfl⟩ := hrel
      have hm3 : m ≤ 1099511627786 := by have := (unhide H).2; omega
      have hmm : m.tmod 10 = m % 10 := Int.tmod_eq_emod_of_nonneg (by omega)
      by_cases he : m % 10 = r
      · obtain rfl : m = t := (unhide H).1 m hm1 hm2 he
        have he' : m.tmod 10 = r := hmm.trans he
        clear hmm
        have hf : ¬ m > 1099511627776 := by have := (unhide H).2; omega
        go_wp2_with fail
        refine bodyPost_ret (results_tmp2 rfl _ _ _) rfl ?_
        exact ⟨rfl, rfl⟩
      · have he' : ¬ m.tmod 10 = r := fun h => he (hmm.symm.trans h)
        have hlt : m + 1 ≤ t := by
          rcases Int.lt_or_eq_of_le hm2 with h | h
          · omega
          · subst h; exact absurd (unhide H).2.2.2 he
        clear hmm
        go_wp2_with fail
        go_roundw
        case rel => exact ⟨_, rfl, by omega, hlt, by trivial⟩
        case measure => simp [intOf]; omega
  · have hr : rightB v = true := hz.resolve_left hv0
    have hz1 : (v != 0) = true := by simp [hv0]
    go_enter Try.func13, Try.ntmps13
    go_wp2_with (go_at_call 14; refine (refRight_any _ _).mono ?_; rw [hr]; rintro e w' ⟨rfl, rfl⟩)
    go_loopw [6] (fun n wr => ∃ m : Int, n = .int .i64 m ∧ v < m ∧ m ≤ t ∧ wr = w) (fun n _ => (t - intOf n).toNat)
    case atStart => exact ⟨_, rfl, by omega, by have := (unhide H).2; omega, rfl⟩
    case round =>
      obtain ⟨m, rfl, hm1, hm2, rfl⟩ := hrel
      have hm3 : m ≤ 1099511627786 := by have := (unhide H).2; omega
      have hmm : m.tmod 10 = m % 10 := Int.tmod_eq_emod_of_nonneg (by omega)
      by_cases he : m % 10 = r
      · obtain rfl : m = t := (unhide H).1 m hm1 hm2 he
        have he' : m.tmod 10 = r := hmm.trans he
        clear hmm
        by_cases hf : m > 1099511627776
        · go_wp2_with fail
          refine bodyPost_ret (results_tmp2 rfl _ _ _) rfl ?_
          exact ⟨rfl, rfl⟩
        · go_wp2_with fail
          refine bodyPost_ret (results_tmp2 rfl _ _ _) rfl ?_
          exact ⟨rfl, rfl⟩
      · have he' : ¬ m.tmod 10 = r := fun h => he (hmm.symm.trans h)
        have hlt : m + 1 ≤ t := by
          rcases Int.lt_or_eq_of_le hm2 with h | h
          · omega
          · subst h; exact absurd (unhide H).2.2.2 he
        clear hmm
        go_wp2_with fail
        go_roundw
        case rel => exact ⟨_, rfl, by omega, hlt, by trivial⟩
        case measure => simp [intOf]; omega

end Go.Proofs.Ytmhngapibinmeaa
