/- What comes next is greater, is that region's, and there is none between: the law's walk. -/
import Derived.Test.YtmhngapibinmeaaVKnw
import Derived.Deep.RegionWith
import Derived.Deep.DeepMust
import Derived.Deep.CutRange
import Derived.Deep.CutBlock
namespace Go.Proofs.Ytmhngapibinmeaa
open Go.RowKit

/-- A version that has room above it, and a region. -/
theorem nextT_ok {v r : Int} (hv : rightB v = true) (hb : v ≤ 1099511627766) (hr : regB r = true) : nextT v r = (nextV v r, 0) := by
  have h := nextV_bounds (v := v) (reg_bounds hr)
  unfold nextT
  rw [if_pos ⟨hr, .inr hv⟩, if_neg (by omega)]

theorem right_next {v r : Int} (hv : rightB v = true) (hb : v ≤ 1099511627766) (hr : regB r = true) : rightB (nextV v r) = true := by
  have h := nextV_bounds (v := v) (reg_bounds hr)
  have h0 := right_bounds (.inr hv)
  have h2 := reg_bounds hr
  exact decide_eq_true ⟨by omega, by omega, by omega, by omega⟩

set_option maxHeartbeats 4000000 in
set_option maxRecDepth 100000 in
theorem versionRises_any (v a b : Int) (w : World) : Calls Try.prog 5 #[.int .i64 v, .int .i64 a, .int .i64 b] w fun e w' => e = .returned (.bool true) ∧ Turn (fun _ => False) w w' := by
  go_enter Try.func5, Try.ntmps5
  go_wp2_with fail
  refine (pick_any v 1073741824 _ (by omega) (by omega)).mono ?_
  rintro e w1 ⟨rfl, rfl⟩
  go_wp2_with fail
  refine (pick_any a 8 _ (by omega) (by omega)).mono ?_
  rintro e w1 ⟨rfl, rfl⟩
  go_wp2_with fail
  refine (pick_any b 8 _ (by omega) (by omega)).mono ?_
  rintro e w1 ⟨rfl, rfl⟩
  obtain ⟨a', ha⟩ : ∃ a' : Int, a' = 1 + a % 8 := ⟨_, rfl⟩
  obtain ⟨b', hb⟩ : ∃ b' : Int, b' = 1 + b % 8 := ⟨_, rfl⟩
  obtain ⟨v', hv⟩ : ∃ v' : Int, v' = v % 1073741824 := ⟨_, rfl⟩
  have ha2 : 1 ≤ a' ∧ a' ≤ 8 := by omega
  have hb2 : 1 ≤ b' ∧ b' ≤ 8 := by omega
  have hv2 : 0 ≤ v' ∧ v' ≤ 1073741823 := by omega
  go_upto_if 21 with (go_at_call 10; refine (right_any _ _).mono ?_; rintro e w' ⟨rfl, rfl⟩)
  try rw [← ha]
  try rw [← hb]
  try rw [← hv]
  go_cut [0] from 18 (fun nv wx => ∃ n, nv = .int .i64 n ∧ rightB n = true ∧ n ≤ 1073741823 ∧ wx = w)
  case first =>
    rcases hr : rightB v' with _ | _
    · go_wp2_with fail
      go_meet
      case rel => exact ⟨_, rfl, decide_eq_true ⟨by omega, by omega, by omega, by omega⟩, by omega, rfl⟩
    · go_wp2_with fail
      go_meet
      case rel => exact ⟨_, rfl, hr, by omega, rfl⟩
  case rest =>
    obtain ⟨n, rfl, hn, hn2, rfl⟩ := hcut
    have hra : regB a' = true := decide_eq_true ha2
    have hrb : regB b' = true := decide_eq_true hb2
    have hta := nextT_ok hn (by omega) hra
    have htb := nextT_ok hn (by omega) hrb
    have hRa := right_next hn (by omega) hra
    have hxa := nextV_bounds (v := n) ha2
    have hxb := nextV_bounds (v := n) hb2
    have hn0 := right_bounds (.inr hn)
    have hab : (nextV n a' == nextV n b') = (a' == b') := by
      by_cases h : a' = b'
      · rw [h, beq_self_eq_true, beq_self_eq_true]
      · have : nextV n a' ≠ nextV n b' := fun e => by rw [e] at hxa; omega
        rw [beq_eq_false_iff_ne.2 h, beq_eq_false_iff_ne.2 this]
    generalize nextV n a' = x at *
    generalize nextV n b' = y at *
    generalize hE : (a' == b') = E at *
    obtain ⟨x1, x2, x3⟩ := hxa
    have q1 : n < x := x1
    clear ha hb hv hv2 hn
    go_wp2_with fail
    refine (next_any n a' _).mono ?_
    rw [hta]
    rintro e w1 ⟨rfl, rfl⟩
    go_wp2_with fail
    refine (next_any n b' _).mono ?_
    rw [htb]
    rintro e w1 ⟨rfl, rfl⟩
    go_wp2_with (first
      | (go_at_call 8; refine (vknown_any _).mono ?_; rintro e w' ⟨rfl, rfl⟩)
      | (go_at_call 10; refine (right_any _ _).mono ?_; rw [hRa]; rintro e w' ⟨rfl, rfl⟩)
      | (go_at_call 9; refine (owner_any _ _).mono ?_; rw [x3]; rintro e w' ⟨rfl, rfl⟩))
    go_ret
    exact ⟨rfl, Turn.refl _ _⟩

end Go.Proofs.Ytmhngapibinmeaa
