/- The law's versions: cutoverhand's Version. -/
import Derived.Test.YtehbefhpijifjaaHand
import Derived.Test.YtehbefhpijifjaaVer
namespace Go.Proofs.Ytehbefhpijifjaa
open Go.RowKit

/-- How far it is to the next number of region 1 to 4. -/
def gapV (v : Int) : Int := if 1 ≤ v % 10 ∧ v % 10 ≤ 4 then 0 else if v % 10 = 0 then 1 else 11 - v % 10

theorem gapV_step {v : Int} (h : ¬ (1 ≤ v % 10 ∧ v % 10 ≤ 4)) : gapV (v + 1) = gapV v - 1 ∧ 0 < gapV v := by
  unfold gapV
  rw [if_neg h]
  have := Int.emod_nonneg v (show (10 : Int) ≠ 0 by omega)
  have := Int.emod_lt_of_pos v (show (0 : Int) < 10 by omega)
  by_cases h0 : v % 10 = 0
  · rw [if_pos h0, if_pos (by omega)]
    omega
  · rw [if_neg h0]
    by_cases h9 : v % 10 = 9
    · rw [if_neg (by omega), if_pos (by omega)]
      omega
    · rw [if_neg (by omega), if_neg (by omega)]
      omega

theorem gapV_le (v : Int) : 0 ≤ gapV v ∧ gapV v ≤ 6 := by
  unfold gapV
  have := Int.emod_nonneg v (show (10 : Int) ≠ 0 by omega)
  have := Int.emod_lt_of_pos v (show (0 : Int) < 10 by omega)
  repeat' split
  all_goals omega

/-- The next number of region 1 to 4. -/
def nextD (v : Int) : Int := v + 1 + gapV (v + 1)

theorem nextD_is (v : Int) : v < nextD v ∧ nextD v ≤ v + 7 ∧ 1 ≤ nextD v % 10 ∧ nextD v % 10 ≤ 4 := by
  have h := gapV_le (v + 1)
  unfold nextD
  refine ⟨by omega, by omega, ?_⟩
  unfold gapV
  have := Int.emod_nonneg (v + 1) (show (10 : Int) ≠ 0 by omega)
  have := Int.emod_lt_of_pos (v + 1) (show (0 : Int) < 10 by omega)
  split
  · omega
  · split
    · omega
    · omega

/-- What Version makes. -/
def hverF (was m : Int) : Int := if m = 0 then was else if m = 1 then nextD was else nextD (nextD was)

theorem hverF_is (was m : Int) : was ≤ hverF was m ∧ hverF was m ≤ was + 14 ∧ (m ≠ 0 → was < hverF was m ∧ 1 ≤ hverF was m % 10 ∧ hverF was m % 10 ≤ 4) ∧ (m = 0 → hverF was m = was) := by
  have h1 := nextD_is was
  have h2 := nextD_is (nextD was)
  unfold hverF
  split
  · exact ⟨by omega, by omega, fun h => absurd ‹_› h, fun _ => rfl⟩
  · split
    · exact ⟨by omega, by omega, fun _ => ⟨h1.1, h1.2.2⟩, fun h => absurd h ‹_›⟩
    · exact ⟨by omega, by omega, fun _ => ⟨by omega, h2.2.2⟩, fun h => absurd h ‹_›⟩

theorem hver_three (was : Int) {k : Nat} {m u : Int} (hm : 0 ≤ m ∧ m ≤ 2) (hk : (k : Int) = m) (h : (k = 0 → u = was) ∧ (k = 1 → u = nextD was) ∧ (k = 2 → u = nextD (nextD was))) : u = hverF was m := by
  unfold hverF
  by_cases h0 : m = 0
  · rw [if_pos h0]; exact h.1 (by omega)
  · rw [if_neg h0]
    by_cases h1 : m = 1
    · rw [if_pos h1]; exact h.2.1 (by omega)
    · rw [if_neg h1]; exact h.2.2 (by omega)

set_option maxHeartbeats 4000000 in
theorem hver_any (was n : Int) (w : World) (h1 : 1 ≤ was) (h2 : was ≤ 1099511627776) : Calls Try.prog 25 #[.int .i64 was, .int .i64 n] w fun e w' =>
    e = .returned (.int .i64 (hverF was (n % 3))) ∧ w = w' := by
  obtain ⟨m, hm⟩ : ∃ m : Int, m = n % 3 := ⟨_, rfl⟩
  have hm2 : 0 ≤ m ∧ m ≤ 2 := by omega
  have HM := hide hm
  rw [← hm]
  clear hm
  go_enter Try.func25, Try.ntmps25
  go_wp2_with fail
  go_loopw [5, 6] (fun v i wr => ∃ (k : Nat) (u : Int), i = .int .i64 k ∧ v = .int .i64 u ∧ (k : Int) ≤ m ∧ was ≤ u ∧ u ≤ was + 7 * k ∧ Hid ((k = 0 → u = was) ∧ (k = 1 → u = nextD was) ∧ (k = 2 → u = nextD (nextD was))) ∧ w = wr) (fun _ i _ => 3 - (intOf i).toNat)
  case atStart => exact ⟨0, was, rfl, rfl, by omega, by omega, by omega, hide ⟨fun _ => rfl, by omega, by omega⟩, rfl⟩
  case round =>
    obtain ⟨k, u, rfl, rfl, hk, hu1, hu2, hu3, rfl⟩ := hrel
    by_cases hlt : (k : Int) < m
    · have H3 : Hid ((k + 1 = 0 → nextD u = was) ∧ (k + 1 = 1 → nextD u = nextD was) ∧ (k + 1 = 2 → nextD u = nextD (nextD was))) := hide ⟨by omega, fun e => by rw [(unhide hu3).1 (by omega)], fun e => by rw [(unhide hu3).2.1 (by omega)]⟩
      have hnd := nextD_is u
      obtain ⟨t, htt⟩ : ∃ t, t = nextD u := ⟨_, rfl⟩
      rw [← htt] at H3 hnd
      have HT := hide htt
      have Hnd := hide hnd
      clear hu3 htt hnd
      go_wp2_with fail
      refine (pick_any n 3 _ (by omega) (by omega)).mono ?_
      rintro e w1 ⟨rfl, rfl⟩
      rw [← unhide HM]
      go_wp2_with fail
      go_loopw [5] (fun v wi => ∃ x : Int, v = .int .i64 x ∧ u < x ∧ x + gapV x = t ∧ w = wi) (fun v _ => (gapV (intOf v)).toNat)
      case atStart => exact ⟨u + 1, rfl, by omega, by rw [unhide HT]; rfl, rfl⟩
      case round =>
        obtain ⟨x, rfl, hx1, hx2, rfl⟩ := hrel
        have hg := gapV_le x
        have ht7 := (unhide Hnd).2.1
        by_cases hd : 1 ≤ x % 10 ∧ x % 10 ≤ 4
        · have d1 : 1 ≤ x % 10 := hd.1
          have d2 : x % 10 ≤ 4 := hd.2
          have d3 : ¬ (x % 10 < 1 ∨ 4 < x % 10) := by omega
          have hg0 : gapV x = 0 := by unfold gapV; rw [if_pos hd]
          obtain rfl : x = t := by omega
          clear hd hx2 hg hg0 ht7
          go_wp2_with fail
          go_roundw
          case rel => exact ⟨k + 1, x, by go_num, rfl, by omega, by have := (unhide Hnd).1; omega, by have := (unhide Hnd).2.1; omega, H3, by trivial⟩
          case measure => simp [intOf]; omega
        · have hgs := gapV_step hd
          have hb := (show x + 1 + gapV (x + 1) = t by omega)
          have Hgs := hide hgs
          have Hb := hide hb
          have hxb : x ≤ u + 7 := by omega
          clear hb hx2
          by_cases d1 : x % 10 < 1
          · clear hd hgs hg ht7
            go_wp2_with fail
            go_roundw
            case rel => exact ⟨x + 1, by go_num, by omega, unhide Hb, by trivial⟩
            case measure => have := unhide Hgs; simp [intOf]; omega
          · have d2 : 4 < x % 10 := by omega
            clear hd hgs hg ht7
            go_wp2_with fail
            go_roundw
            case rel => exact ⟨x + 1, by go_num, by omega, unhide Hb, by trivial⟩
            case measure => have := unhide Hgs; simp [intOf]; omega
    · have hkm : (k : Int) = m := by omega
      have HE := hide (hver_three was hm2 hkm (unhide hu3))
      have hmx : max u 1 = u := by omega
      clear hu3
      go_wp2_with fail
      refine (pick_any n 3 _ (by omega) (by omega)).mono ?_
      rintro e w1 ⟨rfl, rfl⟩
      rw [← unhide HM]
      go_wp2_with fail
      go_ret
      refine ⟨ret_int ?_, rfl⟩
      first | exact unhide HE | (split <;> first | exact unhide HE | omega) | (rw [hmx]; exact unhide HE)

end Go.Proofs.Ytehbefhpijifjaa
