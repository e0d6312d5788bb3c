/- Package event's own: within, inName, IsName, Closes, rightSpan. -/
import Derived.Test.YthclffafbkeepaaEvN
namespace Go.Proofs.Ythclffafbkeepaa
open Go.RowKit

/-- Whether a number lies within two others. -/
def inB (n a b : Int) : Bool := decide (a ≤ n) && decide (n ≤ b)

/-- Whether a type ends a run. -/
def closesB (k : Int) : Bool := decide (9 ≤ k) && decide (k ≤ 12)

section
variable {w : World}

theorem within_any (n a b : Int) (w : World) : Calls Try.prog 33 #[.int .i64 n, .int .i64 a, .int .i64 b] w fun e w' => e = .returned (.bool (inB n a b)) ∧ w = w' := by
  unfold inB
  by_cases h1 : a ≤ n
  · by_cases h2 : n ≤ b
    · rw [decide_eq_true h1, decide_eq_true h2]
      go_enter Try.func33, Try.ntmps33
      go_wp2
      go_ret
      exact ⟨rfl, rfl⟩
    · rw [decide_eq_true h1, decide_eq_false h2]
      go_enter Try.func33, Try.ntmps33
      go_wp2
      go_ret
      exact ⟨rfl, rfl⟩
  · rw [decide_eq_false h1]
    go_enter Try.func33, Try.ntmps33
    go_wp2
    go_ret
    exact ⟨rfl, rfl⟩

theorem rightSpan_any (n : Int) (w : World) : Calls Try.prog 55 #[.int .i64 n] w fun e w' => e = .returned (.bool (inB n 1 1048576)) ∧ w = w' := by
  go_enter Try.func55, Try.ntmps55
  go_wp2_with (go_at_call 33; refine (within_any _ _ _ _).mono ?_; rintro e w' ⟨rfl, rfl⟩)
  go_ret
  exact ⟨rfl, rfl⟩

theorem inName_any (b : UInt8) (w : World) : Calls Try.prog 34 #[.int .u8 b.toNat] w fun e w' => e = .returned (.bool (nameC b)) ∧ w = w' := by
  unfold nameC
  generalize b.toNat = n
  go_enter Try.func34, Try.ntmps34
  go_wp2
  all_goals (
    go_ret
    refine ⟨congrArg _ (congrArg Value.bool ?_), rfl⟩
    rw [Bool.eq_iff_iff]
    simp
    try omega)

theorem closes_any (k : Int) (w : World) : Calls Try.prog 10 #[.int .i64 k] w fun e w' => e = .returned (.bool (closesB k)) ∧ w = w' := by
  unfold closesB
  go_enter Try.func10, Try.ntmps10
  go_wp2
  all_goals (
    go_ret
    refine ⟨congrArg _ (congrArg Value.bool ?_), rfl⟩
    rw [Bool.eq_iff_iff]
    simp at *
    try omega)

theorem refCloses_any (k : Int) (w : World) : Calls Try.prog 15 #[.int .i64 k] w fun e w' => e = .returned (.bool (closesB k)) ∧ w = w' := by
  unfold closesB
  go_enter Try.func15, Try.ntmps15
  go_wp2
  all_goals (
    go_ret
    refine ⟨congrArg _ (congrArg Value.bool ?_), rfl⟩
    rw [Bool.eq_iff_iff]
    simp at *
    try omega)

set_option maxHeartbeats 4000000 in
theorem isNameL_any (s : ByteArray) (hs : s.size ≤ 9223372036854775807) : Calls Try.prog 13 #[.string s] w fun e w' => e = .returned (.bool (nameB s)) ∧ w = w' := by
  obtain ⟨len, hlen⟩ : ∃ n, n = s.size := ⟨_, rfl⟩
  obtain ⟨res, hres⟩ : ∃ r, r = nameB s := ⟨_, rfl⟩
  have HL := hide hlen
  have R := hide hres
  rw [← hres]
  rcases hi : inB len 1 16 with _ | _
  · have hr : res = false := by
      rw [hres]
      unfold nameB
      unfold inB at hi
      rw [← hlen]
      rcases h1 : decide (1 ≤ len) with _ | _
      · simp
      · rcases h2 : decide (len ≤ 16) with _ | _
        · simp
        · simp at hi h1 h2
          omega
    clear hlen hres
    subst hr
    go_enter Try.func13, Try.ntmps13
    go_wp2_with (go_at_call 33; refine (within_any _ _ _ _).mono ?_; rw [← unhide HL, hi]; rintro e w' ⟨rfl, rfl⟩)
    go_ret
    exact ⟨rfl, rfl⟩
  have hi2 : 1 ≤ len ∧ len ≤ 16 := by
    unfold inB at hi
    simp at hi
    omega
  clear hlen hres
  go_enter Try.func13, Try.ntmps13
  go_wp2_with (go_at_call 33; refine (within_any _ _ _ _).mono ?_; rw [← unhide HL, hi]; rintro e w' ⟨rfl, rfl⟩)
  rw [← unhide HL]
  go_loopw [3, 10] (fun _ i wr => ∃ n : Nat, i = .int .i64 n ∧ n ≤ len ∧ Hid ((s.data.toList.take n).all nameC = true) ∧ w = wr) (fun _ i _ => len - (intOf i).toNat)
  case atStart => exact ⟨0, rfl, by omega, hide (by simp), rfl⟩
  case round =>
    obtain ⟨n, rfl, hn, hall, rfl⟩ := hrel
    by_cases hlt : n < len
    · have q1 : n < s.size := by have := unhide HL; omega
      have q2 : (n : Int) < len := by omega
      obtain ⟨b, hb⟩ : ∃ b, b = s[n] := ⟨_, rfl⟩
      have HB := hide hb
      have hget : s.data.toList[n]? = some b := by
        rw [hb]
        simp
        exact Array.getElem?_eq_getElem q1
      clear hb
      rcases hc : nameC b with _ | _
      · have hr : res = false := by
          rw [unhide R]
          unfold nameB
          have : s.data.toList.all nameC = false := by
            rw [List.all_eq_false]
            exact ⟨b, List.mem_of_getElem? hget, by rw [hc]; decide⟩
          rw [this]
          rfl
        subst hr
        clear hget
        go_wp2_with (go_at_call 34; refine (inName_any _ _).mono ?_; rw [show s[n] = b from (unhide HB).symm, hc]; rintro e w' ⟨rfl, rfl⟩)
        go_ret
        exact ⟨rfl, by trivial⟩
      · have hnx : Hid ((s.data.toList.take (n + 1)).all nameC = true) := by
          unfold Hid
          rw [List.take_add_one, hget, List.all_append, unhide hall]
          simp [hc]
        clear hget
        go_wp2_with (go_at_call 34; refine (inName_any _ _).mono ?_; rw [show s[n] = b from (unhide HB).symm, hc]; rintro e w' ⟨rfl, rfl⟩)
        go_roundw
        case rel => exact ⟨n + 1, by go_num, by omega, hnx, by trivial⟩
        case measure => simp [intOf]; omega
    · obtain rfl : n = len := by omega
      have q1 : ¬ (n : Int) < n := by omega
      have hr : res = true := by
        rw [unhide R]
        unfold nameB
        have h1 := unhide hall
        rw [List.take_of_length_le (by rw [Array.length_toList]; exact Nat.le_of_eq (unhide HL).symm)] at h1
        rw [h1, ← unhide HL]
        simp [hi2.1, hi2.2]
      clear R
      subst hr
      go_wp2_with fail
      go_ret
      exact ⟨rfl, by trivial⟩

theorem isName_any (s : ByteArray) (hs : s.size ≤ 140737488355328) : Calls Try.prog 13 #[.string s] w fun e w' => e = .returned (.bool (nameB s)) ∧ w = w' := isNameL_any s (by omega)

end

end Go.Proofs.Ythclffafbkeepaa
