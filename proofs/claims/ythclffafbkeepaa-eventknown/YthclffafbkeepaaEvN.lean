/- The reference's IsName, rightDefs, Right. -/
import Derived.Test.YthclffafbkeepaaEvM
import Derived.BigQuiet
import Derived.Deep.CutRange
import Derived.Deep.CutBlock
namespace Go.Proofs.Ythclffafbkeepaa
open Go.RowKit

/-- Whether a name may hold a byte. -/
def nameC (b : UInt8) : Bool := (decide (97 ≤ b.toNat) && decide (b.toNat ≤ 122)) || (decide (48 ≤ b.toNat) && decide (b.toNat ≤ 57)) || decide (b.toNat = 45)

/-- Whether a text is a name. -/
def nameB (s : ByteArray) : Bool := s.data.toList.all nameC && decide (1 ≤ s.size) && decide (s.size ≤ 16)

section
variable {w : World}

set_option maxHeartbeats 4000000 in
theorem refIsNameL_any (s : ByteArray) (hs : s.size ≤ 9223372036854775807) : Calls Try.prog 14 #[.string s] w fun e w' => e = .returned (.bool (nameB s)) ∧ w = w' := by
  obtain ⟨len, hlen⟩ : ∃ n, n = s.size := ⟨_, rfl⟩
  obtain ⟨res, hres⟩ : ∃ r, r = nameB s := ⟨_, rfl⟩
  have HL := hide hlen
  have R := hide hres
  rw [← hres]
  clear hlen hres
  go_enter Try.func14, Try.ntmps14
  go_wp2_with fail
  go_loopw [3] (fun i wr => ∃ n : Nat, i = .int .i64 n ∧ n ≤ len ∧ Hid ((s.data.toList.take n).all nameC = true) ∧ w = wr) (fun i _ => len - (intOf i).toNat)
  case atStart => exact ⟨0, rfl, by omega, hide (by simp), rfl⟩
  case round =>
    obtain ⟨n, rfl, hn, hall, rfl⟩ := hrel
    by_cases hlt : n < len
    · have q1 : n < s.size := by have := unhide HL; omega
      obtain ⟨b, hb⟩ : ∃ b, b = s[n] := ⟨_, rfl⟩
      have HB := hide hb
      clear hb
      go_upto_region 4 with fail
      go_cut [38] from 10 to 38 (fun c wx => c = .bool (!nameC b) ∧ wx = w)
      case first =>
        go_wp2_with fail
        all_goals (
          go_meet
          case rel =>
            refine ⟨congrArg Value.bool ?_, rfl⟩
            rw [Bool.eq_iff_iff]
            have hx := unhide HB
            simp only [nameC]
            rw [hx]
            simp
            try omega)
      case rest =>
        obtain ⟨rfl, rfl⟩ := hcut
        have hget : s.data.toList[n]? = some b := by
          rw [unhide HB]
          simp
          exact Array.getElem?_eq_getElem q1
        rcases hc : nameC b with _ | _
        · have hr : res = false := by
            rw [unhide R]
            unfold nameB
            have : s.data.toList.all nameC = false := by
              rw [List.all_eq_false]
              exact ⟨b, List.mem_of_getElem? hget, by rw [hc]; decide⟩
            rw [this]
            rfl
          subst hr
          clear hget
          go_wp2_with fail
          go_ret
          exact ⟨rfl, by trivial⟩
        · have hnx : Hid ((s.data.toList.take (n + 1)).all nameC = true) := by
            unfold Hid
            rw [List.take_add_one, hget, List.all_append, unhide hall]
            simp [hc]
          clear hget
          go_wp2_with fail
          go_roundw
          case rel => exact ⟨n + 1, by go_num, by omega, hnx, by trivial⟩
          case measure => simp [intOf]; omega
    · obtain rfl : n = len := by omega
      have q1 : ¬ (n : Int) < n := by omega
      have hr : res = (decide (1 ≤ n) && decide (n ≤ 16)) := by
        rw [unhide R]
        unfold nameB
        have h1 := unhide hall
        rw [List.take_of_length_le (by rw [Array.length_toList]; exact Nat.le_of_eq (unhide HL).symm)] at h1
        rw [h1, ← unhide HL]
        rfl
      have hsz := unhide HL
      have hs1 : s.size = n := hsz.symm
      clear R
      by_cases h1 : 1 ≤ n
      · by_cases h2 : n ≤ 16
        · have hr2 : res = true := by rw [hr]; simp [h1, h2]
          have q3 : (n : Int) ≤ 16 := by omega
          clear hr hsz
          subst hr2
          go_wp2_with fail
          go_ret
          exact ⟨rfl, by trivial⟩
        · have hr2 : res = false := by rw [hr]; simp [h2]
          have q3 : ¬ (n : Int) ≤ 16 := by omega
          clear hr hsz
          subst hr2
          go_wp2_with fail
          go_ret
          exact ⟨rfl, by trivial⟩
      · have hr2 : res = false := by rw [hr]; simp [h1]
        clear hr hsz
        subst hr2
        go_wp2_with fail
        go_ret
        exact ⟨rfl, by trivial⟩

theorem refIsName_any (s : ByteArray) (hs : s.size ≤ 140737488355328) : Calls Try.prog 14 #[.string s] w fun e w' => e = .returned (.bool (nameB s)) ∧ w = w' := refIsNameL_any s (by omega)

end

end Go.Proofs.Ythclffafbkeepaa
