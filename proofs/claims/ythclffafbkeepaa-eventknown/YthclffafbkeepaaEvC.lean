/- Package event's own rightNeeds, rightDefs. -/
import Derived.Test.YthclffafbkeepaaEvA
import Derived.Test.YthclffafbkeepaaEvD
import Derived.Test.YthclffafbkeepaaEvT
namespace Go.Proofs.Ythclffafbkeepaa
open Go.RowKit

theorem needsR_in (m p x : Int) (r : List Int) (hp : -1 ≤ p) : needsR m p (x :: r) = (inB x (p + 1) (m - 1) && needsR m x r) := by
  have h : inB x (p + 1) (m - 1) = (decide (0 ≤ x) && decide (x < m) && decide (p < x)) := by
    unfold inB
    rw [Bool.eq_iff_iff]
    simp
    omega
  rw [h]
  rfl

section
variable {Q : Nat → Prop} {w : World} {a : Value}

set_option maxHeartbeats 4000000 in
theorem rightNeeds_any {xs : List Int} (hx : IntsQ Q w a xs) (m : Int) (hm1 : 1 ≤ m) (hm2 : m ≤ 8) : Calls Try.prog 58 #[a, .int .i64 m] w fun e w' => e = .returned (.bool (needsR m (-1) xs)) ∧ w = w' := by
  obtain ⟨ao, ac, rfl, hm⟩ := hx.shape
  unfold maxLen at hm
  obtain ⟨res, hres⟩ : ∃ r, r = needsR m (-1) xs := ⟨_, rfl⟩
  obtain ⟨len, hlen⟩ : ∃ n, n = xs.length := ⟨_, rfl⟩
  have H := hide hx
  have HL := hide hlen
  have R := hide hres
  rw [← hres, ← hlen]
  rw [← hlen] at hm
  clear hx hlen hres
  have e1 : wrap64 (m - 1) = m - 1 := by unfold wrap64; omega
  go_enter Try.func58, Try.ntmps58
  go_wp2_with fail
  go_loopw [5, 7, 10] (fun pv _ i wr => ∃ (n : Nat) (p : Int), i = .int .i64 n ∧ pv = .int .i64 p ∧ n ≤ len ∧ -1 ≤ p ∧ p ≤ 7 ∧ Hid (res = needsR m p (xs.drop n)) ∧ w = wr) (fun _ _ i _ => len - (intOf i).toNat)
  case atStart => exact ⟨0, -1, rfl, rfl, by omega, by omega, by omega, hide (by rw [unhide R]; simp), rfl⟩
  case round =>
    obtain ⟨n, p, rfl, rfl, hn, hp1, hp2, hr, rfl⟩ := hrel
    by_cases hlt : n < len
    · have hnx : n < xs.length := by have := unhide HL; omega
      have h2 := unhide H
      obtain ⟨xa, rfl, a0⟩ := h2.at n hnx
      have hr2 := unhide hr
      rw [List.drop_eq_getElem_cons hnx, needsR_in _ _ _ _ hp1] at hr2
      generalize xs[n] = x at *
      have q1 : (n : Int) < len := by omega
      have e2 : wrap64 (p + 1) = p + 1 := by unfold wrap64; omega
      have HR := hide hr2
      clear h2 hr2 hr
      rcases hi : inB x (p + 1) (m - 1) with _ | _
      · have hr0 : res = false := by rw [unhide HR, hi]; rfl
        subst hr0
        go_wp2_with (go_at_call 33; refine (within_any _ _ _ _).mono ?_; rw [hi]; rintro e w' ⟨rfl, rfl⟩)
        go_ret
        exact ⟨rfl, by trivial⟩
      · have hb : p + 1 ≤ x ∧ x ≤ m - 1 := by
          unfold inB at hi
          simpa using hi
        have hr0 : Hid (res = needsR m x (xs.drop (n + 1))) := by
          have := unhide HR
          rw [hi] at this
          exact this
        obtain ⟨hb1, hb2⟩ := hb
        go_wp2_with (go_at_call 33; refine (within_any _ _ _ _).mono ?_; rw [hi]; rintro e w' ⟨rfl, rfl⟩)
        go_roundw
        case rel => exact ⟨n + 1, x, by go_num, rfl, by omega, by omega, by omega, hr0, by trivial⟩
        case measure => simp [intOf]; omega
    · obtain rfl : n = len := by omega
      have q1 : ¬ (n : Int) < n := by omega
      have hr0 : res = true := by
        rw [unhide hr, List.drop_of_length_le (by have := unhide HL; omega)]
        rfl
      clear R hr
      subst hr0
      go_wp2_with fail
      go_ret
      exact ⟨rfl, by trivial⟩

set_option maxHeartbeats 8000000 in
set_option maxRecDepth 100000 in
theorem rightDefs_any {ds : List Df} (hx : DefsQ Q w a ds) : Calls Try.prog 51 #[a] w fun e w' => e = .returned (.bool (defsB ds)) ∧ Turn (fun _ => False) w w' := by
  obtain ⟨ao, ac, rfl, hm⟩ := hx.shape
  unfold maxLen at hm
  obtain ⟨res, hres⟩ : ∃ r, r = defsB ds := ⟨_, rfl⟩
  obtain ⟨len, hlen⟩ : ∃ n, n = ds.length := ⟨_, rfl⟩
  have H := hide hx
  have HL := hide hlen
  have R := hide hres
  rw [← hres, ← hlen]
  rw [← hlen] at hm
  clear hx hlen hres
  rcases hi : inB len 1 8 with _ | _
  · have hr0 : res = false := by
      rw [unhide R]
      unfold defsB
      rw [← unhide HL]
      unfold inB at hi
      rcases h1 : decide (1 ≤ len) with _ | _
      · simp
      · rcases h2 : decide (len ≤ 8) with _ | _
        · simp
        · simp at hi h1 h2
          omega
    subst hr0
    go_enter Try.func51, Try.ntmps51
    go_wp2_with (go_at_call 33; refine (within_any _ _ _ _).mono ?_; rw [hi]; rintro e w' ⟨rfl, rfl⟩)
    go_ret
    exact ⟨rfl, Turn.refl _ _⟩
  have hi2 : 1 ≤ len ∧ len ≤ 8 := by
    unfold inB at hi
    simp at hi
    omega
  obtain ⟨hl1, hl2⟩ := hi2
  have HI := hide hi
  clear hi
  go_enter Try.func51, Try.ntmps51
  go_wp2_with (go_at_call 33; refine (within_any _ _ _ _).mono ?_; rw [unhide HI]; rintro e w' ⟨rfl, rfl⟩)
  go_loopw [4, 11] (fun _ i wr => ∃ n : Nat, i = .int .i64 n ∧ n ≤ len ∧ Hid ((ds.take n).all (defB len) = true) ∧ Turn (fun _ => False) w wr) (fun _ i _ => len - (intOf i).toNat)
  case atStart => exact ⟨0, rfl, by omega, hide (by simp), Turn.refl _ _⟩
  case round =>
    obtain ⟨n, rfl, hn, hall, ht⟩ := hrel
    by_cases hlt : n < len
    · have hnl : n < ds.length := by have := unhide HL; omega
      obtain ⟨g, o, nv, rfl, c0, c1, c2, hi⟩ := ((unhide H).kept ht (fun _ _ e => e)).at n hnl
      have hb2 : defB len ds[n] = false → res = false := fun h => by
        rw [unhide R]
        unfold defsB
        rw [← unhide HL]
        have : ds.all (defB len) = false := by
          rw [List.all_eq_false]
          exact ⟨ds[n], List.getElem_mem hnl, by rw [h]; decide⟩
        rw [this]
        rfl
      have hall2 : defB len ds[n] = true → (ds.take (n + 1)).all (defB len) = true := fun h => by
        rw [List.take_succ_eq_append_getElem hnl, List.all_append, unhide hall]
        simp [h]
      generalize ds[n] = d at *
      obtain ⟨xs, d1, d2⟩ := d
      simp only at c1 c2 hi
      have hdef : defB len (xs, d1, d2) = (inB d1 1 5 && inB d2 1 1048576 && needsR len (-1) xs) := by
        unfold defB inB
        simp only [Bool.and_assoc]
      rw [hdef] at hb2 hall2
      obtain ⟨no, nc, hnv, hnm⟩ := hi.shape
      unfold maxLen at hnm
      have ta : Turn (fun _ => False) wr (wr.alloc (.cells #[nv, .int .i64 d1, .int .i64 d2] 45)) := (Turn.refl _ _).alloc _
      have hA : At 45 (wr.alloc (.cells #[nv, .int .i64 d1, .int .i64 d2] 45)) wr.heap.size #[nv, .int .i64 d1, .int .i64 d2] := At.new _ _ _
      have e0 := hA.cell 0
      have e1 := hA.cell 1
      have e2 := hA.cell 2
      have KN := hide (rightNeeds_any (hi.kept ta (fun _ _ e => e)) len (by omega) (by omega))
      have TW := hide (ht.trans ta)
      have q1 : (n : Int) < len := by omega
      subst hnv
      generalize xs.length = xn at *
      have B3 := hide hb2
      have A3 := hide hall2
      clear hi ta ht hA hb2 hall2 hdef
      rcases k1 : inB d1 1 5 with _ | _
      · have hr := unhide B3 (by rw [k1]; rfl)
        subst hr
        go_wp2_with (go_at_call 33; refine (within_any _ _ _ _).mono ?_; rw [k1]; rintro e w' ⟨rfl, rfl⟩)
        go_ret
        exact ⟨rfl, unhide TW⟩
      rcases k2 : inB d2 1 1048576 with _ | _
      · have hr := unhide B3 (by rw [k2]; simp)
        subst hr
        go_wp2_with (first | (go_at_call 33; refine (within_any _ _ _ _).mono ?_; rw [k1]; rintro e w' ⟨rfl, rfl⟩) | (go_at_call 55; refine (rightSpan_any _ _).mono ?_; rw [k2]; rintro e w' ⟨rfl, rfl⟩))
        go_ret
        exact ⟨rfl, unhide TW⟩
      rcases k3 : needsR len (-1) xs with _ | _
      · have hr := unhide B3 (by rw [k3]; simp)
        subst hr
        rw [k3] at KN
        go_wp2_with (first | (go_at_call 33; refine (within_any _ _ _ _).mono ?_; rw [k1]; rintro e w' ⟨rfl, rfl⟩) | (go_at_call 55; refine (rightSpan_any _ _).mono ?_; rw [k2]; rintro e w' ⟨rfl, rfl⟩) | (go_at_call 58; refine (unhide KN).mono ?_; rintro e w' ⟨rfl, rfl⟩))
        go_ret
        exact ⟨rfl, unhide TW⟩
      have HA4 := hide (unhide A3 (by rw [k1, k2, k3]; rfl))
      rw [k3] at KN
      go_wp2_with (first | (go_at_call 33; refine (within_any _ _ _ _).mono ?_; rw [k1]; rintro e w' ⟨rfl, rfl⟩) | (go_at_call 55; refine (rightSpan_any _ _).mono ?_; rw [k2]; rintro e w' ⟨rfl, rfl⟩) | (go_at_call 58; refine (unhide KN).mono ?_; rintro e w' ⟨rfl, rfl⟩))
      go_roundw
      case rel => exact ⟨n + 1, by go_num, by omega, HA4, unhide TW⟩
      case measure => simp [intOf]; omega
    · obtain rfl : n = len := by omega
      have q1 : ¬ (n : Int) < n := by omega
      have hr0 : res = true := by
        have h1 := unhide hall
        rw [List.take_of_length_le (by have := unhide HL; omega)] at h1
        rw [unhide R]
        unfold defsB
        rw [← unhide HL, h1]
        simp [hl1, hl2]
      clear R
      subst hr0
      go_wp2_with fail
      go_ret
      exact ⟨rfl, ht⟩

end

end Go.Proofs.Ythclffafbkeepaa
