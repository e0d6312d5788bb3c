/- Is a record too long: slices.ContainsFunc over records. -/
import Derived.Test.YtfmbkpdjjhcmcaaGreatR5
namespace Go.Proofs.YtfmbkpdjjhcmcaaGreat
open Go.RowKit

/-- One has more bytes than a frame takes. -/
def tooLong (l : List (Value × List UInt8)) : Prop := ∃ p ∈ l, 1048576 < p.2.length

set_option maxHeartbeats 400000 in
theorem tooLong1_yes (ao : Option Addr) (n c : Nat) (w : World) (h : 1048576 < n) : Calls Tryz.prog 60 #[.slice ao n c] w fun e w' => e = .returned (.bool true) ∧ w = w' := by
  have h1 : (1048576 : Int) < n := by omega
  go_enter Tryz.func60, Tryz.ntmps60
  go_wp2
  go_ret
  exact ⟨rfl, rfl⟩

set_option maxHeartbeats 400000 in
theorem tooLong1_no (ao : Option Addr) (n c : Nat) (w : World) (h : ¬ 1048576 < n) : Calls Tryz.prog 60 #[.slice ao n c] w fun e w' => e = .returned (.bool false) ∧ w = w' := by
  have h1 : decide ((1048576 : Int) < n) = false := by simp; omega
  go_enter Tryz.func60, Tryz.ntmps60
  go_wp2
  go_ret
  exact ⟨rfl, rfl⟩

section
variable {Q : Nat → Prop} {w : World} {v : Value} {l : List (Value × List UInt8)}

set_option maxHeartbeats 1000000 in
set_option maxRecDepth 100000 in
theorem index_any (h : RL Q w v l) : Calls Tryz.prog 77 #[v, .func (.func 60) #[] #[]] w fun e w' => ∃ r : Int, e = .returned (.int .i64 r) ∧ (0 ≤ r ↔ tooLong l) ∧ w = w' := by
  obtain ⟨ao, cap, rfl⟩ := h.shape
  have hm := h.len
  unfold maxLen at hm
  have HA := hide h.at
  obtain ⟨len, hlen⟩ : ∃ len, len = l.length := ⟨_, rfl⟩
  have HL := hide hlen
  rw [← hlen] at hm ⊢
  clear hlen h
  go_enter Tryz.func77, Tryz.ntmps77
  go_wp2
  go_loopw [5, 8] (fun _ i wr => ∃ k : Nat, i = .int .i64 k ∧ k ≤ len ∧ (∀ p ∈ l.take k, ¬ 1048576 < p.2.length) ∧ wr = w) (fun _ i _ => len - (intOf i).toNat)
  case atStart => exact ⟨0, rfl, by omega, by simp, rfl⟩
  case round =>
    obtain ⟨k, rfl, hk, hno, rfl⟩ := hrel
    by_cases hlt : k < len
    · have hkl : k < l.length := by have := unhide HL; omega
      obtain ⟨g, cap', bo, n, c, e, e1, e2, hc⟩ := unhide HA k hkl
      injection e with ea eb ec
      subst ea
      have q1 : (k : Int) < len := by omega
      have En := hide e2
      have Hk := hide hkl
      clear e1 e2 eb ec
      by_cases hn : 1048576 < n
      · go_wp2_with fail
        refine (tooLong1_yes _ _ _ _ hn).mono ?_
        rintro e w1 ⟨rfl, rfl⟩
        go_wp2
        go_ret
        refine ⟨k, rfl, ⟨fun _ => ⟨l[k]'(unhide Hk), List.getElem_mem _, by have := unhide En; omega⟩, fun _ => by omega⟩, rfl⟩
      · go_wp2_with fail
        refine (tooLong1_no _ _ _ _ hn).mono ?_
        rintro e w1 ⟨rfl, rfl⟩
        go_wp2
        go_roundw
        case rel =>
          refine ⟨k + 1, by go_num, by omega, fun p hp => ?_, by trivial⟩
          rw [List.take_succ_eq_append_getElem (unhide Hk)] at hp
          rcases List.mem_append.1 hp with hp | hp
          · exact hno p hp
          · simp only [List.mem_singleton] at hp
            subst hp
            have := unhide En
            omega
        case measure => simp [intOf]; omega
    · obtain rfl : k = len := by omega
      have q1 : ¬ (k : Int) < k := by omega
      go_wp2
      go_ret
      refine ⟨-1, rfl, ⟨fun h => by omega, fun ⟨p, hp, h1⟩ => ?_⟩, rfl⟩
      exact absurd h1 (hno p (by rw [List.take_of_length_le (by have := unhide HL; omega)]; exact hp))

set_option maxHeartbeats 1000000 in
set_option maxRecDepth 100000 in
theorem tooLong_yes (h : RL Q w v l) (ht : tooLong l) : Calls Tryz.prog 35 #[v] w fun e w' => e = .returned (.bool true) ∧ w = w' := by
  have H := hide (index_any h)
  obtain ⟨ao, cap, rfl⟩ := h.shape
  have hc : Calls Tryz.prog 59 #[.slice ao l.length cap, .func (.func 60) #[] #[]] w fun e w' => e = .returned (.bool true) ∧ w = w' := by
    clear h
    generalize l.length = len at *
    go_enter Tryz.func59, Tryz.ntmps59
    go_wp2_with fail
    refine (unhide H).mono ?_
    rintro e w1 ⟨r, rfl, hr, rfl⟩
    have h0 : 0 ≤ r := hr.2 ht
    clear hr
    go_wp2
    go_ret
    exact ⟨rfl, rfl⟩
  clear H h
  generalize l.length = len at *
  go_enter Tryz.func35, Tryz.ntmps35
  go_wp2_with fail
  refine hc.mono ?_
  rintro e w1 ⟨rfl, rfl⟩
  go_wp2
  go_ret
  exact ⟨rfl, rfl⟩

set_option maxHeartbeats 1000000 in
set_option maxRecDepth 100000 in
theorem tooLong_no (h : RL Q w v l) (ht : ¬ tooLong l) : Calls Tryz.prog 35 #[v] w fun e w' => e = .returned (.bool false) ∧ w = w' := by
  have H := hide (index_any h)
  obtain ⟨ao, cap, rfl⟩ := h.shape
  have hc : Calls Tryz.prog 59 #[.slice ao l.length cap, .func (.func 60) #[] #[]] w fun e w' => e = .returned (.bool false) ∧ w = w' := by
    clear h
    generalize l.length = len at *
    go_enter Tryz.func59, Tryz.ntmps59
    go_wp2_with fail
    refine (unhide H).mono ?_
    rintro e w1 ⟨r, rfl, hr, rfl⟩
    have h0 : decide (0 ≤ r) = false := by simpa using fun h => ht (hr.1 h)
    clear hr
    go_wp2
    go_ret
    exact ⟨rfl, rfl⟩
  clear H h
  generalize l.length = len at *
  go_enter Tryz.func35, Tryz.ntmps35
  go_wp2_with fail
  refine hc.mono ?_
  rintro e w1 ⟨rfl, rfl⟩
  go_wp2
  go_ret
  exact ⟨rfl, rfl⟩

end

end Go.Proofs.YtfmbkpdjjhcmcaaGreat
