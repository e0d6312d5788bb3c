/- The law of names. -/
import Derived.Test.YthclffafbkeepaaEvZ
import Derived.Test.YthclffafbkeepaaInts
import Derived.Test.YthclffafbkeepaaHand
namespace Go.Proofs.Ythclffafbkeepaa
open Go.RowKit

/-- What a name of the law's own is made of. -/
def tab9 : Nat → ByteArray
  | 0 => ⟨#[97]⟩
  | 1 => ⟨#[122]⟩
  | 2 => ⟨#[48]⟩
  | 3 => ⟨#[57]⟩
  | 4 => ⟨#[45]⟩
  | 5 => ⟨#[65]⟩
  | 6 => ⟨#[95]⟩
  | 7 => ⟨#[32]⟩
  | _ => ⟨#[109]⟩

theorem tab9_size (r : Nat) : (tab9 r).size = 1 := by
  unfold tab9
  split <;> rfl

theorem index_tab9 (r : Nat) (hr : r < 9) (w : World) : Sem.run Try.prog (Instr.index 38 (.agg #[.string ⟨#[97]⟩, .string ⟨#[122]⟩, .string ⟨#[48]⟩, .string ⟨#[57]⟩, .string ⟨#[45]⟩, .string ⟨#[65]⟩, .string ⟨#[95]⟩, .string ⟨#[32]⟩, .string ⟨#[109]⟩]) (.int .i64 r)) w = .ok (.string (tab9 r)) w := by
  have : r = 0 ∨ r = 1 ∨ r = 2 ∨ r = 3 ∨ r = 4 ∨ r = 5 ∨ r = 6 ∨ r = 7 ∨ r = 8 := by omega
  rcases this with rfl | rfl | rfl | rfl | rfl | rfl | rfl | rfl | rfl <;> simp [Instr.index, run_underlying Try.underlying38, asIntOf, part, isAgg, tab9]

section
variable {w : World} {vv : Value} {l : List Int}

set_option maxHeartbeats 8000000 in
set_option maxRecDepth 100000 in
theorem eventNames_any (s : ByteArray) (near : Bool) (kind : Int) (hs : s.size ≤ 9223372036854775807) (hL : IntsAt w w.heap.size vv l) : Calls Try.prog 4 #[.string s, vv, .bool near, .int .i64 kind] w fun e w' => e = .returned (.bool true) ∧ Turn (fun _ => False) w w' := by
  obtain ⟨al, lc, rfl, hlm⟩ := hL.shape
  unfold maxLen at hlm
  have H := hide hL
  obtain ⟨ln, hln⟩ : ∃ n, n = l.length := ⟨_, rfl⟩
  have HLn := hide hln
  rw [← hln] at hlm ⊢
  clear hL hln
  obtain ⟨cb, hcb⟩ : ∃ b, b = closesB kind := ⟨_, rfl⟩
  have KC := hide (show ∀ w', Calls Try.prog 10 #[.int .i64 kind] w' fun e w2 => e = .returned (.bool cb) ∧ w' = w2 from fun w' => by rw [hcb]; exact closes_any _ _)
  have KE := hide (show ∀ w', Calls Try.prog 15 #[.int .i64 kind] w' fun e w2 => e = .returned (.bool cb) ∧ w' = w2 from fun w' => by rw [hcb]; exact refCloses_any _ _)
  clear hcb
  rcases near with _ | _
  · have HSz := hide hs
    go_enter Try.func4, Try.ntmps4
    obtain ⟨nb, hnb⟩ : ∃ b, b = nameB s := ⟨_, rfl⟩
    have KN := hide (show ∀ w', Calls Try.prog 13 #[.string s] w' fun e w2 => e = .returned (.bool nb) ∧ w' = w2 from fun w' => by rw [hnb]; exact isNameL_any s (unhide HSz))
    have KM := hide (show ∀ w', Calls Try.prog 14 #[.string s] w' fun e w2 => e = .returned (.bool nb) ∧ w' = w2 from fun w' => by rw [hnb]; exact refIsNameL_any s (unhide HSz))
    have KK := hide (known10_any w)
    clear hnb
    go_wp2_with fail
    refine (unhide KK).mono ?_
    rintro e w5 ⟨rfl, t5⟩
    have T5 := hide t5
    clear t5
    go_wp2_with (first
      | (go_at_call 13; refine (unhide KN _).mono ?_; rintro e w6 ⟨rfl, rfl⟩)
      | (go_at_call 14; refine (unhide KM _).mono ?_; rintro e w6 ⟨rfl, rfl⟩)
      | (go_at_call 10; refine (unhide KC _).mono ?_; rintro e w6 ⟨rfl, rfl⟩)
      | (go_at_call 15; refine (unhide KE _).mono ?_; rintro e w6 ⟨rfl, rfl⟩))
    go_ret
    exact ⟨rfl, unhide T5⟩
  · go_enter Try.func4, Try.ntmps4
    go_wp2_with fail
    go_loopw [0, 9] (fun sv i wr => ∃ (k : Nat) (t : ByteArray), i = .int .i64 k ∧ k ≤ 18 ∧ sv = .string t ∧ t.size = k ∧ w = wr) (fun _ i _ => 18 - (intOf i).toNat)
    case atStart => exact ⟨0, ⟨#[]⟩, rfl, by omega, rfl, rfl, rfl⟩
    case round =>
      obtain ⟨k, t, rfl, hk, rfl, hts, rfl⟩ := hrel
      have HTs := hide hts
      by_cases h1 : k < ln ∧ k < 18
      · have q1 : (k : Int) < ln := by omega
        have q2 : (k : Int) < 18 := by omega
        have hkl : k < l.length := by have := unhide HLn; omega
        have h2 := unhide H
        obtain ⟨a, rfl, a0, -⟩ := h2.at k hkl
        generalize l[k] = x at *
        obtain ⟨r, hr⟩ : ∃ r : Nat, x % 9 = r := ⟨(x % 9).toNat, by omega⟩
        have hr9 : r < 9 := by omega
        have KP := hide (show Calls Try.prog 12 #[.int .i64 x, .int .i64 9] w fun e w' => e = .returned (.int .i64 r) ∧ w = w' from (pick_any x 9 w (by omega) (by omega)).mono fun _ _ h => ⟨by rw [h.1, hr], h.2⟩)
        have ht9 := index_tab9 r hr9
        have hsz := tab9_size r
        obtain ⟨u, hu⟩ : ∃ u, u = tab9 r := ⟨_, rfl⟩
        rw [← hu] at ht9 hsz
        have s1 : (t.size : Int) ≤ 8388608 := by omega
        have s2 : (u.size : Int) ≤ 8388608 := by omega
        have HSz := hide hsz
        clear h2 hr hu hts hsz h1
        go_wp2_with (go_at_call 12; refine (unhide KP).mono ?_; rintro e w2 ⟨rfl, rfl⟩)
        go_roundw
        case rel => exact ⟨k + 1, t ++ u, by go_num, by omega, rfl, by rw [ByteArray.size_append, unhide HTs, unhide HSz], by trivial⟩
        case measure => simp [intOf]; omega
      · obtain ⟨cb2, hcb2⟩ : ∃ b, b = false := ⟨_, rfl⟩
        clear hcb2 cb2
        have HSz := hide (show t.size ≤ 9223372036854775807 by omega)
        go_upto_region 4 with fail
        go_cut [18] from 11 to 18 (fun c wx => c = .bool false ∧ wx = w)
        case first =>
          by_cases h2 : k < ln
          · have q1 : (k : Int) < ln := by omega
            have q2 : ¬ (k : Int) < 18 := by omega
            go_wp2_with fail
            go_meet
            case rel => exact ⟨rfl, rfl⟩
          · have q1 : ¬ (k : Int) < ln := by omega
            go_wp2_with fail
            go_meet
            case rel => exact ⟨rfl, rfl⟩
        case rest =>
          obtain ⟨rfl, rfl⟩ := hcut
          clear hts h1
          obtain ⟨nb, hnb⟩ : ∃ b, b = nameB t := ⟨_, rfl⟩
          have KN := hide (show ∀ w', Calls Try.prog 13 #[.string t] w' fun e w2 => e = .returned (.bool nb) ∧ w' = w2 from fun w' => by rw [hnb]; exact isNameL_any t (unhide HSz))
          have KM := hide (show ∀ w', Calls Try.prog 14 #[.string t] w' fun e w2 => e = .returned (.bool nb) ∧ w' = w2 from fun w' => by rw [hnb]; exact refIsNameL_any t (unhide HSz))
          have KK := hide (known10_any wc)
          clear hnb
          go_wp2_with fail
          refine (unhide KK).mono ?_
          rintro e w5 ⟨rfl, t5⟩
          have T5 := hide t5
          clear t5
          go_wp2_with (first
            | (go_at_call 13; refine (unhide KN _).mono ?_; rintro e w6 ⟨rfl, rfl⟩)
            | (go_at_call 14; refine (unhide KM _).mono ?_; rintro e w6 ⟨rfl, rfl⟩)
            | (go_at_call 10; refine (unhide KC _).mono ?_; rintro e w6 ⟨rfl, rfl⟩)
            | (go_at_call 15; refine (unhide KE _).mono ?_; rintro e w6 ⟨rfl, rfl⟩))
          go_ret
          exact ⟨rfl, unhide T5⟩

end

end Go.Proofs.Ythclffafbkeepaa
