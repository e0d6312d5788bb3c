/- Of any numbers whose it is, and which comes next: the law's walk. -/
import Derived.Test.YtmhngapibinmeaaVRef
import Derived.Test.YtmhngapibinmeaaVKnw
import Derived.Deep.RegionWith
import Derived.Deep.DeepMust
import Derived.Deep.CutRange
import Derived.Deep.CutBlock
namespace Go.Proofs.Ytmhngapibinmeaa
open Go.RowKit

set_option maxHeartbeats 4000000 in
set_option maxRecDepth 100000 in
theorem versionTells_any (v r near : Int) (w : World) : Calls Try.prog 4 #[.int .i64 v, .int .i64 r, .int .i64 near] w fun e w' => e = .returned (.bool true) ∧ Turn (fun _ => False) w w' := by
  go_enter Try.func4, Try.ntmps4
  go_wp2_with fail
  refine (pick_any near 4 _ (by omega) (by omega)).mono ?_
  rintro e w1 ⟨rfl, rfl⟩
  obtain ⟨q, hq⟩ : ∃ q : Int, q = near % 4 := ⟨_, rfl⟩
  rw [← hq]
  clear hq
  go_upto_block 0 with fail
  go_cut [0] from 12 (fun nv wx => ∃ n, nv = .int .i64 n ∧ wx = w)
  case first =>
    by_cases q0 : q = 0
    · subst q0
      go_wp2_with fail
      refine (pick_any v 200 _ (by omega) (by omega)).mono ?_
      rintro e w1 ⟨rfl, rfl⟩
      go_wp2_with fail
      go_meet
      case rel => exact ⟨_, rfl, rfl⟩
    · by_cases q1 : q = 1
      · subst q1
        go_wp2_with fail
        refine (pick_any v 40 _ (by omega) (by omega)).mono ?_
        rintro e w1 ⟨rfl, rfl⟩
        go_wp2_with fail
        go_meet
        case rel => exact ⟨_, rfl, rfl⟩
      · go_wp2_with fail
        go_meet
        case rel => exact ⟨_, rfl, rfl⟩
  case rest =>
    obtain ⟨n, rfl, rfl⟩ := hcut
    clear q v
    go_upto_if 25 with fail
    go_cut [1] from 24 (fun rv wx => ∃ m, rv = .int .i64 m ∧ wx = wc)
    case first =>
      by_cases hm : 0 < near.tmod 3
      · go_wp2_with fail
        refine (pick_any r 12 _ (by omega) (by omega)).mono ?_
        rintro e w1 ⟨rfl, rfl⟩
        go_wp2_with fail
        go_meet
        case rel => exact ⟨_, rfl, rfl⟩
      · go_wp2_with fail
        go_meet
        case rel => exact ⟨_, rfl, rfl⟩
    case rest =>
      obtain ⟨m, rfl, rfl⟩ := hcut
      clear r
      go_upto_region 8 with fail
      go_cut [34] from 29 (fun cv wx => ∃ c, cv = .bool c ∧ wx = wc)
      case first =>
        by_cases h1 : 1125899906842624 < n
        · go_wp2_with fail
          go_meet
          case rel => exact ⟨_, rfl, rfl⟩
        · go_wp2_with fail
          go_meet
          case rel => exact ⟨_, rfl, rfl⟩
      case rest =>
      obtain ⟨c, rfl, rfl⟩ := hcut
      go_upto_if 34 with fail
      go_cut [0] from 29 (fun nv wx => ∃ n', nv = .int .i64 n' ∧ wx = wc)
      case first =>
        cases c
        · go_wp2_with fail
          go_meet
          case rel => exact ⟨_, rfl, rfl⟩
        · go_wp2_with fail
          go_meet
          case rel => exact ⟨_, rfl, rfl⟩
      case rest =>
        clear n
        obtain ⟨v, rfl, rfl⟩ := hcut
        go_wp2_with fail
        refine (next_any v m _).mono ?_
        rintro e w1 ⟨rfl, rfl⟩
        go_wp2_with fail
        refine (refNext_any v m _).mono ?_
        rintro e w1 ⟨rfl, rfl⟩
        generalize nextT v m = t
        generalize hb : rightB v = b
        generalize hf : (if regB m = true then m else 0) = f
        generalize ho : v % 10 = o
        go_wp2_with (first
          | (go_at_call 8; refine (vknown_any _).mono ?_; rintro e w' ⟨rfl, rfl⟩)
          | (go_at_call 10; refine (right_any _ _).mono ?_; rw [hb]; rintro e w' ⟨rfl, rfl⟩)
          | (go_at_call 14; refine (refRight_any _ _).mono ?_; rw [hb]; rintro e w' ⟨rfl, rfl⟩)
          | (go_at_call 9; refine (owner_any _ _).mono ?_; rw [ho]; rintro e w' ⟨rfl, rfl⟩)
          | (go_at_call 15; refine (refOwner_any _ _).mono ?_; rw [ho]; rintro e w' ⟨rfl, rfl⟩)
          | (go_at_call 11; refine (first_any _ _).mono ?_; rw [hf]; rintro e w' ⟨rfl, rfl⟩)
          | (go_at_call 16; refine (refFirst_any _ _).mono ?_; rw [hf]; rintro e w' ⟨rfl, rfl⟩))
        go_ret
        exact ⟨rfl, Turn.refl _ _⟩

end Go.Proofs.Ytmhngapibinmeaa
