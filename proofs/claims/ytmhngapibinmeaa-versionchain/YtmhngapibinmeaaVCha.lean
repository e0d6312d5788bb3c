/- Versions made one from the other rise, and each is its region's: the law's walk. -/
import Derived.Test.YtmhngapibinmeaaVRis
import Derived.Test.YtmhngapibinmeaaInts
namespace Go.Proofs.Ytmhngapibinmeaa
open Go.RowKit

set_option maxHeartbeats 4000000 in
set_option maxRecDepth 100000 in
theorem versionChain_any (from' : Int) (lv : Value) (l : List Int) (w : World) (hL : IntsAt w w.heap.size lv l) : Calls Try.prog 6 #[.int .i64 from', lv] w fun e w' => e = .returned (.bool true) ∧ Turn (fun _ => False) w w' := by
  obtain ⟨al, lcap, rfl, hlm⟩ := hL.shape
  unfold maxLen at hlm
  go_enter Try.func6, Try.ntmps6
  go_wp2_with fail
  refine (pick_any from' 8 _ (by omega) (by omega)).mono ?_
  rintro e w1 ⟨rfl, rfl⟩
  obtain ⟨f, hf⟩ : ∃ f : Int, f = 1 + from' % 8 := ⟨_, rfl⟩
  have hf2 : 1 ≤ f ∧ f ≤ 8 := by omega
  have hrf : regB f = true := decide_eq_true hf2
  have hrR : rightB f = true := decide_eq_true ⟨by omega, by omega, by omega, by omega⟩
  go_wp2_with fail
  rw [← hf]
  refine (first_any f _).mono ?_
  rw [hrf]
  rintro e w1 ⟨rfl, rfl⟩
  go_wp2_with fail
  have HL := hide hL
  clear hL
  go_loopw [7, 5, 6] (fun i v u wr => ∃ (k : Nat) (n : Int), k ≤ l.length ∧ k ≤ 50 ∧ i = .int .i64 k ∧ v = .int .i64 n ∧ u = .int .i64 n ∧ rightB n = true ∧ n ≤ 10 * (k + 1) ∧ Turn (fun _ => False) w wr) (fun i _ _ _ => (50 - intOf i).toNat)
  case atStart => exact ⟨0, f, by omega, by omega, rfl, by rw [hf], by rw [hf], hrR, by omega, Turn.refl _ _⟩
  case round =>
    obtain ⟨k, n, hk, hk50, rfl, rfl, rfl, hn, hn10, ht⟩ := hrel
    have hLr := (unhide HL).kept ht (Nat.le_refl _) (fun _ _ h => h)
    by_cases hlt : k < l.length ∧ k < 50
    · obtain ⟨hlt, hlt50⟩ := hlt
      obtain ⟨a, rfl, hc, hab⟩ := hLr.at k hlt
      have q1 : (k : Int) < l.length := by omega
      have q2 : (k : Int) < 50 := by omega
      obtain ⟨r, hr⟩ : ∃ r : Int, r = 1 + l[k] % 8 := ⟨_, rfl⟩
      have hr2 : 1 ≤ r ∧ r ≤ 8 := by omega
      have hrr : regB r = true := decide_eq_true hr2
      have hta := nextT_ok hn (by omega) hrr
      have hRa := right_next hn (by omega) hrr
      have hxa := nextV_bounds (v := n) hr2
      have hn0 := right_bounds (.inr hn)
      generalize nextV n r = x at *
      obtain ⟨x1, x2, x3⟩ := hxa
      have hx10 : x ≤ 10 * ((k : Int) + 2) := by omega
      have Hr := hide hr
      clear hLr hr
      go_wp2_with fail
      refine (pick_any l[k] 8 _ (by omega) (by omega)).mono ?_
      rintro e w1 ⟨rfl, rfl⟩
      go_wp2_with fail
      rw [← unhide Hr]
      refine (next_any n r _).mono ?_
      rw [hta]
      rintro e w1 ⟨rfl, rfl⟩
      go_wp2_with fail
      refine (next_any n r _).mono ?_
      rw [hta]
      rintro e w1 ⟨rfl, rfl⟩
      go_wp2_with (go_at_call 9; refine (owner_any _ _).mono ?_; rw [x3]; rintro e w' ⟨rfl, rfl⟩)
      go_roundw
      case rel => exact ⟨k + 1, x, by omega, by omega, by go_num, rfl, rfl, hRa, by omega, ht⟩
      case measure => simp [intOf]; omega
    · by_cases hlt1 : k < l.length
      · have q1 : (k : Int) < l.length := by omega
        have q2 : ¬ (k : Int) < 50 := by omega
        clear hLr
        go_wp2_with (go_at_call 8; refine (vknown_any _).mono ?_; rintro e w' ⟨rfl, rfl⟩)
        go_ret
        exact ⟨rfl, ht⟩
      · have q1 : ¬ (k : Int) < l.length := by omega
        clear hLr
        go_wp2_with (go_at_call 8; refine (vknown_any _).mono ?_; rintro e w' ⟨rfl, rfl⟩)
        go_ret
        exact ⟨rfl, ht⟩

end Go.Proofs.Ytmhngapibinmeaa
