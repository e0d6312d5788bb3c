/- items' Right, lengthen, Add, Cut; slices.Clone of items. -/
import Derived.Test.YtehbefhpijifjaaItF
namespace Go.Proofs.Ytehbefhpijifjaa
open Go.RowKit

section
variable {w w1 : World} {v v2 : Value} {l m : List It}

set_option maxHeartbeats 4000000 in
theorem rightL_any (h : ISees w v l) (hl : l.length ≤ 1000000000) : Calls Try.prog 26 #[v] w fun e w' => e = .returned (.bool (rightL (0, 0) l)) ∧ Turn (fun _ => False) w w' := by
  obtain ⟨ao, cap, rfl⟩ := h.shape
  obtain ⟨len, hlen⟩ : ∃ n, n = l.length := ⟨_, rfl⟩
  obtain ⟨res, hres⟩ : ∃ r, r = rightL (0, 0) l := ⟨_, rfl⟩
  have H := hide h
  have HL := hide hlen
  have R := hide hres
  rw [← hres, ← hlen]
  rw [← hlen] at hl
  clear h hlen hres
  go_enter Try.func26, Try.ntmps26
  go_wp2_with fail
  go_loopw [5, 9] (fun _ i wr => ∃ (n : Nat) (c1 c2 : Int), i = .int .i64 n ∧ n ≤ len ∧ res = rightL (c1, c2) (l.drop n) ∧ At 23 wr w.heap.size #[.int .i64 c1, .int .i64 c2] ∧ Turn (fun _ => False) w wr) (fun _ i _ => len - (intOf i).toNat)
  case atStart => exact ⟨0, 0, 0, rfl, by omega, by rw [unhide R]; simp, At.new _ _ _, (Turn.refl _ _).alloc _⟩
  case round =>
    obtain ⟨n, a1, a2, rfl, hn, hr, hA, ht⟩ := hrel
    by_cases hlt : n < len
    · have hnl : n < l.length := by have := unhide HL; omega
      obtain ⟨g, o, rfl, c0, c1⟩ := (by have := (unhide H).kept ht (fun _ _ e => e); rw [← unhide HL] at this; exact this.at n hnl : ∃ g o, ao = some ⟨g, o, none⟩ ∧ wr.cell? ⟨g, o + n * 2, none⟩ = some (.int .i64 l[n].1) ∧ wr.cell? ⟨g, o + n * 2 + 1, none⟩ = some (.int .i64 l[n].2))
      rw [List.drop_eq_getElem_cons hnl] at hr
      generalize l[n] = e at *
      obtain ⟨e1, e2⟩ := e
      simp only at c0 c1
      have q1 : (n : Int) < len := by omega
      have ta : Turn (fun _ => False) wr (wr.alloc (.cells #[.int .i64 e1, .int .i64 e2] 23)) := (Turn.refl _ _).alloc _
      have hB := hA.kept ta (fun e => e)
      have d0 : (wr.alloc (.cells #[.int .i64 e1, .int .i64 e2] 23)).cell? ⟨w.heap.size, 0, none⟩ = some (.int .i64 a1) := hB.cell 0
      have d1 : (wr.alloc (.cells #[.int .i64 e1, .int .i64 e2] 23)).cell? ⟨w.heap.size, 1, none⟩ = some (.int .i64 a2) := hB.cell 1
      have f0 := hB.frozen 0
      have f1 := hB.frozen 1
      have Hfin := hide (And.intro (((hB.set 0 (.int .i64 e1)).set 1 (.int .i64 e2))) (((ht.alloc (.cells #[.int .i64 e1, .int .i64 e2] 23)).setCell (p := ⟨w.heap.size, 0, none⟩) (.inr (Nat.le_refl _)) (.int .i64 e1)).setCell (p := ⟨w.heap.size, 1, none⟩) (.inr (Nat.le_refl _)) (.int .i64 e2)))
      have Ht := hide (ht.alloc (.cells #[.int .i64 e1, .int .i64 e2] 23))
      simp only [rightL] at hr
      clear ht hA hB ta
      by_cases k1 : a1 < e1
      case neg =>
        have hr0 : res = false := by rw [hr, decide_eq_false k1]; rfl
        have k1' : e1 ≤ a1 := by omega
        clear hr
        subst hr0
        go_wp2_with fail
        go_ret
        exact ⟨rfl, unhide Ht⟩
      by_cases k2 : e1 ≤ 200
      case neg =>
        have hr0 : res = false := by rw [hr, decide_eq_false k2]; simp
        clear hr
        subst hr0
        go_wp2_with fail
        go_ret
        exact ⟨rfl, unhide Ht⟩
      by_cases k3 : a2 < e2
      case neg =>
        have hr0 : res = false := by rw [hr, decide_eq_false k3]; simp
        clear hr
        subst hr0
        go_wp2_with fail
        go_ret
        exact ⟨rfl, unhide Ht⟩
      rw [decide_eq_true k1, decide_eq_true k2, decide_eq_true k3] at hr
      rcases k4 : rightB e2 with _ | _
      · have hr0 : res = false := by rw [hr, k4]; rfl
        clear hr
        subst hr0
        go_wp2_with (go_at_call 27; refine (right_any _ _).mono ?_; rw [k4]; rintro e w' ⟨rfl, rfl⟩)
        go_ret
        exact ⟨rfl, unhide Ht⟩
      · rw [k4] at hr
        have Hr := hide hr
        clear hr
        go_wp2_with (go_at_call 27; refine (right_any _ _).mono ?_; rw [k4]; rintro e w' ⟨rfl, rfl⟩)
        go_roundw
        case rel => exact ⟨n + 1, e1, e2, by go_num, by omega, by simpa using unhide Hr, (unhide Hfin).1, (unhide Hfin).2⟩
        case measure => simp [intOf]; omega
    · obtain rfl : n = len := by omega
      have q1 : ¬ (n : Int) < n := by omega
      rw [List.drop_of_length_le (by have := unhide HL; omega)] at hr
      have hr0 : res = true := hr
      clear hr
      subst hr0
      go_wp2_with fail
      go_ret
      exact ⟨rfl, ht⟩

end

end Go.Proofs.Ytehbefhpijifjaa
