/- The reference's Last, Compare, SameItems, Common. -/
import Derived.Test.YtehbefhpijifjaaItN
import Derived.BigQuiet
namespace Go.Proofs.Ytehbefhpijifjaa
open Go.RowKit

section
variable {w : World} {v v2 : Value} {l m : List It}

set_option maxHeartbeats 1000000 in
theorem refLast_any (h : ISees w v l) (hl : l.length ≤ 1000000000) : Calls Try.prog 39 #[v] w fun e w' => e = .returned (itV (lastF (0, 0) l)) ∧ Turn (fun _ => False) w w' := by
  obtain ⟨ao, cap, rfl⟩ := h.shape
  have ta : Turn (fun _ => False) w (w.alloc (.cells #[.int .i64 0, .int .i64 0] 23)) := (Turn.refl _ _).alloc _
  have hA : At 23 (w.alloc (.cells #[.int .i64 0, .int .i64 0] 23)) w.heap.size #[.int .i64 0, .int .i64 0] := At.new _ _ _
  by_cases h0 : l.length = 0
  · have hl0 : l = [] := List.eq_nil_of_length_eq_zero h0
    subst hl0
    go_enter Try.func39, Try.ntmps39
    go_wp2_with fail
    refine bodyPost_ret (results_cell_row rfl _ _ w.heap.size 23 _ (0, 0) _ rfl hA Try.underlying23 rfl (by kernel_rfl)) rfl ?_
    exact ⟨rfl, ta⟩
  · obtain ⟨g, o, rfl, c0, c1⟩ := h.at (l.length - 1) (by omega)
    have hlast := lastF_get (0, 0) l (by omega)
    rw [List.getElem?_eq_getElem (by omega)] at hlast
    injection hlast with hlast
    rw [hlast] at c0 c1
    clear h hlast
    generalize lastF (0, 0) l = e at *
    generalize l.length = n at *
    have q1 : ((n : Int) == 0) = false := by simpa using h0
    have d0 := (ta.cell (World.block_lt_of_cell? _ _ c0) (fun e => e)).trans c0
    have d1 := (ta.cell (World.block_lt_of_cell? _ _ c1) (fun e => e)).trans c1
    go_enter Try.func39, Try.ntmps39
    go_wp2_with fail
    refine bodyPost_ret (results_cell_row rfl _ _ w.heap.size 23 _ (0, 0) _ rfl (At.new _ _ _) Try.underlying23 rfl (by kernel_rfl)) rfl ?_
    exact ⟨rfl, (Turn.refl _ _).alloc _⟩

set_option maxHeartbeats 4000000 in
theorem refCompare_any (h : ISees w v l) (k : ISees w v2 m) (hl : l.length ≤ 1000000000) (hm : m.length ≤ 1000000000) :
    Calls Try.prog 21 #[v, v2] w fun e w' => e = .returned (.int .i64 (cmpP (lastF (0, 0) l) (lastF (0, 0) m))) ∧ Turn (fun _ => False) w w' := by
  obtain ⟨ao, cap, rfl⟩ := h.shape
  obtain ⟨ao2, cap2, rfl⟩ := k.shape
  have H := hide (And.intro h (And.intro k (And.intro hl hm)))
  obtain ⟨res, hres⟩ : ∃ r, r = cmpP (lastF (0, 0) l) (lastF (0, 0) m) := ⟨_, rfl⟩
  rw [← hres]
  have R := hide hres
  clear h k hl hm hres
  go_enter Try.func21, Try.ntmps21
  go_wp2_with fail
  refine (refLast_any (unhide H).1 (unhide H).2.2.1).mono ?_
  rintro e w1 ⟨rfl, t1⟩
  obtain ⟨x, hx⟩ : ∃ x, x = lastF (0, 0) l := ⟨_, rfl⟩
  rw [← hx] at R ⊢
  obtain ⟨x1, x2⟩ := x
  rw [show itV (x1, x2) = .agg #[.int .i64 x1, .int .i64 x2] from rfl]
  have hA : At 23 (w1.alloc (.cells #[.int .i64 x1, .int .i64 x2] 23)) w1.heap.size #[.int .i64 x1, .int .i64 x2] := At.new _ _ _
  have ht1 := t1.alloc (.cells #[.int .i64 x1, .int .i64 x2] 23)
  have HK := hide ((unhide H).2.1.kept ht1 (fun _ _ e => e))
  have T1 := hide ht1
  have HA := hide hA
  clear t1 hx hA ht1
  go_wp2_with fail
  refine (refLast_any (unhide HK) (unhide H).2.2.2).mono ?_
  rintro e w2 ⟨rfl, t2⟩
  obtain ⟨y, hy⟩ : ∃ y, y = lastF (0, 0) m := ⟨_, rfl⟩
  rw [← hy] at R ⊢
  obtain ⟨y1, y2⟩ := y
  rw [show itV (y1, y2) = .agg #[.int .i64 y1, .int .i64 y2] from rfl]
  have hA2 := ((unhide HA).kept t2 (fun e => e)).kept ((Turn.refl (fun _ => False) _).alloc (.cells #[.int .i64 y1, .int .i64 y2] 23)) (fun e => e)
  have hB : At 23 (w2.alloc (.cells #[.int .i64 y1, .int .i64 y2] 23)) w2.heap.size #[.int .i64 y1, .int .i64 y2] := At.new _ _ _
  have b0 : (w2.alloc (.cells #[.int .i64 y1, .int .i64 y2] 23)).cell? ⟨w1.heap.size, 0, none⟩ = some (.int .i64 x1) := hA2.cell 0
  have b1 : (w2.alloc (.cells #[.int .i64 y1, .int .i64 y2] 23)).cell? ⟨w1.heap.size, 1, none⟩ = some (.int .i64 x2) := hA2.cell 1
  have b2 : (w2.alloc (.cells #[.int .i64 y1, .int .i64 y2] 23)).cell? ⟨w2.heap.size, 0, none⟩ = some (.int .i64 y1) := hB.cell 0
  have b3 : (w2.alloc (.cells #[.int .i64 y1, .int .i64 y2] 23)).cell? ⟨w2.heap.size, 1, none⟩ = some (.int .i64 y2) := hB.cell 1
  have T2 := hide (((unhide T1).trans t2).alloc (.cells #[.int .i64 y1, .int .i64 y2] 23))
  clear t2 hy hA2 hB HK
  by_cases h1 : x2 = y2
  · have q1 : (x2 != y2) = false := by simpa using h1
    by_cases h2 : x1 < y1
    · have hr : res = -1 := by rw [unhide R]; unfold cmpP; simp only; rw [if_neg (by omega), if_neg (by omega), if_pos h2]
      clear R
      subst hr h1
      go_wp2_with fail
      go_ret
      exact ⟨rfl, unhide T2⟩
    · by_cases h3 : y1 < x1
      · have hr : res = 1 := by rw [unhide R]; unfold cmpP; simp only; rw [if_neg (by omega), if_neg (by omega), if_neg h2, if_pos h3]
        clear R
        subst hr h1
        go_wp2_with fail
        go_ret
        exact ⟨rfl, unhide T2⟩
      · have hr : res = 0 := by rw [unhide R]; unfold cmpP; simp only; rw [if_neg (by omega), if_neg (by omega), if_neg h2, if_neg h3]
        clear R
        subst hr h1
        go_wp2_with fail
        go_ret
        exact ⟨rfl, unhide T2⟩
  · have q1 : (x2 != y2) = true := by simpa using h1
    by_cases h2 : x2 < y2
    · have hr : res = -1 := by rw [unhide R]; unfold cmpP; simp only; rw [if_pos h2]
      clear R
      subst hr
      go_wp2_with fail
      go_ret
      exact ⟨rfl, unhide T2⟩
    · have hr : res = 1 := by rw [unhide R]; unfold cmpP; simp only; rw [if_neg h2, if_pos (by omega)]
      clear R
      subst hr
      go_wp2_with fail
      go_ret
      exact ⟨rfl, unhide T2⟩

set_option maxHeartbeats 4000000 in
theorem same_any (h : ISees w v l) (k : ISees w v2 m) (hl : l.length ≤ 1000000000) (hm : m.length ≤ 1000000000) :
    Calls Try.prog 22 #[v, v2] w fun e w' => e = .returned (.bool (decide (l = m))) ∧ Turn (fun _ => False) w w' := by
  obtain ⟨ao, cap, rfl⟩ := h.shape
  obtain ⟨ao2, cap2, rfl⟩ := k.shape
  obtain ⟨res, hres⟩ : ∃ r, r = decide (l = m) := ⟨_, rfl⟩
  rw [← hres]
  by_cases hlm : l.length = m.length
  case neg =>
    have hr : res = false := by rw [hres, decide_eq_false]; rintro rfl; exact hlm rfl
    subst hr
    clear hres
    have q1 : ((l.length : Int) != (m.length : Int)) = true := by simp only [bne_iff_ne]; omega
    clear h k
    generalize l.length = ln at *
    generalize m.length = mn at *
    go_enter Try.func22, Try.ntmps22
    go_wp2_with fail
    go_ret
    exact ⟨rfl, Turn.refl _ _⟩
  have H := hide (And.intro h (And.intro k (And.intro hlm hres)))
  obtain ⟨len, hlen⟩ : ∃ n, n = l.length := ⟨_, rfl⟩
  have HL := hide hlen
  have hlen2 : len = m.length := by omega
  rw [← hlen2, ← hlen]
  rw [← hlen] at hl
  clear h k hlm hlen hlen2 hres hm
  have q0 : ((len : Int) != (len : Int)) = false := by simp
  go_enter Try.func22, Try.ntmps22
  go_wp2_with fail
  go_loopw [5] (fun i wr => ∃ n : Nat, i = .int .i64 n ∧ n ≤ len ∧ l.take n = m.take n ∧ Turn (fun _ => False) w wr) (fun i _ => len - (intOf i).toNat)
  case atStart => exact ⟨0, rfl, by omega, by simp, Turn.refl _ _⟩
  case round =>
    obtain ⟨n, rfl, hn, htk, ht⟩ := hrel
    by_cases hlt : n < len
    · have hnl : n < l.length := by have := unhide HL; omega
      have hnm : n < m.length := by have := unhide HL; have := (unhide H).2.2.1; omega
      obtain ⟨g, o, rfl, a0, a1⟩ := ((unhide H).1.kept ht (fun _ _ e => e)).at n hnl
      obtain ⟨g2, o2, rfl, b0, b1⟩ := ((unhide H).2.1.kept ht (fun _ _ e => e)).at n hnm
      have htk2 : l[n] = m[n] → l.take (n + 1) = m.take (n + 1) := fun e => by
        rw [List.take_succ_eq_append_getElem hnl, List.take_succ_eq_append_getElem hnm, htk, e]
      have hne2 : l[n] ≠ m[n] → res = false := fun e => by
        rw [(unhide H).2.2.2, decide_eq_false]
        rintro rfl
        exact e rfl
      generalize l[n] = e at *
      generalize m[n] = f at *
      obtain ⟨e1, e2⟩ := e
      obtain ⟨f1, f2⟩ := f
      simp only at a0 a1 b0 b1
      have q1 : (n : Int) < len := by omega
      have HT := hide ht
      clear ht htk
      by_cases he : e1 = f1
      · by_cases he2 : e2 = f2
        · subst he he2
          have Hk := hide (htk2 rfl)
          clear htk2 hne2
          have q2 : ((e1 == e1) && (e2 == e2)) = true := by simp
          go_wp2_with fail
          go_quiet ((fail))
          go_wp2_with fail
          go_roundw
          case rel => exact ⟨n + 1, by go_num, by omega, unhide Hk, (unhide HT).trans (turn_drewNI _ wr nq)⟩
          case measure => simp [intOf]; omega
        · have hr := hne2 (fun h => he2 (by injection h))
          subst hr he
          clear htk2 hne2
          have q2 : (e2 == f2) = false := by simpa using he2
          go_wp2_with fail
          go_quiet ((fail))
          go_wp2_with fail
          go_ret
          exact ⟨rfl, (unhide HT).trans (turn_drewNI _ wr nq)⟩
      · have hr := hne2 (fun h => he (by injection h))
        subst hr
        clear htk2 hne2
        have q2 : (e1 == f1) = false := by simpa using he
        go_wp2_with fail
        go_quiet ((fail))
        go_wp2_with fail
        go_ret
        exact ⟨rfl, (unhide HT).trans (turn_drewNI _ wr nq)⟩
    · obtain rfl : n = len := by omega
      have q1 : ¬ (n : Int) < n := by omega
      have hr : res = true := by
        rw [(unhide H).2.2.2, decide_eq_true]
        rw [List.take_of_length_le (by have := unhide HL; omega), List.take_of_length_le (by have := unhide HL; have := (unhide H).2.2.1; omega)] at htk
        exact htk
      clear H htk
      subst hr
      go_wp2_with fail
      go_ret
      exact ⟨rfl, ht⟩

end

end Go.Proofs.Ytehbefhpijifjaa
