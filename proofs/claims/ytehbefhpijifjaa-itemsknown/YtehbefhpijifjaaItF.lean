/- What items' functions that only read answer: Last, ahead, find, Version, Has, behind. -/
import Derived.Test.YtehbefhpijifjaaItM
import Derived.Test.YtehbefhpijifjaaHand
import Derived.BigQuiet
namespace Go.Proofs.Ytehbefhpijifjaa
open Go.RowKit

section
variable {w : World} {v : Value} {l : List It}

set_option maxHeartbeats 1000000 in
theorem last_any (h : ISees w v l) (hl : l.length ≤ 1000000000) : Calls Try.prog 16 #[v] w fun e w' => e = .returned (itV (lastF (0, 0) l)) ∧ Turn (fun _ => False) w w' := by
  obtain ⟨ao, cap, rfl⟩ := h.shape
  have ta : Turn (fun _ => False) w (w.alloc (.cells #[.int .i64 0, .int .i64 0] 23)) := (Turn.refl _ _).alloc _
  have hA : At 23 (w.alloc (.cells #[.int .i64 0, .int .i64 0] 23)) w.heap.size #[.int .i64 0, .int .i64 0] := At.new _ _ _
  by_cases h0 : l.length = 0
  · have hl0 : l = [] := List.eq_nil_of_length_eq_zero h0
    subst hl0
    go_enter Try.func16, Try.ntmps16
    go_wp2_with fail
    refine bodyPost_ret (results_cell_row rfl _ _ w.heap.size 23 _ (0, 0) _ rfl hA Try.underlying23 rfl (by kernel_rfl)) rfl ?_
    exact ⟨rfl, ta⟩
  · obtain ⟨g, o, rfl, c0, c1⟩ := h.at (l.length - 1) (by omega)
    have hlast := lastF_get (0, 0) l (by omega)
    rw [List.getElem?_eq_getElem (by omega)] at hlast
    injection hlast with hlast
    rw [hlast] at c0 c1
    clear h hlast
    generalize lastF (0, 0) l = e at *
    generalize l.length = n at *
    have q1 : ((n : Int) == 0) = false := by simpa using h0
    have d0 := (ta.cell (World.block_lt_of_cell? _ _ c0) (fun e => e)).trans c0
    have d1 := (ta.cell (World.block_lt_of_cell? _ _ c1) (fun e => e)).trans c1
    go_enter Try.func16, Try.ntmps16
    go_wp2_with fail
    refine bodyPost_ret (results_cell_row rfl _ _ w.heap.size 23 _ (0, 0) _ rfl (At.new _ _ _) Try.underlying23 rfl (by kernel_rfl)) rfl ?_
    exact ⟨rfl, (Turn.refl _ _).alloc _⟩

theorem ahead_any (id : Int) (h : ISees w v l) (hl : l.length ≤ 1000000000) : Calls Try.prog 36 #[v, .int .i64 id] w fun e w' => e = .returned (.int .i64 (ahd id l)) ∧ w = w' := by
  obtain ⟨ao, cap, rfl⟩ := h.shape
  obtain ⟨len, hlen⟩ : ∃ n, n = l.length := ⟨_, rfl⟩
  have HL := hide hlen
  have H := hide h
  rw [← hlen]
  rw [← hlen] at hl
  clear h hlen
  go_enter Try.func36, Try.ntmps36
  go_wp2_with fail
  go_loopw [5] (fun k wr => ∃ n : Nat, k = .int .i64 n ∧ n ≤ len ∧ ahd id l = n + ahd id (l.drop n) ∧ w = wr) (fun k _ => len - (intOf k).toNat)
  case atStart => exact ⟨0, rfl, by omega, by simp, rfl⟩
  case round =>
    obtain ⟨n, rfl, hn, hah, rfl⟩ := hrel
    by_cases hlt : n < len
    · have hnl : n < l.length := by have := unhide HL; omega
      obtain ⟨g, o, rfl, c0, c1⟩ := (by have := unhide H; rw [← unhide HL] at this; exact this.at n hnl : ∃ g o, ao = some ⟨g, o, none⟩ ∧ w.cell? ⟨g, o + n * 2, none⟩ = some (.int .i64 l[n].1) ∧ w.cell? ⟨g, o + n * 2 + 1, none⟩ = some (.int .i64 l[n].2))
      rw [List.drop_eq_getElem_cons hnl] at hah
      generalize l[n] = e at *
      simp only [ahd] at hah
      have q1 : (n : Int) < len := by omega
      by_cases hid : e.1 < id
      · rw [if_pos hid] at hah
        have Ha := hide hah
        clear hah
        go_wp2_with fail
        go_roundw
        case rel => exact ⟨n + 1, by go_num, by omega, by have := unhide Ha; omega, by trivial⟩
        case measure => simp [intOf]; omega
      · rw [if_neg hid] at hah
        have Ha := hide hah
        clear hah
        go_wp2_with fail
        go_ret
        exact ⟨ret_int (by have := unhide Ha; omega), rfl⟩
    · obtain rfl : n = len := by omega
      have q1 : ¬ (n : Int) < n := by omega
      rw [List.drop_of_length_le (by have := unhide HL; omega)] at hah
      have Ha := hide hah
      clear hah
      go_wp2_with fail
      go_ret
      exact ⟨ret_int (by have := unhide Ha; simp only [ahd] at this; omega), rfl⟩

theorem find_any (id : Int) (h : ISees w v l) (hl : l.length ≤ 1000000000) : Calls Try.prog 33 #[v, .int .i64 id] w fun e w' => e = .returned (.tuple #[.int .i64 (findP l id).1, .bool (findP l id).2]) ∧ w = w' := by
  have HA := hide (ahead_any id h hl)
  obtain ⟨ao, cap, rfl⟩ := h.shape
  have hle := ahd_le id l
  by_cases h1 : id < 1
  · have hf : findP l id = (0, false) := if_pos (.inl h1)
    rw [hf]
    go_enter Try.func33, Try.ntmps33
    go_wp2_with (go_at_call 36; refine (unhide HA).mono ?_; rintro e w' ⟨rfl, rfl⟩)
    refine bodyPost_ret (results_tmp2 rfl _ _ _) rfl ?_
    exact ⟨rfl, rfl⟩
  · by_cases h2 : ahd id l = l.length
    · have hf : findP l id = (0, false) := if_pos (.inr h2)
      rw [hf]
      have q2 : ((ahd id l : Int) == (l.length : Int)) = true := by rw [h2]; simp
      clear h2 hf
      go_enter Try.func33, Try.ntmps33
      go_wp2_with (go_at_call 36; refine (unhide HA).mono ?_; rintro e w' ⟨rfl, rfl⟩)
      refine bodyPost_ret (results_tmp2 rfl _ _ _) rfl ?_
      exact ⟨rfl, rfl⟩
    · have hf : findP l id = (((l[ahd id l]?).getD (0, 0)).2, true) := if_neg (by simp [h1, h2])
      have hlt : ahd id l < l.length := by omega
      rw [hf, List.getElem?_eq_getElem hlt]
      obtain ⟨g, o, rfl, c0, c1⟩ := h.at _ hlt
      have q2 : ((ahd id l : Int) == (l.length : Int)) = false := by
        rw [beq_eq_false_iff_ne]
        omega
      simp only [Option.getD_some]
      generalize l[ahd id l] = e at *
      clear h hf
      generalize ahd id l = n at *
      generalize l.length = len at *
      go_enter Try.func33, Try.ntmps33
      go_wp2_with (go_at_call 36; refine (unhide HA).mono ?_; rintro e w' ⟨rfl, rfl⟩)
      refine bodyPost_ret (results_tmp2 rfl _ _ _) rfl ?_
      exact ⟨rfl, rfl⟩

theorem version_any (id : Int) (h : ISees w v l) (hl : l.length ≤ 1000000000) : Calls Try.prog 12 #[v, .int .i64 id] w fun e w' => e = .returned (.int .i64 (findP l id).1) ∧ w = w' := by
  have HF := hide (find_any id h hl)
  obtain ⟨ao, cap, rfl⟩ := h.shape
  go_enter Try.func12, Try.ntmps12
  go_wp2_with (go_at_call 33; refine (unhide HF).mono ?_; rintro e w' ⟨rfl, rfl⟩)
  go_ret
  exact ⟨rfl, rfl⟩

set_option maxHeartbeats 4000000 in
theorem has_any (x : It) (h : ISees w v l) (hl : l.length ≤ 1000000000) : Calls Try.prog 13 #[v, itV x] w fun e w' => e = .returned (.bool (hasP l x)) ∧ Turn (fun _ => False) w w' := by
  obtain ⟨ao, cap, rfl⟩ := h.shape
  have ta : Turn (fun _ => False) w (w.alloc (.cells #[.int .i64 x.1, .int .i64 x.2] 23)) := (Turn.refl _ _).alloc _
  have HF := hide (find_any x.1 (h.kept ta (fun _ _ e => e)) hl)
  obtain ⟨a, b⟩ := x
  have hx : itV (a, b) = .agg #[.int .i64 a, .int .i64 b] := rfl
  rw [hx]
  simp only at HF ta
  by_cases h0 : (a, b) = ((0, 0) : It)
  · have hh : hasP l (a, b) = true := by unfold hasP; rw [decide_eq_true h0]; rfl
    rw [hh]
    injection h0 with h1 h2
    subst h1 h2
    go_enter Try.func13, Try.ntmps13
    go_wp2_with fail
    go_ret
    exact ⟨rfl, ta⟩
  · have hh : hasP l (a, b) = ((findP l a).2 && decide ((findP l a).1 = b)) := by unfold hasP; rw [decide_eq_false h0]; rfl
    rw [hh]
    have hcase : (a = 0 ∧ ¬ b = 0) ∨ ¬ a = 0 := by
      by_cases ha : a = 0
      · exact .inl ⟨ha, fun e => h0 (by rw [ha, e])⟩
      · exact .inr ha
    clear h0 hh h
    rcases hcase with ⟨rfl, hb0⟩ | ha0
    all_goals (
      generalize findP l _ = f at *
      obtain ⟨fv, fb⟩ := f
      simp only at HF
      rcases fb with _ | _
      · go_enter Try.func13, Try.ntmps13
        go_wp2_with (go_at_call 33; refine (unhide HF).mono ?_; rintro e w' ⟨rfl, rfl⟩)
        go_ret
        exact ⟨rfl, ta⟩
      · by_cases hb : fv = b
        · have q2 : (fv == b) = true := by simpa using hb
          have q3 : decide (fv = b) = true := decide_eq_true hb
          rw [q3]
          clear hb
          go_enter Try.func13, Try.ntmps13
          go_wp2_with (go_at_call 33; refine (unhide HF).mono ?_; rintro e w' ⟨rfl, rfl⟩)
          go_ret
          exact ⟨rfl, ta⟩
        · have q2 : (fv == b) = false := by simpa using hb
          have q3 : decide (fv = b) = false := decide_eq_false hb
          rw [q3]
          go_enter Try.func13, Try.ntmps13
          go_wp2_with (go_at_call 33; refine (unhide HF).mono ?_; rintro e w' ⟨rfl, rfl⟩)
          go_ret
          exact ⟨rfl, ta⟩)

theorem behind_yes {e : It} {r : List It} {g o cap : Nat} (h : ISees w (.slice (some ⟨g, o, none⟩) (r.length + 1) cap) (e :: r)) (hl : r.length ≤ 1000000000) :
    Calls Try.prog 37 #[.slice (some ⟨g, o, none⟩) ((r.length + 1 : Nat)) cap, .int .i64 e.1] w fun x w' => x = .returned (.slice (some ⟨g, if cap = 1 then o else o + 2, none⟩) r.length (cap - 1)) ∧ w = w' := by
  obtain ⟨g', o', e1, c0, c1⟩ := h.at 0 (by simp)
  injection e1 with e1
  simp only [Addr.mk.injEq, and_true] at e1
  obtain ⟨rfl, rfl⟩ := e1
  simp only [Nat.zero_mul, Nat.add_zero, List.getElem_cons_zero] at c0 c1
  have hcap : r.length + 1 ≤ cap ∧ cap ≤ maxLen := by
    rcases h with ⟨h, _⟩ | ⟨g', o', cap', e, hc, hm, hcell⟩
    · cases h
    · injection e with _ _ e
      subst e
      exact ⟨by simpa using hc, hm⟩
  unfold maxLen at hcap
  have H := hide h
  clear h
  generalize hn : r.length = n at *
  by_cases h1 : cap = 1
  · subst h1
    obtain rfl : n = 0 := by omega
    rw [if_pos rfl]
    go_enter Try.func37, Try.ntmps37
    go_wp2_with fail
    go_ret
    exact ⟨rfl, rfl⟩
  · rw [if_neg h1]
    go_enter Try.func37, Try.ntmps37
    go_wp2_with fail
    go_ret
    exact ⟨rfl, rfl⟩

theorem behind_no {e : It} {r : List It} (id : Int) (h : ISees w v (e :: r)) (hid : ¬ e.1 = id) : Calls Try.prog 37 #[v, .int .i64 id] w fun x w' => x = .returned v ∧ w = w' := by
  obtain ⟨ao, cap, rfl⟩ := h.shape
  obtain ⟨g, o, rfl, c0, c1⟩ := h.at 0 (by simp)
  simp only [Nat.zero_mul, Nat.add_zero, List.getElem_cons_zero] at c0 c1
  have hn : 0 < (e :: r).length := by simp
  generalize (e :: r).length = n at *
  go_enter Try.func37, Try.ntmps37
  go_wp2_with fail
  go_ret
  exact ⟨rfl, rfl⟩

/-- What behind answers, in whatever world shows the list. -/
theorem behind_is {e : It} {r : List It} (id : Int) (h : ISees w v (e :: r)) (hl : r.length ≤ 1000000000) :
    ∃ v', ISees w v' (if e.1 = id then r else e :: r) ∧ ∀ w', ISees w' v (e :: r) → Calls Try.prog 37 #[v, .int .i64 id] w' fun x w2 => x = .returned v' ∧ w' = w2 := by
  by_cases hid : e.1 = id
  · rw [if_pos hid]
    subst hid
    obtain ⟨ao, cap, rfl⟩ := h.shape
    obtain ⟨g, o, rfl, c0, c1⟩ := h.at 0 (by simp)
    refine ⟨.slice (some ⟨g, if cap = 1 then o else o + 2, none⟩) r.length (cap - 1), ?_, fun w' h' => behind_yes h' hl⟩
    by_cases h1 : cap = 1
    · rw [if_pos h1]
      exact h.tail ⟨g, o, none⟩ (.inr ⟨h1, rfl⟩)
    · rw [if_neg h1]
      exact h.tail ⟨g, o + 2, none⟩ (.inl rfl)
  · rw [if_neg hid]
    exact ⟨v, h, fun w' h' => behind_no id h' hid⟩

end

end Go.Proofs.Ytehbefhpijifjaa
