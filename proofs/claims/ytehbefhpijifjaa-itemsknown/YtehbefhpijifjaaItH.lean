/- items' Add and Cut. -/
import Derived.Test.YtehbefhpijifjaaItG
namespace Go.Proofs.Ytehbefhpijifjaa
open Go.RowKit

/-- Whether Add takes an event. -/
def addP (l : List It) (e : It) : Prop := rightL (0, 0) l = true ∧ e.1 = (lastF (0, 0) l).1 + 1 ∧ e.1 ≤ 200 ∧ rightB e.2 = true ∧ (lastF (0, 0) l).2 ≤ e.2

section
variable {w w0 w1 : World} {v v2 : Value} {l m : List It}

theorem last_small {c : It} {l : List It} (h : rightL c l = true) (hc : 0 ≤ c.1 ∧ c.1 ≤ 200) : 0 ≤ (lastF c l).1 ∧ (lastF c l).1 ≤ 200 := by
  induction l generalizing c with
  | nil => exact hc
  | cons e r ih =>
    simp only [rightL, Bool.and_eq_true, decide_eq_true_eq] at h
    exact ih (c := e) h.2 ⟨by omega, by omega⟩

set_option maxHeartbeats 4000000 in
theorem add_any (e1 e2 : Int) (h : ISees w v l) (hl : l.length ≤ 100000000) : Calls Try.prog 8 #[v, .int .i64 e1, .int .i64 e2] w fun x w' =>
    (addP l (e1, e2) ∧ ∃ v', x = .returned (.tuple #[v', .int .i64 0]) ∧ IMade w v' (pushR l (e1, e2)) w') ∨ (¬ addP l (e1, e2) ∧ x = .returned (.tuple #[.slice none 0 0, .int .i64 1]) ∧ Turn (fun _ => False) w w') := by
  obtain ⟨ao, cap, rfl⟩ := h.shape
  have H := hide h
  have HLast := hide (last_any h (by omega))
  have R := hide (And.intro (rightL_any h (by omega)) hl)
  have hsm := fun (hh : rightL (0, 0) l = true) => last_small (c := (0, 0)) hh ⟨by decide, by decide⟩
  have Hsm := hide hsm
  clear hsm h
  obtain ⟨P, hP⟩ : ∃ P, P = addP l (e1, e2) := ⟨_, rfl⟩
  rw [← hP]
  have HP : Hid (P ↔ addP l (e1, e2)) := hide (by rw [hP])
  unfold addP at HP
  clear hP
  obtain ⟨x, hx⟩ : ∃ x, x = lastF (0, 0) l := ⟨_, rfl⟩
  rw [← hx] at HP HLast Hsm
  clear hx
  obtain ⟨x1, x2⟩ := x
  rw [show itV (x1, x2) = .agg #[.int .i64 x1, .int .i64 x2] from rfl] at HLast
  simp only at HP Hsm
  go_enter Try.func8, Try.ntmps8
  go_wp2_with fail
  refine (unhide HLast).mono ?_
  rintro e w1 ⟨rfl, t1⟩
  have hA : At 23 (w1.alloc (.cells #[.int .i64 x1, .int .i64 x2] 23)) w1.heap.size #[.int .i64 x1, .int .i64 x2] := At.new _ _ _
  have ht2 := t1.alloc (.cells #[.int .i64 x1, .int .i64 x2] 23)
  have HR := hide (rightL_any ((unhide H).kept ht2 (fun _ _ e => e)) (by have := (unhide R).2; omega))
  rcases hr : rightL (0, 0) l with _ | _
  · rw [hr] at HR HP
    have hPn : ¬ P := fun p => by have := (unhide HP).1 p; cases this.1
    have T2 := hide ht2
    clear t1 hA ht2 HP Hsm
    go_wp2_with (go_at_call 26; refine (unhide HR).mono ?_; rintro e w2 ⟨rfl, t2⟩; have T3 := hide ((unhide T2).trans t2); clear t2)
    refine bodyPost_ret (results_tmp2 rfl _ _ _) rfl ?_
    exact .inr ⟨hPn, rfl, unhide T3⟩
  · have hs := unhide Hsm hr
    rw [hr] at HR HP
    have T2 := hide ht2
    have HA := hide hA
    clear t1 hA ht2 Hsm
    go_wp2_with fail
    refine (unhide HR).mono ?_
    rintro e w2 ⟨rfl, t2⟩
    have c0 : w2.cell? ⟨w1.heap.size, 0, none⟩ = some (.int .i64 x1) := ((unhide HA).kept t2 (fun e => e)).cell 0
    have c1 : w2.cell? ⟨w1.heap.size, 1, none⟩ = some (.int .i64 x2) := ((unhide HA).kept t2 (fun e => e)).cell 1
    have T3 := hide ((unhide T2).trans t2)
    clear t2
    by_cases k1 : e1 = x1 + 1
    case neg =>
      have hPn : ¬ P := fun p => k1 ((unhide HP).1 p).2.1
      have q1 : (e1 != x1 + 1) = true := by simpa using k1
      clear HP
      go_wp2_with fail
      refine bodyPost_ret (results_tmp2 rfl _ _ _) rfl ?_
      exact .inr ⟨hPn, rfl, unhide T3⟩
    by_cases k2 : e1 ≤ 200
    case neg =>
      have hPn : ¬ P := fun p => k2 ((unhide HP).1 p).2.2.1
      have q1 : (e1 != x1 + 1) = false := by simpa using k1
      have q2 : e1 > 200 := by omega
      clear HP
      subst k1
      go_wp2_with fail
      refine bodyPost_ret (results_tmp2 rfl _ _ _) rfl ?_
      exact .inr ⟨hPn, rfl, unhide T3⟩
    subst k1
    have q2 : ¬ x1 + 1 > 200 := by omega
    rcases k3 : rightB e2 with _ | _
    · have hPn : ¬ P := fun p => by have := ((unhide HP).1 p).2.2.2.1; rw [k3] at this; cases this
      clear HP
      go_wp2_with (go_at_call 27; refine (right_any _ _).mono ?_; rw [k3]; rintro e w' ⟨rfl, rfl⟩)
      refine bodyPost_ret (results_tmp2 rfl _ _ _) rfl ?_
      exact .inr ⟨hPn, rfl, unhide T3⟩
    by_cases k4 : x2 ≤ e2
    case neg =>
      have hPn : ¬ P := fun p => k4 ((unhide HP).1 p).2.2.2.2
      have q4 : e2 < x2 := by omega
      clear HP
      go_wp2_with (go_at_call 27; refine (right_any _ _).mono ?_; rw [k3]; rintro e w' ⟨rfl, rfl⟩)
      refine bodyPost_ret (results_tmp2 rfl _ _ _) rfl ?_
      exact .inr ⟨hPn, rfl, unhide T3⟩
    have hPy : P := (unhide HP).2 ⟨by trivial, by trivial, k2, k3, k4⟩
    have q4 : ¬ e2 < x2 := by omega
    clear HP
    have HCl := hide (iclone_any ((unhide H).kept (unhide T3) (fun _ _ e => e)) (by have := (unhide R).2; omega))
    go_wp2_with (go_at_call 27; refine (right_any _ _).mono ?_; rw [k3]; rintro e w' ⟨rfl, rfl⟩)
    refine (unhide HCl).mono ?_
    rintro e w3 ⟨v3, rfl, m3⟩
    have HLn := hide (lengthen_any (x1 + 1, e2) (m3.back (unhide T3)) (by have := (unhide R).2; omega))
    rw [show itV (x1 + 1, e2) = .agg #[.int .i64 (x1 + 1), .int .i64 e2] from rfl] at HLn
    obtain ⟨o3, c3, e3⟩ := m3.shape
    generalize l.length = n3 at *
    clear m3 HCl HR
    subst e3
    go_wp2_with fail
    refine (unhide HLn).mono ?_
    rintro e w4 ⟨v4, rfl, m4⟩
    obtain ⟨o4, c4, e4⟩ := m4.shape
    have M4 := hide m4
    generalize (pushR l (x1 + 1, e2)).length = n4 at *
    clear m4 HLn
    subst e4
    go_wp2_with fail
    refine bodyPost_ret (results_tmp2 rfl _ _ _) rfl ?_
    exact .inl ⟨hPy, _, rfl, unhide M4⟩

set_option maxHeartbeats 4000000 in
theorem cut_any (id : Int) (h : ISees w v l) (hl : l.length ≤ 100000000) : Calls Try.prog 15 #[v, .int .i64 id] w fun x w' => ∃ v', x = .returned v' ∧ IMade w v' (if id < 1 then [] else cutR id l) w' := by
  obtain ⟨ao, cap, rfl⟩ := h.shape
  by_cases h1 : id < 1
  · rw [if_pos h1]
    go_enter Try.func15, Try.ntmps15
    go_wp2_with fail
    go_ret
    exact ⟨_, rfl, IMade.nil _⟩
  · rw [if_neg h1]
    have HA := hide (ahead_any id h (by omega))
    have hle := ahd_le id l
    have hci := cutR_is id l
    obtain ⟨res, hres⟩ : ∃ r, r = cutR id l := ⟨_, rfl⟩
    rw [← hres] at hci ⊢
    clear hres
    have hcap : l.length ≤ cap := by
      rcases h with ⟨e, rfl⟩ | ⟨g, o, cap', e, hc, -⟩
      · simp
      · injection e with _ _ e
        subst e
        exact hc
    have hsl : ISees w (.slice ao (ahd id l) cap) (l.take (ahd id l)) := by
      rcases h with ⟨e, rfl⟩ | ⟨g, o, cap', e, hc⟩
      · injection e with e1 e2 e3
        subst e1 e3
        exact .inl ⟨rfl, rfl⟩
      · injection e with e1 e2 e3
        subst e1 e3
        exact ISees.front (.inr ⟨g, o, cap, rfl, hc⟩) _ hle
    have HCl := hide (iclone_any hsl (by simp; omega))
    have H := hide h
    obtain ⟨k, hk⟩ : ∃ k, k = ahd id l := ⟨_, rfl⟩
    rw [← hk] at hci hle HA HCl
    clear hsl h
    by_cases hlt : k < l.length
    · rw [List.getElem?_eq_getElem hlt] at hci
      simp only at hci
      have hcell := (unhide H).at k hlt
      obtain ⟨g, o, rfl, c0, c1⟩ := hcell
      have HD := hide (show ∀ w3, Turn (fun _ => False) w w3 → w3.cell? ⟨g, o + k * 2 + 1, none⟩ = some (.int .i64 l[k].2) from fun w3 t3 => (t3.cell (p := ⟨g, o + k * 2 + 1, none⟩) (World.block_lt_of_cell? _ _ c1) (fun e => e)).trans c1)
      have q1 : (k : Int) < l.length := by omega
      obtain ⟨lv, hlv⟩ : ∃ x, x = l[k].2 := ⟨_, rfl⟩
      rw [← hlv] at HD hci
      have Hci := hide hci
      have HL := hide (show (l.take k).length = k by simp; omega)
      clear hci hlv H c0 c1 hk
      generalize l.length = len at *
      go_enter Try.func15, Try.ntmps15
      go_wp2_with (go_at_call 36; refine (unhide HA).mono ?_; rintro e w' ⟨rfl, rfl⟩)
      refine (unhide HCl).mono ?_
      rintro e w3 ⟨v3, rfl, m3⟩
      have d1 := unhide HD w3 m3.2.1
      obtain ⟨v4, w4, hr4, m4, -⟩ := m3.cat (id, lv) (by rw [unhide HL]; omega)
      obtain ⟨o3, c3, e3⟩ := m3.shape
      obtain ⟨o4, c4, e4⟩ := m4.shape
      have Hr := hide hr4
      have M4 := hide m4
      rw [unhide HL] at e3
      generalize (List.take k l ++ [((id, lv) : It)]).length = n4 at *
      clear m3 HCl hr4 m4
      subst e3 e4
      go_wp2_with (at_builtin; refine wpList_append_run rfl (.tmp 20) (.tmp 28) 24 rfl _ _ _ w4 rfl rfl (unhide Hr) ?_)
      go_ret
      exact ⟨_, rfl, by rw [unhide Hci]; exact unhide M4⟩
    · obtain rfl : k = l.length := by omega
      rw [List.getElem?_eq_none (Nat.le_refl _)] at hci
      simp only [List.append_nil] at hci
      have Hci := hide hci
      have HL := hide (show (l.take l.length).length = l.length by simp)
      have q1 : ¬ (l.length : Int) < l.length := by omega
      generalize l.take l.length = lt at *
      generalize l.length = len at *
      clear hci H hk
      go_enter Try.func15, Try.ntmps15
      go_wp2_with (go_at_call 36; refine (unhide HA).mono ?_; rintro e w' ⟨rfl, rfl⟩)
      refine (unhide HCl).mono ?_
      rintro e w3 ⟨v3, rfl, m3⟩
      obtain ⟨o3, c3, e3⟩ := m3.shape
      have M3 := hide m3
      rw [unhide HL] at e3
      clear m3 HCl
      subst e3
      go_wp2_with fail
      go_ret
      exact ⟨_, rfl, by rw [unhide Hci]; exact unhide M3⟩

end

end Go.Proofs.Ytehbefhpijifjaa
