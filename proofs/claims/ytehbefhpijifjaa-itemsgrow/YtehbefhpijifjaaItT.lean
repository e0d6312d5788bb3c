/- What a list that grew event by event tells, plainly. -/
import Derived.Test.YtehbefhpijifjaaItP
namespace Go.Proofs.Ytehbefhpijifjaa

theorem pushR_len (e : It) : ∀ l : List It, (pushR l e).length ≤ l.length + 1
  | [] => by simp [pushR]
  | [a] => by simp only [pushR]; split <;> simp
  | a :: b :: r => by
    have := pushR_len e (b :: r)
    simp only [pushR, List.length_cons] at this ⊢
    omega

/-- A list that grew. -/
structure Grown (L : List It) (W : List Int) (k : Nat) (now : Int) : Prop where
  right : rightL (0, 0) L = true
  last : (lastF (0, 0) L).1 = k
  ver : (lastF (0, 0) L).2 ≤ now
  exp : expd 0 L = W
  len : W.length = k
  items : L.length ≤ k
  pos : 1 ≤ now
  top : now ≤ 1 + 14 * k
  dig : 1 ≤ now % 10 ∧ now % 10 ≤ 4

theorem Grown.nil : Grown [] [] 0 1 := ⟨rfl, rfl, by decide, rfl, rfl, by simp, by omega, by omega, by decide⟩

theorem Grown.push {L : List It} {W : List Int} {k : Nat} {now r : Int} (h : Grown L W k now) (hk : k < 60) (h1 : now ≤ r) (h2 : r ≤ now + 14) (h3 : 1 ≤ r % 10 ∧ r % 10 ≤ 4) :
    rightB r = true ∧ (lastF (0, 0) L).2 ≤ r ∧ Grown (pushR L ((k : Int) + 1, r)) (W ++ [r]) (k + 1) r := by
  have hp := h.pos
  have ht := h.top
  have hl := h.last
  have hv := h.ver
  have hr : rightB r = true := decide_eq_true ⟨by omega, by omega, by omega, by omega⟩
  have hup := rightL_up h.right
  have e1 : (((k : Int) + 1, r) : It).1 = (lastF (0, 0) L).1 + 1 := by rw [hl]
  obtain ⟨a1, a2, a3, a4⟩ := pushR_up (c := (0, 0)) (e := ((k : Int) + 1, r)) hup.1 hup.2 e1 (by show (0 : Int) < r; omega) (by show _ ≤ r; omega)
  refine ⟨hr, by omega, ⟨rightL_push (c := (0, 0)) h.right e1 (by show (k : Int) + 1 ≤ 200; omega) (by show (0 : Int) < r; omega) (by show _ ≤ r; omega) hr, ?_, ?_, ?_, ?_, ?_, by omega, by omega, h3⟩⟩
  · rw [a4]
    show (k : Int) + 1 = ((k + 1 : Nat) : Int)
    omega
  · rw [a4]
    exact Int.le_refl _
  · exact a3.trans (by rw [h.exp])
  · rw [List.length_append, h.len]
    rfl
  · have := pushR_len ((k : Int) + 1, r) L
    have := h.items
    omega

theorem Grown.find {L : List It} {W : List Int} {n : Nat} {now : Int} (h : Grown L W n now) {k : Nat} (hk : k < W.length) : (findP L ((k : Int) + 1)).1 = W[k] ∧ hasP L ((k : Int) + 1, W[k]) = true := by
  have hup := rightL_up h.right
  have hx := h.exp
  have hf := find_is hup.1 ((k : Int) + 1)
  have hkl : k < (expd 0 L).length := by rw [hx]; exact hk
  rw [if_pos ⟨by omega, by omega⟩] at hf
  have e : ((k : Int) + 1 - 1).toNat = k := by omega
  have e2 : (expd 0 L)[k]? = some W[k] := by rw [hx, List.getElem?_eq_getElem hk]
  rw [e, e2] at hf
  refine ⟨by rw [hf]; rfl, ?_⟩
  unfold hasP
  simp only
  rw [hf]
  simp

theorem Grown.past {L : List It} {W : List Int} {n : Nat} {now : Int} (h : Grown L W n now) : (findP L ((n : Int) + 1)).1 = 0 := by
  have hup := rightL_up h.right
  have hf := find_is hup.1 ((n : Int) + 1)
  have hx := h.exp
  have hl := h.len
  rw [if_neg (by rw [hx, hl]; omega)] at hf
  rw [hf]

/-- Its front. -/
theorem Grown.front {L : List It} {W : List Int} {n : Nat} {now : Int} (h : Grown L W n now) {cut : Nat} (hc : cut ≤ n) (C : List It) (hC : C = if (cut : Int) < 1 then [] else cutR cut L) :
    Up 0 C ∧ C.length ≤ n + 1 ∧ (lastF (0, 0) C).1 = cut ∧ comR 0 (0, 0) (expd 0 C) (expd 0 L) = lastF (0, 0) C ∧ (cut < n → cmpP (lastF (0, 0) C) (lastF (0, 0) L) = -1) := by
  have hup := rightL_up h.right
  have hx := h.exp
  have hl := h.len
  have hlast := h.last
  have hC2 : Up 0 C ∧ expd 0 C = (expd 0 L).take cut ∧ C.length ≤ n + 1 ∧ (lastF (0, 0) C).2 ≤ (lastF (0, 0) L).2 := by
    by_cases h0 : (cut : Int) < 1
    · rw [if_pos h0] at hC
      subst hC
      have : cut = 0 := by omega
      subst this
      exact ⟨trivial, by simp [expd], by simp, last_ge (c := (0, 0)) hup.2⟩
    · rw [if_neg h0] at hC
      subst hC
      obtain ⟨a, b⟩ := cutR_up (id := (cut : Int)) hup.1 (by omega)
      refine ⟨a, by rw [b]; simp, ?_, cutR_last (c := (0, 0)) _ hup.2⟩
      have := h.items
      rw [cutR_is]
      split <;> simp <;> omega
  obtain ⟨u, e, hlen, hv⟩ := hC2
  have hid : (lastF (0, 0) C).1 = cut := by
    have := lastF_len ((0, 0) : It) C u
    rw [← this]
    simp only
    rw [e, hx, List.length_take, hl]
    omega
  refine ⟨u, hlen, hid, ?_, fun hlt => ?_⟩
  · have := comR_front ((0, 0) : It) C ((expd 0 L).drop cut) u
    simp only at this
    rw [e, List.take_append_drop] at this
    rw [e]
    exact this
  · unfold cmpP
    split
    · rfl
    · rw [if_neg (by omega), if_pos (by omega)]

end Go.Proofs.Ytehbefhpijifjaa
