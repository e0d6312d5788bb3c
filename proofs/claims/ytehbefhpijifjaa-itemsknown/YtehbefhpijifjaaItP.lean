/- Items, plainly: the versions of events one by one, what two lists have in common, the front of a list, one event more. -/
import Derived.Test.YtehbefhpijifjaaVer
namespace Go.Proofs.Ytehbefhpijifjaa

abbrev It := Int × Int

/-- The versions of the events behind p, one by one. -/
def expd : Int → List It → List Int
  | _, [] => []
  | p, e :: r => List.replicate (e.1 - p).toNat e.2 ++ expd e.1 r

/-- IDs rise from behind p on. -/
def Up : Int → List It → Prop
  | _, [] => True
  | p, e :: r => p < e.1 ∧ Up e.1 r

/-- Versions rise from above q on. -/
def Vp : Int → List It → Prop
  | _, [] => True
  | q, e :: r => q < e.2 ∧ Vp e.2 r

/-- The last one, or c. -/
def lastF : It → List It → It
  | c, [] => c
  | _, e :: r => lastF e r

theorem lastF_get (c : It) : ∀ (l : List It), 0 < l.length → l[l.length - 1]? = some (lastF c l)
  | [], h => by simp at h
  | [e], _ => rfl
  | e :: f :: r, _ => by
    have := lastF_get e (f :: r) (by simp)
    simpa [lastF] using this

theorem lastF_snoc (c e : It) : ∀ l : List It, lastF c (l ++ [e]) = e
  | [] => rfl
  | _ :: r => lastF_snoc _ e r

theorem expd_len {p : Int} : ∀ {l : List It}, Up p l → p + (expd p l).length = (lastF (p, 0) l).1 := by
  intro l
  suffices h : ∀ (l : List It) (c : It), Up c.1 l → c.1 + (expd c.1 l).length = (lastF c l).1 from h l (p, 0)
  intro l
  induction l with
  | nil => intro c _; simp [expd, lastF]
  | cons e r ih =>
    intro c h
    have := ih e h.2
    have h1 := h.1
    simp only [expd, lastF, List.length_append, List.length_replicate]
    omega

theorem lastF_len (c : It) (l : List It) (h : Up c.1 l) : c.1 + (expd c.1 l).length = (lastF c l).1 := by
  induction l generalizing c with
  | nil => simp [expd, lastF]
  | cons e r ih =>
    have := ih e h.2
    have h1 := h.1
    simp only [expd, lastF, List.length_append, List.length_replicate]
    omega

theorem Up.mono {p p' : Int} {l : List It} (h : Up p l) (hp : p' ≤ p) : Up p' l := by
  cases l with
  | nil => trivial
  | cons e r => exact ⟨by have := h.1; omega, h.2⟩

theorem Vp.mono {q q' : Int} {l : List It} (h : Vp q l) (hq : q' ≤ q) : Vp q' l := by
  cases l with
  | nil => trivial
  | cons e r => exact ⟨by have := h.1; omega, h.2⟩

theorem up_snoc {c e : It} {l : List It} (h : Up c.1 l) (he : (lastF c l).1 < e.1) : Up c.1 (l ++ [e]) := by
  induction l generalizing c with
  | nil => exact ⟨he, trivial⟩
  | cons a r ih => exact ⟨h.1, ih (c := a) h.2 he⟩

theorem vp_snoc {c e : It} {l : List It} (h : Vp c.2 l) (he : (lastF c l).2 < e.2) : Vp c.2 (l ++ [e]) := by
  induction l generalizing c with
  | nil => exact ⟨he, trivial⟩
  | cons a r ih => exact ⟨h.1, ih (c := a) h.2 he⟩

/-- Cut at m, which stands in the first item. -/
theorem expd_split {p m : Int} (e : It) (r : List It) (h1 : p ≤ m) (h2 : m ≤ e.1) :
    expd p (e :: r) = List.replicate (m - p).toNat e.2 ++ expd m (if e.1 = m then r else e :: r) := by
  have hn : (e.1 - p).toNat = (m - p).toNat + (e.1 - m).toNat := by omega
  by_cases he : e.1 = m
  · rw [if_pos he]
    simp only [expd]
    rw [he]
  · rw [if_neg he]
    simp only [expd]
    rw [hn, ← List.replicate_append_replicate, List.append_assoc]

/-- What two branches have in common, behind p; c so far. -/
def comR : Int → It → List Int → List Int → It
  | _, c, [], _ => c
  | _, c, _ :: _, [] => c
  | p, c, u :: x, t :: y => if u = t then comR (p + 1) (p + 1, u) x y else c

theorem comR_rep (v : Int) (x y : List Int) : ∀ (n : Nat) (p : Int) (c : It), comR p c (List.replicate (n + 1) v ++ x) (List.replicate (n + 1) v ++ y) = comR (p + (n + 1 : Nat)) (p + (n + 1 : Nat), v) x y
  | 0, p, c => by simp [comR]
  | n + 1, p, c => by
    have := comR_rep v x y n (p + 1) (p + 1, v)
    rw [List.replicate_succ, List.cons_append, List.cons_append, comR, if_pos rfl, this]
    have e : p + 1 + ((n + 1 : Nat) : Int) = p + ((n + 1 + 1 : Nat) : Int) := by omega
    rw [e]

theorem comR_step {p m : Int} (c e f : It) (a b : List It) (hm : p < m) (h1 : m ≤ e.1) (h2 : m ≤ f.1) (hv : e.2 = f.2) :
    comR p c (expd p (e :: a)) (expd p (f :: b)) = comR m (m, e.2) (expd m (if e.1 = m then a else e :: a)) (expd m (if f.1 = m then b else f :: b)) := by
  rw [expd_split e a (by omega) h1, expd_split f b (by omega) h2, ← hv]
  obtain ⟨n, hn⟩ : ∃ n : Nat, (m - p).toNat = n + 1 := ⟨(m - p).toNat - 1, by omega⟩
  have hm2 : p + ((n + 1 : Nat) : Int) = m := by omega
  rw [hn, comR_rep, hm2]

theorem expd_cons {p : Int} (e : It) (r : List It) (h : p < e.1) : ∃ x, expd p (e :: r) = e.2 :: x := by
  obtain ⟨n, hn⟩ : ∃ n : Nat, (e.1 - p).toNat = n + 1 := ⟨(e.1 - p).toNat - 1, by omega⟩
  simp only [expd]
  rw [hn, List.replicate_succ]
  exact ⟨_, rfl⟩

theorem comR_part {p : Int} (c e f : It) (a b : List It) (h1 : p < e.1) (h2 : p < f.1) (hv : ¬ e.2 = f.2) : comR p c (expd p (e :: a)) (expd p (f :: b)) = c := by
  obtain ⟨x, hx⟩ := expd_cons e a h1
  obtain ⟨y, hy⟩ := expd_cons f b h2
  rw [hx, hy, comR, if_neg hv]

theorem comR_nil (p : Int) (c : It) (x : List Int) : comR p c x [] = c := by cases x <;> rfl

theorem comR_symm : ∀ (x y : List Int) (p : Int) (c : It), comR p c x y = comR p c y x
  | [], y, p, c => by rw [comR_nil]; rfl
  | u :: x, [], p, c => rfl
  | u :: x, t :: y, p, c => by
    rw [comR, comR]
    by_cases h : u = t
    · subst h
      rw [if_pos rfl, if_pos rfl, comR_symm x y]
    · rw [if_neg h, if_neg (fun e => h e.symm)]

/-- A beginning's common with the whole is its last. -/
theorem comR_front (c : It) (l : List It) (z : List Int) (h : Up c.1 l) : comR c.1 c (expd c.1 l) (expd c.1 l ++ z) = lastF c l := by
  induction l generalizing c with
  | nil => cases z <;> rfl
  | cons e r ih =>
    have h1 := h.1
    obtain ⟨n, hn⟩ : ∃ n : Nat, (e.1 - c.1).toNat = n + 1 := ⟨(e.1 - c.1).toNat - 1, by omega⟩
    have he : c.1 + ((n + 1 : Nat) : Int) = e.1 := by omega
    simp only [expd, lastF]
    rw [hn, List.append_assoc, comR_rep, he]
    exact ih e h.2

/-- How far two lists are the same. -/
def cpl : List Int → List Int → Nat
  | [], _ => 0
  | _ :: _, [] => 0
  | u :: x, t :: y => if u = t then cpl x y + 1 else 0

theorem cpl_le : ∀ (x y : List Int), cpl x y ≤ x.length ∧ cpl x y ≤ y.length
  | [], _ => by simp [cpl]
  | _ :: _, [] => by simp [cpl]
  | u :: x, t :: y => by
    have := cpl_le x y
    simp only [cpl, List.length_cons]
    split <;> omega

theorem cpl_take : ∀ (x y : List Int), x.take (cpl x y) = y.take (cpl x y)
  | [], _ => by simp [cpl]
  | _ :: _, [] => by simp [cpl]
  | u :: x, t :: y => by
    simp only [cpl]
    split
    · next h => rw [List.take_succ_cons, List.take_succ_cons, h, cpl_take x y]
    · rfl

theorem cpl_next : ∀ (x y : List Int) (u t : Int), x[cpl x y]? = some u → y[cpl x y]? = some t → u ≠ t
  | [], _, u, t, h, _ => by simp at h
  | _ :: _, [], u, t, _, h => by simp at h
  | a :: x, b :: y, u, t, h, k => by
    simp only [cpl] at h k
    split at h
    · next e =>
      rw [if_pos e] at k
      simp only [List.getElem?_cons_succ] at h k
      exact cpl_next x y u t h k
    · next e =>
      rw [if_neg e] at k
      simp only [List.getElem?_cons_zero, Option.some.injEq] at h k
      subst h k
      exact e

theorem comR_cpl : ∀ (x y : List Int) (p : Int) (c : It), comR p c x y = if cpl x y = 0 then c else (p + cpl x y, (x[cpl x y - 1]?).getD 0)
  | [], _, p, c => by simp [comR, cpl]
  | _ :: _, [], p, c => by simp [comR, cpl]
  | u :: x, t :: y, p, c => by
    simp only [comR, cpl]
    by_cases h : u = t
    · simp only [if_pos h]
      rw [comR_cpl x y]
      have hz : ¬ cpl x y + 1 = 0 := by omega
      by_cases h0 : cpl x y = 0
      · rw [if_pos h0, h0]
        simp
      · rw [if_neg h0, if_neg hz]
        obtain ⟨k, hk⟩ : ∃ k, cpl x y = k + 1 := ⟨cpl x y - 1, by omega⟩
        rw [hk]
        simp
        omega
    · simp [h]

/-- How many items end ahead of event id. -/
def ahd (id : Int) : List It → Nat
  | [] => 0
  | e :: r => if e.1 < id then ahd id r + 1 else 0

theorem ahd_le (id : Int) : ∀ l : List It, ahd id l ≤ l.length
  | [] => Nat.le_refl _
  | e :: r => by
    have := ahd_le id r
    simp only [ahd, List.length_cons]
    split <;> omega

/-- What find tells. -/
def findP (l : List It) (id : Int) : Int × Bool := if id < 1 ∨ ahd id l = l.length then (0, false) else (((l[ahd id l]?).getD (0, 0)).2, true)

theorem find_at {p id : Int} {l : List It} (h : Up p l) (hp : p < id) : (l[ahd id l]?).map (·.2) = (expd p l)[(id - p - 1).toNat]? := by
  induction l generalizing p with
  | nil => simp [expd]
  | cons e r ih =>
    have h1 := h.1
    simp only [ahd, expd]
    split
    · next hlt =>
      rw [List.getElem?_cons_succ, ih h.2 hlt, List.getElem?_append_right (by simp; omega)]
      congr 1
      simp
      omega
    · next hge =>
      rw [List.getElem?_cons_zero, List.getElem?_append_left (by simp; omega), List.getElem?_replicate]
      rw [if_pos (by omega)]
      rfl

theorem find_is {l : List It} (h : Up 0 l) (id : Int) : findP l id = if 1 ≤ id ∧ id ≤ (expd 0 l).length then (((expd 0 l)[(id - 1).toNat]?).getD 0, true) else (0, false) := by
  unfold findP
  by_cases h1 : id < 1
  · rw [if_pos (.inl h1), if_neg (by omega)]
  · have hf := find_at (id := id) h (by omega)
    rw [show (id - 0 - 1) = id - 1 by omega] at hf
    by_cases h2 : ahd id l = l.length
    · rw [if_pos (.inr h2)]
      rw [h2, List.getElem?_eq_none (Nat.le_refl _)] at hf
      have := List.getElem?_eq_none_iff.1 hf.symm
      rw [if_neg (by omega)]
    · rw [if_neg (by simp [h1, h2])]
      have hlt : ahd id l < l.length := by have := ahd_le id l; omega
      rw [List.getElem?_eq_getElem hlt] at hf ⊢
      have hlt2 := (List.getElem?_eq_some_iff.1 hf.symm).1
      rw [if_pos (by omega), ← hf]
      rfl

/-- The front of a list, up to event id. -/
def cutR (id : Int) : List It → List It
  | [] => []
  | e :: r => if e.1 < id then e :: cutR id r else [(id, e.2)]

theorem cutR_is (id : Int) : ∀ l : List It, cutR id l = l.take (ahd id l) ++ (match l[ahd id l]? with | some e => [(id, e.2)] | none => [])
  | [] => rfl
  | e :: r => by
    simp only [cutR, ahd]
    by_cases h : e.1 < id
    · rw [if_pos h, if_pos h, cutR_is id r]
      simp
    · rw [if_neg h, if_neg h]
      simp

theorem cutR_up {p id : Int} {l : List It} (h : Up p l) (hp : p < id) : Up p (cutR id l) ∧ expd p (cutR id l) = (expd p l).take (id - p).toNat := by
  induction l generalizing p with
  | nil => simp [cutR, expd, Up]
  | cons e r ih =>
    have h1 := h.1
    simp only [cutR]
    by_cases hlt : e.1 < id
    · obtain ⟨a, b⟩ := ih h.2 hlt
      rw [if_pos hlt]
      refine ⟨⟨h1, a⟩, ?_⟩
      simp only [expd]
      rw [b, List.take_append]
      simp only [List.length_replicate, List.take_replicate]
      congr 2
      · omega
      · omega
    · rw [if_neg hlt]
      refine ⟨⟨hp, trivial⟩, ?_⟩
      simp only [expd, List.append_nil]
      rw [List.take_append]
      simp only [List.length_replicate, List.take_replicate]
      rw [show (id - p).toNat - (e.1 - p).toNat = 0 by omega, List.take_zero, List.append_nil]
      congr 1
      omega

theorem cutR_vp {q : Int} (id : Int) {l : List It} (h : Vp q l) : Vp q (cutR id l) := by
  induction l generalizing q with
  | nil => trivial
  | cons e r ih =>
    simp only [cutR]
    split
    · exact ⟨h.1, ih h.2⟩
    · exact ⟨h.1, trivial⟩

theorem last_ge {c : It} {l : List It} (h : Vp c.2 l) : c.2 ≤ (lastF c l).2 := by
  induction l generalizing c with
  | nil => exact Int.le_refl _
  | cons e r ih =>
    have h1 := h.1
    have := ih (c := e) h.2
    simp only [lastF]
    omega

theorem cutR_last (id : Int) {c : It} {l : List It} (h : Vp c.2 l) : (lastF c (cutR id l)).2 ≤ (lastF c l).2 := by
  induction l generalizing c with
  | nil => exact Int.le_refl _
  | cons e r ih =>
    simp only [cutR, lastF]
    split
    · exact ih (c := e) h.2
    · exact last_ge (c := e) h.2

/-- Two short lists that tell the same are the same. -/
theorem expd_inj {p q q' : Int} {x y : List It} (h1 : Up p x) (h2 : Vp q x) (h3 : Up p y) (h4 : Vp q' y) (h : expd p x = expd p y) : x = y := by
  induction x generalizing p q q' y with
  | nil =>
    cases y with
    | nil => rfl
    | cons f b =>
      obtain ⟨z, hz⟩ := expd_cons f b h3.1
      rw [hz] at h
      cases h
  | cons e a ih =>
    cases y with
    | nil =>
      obtain ⟨z, hz⟩ := expd_cons e a h1.1
      rw [hz] at h
      cases h
    | cons f b =>
      have he := h1.1
      have hf := h3.1
      have hv : e.2 = f.2 := by
        obtain ⟨z, hz⟩ := expd_cons e a he
        obtain ⟨z2, hz2⟩ := expd_cons f b hf
        rw [hz, hz2] at h
        injection h
      have key : ∀ (e f : It) (a b : List It), p < e.1 → Up e.1 a → Vp e.2 a → e.2 = f.2 → expd p (e :: a) = expd p (f :: b) → ¬ e.1 < f.1 := by
        intro e f a b hp hu hvp hv h hlt
        rw [expd_split (m := e.1) e a (by omega) (Int.le_refl _), expd_split (m := e.1) f b (by omega) (by omega), if_pos rfl, if_neg (by omega), hv] at h
        have h := List.append_cancel_left h
        obtain ⟨z2, hz2⟩ := expd_cons (p := e.1) f b hlt
        rw [hz2] at h
        cases a with
        | nil => cases h
        | cons g a2 =>
          obtain ⟨z, hz⟩ := expd_cons g a2 hu.1
          rw [hz] at h
          injection h with h _
          have := hvp.1
          omega
      have n1 := key e f a b he h1.2 h2.2 hv h
      have n2 := key f e b a hf h3.2 h4.2 hv.symm h.symm
      have hid : e.1 = f.1 := by omega
      have hef : e = f := Prod.ext hid hv
      subst hef
      congr 1
      simp only [expd] at h
      exact ih h1.2 h2.2 h3.2 h4.2 (List.append_cancel_left h)

/-- One event more. -/
def pushR : List It → It → List It
  | [], e => [e]
  | [a], e => if a.2 = e.2 then [e] else [a, e]
  | a :: b :: r, e => a :: pushR (b :: r) e

theorem pushR_is (c e : It) : ∀ l : List It, pushR l e = if 0 < l.length ∧ (lastF c l).2 = e.2 then l.set (l.length - 1) e else l ++ [e]
  | [] => by simp [pushR]
  | [a] => by simp [pushR, lastF]
  | a :: b :: r => by
    have := pushR_is a e (b :: r)
    simp only [pushR, this, lastF, List.length_cons]
    have h0 : 0 < r.length + 1 := by omega
    have h1 : 0 < r.length + 1 + 1 := by omega
    simp only [h0, h1, true_and]
    split
    · simp
    · simp

theorem pushR_up {c e : It} {l : List It} (h1 : Up c.1 l) (h2 : Vp c.2 l) (he : e.1 = (lastF c l).1 + 1) (hc : c.2 < e.2) (hv : (lastF c l).2 ≤ e.2) :
    Up c.1 (pushR l e) ∧ Vp c.2 (pushR l e) ∧ expd c.1 (pushR l e) = expd c.1 l ++ [e.2] ∧ lastF c (pushR l e) = e := by
  induction l generalizing c with
  | nil =>
    simp only [lastF] at he
    refine ⟨⟨by omega, trivial⟩, ⟨hc, trivial⟩, ?_, rfl⟩
    simp only [pushR, expd]
    rw [show (e.1 - c.1).toNat = 1 by omega]
    rfl
  | cons a r ih =>
    cases r with
    | nil =>
      simp only [lastF] at he hv
      have a1 := h1.1
      have a2 := h2.1
      simp only [pushR]
      by_cases hu : a.2 = e.2
      · rw [if_pos hu]
        refine ⟨⟨by omega, trivial⟩, ⟨hc, trivial⟩, ?_, rfl⟩
        simp only [expd, List.append_nil]
        rw [show (e.1 - c.1).toNat = (a.1 - c.1).toNat + 1 by omega, List.replicate_succ', hu]
      · rw [if_neg hu]
        refine ⟨⟨a1, by omega, trivial⟩, ⟨a2, by omega, trivial⟩, ?_, rfl⟩
        simp only [expd, List.append_nil]
        rw [show (e.1 - a.1).toNat = 1 by omega]
        rfl
    | cons b r =>
      have a1 := h1.1
      have a2 := h2.1
      have h2' := h2.2
      have hge := last_ge (c := a) (l := b :: r) h2'
      simp only [lastF] at he hv hge
      obtain ⟨i1, i2, i3, i4⟩ := ih (c := a) h1.2 h2.2 (by simpa [lastF] using he) (by have := h2'.1; have := last_ge (c := b) (l := r) h2'.2; omega) (by simpa [lastF] using hv)
      refine ⟨⟨a1, i1⟩, ⟨a2, i2⟩, ?_, i4⟩
      simp only [pushR]
      simp only [expd] at i3 ⊢
      rw [i3]
      simp

/-- Whether a list is right, behind c. -/
def rightL : It → List It → Bool
  | _, [] => true
  | c, e :: r => decide (c.1 < e.1) && decide (e.1 ≤ 200) && decide (c.2 < e.2) && rightB e.2 && rightL e r

theorem rightL_up {c : It} {l : List It} (h : rightL c l = true) : Up c.1 l ∧ Vp c.2 l := by
  induction l generalizing c with
  | nil => exact ⟨trivial, trivial⟩
  | cons e r ih =>
    simp only [rightL, Bool.and_eq_true, decide_eq_true_eq] at h
    have := ih h.2
    exact ⟨⟨h.1.1.1.1, this.1⟩, ⟨h.1.1.2, this.2⟩⟩

theorem rightL_push {c e : It} {l : List It} (h : rightL c l = true) (he : e.1 = (lastF c l).1 + 1) (hm : e.1 ≤ 200) (hc : c.2 < e.2) (hv : (lastF c l).2 ≤ e.2) (hr : rightB e.2 = true) : rightL c (pushR l e) = true := by
  induction l generalizing c with
  | nil =>
    simp only [lastF] at he
    simp only [pushR, rightL, Bool.and_eq_true, decide_eq_true_eq]
    exact ⟨⟨⟨⟨by omega, hm⟩, hc⟩, hr⟩, trivial⟩
  | cons a r ih =>
    have h0 := h
    simp only [rightL, Bool.and_eq_true, decide_eq_true_eq] at h
    cases r with
    | nil =>
      simp only [lastF] at he hv
      simp only [pushR]
      by_cases hu : a.2 = e.2
      · rw [if_pos hu]
        simp only [rightL, Bool.and_eq_true, decide_eq_true_eq]
        exact ⟨⟨⟨⟨by omega, hm⟩, hc⟩, hr⟩, trivial⟩
      · rw [if_neg hu]
        simp only [rightL, Bool.and_eq_true, decide_eq_true_eq]
        exact ⟨h.1, ⟨⟨⟨by omega, hm⟩, by omega⟩, hr⟩, trivial⟩
    | cons b r =>
      have hup := rightL_up h.2
      have hge := last_ge (c := b) (l := r) hup.2.2
      have hb := hup.2.1
      simp only [lastF] at he hv
      have i1 := ih (c := a) h.2 (by simpa [lastF] using he) (by omega) (by simpa [lastF] using hv)
      simp only [pushR, rightL, Bool.and_eq_true, decide_eq_true_eq]
      exact ⟨h.1, i1⟩

/-- Which of two is the greater. -/
def cmpP (x y : It) : Int := if x.2 < y.2 then -1 else if y.2 < x.2 then 1 else if x.1 < y.1 then -1 else if y.1 < x.1 then 1 else 0

theorem cmpP_neg (x y : It) : cmpP y x = -cmpP x y := by
  unfold cmpP
  repeat' split
  all_goals omega

/-- Whether a list has an event. -/
def hasP (l : List It) (e : It) : Bool := decide (e = (0, 0)) || ((findP l e.1).2 && decide ((findP l e.1).1 = e.2))

/-- Events of these versions, from i on. -/
def pushes : List It → Int → List Int → List It
  | l, _, [] => l
  | l, i, v :: r => pushes (pushR l (i, v)) (i + 1) r

end Go.Proofs.Ytehbefhpijifjaa
