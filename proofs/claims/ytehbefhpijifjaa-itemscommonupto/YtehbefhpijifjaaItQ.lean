/- What Common, Has, Cut and Version tell of one another, plainly. -/
import Derived.Test.YtehbefhpijifjaaItP
namespace Go.Proofs.Ytehbefhpijifjaa

theorem take_at {x y : List Int} {n : Nat} (h : x.take n = y.take n) {k : Nat} (hk : k < n) : x[k]? = y[k]? := by
  have := congrArg (fun l : List Int => l[k]?) h
  simpa [List.getElem?_take, hk] using this

theorem has_none (l : List It) : hasP l (0, 0) = true := by
  unfold hasP
  rw [decide_eq_true rfl]
  rfl

theorem has_at {l : List It} (h : Up 0 l) {n : Nat} (hn : n < (expd 0 l).length) {v : Int} (hv : (expd 0 l)[n]? = some v) : hasP l ((n : Int) + 1, v) = true := by
  unfold hasP
  rw [find_is h, if_pos ⟨by show (1 : Int) ≤ (n : Int) + 1; omega, by show (n : Int) + 1 ≤ _; omega⟩]
  simp [hv]

structure ComFacts (X Y : List It) (c : It) : Prop where
  hx : hasP X c = true
  hy : hasP Y c = true
  cut : (if c.1 < 1 then [] else cutR c.1 X) = (if c.1 < 1 then [] else cutR c.1 Y)
  next : (findP X (c.1 + 1)).1 = 0 ∨ (findP Y (c.1 + 1)).1 = 0 ∨ ¬ (findP X (c.1 + 1)).1 = (findP Y (c.1 + 1)).1
  low : 0 ≤ c.1
  high : c.1 ≤ (expd 0 X).length

theorem com_facts {X Y : List It} {q q' : Int} (u1 : Up 0 X) (v1 : Vp q X) (u2 : Up 0 Y) (v2 : Vp q' Y) : ComFacts X Y (comR 0 (0, 0) (expd 0 X) (expd 0 Y)) := by
  have hnext := cpl_next (expd 0 X) (expd 0 Y)
  have htake := cpl_take (expd 0 X) (expd 0 Y)
  have hle := cpl_le (expd 0 X) (expd 0 Y)
  rw [comR_cpl]
  obtain ⟨n, hn⟩ : ∃ n, n = cpl (expd 0 X) (expd 0 Y) := ⟨_, rfl⟩
  rw [← hn] at hnext htake hle ⊢
  have hnx : ∀ c1 : Int, c1 = n → ((findP X (c1 + 1)).1 = 0 ∨ (findP Y (c1 + 1)).1 = 0 ∨ ¬ (findP X (c1 + 1)).1 = (findP Y (c1 + 1)).1) := by
    rintro c1 rfl
    rw [find_is u1, find_is u2]
    have e : ((n : Int) + 1 - 1).toNat = n := by omega
    by_cases h1 : n < (expd 0 X).length
    · by_cases h2 : n < (expd 0 Y).length
      · right; right
        rw [if_pos ⟨by omega, by omega⟩, if_pos ⟨by omega, by omega⟩, e]
        rw [List.getElem?_eq_getElem h1, List.getElem?_eq_getElem h2]
        exact hnext _ _ (List.getElem?_eq_getElem h1) (List.getElem?_eq_getElem h2)
      · right; left
        rw [if_neg (by omega)]
    · left
      rw [if_neg (by omega)]
  by_cases h0 : n = 0
  · rw [if_pos h0]
    exact ⟨has_none _, has_none _, by rw [if_pos (by decide), if_pos (by decide)], hnx 0 (by omega), by decide, by simp⟩
  · rw [if_neg h0]
    obtain ⟨k, hk⟩ : ∃ k, n = k + 1 := ⟨n - 1, by omega⟩
    have hkx : k < (expd 0 X).length := by omega
    have hky : k < (expd 0 Y).length := by omega
    have hxy := take_at htake (k := k) (by omega)
    have e1 : n - 1 = k := by omega
    have e2 : (0 : Int) + n = (k : Int) + 1 := by omega
    have ea : (expd 0 X)[k]? = some ((expd 0 X)[k]?.getD 0) := by rw [List.getElem?_eq_getElem hkx]; rfl
    rw [e1, e2]
    refine ⟨has_at u1 hkx ea, has_at u2 hky (by rw [← hxy]; exact ea), ?_, hnx _ (by simp only; omega), by simp only; omega, by simp only; omega⟩
    simp only
    rw [if_neg (by omega), if_neg (by omega)]
    obtain ⟨a1, a2⟩ := cutR_up (id := (k : Int) + 1) u1 (by omega)
    obtain ⟨b1, b2⟩ := cutR_up (id := (k : Int) + 1) u2 (by omega)
    refine expd_inj a1 (cutR_vp _ v1) b1 (cutR_vp _ v2) ?_
    rw [a2, b2]
    have e3 : ((k : Int) + 1 - 0).toNat = n := by omega
    rw [e3]
    exact htake

end Go.Proofs.Ytehbefhpijifjaa
