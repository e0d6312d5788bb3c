/- What a Reader has, and what it takes: plain lists. -/
import Derived.Test.YthclffafbkeepaaNum
namespace Go.Proofs.Ythclffafbkeepaa
open Go.RowKit

/-- What a Reader has: the bytes that are left; whether it lacks. -/
structure St where
  bs : List UInt8
  lack : Bool

/-- n bytes are taken. -/
def St.take (s : St) (n : Int) : List UInt8 × St := if n < 0 ∨ (s.bs.length : Int) < n then ([], ⟨[], true⟩) else (s.bs.take n.toNat, ⟨s.bs.drop n.toNat, s.lack⟩)

theorem St.take_no (s : St) (n : Int) (h : n < 0 ∨ (s.bs.length : Int) < n) : s.take n = ([], ⟨[], true⟩) := if_pos h
theorem St.take_yes (s : St) (n : Int) (h0 : 0 ≤ n) (h1 : n ≤ s.bs.length) : s.take n = (s.bs.take n.toNat, ⟨s.bs.drop n.toNat, s.lack⟩) := if_neg (by omega)
theorem St.take_len (s : St) (n : Int) : ((s.take n).1.length : Int) ≤ max 0 n := by
  unfold St.take
  split
  · simp; omega
  · simp; omega
theorem St.take_le (s : St) (n : Int) : (s.take n).1.length ≤ s.bs.length := by
  unfold St.take
  split
  · simp
  · simp; omega
theorem St.take_rest (s : St) (n : Int) : (s.take n).2.bs.length ≤ s.bs.length := by
  unfold St.take
  split
  · simp
  · simp

/-- What Short and Text take: a length, and so many bytes. -/
def St.short (s : St) : List UInt8 × St := (s.take 2).2.take (num (s.take 2).1)

/-- The bytes of a text or slice behind their length. -/
def sh (ds : List UInt8) : List UInt8 := be ds.length 2 ++ ds

theorem sh_length (ds : List UInt8) : (sh ds).length = ds.length + 2 := by simp [sh, be_length]; omega

theorem St.take_all (P Y : List UInt8) (l : Bool) (n : Int) (h : n = P.length) : (St.mk (P ++ Y) l).take n = (P, ⟨Y, l⟩) := by
  subst h
  rw [St.take_yes _ _ (by omega) (by simp only [List.length_append]; omega)]
  simp

theorem St.take_part (P Y : List UInt8) (l : Bool) (n : Int) (h : n = P.length) (k : Nat) (hk : P.length ≤ k) : (St.mk ((P ++ Y).take k) l).take n = (P, ⟨Y.take (k - P.length), l⟩) := by
  rw [List.take_append, List.take_of_length_le hk]
  exact St.take_all _ _ _ _ h

theorem St.take_cut (P : List UInt8) (l : Bool) (n : Int) (k : Nat) (h : (k : Int) < n) : (St.mk (P.take k) l).take n = ([], ⟨[], true⟩) :=
  St.take_no _ _ (.inr (by have := List.length_take_le k P; simp only; omega))

theorem St.dead (n : Int) : ((St.mk [] true).take n) = ([], ⟨[], true⟩) := by
  unfold St.take
  split
  · rfl
  · simp

theorem St.dead_short : (St.mk [] true).short = ([], ⟨[], true⟩) := by
  unfold St.short
  rw [St.dead]
  exact St.dead _

theorem num_len (ds : List UInt8) (h : ds.length ≤ 65535) : num (be ds.length 2) = ds.length := by rw [num_be2]; omega

theorem St.short_all (ds Y : List UInt8) (l : Bool) (h : ds.length ≤ 65535) : (St.mk (sh ds ++ Y) l).short = (ds, ⟨Y, l⟩) := by
  unfold St.short sh
  rw [List.append_assoc, St.take_all _ _ _ 2 (by simp [be_length])]
  simp only [num_len ds h]
  exact St.take_all _ _ _ _ rfl

theorem St.short_cut (ds : List UInt8) (l : Bool) (k : Nat) (h : ds.length ≤ 65535) (hk : k < ds.length + 2) : (St.mk ((sh ds).take k) l).short = ([], ⟨[], true⟩) := by
  unfold St.short sh
  by_cases h2 : k < 2
  · rw [St.take_cut _ _ 2 k (by omega)]
    exact St.dead _
  · rw [St.take_part _ _ _ 2 (by simp [be_length]) k (by simp [be_length]; omega)]
    simp only [num_len ds h, be_length]
    exact St.take_cut _ _ _ _ (by omega)

/-- What the law of sizes lays. -/
def laid (a b c : Int) (s : List UInt8) : List UInt8 := be a 1 ++ be b 2 ++ be c 8 ++ sh s

theorem laid_length (a b c : Int) (s : List UInt8) : (laid a b c s).length = 13 + s.length := by simp [laid, be_length, sh_length]; omega

theorem laid_eq (a b c : Int) (s : List UInt8) : laid a b c s = be a 1 ++ (be b 2 ++ (be c 8 ++ sh s)) := by simp [laid]

/-- Cut off anywhere it lacks. -/
theorem laid_cut (a b c : Int) (s : List UInt8) (hs : s.length ≤ 65535) (k : Nat) (hk : k < 13 + s.length) :
    (((St.mk ((laid a b c s).take k) false).take 1).2.take 2).2.take 8 |>.2.short = ([], ⟨[], true⟩) := by
  rw [laid_eq]
  by_cases h1 : k < 1
  · rw [St.take_cut _ _ 1 k (by omega)]
    simp only [St.dead, St.dead_short]
  · rw [St.take_part _ _ _ 1 (by simp [be_length]) k (by simp [be_length]; omega), be_length]
    by_cases h2 : k - 1 < 2
    · simp only [St.take_cut _ _ 2 (k - 1) (by omega), St.dead, St.dead_short]
    · simp only [St.take_part (be b 2) _ _ 2 (by simp [be_length]) (k - 1) (by simp [be_length]; omega), be_length]
      by_cases h3 : k - 1 - 2 < 8
      · simp only [St.take_cut _ _ 8 (k - 1 - 2) (by omega), St.dead_short]
      · simp only [St.take_part (be c 8) _ _ 8 (by simp [be_length]) (k - 1 - 2) (by simp [be_length]; omega), be_length]
        exact St.short_cut s false _ hs (by omega)

theorem laid1 (a b c : Int) (s : List UInt8) : (St.mk (laid a b c s) false).take 1 = (be a 1, ⟨be b 2 ++ (be c 8 ++ sh s), false⟩) := by rw [laid_eq]; exact St.take_all _ _ _ _ (by simp [be_length])
theorem laid2 (b c : Int) (s : List UInt8) : (St.mk (be b 2 ++ (be c 8 ++ sh s)) false).take 2 = (be b 2, ⟨be c 8 ++ sh s, false⟩) := St.take_all _ _ _ _ (by simp [be_length])
theorem laid3 (c : Int) (s : List UInt8) : (St.mk (be c 8 ++ sh s) false).take 8 = (be c 8, ⟨sh s, false⟩) := St.take_all _ _ _ _ (by simp [be_length])
theorem laid4 (s : List UInt8) (hs : s.length ≤ 65535) : (St.mk (sh s) false).short = (s, ⟨[], false⟩) := by have h := St.short_all s [] false hs; rwa [List.append_nil] at h

end Go.Proofs.Ythclffafbkeepaa
