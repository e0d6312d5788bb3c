/- The law KvKeys, plainly: its changes; how the keys that begin so lie among all. -/
import Derived.Test.YteomehdkfhjbeaaGreatDoorKNam
import Derived.Test.YteomehdkfhjbeaaGreatDoorKLaw
import Derived.Test.YteomehdkfhjbeaaGreatDoorKList
namespace Go.Proofs.YteomehdkfhjbeaaGreatDoor
open Go.RowKit

/-- The change that the law makes of a raw one. -/
def RawC.named (x : RawC) : Chg := ⟨nam (x.key % 6).toNat ++ nam (x.n % 6).toNat, true, x.val.take 20⟩

theorem named_size (x : RawC) : 2 ≤ x.named.key.size ∧ x.named.key.size ≤ 10 ∧ x.named.val.length ≤ 20 := by
  have h1 := nam_size (x.key % 6).toNat
  have h2 := nam_size (x.n % 6).toNat
  unfold RawC.named
  simp only [ByteArray.size_append]
  refine ⟨by omega, by omega, ?_⟩
  simp
  omega

theorem named_ok (x : RawC) : x.named.ok = true := by
  have h := named_size x
  have hh : x.named.has = true := rfl
  unfold Chg.ok
  rw [hh]
  simp
  omega

theorem named_len (x : RawC) : x.named.laid.length ≤ 60 := by
  have h := named_size x
  have h1 := text_length x.named.key
  have hh : x.named.has = true := rfl
  unfold Chg.laid
  rw [hh]
  simp [be_length, sh_length]
  omega

theorem named_all (l : List RawC) : (l.map RawC.named).all Chg.ok = true := by
  rw [List.all_eq_true]
  intro c hc
  obtain ⟨x, _, rfl⟩ := List.mem_map.1 hc
  exact named_ok x

theorem named_laid (l : List RawC) (hn : l.length ≤ 30) : (laidOf 1 2 ((l.map RawC.named).map Chg.laid)).length ≤ 70000 := by
  have h0 := laidOf_len 1 2 60 ((l.map RawC.named).map Chg.laid) (fun x hx => by
    obtain ⟨c, hc, rfl⟩ := List.mem_map.1 hx
    obtain ⟨y, _, rfl⟩ := List.mem_map.1 hc
    exact named_len y)
  rw [List.length_map, List.length_map] at h0
  omega

theorem fold_turn_length : ∀ (l : List Chg) (m : List (List UInt8 × List UInt8)), (l.foldl turnC m).length ≤ m.length + l.length := fold_length

section
variable {α : Type}

/-- What is kept of a list, at the place of one that is kept. -/
theorem filter_at (f : α → Bool) (l : List α) (i : Nat) (hi : i < l.length) (hf : f l[i] = true) : (l.filter f)[((l.take i).filter f).length]? = some l[i] := by
  have e : l = l.take i ++ l[i] :: l.drop (i + 1) := by
    conv => lhs; rw [← List.take_append_drop i l, List.drop_eq_getElem_cons hi]
  have e2 : l.filter f = (l.take i).filter f ++ l[i] :: (l.drop (i + 1)).filter f := by
    conv => lhs; rw [e]
    rw [List.filter_append, List.filter_cons, if_pos hf]
  rw [e2, List.getElem?_append_right (Nat.le_refl _), Nat.sub_self]
  rfl

theorem filter_yes (f : α → Bool) (l : List α) (i : Nat) (hi : i < l.length) (hf : f l[i] = true) : ((l.take (i + 1)).filter f).length = ((l.take i).filter f).length + 1 := by
  rw [List.take_succ_eq_append_getElem hi, List.filter_append]
  simp [hf]

theorem filter_no (f : α → Bool) (l : List α) (i : Nat) (hi : i < l.length) (hf : f l[i] = false) : ((l.take (i + 1)).filter f).length = ((l.take i).filter f).length := by
  rw [List.take_succ_eq_append_getElem hi, List.filter_append]
  simp [hf]

end

/-- A later key is not at most an earlier one. -/
theorem rising_leq {m : List (List UInt8 × List UInt8)} (h : risingK m) (i j : Nat) (hj : j < i) (hi : i < (m.map (·.1)).length) (a b : ByteArray) (ha : a.data.toList = (m.map (·.1))[i]) (hb : b.data.toList = (m.map (·.1))[j]) : (Op.bytesLess a.toList b.toList || a.toList == b.toList) = false := by
  have hl : (m.map (·.1)).length = m.length := List.length_map _
  unfold risingK at h
  have h1 := List.pairwise_iff_getElem.1 h j i (by omega) (by omega) hj
  have h2 := before_lt h1
  rw [Lib.toList_data, Lib.toList_data, ha, hb, bytesLess_eq]
  simp only [List.getElem_map]
  have h3 : ¬ m[i].1 < m[j].1 := fun e => List.lt_irrefl _ (List.lt_trans h2 e)
  have h4 : ¬ m[i].1 = m[j].1 := fun e => by rw [e] at h2; exact List.lt_irrefl _ h2
  simp [h3, h4]

end Go.Proofs.YteomehdkfhjbeaaGreatDoor
