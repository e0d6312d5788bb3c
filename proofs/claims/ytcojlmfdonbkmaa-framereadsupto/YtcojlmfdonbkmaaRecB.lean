/- A record is told again; a beginning of it is too short; with a byte turned it is refused. -/
import Derived.Test.YtcojlmfdonbkmaaRec
namespace Go.Proofs.Ytcojlmfdonbkmaa
open Go.RowKit

theorem tell_parts {A L S : List UInt8} (R : List UInt8) (h1 : A.length = 1) (h2 : L.length = 4) (h3 : S.length = 4) : tell (A ++ (L ++ (S ++ R))) = told A L S R := by
  have e1 : (A ++ (L ++ (S ++ R))).take 1 = A := List.take_left' h1
  have d1 : (A ++ (L ++ (S ++ R))).drop 1 = L ++ (S ++ R) := List.drop_left' h1
  have e2 : (L ++ (S ++ R)).take 4 = L := List.take_left' h2
  have d5 : (A ++ (L ++ (S ++ R))).drop 5 = S ++ R := by
    rw [show A ++ (L ++ (S ++ R)) = (A ++ L) ++ (S ++ R) by simp, List.drop_left' (by simp; omega)]
  have e3 : (S ++ R).take 4 = S := List.take_left' h3
  have d9 : (A ++ (L ++ (S ++ R))).drop 9 = R := by
    rw [show A ++ (L ++ (S ++ R)) = (A ++ (L ++ S)) ++ R by simp, List.drop_left' (by simp; omega)]
  unfold tell
  rw [if_neg (by simp only [List.length_append]; omega), e1, d1, e2, d5, e3, d9]

theorem num_be4 (n : Int) (h0 : 0 ≤ n) (h1 : n < 4294967296) : num (be n 4) = n := by rw [num_be]; unfold wrap64; omega

theorem record_eq (k : Int) (bs : List UInt8) : record k bs = be k 1 ++ (be bs.length 4 ++ (be (csum (front k bs.length ++ bs)) 4 ++ bs)) := by simp [record, front]

theorem csum_small (bs : List UInt8) : (0 : Int) ≤ csum bs ∧ (csum bs : Int) < 4294967296 := by have := csum_lt bs; omega

theorem tell_record (k : Int) (bs : List UInt8) (h1 : 1 ≤ k) (h2 : k ≤ 255) (h3 : bs.length ≤ 1048576) : tell (record k bs) = ⟨k, bs, 9 + bs.length, 0⟩ := by
  have hk : num (be k 1) = k := by rw [num_be1]; omega
  have hn : num (be bs.length 4) = bs.length := num_be4 _ (by omega) (by omega)
  have hc := csum_small (front k bs.length ++ bs)
  have ht : bs.take (Int.toNat (bs.length : Int)) = bs := by rw [Int.toNat_natCast, List.take_length]
  rw [record_eq, tell_parts bs (be_length _ _) (be_length _ _) (be_length _ _), told_well _ _ _ _ (by rw [hk, hn]; omega) (by rw [hn]; omega), hk, hn, ht]
  rw [hn, ht, num_be4 _ hc.1 hc.2]
  rfl

theorem tell_cut (k : Int) (bs : List UInt8) (h1 : 1 ≤ k) (h2 : k ≤ 255) (h3 : bs.length ≤ 1048576) (n : Nat) (hn' : n < 9 + bs.length) : tell ((record k bs).take n) = ⟨0, [], 0, 7⟩ := by
  have hk : num (be k 1) = k := by rw [num_be1]; omega
  have hn : num (be bs.length 4) = bs.length := num_be4 _ (by omega) (by omega)
  by_cases h9 : n < 9
  · exact tell_short _ (by rw [List.length_take]; omega)
  · have e : (record k bs).take n = be k 1 ++ (be bs.length 4 ++ (be (csum (front k bs.length ++ bs)) 4 ++ bs.take (n - 9))) := by
      have hl : (be k 1 ++ (be bs.length 4 ++ be (csum (front k bs.length ++ bs)) 4)).length = 9 := by simp [be_length]
      have e2 : record k bs = (be k 1 ++ (be bs.length 4 ++ be (csum (front k bs.length ++ bs)) 4)) ++ bs := by rw [record_eq]; simp
      rw [e2, List.take_append, hl, List.take_of_length_le (by rw [hl]; omega)]
      simp
    rw [e, tell_parts _ (be_length _ _) (be_length _ _) (be_length _ _), told_short _ _ _ _ (by rw [hk, hn]; omega) (by rw [hn, List.length_take]; omega)]

/-- Another body of the same length, whose sum is another one. -/
theorem tell_turned (k : Int) (bs ds : List UInt8) (h1 : 1 ≤ k) (h2 : k ≤ 255) (h3 : bs.length ≤ 1048576) (hl : ds.length = bs.length) (hc : csum (front k bs.length ++ bs) ≠ csum (front k bs.length ++ ds)) :
    tell (be k 1 ++ (be bs.length 4 ++ (be (csum (front k bs.length ++ bs)) 4 ++ ds))) = ⟨0, [], 0, 8⟩ := by
  have hk : num (be k 1) = k := by rw [num_be1]; omega
  have hn : num (be bs.length 4) = bs.length := num_be4 _ (by omega) (by omega)
  have hcs := csum_small (front k bs.length ++ bs)
  have ht : ds.take (Int.toNat (bs.length : Int)) = ds := by rw [Int.toNat_natCast, ← hl, List.take_length]
  rw [tell_parts ds (be_length _ _) (be_length _ _) (be_length _ _), told_sum _ _ _ _ (by rw [hk, hn]; omega) (by rw [hn]; omega)]
  rw [hn, ht, num_be4 _ hcs.1 hcs.2]
  intro e
  exact hc (by exact_mod_cast e)

set_option maxRecDepth 20000 in
theorem record_a : record 1 [97] = [1, 0, 0, 0, 1, 89, 48, 18, 137, 97] := by decide

set_option maxRecDepth 20000 in
theorem record_hello : record 7 [104, 101, 108, 108, 111] = [7, 0, 0, 0, 5, 161, 169, 179, 39, 104, 101, 108, 108, 111] := by decide

theorem tell_a : tell [1, 0, 0, 0, 1, 89, 48, 18, 137, 97] = ⟨1, [97], 10, 0⟩ := by
  rw [← record_a]
  exact tell_record 1 [97] (by omega) (by omega) (by simp)

theorem tell_13 : tell [7, 0, 0, 0, 5, 161, 169, 179, 39, 104, 101, 108, 108] = ⟨0, [], 0, 7⟩ := by
  rw [show ([7, 0, 0, 0, 5, 161, 169, 179, 39, 104, 101, 108, 108] : List UInt8) = (record 7 [104, 101, 108, 108, 111]).take 13 by rw [record_hello]; rfl]
  exact tell_cut 7 [104, 101, 108, 108, 111] (by omega) (by omega) (by simp) 13 (by simp)

set_option maxRecDepth 20000 in
theorem hello_hellp : csum (front 7 5 ++ [104, 101, 108, 108, 111]) ≠ csum (front 7 5 ++ [104, 101, 108, 108, 112]) := by decide

set_option maxRecDepth 20000 in
theorem hello_parts : be 7 1 ++ (be ([104, 101, 108, 108, 111] : List UInt8).length 4 ++ (be (csum (front 7 ([104, 101, 108, 108, 111] : List UInt8).length ++ [104, 101, 108, 108, 111])) 4 ++ [104, 101, 108, 108, 112])) = [7, 0, 0, 0, 5, 161, 169, 179, 39, 104, 101, 108, 108, 112] := by decide

theorem tell_hellp : tell [7, 0, 0, 0, 5, 161, 169, 179, 39, 104, 101, 108, 108, 112] = ⟨0, [], 0, 8⟩ := by
  rw [← hello_parts]
  exact tell_turned 7 [104, 101, 108, 108, 111] [104, 101, 108, 108, 112] (by omega) (by omega) (by simp) rfl hello_hellp

theorem tell_zeros : tell [0, 0, 0, 0, 0, 0, 0, 0, 0] = ⟨0, [], 0, 5⟩ := by
  have h := tell_parts (A := [0]) (L := [0, 0, 0, 0]) (S := [0, 0, 0, 0]) [] rfl rfl rfl
  rw [told_form _ _ _ _ (.inl (by rw [num_one]; rfl))] at h
  exact h

theorem tell_great : tell [1, 255, 0, 0, 0, 0, 0, 0, 0] = ⟨0, [], 0, 5⟩ := by
  have h := tell_parts (A := [1]) (L := [255, 0, 0, 0]) (S := [0, 0, 0, 0]) [] rfl rfl rfl
  rw [told_form _ _ _ _ (.inr (by rw [num_four]; decide))] at h
  exact h

end Go.Proofs.Ytcojlmfdonbkmaa
