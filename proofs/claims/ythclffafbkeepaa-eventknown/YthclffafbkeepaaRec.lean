/- A record: its bytes, and what is told of any bytes. Plain lists. -/
import Derived.Test.YthclffafbkeepaaSt
import Derived.Test.YthclffafbkeepaaCrc
namespace Go.Proofs.Ythclffafbkeepaa
open Go.RowKit

/-- Four bytes of a number are two and two. -/
theorem be_four (n : Int) : be n 4 = be (n / 65536) 2 ++ be n 2 := by
  have e : ∀ a b c d a' b' c' d' : UInt8, a = a' → b = b' → c = c' → d = d' → [a, b, c, d] = [a', b', c', d'] := by
    rintro a b c d _ _ _ _ rfl rfl rfl rfl
    rfl
  simp only [be, List.cons_append, List.nil_append]
  refine e _ _ _ _ _ _ _ _ ?_ ?_ rfl rfl
  · rw [show n / 65536 / 2 ^ (8 * 1) = n / 2 ^ (8 * 3) by omega]
  · rw [show n / 65536 / 2 ^ (8 * 0) = n / 2 ^ (8 * 2) by omega]

theorem numStep_small (x : Int) (b : UInt8) (h0 : 0 ≤ x) (h1 : x < 1099511627776) : numStep x b = x * 256 + b.toNat := by
  have hb := b.toNat_lt
  rw [numStep_eq]
  unfold wrap64
  omega

theorem num_nil : num [] = 0 := by unfold num; rw [List.foldl_nil]

theorem num_one (a : UInt8) : num [a] = a.toNat := by
  have e : num ([] ++ [a]) = numStep (num []) a := num_snoc [] a
  rw [List.nil_append, num_nil, numStep_small 0 a (by omega) (by omega)] at e
  rw [e]
  omega

theorem num_two (a b : UInt8) : num [a, b] = a.toNat * 256 + b.toNat := by
  have ha := a.toNat_lt
  have e : num ([a] ++ [b]) = numStep (num [a]) b := num_snoc [a] b
  rw [List.singleton_append, num_one, numStep_small _ b (by omega) (by omega)] at e
  exact e

theorem num_three (a b c : UInt8) : num [a, b, c] = (a.toNat * 256 + b.toNat) * 256 + c.toNat := by
  have ha := a.toNat_lt
  have hb := b.toNat_lt
  have e : num ([a, b] ++ [c]) = numStep (num [a, b]) c := num_snoc [a, b] c
  rw [List.cons_append, List.singleton_append, num_two, numStep_small _ c (by omega) (by omega)] at e
  exact e

theorem num_four (a b c d : UInt8) : num [a, b, c, d] = ((a.toNat * 256 + b.toNat) * 256 + c.toNat) * 256 + d.toNat := by
  have ha := a.toNat_lt
  have hb := b.toNat_lt
  have hc := c.toNat_lt
  have e : num ([a, b, c] ++ [d]) = numStep (num [a, b, c]) d := num_snoc [a, b, c] d
  rw [List.cons_append, List.cons_append, List.singleton_append, num_three, numStep_small _ d (by omega) (by omega)] at e
  exact e

theorem four_of {bs : List UInt8} (h : bs.length = 4) : ∃ a b c d, bs = [a, b, c, d] := by
  match bs, h with
  | [a, b, c, d], _ => exact ⟨a, b, c, d, rfl⟩

theorem one_of {bs : List UInt8} (h : bs.length = 1) : ∃ a, bs = [a] := by
  match bs, h with
  | [a], _ => exact ⟨a, rfl⟩

theorem num4_lt {bs : List UInt8} (h : bs.length = 4) : 0 ≤ num bs ∧ num bs < 4294967296 := by
  obtain ⟨a, b, c, d, rfl⟩ := four_of h
  have ha := a.toNat_lt
  have hb := b.toNat_lt
  have hc := c.toNat_lt
  have hd := d.toNat_lt
  rw [num_four]
  omega

theorem or_low (x y : Nat) (hx : x < 65536) (hy : y < 65536) : bits .or .i64 (wrap64 ((x : Int) * 65536)) (y : Int) = (x : Int) * 65536 + y := by
  have e0 : wrap64 ((x : Int) * 65536) = (x : Int) * 65536 := by unfold wrap64; omega
  rw [e0]
  have e1 : (((x : Int) * 65536) % 2 ^ 64).toNat % 2 ^ 16 = 0 := by omega
  have e2 : ((y : Int) % 2 ^ 64).toNat = y := by omega
  simp only [bits, BitVec.toNat_or, BitVec.toNat_ofInt]
  rw [show ((2 ^ IntKind.i64.bits : Nat) : Int) = 2 ^ 64 by decide, e2, nat_join 16 _ _ e1 (by omega), IntKind.wrap_i64]
  omega

/-- Two and two are four bytes of a number. -/
theorem join_four (a b c d : UInt8) : bits .or .i64 (wrap64 (num [a, b] * 65536)) (num [c, d]) = num [a, b, c, d] := by
  have ha := a.toNat_lt
  have hb := b.toNat_lt
  have hc := c.toNat_lt
  have hd := d.toNat_lt
  have h := or_low (a.toNat * 256 + b.toNat) (c.toNat * 256 + d.toNat) (by omega) (by omega)
  rw [num_two, num_two, num_four]
  rw [show ((a.toNat : Int) * 256 + b.toNat) = ((a.toNat * 256 + b.toNat : Nat) : Int) by omega, show ((c.toNat : Int) * 256 + d.toNat) = ((c.toNat * 256 + d.toNat : Nat) : Int) by omega, h]
  omega

/-- The kind and the length. -/
def front (k : Int) (n : Int) : List UInt8 := be k 1 ++ be n 4

/-- A record. -/
def record (k : Int) (bs : List UInt8) : List UInt8 := front k bs.length ++ be (csum (front k bs.length ++ bs)) 4 ++ bs

theorem front_length (k n : Int) : (front k n).length = 5 := by simp [front, be_length]
theorem record_length (k : Int) (bs : List UInt8) : (record k bs).length = 9 + bs.length := by simp [record, front_length, be_length]; omega

/-- What is told of bytes: a kind, a body, a size, an error. -/
structure Told where
  kind : Int
  body : List UInt8
  size : Int
  err : Int

/-- What is told of a kind, a length, a sum and what is behind them. -/
def told (A L S R : List UInt8) : Told :=
  if num A = 0 ∨ 1048576 < num L then ⟨0, [], 0, 5⟩
  else if (R.length : Int) < num L then ⟨0, [], 0, 7⟩
  else if num S ≠ csum (A ++ L ++ R.take (num L).toNat) then ⟨0, [], 0, 8⟩
  else ⟨num A, R.take (num L).toNat, 9 + num L, 0⟩

/-- What is told of any bytes. -/
def tell (b : List UInt8) : Told :=
  if b.length < 9 then ⟨0, [], 0, 7⟩ else told (b.take 1) ((b.drop 1).take 4) ((b.drop 5).take 4) (b.drop 9)

theorem tell_short (b : List UInt8) (h : b.length < 9) : tell b = ⟨0, [], 0, 7⟩ := if_pos h

/-- Nine bytes and more, in parts. -/
theorem parts (b : List UInt8) (h : 9 ≤ b.length) : ∃ A L S R, A.length = 1 ∧ L.length = 4 ∧ S.length = 4 ∧ b = A ++ (L ++ (S ++ R)) ∧ tell b = told A L S R := by
  refine ⟨b.take 1, (b.drop 1).take 4, (b.drop 5).take 4, b.drop 9, by simp; omega, by simp; omega, by simp; omega, ?_, if_neg (by omega)⟩
  have e1 : (b.drop 5).take 4 ++ b.drop 9 = b.drop 5 := by
    rw [show b.drop 9 = (b.drop 5).drop 4 by rw [List.drop_drop], List.take_append_drop]
  have e2 : (b.drop 1).take 4 ++ b.drop 5 = b.drop 1 := by
    rw [show b.drop 5 = (b.drop 1).drop 4 by rw [List.drop_drop], List.take_append_drop]
  rw [e1, e2, List.take_append_drop]

theorem told_form (A L S R : List UInt8) (h : num A = 0 ∨ 1048576 < num L) : told A L S R = ⟨0, [], 0, 5⟩ := if_pos h
theorem told_short (A L S R : List UInt8) (h : ¬ (num A = 0 ∨ 1048576 < num L)) (h2 : (R.length : Int) < num L) : told A L S R = ⟨0, [], 0, 7⟩ := by
  unfold told
  rw [if_neg h, if_pos h2]
theorem told_sum (A L S R : List UInt8) (h : ¬ (num A = 0 ∨ 1048576 < num L)) (h2 : ¬ (R.length : Int) < num L) (h3 : num S ≠ csum (A ++ L ++ R.take (num L).toNat)) : told A L S R = ⟨0, [], 0, 8⟩ := by
  unfold told
  rw [if_neg h, if_neg h2, if_pos h3]
theorem told_well (A L S R : List UInt8) (h : ¬ (num A = 0 ∨ 1048576 < num L)) (h2 : ¬ (R.length : Int) < num L) (h3 : num S = csum (A ++ L ++ R.take (num L).toNat)) : told A L S R = ⟨num A, R.take (num L).toNat, 9 + num L, 0⟩ := by
  unfold told
  rw [if_neg h, if_neg h2, if_neg (by simpa using h3)]

end Go.Proofs.Ythclffafbkeepaa
