/- Numbers and their bytes: what is laid as the lowest bytes of a number is that number again. -/
import Derived.Test.YthclffafbkeepaaBase
namespace Go.Proofs.Ythclffafbkeepaa
open Go.RowKit

/-- One byte more at the end of a number. -/
def numStep (n : Int) (b : UInt8) : Int := bits .or .i64 (wrap64 (n * 256)) (wrap64 (b.toNat : Int))

theorem numStep_eq (n : Int) (b : UInt8) : numStep n b = wrap64 (n * 256 + b.toNat) := by
  have hb := b.toNat_lt
  unfold numStep
  have e1 : ((wrap64 (n * 256)) % 2 ^ 64).toNat % 2 ^ 8 = 0 := by unfold wrap64; omega
  have e2 : ((wrap64 (b.toNat : Int)) % 2 ^ 64).toNat = b.toNat := by unfold wrap64; omega
  simp only [bits, BitVec.toNat_or, BitVec.toNat_ofInt]
  rw [show ((2 ^ IntKind.i64.bits : Nat) : Int) = 2 ^ 64 by decide, e2, nat_join 8 _ _ e1 (by omega), IntKind.wrap_i64]
  unfold wrap64
  omega

/-- Bytes as a number of 64 bits with a sign, the highest first. -/
def num (bs : List UInt8) : Int := bs.foldl numStep 0

theorem num_snoc (bs : List UInt8) (b : UInt8) : num (bs ++ [b]) = numStep (num bs) b := by simp [num]

/-- The lowest k bytes of n, the highest first. -/
def be (n : Int) : Nat → List UInt8
  | 0 => []
  | k + 1 => UInt8.ofNat ((n / 2 ^ (8 * k)) % 256).toNat :: be n k

theorem be_length (n : Int) : ∀ k, (be n k).length = k
  | 0 => rfl
  | k + 1 => by simp [be, be_length n k]

theorem be_step (n : Int) (k : Nat) : be n (k + 1) = [UInt8.ofNat ((n / 2 ^ (8 * k)) % 256).toNat] ++ be n k := rfl

theorem byte_of (x : Int) : ((UInt8.ofNat (x % 256).toNat).toNat : Int) = x % 256 := by
  rw [UInt8.toNat_ofNat']
  omega

theorem wrap64_wrap64 (x y : Int) : wrap64 (wrap64 x * 256 + y) = wrap64 (x * 256 + y) := by unfold wrap64; omega

theorem emod_two (n p : Int) (hp : 0 ≤ p) : n % (p * 256) = n % p + p * (n / p % 256) := by
  rw [Int.emod_def n (p * 256), Int.emod_def n p, Int.emod_def (n / p) 256, Int.ediv_mul_of_nonneg hp, Int.mul_sub, ← Int.mul_assoc]
  omega

theorem foldl_be (n : Int) : ∀ (k : Nat) (m : Int), (be n k).foldl numStep (wrap64 m) = wrap64 (m * 2 ^ (8 * k) + n % 2 ^ (8 * k))
  | 0, m => by simp [be, Int.emod_one]
  | k + 1, m => by
    rw [be, List.foldl_cons, numStep_eq, byte_of, wrap64_wrap64, foldl_be n k]
    congr 1
    have e : (2 : Int) ^ (8 * (k + 1)) = 2 ^ (8 * k) * 256 := by rw [Nat.mul_add, Int.pow_add]; rfl
    have e2 : n % (2 ^ (8 * k) * 256) = n % 2 ^ (8 * k) + 2 ^ (8 * k) * (n / 2 ^ (8 * k) % 256) := emod_two n _ (Int.pow_nonneg (by decide))
    rw [e, e2]
    generalize (2 : Int) ^ (8 * k) = p
    generalize n % p = q
    generalize n / p % 256 = r
    rw [Int.add_mul, Int.mul_assoc, Int.mul_comm 256 p, Int.mul_comm r p]
    omega

theorem num_be (n : Int) (k : Nat) : num (be n k) = wrap64 (n % 2 ^ (8 * k)) := by
  have h := foldl_be n k 0
  simp only [Int.zero_mul, Int.zero_add] at h
  have z : wrap64 0 = 0 := by unfold wrap64; omega
  rw [z] at h
  exact h

theorem num_be1 (n : Int) : num (be n 1) = n % 256 := by rw [num_be]; unfold wrap64; omega
theorem num_be2 (n : Int) : num (be n 2) = n % 65536 := by rw [num_be]; unfold wrap64; omega
theorem num_be8 (n : Int) : num (be n 8) = wrap64 n := by rw [num_be]; unfold wrap64; omega

end Go.Proofs.Ythclffafbkeepaa
