/- A sum over bytes, bit by bit and by bytes; each step of it can be undone. -/
import Derived.WalkKit
namespace Go.Proofs.Ythclffafbkeepaa

/-- One bit leaves. -/
def cbit (c : Nat) : Nat := if c % 2 = 1 then (c / 2) ^^^ 3988292384 else c / 2
/-- So many bits leave. -/
def cbits : Nat → Nat → Nat
  | 0, c => c
  | k + 1, c => cbits k (cbit c)
/-- Eight bits leave. -/
def cword (c : Nat) : Nat := cbits 8 c
/-- A byte goes in. -/
def cstep (c : Nat) (b : UInt8) : Nat := cword (c ^^^ b.toNat)
/-- Bytes go in. -/
def crun (c : Nat) (bs : List UInt8) : Nat := bs.foldl cstep c
/-- The sum. -/
def csum (bs : List UInt8) : Nat := 4294967295 - crun 4294967295 bs

theorem cbits_succ (k c : Nat) : cbits (k + 1) c = cbit (cbits k c) := by
  induction k generalizing c with
  | zero => rfl
  | succ k ih => exact ih (cbit c)

theorem xor_lt (a b : Nat) (ha : a < 4294967296) (hb : b < 4294967296) : a ^^^ b < 4294967296 :=
  Nat.xor_lt_two_pow (n := 32) ha hb

theorem cbit_lt (c : Nat) (h : c < 4294967296) : cbit c < 4294967296 := by
  unfold cbit
  split
  · exact xor_lt _ _ (by omega) (by omega)
  · omega

theorem cbits_lt (k c : Nat) (h : c < 4294967296) : cbits k c < 4294967296 := by
  induction k generalizing c with
  | zero => exact h
  | succ k ih => exact ih _ (cbit_lt c h)

theorem cword_lt (c : Nat) (h : c < 4294967296) : cword c < 4294967296 := cbits_lt 8 c h

theorem byte_lt (b : UInt8) : b.toNat < 256 := b.toNat_lt

theorem cstep_lt (c : Nat) (b : UInt8) (h : c < 4294967296) : cstep c b < 4294967296 := cword_lt _ (xor_lt _ _ h (by have := byte_lt b; omega))

theorem crun_lt (c : Nat) (bs : List UInt8) (h : c < 4294967296) : crun c bs < 4294967296 := by
  induction bs generalizing c with
  | nil => exact h
  | cons b r ih => exact ih _ (cstep_lt c b h)

theorem csum_lt (bs : List UInt8) : csum bs < 4294967296 := by unfold csum; omega

theorem crun_append (c : Nat) (a b : List UInt8) : crun c (a ++ b) = crun (crun c a) b := List.foldl_append

theorem crun_snoc (c : Nat) (a : List UInt8) (b : UInt8) : crun c (a ++ [b]) = cstep (crun c a) b := by rw [crun_append]; rfl

theorem cbit_xor (x y : Nat) : cbit (x ^^^ y) = cbit x ^^^ cbit y := by
  have h2 : (x ^^^ y) / 2 = x / 2 ^^^ y / 2 := Nat.xor_div_two
  have hm : (x ^^^ y) % 2 = 1 ↔ ¬ (x % 2 = 1 ↔ y % 2 = 1) := Nat.xor_mod_two_eq_one
  unfold cbit
  rw [h2]
  by_cases hx : x % 2 = 1 <;> by_cases hy : y % 2 = 1
  · rw [if_neg (by rw [hm]; simp [hx, hy]), if_pos hx, if_pos hy]
    rw [Nat.xor_comm (y / 2), Nat.xor_assoc, ← Nat.xor_assoc 3988292384, Nat.xor_self, Nat.zero_xor]
  · rw [if_pos (by rw [hm]; simp [hx, hy]), if_pos hx, if_neg hy]
    rw [Nat.xor_assoc, Nat.xor_assoc, Nat.xor_comm (y / 2)]
  · rw [if_pos (by rw [hm]; simp [hx, hy]), if_neg hx, if_pos hy]
    rw [Nat.xor_assoc]
  · rw [if_neg (by rw [hm]; simp [hx, hy]), if_neg hx, if_neg hy]

theorem cbits_xor (k x y : Nat) : cbits k (x ^^^ y) = cbits k x ^^^ cbits k y := by
  induction k generalizing x y with
  | zero => rfl
  | succ k ih => rw [cbits, cbits, cbits, cbit_xor, ih]

theorem cbit_even (z : Nat) : cbit (2 * z) = z := by
  unfold cbit
  rw [if_neg (by omega)]
  omega

theorem cbits_even (k z : Nat) : cbits k (2 ^ k * z) = z := by
  induction k generalizing z with
  | zero => simp [cbits]
  | succ k ih => rw [cbits, Nat.pow_succ, Nat.mul_comm (2 ^ k) 2, Nat.mul_assoc, cbit_even, ih]

theorem split8 (x : Nat) : x = (x % 256) ^^^ (256 * (x / 256)) := by
  apply Nat.eq_of_testBit_eq
  intro i
  have h1 : (x % 256).testBit i = (decide (i < 8) && x.testBit i) := Nat.testBit_mod_two_pow x 8 i
  have h2 : (256 * (x / 256)).testBit i = (decide (i ≥ 8) && Nat.testBit (x / 256) (i - 8)) := Nat.testBit_two_pow_mul (i := 8)
  have h3 : (x / 256).testBit (i - 8) = x.testBit (8 + (i - 8)) := by
    have := Nat.testBit_div_two_pow (n := 8) x (i - 8)
    rw [Nat.add_comm]
    exact this
  rw [Nat.testBit_xor, h1, h2, h3]
  by_cases hi : i < 8
  · simp [hi, show ¬ i ≥ 8 by omega]
  · simp [hi, show i ≥ 8 by omega, show 8 + (i - 8) = i by omega]

theorem cword_split (x : Nat) : cword x = cword (x % 256) ^^^ (x / 256) := by
  have h : cword x = cword ((x % 256) ^^^ (256 * (x / 256))) := congrArg cword (split8 x)
  rw [h]
  unfold cword
  rw [cbits_xor]
  rw [show (256 : Nat) * (x / 256) = 2 ^ 8 * (x / 256) from rfl, cbits_even]

/-- By a table of the words of all bytes. -/
theorem cstep_table (c : Nat) (b : UInt8) : cstep c b = cword ((c % 256) ^^^ b.toNat) ^^^ (c / 256) := by
  have hb := byte_lt b
  unfold cstep
  rw [cword_split]
  have e1 : (c ^^^ b.toNat) % 256 = (c % 256) ^^^ b.toNat := by
    have := Nat.xor_mod_two_pow (a := c) (b := b.toNat) (n := 8)
    rw [show (2 : Nat) ^ 8 = 256 from rfl] at this
    rw [this, Nat.mod_eq_of_lt hb]
  have e2 : (c ^^^ b.toNat) / 256 = c / 256 := by
    have := Nat.xor_div_two_pow (a := c) (b := b.toNat) (n := 8)
    rw [show (2 : Nat) ^ 8 = 256 from rfl] at this
    rw [this, Nat.div_eq_of_lt hb, Nat.xor_zero]
  rw [e1, e2]

theorem xor_zero_eq {x y : Nat} (h : x ^^^ y = 0) : x = y := by
  have : (x ^^^ y) ^^^ y = 0 ^^^ y := by rw [h]
  rw [Nat.xor_assoc, Nat.xor_self, Nat.xor_zero, Nat.zero_xor] at this
  exact this

theorem cbit_zero {z : Nat} (hz : z < 4294967296) (h : cbit z = 0) : z = 0 := by
  unfold cbit at h
  split at h
  · have := xor_zero_eq h
    omega
  · omega

theorem cbit_inj {x y : Nat} (hx : x < 4294967296) (hy : y < 4294967296) (h : cbit x = cbit y) : x = y := by
  apply xor_zero_eq
  apply cbit_zero (xor_lt _ _ hx hy)
  rw [cbit_xor, h, Nat.xor_self]

theorem cbits_inj {k x y : Nat} (hx : x < 4294967296) (hy : y < 4294967296) (h : cbits k x = cbits k y) : x = y := by
  induction k generalizing x y with
  | zero => exact h
  | succ k ih => exact cbit_inj hx hy (ih (cbit_lt _ hx) (cbit_lt _ hy) h)

theorem xor_right_inj {x y z : Nat} (h : x ^^^ z = y ^^^ z) : x = y := by
  have : (x ^^^ z) ^^^ z = (y ^^^ z) ^^^ z := by rw [h]
  rwa [Nat.xor_assoc, Nat.xor_assoc, Nat.xor_self, Nat.xor_zero, Nat.xor_zero] at this

theorem cstep_inj {x y : Nat} {b : UInt8} (hx : x < 4294967296) (hy : y < 4294967296) (h : cstep x b = cstep y b) : x = y :=
  xor_right_inj (cbits_inj (xor_lt _ _ hx (by have := byte_lt b; omega)) (xor_lt _ _ hy (by have := byte_lt b; omega)) h)

theorem cstep_inj_byte {c : Nat} {a b : UInt8} (hc : c < 4294967296) (h : cstep c a = cstep c b) : a = b := by
  have := cbits_inj (xor_lt _ _ hc (by have := byte_lt a; omega)) (xor_lt _ _ hc (by have := byte_lt b; omega)) h
  rw [Nat.xor_comm c, Nat.xor_comm c] at this
  exact UInt8.toNat_inj.1 (xor_right_inj this)

theorem crun_inj {x y : Nat} {bs : List UInt8} (hx : x < 4294967296) (hy : y < 4294967296) (h : crun x bs = crun y bs) : x = y := by
  induction bs generalizing x y with
  | nil => exact h
  | cons b r ih => exact cstep_inj hx hy (ih (cstep_lt _ b hx) (cstep_lt _ b hy) h)

/-- One byte that is turned makes another sum. -/
theorem csum_turned (bs : List UInt8) (i : Nat) (hi : i < bs.length) (b : UInt8) (hb : b ≠ bs[i]) : csum (bs.set i b) ≠ csum bs := by
  intro h
  have h1 := crun_lt 4294967295 (bs.set i b) (by omega)
  have h2 := crun_lt 4294967295 bs (by omega)
  have e : crun 4294967295 (bs.set i b) = crun 4294967295 bs := by unfold csum at h; omega
  have hs : bs = bs.take i ++ bs[i] :: bs.drop (i + 1) := by rw [← List.drop_eq_getElem_cons hi, List.take_append_drop]
  have hs2 : bs.set i b = bs.take i ++ b :: bs.drop (i + 1) := by rw [List.set_eq_take_append_cons_drop, if_pos hi]
  have hc := crun_lt 4294967295 (bs.take i) (by omega)
  rw [hs2] at e
  have e' : crun 4294967295 bs = crun 4294967295 (bs.take i ++ bs[i] :: bs.drop (i + 1)) := congrArg _ hs
  rw [e', crun_append, crun_append] at e
  exact hb (cstep_inj_byte hc (crun_inj (cstep_lt _ b hc) (cstep_lt _ _ hc) e))

theorem csum_nil : csum [] = 0 := rfl
set_option maxRecDepth 10000 in
theorem csum_nine : csum [49, 50, 51, 52, 53, 54, 55, 56, 57] = 3421780262 := by decide
theorem csum_a : csum [97] = 3904355907 := by decide
theorem csum_zero : csum [0] = 3523407757 := by decide

end Go.Proofs.Ythclffafbkeepaa
