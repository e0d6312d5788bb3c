/- What the eight bits of one byte come to: the program's word. -/
import Derived.Test.YtfmbkpdjjhcmcaaGreatRows
import Derived.Test.YtfmbkpdjjhcmcaaGreatPkA
import Derived.Laws.BitsAllLaws
namespace Go.Proofs.YtfmbkpdjjhcmcaaGreat
open Go.RowKit

theorem low_bit (x : Nat) (hx : x < 4294967296) : bits .and .u32 (x : Int) 1 = ((x % 2 : Nat) : Int) := by
  have := u32_and_nat x 1 hx (by omega)
  rw [nat_mask1] at this
  exact this

theorem cbit_odd (x : Nat) (hx : x < 4294967296) (h : x % 2 = 1) : bits .xor .u32 ((x : Int) / 2) 3988292384 = (cbit x : Int) := by
  have := u32_xor_nat (x / 2) 3988292384 (by omega) (by omega)
  unfold cbit
  rw [if_pos h]
  exact this

theorem cbit_plain (x : Nat) (h : ¬ x % 2 = 1) : (x : Int) / 2 = (cbit x : Int) := by
  unfold cbit
  rw [if_neg h]
  rfl

theorem not_u32 (x : Nat) (hx : x < 4294967296) : bits .xor .u32 4294967295 (x : Int) = ((4294967295 - x : Nat) : Int) := by
  show IntKind.u32.wrap ((BitVec.ofInt 32 4294967295 ^^^ BitVec.ofInt 32 (x : Int)).toNat : Int) = _
  have h1 : BitVec.ofInt 32 4294967295 = BitVec.allOnes 32 := by decide
  rw [h1, BitVec.allOnes_xor, BitVec.toNat_not, ofInt_u32 x hx, IntKind.wrap_u32']
  omega

set_option maxHeartbeats 400000 in
theorem word_any (c : Nat) (hc : c < 4294967296) (w : World) :
    Calls Tryz.prog 108 #[.int .u32 c] w fun e w' => e = .returned (.int .u32 (cword c)) ∧ w = w' := by
  go_enter Tryz.func108, Tryz.ntmps108
  go_wp2
  go_loop [0, 4, 3] (fun x i _ => ∃ (k : Nat), k ≤ 8 ∧ x = .int .u32 (cbits k c) ∧ i = .int .i64 k) (fun _ i _ => (8 - intOf i).toNat)
  case atStart => exact ⟨0, by omega, rfl, rfl⟩
  case round =>
    obtain ⟨k, hk, rfl, rfl⟩ := hrel
    have hlt := cbits_lt k c hc
    have hbit := low_bit (cbits k c) hlt
    by_cases hodd : cbits k c % 2 = 1
    · have hx := cbit_odd _ hlt hodd
      rw [← cbits_succ] at hx
      rw [hodd] at hbit
      go_wp2
      · refine ⟨⟨k + 1, by omega, rfl, by simp⟩, ?_⟩
        simp [intOf]
        omega
      · go_ret
        obtain rfl : k = 8 := by omega
        exact ⟨rfl, rfl⟩
    · have hx := cbit_plain _ hodd
      rw [← cbits_succ] at hx
      rw [show cbits k c % 2 = 0 by omega] at hbit
      go_wp2
      · refine ⟨⟨k + 1, by omega, rfl, by simp⟩, ?_⟩
        simp [intOf]
        omega
      · go_ret
        obtain rfl : k = 8 := by omega
        exact ⟨rfl, rfl⟩

end Go.Proofs.YtfmbkpdjjhcmcaaGreat
