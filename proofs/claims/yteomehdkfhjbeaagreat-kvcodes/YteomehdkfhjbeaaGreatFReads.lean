/- Any bytes begin with a record, or are refused, as the reference says: the law's walk. -/
import Derived.Test.YteomehdkfhjbeaaGreatPkF
namespace Go.Proofs.YteomehdkfhjbeaaGreat
open Go.RowKit

theorem refNext_any (v : Value) (bs : List UInt8) (w : World) (hs : Sees w v bs) (hb : bs.length ≤ 140737488355328) :
    Calls Tryz.prog 112 #[v] w fun e w' => ∃ v', e = .returned (toldValue (tell bs) v') ∧ RefIs w (tell bs) v' w' := by
  by_cases hl : bs.length < 9
  · exact refNext_short v bs w hs hl
  · obtain ⟨A, L, S, R, h1, h2, h3, h4, h5⟩ := parts bs (by omega)
    rw [h5]
    exact refNext_long v bs A L S R w hs hb h1 h2 h3 h4

/-- A byte that is turned by another one, as the walk spells it. -/
theorem xor_byte (x : UInt8) (y : Nat) (hy : y < 256) : ∃ z : UInt8, bits .xor .u8 (x.toNat : Int) (y : Int) = (z.toNat : Int) := by
  have hx := byte_lt x
  have hz : x.toNat ^^^ y < 256 := Nat.xor_lt_two_pow (n := 8) hx hy
  refine ⟨UInt8.ofNat (x.toNat ^^^ y), ?_⟩
  rw [UInt8.toNat_ofNat', Nat.mod_eq_of_lt hz]
  exact u8_xor_nat _ _ hx hy

end Go.Proofs.YteomehdkfhjbeaaGreat
