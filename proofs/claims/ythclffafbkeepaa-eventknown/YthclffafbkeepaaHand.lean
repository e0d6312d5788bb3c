/- What the verifier's own small functions do: a number brought within bounds; at most so many bytes, in new memory. -/
import Derived.Test.YthclffafbkeepaaInfo
namespace Go.Proofs.Ythclffafbkeepaa
open Go.RowKit

theorem tmod_neg (n m : Int) (hm : 0 < m) (hm2 : m ≤ 4611686018427387904) (h : n.tmod m < 0) : wrap64 (n.tmod m + m) = n % m := by
  have h0 := Int.emod_nonneg n (show m ≠ 0 by omega)
  have h1 := Int.emod_lt_of_pos n hm
  have e := Int.tmod_eq_emod (a := n) (b := m)
  have ha : (m.natAbs : Int) = m := by omega
  split at e
  · omega
  · rw [e]
    unfold wrap64
    omega

theorem tmod_pos (n m : Int) (hm : 0 < m) (h : 0 ≤ n.tmod m) : n.tmod m = n % m := by
  have h1 := Int.emod_lt_of_pos n hm
  have e := Int.tmod_eq_emod (a := n) (b := m)
  have ha : (m.natAbs : Int) = m := by omega
  split at e <;> omega

theorem ret_int {k : IntKind} {a b : Int} (h : a = b) : Ending.returned (.int k a) = .returned (.int k b) := by rw [h]

set_option maxHeartbeats 400000 in
theorem pick_any (n m : Int) (w : World) (hm : 0 < m) (hm2 : m ≤ 4611686018427387904) :
    Calls Try.prog 12 #[.int .i64 n, .int .i64 m] w fun e w' => e = .returned (.int .i64 (n % m)) ∧ w = w' := by
  go_enter Try.func12, Try.ntmps12
  go_wp2
  · go_ret
    exact ⟨ret_int (tmod_neg n m hm hm2 ‹_›), rfl⟩
  · go_ret
    exact ⟨ret_int (tmod_pos n m hm ‹_›), rfl⟩

theorem owns_empty (w : World) : Owns (w.alloc (.cells #[] 5)) (.slice (some ⟨w.heap.size, 0, none⟩) 0 0) [] :=
  World.ownsRow_made w #[] 0 (Nat.zero_le _) (Nat.zero_le _) rfl

/-- Bytes of one's own, in new memory; nothing else has turned. -/
def Made (w : World) (v : Value) (bs : List UInt8) (w' : World) : Prop := Owns w' v bs ∧ Turn (fun _ => False) w w' ∧ ∀ k, v.ownBlock = some k → w.heap.size ≤ k

theorem Made.append {w w' : World} {v' : Value} {bs : List UInt8} (ho : Owns w' v' ([] ++ bs)) (hg : (w.alloc (.cells #[] 5)).grownBy w' (some w.heap.size)) (hk : v'.ownBlock = some w.heap.size ∨ v'.ownBlock = some (w.heap.size + 1)) : Made w v' bs w' := by
  refine ⟨ho, ((Turn.refl _ _).alloc _).grown hg (fun k hk => ?_), fun k e => ?_⟩
  · injection hk with hk
    exact .inr (by omega)
  · rcases hk with hk | hk
    · rw [hk] at e; injection e with e; omega
    · rw [hk] at e; injection e with e; omega

end Go.Proofs.Ythclffafbkeepaa
