/- What the verifier's own small functions do: a number brought within bounds; at most so many bytes, in new memory. -/
import Derived.Test.YtfmbkpdjjhcmcaaGreatPkA
namespace Go.Proofs.YtfmbkpdjjhcmcaaGreat
open Go.RowKit

theorem tmod_neg (n m : Int) (hm : 0 < m) (hm2 : m ≤ 4611686018427387904) (h : n.tmod m < 0) : wrap64 (n.tmod m + m) = n % m := by
  have h0 := Int.emod_nonneg n (show m ≠ 0 by omega)
  have h1 := Int.emod_lt_of_pos n hm
  have e := Int.tmod_eq_emod (a := n) (b := m)
  have ha : (m.natAbs : Int) = m := by omega
  split at e
  · omega
  · rw [e]
    unfold wrap64
    omega

theorem tmod_pos (n m : Int) (hm : 0 < m) (h : 0 ≤ n.tmod m) : n.tmod m = n % m := by
  have h1 := Int.emod_lt_of_pos n hm
  have e := Int.tmod_eq_emod (a := n) (b := m)
  have ha : (m.natAbs : Int) = m := by omega
  split at e <;> omega

theorem ret_int {k : IntKind} {a b : Int} (h : a = b) : Ending.returned (.int k a) = .returned (.int k b) := by rw [h]

set_option maxHeartbeats 400000 in
theorem pick_any (n m : Int) (w : World) (hm : 0 < m) (hm2 : m ≤ 4611686018427387904) :
    Calls Tryz.prog 17 #[.int .i64 n, .int .i64 m] w fun e w' => e = .returned (.int .i64 (n % m)) ∧ w = w' := by
  go_enter Tryz.func17, Tryz.ntmps17
  go_wp2
  · go_ret
    exact ⟨ret_int (tmod_neg n m hm hm2 ‹_›), rfl⟩
  · go_ret
    exact ⟨ret_int (tmod_pos n m hm ‹_›), rfl⟩

theorem owns_empty (w : World) : Owns (w.alloc (.cells #[] 5)) (.slice (some ⟨w.heap.size, 0, none⟩) 0 0) [] :=
  World.ownsRow_made w #[] 0 (Nat.zero_le _) (Nat.zero_le _) rfl

/-- Bytes of one's own, in new memory; nothing else has turned. -/
def Made (w : World) (v : Value) (bs : List UInt8) (w' : World) : Prop := Owns w' v bs ∧ Turn (fun _ => False) w w' ∧ ∀ k, v.ownBlock = some k → w.heap.size ≤ k

theorem Made.append {w w' : World} {v' : Value} {bs : List UInt8} (ho : Owns w' v' ([] ++ bs)) (hg : (w.alloc (.cells #[] 5)).grownBy w' (some w.heap.size)) (hk : v'.ownBlock = some w.heap.size ∨ v'.ownBlock = some (w.heap.size + 1)) : Made w v' bs w' := by
  refine ⟨ho, ((Turn.refl _ _).alloc _).grown hg (fun k hk => ?_), fun k e => ?_⟩
  · injection hk with hk
    exact .inr (by omega)
  · rcases hk with hk | hk
    · rw [hk] at e; injection e with e; omega
    · rw [hk] at e; injection e with e; omega

set_option maxHeartbeats 400000 in
theorem few_any (v : Value) (bs : List UInt8) (n : Nat) (w : World) (hs : Sees w v bs) (hb : min bs.length n ≤ 140737488355328) :
    Calls Tryz.prog 18 #[v, .int .i64 n] w fun e w' => ∃ v', e = .returned v' ∧ Made w v' (bs.take n) w' := by
  obtain ⟨i0, hi, hz0, hz1, hz2⟩ := info_parts Tryz.infoU8
  have hs' := hs
  rcases hs' with ⟨rfl, rfl⟩ | ⟨a, cap, rfl, hc, hm, hcell⟩
  · go_enter Tryz.func18, Tryz.ntmps18
    go_wp2_with fail
    go_ret
    refine ⟨_, rfl, ?_, (Turn.refl _ _).alloc _, ?_⟩
    · rw [List.take_nil]
      exact owns_empty w
    · intro k hk
      simp [Value.ownBlock] at hk
      omega
  · clear hcell
    have hmx : bs.length ≤ maxLen := by omega
    unfold maxLen at hmx hm
    by_cases hn : n < bs.length
    · have hsee := ((hs.front n (by omega)).kept ((Turn.refl (fun _ => False) w).alloc (.cells #[] 5)) (fun _ _ h => h))
      have hlen : (bs.take n).length = n := by simp; omega
      go_enter Tryz.func18, Tryz.ntmps18
      go_wp2_with (at_builtin; refine wpList_append_sees _ rfl (.tmp 5) (.tmp 11) 31 rfl i0 Tryz.underlying31 hi hz0 hz1 hz2 _ [] rfl (owns_empty w) _ (bs.take n) rfl hsee (by simp only [List.length_nil, hlen]; omega) ?_)
      intro v' w' ho hg hk
      have hmade := Made.append ho hg hk
      obtain ⟨ao, c, rfl⟩ := ho.shape
      clear ho hg hk
      go_wp2
      go_ret
      exact ⟨_, rfl, hmade⟩
    · have hsee := (hs.kept ((Turn.refl (fun _ => False) w).alloc (.cells #[] 5)) (fun _ _ h => h))
      rw [List.take_of_length_le (by omega)]
      go_enter Tryz.func18, Tryz.ntmps18
      go_wp2_with (at_builtin; refine wpList_append_sees _ rfl (.tmp 5) (.tmp 11) 31 rfl i0 Tryz.underlying31 hi hz0 hz1 hz2 _ [] rfl (owns_empty w) _ bs rfl hsee (by simp only [List.length_nil]; omega) ?_)
      intro v' w' ho hg hk
      have hmade := Made.append ho hg hk
      obtain ⟨ao, c, rfl⟩ := ho.shape
      clear ho hg hk
      go_wp2
      go_ret
      exact ⟨_, rfl, hmade⟩

end Go.Proofs.YtfmbkpdjjhcmcaaGreat
