/- What slices.Grow, slices.Concat and bytes.Clone do to memory. -/
import Derived.Test.YtnojedjdnecagaaHand
import Derived.Lib.AppendZeros
import Derived.Lib.SliceRun
namespace Go.Proofs.Ytnojedjdnecagaa
open Go.RowKit

theorem Made.nil (w : World) : Made w (.slice none 0 0) [] w := ⟨Owns.nil _, Turn.refl _ _, fun k hk => by simp [Value.ownBlock] at hk⟩

theorem made_zeros (w : World) (n : Nat) (h : n ≤ maxLen) :
    Made w (.slice (some ⟨w.heap.size, 0, none⟩) 0 (grownCap w n 0 5)) [] (w.drew.alloc (.cells (Builtin.zeroCells (Value.int .u8 0).cells n ++ Builtin.zeroCells (Value.int .u8 0).cells (grownCap w n 0 5 - n)) 5)) := by
  have h1 := grownCap_ge w n 0 5
  have h2 := grownCap_le_maxLen w n 0 5 h
  refine ⟨World.ownsRow_made w.drew _ _ (Nat.zero_le _) h2 ?_, (Turn.refl _ _).drew.alloc _, fun k hk => by simp [Value.ownBlock] at hk; omega⟩
  rw [Array.size_append, size_zeroCells, size_zeroCells]
  show n * 1 + (grownCap w n 0 5 - n) * 1 = _
  omega

/-- Lists one behind the other. -/
def cat (l : List (Value × List UInt8)) : List UInt8 := (l.map (·.2)).flatten

theorem cat_snoc (l : List (Value × List UInt8)) (k : Nat) (hk : k < l.length) : cat (l.take (k + 1)) = cat (l.take k) ++ l[k].2 := by
  unfold cat
  rw [List.take_succ_eq_append_getElem hk, List.map_append, List.flatten_append]
  simp

theorem cat_le (l : List (Value × List UInt8)) (k : Nat) : (cat (l.take k)).length ≤ (cat l).length := by
  have h : cat l = cat (l.take k) ++ cat (l.drop k) := by
    unfold cat
    rw [← List.flatten_append, ← List.map_append, List.take_append_drop]
  rw [h, List.length_append]
  omega

theorem Made.more {w w1 w2 : World} {v1 v2 : Value} {bs ds : List UInt8} (h : Made w v1 bs w1) (ho : Owns w2 v2 (bs ++ ds)) (hg : w1.grownBy w2 v1.ownBlock) (hk : v2.ownBlock = v1.ownBlock ∨ v2.ownBlock = some w1.heap.size) : Made w v2 (bs ++ ds) w2 := by
  refine ⟨ho, h.2.1.grown hg (fun k hk => .inr (h.2.2 k hk)), fun k e => ?_⟩
  rcases hk with hk | hk
  · exact h.2.2 k (hk ▸ e)
  · rw [hk] at e
    injection e with e
    have := h.2.1.size
    omega

set_option maxHeartbeats 400000 in
set_option maxRecDepth 100000 in
theorem clone_any (v : Value) (bs : List UInt8) (w : World) (hs : Sees w v bs) (hb : bs.length ≤ 140737488355328) :
    Calls Try.prog 35 #[v] w fun e w' => ∃ v', e = .returned v' ∧ Made w v' bs w' := by
  obtain ⟨i0, hi, hz0, hz1, hz2⟩ := info_parts Try.infoU8
  have qT : ∀ (w : World) (a : Option Addr) (n c n' c' : Nat), (binOp .eql 27 (.slice a n c) (.slice none n' c')).run Try.prog w = .ok (.bool a.isNone) w := fun w a n c n' c' => Lib.run_eql_slice_nil w _ _ a n c n' c' Try.underlying27
  have hsee := (hs.kept ((Turn.refl (fun _ => False) w).alloc (.cells #[] 5)) (fun _ _ h => h))
  rcases hs with ⟨rfl, rfl⟩ | ⟨a, cap, rfl, hc, hm, hcell⟩
  · go_enter Try.func35, Try.ntmps35
    go_wp2
    go_ret
    exact ⟨_, rfl, Made.nil w⟩
  · clear hcell
    go_enter Try.func35, Try.ntmps35
    go_wp2_with (at_builtin; refine wpList_append_sees _ rfl (.tmp 5) (.tmp 6) 27 rfl i0 Try.underlying27 hi hz0 hz1 hz2 _ [] rfl (owns_empty w) _ bs rfl hsee (by simp only [List.length_nil]; omega) ?_)
    intro v' w' ho hg hk
    have hmade := Made.append ho hg hk
    obtain ⟨ao, c, rfl⟩ := ho.shape
    clear ho hg hk
    go_wp2
    go_ret
    exact ⟨_, rfl, hmade⟩

end Go.Proofs.Ytnojedjdnecagaa
