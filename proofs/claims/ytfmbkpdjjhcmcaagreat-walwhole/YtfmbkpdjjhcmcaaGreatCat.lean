/- What slices.Grow, slices.Concat and bytes.Clone do to memory. -/
import Derived.Test.YtfmbkpdjjhcmcaaGreatHand
import Derived.Lib.AppendZeros
import Derived.Lib.SliceRun
namespace Go.Proofs.YtfmbkpdjjhcmcaaGreat
open Go.RowKit

theorem Made.nil (w : World) : Made w (.slice none 0 0) [] w := ⟨Owns.nil _, Turn.refl _ _, fun k hk => by simp [Value.ownBlock] at hk⟩

theorem made_zeros (w : World) (n : Nat) (h : n ≤ maxLen) :
    Made w (.slice (some ⟨w.heap.size, 0, none⟩) 0 (grownCap w n 0 5)) [] (w.drew.alloc (.cells (Builtin.zeroCells (Value.int .u8 0).cells n ++ Builtin.zeroCells (Value.int .u8 0).cells (grownCap w n 0 5 - n)) 5)) := by
  have h1 := grownCap_ge w n 0 5
  have h2 := grownCap_le_maxLen w n 0 5 h
  refine ⟨World.ownsRow_made w.drew _ _ (Nat.zero_le _) h2 ?_, (Turn.refl _ _).drew.alloc _, fun k hk => by simp [Value.ownBlock] at hk; omega⟩
  rw [Array.size_append, size_zeroCells, size_zeroCells]
  show n * 1 + (grownCap w n 0 5 - n) * 1 = _
  omega

set_option maxHeartbeats 400000 in
set_option maxRecDepth 100000 in
theorem grow_any (n : Nat) (w : World) (hn : n ≤ 140737488355328) :
    Calls Tryz.prog 103 #[.slice none 0 0, .int .i64 n] w fun e w' => ∃ v, e = .returned v ∧ Made w v [] w' := by
  obtain ⟨i0, hi, hz0, hz1, hz2⟩ := info_parts Tryz.infoU8
  by_cases h0 : n = 0
  · subst h0
    go_enter Tryz.func103, Tryz.ntmps103
    go_wp2
    go_ret
    exact ⟨_, rfl, Made.nil w⟩
  · have hr := fun ty => Lib.run_append_nil_zeros (P := Tryz.prog) w 31 3 ty 5 i0 (.int .u8 0) .i64 .i64 Tryz.underlying31 Tryz.underlying3 hi hz0 n (by omega) (by omega) (by omega) (by rw [hz2]; omega)
    have hm := hide (made_zeros w n (by unfold maxLen; omega))
    have hge := grownCap_ge w n 0 5
    have hle := grownCap_le_maxLen w n 0 5 (by unfold maxLen; omega)
    unfold maxLen at hle
    generalize grownCap w n 0 5 = cap at *
    have hp : (0 : Int) < n := by omega
    go_enter Tryz.func103, Tryz.ntmps103
    go_wp2_with (at_builtin; refine Lib.wpList_append_run _ rfl _ _ _ _ rfl _ _ rfl rfl _ _ (hr _) ?_)
    go_wp2
    go_ret
    exact ⟨_, rfl, unhide hm⟩

/-- Lists one behind the other. -/
def cat (l : List (Value × List UInt8)) : List UInt8 := (l.map (·.2)).flatten

theorem cat_snoc (l : List (Value × List UInt8)) (k : Nat) (hk : k < l.length) : cat (l.take (k + 1)) = cat (l.take k) ++ l[k].2 := by
  unfold cat
  rw [List.take_succ_eq_append_getElem hk, List.map_append, List.flatten_append]
  simp

theorem cat_le (l : List (Value × List UInt8)) (k : Nat) : (cat (l.take k)).length ≤ (cat l).length := by
  have h : cat l = cat (l.take k) ++ cat (l.drop k) := by
    unfold cat
    rw [← List.flatten_append, ← List.map_append, List.take_append_drop]
  rw [h, List.length_append]
  omega

theorem Made.more {w w1 w2 : World} {v1 v2 : Value} {bs ds : List UInt8} (h : Made w v1 bs w1) (ho : Owns w2 v2 (bs ++ ds)) (hg : w1.grownBy w2 v1.ownBlock) (hk : v2.ownBlock = v1.ownBlock ∨ v2.ownBlock = some w1.heap.size) : Made w v2 (bs ++ ds) w2 := by
  refine ⟨ho, h.2.1.grown hg (fun k hk => .inr (h.2.2 k hk)), fun k e => ?_⟩
  rcases hk with hk | hk
  · exact h.2.2 k (hk ▸ e)
  · rw [hk] at e
    injection e with e
    have := h.2.1.size
    omega

set_option maxHeartbeats 1000000 in
set_option maxRecDepth 100000 in
theorem concat_any (a : Addr) (cap : Nat) (l : List (Value × List UInt8)) (w : World) (hm : l.length ≤ maxLen) (hc : ∀ k (hk : k < l.length), w.cell? (a.add k) = some l[k].1 ∧ Sees w l[k].1 l[k].2) (hn : (cat l).length ≤ 140737488355328) :
    Calls Tryz.prog 94 #[.slice (some a) l.length cap] w fun e w' => ∃ v, e = .returned v ∧ Made w v (cat l) w' := by
  obtain ⟨i0, hi, hz0, hz1, hz2⟩ := info_parts Tryz.infoU8
  unfold maxLen at hm
  have Hc := hide hc
  clear hc
  go_enter Tryz.func94, Tryz.ntmps94
  go_wp2_with fail
  go_loop [3, 5, 11] (fun sz _ i => ∃ k : Nat, k ≤ l.length ∧ sz = .int .i64 (cat (l.take k)).length ∧ i = .int .i64 k) (fun _ _ i => (l.length - intOf i).toNat)
  case atStart => exact ⟨0, by omega, rfl, rfl⟩
  case round =>
    obtain ⟨k, hk, rfl, rfl⟩ := hrel
    by_cases hlt : k < l.length
    · have hle := cat_le l (k + 1)
      have hsn := cat_snoc l k hlt
      obtain ⟨c0, hs0⟩ := unhide Hc k hlt
      obtain ⟨ao, cp, e0⟩ := hs0.shape
      rw [e0] at c0
      have hsn' := congrArg List.length hsn
      rw [List.length_append] at hsn'
      have H := hide hsn'
      generalize hn1 : (cat (l.take (k + 1))).length = n1 at *
      have Hn1 := hide hn1
      clear hn1
      generalize (cat (l.take k)).length = n0 at *
      generalize l[k].2.length = n2 at *
      clear hs0 e0 hsn hsn'
      have hb : n0 + n2 ≤ 140737488355328 := by have := unhide H; omega
      go_wp2
      exact ⟨⟨k + 1, by omega, by rw [unhide Hn1, unhide H]; go_num, by go_num⟩, by simp [intOf]; omega⟩
    · obtain rfl : k = l.length := by omega
      rw [List.take_length]
      go_wp2_with fail
      refine (grow_any (cat l).length w hn).mono ?_
      rintro e w1 ⟨v1, rfl, h1⟩
      obtain ⟨ao1, cp1, rfl⟩ := h1.1.shape
      go_wp2_with fail
      go_loopw [6, 8, 27] (fun ns _ i w2 => ∃ k : Nat, k ≤ l.length ∧ i = .int .i64 k ∧ Made w ns (cat (l.take k)) w2) (fun _ _ i _ => (l.length - intOf i).toNat)
      case atStart => exact ⟨0, by omega, rfl, h1⟩
      case round =>
        obtain ⟨k, hk, rfl, hmd⟩ := hrel
        by_cases hlt : k < l.length
        · have hle := cat_le l (k + 1)
          have hsn := cat_snoc l k hlt
          obtain ⟨c0, hs0⟩ := unhide Hc k hlt
          have hs1 := hs0.kept hmd.2.1 (fun _ _ h => h)
          have c1 := (hmd.2.1.cell (World.block_lt_of_cell? _ _ c0) (fun h => h)).trans c0
          obtain ⟨ao, cp, e0⟩ := hs0.shape
          rw [e0] at c1 hs1
          have Hsn := hide hsn
          clear hs0 c0 e0
          have hbd : (cat (l.take k)).length + l[k].2.length ≤ 140737488355328 := by
            have := congrArg List.length hsn
            rw [List.length_append] at this
            omega
          clear hsn
          obtain ⟨ao2, cp2, e2⟩ := hmd.1.shape
          subst e2
          generalize cat (l.take k) = xs at *
          generalize l[k].2 = ds at *
          go_wp2_with (at_builtin; refine wpList_append_sees _ rfl _ _ 31 rfl i0 Tryz.underlying31 hi hz0 hz1 hz2 _ xs rfl hmd.1 _ ds rfl hs1 hbd ?_)
          intro v' w' ho hg hkk
          have hmd' := hmd.more ho hg hkk
          rw [← unhide Hsn] at hmd'
          obtain ⟨ao3, cp3, rfl⟩ := ho.shape
          clear ho hg hkk hmd
          go_wp2
          go_roundw
          case rel => exact ⟨k + 1, by omega, by go_num, hmd'⟩
          case measure => simp [intOf]; omega
        · obtain rfl : k = l.length := by omega
          rw [List.take_length] at hmd
          obtain ⟨ao2, cp2, e2⟩ := hmd.1.shape
          subst e2
          go_wp2
          go_ret
          exact ⟨_, rfl, hmd⟩

set_option maxHeartbeats 400000 in
set_option maxRecDepth 100000 in
theorem clone_any (v : Value) (bs : List UInt8) (w : World) (hs : Sees w v bs) (hb : bs.length ≤ 140737488355328) :
    Calls Tryz.prog 57 #[v] w fun e w' => ∃ v', e = .returned v' ∧ Made w v' bs w' := by
  obtain ⟨i0, hi, hz0, hz1, hz2⟩ := info_parts Tryz.infoU8
  have qT : ∀ (w : World) (a : Option Addr) (n c n' c' : Nat), (binOp .eql 31 (.slice a n c) (.slice none n' c')).run Tryz.prog w = .ok (.bool a.isNone) w := fun w a n c n' c' => Lib.run_eql_slice_nil w _ _ a n c n' c' Tryz.underlying31
  have hsee := (hs.kept ((Turn.refl (fun _ => False) w).alloc (.cells #[] 5)) (fun _ _ h => h))
  rcases hs with ⟨rfl, rfl⟩ | ⟨a, cap, rfl, hc, hm, hcell⟩
  · go_enter Tryz.func57, Tryz.ntmps57
    go_wp2
    go_ret
    exact ⟨_, rfl, Made.nil w⟩
  · clear hcell
    go_enter Tryz.func57, Tryz.ntmps57
    go_wp2_with (at_builtin; refine wpList_append_sees _ rfl (.tmp 5) (.tmp 6) 31 rfl i0 Tryz.underlying31 hi hz0 hz1 hz2 _ [] rfl (owns_empty w) _ bs rfl hsee (by simp only [List.length_nil]; omega) ?_)
    intro v' w' ho hg hk
    have hmade := Made.append ho hg hk
    obtain ⟨ao, c, rfl⟩ := ho.shape
    clear ho hg hk
    go_wp2
    go_ret
    exact ⟨_, rfl, hmade⟩

end Go.Proofs.YtfmbkpdjjhcmcaaGreat
