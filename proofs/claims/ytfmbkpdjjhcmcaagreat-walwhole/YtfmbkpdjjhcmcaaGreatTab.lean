/- What the calls of package crc's Table do to memory. -/
import Derived.Test.YtfmbkpdjjhcmcaaGreatWord
import Derived.Test.YtfmbkpdjjhcmcaaGreatSync
import Derived.Laws.NewBlocks
import Derived.Deep.RegionWith
import Derived.Deep.DeepMust
namespace Go.Proofs.YtfmbkpdjjhcmcaaGreat
open Go.RowKit

/-- The cells of a Table that was not used yet. -/
def zeroCells (n : Nat) : Array Value := (Value.int .u32 0 :: .int .i32 0 :: .int .u32 0 :: (List.replicate n (.int .u32 0) ++ [.int .i64 0])).toArray
def tabZero : Array Value := zeroCells 256

theorem zc_size (n : Nat) : (zeroCells n).size = n + 4 := by simp [zeroCells]
theorem zc_0 (n : Nat) : (zeroCells n)[0]? = some (.int .u32 0) := by simp [zeroCells]
theorem zc_1 (n : Nat) : (zeroCells n)[1]? = some (.int .i32 0) := by simp [zeroCells]
theorem zc_word (n i : Nat) (hi : i < n) : (zeroCells n)[3 + i]? = some (.int .u32 0) := by
  rw [show (3 : Nat) + i = i + 1 + 1 + 1 by omega]
  simp only [zeroCells, List.getElem?_toArray, List.getElem?_cons_succ]
  rw [List.getElem?_append_left (by simpa using hi)]
  simp [hi]
theorem zc_last (n : Nat) : (zeroCells n)[n + 3]? = some (.int .i64 0) := by
  simp [zeroCells]

/-- The cells of a Table: whether it is done, its lock, its words, how often they were made. -/
structure Is (cs : Array Value) (d l m : Int) (f : Nat → Nat) : Prop where
  size : cs.size = 260
  done : cs[0]? = some (.int .u32 d)
  lock : cs[1]? = some (.int .i32 l)
  word : ∀ i, i < 256 → cs[3 + i]? = some (.int .u32 (f i))
  made : cs[259]? = some (.int .i64 m)

theorem Is.setDone {cs : Array Value} {d l m : Int} {f : Nat → Nat} (h : Is cs d l m f) (d' : Int) : Is (cs.setIfInBounds 0 (.int .u32 d')) d' l m f := by
  have hs := h.size
  refine ⟨by simpa using hs, ?_, ?_, fun i hi => ?_, ?_⟩
  · rw [Array.getElem?_setIfInBounds_self_of_lt (by omega)]
  · rw [Array.getElem?_setIfInBounds_ne (by omega)]; exact h.lock
  · rw [Array.getElem?_setIfInBounds_ne (by omega)]; exact h.word i hi
  · rw [Array.getElem?_setIfInBounds_ne (by omega)]; exact h.made

theorem Is.setLock {cs : Array Value} {d l m : Int} {f : Nat → Nat} (h : Is cs d l m f) (l' : Int) : Is (cs.setIfInBounds 1 (.int .i32 l')) d l' m f := by
  have hs := h.size
  refine ⟨by simpa using hs, ?_, ?_, fun i hi => ?_, ?_⟩
  · rw [Array.getElem?_setIfInBounds_ne (by omega)]; exact h.done
  · rw [Array.getElem?_setIfInBounds_self_of_lt (by omega)]
  · rw [Array.getElem?_setIfInBounds_ne (by omega)]; exact h.word i hi
  · rw [Array.getElem?_setIfInBounds_ne (by omega)]; exact h.made

theorem Is.setMade {cs : Array Value} {d l m : Int} {f : Nat → Nat} (h : Is cs d l m f) (m' : Int) : Is (cs.setIfInBounds 259 (.int .i64 m')) d l m' f := by
  have hs := h.size
  refine ⟨by simpa using hs, ?_, ?_, fun i hi => ?_, ?_⟩
  · rw [Array.getElem?_setIfInBounds_ne (by omega)]; exact h.done
  · rw [Array.getElem?_setIfInBounds_ne (by omega)]; exact h.lock
  · rw [Array.getElem?_setIfInBounds_ne (by omega)]; exact h.word i hi
  · rw [Array.getElem?_setIfInBounds_self_of_lt (by omega)]

theorem Is.setWord {cs : Array Value} {d l m : Int} {f : Nat → Nat} (h : Is cs d l m f) (k : Nat) (hk : k < 256) (x : Nat) : Is (cs.setIfInBounds (3 + k) (.int .u32 x)) d l m (fun i => if i = k then x else f i) := by
  have hs := h.size
  refine ⟨by simpa using hs, ?_, ?_, fun i hi => ?_, ?_⟩
  · rw [Array.getElem?_setIfInBounds_ne (by omega)]; exact h.done
  · rw [Array.getElem?_setIfInBounds_ne (by omega)]; exact h.lock
  · by_cases e : i = k
    · subst e
      rw [Array.getElem?_setIfInBounds_self_of_lt (by omega), if_pos rfl]
    · rw [Array.getElem?_setIfInBounds_ne (by omega), if_neg e]; exact h.word i hi
  · rw [Array.getElem?_setIfInBounds_ne (by omega)]; exact h.made

theorem Is.zero : Is tabZero 0 0 0 (fun _ => 0) := ⟨zc_size 256, zc_0 256, zc_1 256, fun i hi => zc_word 256 i hi, zc_last 256⟩

/-- A Table in block b, at rest: used already, or not. -/
structure Tab (w : World) (b : Nat) (used : Bool) : Prop where
  cells : ∃ cs f, At 136 w b cs ∧ Is cs (if used then 1 else 0) 0 (if used then 1 else 0) f ∧ (used = true → ∀ i, i < 256 → f i = cword i)

theorem Tab.lt {w : World} {b : Nat} {u : Bool} (h : Tab w b u) : b < w.heap.size := by
  obtain ⟨cs, f, h, _⟩ := h.cells
  exact h.lt

theorem Tab.kept {S : Nat → Prop} {w w' : World} {b : Nat} {u : Bool} (h : Tab w b u) (ht : Turn S w w') (hs : ¬ S b) : Tab w' b u := by
  obtain ⟨cs, f, h1, h2, h3⟩ := h.cells
  exact ⟨cs, f, h1.kept ht hs, h2, h3⟩

theorem Tab.new (w : World) : Tab (w.alloc (.cells tabZero 136)) w.heap.size false :=
  ⟨tabZero, fun _ => 0, At.new _ _ _, Is.zero, fun h => by cases h⟩

theorem run_zero_table (w : World) : (zeroValue 136).run Tryz.prog w = .ok (.agg tabZero) w := by
  have h : (Tryz.prog.info? 136).map (·.zero) = some (some (.agg tabZero)) := by kernel_rfl
  obtain ⟨i, hi, hz⟩ := Option.map_eq_some_iff.1 h
  simp [zeroValue, typeInfo, Sem.run_bind, go_sem, hi, hz]

set_option maxHeartbeats 400000 in
theorem new_any (w : World) : Calls Tryz.prog 54 #[] w fun e w' => e = .returned (.pointer (some ⟨w.heap.size, 0, none⟩)) ∧ w' = w.alloc (.cells tabZero 136) := by
  have hz := run_zero_table
  go_enter Tryz.func54, Tryz.ntmps54
  go_wp2
  go_ret
  exact ⟨rfl, rfl⟩

/-- A Table in block b, within its making. -/
structure Mid (w : World) (b : Nat) (d l m : Int) (k : Nat) : Prop where
  cells : ∃ cs f, At 136 w b cs ∧ Is cs d l m f ∧ ∀ i, i < k → f i = cword i

theorem Mid.lt {w : World} {b : Nat} {d l m : Int} {k : Nat} (h : Mid w b d l m k) : b < w.heap.size := by
  obtain ⟨cs, f, h, _⟩ := h.cells
  exact h.lt
theorem Mid.frozen {w : World} {b : Nat} {d l m : Int} {k : Nat} (h : Mid w b d l m k) (j : Nat) : w.frozen? ⟨b, j, none⟩ = false := by
  obtain ⟨cs, f, h, _⟩ := h.cells
  exact h.frozen j
theorem Mid.done {w : World} {b : Nat} {d l m : Int} {k : Nat} (h : Mid w b d l m k) : w.cell? ⟨b, 0, none⟩ = some (.int .u32 d) := by
  obtain ⟨cs, f, h, h2, _⟩ := h.cells
  rw [h.cell]; exact h2.done
theorem Mid.lock {w : World} {b : Nat} {d l m : Int} {k : Nat} (h : Mid w b d l m k) : w.cell? ⟨b, 1, none⟩ = some (.int .i32 l) := by
  obtain ⟨cs, f, h, h2, _⟩ := h.cells
  rw [h.cell]; exact h2.lock
theorem Mid.made {w : World} {b : Nat} {d l m : Int} {k : Nat} (h : Mid w b d l m k) : w.cell? ⟨b, 259, none⟩ = some (.int .i64 m) := by
  obtain ⟨cs, f, h, h2, _⟩ := h.cells
  rw [h.cell]; exact h2.made
theorem Mid.word {w : World} {b : Nat} {d l m : Int} {k : Nat} (h : Mid w b d l m k) (i : Nat) (hi : i < k) (hi' : i < 256) : w.cell? ⟨b, 3 + i, none⟩ = some (.int .u32 (cword i)) := by
  obtain ⟨cs, f, h, h2, h3⟩ := h.cells
  rw [h.cell, h2.word i hi', h3 i hi]
theorem Mid.some {w : World} {b : Nat} {d l m : Int} {k : Nat} (h : Mid w b d l m k) (i : Nat) (hi' : i < 256) : ∃ x : Nat, w.cell? ⟨b, 3 + i, none⟩ = some (.int .u32 x) := by
  obtain ⟨cs, f, h, h2, h3⟩ := h.cells
  exact ⟨f i, by rw [h.cell, h2.word i hi']⟩
theorem Mid.setDone {w : World} {b : Nat} {d l m : Int} {k : Nat} (h : Mid w b d l m k) (d' : Int) : Mid (w.setCell ⟨b, 0, none⟩ (.int .u32 d')) b d' l m k := by
  obtain ⟨cs, f, h, h2, h3⟩ := h.cells
  exact ⟨_, f, h.set 0 _, h2.setDone d', h3⟩
theorem Mid.setLock {w : World} {b : Nat} {d l m : Int} {k : Nat} (h : Mid w b d l m k) (l' : Int) : Mid (w.setCell ⟨b, 1, none⟩ (.int .i32 l')) b d l' m k := by
  obtain ⟨cs, f, h, h2, h3⟩ := h.cells
  exact ⟨_, f, h.set 1 _, h2.setLock l', h3⟩
theorem Mid.setMade {w : World} {b : Nat} {d l m : Int} {k : Nat} (h : Mid w b d l m k) (m' : Int) : Mid (w.setCell ⟨b, 259, none⟩ (.int .i64 m')) b d l m' k := by
  obtain ⟨cs, f, h, h2, h3⟩ := h.cells
  exact ⟨_, f, h.set 259 _, h2.setMade m', h3⟩
theorem Mid.setWord {w : World} {b : Nat} {d l m : Int} {k : Nat} (h : Mid w b d l m k) (hk : k < 256) : Mid (w.setCell ⟨b, 3 + k, none⟩ (.int .u32 (cword k))) b d l m (k + 1) := by
  obtain ⟨cs, f, h, h2, h3⟩ := h.cells
  refine ⟨_, _, h.set (3 + k) _, h2.setWord k hk (cword k), fun i hi => ?_⟩
  by_cases e : i = k
  · simp [e]
  · simp only [e, if_false]
    exact h3 i (by omega)
theorem Mid.drew {w : World} {b : Nat} {d l m : Int} {k : Nat} (h : Mid w b d l m k) : Mid w.drew b d l m k := by
  obtain ⟨cs, f, h, h2, h3⟩ := h.cells
  exact ⟨cs, f, h, h2, h3⟩

theorem run_conv_u32 (k : Nat) (hk : k < 4294967296) (w : World) : (convert 3 83 (.int .i64 k)).run Tryz.prog w = .ok (.int .u32 k) w := by
  have hk' : Tryz.prog.intKind 83 = .u32 := by kernel_rfl
  rw [run_convert_int w 3 83 .i64 k (by rw [Tryz.underlying3]; rfl) (by rw [hk']; exact Tryz.underlying83), hk', IntKind.wrap_u32', Int.emod_eq_of_lt (by omega) (by omega)]

set_option maxHeartbeats 1000000 in
set_option maxRecDepth 100000 in
theorem fill_any (b : Nat) (d l : Int) (w : World) (h : Mid w b d l 0 0) :
    Calls Tryz.prog 102 #[.pointer (some ⟨b, 0, none⟩)] w fun e w' => e = .returned (.tuple #[]) ∧ Mid w' b d l 1 256 ∧ Turn (fun k => k = b) w w' := by
  go_enter Tryz.func102, Tryz.ntmps102
  go_wp2
  go_loopw [2, 3] (fun _ i w1 => ∃ (k : Nat), k ≤ 256 ∧ i = .int .i64 k ∧ Mid w1 b d l 0 k ∧ Turn (fun j => j = b) w w1) (fun _ i _ => (256 - intOf i).toNat)
  case atStart => exact ⟨0, by omega, rfl, h, Turn.refl _ _⟩
  case round =>
    obtain ⟨k, hk, rfl, hm, ht⟩ := hrel
    by_cases hlt : k < 256
    · obtain ⟨x, hx⟩ := hm.some k hlt
      have hx1 : wr.drew.cell? ⟨b, 3 + k, none⟩ = some (.int .u32 x) := hx
      have hf1 : wr.drew.frozen? ⟨b, 3 + k, none⟩ = false := hm.frozen _
      have hcv := run_conv_u32 k (by omega)
      go_wp2_with fail
      go_region_with (go_at_call 108; go_must (refine (word_any k (by omega) _).mono ?_; rintro e w' ⟨rfl, rfl⟩))
      all_goals (
        have hm1 := (hm.setWord hlt).drew
        have ht1 : Turn (fun j => j = b) w (wr.setCell ⟨b, 3 + k, none⟩ (.int .u32 (cword k))).drew := (ht.setCell (p := ⟨b, 3 + k, none⟩) (.inl rfl) _).drew
        go_wp2
        go_roundw
        case rel => exact ⟨k + 1, by omega, by go_num, hm1, ht1⟩
        case measure => simp [intOf]; omega)
    · obtain rfl : k = 256 := by omega
      have hadd := run_add64 (y := 1) (s := 1) hm.made (hm.frozen _) (by unfold wrap64; omega)
      have hm1 := hm.setMade 1
      have ht1 : Turn (fun j => j = b) w (wr.setCell ⟨b, 259, none⟩ (.int .i64 1)) := ht.setCell (p := ⟨b, 259, none⟩) (.inl rfl) _
      go_wp2
      go_end0
      exact ⟨rfl, hm1, ht1⟩

end Go.Proofs.YtfmbkpdjjhcmcaaGreat
