/- What stands below the proof, in one text. -/
import Derived.Test.YtnipdgigjcaolaaGreatRows
import Derived.Test.YtnipdgigjcaolaaGreatPkA
import Derived.Laws.BitsAllLaws
import Derived.Defers
import Derived.Recover
import Derived.Laws.LoneSync
import Derived.RegionCalls
import Derived.Laws.NewBlocks
import Derived.Deep.RegionWith
import Derived.Deep.DeepMust
import Derived.Test.YtnipdgigjcaolaaGreatPkC
/- What the eight bits of one byte come to: the program's word. -/
namespace Go.Proofs.YtnipdgigjcaolaaGreat
open Go.RowKit

theorem low_bit (x : Nat) (hx : x < 4294967296) : bits .and .u32 (x : Int) 1 = ((x % 2 : Nat) : Int) := by
  have := u32_and_nat x 1 hx (by omega)
  rw [nat_mask1] at this
  exact this

theorem cbit_odd (x : Nat) (hx : x < 4294967296) (h : x % 2 = 1) : bits .xor .u32 ((x : Int) / 2) 3988292384 = (cbit x : Int) := by
  have := u32_xor_nat (x / 2) 3988292384 (by omega) (by omega)
  unfold cbit
  rw [if_pos h]
  exact this

theorem cbit_plain (x : Nat) (h : ¬ x % 2 = 1) : (x : Int) / 2 = (cbit x : Int) := by
  unfold cbit
  rw [if_neg h]
  rfl

theorem not_u32 (x : Nat) (hx : x < 4294967296) : bits .xor .u32 4294967295 (x : Int) = ((4294967295 - x : Nat) : Int) := by
  show IntKind.u32.wrap ((BitVec.ofInt 32 4294967295 ^^^ BitVec.ofInt 32 (x : Int)).toNat : Int) = _
  have h1 : BitVec.ofInt 32 4294967295 = BitVec.allOnes 32 := by decide
  rw [h1, BitVec.allOnes_xor, BitVec.toNat_not, ofInt_u32 x hx, IntKind.wrap_u32']
  omega

set_option maxHeartbeats 400000 in
theorem word_any (c : Nat) (hc : c < 4294967296) (w : World) :
    Calls Tryz.prog 178 #[.int .u32 c] w fun e w' => e = .returned (.int .u32 (cword c)) ∧ w = w' := by
  go_enter Tryz.func178, Tryz.ntmps178
  go_wp2
  go_loop [0, 4, 3] (fun x i _ => ∃ (k : Nat), k ≤ 8 ∧ x = .int .u32 (cbits k c) ∧ i = .int .i64 k) (fun _ i _ => (8 - intOf i).toNat)
  case atStart => exact ⟨0, by omega, rfl, rfl⟩
  case round =>
    obtain ⟨k, hk, rfl, rfl⟩ := hrel
    have hlt := cbits_lt k c hc
    have hbit := low_bit (cbits k c) hlt
    by_cases hodd : cbits k c % 2 = 1
    · have hx := cbit_odd _ hlt hodd
      rw [← cbits_succ] at hx
      rw [hodd] at hbit
      go_wp2
      · refine ⟨⟨k + 1, by omega, rfl, by simp⟩, ?_⟩
        simp [intOf]
        omega
      · go_ret
        obtain rfl : k = 8 := by omega
        exact ⟨rfl, rfl⟩
    · have hx := cbit_plain _ hodd
      rw [← cbits_succ] at hx
      rw [show cbits k c % 2 = 0 by omega] at hbit
      go_wp2
      · refine ⟨⟨k + 1, by omega, rfl, by simp⟩, ?_⟩
        simp [intOf]
        omega
      · go_ret
        obtain rfl : k = 8 := by omega
        exact ⟨rfl, rfl⟩

end Go.Proofs.YtnipdgigjcaolaaGreat

/- What sync's and sync/atomic's calls do to memory, in one goroutine. -/
namespace Go.Proofs.YtnipdgigjcaolaaGreat
open Go.RowKit

theorem run_add64 {a : Addr} {x y s : Int} {w : World} (hc : w.cell? a = some (.int .i64 x)) (hz : w.frozen? a = false) (hs : wrap64 (x + y) = s) :
    (callFunc 184 #[.pointer (some a), .int .i64 y]).run Tryz.prog w = .ok (.value (.int .i64 s)) (w.setCell a (.int .i64 s)) :=
  run_call_add (P := Tryz.prog) Tryz.func184 (by kernel_rfl) (by kernel_rfl) (by kernel_rfl) .i64 (by kernel_rfl) (y := y) (s := s) hc hz (by subst hs; simp [go_sem, wrap64, IntKind.wrap_i64])

theorem disable (w : World) : (callFunc 189 #[]).run Tryz.prog w = .ok (.value (.tuple #[])) w := run_call_mark0 Tryz.func189 (by kernel_rfl) (by kernel_rfl) (by kernel_rfl) .disable (by kernel_rfl) w

theorem enable (w : World) : (callFunc 191 #[]).run Tryz.prog w = .ok (.value (.tuple #[])) w := run_call_mark0 Tryz.func191 (by kernel_rfl) (by kernel_rfl) (by kernel_rfl) .enable (by kernel_rfl) w

theorem acquire (a : Addr) (w : World) : (callFunc 192 #[.pointer (some a)]).run Tryz.prog w = .ok (.value (.tuple #[])) w := run_call_marked Tryz.func192 (by kernel_rfl) (by kernel_rfl) (by kernel_rfl) .acquire (by kernel_rfl) a w

theorem releaseMerge (a : Addr) (w : World) : (callFunc 194 #[.pointer (some a)]).run Tryz.prog w = .ok (.value (.tuple #[])) w := run_call_marked Tryz.func194 (by kernel_rfl) (by kernel_rfl) (by kernel_rfl) .releaseMerge (by kernel_rfl) a w

set_option maxRecDepth 100000 in
/-- A flag that is stored. -/
theorem boolStore_any (a : Addr) (x : Value) (w : World) (hc : w.cell? a = some x) (hz : w.frozen? a = false) :
    Calls Tryz.prog 183 #[.pointer (some a), .bool true] w fun e w' => e = .returned (.tuple #[]) ∧ w' = w.drew.setCell a (.int .u32 1) := by
  have hc' : w.drew.cell? a = some x := by go_simp
  have hz' : w.drew.frozen? a = false := by go_simp
  have hst := run_call_store (P := Tryz.prog) Tryz.func187 (by kernel_rfl) (by kernel_rfl) (by kernel_rfl) (by kernel_rfl) (k := .u32) (y := 1) hc' hz'
  go_enter Tryz.func183, Tryz.ntmps183
  go_wp2
  go_region_calls
  all_goals (go_end0; exact ⟨rfl, rfl⟩)

set_option maxRecDepth 100000 in
/-- A flag that is stored by a deferred call. -/
theorem store_deferred (a : Addr) (x : Value) (u : FrameMode) (w : World) (hc : w.cell? a = some x) (hz : w.frozen? a = false) :
    CallsD Tryz.prog 183 #[.pointer (some a), .bool true] u w fun e u' w' => u' = u ∧ (e = .returned (.tuple #[]) ∧ w' = w.drew.setCell a (.int .u32 1)) := by
  have hc' : w.drew.cell? a = some x := by go_simp
  have hz' : w.drew.frozen? a = false := by go_simp
  have hst := run_call_store (P := Tryz.prog) Tryz.func187 (by kernel_rfl) (by kernel_rfl) (by kernel_rfl) (by kernel_rfl) (k := .u32) (y := 1) hc' hz'
  go_enter_d Tryz.func183, Tryz.ntmps183
  go_wp2
  go_region_calls
  all_goals (go_end0; exact ⟨rfl, rfl⟩)

set_option maxRecDepth 100000 in
/-- A lock that nobody waits for is let go by a deferred call. -/
theorem unlock_deferred (a : Addr) (u : FrameMode) (w : World) (hc : w.cell? a = some (.int .i32 1)) (hz : w.frozen? a = false) :
    CallsD Tryz.prog 182 #[.pointer (some a)] u w fun e u' w' => u' = u ∧ (e = .returned (.tuple #[]) ∧ w' = w.setCell a (.int .i32 0)) := by
  have hd := disable
  have he := enable
  have hr := releaseMerge
  have hadd := run_call_add (P := Tryz.prog) Tryz.func195 (by kernel_rfl) (by kernel_rfl) (by kernel_rfl) .i32 (by kernel_rfl) (y := -1) (s := 0) hc hz (by simp [go_sem]; rfl)
  have hcv := run_convert_to_unsafe (P := Tryz.prog) (src := 250) (dst := 254) Tryz.underlying250 Tryz.underlying254 (by kernel_rfl) hc
  go_enter_d Tryz.func182, Tryz.ntmps182
  go_wp2
  go_end0
  go_wp2
  go_end0
  exact ⟨rfl, rfl⟩

set_option maxRecDepth 100000 in
/-- A lock that is free is taken. -/
theorem lock_free (a : Addr) (w : World) (hc : w.cell? a = some (.int .i32 0)) (hz : w.frozen? a = false) :
    Calls Tryz.prog 181 #[.pointer (some a)] w fun e w' => e = .returned (.tuple #[]) ∧ w' = w.setCell a (.int .i32 1) := by
  have hd := disable
  have he := enable
  have ha := acquire
  have hcas := run_call_cas_hit (P := Tryz.prog) Tryz.func190 (by kernel_rfl) (by kernel_rfl) (by kernel_rfl) .i32 (by kernel_rfl) (y := 1) hc hz
  have hc' : (w.setCell a (.int .i32 1)).cell? a = some (.int .i32 1) := World.cell?_setCell_same w a _ hc
  have hcv := run_convert_to_unsafe (P := Tryz.prog) (src := 250) (dst := 254) Tryz.underlying250 Tryz.underlying254 (by kernel_rfl) hc'
  go_enter Tryz.func181, Tryz.ntmps181
  go_wp2
  first | go_end0 | (simp only [Exit.inBlock, Exit.then]; refine bodyPost_ret (results_none rfl _ _ _) rfl ?_) | refine bodyPost_ret (results_none rfl _ _ _) rfl ?_
  go_wp2
  go_end0
  exact ⟨rfl, rfl⟩

set_option maxRecDepth 100000 in
theorem boolLoad_any (a : Addr) (d : Int) (w : World) (hc : w.cell? a = some (.int .u32 d)) :
    Calls Tryz.prog 176 #[.pointer (some a)] w fun e w' => e = .returned (.bool (d != 0)) ∧ w = w' := by
  have hl := run_call_load (P := Tryz.prog) Tryz.func180 (by kernel_rfl) (by kernel_rfl) (by kernel_rfl) .u32 (by kernel_rfl) hc
  go_enter Tryz.func176, Tryz.ntmps176
  go_wp2
  go_ret
  exact ⟨rfl, rfl⟩

theorem intAdd_any (a : Addr) (x n s : Int) (w : World) (hc : w.cell? a = some (.int .i64 x)) (hz : w.frozen? a = false) (hs : wrap64 (x + n) = s) :
    Calls Tryz.prog 179 #[.pointer (some a), .int .i64 n] w fun e w' => e = .returned (.int .i64 s) ∧ w' = w.setCell a (.int .i64 s) := by
  have hadd := run_add64 hc hz hs
  go_enter Tryz.func179, Tryz.ntmps179
  go_wp2
  go_ret
  exact ⟨rfl, rfl⟩

end Go.Proofs.YtnipdgigjcaolaaGreat

/- What the calls of package crc's Table do to memory. -/
namespace Go.Proofs.YtnipdgigjcaolaaGreat
open Go.RowKit

/-- The cells of a Table that was not used yet. -/
def zeroCells (n : Nat) : Array Value := (Value.int .u32 0 :: .int .i32 0 :: .int .u32 0 :: (List.replicate n (.int .u32 0) ++ [.int .i64 0])).toArray
def tabZero : Array Value := zeroCells 256

theorem zc_size (n : Nat) : (zeroCells n).size = n + 4 := by simp [zeroCells]
theorem zc_0 (n : Nat) : (zeroCells n)[0]? = some (.int .u32 0) := by simp [zeroCells]
theorem zc_1 (n : Nat) : (zeroCells n)[1]? = some (.int .i32 0) := by simp [zeroCells]
theorem zc_word (n i : Nat) (hi : i < n) : (zeroCells n)[3 + i]? = some (.int .u32 0) := by
  rw [show (3 : Nat) + i = i + 1 + 1 + 1 by omega]
  simp only [zeroCells, List.getElem?_toArray, List.getElem?_cons_succ]
  rw [List.getElem?_append_left (by simpa using hi)]
  simp [hi]
theorem zc_last (n : Nat) : (zeroCells n)[n + 3]? = some (.int .i64 0) := by
  simp [zeroCells]

/-- The cells of a Table: whether it is done, its lock, its words, how often they were made. -/
structure Is (cs : Array Value) (d l m : Int) (f : Nat → Nat) : Prop where
  size : cs.size = 260
  done : cs[0]? = some (.int .u32 d)
  lock : cs[1]? = some (.int .i32 l)
  word : ∀ i, i < 256 → cs[3 + i]? = some (.int .u32 (f i))
  made : cs[259]? = some (.int .i64 m)

theorem Is.setDone {cs : Array Value} {d l m : Int} {f : Nat → Nat} (h : Is cs d l m f) (d' : Int) : Is (cs.setIfInBounds 0 (.int .u32 d')) d' l m f := by
  have hs := h.size
  refine ⟨by simpa using hs, ?_, ?_, fun i hi => ?_, ?_⟩
  · rw [Array.getElem?_setIfInBounds_self_of_lt (by omega)]
  · rw [Array.getElem?_setIfInBounds_ne (by omega)]; exact h.lock
  · rw [Array.getElem?_setIfInBounds_ne (by omega)]; exact h.word i hi
  · rw [Array.getElem?_setIfInBounds_ne (by omega)]; exact h.made

theorem Is.setLock {cs : Array Value} {d l m : Int} {f : Nat → Nat} (h : Is cs d l m f) (l' : Int) : Is (cs.setIfInBounds 1 (.int .i32 l')) d l' m f := by
  have hs := h.size
  refine ⟨by simpa using hs, ?_, ?_, fun i hi => ?_, ?_⟩
  · rw [Array.getElem?_setIfInBounds_ne (by omega)]; exact h.done
  · rw [Array.getElem?_setIfInBounds_self_of_lt (by omega)]
  · rw [Array.getElem?_setIfInBounds_ne (by omega)]; exact h.word i hi
  · rw [Array.getElem?_setIfInBounds_ne (by omega)]; exact h.made

theorem Is.setMade {cs : Array Value} {d l m : Int} {f : Nat → Nat} (h : Is cs d l m f) (m' : Int) : Is (cs.setIfInBounds 259 (.int .i64 m')) d l m' f := by
  have hs := h.size
  refine ⟨by simpa using hs, ?_, ?_, fun i hi => ?_, ?_⟩
  · rw [Array.getElem?_setIfInBounds_ne (by omega)]; exact h.done
  · rw [Array.getElem?_setIfInBounds_ne (by omega)]; exact h.lock
  · rw [Array.getElem?_setIfInBounds_ne (by omega)]; exact h.word i hi
  · rw [Array.getElem?_setIfInBounds_self_of_lt (by omega)]

theorem Is.setWord {cs : Array Value} {d l m : Int} {f : Nat → Nat} (h : Is cs d l m f) (k : Nat) (hk : k < 256) (x : Nat) : Is (cs.setIfInBounds (3 + k) (.int .u32 x)) d l m (fun i => if i = k then x else f i) := by
  have hs := h.size
  refine ⟨by simpa using hs, ?_, ?_, fun i hi => ?_, ?_⟩
  · rw [Array.getElem?_setIfInBounds_ne (by omega)]; exact h.done
  · rw [Array.getElem?_setIfInBounds_ne (by omega)]; exact h.lock
  · by_cases e : i = k
    · subst e
      rw [Array.getElem?_setIfInBounds_self_of_lt (by omega), if_pos rfl]
    · rw [Array.getElem?_setIfInBounds_ne (by omega), if_neg e]; exact h.word i hi
  · rw [Array.getElem?_setIfInBounds_ne (by omega)]; exact h.made

theorem Is.zero : Is tabZero 0 0 0 (fun _ => 0) := ⟨zc_size 256, zc_0 256, zc_1 256, fun i hi => zc_word 256 i hi, zc_last 256⟩

/-- A Table in block b, at rest: used already, or not. -/
structure Tab (w : World) (b : Nat) (used : Bool) : Prop where
  cells : ∃ cs f, At 207 w b cs ∧ Is cs (if used then 1 else 0) 0 (if used then 1 else 0) f ∧ (used = true → ∀ i, i < 256 → f i = cword i)

theorem Tab.lt {w : World} {b : Nat} {u : Bool} (h : Tab w b u) : b < w.heap.size := by
  obtain ⟨cs, f, h, _⟩ := h.cells
  exact h.lt

theorem Tab.kept {S : Nat → Prop} {w w' : World} {b : Nat} {u : Bool} (h : Tab w b u) (ht : Turn S w w') (hs : ¬ S b) : Tab w' b u := by
  obtain ⟨cs, f, h1, h2, h3⟩ := h.cells
  exact ⟨cs, f, h1.kept ht hs, h2, h3⟩

theorem Tab.new (w : World) : Tab (w.alloc (.cells tabZero 207)) w.heap.size false :=
  ⟨tabZero, fun _ => 0, At.new _ _ _, Is.zero, fun h => by cases h⟩

theorem run_zero_table (w : World) : (zeroValue 207).run Tryz.prog w = .ok (.agg tabZero) w := by
  have h : (Tryz.prog.info? 207).map (·.zero) = some (some (.agg tabZero)) := by kernel_rfl
  obtain ⟨i, hi, hz⟩ := Option.map_eq_some_iff.1 h
  simp [zeroValue, typeInfo, Sem.run_bind, go_sem, hi, hz]

set_option maxHeartbeats 400000 in
theorem new_any (w : World) : Calls Tryz.prog 107 #[] w fun e w' => e = .returned (.pointer (some ⟨w.heap.size, 0, none⟩)) ∧ w' = w.alloc (.cells tabZero 207) := by
  have hz := run_zero_table
  go_enter Tryz.func107, Tryz.ntmps107
  go_wp2
  go_ret
  exact ⟨rfl, rfl⟩

/-- A Table in block b, within its making. -/
structure Mid (w : World) (b : Nat) (d l m : Int) (k : Nat) : Prop where
  cells : ∃ cs f, At 207 w b cs ∧ Is cs d l m f ∧ ∀ i, i < k → f i = cword i

theorem Mid.lt {w : World} {b : Nat} {d l m : Int} {k : Nat} (h : Mid w b d l m k) : b < w.heap.size := by
  obtain ⟨cs, f, h, _⟩ := h.cells
  exact h.lt
theorem Mid.frozen {w : World} {b : Nat} {d l m : Int} {k : Nat} (h : Mid w b d l m k) (j : Nat) : w.frozen? ⟨b, j, none⟩ = false := by
  obtain ⟨cs, f, h, _⟩ := h.cells
  exact h.frozen j
theorem Mid.done {w : World} {b : Nat} {d l m : Int} {k : Nat} (h : Mid w b d l m k) : w.cell? ⟨b, 0, none⟩ = some (.int .u32 d) := by
  obtain ⟨cs, f, h, h2, _⟩ := h.cells
  rw [h.cell]; exact h2.done
theorem Mid.lock {w : World} {b : Nat} {d l m : Int} {k : Nat} (h : Mid w b d l m k) : w.cell? ⟨b, 1, none⟩ = some (.int .i32 l) := by
  obtain ⟨cs, f, h, h2, _⟩ := h.cells
  rw [h.cell]; exact h2.lock
theorem Mid.made {w : World} {b : Nat} {d l m : Int} {k : Nat} (h : Mid w b d l m k) : w.cell? ⟨b, 259, none⟩ = some (.int .i64 m) := by
  obtain ⟨cs, f, h, h2, _⟩ := h.cells
  rw [h.cell]; exact h2.made
theorem Mid.word {w : World} {b : Nat} {d l m : Int} {k : Nat} (h : Mid w b d l m k) (i : Nat) (hi : i < k) (hi' : i < 256) : w.cell? ⟨b, 3 + i, none⟩ = some (.int .u32 (cword i)) := by
  obtain ⟨cs, f, h, h2, h3⟩ := h.cells
  rw [h.cell, h2.word i hi', h3 i hi]
theorem Mid.some {w : World} {b : Nat} {d l m : Int} {k : Nat} (h : Mid w b d l m k) (i : Nat) (hi' : i < 256) : ∃ x : Nat, w.cell? ⟨b, 3 + i, none⟩ = some (.int .u32 x) := by
  obtain ⟨cs, f, h, h2, h3⟩ := h.cells
  exact ⟨f i, by rw [h.cell, h2.word i hi']⟩
theorem Mid.setDone {w : World} {b : Nat} {d l m : Int} {k : Nat} (h : Mid w b d l m k) (d' : Int) : Mid (w.setCell ⟨b, 0, none⟩ (.int .u32 d')) b d' l m k := by
  obtain ⟨cs, f, h, h2, h3⟩ := h.cells
  exact ⟨_, f, h.set 0 _, h2.setDone d', h3⟩
theorem Mid.setLock {w : World} {b : Nat} {d l m : Int} {k : Nat} (h : Mid w b d l m k) (l' : Int) : Mid (w.setCell ⟨b, 1, none⟩ (.int .i32 l')) b d l' m k := by
  obtain ⟨cs, f, h, h2, h3⟩ := h.cells
  exact ⟨_, f, h.set 1 _, h2.setLock l', h3⟩
theorem Mid.setMade {w : World} {b : Nat} {d l m : Int} {k : Nat} (h : Mid w b d l m k) (m' : Int) : Mid (w.setCell ⟨b, 259, none⟩ (.int .i64 m')) b d l m' k := by
  obtain ⟨cs, f, h, h2, h3⟩ := h.cells
  exact ⟨_, f, h.set 259 _, h2.setMade m', h3⟩
theorem Mid.setWord {w : World} {b : Nat} {d l m : Int} {k : Nat} (h : Mid w b d l m k) (hk : k < 256) : Mid (w.setCell ⟨b, 3 + k, none⟩ (.int .u32 (cword k))) b d l m (k + 1) := by
  obtain ⟨cs, f, h, h2, h3⟩ := h.cells
  refine ⟨_, _, h.set (3 + k) _, h2.setWord k hk (cword k), fun i hi => ?_⟩
  by_cases e : i = k
  · simp [e]
  · simp only [e, if_false]
    exact h3 i (by omega)
theorem Mid.drew {w : World} {b : Nat} {d l m : Int} {k : Nat} (h : Mid w b d l m k) : Mid w.drew b d l m k := by
  obtain ⟨cs, f, h, h2, h3⟩ := h.cells
  exact ⟨cs, f, h, h2, h3⟩

theorem run_conv_u32 (k : Nat) (hk : k < 4294967296) (w : World) : (convert 3 88 (.int .i64 k)).run Tryz.prog w = .ok (.int .u32 k) w := by
  have hk' : Tryz.prog.intKind 88 = .u32 := by kernel_rfl
  rw [run_convert_int w 3 88 .i64 k (by rw [Tryz.underlying3]; rfl) (by rw [hk']; exact Tryz.underlying88), hk', IntKind.wrap_u32', Int.emod_eq_of_lt (by omega) (by omega)]

set_option maxHeartbeats 1000000 in
set_option maxRecDepth 100000 in
theorem fill_any (b : Nat) (d l : Int) (w : World) (h : Mid w b d l 0 0) :
    Calls Tryz.prog 173 #[.pointer (some ⟨b, 0, none⟩)] w fun e w' => e = .returned (.tuple #[]) ∧ Mid w' b d l 1 256 ∧ Turn (fun k => k = b) w w' := by
  go_enter Tryz.func173, Tryz.ntmps173
  go_wp2
  go_loopw [2, 3] (fun _ i w1 => ∃ (k : Nat), k ≤ 256 ∧ i = .int .i64 k ∧ Mid w1 b d l 0 k ∧ Turn (fun j => j = b) w w1) (fun _ i _ => (256 - intOf i).toNat)
  case atStart => exact ⟨0, by omega, rfl, h, Turn.refl _ _⟩
  case round =>
    obtain ⟨k, hk, rfl, hm, ht⟩ := hrel
    by_cases hlt : k < 256
    · obtain ⟨x, hx⟩ := hm.some k hlt
      have hx1 : wr.drew.cell? ⟨b, 3 + k, none⟩ = some (.int .u32 x) := hx
      have hf1 : wr.drew.frozen? ⟨b, 3 + k, none⟩ = false := hm.frozen _
      have hcv := run_conv_u32 k (by omega)
      go_wp2_with fail
      go_region_with (go_at_call 178; go_must (refine (word_any k (by omega) _).mono ?_; rintro e w' ⟨rfl, rfl⟩))
      all_goals (
        have hm1 := (hm.setWord hlt).drew
        have ht1 : Turn (fun j => j = b) w (wr.setCell ⟨b, 3 + k, none⟩ (.int .u32 (cword k))).drew := (ht.setCell (p := ⟨b, 3 + k, none⟩) (.inl rfl) _).drew
        go_wp2
        go_roundw
        case rel => exact ⟨k + 1, by omega, by go_num, hm1, ht1⟩
        case measure => simp [intOf]; omega)
    · obtain rfl : k = 256 := by omega
      have hadd := run_add64 (y := 1) (s := 1) hm.made (hm.frozen _) (by unfold wrap64; omega)
      have hm1 := hm.setMade 1
      have ht1 : Turn (fun j => j = b) w (wr.setCell ⟨b, 259, none⟩ (.int .i64 1)) := ht.setCell (p := ⟨b, 259, none⟩) (.inl rfl) _
      go_wp2
      go_end0
      exact ⟨rfl, hm1, ht1⟩

end Go.Proofs.YtnipdgigjcaolaaGreat

/- A Table's table is made once: its Once, its Sum, its Made. -/
namespace Go.Proofs.YtnipdgigjcaolaaGreat
open Go.RowKit

set_option maxRecDepth 100000 in
set_option maxHeartbeats 1600000 in
/-- The slow road of a Table's Once. -/
theorem slow_any (b : Nat) (w : World) (h : Mid w b 0 0 0 0) :
    Calls Tryz.prog 177 #[.pointer (some ⟨b, 0, none⟩), .func (.func 173) #[.pointer (some ⟨b, 0, none⟩)] #[]] w fun e w' => e = .returned (.tuple #[]) ∧ Mid w' b 1 0 1 256 ∧ Turn (fun k => k = b) w w' := by
  have hnot : ∀ (x : Bool) (w : World), (Op.unary .not (.bool x)).run Tryz.prog w = .ok (.bool (!x)) w := fun _ _ => rfl
  go_enter_defers Tryz.func177, Tryz.ntmps177
  go_wp2_with fail
  refine (lock_free ⟨b, 1, none⟩ _ h.lock (h.frozen _)).mono ?_
  rintro e w1 ⟨rfl, e1⟩
  have h1 : Mid w1 b 0 1 0 0 := e1 ▸ h.setLock 1
  have t1 : Turn (fun k => k = b) w w1 := e1 ▸ (Turn.refl (fun k => k = b) w).setCell (p := ⟨b, 1, none⟩) (.inl rfl) _
  clear e1 h
  go_wp2_with fail
  refine (boolLoad_any ⟨b, 0, none⟩ 0 _ h1.done).mono ?_
  rintro e w2 ⟨rfl, rfl⟩
  go_wp2_with fail
  refine (fill_any b 0 1 _ h1).mono ?_
  rintro e w3 ⟨rfl, h3, t3⟩
  have t4 := t1.trans t3
  clear t3 h1 t1
  go_wp2
  refine leaves_cons (f := 183) (args := #[.pointer (some ⟨b, 0, none⟩), .bool true]) (by simp) (by simp [go_sem]) ?_
  refine (store_deferred ⟨b, 0, none⟩ (.int .u32 0) .returning _ h3.done (h3.frozen _)).mono ?_
  rintro e u' w5 ⟨rfl, rfl, e5⟩
  have h5 : Mid w5 b 1 1 1 256 := e5 ▸ h3.drew.setDone 1
  have t5 : Turn (fun k => k = b) w w5 := e5 ▸ t4.drew.setCell (p := ⟨b, 0, none⟩) (.inl rfl) _
  clear e5
  refine leaves_cons (f := 182) (args := #[.pointer (some ⟨b, 1, none⟩)]) (by simp [settle]) (by simp [go_sem]) ?_
  refine (unlock_deferred ⟨b, 1, none⟩ _ _ h5.lock (h5.frozen _)).mono ?_
  rintro e u' w6 ⟨rfl, rfl, e6⟩
  have h6 : Mid w6 b 1 0 1 256 := e6 ▸ h5.setLock 0
  have t6 : Turn (fun k => k = b) w w6 := e6 ▸ t5.setCell (p := ⟨b, 1, none⟩) (.inl rfl) _
  exact ⟨_, results_none rfl _ _ _, rfl, h6, t6⟩

theorem Tab.mid {w : World} {b : Nat} (h : Tab w b false) : Mid w b 0 0 0 0 := by
  obtain ⟨cs, f, h1, h2, h3⟩ := h.cells
  exact ⟨cs, f, h1, h2, fun i hi => by omega⟩
theorem Tab.whole {w : World} {b : Nat} (h : Tab w b true) : Mid w b 1 0 1 256 := by
  obtain ⟨cs, f, h1, h2, h3⟩ := h.cells
  exact ⟨cs, f, h1, h2, fun i hi => h3 rfl i hi⟩
theorem Mid.tab {w : World} {b : Nat} (h : Mid w b 1 0 1 256) : Tab w b true := by
  obtain ⟨cs, f, h1, h2, h3⟩ := h.cells
  exact ⟨cs, f, h1, h2, fun _ i hi => h3 i hi⟩

set_option maxRecDepth 100000 in
set_option maxHeartbeats 1600000 in
/-- A Table's Once, whether it is done or not. -/
theorem do_any (b : Nat) (used : Bool) (w : World) (h : Tab w b used) :
    Calls Tryz.prog 172 #[.pointer (some ⟨b, 0, none⟩), .func (.func 173) #[.pointer (some ⟨b, 0, none⟩)] #[]] w fun e w' => e = .returned (.tuple #[]) ∧ Tab w' b true ∧ Turn (fun k => k = b) w w' := by
  have hnot : ∀ (x : Bool) (w : World), (Op.unary .not (.bool x)).run Tryz.prog w = .ok (.bool (!x)) w := fun _ _ => rfl
  cases used with
  | true =>
    have hd := h.whole.done
    go_enter Tryz.func172, Tryz.ntmps172
    go_wp2_with fail
    refine (boolLoad_any ⟨b, 0, none⟩ 1 _ hd).mono ?_
    rintro e w2 ⟨rfl, rfl⟩
    go_wp2
    go_end0
    exact ⟨rfl, h, Turn.refl _ _⟩
  | false =>
    have hd := h.mid.done
    go_enter Tryz.func172, Tryz.ntmps172
    go_wp2_with fail
    refine (boolLoad_any ⟨b, 0, none⟩ 0 _ hd).mono ?_
    rintro e w2 ⟨rfl, rfl⟩
    go_wp2_with fail
    refine (slow_any b _ h.mid).mono ?_
    rintro e w3 ⟨rfl, h3, t3⟩
    go_wp2
    go_end0
    exact ⟨rfl, h3.tab, t3⟩

/-- A Table's Once that is done turns nothing. -/
theorem do_again (b : Nat) (w : World) (h : Tab w b true) (f : Value) :
    Calls Tryz.prog 172 #[.pointer (some ⟨b, 0, none⟩), f] w fun e w' => e = .returned (.tuple #[]) ∧ w = w' := by
  have hnot : ∀ (x : Bool) (w : World), (Op.unary .not (.bool x)).run Tryz.prog w = .ok (.bool (!x)) w := fun _ _ => rfl
  have hd := h.whole.done
  go_enter Tryz.func172, Tryz.ntmps172
  go_wp2_with fail
  refine (boolLoad_any ⟨b, 0, none⟩ 1 _ hd).mono ?_
  rintro e w2 ⟨rfl, rfl⟩
  go_wp2
  go_end0
  exact ⟨rfl, rfl⟩

end Go.Proofs.YtnipdgigjcaolaaGreat

/- A Table's Sum, and the plain sum, bit by bit. -/
namespace Go.Proofs.YtnipdgigjcaolaaGreat
open Go.RowKit

theorem take_snoc (bs : List UInt8) (k : Nat) (hk : k < bs.length) : bs.take (k + 1) = bs.take k ++ [bs[k]] := by
  rw [List.take_add_one, List.getElem?_eq_getElem hk]
  rfl

/-- One byte by the table, as the walk spells it. -/
theorem by_table (c : Nat) (x : UInt8) (hc : c < 4294967296) : ∃ z : Nat, z < 256 ∧ bits .xor .u8 ((c : Int) % 256) (x.toNat : Int) = (z : Int) ∧ bits .xor .u32 (cword z : Int) ((c : Int) / 256) = (cstep c x : Int) := by
  have hb := byte_lt x
  refine ⟨(c % 256) ^^^ x.toNat, ?_, ?_, ?_⟩
  · exact Nat.xor_lt_two_pow (n := 8) (by omega) hb
  · exact u8_xor_nat (c % 256) x.toNat (by omega) hb
  · rw [cstep_table]
    exact u32_xor_nat _ (c / 256) (cword_lt _ (by have := Nat.xor_lt_two_pow (n := 8) (show c % 256 < 2 ^ 8 by omega) (show x.toNat < 2 ^ 8 by omega); omega)) (by omega)

set_option maxHeartbeats 1000000 in
set_option maxRecDepth 100000 in
theorem sum_of (R : World → Prop) (b : Nat) (v : Value) (bs : List UInt8) (w : World)
    (hdo : Calls Tryz.prog 172 #[.pointer (some ⟨b, 0, none⟩), .func (.func 173) #[.pointer (some ⟨b, 0, none⟩)] #[]] w fun e w' => e = .returned (.tuple #[]) ∧ Tab w' b true ∧ Turn (fun k => k = b) w w' ∧ R w')
    (hs : Sees w v bs) (hsl : 0 < bs.length → slab v ≠ some b) :
    Calls Tryz.prog 163 #[.pointer (some ⟨b, 0, none⟩), v] w fun e w' => e = .returned (.int .u32 (csum bs)) ∧ R w' := by
  have hdo := hide hdo
  have hlen := hs.len
  unfold maxLen at hlen
  have hmf : ∀ (fn : Fn) (first cap : Array Value) (w : World), (Instr.makeFunc fn first cap).run Tryz.prog w = .ok (.func fn first cap) w := fun _ _ _ _ => rfl
  obtain ⟨ao, cap, rfl⟩ := hs.shape
  go_enter Tryz.func163, Tryz.ntmps163
  go_wp2_with fail
  refine (unhide hdo).mono ?_
  clear hdo
  rintro e w1 ⟨rfl, h1, t1, hR⟩
  have hs1 : Sees w1 (.slice ao bs.length cap) bs := hs.kept' t1 (fun h0 k hk e => hsl h0 (e ▸ hk))
  go_wp2_with fail
  go_loop [5, 7, 18] (fun c _ i => ∃ k : Nat, k ≤ bs.length ∧ c = .int .u32 (crun 4294967295 (bs.take k)) ∧ i = .int .i64 k) (fun _ _ i => (bs.length - intOf i).toNat)
  case atStart => exact ⟨0, by omega, rfl, rfl⟩
  case round =>
    obtain ⟨k, hk, rfl, rfl⟩ := hrel
    have hc := crun_lt 4294967295 (bs.take k) (by omega)
    by_cases hlt : k < bs.length
    · obtain ⟨z, hz, e1, e2⟩ := by_table _ bs[k] hc
      rw [← crun_snoc, ← take_snoc bs k hlt] at e2
      have hw := h1.whole.word z hz hz
      rcases hs1 with ⟨h0, h0'⟩ | ⟨a, cap', e, _, _, hcell⟩
      · subst h0'
        simp at hlt
      · simp only [Value.slice.injEq, true_and] at e
        obtain ⟨rfl, rfl⟩ := e
        have hb : w1.cell? (a.add k) = some (.int .u8 (bs[k].toNat : Int)) := hcell k _ (by simp [u8s, hlt])
        clear hcell
        generalize crun 4294967295 (bs.take k) = c at *
        generalize hc' : crun 4294967295 (bs.take (k + 1)) = c' at *
        have Hc := hide hc'
        clear hc'
        go_wp2
        exact ⟨⟨k + 1, by omega, by rw [unhide Hc], by go_num⟩, by simp [intOf]; omega⟩
    · obtain rfl : k = bs.length := by omega
      rw [List.take_length] at hc ⊢
      have hn : bits .xor .u32 IntKind.u32.max (crun 4294967295 bs : Int) = ((4294967295 - crun 4294967295 bs : Nat) : Int) := not_u32 _ hc
      have hcs : Hid (csum bs = 4294967295 - crun 4294967295 bs) := rfl
      generalize crun 4294967295 bs = c at *
      go_wp2
      go_ret
      exact ⟨by rw [unhide hcs, ← hn]; rfl, hR⟩

theorem sum_any (b : Nat) (v : Value) (bs : List UInt8) (used : Bool) (w : World) (h : Tab w b used) (hs : Sees w v bs) (hsl : 0 < bs.length → slab v ≠ some b) :
    Calls Tryz.prog 163 #[.pointer (some ⟨b, 0, none⟩), v] w fun e w' => e = .returned (.int .u32 (csum bs)) ∧ Tab w' b true ∧ Turn (fun k => k = b) w w' :=
  sum_of (fun w' => Tab w' b true ∧ Turn (fun k => k = b) w w') b v bs w ((do_any b used w h).mono fun _ _ h => ⟨h.1, h.2.1, h.2.2, h.2⟩) hs hsl

/-- A Table that was used already is not turned by a Sum. -/
theorem sum_again (b : Nat) (v : Value) (bs : List UInt8) (w : World) (h : Tab w b true) (hs : Sees w v bs) (hsl : 0 < bs.length → slab v ≠ some b) :
    Calls Tryz.prog 163 #[.pointer (some ⟨b, 0, none⟩), v] w fun e w' => e = .returned (.int .u32 (csum bs)) ∧ w = w' :=
  sum_of (fun w' => w = w') b v bs w ((do_again b w h _).mono fun _ w' h' => by obtain ⟨h1, rfl⟩ := h'; exact ⟨h1, h, Turn.refl _ _, rfl⟩) hs hsl

/-- One byte bit by bit, as the walk spells it. -/
theorem goes_in (c : Nat) (x : UInt8) (hc : c < 4294967296) : ∃ y : Nat, y < 4294967296 ∧ bits .xor .u32 (c : Int) ((x.toNat : Int) % 4294967296) = (y : Int) ∧ cstep c x = cbits 8 y := by
  have hb := byte_lt x
  rw [Int.emod_eq_of_lt (by omega) (by omega)]
  exact ⟨c ^^^ x.toNat, xor_lt _ _ hc (by omega), u32_xor_nat _ _ hc (by omega), rfl⟩

set_option maxHeartbeats 1000000 in
set_option maxRecDepth 100000 in
theorem refSum_any (v : Value) (bs : List UInt8) (w : World) (hs : Sees w v bs) :
    Calls Tryz.prog 49 #[v] w fun e w' => e = .returned (.int .u32 (csum bs)) ∧ w = w' := by
  have hlen := hs.len
  unfold maxLen at hlen
  obtain ⟨ao, cap, rfl⟩ := hs.shape
  go_enter Tryz.func49, Tryz.ntmps49
  go_wp2_with fail
  go_loop [3, 4, 5, 6] (fun c i _ _ => ∃ k : Nat, k ≤ bs.length ∧ c = .int .u32 (crun 4294967295 (bs.take k)) ∧ i = .int .i64 k) (fun _ i _ _ => (bs.length - intOf i).toNat)
  case atStart => exact ⟨0, by omega, rfl, rfl⟩
  case round =>
    obtain ⟨k, hk, rfl, rfl⟩ := hrel
    have hc := crun_lt 4294967295 (bs.take k) (by omega)
    by_cases hlt : k < bs.length
    · obtain ⟨y, hy, e1, e2⟩ := goes_in _ bs[k] hc
      rw [← crun_snoc, ← take_snoc bs k hlt] at e2
      have Hc := hide e2
      clear e2
      rcases hs with ⟨h0, h0'⟩ | ⟨a, cap', e, _, _, hcell⟩
      · subst h0'
        simp at hlt
      · simp only [Value.slice.injEq, true_and] at e
        obtain ⟨rfl, rfl⟩ := e
        have hb : w.cell? (a.add k) = some (.int .u8 (bs[k].toNat : Int)) := hcell k _ (by simp [u8s, hlt])
        clear hcell
        generalize crun 4294967295 (bs.take k) = c at *
        go_wp2_with fail
        go_loop [3, 5, 6] (fun c j _ => ∃ m : Nat, m ≤ 8 ∧ c = .int .u32 (cbits m y) ∧ j = .int .i64 m) (fun _ j _ => (8 - intOf j).toNat)
        case atStart => exact ⟨0, by omega, rfl, rfl⟩
        case round =>
          obtain ⟨m, hm, rfl, rfl⟩ := hrel
          have hlt8 := cbits_lt m y hy
          have hbit := low_bit (cbits m y) hlt8
          by_cases hm8 : m < 8
          · by_cases hodd : cbits m y % 2 = 1
            · have hx := cbit_odd _ hlt8 hodd
              rw [← cbits_succ] at hx
              rw [hodd] at hbit
              go_wp2
              refine ⟨⟨m + 1, by omega, rfl, by simp⟩, ?_⟩
              simp [intOf]
              omega
            · have hx := cbit_plain _ hodd
              rw [← cbits_succ] at hx
              rw [show cbits m y % 2 = 0 by omega] at hbit
              go_wp2
              refine ⟨⟨m + 1, by omega, rfl, by simp⟩, ?_⟩
              simp [intOf]
              omega
          · obtain rfl : m = 8 := by omega
            clear hbit
            generalize cbits 8 y = c8 at *
            go_wp2
            exact ⟨⟨k + 1, by omega, by rw [unhide Hc], by go_num⟩, by simp [intOf]; omega⟩
    · obtain rfl : k = bs.length := by omega
      rw [List.take_length] at hc ⊢
      have hn : bits .xor .u32 IntKind.u32.max (crun 4294967295 bs : Int) = ((4294967295 - crun 4294967295 bs : Nat) : Int) := not_u32 _ hc
      have hcs : Hid (csum bs = 4294967295 - crun 4294967295 bs) := rfl
      generalize crun 4294967295 bs = c at *
      go_wp2
      go_ret
      exact ⟨by rw [unhide hcs, ← hn]; rfl, rfl⟩

end Go.Proofs.YtnipdgigjcaolaaGreat

/- The closed sentence of chapter 2: its walk. -/
namespace Go.Proofs.YtnipdgigjcaolaaGreat
open Go.RowKit

/-- A Table of the law's own, beyond B, and nothing else turned. -/
structure Own (w w' : World) (b : Nat) (used : Bool) : Prop where
  tab : Tab w' b used
  turn : Turn (fun _ => False) w w'
  new : w.heap.size ≤ b

theorem Own.start (w : World) : Own w (w.alloc (.cells tabZero 207)) w.heap.size false := ⟨Tab.new w, (Turn.refl _ _).alloc _, Nat.le_refl _⟩

theorem Own.sum {w w1 w2 : World} {b : Nat} {u : Bool} (h : Own w w1 b u) (h2 : Tab w2 b true) (t : Turn (fun k => k = b) w1 w2) : Own w w2 b true :=
  ⟨h2, h.turn.trans' t (fun i hi e => by have := h.new; omega), h.new⟩

theorem Own.goes {w w1 w2 : World} {b : Nat} {u : Bool} (h : Own w w1 b u) (t : Turn (fun _ => False) w1 w2) : Own w w2 b u :=
  ⟨h.tab.kept t (fun h => h), h.turn.trans t, h.new⟩

end Go.Proofs.YtnipdgigjcaolaaGreat
