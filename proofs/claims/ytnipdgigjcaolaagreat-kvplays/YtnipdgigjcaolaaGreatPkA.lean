/- What stands below the proof, in one text. -/
import Derived.WalkKit
import Derived.WalkSpells
import Derived.WalkLawsBesides
import Derived.Laws.IdiomStrings
import Derived.Test.YtnipdgigjcaolaaGreatRows
import Derived.Maps.AppendAt
import Derived.Deep.RegionLaw
import Derived.Deep.AppendSrc
import Derived.Lib.Overlaps
import Derived.Lib.AppendZerosOnto
/- Bytes in memory: what a slice of bytes shows, what a call may turn, and one law of append for both, whatever the program. -/
namespace Go.Proofs.YtnipdgigjcaolaaGreat
open Go.RowKit

theorem hide {p : Prop} (h : p) : Hid p := h
theorem unhide {p : Prop} (h : Hid p) : p := h

/-- Bytes as cells. -/
def u8s (bs : List UInt8) : List Value := bs.map fun b => Value.int .u8 (b.toNat : Int)

theorem u8s_length (bs : List UInt8) : (u8s bs).length = bs.length := by simp [u8s]
theorem u8s_append (a b : List UInt8) : u8s (a ++ b) = u8s a ++ u8s b := by simp [u8s]
theorem u8s_one {u : Value} {bs : List UInt8} (h : u ∈ u8s bs) : u.oneCell' = true := by
  obtain ⟨b, _, rfl⟩ := List.mem_map.1 h
  rfl

/-- What a slice of bytes shows in a world. -/
def Sees (w : World) (v : Value) (bs : List UInt8) : Prop :=
  (v = .slice none 0 0 ∧ bs = []) ∨
  ∃ a cap, v = .slice (some a) bs.length cap ∧ bs.length ≤ cap ∧ cap ≤ maxLen ∧ ∀ j u, (u8s bs)[j]? = some u → w.cell? (a.add j) = some u

/-- A world that has turned in the blocks of S alone, and grown. -/
structure Turn (S : Nat → Prop) (w w' : World) : Prop where
  os : w'.os = w.os
  tape : w'.tape = w.tape
  output : w'.output = w.output
  size : w.heap.size ≤ w'.heap.size
  block : ∀ k, k < w.heap.size → ¬ S k → w'.heap[k]? = w.heap[k]?

theorem Turn.refl (S : Nat → Prop) (w : World) : Turn S w w := ⟨rfl, rfl, rfl, Nat.le_refl _, fun _ _ _ => rfl⟩

theorem Turn.trans {S : Nat → Prop} {a b c : World} (h : Turn S a b) (k : Turn S b c) : Turn S a c :=
  ⟨k.os.trans h.os, k.tape.trans h.tape, k.output.trans h.output, Nat.le_trans h.size k.size, fun i hi hs => (k.block i (Nat.lt_of_lt_of_le hi h.size) hs).trans (h.block i hi hs)⟩

/-- The second step may turn what was not there at the first. -/
theorem Turn.trans' {S S' : Nat → Prop} {a b c : World} (h : Turn S a b) (k : Turn S' b c) (hS : ∀ i, i < a.heap.size → S' i → S i) : Turn S a c :=
  ⟨k.os.trans h.os, k.tape.trans h.tape, k.output.trans h.output, Nat.le_trans h.size k.size, fun i hi hs => (k.block i (Nat.lt_of_lt_of_le hi h.size) (fun h' => hs (hS i hi h'))).trans (h.block i hi hs)⟩

theorem Turn.mono {S S' : Nat → Prop} {a b : World} (h : Turn S a b) (hS : ∀ i, i < a.heap.size → S i → S' i) : Turn S' a b :=
  ⟨h.os, h.tape, h.output, h.size, fun i hi hs => h.block i hi (fun h' => hs (hS i hi h'))⟩

theorem Turn.alloc {S : Nat → Prop} {a w : World} (h : Turn S a w) (o : Obj) : Turn S a (w.alloc o) :=
  h.trans ⟨rfl, rfl, rfl, by simp, fun k hk _ => Below.heap_alloc _ _ _ hk⟩

theorem Turn.drew {S : Nat → Prop} {a w : World} (h : Turn S a w) : Turn S a w.drew := ⟨h.os, h.tape, h.output, h.size, h.block⟩

theorem Turn.setCell {S : Nat → Prop} {a w : World} (h : Turn S a w) {p : Addr} (hp : S p.block ∨ a.heap.size ≤ p.block) (u : Value) : Turn S a (w.setCell p u) := by
  refine ⟨h.os, h.tape, h.output, by simpa [World.setCell] using h.size, fun k hk hs => ?_⟩
  rw [Below.heap_setCell _ _ _ _ (by rintro rfl; exact hp.elim hs (fun h' => by omega))]
  exact h.block k hk hs

theorem Turn.grown {S : Nat → Prop} {a w w' : World} {row : Option Nat} (h : Turn S a w) (hg : w.grownBy w' row) (hr : ∀ k, row = some k → S k ∨ a.heap.size ≤ k) : Turn S a w' :=
  ⟨hg.os.trans h.os, hg.tape.trans h.tape, hg.output.trans h.output, Nat.le_trans h.size hg.size, fun k hk hs =>
    (hg.block k (Nat.lt_of_lt_of_le hk h.size) (fun e => (hr k e.symm).elim hs (fun h' => by omega))).trans (h.block k hk hs)⟩

theorem Turn.below {S : Nat → Prop} {w w' : World} (h : Turn S w w') {B : Nat} (hB : B ≤ w.heap.size) (hS : ∀ k, k < B → ¬ S k) : Below B w w' :=
  ⟨h.os, h.tape, h.output, h.size, fun k hk => h.block k (by omega) (hS k hk)⟩

theorem Turn.cell {S : Nat → Prop} {w w' : World} (h : Turn S w w') {p : Addr} (hp : p.block < w.heap.size) (hs : ¬ S p.block) : w'.cell? p = w.cell? p := World.cell?_of_block (h.block _ hp hs)
theorem Turn.frozen {S : Nat → Prop} {w w' : World} (h : Turn S w w') {p : Addr} (hp : p.block < w.heap.size) (hs : ¬ S p.block) : w'.frozen? p = w.frozen? p := World.frozen?_of_block (h.block _ hp hs)

/-- The block in which a slice's bytes lie. -/
def slab : Value → Option Nat
  | .slice (some a) _ _ => some a.block
  | _ => none

theorem addr_add_block (a : Addr) (j : Nat) : (a.add j).block = a.block := by unfold Addr.add; split <;> rfl

theorem Sees.kept {S : Nat → Prop} {w w' : World} {v : Value} {bs : List UInt8} (h : Sees w v bs) (ht : Turn S w w') (hs : ∀ k, slab v = some k → ¬ S k) : Sees w' v bs := by
  rcases h with h | ⟨a, cap, rfl, hc, hm, hcell⟩
  · exact .inl h
  · refine .inr ⟨a, cap, rfl, hc, hm, fun j u hj => ?_⟩
    have h1 := hcell j u hj
    have hlt := World.block_lt_of_cell? _ _ h1
    rw [ht.cell hlt (by rw [addr_add_block]; exact hs _ rfl)]
    exact h1

theorem Sees.below {B : Nat} {w w' : World} {v : Value} {bs : List UInt8} (h : Sees w v bs) (hs : 0 < bs.length → ∀ k, slab v = some k → k < B) (hb : Below B w w') : Sees w' v bs := by
  rcases h with h | ⟨a, cap, rfl, hc, hm, hcell⟩
  · exact .inl h
  · refine .inr ⟨a, cap, rfl, hc, hm, fun j u hj => ?_⟩
    have hpos : 0 < bs.length := by
      have := (List.getElem?_eq_some_iff.1 hj).1
      rw [u8s_length] at this
      omega
    rw [hb.cell (by rw [addr_add_block]; exact hs hpos _ rfl)]
    exact hcell j u hj

theorem Sees.kept' {S : Nat → Prop} {w w' : World} {v : Value} {bs : List UInt8} (h : Sees w v bs) (ht : Turn S w w') (hs : 0 < bs.length → ∀ k, slab v = some k → ¬ S k) : Sees w' v bs := by
  by_cases h0 : 0 < bs.length
  · exact h.kept ht (hs h0)
  · rcases h with h | ⟨a, cap, rfl, hc, hm, hcell⟩
    · exact .inl h
    · refine .inr ⟨a, cap, rfl, hc, hm, fun j u hj => ?_⟩
      have := (List.getElem?_eq_some_iff.1 hj).1
      rw [u8s_length] at this
      omega

theorem Sees.nil (w : World) : Sees w (.slice none 0 0) [] := .inl ⟨rfl, rfl⟩

theorem Sees.len {w : World} {v : Value} {bs : List UInt8} (h : Sees w v bs) : bs.length ≤ maxLen := by
  rcases h with ⟨_, rfl⟩ | ⟨_, _, _, h1, h2, _⟩
  · simp [maxLen]
  · omega

theorem Sees.lit (w : World) (bs : List UInt8) (T : TypeId) (h : bs.length ≤ maxLen) : Sees (w.alloc (.cells (u8s bs).toArray T)) (.slice (some ⟨w.heap.size, 0, none⟩) bs.length bs.length) bs :=
  .inr ⟨_, _, rfl, Nat.le_refl _, h, fun j u hj => by
    rw [show (⟨w.heap.size, 0, none⟩ : Addr).add j = ⟨w.heap.size, j, none⟩ by unfold Addr.add; split <;> simp_all]
    rw [cell_of_row _ w.heap.size j _ T (0, 0) (heap_alloc_new w _)]
    simpa using hj⟩

theorem Sees.one (w : World) (x : Int) (T : TypeId) (h0 : 0 ≤ x) (h1 : x < 256) : Sees (w.alloc (.cells #[.int .u8 x] T)) (.slice (some ⟨w.heap.size, 0, none⟩) 1 1) [UInt8.ofNat x.toNat] := by
  have h := Sees.lit w [UInt8.ofNat x.toNat] T (by simp [maxLen])
  have e : u8s [UInt8.ofNat x.toNat] = [.int .u8 x] := by
    simp only [u8s, List.map_cons, List.map_nil]
    congr 2
    rw [UInt8.toNat_ofNat']
    omega
  rw [e] at h
  exact h

/-- A slice of bytes that the calls made, wholly their own. -/
def Owns (w : World) (v : Value) (bs : List UInt8) : Prop := w.ownsRow 0 5 1 v bs.length (u8s bs)

theorem Owns.nil (w : World) : Owns w (.slice none 0 0) [] := World.ownsRow_nil w 0 5 1

theorem Owns.sees {w : World} {v : Value} {bs : List UInt8} (h : Owns w v bs) : Sees w v bs := by
  have hc := fun g hg => World.ownsRow.cells h (g := g) hg
  rcases h.2 with ⟨rfl, hn⟩ | ⟨g, cap, cur, rfl, _, hg, hn, hm, hs, ht⟩
  · exact .inl ⟨rfl, List.eq_nil_of_length_eq_zero hn⟩
  · exact .inr ⟨⟨g, 0, none⟩, cap, rfl, hn, hm, hc g rfl⟩

theorem Owns.slab_eq {w : World} {v : Value} {bs : List UInt8} (h : Owns w v bs) : slab v = v.ownBlock := by
  rcases h.2 with ⟨rfl, hn⟩ | ⟨g, cap, cur, rfl, _⟩ <;> rfl

theorem Owns.lt {w : World} {v : Value} {bs : List UInt8} (h : Owns w v bs) {k : Nat} (hk : v.ownBlock = some k) : k < w.heap.size := (World.ownsRow.lt h k hk).2

theorem Owns.kept {S : Nat → Prop} {w w' : World} {v : Value} {bs : List UInt8} (h : Owns w v bs) (ht : Turn S w w') (hs : ∀ k, v.ownBlock = some k → ¬ S k) : Owns w' v bs := by
  refine ⟨h.1, ?_⟩
  rcases h.2 with hn | ⟨g, cap, cur, rfl, hb, hgg, rest⟩
  · exact .inl hn
  · refine .inr ⟨g, cap, cur, rfl, hb, ?_, rest⟩
    rw [ht.block g (Array.getElem?_eq_some_iff.1 hgg).1 (hs g rfl)]
    exact hgg

theorem Owns.solid {w : World} {v : Value} {bs : List UInt8} (h : Owns w v bs) (h0 : 0 < bs.length) : ∃ g cap, v = .slice (some ⟨g, 0, none⟩) bs.length cap := by
  rcases h.2 with ⟨rfl, hn⟩ | ⟨g, cap, cur, rfl, _⟩
  · omega
  · exact ⟨_, _, rfl⟩

theorem Owns.shape {w : World} {v : Value} {bs : List UInt8} (h : Owns w v bs) : ∃ ao cap, v = .slice ao bs.length cap := by
  rcases h.2 with ⟨rfl, hn⟩ | ⟨g, cap, cur, rfl, _⟩
  · exact ⟨none, 0, by rw [hn]⟩
  · exact ⟨_, _, rfl⟩

theorem Sees.shape {w : World} {v : Value} {bs : List UInt8} (h : Sees w v bs) : ∃ ao cap, v = .slice ao bs.length cap := by
  rcases h with ⟨rfl, rfl⟩ | ⟨a, cap, rfl, _⟩
  · exact ⟨none, 0, rfl⟩
  · exact ⟨_, _, rfl⟩

/-- A struct of type T at the head of block b, with these cells, free to be written. -/
def At (T : TypeId) (w : World) (b : Nat) (cs : Array Value) : Prop := w.heap[b]? = some (.cells cs T (0, 0))

theorem At.lt {T : TypeId} {w : World} {b : Nat} {cs : Array Value} (h : At T w b cs) : b < w.heap.size := (Array.getElem?_eq_some_iff.1 h).1
theorem At.cell {T : TypeId} {w : World} {b : Nat} {cs : Array Value} (h : At T w b cs) (j : Nat) : w.cell? ⟨b, j, none⟩ = cs[j]? := cell_of_row w b j cs T (0, 0) h
theorem At.frozen {T : TypeId} {w : World} {b : Nat} {cs : Array Value} (h : At T w b cs) (j : Nat) : w.frozen? ⟨b, j, none⟩ = false := frozen_of_row w b j cs T h
theorem At.kept {S : Nat → Prop} {T : TypeId} {w w' : World} {b : Nat} {cs : Array Value} (h : At T w b cs) (ht : Turn S w w') (hs : ¬ S b) : At T w' b cs := (ht.block b h.lt hs).trans h
theorem At.set {T : TypeId} {w : World} {b : Nat} {cs : Array Value} (h : At T w b cs) (j : Nat) (u : Value) : At T (w.setCell ⟨b, j, none⟩ u) b (cs.setIfInBounds j u) := heap_setCell_same w b j cs T u h
theorem At.new (T : TypeId) (w : World) (cs : Array Value) : At T (w.alloc (.cells cs T)) w.heap.size cs := heap_alloc_new w _

/-- A Writer, of type T, in block b: v is its field, bs its bytes. -/
def WAt (T : TypeId) (w : World) (b : Nat) (v : Value) (bs : List UInt8) : Prop := At T w b #[v] ∧ Owns w v bs ∧ v.ownBlock ≠ some b

/-- A Reader, of type T, in block b: v is its field of bytes, bs what is left, lack whether it lacks. -/
def RAt (T : TypeId) (w : World) (b : Nat) (v : Value) (bs : List UInt8) (lack : Bool) : Prop := At T w b #[v, .bool lack] ∧ Sees w v bs ∧ slab v ≠ some b

theorem RAt.kept {S : Nat → Prop} {T : TypeId} {b : Nat} {w w' : World} {v : Value} {bs : List UInt8} {lack : Bool} (h : RAt T w b v bs lack) (ht : Turn S w w') (h1 : ¬ S b) (h2 : ∀ k, slab v = some k → ¬ S k) : RAt T w' b v bs lack :=
  ⟨h.1.kept ht h1, h.2.1.kept ht h2, h.2.2⟩

/-- The front of a slice. -/
theorem Sees.front {w : World} {a : Addr} {cap : Nat} {bs : List UInt8} (h : Sees w (.slice (some a) bs.length cap) bs) (n : Nat) (hn : n ≤ bs.length) : Sees w (.slice (some a) n cap) (bs.take n) := by
  rcases h with ⟨h, _⟩ | ⟨a', cap', e, hc, hm, hcell⟩
  · simp at h
  · simp only [Value.slice.injEq, Option.some.injEq, true_and] at e
    obtain ⟨rfl, rfl⟩ := e
    refine .inr ⟨a, cap, by simp [Nat.min_eq_left hn], by simp; omega, hm, fun j u hj => hcell j u ?_⟩
    rw [← hj]
    simp only [u8s, List.map_take, List.getElem?_take]
    rw [if_pos]
    have := (List.getElem?_eq_some_iff.1 hj).1
    simp [u8s] at this
    omega

/-- What is behind the front. -/
theorem Sees.behind {w : World} {a : Addr} {cap : Nat} {bs : List UInt8} (h : Sees w (.slice (some a) bs.length cap) bs) (n : Nat) (hn : n ≤ bs.length) (a2 : Addr) (h2 : a2 = a.add n ∨ n = cap) : Sees w (.slice (some a2) (bs.length - n) (cap - n)) (bs.drop n) := by
  rcases h with ⟨h, _⟩ | ⟨a', cap', e, hc, hm, hcell⟩
  · simp at h
  · simp only [Value.slice.injEq, Option.some.injEq, true_and] at e
    obtain ⟨rfl, rfl⟩ := e
    refine .inr ⟨a2, cap - n, by simp, by simp; omega, by omega, fun j u hj => ?_⟩
    have hjl := (List.getElem?_eq_some_iff.1 hj).1
    simp [u8s] at hjl
    rcases h2 with rfl | h2
    · rw [show (a.add n).add j = a.add (n + j) by unfold Addr.add; split <;> split <;> simp_all <;> omega]
      refine hcell (n + j) u ?_
      rw [← hj]
      simp [u8s]
    · omega

/-- One field of a Reader is stored anew. -/
theorem RAt.set {T : TypeId} {b : Nat} {w : World} {v v' : Value} {bs bs' : List UInt8} {lack : Bool} (h : RAt T w b v bs lack) (hs : Sees w v' bs') (hb : slab v' ≠ some b) :
    RAt T (w.setCell ⟨b, 0, none⟩ v') b v' bs' lack ∧ Turn (fun k => k = b) w (w.setCell ⟨b, 0, none⟩ v') := by
  have ht : Turn (fun k => k = b) w (w.setCell ⟨b, 0, none⟩ v') := (Turn.refl (fun k => k = b) w).setCell (p := ⟨b, 0, none⟩) (.inl rfl) _
  refine ⟨⟨?_, hs.kept ht (fun k hk e => hb (e ▸ hk)), hb⟩, ht⟩
  have := h.1.set 0 v'
  simpa using this

theorem RAt.lacks {T : TypeId} {b : Nat} {w : World} {v : Value} {bs : List UInt8} {lack : Bool} (h : RAt T w b v bs lack) :
    RAt T ((w.setCell ⟨b, 0, none⟩ (.slice none 0 0)).setCell ⟨b, 1, none⟩ (.bool true)) b (.slice none 0 0) [] true ∧ Turn (fun k => k = b) w ((w.setCell ⟨b, 0, none⟩ (.slice none 0 0)).setCell ⟨b, 1, none⟩ (.bool true)) := by
  have ht : Turn (fun k => k = b) w ((w.setCell ⟨b, 0, none⟩ (.slice none 0 0)).setCell ⟨b, 1, none⟩ (.bool true)) :=
    ((Turn.refl (fun k => k = b) w).setCell (p := ⟨b, 0, none⟩) (.inl rfl) _).setCell (p := ⟨b, 1, none⟩) (.inl rfl) _
  refine ⟨⟨?_, Sees.nil _, by simp [slab]⟩, ht⟩
  have := (h.1.set 0 (.slice none 0 0)).set 1 (.bool true)
  simpa using this

theorem RAt.lacks' {T : TypeId} {b : Nat} {w : World} {v : Value} {bs : List UInt8} {lack : Bool} (h : RAt T w b v bs lack) :
    RAt T ((w.setCell ⟨b, 1, none⟩ (.bool true)).setCell ⟨b, 0, none⟩ (.slice none 0 0)) b (.slice none 0 0) [] true ∧ Turn (fun k => k = b) w ((w.setCell ⟨b, 1, none⟩ (.bool true)).setCell ⟨b, 0, none⟩ (.slice none 0 0)) := by
  have ht : Turn (fun k => k = b) w ((w.setCell ⟨b, 1, none⟩ (.bool true)).setCell ⟨b, 0, none⟩ (.slice none 0 0)) :=
    ((Turn.refl (fun k => k = b) w).setCell (p := ⟨b, 1, none⟩) (.inl rfl) _).setCell (p := ⟨b, 0, none⟩) (.inl rfl) _
  refine ⟨⟨?_, Sees.nil _, by simp [slab]⟩, ht⟩
  have := (h.1.set 1 (.bool true)).set 0 (.slice none 0 0)
  simpa using this

/-- From the Reader with field v in w to the Reader with field v' in w'. -/
structure RStep (T : TypeId) (b : Nat) (w : World) (v : Value) (w' : World) (v' : Value) (bs : List UInt8) (lack : Bool) : Prop where
  at' : RAt T w' b v' bs lack
  turn : Turn (fun k => k = b) w w'
  slab : ∀ k, slab v' = some k → slab v = some k

theorem RStep.refl {T : TypeId} {b : Nat} {w : World} {v : Value} {bs : List UInt8} {lack : Bool} (h : RAt T w b v bs lack) : RStep T b w v w v bs lack := ⟨h, Turn.refl _ _, fun _ h => h⟩

theorem RStep.trans {T : TypeId} {b : Nat} {w w1 w2 : World} {v v1 v2 : Value} {bs1 bs2 : List UInt8} {l1 l2 : Bool} (h : RStep T b w v w1 v1 bs1 l1) (k : RStep T b w1 v1 w2 v2 bs2 l2) : RStep T b w v w2 v2 bs2 l2 :=
  ⟨k.at', h.turn.trans k.turn, fun j hj => h.slab j (k.slab j hj)⟩

theorem RStep.grown {T : TypeId} {b : Nat} {w w1 w2 : World} {v v1 : Value} {bs1 : List UInt8} {l1 : Bool} (h : RStep T b w v w1 v1 bs1 l1) (k : Turn (fun _ => False) w1 w2) : RStep T b w v w2 v1 bs1 l1 :=
  ⟨h.at'.kept k (fun h => h) (fun _ _ h => h), h.turn.trans' k (fun _ _ h => h.elim), h.slab⟩

theorem turn_of_grown {w w' : World} (h : w.grownBy w' none) : Turn (fun _ => False) w w' := (Turn.refl _ _).grown h (fun k hk => by cases hk)

/-- The block's slice stays where it lay, or has come to new memory. -/
def Moved (w : World) (v v' : Value) : Prop := v'.ownBlock = v.ownBlock ∨ ∃ k, v'.ownBlock = some k ∧ w.heap.size ≤ k

/-- From the Writer with field v in w to the Writer with field v' and bytes bs in w'. -/
structure WStep (T : TypeId) (b : Nat) (w : World) (v : Value) (w' : World) (v' : Value) (bs : List UInt8) : Prop where
  at' : WAt T w' b v' bs
  turn : Turn (fun k => k = b ∨ v.ownBlock = some k) w w'
  moved : Moved w v v'

theorem WStep.refl {T : TypeId} {b : Nat} {w : World} {v : Value} {bs : List UInt8} (h : WAt T w b v bs) : WStep T b w v w v bs := ⟨h, Turn.refl _ _, .inl rfl⟩

theorem WStep.trans {T : TypeId} {b : Nat} {w w1 w2 : World} {v v1 v2 : Value} {bs1 bs2 : List UInt8} (h : WStep T b w v w1 v1 bs1) (k : WStep T b w1 v1 w2 v2 bs2) : WStep T b w v w2 v2 bs2 := by
  refine ⟨k.at', h.turn.trans' k.turn ?_, ?_⟩
  · intro i hi hS
    rcases hS with hS | hS
    · exact .inl hS
    · rcases h.moved with hm | ⟨j, hj, hle⟩
      · exact .inr (hm ▸ hS)
      · rw [hj] at hS
        injection hS with e
        omega
  · rcases k.moved with hm | ⟨j, hj, hle⟩
    · rcases h.moved with hm' | ⟨j, hj, hle⟩
      · exact .inl (hm.trans hm')
      · exact .inr ⟨j, hm.trans hj, hle⟩
    · exact .inr ⟨j, hj, Nat.le_trans h.turn.size hle⟩

theorem WAt.kept {S : Nat → Prop} {T : TypeId} {b : Nat} {w w' : World} {v : Value} {bs : List UInt8} (h : WAt T w b v bs) (ht : Turn S w w') (h1 : ¬ S b) (h2 : ∀ k, v.ownBlock = some k → ¬ S k) : WAt T w' b v bs :=
  ⟨h.1.kept ht h1, h.2.1.kept ht h2, h.2.2⟩

theorem WAt.alloc {T : TypeId} {b : Nat} {w : World} {v : Value} {bs : List UInt8} (h : WAt T w b v bs) (o : Obj) : WAt T (w.alloc o) b v bs :=
  h.kept (S := fun _ => False) ((Turn.refl _ _).alloc o) (fun h => h) (fun _ _ h => h)

theorem WStep.alloc {T : TypeId} {b : Nat} {w w' : World} {v v' : Value} {bs : List UInt8} (h : WStep T b w v w' v' bs) (o : Obj) : WStep T b w v (w'.alloc o) v' bs := ⟨h.at'.alloc o, h.turn.alloc o, h.moved⟩

theorem Sees.drew {w : World} {v : Value} {bs : List UInt8} (h : Sees w v bs) : Sees w.drew v bs := h
theorem Owns.drew {w : World} {v : Value} {bs : List UInt8} (h : Owns w v bs) : Owns w.drew v bs := h
theorem WAt.drew {T : TypeId} {b : Nat} {w : World} {v : Value} {bs : List UInt8} (h : WAt T w b v bs) : WAt T w.drew b v bs := h
theorem WStep.drew {T : TypeId} {b : Nat} {w w' : World} {v v' : Value} {bs : List UInt8} (h : WStep T b w v w' v' bs) : WStep T b w v w'.drew v' bs := ⟨h.at'.drew, h.turn.drew, h.moved⟩

/-- Behind an append onto the field and the store of what it gives. -/
theorem WStep.append {T : TypeId} {b : Nat} {w w' : World} {v v' : Value} {bs bs' : List UInt8} (h : WAt T w b v bs) (ho : Owns w' v' bs') (hg : w.grownBy w' v.ownBlock) (hk : v'.ownBlock = v.ownBlock ∨ v'.ownBlock = some w.heap.size) :
    WStep T b w v (w'.setCell ⟨b, 0, none⟩ v') v' bs' := by
  have hlt := h.1.lt
  have hne : v'.ownBlock ≠ some b := by
    rcases hk with hk | hk
    · rw [hk]; exact h.2.2
    · rw [hk]; intro e; injection e with e; omega
  have ht : Turn (fun k => k = b ∨ v.ownBlock = some k) w w' := (Turn.refl _ _).grown hg fun k hk => .inl (.inr hk)
  have hat : At T w' b #[v] := (hg.block b hlt (fun e => h.2.2 e.symm)).trans h.1
  have hset := hat.set 0 v'
  refine ⟨⟨by simpa using hset, ho.kept (S := fun k => k = b) ((Turn.refl (fun k => k = b) w').setCell (p := ⟨b, 0, none⟩) (.inl rfl) _) (fun k e h' => hne (h' ▸ e)), hne⟩, ht.setCell (.inl (.inl rfl)) _, ?_⟩
  rcases hk with hk | hk
  · exact .inl hk
  · exact .inr ⟨_, hk, Nat.le_refl _⟩

section
variable {P : Program} (w : World)

/-- append onto bytes of one's own, of what another slice of bytes shows: the result is one's own; it lies where it lay, or in a new block. -/
theorem run_append_sees (t ty : TypeId) (i : TypeInfo) (ht : P.underlying t = some (.slice 5)) (hi : P.info? 5 = some i) (hz : i.zero = some (.int .u8 0)) (hsize : i.size = 1) (hby : i.bytes = 1)
    (v : Value) (xs : List UInt8) (hown : Owns w v xs) (sv : Value) (ds : List UInt8) (hsee : Sees w sv ds) (hbound : xs.length + ds.length ≤ 140737488355328) :
    ∃ v' w', (Builtin.append_ #[t, t] ty #[v, sv]).run P w = .ok v' w' ∧ Owns w' v' (xs ++ ds) ∧ w.grownBy w' v.ownBlock ∧ (v'.ownBlock = v.ownBlock ∨ v'.ownBlock = some w.heap.size) := by
  have h63 : xs.length + ds.length ≤ maxLen := by unfold maxLen; omega
  rcases hsee with ⟨rfl, rfl⟩ | ⟨a, cap, rfl, hc, hm, hcell⟩
  · refine ⟨v, w, run_append_owned_none w 0 t ty 5 i 1 ht hi v _ _ hown, by simpa using hown, ⟨rfl, rfl, rfl, Nat.le_refl _, fun _ _ _ => rfl⟩, .inl rfl⟩
  · have hone : ∀ u ∈ u8s ds, u.oneCell' = true := fun u hu => u8s_one hu
    have hl : (u8s ds).length = ds.length * 1 := by rw [u8s_length]; omega
    have key := run_append_own (P := P) w 0 t ty 5 i (.int .u8 0) 1 1 ht hi hz hsize hby rfl (by omega) v xs.length (u8s xs) hown a ds.length cap (u8s ds) hl hcell hone h63 (by omega) (Nat.zero_le _)
    obtain ⟨v', w', hr, ho, hg, _⟩ := key
    have ho' : Owns w' v' (xs ++ ds) := by
      unfold Owns
      rw [u8s_append, List.length_append]
      exact ho
    refine ⟨v', w', hr, ho', hg, ?_⟩
    rcases hown.2 with ⟨rfl, hn⟩ | ⟨g, cp, cur, rfl, _, hgg, hnc, hcm, hcs, htake⟩
    · by_cases hd : ds.length = 0
      · have h0 := run_append_own (P := P) w w.heap.size t ty 5 i (.int .u8 0) 1 1 ht hi hz hsize hby rfl (by omega) (.slice none 0 0) 0 [] (World.ownsRow_nil _ _ _ _) a ds.length cap (u8s ds) hl hcell hone (by omega) (by omega) (Nat.le_refl _)
        obtain ⟨v2, w2, hr2, _, _, h4⟩ := h0
        rw [hr] at hr2
        injection hr2 with e1 e2
        subst e1
        left
        rw [h4.2 ⟨rfl, hd⟩]
      · have h0 := run_append_nil (P := P) w t ty 5 i (.int .u8 0) ht hi hz a ds.length cap (u8s ds) (by rw [hsize]; exact hl) hcell (by omega) (by unfold maxLen at h63; omega) (by rw [hby]; omega)
        rw [hr] at h0
        injection h0 with e1 e2
        subst e1
        right
        rfl
    · by_cases hroom : xs.length + ds.length ≤ cp
      · obtain ⟨w2, hr2, _, _⟩ := run_append_fits (P := P) w 0 t ty 5 i 1 ht hi hsize g xs.length cp (u8s xs) hown a ds.length cap (u8s ds) hl hcell hone hroom
        rw [hr] at hr2
        injection hr2 with e1 e2
        subst e1
        left
        rfl
      · have hr2 := run_append_grow (P := P) w t ty 5 i (.int .u8 0) ht hi hz ⟨g, 0, none⟩ xs.length cp (u8s xs) (by rw [hsize, u8s_length]; omega) (World.ownsRow.cells hown (g := g) rfl) a ds.length cap (u8s ds) (by rw [hsize]; exact hl) hcell (by omega) (by unfold maxLen at h63; omega) (growslice_fits (by omega) (by rw [hby]; omega))
        rw [hr] at hr2
        injection hr2 with e1 e2
        subst e1
        right
        rfl

theorem wpList_append_sees {ops : Array Oper} {rest : List Oper} {o : Oper} {a : Act} {Q : Exit → Act → World → Prop} (hgd : o.guard = none) (s x : Operand) (t : TypeId)
    (ho : o.op = .call { callee := .builtin .append, args := #[s, x], argTypes := #[t, t] })
    (i : TypeInfo) (ht : P.underlying t = some (.slice 5)) (hi : P.info? 5 = some i) (hz : i.zero = some (.int .u8 0)) (hsize : i.size = 1) (hby : i.bytes = 1)
    (v : Value) (xs : List UInt8) (hs : a.eval s = v) (hown : Owns w v xs) (sv : Value) (ds : List UInt8) (hx : a.eval x = sv) (hsee : Sees w sv ds) (hbound : xs.length + ds.length ≤ 140737488355328)
    (h : ∀ v' w', Owns w' v' (xs ++ ds) → w.grownBy w' v.ownBlock → (v'.ownBlock = v.ownBlock ∨ v'.ownBlock = some w.heap.size) → wpList P ops Q rest (a.put o.dst v') w') : wpList P ops Q (o :: rest) a w := by
  refine wpList_plain hgd fun _ hK => ?_
  obtain ⟨v', w', hr, h2, h3, h4⟩ := run_append_sees (P := P) w t o.type i ht hi hz hsize hby v xs hown sv ds hsee hbound
  unfold Oper.wp execOp
  simp only [ho, resolve, invoke, builtin, Sem.run_bind, Sem.run_pure, Result.andThen_ok, List.map_toArray, List.map_cons, List.map_nil, hs, hx, hr]
  exact hK _ _ (h v' w' h2 h3 h4)

/-- A text made of what a slice of bytes shows. -/
theorem run_text_of_sees (src dst : TypeId) (hs : P.underlying src = some (.slice 5)) (he : P.underlying 5 = some (.int .u8)) (hd : P.underlying dst = some .string)
    {v : Value} {bs : List UInt8} (hsee : Sees w v bs) : (convert src dst v).run P w = .ok (.string ⟨bs.toArray⟩) w := by
  rcases hsee with ⟨rfl, rfl⟩ | ⟨a, cap, rfl, hc, hm, hcell⟩
  · rw [run_convert_bytes_string w src dst 5 _ 0 0 hs he hd]
    simp [Conv.bytesToString]
    rfl
  · exact run_convert_bytes_back w src dst 5 a cap bs hs he hd fun j hj => hcell j _ (by simp [u8s, hj])

end

end Go.Proofs.YtnipdgigjcaolaaGreat

/- Numbers and their bytes: what is laid as the lowest bytes of a number is that number again. -/
namespace Go.Proofs.YtnipdgigjcaolaaGreat
open Go.RowKit

/-- One byte more at the end of a number. -/
def numStep (n : Int) (b : UInt8) : Int := bits .or .i64 (wrap64 (n * 256)) (wrap64 (b.toNat : Int))

theorem numStep_eq (n : Int) (b : UInt8) : numStep n b = wrap64 (n * 256 + b.toNat) := by
  have hb := b.toNat_lt
  unfold numStep
  have e1 : ((wrap64 (n * 256)) % 2 ^ 64).toNat % 2 ^ 8 = 0 := by unfold wrap64; omega
  have e2 : ((wrap64 (b.toNat : Int)) % 2 ^ 64).toNat = b.toNat := by unfold wrap64; omega
  simp only [bits, BitVec.toNat_or, BitVec.toNat_ofInt]
  rw [show ((2 ^ IntKind.i64.bits : Nat) : Int) = 2 ^ 64 by decide, e2, nat_join 8 _ _ e1 (by omega), IntKind.wrap_i64]
  unfold wrap64
  omega

/-- Bytes as a number of 64 bits with a sign, the highest first. -/
def num (bs : List UInt8) : Int := bs.foldl numStep 0

theorem num_snoc (bs : List UInt8) (b : UInt8) : num (bs ++ [b]) = numStep (num bs) b := by simp [num]

/-- The lowest k bytes of n, the highest first. -/
def be (n : Int) : Nat → List UInt8
  | 0 => []
  | k + 1 => UInt8.ofNat ((n / 2 ^ (8 * k)) % 256).toNat :: be n k

theorem be_length (n : Int) : ∀ k, (be n k).length = k
  | 0 => rfl
  | k + 1 => by simp [be, be_length n k]

theorem be_step (n : Int) (k : Nat) : be n (k + 1) = [UInt8.ofNat ((n / 2 ^ (8 * k)) % 256).toNat] ++ be n k := rfl

theorem byte_of (x : Int) : ((UInt8.ofNat (x % 256).toNat).toNat : Int) = x % 256 := by
  rw [UInt8.toNat_ofNat']
  omega

theorem wrap64_wrap64 (x y : Int) : wrap64 (wrap64 x * 256 + y) = wrap64 (x * 256 + y) := by unfold wrap64; omega

theorem emod_two (n p : Int) (hp : 0 ≤ p) : n % (p * 256) = n % p + p * (n / p % 256) := by
  rw [Int.emod_def n (p * 256), Int.emod_def n p, Int.emod_def (n / p) 256, Int.ediv_mul_of_nonneg hp, Int.mul_sub, ← Int.mul_assoc]
  omega

theorem foldl_be (n : Int) : ∀ (k : Nat) (m : Int), (be n k).foldl numStep (wrap64 m) = wrap64 (m * 2 ^ (8 * k) + n % 2 ^ (8 * k))
  | 0, m => by simp [be, Int.emod_one]
  | k + 1, m => by
    rw [be, List.foldl_cons, numStep_eq, byte_of, wrap64_wrap64, foldl_be n k]
    congr 1
    have e : (2 : Int) ^ (8 * (k + 1)) = 2 ^ (8 * k) * 256 := by rw [Nat.mul_add, Int.pow_add]; rfl
    have e2 : n % (2 ^ (8 * k) * 256) = n % 2 ^ (8 * k) + 2 ^ (8 * k) * (n / 2 ^ (8 * k) % 256) := emod_two n _ (Int.pow_nonneg (by decide))
    rw [e, e2]
    generalize (2 : Int) ^ (8 * k) = p
    generalize n % p = q
    generalize n / p % 256 = r
    rw [Int.add_mul, Int.mul_assoc, Int.mul_comm 256 p, Int.mul_comm r p]
    omega

theorem num_be (n : Int) (k : Nat) : num (be n k) = wrap64 (n % 2 ^ (8 * k)) := by
  have h := foldl_be n k 0
  simp only [Int.zero_mul, Int.zero_add] at h
  have z : wrap64 0 = 0 := by unfold wrap64; omega
  rw [z] at h
  exact h

theorem num_be1 (n : Int) : num (be n 1) = n % 256 := by rw [num_be]; unfold wrap64; omega
theorem num_be2 (n : Int) : num (be n 2) = n % 65536 := by rw [num_be]; unfold wrap64; omega
theorem num_be8 (n : Int) : num (be n 8) = wrap64 n := by rw [num_be]; unfold wrap64; omega

end Go.Proofs.YtnipdgigjcaolaaGreat

/- What a Reader has, and what it takes: plain lists. -/
namespace Go.Proofs.YtnipdgigjcaolaaGreat
open Go.RowKit

/-- What a Reader has: the bytes that are left; whether it lacks. -/
structure St where
  bs : List UInt8
  lack : Bool

/-- n bytes are taken. -/
def St.take (s : St) (n : Int) : List UInt8 × St := if n < 0 ∨ (s.bs.length : Int) < n then ([], ⟨[], true⟩) else (s.bs.take n.toNat, ⟨s.bs.drop n.toNat, s.lack⟩)

theorem St.take_no (s : St) (n : Int) (h : n < 0 ∨ (s.bs.length : Int) < n) : s.take n = ([], ⟨[], true⟩) := if_pos h
theorem St.take_yes (s : St) (n : Int) (h0 : 0 ≤ n) (h1 : n ≤ s.bs.length) : s.take n = (s.bs.take n.toNat, ⟨s.bs.drop n.toNat, s.lack⟩) := if_neg (by omega)
theorem St.take_len (s : St) (n : Int) : ((s.take n).1.length : Int) ≤ max 0 n := by
  unfold St.take
  split
  · simp; omega
  · simp; omega
theorem St.take_le (s : St) (n : Int) : (s.take n).1.length ≤ s.bs.length := by
  unfold St.take
  split
  · simp
  · simp; omega
theorem St.take_rest (s : St) (n : Int) : (s.take n).2.bs.length ≤ s.bs.length := by
  unfold St.take
  split
  · simp
  · simp

/-- What Short and Text take: a length, and so many bytes. -/
def St.short (s : St) : List UInt8 × St := (s.take 2).2.take (num (s.take 2).1)

/-- The bytes of a text or slice behind their length. -/
def sh (ds : List UInt8) : List UInt8 := be ds.length 2 ++ ds

theorem sh_length (ds : List UInt8) : (sh ds).length = ds.length + 2 := by simp [sh, be_length]; omega

theorem St.take_all (P Y : List UInt8) (l : Bool) (n : Int) (h : n = P.length) : (St.mk (P ++ Y) l).take n = (P, ⟨Y, l⟩) := by
  subst h
  rw [St.take_yes _ _ (by omega) (by simp only [List.length_append]; omega)]
  simp

theorem St.take_part (P Y : List UInt8) (l : Bool) (n : Int) (h : n = P.length) (k : Nat) (hk : P.length ≤ k) : (St.mk ((P ++ Y).take k) l).take n = (P, ⟨Y.take (k - P.length), l⟩) := by
  rw [List.take_append, List.take_of_length_le hk]
  exact St.take_all _ _ _ _ h

theorem St.take_cut (P : List UInt8) (l : Bool) (n : Int) (k : Nat) (h : (k : Int) < n) : (St.mk (P.take k) l).take n = ([], ⟨[], true⟩) :=
  St.take_no _ _ (.inr (by have := List.length_take_le k P; simp only; omega))

theorem St.dead (n : Int) : ((St.mk [] true).take n) = ([], ⟨[], true⟩) := by
  unfold St.take
  split
  · rfl
  · simp

theorem St.dead_short : (St.mk [] true).short = ([], ⟨[], true⟩) := by
  unfold St.short
  rw [St.dead]
  exact St.dead _

theorem num_len (ds : List UInt8) (h : ds.length ≤ 65535) : num (be ds.length 2) = ds.length := by rw [num_be2]; omega

theorem St.short_all (ds Y : List UInt8) (l : Bool) (h : ds.length ≤ 65535) : (St.mk (sh ds ++ Y) l).short = (ds, ⟨Y, l⟩) := by
  unfold St.short sh
  rw [List.append_assoc, St.take_all _ _ _ 2 (by simp [be_length])]
  simp only [num_len ds h]
  exact St.take_all _ _ _ _ rfl

theorem St.short_cut (ds : List UInt8) (l : Bool) (k : Nat) (h : ds.length ≤ 65535) (hk : k < ds.length + 2) : (St.mk ((sh ds).take k) l).short = ([], ⟨[], true⟩) := by
  unfold St.short sh
  by_cases h2 : k < 2
  · rw [St.take_cut _ _ 2 k (by omega)]
    exact St.dead _
  · rw [St.take_part _ _ _ 2 (by simp [be_length]) k (by simp [be_length]; omega)]
    simp only [num_len ds h, be_length]
    exact St.take_cut _ _ _ _ (by omega)

/-- What the law of sizes lays. -/
def laid (a b c : Int) (s : List UInt8) : List UInt8 := be a 1 ++ be b 2 ++ be c 8 ++ sh s

theorem laid_length (a b c : Int) (s : List UInt8) : (laid a b c s).length = 13 + s.length := by simp [laid, be_length, sh_length]; omega

theorem laid_eq (a b c : Int) (s : List UInt8) : laid a b c s = be a 1 ++ (be b 2 ++ (be c 8 ++ sh s)) := by simp [laid]

/-- Cut off anywhere it lacks. -/
theorem laid_cut (a b c : Int) (s : List UInt8) (hs : s.length ≤ 65535) (k : Nat) (hk : k < 13 + s.length) :
    (((St.mk ((laid a b c s).take k) false).take 1).2.take 2).2.take 8 |>.2.short = ([], ⟨[], true⟩) := by
  rw [laid_eq]
  by_cases h1 : k < 1
  · rw [St.take_cut _ _ 1 k (by omega)]
    simp only [St.dead, St.dead_short]
  · rw [St.take_part _ _ _ 1 (by simp [be_length]) k (by simp [be_length]; omega), be_length]
    by_cases h2 : k - 1 < 2
    · simp only [St.take_cut _ _ 2 (k - 1) (by omega), St.dead, St.dead_short]
    · simp only [St.take_part (be b 2) _ _ 2 (by simp [be_length]) (k - 1) (by simp [be_length]; omega), be_length]
      by_cases h3 : k - 1 - 2 < 8
      · simp only [St.take_cut _ _ 8 (k - 1 - 2) (by omega), St.dead_short]
      · simp only [St.take_part (be c 8) _ _ 8 (by simp [be_length]) (k - 1 - 2) (by simp [be_length]; omega), be_length]
        exact St.short_cut s false _ hs (by omega)

theorem laid1 (a b c : Int) (s : List UInt8) : (St.mk (laid a b c s) false).take 1 = (be a 1, ⟨be b 2 ++ (be c 8 ++ sh s), false⟩) := by rw [laid_eq]; exact St.take_all _ _ _ _ (by simp [be_length])
theorem laid2 (b c : Int) (s : List UInt8) : (St.mk (be b 2 ++ (be c 8 ++ sh s)) false).take 2 = (be b 2, ⟨be c 8 ++ sh s, false⟩) := St.take_all _ _ _ _ (by simp [be_length])
theorem laid3 (c : Int) (s : List UInt8) : (St.mk (be c 8 ++ sh s) false).take 8 = (be c 8, ⟨sh s, false⟩) := St.take_all _ _ _ _ (by simp [be_length])
theorem laid4 (s : List UInt8) (hs : s.length ≤ 65535) : (St.mk (sh s) false).short = (s, ⟨[], false⟩) := by have h := St.short_all s [] false hs; rwa [List.append_nil] at h

end Go.Proofs.YtnipdgigjcaolaaGreat

/- A sum over bytes, bit by bit and by bytes; each step of it can be undone. -/
namespace Go.Proofs.YtnipdgigjcaolaaGreat

/-- One bit leaves. -/
def cbit (c : Nat) : Nat := if c % 2 = 1 then (c / 2) ^^^ 3988292384 else c / 2
/-- So many bits leave. -/
def cbits : Nat → Nat → Nat
  | 0, c => c
  | k + 1, c => cbits k (cbit c)
/-- Eight bits leave. -/
def cword (c : Nat) : Nat := cbits 8 c
/-- A byte goes in. -/
def cstep (c : Nat) (b : UInt8) : Nat := cword (c ^^^ b.toNat)
/-- Bytes go in. -/
def crun (c : Nat) (bs : List UInt8) : Nat := bs.foldl cstep c
/-- The sum. -/
def csum (bs : List UInt8) : Nat := 4294967295 - crun 4294967295 bs

theorem cbits_succ (k c : Nat) : cbits (k + 1) c = cbit (cbits k c) := by
  induction k generalizing c with
  | zero => rfl
  | succ k ih => exact ih (cbit c)

theorem xor_lt (a b : Nat) (ha : a < 4294967296) (hb : b < 4294967296) : a ^^^ b < 4294967296 :=
  Nat.xor_lt_two_pow (n := 32) ha hb

theorem cbit_lt (c : Nat) (h : c < 4294967296) : cbit c < 4294967296 := by
  unfold cbit
  split
  · exact xor_lt _ _ (by omega) (by omega)
  · omega

theorem cbits_lt (k c : Nat) (h : c < 4294967296) : cbits k c < 4294967296 := by
  induction k generalizing c with
  | zero => exact h
  | succ k ih => exact ih _ (cbit_lt c h)

theorem cword_lt (c : Nat) (h : c < 4294967296) : cword c < 4294967296 := cbits_lt 8 c h

theorem byte_lt (b : UInt8) : b.toNat < 256 := b.toNat_lt

theorem cstep_lt (c : Nat) (b : UInt8) (h : c < 4294967296) : cstep c b < 4294967296 := cword_lt _ (xor_lt _ _ h (by have := byte_lt b; omega))

theorem crun_lt (c : Nat) (bs : List UInt8) (h : c < 4294967296) : crun c bs < 4294967296 := by
  induction bs generalizing c with
  | nil => exact h
  | cons b r ih => exact ih _ (cstep_lt c b h)

theorem csum_lt (bs : List UInt8) : csum bs < 4294967296 := by unfold csum; omega

theorem crun_append (c : Nat) (a b : List UInt8) : crun c (a ++ b) = crun (crun c a) b := List.foldl_append

theorem crun_snoc (c : Nat) (a : List UInt8) (b : UInt8) : crun c (a ++ [b]) = cstep (crun c a) b := by rw [crun_append]; rfl

theorem cbit_xor (x y : Nat) : cbit (x ^^^ y) = cbit x ^^^ cbit y := by
  have h2 : (x ^^^ y) / 2 = x / 2 ^^^ y / 2 := Nat.xor_div_two
  have hm : (x ^^^ y) % 2 = 1 ↔ ¬ (x % 2 = 1 ↔ y % 2 = 1) := Nat.xor_mod_two_eq_one
  unfold cbit
  rw [h2]
  by_cases hx : x % 2 = 1 <;> by_cases hy : y % 2 = 1
  · rw [if_neg (by rw [hm]; simp [hx, hy]), if_pos hx, if_pos hy]
    rw [Nat.xor_comm (y / 2), Nat.xor_assoc, ← Nat.xor_assoc 3988292384, Nat.xor_self, Nat.zero_xor]
  · rw [if_pos (by rw [hm]; simp [hx, hy]), if_pos hx, if_neg hy]
    rw [Nat.xor_assoc, Nat.xor_assoc, Nat.xor_comm (y / 2)]
  · rw [if_pos (by rw [hm]; simp [hx, hy]), if_neg hx, if_pos hy]
    rw [Nat.xor_assoc]
  · rw [if_neg (by rw [hm]; simp [hx, hy]), if_neg hx, if_neg hy]

theorem cbits_xor (k x y : Nat) : cbits k (x ^^^ y) = cbits k x ^^^ cbits k y := by
  induction k generalizing x y with
  | zero => rfl
  | succ k ih => rw [cbits, cbits, cbits, cbit_xor, ih]

theorem cbit_even (z : Nat) : cbit (2 * z) = z := by
  unfold cbit
  rw [if_neg (by omega)]
  omega

theorem cbits_even (k z : Nat) : cbits k (2 ^ k * z) = z := by
  induction k generalizing z with
  | zero => simp [cbits]
  | succ k ih => rw [cbits, Nat.pow_succ, Nat.mul_comm (2 ^ k) 2, Nat.mul_assoc, cbit_even, ih]

theorem split8 (x : Nat) : x = (x % 256) ^^^ (256 * (x / 256)) := by
  apply Nat.eq_of_testBit_eq
  intro i
  have h1 : (x % 256).testBit i = (decide (i < 8) && x.testBit i) := Nat.testBit_mod_two_pow x 8 i
  have h2 : (256 * (x / 256)).testBit i = (decide (i ≥ 8) && Nat.testBit (x / 256) (i - 8)) := Nat.testBit_two_pow_mul (i := 8)
  have h3 : (x / 256).testBit (i - 8) = x.testBit (8 + (i - 8)) := by
    have := Nat.testBit_div_two_pow (n := 8) x (i - 8)
    rw [Nat.add_comm]
    exact this
  rw [Nat.testBit_xor, h1, h2, h3]
  by_cases hi : i < 8
  · simp [hi, show ¬ i ≥ 8 by omega]
  · simp [hi, show i ≥ 8 by omega, show 8 + (i - 8) = i by omega]

theorem cword_split (x : Nat) : cword x = cword (x % 256) ^^^ (x / 256) := by
  have h : cword x = cword ((x % 256) ^^^ (256 * (x / 256))) := congrArg cword (split8 x)
  rw [h]
  unfold cword
  rw [cbits_xor]
  rw [show (256 : Nat) * (x / 256) = 2 ^ 8 * (x / 256) from rfl, cbits_even]

/-- By a table of the words of all bytes. -/
theorem cstep_table (c : Nat) (b : UInt8) : cstep c b = cword ((c % 256) ^^^ b.toNat) ^^^ (c / 256) := by
  have hb := byte_lt b
  unfold cstep
  rw [cword_split]
  have e1 : (c ^^^ b.toNat) % 256 = (c % 256) ^^^ b.toNat := by
    have := Nat.xor_mod_two_pow (a := c) (b := b.toNat) (n := 8)
    rw [show (2 : Nat) ^ 8 = 256 from rfl] at this
    rw [this, Nat.mod_eq_of_lt hb]
  have e2 : (c ^^^ b.toNat) / 256 = c / 256 := by
    have := Nat.xor_div_two_pow (a := c) (b := b.toNat) (n := 8)
    rw [show (2 : Nat) ^ 8 = 256 from rfl] at this
    rw [this, Nat.div_eq_of_lt hb, Nat.xor_zero]
  rw [e1, e2]

theorem xor_zero_eq {x y : Nat} (h : x ^^^ y = 0) : x = y := by
  have : (x ^^^ y) ^^^ y = 0 ^^^ y := by rw [h]
  rw [Nat.xor_assoc, Nat.xor_self, Nat.xor_zero, Nat.zero_xor] at this
  exact this

theorem cbit_zero {z : Nat} (hz : z < 4294967296) (h : cbit z = 0) : z = 0 := by
  unfold cbit at h
  split at h
  · have := xor_zero_eq h
    omega
  · omega

theorem cbit_inj {x y : Nat} (hx : x < 4294967296) (hy : y < 4294967296) (h : cbit x = cbit y) : x = y := by
  apply xor_zero_eq
  apply cbit_zero (xor_lt _ _ hx hy)
  rw [cbit_xor, h, Nat.xor_self]

theorem cbits_inj {k x y : Nat} (hx : x < 4294967296) (hy : y < 4294967296) (h : cbits k x = cbits k y) : x = y := by
  induction k generalizing x y with
  | zero => exact h
  | succ k ih => exact cbit_inj hx hy (ih (cbit_lt _ hx) (cbit_lt _ hy) h)

theorem xor_right_inj {x y z : Nat} (h : x ^^^ z = y ^^^ z) : x = y := by
  have : (x ^^^ z) ^^^ z = (y ^^^ z) ^^^ z := by rw [h]
  rwa [Nat.xor_assoc, Nat.xor_assoc, Nat.xor_self, Nat.xor_zero, Nat.xor_zero] at this

theorem cstep_inj {x y : Nat} {b : UInt8} (hx : x < 4294967296) (hy : y < 4294967296) (h : cstep x b = cstep y b) : x = y :=
  xor_right_inj (cbits_inj (xor_lt _ _ hx (by have := byte_lt b; omega)) (xor_lt _ _ hy (by have := byte_lt b; omega)) h)

theorem cstep_inj_byte {c : Nat} {a b : UInt8} (hc : c < 4294967296) (h : cstep c a = cstep c b) : a = b := by
  have := cbits_inj (xor_lt _ _ hc (by have := byte_lt a; omega)) (xor_lt _ _ hc (by have := byte_lt b; omega)) h
  rw [Nat.xor_comm c, Nat.xor_comm c] at this
  exact UInt8.toNat_inj.1 (xor_right_inj this)

theorem crun_inj {x y : Nat} {bs : List UInt8} (hx : x < 4294967296) (hy : y < 4294967296) (h : crun x bs = crun y bs) : x = y := by
  induction bs generalizing x y with
  | nil => exact h
  | cons b r ih => exact cstep_inj hx hy (ih (cstep_lt _ b hx) (cstep_lt _ b hy) h)

/-- One byte that is turned makes another sum. -/
theorem csum_turned (bs : List UInt8) (i : Nat) (hi : i < bs.length) (b : UInt8) (hb : b ≠ bs[i]) : csum (bs.set i b) ≠ csum bs := by
  intro h
  have h1 := crun_lt 4294967295 (bs.set i b) (by omega)
  have h2 := crun_lt 4294967295 bs (by omega)
  have e : crun 4294967295 (bs.set i b) = crun 4294967295 bs := by unfold csum at h; omega
  have hs : bs = bs.take i ++ bs[i] :: bs.drop (i + 1) := by rw [← List.drop_eq_getElem_cons hi, List.take_append_drop]
  have hs2 : bs.set i b = bs.take i ++ b :: bs.drop (i + 1) := by rw [List.set_eq_take_append_cons_drop, if_pos hi]
  have hc := crun_lt 4294967295 (bs.take i) (by omega)
  rw [hs2] at e
  have e' : crun 4294967295 bs = crun 4294967295 (bs.take i ++ bs[i] :: bs.drop (i + 1)) := congrArg _ hs
  rw [e', crun_append, crun_append] at e
  exact hb (cstep_inj_byte hc (crun_inj (cstep_lt _ b hc) (cstep_lt _ _ hc) e))

theorem csum_nil : csum [] = 0 := rfl
set_option maxRecDepth 10000 in
theorem csum_nine : csum [49, 50, 51, 52, 53, 54, 55, 56, 57] = 3421780262 := by decide
theorem csum_a : csum [97] = 3904355907 := by decide
theorem csum_zero : csum [0] = 3523407757 := by decide

end Go.Proofs.YtnipdgigjcaolaaGreat

/- A record: its bytes, and what is told of any bytes. Plain lists. -/
namespace Go.Proofs.YtnipdgigjcaolaaGreat
open Go.RowKit

/-- Four bytes of a number are two and two. -/
theorem be_four (n : Int) : be n 4 = be (n / 65536) 2 ++ be n 2 := by
  have e : ∀ a b c d a' b' c' d' : UInt8, a = a' → b = b' → c = c' → d = d' → [a, b, c, d] = [a', b', c', d'] := by
    rintro a b c d _ _ _ _ rfl rfl rfl rfl
    rfl
  simp only [be, List.cons_append, List.nil_append]
  refine e _ _ _ _ _ _ _ _ ?_ ?_ rfl rfl
  · rw [show n / 65536 / 2 ^ (8 * 1) = n / 2 ^ (8 * 3) by omega]
  · rw [show n / 65536 / 2 ^ (8 * 0) = n / 2 ^ (8 * 2) by omega]

theorem numStep_small (x : Int) (b : UInt8) (h0 : 0 ≤ x) (h1 : x < 1099511627776) : numStep x b = x * 256 + b.toNat := by
  have hb := b.toNat_lt
  rw [numStep_eq]
  unfold wrap64
  omega

theorem num_nil : num [] = 0 := by unfold num; rw [List.foldl_nil]

theorem num_one (a : UInt8) : num [a] = a.toNat := by
  have e : num ([] ++ [a]) = numStep (num []) a := num_snoc [] a
  rw [List.nil_append, num_nil, numStep_small 0 a (by omega) (by omega)] at e
  rw [e]
  omega

theorem num_two (a b : UInt8) : num [a, b] = a.toNat * 256 + b.toNat := by
  have ha := a.toNat_lt
  have e : num ([a] ++ [b]) = numStep (num [a]) b := num_snoc [a] b
  rw [List.singleton_append, num_one, numStep_small _ b (by omega) (by omega)] at e
  exact e

theorem num_three (a b c : UInt8) : num [a, b, c] = (a.toNat * 256 + b.toNat) * 256 + c.toNat := by
  have ha := a.toNat_lt
  have hb := b.toNat_lt
  have e : num ([a, b] ++ [c]) = numStep (num [a, b]) c := num_snoc [a, b] c
  rw [List.cons_append, List.singleton_append, num_two, numStep_small _ c (by omega) (by omega)] at e
  exact e

theorem num_four (a b c d : UInt8) : num [a, b, c, d] = ((a.toNat * 256 + b.toNat) * 256 + c.toNat) * 256 + d.toNat := by
  have ha := a.toNat_lt
  have hb := b.toNat_lt
  have hc := c.toNat_lt
  have e : num ([a, b, c] ++ [d]) = numStep (num [a, b, c]) d := num_snoc [a, b, c] d
  rw [List.cons_append, List.cons_append, List.singleton_append, num_three, numStep_small _ d (by omega) (by omega)] at e
  exact e

theorem four_of {bs : List UInt8} (h : bs.length = 4) : ∃ a b c d, bs = [a, b, c, d] := by
  match bs, h with
  | [a, b, c, d], _ => exact ⟨a, b, c, d, rfl⟩

theorem one_of {bs : List UInt8} (h : bs.length = 1) : ∃ a, bs = [a] := by
  match bs, h with
  | [a], _ => exact ⟨a, rfl⟩

theorem num4_lt {bs : List UInt8} (h : bs.length = 4) : 0 ≤ num bs ∧ num bs < 4294967296 := by
  obtain ⟨a, b, c, d, rfl⟩ := four_of h
  have ha := a.toNat_lt
  have hb := b.toNat_lt
  have hc := c.toNat_lt
  have hd := d.toNat_lt
  rw [num_four]
  omega

theorem or_low (x y : Nat) (hx : x < 65536) (hy : y < 65536) : bits .or .i64 (wrap64 ((x : Int) * 65536)) (y : Int) = (x : Int) * 65536 + y := by
  have e0 : wrap64 ((x : Int) * 65536) = (x : Int) * 65536 := by unfold wrap64; omega
  rw [e0]
  have e1 : (((x : Int) * 65536) % 2 ^ 64).toNat % 2 ^ 16 = 0 := by omega
  have e2 : ((y : Int) % 2 ^ 64).toNat = y := by omega
  simp only [bits, BitVec.toNat_or, BitVec.toNat_ofInt]
  rw [show ((2 ^ IntKind.i64.bits : Nat) : Int) = 2 ^ 64 by decide, e2, nat_join 16 _ _ e1 (by omega), IntKind.wrap_i64]
  omega

/-- Two and two are four bytes of a number. -/
theorem join_four (a b c d : UInt8) : bits .or .i64 (wrap64 (num [a, b] * 65536)) (num [c, d]) = num [a, b, c, d] := by
  have ha := a.toNat_lt
  have hb := b.toNat_lt
  have hc := c.toNat_lt
  have hd := d.toNat_lt
  have h := or_low (a.toNat * 256 + b.toNat) (c.toNat * 256 + d.toNat) (by omega) (by omega)
  rw [num_two, num_two, num_four]
  rw [show ((a.toNat : Int) * 256 + b.toNat) = ((a.toNat * 256 + b.toNat : Nat) : Int) by omega, show ((c.toNat : Int) * 256 + d.toNat) = ((c.toNat * 256 + d.toNat : Nat) : Int) by omega, h]
  omega

/-- The kind and the length. -/
def front (k : Int) (n : Int) : List UInt8 := be k 1 ++ be n 4

/-- A record. -/
def record (k : Int) (bs : List UInt8) : List UInt8 := front k bs.length ++ be (csum (front k bs.length ++ bs)) 4 ++ bs

theorem front_length (k n : Int) : (front k n).length = 5 := by simp [front, be_length]
theorem record_length (k : Int) (bs : List UInt8) : (record k bs).length = 9 + bs.length := by simp [record, front_length, be_length]; omega

/-- What is told of bytes: a kind, a body, a size, an error. -/
structure Told where
  kind : Int
  body : List UInt8
  size : Int
  err : Int

/-- What is told of a kind, a length, a sum and what is behind them. -/
def told (A L S R : List UInt8) : Told :=
  if num A = 0 ∨ 1048576 < num L then ⟨0, [], 0, 5⟩
  else if (R.length : Int) < num L then ⟨0, [], 0, 7⟩
  else if num S ≠ csum (A ++ L ++ R.take (num L).toNat) then ⟨0, [], 0, 8⟩
  else ⟨num A, R.take (num L).toNat, 9 + num L, 0⟩

/-- What is told of any bytes. -/
def tell (b : List UInt8) : Told :=
  if b.length < 9 then ⟨0, [], 0, 7⟩ else told (b.take 1) ((b.drop 1).take 4) ((b.drop 5).take 4) (b.drop 9)

theorem tell_short (b : List UInt8) (h : b.length < 9) : tell b = ⟨0, [], 0, 7⟩ := if_pos h

/-- Nine bytes and more, in parts. -/
theorem parts (b : List UInt8) (h : 9 ≤ b.length) : ∃ A L S R, A.length = 1 ∧ L.length = 4 ∧ S.length = 4 ∧ b = A ++ (L ++ (S ++ R)) ∧ tell b = told A L S R := by
  refine ⟨b.take 1, (b.drop 1).take 4, (b.drop 5).take 4, b.drop 9, by simp; omega, by simp; omega, by simp; omega, ?_, if_neg (by omega)⟩
  have e1 : (b.drop 5).take 4 ++ b.drop 9 = b.drop 5 := by
    rw [show b.drop 9 = (b.drop 5).drop 4 by rw [List.drop_drop], List.take_append_drop]
  have e2 : (b.drop 1).take 4 ++ b.drop 5 = b.drop 1 := by
    rw [show b.drop 5 = (b.drop 1).drop 4 by rw [List.drop_drop], List.take_append_drop]
  rw [e1, e2, List.take_append_drop]

theorem told_form (A L S R : List UInt8) (h : num A = 0 ∨ 1048576 < num L) : told A L S R = ⟨0, [], 0, 5⟩ := if_pos h
theorem told_short (A L S R : List UInt8) (h : ¬ (num A = 0 ∨ 1048576 < num L)) (h2 : (R.length : Int) < num L) : told A L S R = ⟨0, [], 0, 7⟩ := by
  unfold told
  rw [if_neg h, if_pos h2]
theorem told_sum (A L S R : List UInt8) (h : ¬ (num A = 0 ∨ 1048576 < num L)) (h2 : ¬ (R.length : Int) < num L) (h3 : num S ≠ csum (A ++ L ++ R.take (num L).toNat)) : told A L S R = ⟨0, [], 0, 8⟩ := by
  unfold told
  rw [if_neg h, if_neg h2, if_pos h3]
theorem told_well (A L S R : List UInt8) (h : ¬ (num A = 0 ∨ 1048576 < num L)) (h2 : ¬ (R.length : Int) < num L) (h3 : num S = csum (A ++ L ++ R.take (num L).toNat)) : told A L S R = ⟨num A, R.take (num L).toNat, 9 + num L, 0⟩ := by
  unfold told
  rw [if_neg h, if_neg h2, if_neg (by simpa using h3)]

end Go.Proofs.YtnipdgigjcaolaaGreat

/- A record is told again; a beginning of it is too short; with a byte turned it is refused. -/
namespace Go.Proofs.YtnipdgigjcaolaaGreat
open Go.RowKit

theorem tell_parts {A L S : List UInt8} (R : List UInt8) (h1 : A.length = 1) (h2 : L.length = 4) (h3 : S.length = 4) : tell (A ++ (L ++ (S ++ R))) = told A L S R := by
  have e1 : (A ++ (L ++ (S ++ R))).take 1 = A := List.take_left' h1
  have d1 : (A ++ (L ++ (S ++ R))).drop 1 = L ++ (S ++ R) := List.drop_left' h1
  have e2 : (L ++ (S ++ R)).take 4 = L := List.take_left' h2
  have d5 : (A ++ (L ++ (S ++ R))).drop 5 = S ++ R := by
    rw [show A ++ (L ++ (S ++ R)) = (A ++ L) ++ (S ++ R) by simp, List.drop_left' (by simp; omega)]
  have e3 : (S ++ R).take 4 = S := List.take_left' h3
  have d9 : (A ++ (L ++ (S ++ R))).drop 9 = R := by
    rw [show A ++ (L ++ (S ++ R)) = (A ++ (L ++ S)) ++ R by simp, List.drop_left' (by simp; omega)]
  unfold tell
  rw [if_neg (by simp only [List.length_append]; omega), e1, d1, e2, d5, e3, d9]

theorem num_be4 (n : Int) (h0 : 0 ≤ n) (h1 : n < 4294967296) : num (be n 4) = n := by rw [num_be]; unfold wrap64; omega

theorem record_eq (k : Int) (bs : List UInt8) : record k bs = be k 1 ++ (be bs.length 4 ++ (be (csum (front k bs.length ++ bs)) 4 ++ bs)) := by simp [record, front]

theorem csum_small (bs : List UInt8) : (0 : Int) ≤ csum bs ∧ (csum bs : Int) < 4294967296 := by have := csum_lt bs; omega

theorem tell_record (k : Int) (bs : List UInt8) (h1 : 1 ≤ k) (h2 : k ≤ 255) (h3 : bs.length ≤ 1048576) : tell (record k bs) = ⟨k, bs, 9 + bs.length, 0⟩ := by
  have hk : num (be k 1) = k := by rw [num_be1]; omega
  have hn : num (be bs.length 4) = bs.length := num_be4 _ (by omega) (by omega)
  have hc := csum_small (front k bs.length ++ bs)
  have ht : bs.take (Int.toNat (bs.length : Int)) = bs := by rw [Int.toNat_natCast, List.take_length]
  rw [record_eq, tell_parts bs (be_length _ _) (be_length _ _) (be_length _ _), told_well _ _ _ _ (by rw [hk, hn]; omega) (by rw [hn]; omega), hk, hn, ht]
  rw [hn, ht, num_be4 _ hc.1 hc.2]
  rfl

theorem tell_cut (k : Int) (bs : List UInt8) (h1 : 1 ≤ k) (h2 : k ≤ 255) (h3 : bs.length ≤ 1048576) (n : Nat) (hn' : n < 9 + bs.length) : tell ((record k bs).take n) = ⟨0, [], 0, 7⟩ := by
  have hk : num (be k 1) = k := by rw [num_be1]; omega
  have hn : num (be bs.length 4) = bs.length := num_be4 _ (by omega) (by omega)
  by_cases h9 : n < 9
  · exact tell_short _ (by rw [List.length_take]; omega)
  · have e : (record k bs).take n = be k 1 ++ (be bs.length 4 ++ (be (csum (front k bs.length ++ bs)) 4 ++ bs.take (n - 9))) := by
      have hl : (be k 1 ++ (be bs.length 4 ++ be (csum (front k bs.length ++ bs)) 4)).length = 9 := by simp [be_length]
      have e2 : record k bs = (be k 1 ++ (be bs.length 4 ++ be (csum (front k bs.length ++ bs)) 4)) ++ bs := by rw [record_eq]; simp
      rw [e2, List.take_append, hl, List.take_of_length_le (by rw [hl]; omega)]
      simp
    rw [e, tell_parts _ (be_length _ _) (be_length _ _) (be_length _ _), told_short _ _ _ _ (by rw [hk, hn]; omega) (by rw [hn, List.length_take]; omega)]

/-- Another body of the same length, whose sum is another one. -/
theorem tell_turned (k : Int) (bs ds : List UInt8) (h1 : 1 ≤ k) (h2 : k ≤ 255) (h3 : bs.length ≤ 1048576) (hl : ds.length = bs.length) (hc : csum (front k bs.length ++ bs) ≠ csum (front k bs.length ++ ds)) :
    tell (be k 1 ++ (be bs.length 4 ++ (be (csum (front k bs.length ++ bs)) 4 ++ ds))) = ⟨0, [], 0, 8⟩ := by
  have hk : num (be k 1) = k := by rw [num_be1]; omega
  have hn : num (be bs.length 4) = bs.length := num_be4 _ (by omega) (by omega)
  have hcs := csum_small (front k bs.length ++ bs)
  have ht : ds.take (Int.toNat (bs.length : Int)) = ds := by rw [Int.toNat_natCast, ← hl, List.take_length]
  rw [tell_parts ds (be_length _ _) (be_length _ _) (be_length _ _), told_sum _ _ _ _ (by rw [hk, hn]; omega) (by rw [hn]; omega)]
  rw [hn, ht, num_be4 _ hcs.1 hcs.2]
  intro e
  exact hc (by exact_mod_cast e)

set_option maxRecDepth 20000 in
theorem record_a : record 1 [97] = [1, 0, 0, 0, 1, 89, 48, 18, 137, 97] := by decide

set_option maxRecDepth 20000 in
theorem record_hello : record 7 [104, 101, 108, 108, 111] = [7, 0, 0, 0, 5, 161, 169, 179, 39, 104, 101, 108, 108, 111] := by decide

theorem tell_a : tell [1, 0, 0, 0, 1, 89, 48, 18, 137, 97] = ⟨1, [97], 10, 0⟩ := by
  rw [← record_a]
  exact tell_record 1 [97] (by omega) (by omega) (by simp)

theorem tell_13 : tell [7, 0, 0, 0, 5, 161, 169, 179, 39, 104, 101, 108, 108] = ⟨0, [], 0, 7⟩ := by
  rw [show ([7, 0, 0, 0, 5, 161, 169, 179, 39, 104, 101, 108, 108] : List UInt8) = (record 7 [104, 101, 108, 108, 111]).take 13 by rw [record_hello]; rfl]
  exact tell_cut 7 [104, 101, 108, 108, 111] (by omega) (by omega) (by simp) 13 (by simp)

set_option maxRecDepth 20000 in
theorem hello_hellp : csum (front 7 5 ++ [104, 101, 108, 108, 111]) ≠ csum (front 7 5 ++ [104, 101, 108, 108, 112]) := by decide

set_option maxRecDepth 20000 in
theorem hello_parts : be 7 1 ++ (be ([104, 101, 108, 108, 111] : List UInt8).length 4 ++ (be (csum (front 7 ([104, 101, 108, 108, 111] : List UInt8).length ++ [104, 101, 108, 108, 111])) 4 ++ [104, 101, 108, 108, 112])) = [7, 0, 0, 0, 5, 161, 169, 179, 39, 104, 101, 108, 108, 112] := by decide

theorem tell_hellp : tell [7, 0, 0, 0, 5, 161, 169, 179, 39, 104, 101, 108, 108, 112] = ⟨0, [], 0, 8⟩ := by
  rw [← hello_parts]
  exact tell_turned 7 [104, 101, 108, 108, 111] [104, 101, 108, 108, 112] (by omega) (by omega) (by simp) rfl hello_hellp

theorem tell_zeros : tell [0, 0, 0, 0, 0, 0, 0, 0, 0] = ⟨0, [], 0, 5⟩ := by
  have h := tell_parts (A := [0]) (L := [0, 0, 0, 0]) (S := [0, 0, 0, 0]) [] rfl rfl rfl
  rw [told_form _ _ _ _ (.inl (by rw [num_one]; rfl))] at h
  exact h

theorem tell_great : tell [1, 255, 0, 0, 0, 0, 0, 0, 0] = ⟨0, [], 0, 5⟩ := by
  have h := tell_parts (A := [1]) (L := [255, 0, 0, 0]) (S := [0, 0, 0, 0]) [] rfl rfl rfl
  rw [told_form _ _ _ _ (.inr (by rw [num_four]; decide))] at h
  exact h

end Go.Proofs.YtnipdgigjcaolaaGreat

/- What frames come to, plainly: records, marks, files. -/
namespace Go.Proofs.YtnipdgigjcaolaaGreat

theorem tell_ok {bs : List UInt8} (h : (tell bs).err = 0) : 9 ≤ (tell bs).size.toNat ∧ (tell bs).size.toNat ≤ bs.length ∧ 0 ≤ (tell bs).size ∧ (tell bs).body.length ≤ 1048576 := by
  by_cases hl : bs.length < 9
  · rw [tell_short bs hl] at h
    simp at h
  · obtain ⟨A, L, S, R, h1, h2, h3, h4, h5⟩ := parts bs (by omega)
    have hb := num4_lt h2
    have hlen := congrArg List.length h4
    simp only [List.length_append, h1, h2, h3] at hlen
    rw [h5] at h ⊢
    unfold told at h ⊢
    split at h
    · simp at h
    · rename_i c1
      rw [if_neg c1]
      split at h
      · simp at h
      · rename_i c2
        rw [if_neg c2]
        split at h
        · simp at h
        · rename_i c3
          rw [if_neg c3]
          refine ⟨by simp; omega, by simp; omega, by simp; omega, ?_⟩
          simp only [List.length_take]
          omega

/-- The frames of bytes, as far as they are whole. -/
def frsN : Nat → List UInt8 → List (Int × List UInt8)
  | 0, _ => []
  | n + 1, bs => if (tell bs).err = 0 then ((tell bs).kind, (tell bs).body) :: frsN n (bs.drop (tell bs).size.toNat) else []

def frs (bs : List UInt8) : List (Int × List UInt8) := frsN bs.length bs

theorem frsN_more : ∀ (n : Nat) (bs : List UInt8), bs.length ≤ n → frsN n bs = frs bs := by
  intro n
  induction n using Nat.strongRecOn with
  | ind n ih =>
    intro bs hn
    by_cases he : (tell bs).err = 0
    · obtain ⟨h1, h2, _⟩ := tell_ok he
      obtain ⟨m, rfl⟩ : ∃ m, n = m + 1 := ⟨n - 1, by omega⟩
      obtain ⟨k, hk⟩ : ∃ k, bs.length = k + 1 := ⟨bs.length - 1, by omega⟩
      unfold frs
      rw [hk, frsN, frsN, if_pos he, if_pos he]
      have hd : (bs.drop (tell bs).size.toNat).length ≤ k := by rw [List.length_drop]; omega
      rw [ih m (by omega) _ (by omega), ih k (by omega) _ hd]
    · have : ∀ k, frsN k bs = [] := by
        intro k
        cases k with
        | zero => rfl
        | succ k => rw [frsN, if_neg he]
      unfold frs
      rw [this, this]

theorem frs_no {bs : List UInt8} (h : (tell bs).err ≠ 0) : frs bs = [] := by
  unfold frs
  cases bs.length with
  | zero => rfl
  | succ k => rw [frsN, if_neg h]

theorem frs_yes {bs : List UInt8} (h : (tell bs).err = 0) : frs bs = ((tell bs).kind, (tell bs).body) :: frs (bs.drop (tell bs).size.toNat) := by
  obtain ⟨h1, h2, _⟩ := tell_ok h
  obtain ⟨k, hk⟩ : ∃ k, bs.length = k + 1 := ⟨bs.length - 1, by omega⟩
  conv => lhs; unfold frs
  rw [hk, frsN, if_pos h, frsN_more k _ (by rw [List.length_drop]; omega)]

/-- What a history has taken. -/
structure HSt where
  recs : List (List UInt8)
  since : Int
  begun : List (List UInt8)
  kind : Int

namespace HSt

def zero : HSt := ⟨[], 0, [], 0⟩
def fits (h : HSt) (k : Int) : Prop := h.begun = [] ∨ h.kind = k
instance (h : HSt) (k : Int) : Decidable (h.fits k) := by unfold fits; infer_instance

def begin' (h : HSt) (k : Int) (body : List UInt8) : HSt := { h with begun := h.begun ++ [body], kind := k }
def commits (h : HSt) : HSt := { h with recs := h.recs ++ h.begun, begun := [] }
def anew (h : HSt) (file : Int) : HSt := { h with recs := h.begun, since := file, begun := [] }

def take (h : HSt) (file k : Int) (body : List UInt8) : Option HSt :=
  if k = 1 ∨ k = 3 then (if h.fits k then some (h.begin' k body) else none)
  else if k = 2 then (if body ≠ [] ∨ h.begun = [] ∨ ¬ h.fits 1 then none else some h.commits)
  else if k = 4 then (if body ≠ [] ∨ ¬ h.fits 3 then none else some (h.anew file))
  else none

def takes (file : Int) : List (Int × List UInt8) → HSt → Option HSt
  | [], h => some h
  | x :: r, h => match h.take file x.1 x.2 with
    | none => none
    | some h' => takes file r h'

def fresh (h : HSt) : HSt := { h with begun := [] }

/-- A file is read. -/
def file (h : HSt) (n : Int) (bs : List UInt8) : Option HSt := takes n (frs bs) h.fresh

end HSt

end Go.Proofs.YtnipdgigjcaolaaGreat

/- Files by their numbers, what pends, and what undoes it: plain lists. -/
namespace Go.Proofs.YtnipdgigjcaolaaGreat

/-- A file that is there: its number, where its bytes lie, its bytes. -/
structure Ent where
  num : Int
  v : Value
  bs : List UInt8

/-- The bytes of a file, by its number. -/
def look : List Ent → Int → List UInt8
  | [], _ => []
  | e :: r, k => if e.num = k then e.bs else look r k

def Rise (fs : List Ent) : Prop := fs.Pairwise (fun a b => a.num < b.num)

theorem look_none {fs : List Ent} {k : Int} (h : ∀ e ∈ fs, e.num ≠ k) : look fs k = [] := by
  induction fs with
  | nil => rfl
  | cons e r ih =>
    rw [look, if_neg (h e (by simp))]
    exact ih (fun x hx => h x (by simp [hx]))

theorem look_append {a b : List Ent} {k : Int} (h : ∀ e ∈ a, e.num ≠ k) : look (a ++ b) k = look b k := by
  induction a with
  | nil => rfl
  | cons e r ih =>
    rw [List.cons_append, look, if_neg (h e (by simp))]
    exact ih (fun x hx => h x (by simp [hx]))

theorem look_head (e : Ent) (r : List Ent) : look (e :: r) e.num = e.bs := if_pos rfl

theorem look_skip {e : Ent} {r : List Ent} {k : Int} (h : e.num ≠ k) : look (e :: r) k = look r k := if_neg h

theorem look_congr {a b c : List Ent} {k : Int} (h : look b k = look c k) : look (a ++ b) k = look (a ++ c) k := by
  induction a with
  | nil => exact h
  | cons e r ih =>
    rw [List.cons_append, List.cons_append, look, look, ih]

/-- Where a file stands among those that are there, or would stand. -/
structure Place (fs : List Ent) (k : Int) (at' : Nat) (there : Bool) : Prop where
  le : at' ≤ fs.length
  pre : ∀ e ∈ fs.take at', e.num < k
  post : ∀ e ∈ fs.drop (at' + there.toNat), k < e.num
  is : there = true → ∃ e, fs[at']? = some e ∧ e.num = k

/-- The files, with bs the bytes of file k. -/
def splice (fs : List Ent) (at' : Nat) (there : Bool) (k : Int) (v : Value) (bs : List UInt8) : List Ent :=
  fs.take at' ++ ((if bs = [] then [] else [⟨k, v, bs⟩]) ++ fs.drop (at' + there.toNat))

theorem ents_split {fs : List Ent} {at' : Nat} {e : Ent} (h : fs[at']? = some e) : fs = fs.take at' ++ e :: fs.drop (at' + 1) := by
  obtain ⟨h1, h2⟩ := List.getElem?_eq_some_iff.1 h
  rw [← h2, List.getElem_cons_drop]
  simp

theorem Place.look_there {fs : List Ent} {k : Int} {at' : Nat} {e : Ent} (h : Place fs k at' true) (he : fs[at']? = some e) : look fs k = e.bs := by
  obtain ⟨e', he', hn⟩ := h.is rfl
  rw [he] at he'
  injection he' with he'
  subst he'
  rw [ents_split he, look_append (fun x hx => by have := h.pre x hx; omega), ← hn, look_head]

theorem Place.look_not {fs : List Ent} {k : Int} {at' : Nat} (h : Place fs k at' false) : look fs k = [] := by
  have h1 := h.pre
  have h2 := h.post
  refine look_none fun e he => ?_
  rw [← List.take_append_drop at' fs] at he
  rcases List.mem_append.1 he with h' | h'
  · have := h1 e h'; omega
  · have := h2 e h'; omega

theorem splice_look {fs : List Ent} {k : Int} {at' : Nat} {there : Bool} (h : Place fs k at' there) (v : Value) (bs : List UInt8) (i : Int) :
    look (splice fs at' there k v bs) i = if i = k then bs else look fs i := by
  unfold splice
  by_cases hi : i = k
  · subst hi
    rw [if_pos rfl, look_append (fun x hx => by have := h.pre x hx; omega)]
    by_cases hb : bs = []
    · rw [if_pos hb, List.nil_append, look_none (fun x hx => by have := h.post x hx; omega), hb]
    · rw [if_neg hb]
      exact look_head _ _
  · rw [if_neg hi]
    have h1 : look ((if bs = [] then [] else [⟨k, v, bs⟩]) ++ fs.drop (at' + there.toNat)) i = look (fs.drop (at' + there.toNat)) i := by
      refine look_append fun x hx => ?_
      split at hx
      · simp at hx
      · simp only [List.mem_singleton] at hx
        subst hx
        exact fun e => hi e.symm
    rw [look_congr h1]
    cases there with
    | false =>
      simp
    | true =>
      obtain ⟨e, he, hn⟩ := h.is rfl
      conv => rhs; rw [ents_split he]
      exact (look_congr (look_skip (by rw [hn]; exact fun e => hi e.symm))).symm

theorem splice_rise {fs : List Ent} {k : Int} {at' : Nat} {there : Bool} (h : Place fs k at' there) (hr : Rise fs) (v : Value) (bs : List UInt8) : Rise (splice fs at' there k v bs) := by
  unfold splice Rise at *
  have hp := hr
  rw [← List.take_append_drop at' fs, List.pairwise_append] at hp
  refine List.pairwise_append.2 ⟨hp.1, List.pairwise_append.2 ⟨?_, hr.sublist (List.drop_sublist _ _), ?_⟩, ?_⟩
  · split <;> simp
  · intro a ha b hb
    split at ha
    · simp at ha
    · simp only [List.mem_singleton] at ha
      subst ha
      exact h.post b hb
  · intro a ha b hb
    have h1 := h.pre a ha
    rcases List.mem_append.1 hb with hb | hb
    · split at hb
      · simp at hb
      · simp only [List.mem_singleton] at hb
        subst hb
        exact h1
    · have := h.post b hb
      omega

theorem splice_mem {fs : List Ent} {k : Int} {at' : Nat} {there : Bool} (h : Place fs k at' there) {v : Value} {bs : List UInt8} {e : Ent} (he : e ∈ splice fs at' there k v bs) : (e ∈ fs ∧ e.num ≠ k) ∨ (e = ⟨k, v, bs⟩ ∧ bs ≠ []) := by
  unfold splice at he
  rcases List.mem_append.1 he with he | he
  · exact .inl ⟨List.mem_of_mem_take he, by have := h.pre e he; omega⟩
  · rcases List.mem_append.1 he with he | he
    · split at he
      · simp at he
      · rename_i hb
        simp only [List.mem_singleton] at he
        exact .inr ⟨he, hb⟩
    · exact .inl ⟨List.mem_of_mem_drop he, by have := h.post e he; omega⟩

theorem splice_length {fs : List Ent} {k : Int} {at' : Nat} {there : Bool} (h : Place fs k at' there) (v : Value) (bs : List UInt8) : (splice fs at' there k v bs).length ≤ fs.length + 1 := by
  have := h.le
  unfold splice
  simp only [List.length_append, List.length_take, List.length_drop]
  split <;> simp <;> omega

/-- The cells of files. -/
def ecells : List Ent → List Value
  | [] => []
  | e :: r => .int .i64 e.num :: e.v :: ecells r

theorem ecells_length (fs : List Ent) : (ecells fs).length = fs.length * 2 := by
  induction fs with
  | nil => rfl
  | cons e r ih => simp [ecells, ih]; omega

theorem ecells_append (a b : List Ent) : ecells (a ++ b) = ecells a ++ ecells b := by
  induction a with
  | nil => rfl
  | cons e r ih => simp [ecells, ih]

theorem ecells_take : ∀ (fs : List Ent) (n : Nat), (ecells fs).take (n * 2) = ecells (fs.take n)
  | fs, 0 => by simp [ecells]
  | [], n + 1 => by simp [ecells]
  | e :: r, n + 1 => by
    rw [show (n + 1) * 2 = n * 2 + 1 + 1 by omega, ecells, List.take_succ_cons, List.take_succ_cons, ecells_take r n, List.take_succ_cons, ecells]

theorem ecells_drop : ∀ (fs : List Ent) (n : Nat), (ecells fs).drop (n * 2) = ecells (fs.drop n)
  | fs, 0 => by simp
  | [], n + 1 => by simp [ecells]
  | e :: r, n + 1 => by
    rw [show (n + 1) * 2 = n * 2 + 1 + 1 by omega, ecells, List.drop_succ_cons, List.drop_succ_cons, ecells_drop r n, List.drop_succ_cons]

theorem ecells_num : ∀ (fs : List Ent) (n : Nat) (e : Ent), fs[n]? = some e → (ecells fs)[n * 2]? = some (.int .i64 e.num)
  | [], n, e, h => by simp at h
  | x :: r, 0, e, h => by simp at h; subst h; rfl
  | x :: r, n + 1, e, h => by
    rw [show (n + 1) * 2 = n * 2 + 1 + 1 by omega, ecells, List.getElem?_cons_succ, List.getElem?_cons_succ]
    exact ecells_num r n e (by simpa using h)

theorem ecells_val : ∀ (fs : List Ent) (n : Nat) (e : Ent), fs[n]? = some e → (ecells fs)[n * 2 + 1]? = some e.v
  | [], n, e, h => by simp at h
  | x :: r, 0, e, h => by simp at h; subst h; rfl
  | x :: r, n + 1, e, h => by
    rw [show (n + 1) * 2 + 1 = (n * 2 + 1) + 1 + 1 by omega, ecells, List.getElem?_cons_succ, List.getElem?_cons_succ]
    exact ecells_val r n e (by simpa using h)

theorem ecells_one {fs : List Ent} (h : ∀ e ∈ fs, e.v.oneCell' = true) : ∀ u ∈ ecells fs, u.oneCell' = true := by
  induction fs with
  | nil => intro u hu; simp [ecells] at hu
  | cons e r ih =>
    intro u hu
    simp only [ecells, List.mem_cons] at hu
    rcases hu with rfl | rfl | hu
    · rfl
    · exact h e (by simp)
    · exact ih (fun x hx => h x (by simp [hx])) u hu

/-- The cells of a splice. -/
theorem ecells_splice (fs : List Ent) (at' : Nat) (there : Bool) (k : Int) (v : Value) (bs : List UInt8) :
    ecells (splice fs at' there k v bs) = (ecells fs).take (at' * 2) ++ ((if bs = [] then [] else [.int .i64 k, v]) ++ (ecells fs).drop ((at' + there.toNat) * 2)) := by
  unfold splice
  rw [ecells_append, ecells_append, ecells_take, ecells_drop]
  congr 2
  split <;> rfl

/-- What pends. -/
inductive DOp where
  | lay (k : Int) (bs : List UInt8)
  | rem (k : Int)

abbrev Fs := Int → List UInt8

def fput (s : Fs) (k : Int) (bs : List UInt8) : Fs := fun i => if i = k then bs else s i

def act (s : Fs) : DOp → Fs
  | .lay k bs => fput s k (s k ++ bs)
  | .rem k => fput s k []

def acts (s : Fs) (l : List DOp) : Fs := l.foldl act s

theorem acts_snoc (s : Fs) (l : List DOp) (o : DOp) : acts s (l ++ [o]) = act (acts s l) o := by simp [acts]
theorem acts_nil (s : Fs) : acts s [] = s := rfl

/-- What undoes one that pends: of which file, how many bytes were laid, or those that were taken. -/
structure Und where
  file : Int
  laid : Nat
  took : List UInt8

def undOf (s : Fs) : DOp → Und
  | .lay k bs => ⟨k, bs.length, []⟩
  | .rem k => ⟨k, 0, s k⟩

def unds (s : Fs) : List DOp → List Und
  | [] => []
  | o :: r => undOf s o :: unds (act s o) r

theorem unds_length (s : Fs) (l : List DOp) : (unds s l).length = l.length := by
  induction l generalizing s with
  | nil => rfl
  | cons o r ih => simp [unds, ih]

theorem unds_snoc (s : Fs) (l : List DOp) (o : DOp) : unds s (l ++ [o]) = unds s l ++ [undOf (acts s l) o] := by
  induction l generalizing s with
  | nil => rfl
  | cons x r ih => simp [unds, ih, acts]

theorem unds_at (s : Fs) (l : List DOp) (i : Nat) (o : DOp) (h : l[i]? = some o) : (unds s l)[i]? = some (undOf (acts s (l.take i)) o) := by
  induction l generalizing s i with
  | nil => simp at h
  | cons x r ih =>
    match i with
    | 0 => simp at h; subst h; simp [unds, acts]
    | i + 1 =>
      simp only [List.getElem?_cons_succ] at h
      simp only [unds, List.getElem?_cons_succ, List.take_succ_cons, acts, List.foldl_cons]
      exact ih (act s x) i h

theorem acts_take_succ (s : Fs) (l : List DOp) (i : Nat) (o : DOp) (h : l[i]? = some o) : acts s (l.take (i + 1)) = act (acts s (l.take i)) o := by
  obtain ⟨h1, h2⟩ := List.getElem?_eq_some_iff.1 h
  rw [List.take_succ_eq_append_getElem h1, acts_snoc, h2]

/-- A part of a change, or none of it. -/
def partOf (s : Fs) (c : Nat) : DOp → Fs
  | .lay k bs => fput s k (s k ++ bs.take c)
  | .rem _ => s

def undoF (s : Fs) (u : Und) (stays : Nat) : Fs :=
  if u.laid = 0 then fput s u.file u.took else fput s u.file ((s u.file).take ((s u.file).length - u.laid + stays))

theorem fput_fput (s : Fs) (k : Int) (a b : List UInt8) : fput (fput s k a) k b = fput s k b := by
  funext i
  unfold fput
  split <;> rfl

theorem fput_same (s : Fs) (k : Int) : fput s k (s k) = s := by
  funext i
  unfold fput
  split
  · subst_vars; rfl
  · rfl

theorem undo_lay (s : Fs) (k : Int) (bs : List UInt8) (c : Nat) (hb : bs ≠ []) : undoF (act s (.lay k bs)) (undOf s (.lay k bs)) c = partOf s c (.lay k bs) := by
  have h0 : bs.length ≠ 0 := fun h => hb (List.eq_nil_of_length_eq_zero h)
  have e1 : act s (.lay k bs) k = s k ++ bs := if_pos rfl
  unfold undoF undOf partOf
  rw [if_neg h0]
  simp only [e1]
  rw [act, fput_fput]
  congr 1
  rw [List.length_append, show (s k).length + bs.length - bs.length + c = (s k).length + c by omega, List.take_append]
  simp only [Nat.add_sub_cancel_left]
  rw [List.take_of_length_le (by omega)]

theorem undo_rem (s : Fs) (k : Int) (c : Nat) : undoF (act s (.rem k)) (undOf s (.rem k)) c = partOf s c (.rem k) := by
  unfold undoF undOf partOf
  rw [if_pos rfl, act, fput_fput, fput_same]

theorem partOf_none (s : Fs) (o : DOp) : partOf s 0 o = s := by
  cases o with
  | lay k bs => unfold partOf; simp [fput_same]
  | rem k => rfl

/-- What a crash leaves: the first ones, and a part of the next one. -/
def crashed (s : Fs) (l : List DOp) (n : Nat) (cut : Int) : Fs :=
  match l[n]? with
  | some (.lay k bs) => partOf (acts s (l.take n)) (cut % ((bs.length : Int) + 1)).toNat (.lay k bs)
  | _ => acts s (l.take n)

end Go.Proofs.YtnipdgigjcaolaaGreat

/- What the program's types of bytes are. -/
namespace Go.Proofs.YtnipdgigjcaolaaGreat

theorem Tryz.infoU8 : (Tryz.prog.info? 5).map (fun i => (i.zero, i.size, i.bytes)) = some (some (.int .u8 0), 1, 1) := by kernel_rfl

end Go.Proofs.YtnipdgigjcaolaaGreat

/- Rows of any elements that the calls own; a file is found among those that are there. -/
namespace Go.Proofs.YtnipdgigjcaolaaGreat
open Go.RowKit

theorem row_kept {S : Nat → Prop} {w w' : World} {T : TypeId} {size : Nat} {v : Value} {n : Nat} {xs : List Value} (h : w.ownsRow 0 T size v n xs) (ht : Turn S w w') (hs : ∀ k, v.ownBlock = some k → ¬ S k) : w'.ownsRow 0 T size v n xs := by
  refine ⟨h.1, ?_⟩
  rcases h.2 with hn | ⟨g, cap, cur, rfl, hb, hgg, rest⟩
  · exact .inl hn
  · refine .inr ⟨g, cap, cur, rfl, hb, ?_, rest⟩
    rw [ht.block g (Array.getElem?_eq_some_iff.1 hgg).1 (hs g rfl)]
    exact hgg

theorem row_shape {w : World} {T : TypeId} {size : Nat} {v : Value} {n : Nat} {xs : List Value} (h : w.ownsRow 0 T size v n xs) : (v = .slice none 0 0 ∧ n = 0) ∨ ∃ g cap, v = .slice (some ⟨g, 0, none⟩) n cap ∧ n ≤ cap ∧ cap ≤ maxLen ∧ g < w.heap.size := by
  rcases h.2 with h | ⟨g, cap, cur, rfl, hb, hgg, hn, hm, _⟩
  · exact .inl h
  · exact .inr ⟨g, cap, rfl, hn, hm, (Array.getElem?_eq_some_iff.1 hgg).1⟩

theorem isNaN_any (a : Int) (w : World) : Calls Tryz.prog 161 #[.int .i64 a] w fun e w' => e = .returned (.bool false) ∧ w = w' := by
  have e0 : (a != a) = false := bne_self_eq_false _
  go_enter Tryz.func161, Tryz.ntmps161
  go_wp2
  go_ret
  exact ⟨rfl, rfl⟩

set_option maxHeartbeats 400000 in
theorem compare_lt (a b : Int) (w : World) (h : a < b) : Calls Tryz.prog 136 #[.int .i64 a, .int .i64 b] w fun e w' => e = .returned (.int .i64 (-1)) ∧ w = w' := by
  go_enter Tryz.func136, Tryz.ntmps136
  go_wp2_with (go_at_call 161; refine (isNaN_any _ _).mono ?_; rintro e w' ⟨rfl, rfl⟩)
  go_ret
  exact ⟨rfl, rfl⟩

set_option maxHeartbeats 400000 in
theorem compare_gt (a b : Int) (w : World) (h : b < a) : Calls Tryz.prog 136 #[.int .i64 a, .int .i64 b] w fun e w' => e = .returned (.int .i64 1) ∧ w = w' := by
  have h' : ¬ a < b := by omega
  go_enter Tryz.func136, Tryz.ntmps136
  go_wp2_with (go_at_call 161; refine (isNaN_any _ _).mono ?_; rintro e w' ⟨rfl, rfl⟩)
  go_ret
  exact ⟨rfl, rfl⟩

set_option maxHeartbeats 400000 in
theorem compare_eq (a : Int) (w : World) : Calls Tryz.prog 136 #[.int .i64 a, .int .i64 a] w fun e w' => e = .returned (.int .i64 0) ∧ w = w' := by
  have h' : ¬ a < a := by omega
  go_enter Tryz.func136, Tryz.ntmps136
  go_wp2_with (go_at_call 161; refine (isNaN_any _ _).mono ?_; rintro e w' ⟨rfl, rfl⟩)
  go_ret
  exact ⟨rfl, rfl⟩

/-- How two numbers stand. -/
def cmpI (a b : Int) : Int := if a < b then -1 else if b < a then 1 else 0

theorem cmpI_lt {a b : Int} (h : a < b) : cmpI a b = -1 := if_pos h
theorem cmpI_gt {a b : Int} (h : b < a) : cmpI a b = 1 := by unfold cmpI; rw [if_neg (by omega), if_pos h]
theorem cmpI_eq (a : Int) : cmpI a a = 0 := by unfold cmpI; rw [if_neg (by omega), if_neg (by omega)]

theorem compare_any (a b : Int) (w : World) : Calls Tryz.prog 136 #[.int .i64 a, .int .i64 b] w fun e w' => e = .returned (.int .i64 (cmpI a b)) ∧ w = w' := by
  rcases Int.lt_trichotomy a b with h | h | h
  · rw [cmpI_lt h]; exact compare_lt a b w h
  · subst h; rw [cmpI_eq]; exact compare_eq a w
  · rw [cmpI_gt h]; exact compare_gt a b w h

set_option maxHeartbeats 400000 in
theorem find1_any (a k : Int) (ao : Option Addr) (n c : Nat) (w : World) : Calls Tryz.prog 135 #[.agg #[.int .i64 a, .slice ao n c], .int .i64 k] w fun e w' => e = .returned (.int .i64 (cmpI a k)) ∧ Turn (fun _ => False) w w' := by
  go_enter Tryz.func135, Tryz.ntmps135
  go_wp2_with (go_at_call 136; refine (compare_any _ _ _).mono ?_; rintro e w' ⟨rfl, rfl⟩)
  go_ret
  exact ⟨rfl, (Turn.refl _ _).alloc _⟩

end Go.Proofs.YtnipdgigjcaolaaGreat

/- A file is found among those that are there: slices.BinarySearchFunc, and the method find. -/
namespace Go.Proofs.YtnipdgigjcaolaaGreat
open Go.RowKit

/-- Files in memory, rising. -/
structure Files (w : World) (fv : Value) (fs : List Ent) : Prop where
  row : w.ownsRow 0 162 2 fv fs.length (ecells fs)
  rise : Rise fs
  val : ∀ e ∈ fs, ∃ ao n c, e.v = .slice ao n c

theorem Files.kept {S : Nat → Prop} {w w' : World} {fv : Value} {fs : List Ent} (h : Files w fv fs) (ht : Turn S w w') (hs : ∀ k, fv.ownBlock = some k → ¬ S k) : Files w' fv fs := ⟨row_kept h.row ht hs, h.rise, h.val⟩

theorem Files.cells {w : World} {g cap : Nat} {fs : List Ent} (h : Files w (.slice (some ⟨g, 0, none⟩) fs.length cap) fs) (j : Nat) (e : Ent) (he : fs[j]? = some e) :
    ∃ ao n c, e.v = .slice ao n c ∧ w.cell? ⟨g, j * 2, none⟩ = some (.int .i64 e.num) ∧ w.cell? ⟨g, j * 2 + 1, none⟩ = some (.slice ao n c) := by
  obtain ⟨hj, _⟩ := List.getElem?_eq_some_iff.1 he
  obtain ⟨ao, n, c, hv⟩ := h.val e (List.mem_of_getElem? he)
  refine ⟨ao, n, c, hv, ?_, ?_⟩
  · rw [h.row.cellAt (j * 2) (by omega), ecells_num fs j _ he]
  · rw [h.row.cellAt (j * 2 + 1) (by omega), ecells_val fs j _ he, hv]

theorem rise_at {fs : List Ent} (h : Rise fs) (i j : Nat) (a b : Ent) (ha : fs[i]? = some a) (hb : fs[j]? = some b) (hij : i < j) : a.num < b.num := by
  obtain ⟨h1, h2⟩ := List.getElem?_eq_some_iff.1 ha
  obtain ⟨h3, h4⟩ := List.getElem?_eq_some_iff.1 hb
  have := List.pairwise_iff_getElem.1 h i j h1 h3 hij
  rwa [h2, h4] at this

/-- Up to a all are below k, from b on none is. -/
structure Between (fs : List Ent) (k : Int) (a b : Nat) : Prop where
  lo : ∀ x e, x < a → fs[x]? = some e → e.num < k
  hi : ∀ x e, b ≤ x → fs[x]? = some e → k ≤ e.num

theorem Between.start (fs : List Ent) (k : Int) : Between fs k 0 fs.length :=
  ⟨fun x e hx => by omega, fun x e hx he => by rw [List.getElem?_eq_none (by omega)] at he; cases he⟩

theorem Between.up {fs : List Ent} {k : Int} {a b m : Nat} {e : Ent} (h : Between fs k a b) (hr : Rise fs) (he : fs[m]? = some e) (hk : e.num < k) : Between fs k (m + 1) b :=
  ⟨fun x e' hx he' => by
    by_cases hxm : x = m
    · subst hxm; rw [he] at he'; injection he' with he'; subst he'; exact hk
    · have := rise_at hr x m e' e he' he (by omega); omega, h.hi⟩

theorem Between.down {fs : List Ent} {k : Int} {a b m : Nat} {e : Ent} (h : Between fs k a b) (hr : Rise fs) (he : fs[m]? = some e) (hk : k ≤ e.num) : Between fs k a m :=
  ⟨h.lo, fun x e' hx he' => by
    by_cases hxm : x = m
    · subst hxm; rw [he] at he'; injection he' with he'; subst he'; exact hk
    · have := rise_at hr m x e e' he he' (by omega); omega⟩

theorem Between.pre {fs : List Ent} {k : Int} {a b : Nat} (h : Between fs k a b) : ∀ e ∈ fs.take a, e.num < k := by
  intro e he
  obtain ⟨x, hx⟩ := List.mem_iff_getElem?.1 he
  rw [List.getElem?_take] at hx
  split at hx
  · exact h.lo x e ‹_› hx
  · cases hx

theorem Between.place {fs : List Ent} {k : Int} {a : Nat} {e : Ent} (h : Between fs k a a) (hr : Rise fs) (he : fs[a]? = some e) (there : Bool) (ht : there = decide (e.num = k)) : Place fs k a there := by
  obtain ⟨hl, _⟩ := List.getElem?_eq_some_iff.1 he
  refine ⟨by omega, h.pre, ?_, ?_⟩
  · intro x hx
    obtain ⟨j, hj⟩ := List.mem_iff_getElem?.1 hx
    rw [List.getElem?_drop] at hj
    have h1 := h.hi a e (by omega) he
    cases there with
    | true =>
      simp at ht
      have := rise_at hr a _ e x he hj (by simp; omega)
      omega
    | false =>
      simp at ht
      simp at hj
      by_cases h0 : j = 0
      · subst h0; simp at hj; rw [he] at hj; injection hj with hj; subst hj; omega
      · have := rise_at hr a _ e x he hj (by omega)
        omega
  · rintro rfl
    exact ⟨e, he, by simpa using ht⟩

theorem Between.place_end {fs : List Ent} {k : Int} (h : Between fs k fs.length fs.length) : Place fs k fs.length false :=
  ⟨by omega, h.pre, by simp, by simp⟩

/-- What a search tells. -/
def Found (fs : List Ent) (k : Int) (w : World) (e : Ending) (w' : World) : Prop :=
  ∃ (at' : Nat) (there : Bool), e = .returned (.tuple #[.int .i64 at', .bool there]) ∧ Place fs k at' there ∧ Turn (fun _ => False) w w'

set_option maxHeartbeats 1000000 in
set_option maxRecDepth 100000 in
theorem search_any (fv : Value) (fs : List Ent) (k : Int) (w : World) (h : Files w fv fs) (hlen : fs.length ≤ 1099511627776) :
    Calls Tryz.prog 134 #[fv, .int .i64 k, .func (.func 135) #[] #[]] w fun e w' => Found fs k w e w' := by
  rcases row_shape h.row with ⟨rfl, hn⟩ | ⟨g, cap, rfl, hnc, hcm, hg⟩
  · have hfs : fs = [] := List.eq_nil_of_length_eq_zero hn
    subst hfs
    go_enter Tryz.func134, Tryz.ntmps134
    go_wp2
    go_loopw [9, 10, 11] (fun i j _ wr => i = .int .i64 0 ∧ j = .int .i64 0 ∧ wr = w) (fun _ _ _ _ => 0)
    case atStart => exact ⟨rfl, rfl, rfl⟩
    case round =>
      obtain ⟨rfl, rfl, rfl⟩ := hrel
      go_wp2
      go_ret2
      exact ⟨0, false, rfl, ⟨by simp, by simp, by simp, by simp⟩, Turn.refl _ _⟩
  · unfold maxLen at hcm
    have HB := hide hg
    go_enter Tryz.func134, Tryz.ntmps134
    go_wp2
    go_loopw [9, 10, 11] (fun i j _ wr => ∃ a b : Nat, a ≤ b ∧ b ≤ fs.length ∧ i = .int .i64 a ∧ j = .int .i64 b ∧ Between fs k a b ∧ Turn (fun _ => False) w wr) (fun i j _ _ => (intOf j - intOf i).toNat)
    case atStart => exact ⟨0, fs.length, by omega, by omega, rfl, rfl, Between.start fs k, Turn.refl _ _⟩
    case round =>
      obtain ⟨a, b, hab, hb, rfl, rfl, hbt, ht⟩ := hrel
      have hf := h.kept ht (fun _ _ h => h)
      by_cases hlt : a < b
      · obtain ⟨m, hm⟩ : ∃ m, m = (a + b) / 2 := ⟨_, rfl⟩
        have hm1 : m < b := by omega
        have hm2 : a ≤ m := by omega
        obtain ⟨e, he⟩ : ∃ e, fs[m]? = some e := ⟨_, List.getElem?_eq_getElem (by omega)⟩
        obtain ⟨ao, n, c, hv, c0, c1⟩ := hf.cells m e he
        have q0 : (a : Int) < b := by omega
        have q1 : IntKind.u64.wrap ((a : Int) + (b : Int)) = (a : Int) + (b : Int) := by rw [IntKind.wrap_u64]; omega
        have q2 : ((a : Int) + (b : Int)) / 2 = (m : Int) := by omega
        have q3 : (a : Int) + (b : Int) ≤ 2199023255552 := by omega
        have q4 : m < fs.length := by omega
        have He := hide he
        clear hm he hv
        go_wp2_with fail
        refine (find1_any _ _ _ _ _ _).mono ?_
        rintro e1 w1 ⟨rfl, t1⟩
        have ht1 := ht.trans t1
        by_cases hk : e.num < k
        · rw [cmpI_lt hk]
          go_wp2
          go_roundw
          case rel => exact ⟨m + 1, b, by omega, hb, by go_num, rfl, hbt.up h.rise (unhide He) hk, ht1⟩
          case measure => simp [intOf]; omega
        · have hk' : 0 ≤ cmpI e.num k := by unfold cmpI; split; omega; split <;> omega
          generalize cmpI e.num k = ck at *
          go_wp2
          go_roundw
          case rel => exact ⟨a, m, hm2, by omega, rfl, rfl, hbt.down h.rise (unhide He) (by omega), ht1⟩
          case measure => simp [intOf]; omega
      · obtain rfl : a = b := by omega
        have q0 : ¬ (a : Int) < a := by omega
        by_cases hl : a < fs.length
        · obtain ⟨e, he⟩ : ∃ e, fs[a]? = some e := ⟨_, List.getElem?_eq_getElem (by omega)⟩
          obtain ⟨ao, n, c, hv, c0, c1⟩ := hf.cells a e he
          have q1 : (a : Int) < fs.length := by omega
          have He := hide he
          clear he hv
          go_wp2_with fail
          refine (find1_any _ _ _ _ _ _).mono ?_
          rintro e1 w1 ⟨rfl, t1⟩
          have ht1 := ht.trans t1
          by_cases hk : e.num = k
          · have hp := hbt.place h.rise (unhide He) true (by simp [hk])
            rw [hk, cmpI_eq]
            go_wp2
            go_ret2
            exact ⟨a, true, rfl, hp, ht1⟩
          · have hp := hbt.place h.rise (unhide He) false (by simp [hk])
            have hk' : ¬ cmpI e.num k = 0 := by unfold cmpI; split; omega; split <;> omega
            have hk2 : (cmpI e.num k == 0) = false := by simpa using hk'
            generalize cmpI e.num k = ck at *
            go_wp2
            go_ret2
            exact ⟨a, false, rfl, hp, ht1⟩
        · obtain rfl : a = fs.length := by omega
          go_wp2
          go_ret2
          exact ⟨_, false, rfl, hbt.place_end, ht⟩

/-- A Disk's fields. -/
def dcells (fv pv : Value) (wk : Nat) (fu : Bool) (lf : Int) (de : Bool) : Array Value := #[fv, pv, .int .i64 wk, .bool fu, .int .i64 lf, .bool de]

set_option maxHeartbeats 400000 in
theorem find_any (b : Nat) (fv pv : Value) (wk : Nat) (fu : Bool) (lf : Int) (de : Bool) (fs : List Ent) (k : Int) (w : World) (hd : At 83 w b (dcells fv pv wk fu lf de)) (h : Files w fv fs) (hlen : fs.length ≤ 1099511627776) :
    Calls Tryz.prog 104 #[.pointer (some ⟨b, 0, none⟩), .int .i64 k] w fun e w' => Found fs k w e w' := by
  have c0 : w.cell? ⟨b, 0, none⟩ = some fv := hd.cell 0
  obtain ⟨ao, n, c, rfl⟩ : ∃ ao n c, fv = .slice ao n c := by
    rcases row_shape h.row with ⟨rfl, _⟩ | ⟨g, cap, rfl, _⟩ <;> exact ⟨_, _, _, rfl⟩
  go_enter Tryz.func104, Tryz.ntmps104
  go_wp2_with fail
  refine (search_any _ fs k _ h hlen).mono ?_
  rintro e w1 ⟨at', there, rfl, hp, t1⟩
  go_wp2
  go_ret2
  exact ⟨at', there, rfl, hp, t1⟩

end Go.Proofs.YtnipdgigjcaolaaGreat

/- What slices.Delete and slices.Insert do to a row of entries of one's own. -/
namespace Go.Proofs.YtnipdgigjcaolaaGreat
open Go.RowKit

theorem turn_setRow (w : World) (g : Nat) (row : Array Value) : Turn (fun k => k = g) w (w.setRow g row) :=
  ⟨rfl, rfl, rfl, by simp [World.setRow], fun k _ hk => setRow_other w g k row hk⟩

/-- A list with other things from a place on. -/
def seg {α : Type} (l : List α) (o : Nat) (cs : List α) : List α := l.take o ++ cs ++ l.drop (o + cs.length)

theorem seg_length {α : Type} (l : List α) (o : Nat) (cs : List α) (h : o + cs.length ≤ l.length) : (seg l o cs).length = l.length := by
  simp [seg]
  omega

theorem seg_take {α : Type} (l : List α) (o : Nat) (cs : List α) (h : o + cs.length ≤ l.length) : (seg l o cs).take (o + cs.length) = l.take o ++ cs := by
  unfold seg
  rw [List.take_append_of_le_length (by simp; omega), List.take_of_length_le (by simp; omega)]

theorem seg_front {α : Type} (l : List α) (o n : Nat) (cs : List α) (hn : n ≤ o) (h : o + cs.length ≤ l.length) : (seg l o cs).take n = l.take n := by
  unfold seg
  rw [List.append_assoc, List.take_append_of_le_length (by simp; omega), List.take_take, Nat.min_eq_left hn]

theorem seg_back {α : Type} (l : List α) (o n : Nat) (cs : List α) (hn : o + cs.length ≤ n) (h : o + cs.length ≤ l.length) : (seg l o cs).drop n = l.drop n := by
  unfold seg
  rw [List.drop_append]
  have h1 : (l.take o ++ cs).length = o + cs.length := by simp; omega
  rw [List.drop_eq_nil_of_le (by omega), h1, List.nil_append, List.drop_drop]
  congr 1
  omega

section
variable {P : Program}

theorem run_copy_sized (w : World) (dT sT ty elem : TypeId) (s g o dLen dCap : Nat) (a : Addr) (sLen sCap : Nat) (cur : Array Value) (t : TypeId) (cs : List Value)
    (hu : P.underlying dT = some (.slice elem)) (hs : (P.info? elem).map (·.size) = some s)
    (hg : w.heap[g]? = some (.cells cur t (0, 0))) (hn : cs.length = Nat.min sLen dLen * s)
    (hsrc : ∀ j v, cs[j]? = some v → w.cell? (a.add j) = some v) (hfit : o + cs.length ≤ cur.size) (h1 : ∀ v ∈ cs, v.oneCell' = true) :
    (Builtin.copy_ #[dT, sT] ty #[.slice (some ⟨g, o, none⟩) dLen dCap, .slice (some a) sLen sCap]).run P w =
      .ok (goInt (Nat.min sLen dLen)) (w.setRow g (seg cur.toList o cs).toArray) := by
  have hf := run_firstCells_some (P := P) w s (Nat.min sLen dLen) a sLen sCap cs hn hsrc
  have hst := run_storeCells_at P g o t cs 0 cur w hg (by simpa using hfit) h1
  obtain ⟨i, hq, hi⟩ := Option.map_eq_some_iff.1 hs
  simp only [Nat.add_zero] at hst
  simp [Builtin.copy_, run_underlying hu, Builtin.lenOf, sizeOf, typeInfo, hq, hi, hf, hst, seg]

theorem run_clear_sized (w : World) (t e ty : TypeId) (z : Value) (ht : P.underlying t = some (.slice e)) (hv : ∀ w, (zeroValue e).run P w = .ok z w) (g o n c : Nat) (hn : 0 < n) (cur : Array Value) (hg : w.heap[g]? = some (.cells cur e (0, 0)))
    (hfit : o + n * z.cells.size ≤ cur.size) (h1 : ∀ v ∈ (Builtin.zeroCells z.cells n).toList, v.oneCell' = true) :
    (Builtin.clear_ #[t] ty #[.slice (some ⟨g, o, none⟩) n c]).run P w = .ok (.tuple #[]) (w.setRow g (seg cur.toList o (Builtin.zeroCells z.cells n).toList).toArray) := by
  have hst := run_storeCells_at P g o e (Builtin.zeroCells z.cells n).toList 0 cur w hg (by rw [Array.length_toList, size_zeroCells]; simpa using hfit) h1
  simp only [Nat.add_zero] at hst
  obtain ⟨m, rfl⟩ : ∃ m, n = m + 1 := ⟨n - 1, by omega⟩
  simp [Builtin.clear_, run_underlying ht, hv, hst, seg]

theorem wpList_clear_run {w : World} {ops : Array Oper} {rest : List Oper} {o : Oper} {a : Act} {Q : Exit → Act → World → Prop} (hgd : o.guard = none) (x : Operand) (t : TypeId)
    (ho : o.op = .call { callee := .builtin .clear, args := #[x], argTypes := #[t] }) (v v' : Value) (w' : World) (hx : a.eval x = v)
    (hr : (Builtin.clear_ #[t] o.type #[v]).run P w = .ok v' w') (h : wpList P ops Q rest (a.put o.dst v') w') : wpList P ops Q (o :: rest) a w := by
  refine wpList_plain hgd fun _ hK => ?_
  unfold Oper.wp execOp
  simp only [ho, resolve, invoke, builtin, Sem.run_bind, Sem.run_pure, Result.andThen_ok, List.map_toArray, List.map_cons, List.map_nil, hx, hr]
  exact hK _ _ h

theorem wpList_copy_run {w : World} {ops : Array Oper} {rest : List Oper} {o : Oper} {a : Act} {Q : Exit → Act → World → Prop} (hgd : o.guard = none) (s x : Operand) (t : TypeId)
    (ho : o.op = .call { callee := .builtin .copy, args := #[s, x], argTypes := #[t, t] }) (v sv v' : Value) (w' : World) (hs : a.eval s = v) (hx : a.eval x = sv)
    (hr : (Builtin.copy_ #[t, t] o.type #[v, sv]).run P w = .ok v' w') (h : wpList P ops Q rest (a.put o.dst v') w') : wpList P ops Q (o :: rest) a w := by
  refine wpList_plain hgd fun _ hK => ?_
  unfold Oper.wp execOp
  simp only [ho, resolve, invoke, builtin, Sem.run_bind, Sem.run_pure, Result.andThen_ok, List.map_toArray, List.map_cons, List.map_nil, hs, hx, hr]
  exact hK _ _ h

theorem step_copy_run {ops : Array Oper} {o : Oper} {a : Act} {w : World} {K : Act → World → Prop} {Q : Exit → Act → World → Prop} {E : Prop}
    (hg : o.guard = none) (s x : Operand) (t : TypeId) (hop : o.op = Op.call { callee := Callee.builtin Builtin.copy, args := #[s, x], argTypes := #[t, t] })
    (v sv v' : Value) (w' : World) (hs : a.eval s = v) (hx : a.eval x = sv) (hr : (Builtin.copy_ #[t, t] o.type #[v, sv]).run P w = .ok v' w') (hK : K (a.put o.dst v') w') :
    if Region.wanted o (yielded ops a.tmps) = true then Oper.wp P o a w K Q else E := by
  have hw : Region.wanted o (yielded ops a.tmps) = true := by simp [Region.wanted, hg]
  rw [if_pos hw]
  unfold Oper.wp
  simp [execOp, hop, resolve, invoke, builtin, hs, hx, hr, Result.andThen]
  exact hK

end

end Go.Proofs.YtnipdgigjcaolaaGreat

/- Slices of values of one cell, whatever their type: what they show, those of the calls' own, append onto them. -/
namespace Go.Proofs.YtnipdgigjcaolaaGreat
open Go.RowKit

/-- What a slice of values of one cell each shows in a world. -/
def SeesC (w : World) (v : Value) (cs : List Value) : Prop :=
  (v = .slice none 0 0 ∧ cs = []) ∨
  ∃ a cap, v = .slice (some a) cs.length cap ∧ cs.length ≤ cap ∧ cap ≤ maxLen ∧ ∀ j u, cs[j]? = some u → w.cell? (a.add j) = some u

theorem SeesC.kept {S : Nat → Prop} {w w' : World} {v : Value} {cs : List Value} (h : SeesC w v cs) (ht : Turn S w w') (hs : ∀ k, slab v = some k → ¬ S k) : SeesC w' v cs := by
  rcases h with h | ⟨a, cap, rfl, hc, hm, hcell⟩
  · exact .inl h
  · refine .inr ⟨a, cap, rfl, hc, hm, fun j u hj => ?_⟩
    have h1 := hcell j u hj
    have hlt := World.block_lt_of_cell? _ _ h1
    rw [ht.cell hlt (by rw [addr_add_block]; exact hs _ rfl)]
    exact h1

theorem SeesC.len {w : World} {v : Value} {cs : List Value} (h : SeesC w v cs) : cs.length ≤ maxLen := by
  rcases h with ⟨_, rfl⟩ | ⟨_, _, _, h1, h2, _⟩
  · simp [maxLen]
  · omega

/-- The cells of a block, laid there whole. -/
theorem SeesC.lit (w : World) (cs : List Value) (T : TypeId) (h : cs.length ≤ maxLen) : SeesC (w.alloc (.cells cs.toArray T)) (.slice (some ⟨w.heap.size, 0, none⟩) cs.length cs.length) cs :=
  .inr ⟨_, _, rfl, Nat.le_refl _, h, fun j u hj => by
    rw [show (⟨w.heap.size, 0, none⟩ : Addr).add j = ⟨w.heap.size, j, none⟩ by unfold Addr.add; split <;> simp_all]
    rw [cell_of_row _ w.heap.size j _ T (0, 0) (heap_alloc_new w _)]
    simpa using hj⟩

/-- The front of a slice. -/
theorem SeesC.front {w : World} {a : Addr} {cap : Nat} {cs : List Value} (h : SeesC w (.slice (some a) cs.length cap) cs) (n : Nat) (hn : n ≤ cs.length) : SeesC w (.slice (some a) n cap) (cs.take n) := by
  rcases h with ⟨h, _⟩ | ⟨a', cap', e, hc, hm, hcell⟩
  · simp at h
  · simp only [Value.slice.injEq, Option.some.injEq, true_and] at e
    obtain ⟨rfl, rfl⟩ := e
    refine .inr ⟨a, cap, by simp [Nat.min_eq_left hn], by simp; omega, hm, fun j u hj => hcell j u ?_⟩
    rw [← hj]
    have := (List.getElem?_eq_some_iff.1 hj).1
    rw [List.length_take] at this
    rw [List.getElem?_take, if_pos (by omega)]

/-- What is behind the front. -/
theorem SeesC.behind {w : World} {a : Addr} {cap : Nat} {cs : List Value} (h : SeesC w (.slice (some a) cs.length cap) cs) (n : Nat) (hn : n ≤ cs.length) (a2 : Addr) (h2 : a2 = a.add n ∨ n = cap) : SeesC w (.slice (some a2) (cs.length - n) (cap - n)) (cs.drop n) := by
  rcases h with ⟨h, _⟩ | ⟨a', cap', e, hc, hm, hcell⟩
  · simp at h
  · simp only [Value.slice.injEq, Option.some.injEq, true_and] at e
    obtain ⟨rfl, rfl⟩ := e
    refine .inr ⟨a2, cap - n, by simp, by simp; omega, by omega, fun j u hj => ?_⟩
    have hjl := (List.getElem?_eq_some_iff.1 hj).1
    rw [List.length_drop] at hjl
    rcases h2 with rfl | h2
    · rw [show (a.add n).add j = a.add (n + j) by unfold Addr.add; split <;> split <;> simp_all <;> omega]
      refine hcell (n + j) u ?_
      rw [← hj]
      simp
    · omega

/-- A slice that the calls made, wholly their own, of elements of type T. -/
def OwnsC (T : TypeId) (w : World) (v : Value) (cs : List Value) : Prop := w.ownsRow 0 T 1 v cs.length cs

theorem OwnsC.nil (T : TypeId) (w : World) : OwnsC T w (.slice none 0 0) [] := World.ownsRow_nil w 0 T 1

theorem OwnsC.empty (T : TypeId) (w : World) : OwnsC T (w.alloc (.cells #[] T)) (.slice (some ⟨w.heap.size, 0, none⟩) 0 0) [] :=
  World.ownsRow_made w #[] 0 (Nat.zero_le _) (Nat.zero_le _) rfl

theorem OwnsC.sees {T : TypeId} {w : World} {v : Value} {cs : List Value} (h : OwnsC T w v cs) : SeesC w v cs := by
  have hc := fun g hg => World.ownsRow.cells h (g := g) hg
  rcases h.2 with ⟨rfl, hn⟩ | ⟨g, cap, cur, rfl, _, hg, hn, hm, hs, ht⟩
  · exact .inl ⟨rfl, List.eq_nil_of_length_eq_zero hn⟩
  · exact .inr ⟨⟨g, 0, none⟩, cap, rfl, hn, hm, hc g rfl⟩

theorem OwnsC.lt {T : TypeId} {w : World} {v : Value} {cs : List Value} (h : OwnsC T w v cs) {k : Nat} (hk : v.ownBlock = some k) : k < w.heap.size := (World.ownsRow.lt h k hk).2

theorem OwnsC.kept {T : TypeId} {S : Nat → Prop} {w w' : World} {v : Value} {cs : List Value} (h : OwnsC T w v cs) (ht : Turn S w w') (hs : ∀ k, v.ownBlock = some k → ¬ S k) : OwnsC T w' v cs := by
  refine ⟨h.1, ?_⟩
  rcases h.2 with hn | ⟨g, cap, cur, rfl, hb, hgg, rest⟩
  · exact .inl hn
  · refine .inr ⟨g, cap, cur, rfl, hb, ?_, rest⟩
    rw [ht.block g (Array.getElem?_eq_some_iff.1 hgg).1 (hs g rfl)]
    exact hgg

theorem OwnsC.drew {T : TypeId} {w : World} {v : Value} {cs : List Value} (h : OwnsC T w v cs) : OwnsC T w.drew v cs := h

theorem OwnsC.shape {T : TypeId} {w : World} {v : Value} {cs : List Value} (h : OwnsC T w v cs) : (v = .slice none 0 0 ∧ cs = []) ∨ ∃ g cap, v = .slice (some ⟨g, 0, none⟩) cs.length cap ∧ cs.length ≤ cap ∧ cap ≤ maxLen := by
  rcases h.2 with ⟨rfl, hn⟩ | ⟨g, cap, cur, rfl, _, _, hn, hm, _⟩
  · exact .inl ⟨rfl, List.eq_nil_of_length_eq_zero hn⟩
  · exact .inr ⟨_, _, rfl, hn, hm⟩

theorem OwnsC.slab_eq {T : TypeId} {w : World} {v : Value} {cs : List Value} (h : OwnsC T w v cs) : slab v = v.ownBlock := by
  rcases h.2 with ⟨rfl, hn⟩ | ⟨g, cap, cur, rfl, _⟩ <;> rfl

/-- append onto a slice of the calls' own, of what another slice shows. -/
theorem run_append_cells {P : Program} (w : World) (t ty T : TypeId) (i : TypeInfo) (z : Value) (bytes : Nat) (ht : P.underlying t = some (.slice T)) (hi : P.info? T = some i) (hz : i.zero = some z) (hsize : i.size = 1) (hby : i.bytes = bytes) (hzs : z.cells.size = 1)
    (v : Value) (xs : List Value) (hown : OwnsC T w v xs) (sv : Value) (ds : List Value) (hsee : SeesC w sv ds) (hone : ∀ u ∈ ds, u.oneCell' = true) (h63 : xs.length + ds.length ≤ maxLen) (hbound : (xs.length + ds.length) * bytes ≤ 140737488355328) :
    ∃ v' w', (Builtin.append_ #[t, t] ty #[v, sv]).run P w = .ok v' w' ∧ OwnsC T w' v' (xs ++ ds) ∧ w.grownBy w' v.ownBlock ∧ (v'.ownBlock = v.ownBlock ∨ v'.ownBlock = some w.heap.size) := by
  rcases hsee with ⟨rfl, rfl⟩ | ⟨a, cap, rfl, hc, hm, hcell⟩
  · exact ⟨v, w, run_append_owned_none w 0 t ty T i 1 ht hi v _ _ hown, by simpa using hown, ⟨rfl, rfl, rfl, Nat.le_refl _, fun _ _ _ => rfl⟩, .inl rfl⟩
  · obtain ⟨v', w', hr, ho, hg, _, hat⟩ := run_append_own_at (P := P) w 0 t ty T i z 1 bytes ht hi hz hsize hby hzs (by omega) v xs.length xs hown a ds.length cap ds (by omega) hcell hone h63 hbound (Nat.zero_le _)
    refine ⟨v', w', hr, ?_, hg, hat⟩
    unfold OwnsC
    rw [List.length_append]
    exact ho

/-- append as one step of a walk, by what it comes to. -/
theorem wpList_append_run {P : Program} {w : World} {ops : Array Oper} {rest : List Oper} {o : Oper} {a : Act} {Q : Exit → Act → World → Prop} (hgd : o.guard = none) (s x : Operand) (t : TypeId)
    (ho : o.op = .call { callee := .builtin .append, args := #[s, x], argTypes := #[t, t] }) (v sv v' : Value) (w' : World) (hs : a.eval s = v) (hx : a.eval x = sv)
    (hr : (Builtin.append_ #[t, t] o.type #[v, sv]).run P w = .ok v' w') (h : wpList P ops Q rest (a.put o.dst v') w') : wpList P ops Q (o :: rest) a w := by
  refine wpList_plain hgd fun _ hK => ?_
  unfold Oper.wp execOp
  simp only [ho, resolve, invoke, builtin, Sem.run_bind, Sem.run_pure, Result.andThen_ok, List.map_toArray, List.map_cons, List.map_nil, hs, hx, hr]
  exact hK _ _ h

/-- append as one step of a region that draws its order, by what it comes to. -/
theorem step_append_run {P : Program} {ops : Array Oper} {o : Oper} {a : Act} {w : World} {K : Act → World → Prop} {Q : Exit → Act → World → Prop} {E : Prop}
    (hg : o.guard = none) (s x : Operand) (t : TypeId) (hop : o.op = Op.call { callee := Callee.builtin Builtin.append, args := #[s, x], argTypes := #[t, t] })
    (v sv v' : Value) (w' : World) (hs : a.eval s = v) (hx : a.eval x = sv) (hr : (Builtin.append_ #[t, t] o.type #[v, sv]).run P w = .ok v' w') (hK : K (a.put o.dst v') w') :
    if Region.wanted o (yielded ops a.tmps) = true then Oper.wp P o a w K Q else E := by
  have hw : Region.wanted o (yielded ops a.tmps) = true := by simp [Region.wanted, hg]
  rw [if_pos hw]
  unfold Oper.wp
  simp [execOp, hop, resolve, invoke, builtin, hs, hx, hr, Result.andThen]
  exact hK

end Go.Proofs.YtnipdgigjcaolaaGreat

/- slices.Delete of one entry. -/
namespace Go.Proofs.YtnipdgigjcaolaaGreat
open Go.RowKit

theorem Tryz.infoEnt : (Tryz.prog.info? 162).map (fun i => (i.zero, i.size, i.bytes)) = some (some (.agg #[.int .i64 0, .slice none 0 0]), 2, 32) := by kernel_rfl

theorem infoEnt : ∃ i, Tryz.prog.info? 162 = some i ∧ i.zero = some (.agg #[.int .i64 0, .slice none 0 0]) ∧ i.size = 2 ∧ i.bytes = 32 := by
  obtain ⟨i, hi, h⟩ := Option.map_eq_some_iff.1 Tryz.infoEnt
  simp only [Prod.mk.injEq] at h
  exact ⟨i, hi, h.1, h.2.1, h.2.2⟩

theorem zeroEnt (w : World) : (zeroValue 162).run Tryz.prog w = .ok (.agg #[.int .i64 0, .slice none 0 0]) w := by
  obtain ⟨i, hi, hz, _⟩ := infoEnt
  simp [zeroValue, typeInfo, hi, hz]

/-- A row of entries that lies in block g. -/
structure RowAt (w : World) (g cap n : Nat) (xs : List Value) (cur : Array Value) : Prop where
  heap : w.heap[g]? = some (.cells cur 162 (0, 0))
  len : xs.length = n * 2
  le : n ≤ cap
  max : cap ≤ maxLen
  size : cur.size = cap * 2
  take : cur.toList.take (n * 2) = xs

theorem RowAt.own {w : World} {g cap n : Nat} {xs : List Value} {cur : Array Value} (h : RowAt w g cap n xs cur) : w.ownsRow 0 162 2 (.slice (some ⟨g, 0, none⟩) n cap) n xs :=
  ⟨h.len, .inr ⟨g, cap, cur, rfl, Nat.zero_le _, h.heap, h.le, h.max, h.size, h.take⟩⟩

theorem RowAt.cell {w : World} {g cap n : Nat} {xs : List Value} {cur : Array Value} (h : RowAt w g cap n xs cur) (j : Nat) (u : Value) (hj : xs[j]? = some u) : w.cell? ⟨g, j, none⟩ = some u := by
  have hl := (List.getElem?_eq_some_iff.1 hj).1
  rw [h.own.cellAt j (by rw [← h.len]; exact hl)]
  exact hj

theorem RowAt.drew {w : World} {g cap n : Nat} {xs : List Value} {cur : Array Value} (h : RowAt w g cap n xs cur) : RowAt w.drew g cap n xs cur := ⟨h.heap, h.len, h.le, h.max, h.size, h.take⟩

theorem zeroEntCells : (Builtin.zeroCells (Value.agg #[.int .i64 0, .slice none 0 0]).cells 1).toList = [.int .i64 0, .slice none 0 0] := by
  simp [Builtin.zeroCells, Value.cells]
  rfl

theorem row_at {w : World} {v : Value} {n : Nat} {xs : List Value} (h : w.ownsRow 0 162 2 v n xs) (hn : 0 < n) : ∃ g cap cur, v = .slice (some ⟨g, 0, none⟩) n cap ∧ RowAt w g cap n xs cur := by
  rcases h.2 with ⟨_, h0⟩ | ⟨g, cap, cur, rfl, _, hg, h1, h2, h3, h4⟩
  · omega
  · exact ⟨g, cap, cur, rfl, hg, h.1, h1, h2, h3, h4⟩

theorem addr_lit (g o j : Nat) : (⟨g, o, none⟩ : Addr).add j = ⟨g, o + j, none⟩ := by unfold Addr.add; split <;> simp_all

theorem seg_row {w : World} {g cap n : Nat} {xs : List Value} {cur : Array Value} (h : RowAt w g cap n xs cur) (o m : Nat) (cs : List Value) (hm : m ≤ cap) (hfit : o + cs.length ≤ cap * 2) :
    RowAt (w.setRow g (seg cur.toList o cs).toArray) g cap m ((seg cur.toList o cs).take (m * 2)) (seg cur.toList o cs).toArray := by
  have hs : cur.toList.length = cap * 2 := by rw [Array.length_toList, h.size]
  have hl := seg_length cur.toList o cs (by omega)
  refine ⟨setRow_heap w g cur _ _ _ h.heap, ?_, hm, h.max, ?_, rfl⟩
  · rw [List.length_take, hl]; omega
  · rw [List.size_toArray, hl, hs]

/-- The append within Delete. -/
theorem del_append (w : World) (g cap n i : Nat) (xs : List Value) (cur : Array Value) (h : RowAt w g cap n xs cur) (hi : i < n) (hone : ∀ u ∈ xs, u.oneCell' = true) (a : Addr) (c : Nat) (ha : a = ⟨g, (i + 1) * 2, none⟩ ∨ n = i + 1) :
    ∃ w' cur', (∀ ty, (Builtin.append_ #[80, 80] ty #[.slice (some ⟨g, 0, none⟩) i cap, .slice (some a) (n - (i + 1)) c]).run Tryz.prog w = .ok (.slice (some ⟨g, 0, none⟩) (n - 1) cap) w') ∧
      RowAt w' g cap (n - 1) (xs.take (i * 2) ++ xs.drop ((i + 1) * 2)) cur' ∧ Turn (fun k => k = g) w w' := by
  obtain ⟨t, ht, hz, hs, hb⟩ := infoEnt
  have hle := h.le
  have hxl := h.len
  have hsz := h.size
  have hnl : (xs.drop ((i + 1) * 2)).length = (n - (i + 1)) * 2 := by rw [List.length_drop, hxl]; omega
  have hr := fun ty => run_append_room (P := Tryz.prog) w 80 ty 162 t Tryz.underlying80 ht g i cap cur h.heap a (n - (i + 1)) c (xs.drop ((i + 1) * 2)) (by rw [hs]; exact hnl)
    (fun j u hj => by
      rcases ha with rfl | hc
      · rw [addr_lit]
        rw [List.getElem?_drop] at hj
        exact h.cell _ u hj
      · have := (List.getElem?_eq_some_iff.1 hj).1
        omega) (fun u hu => hone u (List.mem_of_mem_drop hu)) (by omega) (by rw [hs, hnl]; omega)
  rw [hs] at hr
  rw [show i + (n - (i + 1)) = n - 1 by omega] at hr
  have hrow := seg_row h (i * 2) (n - 1) (xs.drop ((i + 1) * 2)) (by omega) (by rw [hnl]; omega)
  unfold seg at hrow
  have e : (seg cur.toList (i * 2) (xs.drop ((i + 1) * 2))).take ((n - 1) * 2) = xs.take (i * 2) ++ xs.drop ((i + 1) * 2) := by
    have := seg_take cur.toList (i * 2) (xs.drop ((i + 1) * 2)) (by rw [hnl, Array.length_toList, hsz]; omega)
    rw [hnl, show i * 2 + (n - (i + 1)) * 2 = (n - 1) * 2 by omega] at this
    have e2 : cur.toList.take (i * 2) = xs.take (i * 2) := by
      conv => rhs; rw [← h.take, List.take_take, Nat.min_eq_left (by omega)]
    rw [this, e2]
  unfold seg at e
  rw [e] at hrow
  exact ⟨_, _, hr, hrow, turn_setRow _ _ _⟩

/-- The clear within Delete. -/
theorem del_clear (w : World) (g cap n : Nat) (xs : List Value) (cur : Array Value) (h : RowAt w g cap (n - 1) xs cur) (hn : 0 < n) (hc : n ≤ cap) (c : Nat) :
    ∃ w' cur', (∀ ty, (Builtin.clear_ #[80] ty #[.slice (some ⟨g, (n - 1) * 2, none⟩) 1 c]).run Tryz.prog w = .ok (.tuple #[]) w') ∧ RowAt w' g cap (n - 1) xs cur' ∧ Turn (fun k => k = g) w w' := by
  have hr := fun ty => run_clear_sized (P := Tryz.prog) w 80 162 ty _ Tryz.underlying80 zeroEnt g ((n - 1) * 2) 1 c (by omega) cur h.heap (by rw [h.size]; show (n - 1) * 2 + 1 * 2 ≤ _; omega) (by rw [zeroEntCells]; simp [Value.oneCell'])
  have hz : (Builtin.zeroCells (Value.agg #[.int .i64 0, .slice none 0 0]).cells 1).toList.length = 2 := by rw [zeroEntCells]; rfl
  have hrow := seg_row h ((n - 1) * 2) (n - 1) (Builtin.zeroCells (Value.agg #[.int .i64 0, .slice none 0 0]).cells 1).toList (by omega) (by rw [hz]; omega)
  rw [seg_front _ _ _ _ (by omega) (by rw [hz, Array.length_toList, h.size]; omega), h.take] at hrow
  exact ⟨_, _, hr, hrow, turn_setRow _ _ _⟩

set_option maxHeartbeats 1000000 in
set_option maxRecDepth 100000 in
theorem delete_any (v : Value) (n i : Nat) (xs : List Value) (w : World) (h : w.ownsRow 0 162 2 v n xs) (hi : i < n) (hlen : n ≤ 1099511627776) (hone : ∀ u ∈ xs, u.oneCell' = true) :
    Calls Tryz.prog 105 #[v, .int .i64 i, .int .i64 (i + 1)] w fun e w' => ∃ v', e = .returned v' ∧ w'.ownsRow 0 162 2 v' (n - 1) (xs.take (i * 2) ++ xs.drop ((i + 1) * 2)) ∧ v'.ownBlock = v.ownBlock ∧ Turn (fun k => v.ownBlock = some k) w w' := by
  obtain ⟨g, cap, cur, rfl, hr⟩ := row_at h (by omega)
  have hle := hr.le
  have hmax := hr.max
  have hmax' : cap ≤ 9223372036854775807 := hmax
  clear hmax
  have q1 : (i : Int) + 1 ≤ n := by omega
  have q2 : (n : Int) ≤ cap := by omega
  have q3 : ¬ (i : Int) = i + 1 := by omega
  have q4 : IntKind.i64.wrap ((i : Int) + 1) = (i : Int) + 1 := by rw [IntKind.wrap_i64]; omega
  have q5 : ((i : Int) + 1).toNat = i + 1 := by omega
  have q6 : i ≤ cap := by omega
  have q7 : (i : Int) ≤ i + 1 := by omega
  have q8 : (i : Int) ≤ n := by omega
  have q9 : (0 : Int) ≤ (i : Int) + 1 := by omega
  by_cases hc : cap = i + 1
  · obtain rfl : n = i + 1 := by omega
    subst hc
    obtain ⟨w1, cur1, hap, hr1, t1⟩ := del_append w.drew g (i + 1) (i + 1) i xs cur hr.drew hi hone ⟨g, 0, none⟩ 0 (.inr rfl)
    obtain ⟨w2, cur2, hcl, hr2, t2⟩ := del_clear w1 g (i + 1) (i + 1) _ cur1 hr1 (by omega) (by omega) 1
    rw [Nat.sub_self, Nat.add_sub_cancel] at hap
    rw [Nat.add_sub_cancel] at hcl
    have Hap := hide hap
    have Hcl := hide hcl
    clear hap hcl
    go_enter Tryz.func105, Tryz.ntmps105
    go_wp2_with fail
    go_region_law (refine step_append_run (by rfl) (.tmp 22) (.tmp 25) 80 (by rfl) (.slice (some ⟨g, 0, none⟩) i (i + 1)) (.slice (some ⟨g, 0, none⟩) 0 0) (.slice (some ⟨g, 0, none⟩) i (i + 1)) w1 (by rfl) (by simp [Act.eval, Act.put]) (unhide Hap _) ?_)
    have hcl := unhide Hcl 0
    go_wp2
    go_ret
    exact ⟨_, rfl, hr2.own, rfl, (((Turn.refl _ w).drew.trans t1).trans t2).mono (fun k _ e => congrArg some e.symm)⟩
  · have hc' : ¬ cap = i + 1 := hc
    obtain ⟨w1, cur1, hap, hr1, t1⟩ := del_append w.drew g cap n i xs cur hr.drew hi hone ⟨g, (i + 1) * 2, none⟩ (cap - (i + 1)) (.inl rfl)
    obtain ⟨w2, cur2, hcl, hr2, t2⟩ := del_clear w1 g cap n _ cur1 hr1 (by omega) (by omega) (cap - (n - 1))
    have Hap := hide hap
    have Hcl := hide hcl
    clear hap hcl
    go_enter Tryz.func105, Tryz.ntmps105
    go_wp2_with fail
    go_region_law (refine step_append_run (by rfl) (.tmp 22) (.tmp 25) 80 (by rfl) (.slice (some ⟨g, 0, none⟩) i cap) (.slice (some ⟨g, (i + 1) * 2, none⟩) (n - (i + 1)) (cap - (i + 1))) (.slice (some ⟨g, 0, none⟩) (n - 1) cap) w1 (by rfl) (by simp [Act.eval, Act.put]) (unhide Hap _) ?_)
    have hcl := unhide Hcl 0
    obtain ⟨m, rfl⟩ : ∃ m, n = m + 1 := ⟨n - 1, by omega⟩
    rw [Nat.add_sub_cancel] at hcl ⊢
    go_wp2
    go_ret
    rw [Nat.add_sub_cancel] at hr2
    exact ⟨_, rfl, hr2.own, rfl, (((Turn.refl _ w).drew.trans t1).trans t2).mono (fun k _ e => congrArg some e.symm)⟩

end Go.Proofs.YtnipdgigjcaolaaGreat

/- slices.Insert of one entry. -/
namespace Go.Proofs.YtnipdgigjcaolaaGreat
open Go.RowKit

theorem sizeEnt : (Tryz.prog.info? 162).map (·.size) = some 2 := by
  obtain ⟨i, hi, _, hs, _⟩ := infoEnt
  rw [hi]
  simp [hs]

theorem sizeOfEnt (w : World) : (Go.sizeOf 162).run Tryz.prog w = .ok 2 w := by
  obtain ⟨i, hi, _, hs, _⟩ := infoEnt
  simp [sizeOf, typeInfo, hi, hs]

/-- One entry, laid in a block of its own. -/
structure OneAt (w : World) (vb : Nat) (x0 x1 : Value) : Prop where
  heap : w.heap[vb]? = some (.cells #[x0, x1] 162 (0, 0))
  one0 : x0.oneCell' = true
  one1 : x1.oneCell' = true

theorem OneAt.cell {w : World} {vb : Nat} {x0 x1 : Value} (h : OneAt w vb x0 x1) (j : Nat) (u : Value) (hj : [x0, x1][j]? = some u) : w.cell? ((⟨vb, 0, none⟩ : Addr).add j) = some u := by
  rw [addr_lit, Nat.zero_add, cell_of_row w vb j _ _ (0, 0) h.heap]
  simpa using hj

theorem OneAt.one {w : World} {vb : Nat} {x0 x1 : Value} (h : OneAt w vb x0 x1) : ∀ u ∈ [x0, x1], u.oneCell' = true := by
  intro u hu
  simp only [List.mem_cons, List.not_mem_nil, or_false] at hu
  rcases hu with rfl | rfl
  · exact h.one0
  · exact h.one1

theorem OneAt.kept {S : Nat → Prop} {w w' : World} {vb : Nat} {x0 x1 : Value} (h : OneAt w vb x0 x1) (ht : Turn S w w') (hs : ¬ S vb) : OneAt w' vb x0 x1 :=
  ⟨(ht.block vb (Array.getElem?_eq_some_iff.1 h.heap).1 hs).trans h.heap, h.one0, h.one1⟩

theorem RowAt.kept {S : Nat → Prop} {w w' : World} {g cap n : Nat} {xs : List Value} {cur : Array Value} (h : RowAt w g cap n xs cur) (ht : Turn S w w') (hs : ¬ S g) : RowAt w' g cap n xs cur :=
  ⟨(ht.block g (Array.getElem?_eq_some_iff.1 h.heap).1 hs).trans h.heap, h.len, h.le, h.max, h.size, h.take⟩

/-- Entries are copied into a row. -/
theorem ins_copy (w : World) (g cap n o dLen dCap : Nat) (xs : List Value) (cur : Array Value) (h : RowAt w g cap n xs cur) (a : Addr) (sLen sCap : Nat) (cs : List Value) (hn : cs.length = Nat.min sLen dLen * 2)
    (hsrc : ∀ j v, cs[j]? = some v → w.cell? (a.add j) = some v) (h1 : ∀ v ∈ cs, v.oneCell' = true) (m : Nat) (hm : m ≤ cap) (hfit : o * 2 + cs.length ≤ cap * 2) :
    ∃ w' cur' r, (∀ ty, (Builtin.copy_ #[80, 80] ty #[.slice (some ⟨g, o * 2, none⟩) dLen dCap, .slice (some a) sLen sCap]).run Tryz.prog w = .ok r w') ∧
      RowAt w' g cap m ((seg cur.toList (o * 2) cs).take (m * 2)) cur' ∧ cur'.toList = seg cur.toList (o * 2) cs ∧ Turn (fun k => k = g) w w' := by
  have hr := fun ty => run_copy_sized (P := Tryz.prog) w 80 80 ty 162 2 g (o * 2) dLen dCap a sLen sCap cur _ cs Tryz.underlying80 sizeEnt h.heap hn hsrc (by rw [h.size]; exact hfit) h1
  exact ⟨_, _, _, hr, seg_row h (o * 2) m cs hm hfit, rfl, turn_setRow _ _ _⟩

/-- Two copies come to an insertion. -/
theorem ins_list (cur xs cs : List Value) (n i : Nat) (hx : cur.take (n * 2) = xs) (hl : (n + 1) * 2 ≤ cur.length) (hi : i ≤ n) (hcs : cs.length = 2) :
    (seg (seg cur ((i + 1) * 2) (xs.drop (i * 2))) (i * 2) cs).take ((n + 1) * 2) = xs.take (i * 2) ++ (cs ++ xs.drop (i * 2)) := by
  have hxl : xs.length = n * 2 := by rw [← hx, List.length_take]; omega
  have hdl : (xs.drop (i * 2)).length = (n - i) * 2 := by rw [List.length_drop, hxl]; omega
  have hs1 := seg_length cur ((i + 1) * 2) (xs.drop (i * 2)) (by omega)
  have e1 : seg (seg cur ((i + 1) * 2) (xs.drop (i * 2))) (i * 2) cs = (seg cur ((i + 1) * 2) (xs.drop (i * 2))).take (i * 2) ++ (cs ++ (seg cur ((i + 1) * 2) (xs.drop (i * 2))).drop (i * 2 + cs.length)) := by
    conv => lhs; unfold seg
    rw [List.append_assoc]
    rfl
  rw [e1, seg_front _ _ _ _ (by omega) (by omega), List.take_append, List.take_append]
  have h1 : (cur.take (i * 2)).length = i * 2 := by rw [List.length_take]; omega
  rw [h1, hcs, List.take_of_length_le (by omega), List.take_of_length_le (l := cs) (by omega)]
  congr 1
  · rw [← hx, List.take_take, Nat.min_eq_left (by omega)]
  · congr 1
    unfold seg
    rw [List.append_assoc, List.drop_append, List.drop_of_length_le (by rw [List.length_take]; omega), List.nil_append, List.length_take, Nat.min_eq_left (by omega), show i * 2 + 2 - (i + 1) * 2 = 0 by omega, List.drop_zero, List.take_append_of_le_length (by omega), List.take_of_length_le (by omega)]

/-- The copies the other way round: into a row that has the front. -/
theorem ins_list' (cur xs cs : List Value) (n i : Nat) (hxl : xs.length = n * 2) (hx : cur.take (i * 2) = xs.take (i * 2)) (hl : (n + 1) * 2 ≤ cur.length) (hi : i ≤ n) (hcs : cs.length = 2) :
    (seg (seg cur (i * 2) cs) ((i + 1) * 2) (xs.drop (i * 2))).take ((n + 1) * 2) = xs.take (i * 2) ++ (cs ++ xs.drop (i * 2)) := by
  have hdl : (xs.drop (i * 2)).length = (n - i) * 2 := by rw [List.length_drop, hxl]; omega
  have hs1 := seg_length cur (i * 2) cs (by omega)
  have h2 := seg_take (seg cur (i * 2) cs) ((i + 1) * 2) (xs.drop (i * 2)) (by omega)
  rw [hdl, show (i + 1) * 2 + (n - i) * 2 = (n + 1) * 2 by omega] at h2
  have h3 := seg_take cur (i * 2) cs (by omega)
  rw [hcs, show i * 2 + 2 = (i + 1) * 2 by omega] at h3
  rw [h2, h3, hx, List.append_assoc]

end Go.Proofs.YtnipdgigjcaolaaGreat

/- slices.Insert of one entry: its three roads. -/
namespace Go.Proofs.YtnipdgigjcaolaaGreat
open Go.RowKit

/-- What an insertion leaves. -/
def Inserted (w : World) (v : Value) (n i : Nat) (xs : List Value) (x0 x1 : Value) (e : Ending) (w' : World) : Prop :=
  ∃ v', e = .returned v' ∧ w'.ownsRow 0 162 2 v' (n + 1) (xs.take (i * 2) ++ ([x0, x1] ++ xs.drop (i * 2))) ∧ (v'.ownBlock = v.ownBlock ∨ v'.ownBlock = some w.heap.size) ∧ Turn (fun k => v.ownBlock = some k) w w'

set_option maxHeartbeats 1000000 in
set_option maxRecDepth 100000 in
theorem insert_end (v : Value) (n vb : Nat) (xs : List Value) (x0 x1 : Value) (w : World) (h : w.ownsRow 0 162 2 v n xs) (hx : OneAt w vb x0 x1) (hlen : n ≤ 1099511627776) :
    Calls Tryz.prog 106 #[v, .int .i64 n, .slice (some ⟨vb, 0, none⟩) 1 1] w (Inserted w v n n xs x0 x1) := by
  obtain ⟨t, ht, hz, hs, hb⟩ := infoEnt
  obtain ⟨v', w', hr, ho, hg, _, hat⟩ := run_append_own_at (P := Tryz.prog) w 0 80 80 162 t _ 2 32 Tryz.underlying80 ht hz hs hb rfl (by omega) v n xs h ⟨vb, 0, none⟩ 1 1 [x0, x1] rfl hx.cell hx.one (by unfold maxLen; omega) (by omega) (Nat.zero_le _)
  have hfin : Inserted w v n n xs x0 x1 (.returned v') w' := by
    refine ⟨v', rfl, ?_, hat, (Turn.refl _ w).grown hg (fun k hk => .inl hk)⟩
    have hl := h.1
    rw [List.take_of_length_le (by omega), List.drop_of_length_le (by omega), List.append_nil]
    exact ho
  have Hfin := hide hfin
  have Hr := hide hr
  have hsh := ho.2
  clear ho hg hat hr hfin
  have hsh' : ∃ ao c, v' = .slice ao (n + 1) c := by
    rcases hsh with ⟨rfl, h0⟩ | ⟨g, cap, cur, rfl, _⟩
    · omega
    · exact ⟨_, _, rfl⟩
  obtain ⟨ao, c, rfl⟩ := hsh'
  clear hsh
  rcases row_shape h with ⟨rfl, rfl⟩ | ⟨g, cap, rfl, hnc, hcm, _⟩
  · go_enter Tryz.func106, Tryz.ntmps106
    go_wp2_with (at_builtin; refine wpList_append_run rfl (.tmp 23) (.tmp 24) 80 rfl _ _ _ w' rfl rfl (unhide Hr) ?_)
    go_ret
    exact unhide Hfin
  · unfold maxLen at hcm
    have q1 : (n : Int) ≤ cap := by omega
    go_enter Tryz.func106, Tryz.ntmps106
    go_wp2_with (at_builtin; refine wpList_append_run rfl (.tmp 23) (.tmp 24) 80 rfl _ _ _ w' rfl rfl (unhide Hr) ?_)
    all_goals (
      go_ret
      exact unhide Hfin)

set_option maxHeartbeats 4000000 in
set_option maxRecDepth 100000 in
theorem insert_room (g cap n i vb : Nat) (xs : List Value) (cur : Array Value) (x0 x1 : Value) (w : World) (h : RowAt w g cap n xs cur) (hx : OneAt w vb x0 x1) (hv : vb ≠ g) (hi : i < n) (hroom : n + 1 ≤ cap) (hlen : n ≤ 1099511627776) (hone : ∀ u ∈ xs, u.oneCell' = true) :
    Calls Tryz.prog 106 #[.slice (some ⟨g, 0, none⟩) n cap, .int .i64 i, .slice (some ⟨vb, 0, none⟩) 1 1] w (Inserted w (.slice (some ⟨g, 0, none⟩) n cap) n i xs x0 x1) := by
  have hxl := h.len
  have hdl : (xs.drop (i * 2)).length = (n - i) * 2 := by rw [List.length_drop, hxl]; omega
  have hcl : cur.toList.length = cap * 2 := by rw [Array.length_toList, h.size]
  obtain ⟨w1, cur1, r1, hc1, hr1, hcur1, t1⟩ := ins_copy w.drew g cap n (i + 1) (n + 1 - (i + 1)) (cap - (i + 1)) xs cur h.drew ⟨g, i * 2, none⟩ (n + 1 - i) (cap - i) (xs.drop (i * 2)) (by rw [hdl]; simp only [Nat.min_def]; split <;> omega)
    (fun j u hj => by rw [addr_lit]; rw [List.getElem?_drop] at hj; exact h.drew.cell _ u hj) (fun u hu => hone u (List.mem_of_mem_drop hu)) n (by omega) (by rw [hdl]; omega)
  have hx1 := (hx.kept (Turn.refl (fun _ => False) w).drew (fun h => h)).kept t1 hv
  obtain ⟨w2, cur2, r2, hc2, hr2, hcur2, t2⟩ := ins_copy w1 g cap n i (n + 1 - i) (cap - i) _ cur1 hr1 ⟨vb, 0, none⟩ 1 1 [x0, x1] (by show 2 = _; simp only [Nat.min_def]; split <;> omega) hx1.cell hx.one (n + 1) hroom (by simp; omega)
  rw [hcur1, ins_list cur.toList xs [x0, x1] n i h.take (by omega) (by omega) rfl] at hr2
  have hfin : Inserted w (.slice (some ⟨g, 0, none⟩) n cap) n i xs x0 x1 (.returned (.slice (some ⟨g, 0, none⟩) (n + 1) cap)) w2 :=
    ⟨_, rfl, hr2.own, .inl rfl, (((Turn.refl _ w).drew.trans t1).trans t2).mono (fun k _ e => congrArg some e.symm)⟩
  have hov : ∀ lb cb, (callFunc 137 #[.slice (some ⟨vb, 0, none⟩) 1 1, .slice (some ⟨g, (i + 1) * 2, none⟩) lb cb]).run Tryz.prog w = .ok (.value (.bool false)) w := fun lb cb => by
    rw [run_callFunc_extern Tryz.func137 (by kernel_rfl) (by kernel_rfl) (by kernel_rfl) (e := Extern.SlicesOverlaps.overlaps #[80, 80] #[4]) (by kernel_rfl),
      Lib.run_overlaps_apart w 80 4 162 Tryz.underlying80 2 sizeOfEnt ⟨vb, 0, none⟩ ⟨g, (i + 1) * 2, none⟩ 1 1 lb cb hv 162 162 2 (cap * 2) (by unfold World.shape?; rw [hx.heap]; rfl) (by unfold World.shape?; rw [h.heap, ← h.size]) (by omega) (frozen_of_row w vb 0 _ _ hx.heap) (frozen_of_row w vb 2 _ _ hx.heap)]
    rfl
  have Hfin := hide hfin
  rw [Nat.add_sub_add_right] at hc1
  have Hc1 := hide (hc1 3)
  have Hc2 := hide (hc2 3)
  have hmax : cap ≤ 9223372036854775807 := h.max
  have q1 : (n : Int) ≤ cap := by omega
  have q2 : (i : Int) ≤ n := by omega
  have q3 : ¬ (i : Int) = n := by omega
  have q4 : (n : Int) + 1 ≤ cap := by omega
  have q5 : IntKind.i64.wrap ((i : Int) + 1) = (i : Int) + 1 := by rw [IntKind.wrap_i64]; omega
  have q6 : ((i : Int) + 1).toNat = i + 1 := by omega
  have q7 : (0 : Int) ≤ (i : Int) + 1 := by omega
  have q8 : (i : Int) + 1 ≤ n + 1 := by omega
  have q9 : ¬ cap = i + 1 := by omega
  have q10 : ¬ cap = i := by omega
  have q11 : (i : Int) ≤ (n : Int) + 1 := by omega
  have q12 : i ≤ n := by omega
  clear hc1 hc2 hr1 hr2 hcur1 hcur2 hx1 t1 t2 hfin hdl hcl hxl
  go_enter Tryz.func106, Tryz.ntmps106
  go_wp2_with (simp only [hov])
  go_region_law (refine step_copy_run (by rfl) (.tmp 73) (.tmp 76) 80 (by rfl) (.slice (some ⟨g, (i + 1) * 2, none⟩) (n - i) (cap - (i + 1))) (.slice (some ⟨g, i * 2, none⟩) (n + 1 - i) (cap - i)) r1 w1 (by simp [Act.eval, Act.put]) (by simp [Act.eval, Act.put]) (unhide Hc1) ?_)
  have hc2 := unhide Hc2
  go_wp2
  go_ret
  exact unhide Hfin

set_option maxHeartbeats 4000000 in
set_option maxRecDepth 100000 in
theorem insert_grow (g cap n i vb : Nat) (xs : List Value) (cur : Array Value) (x0 x1 : Value) (w : World) (h : RowAt w g cap n xs cur) (hx : OneAt w vb x0 x1) (hi : i < n) (hroom : cap < n + 1) (hlen : n ≤ 1099511627776) (hone : ∀ u ∈ xs, u.oneCell' = true) :
    Calls Tryz.prog 106 #[.slice (some ⟨g, 0, none⟩) n cap, .int .i64 i, .slice (some ⟨vb, 0, none⟩) 1 1] w (Inserted w (.slice (some ⟨g, 0, none⟩) n cap) n i xs x0 x1) := by
  have hxl := h.len
  have hle := h.le
  have hgl : g < w.heap.size := (Array.getElem?_eq_some_iff.1 h.heap).1
  have hvl : vb < w.heap.size := (Array.getElem?_eq_some_iff.1 hx.heap).1
  have hdl : (xs.drop (i * 2)).length = (n - i) * 2 := by rw [List.length_drop, hxl]; omega
  obtain ⟨t, ht, hz, hs, hb⟩ := infoEnt
  have hold : (Builtin.firstCells t.size i (.slice (some ⟨g, 0, none⟩) i cap)).run Tryz.prog w.drew = .ok (xs.take (i * 2)).toArray w.drew := by
    rw [hs]
    refine run_firstCells_some w.drew 2 i ⟨g, 0, none⟩ i cap (xs.take (i * 2)) (by rw [List.length_take]; omega) (fun j v hj => ?_)
    rw [addr_lit, Nat.zero_add]
    rw [List.getElem?_take] at hj
    split at hj
    · exact h.drew.cell j v hj
    · cases hj
  have hrz := fun ty => Lib.run_append_grow_zeros (P := Tryz.prog) w 80 3 ty 162 t _ .i64 .i64 Tryz.underlying80 Tryz.underlying3 ht hz (some ⟨g, 0, none⟩) i cap (xs.take (i * 2)) hold (n + 1 - i) (by omega) (by omega) (by omega) (by omega) (by rw [hb]; omega) (by rw [hb]; exact growslice_fits (by omega) (by omega))
  rw [show i + (n + 1 - i) = n + 1 by omega] at hrz
  have hge := grownCap_ge w (n + 1) cap 162
  have hcm : grownCap w (n + 1) cap 162 ≤ maxLen := grownCap_le_maxLen w (n + 1) cap 162 (by unfold maxLen; omega)
  generalize grownCap w (n + 1) cap 162 = G at *
  obtain ⟨row, hrow⟩ : ∃ row : Array Value, row = (xs.take (i * 2)).toArray ++ Builtin.zeroCells (Value.agg #[.int .i64 0, .slice none 0 0]).cells (n + 1 - i) ++ Builtin.zeroCells (Value.agg #[.int .i64 0, .slice none 0 0]).cells (G - (n + 1)) := ⟨_, rfl⟩
  rw [← hrow] at hrz
  have hrs : row.size = G * 2 := by
    rw [hrow, Array.size_append, Array.size_append, size_zeroCells, size_zeroCells, List.size_toArray, List.length_take]
    show _ + _ * 2 + _ * 2 = _
    omega
  have hrt : row.toList.take (i * 2) = xs.take (i * 2) := by
    rw [hrow, Array.toList_append, Array.toList_append, List.append_assoc, List.take_append_of_le_length (by simp; omega), List.take_of_length_le (by simp; omega)]
  have t0 : Turn (fun _ => False) w (w.drew.alloc (.cells row 162)) := (Turn.refl _ w).drew.alloc _
  have hR : RowAt (w.drew.alloc (.cells row 162)) w.heap.size G (n + 1) (row.toList.take ((n + 1) * 2)) row :=
    ⟨heap_alloc_new w.drew _, by rw [List.length_take, Array.length_toList, hrs]; omega, hge, hcm, hrs, rfl⟩
  have hx0 := hx.kept t0 (fun h => h)
  have h0 := h.kept t0 (fun h => h)
  generalize hW : w.drew.alloc (.cells row 162) = W0 at *
  obtain ⟨w1, cur1, r1, hc1, hr1, hcur1, t1⟩ := ins_copy W0 w.heap.size G (n + 1) i (n + 1 - i) (G - i) _ row hR ⟨vb, 0, none⟩ 1 1 [x0, x1] (by show 2 = _; simp only [Nat.min_def]; split <;> omega) hx0.cell hx.one (n + 1) hge (by simp; omega)
  have h1 := h0.kept t1 (by omega)
  obtain ⟨w2, cur2, r2, hc2, hr2, hcur2, t2⟩ := ins_copy w1.drew w.heap.size G (n + 1) (i + 1) (n + 1 - (i + 1)) (G - (i + 1)) _ cur1 hr1.drew ⟨g, i * 2, none⟩ (n - i) (cap - i) (xs.drop (i * 2)) (by rw [hdl]; simp only [Nat.min_def]; split <;> omega)
    (fun j u hj => by rw [addr_lit]; rw [List.getElem?_drop] at hj; exact h1.drew.cell _ u hj) (fun u hu => hone u (List.mem_of_mem_drop hu)) (n + 1) hge (by rw [hdl]; omega)
  rw [hcur1, ins_list' row.toList xs [x0, x1] n i hxl hrt (by rw [Array.length_toList, hrs]; omega) (by omega) rfl] at hr2
  have hfin : Inserted w (.slice (some ⟨g, 0, none⟩) n cap) n i xs x0 x1 (.returned (.slice (some ⟨w.heap.size, 0, none⟩) (n + 1) G)) w2 :=
    ⟨_, rfl, hr2.own, .inr rfl, ((t0.mono (fun _ _ h => h.elim)).trans' t1 (fun k hk e => by omega)).drew.trans' t2 (fun k hk e => by omega)⟩
  rw [Nat.add_sub_add_right] at hc2
  have Hfin := hide hfin
  have Hrz := hide (hrz 80)
  have Hc1 := hide (hc1 3)
  have Hc2 := hide (hc2 3)
  have hmax : cap ≤ 9223372036854775807 := h.max
  have hmaxG : G ≤ 9223372036854775807 := hcm
  have q1 : (n : Int) ≤ cap := by omega
  have q2 : (i : Int) ≤ n := by omega
  have q3 : ¬ (i : Int) = n := by omega
  have q4 : (cap : Int) < n + 1 := by omega
  have q5 : IntKind.i64.wrap ((i : Int) + 1) = (i : Int) + 1 := by rw [IntKind.wrap_i64]; omega
  have q6 : ((i : Int) + 1).toNat = i + 1 := by omega
  have q7 : (0 : Int) ≤ (i : Int) + 1 := by omega
  have q8 : (i : Int) + 1 ≤ n + 1 := by omega
  have q9 : ¬ G = i + 1 := by omega
  have q10 : ¬ cap = i := by omega
  have q11 : ¬ G = i := by omega
  have q12 : i ≤ n := by omega
  have q13 : i ≤ cap := by omega
  have q14 : (i : Int) ≤ (n : Int) + 1 := by omega
  have q15 : (n : Int) + 1 - (i : Int) = ((n + 1 - i : Nat) : Int) := by omega
  clear hc1 hc2 hr1 hr2 hcur1 hcur2 t1 t2 hfin hdl hxl hrz hold hrow hrs hrt hR hx0 h0 h1 t0 hW hcm hz ht hs hb
  have hc1 := unhide Hc1
  go_enter Tryz.func106, Tryz.ntmps106
  go_wp2_with (at_builtin; refine Lib.wpList_append_run _ rfl (.tmp 34) (.tmp 39) 80 3 rfl _ _ rfl rfl _ _ (unhide Hrz) ?_)
  go_region_law (refine step_copy_run (by rfl) (.tmp 50) (.tmp 53) 80 (by rfl) (.slice (some ⟨w.heap.size, (i + 1) * 2, none⟩) (n - i) (G - (i + 1))) (.slice (some ⟨g, i * 2, none⟩) (n - i) (cap - i)) r2 w2 (by simp [Act.eval, Act.put]) (by simp [Act.eval, Act.put]) (unhide Hc2) ?_)
  go_wp2
  go_ret
  exact unhide Hfin

theorem insert_any (v : Value) (n i vb : Nat) (xs : List Value) (x0 x1 : Value) (w : World) (h : w.ownsRow 0 162 2 v n xs) (hx : OneAt w vb x0 x1) (hv : v.ownBlock ≠ some vb) (hi : i ≤ n) (hlen : n ≤ 1099511627776) (hone : ∀ u ∈ xs, u.oneCell' = true) :
    Calls Tryz.prog 106 #[v, .int .i64 i, .slice (some ⟨vb, 0, none⟩) 1 1] w (Inserted w v n i xs x0 x1) := by
  by_cases hin : i = n
  · subst hin
    exact insert_end v i vb xs x0 x1 w h hx hlen
  · obtain ⟨g, cap, cur, rfl, hr⟩ := row_at h (by omega)
    have hvg : vb ≠ g := fun e => hv (by rw [e]; rfl)
    by_cases hroom : n + 1 ≤ cap
    · exact insert_room g cap n i vb xs cur x0 x1 w hr hx hvg (by omega) hroom hlen hone
    · exact insert_grow g cap n i vb xs cur x0 x1 w hr hx (by omega) (by omega) hlen hone

end Go.Proofs.YtnipdgigjcaolaaGreat
