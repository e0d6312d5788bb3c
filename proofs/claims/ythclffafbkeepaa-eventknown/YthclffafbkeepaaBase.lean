/- Bytes in memory: what a slice of bytes shows, what a call may turn, and one law of append for both, whatever the program. -/
import Derived.WalkKit
import Derived.WalkSpells
import Derived.WalkLawsBesides
import Derived.Laws.IdiomStrings
namespace Go.Proofs.Ythclffafbkeepaa
open Go.RowKit

theorem hide {p : Prop} (h : p) : Hid p := h
theorem unhide {p : Prop} (h : Hid p) : p := h

/-- Bytes as cells. -/
def u8s (bs : List UInt8) : List Value := bs.map fun b => Value.int .u8 (b.toNat : Int)

theorem u8s_length (bs : List UInt8) : (u8s bs).length = bs.length := by simp [u8s]
theorem u8s_append (a b : List UInt8) : u8s (a ++ b) = u8s a ++ u8s b := by simp [u8s]
theorem u8s_one {u : Value} {bs : List UInt8} (h : u ∈ u8s bs) : u.oneCell' = true := by
  obtain ⟨b, _, rfl⟩ := List.mem_map.1 h
  rfl

/-- What a slice of bytes shows in a world. -/
def Sees (w : World) (v : Value) (bs : List UInt8) : Prop :=
  (v = .slice none 0 0 ∧ bs = []) ∨
  ∃ a cap, v = .slice (some a) bs.length cap ∧ bs.length ≤ cap ∧ cap ≤ maxLen ∧ ∀ j u, (u8s bs)[j]? = some u → w.cell? (a.add j) = some u

/-- A world that has turned in the blocks of S alone, and grown. -/
structure Turn (S : Nat → Prop) (w w' : World) : Prop where
  os : w'.os = w.os
  tape : w'.tape = w.tape
  output : w'.output = w.output
  size : w.heap.size ≤ w'.heap.size
  block : ∀ k, k < w.heap.size → ¬ S k → w'.heap[k]? = w.heap[k]?

theorem Turn.refl (S : Nat → Prop) (w : World) : Turn S w w := ⟨rfl, rfl, rfl, Nat.le_refl _, fun _ _ _ => rfl⟩

theorem Turn.trans {S : Nat → Prop} {a b c : World} (h : Turn S a b) (k : Turn S b c) : Turn S a c :=
  ⟨k.os.trans h.os, k.tape.trans h.tape, k.output.trans h.output, Nat.le_trans h.size k.size, fun i hi hs => (k.block i (Nat.lt_of_lt_of_le hi h.size) hs).trans (h.block i hi hs)⟩

/-- The second step may turn what was not there at the first. -/
theorem Turn.trans' {S S' : Nat → Prop} {a b c : World} (h : Turn S a b) (k : Turn S' b c) (hS : ∀ i, i < a.heap.size → S' i → S i) : Turn S a c :=
  ⟨k.os.trans h.os, k.tape.trans h.tape, k.output.trans h.output, Nat.le_trans h.size k.size, fun i hi hs => (k.block i (Nat.lt_of_lt_of_le hi h.size) (fun h' => hs (hS i hi h'))).trans (h.block i hi hs)⟩

theorem Turn.mono {S S' : Nat → Prop} {a b : World} (h : Turn S a b) (hS : ∀ i, i < a.heap.size → S i → S' i) : Turn S' a b :=
  ⟨h.os, h.tape, h.output, h.size, fun i hi hs => h.block i hi (fun h' => hs (hS i hi h'))⟩

theorem Turn.alloc {S : Nat → Prop} {a w : World} (h : Turn S a w) (o : Obj) : Turn S a (w.alloc o) :=
  h.trans ⟨rfl, rfl, rfl, by simp, fun k hk _ => Below.heap_alloc _ _ _ hk⟩

theorem Turn.drew {S : Nat → Prop} {a w : World} (h : Turn S a w) : Turn S a w.drew := ⟨h.os, h.tape, h.output, h.size, h.block⟩

theorem Turn.setCell {S : Nat → Prop} {a w : World} (h : Turn S a w) {p : Addr} (hp : S p.block ∨ a.heap.size ≤ p.block) (u : Value) : Turn S a (w.setCell p u) := by
  refine ⟨h.os, h.tape, h.output, by simpa [World.setCell] using h.size, fun k hk hs => ?_⟩
  rw [Below.heap_setCell _ _ _ _ (by rintro rfl; exact hp.elim hs (fun h' => by omega))]
  exact h.block k hk hs

theorem Turn.grown {S : Nat → Prop} {a w w' : World} {row : Option Nat} (h : Turn S a w) (hg : w.grownBy w' row) (hr : ∀ k, row = some k → S k ∨ a.heap.size ≤ k) : Turn S a w' :=
  ⟨hg.os.trans h.os, hg.tape.trans h.tape, hg.output.trans h.output, Nat.le_trans h.size hg.size, fun k hk hs =>
    (hg.block k (Nat.lt_of_lt_of_le hk h.size) (fun e => (hr k e.symm).elim hs (fun h' => by omega))).trans (h.block k hk hs)⟩

theorem Turn.below {S : Nat → Prop} {w w' : World} (h : Turn S w w') {B : Nat} (hB : B ≤ w.heap.size) (hS : ∀ k, k < B → ¬ S k) : Below B w w' :=
  ⟨h.os, h.tape, h.output, h.size, fun k hk => h.block k (by omega) (hS k hk)⟩

theorem Turn.cell {S : Nat → Prop} {w w' : World} (h : Turn S w w') {p : Addr} (hp : p.block < w.heap.size) (hs : ¬ S p.block) : w'.cell? p = w.cell? p := World.cell?_of_block (h.block _ hp hs)
theorem Turn.frozen {S : Nat → Prop} {w w' : World} (h : Turn S w w') {p : Addr} (hp : p.block < w.heap.size) (hs : ¬ S p.block) : w'.frozen? p = w.frozen? p := World.frozen?_of_block (h.block _ hp hs)

/-- The block in which a slice's bytes lie. -/
def slab : Value → Option Nat
  | .slice (some a) _ _ => some a.block
  | _ => none

theorem addr_add_block (a : Addr) (j : Nat) : (a.add j).block = a.block := by unfold Addr.add; split <;> rfl

theorem Sees.kept {S : Nat → Prop} {w w' : World} {v : Value} {bs : List UInt8} (h : Sees w v bs) (ht : Turn S w w') (hs : ∀ k, slab v = some k → ¬ S k) : Sees w' v bs := by
  rcases h with h | ⟨a, cap, rfl, hc, hm, hcell⟩
  · exact .inl h
  · refine .inr ⟨a, cap, rfl, hc, hm, fun j u hj => ?_⟩
    have h1 := hcell j u hj
    have hlt := World.block_lt_of_cell? _ _ h1
    rw [ht.cell hlt (by rw [addr_add_block]; exact hs _ rfl)]
    exact h1

theorem Sees.below {B : Nat} {w w' : World} {v : Value} {bs : List UInt8} (h : Sees w v bs) (hs : 0 < bs.length → ∀ k, slab v = some k → k < B) (hb : Below B w w') : Sees w' v bs := by
  rcases h with h | ⟨a, cap, rfl, hc, hm, hcell⟩
  · exact .inl h
  · refine .inr ⟨a, cap, rfl, hc, hm, fun j u hj => ?_⟩
    have hpos : 0 < bs.length := by
      have := (List.getElem?_eq_some_iff.1 hj).1
      rw [u8s_length] at this
      omega
    rw [hb.cell (by rw [addr_add_block]; exact hs hpos _ rfl)]
    exact hcell j u hj

theorem Sees.kept' {S : Nat → Prop} {w w' : World} {v : Value} {bs : List UInt8} (h : Sees w v bs) (ht : Turn S w w') (hs : 0 < bs.length → ∀ k, slab v = some k → ¬ S k) : Sees w' v bs := by
  by_cases h0 : 0 < bs.length
  · exact h.kept ht (hs h0)
  · rcases h with h | ⟨a, cap, rfl, hc, hm, hcell⟩
    · exact .inl h
    · refine .inr ⟨a, cap, rfl, hc, hm, fun j u hj => ?_⟩
      have := (List.getElem?_eq_some_iff.1 hj).1
      rw [u8s_length] at this
      omega

theorem Sees.nil (w : World) : Sees w (.slice none 0 0) [] := .inl ⟨rfl, rfl⟩

theorem Sees.len {w : World} {v : Value} {bs : List UInt8} (h : Sees w v bs) : bs.length ≤ maxLen := by
  rcases h with ⟨_, rfl⟩ | ⟨_, _, _, h1, h2, _⟩
  · simp [maxLen]
  · omega

theorem Sees.lit (w : World) (bs : List UInt8) (T : TypeId) (h : bs.length ≤ maxLen) : Sees (w.alloc (.cells (u8s bs).toArray T)) (.slice (some ⟨w.heap.size, 0, none⟩) bs.length bs.length) bs :=
  .inr ⟨_, _, rfl, Nat.le_refl _, h, fun j u hj => by
    rw [show (⟨w.heap.size, 0, none⟩ : Addr).add j = ⟨w.heap.size, j, none⟩ by unfold Addr.add; split <;> simp_all]
    rw [cell_of_row _ w.heap.size j _ T (0, 0) (heap_alloc_new w _)]
    simpa using hj⟩

theorem Sees.one (w : World) (x : Int) (T : TypeId) (h0 : 0 ≤ x) (h1 : x < 256) : Sees (w.alloc (.cells #[.int .u8 x] T)) (.slice (some ⟨w.heap.size, 0, none⟩) 1 1) [UInt8.ofNat x.toNat] := by
  have h := Sees.lit w [UInt8.ofNat x.toNat] T (by simp [maxLen])
  have e : u8s [UInt8.ofNat x.toNat] = [.int .u8 x] := by
    simp only [u8s, List.map_cons, List.map_nil]
    congr 2
    rw [UInt8.toNat_ofNat']
    omega
  rw [e] at h
  exact h

/-- A slice of bytes that the calls made, wholly their own. -/
def Owns (w : World) (v : Value) (bs : List UInt8) : Prop := w.ownsRow 0 5 1 v bs.length (u8s bs)

theorem Owns.nil (w : World) : Owns w (.slice none 0 0) [] := World.ownsRow_nil w 0 5 1

theorem Owns.sees {w : World} {v : Value} {bs : List UInt8} (h : Owns w v bs) : Sees w v bs := by
  have hc := fun g hg => World.ownsRow.cells h (g := g) hg
  rcases h.2 with ⟨rfl, hn⟩ | ⟨g, cap, cur, rfl, _, hg, hn, hm, hs, ht⟩
  · exact .inl ⟨rfl, List.eq_nil_of_length_eq_zero hn⟩
  · exact .inr ⟨⟨g, 0, none⟩, cap, rfl, hn, hm, hc g rfl⟩

theorem Owns.slab_eq {w : World} {v : Value} {bs : List UInt8} (h : Owns w v bs) : slab v = v.ownBlock := by
  rcases h.2 with ⟨rfl, hn⟩ | ⟨g, cap, cur, rfl, _⟩ <;> rfl

theorem Owns.lt {w : World} {v : Value} {bs : List UInt8} (h : Owns w v bs) {k : Nat} (hk : v.ownBlock = some k) : k < w.heap.size := (World.ownsRow.lt h k hk).2

theorem Owns.kept {S : Nat → Prop} {w w' : World} {v : Value} {bs : List UInt8} (h : Owns w v bs) (ht : Turn S w w') (hs : ∀ k, v.ownBlock = some k → ¬ S k) : Owns w' v bs := by
  refine ⟨h.1, ?_⟩
  rcases h.2 with hn | ⟨g, cap, cur, rfl, hb, hgg, rest⟩
  · exact .inl hn
  · refine .inr ⟨g, cap, cur, rfl, hb, ?_, rest⟩
    rw [ht.block g (Array.getElem?_eq_some_iff.1 hgg).1 (hs g rfl)]
    exact hgg

theorem Owns.solid {w : World} {v : Value} {bs : List UInt8} (h : Owns w v bs) (h0 : 0 < bs.length) : ∃ g cap, v = .slice (some ⟨g, 0, none⟩) bs.length cap := by
  rcases h.2 with ⟨rfl, hn⟩ | ⟨g, cap, cur, rfl, _⟩
  · omega
  · exact ⟨_, _, rfl⟩

theorem Owns.shape {w : World} {v : Value} {bs : List UInt8} (h : Owns w v bs) : ∃ ao cap, v = .slice ao bs.length cap := by
  rcases h.2 with ⟨rfl, hn⟩ | ⟨g, cap, cur, rfl, _⟩
  · exact ⟨none, 0, by rw [hn]⟩
  · exact ⟨_, _, rfl⟩

theorem Sees.shape {w : World} {v : Value} {bs : List UInt8} (h : Sees w v bs) : ∃ ao cap, v = .slice ao bs.length cap := by
  rcases h with ⟨rfl, rfl⟩ | ⟨a, cap, rfl, _⟩
  · exact ⟨none, 0, rfl⟩
  · exact ⟨_, _, rfl⟩

/-- A struct of type T at the head of block b, with these cells, free to be written. -/
def At (T : TypeId) (w : World) (b : Nat) (cs : Array Value) : Prop := w.heap[b]? = some (.cells cs T (0, 0))

theorem At.lt {T : TypeId} {w : World} {b : Nat} {cs : Array Value} (h : At T w b cs) : b < w.heap.size := (Array.getElem?_eq_some_iff.1 h).1
theorem At.cell {T : TypeId} {w : World} {b : Nat} {cs : Array Value} (h : At T w b cs) (j : Nat) : w.cell? ⟨b, j, none⟩ = cs[j]? := cell_of_row w b j cs T (0, 0) h
theorem At.frozen {T : TypeId} {w : World} {b : Nat} {cs : Array Value} (h : At T w b cs) (j : Nat) : w.frozen? ⟨b, j, none⟩ = false := frozen_of_row w b j cs T h
theorem At.kept {S : Nat → Prop} {T : TypeId} {w w' : World} {b : Nat} {cs : Array Value} (h : At T w b cs) (ht : Turn S w w') (hs : ¬ S b) : At T w' b cs := (ht.block b h.lt hs).trans h
theorem At.set {T : TypeId} {w : World} {b : Nat} {cs : Array Value} (h : At T w b cs) (j : Nat) (u : Value) : At T (w.setCell ⟨b, j, none⟩ u) b (cs.setIfInBounds j u) := heap_setCell_same w b j cs T u h
theorem At.new (T : TypeId) (w : World) (cs : Array Value) : At T (w.alloc (.cells cs T)) w.heap.size cs := heap_alloc_new w _

/-- A Writer, of type T, in block b: v is its field, bs its bytes. -/
def WAt (T : TypeId) (w : World) (b : Nat) (v : Value) (bs : List UInt8) : Prop := At T w b #[v] ∧ Owns w v bs ∧ v.ownBlock ≠ some b

/-- A Reader, of type T, in block b: v is its field of bytes, bs what is left, lack whether it lacks. -/
def RAt (T : TypeId) (w : World) (b : Nat) (v : Value) (bs : List UInt8) (lack : Bool) : Prop := At T w b #[v, .bool lack] ∧ Sees w v bs ∧ slab v ≠ some b

theorem RAt.kept {S : Nat → Prop} {T : TypeId} {b : Nat} {w w' : World} {v : Value} {bs : List UInt8} {lack : Bool} (h : RAt T w b v bs lack) (ht : Turn S w w') (h1 : ¬ S b) (h2 : ∀ k, slab v = some k → ¬ S k) : RAt T w' b v bs lack :=
  ⟨h.1.kept ht h1, h.2.1.kept ht h2, h.2.2⟩

/-- The front of a slice. -/
theorem Sees.front {w : World} {a : Addr} {cap : Nat} {bs : List UInt8} (h : Sees w (.slice (some a) bs.length cap) bs) (n : Nat) (hn : n ≤ bs.length) : Sees w (.slice (some a) n cap) (bs.take n) := by
  rcases h with ⟨h, _⟩ | ⟨a', cap', e, hc, hm, hcell⟩
  · simp at h
  · simp only [Value.slice.injEq, Option.some.injEq, true_and] at e
    obtain ⟨rfl, rfl⟩ := e
    refine .inr ⟨a, cap, by simp [Nat.min_eq_left hn], by simp; omega, hm, fun j u hj => hcell j u ?_⟩
    rw [← hj]
    simp only [u8s, List.map_take, List.getElem?_take]
    rw [if_pos]
    have := (List.getElem?_eq_some_iff.1 hj).1
    simp [u8s] at this
    omega

/-- What is behind the front. -/
theorem Sees.behind {w : World} {a : Addr} {cap : Nat} {bs : List UInt8} (h : Sees w (.slice (some a) bs.length cap) bs) (n : Nat) (hn : n ≤ bs.length) (a2 : Addr) (h2 : a2 = a.add n ∨ n = cap) : Sees w (.slice (some a2) (bs.length - n) (cap - n)) (bs.drop n) := by
  rcases h with ⟨h, _⟩ | ⟨a', cap', e, hc, hm, hcell⟩
  · simp at h
  · simp only [Value.slice.injEq, Option.some.injEq, true_and] at e
    obtain ⟨rfl, rfl⟩ := e
    refine .inr ⟨a2, cap - n, by simp, by simp; omega, by omega, fun j u hj => ?_⟩
    have hjl := (List.getElem?_eq_some_iff.1 hj).1
    simp [u8s] at hjl
    rcases h2 with rfl | h2
    · rw [show (a.add n).add j = a.add (n + j) by unfold Addr.add; split <;> split <;> simp_all <;> omega]
      refine hcell (n + j) u ?_
      rw [← hj]
      simp [u8s]
    · omega

/-- One field of a Reader is stored anew. -/
theorem RAt.set {T : TypeId} {b : Nat} {w : World} {v v' : Value} {bs bs' : List UInt8} {lack : Bool} (h : RAt T w b v bs lack) (hs : Sees w v' bs') (hb : slab v' ≠ some b) :
    RAt T (w.setCell ⟨b, 0, none⟩ v') b v' bs' lack ∧ Turn (fun k => k = b) w (w.setCell ⟨b, 0, none⟩ v') := by
  have ht : Turn (fun k => k = b) w (w.setCell ⟨b, 0, none⟩ v') := (Turn.refl (fun k => k = b) w).setCell (p := ⟨b, 0, none⟩) (.inl rfl) _
  refine ⟨⟨?_, hs.kept ht (fun k hk e => hb (e ▸ hk)), hb⟩, ht⟩
  have := h.1.set 0 v'
  simpa using this

theorem RAt.lacks {T : TypeId} {b : Nat} {w : World} {v : Value} {bs : List UInt8} {lack : Bool} (h : RAt T w b v bs lack) :
    RAt T ((w.setCell ⟨b, 0, none⟩ (.slice none 0 0)).setCell ⟨b, 1, none⟩ (.bool true)) b (.slice none 0 0) [] true ∧ Turn (fun k => k = b) w ((w.setCell ⟨b, 0, none⟩ (.slice none 0 0)).setCell ⟨b, 1, none⟩ (.bool true)) := by
  have ht : Turn (fun k => k = b) w ((w.setCell ⟨b, 0, none⟩ (.slice none 0 0)).setCell ⟨b, 1, none⟩ (.bool true)) :=
    ((Turn.refl (fun k => k = b) w).setCell (p := ⟨b, 0, none⟩) (.inl rfl) _).setCell (p := ⟨b, 1, none⟩) (.inl rfl) _
  refine ⟨⟨?_, Sees.nil _, by simp [slab]⟩, ht⟩
  have := (h.1.set 0 (.slice none 0 0)).set 1 (.bool true)
  simpa using this

theorem RAt.lacks' {T : TypeId} {b : Nat} {w : World} {v : Value} {bs : List UInt8} {lack : Bool} (h : RAt T w b v bs lack) :
    RAt T ((w.setCell ⟨b, 1, none⟩ (.bool true)).setCell ⟨b, 0, none⟩ (.slice none 0 0)) b (.slice none 0 0) [] true ∧ Turn (fun k => k = b) w ((w.setCell ⟨b, 1, none⟩ (.bool true)).setCell ⟨b, 0, none⟩ (.slice none 0 0)) := by
  have ht : Turn (fun k => k = b) w ((w.setCell ⟨b, 1, none⟩ (.bool true)).setCell ⟨b, 0, none⟩ (.slice none 0 0)) :=
    ((Turn.refl (fun k => k = b) w).setCell (p := ⟨b, 1, none⟩) (.inl rfl) _).setCell (p := ⟨b, 0, none⟩) (.inl rfl) _
  refine ⟨⟨?_, Sees.nil _, by simp [slab]⟩, ht⟩
  have := (h.1.set 1 (.bool true)).set 0 (.slice none 0 0)
  simpa using this

/-- From the Reader with field v in w to the Reader with field v' in w'. -/
structure RStep (T : TypeId) (b : Nat) (w : World) (v : Value) (w' : World) (v' : Value) (bs : List UInt8) (lack : Bool) : Prop where
  at' : RAt T w' b v' bs lack
  turn : Turn (fun k => k = b) w w'
  slab : ∀ k, slab v' = some k → slab v = some k

theorem RStep.refl {T : TypeId} {b : Nat} {w : World} {v : Value} {bs : List UInt8} {lack : Bool} (h : RAt T w b v bs lack) : RStep T b w v w v bs lack := ⟨h, Turn.refl _ _, fun _ h => h⟩

theorem RStep.trans {T : TypeId} {b : Nat} {w w1 w2 : World} {v v1 v2 : Value} {bs1 bs2 : List UInt8} {l1 l2 : Bool} (h : RStep T b w v w1 v1 bs1 l1) (k : RStep T b w1 v1 w2 v2 bs2 l2) : RStep T b w v w2 v2 bs2 l2 :=
  ⟨k.at', h.turn.trans k.turn, fun j hj => h.slab j (k.slab j hj)⟩

theorem RStep.grown {T : TypeId} {b : Nat} {w w1 w2 : World} {v v1 : Value} {bs1 : List UInt8} {l1 : Bool} (h : RStep T b w v w1 v1 bs1 l1) (k : Turn (fun _ => False) w1 w2) : RStep T b w v w2 v1 bs1 l1 :=
  ⟨h.at'.kept k (fun h => h) (fun _ _ h => h), h.turn.trans' k (fun _ _ h => h.elim), h.slab⟩

theorem turn_of_grown {w w' : World} (h : w.grownBy w' none) : Turn (fun _ => False) w w' := (Turn.refl _ _).grown h (fun k hk => by cases hk)

/-- The block's slice stays where it lay, or has come to new memory. -/
def Moved (w : World) (v v' : Value) : Prop := v'.ownBlock = v.ownBlock ∨ ∃ k, v'.ownBlock = some k ∧ w.heap.size ≤ k

/-- From the Writer with field v in w to the Writer with field v' and bytes bs in w'. -/
structure WStep (T : TypeId) (b : Nat) (w : World) (v : Value) (w' : World) (v' : Value) (bs : List UInt8) : Prop where
  at' : WAt T w' b v' bs
  turn : Turn (fun k => k = b ∨ v.ownBlock = some k) w w'
  moved : Moved w v v'

theorem WStep.refl {T : TypeId} {b : Nat} {w : World} {v : Value} {bs : List UInt8} (h : WAt T w b v bs) : WStep T b w v w v bs := ⟨h, Turn.refl _ _, .inl rfl⟩

theorem WStep.trans {T : TypeId} {b : Nat} {w w1 w2 : World} {v v1 v2 : Value} {bs1 bs2 : List UInt8} (h : WStep T b w v w1 v1 bs1) (k : WStep T b w1 v1 w2 v2 bs2) : WStep T b w v w2 v2 bs2 := by
  refine ⟨k.at', h.turn.trans' k.turn ?_, ?_⟩
  · intro i hi hS
    rcases hS with hS | hS
    · exact .inl hS
    · rcases h.moved with hm | ⟨j, hj, hle⟩
      · exact .inr (hm ▸ hS)
      · rw [hj] at hS
        injection hS with e
        omega
  · rcases k.moved with hm | ⟨j, hj, hle⟩
    · rcases h.moved with hm' | ⟨j, hj, hle⟩
      · exact .inl (hm.trans hm')
      · exact .inr ⟨j, hm.trans hj, hle⟩
    · exact .inr ⟨j, hj, Nat.le_trans h.turn.size hle⟩

theorem WAt.kept {S : Nat → Prop} {T : TypeId} {b : Nat} {w w' : World} {v : Value} {bs : List UInt8} (h : WAt T w b v bs) (ht : Turn S w w') (h1 : ¬ S b) (h2 : ∀ k, v.ownBlock = some k → ¬ S k) : WAt T w' b v bs :=
  ⟨h.1.kept ht h1, h.2.1.kept ht h2, h.2.2⟩

theorem WAt.alloc {T : TypeId} {b : Nat} {w : World} {v : Value} {bs : List UInt8} (h : WAt T w b v bs) (o : Obj) : WAt T (w.alloc o) b v bs :=
  h.kept (S := fun _ => False) ((Turn.refl _ _).alloc o) (fun h => h) (fun _ _ h => h)

theorem WStep.alloc {T : TypeId} {b : Nat} {w w' : World} {v v' : Value} {bs : List UInt8} (h : WStep T b w v w' v' bs) (o : Obj) : WStep T b w v (w'.alloc o) v' bs := ⟨h.at'.alloc o, h.turn.alloc o, h.moved⟩

theorem Sees.drew {w : World} {v : Value} {bs : List UInt8} (h : Sees w v bs) : Sees w.drew v bs := h
theorem Owns.drew {w : World} {v : Value} {bs : List UInt8} (h : Owns w v bs) : Owns w.drew v bs := h
theorem WAt.drew {T : TypeId} {b : Nat} {w : World} {v : Value} {bs : List UInt8} (h : WAt T w b v bs) : WAt T w.drew b v bs := h
theorem WStep.drew {T : TypeId} {b : Nat} {w w' : World} {v v' : Value} {bs : List UInt8} (h : WStep T b w v w' v' bs) : WStep T b w v w'.drew v' bs := ⟨h.at'.drew, h.turn.drew, h.moved⟩

/-- Behind an append onto the field and the store of what it gives. -/
theorem WStep.append {T : TypeId} {b : Nat} {w w' : World} {v v' : Value} {bs bs' : List UInt8} (h : WAt T w b v bs) (ho : Owns w' v' bs') (hg : w.grownBy w' v.ownBlock) (hk : v'.ownBlock = v.ownBlock ∨ v'.ownBlock = some w.heap.size) :
    WStep T b w v (w'.setCell ⟨b, 0, none⟩ v') v' bs' := by
  have hlt := h.1.lt
  have hne : v'.ownBlock ≠ some b := by
    rcases hk with hk | hk
    · rw [hk]; exact h.2.2
    · rw [hk]; intro e; injection e with e; omega
  have ht : Turn (fun k => k = b ∨ v.ownBlock = some k) w w' := (Turn.refl _ _).grown hg fun k hk => .inl (.inr hk)
  have hat : At T w' b #[v] := (hg.block b hlt (fun e => h.2.2 e.symm)).trans h.1
  have hset := hat.set 0 v'
  refine ⟨⟨by simpa using hset, ho.kept (S := fun k => k = b) ((Turn.refl (fun k => k = b) w').setCell (p := ⟨b, 0, none⟩) (.inl rfl) _) (fun k e h' => hne (h' ▸ e)), hne⟩, ht.setCell (.inl (.inl rfl)) _, ?_⟩
  rcases hk with hk | hk
  · exact .inl hk
  · exact .inr ⟨_, hk, Nat.le_refl _⟩

section
variable {P : Program} (w : World)

/-- append onto bytes of one's own, of what another slice of bytes shows: the result is one's own; it lies where it lay, or in a new block. -/
theorem run_append_sees (t ty : TypeId) (i : TypeInfo) (ht : P.underlying t = some (.slice 5)) (hi : P.info? 5 = some i) (hz : i.zero = some (.int .u8 0)) (hsize : i.size = 1) (hby : i.bytes = 1)
    (v : Value) (xs : List UInt8) (hown : Owns w v xs) (sv : Value) (ds : List UInt8) (hsee : Sees w sv ds) (hbound : xs.length + ds.length ≤ 140737488355328) :
    ∃ v' w', (Builtin.append_ #[t, t] ty #[v, sv]).run P w = .ok v' w' ∧ Owns w' v' (xs ++ ds) ∧ w.grownBy w' v.ownBlock ∧ (v'.ownBlock = v.ownBlock ∨ v'.ownBlock = some w.heap.size) := by
  have h63 : xs.length + ds.length ≤ maxLen := by unfold maxLen; omega
  rcases hsee with ⟨rfl, rfl⟩ | ⟨a, cap, rfl, hc, hm, hcell⟩
  · refine ⟨v, w, run_append_owned_none w 0 t ty 5 i 1 ht hi v _ _ hown, by simpa using hown, ⟨rfl, rfl, rfl, Nat.le_refl _, fun _ _ _ => rfl⟩, .inl rfl⟩
  · have hone : ∀ u ∈ u8s ds, u.oneCell' = true := fun u hu => u8s_one hu
    have hl : (u8s ds).length = ds.length * 1 := by rw [u8s_length]; omega
    have key := run_append_own (P := P) w 0 t ty 5 i (.int .u8 0) 1 1 ht hi hz hsize hby rfl (by omega) v xs.length (u8s xs) hown a ds.length cap (u8s ds) hl hcell hone h63 (by omega) (Nat.zero_le _)
    obtain ⟨v', w', hr, ho, hg, _⟩ := key
    have ho' : Owns w' v' (xs ++ ds) := by
      unfold Owns
      rw [u8s_append, List.length_append]
      exact ho
    refine ⟨v', w', hr, ho', hg, ?_⟩
    rcases hown.2 with ⟨rfl, hn⟩ | ⟨g, cp, cur, rfl, _, hgg, hnc, hcm, hcs, htake⟩
    · by_cases hd : ds.length = 0
      · have h0 := run_append_own (P := P) w w.heap.size t ty 5 i (.int .u8 0) 1 1 ht hi hz hsize hby rfl (by omega) (.slice none 0 0) 0 [] (World.ownsRow_nil _ _ _ _) a ds.length cap (u8s ds) hl hcell hone (by omega) (by omega) (Nat.le_refl _)
        obtain ⟨v2, w2, hr2, _, _, h4⟩ := h0
        rw [hr] at hr2
        injection hr2 with e1 e2
        subst e1
        left
        rw [h4.2 ⟨rfl, hd⟩]
      · have h0 := run_append_nil (P := P) w t ty 5 i (.int .u8 0) ht hi hz a ds.length cap (u8s ds) (by rw [hsize]; exact hl) hcell (by omega) (by unfold maxLen at h63; omega) (by rw [hby]; omega)
        rw [hr] at h0
        injection h0 with e1 e2
        subst e1
        right
        rfl
    · by_cases hroom : xs.length + ds.length ≤ cp
      · obtain ⟨w2, hr2, _, _⟩ := run_append_fits (P := P) w 0 t ty 5 i 1 ht hi hsize g xs.length cp (u8s xs) hown a ds.length cap (u8s ds) hl hcell hone hroom
        rw [hr] at hr2
        injection hr2 with e1 e2
        subst e1
        left
        rfl
      · have hr2 := run_append_grow (P := P) w t ty 5 i (.int .u8 0) ht hi hz ⟨g, 0, none⟩ xs.length cp (u8s xs) (by rw [hsize, u8s_length]; omega) (World.ownsRow.cells hown (g := g) rfl) a ds.length cap (u8s ds) (by rw [hsize]; exact hl) hcell (by omega) (by unfold maxLen at h63; omega) (growslice_fits (by omega) (by rw [hby]; omega))
        rw [hr] at hr2
        injection hr2 with e1 e2
        subst e1
        right
        rfl

theorem wpList_append_sees {ops : Array Oper} {rest : List Oper} {o : Oper} {a : Act} {Q : Exit → Act → World → Prop} (hgd : o.guard = none) (s x : Operand) (t : TypeId)
    (ho : o.op = .call { callee := .builtin .append, args := #[s, x], argTypes := #[t, t] })
    (i : TypeInfo) (ht : P.underlying t = some (.slice 5)) (hi : P.info? 5 = some i) (hz : i.zero = some (.int .u8 0)) (hsize : i.size = 1) (hby : i.bytes = 1)
    (v : Value) (xs : List UInt8) (hs : a.eval s = v) (hown : Owns w v xs) (sv : Value) (ds : List UInt8) (hx : a.eval x = sv) (hsee : Sees w sv ds) (hbound : xs.length + ds.length ≤ 140737488355328)
    (h : ∀ v' w', Owns w' v' (xs ++ ds) → w.grownBy w' v.ownBlock → (v'.ownBlock = v.ownBlock ∨ v'.ownBlock = some w.heap.size) → wpList P ops Q rest (a.put o.dst v') w') : wpList P ops Q (o :: rest) a w := by
  refine wpList_plain hgd fun _ hK => ?_
  obtain ⟨v', w', hr, h2, h3, h4⟩ := run_append_sees (P := P) w t o.type i ht hi hz hsize hby v xs hown sv ds hsee hbound
  unfold Oper.wp execOp
  simp only [ho, resolve, invoke, builtin, Sem.run_bind, Sem.run_pure, Result.andThen_ok, List.map_toArray, List.map_cons, List.map_nil, hs, hx, hr]
  exact hK _ _ (h v' w' h2 h3 h4)

/-- A text made of what a slice of bytes shows. -/
theorem run_text_of_sees (src dst : TypeId) (hs : P.underlying src = some (.slice 5)) (he : P.underlying 5 = some (.int .u8)) (hd : P.underlying dst = some .string)
    {v : Value} {bs : List UInt8} (hsee : Sees w v bs) : (convert src dst v).run P w = .ok (.string ⟨bs.toArray⟩) w := by
  rcases hsee with ⟨rfl, rfl⟩ | ⟨a, cap, rfl, hc, hm, hcell⟩
  · rw [run_convert_bytes_string w src dst 5 _ 0 0 hs he hd]
    simp [Conv.bytesToString]
    rfl
  · exact run_convert_bytes_back w src dst 5 a cap bs hs he hd fun j hj => hcell j _ (by simp [u8s, hj])

end

end Go.Proofs.Ythclffafbkeepaa
