/- Events in memory, whole: their names, data, graphs; what reads them leaves them. -/
import Derived.Test.YthclffafbkeepaaHand
import Derived.Test.YthclffafbkeepaaVRef
import Derived.Test.YthclffafbkeepaaCells
import Derived.Test.YthclffafbkeepaaInts
import Derived.Lib.Strings
namespace Go.Proofs.Ythclffafbkeepaa
open Go.RowKit

/-- A node: what it needs; its tries and its lease. -/
abbrev Df := List Int × (Int × Int)

/-- An event. -/
structure EvP where
  id : Int
  ver : Int
  time : Int
  kind : Int
  node : Int
  n : Int
  name : ByteArray
  data : List UInt8
  defs : List Df

/-- Whether two events are alike. -/
def sameE (a b : EvP) : Bool := decide (a.id = b.id) && decide (a.ver = b.ver) && decide (a.time = b.time) && decide (a.kind = b.kind) && decide (a.node = b.node) && decide (a.n = b.n) && (a.name.toList == b.name.toList) && decide (a.data = b.data) && decide (a.defs = b.defs)

theorem sameE_iff (a b : EvP) : sameE a b = true ↔ a = b := by
  unfold sameE
  simp only [Bool.and_eq_true, decide_eq_true_eq, beq_iff_eq]
  constructor
  · rintro ⟨⟨⟨⟨⟨⟨⟨⟨h1, h2⟩, h3⟩, h4⟩, h5⟩, h6⟩, h7⟩, h8⟩, h9⟩
    have h7' : a.name = b.name := by
      have e : a.name.data.toList = b.name.data.toList := by
        have := h7
        rwa [Lib.toList_data, Lib.toList_data] at this
      cases ha : a.name with
      | mk x =>
        cases hb : b.name with
        | mk y =>
          rw [ha, hb] at e
          exact congrArg _ (Array.ext' e)
    cases a
    cases b
    simp_all
  · rintro rfl
    simp

/-- What only draws. -/
def Drawn (w w' : World) : Prop := ∃ m, w' = w.drewN m

theorem Drawn.turn {w w' : World} (h : Drawn w w') (S : Nat → Prop) : Turn S w w' := by
  obtain ⟨m, rfl⟩ := h
  exact ⟨rfl, rfl, rfl, Nat.le_refl _, fun _ _ _ => rfl⟩

theorem Drawn.refl (w : World) : Drawn w w := ⟨0, rfl⟩

/-- A list of numbers in blocks of Q. -/
def IntsQ (Q : Nat → Prop) (w : World) (v : Value) (xs : List Int) : Prop :=
  (v = .slice none 0 0 ∧ xs = []) ∨
  ∃ a cap, v = .slice (some a) xs.length cap ∧ xs.length ≤ maxLen ∧ ∀ k (hk : k < xs.length), Q a.block ∧ w.cell? (a.add k) = some (.int .i64 xs[k])

/-- A graph in blocks of Q. -/
def DefsQ (Q : Nat → Prop) (w : World) (v : Value) (ds : List Df) : Prop :=
  (v = .slice none 0 0 ∧ ds = []) ∨
  ∃ g o cap, v = .slice (some ⟨g, o, none⟩) ds.length cap ∧ ds.length ≤ maxLen ∧ ∀ k (hk : k < ds.length), Q g ∧ ∃ nv,
    w.cell? ⟨g, o + k * 3, none⟩ = some nv ∧ w.cell? ⟨g, o + k * 3 + 1, none⟩ = some (.int .i64 ds[k].2.1) ∧ w.cell? ⟨g, o + k * 3 + 2, none⟩ = some (.int .i64 ds[k].2.2) ∧ IntsQ Q w nv ds[k].1

/-- An event's value. -/
def evV (e : EvP) (dv fv : Value) : Value := .agg #[.int .i64 e.id, .int .i64 e.ver, .int .i64 e.time, .int .i64 e.kind, .int .i64 e.node, .int .i64 e.n, .string e.name, dv, fv]

/-- What an event's value shows. -/
structure EvQ (Q : Nat → Prop) (w : World) (dv fv : Value) (e : EvP) : Prop where
  data : Sees w dv e.data
  mem : 0 < e.data.length → ∀ j, slab dv = some j → Q j
  defs : DefsQ Q w fv e.defs
  name : e.name.size ≤ 140737488355328
  long : e.data.length ≤ 140737488355328

section
variable {Q S : Nat → Prop} {w w' : World} {v : Value} {xs : List Int} {ds : List Df}

theorem IntsQ.kept (h : IntsQ Q w v xs) (t : Turn S w w') (hq : ∀ j, Q j → ¬ S j) : IntsQ Q w' v xs := by
  rcases h with h | ⟨a, cap, rfl, hm, hc⟩
  · exact .inl h
  · refine .inr ⟨a, cap, rfl, hm, fun k hk => ?_⟩
    obtain ⟨h1, h2⟩ := hc k hk
    refine ⟨h1, ?_⟩
    have hlt := World.block_lt_of_cell? _ _ h2
    rw [t.cell hlt (by rw [addr_add_block]; exact hq _ h1)]
    exact h2

theorem IntsQ.shape (h : IntsQ Q w v xs) : ∃ ao cap, v = .slice ao xs.length cap ∧ xs.length ≤ maxLen := by
  rcases h with ⟨rfl, rfl⟩ | ⟨a, cap, rfl, hm, _⟩
  · exact ⟨none, 0, rfl, by simp⟩
  · exact ⟨_, _, rfl, hm⟩

theorem IntsQ.at {ao : Option Addr} {n cap : Nat} (h : IntsQ Q w (.slice ao n cap) xs) (k : Nat) (hk : k < xs.length) : ∃ a, ao = some a ∧ w.cell? (a.add k) = some (.int .i64 xs[k]) := by
  rcases h with ⟨_, rfl⟩ | ⟨a, cap', e, hm, hc⟩
  · simp at hk
  · injection e with e
    exact ⟨a, e, (hc k hk).2⟩

theorem DefsQ.kept (h : DefsQ Q w v ds) (t : Turn S w w') (hq : ∀ j, Q j → ¬ S j) : DefsQ Q w' v ds := by
  rcases h with h | ⟨g, o, cap, rfl, hm, hc⟩
  · exact .inl h
  · refine .inr ⟨g, o, cap, rfl, hm, fun k hk => ?_⟩
    obtain ⟨h1, nv, c0, c1, c2, h2⟩ := hc k hk
    have hlt : g < w.heap.size := World.block_lt_of_cell? w ⟨g, o + k * 3 + 1, none⟩ c1
    exact ⟨h1, nv, (t.cell (p := ⟨g, o + k * 3, none⟩) hlt (hq _ h1)).trans c0, (t.cell (p := ⟨g, o + k * 3 + 1, none⟩) hlt (hq _ h1)).trans c1, (t.cell (p := ⟨g, o + k * 3 + 2, none⟩) hlt (hq _ h1)).trans c2, h2.kept t hq⟩

theorem DefsQ.shape (h : DefsQ Q w v ds) : ∃ ao cap, v = .slice ao ds.length cap ∧ ds.length ≤ maxLen := by
  rcases h with ⟨rfl, rfl⟩ | ⟨g, o, cap, rfl, hm, _⟩
  · exact ⟨none, 0, rfl, by simp⟩
  · exact ⟨_, _, rfl, hm⟩

theorem DefsQ.at {ao : Option Addr} {n cap : Nat} (h : DefsQ Q w (.slice ao n cap) ds) (k : Nat) (hk : k < ds.length) : ∃ g o nv, ao = some ⟨g, o, none⟩ ∧
    w.cell? ⟨g, o + k * 3, none⟩ = some nv ∧ w.cell? ⟨g, o + k * 3 + 1, none⟩ = some (.int .i64 ds[k].2.1) ∧ w.cell? ⟨g, o + k * 3 + 2, none⟩ = some (.int .i64 ds[k].2.2) ∧ IntsQ Q w nv ds[k].1 := by
  rcases h with ⟨_, rfl⟩ | ⟨g, o, cap', e, hm, hc⟩
  · simp at hk
  · injection e with e
    obtain ⟨_, nv, h⟩ := hc k hk
    exact ⟨g, o, nv, e, h⟩

theorem EvQ.kept {dv fv : Value} {e : EvP} (h : EvQ Q w dv fv e) (t : Turn S w w') (hq : ∀ j, Q j → ¬ S j) : EvQ Q w' dv fv e :=
  ⟨h.data.kept' t (fun h0 j hj => hq j (h.mem h0 j hj)), h.mem, h.defs.kept t hq, h.name, h.long⟩

end

end Go.Proofs.Ythclffafbkeepaa
