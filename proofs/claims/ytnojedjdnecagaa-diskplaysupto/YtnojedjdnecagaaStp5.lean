/- Raw steps in memory: a slice of structs of four numbers and a slice of bytes. -/
import Derived.Test.YtnojedjdnecagaaBase
namespace Go.Proofs.Ytnojedjdnecagaa
open Go.RowKit

/-- One step: four numbers, a slice of bytes and what it shows. -/
structure StepE where
  what : Int
  file : Int
  n : Int
  cut : Int
  bv : Value
  bs : List UInt8

/-- One step, at its place. -/
structure StepAt (W : World) (B ab off : Nat) (x : StepE) : Prop where
  lt : ab < B
  c0 : W.cell? ⟨ab, off, none⟩ = some (.int .i64 x.what)
  c1 : W.cell? ⟨ab, off + 1, none⟩ = some (.int .i64 x.file)
  c2 : W.cell? ⟨ab, off + 2, none⟩ = some (.int .i64 x.n)
  c3 : W.cell? ⟨ab, off + 3, none⟩ = some (.int .i64 x.cut)
  c4 : W.cell? ⟨ab, off + 4, none⟩ = some x.bv
  sees : Sees W x.bv x.bs
  slabs : 0 < x.bs.length → ∀ j, slab x.bv = some j → j < B

/-- A slice of steps that came in, all of it below B. -/
structure StepsOf (W : World) (B : Nat) (v : Value) (xs : List StepE) : Prop where
  shape : ∃ ao cap, v = .slice ao xs.length cap ∧ xs.length ≤ maxLen
  each : ∀ k (hk : k < xs.length), ∃ ab off cap, v = .slice (some ⟨ab, off, none⟩) xs.length cap ∧ StepAt W B ab (off + k * 5) xs[k]

theorem StepAt.kept {S : Nat → Prop} {w w' : World} {B ab off : Nat} {x : StepE} (h : StepAt w B ab off x) (ht : Turn S w w') (hB : B ≤ w.heap.size) (hS : ∀ k, k < B → ¬ S k) : StepAt w' B ab off x := by
  have hc : ∀ o, w'.cell? ⟨ab, o, none⟩ = w.cell? ⟨ab, o, none⟩ := fun o => ht.cell (p := ⟨ab, o, none⟩) (Nat.lt_of_lt_of_le h.lt hB) (hS ab h.lt)
  exact ⟨h.lt, (hc _).trans h.c0, (hc _).trans h.c1, (hc _).trans h.c2, (hc _).trans h.c3, (hc _).trans h.c4, h.sees.kept' ht (fun h0 j hj => hS j (h.slabs h0 j hj)), h.slabs⟩

theorem StepsOf.kept {S : Nat → Prop} {w w' : World} {B : Nat} {v : Value} {xs : List StepE} (h : StepsOf w B v xs) (ht : Turn S w w') (hB : B ≤ w.heap.size) (hS : ∀ k, k < B → ¬ S k) : StepsOf w' B v xs :=
  ⟨h.shape, fun k hk => by
    obtain ⟨ab, off, cap, e, hs⟩ := h.each k hk
    exact ⟨ab, off, cap, e, hs.kept ht hB hS⟩⟩

end Go.Proofs.Ytnojedjdnecagaa
