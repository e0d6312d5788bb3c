/- Raw steps in memory: a slice of structs of three numbers and a list of slices of bytes. -/
import Derived.Test.YtfmbkpdjjhcmcaaGreatLists
namespace Go.Proofs.YtfmbkpdjjhcmcaaGreat
open Go.RowKit

/-- One step: three numbers, a list of slices of bytes and what it shows. -/
structure Step6 where
  what : Int
  n : Int
  cut : Int
  lv : Value
  l : List (Value × List UInt8)

/-- One step, at its place. -/
structure Step6At (W : World) (B ab off : Nat) (x : Step6) : Prop where
  lt : ab < B
  c0 : W.cell? ⟨ab, off, none⟩ = some (.int .i64 x.what)
  c1 : W.cell? ⟨ab, off + 1, none⟩ = some (.int .i64 x.n)
  c2 : W.cell? ⟨ab, off + 2, none⟩ = some (.int .i64 x.cut)
  c3 : W.cell? ⟨ab, off + 3, none⟩ = some x.lv
  list : ListAt W B x.lv x.l

/-- A slice of steps that came in, all of it below B. -/
structure Steps6Of (W : World) (B : Nat) (v : Value) (xs : List Step6) : Prop where
  shape : ∃ ao cap, v = .slice ao xs.length cap ∧ xs.length ≤ maxLen
  each : ∀ k (hk : k < xs.length), ∃ ab off cap, v = .slice (some ⟨ab, off, none⟩) xs.length cap ∧ Step6At W B ab (off + k * 4) xs[k]

theorem Step6At.kept {S : Nat → Prop} {w w' : World} {B ab off : Nat} {x : Step6} (h : Step6At w B ab off x) (ht : Turn S w w') (hB : B ≤ w.heap.size) (hS : ∀ k, k < B → ¬ S k) : Step6At w' B ab off x := by
  have hc : ∀ o, w'.cell? ⟨ab, o, none⟩ = w.cell? ⟨ab, o, none⟩ := fun o => ht.cell (p := ⟨ab, o, none⟩) (Nat.lt_of_lt_of_le h.lt hB) (hS ab h.lt)
  exact ⟨h.lt, (hc _).trans h.c0, (hc _).trans h.c1, (hc _).trans h.c2, (hc _).trans h.c3, h.list.kept ht hB hS⟩

theorem Steps6Of.kept {S : Nat → Prop} {w w' : World} {B : Nat} {v : Value} {xs : List Step6} (h : Steps6Of w B v xs) (ht : Turn S w w') (hB : B ≤ w.heap.size) (hS : ∀ k, k < B → ¬ S k) : Steps6Of w' B v xs :=
  ⟨h.shape, fun k hk => by
    obtain ⟨ab, off, cap, e, hs⟩ := h.each k hk
    exact ⟨ab, off, cap, e, hs.kept ht hB hS⟩⟩

end Go.Proofs.YtfmbkpdjjhcmcaaGreat
