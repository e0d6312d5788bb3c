/- What an argument that is a list of numbers shows of memory. -/
import Derived.Test.YthclffafbkeepaaOpenB
import Derived.Test.YthclffafbkeepaaInts
namespace Go.Proofs.Ythclffafbkeepaa
open Go.ChangeShapes Go.WideShapes Go.ChangeAt Go.RowKit Go.Deep

theorem Try.cellsInt2 : Try.prog.cellsOf 3 = 1 := by kernel_rfl

section
variable {H : Type} {enc : TypeId × Value → H} {W : World}

/-- A list of numbers that is read as data. -/
theorem open_ints {fuel : Nat} {c : Value} {x : DataW H × List MemPlace} (h : DataW.trod enc Try.prog W 0 (fun _ => true) true fuel 37 [c] = some x) : ∃ l, IntsAt W W.heap.size c l := by
  rcases open_slice1 Try.underlying37 Try.cellsInt2 h with ⟨hcs, _⟩ | ⟨a, len, cap, m, n, V, D, Pl, hcs, _, hl, hm, hmm, _, hel⟩
  · injection hcs with hcs
    subst hcs
    exact ⟨[], .inl ⟨rfl, rfl⟩⟩
  · injection hcs with hcs
    subst hcs
    simp only [if_true] at hmm
    subst hmm
    have each : ∀ i, i < len → ∃ p : Int, a.block < W.heap.size ∧ W.cell? (a.add i) = some (.int .i64 p) := by
      intro i hi
      obtain ⟨hc, ht⟩ := hel i (by omega)
      obtain ⟨f, hf, _⟩ := DataW.trod_int Try.underlying3 ht
      injection hf with hf
      have := World.block_lt_of_cell? _ _ hc
      rw [addr_add_block] at this
      exact ⟨f, this, by rw [hc, hf]⟩
    obtain ⟨xs, hxl, hxs⟩ := list_of len each
    subst hxl
    exact ⟨xs, .inr ⟨a, _, rfl, by omega, fun k hk => hxs k hk⟩⟩

end

end Go.Proofs.Ythclffafbkeepaa
