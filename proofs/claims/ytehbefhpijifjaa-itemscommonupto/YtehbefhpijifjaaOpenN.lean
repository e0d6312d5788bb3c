/- What an argument that is a list of numbers shows of memory: its room and its bulk besides. -/
import Derived.Test.YtehbefhpijifjaaOpenI
namespace Go.Proofs.Ytehbefhpijifjaa
open Go.ChangeShapes Go.WideShapes Go.ChangeAt Go.RowKit Go.Deep

section
variable {H : Type} {enc : TypeId × Value → H} {W : World}

theorem open_ints_room {fuel : Nat} {c : Value} {x : DataW H × List MemPlace} (h : DataW.trod enc Try.prog W 0 (fun _ => true) true fuel 38 [c] = some x) : ∃ l, IntsAt W W.heap.size c l ∧ (∀ ao n cap, c = .slice ao n cap → n ≤ cap ∧ cap ≤ maxLen) ∧ l.length ≤ Rows.uptoBulk x.1 := by
  rcases open_slice1 Try.underlying38 Try.cellsInt2 h with ⟨hcs, hx⟩ | ⟨a, len, cap, m, n, V, D, Pl, hcs, _, hl, hm, hmm, hx, hel⟩
  · injection hcs with hcs
    subst hcs
    exact ⟨[], .inl ⟨rfl, rfl⟩, fun ao n cap e => by injection e with e1 e2 e3; subst e2 e3; exact ⟨Nat.le_refl _, Nat.zero_le _⟩, by simp⟩
  · injection hcs with hcs
    subst hcs
    simp only [if_true] at hmm
    subst hmm
    have each : ∀ i, i < len → ∃ p : Int, a.block < W.heap.size ∧ W.cell? (a.add i) = some (.int .i64 p) := by
      intro i hi
      obtain ⟨hc, ht⟩ := hel i (by omega)
      obtain ⟨f, hf, _⟩ := DataW.trod_int Try.underlying3 ht
      injection hf with hf
      have := World.block_lt_of_cell? _ _ hc
      rw [addr_add_block] at this
      exact ⟨f, this, by rw [hc, hf]⟩
    obtain ⟨xs, hxl, hxs⟩ := list_of len each
    subst hxl
    refine ⟨xs, .inr ⟨a, _, rfl, by omega, fun k hk => hxs k hk⟩, fun ao n cap' e => by injection e with e1 e2 e3; subst e2 e3; exact ⟨by omega, by omega⟩, ?_⟩
    rw [hx]
    have := bulk_length ((List.range xs.length).map D)
    rw [List.length_map, List.length_range] at this
    simp only [Rows.uptoBulk]
    omega

end

end Go.Proofs.Ytehbefhpijifjaa
