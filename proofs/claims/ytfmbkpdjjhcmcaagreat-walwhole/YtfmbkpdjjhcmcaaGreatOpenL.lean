/- What an argument that is a list of slices of bytes, or of flags, shows of memory. -/
import Derived.Test.YtfmbkpdjjhcmcaaGreatOpenB
import Derived.Test.YtfmbkpdjjhcmcaaGreatLists
namespace Go.Proofs.YtfmbkpdjjhcmcaaGreat
open Go.ChangeShapes Go.WideShapes Go.ChangeAt Go.RowKit Go.Deep

theorem Tryz.cellsBytes1 : Tryz.prog.cellsOf 31 = 1 := by kernel_rfl

section
variable {H : Type} {enc : TypeId × Value → H} {W : World}

/-- A list of slices of bytes that is read as data. -/
theorem open_list {fuel : Nat} {c : Value} {x : DataW H × List MemPlace} (h : DataW.trod enc Tryz.prog W 0 (fun _ => true) true fuel 23 [c] = some x) : ∃ l, ListAt W W.heap.size c l := by
  rcases open_slice1 Tryz.underlying23 Tryz.cellsBytes1 h with ⟨hcs, _⟩ | ⟨a, len, cap, m, n, V, D, Pl, hcs, _, hl, hm, hmm, _, hel⟩
  · injection hcs with hcs
    subst hcs
    exact ⟨[], .inl ⟨rfl, rfl⟩⟩
  · injection hcs with hcs
    subst hcs
    simp only [if_true] at hmm
    subst hmm
    have each : ∀ i, i < len → ∃ p : Value × List UInt8, a.block < W.heap.size ∧ W.cell? (a.add i) = some p.1 ∧ Sees W p.1 p.2 ∧ (0 < p.2.length → ∀ j, slab p.1 = some j → j < W.heap.size) := by
      intro i hi
      obtain ⟨hc, ht⟩ := hel i (by omega)
      obtain ⟨bs, hsee, hslab, _⟩ := open_bytes ht
      have := World.block_lt_of_cell? _ _ hc
      rw [addr_add_block] at this
      exact ⟨(V i, bs), this, hc, hsee, hslab⟩
    obtain ⟨xs, hxl, hxs⟩ := list_of len each
    subst hxl
    exact ⟨xs, .inr ⟨a, _, rfl, by omega, fun k hk => hxs k hk⟩⟩

/-- A list of slices of bytes that is read as data: none of them is longer than what is read. -/
theorem open_list_bulk {fuel : Nat} {c : Value} {x : DataW H × List MemPlace} (h : DataW.trod enc Tryz.prog W 0 (fun _ => true) true fuel 23 [c] = some x) : ∃ l, ListAt W W.heap.size c l ∧ ∀ k (hk : k < l.length), l[k].2.length ≤ Rows.uptoBulk x.1 := by
  rcases open_slice1 Tryz.underlying23 Tryz.cellsBytes1 h with ⟨hcs, _⟩ | ⟨a, len, cap, m, n, V, D, Pl, hcs, _, hl, hm, hmm, hx, hel⟩
  · injection hcs with hcs
    subst hcs
    exact ⟨[], .inl ⟨rfl, rfl⟩, fun k hk => by simp at hk⟩
  · injection hcs with hcs
    subst hcs
    simp only [if_true] at hmm
    subst hmm
    have each : ∀ i, i < len → ∃ p : Value × List UInt8, (a.block < W.heap.size ∧ W.cell? (a.add i) = some p.1 ∧ Sees W p.1 p.2 ∧ (0 < p.2.length → ∀ j, slab p.1 = some j → j < W.heap.size)) ∧ p.2.length ≤ Rows.uptoBulk x.1 := by
      intro i hi
      obtain ⟨hc, ht⟩ := hel i (by omega)
      obtain ⟨bs, hsee, hslab, hlong⟩ := open_bytes ht
      have := World.block_lt_of_cell? _ _ hc
      rw [addr_add_block] at this
      refine ⟨(V i, bs), ⟨this, hc, hsee, hslab⟩, ?_⟩
      have h3 := hlong.bulk
      have h6 := bulk_part (d := D i) (l := (List.range len).map D) (List.mem_map.2 ⟨i, List.mem_range.2 hi, rfl⟩)
      rw [hx]
      simp only [Rows.uptoBulk]
      simp only at h3
      omega
    obtain ⟨xs, hxl, hxs⟩ := list_of len each
    subst hxl
    exact ⟨xs, .inr ⟨a, _, rfl, by omega, fun k hk => (hxs k hk).1⟩, fun k hk => (hxs k hk).2⟩

end

end Go.Proofs.YtfmbkpdjjhcmcaaGreat
