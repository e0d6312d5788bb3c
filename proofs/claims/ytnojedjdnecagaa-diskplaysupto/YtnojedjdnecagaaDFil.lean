/- The files below a number that are there; what a law holds, read again. -/
import Derived.Test.YtnojedjdnecagaaDMore
import Derived.Test.YtnojedjdnecagaaStp5
namespace Go.Proofs.Ytnojedjdnecagaa
open Go.RowKit

/-- The files below m that are there. -/
def fil (f : Fs) (m : Nat) : List Int := ((List.range m).filter fun (j : Nat) => !(f (j : Int)).isEmpty).map fun (j : Nat) => (j : Int)

theorem fil_yes (f : Fs) (m : Nat) (h : f m ≠ []) : fil f (m + 1) = fil f m ++ [(m : Int)] := by
  unfold fil
  rw [List.range_succ, List.filter_append, List.map_append]
  simp [h]

theorem fil_no (f : Fs) (m : Nat) (h : f m = []) : fil f (m + 1) = fil f m := by
  unfold fil
  rw [List.range_succ, List.filter_append, List.map_append]
  simp [h]

theorem fil_lt (f : Fs) (m : Nat) : ∀ k ∈ fil f m, k < m ∧ 0 ≤ k ∧ f k ≠ [] := by
  intro k hk
  unfold fil at hk
  obtain ⟨j, hj, rfl⟩ := List.mem_map.1 hk
  obtain ⟨h1, h2⟩ := List.mem_filter.1 hj
  have := List.mem_range.1 h1
  exact ⟨by omega, by omega, by simpa using h2⟩

theorem fil_rise (f : Fs) : ∀ m, (fil f m).Pairwise (· < ·)
  | 0 => by simp [fil]
  | m + 1 => by
    by_cases h : f m = []
    · rw [fil_no f m h]; exact fil_rise f m
    · rw [fil_yes f m h]
      refine List.pairwise_append.2 ⟨fil_rise f m, by simp, fun a ha b hb => ?_⟩
      simp at hb
      have := (fil_lt f m a ha).1
      omega

theorem fil_mem (f : Fs) (m : Nat) (k : Nat) (hk : k < m) (h : f k ≠ []) : (k : Int) ∈ fil f m := by
  unfold fil
  exact List.mem_map.2 ⟨k, List.mem_filter.2 ⟨List.mem_range.2 hk, by simpa using h⟩, rfl⟩

theorem fil_le (f : Fs) (m : Nat) : (fil f m).length ≤ m := by
  unfold fil
  rw [List.length_map]
  exact Nat.le_trans (List.length_filter_le _ _) (by simp)

theorem fil_at (f : Fs) (j : Nat) (h : f j ≠ []) : ∀ m, j < m → (fil f m)[(fil f j).length]? = some (j : Int) ∧ (fil f j).length < (fil f m).length
  | 0, hm => by omega
  | m + 1, hm => by
    by_cases hj : j = m
    · subst hj
      rw [fil_yes f j h]
      simp
    · obtain ⟨h1, h2⟩ := fil_at f j h m (by omega)
      by_cases hf : f m = []
      · rw [fil_no f m hf]; exact ⟨h1, h2⟩
      · rw [fil_yes f m hf, List.getElem?_append_left h2, List.length_append]
        exact ⟨h1, by omega⟩

theorem HeldI.cell {K : Nat → Prop} {w : World} {g n c j : Nat} {l : List Int} {x : Int} (h : HeldI K w (.slice (some ⟨g, 0, none⟩) n c) l) (hx : l[j]? = some x) : w.cell? ⟨g, j, none⟩ = some (.int .i64 x) := by
  rcases h.own.sees with ⟨h0, _⟩ | ⟨a, cap, e, _, _, hc⟩
  · simp at h0
  · simp only [Value.slice.injEq, Option.some.injEq] at e
    have := hc j (.int .i64 x) (by rw [i64s, List.getElem?_map, hx]; rfl)
    rw [← e.1, addr_lit, Nat.zero_add] at this
    exact this

/-- What came in stays, from one world of the law to a later one. -/
theorem _root_.Go.Proofs.Ytnojedjdnecagaa.StepAt.kept' {w w1 w2 : World} {ab off : Nat} {x : StepE} (h : StepAt w1 w.heap.size ab off x) (t1 : Turn (fun _ => False) w w1) (t2 : Turn (fun _ => False) w w2) : StepAt w2 w.heap.size ab off x := by
  have hc : ∀ o, w2.cell? ⟨ab, o, none⟩ = w1.cell? ⟨ab, o, none⟩ := fun o => (t2.cell (p := ⟨ab, o, none⟩) h.lt (fun h => h)).trans (t1.cell (p := ⟨ab, o, none⟩) h.lt (fun h => h)).symm
  refine ⟨h.lt, (hc _).trans h.c0, (hc _).trans h.c1, (hc _).trans h.c2, (hc _).trans h.c3, (hc _).trans h.c4, ?_, h.slabs⟩
  rcases h.sees with h0 | ⟨a, cap, e, hc', hm, hcell⟩
  · exact .inl h0
  · refine .inr ⟨a, cap, e, hc', hm, fun j u hj => ?_⟩
    have hpos : 0 < x.bs.length := by
      have := (List.getElem?_eq_some_iff.1 hj).1
      rw [u8s_length] at this
      omega
    have hb : (a.add j).block < w.heap.size := by rw [addr_add_block]; exact h.slabs hpos _ (by rw [e]; rfl)
    rw [t2.cell hb (fun h => h), ← t1.cell hb (fun h => h)]
    exact hcell j u hj

end Go.Proofs.Ytnojedjdnecagaa
