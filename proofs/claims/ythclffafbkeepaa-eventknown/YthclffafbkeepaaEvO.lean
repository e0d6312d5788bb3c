/- Slices of values of many cells, of the calls' own: rows; one more. -/
import Derived.Test.YthclffafbkeepaaEvJ
namespace Go.Proofs.Ythclffafbkeepaa
open Go.RowKit

theorem flatten_length {α : Type} (m : Nat) : ∀ (rows : List (List α)), (∀ r ∈ rows, r.length = m) → rows.flatten.length = rows.length * m
  | [], _ => by simp
  | r :: l, h => by
    rw [List.flatten_cons, List.length_append, flatten_length m l (fun x hx => h x (List.mem_cons_of_mem _ hx)), h r (List.mem_cons_self ..), List.length_cons, Nat.succ_mul]
    omega

theorem flatten_at {α : Type} (m : Nat) : ∀ (rows : List (List α)), (∀ r ∈ rows, r.length = m) → ∀ (k j : Nat) (hk : k < rows.length), j < m → rows.flatten[k * m + j]? = rows[k][j]?
  | [], _, k, j, hk, _ => by simp at hk
  | r :: l, h, 0, j, hk, hj => by
    have hr := h r (List.mem_cons_self ..)
    rw [List.flatten_cons, Nat.zero_mul, Nat.zero_add, List.getElem?_append_left (by omega)]
    rfl
  | r :: l, h, k + 1, j, hk, hj => by
    have hr := h r (List.mem_cons_self ..)
    rw [List.flatten_cons, List.getElem?_append_right (by rw [hr, Nat.succ_mul]; omega), hr, Nat.succ_mul, show k * m + m + j - m = k * m + j by omega]
    exact flatten_at m l (fun x hx => h x (List.mem_cons_of_mem _ hx)) k j (by simpa using hk) hj

/-- A slice of rows of the calls' own. -/
def RowOwns (T : TypeId) (m : Nat) (w : World) (v : Value) (rows : List (List Value)) : Prop := (∀ r ∈ rows, r.length = m) ∧ w.ownsRow 0 T m v rows.length rows.flatten

section
variable {T : TypeId} {m : Nat} {S : Nat → Prop} {w w' w1 : World} {v : Value} {rows : List (List Value)}

theorem RowOwns.nil (T : TypeId) (m : Nat) (w : World) : RowOwns T m w (.slice none 0 0) [] := ⟨by simp, World.ownsRow_nil w 0 T m⟩

theorem RowOwns.lt (h : RowOwns T m w v rows) {k : Nat} (hk : v.ownBlock = some k) : k < w.heap.size := (World.ownsRow.lt h.2 k hk).2

theorem RowOwns.slab_eq (h : RowOwns T m w v rows) : slab v = v.ownBlock := by
  rcases h.2.2 with ⟨rfl, hn⟩ | ⟨g, cap, cur, rfl, _⟩ <;> rfl

theorem RowOwns.kept (h : RowOwns T m w v rows) (ht : Turn S w w') (hs : ∀ k, v.ownBlock = some k → ¬ S k) : RowOwns T m w' v rows := by
  refine ⟨h.1, h.2.1, ?_⟩
  rcases h.2.2 with hn | ⟨g, cap, cur, rfl, hb, hgg, rest⟩
  · exact .inl hn
  · refine .inr ⟨g, cap, cur, rfl, hb, ?_, rest⟩
    rw [ht.block g (Array.getElem?_eq_some_iff.1 hgg).1 (hs g rfl)]
    exact hgg

theorem RowOwns.shape (h : RowOwns T m w v rows) : ∃ o c, v = .slice o rows.length c := by
  rcases h.2.2 with ⟨rfl, hn⟩ | ⟨g, cap, cur, rfl, _⟩
  · exact ⟨none, 0, by rw [hn]⟩
  · exact ⟨_, _, rfl⟩

/-- Where each cell lies. -/
theorem RowOwns.cells (h : RowOwns T m w v rows) : (v = .slice none 0 0 ∧ rows = []) ∨ ∃ g cap, v = .slice (some ⟨g, 0, none⟩) rows.length cap ∧ rows.length ≤ cap ∧ cap ≤ maxLen ∧ v.ownBlock = some g ∧ ∀ k (hk : k < rows.length) j u, rows[k][j]? = some u → w.cell? ⟨g, 0 + k * m + j, none⟩ = some u := by
  have hc := fun g hg => World.ownsRow.cells h.2 (g := g) hg
  rcases h.2.2 with ⟨rfl, hn⟩ | ⟨g, cap, cur, rfl, _, hg, hn, hm, hs, ht⟩
  · exact .inl ⟨rfl, List.eq_nil_of_length_eq_zero hn⟩
  · refine .inr ⟨g, cap, rfl, hn, hm, rfl, fun k hk j u hj => ?_⟩
    have hlen := h.1 _ (List.getElem_mem hk)
    have hjm : j < m := by have := (List.getElem?_eq_some_iff.1 hj).1; omega
    have h1 := hc g rfl (k * m + j) u (by rw [flatten_at m rows h.1 k j hk hjm]; exact hj)
    rw [Addr.add_lit] at h1
    rw [show 0 + k * m + j = 0 + (k * m + j) by omega]
    exact h1

/-- One row more. -/
theorem RowOwns.cat {P : Program} {tS : TypeId} {i : TypeInfo} {z : Value} {bytes : Nat} (hu : P.underlying tS = some (.slice T)) (hi : P.info? T = some i) (hz : i.zero = some z) (hsz : i.size = m) (hby : i.bytes = bytes) (hzs : z.cells.size = m) (hm0 : 0 < m)
    (h : RowOwns T m w1 v rows) (r : List Value) (hr : r.length = m) (hone : ∀ u ∈ r, u.oneCell' = true) (hb : rows.length ≤ 1000000) (hb2 : bytes ≤ 1000) :
    ∃ v2 w2, (Builtin.append_ #[tS, tS] tS #[v, .slice (some ⟨w1.heap.size, 0, none⟩) 1 1]).run P (w1.alloc (.cells r.toArray T)) = .ok v2 w2 ∧ RowOwns T m w2 v2 (rows ++ [r]) ∧ Turn (fun j => v.ownBlock = some j) w1 w2 ∧ (v2.ownBlock = v.ownBlock ∨ ∀ j, v2.ownBlock = some j → w1.heap.size ≤ j) := by
  have ta : Turn (fun _ => False) w1 (w1.alloc (.cells r.toArray T)) := (Turn.refl _ _).alloc _
  have hown := h.kept ta (fun _ _ e => e)
  obtain ⟨v2, w2, hrun, ho, hg, _, hat⟩ := run_append_own_at (P := P) (w1.alloc (.cells r.toArray T)) 0 tS tS T i z m bytes hu hi hz hsz hby hzs hm0 v rows.length rows.flatten hown.2 ⟨w1.heap.size, 0, none⟩ 1 1 r (by omega)
    (fun j u hj => by
      rw [Addr.add_lit, cell_of_row _ w1.heap.size _ _ T (0, 0) (heap_alloc_new w1 _)]
      simpa using hj) hone (by unfold maxLen; omega) (by
        have h1 : (rows.length + 1) * bytes ≤ 1000001 * 1000 := Nat.mul_le_mul (by omega) hb2
        omega) (Nat.zero_le _)
  have hs2 := ta.size
  refine ⟨v2, w2, hrun, ⟨fun x hx => ?_, ?_⟩, (ta.mono (fun _ _ h => h.elim)).trans ((Turn.refl _ _).grown hg (fun j hj => .inl hj)), ?_⟩
  · rcases List.mem_append.1 hx with hx | hx
    · exact h.1 x hx
    · rw [List.mem_singleton.1 hx]
      exact hr
  · rw [List.length_append, List.length_singleton, List.flatten_append]
    simpa using ho
  · rcases hat with e | e
    · exact .inl e
    · refine .inr fun j hj => ?_
      rw [e] at hj
      injection hj with hj
      omega

end

end Go.Proofs.Ythclffafbkeepaa
