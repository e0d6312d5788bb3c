/- Slices of values of one cell, whatever their type: what they show, those of the calls' own, append onto them. -/
import Derived.Test.YthclffafbkeepaaBase
import Derived.Maps.AppendAt
import Derived.Deep.RegionLaw
namespace Go.Proofs.Ythclffafbkeepaa
open Go.RowKit

/-- What a slice of values of one cell each shows in a world. -/
def SeesC (w : World) (v : Value) (cs : List Value) : Prop :=
  (v = .slice none 0 0 ∧ cs = []) ∨
  ∃ a cap, v = .slice (some a) cs.length cap ∧ cs.length ≤ cap ∧ cap ≤ maxLen ∧ ∀ j u, cs[j]? = some u → w.cell? (a.add j) = some u

theorem SeesC.kept {S : Nat → Prop} {w w' : World} {v : Value} {cs : List Value} (h : SeesC w v cs) (ht : Turn S w w') (hs : ∀ k, slab v = some k → ¬ S k) : SeesC w' v cs := by
  rcases h with h | ⟨a, cap, rfl, hc, hm, hcell⟩
  · exact .inl h
  · refine .inr ⟨a, cap, rfl, hc, hm, fun j u hj => ?_⟩
    have h1 := hcell j u hj
    have hlt := World.block_lt_of_cell? _ _ h1
    rw [ht.cell hlt (by rw [addr_add_block]; exact hs _ rfl)]
    exact h1

theorem SeesC.len {w : World} {v : Value} {cs : List Value} (h : SeesC w v cs) : cs.length ≤ maxLen := by
  rcases h with ⟨_, rfl⟩ | ⟨_, _, _, h1, h2, _⟩
  · simp [maxLen]
  · omega

/-- The cells of a block, laid there whole. -/
theorem SeesC.lit (w : World) (cs : List Value) (T : TypeId) (h : cs.length ≤ maxLen) : SeesC (w.alloc (.cells cs.toArray T)) (.slice (some ⟨w.heap.size, 0, none⟩) cs.length cs.length) cs :=
  .inr ⟨_, _, rfl, Nat.le_refl _, h, fun j u hj => by
    rw [show (⟨w.heap.size, 0, none⟩ : Addr).add j = ⟨w.heap.size, j, none⟩ by unfold Addr.add; split <;> simp_all]
    rw [cell_of_row _ w.heap.size j _ T (0, 0) (heap_alloc_new w _)]
    simpa using hj⟩

/-- The front of a slice. -/
theorem SeesC.front {w : World} {a : Addr} {cap : Nat} {cs : List Value} (h : SeesC w (.slice (some a) cs.length cap) cs) (n : Nat) (hn : n ≤ cs.length) : SeesC w (.slice (some a) n cap) (cs.take n) := by
  rcases h with ⟨h, _⟩ | ⟨a', cap', e, hc, hm, hcell⟩
  · simp at h
  · simp only [Value.slice.injEq, Option.some.injEq, true_and] at e
    obtain ⟨rfl, rfl⟩ := e
    refine .inr ⟨a, cap, by simp [Nat.min_eq_left hn], by simp; omega, hm, fun j u hj => hcell j u ?_⟩
    rw [← hj]
    have := (List.getElem?_eq_some_iff.1 hj).1
    rw [List.length_take] at this
    rw [List.getElem?_take, if_pos (by omega)]

/-- What is behind the front. -/
theorem SeesC.behind {w : World} {a : Addr} {cap : Nat} {cs : List Value} (h : SeesC w (.slice (some a) cs.length cap) cs) (n : Nat) (hn : n ≤ cs.length) (a2 : Addr) (h2 : a2 = a.add n ∨ n = cap) : SeesC w (.slice (some a2) (cs.length - n) (cap - n)) (cs.drop n) := by
  rcases h with ⟨h, _⟩ | ⟨a', cap', e, hc, hm, hcell⟩
  · simp at h
  · simp only [Value.slice.injEq, Option.some.injEq, true_and] at e
    obtain ⟨rfl, rfl⟩ := e
    refine .inr ⟨a2, cap - n, by simp, by simp; omega, by omega, fun j u hj => ?_⟩
    have hjl := (List.getElem?_eq_some_iff.1 hj).1
    rw [List.length_drop] at hjl
    rcases h2 with rfl | h2
    · rw [show (a.add n).add j = a.add (n + j) by unfold Addr.add; split <;> split <;> simp_all <;> omega]
      refine hcell (n + j) u ?_
      rw [← hj]
      simp
    · omega

/-- A slice that the calls made, wholly their own, of elements of type T. -/
def OwnsC (T : TypeId) (w : World) (v : Value) (cs : List Value) : Prop := w.ownsRow 0 T 1 v cs.length cs

theorem OwnsC.nil (T : TypeId) (w : World) : OwnsC T w (.slice none 0 0) [] := World.ownsRow_nil w 0 T 1

theorem OwnsC.empty (T : TypeId) (w : World) : OwnsC T (w.alloc (.cells #[] T)) (.slice (some ⟨w.heap.size, 0, none⟩) 0 0) [] :=
  World.ownsRow_made w #[] 0 (Nat.zero_le _) (Nat.zero_le _) rfl

theorem OwnsC.sees {T : TypeId} {w : World} {v : Value} {cs : List Value} (h : OwnsC T w v cs) : SeesC w v cs := by
  have hc := fun g hg => World.ownsRow.cells h (g := g) hg
  rcases h.2 with ⟨rfl, hn⟩ | ⟨g, cap, cur, rfl, _, hg, hn, hm, hs, ht⟩
  · exact .inl ⟨rfl, List.eq_nil_of_length_eq_zero hn⟩
  · exact .inr ⟨⟨g, 0, none⟩, cap, rfl, hn, hm, hc g rfl⟩

theorem OwnsC.lt {T : TypeId} {w : World} {v : Value} {cs : List Value} (h : OwnsC T w v cs) {k : Nat} (hk : v.ownBlock = some k) : k < w.heap.size := (World.ownsRow.lt h k hk).2

theorem OwnsC.kept {T : TypeId} {S : Nat → Prop} {w w' : World} {v : Value} {cs : List Value} (h : OwnsC T w v cs) (ht : Turn S w w') (hs : ∀ k, v.ownBlock = some k → ¬ S k) : OwnsC T w' v cs := by
  refine ⟨h.1, ?_⟩
  rcases h.2 with hn | ⟨g, cap, cur, rfl, hb, hgg, rest⟩
  · exact .inl hn
  · refine .inr ⟨g, cap, cur, rfl, hb, ?_, rest⟩
    rw [ht.block g (Array.getElem?_eq_some_iff.1 hgg).1 (hs g rfl)]
    exact hgg

theorem OwnsC.drew {T : TypeId} {w : World} {v : Value} {cs : List Value} (h : OwnsC T w v cs) : OwnsC T w.drew v cs := h

theorem OwnsC.shape {T : TypeId} {w : World} {v : Value} {cs : List Value} (h : OwnsC T w v cs) : (v = .slice none 0 0 ∧ cs = []) ∨ ∃ g cap, v = .slice (some ⟨g, 0, none⟩) cs.length cap ∧ cs.length ≤ cap ∧ cap ≤ maxLen := by
  rcases h.2 with ⟨rfl, hn⟩ | ⟨g, cap, cur, rfl, _, _, hn, hm, _⟩
  · exact .inl ⟨rfl, List.eq_nil_of_length_eq_zero hn⟩
  · exact .inr ⟨_, _, rfl, hn, hm⟩

theorem OwnsC.slab_eq {T : TypeId} {w : World} {v : Value} {cs : List Value} (h : OwnsC T w v cs) : slab v = v.ownBlock := by
  rcases h.2 with ⟨rfl, hn⟩ | ⟨g, cap, cur, rfl, _⟩ <;> rfl

/-- append onto a slice of the calls' own, of what another slice shows. -/
theorem run_append_cells {P : Program} (w : World) (t ty T : TypeId) (i : TypeInfo) (z : Value) (bytes : Nat) (ht : P.underlying t = some (.slice T)) (hi : P.info? T = some i) (hz : i.zero = some z) (hsize : i.size = 1) (hby : i.bytes = bytes) (hzs : z.cells.size = 1)
    (v : Value) (xs : List Value) (hown : OwnsC T w v xs) (sv : Value) (ds : List Value) (hsee : SeesC w sv ds) (hone : ∀ u ∈ ds, u.oneCell' = true) (h63 : xs.length + ds.length ≤ maxLen) (hbound : (xs.length + ds.length) * bytes ≤ 140737488355328) :
    ∃ v' w', (Builtin.append_ #[t, t] ty #[v, sv]).run P w = .ok v' w' ∧ OwnsC T w' v' (xs ++ ds) ∧ w.grownBy w' v.ownBlock ∧ (v'.ownBlock = v.ownBlock ∨ v'.ownBlock = some w.heap.size) := by
  rcases hsee with ⟨rfl, rfl⟩ | ⟨a, cap, rfl, hc, hm, hcell⟩
  · exact ⟨v, w, run_append_owned_none w 0 t ty T i 1 ht hi v _ _ hown, by simpa using hown, ⟨rfl, rfl, rfl, Nat.le_refl _, fun _ _ _ => rfl⟩, .inl rfl⟩
  · obtain ⟨v', w', hr, ho, hg, _, hat⟩ := run_append_own_at (P := P) w 0 t ty T i z 1 bytes ht hi hz hsize hby hzs (by omega) v xs.length xs hown a ds.length cap ds (by omega) hcell hone h63 hbound (Nat.zero_le _)
    refine ⟨v', w', hr, ?_, hg, hat⟩
    unfold OwnsC
    rw [List.length_append]
    exact ho

/-- append as one step of a walk, by what it comes to. -/
theorem wpList_append_run {P : Program} {w : World} {ops : Array Oper} {rest : List Oper} {o : Oper} {a : Act} {Q : Exit → Act → World → Prop} (hgd : o.guard = none) (s x : Operand) (t : TypeId)
    (ho : o.op = .call { callee := .builtin .append, args := #[s, x], argTypes := #[t, t] }) (v sv v' : Value) (w' : World) (hs : a.eval s = v) (hx : a.eval x = sv)
    (hr : (Builtin.append_ #[t, t] o.type #[v, sv]).run P w = .ok v' w') (h : wpList P ops Q rest (a.put o.dst v') w') : wpList P ops Q (o :: rest) a w := by
  refine wpList_plain hgd fun _ hK => ?_
  unfold Oper.wp execOp
  simp only [ho, resolve, invoke, builtin, Sem.run_bind, Sem.run_pure, Result.andThen_ok, List.map_toArray, List.map_cons, List.map_nil, hs, hx, hr]
  exact hK _ _ h

/-- append as one step of a region that draws its order, by what it comes to. -/
theorem step_append_run {P : Program} {ops : Array Oper} {o : Oper} {a : Act} {w : World} {K : Act → World → Prop} {Q : Exit → Act → World → Prop} {E : Prop}
    (hg : o.guard = none) (s x : Operand) (t : TypeId) (hop : o.op = Op.call { callee := Callee.builtin Builtin.append, args := #[s, x], argTypes := #[t, t] })
    (v sv v' : Value) (w' : World) (hs : a.eval s = v) (hx : a.eval x = sv) (hr : (Builtin.append_ #[t, t] o.type #[v, sv]).run P w = .ok v' w') (hK : K (a.put o.dst v') w') :
    if Region.wanted o (yielded ops a.tmps) = true then Oper.wp P o a w K Q else E := by
  have hw : Region.wanted o (yielded ops a.tmps) = true := by simp [Region.wanted, hg]
  rw [if_pos hw]
  unfold Oper.wp
  simp [execOp, hop, resolve, invoke, builtin, hs, hx, hr, Result.andThen]
  exact hK

end Go.Proofs.Ythclffafbkeepaa
