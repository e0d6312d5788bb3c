/- Changes in the making; kv's made. -/
import Derived.Test.YteomehdkfhjbeaaGreatDoorKKeys
import Derived.Test.YteomehdkfhjbeaaGreatDoorKKn0
import Derived.Maps.AppendAt
namespace Go.Proofs.YteomehdkfhjbeaaGreatDoor
open Go.RowKit

theorem Tryz.infoChange : (Tryz.prog.info? 37).map (fun i => (i.zero, i.size, i.bytes)) = some (some (.agg #[.string ⟨#[]⟩, .bool false, .slice none 0 0]), 3, 48) := by kernel_rfl

/-- Changes in the making: the row in new memory, each value in Q or in new memory, apart from the row. -/
structure CM (Q : Nat → Prop) (w : World) (v : Value) (cl : List (Value × Chg)) (wr : World) : Prop where
  own : wr.ownsRow 0 37 3 v cl.length (cells3 cl)
  new : ∀ k, v.ownBlock = some k → w.heap.size ≤ k
  each : ∀ p ∈ cl, Sees wr p.1 p.2.val ∧ (0 < p.2.val.length → ∀ j, slab p.1 = some j → (Q j ∨ w.heap.size ≤ j) ∧ j < wr.heap.size ∧ v.ownBlock ≠ some j) ∧ p.2.key.size ≤ 1099511627776 ∧ p.2.val.length ≤ 140737488355328
  turn : Turn (fun _ => False) w wr

section
variable {Q : Nat → Prop} {w wr w2 : World} {v : Value} {cl : List (Value × Chg)}

theorem CM.nil (Q : Nat → Prop) (w : World) : CM Q w (.slice none 0 0) [] w := ⟨World.ownsRow_nil _ _ _ _, fun k hk => by simp [Value.ownBlock] at hk, fun p hp => by simp at hp, Turn.refl _ _⟩

theorem own_turn {S : Nat → Prop} {T : TypeId} {n size : Nat} {xs : List Value} {base : Nat} (h : wr.ownsRow base T size v n xs) (t : Turn S wr w2) (hs : ∀ k, v.ownBlock = some k → ¬ S k) : w2.ownsRow base T size v n xs := by
  refine ⟨h.1, ?_⟩
  rcases h.2 with hn | ⟨g, cap, cur, rfl, hb, hgg, rest⟩
  · exact .inl hn
  · refine .inr ⟨g, cap, cur, rfl, hb, ?_, rest⟩
    rw [t.block g (Array.getElem?_eq_some_iff.1 hgg).1 (hs g rfl)]
    exact hgg

theorem CM.goes (h : CM Q w v cl wr) (t : Turn (fun _ => False) wr w2) : CM Q w v cl w2 :=
  ⟨own_turn h.own t (fun _ _ e => e), h.new, fun p hp => by
    obtain ⟨h1, h2, h3, h4⟩ := h.each p hp
    exact ⟨h1.kept t (fun _ _ e => e), fun h0 j hj => ⟨(h2 h0 j hj).1, Nat.lt_of_lt_of_le (h2 h0 j hj).2.1 t.size, (h2 h0 j hj).2.2⟩, h3, h4⟩, h.turn.trans t⟩

theorem CM.shape (h : CM Q w v cl wr) : ∃ ao cap, v = .slice ao cl.length cap := by
  rcases h.own.2 with ⟨rfl, hn⟩ | ⟨g, cap, cur, rfl, _⟩
  · exact ⟨none, 0, by rw [hn]⟩
  · exact ⟨_, _, rfl⟩

/-- One more. -/
theorem CM.cat (h : CM Q w v cl wr) (p : Value × Chg) (hs : Sees wr p.1 p.2.val) (hm : 0 < p.2.val.length → ∀ j, slab p.1 = some j → (Q j ∨ w.heap.size ≤ j) ∧ j < wr.heap.size ∧ v.ownBlock ≠ some j) (hk : p.2.key.size ≤ 1099511627776) (hb : p.2.val.length ≤ 140737488355328) (hl : cl.length ≤ 1000000) :
    ∃ v2 w2, (Builtin.append_ #[30, 30] 30 #[v, .slice (some ⟨wr.heap.size, 0, none⟩) 1 1]).run Tryz.prog (wr.alloc (.cells #[.string p.2.key, .bool p.2.has, p.1] 37)) = .ok v2 w2 ∧ CM Q w v2 (cl ++ [p]) w2 := by
  obtain ⟨i, hi, hh⟩ := Option.map_eq_some_iff.1 Tryz.infoChange
  simp only [Prod.mk.injEq] at hh
  obtain ⟨po, pc, hpv⟩ := hs.shape
  have ta : Turn (fun _ => False) wr (wr.alloc (.cells #[.string p.2.key, .bool p.2.has, p.1] 37)) := (Turn.refl _ _).alloc _
  have h1 := h.goes ta
  have hone : ∀ u ∈ [Value.string p.2.key, .bool p.2.has, p.1], u.oneCell' = true := by
    intro u hu
    simp only [List.mem_cons, List.not_mem_nil, or_false] at hu
    rcases hu with rfl | rfl | rfl
    · rfl
    · rfl
    · rw [hpv]
      rfl
  obtain ⟨v2, w2, hr, ho, hg, _, hat⟩ := run_append_own_at (P := Tryz.prog) (wr.alloc (.cells #[.string p.2.key, .bool p.2.has, p.1] 37)) 0 30 30 37 i _ 3 48 Tryz.underlying30 hi hh.1 hh.2.1 hh.2.2 rfl (by omega) v cl.length (cells3 cl) h1.own
    ⟨wr.heap.size, 0, none⟩ 1 1 [.string p.2.key, .bool p.2.has, p.1] rfl (fun j u hj => by
      rw [show (⟨wr.heap.size, 0, none⟩ : Addr).add j = ⟨wr.heap.size, j, none⟩ by unfold Addr.add; split <;> simp_all]
      rw [cell_of_row _ wr.heap.size j _ 37 (0, 0) (heap_alloc_new wr _)]
      simpa using hj) hone (by unfold maxLen; omega) (Nat.le_trans (Nat.mul_le_mul_right 48 (show cl.length + 1 ≤ 1000001 by omega)) (by decide)) (Nat.zero_le _)
  have tg : Turn (fun j => v.ownBlock = some j) (wr.alloc (.cells #[.string p.2.key, .bool p.2.has, p.1] 37)) w2 := (Turn.refl _ _).grown hg (fun j hj => .inl hj)
  have hsz := ta.size
  have hwsz := h.turn.size
  refine ⟨v2, w2, hr, ⟨?_, fun k e => ?_, fun q hq => ?_, h1.turn.trans' tg (fun i hi e => by have := h.new i e; omega)⟩⟩
  · rw [cells3_append, List.length_append]
    exact ho
  · rcases hat with hk | hk
    · exact h.new k (hk ▸ e)
    · rw [hk] at e
      injection e with e
      omega
  · have hq' : Sees (wr.alloc (.cells #[.string p.2.key, .bool p.2.has, p.1] 37)) q.1 q.2.val ∧ (0 < q.2.val.length → ∀ j, slab q.1 = some j → (Q j ∨ w.heap.size ≤ j) ∧ j < wr.heap.size ∧ v.ownBlock ≠ some j) ∧ q.2.key.size ≤ 1099511627776 ∧ q.2.val.length ≤ 140737488355328 := by
      rcases List.mem_append.1 hq with hq | hq
      · obtain ⟨a1, a2, a3, a4⟩ := h.each q hq
        exact ⟨a1.kept ta (fun _ _ e => e), a2, a3, a4⟩
      · rw [List.mem_singleton.1 hq]
        exact ⟨hs.kept ta (fun _ _ e => e), hm, hk, hb⟩
    obtain ⟨a1, a2, a3, a4⟩ := hq'
    refine ⟨a1.kept' tg (fun h0 j hj => (a2 h0 j hj).2.2), fun h0 j hj => ?_, a3, a4⟩
    obtain ⟨b1, b2, b3⟩ := a2 h0 j hj
    refine ⟨b1, Nat.lt_of_lt_of_le b2 (Nat.le_trans hsz tg.size), fun e => ?_⟩
    rcases hat with hk | hk
    · exact b3 (hk ▸ e)
    · rw [hk] at e
      injection e with e
      omega

theorem CM.toCLs (h : CM Q w v cl wr) (hl : cl.length ≤ 1099511627776) : CLs (grow Q w wr) wr v cl := by
  obtain ⟨ao, cap, hv⟩ := h.shape
  refine ⟨⟨ao, cap, hv, hl⟩, fun k hk => ?_⟩
  have hc := cells3_at cl k hk
  rcases h.own.2 with ⟨_, hn⟩ | ⟨g, cap, cur, hve, _, hg, _⟩
  · omega
  · have hcell := World.ownsRow.cells h.own (g := g) (by rw [hve]; rfl)
    have hlt : g < wr.heap.size := (Array.getElem?_eq_some_iff.1 hg).1
    have hat : ∀ j u, (cells3 cl)[j]? = some u → wr.cell? ⟨g, j, none⟩ = some u := fun j u hj => by
      have := hcell j u hj
      rw [show (⟨g, 0, none⟩ : Addr).add j = ⟨g, j, none⟩ by unfold Addr.add; split <;> simp_all] at this
      exact this
    obtain ⟨a1, a2, a3, a4⟩ := h.each cl[k] (List.getElem_mem hk)
    refine ⟨g, cap, hve, .inr ⟨h.new g (by rw [hve]; rfl), hlt⟩, ⟨hat _ _ hc.1, hat _ _ hc.2.1, hat _ _ hc.2.2, a1, fun h0 j hj => ?_, a3, a4⟩⟩
    obtain ⟨b1, b2, _⟩ := a2 h0 j hj
    exact b1.imp id (fun e => ⟨e, b2⟩)

end

/-- The changes that make all pairs. -/
def madeC (m : List (List UInt8 × List UInt8)) : List Chg := m.map fun p => ⟨⟨p.1.toArray⟩, true, p.2⟩

theorem made_ok {m : List (List UInt8 × List UInt8)} (h : fitK m) : (madeC m).all Chg.ok = true := by
  rw [List.all_eq_true]
  intro c hc
  obtain ⟨p, hp, rfl⟩ := List.mem_map.1 hc
  have := h p hp
  unfold Chg.ok
  simp [ByteArray.size]
  omega

theorem rising_get {α : Type} {m : List (List UInt8 × α)} (h : risingK m) (n : Nat) (hn : n < m.length) : kget m[n].1 m = some m[n].2 := by
  unfold kget
  have hf : m.find? (fun p => p.1 == m[n].1) = some m[n] := by
    rw [List.find?_eq_some_iff_getElem]
    refine ⟨by simp, n, hn, rfl, fun j hj => ?_⟩
    have := List.pairwise_iff_getElem.1 h j n (by omega) hn hj
    have hlt := before_lt this
    simp only [Bool.not_eq_true', beq_eq_false_iff_ne]
    intro e
    rw [e] at hlt
    exact List.lt_irrefl _ hlt
  rw [hf]
  rfl

section
variable {w0 w w1 : World} {K : Nat → Prop} {sb mb l b f t N : Nat} {s : WSt} {m : List (List UInt8 × List UInt8)}

end

end Go.Proofs.YteomehdkfhjbeaaGreatDoor
