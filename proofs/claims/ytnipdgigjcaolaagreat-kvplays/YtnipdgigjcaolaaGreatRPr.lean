/- The reference's pairs: plainly, in memory, in the making. -/
import Derived.Test.YtnipdgigjcaolaaGreatPkU
import Derived.Test.YtnipdgigjcaolaaGreatR5H
namespace Go.Proofs.YtnipdgigjcaolaaGreat
open Go.RowKit

/-- A key's text. -/
def txt (k : List UInt8) : ByteArray := ⟨k.toArray⟩

theorem txt_toList (k : List UInt8) : (txt k).toList = k := by unfold txt; rw [Lib.toList_data]

theorem less_before : ∀ (a b : List UInt8), Op.bytesLess a b = bytesBefore a b
  | [], [] => rfl
  | [], _ :: _ => rfl
  | _ :: _, [] => rfl
  | a :: x, b :: y => by
    rw [Op.bytesLess, bytesBefore, less_before x y]

theorem txt_less (k y : List UInt8) : Op.bytesLess (txt k).toList (txt y).toList = bytesBefore k y := by rw [txt_toList, txt_toList, less_before]
theorem txt_same (k y : List UInt8) : ((txt k).toList == (txt y).toList) = (k == y) := by rw [txt_toList, txt_toList]

theorem before_self (k : List UInt8) : bytesBefore k k = false := by
  cases h : bytesBefore k k with
  | false => rfl
  | true => exact absurd (before_lt h) (List.lt_irrefl _)

/-- What put makes of what is left, where the change is done or not. -/
def putR {α : Type} (k : List UInt8) (v : α) : Bool → List (List UInt8 × α) → List (List UInt8 × α)
  | done, [] => if done = true then [] else [(k, v)]
  | done, y :: r => (if (!done && bytesBefore k y.1) = true then [(k, v)] else []) ++ ((if y.1 = k then [] else [y]) ++ putR k v (done || bytesBefore k y.1) r)

theorem putR_done {α : Type} (k : List UInt8) (v : α) : ∀ l : List (List UInt8 × α), putR k v true l = kdel k l
  | [] => rfl
  | y :: r => by
    rw [putR, Bool.true_or, putR_done k v r]
    unfold kdel
    by_cases h : y.1 = k
    · simp [h]
    · simp [h]

theorem putR_put {α : Type} (k : List UInt8) (v : α) : ∀ l : List (List UInt8 × α), putR k v false l = kput k v l
  | [] => rfl
  | y :: r => by
    rw [putR, Bool.false_or]
    cases hb : bytesBefore k y.1 with
    | true =>
      have hne : y.1 ≠ k := fun e => by rw [e, before_self] at hb; cases hb
      rw [putR_done]
      have e : kdel k (y :: r) = y :: kdel k r := by unfold kdel; simp [hne]
      unfold kput
      rw [e, kins_cons, if_pos hb]
      simp [hne]
    | false =>
      rw [putR_put k v r]
      by_cases h : y.1 = k
      · have e : kdel k (y :: r) = kdel k r := by unfold kdel; simp [h]
        unfold kput
        rw [e]
        simp [h]
      · have e : kdel k (y :: r) = y :: kdel k r := by unfold kdel; simp [h]
        unfold kput
        rw [e, kins_cons, hb]
        simp [h]

/-- Pairs as cells. -/
def cells2 (pl : List (List UInt8 × (Value × List UInt8))) : List Value := pl.flatMap fun p => [.string (txt p.1), p.2.1]

theorem cells2_cons (p : List UInt8 × (Value × List UInt8)) (r : List (List UInt8 × (Value × List UInt8))) : cells2 (p :: r) = .string (txt p.1) :: p.2.1 :: cells2 r := rfl

theorem cells2_at : ∀ (pl : List (List UInt8 × (Value × List UInt8))) (k : Nat) (hk : k < pl.length), (cells2 pl)[k * 2]? = some (.string (txt pl[k].1)) ∧ (cells2 pl)[k * 2 + 1]? = some pl[k].2.1
  | [], k, hk => by simp at hk
  | p :: r, 0, _ => ⟨rfl, rfl⟩
  | p :: r, k + 1, hk => by
    have ih := cells2_at r k (by simpa using hk)
    rw [cells2_cons, show (k + 1) * 2 = k * 2 + 2 by omega]
    exact ih

theorem cells2_append (a b : List (List UInt8 × (Value × List UInt8))) : cells2 (a ++ b) = cells2 a ++ cells2 b := by simp [cells2]

theorem Tryz.infoPair : (Tryz.prog.info? 149).map (fun i => (i.zero, i.size, i.bytes)) = some (some (.agg #[.string ⟨#[]⟩, .slice none 0 0]), 2, 40) := by kernel_rfl

/-- One pair, at its place. -/
structure PrAt (Q : Nat → Prop) (w : World) (g o : Nat) (p : List UInt8 × (Value × List UInt8)) : Prop where
  c0 : w.cell? ⟨g, o, none⟩ = some (.string (txt p.1))
  c1 : w.cell? ⟨g, o + 1, none⟩ = some p.2.1
  sees : Sees w p.2.1 p.2.2
  mem : 0 < p.2.2.length → ∀ j, slab p.2.1 = some j → Q j
  key : p.1.length ≤ 1099511627776
  len : p.2.2.length ≤ 140737488355328

/-- Pairs in memory, all of it in Q. -/
structure PrL (Q : Nat → Prop) (w : World) (v : Value) (l : List (List UInt8 × (Value × List UInt8))) : Prop where
  shape : ∃ ao cap, v = .slice ao l.length cap ∧ l.length ≤ 10000000
  each : ∀ k (hk : k < l.length), ∃ g cap, v = .slice (some ⟨g, 0, none⟩) l.length cap ∧ Q g ∧ PrAt Q w g (k * 2) l[k]

/-- Pairs in the making: the row in new memory, each value in Q or in new memory, apart from the row. -/
structure PM (Q : Nat → Prop) (w : World) (v : Value) (pl : List (List UInt8 × (Value × List UInt8))) (wr : World) : Prop where
  own : wr.ownsRow 0 149 2 v pl.length (cells2 pl)
  new : ∀ k, v.ownBlock = some k → w.heap.size ≤ k
  each : ∀ p ∈ pl, Sees wr p.2.1 p.2.2 ∧ (0 < p.2.2.length → ∀ j, slab p.2.1 = some j → (Q j ∨ w.heap.size ≤ j) ∧ j < wr.heap.size ∧ v.ownBlock ≠ some j) ∧ p.1.length ≤ 1099511627776 ∧ p.2.2.length ≤ 140737488355328
  turn : Turn (fun _ => False) w wr

section
variable {Q Q' : Nat → Prop} {w wr w' w2 : World} {g o : Nat} {v : Value} {p : List UInt8 × (Value × List UInt8)} {l pl : List (List UInt8 × (Value × List UInt8))}

theorem PrAt.kept {S : Nat → Prop} (h : PrAt Q w g o p) (hg : Q g) (t : Turn S w w') (hS : ∀ j, Q j → ¬ S j) : PrAt Q w' g o p := by
  have hlt := World.block_lt_of_cell? _ _ h.c0
  have hc : ∀ i, w'.cell? ⟨g, i, none⟩ = w.cell? ⟨g, i, none⟩ := fun i => t.cell (p := ⟨g, i, none⟩) hlt (hS g hg)
  exact ⟨(hc _).trans h.c0, (hc _).trans h.c1, h.sees.kept' t (fun h0 j hj => hS j (h.mem h0 j hj)), h.mem, h.key, h.len⟩

theorem PrL.kept {S : Nat → Prop} (h : PrL Q w v l) (t : Turn S w w') (hS : ∀ j, Q j → ¬ S j) : PrL Q w' v l :=
  ⟨h.shape, fun k hk => by
    obtain ⟨g, cap, e, hg, hc⟩ := h.each k hk
    exact ⟨g, cap, e, hg, hc.kept hg t hS⟩⟩

theorem PrL.mono (h : PrL Q w v l) (hQ : ∀ j, Q j → Q' j) : PrL Q' w v l :=
  ⟨h.shape, fun k hk => by
    obtain ⟨g, cap, e, hg, hc⟩ := h.each k hk
    exact ⟨g, cap, e, hQ g hg, hc.c0, hc.c1, hc.sees, fun h0 j hj => hQ j (hc.mem h0 j hj), hc.key, hc.len⟩⟩

theorem PrL.nil (Q : Nat → Prop) (w : World) : PrL Q w (.slice none 0 0) [] := ⟨⟨none, 0, rfl, by simp⟩, fun k hk => by simp at hk⟩

theorem PM.nil (Q : Nat → Prop) (w : World) : PM Q w (.slice none 0 0) [] w := ⟨World.ownsRow_nil _ _ _ _, fun k hk => by simp [Value.ownBlock] at hk, fun p hp => by simp at hp, Turn.refl _ _⟩

theorem PM.goes (h : PM Q w v pl wr) (t : Turn (fun _ => False) wr w2) : PM Q w v pl w2 :=
  ⟨own_turn h.own t (fun _ _ e => e), h.new, fun p hp => by
    obtain ⟨h1, h2, h3, h4⟩ := h.each p hp
    exact ⟨h1.kept t (fun _ _ e => e), fun h0 j hj => ⟨(h2 h0 j hj).1, Nat.lt_of_lt_of_le (h2 h0 j hj).2.1 t.size, (h2 h0 j hj).2.2⟩, h3, h4⟩, h.turn.trans t⟩

theorem PM.shape (h : PM Q w v pl wr) : ∃ ao cap, v = .slice ao pl.length cap := by
  rcases h.own.2 with ⟨rfl, hn⟩ | ⟨g, cap, cur, rfl, _⟩
  · exact ⟨none, 0, by rw [hn]⟩
  · exact ⟨_, _, rfl⟩

/-- One more. -/
theorem PM.cat (h : PM Q w v pl wr) (p : List UInt8 × (Value × List UInt8)) (hs : Sees wr p.2.1 p.2.2) (hm : 0 < p.2.2.length → ∀ j, slab p.2.1 = some j → (Q j ∨ w.heap.size ≤ j) ∧ j < wr.heap.size ∧ v.ownBlock ≠ some j) (hk : p.1.length ≤ 1099511627776) (hb : p.2.2.length ≤ 140737488355328) (hl : pl.length ≤ 10000000) :
    ∃ v2 w2, (Builtin.append_ #[144, 144] 144 #[v, .slice (some ⟨wr.heap.size, 0, none⟩) 1 1]).run Tryz.prog (wr.alloc (.cells #[.string (txt p.1), p.2.1] 149)) = .ok v2 w2 ∧ PM Q w v2 (pl ++ [p]) w2 ∧ Turn (fun j => v.ownBlock = some j) wr w2 := by
  obtain ⟨i, hi, hh⟩ := Option.map_eq_some_iff.1 Tryz.infoPair
  simp only [Prod.mk.injEq] at hh
  obtain ⟨po, pc, hpv⟩ := hs.shape
  have ta : Turn (fun _ => False) wr (wr.alloc (.cells #[.string (txt p.1), p.2.1] 149)) := (Turn.refl _ _).alloc _
  have h1 := h.goes ta
  have hone : ∀ u ∈ [Value.string (txt p.1), p.2.1], u.oneCell' = true := by
    intro u hu
    simp only [List.mem_cons, List.not_mem_nil, or_false] at hu
    rcases hu with rfl | rfl
    · rfl
    · rw [hpv]
      rfl
  obtain ⟨v2, w2, hr, ho, hg, _, hat⟩ := run_append_own_at (P := Tryz.prog) (wr.alloc (.cells #[.string (txt p.1), p.2.1] 149)) 0 144 144 149 i _ 2 40 Tryz.underlying144 hi hh.1 hh.2.1 hh.2.2 rfl (by omega) v pl.length (cells2 pl) h1.own
    ⟨wr.heap.size, 0, none⟩ 1 1 [.string (txt p.1), p.2.1] rfl (fun j u hj => by
      rw [show (⟨wr.heap.size, 0, none⟩ : Addr).add j = ⟨wr.heap.size, j, none⟩ by unfold Addr.add; split <;> simp_all]
      rw [cell_of_row _ wr.heap.size j _ 149 (0, 0) (heap_alloc_new wr _)]
      simpa using hj) hone (by unfold maxLen; omega) (Nat.le_trans (Nat.mul_le_mul_right 40 (show pl.length + 1 ≤ 10000001 by omega)) (by decide)) (Nat.zero_le _)
  have tg : Turn (fun j => v.ownBlock = some j) (wr.alloc (.cells #[.string (txt p.1), p.2.1] 149)) w2 := (Turn.refl _ _).grown hg (fun j hj => .inl hj)
  have hsz := ta.size
  have hwsz := h.turn.size
  refine ⟨v2, w2, hr, ⟨?_, fun k e => ?_, fun q hq => ?_, h1.turn.trans' tg (fun i hi e => by have := h.new i e; omega)⟩, (ta.mono (fun _ _ e => e.elim)).trans tg⟩
  · rw [cells2_append, List.length_append]
    exact ho
  · rcases hat with hk | hk
    · exact h.new k (hk ▸ e)
    · rw [hk] at e
      injection e with e
      omega
  · have hq' : Sees (wr.alloc (.cells #[.string (txt p.1), p.2.1] 149)) q.2.1 q.2.2 ∧ (0 < q.2.2.length → ∀ j, slab q.2.1 = some j → (Q j ∨ w.heap.size ≤ j) ∧ j < wr.heap.size ∧ v.ownBlock ≠ some j) ∧ q.1.length ≤ 1099511627776 ∧ q.2.2.length ≤ 140737488355328 := by
      rcases List.mem_append.1 hq with hq | hq
      · obtain ⟨a1, a2, a3, a4⟩ := h.each q hq
        exact ⟨a1.kept ta (fun _ _ e => e), a2, a3, a4⟩
      · rw [List.mem_singleton.1 hq]
        exact ⟨hs.kept ta (fun _ _ e => e), hm, hk, hb⟩
    obtain ⟨a1, a2, a3, a4⟩ := hq'
    refine ⟨a1.kept' tg (fun h0 j hj => (a2 h0 j hj).2.2), fun h0 j hj => ?_, a3, a4⟩
    obtain ⟨b1, b2, b3⟩ := a2 h0 j hj
    refine ⟨b1, Nat.lt_of_lt_of_le b2 (Nat.le_trans hsz tg.size), fun e => ?_⟩
    rcases hat with hk | hk
    · exact b3 (hk ▸ e)
    · rw [hk] at e
      injection e with e
      omega

theorem PM.toPrL (h : PM Q w v pl wr) (hl : pl.length ≤ 10000000) : PrL (grow Q w wr) wr v pl := by
  obtain ⟨ao, cap, hv⟩ := h.shape
  refine ⟨⟨ao, cap, hv, hl⟩, fun k hk => ?_⟩
  have hc := cells2_at pl k hk
  rcases h.own.2 with ⟨_, hn⟩ | ⟨g, cap, cur, hve, _, hg, _⟩
  · omega
  · have hcell := World.ownsRow.cells h.own (g := g) (by rw [hve]; rfl)
    have hlt : g < wr.heap.size := (Array.getElem?_eq_some_iff.1 hg).1
    have hat : ∀ j u, (cells2 pl)[j]? = some u → wr.cell? ⟨g, j, none⟩ = some u := fun j u hj => by
      have := hcell j u hj
      rw [show (⟨g, 0, none⟩ : Addr).add j = ⟨g, j, none⟩ by unfold Addr.add; split <;> simp_all] at this
      exact this
    obtain ⟨a1, a2, a3, a4⟩ := h.each pl[k] (List.getElem_mem hk)
    refine ⟨g, cap, hve, .inr ⟨h.new g (by rw [hve]; rfl), hlt⟩, ⟨hat _ _ hc.1, hat _ _ hc.2, a1, fun h0 j hj => ?_, a3, a4⟩⟩
    obtain ⟨b1, b2, _⟩ := a2 h0 j hj
    exact b1.imp id (fun e => ⟨e, b2⟩)

end

end Go.Proofs.YtnipdgigjcaolaaGreat
