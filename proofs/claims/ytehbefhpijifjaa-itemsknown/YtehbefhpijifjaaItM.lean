/- Lists of items in memory: what they show, those of the calls' own, one item more. -/
import Derived.Test.YtehbefhpijifjaaItP
import Derived.Test.YtehbefhpijifjaaCells
import Derived.Test.YtehbefhpijifjaaInts
namespace Go.Proofs.Ytehbefhpijifjaa
open Go.RowKit

theorem Try.infoItem : (Try.prog.info? 23).map (fun i => (i.zero, i.size, i.bytes)) = some (some (.agg #[.int .i64 0, .int .i64 0]), 2, 16) := by kernel_rfl

theorem Try.infoInt : (Try.prog.info? 3).map (fun i => (i.zero, i.size, i.bytes)) = some (some (.int .i64 0), 1, 8) := by kernel_rfl

theorem turn_drewNI (S : Nat → Prop) (w : World) (n : Nat) : Turn S w (w.drewN n) := ⟨rfl, rfl, rfl, Nat.le_refl _, fun _ _ _ => rfl⟩

/-- An item as a value. -/
def itV (e : It) : Value := .agg #[.int .i64 e.1, .int .i64 e.2]

theorem item_id (a b : Int) (w : World) : (Instr.field 23 (.agg #[.int .i64 a, .int .i64 b]) 0).run Try.prog w = .ok (.int .i64 a) w := by kernel_rfl
theorem item_ver (a b : Int) (w : World) : (Instr.field 23 (.agg #[.int .i64 a, .int .i64 b]) 1).run Try.prog w = .ok (.int .i64 b) w := by kernel_rfl

/-- Items as cells. -/
def cells2 : List It → List Value
  | [] => []
  | e :: r => .int .i64 e.1 :: .int .i64 e.2 :: cells2 r

theorem cells2_length (l : List It) : (cells2 l).length = l.length * 2 := by
  induction l with
  | nil => rfl
  | cons e r ih => simp only [cells2, List.length_cons, ih]; omega

theorem cells2_append (a b : List It) : cells2 (a ++ b) = cells2 a ++ cells2 b := by
  induction a with
  | nil => rfl
  | cons e r ih => simp [cells2, ih]

theorem cells2_at (l : List It) (k : Nat) (hk : k < l.length) : (cells2 l)[k * 2]? = some (.int .i64 l[k].1) ∧ (cells2 l)[k * 2 + 1]? = some (.int .i64 l[k].2) := by
  induction l generalizing k with
  | nil => simp at hk
  | cons e r ih =>
    cases k with
    | zero => simp [cells2]
    | succ k =>
      have := ih k (by simpa using hk)
      simpa [cells2, Nat.succ_mul] using this

theorem cells2_get {l : List It} {j : Nat} {u : Value} (h : (cells2 l)[j]? = some u) : ∃ k, ∃ hk : k < l.length, (j = k * 2 ∧ u = .int .i64 l[k].1) ∨ (j = k * 2 + 1 ∧ u = .int .i64 l[k].2) := by
  have hj := (List.getElem?_eq_some_iff.1 h).1
  rw [cells2_length] at hj
  have hk : j / 2 < l.length := by omega
  obtain ⟨a, b⟩ := cells2_at l (j / 2) hk
  refine ⟨j / 2, hk, ?_⟩
  by_cases h0 : j % 2 = 0
  · have e : j / 2 * 2 = j := by omega
    rw [e, h] at a
    injection a with a
    exact .inl ⟨by omega, a⟩
  · have e : j / 2 * 2 + 1 = j := by omega
    rw [e, h] at b
    injection b with b
    exact .inr ⟨by omega, b⟩

theorem cells2_one {u : Value} {l : List It} (h : u ∈ cells2 l) : u.oneCell' = true := by
  obtain ⟨j, hj⟩ := List.getElem?_of_mem h
  obtain ⟨k, hk, ⟨_, rfl⟩ | ⟨_, rfl⟩⟩ := cells2_get hj <;> rfl

/-- What a list of items shows in a world. -/
def ISees (w : World) (v : Value) (l : List It) : Prop :=
  (v = .slice none 0 0 ∧ l = []) ∨
  ∃ g o cap, v = .slice (some ⟨g, o, none⟩) l.length cap ∧ l.length ≤ cap ∧ cap ≤ maxLen ∧
    ∀ k (hk : k < l.length), w.cell? ⟨g, o + k * 2, none⟩ = some (.int .i64 l[k].1) ∧ w.cell? ⟨g, o + k * 2 + 1, none⟩ = some (.int .i64 l[k].2)

section
variable {S : Nat → Prop} {w w' : World} {v : Value} {l : List It}

theorem ISees.nil (w : World) : ISees w (.slice none 0 0) [] := .inl ⟨rfl, rfl⟩

theorem ISees.kept (h : ISees w v l) (ht : Turn S w w') (hs : ∀ k, slab v = some k → ¬ S k) : ISees w' v l := by
  rcases h with h | ⟨g, o, cap, rfl, hc, hm, hcell⟩
  · exact .inl h
  · refine .inr ⟨g, o, cap, rfl, hc, hm, fun k hk => ?_⟩
    obtain ⟨a, b⟩ := hcell k hk
    have hlt := World.block_lt_of_cell? _ _ a
    rw [ht.cell hlt (hs _ rfl), ht.cell (p := ⟨g, o + k * 2 + 1, none⟩) hlt (hs _ rfl)]
    exact ⟨a, b⟩

theorem ISees.shape (h : ISees w v l) : ∃ ao cap, v = .slice ao l.length cap := by
  rcases h with ⟨rfl, rfl⟩ | ⟨g, o, cap, rfl, _⟩
  · exact ⟨none, 0, rfl⟩
  · exact ⟨_, _, rfl⟩

theorem ISees.at {ao : Option Addr} {n cap : Nat} (h : ISees w (.slice ao n cap) l) (k : Nat) (hk : k < l.length) :
    ∃ g o, ao = some ⟨g, o, none⟩ ∧ w.cell? ⟨g, o + k * 2, none⟩ = some (.int .i64 l[k].1) ∧ w.cell? ⟨g, o + k * 2 + 1, none⟩ = some (.int .i64 l[k].2) := by
  rcases h with ⟨_, rfl⟩ | ⟨g, o, cap, e, hc, hm, hcell⟩
  · simp at hk
  · injection e with e
    exact ⟨g, o, e, hcell k hk⟩

theorem ISees.lit (w : World) (l : List It) (h : l.length ≤ maxLen) : ISees (w.alloc (.cells (cells2 l).toArray 23)) (.slice (some ⟨w.heap.size, 0, none⟩) l.length l.length) l :=
  .inr ⟨_, _, _, rfl, Nat.le_refl _, h, fun k hk => by
    obtain ⟨a, b⟩ := cells2_at l k hk
    constructor
    · rw [cell_of_row _ w.heap.size _ _ 23 (0, 0) (heap_alloc_new w _)]
      simpa using a
    · rw [cell_of_row _ w.heap.size _ _ 23 (0, 0) (heap_alloc_new w _)]
      simpa using b⟩

/-- The front of a list. -/
theorem ISees.front {g o n cap : Nat} (h : ISees w (.slice (some ⟨g, o, none⟩) n cap) l) (k : Nat) (hk : k ≤ l.length) : ISees w (.slice (some ⟨g, o, none⟩) k cap) (l.take k) := by
  rcases h with ⟨h, _⟩ | ⟨g', o', cap', e, hc, hm, hcell⟩
  · cases h
  · simp only [Value.slice.injEq, Option.some.injEq, Addr.mk.injEq, and_true] at e
    obtain ⟨⟨rfl, rfl⟩, rfl, rfl⟩ := e
    refine .inr ⟨g, o, cap, by simp [Nat.min_eq_left hk], by simp; omega, hm, fun j hj => ?_⟩
    have hj2 : j < l.length := by simp at hj; omega
    rw [List.getElem_take]
    exact hcell j hj2

/-- All but the first. -/
theorem ISees.tail {g o n cap : Nat} {e : It} {r : List It} (h : ISees w (.slice (some ⟨g, o, none⟩) n cap) (e :: r)) (a2 : Addr) (h2 : a2 = ⟨g, o + 2, none⟩ ∨ cap = 1 ∧ a2 = ⟨g, o, none⟩) : ISees w (.slice (some a2) r.length (cap - 1)) r := by
  rcases h with ⟨h, _⟩ | ⟨g', o', cap', e, hc, hm, hcell⟩
  · cases h
  · simp only [Value.slice.injEq, Option.some.injEq, Addr.mk.injEq, and_true] at e
    obtain ⟨⟨rfl, rfl⟩, rfl, rfl⟩ := e
    simp only [List.length_cons] at hc
    rcases h2 with rfl | ⟨h2, rfl⟩
    · refine .inr ⟨g, o + 2, cap - 1, rfl, by omega, by omega, fun j hj => ?_⟩
      have := hcell (j + 1) (by simpa using hj)
      rw [show o + 2 + j * 2 = o + (j + 1) * 2 by omega]
      simpa using this
    · have h0 : r = [] := List.eq_nil_of_length_eq_zero (by omega)
      subst h0
      exact .inr ⟨g, o, cap - 1, rfl, by simp, by omega, fun j hj => by simp at hj⟩

end

/-- A list of items of the calls' own. -/
def IOwns (w : World) (v : Value) (l : List It) : Prop := w.ownsRow 0 23 2 v l.length (cells2 l)

section
variable {S : Nat → Prop} {w w' : World} {v : Value} {l : List It}

theorem IOwns.nil (w : World) : IOwns w (.slice none 0 0) [] := World.ownsRow_nil w 0 23 2

theorem IOwns.empty (w : World) : IOwns (w.alloc (.cells #[] 23)) (.slice (some ⟨w.heap.size, 0, none⟩) 0 0) [] :=
  World.ownsRow_made w #[] 0 (Nat.zero_le _) (Nat.zero_le _) rfl

theorem IOwns.sees (h : IOwns w v l) : ISees w v l := by
  have hc := fun g hg => World.ownsRow.cells h (g := g) hg
  rcases h.2 with ⟨rfl, hn⟩ | ⟨g, cap, cur, rfl, _, hg, hn, hm, hs, ht⟩
  · exact .inl ⟨rfl, List.eq_nil_of_length_eq_zero hn⟩
  · refine .inr ⟨g, 0, cap, rfl, hn, hm, fun k hk => ?_⟩
    obtain ⟨a, b⟩ := cells2_at l k hk
    have h1 := hc g rfl _ _ a
    have h2 := hc g rfl _ _ b
    rw [Addr.add_lit] at h1 h2
    exact ⟨h1, by rw [Nat.add_assoc]; exact h2⟩

theorem IOwns.lt (h : IOwns w v l) {k : Nat} (hk : v.ownBlock = some k) : k < w.heap.size := (World.ownsRow.lt h k hk).2

theorem IOwns.slab_eq (h : IOwns w v l) : slab v = v.ownBlock := by
  rcases h.2 with ⟨rfl, hn⟩ | ⟨g, cap, cur, rfl, _⟩ <;> rfl

theorem IOwns.kept (h : IOwns w v l) (ht : Turn S w w') (hs : ∀ k, v.ownBlock = some k → ¬ S k) : IOwns w' v l := by
  refine ⟨h.1, ?_⟩
  rcases h.2 with hn | ⟨g, cap, cur, rfl, hb, hgg, rest⟩
  · exact .inl hn
  · refine .inr ⟨g, cap, cur, rfl, hb, ?_, rest⟩
    rw [ht.block g (Array.getElem?_eq_some_iff.1 hgg).1 (hs g rfl)]
    exact hgg

theorem IOwns.shape (h : IOwns w v l) : ∃ ao cap, v = .slice ao l.length cap := h.sees.shape

/-- append of items onto a list of the calls' own. -/
theorem IOwns.cat (h : IOwns w v l) (sv : Value) (m : List It) (hs : ISees w sv m) (hb : l.length + m.length ≤ 8796093022208) :
    ∃ v' w', (Builtin.append_ #[24, 24] 24 #[v, sv]).run Try.prog w = .ok v' w' ∧ IOwns w' v' (l ++ m) ∧ w.grownBy w' v.ownBlock ∧ (v'.ownBlock = v.ownBlock ∨ v'.ownBlock = some w.heap.size) := by
  obtain ⟨i, hi, hz, hsz, hby⟩ := info_parts Try.infoItem
  rcases hs with ⟨rfl, rfl⟩ | ⟨g, o, cap, rfl, hc, hm, hcell⟩
  · exact ⟨v, w, run_append_owned_none w 0 24 24 23 i 2 Try.underlying24 hi v _ _ h, by simpa using h, ⟨rfl, rfl, rfl, Nat.le_refl _, fun _ _ _ => rfl⟩, .inl rfl⟩
  · obtain ⟨v', w', hr, ho, hg, _, hat⟩ := run_append_own_at (P := Try.prog) w 0 24 24 23 i _ 2 16 Try.underlying24 hi hz hsz hby rfl (by omega) v l.length (cells2 l) h ⟨g, o, none⟩ m.length cap (cells2 m) (cells2_length m)
      (fun j u hj => by
        obtain ⟨k, hk, ⟨rfl, rfl⟩ | ⟨rfl, rfl⟩⟩ := cells2_get hj
        · rw [Addr.add_lit]
          exact (hcell k hk).1
        · rw [Addr.add_lit, ← Nat.add_assoc]
          exact (hcell k hk).2) (fun u hu => cells2_one hu) (by unfold maxLen; omega) (by omega) (Nat.zero_le _)
    refine ⟨v', w', hr, ?_, hg, hat⟩
    unfold IOwns
    rw [List.length_append, cells2_append]
    exact ho

end

/-- A list of items of one's own, in new memory; nothing else has turned. -/
def IMade (w : World) (v : Value) (l : List It) (w' : World) : Prop := IOwns w' v l ∧ Turn (fun _ => False) w w' ∧ ∀ k, v.ownBlock = some k → w.heap.size ≤ k

section
variable {w w1 w2 : World} {v : Value} {l : List It}

theorem IMade.nil (w : World) : IMade w (.slice none 0 0) [] w := ⟨IOwns.nil w, Turn.refl _ _, fun k hk => by cases hk⟩

theorem IMade.goes (h : IMade w v l w1) (t : Turn (fun _ => False) w1 w2) : IMade w v l w2 :=
  ⟨h.1.kept t (fun _ _ e => e), h.2.1.trans t, h.2.2⟩

theorem IMade.back {w0 : World} (h : IMade w v l w1) (t : Turn (fun _ => False) w0 w) : IMade w0 v l w1 :=
  ⟨h.1, t.trans h.2.1, fun k hk => Nat.le_trans t.size (h.2.2 k hk)⟩

theorem IMade.shape (h : IMade w v l w1) : ∃ ao cap, v = .slice ao l.length cap := h.1.shape

/-- One more. -/
theorem IMade.cat (h : IMade w v l w1) (e : It) (hb : l.length ≤ 1000000000) :
    ∃ v2 w2, (Builtin.append_ #[24, 24] 24 #[v, .slice (some ⟨w1.heap.size, 0, none⟩) 1 1]).run Try.prog (w1.alloc (.cells #[.int .i64 e.1, .int .i64 e.2] 23)) = .ok v2 w2 ∧ IMade w v2 (l ++ [e]) w2 ∧ Turn (fun k => v.ownBlock = some k) w1 w2 := by
  have ta : Turn (fun _ => False) w1 (w1.alloc (.cells #[.int .i64 e.1, .int .i64 e.2] 23)) := (Turn.refl _ _).alloc _
  obtain ⟨v2, w2, hr, ho, hg, hat⟩ := (h.1.kept ta (fun _ _ e => e)).cat _ [e] (ISees.lit w1 [e] (by simp [maxLen])) (by simp; omega)
  have tg : Turn (fun j => v.ownBlock = some j) (w1.alloc (.cells #[.int .i64 e.1, .int .i64 e.2] 23)) w2 := (Turn.refl _ _).grown hg (fun j hj => .inl hj)
  have hsz := h.2.1.size
  have hsa := ta.size
  refine ⟨v2, w2, hr, ⟨ho, (h.2.1.trans ta).trans' tg (fun i hi e => by have := h.2.2 i e; omega), fun k hk => ?_⟩, (ta.mono (fun _ _ e => e.elim)).trans tg⟩
  rcases hat with e | e
  · exact h.2.2 k (e ▸ hk)
  · rw [e] at hk
    injection hk with hk
    omega

end

theorem cells2_set (l : List It) (k : Nat) (e : It) : cells2 (l.set k e) = ((cells2 l).set (k * 2) (.int .i64 e.1)).set (k * 2 + 1) (.int .i64 e.2) := by
  induction l generalizing k with
  | nil => rfl
  | cons a r ih =>
    cases k with
    | zero => simp [cells2]
    | succ k =>
      simp only [List.set_cons_succ, cells2, ih, Nat.succ_mul]

/-- An item of one's own list is stored anew. -/
theorem IOwns.put {w : World} {v : Value} {l : List It} (h : IOwns w v l) (k : Nat) (hk : k < l.length) (e : It) :
    ∃ g cap, v = .slice (some ⟨g, 0, none⟩) l.length cap ∧ w.frozen? ⟨g, k * 2, none⟩ = false ∧ w.frozen? ⟨g, k * 2 + 1, none⟩ = false ∧ w.cell? ⟨g, k * 2, none⟩ = some (.int .i64 l[k].1) ∧ w.cell? ⟨g, k * 2 + 1, none⟩ = some (.int .i64 l[k].2) ∧
      IOwns ((w.setCell ⟨g, k * 2, none⟩ (.int .i64 e.1)).setCell ⟨g, k * 2 + 1, none⟩ (.int .i64 e.2)) v (l.set k e) ∧ (l[k].2 = e.2 → IOwns (w.setCell ⟨g, k * 2, none⟩ (.int .i64 e.1)) v (l.set k e)) := by
  have hs := h.sees
  have hx := h
  rcases hx.2 with ⟨_, hn⟩ | ⟨g, cap, cur, rfl, hb, hg, hn, hm, hsz, ht⟩
  · omega
  · obtain ⟨g', o', e1, c0, c1⟩ := hs.at k hk
    injection e1 with e1
    simp only [Addr.mk.injEq, and_true] at e1
    obtain ⟨rfl, rfl⟩ := e1
    rw [Nat.zero_add] at c0 c1
    have hA : At 23 w g cur := hg
    have hl : l.length * 2 = (cells2 l).length := (cells2_length l).symm
    refine ⟨g, cap, rfl, hA.frozen _, hA.frozen _, c0, c1, ⟨by simp [cells2_length], .inr ⟨g, cap, (cur.setIfInBounds (k * 2) (.int .i64 e.1)).setIfInBounds (k * 2 + 1) (.int .i64 e.2), by rw [List.length_set], hb, (hA.set _ _).set _ _, by rw [List.length_set]; exact hn, hm, by simp [hsz], ?_⟩⟩, fun he => ⟨by simp [cells2_length], .inr ⟨g, cap, cur.setIfInBounds (k * 2) (.int .i64 e.1), by rw [List.length_set], hb, hA.set _ _, by rw [List.length_set]; exact hn, hm, by simp [hsz], ?_⟩⟩⟩
    · rw [List.length_set, cells2_set, Array.toList_setIfInBounds, Array.toList_setIfInBounds, List.take_set, List.take_set, ht]
    · rw [List.length_set, cells2_set, Array.toList_setIfInBounds, List.take_set, ht, ← he]
      refine (List.ext_getElem? fun j => ?_)
      by_cases hj : k * 2 + 1 = j
      · subst hj
        rw [List.getElem?_set_ne (by omega), List.getElem?_set_self (by simp [cells2_length]; omega)]
        exact (cells2_at l k hk).2
      · rw [List.getElem?_set_ne (l := (cells2 l).set (k * 2) _) hj]

end Go.Proofs.Ytehbefhpijifjaa
