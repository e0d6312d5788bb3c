/- The reference's Disk: its methods. -/
import Derived.Test.YtnojedjdnecagaaR5T
namespace Go.Proofs.Ytnojedjdnecagaa
open Go.RowKit

/-- The reference's Disk, plainly. -/
structure RSt where
  kept : List (List UInt8)
  pend : List DOp
  fuse : Int
  dead : Bool
  works : Nat

/-- What pends, in memory. -/
def RP (Q : Nat → Prop) (w : World) (v : Value) (l : List (DOp × Value)) : Prop :=
  (v = .slice none 0 0 ∧ l = []) ∨
  ∃ g cap, v = .slice (some ⟨g, 0, none⟩) l.length cap ∧ l.length ≤ cap ∧ cap ≤ maxLen ∧ Q g ∧
    (∀ k (hk : k < l.length), w.cell? ⟨g, k * 3, none⟩ = some (.int .i64 l[k].1.key) ∧ w.cell? ⟨g, k * 3 + 1, none⟩ = some (.bool l[k].1.isRem) ∧ w.cell? ⟨g, k * 3 + 2, none⟩ = some l[k].2) ∧ ∀ p ∈ l, ROk Q w p

section
variable {Q Q' : Nat → Prop} {w w' : World} {v : Value} {l : List (DOp × Value)}

theorem RP.kept {S : Nat → Prop} (h : RP Q w v l) (t : Turn S w w') (hS : ∀ j, Q j → ¬ S j) : RP Q w' v l := by
  rcases h with h | ⟨g, cap, rfl, h1, h2, h3, h4, h5⟩
  · exact .inl h
  · have hc : ∀ o u, w.cell? ⟨g, o, none⟩ = some u → w'.cell? ⟨g, o, none⟩ = some u := fun o u hu => by
      rw [t.cell (p := ⟨g, o, none⟩) (World.block_lt_of_cell? _ _ hu) (hS g h3)]
      exact hu
    exact .inr ⟨g, cap, rfl, h1, h2, h3, fun k hk => ⟨hc _ _ (h4 k hk).1, hc _ _ (h4 k hk).2.1, hc _ _ (h4 k hk).2.2⟩, fun p hp => (h5 p hp).kept t hS⟩

theorem RP.mono (h : RP Q w v l) (hQ : ∀ j, Q j → Q' j) : RP Q' w v l := by
  rcases h with h | ⟨g, cap, rfl, h1, h2, h3, h4, h5⟩
  · exact .inl h
  · exact .inr ⟨g, cap, rfl, h1, h2, hQ g h3, h4, fun p hp => (h5 p hp).mono hQ⟩

theorem RP.shape (h : RP Q w v l) : ∃ ao cap, v = .slice ao l.length cap := by
  rcases h with ⟨rfl, rfl⟩ | ⟨g, cap, rfl, _⟩
  · exact ⟨none, 0, rfl⟩
  · exact ⟨_, _, rfl⟩

theorem RP.each (h : RP Q w v l) : ∀ p ∈ l, ROk Q w p := by
  rcases h with ⟨_, rfl⟩ | ⟨g, cap, rfl, h1, h2, h3, h4, h5⟩
  · intro p hp; simp at hp
  · exact h5

theorem RP.at (h : RP Q w v l) (k : Nat) (hk : k < l.length) : ∃ g cap ao n c, v = .slice (some ⟨g, 0, none⟩) l.length cap ∧ l[k].2 = .slice ao n c ∧ w.cell? ⟨g, k * 3, none⟩ = some (.int .i64 l[k].1.key) ∧ w.cell? ⟨g, k * 3 + 1, none⟩ = some (.bool l[k].1.isRem) ∧ w.cell? ⟨g, k * 3 + 2, none⟩ = some (.slice ao n c) := by
  rcases h with ⟨_, rfl⟩ | ⟨g, cap, rfl, h1, h2, h3, h4, h5⟩
  · simp at hk
  · obtain ⟨ao, n, c, e, _⟩ := (h5 l[k] (List.getElem_mem hk)).shape
    obtain ⟨a0, a1, a2⟩ := h4 k hk
    exact ⟨g, cap, ao, n, c, rfl, e, a0, a1, by rw [a2, e]⟩

end

/-- The cells of what pends. -/
def rcells : List (DOp × Value) → List Value
  | [] => []
  | p :: r => .int .i64 p.1.key :: .bool p.1.isRem :: p.2 :: rcells r

theorem rcells_length (l : List (DOp × Value)) : (rcells l).length = l.length * 3 := by
  induction l with
  | nil => rfl
  | cons p r ih => simp [rcells, ih]; omega

theorem rcells_snoc (l : List (DOp × Value)) (p : DOp × Value) : rcells (l ++ [p]) = rcells l ++ [.int .i64 p.1.key, .bool p.1.isRem, p.2] := by
  induction l with
  | nil => rfl
  | cons x r ih => simp [rcells, ih]

theorem rcells_at : ∀ (l : List (DOp × Value)) (n : Nat) (p : DOp × Value), l[n]? = some p → (rcells l)[n * 3]? = some (.int .i64 p.1.key) ∧ (rcells l)[n * 3 + 1]? = some (.bool p.1.isRem) ∧ (rcells l)[n * 3 + 2]? = some p.2
  | [], n, p, h => by simp at h
  | x :: r, 0, p, h => by simp at h; subst h; exact ⟨rfl, rfl, rfl⟩
  | x :: r, n + 1, p, h => by
    have := rcells_at r n p (by simpa using h)
    rw [show (n + 1) * 3 = n * 3 + 3 by omega, show n * 3 + 3 + 1 = (n * 3 + 1) + 3 by omega, show n * 3 + 3 + 2 = (n * 3 + 2) + 3 by omega, rcells]
    simpa using this

theorem rcells_one {Q : Nat → Prop} {w : World} {l : List (DOp × Value)} (h : ∀ p ∈ l, ROk Q w p) : ∀ u ∈ rcells l, u.oneCell' = true := by
  induction l with
  | nil => intro u hu; simp [rcells] at hu
  | cons p r ih =>
    intro u hu
    simp only [rcells, List.mem_cons] at hu
    rcases hu with rfl | rfl | rfl | hu
    · rfl
    · rfl
    · obtain ⟨ao, n, c, e, _⟩ := (h p (by simp)).shape
      rw [e]; rfl
    · exact ih (fun x hx => h x (by simp [hx])) u hu

theorem Try.infoOp : (Try.prog.info? 63).map (fun i => (i.zero, i.size, i.bytes)) = some (some (.agg #[.int .i64 0, .bool false, .slice none 0 0]), 3, 40) := by kernel_rfl

/-- append of some that pend onto such a row of one's own. -/
theorem append_ops (w : World) (v : Value) (n : Nat) (xs : List Value) (hown : w.ownsRow 0 63 3 v n xs) (a : Addr) (m c : Nat) (ds : List Value) (hd : ds.length = m * 3) (hsee : ∀ j u, ds[j]? = some u → w.cell? (a.add j) = some u) (hone : ∀ u ∈ ds, u.oneCell' = true) (hb : n + m ≤ 1073741824) :
    ∃ v' w', (Builtin.append_ #[43, 43] 43 #[v, .slice (some a) m c]).run Try.prog w = .ok v' w' ∧ w'.ownsRow 0 63 3 v' (n + m) (xs ++ ds) ∧ w.grownBy w' v.ownBlock ∧ (v'.ownBlock = v.ownBlock ∨ v'.ownBlock = some w.heap.size) := by
  obtain ⟨i, hi, h⟩ := Option.map_eq_some_iff.1 Try.infoOp
  simp only [Prod.mk.injEq] at h
  obtain ⟨v', w', hr, ho, hg, _, hat⟩ := run_append_own_at (P := Try.prog) w 0 43 43 63 i _ 3 40 Try.underlying43 hi h.1 h.2.1 h.2.2 rfl (by omega) v n xs hown a m c ds hd hsee hone (by unfold maxLen; omega) (by omega) (Nat.zero_le _)
  exact ⟨v', w', hr, ho, hg, hat⟩

theorem append_ops_nil (w : World) (v : Value) (n : Nat) (xs : List Value) (hown : w.ownsRow 0 63 3 v n xs) : (Builtin.append_ #[43, 43] 43 #[v, .slice none 0 0]).run Try.prog w = .ok v w := by
  obtain ⟨i, hi, _⟩ := Option.map_eq_some_iff.1 Try.infoOp
  exact run_append_owned_none w 0 43 43 63 i 3 Try.underlying43 hi v _ _ hown

/-- A row of such, of one's own, in new memory. -/
def MadeR (w : World) (v : Value) (n : Nat) (cs : List Value) (w' : World) : Prop := w'.ownsRow 0 63 3 v n cs ∧ Turn (fun _ => False) w w' ∧ ∀ k, v.ownBlock = some k → w.heap.size ≤ k

theorem MadeR.more {w w1 w2 wa : World} {v1 v2 : Value} {n n' : Nat} {l l' : List Value} (h : MadeR w v1 n l w1) (ta : Turn (fun _ => False) w1 wa) (ho : w2.ownsRow 0 63 3 v2 n' l') (hg : wa.grownBy w2 v1.ownBlock) (hk : v2.ownBlock = v1.ownBlock ∨ v2.ownBlock = some wa.heap.size) : MadeR w v2 n' l' w2 := by
  refine ⟨ho, (h.2.1.trans ta).grown hg (fun k hk => .inr (h.2.2 k hk)), fun k e => ?_⟩
  rcases hk with hk | hk
  · exact h.2.2 k (hk ▸ e)
  · rw [hk] at e
    injection e with e
    have := (h.2.1.trans ta).size
    omega

/-- append(append([]Op{}, l...), one): what it comes to. -/
theorem RP.push {Q : Nat → Prop} {w : World} {v : Value} {l : List (DOp × Value)} (h : RP Q w v l) (hl : l.length ≤ 1073741823) :
    ∃ v1 w1, (Builtin.append_ #[43, 43] 43 #[.slice (some ⟨w.heap.size, 0, none⟩) 0 0, v]).run Try.prog (w.alloc (.cells #[] 63)) = .ok v1 w1 ∧ MadeR w v1 l.length (rcells l) w1 := by
  have he : (w.alloc (.cells #[] 63)).ownsRow 0 63 3 (.slice (some ⟨w.heap.size, 0, none⟩) 0 0) 0 [] := World.ownsRow_made w #[] 0 (Nat.zero_le _) (Nat.zero_le _) rfl
  have ta : Turn (fun _ => False) w (w.alloc (.cells #[] 63)) := (Turn.refl _ _).alloc _
  have hm0 : MadeR w (.slice (some ⟨w.heap.size, 0, none⟩) 0 0) 0 [] (w.alloc (.cells #[] 63)) := ⟨he, ta, fun k hk => by simp [Value.ownBlock] at hk; omega⟩
  rcases h with ⟨rfl, rfl⟩ | ⟨g, cap, rfl, h1, h2, h3, h4, h5⟩
  · exact ⟨_, _, append_ops_nil _ _ _ _ he, hm0⟩
  · have hsee : ∀ j u, (rcells l)[j]? = some u → (w.alloc (.cells #[] 63)).cell? ((⟨g, 0, none⟩ : Addr).add j) = some u := by
      intro j u hj
      have hjl := (List.getElem?_eq_some_iff.1 hj).1
      rw [rcells_length] at hjl
      have hk : j / 3 < l.length := by omega
      obtain ⟨a0, a1, a2⟩ := h4 (j / 3) hk
      obtain ⟨b0, b1, b2⟩ := rcells_at l (j / 3) l[j / 3] (List.getElem?_eq_getElem hk)
      have hc : ∀ o u, w.cell? ⟨g, o, none⟩ = some u → (w.alloc (.cells #[] 63)).cell? ⟨g, o, none⟩ = some u := fun o u hu => by
        rw [ta.cell (p := ⟨g, o, none⟩) (World.block_lt_of_cell? _ _ hu) (fun h => h)]
        exact hu
      rw [addr_lit, Nat.zero_add]
      have h3 : j = j / 3 * 3 ∨ j = j / 3 * 3 + 1 ∨ j = j / 3 * 3 + 2 := by omega
      rcases h3 with e | e | e
      · rw [e] at hj ⊢
        rw [b0] at hj
        rw [← hj]
        exact hc _ _ a0
      · rw [e] at hj ⊢
        rw [b1] at hj
        rw [← hj]
        exact hc _ _ a1
      · rw [e] at hj ⊢
        rw [b2] at hj
        rw [← hj]
        exact hc _ _ a2
    obtain ⟨v1, w1, hr, ho, hg, hk⟩ := append_ops _ _ 0 [] he ⟨g, 0, none⟩ l.length cap (rcells l) (rcells_length l) hsee (rcells_one h5) (by omega)
    rw [Nat.zero_add, List.nil_append] at ho
    exact ⟨v1, w1, hr, hm0.more (Turn.refl _ _) ho hg hk⟩

/-- A row of one's own is what pends. -/
theorem RP.of {Q : Nat → Prop} {w : World} {v : Value} {l : List (DOp × Value)} (ho : w.ownsRow 0 63 3 v l.length (rcells l)) (hg : ∀ g, v.ownBlock = some g → Q g) (h5 : ∀ p ∈ l, ROk Q w p) : RP Q w v l := by
  rcases row_shape ho with ⟨rfl, h0⟩ | ⟨g, cap, rfl, h1, h2, _⟩
  · exact .inl ⟨rfl, List.eq_nil_of_length_eq_zero h0⟩
  · refine .inr ⟨g, cap, rfl, h1, h2, hg g rfl, fun k hk => ?_, h5⟩
    obtain ⟨b0, b1, b2⟩ := rcells_at l k l[k] (List.getElem?_eq_getElem hk)
    exact ⟨by rw [World.ownsRow.cellAt ho (k * 3) (by omega), b0], by rw [World.ownsRow.cellAt ho (k * 3 + 1) (by omega), b1], by rw [World.ownsRow.cellAt ho (k * 3 + 2) (by omega), b2]⟩

/-- The reference's Disk in block rb; all else of it is in Q. -/
structure RD (Q : Nat → Prop) (w : World) (rb : Nat) (s : RSt) (kv pv : Value) (kl : List (Value × List UInt8)) (pl : List (DOp × Value)) : Prop where
  head : At 45 w rb #[kv, pv, .int .i64 s.fuse, .bool s.dead, .int .i64 s.works]
  kept : RL Q w kv kl
  kis : kl.map (·.2) = s.kept
  pend : RP Q w pv pl
  pis : pl.map (·.1) = s.pend
  out : ¬ Q rb
  lt : ∀ j, Q j → j < w.heap.size

def RDk (Q : Nat → Prop) (w : World) (rb : Nat) (s : RSt) : Prop := ∃ kv pv kl pl, RD Q w rb s kv pv kl pl

theorem RDk.keeps {Q S : Nat → Prop} {w w' : World} {rb : Nat} {s : RSt} (h : RDk Q w rb s) (t : Turn S w w') (hS : ∀ j, Q j → ¬ S j) (hr : ¬ S rb) : RDk Q w' rb s := by
  obtain ⟨kv, pv, kl, pl, h⟩ := h
  exact ⟨kv, pv, kl, pl, h.head.kept t hr, h.kept.kept t hS, h.kis, h.pend.kept t hS, h.pis, h.out, fun j hj => Nat.lt_of_lt_of_le (h.lt j hj) t.size⟩

end Go.Proofs.Ytnojedjdnecagaa
