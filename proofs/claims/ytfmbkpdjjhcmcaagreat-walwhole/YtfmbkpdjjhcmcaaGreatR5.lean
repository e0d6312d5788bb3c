/- The reference's Disk in memory: lists that are never written to again; its turn. -/
import Derived.Test.YtfmbkpdjjhcmcaaGreatDMore
import Derived.RegionTactic
import Derived.Deep.RegionLaw
namespace Go.Proofs.YtfmbkpdjjhcmcaaGreat
open Go.RowKit

/-- A list of slices of bytes, all of it in Q. -/
def RL (Q : Nat → Prop) (w : World) (v : Value) (l : List (Value × List UInt8)) : Prop :=
  (v = .slice none 0 0 ∧ l = []) ∨
  ∃ g cap, v = .slice (some ⟨g, 0, none⟩) l.length cap ∧ l.length ≤ cap ∧ cap ≤ maxLen ∧ Q g ∧ (∀ k (hk : k < l.length), w.cell? ⟨g, k, none⟩ = some l[k].1) ∧ ∀ p ∈ l, Sees w p.1 p.2 ∧ (0 < p.2.length → ∀ j, slab p.1 = some j → Q j)

section
variable {Q Q' : Nat → Prop} {w w' : World} {v : Value} {l : List (Value × List UInt8)}

theorem RL.nil (Q : Nat → Prop) (w : World) : RL Q w (.slice none 0 0) [] := .inl ⟨rfl, rfl⟩

theorem RL.kept {S : Nat → Prop} (h : RL Q w v l) (t : Turn S w w') (hS : ∀ j, Q j → ¬ S j) : RL Q w' v l := by
  rcases h with h | ⟨g, cap, rfl, h1, h2, h3, h4, h5⟩
  · exact .inl h
  · refine .inr ⟨g, cap, rfl, h1, h2, h3, fun k hk => ?_, fun p hp => ⟨(h5 p hp).1.kept' t (fun h0 j hj => hS j ((h5 p hp).2 h0 j hj)), (h5 p hp).2⟩⟩
    rw [t.cell (p := ⟨g, k, none⟩) (World.block_lt_of_cell? _ _ (h4 k hk)) (hS g h3)]
    exact h4 k hk

theorem RL.mono (h : RL Q w v l) (hQ : ∀ j, Q j → Q' j) : RL Q' w v l := by
  rcases h with h | ⟨g, cap, rfl, h1, h2, h3, h4, h5⟩
  · exact .inl h
  · exact .inr ⟨g, cap, rfl, h1, h2, hQ g h3, h4, fun p hp => ⟨(h5 p hp).1, fun h0 j hj => hQ j ((h5 p hp).2 h0 j hj)⟩⟩

theorem RL.shape (h : RL Q w v l) : ∃ ao cap, v = .slice ao l.length cap := by
  rcases h with ⟨rfl, rfl⟩ | ⟨g, cap, rfl, _⟩
  · exact ⟨none, 0, rfl⟩
  · exact ⟨_, _, rfl⟩

theorem RL.len (h : RL Q w v l) : l.length ≤ maxLen := by
  rcases h with ⟨rfl, rfl⟩ | ⟨g, cap, rfl, h1, h2, _⟩
  · simp [maxLen]
  · omega

theorem RL.sees (h : RL Q w v l) : SeesC w v (l.map (·.1)) := by
  rcases h with ⟨rfl, rfl⟩ | ⟨g, cap, rfl, h1, h2, h3, h4, h5⟩
  · exact .inl ⟨rfl, rfl⟩
  · refine .inr ⟨⟨g, 0, none⟩, cap, by rw [List.length_map], by rw [List.length_map]; exact h1, h2, fun j u hj => ?_⟩
    rw [List.getElem?_map] at hj
    obtain ⟨p, hp, rfl⟩ := Option.map_eq_some_iff.1 hj
    obtain ⟨hlt, e⟩ := List.getElem?_eq_some_iff.1 hp
    rw [addr_lit, Nat.zero_add, h4 j hlt, e]

theorem RL.each (h : RL Q w v l) : ∀ p ∈ l, Sees w p.1 p.2 ∧ (0 < p.2.length → ∀ j, slab p.1 = some j → Q j) := by
  rcases h with ⟨_, rfl⟩ | ⟨g, cap, rfl, h1, h2, h3, h4, h5⟩
  · intro p hp; simp at hp
  · exact h5

theorem RL.at (h : RL Q w v l) (k : Nat) (hk : k < l.length) : ∃ g cap ao n c, v = .slice (some ⟨g, 0, none⟩) l.length cap ∧ l[k].1 = .slice ao n c ∧ n = l[k].2.length ∧ w.cell? ⟨g, k, none⟩ = some (.slice ao n c) := by
  rcases h with ⟨_, rfl⟩ | ⟨g, cap, rfl, h1, h2, h3, h4, h5⟩
  · simp at hk
  · obtain ⟨ao, c, e⟩ := (h5 l[k] (List.getElem_mem hk)).1.shape
    exact ⟨g, cap, ao, _, c, rfl, e, rfl, by rw [h4 k hk, e]⟩

/-- A row of one's own is such a list. -/
theorem RL.of (ho : OwnsC 31 w v (l.map (·.1))) (hg : ∀ g, v.ownBlock = some g → Q g) (h5 : ∀ p ∈ l, Sees w p.1 p.2 ∧ (0 < p.2.length → ∀ j, slab p.1 = some j → Q j)) : RL Q w v l := by
  rcases ho.shape with ⟨rfl, h0⟩ | ⟨g, cap, rfl, h1, h2⟩
  · exact .inl ⟨rfl, by simpa using h0⟩
  · rw [List.length_map] at *
    refine .inr ⟨g, cap, rfl, h1, h2, hg g rfl, fun k hk => ?_, h5⟩
    have := ho.sees
    rcases this with ⟨h0, _⟩ | ⟨a, cap', e, _, _, hc⟩
    · simp at h0
    · simp only [Value.slice.injEq, Option.some.injEq] at e
      have hh := hc k l[k].1 (by rw [List.getElem?_map, List.getElem?_eq_getElem hk]; rfl)
      rwa [← e.1, addr_lit, Nat.zero_add] at hh

end

/-- Is it a removal? -/
def DOp.isRem : DOp → Bool
  | .lay _ _ => false
  | .rem _ => true

/-- One that pends, with its bytes, all of it in Q. -/
def ROk (Q : Nat → Prop) (w : World) (p : DOp × Value) : Prop :=
  match p.1 with
  | .lay _ bs => Sees w p.2 bs ∧ (0 < bs.length → ∀ j, slab p.2 = some j → Q j)
  | .rem _ => p.2 = .slice none 0 0

theorem ROk.kept {S Q : Nat → Prop} {w w' : World} {p : DOp × Value} (h : ROk Q w p) (t : Turn S w w') (hS : ∀ j, Q j → ¬ S j) : ROk Q w' p := by
  unfold ROk at *
  split
  · rename_i k bs e
    rw [e] at h
    exact ⟨h.1.kept' t (fun h0 j hj => hS j (h.2 h0 j hj)), h.2⟩
  · rename_i k e
    rw [e] at h
    exact h

theorem ROk.mono {Q Q' : Nat → Prop} {w : World} {p : DOp × Value} (h : ROk Q w p) (hQ : ∀ j, Q j → Q' j) : ROk Q' w p := by
  unfold ROk at *
  split
  · rename_i k bs e
    rw [e] at h
    exact ⟨h.1, fun h0 j hj => hQ j (h.2 h0 j hj)⟩
  · rename_i k e
    rw [e] at h
    exact h

theorem ROk.shape {Q : Nat → Prop} {w : World} {p : DOp × Value} (h : ROk Q w p) : ∃ ao n c, p.2 = .slice ao n c ∧ n ≤ maxLen := by
  unfold ROk at h
  split at h
  · obtain ⟨ao, c, e⟩ := h.1.shape
    exact ⟨_, _, _, e, h.1.len⟩
  · exact ⟨_, _, _, h, by simp⟩

/-- Files behind one that pends. -/
def tl (l : List (List UInt8)) (o : DOp) : List (List UInt8) :=
  let p := l ++ List.replicate (o.key.toNat + 1 - l.length) []
  match o with
  | .lay k bs => p.set k.toNat (p.getD k.toNat [] ++ bs)
  | .rem k => p.set k.toNat []

/-- The bytes of a file, by its number. -/
def fil5 (l : List (List UInt8)) : Fs := fun k => if 0 ≤ k then l.getD k.toNat [] else []

theorem getD_pad (l : List (List UInt8)) (n i : Nat) : (l ++ List.replicate n []).getD i [] = l.getD i [] := by
  simp only [List.getD_eq_getElem?_getD]
  by_cases h : i < l.length
  · rw [List.getElem?_append_left h]
  · rw [List.getElem?_append_right (by omega), List.getElem?_eq_none (l := l) (by omega), List.getElem?_replicate]
    split <;> rfl

theorem fil5_set (l : List (List UInt8)) (n : Nat) (k : Int) (hk : 0 ≤ k) (hn : k.toNat < l.length + n) (x : List UInt8) : fil5 ((l ++ List.replicate n []).set k.toNat x) = fput (fil5 l) k x := by
  funext i
  unfold fil5 fput
  by_cases hi : 0 ≤ i
  · rw [if_pos hi]
    by_cases e : i = k
    · subst e
      rw [if_pos rfl, List.getD_eq_getElem?_getD, List.getElem?_set_self (by simpa using hn)]
      rfl
    · rw [if_neg e]
      show _ = if 0 ≤ i then l.getD i.toNat [] else []
      rw [if_pos hi, List.getD_eq_getElem?_getD, List.getElem?_set_ne (by omega), ← List.getD_eq_getElem?_getD, getD_pad]
  · rw [if_neg hi, if_neg (by omega)]
    show _ = if 0 ≤ i then l.getD i.toNat [] else []
    rw [if_neg hi]

theorem fil5_tl (l : List (List UInt8)) (o : DOp) (hk : 0 ≤ o.key) : fil5 (tl l o) = act (fil5 l) o := by
  cases o with
  | lay k bs =>
    have hk' : 0 ≤ k := hk
    show fil5 ((l ++ List.replicate (k.toNat + 1 - l.length) []).set k.toNat ((l ++ List.replicate (k.toNat + 1 - l.length) []).getD k.toNat [] ++ bs)) = fput (fil5 l) k (fil5 l k ++ bs)
    rw [fil5_set _ _ _ hk' (by omega), getD_pad]
    congr 2
    unfold fil5
    rw [if_pos hk']
  | rem k =>
    have hk' : 0 ≤ k := hk
    show fil5 ((l ++ List.replicate (k.toNat + 1 - l.length) []).set k.toNat []) = fput (fil5 l) k []
    rw [fil5_set _ _ _ hk' (by omega)]

theorem tl_length (l : List (List UInt8)) (o : DOp) : (tl l o).length = max l.length (o.key.toNat + 1) := by
  cases o with
  | lay k bs => simp [tl, DOp.key]; omega
  | rem k => simp [tl, DOp.key]; omega

theorem Tryz.infoBytes : (Tryz.prog.info? 31).map (fun i => (i.zero, i.size, i.bytes)) = some (some (.slice none 0 0), 1, 24) := by kernel_rfl

theorem append_lists (w : World) (v : Value) (xs : List Value) (hown : OwnsC 31 w v xs) (sv : Value) (ds : List Value) (hsee : SeesC w sv ds) (hone : ∀ u ∈ ds, u.oneCell' = true) (hb : xs.length + ds.length ≤ 1099511627776) :
    ∃ v' w', (Builtin.append_ #[23, 23] 23 #[v, sv]).run Tryz.prog w = .ok v' w' ∧ OwnsC 31 w' v' (xs ++ ds) ∧ w.grownBy w' v.ownBlock ∧ (v'.ownBlock = v.ownBlock ∨ v'.ownBlock = some w.heap.size) := by
  obtain ⟨i, hi, h⟩ := Option.map_eq_some_iff.1 Tryz.infoBytes
  simp only [Prod.mk.injEq] at h
  exact run_append_cells (P := Tryz.prog) w 23 23 31 i _ 24 Tryz.underlying23 hi h.1 h.2.1 h.2.2 rfl v _ hown sv ds hsee hone (by unfold maxLen; omega) (by omega)

/-- A row of lists of one's own, in new memory. -/
def MadeL (w : World) (v : Value) (cs : List Value) (w' : World) : Prop := OwnsC 31 w' v cs ∧ Turn (fun _ => False) w w' ∧ ∀ k, v.ownBlock = some k → w.heap.size ≤ k

theorem MadeL.more {w w1 w2 wa : World} {v1 v2 : Value} {l l' : List Value} (h : MadeL w v1 l w1) (ta : Turn (fun _ => False) w1 wa) (ho : OwnsC 31 w2 v2 l') (hg : wa.grownBy w2 v1.ownBlock) (hk : v2.ownBlock = v1.ownBlock ∨ v2.ownBlock = some wa.heap.size) : MadeL w v2 l' w2 := by
  refine ⟨ho, (h.2.1.trans ta).grown hg (fun k hk => .inr (h.2.2 k hk)), fun k e => ?_⟩
  rcases hk with hk | hk
  · exact h.2.2 k (hk ▸ e)
  · rw [hk] at e
    injection e with e
    have := (h.2.1.trans ta).size
    omega

theorem MadeL.shape {w w' : World} {v : Value} {l : List Value} (h : MadeL w v l w') : ∃ ao c, v = .slice ao l.length c := by
  rcases h.1.shape with ⟨rfl, h0⟩ | ⟨g, cap, rfl, _⟩
  · exact ⟨none, 0, by rw [h0]; rfl⟩
  · exact ⟨_, _, rfl⟩

end Go.Proofs.YtfmbkpdjjhcmcaaGreat
