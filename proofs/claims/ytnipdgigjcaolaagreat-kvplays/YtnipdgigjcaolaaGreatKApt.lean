/- Blocks of cells without bytes are apart from a Store's map: a Store bears what turns them. -/
import Derived.Test.YtnipdgigjcaolaaGreatKIs
import Derived.Test.YtnipdgigjcaolaaGreatKSeq
import Derived.Test.YtnipdgigjcaolaaGreatKKn1
namespace Go.Proofs.YtnipdgigjcaolaaGreat
open Go.RowKit

/-- A block of cells, none of them a byte. -/
def NoB (w : World) (j : Nat) : Prop := ∃ T cs, At T w j cs ∧ ∀ (i : Nat) (n : Int), cs[i]? ≠ some (.int .u8 n)

theorem At.inj {T T' : TypeId} {w : World} {j : Nat} {cs cs' : Array Value} (h : At T w j cs) (h' : At T' w j cs') : cs = cs' := by
  unfold At at h h'
  rw [h] at h'
  injection h' with h'
  injection h'

theorem sees_apart {w : World} {v : Value} {bs : List UInt8} {j : Nat} (h : Sees w v bs) (h0 : 0 < bs.length) (hj : slab v = some j) : ¬ NoB w j := by
  rintro ⟨T, cs, hA, hn⟩
  rcases h with ⟨_, rfl⟩ | ⟨a, cap, rfl, _, _, hc⟩
  · simp at h0
  · have e : a.block = j := by simpa [slab] using hj
    obtain ⟨x, r, rfl⟩ := List.exists_cons_of_ne_nil (List.ne_nil_of_length_pos h0)
    have h1 := hc 0 (.int .u8 (x.toNat : Int)) (by simp [u8s])
    unfold World.cell? at h1
    rw [addr_add_block, e] at h1
    unfold At at hA
    rw [hA] at h1
    simp only at h1
    split at h1
    · cases h1
    · exact hn _ _ h1

section
variable {w0 w w1 : World} {K Q Z S : Nat → Prop} {sb mb l b f t N : Nat} {s : WSt} {m : List (List UInt8 × List UInt8)}

theorem MPs.apart {m' : List (List UInt8 × (Value × List UInt8))} (h : MPs K w mb m') (tn : Turn S w w1) (hS : ∀ j, S j → NoB w j) : MPs K w1 mb m' := by
  have hmb : ¬ S mb := fun e => by
    obtain ⟨T, cs, hA, _⟩ := hS mb e
    obtain ⟨es, clock, hb, _⟩ := h.map
    unfold At at hA
    rw [hA] at hb
    injection hb with hb
    cases hb
  exact ⟨ownsMap_turn h.map tn hmb, fun p hp => ⟨(h.each p hp).1.kept' tn (fun h0 j hj e => sees_apart (h.each p hp).1 h0 hj (hS j e)), (h.each p hp).2⟩, h.own⟩

/-- What the law holds besides has turned: blocks of cells without bytes, none of them the Store's. -/
theorem KS.xturn (h : KS w0 K w sb mb l b f t N s m) (tn : Turn S w w1) (hS : ∀ j, S j → K j ∧ NoB w j ∧ j ≠ sb) : KS w0 (grow K w w1) w1 sb mb l b f t N s m := by
  obtain ⟨m', h1, h2⟩ := h.mp
  exact ⟨h.li.hold (tn.mono (fun j _ e => (hS j e).1)), h.at'.kept tn (fun e => (hS _ e).2.2 rfl), .inl h.ks, h.ne, ⟨m', (h1.apart tn (fun j e => (hS j e).2.1)).mono (fun j hj => .inl hj), h2⟩, h.fit⟩

theorem KD.xturn (h : KD w0 K w sb l b f t N s) (tn : Turn S w w1) (hS : ∀ j, S j → K j ∧ j ≠ sb) : KD w0 (grow K w w1) w1 sb l b f t N s :=
  ⟨h.li.hold (tn.mono (fun j _ e => (hS j e).1)), h.at'.kept tn (fun e => (hS _ e).2 rfl), .inl h.ks⟩

end

section
variable {w : World} {Q Z : Nat → Prop} {tb l rb : Nat} {seg now : Int} {down : Bool} {r : RSt} {m : List (List UInt8 × List UInt8)}

theorem RL.slice {Q : Nat → Prop} {v : Value} {rl : List (Value × List UInt8)} (h : RL Q w v rl) : ∃ o n c, v = .slice o n c := by
  obtain ⟨o, c, e⟩ := h.shape
  exact ⟨_, _, _, e⟩

theorem RD.noB {kv pv : Value} {kl : List (Value × List UInt8)} {pl : List (DOp × Value)} (h : RD Q w rb r kv pv kl pl) : NoB w rb := by
  obtain ⟨o, n, c, rfl⟩ := h.kept.slice
  obtain ⟨o2, c2, rfl⟩ := h.pend.shape
  refine ⟨_, _, h.head, fun i x e => ?_⟩
  have hi : i < 5 := by
    have := (Array.getElem?_eq_some_iff.1 e).1
    simpa using this
  match i, hi with
  | 0, _ => simp at e
  | 1, _ => simp at e
  | 2, _ => simp at e
  | 3, _ => simp at e
  | 4, _ => simp at e

theorem RDk.noB (h : RDk Q w rb r) : NoB w rb := by
  obtain ⟨kv, pv, kl, pl, h1⟩ := h
  exact h1.noB

theorem RLg.noB (h : RLg Q w l rb seg now down r) : NoB w l := by
  refine ⟨_, _, h.at', fun i x e => ?_⟩
  have hi : i < 4 := by
    have := (Array.getElem?_eq_some_iff.1 e).1
    simpa using this
  match i, hi with
  | 0, _ => simp at e
  | 1, _ => simp at e
  | 2, _ => simp at e
  | 3, _ => simp at e

theorem RSr.noB (h : RSr Q Z w tb l rb seg now r m) : NoB w tb := by
  obtain ⟨pv, pl, hA, hP, _⟩ := h.ps
  obtain ⟨o, c, rfl, _⟩ := hP.shape
  refine ⟨_, _, hA, fun i x e => ?_⟩
  have hi : i < 3 := by
    have := (Array.getElem?_eq_some_iff.1 e).1
    simpa using this
  match i, hi with
  | 0, _ => simp at e
  | 1, _ => simp at e
  | 2, _ => simp at e

theorem RSr.noBs (h : RSr Q Z w tb l rb seg now r m) : ∀ j, (j = rb ∨ j = l ∨ j = tb) → NoB w j := fun j hj => by
  rcases hj with rfl | rfl | rfl
  · exact h.lg.rd.noB
  · exact h.lg.noB
  · exact h.noB

theorem RDk.lt (h : RDk Q w rb r) : (∀ j, Q j → j < w.heap.size) ∧ rb < w.heap.size := by
  obtain ⟨kv, pv, kl, pl, h1⟩ := h
  exact ⟨h1.lt, h1.head.lt⟩

/-- What the program's calls turn is not the reference's. -/
theorem RSr.kept {S : Nat → Prop} {w1 : World} (h : RSr Q Z w tb l rb seg now r m) (t : Turn S w w1) (hS : ∀ j, (Q j ∨ Z j ∨ j = rb ∨ j = l ∨ j = tb) → ¬ S j) : RSr Q Z w1 tb l rb seg now r m := by
  obtain ⟨pv, pl, a, b, c⟩ := h.ps
  exact ⟨⟨h.lg.rd.keeps t (fun j hj => hS j (.inl hj)) (hS rb (.inr (.inr (.inl rfl)))), h.lg.at'.kept t (hS l (.inr (.inr (.inr (.inl rfl))))), h.lg.ne, h.lg.out⟩, ⟨pv, pl, a.kept t (hS tb (.inr (.inr (.inr (.inr rfl))))), b.kept t (fun j hj => hS j (.inr (.inl hj))), c⟩, h.ne, h.out, h.zout, fun j hj => Nat.lt_of_lt_of_le (h.zlt j hj) t.size⟩

theorem RSd.kept {S : Nat → Prop} {w1 : World} (h : RSd Q w tb rb r) (t : Turn S w w1) (hS : ∀ j, (Q j ∨ j = rb ∨ j = tb) → ¬ S j) : RSd Q w1 tb rb r := by
  obtain ⟨l', hA⟩ := h.at'
  exact ⟨h.rd.keeps t (fun j hj => hS j (.inl hj)) (hS rb (.inr (.inl rfl))), ⟨l', hA.kept t (hS tb (.inr (.inr rfl)))⟩, h.ne, h.out⟩

end

end Go.Proofs.YtnipdgigjcaolaaGreat
