/- Chapter 7's example: its walk. -/
import Derived.Test.YteomehdkfhjbeaaGreatDoorKCmt
import Derived.Test.YteomehdkfhjbeaaGreatDoorPkC
import Derived.Test.YteomehdkfhjbeaaGreatDoorWKnw
namespace Go.Proofs.YteomehdkfhjbeaaGreatDoor
open Go.RowKit

/-- Changes as cells. -/
def cells3 (cl : List (Value × Chg)) : List Value := cl.flatMap fun p => [.string p.2.key, .bool p.2.has, p.1]

theorem cells3_cons (p : Value × Chg) (r : List (Value × Chg)) : cells3 (p :: r) = .string p.2.key :: .bool p.2.has :: p.1 :: cells3 r := rfl

theorem cells3_at : ∀ (cl : List (Value × Chg)) (k : Nat) (hk : k < cl.length), (cells3 cl)[k * 3]? = some (.string cl[k].2.key) ∧ (cells3 cl)[k * 3 + 1]? = some (.bool cl[k].2.has) ∧ (cells3 cl)[k * 3 + 2]? = some cl[k].1
  | [], k, hk => by simp at hk
  | p :: r, 0, _ => ⟨rfl, rfl, rfl⟩
  | p :: r, k + 1, hk => by
    have ih := cells3_at r k (by simpa using hk)
    rw [cells3_cons, show (k + 1) * 3 = k * 3 + 3 by omega]
    exact ih

theorem cells3_append (a b : List (Value × Chg)) : cells3 (a ++ b) = cells3 a ++ cells3 b := by simp [cells3]
theorem cells3_length (a : List (Value × Chg)) : (cells3 a).length = a.length * 3 := by
  induction a with
  | nil => rfl
  | cons p r ih => rw [cells3_cons]; simp [ih]; omega

theorem CLs.lit {Q : Nat → Prop} (w : World) (cl : List (Value × Chg)) (T : TypeId) (hl : cl.length ≤ 1099511627776) (h : ∀ p ∈ cl, Sees w p.1 p.2.val ∧ (0 < p.2.val.length → ∀ j, slab p.1 = some j → Q j) ∧ p.2.key.size ≤ 1099511627776 ∧ p.2.val.length ≤ 140737488355328) :
    CLs (grow Q w (w.alloc (.cells (cells3 cl).toArray T))) (w.alloc (.cells (cells3 cl).toArray T)) (.slice (some ⟨w.heap.size, 0, none⟩) cl.length cl.length) cl := by
  have ta : Turn (fun _ => False) w (w.alloc (.cells (cells3 cl).toArray T)) := (Turn.refl _ _).alloc _
  refine ⟨⟨_, _, rfl, hl⟩, fun k hk => ⟨w.heap.size, cl.length, rfl, .inr ⟨Nat.le_refl _, by simp⟩, ?_⟩⟩
  have hc := cells3_at cl k hk
  have hp := h cl[k] (List.getElem_mem hk)
  have hcell : ∀ i, (w.alloc (.cells (cells3 cl).toArray T)).cell? ⟨w.heap.size, i, none⟩ = (cells3 cl)[i]? := fun i => by
    rw [cell_of_row _ w.heap.size i _ T (0, 0) (heap_alloc_new w _)]
    simp
  exact ⟨(hcell _).trans hc.1, (hcell _).trans hc.2.1, (hcell _).trans hc.2.2, hp.1.kept ta (fun _ _ e => e), fun h0 j hj => .inl (hp.2.1 h0 j hj), hp.2.2.1, hp.2.2.2⟩

theorem nums_zero {ns : List Int} (h : DSt.zero.Nums ns) : ns = [] := by
  cases ns with
  | nil => rfl
  | cons k r =>
    have := (h.2 k).1 (by simp)
    exact absurd rfl this

/-- A Store on a new Disk: nothing is there. -/
theorem kopen_new {w0 w : World} {K : Nat → Prop} {b : Nat} (seg : Int) (h : DL w0 K w b 0 DSt.zero) (hs0 : 256 ≤ seg) (hs1 : seg ≤ 1048576) :
    Calls Tryz.prog 5 #[.pointer (some ⟨b, 0, none⟩), .int .i64 seg] w fun e w' => ∃ sb mb l f t, ∃ K' : Nat → Prop, e = .returned (.tuple #[.pointer (some ⟨sb, 0, none⟩), .int .i64 0]) ∧ KS w0 K' w' sb mb l b f t 0 ⟨DSt.zero, seg, 0, 0, false⟩ [] ∧ (∀ j, K j → K' j) ∧ Turn (Outs w0 K) w w' := by
  refine (kopen_any (seg := seg) 0 0 h rfl hs0 hs1 (fun ns hn => by rw [nums_zero hn]; simp) (fun k => Nat.le_refl _) (by omega) (by omega) (fun k hk => absurd rfl hk) ?_).mono ?_
  · intro ns y hn hy
    rw [nums_zero hn] at hy
    have e : (HSt.zero, (0 : Int)) = y := by injection hy
    rw [← e]
    exact ⟨by simp [HSt.zero], fun x hx => by simp [HSt.zero] at hx⟩
  · rintro e w' ⟨ns, hn, hm⟩
    rw [nums_zero hn] at hm
    obtain ⟨sb, mb, l, f, t, K', h1, h2, h3, h4⟩ := hm
    exact ⟨sb, mb, l, f, t, K', h1, h2, h3, h4.1⟩

end Go.Proofs.YteomehdkfhjbeaaGreatDoor
