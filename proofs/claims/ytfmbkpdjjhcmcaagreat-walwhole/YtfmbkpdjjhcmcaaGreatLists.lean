/- Lists of bytes, and of flags, that came in: what they show, and that it stays. -/
import Derived.Test.YtfmbkpdjjhcmcaaGreatPkA
namespace Go.Proofs.YtfmbkpdjjhcmcaaGreat
open Go.RowKit

/-- A list of slices of bytes that came in, all of it below B. -/
def ListAt (w : World) (B : Nat) (v : Value) (l : List (Value × List UInt8)) : Prop :=
  (v = .slice none 0 0 ∧ l = []) ∨
  ∃ a cap, v = .slice (some a) l.length cap ∧ l.length ≤ maxLen ∧ ∀ k (hk : k < l.length), a.block < B ∧ w.cell? (a.add k) = some l[k].1 ∧ Sees w l[k].1 l[k].2 ∧ (0 < l[k].2.length → ∀ j, slab l[k].1 = some j → j < B)

theorem ListAt.kept {S : Nat → Prop} {w w' : World} {B : Nat} {v : Value} {l : List (Value × List UInt8)} (h : ListAt w B v l) (ht : Turn S w w') (hB : B ≤ w.heap.size) (hS : ∀ k, k < B → ¬ S k) : ListAt w' B v l := by
  rcases h with h | ⟨a, cap, rfl, hm, hc⟩
  · exact .inl h
  · refine .inr ⟨a, cap, rfl, hm, fun k hk => ?_⟩
    obtain ⟨h1, h2, h3, h4⟩ := hc k hk
    refine ⟨h1, ?_, h3.kept' ht (fun h0 j hj => hS j (h4 h0 j hj)), h4⟩
    rw [ht.cell (by rw [addr_add_block]; omega) (by rw [addr_add_block]; exact hS _ h1)]
    exact h2

theorem ListAt.shape {w : World} {B : Nat} {v : Value} {l : List (Value × List UInt8)} (h : ListAt w B v l) : ∃ ao cap, v = .slice ao l.length cap ∧ l.length ≤ maxLen := by
  rcases h with ⟨rfl, rfl⟩ | ⟨a, cap, rfl, hm, _⟩
  · exact ⟨none, 0, rfl, by simp⟩
  · exact ⟨_, _, rfl, hm⟩

theorem ListAt.at {w : World} {B : Nat} {ao : Option Addr} {n cap : Nat} {l : List (Value × List UInt8)} (h : ListAt w B (.slice ao n cap) l) (k : Nat) (hk : k < l.length) :
    ∃ a, ao = some a ∧ w.cell? (a.add k) = some l[k].1 ∧ Sees w l[k].1 l[k].2 ∧ (0 < l[k].2.length → ∀ j, slab l[k].1 = some j → j < B) ∧ a.block < B := by
  rcases h with ⟨_, rfl⟩ | ⟨a, cap, e, hm, hc⟩
  · simp at hk
  · simp only [Value.slice.injEq] at e
    obtain ⟨h1, h2, h3, h4⟩ := hc k hk
    exact ⟨a, e.1, h2, h3, h4, h1⟩

/-- A list of flags that came in, below B. -/
def FlagsAt (w : World) (B : Nat) (v : Value) (l : List Bool) : Prop :=
  (v = .slice none 0 0 ∧ l = []) ∨
  ∃ a cap, v = .slice (some a) l.length cap ∧ l.length ≤ maxLen ∧ ∀ k (hk : k < l.length), a.block < B ∧ w.cell? (a.add k) = some (.bool l[k])

theorem FlagsAt.kept {S : Nat → Prop} {w w' : World} {B : Nat} {v : Value} {l : List Bool} (h : FlagsAt w B v l) (ht : Turn S w w') (hB : B ≤ w.heap.size) (hS : ∀ k, k < B → ¬ S k) : FlagsAt w' B v l := by
  rcases h with h | ⟨a, cap, rfl, hm, hc⟩
  · exact .inl h
  · refine .inr ⟨a, cap, rfl, hm, fun k hk => ?_⟩
    obtain ⟨h1, h2⟩ := hc k hk
    refine ⟨h1, ?_⟩
    rw [ht.cell (by rw [addr_add_block]; omega) (by rw [addr_add_block]; exact hS _ h1)]
    exact h2

theorem FlagsAt.shape {w : World} {B : Nat} {v : Value} {l : List Bool} (h : FlagsAt w B v l) : ∃ ao cap, v = .slice ao l.length cap ∧ l.length ≤ maxLen := by
  rcases h with ⟨rfl, rfl⟩ | ⟨a, cap, rfl, hm, _⟩
  · exact ⟨none, 0, rfl, by simp⟩
  · exact ⟨_, _, rfl, hm⟩

theorem FlagsAt.at {w : World} {B : Nat} {ao : Option Addr} {n cap : Nat} {l : List Bool} (h : FlagsAt w B (.slice ao n cap) l) (k : Nat) (hk : k < l.length) :
    ∃ a, ao = some a ∧ w.cell? (a.add k) = some (.bool l[k]) := by
  rcases h with ⟨_, rfl⟩ | ⟨a, cap, e, hm, hc⟩
  · simp at hk
  · simp only [Value.slice.injEq] at e
    exact ⟨a, e.1, (hc k hk).2⟩

end Go.Proofs.YtfmbkpdjjhcmcaaGreat
