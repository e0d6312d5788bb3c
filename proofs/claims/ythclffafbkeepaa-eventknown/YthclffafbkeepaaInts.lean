/- Lists of numbers: those that came in, those of the calls' own; their sum. -/
import Derived.Test.YthclffafbkeepaaCells
namespace Go.Proofs.Ythclffafbkeepaa
open Go.RowKit

/-- Numbers as cells. -/
def i64s (xs : List Int) : List Value := xs.map fun x => Value.int .i64 x

theorem i64s_length (xs : List Int) : (i64s xs).length = xs.length := by simp [i64s]
theorem i64s_one {u : Value} {xs : List Int} (h : u ∈ i64s xs) : u.oneCell' = true := by
  obtain ⟨b, _, rfl⟩ := List.mem_map.1 h
  rfl
theorem i64s_append (a b : List Int) : i64s (a ++ b) = i64s a ++ i64s b := by simp [i64s]
theorem i64s_take (a : List Int) (n : Nat) : i64s (a.take n) = (i64s a).take n := by simp [i64s]
theorem i64s_drop (a : List Int) (n : Nat) : i64s (a.drop n) = (i64s a).drop n := by simp [i64s]

/-- The sum of numbers. -/
def isum : List Int → Int
  | [] => 0
  | x :: xs => x + isum xs

theorem isum_append (a b : List Int) : isum (a ++ b) = isum a + isum b := by
  induction a with
  | nil => simp [isum]
  | cons x xs ih => simp [isum, ih]; omega

theorem isum_without (a : List Int) (k : Nat) (hk : k < a.length) : isum (a.take k ++ a.drop (k + 1)) + a[k] = isum a := by
  have h : a = a.take k ++ (a[k] :: a.drop (k + 1)) := by
    rw [List.getElem_cons_drop]
    simp
  have h2 : isum a = isum (a.take k) + (a[k] + isum (a.drop (k + 1))) := by
    conv => lhs; rw [h, isum_append]
    rfl
  rw [isum_append, h2]
  omega

theorem wrap64_add (x y : Int) : wrap64 (wrap64 x + y) = wrap64 (x + y) := by
  unfold wrap64
  omega

/-- A list of numbers that came in, below B. -/
def IntsAt (w : World) (B : Nat) (v : Value) (l : List Int) : Prop :=
  (v = .slice none 0 0 ∧ l = []) ∨
  ∃ a cap, v = .slice (some a) l.length cap ∧ l.length ≤ maxLen ∧ ∀ k (hk : k < l.length), a.block < B ∧ w.cell? (a.add k) = some (.int .i64 l[k])

theorem IntsAt.kept {S : Nat → Prop} {w w' : World} {B : Nat} {v : Value} {l : List Int} (h : IntsAt w B v l) (ht : Turn S w w') (hB : B ≤ w.heap.size) (hS : ∀ k, k < B → ¬ S k) : IntsAt w' B v l := by
  rcases h with h | ⟨a, cap, rfl, hm, hc⟩
  · exact .inl h
  · refine .inr ⟨a, cap, rfl, hm, fun k hk => ?_⟩
    obtain ⟨h1, h2⟩ := hc k hk
    refine ⟨h1, ?_⟩
    rw [ht.cell (by rw [addr_add_block]; omega) (by rw [addr_add_block]; exact hS _ h1)]
    exact h2

theorem IntsAt.shape {w : World} {B : Nat} {v : Value} {l : List Int} (h : IntsAt w B v l) : ∃ ao cap, v = .slice ao l.length cap ∧ l.length ≤ maxLen := by
  rcases h with ⟨rfl, rfl⟩ | ⟨a, cap, rfl, hm, _⟩
  · exact ⟨none, 0, rfl, by simp⟩
  · exact ⟨_, _, rfl, hm⟩

theorem IntsAt.at {w : World} {B : Nat} {ao : Option Addr} {n cap : Nat} {l : List Int} (h : IntsAt w B (.slice ao n cap) l) (k : Nat) (hk : k < l.length) :
    ∃ a, ao = some a ∧ w.cell? (a.add k) = some (.int .i64 l[k]) ∧ a.block < B := by
  rcases h with ⟨_, rfl⟩ | ⟨a, cap, e, hm, hc⟩
  · simp at hk
  · simp only [Value.slice.injEq] at e
    exact ⟨a, e.1, (hc k hk).2, (hc k hk).1⟩

end Go.Proofs.Ythclffafbkeepaa
