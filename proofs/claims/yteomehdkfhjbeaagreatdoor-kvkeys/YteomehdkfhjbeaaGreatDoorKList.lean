/- The law's list: changes out of raw ones. -/
import Derived.Test.YteomehdkfhjbeaaGreatDoorKMade
import Derived.Test.YteomehdkfhjbeaaGreatDoorKRead
namespace Go.Proofs.YteomehdkfhjbeaaGreatDoor
open Go.RowKit

/-- A raw change: two numbers, a slice of bytes and what it shows. -/
structure RawC where
  key : Int
  n : Int
  vv : Value
  val : List UInt8

/-- Its key, by its number. -/
def tabK : Nat → ByteArray
  | 0 => ⟨#[97]⟩
  | 1 => ⟨#[98]⟩
  | 2 => ⟨#[97, 98]⟩
  | 3 => ⟨#[99, 47, 49]⟩
  | 4 => ⟨#[0]⟩
  | _ => ⟨#[122, 122]⟩

theorem tabK_size (r : Nat) : (tabK r).size ≤ 3 := by
  unfold tabK
  split <;> simp [ByteArray.size]

/-- The change that the law makes of it. -/
def RawC.chg (x : RawC) : Chg := ⟨if x.n.tmod 41 = 40 then ⟨#[]⟩ else tabK (x.key % 6).toNat, decide (0 < x.n.tmod 4), if 0 < x.n.tmod 4 then x.val.take 30 else []⟩

/-- One raw change, at its place. -/
structure RawAt (W : World) (B ab off : Nat) (x : RawC) : Prop where
  lt : ab < B
  c0 : W.cell? ⟨ab, off, none⟩ = some (.int .i64 x.key)
  c1 : W.cell? ⟨ab, off + 1, none⟩ = some (.int .i64 x.n)
  c2 : W.cell? ⟨ab, off + 2, none⟩ = some x.vv
  sees : Sees W x.vv x.val
  mem : 0 < x.val.length → ∀ j, slab x.vv = some j → j < B

/-- Raw changes that came in, all of it below B. -/
structure RawsOf (W : World) (B : Nat) (v : Value) (xs : List RawC) : Prop where
  shape : ∃ ao cap, v = .slice ao xs.length cap ∧ xs.length ≤ maxLen
  each : ∀ k (hk : k < xs.length), ∃ ab off cap, v = .slice (some ⟨ab, off, none⟩) xs.length cap ∧ RawAt W B ab (off + k * 3) xs[k]

theorem RawAt.kept {S : Nat → Prop} {w w' : World} {B ab off : Nat} {x : RawC} (h : RawAt w B ab off x) (ht : Turn S w w') (hB : B ≤ w.heap.size) (hS : ∀ k, k < B → ¬ S k) : RawAt w' B ab off x := by
  have hc : ∀ o, w'.cell? ⟨ab, o, none⟩ = w.cell? ⟨ab, o, none⟩ := fun o => ht.cell (p := ⟨ab, o, none⟩) (Nat.lt_of_lt_of_le h.lt hB) (hS ab h.lt)
  exact ⟨h.lt, (hc _).trans h.c0, (hc _).trans h.c1, (hc _).trans h.c2, h.sees.kept' ht (fun h0 j hj => hS j (h.mem h0 j hj)), h.mem⟩

theorem RawsOf.kept {S : Nat → Prop} {w w' : World} {B : Nat} {v : Value} {xs : List RawC} (h : RawsOf w B v xs) (ht : Turn S w w') (hB : B ≤ w.heap.size) (hS : ∀ k, k < B → ¬ S k) : RawsOf w' B v xs :=
  ⟨h.shape, fun k hk => by
    obtain ⟨ab, off, cap, e, hs⟩ := h.each k hk
    exact ⟨ab, off, cap, e, hs.kept ht hB hS⟩⟩

/-- The changes that list makes. -/
def listC (l : List RawC) (n : Nat) : List Chg := (l.take n).map RawC.chg

theorem listC_ok_len (l : List RawC) (n : Nat) : (listC l n).length ≤ n := by
  unfold listC
  simp
  omega

theorem chg_len (x : RawC) : x.chg.laid.length ≤ 60 := by
  have h1 := tabK_size (x.key % 6).toNat
  have h2 := text_length x.chg.key
  have hk : x.chg.key.size ≤ 3 := by
    unfold RawC.chg
    simp only
    split
    · simp [ByteArray.size]
    · exact h1
  have hv : x.chg.val.length ≤ 30 := by
    unfold RawC.chg
    simp only
    split
    · simp; omega
    · simp
  unfold Chg.laid
  split <;> simp [be_length, sh_length] <;> omega

theorem CM.lt {Q : Nat → Prop} {w wr : World} {v : Value} {cl : List (Value × Chg)} (h : CM Q w v cl wr) {k : Nat} (e : v.ownBlock = some k) : k < wr.heap.size := by
  rcases h.own.2 with ⟨rfl, hn⟩ | ⟨g, cap, cur, rfl, _, hg, _⟩
  · simp [Value.ownBlock] at e
  · have h1 : g = k := by simpa [Value.ownBlock] using e
    rw [← h1]
    exact (Array.getElem?_eq_some_iff.1 hg).1

theorem index_tab (r : Nat) (hr : r < 6) (w : World) : Sem.run Tryz.prog (Instr.index 59 (.agg #[.string ⟨#[97]⟩, .string ⟨#[98]⟩, .string ⟨#[97, 98]⟩, .string ⟨#[99, 47, 49]⟩, .string ⟨#[0]⟩, .string ⟨#[122, 122]⟩]) (.int .i64 r)) w = .ok (.string (tabK r)) w := by
  have : r = 0 ∨ r = 1 ∨ r = 2 ∨ r = 3 ∨ r = 4 ∨ r = 5 := by omega
  rcases this with rfl | rfl | rfl | rfl | rfl | rfl <;> simp [Instr.index, run_underlying Tryz.underlying59, asIntOf, part, isAgg, tabK]

end Go.Proofs.YteomehdkfhjbeaaGreatDoor
