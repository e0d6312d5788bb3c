/- A Log within a law: segments ahead go; Checkpoint. -/
import Derived.Test.YteomehdkfhjbeaaGreatDoorPkH
import Derived.Deep.RegionHeld
import Derived.Deep.RegionWith
import Derived.Deep.DeepMust
import Derived.Deep.CutRange
namespace Go.Proofs.YteomehdkfhjbeaaGreatDoor
open Go.RowKit

namespace WSt

/-- One segment goes. -/
def rm1 (s : WSt) (k : Int) : WSt := if s.down then s else { s with d := (s.d.rem k).2, down := (s.d.rem k).1 != 0 }

def rms (s : WSt) (l : List Int) : WSt := l.foldl rm1 s

/-- The last Sync. -/
def done (s : WSt) : Int × WSt :=
  if s.down then (14, s)
  else if s.d.sync.1 ≠ 0 then (14, s.fell s.d.sync.2)
  else (0, { s with d := s.d.sync.2 })

def clears (s : WSt) (l : List Int) : Int × WSt := (s.rms (l.filter (· < s.at'))).done

theorem rms_snoc (s : WSt) (l : List Int) (k : Int) : s.rms (l ++ [k]) = (s.rms l).rm1 k := by simp [rms]

theorem rm1_at (s : WSt) (k : Int) : (s.rm1 k).at' = s.at' ∧ (s.rm1 k).limit = s.limit ∧ (s.rm1 k).size = s.size := by
  unfold rm1
  split <;> exact ⟨rfl, rfl, rfl⟩

theorem rms_at (s : WSt) (l : List Int) : (s.rms l).at' = s.at' ∧ (s.rms l).limit = s.limit ∧ (s.rms l).size = s.size := by
  induction l generalizing s with
  | nil => exact ⟨rfl, rfl, rfl⟩
  | cons k r ih =>
    have h1 := ih (s.rm1 k)
    have h2 := rm1_at s k
    exact ⟨h1.1.trans h2.1, h1.2.1.trans h2.2.1, h1.2.2.trans h2.2.2⟩

end WSt

section
variable {w0 w : World} {K : Nat → Prop} {l b f t N : Nat} {s : WSt}

/-- What removeAhead comes to. -/
def RTo6 (w0 : World) (K : Nat → Prop) (w : World) (l b f t N M : Nat) (s : WSt) (e : Ending) (w' : World) : Prop := ∃ ns, s.d.Nums ns ∧ LTo w0 K w l b f t (N + M + 1) (s.clears ns) e w'

/-- Within the loop: some are gone. -/
structure Rms (w0 : World) (K : Nat → Prop) (w w1 : World) (l b f t N : Nat) (s : WSt) (v : Value) (ks : List Int) (n : Nat) (wr : World) : Prop where
  li : LI w0 (grow K w w1) wr l b f t (N + n) (s.rms (ks.take n))
  see : SeesC wr v (i64s ks)
  turn : Turn (Outs w0 K) w wr

theorem i64s_get (ks : List Int) (n : Nat) (k : Int) (h : ks[n]? = some k) : (i64s ks)[n]? = some (.int .i64 k) := by simp [i64s, h]

theorem seesI_shape {w : World} {v : Value} {ks : List Int} (h : SeesC w v (i64s ks)) : ∃ ao cap, v = .slice ao ks.length cap := by
  have hil := i64s_length ks
  rcases h.shape with ⟨rfl, hn⟩ | ⟨g, cap, rfl, hnc, hcm⟩
  · exact ⟨none, 0, by rw [hn] at hil; rw [← hil]; rfl⟩
  · exact ⟨_, cap, by rw [hil]⟩

theorem Rms.shape {w1 wr : World} {v : Value} {ks : List Int} {n : Nat} (h : Rms w0 K w w1 l b f t N s v ks n wr) : ∃ ao cap, v = .slice ao ks.length cap := by
  exact seesI_shape h.see

/-- What the loop begins with. -/
def Begun6 (w0 : World) (K : Nat → Prop) (w : World) (l b f t N : Nat) (s : WSt) (v ln i : Value) (wx : World) : Prop := ∃ ns, s.d.Nums ns ∧ Rms w0 K w wx l b f t N s v (ns.filter (· < s.at')) 0 wx ∧ (∀ j, slab v = some j → grow K w wx j) ∧ ln = .int .i64 (ns.filter (· < s.at')).length ∧ i = .int .i64 0

theorem LI.drew1 (h : LI w0 K w l b f t N s) : LI w0 K w.drew l b f t N s := (h.goes (Turn.refl _ w).drew).less (fun _ hj => .inl hj)

/-- Where a checkpoint is laid. -/
def WSt.place (s : WSt) : Int := if 0 < s.size then s.at' + 1 else s.at'

def WSt.kept (s : WSt) (l : List (List UInt8)) : Int × WSt := s.keep s.place 0 (laidOf 3 4 l)

def WSt.checkpoint (s : WSt) (l : List (List UInt8)) (ns : List Int) : Int × WSt := if (s.kept l).1 = 0 then (s.kept l).2.clears ns else s.kept l

def CTo6 (w0 : World) (K : Nat → Prop) (w : World) (l b f t N M : Nat) (s : WSt) (x : List (List UInt8)) (e : Ending) (w' : World) : Prop := ∃ ns, ((s.kept x).1 = 0 → (s.kept x).2.d.Nums ns) ∧ LTo w0 K w l b f t (N + M + 3) (s.checkpoint x ns) e w'

theorem LTo.trans {r r2 : Int × WSt} {N1 N2 : Nat} {e e2 : Ending} {w1 w2 : World} (h : LTo w0 K w l b f t N1 r e w1) (h2 : LTo w0 K w1 l b f t N2 r2 e2 w2) : LTo w0 K w l b f t N2 r2 e2 w2 := ⟨h2.1, h2.2.1, h.2.2.trans h2.2.2⟩

end

end Go.Proofs.YteomehdkfhjbeaaGreatDoor
