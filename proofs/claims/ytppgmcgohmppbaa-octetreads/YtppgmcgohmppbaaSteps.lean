/- Raw steps in memory: a slice of structs of two numbers and a slice of bytes. -/
import Derived.Test.YtppgmcgohmppbaaOctR
import Derived.Test.YtppgmcgohmppbaaHand
namespace Go.Proofs.Ytppgmcgohmppbaa
open Go.RowKit

/-- One step: two numbers, a slice of bytes and what it shows. -/
structure StepD where
  what : Int
  n : Int
  bv : Value
  bs : List UInt8

/-- A slice of steps, in a world W; all of it below block B. -/
structure StepsAt (W : World) (B : Nat) (ab off cap : Nat) (xs : List StepD) : Prop where
  le : xs.length ≤ cap
  lt : 0 < xs.length → ab < B
  c0 : ∀ k (hk : k < xs.length), W.cell? ⟨ab, off + k * 3, none⟩ = some (.int .i64 xs[k].what)
  c1 : ∀ k (hk : k < xs.length), W.cell? ⟨ab, off + k * 3 + 1, none⟩ = some (.int .i64 xs[k].n)
  c2 : ∀ k (hk : k < xs.length), W.cell? ⟨ab, off + k * 3 + 2, none⟩ = some xs[k].bv
  sees : ∀ k (hk : k < xs.length), Sees W xs[k].bv xs[k].bs
  slabs : ∀ k (hk : k < xs.length), 0 < xs[k].bs.length → ∀ j, slab xs[k].bv = some j → j < B
  wf : ∀ k (hk : k < xs.length), -9223372036854775808 ≤ xs[k].n ∧ xs[k].n ≤ 9223372036854775807

theorem StepsAt.later {W w : World} {B ab off cap : Nat} {xs : List StepD} (h : StepsAt W B ab off cap xs) (hb : Below B W w) : StepsAt w B ab off cap xs where
  le := h.le
  lt := h.lt
  c0 k hk := (hb.cell (p := ⟨ab, off + k * 3, none⟩) (h.lt (by omega))).trans (h.c0 k hk)
  c1 k hk := (hb.cell (p := ⟨ab, off + k * 3 + 1, none⟩) (h.lt (by omega))).trans (h.c1 k hk)
  c2 k hk := (hb.cell (p := ⟨ab, off + k * 3 + 2, none⟩) (h.lt (by omega))).trans (h.c2 k hk)
  sees k hk := (h.sees k hk).below (h.slabs k hk) hb
  slabs := h.slabs
  wf := h.wf

/-- A Writer whose memory lies from block B on. -/
def WB (T : TypeId) (B : Nat) (w : World) (b : Nat) (bs : List UInt8) : Prop := ∃ v, WAt T w b v bs ∧ B ≤ b ∧ ∀ k, v.ownBlock = some k → B ≤ k

theorem WB.step {T : TypeId} {B : Nat} {w w' : World} {b : Nat} {v v' : Value} {bs' : List UInt8} (hb : B ≤ b) (hv : ∀ k, v.ownBlock = some k → B ≤ k) (hB : B ≤ w.heap.size) (hst : WStep T b w v w' v' bs') : WB T B w' b bs' ∧ Below B w w' := by
  refine ⟨⟨v', hst.at', hb, fun k hk => ?_⟩, hst.turn.below hB (fun k hk hS => ?_)⟩
  · rcases hst.moved with hm | ⟨j, hj, hle⟩
    · exact hv k (hm ▸ hk)
    · rw [hj] at hk
      injection hk with hk
      omega
  · rcases hS with hS | hS
    · omega
    · have := hv k hS
      omega

theorem WB.kept {S : Nat → Prop} {T : TypeId} {B : Nat} {w w' : World} {b : Nat} {bs : List UInt8} (h : WB T B w b bs) (ht : Turn S w w') (h1 : ∀ k, ¬ S k) : WB T B w' b bs := by
  obtain ⟨v, hv, h2, h3⟩ := h
  exact ⟨v, hv.kept ht (h1 _) (fun _ _ => h1 _), h2, h3⟩

/-- A Reader from block B on. -/
def RB (T : TypeId) (B : Nat) (w : World) (b : Nat) (s : St) : Prop := ∃ v, RIs T w b v s ∧ B ≤ b

/-- Behind a call that took: the Reader has s, nothing below B has turned. -/
def RBs (T : TypeId) (B : Nat) (w : World) (b : Nat) (s : St) (w' : World) : Prop := RB T B w' b s ∧ Below B w w' ∧ B ≤ w'.heap.size ∧ Turn (fun k => k = b) w w'

theorem RBs.of {T : TypeId} {B : Nat} {w w' : World} {b : Nat} {v : Value} {s : St} (hb : B ≤ b) (hB : B ≤ w.heap.size) (h : Now T w b v s w') : RBs T B w b s w' := by
  obtain ⟨v', hst⟩ := h
  exact ⟨⟨v', hst.at', hb⟩, hst.turn.below hB (fun k hk e => by omega), Nat.le_trans hB hst.turn.size, hst.turn⟩

theorem ru8_B (B b : Nat) (s : St) (w : World) (h : RB 52 B w b s) (hB : B ≤ w.heap.size) :
    Calls Try.prog 31 #[.pointer (some ⟨b, 0, none⟩)] w fun e w' => e = .returned (.int .i64 (num (s.take 1).1)) ∧ RBs 52 B w b (s.take 1).2 w' := by
  obtain ⟨v, hv, hb⟩ := h
  exact (ru8_any b v s w hv).mono fun e w' h => ⟨h.1, RBs.of hb hB h.2⟩

theorem ru16_B (B b : Nat) (s : St) (w : World) (h : RB 52 B w b s) (hB : B ≤ w.heap.size) :
    Calls Try.prog 13 #[.pointer (some ⟨b, 0, none⟩)] w fun e w' => e = .returned (.int .i64 (num (s.take 2).1)) ∧ RBs 52 B w b (s.take 2).2 w' := by
  obtain ⟨v, hv, hb⟩ := h
  exact (ru16_any b v s w hv).mono fun e w' h => ⟨h.1, RBs.of hb hB h.2⟩

theorem ru64_B (B b : Nat) (s : St) (w : World) (h : RB 52 B w b s) (hB : B ≤ w.heap.size) :
    Calls Try.prog 11 #[.pointer (some ⟨b, 0, none⟩)] w fun e w' => e = .returned (.int .i64 (num (s.take 8).1)) ∧ RBs 52 B w b (s.take 8).2 w' := by
  obtain ⟨v, hv, hb⟩ := h
  exact (ru64_any b v s w hv).mono fun e w' h => ⟨h.1, RBs.of hb hB h.2⟩

theorem rtext_B (B b : Nat) (s : St) (w : World) (h : RB 52 B w b s) (hB : B ≤ w.heap.size) :
    Calls Try.prog 12 #[.pointer (some ⟨b, 0, none⟩)] w fun e w' => e = .returned (.string ⟨s.short.1.toArray⟩) ∧ RBs 52 B w b s.short.2 w' := by
  obtain ⟨v, hv, hb⟩ := h
  exact (rtext_any b v s w hv).mono fun e w' h => ⟨h.1, RBs.of hb hB h.2⟩

theorem rshort_B (B b : Nat) (s : St) (w : World) (h : RB 52 B w b s) (hB : B ≤ w.heap.size) (hb47 : s.bs.length ≤ 140737488355328) :
    Calls Try.prog 37 #[.pointer (some ⟨b, 0, none⟩)] w fun e w' => ∃ fv, e = .returned fv ∧ (Owns w' fv s.short.1 ∧ (∀ k, fv.ownBlock = some k → w.heap.size ≤ k)) ∧ RBs 52 B w b s.short.2 w' := by
  obtain ⟨v, hv, hb⟩ := h
  exact (rshort_any b v s w hv hb47).mono fun e w' ⟨fv, h, h1, h2, h3⟩ => ⟨fv, h, ⟨h1, h2⟩, RBs.of hb hB h3⟩

theorem rraw_B (B b : Nat) (s : St) (n : Int) (w : World) (h : RB 52 B w b s) (hB : B ≤ w.heap.size) (hb47 : s.bs.length ≤ 140737488355328) :
    Calls Try.prog 35 #[.pointer (some ⟨b, 0, none⟩), .int .i64 n] w fun e w' => ∃ fv, e = .returned fv ∧ (Owns w' fv (s.take n).1 ∧ (∀ k, fv.ownBlock = some k → w.heap.size ≤ k)) ∧ RBs 52 B w b (s.take n).2 w' := by
  obtain ⟨v, hv, hb⟩ := h
  exact (rraw_any b v s n w hv hb47).mono fun e w' ⟨fv, h, h1, h2, h3⟩ => ⟨fv, h, ⟨h1, h2⟩, RBs.of hb hB h3⟩

theorem RB.drew {T : TypeId} {B : Nat} {w : World} {b : Nat} {s : St} (h : RB T B w b s) : RB T B w.drew b s := h

theorem RB.kept {S : Nat → Prop} {T : TypeId} {B : Nat} {w w' : World} {b : Nat} {s : St} (h : RB T B w b s) (ht : Turn S w w') (h1 : ∀ k, ¬ S k) : RB T B w' b s := by
  obtain ⟨v, hv, hb⟩ := h
  exact ⟨v, hv.kept ht (h1 _) (fun _ _ => h1 _), hb⟩

end Go.Proofs.Ytppgmcgohmppbaa
