/- The closed sentence of chapter 3: its walk. -/
import Derived.Test.YtfmbkpdjjhcmcaaGreatFrameL
import Derived.Test.YtfmbkpdjjhcmcaaGreatPkA
import Derived.Test.YtfmbkpdjjhcmcaaGreatPut
namespace Go.Proofs.YtfmbkpdjjhcmcaaGreat
open Go.RowKit

theorem next_any (f t : Nat) (v : Value) (bs : List UInt8) (w : World) (h : Fr w f t) (hs : Sees w v bs) :
    Calls Tryz.prog 55 #[.pointer (some ⟨f, 0, none⟩), v] w fun e w' => ∃ v', e = .returned (toldValue (tell bs) v') ∧ NextIs w f t (tell bs) v' w' := by
  by_cases hl : bs.length < 9
  · exact next_short f t v bs w h hs hl
  · obtain ⟨A, L, S, R, h1, h2, h3, h4, h5⟩ := parts bs (by omega)
    rw [h5]
    exact next_long f t v bs A L S R w h hs h1 h2 h3 h4

/-- A Framer of the law's own, in new memory; nothing else has turned. -/
structure FOwn (w w' : World) (f t : Nat) : Prop where
  fr : Fr w' f t
  turn : Turn (fun _ => False) w w'
  newf : w.heap.size ≤ f
  newt : w.heap.size ≤ t

theorem FOwn.of {w w' : World} {f : Nat} (h : FrNew w f w') : ∃ t, FOwn w w' f t := by
  obtain ⟨t, h1, h2, h3, h4⟩ := h
  exact ⟨t, h1, h4, h2, h3⟩

theorem FOwn.goes {w w1 w2 : World} {f t : Nat} (h : FOwn w w1 f t) (ht : Turn (fun _ => False) w1 w2) : FOwn w w2 f t := ⟨h.fr.goes ht, h.turn.trans ht, h.newf, h.newt⟩

theorem FOwn.turned {w w1 w2 : World} {f t : Nat} (h : FOwn w w1 f t) (h2 : Fr w2 f t) (ht : Turn (fun k => k = t) w1 w2) : FOwn w w2 f t := ⟨h2, h.turn.trans' ht (fun i hi e => by have := h.newt; omega), h.newf, h.newt⟩

theorem FOwn.next {w w1 w2 : World} {f t : Nat} {r : Told} {v : Value} (h : FOwn w w1 f t) (hn : NextIs w1 f t r v w2) : FOwn w w2 f t := h.turned hn.2.1 hn.2.2.1

theorem FOwn.laid {w w1 w2 : World} {f t : Nat} {bs : List UInt8} {v : Value} (h : FOwn w w1 f t) (hn : Laid w1 f t bs v w2) : FOwn w w2 f t := h.turned hn.2.2.1 hn.2.2.2

theorem make_great (w : World) : ∃ w', (Instr.makeSlice 31 (.int .i64 1048577) (.int .i64 1048577)).run Tryz.prog w = .ok (.slice (some ⟨w.heap.size, 0, none⟩) 1048577 1048577) w' ∧ Turn (fun _ => False) w w' := by
  obtain ⟨i0, hi, hz0, hz1, hz2⟩ := info_parts Tryz.infoU8
  have h := run_makeSlice (P := Tryz.prog) w 31 5 i0 (.int .u8 0) Tryz.underlying31 hi hz0 .i64 .i64 1048577 1048577 (by omega) (by omega) (by rw [hz1]; decide) (by rw [hz2]; decide) (by omega)
  exact ⟨_, h, (Turn.refl _ _).alloc _⟩

end Go.Proofs.YtfmbkpdjjhcmcaaGreat
