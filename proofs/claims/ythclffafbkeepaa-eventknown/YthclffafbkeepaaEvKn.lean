/- What EventKnown needs besides: LayAll of too many, short bytes, events laid in a list. -/
import Derived.Test.YthclffafbkeepaaEvZ
import Derived.Test.YthclffafbkeepaaEvX
import Derived.Test.YthclffafbkeepaaEvW
import Derived.Test.YthclffafbkeepaaPut
import Derived.Laws.MakeOwn
namespace Go.Proofs.Ythclffafbkeepaa
open Go.RowKit

theorem layAll_many (a : Option Addr) (n c : Nat) (w : World) (h : 200 < n) (h2 : n ≤ 9223372036854775807) : Calls Try.prog 9 #[.slice a n c] w fun e w' => e = .returned (.tuple #[.slice none 0 0, .int .i64 1]) ∧ w = w' := by
  have q : (200 : Int) < n := by omega
  go_enter Try.func9, Try.ntmps9
  go_wp2
  go_ret2
  exact ⟨rfl, rfl⟩

theorem readE_short (bs : List UInt8) (h : bs.length < 31) : readE bs = none := by
  cases hr : readE bs with
  | none => rfl
  | some e =>
    have h2 := (readE_some hr).2
    have h3 := congrArg List.length h2
    unfold layE at h3
    simp only [List.length_append, be_length, sh_length] at h3
    omega

theorem Try.infoEventE : (Try.prog.info? 25).map (fun i => (i.zero, i.size, i.bytes)) = some (some (.agg #[.int .i64 0, .int .i64 0, .int .i64 0, .int .i64 0, .int .i64 0, .int .i64 0, .string ⟨#[]⟩, .slice none 0 0, .slice none 0 0]), 9, 112) := by kernel_rfl

theorem make_events (w : World) : ∃ w', (Instr.makeSlice 34 (.int .i64 201) (.int .i64 201)).run Try.prog w = .ok (.slice (some ⟨w.heap.size, 0, none⟩) 201 201) w' ∧ Turn (fun _ => False) w w' := by
  obtain ⟨i0, hi, hz0, hz1, hz2⟩ := info_parts Try.infoEventE
  have h := run_makeSlice (P := Try.prog) w 34 25 i0 _ Try.underlying34 hi hz0 .i64 .i64 201 201 (by omega) (by omega) (by rw [hz1]; decide) (by rw [hz2]; decide) (by omega)
  exact ⟨_, h, (Turn.refl _ _).alloc _⟩

theorem evC_size (x : EvP) (dv fv : Value) : (evC x dv fv).size = 9 := rfl

theorem evs_one {Q : Nat → Prop} {w : World} {x : EvP} {dv fv : Value} (h : EvQ Q w dv fv x) : EvsQ (fun _ => True) (w.alloc (.cells (evC x dv fv) 25)) (.slice (some ⟨w.heap.size, 0, none⟩) 1 1) [x] := by
  have ta : Turn (fun _ => False) w (w.alloc (.cells (evC x dv fv) 25)) := (Turn.refl _ _).alloc _
  have hA : At 25 (w.alloc (.cells (evC x dv fv) 25)) w.heap.size (evC x dv fv) := At.new _ _ _
  refine .inr ⟨w.heap.size, 0, 1, rfl, by simp [maxLen], fun k hk => ⟨trivial, dv, fv, ?_⟩⟩
  obtain rfl : k = 0 := by simpa using hk
  refine ⟨fun j u hu => ?_, (h.kept ta (fun _ _ h => h)).mono (fun _ _ => trivial)⟩
  rw [show 0 + 0 * 9 + j = j by omega, hA.cell j]
  exact hu

theorem evs_two {Q : Nat → Prop} {w : World} {x : EvP} {dv fv : Value} (h : EvQ Q w dv fv x) (cs : Array Value) (hcs : cs = evC x dv fv ++ evC x dv fv) : EvsQ (fun _ => True) (w.alloc (.cells cs 25)) (.slice (some ⟨w.heap.size, 0, none⟩) 2 2) [x, x] := by
  have ta : Turn (fun _ => False) w (w.alloc (.cells cs 25)) := (Turn.refl _ _).alloc _
  have hA : At 25 (w.alloc (.cells cs 25)) w.heap.size cs := At.new _ _ _
  refine .inr ⟨w.heap.size, 0, 2, rfl, by simp [maxLen], fun k hk => ⟨trivial, dv, fv, ?_⟩⟩
  have hk2 : k = 0 ∨ k = 1 := by
    simp only [List.length_cons, List.length_nil] at hk
    omega
  have he : [x, x][k] = x := by rcases hk2 with rfl | rfl <;> rfl
  rw [he]
  refine ⟨fun j u hu => ?_, (h.kept ta (fun _ _ h => h)).mono (fun _ _ => trivial)⟩
  have hj := (Array.getElem?_eq_some_iff.1 hu).1
  rw [evC_size] at hj
  rw [hA.cell, hcs]
  rcases hk2 with rfl | rfl
  · rw [show 0 + 0 * 9 + j = j by omega, Array.getElem?_append_left (by rw [evC_size]; omega)]
    exact hu
  · rw [show 0 + 1 * 9 + j = 9 + j by omega, Array.getElem?_append_right (by rw [evC_size]; omega), evC_size, show 9 + j - 9 = j by omega]
    exact hu

end Go.Proofs.Ythclffafbkeepaa
