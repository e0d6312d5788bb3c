/- It is proved that the law OctetReads answers true at every call, whatever bytes and steps it is handed, in whatever memory, and leaves all that was there as it was. -/
import Derived.Test.YtppgmcgohmppbaaReads
import Derived.Test.YtppgmcgohmppbaaOpenS
import Derived.SizedLaws
namespace Go.Proofs.Ytppgmcgohmppbaa
open Go.RowKit

set_option maxHeartbeats 1000000 in
set_option maxRecDepth 100000 in
theorem reads_nil (bv : Value) (bs : List UInt8) (ao : Option Addr) (cap : Nat) (w : World) (hbs : Sees w bv bs) (hb47 : bs.length ≤ 140737488355328) :
    Calls Try.prog 5 #[bv, .slice ao 0 cap] w fun e w' => e = .returned (.bool true) ∧ Below w.heap.size w w' := by
  go_enter Try.func5, Try.ntmps5
  go_wp2_with fail
  refine (newReader_any bv bs w hbs hb47).mono ?_
  rintro e w1 ⟨xb, rfl, xv, hx1, hxb, hxv, ht1⟩
  go_wp2_with fail
  refine (known_any _).mono ?_
  rintro e w2 ⟨rfl, ht2⟩
  have hs2 := (hbs.kept ht1 (fun _ _ h => h)).kept ht2 (fun _ _ h => h)
  obtain ⟨ao2, cb, rfl⟩ := hbs.shape
  go_wp2_with fail
  refine (few_any _ bs bs.length w2 hs2 (by omega)).mono ?_
  rintro e w3 ⟨fv, rfl, hm3⟩
  have t3 := ((ht1.trans ht2).trans hm3.2.1)
  obtain ⟨ao3, cp3, rfl⟩ := hm3.1.shape
  clear hm3 ht1 ht2 hs2 hx1 hbs
  rw [List.take_length]
  go_wp2_with fail
  go_loop [7] (fun i => i = .int .i64 0) (fun _ => 0)
  case atStart => rfl
  case round =>
    obtain rfl := hrel
    go_wp2
    go_ret
    exact ⟨rfl, (t3.alloc _).below (Nat.le_refl _) (fun _ _ h => h)⟩

end Go.Proofs.Ytppgmcgohmppbaa

namespace Go.Proofs.Ytppgmcgohmppbaa.octetReads
open Go.ChangeShapes Go.WideShapes Go.ChangeAt Go.RowKit

theorem own : ownKnob Try.prog.godebug = none := by kernel_rfl
theorem laidOut : laidOutB Try.prog = true := by kernel_rfl
theorem bytesU8 : Try.prog.bytesOf 5 = 1 := by kernel_rfl

set_option maxRecDepth 100000 in
theorem lifted (os : Os) (started : os.Started) (H : Type) (enc : TypeId × Value → H) :
    ReturnsInHanded {} Try.checked os 5 .any (Rows.octetReadsSpec.pre6 enc Try.prog Try.f5 Rows.octetReadsRow.domain false) (Rows.octetReadsSpec.post enc Try.prog Try.f5 false true false false) := by
  refine returnsInHanded_of_change_sized (C := Try.checked) own started (by kernel_rfl) Try.func5
    (ChangeSpec.witness6 (enc := enc) (C := Try.checked) false ⟨#[], #[.slice none 0 0, .slice none 0 0], []⟩ 8 (by kernel_rfl) (by kernel_rfl) (by kernel_rfl) (by kernel_rfl)) ?_
  intro W base args ds gs before hval0 hW hcnd hsz0 _
  have hval : ∀ (j : Nat) t v, Try.f5.params[j]? = some t → args[j]? = some v → Value.okWide Try.prog W .any base t v := hval0
  have hsz : (DataW.weightsEach Try.prog (Try.f5.params.toList ++ Rows.octetReadsSpec.plain.varTypes Try.prog) (ds ++ gs)).all (· ≤ reachBytes) = true := hsz0
  have hW' := hW
  have hlt := hW.lt
  obtain ⟨p, q, hA0, hV, rfl, hfz, hnd⟩ := hW
  have hA : DataW.TrodAll enc Try.prog W 0 (fun _ => true) true Try.f5.params.toList args.toList ds p := hA0
  rw [Try.params5] at hA hval hsz
  obtain ⟨v0, vs0, d0, ds0, p0, q0, hargs, rfl, rfl, h0, r0⟩ := trodAll_cons hA
  obtain ⟨v1, vs1, d1, ds1, p1, q1, rfl, rfl, rfl, h1, r1⟩ := trodAll_cons r0
  obtain ⟨rfl, rfl, rfl⟩ := trodAll_nil r1
  obtain rfl : args = #[v0, v1] := by cases args; simp_all
  obtain ⟨rfl, rfl⟩ := trodVars_none hV
  clear hA0 hval0
  simp only [List.append_nil] at hW' hlt
  obtain ⟨a0, len0, cap0, rfl⟩ := okWide_slice Try.underlying24 (hval 0 24 v0 rfl rfl)
  obtain ⟨a1, len1, cap1, rfl⟩ := okWide_slice Try.underlying32 (hval 1 32 v1 rfl rfl)
  have hcall : Calls Try.prog 5 #[.slice a0 len0 cap0, .slice a1 len1 cap1] W fun e w' => e = .returned (.bool true) ∧ Below W.heap.size W w' := by
    obtain ⟨fuel0, hf0⟩ := h0
    obtain ⟨fuel1, hf1⟩ := h1
    obtain ⟨bs, hsee, _, hlong⟩ := open_bytes hf0
    have h47 : bs.length ≤ 140737488355328 := by
      rcases hlong with ⟨_, h⟩ | ⟨elems, spare, he, hl⟩
      · omega
      · have hz := sized_slice hsz (j := 0) (t := 24) rfl (show ([d0, d1] ++ [])[0]? = some (.slice elems spare) by simpa using he) Try.underlying24
        rw [bytesU8] at hz
        unfold reachBytes at hz
        omega
    rcases open_steps hf1 with ⟨ao, cp, e⟩ | ⟨ab, off, cp, xs, e, _, hs, _⟩
    · rw [e]
      exact reads_nil _ bs ao cp W hsee h47
    · rw [e]
      exact reads_any _ bs ab off cp xs W hsee h47 hs
  refine hcall.mono fun e W' ⟨he, hg⟩ => ?_
  subst he
  have hback := trodAll_cons_mk (Below.trod laidOut (by kernel_rfl) (of_decide_eq_true (by kernel_rfl)) h0 hg (fun x hx => hlt x (List.mem_append_left _ hx)))
    (trodAll_cons_mk (Below.trod laidOut (by kernel_rfl) (of_decide_eq_true (by kernel_rfl)) h1 hg (fun x hx => hlt x (List.mem_append_right _ hx))) trodAll_mk0)
  simp only [List.append_nil] at hback
  exact ⟨_, rfl, _, _, _, [], p0 ++ p1, [], hW', trodAll_cons_mk (shut_bool Try.underlying4 _) trodAll_mk0, hback, rfl, hg.frame _, fun h => by cases h⟩

theorem over : Rows.octetReadsRow.holds Try.pinned (OpenSpec.ofChange Rows.octetReadsSpec) :=
  OpenClaim.holds_of_wide 5 Try.f5 rfl rfl rfl rfl rfl rfl rfl ⟨rfl, rfl, rfl, rfl, rfl⟩ rfl rfl rfl rfl rfl (by kernel_rfl) Try.func5 (by kernel_rfl)
    (of_decide_eq_true (by kernel_rfl)) (by unfold Func.isWrapper; rw [if_neg (of_decide_eq_false (by kernel_rfl))]; exact ⟨rfl, rfl⟩)
    (fun os started H enc _ => lifted os started H enc)

end Go.Proofs.Ytppgmcgohmppbaa.octetReads

namespace Go.Proofs.Ytppgmcgohmppbaa

theorem octetReads_holds : Rows.OctetReadsSaid := octetReads.over

end Go.Proofs.Ytppgmcgohmppbaa
