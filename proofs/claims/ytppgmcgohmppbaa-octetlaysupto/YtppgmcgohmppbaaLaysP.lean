/- It is proved that the law OctetLays answers true at every call whose steps hold together at most 1048576 values and bytes, in whatever memory, and leaves all that was there as it was. -/
import Derived.Test.YtppgmcgohmppbaaLays
import Derived.Test.YtppgmcgohmppbaaOpenS
import Derived.JoinedCond
namespace Go.Proofs.Ytppgmcgohmppbaa
open Go.RowKit

set_option maxHeartbeats 1000000 in
set_option maxRecDepth 100000 in
theorem lays_nil (ao : Option Addr) (cap : Nat) (w : World) :
    Calls Try.prog 4 #[.slice ao 0 cap] w fun e w' => e = .returned (.bool true) ∧ Below w.heap.size w w' := by
  obtain ⟨B, hB⟩ : ∃ B, B = w.heap.size := ⟨_, rfl⟩
  rw [← hB]
  go_enter Try.func4, Try.ntmps4
  go_wp2_with fail
  refine (newWriter_any w).mono ?_
  rintro e w2 ⟨rfl, rfl⟩
  go_wp2_with fail
  refine (known_any _).mono ?_
  rintro e w3 ⟨rfl, ht3⟩
  have hx3 := (WAt.new 54 w).kept ht3 (fun h => h) (fun _ _ h => h)
  have hx4 := hx3.alloc (.cells #[.slice none 0 0] 35)
  have hr4 := WAt.new 35 w3
  have t4 : Turn (fun _ => False) w (w3.alloc (.cells #[.slice none 0 0] 35)) := (((Turn.refl (fun _ => False) w).alloc _).trans ht3).alloc _
  clear hx3 ht3
  rw [← hB] at hx4 ⊢
  have HBe := hide (Nat.le_of_eq hB)
  clear hB
  go_wp2_with fail
  obtain ⟨rb, hrb⟩ : ∃ rb, rb = w3.heap.size := ⟨_, rfl⟩
  rw [← hrb] at hr4 ⊢
  clear hrb
  generalize w3.alloc (.cells #[.slice none 0 0] 35) = w4 at *
  go_loop [5] (fun i => i = .int .i64 0) (fun _ => 0)
  case atStart => rfl
  case round =>
    obtain rfl := hrel
    go_wp2_with fail
    refine (bytes_any B _ [] w4 hx4 (by simp)).mono ?_
    rintro e w5 ⟨bv, rfl, ho5, hg5, _⟩
    have t5 := turn_of_grown hg5
    have hx5 := hx4.kept t5 (fun h => h) (fun _ _ h => h)
    have hr5 := hr4.kept t5 (fun h => h) (fun _ _ h => h)
    have cR : w5.cell? ⟨rb, 0, none⟩ = some (.slice none 0 0) := by rw [hr5.1.cell]; rfl
    have hcvR := fun n => run_text_of_sees (P := Try.prog) (w5.drewN n) 24 9 Try.underlying24 Try.underlying5 Try.underlying9 (Sees.nil (w5.drewN n))
    have hcvB := fun n => run_text_of_sees (P := Try.prog) (w5.drewN n) 24 9 Try.underlying24 Try.underlying5 Try.underlying9 (show Sees (w5.drewN n) _ _ from ho5.sees)
    have t5' := t4.trans t5
    obtain ⟨aob, cpb, rfl⟩ := ho5.shape
    have Hx5 := hide hx5
    clear ho5 hg5 t5 hx4 hr4 hx5
    simp only [List.length_nil] at hcvB ⊢
    go_wp2_with fail
    go_quiet ((fail))
    go_wp2_with fail
    go_loop [8] (fun i => i = .int .i64 0) (fun _ => 0)
    case atStart => rfl
    case round =>
      obtain rfl := hrel
      have hcv9 := run_text_of_sees (P := Try.prog) (w5.drewN (nq + 1)) 24 9 Try.underlying24 Try.underlying5 Try.underlying9 (Sees.nil (w5.drewN (nq + 1)))
      clear hcvB
      go_wp2_with fail
      go_region_with ((go_at_call 17
                       go_must (
                         refine (bytes_any B (.slice none 0 0) [] (w5.drewN (nq + 1)) (unhide Hx5) (by simp)).mono ?_
                         rintro e wB ⟨fv, rfl, hoB, hgB2, _⟩
                         have tB := turn_of_grown hgB2
                         have hcvf := run_text_of_sees (P := Try.prog) wB 24 9 Try.underlying24 Try.underlying5 Try.underlying9 hoB.sees
                         have hcvr := run_text_of_sees (P := Try.prog) wB 24 9 Try.underlying24 Try.underlying5 Try.underlying9 (Sees.nil wB)
                         have cRB : wB.cell? ⟨rb, 0, none⟩ = some (.slice none 0 0) := (tB.cell (p := ⟨rb, 0, none⟩) hr5.1.lt (fun h => h)).trans cR
                         have hbB : Below B w wB := Below.trans (below_drewN' (t5'.below (unhide HBe) (fun _ _ h => h)) (nq + 1)) (tB.below (Nat.le_trans (unhide HBe) t5'.size) (fun _ _ h => h))
                         obtain ⟨aof, cpf, rfl⟩ := hoB.shape
                         simp only [List.length_nil] at hcvf
                         clear hoB hgB2 tB)))
      all_goals
        go_wp2
        go_ret
        exact ⟨rfl, hbB⟩

end Go.Proofs.Ytppgmcgohmppbaa

namespace Go.Proofs.Ytppgmcgohmppbaa.octetLays
open Go.ChangeShapes Go.WideShapes Go.ChangeAt Go.RowKit

theorem own : ownKnob Try.prog.godebug = none := by kernel_rfl
theorem laidOut : laidOutB Try.prog = true := by kernel_rfl

theorem contract (H : Type) (enc : TypeId × Value → H) (W : World) (base : Nat) (args : Array Value) (ds gs : List (DataW H)) (before : List MemPlace)
    (hval : ∀ (j : Nat) t v, Try.f4.params[j]? = some t → args[j]? = some v → Value.okWide Try.prog W .any base t v)
    (hW : DataW.Whole enc Try.prog Try.f4.params.toList Rows.octetLaysSpec.vars false W args.toList ds gs before) (hk : Rows.uptoSmall H (ds ++ gs) = true) :
    Calls Try.prog 4 args W fun e W' => ∃ v, e = .returned v ∧ Rows.octetLaysSpec.post enc Try.prog Try.f4 false true false false W args v W' := by
  have hW' := hW
  have hlt := hW.lt
  obtain ⟨p, q, hA0, hV, rfl, hfz, hnd⟩ := hW
  have hA : DataW.TrodAll enc Try.prog W 0 (fun _ => true) true Try.f4.params.toList args.toList ds p := hA0
  rw [Try.params4] at hA hval
  obtain ⟨v0, vs0, d0, ds0, p0, q0, hargs, rfl, rfl, h0, r0⟩ := trodAll_cons hA
  obtain ⟨rfl, rfl, rfl⟩ := trodAll_nil r0
  obtain rfl : args = #[v0] := by cases args; simp_all
  obtain ⟨rfl, rfl⟩ := trodVars_none hV
  clear hA0
  simp only [List.append_nil] at hW' hlt hk
  obtain ⟨a0, len, cap, rfl⟩ := okWide_slice Try.underlying32 (hval 0 32 v0 rfl rfl)
  have hbulk : Rows.uptoBulk d0 ≤ 1048576 := by
    have h1 : Rows.uptoBulkAll [d0] ≤ 1048576 := of_decide_eq_true hk
    simp only [Rows.uptoBulkAll] at h1
    omega
  have hcall : Calls Try.prog 4 #[.slice a0 len cap] W fun e w' => e = .returned (.bool true) ∧ Below W.heap.size W w' := by
    obtain ⟨fuel, hf⟩ := h0
    rcases open_steps hf with ⟨ao, cp, e⟩ | ⟨ab, off, cp, xs, e, _, hs, hb⟩
    · rw [e]
      exact lays_nil ao cp W
    · rw [e]
      exact lays_any ab off cp xs W hs (fun k hk => Nat.le_trans (hb k hk) hbulk)
  refine hcall.mono fun e W' ⟨he, hg⟩ => ?_
  subst he
  have hback := trodAll_cons_mk (Below.trod laidOut (by kernel_rfl) (of_decide_eq_true (by kernel_rfl)) h0 hg hlt) trodAll_mk0
  simp only [List.append_nil] at hback
  exact ⟨_, rfl, _, _, _, [], p0, [], hW', trodAll_cons_mk (shut_bool Try.underlying4 _) trodAll_mk0, hback, rfl, hg.frame _, fun h => by cases h⟩

set_option maxRecDepth 100000 in
theorem lifted (os : Os) (started : os.Started) (H : Type) (enc : TypeId × Value → H) (F : Stop.Interp) :
    ReturnsInHanded {} Try.checked os 4 .any ((Rows.OpenSpec.upto Rows.octetLaysSpec).pre6 enc Try.prog Try.f4 Rows.octetLaysUptoRow.domain false) (((Rows.OpenSpec.upto Rows.octetLaysSpec).at F).post enc Try.prog Try.f4 false true false false) := by
  refine returnsInHanded_of_cond (C := Try.checked) (s := Rows.OpenSpec.upto Rows.octetLaysSpec) (k := Rows.uptoSmall) rfl own started (by kernel_rfl) Try.func4
    (OpenSpec.witness (enc := enc) (C := Try.checked) (s := Rows.OpenSpec.upto Rows.octetLaysSpec) (k := Rows.uptoSmall) rfl false ⟨#[], #[.slice none 0 0], []⟩ 8 (by kernel_rfl) (by kernel_rfl) (by kernel_rfl)
      (x := ([.nil], [], [])) (by kernel_rfl) rfl (by kernel_rfl)) ?_
  intro W base args ds gs before hval hW _ hk _
  exact contract H enc W base args ds gs before hval hW hk

theorem over : Rows.OctetLaysUptoSaid :=
  OpenClaim.holds_of_cond 4 Try.f4 rfl rfl rfl rfl rfl rfl rfl ⟨rfl, rfl, rfl, rfl, rfl⟩ rfl rfl rfl rfl rfl (by kernel_rfl) Try.func4 (by kernel_rfl)
    (of_decide_eq_true (by kernel_rfl)) (by unfold Func.isWrapper; rw [if_neg (of_decide_eq_false (by kernel_rfl))]; exact ⟨rfl, rfl⟩)
    (fun os started H enc _ F => lifted os started H enc F)

end Go.Proofs.Ytppgmcgohmppbaa.octetLays

namespace Go.Proofs.Ytppgmcgohmppbaa

theorem octetLays_holds : Rows.OctetLaysUptoSaid := octetLays.over

end Go.Proofs.Ytppgmcgohmppbaa
