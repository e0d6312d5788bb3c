/- known: the law's own example. -/
import Derived.Test.YthclffafbkeepaaEvU
import Derived.Test.YthclffafbkeepaaLit
namespace Go.Proofs.Ythclffafbkeepaa
open Go.RowKit

/-- known's event. -/
def knE : EvP := ⟨1, 1, 0, 7, 0, 0, ⟨#[97]⟩, [98], []⟩

theorem knE_right : rightE knE = true := by decide

section
variable {w : World}

set_option maxHeartbeats 8000000 in
set_option maxRecDepth 100000 in
theorem known10_any (w : World) : Calls Try.prog 6 #[] w fun e w' => e = .returned (.bool true) ∧ Turn (fun _ => False) w w' := by
  obtain ⟨wa, hr, hs, ta⟩ := run_lit w [98] (by simp [maxLen])
  have hlt : w.heap.size < wa.heap.size := hs.ltE (by simp) rfl
  have hr2 : (convert 22 22 (.slice (some ⟨w.heap.size, 0, none⟩) 1 1)).run Try.prog (w.alloc (.cells #[.int .u8 98] 5)) = .ok (.slice (some ⟨w.heap.size, 0, none⟩) 1 1) wa := hr
  clear hr
  obtain ⟨wb, hwb⟩ : ∃ wb, wb = wa.alloc (.cells (evC knE (.slice (some ⟨w.heap.size, 0, none⟩) 1 1) (.slice none 0 0)) 25) := ⟨_, rfl⟩
  have tb : Turn (fun _ => False) wa wb := by rw [hwb]; exact (Turn.refl _ _).alloc _
  have hx : EvQ (fun _ => True) wb (.slice (some ⟨w.heap.size, 0, none⟩) 1 1) (.slice none 0 0) knE := ⟨hs.kept tb (fun _ _ h => h), fun _ _ _ => trivial, .inl ⟨rfl, rfl⟩, by decide, by decide⟩
  have hA : At 25 wb wa.heap.size (evC knE (.slice (some ⟨w.heap.size, 0, none⟩) 1 1) (.slice none 0 0)) := by rw [hwb]; exact At.new _ _ _
  have HX := hide hx
  have HA := hide hA
  have TB := hide (ta.trans tb)
  have Hwb := hide hwb
  clear ta hs hwb tb hx hA
  go_enter Try.func6, Try.ntmps6
  go_upto_region 2 with fail
  have e1 : evC knE (.slice (some ⟨w.heap.size, 0, none⟩) 1 1) (.slice none 0 0) = #[.int .i64 1, .int .i64 1, .int .i64 0, .int .i64 7, .int .i64 0, .int .i64 0, .string ⟨#[97]⟩, .slice (some ⟨w.heap.size, 0, none⟩) 1 1, .slice none 0 0] := rfl
  rw [e1] at HA Hwb
  rw [← unhide Hwb]
  clear hr2 e1
  obtain ⟨c0, c1, c2, c3, c4, c5, c6, c7, c8⟩ := at_nine (unhide HA)
  have KL := hide (show Calls Try.prog 7 #[.agg #[.int .i64 1, .int .i64 1, .int .i64 0, .int .i64 7, .int .i64 0, .int .i64 0, .string ⟨#[97]⟩, .slice (some ⟨w.heap.size, 0, none⟩) 1 1, .slice none 0 0]] wb fun e w' => ∃ v', e = .returned (.tuple #[v', .int .i64 0]) ∧ Made wb v' (layE knE) w' from evLay_yes (unhide HX) knE_right)
  go_wp2_with fail
  refine (unhide KL).mono ?_
  rintro e w2 ⟨v2, rfl, hm2⟩
  have t2 := hm2.2.1
  have KR := hide (evRead_any (layE knE) hm2.1.sees (by have := layE_length knE_right; omega))
  rw [readE_lay knE_right] at KR
  have HA2 := hide ((unhide HA).kept t2 (fun e => e))
  have HX2 := hide ((unhide HX).kept t2 (fun _ _ h => h))
  have T2 := hide ((unhide TB).trans t2)
  obtain ⟨o2, p2, e2⟩ := hm2.1.shape
  generalize (layE knE).length = ln at e2
  subst e2
  clear hm2 t2 c0 c1 c2 c3 c4 c5 c6 c7 c8 HX HA TB KL
  go_wp2_with fail
  refine (unhide KR).mono ?_
  rintro e w3 ⟨t3, dv3, fv3, rfl, hq3⟩
  have HA3 := hide ((unhide HA2).kept t3 (fun e => e))
  have HX3 := hide ((unhide HX2).kept t3 (fun _ _ h => h))
  have T3 := hide ((unhide T2).trans t3)
  obtain ⟨o3, p3, e3⟩ := hq3.data.shape
  obtain ⟨o4, p4, e4, -⟩ := hq3.defs.shape
  have e5 : knE.data.length = 1 := rfl
  have e6 : knE.defs.length = 0 := rfl
  rw [e5] at e3
  rw [e6] at e4
  subst e3 e4
  have HQ3 := hide hq3
  have e7 : evV knE (.slice o3 1 p3) (.slice o4 0 p4) = .agg #[.int .i64 1, .int .i64 1, .int .i64 0, .int .i64 7, .int .i64 0, .int .i64 0, .string ⟨#[97]⟩, .slice o3 1 p3, .slice o4 0 p4] := rfl
  rw [e7]
  clear e5 e6 e7 hq3 t3 KR HA2 HX2 T2
  go_upto_region 4 with fail
  obtain ⟨w4, hw4⟩ : ∃ w4, w4 = w3.alloc (.cells #[.int .i64 1, .int .i64 1, .int .i64 0, .int .i64 7, .int .i64 0, .int .i64 0, .string ⟨#[97]⟩, .slice o3 1 p3, .slice o4 0 p4] 25) := ⟨_, rfl⟩
  have t4 : Turn (fun _ => False) w3 w4 := by rw [hw4]; exact (Turn.refl _ _).alloc _
  have hB4 : At 25 w4 w3.heap.size #[.int .i64 1, .int .i64 1, .int .i64 0, .int .i64 7, .int .i64 0, .int .i64 0, .string ⟨#[97]⟩, .slice o3 1 p3, .slice o4 0 p4] := by rw [hw4]; exact At.new _ _ _
  have hA4 := (unhide HA3).kept t4 (fun e => e)
  rw [← hw4]
  obtain ⟨c0, c1, c2, c3, c4, c5, c6, c7, c8⟩ := at_nine hA4
  obtain ⟨d0, d1, d2, d3, d4, d5, d6, d7, d8⟩ := at_nine hB4
  have KS := hide (show Calls Try.prog 19 #[.agg #[.int .i64 1, .int .i64 1, .int .i64 0, .int .i64 7, .int .i64 0, .int .i64 0, .string ⟨#[97]⟩, .slice (some ⟨w.heap.size, 0, none⟩) 1 1, .slice none 0 0], .agg #[.int .i64 1, .int .i64 1, .int .i64 0, .int .i64 7, .int .i64 0, .int .i64 0, .string ⟨#[97]⟩, .slice o3 1 p3, .slice o4 0 p4]] w4 fun e w' => e = .returned (.bool true) ∧ Turn (fun _ => False) w4 w' from by
    have h := evSame_any ((unhide HX3).kept t4 (fun _ _ h => h)) (((unhide HQ3).kept t4 (fun _ _ h => h)).mono (fun _ _ => trivial))
    rw [(sameE_iff knE knE).2 rfl] at h
    exact h)
  have n1 : nameB ⟨#[97, 45, 49]⟩ = true := by decide
  have n2 : nameB ⟨#[65]⟩ = false := by decide
  have n3 : nameB ⟨#[]⟩ = false := by decide
  have K1 := hide (show Calls Try.prog 13 #[.string ⟨#[97, 45, 49]⟩] w4 fun e w' => e = .returned (.bool true) ∧ w4 = w' from by rw [← n1]; exact isName_any _ (by decide))
  have K2 := hide (show Calls Try.prog 13 #[.string ⟨#[65]⟩] w4 fun e w' => e = .returned (.bool false) ∧ w4 = w' from by rw [← n2]; exact isName_any _ (by decide))
  have K3 := hide (show Calls Try.prog 13 #[.string ⟨#[]⟩] w4 fun e w' => e = .returned (.bool false) ∧ w4 = w' from by rw [← n3]; exact isName_any _ (by decide))
  have T4 := hide ((unhide T3).trans t4)
  have HB4 := hide hB4
  clear hw4 t4 hB4 hA4 n1 n2 n3
  go_wp2_with fail
  refine (unhide K1).mono ?_
  rintro e w5 ⟨rfl, rfl⟩
  go_wp2_with fail
  refine (unhide K2).mono ?_
  rintro e w5 ⟨rfl, rfl⟩
  go_wp2_with fail
  refine (unhide K3).mono ?_
  rintro e w5 ⟨rfl, rfl⟩
  go_wp2_with fail
  refine (unhide KS).mono ?_
  rintro e w5 ⟨rfl, t5⟩
  have f6 : w5.cell? ⟨w3.heap.size, 6, none⟩ = some (.string ⟨#[97]⟩) := ((unhide HB4).kept t5 (fun e => e)).cell 6
  have T5 := hide ((unhide T4).trans t5)
  clear c0 c1 c2 c3 c4 c5 c6 c7 c8 d0 d1 d2 d3 d4 d5 d6 d7 d8 t5
  go_wp2_with fail
  go_ret
  exact ⟨rfl, unhide T5⟩

end

end Go.Proofs.Ythclffafbkeepaa
