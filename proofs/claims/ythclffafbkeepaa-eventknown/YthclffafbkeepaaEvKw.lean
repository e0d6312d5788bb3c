/- EventKnown. -/
import Derived.Test.YthclffafbkeepaaEvKn
import Derived.Test.YthclffafbkeepaaEvY
namespace Go.Proofs.Ythclffafbkeepaa
open Go.RowKit

/-- The law's event. -/
def exE : EvP := ⟨2, 12, 5, 3, 1, 2, ⟨#[]⟩, [111, 107], []⟩

theorem exE_right : rightE exE = true := by decide

/-- One that may not be. -/
def noE : EvP := ⟨1, 1, 0, 3, 0, 0, ⟨#[]⟩, [], []⟩

theorem noE_wrong : rightE noE = false := by decide

theorem exE_length : (layE exE).length = 35 := by decide

section
variable {w : World}

set_option maxHeartbeats 8000000 in
set_option maxRecDepth 100000 in
theorem eventKnown_any (w : World) : Calls Try.prog 3 #[] w fun e w' => e = .returned (.bool true) ∧ Turn (fun _ => False) w w' := by
  obtain ⟨wa, hr, hs, ta⟩ := run_lit w [111, 107] (by simp [maxLen])
  have hlt : w.heap.size < wa.heap.size := hs.ltE (by simp) rfl
  have hr2 : (convert 22 22 (.slice (some ⟨w.heap.size, 0, none⟩) 2 2)).run Try.prog (w.alloc (.cells #[.int .u8 111, .int .u8 107] 5)) = .ok (.slice (some ⟨w.heap.size, 0, none⟩) 2 2) wa := hr
  clear hr
  obtain ⟨wb, hwb⟩ : ∃ wb, wb = wa.alloc (.cells (evC exE (.slice (some ⟨w.heap.size, 0, none⟩) 2 2) (.slice none 0 0)) 25) := ⟨_, rfl⟩
  have tb : Turn (fun _ => False) wa wb := by rw [hwb]; exact (Turn.refl _ _).alloc _
  have hx : EvQ (fun j => j < wb.heap.size) wb (.slice (some ⟨w.heap.size, 0, none⟩) 2 2) (.slice none 0 0) exE := ⟨hs.kept tb (fun _ _ h => h), fun h0 j hj => (hs.kept tb (fun _ _ h => h)).ltE h0 hj, .inl ⟨rfl, rfl⟩, by decide, by decide⟩
  have hA : At 25 wb wa.heap.size (evC exE (.slice (some ⟨w.heap.size, 0, none⟩) 2 2) (.slice none 0 0)) := by rw [hwb]; exact At.new _ _ _
  have HX := hide hx
  have HA := hide hA
  have TB := hide (ta.trans tb)
  have Hwb := hide hwb
  have hbl : wa.heap.size < wb.heap.size := hA.lt
  clear ta hs hwb tb hx hA
  go_enter Try.func3, Try.ntmps3
  go_upto_region 2 with fail
  have e1 : evC exE (.slice (some ⟨w.heap.size, 0, none⟩) 2 2) (.slice none 0 0) = #[.int .i64 2, .int .i64 12, .int .i64 5, .int .i64 3, .int .i64 1, .int .i64 2, .string ⟨#[]⟩, .slice (some ⟨w.heap.size, 0, none⟩) 2 2, .slice none 0 0] := rfl
  rw [e1] at HA Hwb
  rw [← unhide Hwb]
  clear hr2 e1
  obtain ⟨c0, c1, c2, c3, c4, c5, c6, c7, c8⟩ := at_nine (unhide HA)
  have KC := hide (show Calls Try.prog 5 #[.agg #[.int .i64 2, .int .i64 12, .int .i64 5, .int .i64 3, .int .i64 1, .int .i64 2, .string ⟨#[]⟩, .slice (some ⟨w.heap.size, 0, none⟩) 2 2, .slice none 0 0]] wb fun e w' => ∃ dv' fv', e = .returned (evV exE dv' fv') ∧ EvNew wb exE dv' fv' w' from evCopy_any (unhide HX) (by decide) (by simp [exE]))
  go_wp2_with fail
  refine (unhide KC).mono ?_
  rintro e w2 ⟨dv3, fv3, rfl, hn2⟩
  obtain ⟨g, p3, e3⟩ : ∃ g p3, dv3 = .slice (some ⟨g, 0, none⟩) 2 p3 := by
    obtain ⟨g, p3, e⟩ := hn2.data.solid (by decide)
    exact ⟨g, p3, e⟩
  obtain ⟨o4, p4, e4, -⟩ := hn2.evQ.defs.shape
  have e6 : exE.defs.length = 0 := rfl
  rw [e6] at e4
  subst e3 e4
  have hgl : wb.heap.size ≤ g := (hn2.dnew g rfl).1
  have hglt : g < w2.heap.size := hn2.data.lt rfl
  obtain ⟨w3, hw3⟩ : ∃ w3, w3 = w2.alloc (.cells #[.int .i64 2, .int .i64 12, .int .i64 5, .int .i64 3, .int .i64 1, .int .i64 2, .string ⟨#[]⟩, .slice (some ⟨g, 0, none⟩) 2 p3, .slice o4 0 p4] 25) := ⟨_, rfl⟩
  have t3 : Turn (fun _ => False) w2 w3 := by rw [hw3]; exact (Turn.refl _ _).alloc _
  have hB3 : At 25 w3 w2.heap.size #[.int .i64 2, .int .i64 12, .int .i64 5, .int .i64 3, .int .i64 1, .int .i64 2, .string ⟨#[]⟩, .slice (some ⟨g, 0, none⟩) 2 p3, .slice o4 0 p4] := by rw [hw3]; exact At.new _ _ _
  have HA3 := hide (((unhide HA).kept hn2.turn (fun e => e)).kept t3 (fun e => e))
  have HX3 := hide (((unhide HX).kept hn2.turn (fun _ _ h => h)).kept t3 (fun _ _ h => h))
  have HO3 := hide (hn2.data.kept t3 (fun _ _ h => h))
  have T3 := hide (((unhide TB).trans hn2.turn).trans t3)
  have HB3 := hide hB3
  have Hw3 := hide hw3
  have e7 : evV exE (.slice (some ⟨g, 0, none⟩) 2 p3) (.slice o4 0 p4) = .agg #[.int .i64 2, .int .i64 12, .int .i64 5, .int .i64 3, .int .i64 1, .int .i64 2, .string ⟨#[]⟩, .slice (some ⟨g, 0, none⟩) 2 p3, .slice o4 0 p4] := rfl
  rw [e7]
  clear hn2 e6 e7 t3 hB3 hw3 c0 c1 c2 c3 c4 c5 c6 c7 c8 HX HA TB KC
  go_upto_region 3 with fail
  rw [← unhide Hw3]
  have d7 : w3.cell? ⟨w2.heap.size, 7, none⟩ = some (.slice (some ⟨g, 0, none⟩) 2 p3) := (unhide HB3).cell 7
  have KK := hide (known10_any w3)
  go_wp2_with fail
  refine (unhide KK).mono ?_
  rintro e w4 ⟨rfl, t4⟩
  have hO4 := (unhide HO3).kept t4 (fun _ _ h => h)
  have d8 : w4.cell? ⟨w2.heap.size, 7, none⟩ = some (.slice (some ⟨g, 0, none⟩) 2 p3) := ((unhide HB3).kept t4 (fun e => e)).cell 7
  have b0 : w4.cell? ⟨g, 0, none⟩ = some (.int .u8 111) := hO4.at 0 (by decide)
  have bf : w4.frozen? ⟨g, 0, none⟩ = false := hO4.frozenAt 0
  obtain ⟨w5, hw5⟩ : ∃ w5, w5 = w4.setCell ⟨g, 0, none⟩ (.int .u8 120) := ⟨_, rfl⟩
  have t5 : Turn (fun k => k = g) w4 w5 := by rw [hw5]; exact (Turn.refl (fun k => k = g) w4).setCell (p := ⟨g, 0, none⟩) (.inl rfl) _
  have T5 : Hid (Turn (fun _ => False) w w5) := hide (((unhide T3).trans t4).trans' t5 (fun i hi (e : i = g) => by omega))
  have HX5 := hide (((unhide HX3).kept t4 (fun _ _ h => h)).kept t5 (fun j hj (e : j = g) => by have hj : j < wb.heap.size := hj; omega))
  have hA5 := ((unhide HA3).kept t4 (fun e => e)).kept t5 (fun (e : wa.heap.size = g) => by omega)
  have HA5 := hide hA5
  have Hw5 := hide hw5
  clear t4 hO4 t5 hA5 hw5 HA3 HX3 HO3 T3 HB3 Hw3 KK d7
  go_upto_region 6 with fail
  rw [← unhide Hw5]
  obtain ⟨c0, c1, c2, c3, c4, c5, c6, c7, c8⟩ := at_nine (unhide HA5)
  clear d8 b0 bf Hw5
  have KL := hide (show Calls Try.prog 7 #[.agg #[.int .i64 2, .int .i64 12, .int .i64 5, .int .i64 3, .int .i64 1, .int .i64 2, .string ⟨#[]⟩, .slice (some ⟨w.heap.size, 0, none⟩) 2 2, .slice none 0 0]] w5 fun e w' => ∃ v', e = .returned (.tuple #[v', .int .i64 0]) ∧ Made w5 v' (layE exE) w' from evLay_yes (unhide HX5) exE_right)
  go_wp2_with fail
  refine (unhide KL).mono ?_
  rintro e w6 ⟨v6, rfl, hm6⟩
  have t6 := hm6.2.1
  obtain ⟨g6, p6, e6⟩ := hm6.1.solid (by rw [exE_length]; omega)
  rw [exE_length] at e6
  subst e6
  have hs6 := hm6.1.sees
  have hcap : 35 ≤ p6 := by
    rcases hs6 with ⟨h, _⟩ | ⟨a, cap, h, h2, _⟩
    · cases h
    · injection h with h h3 h4
      rw [exE_length] at h2
      omega
  have HS6 := hide hs6
  have HA6 := hide ((unhide HA5).kept t6 (fun e => e))
  have HX6 := hide ((unhide HX5).kept t6 (fun _ _ h => h))
  have T6 := hide ((unhide T5).trans t6)
  have KN := hide (show Calls Try.prog 7 #[.agg #[.int .i64 1, .int .i64 1, .int .i64 0, .int .i64 3, .int .i64 0, .int .i64 0, .string ⟨#[]⟩, .slice none 0 0, .slice none 0 0]] w6 fun e w' => e = .returned (.tuple #[.slice none 0 0, .int .i64 1]) ∧ Turn (fun _ => False) w6 w' from evLay_no (x := noE) (Q := fun _ => True) ⟨Sees.nil _, fun _ _ _ => trivial, .inl ⟨rfl, rfl⟩, by decide, by decide⟩ noE_wrong)
  clear hm6 hs6 t6 c0 c1 c2 c3 c4 c5 c6 c7 c8 HA5 HX5 T5 KL
  go_wp2_with fail
  refine (unhide KN).mono ?_
  rintro e w7 ⟨rfl, t7⟩
  have hs7 := (unhide HS6).kept t7 (fun _ _ h => h)
  have hf7 : Sees w7 (.slice (some ⟨g6, 0, none⟩) 17 p6) ((layE exE).take 17) := by
    have h := hs7
    rw [show (35 : Nat) = (layE exE).length from exE_length.symm] at h
    exact h.front 17 (by rw [exE_length]; omega)
  have KR := hide (evRead_any _ hf7 (by have := List.length_take_le 17 (layE exE); omega))
  rw [readE_short _ (by have := List.length_take_le 17 (layE exE); omega)] at KR
  have HA7 := hide ((unhide HA6).kept t7 (fun e => e))
  have HX7 := hide ((unhide HX6).kept t7 (fun _ _ h => h))
  have T7 := hide ((unhide T6).trans t7)
  clear hs7 hf7 t7 HA6 HX6 T6 KN HS6
  go_wp2_with fail
  refine (unhide KR).mono ?_
  rintro e w8 ⟨t8, he8⟩
  have he8 : e = .returned (.tuple #[evV zeroE (.slice none 0 0) (.slice none 0 0), .int .i64 5]) := he8
  subst he8
  have HA8 := hide ((unhide HA7).kept t8 (fun e => e))
  have HX8 := hide ((unhide HX7).kept t8 (fun _ _ h => h))
  have T8 := hide ((unhide T7).trans t8)
  have e8 : evV zeroE (.slice none 0 0) (.slice none 0 0) = .agg #[.int .i64 0, .int .i64 0, .int .i64 0, .int .i64 0, .int .i64 0, .int .i64 0, .string ⟨#[]⟩, .slice none 0 0, .slice none 0 0] := rfl
  rw [e8]
  clear e8 t8 HA7 HX7 T7 KR
  go_upto_region 9 with fail
  obtain ⟨w9, hw9⟩ : ∃ w9, w9 = w8.alloc (.cells #[.int .i64 0, .int .i64 0, .int .i64 0, .int .i64 0, .int .i64 0, .int .i64 0, .string ⟨#[]⟩, .slice none 0 0, .slice none 0 0] 25) := ⟨_, rfl⟩
  have t9 : Turn (fun _ => False) w8 w9 := by rw [hw9]; exact (Turn.refl _ _).alloc _
  rw [← hw9]
  obtain ⟨w10, hmk, t10⟩ := make_events w9
  have KA := hide (layAll_many (some ⟨w9.heap.size, 0, none⟩) 201 201 w10 (by omega) (by omega))
  have hA10 := ((unhide HA8).kept t9 (fun e => e)).kept t10 (fun e => e)
  have hX10 := ((unhide HX8).kept t9 (fun _ _ h => h)).kept t10 (fun _ _ h => h)
  have T10 := hide (((unhide T8).trans t9).trans t10)
  have cv := run_text_of_sees (P := Try.prog) w10 22 9 Try.underlying22 Try.underlying5 Try.underlying9 hX10.data
  have cv2 : (convert 22 9 (.slice (some ⟨w.heap.size, 0, none⟩) 2 2)).run Try.prog w10 = .ok (.string ⟨#[111, 107]⟩) w10 := cv
  obtain ⟨c0, c1, c2, c3, c4, c5, c6, c7, c8⟩ := at_nine hA10
  have HA10 := hide hA10
  have HX10 := hide hX10
  clear hw9 t9 t10 hA10 hX10 cv HA8 HX8 T8
  have kc1 : closesB 10 = true := by decide
  have kc2 : closesB 8 = false := by decide
  have kc3 : closesB 13 = false := by decide
  have K1 := hide (show Calls Try.prog 10 #[.int .i64 10] w10 fun e w' => e = .returned (.bool true) ∧ w10 = w' from by rw [← kc1]; exact closes_any _ _)
  have K2 := hide (show Calls Try.prog 10 #[.int .i64 8] w10 fun e w' => e = .returned (.bool false) ∧ w10 = w' from by rw [← kc2]; exact closes_any _ _)
  have K3 := hide (show Calls Try.prog 10 #[.int .i64 13] w10 fun e w' => e = .returned (.bool false) ∧ w10 = w' from by rw [← kc3]; exact closes_any _ _)
  have K4 := hide (show Calls Try.prog 11 #[.slice none 0 0] w10 fun e w' => e = .returned (.bool true) ∧ Turn (fun _ => False) w10 w' from evLine_any (Q := fun _ => True) (l := []) (.inl ⟨rfl, rfl⟩))
  clear kc1 kc2 kc3
  go_wp2_with fail
  refine (unhide KA).mono ?_
  rintro e w11 ⟨rfl, rfl⟩
  clear hmk KA
  go_wp2_with fail
  refine (unhide K1).mono ?_
  rintro e w11 ⟨rfl, rfl⟩
  go_wp2_with fail
  refine (unhide K2).mono ?_
  rintro e w11 ⟨rfl, rfl⟩
  go_wp2_with fail
  refine (unhide K3).mono ?_
  rintro e w11 ⟨rfl, rfl⟩
  go_wp2_with fail
  refine (unhide K4).mono ?_
  rintro e w11 ⟨rfl, t11⟩
  have HA11 := hide ((unhide HA10).kept t11 (fun e => e))
  have hX11 := (unhide HX10).kept t11 (fun _ _ h => h)
  have T11 := hide ((unhide T10).trans t11)
  clear c0 c1 c2 c3 c4 c5 c6 c7 c8 cv2 t11 HA10 HX10 T10 K1 K2 K3 K4
  obtain ⟨c0, c1, c2, c3, c4, c5, c6, c7, c8⟩ := at_nine (unhide HA11)
  have he1 := evs_one hX11
  have t12 : Turn (fun _ => False) w11 (w11.alloc (.cells #[.int .i64 2, .int .i64 12, .int .i64 5, .int .i64 3, .int .i64 1, .int .i64 2, .string ⟨#[]⟩, .slice (some ⟨w.heap.size, 0, none⟩) 2 2, .slice none 0 0] 25)) := (Turn.refl _ _).alloc _
  have l1 : linB none [exE] = true := by decide
  have K5 := hide (show Calls Try.prog 11 #[.slice (some ⟨w11.heap.size, 0, none⟩) 1 1] (w11.alloc (.cells #[.int .i64 2, .int .i64 12, .int .i64 5, .int .i64 3, .int .i64 1, .int .i64 2, .string ⟨#[]⟩, .slice (some ⟨w.heap.size, 0, none⟩) 2 2, .slice none 0 0] 25)) fun e w' => e = .returned (.bool true) ∧ Turn (fun _ => False) (w11.alloc (.cells #[.int .i64 2, .int .i64 12, .int .i64 5, .int .i64 3, .int .i64 1, .int .i64 2, .string ⟨#[]⟩, .slice (some ⟨w.heap.size, 0, none⟩) 2 2, .slice none 0 0] 25)) w' from by rw [← l1]; exact evLine_any he1)
  have T12 := hide t12
  have HX11 := hide hX11
  clear hX11 he1 t12 l1
  go_wp2_with fail
  refine (unhide K5).mono ?_
  rintro e w13 ⟨rfl, t13⟩
  have t13' := (unhide T12).trans t13
  have HA13 := hide ((unhide HA11).kept t13' (fun e => e))
  have hX13 := (unhide HX11).kept t13' (fun _ _ h => h)
  have T13 := hide ((unhide T11).trans t13')
  clear c0 c1 c2 c3 c4 c5 c6 c7 c8 t13 t13' HA11 HX11 T11 T12 K5
  obtain ⟨c0, c1, c2, c3, c4, c5, c6, c7, c8⟩ := at_nine (unhide HA13)
  have he2 := evs_two hX13 #[.int .i64 2, .int .i64 12, .int .i64 5, .int .i64 3, .int .i64 1, .int .i64 2, .string ⟨#[]⟩, .slice (some ⟨w.heap.size, 0, none⟩) 2 2, .slice none 0 0, .int .i64 2, .int .i64 12, .int .i64 5, .int .i64 3, .int .i64 1, .int .i64 2, .string ⟨#[]⟩, .slice (some ⟨w.heap.size, 0, none⟩) 2 2, .slice none 0 0] rfl
  have t14 : Turn (fun _ => False) w13 (w13.alloc (.cells #[.int .i64 2, .int .i64 12, .int .i64 5, .int .i64 3, .int .i64 1, .int .i64 2, .string ⟨#[]⟩, .slice (some ⟨w.heap.size, 0, none⟩) 2 2, .slice none 0 0, .int .i64 2, .int .i64 12, .int .i64 5, .int .i64 3, .int .i64 1, .int .i64 2, .string ⟨#[]⟩, .slice (some ⟨w.heap.size, 0, none⟩) 2 2, .slice none 0 0] 25)) := (Turn.refl _ _).alloc _
  have l2 : linB none [exE, exE] = false := by decide
  have K6 := hide (show Calls Try.prog 11 #[.slice (some ⟨w13.heap.size, 0, none⟩) 2 2] (w13.alloc (.cells #[.int .i64 2, .int .i64 12, .int .i64 5, .int .i64 3, .int .i64 1, .int .i64 2, .string ⟨#[]⟩, .slice (some ⟨w.heap.size, 0, none⟩) 2 2, .slice none 0 0, .int .i64 2, .int .i64 12, .int .i64 5, .int .i64 3, .int .i64 1, .int .i64 2, .string ⟨#[]⟩, .slice (some ⟨w.heap.size, 0, none⟩) 2 2, .slice none 0 0] 25)) fun e w' => e = .returned (.bool false) ∧ Turn (fun _ => False) (w13.alloc (.cells #[.int .i64 2, .int .i64 12, .int .i64 5, .int .i64 3, .int .i64 1, .int .i64 2, .string ⟨#[]⟩, .slice (some ⟨w.heap.size, 0, none⟩) 2 2, .slice none 0 0, .int .i64 2, .int .i64 12, .int .i64 5, .int .i64 3, .int .i64 1, .int .i64 2, .string ⟨#[]⟩, .slice (some ⟨w.heap.size, 0, none⟩) 2 2, .slice none 0 0] 25)) w' from by rw [← l2]; exact evLine_any he2)
  have T14 := hide ((unhide T13).trans t14)
  clear hX13 he2 t14 l2
  go_wp2_with fail
  refine (unhide K6).mono ?_
  rintro e w15 ⟨rfl, t15⟩
  clear c0 c1 c2 c3 c4 c5 c6 c7 c8 K6 HA13
  go_wp2_with fail
  go_ret
  exact ⟨rfl, (unhide T14).trans t15⟩

end

end Go.Proofs.Ythclffafbkeepaa
