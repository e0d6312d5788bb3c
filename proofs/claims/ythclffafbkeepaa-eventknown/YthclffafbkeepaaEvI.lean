/- Package event's own Lay. -/
import Derived.Test.YthclffafbkeepaaEvH
namespace Go.Proofs.Ythclffafbkeepaa
open Go.RowKit

theorem IntsQ.mono {Q Q' : Nat → Prop} {w : World} {v : Value} {xs : List Int} (h : IntsQ Q w v xs) (hq : ∀ j, Q j → Q' j) : IntsQ Q' w v xs := by
  rcases h with h | ⟨a, cap, rfl, hm, hc⟩
  · exact .inl h
  · exact .inr ⟨a, cap, rfl, hm, fun k hk => ⟨hq _ (hc k hk).1, (hc k hk).2⟩⟩

section
variable {Q : Nat → Prop} {w : World} {dv fv : Value}

set_option maxHeartbeats 4000000 in
theorem evLay_no {x : EvP} (hx : EvQ Q w dv fv x) (hr : rightE x = false) : Calls Try.prog 7 #[evV x dv fv] w fun e w' => e = .returned (.tuple #[.slice none 0 0, .int .i64 1]) ∧ Turn (fun _ => False) w w' := by
  have hshD := hx.data.shape
  have hshF := hx.defs.shape
  have KR := hide (show ∀ w', Turn (fun _ => False) w w' → Calls Try.prog 20 #[evV x dv fv] w' fun e w2 => e = .returned (.bool false) ∧ Turn (fun _ => False) w' w2 from fun w' t => by rw [← hr]; exact evRight_any (hx.kept t (fun _ _ h => h)))
  clear hr
  unfold evV at KR
  unfold evV
  obtain ⟨xi, xv, xt, xk, xd, xn, xs, xb, xf⟩ := x
  simp only at *
  obtain ⟨do1, dc1, rfl⟩ := hshD
  obtain ⟨fo1, fc1, rfl, -⟩ := hshF
  generalize xb.length = xbn at *
  generalize xf.length = len at *
  have tz : Turn (fun _ => False) w (w.alloc (.cells #[.int .i64 xi, .int .i64 xv, .int .i64 xt, .int .i64 xk, .int .i64 xd, .int .i64 xn, .string xs, .slice do1 xbn dc1, .slice fo1 len fc1] 25)) := (Turn.refl _ _).alloc _
  have hA : At 25 (w.alloc (.cells #[.int .i64 xi, .int .i64 xv, .int .i64 xt, .int .i64 xk, .int .i64 xd, .int .i64 xn, .string xs, .slice do1 xbn dc1, .slice fo1 len fc1] 25)) w.heap.size #[.int .i64 xi, .int .i64 xv, .int .i64 xt, .int .i64 xk, .int .i64 xd, .int .i64 xn, .string xs, .slice do1 xbn dc1, .slice fo1 len fc1] := At.new _ _ _
  have TZ := hide tz
  obtain ⟨c0, c1, c2, c3, c4, c5, c6, c7, c8⟩ := at_nine hA
  clear hx tz hA
  go_enter Try.func7, Try.ntmps7
  go_wp2_with (go_at_call 20; refine (unhide KR _ (unhide TZ)).mono ?_; rintro e w2 ⟨rfl, t2⟩)
  go_ret2
  exact ⟨rfl, (unhide TZ).trans t2⟩

set_option maxHeartbeats 8000000 in
set_option maxRecDepth 100000 in
theorem evLay_yes {x : EvP} (hx : EvQ Q w dv fv x) (hr : rightE x = true) : Calls Try.prog 7 #[evV x dv fv] w fun e w' => ∃ v', e = .returned (.tuple #[v', .int .i64 0]) ∧ Made w v' (layE x) w' := by
  have hshD := hx.data.shape
  have hshF := hx.defs.shape
  obtain ⟨hfit, hl1, hl2, hl3, hl4⟩ := rightE_lens hr
  have hL := layE_length hr
  have KR := hide (show ∀ w', Turn (fun _ => False) w w' → Calls Try.prog 20 #[evV x dv fv] w' fun e w2 => e = .returned (.bool true) ∧ Turn (fun _ => False) w' w2 from fun w' t => by rw [← hr]; exact evRight_any (hx.kept t (fun _ _ h => h)))
  obtain ⟨fin, hfin⟩ : ∃ r, r = layE x := ⟨_, rfl⟩
  rw [← hfin] at hL ⊢
  clear hr hfit
  unfold layE at hfin
  unfold evV at KR
  unfold evV
  obtain ⟨xi, xv, xt, xk, xd, xn, xs, xb, xf⟩ := x
  simp only at *
  obtain ⟨do1, dc1, rfl⟩ := hshD
  obtain ⟨fo1, fc1, rfl, -⟩ := hshF
  obtain ⟨xbn, hxbn⟩ : ∃ n, n = xb.length := ⟨_, rfl⟩
  obtain ⟨len, hlen⟩ : ∃ n, n = xf.length := ⟨_, rfl⟩
  have HX := hide hx
  rw [← hxbn, ← hlen] at KR HX ⊢
  rw [← hlen] at hfin
  have HL := hide hlen
  have HF := hide hfin
  have HD := hide hl4
  have HB := hide hxbn
  have hl0 := hL
  have hl5 : xs.data.toList.length ≤ 16 := by rw [Array.length_toList]; exact hl2
  have tz : Turn (fun _ => False) w (w.alloc (.cells #[.int .i64 xi, .int .i64 xv, .int .i64 xt, .int .i64 xk, .int .i64 xd, .int .i64 xn, .string xs, .slice do1 xbn dc1, .slice fo1 len fc1] 25)) := (Turn.refl _ _).alloc _
  have hA : At 25 (w.alloc (.cells #[.int .i64 xi, .int .i64 xv, .int .i64 xt, .int .i64 xk, .int .i64 xd, .int .i64 xn, .string xs, .slice do1 xbn dc1, .slice fo1 len fc1] 25)) w.heap.size #[.int .i64 xi, .int .i64 xv, .int .i64 xt, .int .i64 xk, .int .i64 xd, .int .i64 xn, .string xs, .slice do1 xbn dc1, .slice fo1 len fc1] := At.new _ _ _
  have TZ := hide tz
  have HA0 := hide hA
  obtain ⟨c0, c1, c2, c3, c4, c5, c6, c7, c8⟩ := at_nine hA
  obtain ⟨db, hdb⟩ : ∃ x, x = w.heap.size := ⟨_, rfl⟩
  rw [← hdb] at HA0
  have HDB := hide hdb
  rw [← hlen] at hl1
  have hl6 : xbn ≤ 40 := by omega
  clear hx tz hA hlen hfin hl4 hxbn hdb
  go_enter Try.func7, Try.ntmps7
  go_wp2_with (go_at_call 20; refine (unhide KR _ (unhide TZ)).mono ?_; rintro e w1 ⟨rfl, t1⟩)
  have HA := hide ((unhide HA0).kept t1 (fun h => h))
  have hx1 := (unhide HX).kept ((unhide TZ).trans t1) (fun _ _ h => h)
  have HS := hide hx1.data
  have HDf := hide hx1.defs.ltE
  have T1 := hide ((unhide TZ).trans t1)
  clear c0 c1 c2 c3 c4 c5 c6 c7 c8 t1 hx1
  refine (newWriter_any w1).mono ?_
  rintro e w2 ⟨rfl, hw2⟩
  have h2 : WrS 64 (fun _ => False) w1 w1.heap.size [] w2 := by rw [hw2]; exact WrS.start _ _
  obtain ⟨b, hb⟩ : ∃ b, b = w1.heap.size := ⟨_, rfl⟩
  rw [← hb] at h2 ⊢
  clear hb
  have H2 := hide h2
  have c2 : w2.cell? ⟨db, 0, none⟩ = some (.int .i64 xi) := ((unhide HA).kept h2.turn (fun h => h)).cell 0
  clear h2 hw2
  rw [← unhide HDB]
  go_wp2_with fail
  refine (wn_u16 xi (unhide H2) (by simp)).mono ?_
  rintro e w3 ⟨rfl, h3⟩
  have H3 := hide h3
  have c3 : w3.cell? ⟨db, 1, none⟩ = some (.int .i64 xv) := ((unhide HA).kept h3.turn (fun h => h)).cell 1
  clear h3 c2
  go_wp2_with fail
  refine (wn_u64 xv (unhide H3) (by simp only [List.length_append, be_length, List.length_nil]; omega)).mono ?_
  rintro e w4 ⟨rfl, h4⟩
  have H4 := hide h4
  have c4 : w4.cell? ⟨db, 2, none⟩ = some (.int .i64 xt) := ((unhide HA).kept h4.turn (fun h => h)).cell 2
  clear h4 c3
  go_wp2_with fail
  refine (wn_u64 xt (unhide H4) (by simp only [List.length_append, be_length, List.length_nil]; omega)).mono ?_
  rintro e w5 ⟨rfl, h5⟩
  have H5 := hide h5
  have c5 : w5.cell? ⟨db, 3, none⟩ = some (.int .i64 xk) := ((unhide HA).kept h5.turn (fun h => h)).cell 3
  clear h5 c4
  go_wp2_with fail
  refine (wn_u8 xk (unhide H5) (by simp only [List.length_append, be_length, List.length_nil]; omega)).mono ?_
  rintro e w6 ⟨rfl, h6⟩
  have H6 := hide h6
  have c6 : w6.cell? ⟨db, 4, none⟩ = some (.int .i64 xd) := ((unhide HA).kept h6.turn (fun h => h)).cell 4
  clear h6 c5
  go_wp2_with fail
  refine (wn_u8 xd (unhide H6) (by simp only [List.length_append, be_length, List.length_nil]; omega)).mono ?_
  rintro e w7 ⟨rfl, h7⟩
  have H7 := hide h7
  have c7 : w7.cell? ⟨db, 5, none⟩ = some (.int .i64 xn) := ((unhide HA).kept h7.turn (fun h => h)).cell 5
  clear h7 c6
  go_wp2_with fail
  refine (wn_u64 xn (unhide H7) (by simp only [List.length_append, be_length, List.length_nil]; omega)).mono ?_
  rintro e w8 ⟨rfl, h8⟩
  have H8 := hide h8
  have c8 : w8.cell? ⟨db, 6, none⟩ = some (.string xs) := ((unhide HA).kept h8.turn (fun h => h)).cell 6
  clear h8 c7
  go_wp2_with fail
  refine (wn_text xs (unhide H8) (by omega) (by simp only [List.length_append, be_length, List.length_nil]; omega)).mono ?_
  rintro e w9 ⟨rfl, h9⟩
  have H9 := hide h9
  have c9 : w9.cell? ⟨db, 7, none⟩ = some (.slice do1 xbn dc1) := ((unhide HA).kept h9.turn (fun h => h)).cell 7
  clear h9 c8
  go_wp2_with fail
  refine (wn_short _ xb (unhide H9) (unhide HS) (by omega) (by simp only [List.length_append, be_length, sh_length, List.length_nil]; omega)).mono ?_
  rintro e w10 ⟨rfl, h10⟩
  have H10 := hide h10
  have c10 : w10.cell? ⟨db, 8, none⟩ = some (.slice fo1 len fc1) := ((unhide HA).kept h10.turn (fun h => h)).cell 8
  clear h10 c9
  go_wp2_with fail
  refine (wn_u8 len (unhide H10) (by simp only [List.length_append, be_length, sh_length, List.length_nil]; omega)).mono ?_
  rintro e w11 ⟨rfl, h11⟩
  have H11 := hide h11
  have c11 : w11.cell? ⟨db, 8, none⟩ = some (.slice fo1 len fc1) := ((unhide HA).kept h11.turn (fun h => h)).cell 8
  clear h11 c10

  go_wp2_with fail
  go_loopw [6, 51] (fun _ i wr => ∃ n : Nat, i = .int .i64 n ∧ n ≤ len ∧ WrS 64 (fun _ => False) w1 b ([] ++ be xi 2 ++ be xv 8 ++ be xt 8 ++ be xk 1 ++ be xd 1 ++ be xn 8 ++ sh xs.data.toList ++ sh xb ++ be len 1 ++ (xf.take n).flatMap defBy) wr) (fun _ i _ => len - (intOf i).toNat)
  case atStart => exact ⟨0, rfl, by omega, by simpa using unhide H11⟩
  case round =>
    obtain ⟨n, rfl, hn, hr⟩ := hrel
    have HR := hide hr
    have hbd : Hid (([] ++ be xi 2 ++ be xv 8 ++ be xt 8 ++ be xk 1 ++ be xd 1 ++ be xn 8 ++ sh xs.data.toList ++ sh xb ++ be (len : Int) 1 ++ (xf.take n).flatMap defBy).length ≤ 10000000) := hide (by
      have := defsBy_length (xf.take n) (fun d hd => unhide HD d (List.mem_of_mem_take hd))
      have h2 := List.length_take_le n xf
      simp only [List.length_append, be_length, sh_length, List.length_nil]
      omega)
    by_cases hlt : n < len
    · have hnl : n < xf.length := by have := unhide HL; omega
      obtain ⟨g, o, nv, rfl, a0, a1, a2, hi⟩ := ((unhide HDf).kept hr.turn (fun _ _ h => h)).at n hnl
      have hnext : Hid (xf.take (n + 1) = xf.take n ++ [xf[n]]) := hide (List.take_succ_eq_append_getElem hnl)
      have hdl := unhide HD xf[n] (List.getElem_mem hnl)
      generalize xf[n] = d at *
      obtain ⟨ns, d1, d2⟩ := d
      simp only at a1 a2 hi hdl
      obtain ⟨no, nc, rfl, -⟩ := hi.shape
      have ta : Turn (fun _ => False) wr (wr.alloc (.cells #[.slice no ns.length nc, .int .i64 d1, .int .i64 d2] 45)) := (Turn.refl _ _).alloc _
      have hA3 : At 45 (wr.alloc (.cells #[.slice no ns.length nc, .int .i64 d1, .int .i64 d2] 45)) wr.heap.size #[.slice no ns.length nc, .int .i64 d1, .int .i64 d2] := At.new _ _ _
      have e0 := hA3.cell 0
      have e1 := hA3.cell 1
      have e2 := hA3.cell 2
      have KL := hide (layDef_any (ns, d1, d2) ((hi.kept ta (fun _ _ h => h)).mono (fun j hj => ⟨hj, fun h => h⟩)) (hr.goes ta) (by simp only; omega) (unhide hbd))
      unfold dfV at KL
      simp only at KL
      generalize ns.length = nsl at *
      have q1 : (n : Int) < len := by omega
      clear hr hi ta hA3 c11
      go_wp2_with (go_at_call 27; refine (unhide KL).mono ?_; rintro e w12 ⟨rfl, h12⟩)
      go_roundw
      case rel =>
        refine ⟨n + 1, by go_num, by omega, ?_⟩
        rw [unhide hnext, List.flatMap_append]
        simpa using h12
      case measure => simp [intOf]; omega
    · obtain rfl : n = len := by omega
      have q1 : ¬ (n : Int) < n := by omega
      have HM := hide (wn_bytes (unhide HR) (Nat.le_trans (unhide hbd) (by omega)))
      clear hr
      go_wp2_with (go_at_call 28; refine (unhide HM).mono ?_; rintro e w12 ⟨v', rfl, hm⟩)
      go_ret2
      refine ⟨_, rfl, ?_, (unhide T1).trans hm.2.1, fun k hk => Nat.le_trans (unhide T1).size (hm.2.2 k hk)⟩
      have h1 := hm.1
      rw [List.take_of_length_le (by have := unhide HL; omega)] at h1
      rw [unhide HF]
      simpa using h1

end

end Go.Proofs.Ythclffafbkeepaa
