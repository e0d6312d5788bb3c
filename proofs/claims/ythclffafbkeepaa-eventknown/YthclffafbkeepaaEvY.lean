/- Package event's own Line. -/
import Derived.Test.YthclffafbkeepaaEvX
import Derived.Test.YthclffafbkeepaaEvG
import Derived.Deep.RegionHeld
namespace Go.Proofs.Ythclffafbkeepaa
open Go.RowKit

theorem evs_nine {w : World} {g b : Nat} {v0 v1 v2 v3 v4 v5 v6 v7 v8 : Value} (h : ∀ j u, (#[v0, v1, v2, v3, v4, v5, v6, v7, v8] : Array Value)[j]? = some u → w.cell? ⟨g, b + j, none⟩ = some u) :
    w.cell? ⟨g, b, none⟩ = some v0 ∧ w.cell? ⟨g, b + 1, none⟩ = some v1 ∧ w.cell? ⟨g, b + 2, none⟩ = some v2 ∧ w.cell? ⟨g, b + 3, none⟩ = some v3 ∧ w.cell? ⟨g, b + 4, none⟩ = some v4 ∧ w.cell? ⟨g, b + 5, none⟩ = some v5 ∧ w.cell? ⟨g, b + 6, none⟩ = some v6 ∧ w.cell? ⟨g, b + 7, none⟩ = some v7 ∧ w.cell? ⟨g, b + 8, none⟩ = some v8 :=
  ⟨h 0 _ rfl, h 1 _ rfl, h 2 _ rfl, h 3 _ rfl, h 4 _ rfl, h 5 _ rfl, h 6 _ rfl, h 7 _ rfl, h 8 _ rfl⟩

section
variable {Q : Nat → Prop} {w : World} {v : Value}

set_option maxHeartbeats 8000000 in
set_option maxRecDepth 100000 in
theorem evLine_any {l : List EvP} (h : EvsQ Q w v l) : Calls Try.prog 11 #[v] w fun e w' => e = .returned (.bool (linB none l)) ∧ Turn (fun _ => False) w w' := by
  obtain ⟨ao, ac, rfl, hm⟩ := h.shape
  unfold maxLen at hm
  obtain ⟨res, hres⟩ : ∃ r, r = linB none l := ⟨_, rfl⟩
  obtain ⟨len, hlen⟩ : ∃ n, n = l.length := ⟨_, rfl⟩
  have H := hide h
  have HL := hide hlen
  have R := hide hres
  rw [← hres, ← hlen]
  rw [← hlen] at hm
  clear h hlen hres
  go_enter Try.func11, Try.ntmps11
  go_wp2_with fail
  go_loopw [3, 4, 7] (fun _ _ i wr => ∃ n : Nat, i = .int .i64 n ∧ n ≤ len ∧ LnAt w res l n wr) (fun _ _ i _ => len - (intOf i).toNat)
  case atStart => exact ⟨0, rfl, by omega, Turn.refl _ _, none, fun _ => rfl, fun j hj => by omega, fun a ha => by simp at ha, by rw [unhide R]; simp⟩
  case round =>
    obtain ⟨n, rfl, hn, ht, pv, hp0, hpj, hpr, hlin⟩ := hrel
    by_cases hlt : n < len
    · have hnl : n < l.length := by have := unhide HL; omega
      have hat := (unhide H).kept ht (fun _ _ e => e)
      obtain ⟨g, o, dv, fv, rfl, hg, hcell, hx⟩ := hat.at n hnl
      have hatm : ∀ m (hm : m < l.length), ∃ dv fv, (∀ j u, (evC l[m] dv fv)[j]? = some u → wr.cell? ⟨g, o + m * 9 + j, none⟩ = some u) ∧ EvQ Q wr dv fv l[m] := fun m hm => by
        obtain ⟨g', o', dv, fv, e, _, h2, h3⟩ := hat.at m hm
        injection e with e
        injection e with e1 e2
        subst e1 e2
        exact ⟨dv, fv, h2, h3⟩
      rw [List.drop_eq_getElem_cons hnl] at hlin
      have hnext : l[n]? = some l[n] := List.getElem?_eq_getElem hnl
      obtain ⟨x, hx0⟩ : ∃ x, x = l[n] := ⟨_, rfl⟩
      rw [← hx0] at hcell hx hlin hnext
      obtain ⟨do1, dc1, hd1⟩ := hx.data.shape
      obtain ⟨fo1, fc1, hf1, -⟩ := hx.defs.shape
      have KR := hide (show ∀ w', Turn (fun _ => False) wr w' → Calls Try.prog 20 #[evV x dv fv] w' fun e w2 => e = .returned (.bool (rightE x)) ∧ Turn (fun _ => False) w' w2 from fun w' t => evRight_any (hx.kept t (fun _ _ h => h)))
      have ta : Turn (fun _ => False) wr (wr.alloc (.cells (evC x dv fv) 25)) := (Turn.refl _ _).alloc _
      have hA : At 25 (wr.alloc (.cells (evC x dv fv) 25)) wr.heap.size (evC x dv fv) := At.new _ _ _
      have hstep : ∀ w5, Turn (fun _ => False) wr w5 → rightE x = true → befB pv x = true → LnAt w res l (n + 1) w5 := fun w5 t5 hr hf =>
        ⟨ht.trans t5, some x, fun h => by omega, fun j hj => by rw [show j = n by omega]; exact hnext, fun a ha => by injection ha with ha; rw [← ha]; exact hr, by
          rw [hlin, linB_cons, hr, hf]
          rfl⟩
      have HStep := hide hstep
      have HT := hide ht
      have HX := hide hx
      obtain ⟨rx, hrx⟩ : ∃ r, r = rightE x := ⟨_, rfl⟩
      have HRx := hide hrx
      rw [← hrx] at KR
      have HLin := hide hlin
      have q1 : (n : Int) < len := by omega
      unfold evV at KR
      unfold evC at hA hcell ta
      have TA := hide ta
      clear hstep ht hx hrx hlin hat hnext ta
      obtain ⟨xi, xv, xt, xk, xd, xn, xs, xb, xf⟩ := x
      simp only at hA hcell KR TA hd1 hf1
      subst hd1 hf1
      generalize xb.length = xbn at *
      generalize xf.length = xfn at *
      obtain ⟨l0, l1, l2, l3, l4, l5, l6, l7, l8⟩ := evs_nine hcell
      obtain ⟨c0, c1, c2, c3, c4, c5, c6, c7, c8⟩ := at_nine hA
      have HA := hide hA
      clear hcell hA
      obtain ⟨bb, hbb⟩ : ∃ b, b = befB pv ⟨xi, xv, xt, xk, xd, xn, xs, xb, xf⟩ := ⟨_, rfl⟩
      have HBb := hide hbb
      go_upto_region 4 with fail
      go_cut [28] from 12 to 28 (fun c wx => c = .bool (!(rx && bb)) ∧ Turn (fun _ => False) wr wx)
      case first =>
        have KR1 := hide (unhide KR _ ((unhide TA).drew))
        have hund : undef = Value.tuple #[] := rfl
        rcases rx with _ | _
        · clear hpj hp0 hpr hatm KR hbb
          first | (go_region_with (first
            | (go_at_call 20; refine (unhide KR1).mono ?_; rintro e w5 ⟨rfl, t5⟩)
            | fail)) | fail
          clear hund
          all_goals (
            go_wp2_with fail
            go_meet
            case rel => exact ⟨rfl, (unhide TA).drew.trans t5⟩)
        · by_cases hn0 : n = 0
          · have hb : bb = true := by rw [hbb, hp0 hn0]; rfl
            have q9 : ¬ 0 < n := by omega
            subst hb
            clear hpj hp0 hpr hatm hn0 KR hbb
            first | (go_region_with (first
              | (go_at_call 20; refine (unhide KR1).mono ?_; rintro e w5 ⟨rfl, t5⟩)
              | fail)) | fail
            clear hund
            all_goals (
              go_wp2_with fail
              go_meet
              case rel => exact ⟨rfl, (unhide TA).drew.trans t5⟩)
          · obtain ⟨m, rfl⟩ : ∃ m, n = m + 1 := ⟨n - 1, by omega⟩
            have hml : m < l.length := by omega
            obtain ⟨dv2, fv2, hcm, hxm⟩ := hatm m hml
            have hpm := hpj m rfl
            rw [List.getElem?_eq_getElem hml] at hpm
            have hry := hpr _ hpm.symm
            generalize l[m] = y at *
            obtain ⟨do2, dc2, hd2⟩ := hxm.data.shape
            obtain ⟨fo2, fc2, hf2, -⟩ := hxm.defs.shape
            have hyb : 0 ≤ y.id ∧ y.id ≤ 1000000000 := by
              have := (rightE_lens hry).1.id
              omega
            have KF := hide (show ∀ w', Turn (fun _ => False) wr w' → Calls Try.prog 32 #[evV ⟨xi, xv, xt, xk, xd, xn, xs, xb, xf⟩ (.slice do1 xbn dc1) (.slice fo1 xfn fc1), evV y dv2 fv2] w' fun e w2 => e = .returned (.bool (followB ⟨xi, xv, xt, xk, xd, xn, xs, xb, xf⟩ y)) ∧ Turn (fun _ => False) w' w2 from fun w' t => follows_any ((unhide HX).kept t (fun _ _ h => h)) (hxm.kept t (fun _ _ h => h)) hyb)
            have hbf : followB ⟨xi, xv, xt, xk, xd, xn, xs, xb, xf⟩ y = bb := by rw [hbb, ← hpm]; rfl
            rw [hbf] at KF
            unfold evV at KF
            unfold evC at hcm
            obtain ⟨yi, yv, yt, yk, yd, yn, ys, yb, yf⟩ := y
            simp only at KF hcm hd2 hf2
            subst hd2 hf2
            generalize yb.length = ybn at *
            generalize yf.length = yfn at *
            have HCm := hide hcm
            have q9 : 0 < m + 1 := by omega
            have e4 : IntKind.i64.wrap (((m + 1 : Nat) : Int) - 1) = ((m : Nat) : Int) := by rw [IntKind.wrap_i64]; omega
            have e5 : m < len := by omega
            have e41 : IntKind.i64.wrap ((m : Int) + 1 - 1) = (m : Int) := by rw [IntKind.wrap_i64]; omega
            have e42 : IntKind.i64.wrap (m : Int) = (m : Int) := by rw [IntKind.wrap_i64]; omega
            have e43 : wrap64 ((m : Int) + 1 - 1) = (m : Int) := by unfold wrap64; omega
            have e44 : wrap64 (m : Int) = (m : Int) := by unfold wrap64; omega
            have e7 : (0 : Int) ≤ m := by omega
            have e8 : (m : Int) < len := by omega
            clear hpj hp0 hpr hatm hn0 hpm hry hyb hbf hbb hcm hxm KR
            clear l0 l1 l2 l3 l4 l5 l6 l7 l8
            first | (go_region_with (first
              | (go_at_call 20; refine (unhide KR1).mono ?_; rintro e w5 ⟨rfl, t5⟩; have T5 := hide ((unhide TA).drew.trans t5); obtain ⟨d0, d1, d2, d3, d4, d5, d6, d7, d8⟩ := at_nine ((unhide HA).kept (((Turn.refl _ _).drew).trans t5) (fun e => e)); obtain ⟨m0, m1, m2, m3, m4, m5, m6, m7, m8⟩ := evs_nine (fun j u hu => ((unhide T5).cell (p := ⟨g, o + m * 9 + j, none⟩) (World.block_lt_of_cell? wr ⟨g, o + m * 9 + j, none⟩ (unhide HCm j u hu)) (fun h => h)).trans (unhide HCm j u hu)); have KF5 := hide (unhide KF _ (unhide T5)); clear c0 c1 c2 c3 c4 c5 c6 c7 c8)
              | (go_at_call 32; refine (unhide KF5).mono ?_; rintro e w6 ⟨rfl, t6⟩)
              | fail)) | fail
            clear hund
            all_goals (
              go_wp2_with fail
              go_meet
              case rel => exact ⟨rfl, (unhide T5).trans t6⟩)
      case rest =>
        obtain ⟨rfl, t5⟩ := hcut
        have HP := hide (And.intro hp0 (And.intro hpj hpr))
        clear hpj hp0 hpr hatm hbb l0 l1 l2 l3 l4 l5 l6 l7 l8 c0 c1 c2 c3 c4 c5 c6 c7 c8
        rcases hrb : rx && bb with _ | _
        · have hr0 : res = false := by
            rw [unhide HLin, linB_cons, ← unhide HRx, ← unhide HBb, hrb]
            rfl
          clear hrb
          subst hr0
          go_wp2_with fail
          go_ret
          exact ⟨rfl, (unhide HT).trans t5⟩
        · have hx1 : rx = true ∧ bb = true := by simpa using hrb
          have HS := hide (unhide HStep _ t5 (by rw [← unhide HRx]; exact hx1.1) (by rw [← unhide HBb]; exact hx1.2))
          clear hrb hx1
          go_wp2_with fail
          go_roundw
          case rel => exact ⟨n + 1, by go_num, by omega, unhide HS⟩
          case measure => simp [intOf]; omega
    · obtain rfl : n = len := by omega
      have q1 : ¬ (n : Int) < n := by omega
      have hr0 : res = true := by
        rw [hlin, List.drop_of_length_le (by have := unhide HL; omega)]
        rfl
      clear R hlin hp0 hpj hpr
      subst hr0
      go_wp2_with fail
      go_ret
      exact ⟨rfl, ht⟩

end

end Go.Proofs.Ythclffafbkeepaa
