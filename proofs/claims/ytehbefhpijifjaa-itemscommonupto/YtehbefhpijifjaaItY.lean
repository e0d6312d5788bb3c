/- The law that what two lists have in common both have. -/
import Derived.Test.YtehbefhpijifjaaItX
import Derived.Test.YtehbefhpijifjaaItH
import Derived.Test.YtehbefhpijifjaaItQ
namespace Go.Proofs.Ytehbefhpijifjaa
open Go.RowKit

section
variable {w : World} {lv mv : Value} {l m : List Int}

set_option maxHeartbeats 8000000 in
set_option maxRecDepth 100000 in
theorem itemsCommon_any (cut : Int) (hL : IntsAt w w.heap.size lv l) (hM : IntsAt w w.heap.size mv m) (hc1 : ∀ ao n cap, lv = .slice ao n cap → n ≤ cap ∧ cap ≤ maxLen) (hc2 : ∀ ao n cap, mv = .slice ao n cap → n ≤ cap ∧ cap ≤ maxLen) (hl : l.length ≤ 1048576) (hm : m.length ≤ 1048576) :
    Calls Try.prog 7 #[lv, mv, .int .i64 cut] w fun e w' => e = .returned (.bool true) ∧ Turn (fun _ => False) w w' := by
  have sl := ints_cells hL hc1
  have sm := ints_cells hM hc2
  obtain ⟨al, lc, rfl, -⟩ := hL.shape
  obtain ⟨am, mc, rfl, -⟩ := hM.shape
  have hlc := hc1 _ _ _ rfl
  unfold maxLen at hlc
  have HL := hide hL
  have SL := hide sl
  have SM := hide sm
  clear hL hM sl sm hc1 hc2
  obtain ⟨ln, hln⟩ : ∃ n, n = l.length := ⟨_, rfl⟩
  obtain ⟨mn, hmn⟩ : ∃ n, n = m.length := ⟨_, rfl⟩
  have HLn := hide (And.intro hln (And.intro hmn (And.intro hl hm)))
  have HCl := hide (list_any (unhide HL))
  rw [← hln] at hl hlc HCl SL ⊢
  rw [← hmn] at hm SM ⊢
  clear hln hmn
  have hmod : ∃ kk : Nat, cut % ((ln : Int) + 1) = (kk : Int) ∧ kk ≤ ln := by
    have h1 := Int.emod_nonneg cut (show (ln : Int) + 1 ≠ 0 by omega)
    have h2 := Int.emod_lt_of_pos cut (show (0 : Int) < (ln : Int) + 1 by omega)
    exact ⟨(cut % ((ln : Int) + 1)).toNat, by omega, by omega⟩
  obtain ⟨kk, hkk, hkl⟩ := hmod
  have HKk := hide hkk
  clear hkk
  go_enter Try.func7, Try.ntmps7
  go_wp2_with fail
  refine (unhide HCl).mono ?_
  rintro e w1 ⟨vx, X, rfl, mx, ux, px, lx, ex⟩
  obtain ⟨xo, xc, hxe⟩ := mx.shape
  obtain ⟨xn, hxn⟩ : ∃ n, n = X.length := ⟨_, rfl⟩
  have GX := hide (show GoodL w1 vx X from ⟨mx.1.sees, ux, px, lx, ex⟩)
  have T1 := hide mx.2.1
  rw [← hxn] at hxe
  subst hxe
  clear mx ux px lx ex HCl hxn
  go_wp2_with fail
  refine (pick_any cut ((ln : Int) + 1) _ (by omega) (by omega)).mono ?_
  rintro e w3 ⟨rfl, rfl⟩
  rw [unhide HKk]
  obtain ⟨o3, n3, c3, w3, o4, c4, w4, r3, r4, m4⟩ := mix_run (unhide SL) (unhide SM) (unhide T1) hkl (unhide HLn).2.2.1 (unhide HLn).2.2.2 (unhide HLn).1
  have HCy := hide (list_any m4.ints)
  have R3 := hide r3
  have R4 := hide r4
  have T4 := hide m4.2.1
  generalize (l.take kk ++ m).length = n4 at *
  clear r3 r4 m4
  go_wp2_with (first
    | (at_builtin; refine wpList_append_run rfl (.tmp 20) (.tmp 23) 38 rfl _ _ _ w3 rfl rfl (unhide R3) ?_)
    | (at_builtin; refine wpList_append_run rfl (.tmp 24) (.tmp 25) 38 rfl _ _ _ w4 rfl rfl (unhide R4) ?_))
  refine (unhide HCy).mono ?_
  rintro e w5 ⟨vy, Y, rfl, my, uy, py, ly, ey⟩
  obtain ⟨yo, yc, hye⟩ := my.shape
  obtain ⟨yn, hyn⟩ : ∃ n, n = Y.length := ⟨_, rfl⟩
  have gy : GoodL w5 vy Y := ⟨my.1.sees, uy, py, ly, ey⟩
  have gx := (unhide GX).goes ((unhide T4).trans my.2.1)
  have T5 := hide (((unhide T1).trans (unhide T4)).trans my.2.1)
  rw [← hyn] at hye
  subst hye
  have hl6 := gx.len
  have hl30 := gx.exp
  have hy6 := gy.len
  have HF := hide (com_facts gx.up gx.vp gy.up gy.vp)
  have KC := hide (common_any gx.sees gy.sees gx.up gy.up (by omega) (by omega))
  have KHx := hide (show ∀ (c : It) w', Turn (fun _ => False) w5 w' → _ from fun c w' t => has_any c (gx.sees.kept t (fun _ _ e => e)) (by omega))
  have KHy := hide (show ∀ (c : It) w', Turn (fun _ => False) w5 w' → _ from fun c w' t => has_any c (gy.sees.kept t (fun _ _ e => e)) (by omega))
  have KXx := hide (show ∀ (i : Int) w', Turn (fun _ => False) w5 w' → _ from fun i w' t => cut_any i (gx.sees.kept t (fun _ _ e => e)) (by omega))
  have KXy := hide (show ∀ (i : Int) w', Turn (fun _ => False) w5 w' → _ from fun i w' t => cut_any i (gy.sees.kept t (fun _ _ e => e)) (by omega))
  have KVx := hide (show ∀ (i : Int) w', Turn (fun _ => False) w5 w' → _ from fun i w' t => version_any i (gx.sees.kept t (fun _ _ e => e)) (by omega))
  have KVy := hide (show ∀ (i : Int) w', Turn (fun _ => False) w5 w' → _ from fun i w' t => version_any i (gy.sees.kept t (fun _ _ e => e)) (by omega))
  have HZl := hide (show ∀ i : Int, (if i < 1 then [] else cutR i X).length ≤ 100000 from fun i => by
    split
    · simp
    · rw [cutR_is]
      split <;> simp <;> omega)
  generalize comR 0 (0, 0) (expd 0 X) (expd 0 Y) = c at *
  have hlow := (unhide HF).low
  have hhigh : c.1 ≤ 30 := by have := (unhide HF).high; omega
  have hHx := (unhide HF).hx
  have hHy := (unhide HF).hy
  have hcut := (unhide HF).cut
  have hnx := (unhide HF).next
  obtain ⟨x1, x2⟩ := c
  simp only at hlow hhigh hcut hnx
  have hitv : itV (x1, x2) = .agg #[.int .i64 x1, .int .i64 x2] := rfl
  rw [hitv] at KC
  have KHx' := hide (unhide KHx (x1, x2))
  have KHy' := hide (unhide KHy (x1, x2))
  rw [hHx, hitv] at KHx'
  rw [hHy, hitv] at KHy'
  have KXx' := hide (unhide KXx x1)
  have KXy' := hide (unhide KXy x1)
  rw [← hcut] at KXy'
  have HZl' := hide (unhide HZl x1)
  generalize (if x1 < 1 then [] else cutR x1 X) = Z at *
  have KS := hide (show ∀ w' a b, ISees w' a Z → ISees w' b Z → Calls Try.prog 22 #[a, b] w' fun e w'' => e = .returned (.bool true) ∧ Turn (fun _ => False) w' w'' from fun w' a b ha hb => by
    have h := same_any ha hb (by have := unhide HZl'; omega) (by have := unhide HZl'; omega)
    rw [decide_eq_true rfl] at h
    exact h)
  obtain ⟨zn, hzn⟩ : ∃ n, n = Z.length := ⟨_, rfl⟩
  have HZn := hide hzn
  clear hzn
  have KVx' := hide (unhide KVx (x1 + 1))
  have KVy' := hide (unhide KVy (x1 + 1))
  generalize (findP X (x1 + 1)).1 = fa at *
  generalize (findP Y (x1 + 1)).1 = fb at *
  clear gx gy my uy py ly ey hyn KHx KHy KXx KXy KVx KVy HF hHx hHy hcut hl6 hl30 hy6 HCy R3 R4 T4 GX HL SL SM HLn HKk HZl hl hm hlc hkl T1 hitv
  go_wp2_with fail
  refine (unhide KC).mono ?_
  rintro e w6 ⟨rfl, t6⟩
  have hA : At 23 (w6.alloc (.cells #[.int .i64 x1, .int .i64 x2] 23)) w6.heap.size #[.int .i64 x1, .int .i64 x2] := At.new _ _ _
  have T6 := hide (t6.alloc (.cells #[.int .i64 x1, .int .i64 x2] 23))
  clear KC t6
  go_wp2_with fail
  generalize w6.alloc (.cells #[.int .i64 x1, .int .i64 x2] 23) = w7 at *
  generalize w6.heap.size = cb at *
  have HAt := hide (show ∀ w', Turn (fun _ => False) w7 w' → w'.cell? ⟨cb, 0, none⟩ = some (.int .i64 x1) ∧ w'.cell? ⟨cb, 1, none⟩ = some (.int .i64 x2) from fun w' t => ⟨(hA.kept t (fun e => e)).cell 0, (hA.kept t (fun e => e)).cell 1⟩)
  have b7 := unhide HAt w7 (Turn.refl _ _)
  clear hA
  go_region_held (fun w' => w'.cell? ⟨cb, 0, none⟩ = some (.int .i64 x1) ∧ w'.cell? ⟨cb, 1, none⟩ = some (.int .i64 x2)) (first | go_keep | exact b13 | exact b12 | exact b11 | exact b10 | exact b9 | exact b8 | exact b7) (first
    | (go_at_call 11; refine (iknown_any _).mono ?_; rintro e w8 ⟨rfl, t8⟩; have b8 := unhide HAt w8 ((Turn.refl _ _).drew.trans t8); have T8 := hide ((Turn.refl (fun _ => False) w7).drew.trans t8); clear t8)
    | (go_at_call 13; refine (unhide KHy' _ ((unhide T6).trans (unhide T9))).mono ?_; rintro e w10 ⟨rfl, t10⟩; have T10 := hide ((unhide T9).trans t10); have b10 := unhide HAt w10 (unhide T10); clear t10)
    | (go_at_call 13; refine (unhide KHx' _ ((unhide T6).trans (unhide T8))).mono ?_; rintro e w9 ⟨rfl, t9⟩; have T9 := hide ((unhide T8).trans t9); have b9 := unhide HAt w9 (unhide T9); clear t9)
    | (go_at_call 15; refine (unhide KXy' _ ((unhide T6).trans (unhide T11))).mono ?_; rintro e w12 ⟨v12, rfl, m12⟩; obtain ⟨o12, c12, e12⟩ := m12.shape; have M12 := hide m12; have T12 := hide ((unhide T11).trans m12.2.1); have b12 := unhide HAt w12 (unhide T12); rw [← unhide HZn] at e12; clear m12; subst e12)
    | (go_at_call 15; refine (unhide KXx' _ ((unhide T6).trans (unhide T10))).mono ?_; rintro e w11 ⟨v11, rfl, m11⟩; obtain ⟨o11, c11, e11⟩ := m11.shape; have M11 := hide m11; have T11 := hide ((unhide T10).trans m11.2.1); have b11 := unhide HAt w11 (unhide T11); rw [← unhide HZn] at e11; clear m11; subst e11)
    | (go_at_call 22; refine (unhide KS _ _ _ ((unhide M11).1.sees.kept (unhide M12).2.1 (fun _ _ e => e)) (unhide M12).1.sees).mono ?_; rintro e w13 ⟨rfl, t13⟩; have T13 := hide ((unhide T12).trans t13); have b13 := unhide HAt w13 (unhide T13); clear t13))
  clear b7 b8 b9 b10 b11 b12
  obtain ⟨k0, k1⟩ := b13
  go_wp2_with fail
  refine (unhide KVx' _ ((unhide T6).trans (unhide T13))).mono ?_
  rintro e w14 ⟨rfl, rfl⟩
  go_wp2_with fail
  refine (unhide KVy' _ ((unhide T6).trans (unhide T13))).mono ?_
  rintro e w14 ⟨rfl, rfl⟩
  have Tfin := hide (((unhide T5).trans (unhide T6)).trans (unhide T13))
  by_cases ha : fa = 0
  · subst ha
    go_wp2
    go_ret
    exact ⟨rfl, unhide Tfin⟩
  · have q1 : (fa == 0) = false := by simpa using ha
    by_cases hb : fb = 0
    · subst hb
      go_wp2
      go_ret
      exact ⟨rfl, unhide Tfin⟩
    · have q2 : (fb == 0) = false := by simpa using hb
      have hne : ¬ fa = fb := (hnx.resolve_left ha).resolve_left hb
      have q3 : (fa != fb) = true := by simpa using hne
      clear hnx
      go_wp2
      go_ret
      exact ⟨rfl, unhide Tfin⟩

end

end Go.Proofs.Ytehbefhpijifjaa
