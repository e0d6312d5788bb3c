/- The law's known; the law that two lists meet. -/
import Derived.Test.YtehbefhpijifjaaItC
import Derived.Test.YtehbefhpijifjaaItD
import Derived.Test.YtehbefhpijifjaaItE
import Derived.Test.YtehbefhpijifjaaItL
import Derived.Test.YtehbefhpijifjaaItR
import Derived.Test.YtehbefhpijifjaaItS
namespace Go.Proofs.Ytehbefhpijifjaa
open Go.RowKit

theorem kn1 : comR 0 (0, 0) (expd 0 [((3, 1) : It), (5, 12)]) (expd 0 [((4, 1) : It)]) = (3, 1) := by decide
theorem kn2 : rightL (0, 0) [((3, 1) : It)] = true := by decide
theorem kn3 : Up 0 [((3, 1) : It), (5, 12)] := ⟨by decide, by decide, trivial⟩
theorem kn4 : Up 0 [((4, 1) : It)] := ⟨by decide, trivial⟩

set_option maxHeartbeats 4000000 in
theorem iknown_any (w : World) : Calls Try.prog 11 #[] w fun e w' => e = .returned (.bool true) ∧ Turn (fun _ => False) w w' := by
  have a1 : ISees (w.alloc (.cells #[.int .i64 3, .int .i64 1, .int .i64 5, .int .i64 12] 23)) (.slice (some ⟨w.heap.size, 0, none⟩) 2 2) [(3, 1), (5, 12)] := ISees.lit w [(3, 1), (5, 12)] (by simp [maxLen])
  have t1 : Turn (fun _ => False) w (w.alloc (.cells #[.int .i64 3, .int .i64 1, .int .i64 5, .int .i64 12] 23)) := (Turn.refl _ _).alloc _
  generalize hw1 : w.alloc (.cells #[.int .i64 3, .int .i64 1, .int .i64 5, .int .i64 12] 23) = w1 at *
  have a2 : ISees (w1.alloc (.cells #[.int .i64 4, .int .i64 1] 23)) (.slice (some ⟨w1.heap.size, 0, none⟩) 1 1) [(4, 1)] := ISees.lit w1 [(4, 1)] (by simp [maxLen])
  have t2 : Turn (fun _ => False) w1 (w1.alloc (.cells #[.int .i64 4, .int .i64 1] 23)) := (Turn.refl _ _).alloc _
  have HC := hide (common_any (a1.kept t2 (fun _ _ e => e)) a2 kn3 kn4 (by decide) (by decide))
  rw [kn1] at HC
  have T := hide (t1.trans t2)
  have hsz : w1.heap.size = w.heap.size + 1 := by rw [← hw1]; simp
  clear a1 a2 t1 t2
  go_enter Try.func11, Try.ntmps11
  go_wp2_with fail
  rw [hsz] at HC
  refine (unhide HC).mono ?_
  rintro e w2 ⟨rfl, t3⟩
  have HR := hide (rightL_any (ISees.lit w2 [(3, 1)] (by simp [maxLen])) (by decide))
  rw [kn2] at HR
  have T3 := hide (((unhide T).trans t3).alloc (.cells #[.int .i64 3, .int .i64 1] 23))
  rw [show itV (3, 1) = .agg #[.int .i64 3, .int .i64 1] from rfl]
  clear HC t3 hw1
  go_wp2_with fail
  refine (unhide HR).mono ?_
  rintro e w3 ⟨rfl, t4⟩
  have T4 := hide ((unhide T3).trans t4)
  clear t4 HR
  go_wp2
  go_ret
  exact ⟨rfl, unhide T4⟩

/-- A list such as the law makes. -/
structure GoodL (w : World) (v : Value) (L : List It) : Prop where
  sees : ISees w v L
  up : Up 0 L
  vp : Vp 0 L
  len : L.length ≤ 6
  exp : (expd 0 L).length ≤ 30

theorem GoodL.goes {w w' : World} {v : Value} {L : List It} (h : GoodL w v L) (t : Turn (fun _ => False) w w') : GoodL w' v L := ⟨h.sees.kept t (fun _ _ e => e), h.up, h.vp, h.len, h.exp⟩

/-- The law's second list, made so or so. -/
def MtAt (w : World) (y : Value) (wx : World) : Prop := ∃ Y ao cap, y = .slice ao (List.length Y) cap ∧ GoodL wx y Y ∧ Turn (fun _ => False) w wx

theorem ints_cells {w : World} {B : Nat} {v : Value} {l : List Int} (h : IntsAt w B v l) (hc : ∀ ao n cap, v = .slice ao n cap → n ≤ cap ∧ cap ≤ maxLen) : SeesC w v (i64s l) := by
  rcases h with ⟨rfl, rfl⟩ | ⟨a, cap, rfl, hm, hcell⟩
  · exact .inl ⟨rfl, rfl⟩
  · obtain ⟨h1, h2⟩ := hc _ _ _ rfl
    refine .inr ⟨a, cap, by rw [i64s_length], by rw [i64s_length]; exact h1, h2, fun j u hj => ?_⟩
    have hjl : j < l.length := by
      have := (List.getElem?_eq_some_iff.1 hj).1
      rwa [i64s_length] at this
    rw [(hcell j hjl).2, ← hj]
    simp [i64s, List.getElem?_eq_getElem hjl]

/-- append onto numbers of one's own. -/
theorem NMade.cats {w w1 : World} {v : Value} {xs : List Int} (h : NMade w v xs w1) (sv : Value) (ys : List Int) (hs : SeesC w1 sv (i64s ys)) (hb : xs.length + ys.length ≤ 1000000000) :
    ∃ v2 w2, (Builtin.append_ #[38, 38] 38 #[v, sv]).run Try.prog w1 = .ok v2 w2 ∧ NMade w v2 (xs ++ ys) w2 := by
  obtain ⟨i, hi, hz, hsz, hby⟩ := info_parts Try.infoInt
  obtain ⟨v2, w2, hr, ho, hg, hat⟩ := run_append_cells (P := Try.prog) w1 38 38 3 i _ 8 Try.underlying38 hi hz hsz hby rfl v (i64s xs) h.1 sv (i64s ys) hs (fun u hu => i64s_one hu) (by rw [i64s_length, i64s_length]; unfold maxLen; omega) (by rw [i64s_length, i64s_length]; omega)
  have tg : Turn (fun j => v.ownBlock = some j) w1 w2 := (Turn.refl _ _).grown hg (fun j hj => .inl hj)
  have hs1 := h.2.1.size
  refine ⟨v2, w2, hr, ⟨by rw [i64s_append]; exact ho, h.2.1.trans' tg (fun i hi e => by have := h.2.2 i e; omega), fun k hk => ?_⟩⟩
  rcases hat with e | e
  · exact h.2.2 k (e ▸ hk)
  · rw [e] at hk
    injection hk with hk
    omega

/-- The law's second numbers: the front of one list, and another behind it. -/
theorem mix_run {w w2 : World} {al am : Option Addr} {ln lc mn mc kk : Nat} {l m : List Int} (sl : SeesC w (.slice al ln lc) (i64s l)) (sm : SeesC w (.slice am mn mc) (i64s m)) (t : Turn (fun _ => False) w w2) (hk : kk ≤ ln) (hl : l.length ≤ 1048576) (hm : m.length ≤ 1048576) (hln : ln = l.length) :
    ∃ o3 n3 c3 w3 o4 c4 w4, (Builtin.append_ #[38, 38] 38 #[.slice (some ⟨w2.heap.size, 0, none⟩) 0 0, .slice al kk lc]).run Try.prog (w2.alloc (.cells #[] 3)) = .ok (.slice o3 n3 c3) w3 ∧
      (Builtin.append_ #[38, 38] 38 #[.slice o3 n3 c3, .slice am mn mc]).run Try.prog w3 = .ok (.slice o4 (l.take kk ++ m).length c4) w4 ∧ NMade w2 (.slice o4 (l.take kk ++ m).length c4) (l.take kk ++ m) w4 := by
  have ta : Turn (fun _ => False) w2 (w2.alloc (.cells #[] 3)) := (Turn.refl _ _).alloc _
  have h0 : NMade w2 (.slice (some ⟨w2.heap.size, 0, none⟩) 0 0) [] (w2.alloc (.cells #[] 3)) := ⟨OwnsC.empty 3 w2, ta, fun k hk => by
    injection hk with hk
    have hk : w2.heap.size = k := hk
    omega⟩
  have hf : SeesC w (.slice al kk lc) (i64s (l.take kk)) := by
    rcases sl with ⟨e, e2⟩ | ⟨a, cap, e, h1, h2, h3⟩
    · injection e with e1 e3 e4
      subst e1 e3 e4
      obtain rfl : kk = 0 := by omega
      exact .inl ⟨rfl, by simp [i64s]⟩
    · injection e with e1 e3 e4
      subst e1 e4
      rw [i64s_take]
      rw [e3] at hk
      exact SeesC.front (.inr ⟨a, lc, rfl, h1, h2, h3⟩) kk hk
  have htk : (l.take kk).length ≤ 1048576 := by simp; omega
  obtain ⟨v3, w3, r3, m3⟩ := h0.cats _ (l.take kk) (hf.kept (t.trans ta) (fun _ _ e => e)) (by simp only [List.length_nil]; omega)
  obtain ⟨o3, c3, e3⟩ := m3.shape
  rw [List.nil_append] at m3
  obtain ⟨v4, w4, r4, m4⟩ := m3.cats _ m (sm.kept (t.trans m3.2.1) (fun _ _ e => e)) (by omega)
  obtain ⟨o4, c4, e4⟩ := m4.shape
  subst e3 e4
  exact ⟨o3, _, c3, w3, o4, c4, w4, r3, r4, m4⟩

theorem cmpP_three (x y : It) : cmpP x y = -1 ∨ cmpP x y = 0 ∨ cmpP x y = 1 := by
  unfold cmpP
  repeat' split
  all_goals omega

section
variable {w : World} {lv mv : Value} {l m : List Int}

set_option maxHeartbeats 8000000 in
set_option maxRecDepth 100000 in
theorem itemsMeet_any (cut : Int) (near : Bool) (hL : IntsAt w w.heap.size lv l) (hM : IntsAt w w.heap.size mv m) (hc1 : ∀ ao n cap, lv = .slice ao n cap → n ≤ cap ∧ cap ≤ maxLen) (hc2 : ∀ ao n cap, mv = .slice ao n cap → n ≤ cap ∧ cap ≤ maxLen) (hl : l.length ≤ 1048576) (hm : m.length ≤ 1048576) :
    Calls Try.prog 4 #[lv, mv, .int .i64 cut, .bool near] w fun e w' => e = .returned (.bool true) ∧ Turn (fun _ => False) w w' := by
  have sl := ints_cells hL hc1
  have sm := ints_cells hM hc2
  obtain ⟨al, lc, rfl, -⟩ := hL.shape
  obtain ⟨am, mc, rfl, -⟩ := hM.shape
  have hlc := hc1 _ _ _ rfl
  unfold maxLen at hlc
  have HL := hide hL
  have HM := hide hM
  have SL := hide sl
  have SM := hide sm
  clear hL hM sl sm hc1 hc2
  obtain ⟨ln, hln⟩ : ∃ n, n = l.length := ⟨_, rfl⟩
  obtain ⟨mn, hmn⟩ : ∃ n, n = m.length := ⟨_, rfl⟩
  have HLn := hide (And.intro hln (And.intro hmn (And.intro hl hm)))
  have HCl := hide (list_any (unhide HL))
  rw [← hln] at hl hlc HCl SL ⊢
  rw [← hmn] at hm SM ⊢
  clear hln hmn
  go_enter Try.func4, Try.ntmps4
  go_wp2_with fail
  refine (unhide HCl).mono ?_
  rintro e w1 ⟨vx, X, rfl, mx, ux, px, lx, ex⟩
  obtain ⟨xo, xc, hxe⟩ := mx.shape
  obtain ⟨xn, hxn⟩ : ∃ n, n = X.length := ⟨_, rfl⟩
  have GX := hide (show GoodL w1 vx X from ⟨mx.1.sees, ux, px, lx, ex⟩)
  have T1 := hide mx.2.1
  have HCm := hide (list_any ((unhide HM).kept mx.2.1 (Nat.le_refl _) (fun _ _ e => e) |> fun h => (by
    rcases h with h | ⟨a, c, e, h1, h2⟩
    · exact .inl h
    · exact .inr ⟨a, c, e, h1, fun k hk => ⟨Nat.lt_of_lt_of_le (h2 k hk).1 mx.2.1.size, (h2 k hk).2⟩⟩ : IntsAt w1 w1.heap.size _ m)))
  rw [← (unhide HLn).2.1] at HCm
  rw [← hxn] at hxe
  subst hxe
  clear mx ux px lx ex HCl hxn
  go_wp2_with fail
  refine (unhide HCm).mono ?_
  rintro e w2 ⟨vy, Y, rfl, my, uy, py, ly, ey⟩
  obtain ⟨yo, yc, hye⟩ := my.shape
  have T2 := hide my.2.1
  have GY := hide (show MtAt w1 vy w2 from ⟨Y, yo, yc, hye, ⟨my.1.sees, uy, py, ly, ey⟩, my.2.1⟩)
  generalize Y.length = yn at *
  clear my uy py ly ey HCm
  subst hye
  go_upto_if 16 with fail
  go_cut [10, 11] from 16 to 29 (fun y _ wx => MtAt w1 y wx)
  case first =>
    rcases near with _ | _
    · go_wp2_with fail
      go_meet
      case rel => exact unhide GY
    · go_wp2_with fail
      have hmod : ∃ kk : Nat, cut % ((ln : Int) + 1) = (kk : Int) ∧ kk ≤ ln := by
        have h1 := Int.emod_nonneg cut (show (ln : Int) + 1 ≠ 0 by omega)
        have h2 := Int.emod_lt_of_pos cut (show (0 : Int) < (ln : Int) + 1 by omega)
        exact ⟨(cut % ((ln : Int) + 1)).toNat, by omega, by omega⟩
      obtain ⟨kk, hkk, hkl⟩ := hmod
      refine (pick_any cut ((ln : Int) + 1) _ (by omega) (by omega)).mono ?_
      rintro e w3 ⟨rfl, rfl⟩
      rw [hkk]
      obtain ⟨o3, n3, c3, w3, o4, c4, w4, r3, r4, m4⟩ := mix_run (unhide SL) (unhide SM) ((unhide T1).trans (unhide T2)) hkl (unhide HLn).2.2.1 (unhide HLn).2.2.2 (unhide HLn).1
      have HCy := hide (list_any m4.ints)
      have R3 := hide r3
      have R4 := hide r4
      have T4 := hide ((unhide T2).trans m4.2.1)
      generalize (l.take kk ++ m).length = n4 at *
      clear r3 r4 m4 GY hkk
      go_wp2_with (first
        | (at_builtin; refine wpList_append_run rfl (.tmp 22) (.tmp 25) 38 rfl _ _ _ w3 rfl rfl (unhide R3) ?_)
        | (at_builtin; refine wpList_append_run rfl (.tmp 26) (.tmp 27) 38 rfl _ _ _ w4 rfl rfl (unhide R4) ?_))
      refine (unhide HCy).mono ?_
      rintro e w5 ⟨vz, Z, rfl, mz, uz, pz, lz, ez⟩
      obtain ⟨zo, zc, hze⟩ := mz.shape
      have GZ := hide (show MtAt w1 vz w5 from ⟨Z, zo, zc, hze, ⟨mz.1.sees, uz, pz, lz, ez⟩, (unhide T4).trans mz.2.1⟩)
      generalize Z.length = zn at *
      clear mz uz pz lz ez HCy R3 R4
      subst hze
      go_wp2_with fail
      go_meet
      case rel => exact unhide GZ
  case rest =>
    obtain ⟨Y2, yo2, yc2, rfl, gy, t2⟩ := hcut
    have gx := (unhide GX).goes t2
    have T := hide ((unhide T1).trans t2)
    have hc := cmpP_three (lastF (0, 0) X) (lastF (0, 0) Y2)
    have HNeg := hide (cmpP_neg (lastF (0, 0) X) (lastF (0, 0) Y2))
    have HSy := hide (comR_symm (expd 0 Y2) (expd 0 X) 0 (0, 0))
    have hl6 := gx.len
    have hl30 := gx.exp
    have hy6 := gy.len
    have hy30 := gy.exp
    have KC := hide (show ∀ w', Turn (fun _ => False) wc w' → _ from fun w' t => common_any (gx.sees.kept t (fun _ _ e => e)) (gy.sees.kept t (fun _ _ e => e)) gx.up gy.up (by omega) (by omega))
    have KC2 := hide (show ∀ w', Turn (fun _ => False) wc w' → _ from fun w' t => common_any (gy.sees.kept t (fun _ _ e => e)) (gx.sees.kept t (fun _ _ e => e)) gy.up gx.up (by omega) (by omega))
    have KR := hide (show ∀ w', Turn (fun _ => False) wc w' → _ from fun w' t => refCommon_any (gx.sees.kept t (fun _ _ e => e)) (gy.sees.kept t (fun _ _ e => e)) gx.up gy.up (by omega) (by omega) (by omega) (by omega))
    have KP := hide (show ∀ w', Turn (fun _ => False) wc w' → _ from fun w' t => compare_any (gx.sees.kept t (fun _ _ e => e)) (gy.sees.kept t (fun _ _ e => e)) (by omega) (by omega))
    have KP2 := hide (show ∀ w', Turn (fun _ => False) wc w' → _ from fun w' t => compare_any (gy.sees.kept t (fun _ _ e => e)) (gx.sees.kept t (fun _ _ e => e)) (by omega) (by omega))
    have KQ := hide (show ∀ w', Turn (fun _ => False) wc w' → _ from fun w' t => refCompare_any (gx.sees.kept t (fun _ _ e => e)) (gy.sees.kept t (fun _ _ e => e)) (by omega) (by omega))
    rw [unhide HSy] at KC2
    rw [unhide HNeg] at KP2
    generalize comR 0 (0, 0) (expd 0 X) (expd 0 Y2) = cv at *
    generalize cmpP (lastF (0, 0) X) (lastF (0, 0) Y2) = pv at *
    generalize hyn : Y2.length = y2n at *
    clear gx gy t2 hyn HSy HNeg GX T2 GY HL HM SL SM HLn hl6 hl30 hy6 hy30 hl hm hlc
    obtain ⟨cv1, cv2⟩ := cv
    have hitv : itV (cv1, cv2) = .agg #[.int .i64 cv1, .int .i64 cv2] := rfl
    rw [hitv] at KC KC2 KR
    have T0 := hide (Turn.refl (fun _ => False) wc)
    go_wp2_with fail
    refine (iknown_any wc).mono ?_
    rintro e wa ⟨rfl, ta⟩
    have Ta := hide ta
    clear ta
    go_wp2_with fail
    refine (unhide KC _ (unhide Ta)).mono ?_
    rintro e wb ⟨rfl, tb⟩
    have Tb := hide ((unhide Ta).trans tb)
    clear tb
    go_wp2_with fail
    refine (unhide KR _ (unhide Tb)).mono ?_
    rintro e wd ⟨rfl, tb⟩
    have Td := hide ((unhide Tb).trans tb)
    clear tb
    go_wp2_with fail
    refine (unhide KC2 _ (unhide Td)).mono ?_
    rintro e we ⟨rfl, tb⟩
    have Te := hide ((unhide Td).trans tb)
    clear tb
    go_wp2_with fail
    refine (unhide KR _ (unhide Te)).mono ?_
    rintro e wf ⟨rfl, tb⟩
    have Tf := hide ((unhide Te).trans tb)
    clear tb
    go_wp2_with fail
    refine (unhide KP _ (unhide Tf)).mono ?_
    rintro e wg ⟨rfl, tb⟩
    have Tg := hide ((unhide Tf).trans tb)
    clear tb
    go_wp2_with fail
    refine (unhide KQ _ (unhide Tg)).mono ?_
    rintro e wh ⟨rfl, tb⟩
    have Th := hide ((unhide Tg).trans tb)
    clear tb
    go_wp2_with fail
    refine (unhide KP2 _ (unhide Th)).mono ?_
    rintro e wi ⟨rfl, tb⟩
    have Ti := hide ((unhide Th).trans tb)
    clear tb
    go_wp2_with fail
    refine (unhide KP _ (unhide Ti)).mono ?_
    rintro e wj ⟨rfl, tb⟩
    have Tj := hide ((unhide Ti).trans tb)
    clear tb
    rcases hc with rfl | rfl | rfl
    all_goals (
      go_wp2
      go_ret
      exact ⟨rfl, (unhide T).trans (unhide Tj)⟩)

end

end Go.Proofs.Ytehbefhpijifjaa
