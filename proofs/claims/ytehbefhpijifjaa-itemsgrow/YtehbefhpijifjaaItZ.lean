/- The law that lists grow event by event. -/
import Derived.Test.YtehbefhpijifjaaItX
import Derived.Test.YtehbefhpijifjaaItH
import Derived.Test.YtehbefhpijifjaaItT
namespace Go.Proofs.Ytehbefhpijifjaa
open Go.RowKit

/-- One number more: and what has turned. -/
theorem NMade.cat2 {w w1 : World} {v : Value} {xs : List Int} (h : NMade w v xs w1) (x : Int) (hb : xs.length ≤ 1000000000) :
    ∃ v2 w2, (Builtin.append_ #[38, 38] 38 #[v, .slice (some ⟨w1.heap.size, 0, none⟩) 1 1]).run Try.prog (w1.alloc (.cells #[.int .i64 x] 3)) = .ok v2 w2 ∧ NMade w v2 (xs ++ [x]) w2 ∧ Turn (fun k => v.ownBlock = some k) w1 w2 := by
  obtain ⟨i, hi, hz, hsz, hby⟩ := info_parts Try.infoInt
  have ta : Turn (fun _ => False) w1 (w1.alloc (.cells #[.int .i64 x] 3)) := (Turn.refl _ _).alloc _
  obtain ⟨v2, w2, hr, ho, hg, hat⟩ := run_append_cells (P := Try.prog) (w1.alloc (.cells #[.int .i64 x] 3)) 38 38 3 i _ 8 Try.underlying38 hi hz hsz hby rfl v (i64s xs) (h.1.kept ta (fun _ _ e => e)) _ [.int .i64 x] (SeesC.lit w1 [.int .i64 x] _ (by simp [maxLen])) (by intro u hu; rw [List.mem_singleton.1 hu]; rfl) (by rw [i64s_length]; simp [maxLen]; omega) (by rw [i64s_length]; simp; omega)
  have tg : Turn (fun j => v.ownBlock = some j) (w1.alloc (.cells #[.int .i64 x] 3)) w2 := (Turn.refl _ _).grown hg (fun j hj => .inl hj)
  have hs1 := h.2.1.size
  have hs2 := ta.size
  refine ⟨v2, w2, hr, ⟨by rw [i64s_append]; exact ho, (h.2.1.trans ta).trans' tg (fun i hi e => by have := h.2.2 i e; omega), fun k hk => ?_⟩, (ta.mono (fun _ _ e => e.elim)).trans tg⟩
  rcases hat with e | e
  · exact h.2.2 k (e ▸ hk)
  · rw [e] at hk
    injection hk with hk
    omega

/-- Where the law's first loop stands. -/
def GrAt (w : World) (lv wv : Value) (k : Nat) (now : Int) (wr : World) : Prop :=
  ∃ L W, IMade w lv L wr ∧ NMade w wv W wr ∧ Grown L W k now

section
variable {w : World} {vv : Value} {l : List Int}

set_option maxHeartbeats 8000000 in
set_option maxRecDepth 100000 in
theorem itemsGrow_any (cut : Int) (hL : IntsAt w w.heap.size vv l) : Calls Try.prog 6 #[vv, .int .i64 cut] w fun e w' => e = .returned (.bool true) ∧ Turn (fun _ => False) w w' := by
  obtain ⟨al, lc, rfl, hlm⟩ := hL.shape
  unfold maxLen at hlm
  have H := hide hL
  obtain ⟨ln, hln⟩ : ∃ n, n = l.length := ⟨_, rfl⟩
  have HLn := hide hln
  rw [← hln] at hlm ⊢
  clear hL hln
  go_enter Try.func6, Try.ntmps6
  go_wp2_with fail
  go_loopw [5, 6, 7, 8, 9, 10] (fun lv wv u i _ _ wr => ∃ (k : Nat) (now : Int), i = .int .i64 k ∧ u = .int .i64 now ∧ k ≤ 60 ∧ GrAt w lv wv k now wr) (fun _ _ _ i _ _ _ => 60 - (intOf i).toNat)
  case atStart => exact ⟨0, 1, rfl, rfl, by omega, [], [], IMade.nil _, NMade.nil _, Grown.nil⟩
  case round =>
    obtain ⟨k, now, rfl, rfl, hk, L, W, mL, mW, hG⟩ := hrel
    obtain ⟨lo, lc2, hle⟩ := mL.shape
    obtain ⟨wo, wc2, hwe⟩ := mW.shape
    obtain ⟨Ln, hLn⟩ : ∃ n, n = L.length := ⟨_, rfl⟩
    obtain ⟨Wn, hWn⟩ : ∃ n, n = W.length := ⟨_, rfl⟩
    rw [← hLn] at hle
    rw [← hWn] at hwe
    have HN := hide (And.intro hLn hWn)
    have ML := hide mL
    have MW := hide mW
    have G := hide hG
    clear hLn hWn
    obtain ⟨cb, hcb⟩ : ∃ cb, cb = decide (k < ln ∧ k < 60) := ⟨_, rfl⟩
    have CB := hide hcb
    clear mL mW hG
    subst hle hwe
    go_upto_region 5 with fail
    go_cut [20] from 13 to 20 (fun c wx => c = .bool cb ∧ wx = wr)
    case first =>
      by_cases h1 : k < ln
      · by_cases h2 : k < 60
        · have hc : cb = true := by rw [hcb, decide_eq_true ⟨h1, h2⟩]
          subst hc
          clear hcb
          have q1 : (k : Int) < ln := by omega
          have q2 : (k : Int) < 60 := by omega
          go_wp2_with fail
          go_meet
          case rel => exact ⟨rfl, rfl⟩
        · have hc : cb = false := by rw [hcb, decide_eq_false (fun h => h2 h.2)]
          subst hc
          clear hcb
          have q1 : (k : Int) < ln := by omega
          have q2 : ¬ (k : Int) < 60 := by omega
          go_wp2_with fail
          go_meet
          case rel => exact ⟨rfl, rfl⟩
      · have hc : cb = false := by rw [hcb, decide_eq_false (fun h => h1 h.1)]
        subst hc
        clear hcb
        have q1 : ¬ (k : Int) < ln := by omega
        go_wp2_with fail
        go_meet
        case rel => exact ⟨rfl, rfl⟩
    case rest =>
      obtain ⟨rfl, rfl⟩ := hcut
      rcases cb with _ | _
      · clear hcb CB
        have hwk : Wn = k := by have := (unhide G).len; have := (unhide HN).2; omega
        subst hwk
        have hLb : L.length ≤ 60 := by have := (unhide G).items; omega
        go_wp2_with fail
        go_loopw [11] (fun i wi => ∃ k2 : Nat, i = .int .i64 k2 ∧ k2 ≤ Wn ∧ Turn (fun _ => False) wc wi) (fun i _ => Wn - (intOf i).toNat)
        case atStart => exact ⟨0, rfl, by omega, Turn.refl _ _⟩
        case round =>
          obtain ⟨k2, rfl, hk2, t2⟩ := hrel
          by_cases hlt2 : k2 < Wn
          · have hkW : k2 < W.length := by have := (unhide HN).2; omega
            obtain ⟨f1, f2⟩ := (unhide G).find hkW
            obtain ⟨g, rfl, b0⟩ := ((unhide MW).goes t2).at k2 hkW
            have HV := hide (show ∀ w', Turn (fun _ => False) wr w' → _ from fun w' t => version_any ((k2 : Int) + 1) ((unhide ML).1.sees.kept (t2.trans t) (fun _ _ e => e)) (by omega))
            have HH := hide (show ∀ w', Turn (fun _ => False) wr w' → _ from fun w' t => has_any ((k2 : Int) + 1, W[k2]) ((unhide ML).1.sees.kept (t2.trans t) (fun _ _ e => e)) (by omega))
            rw [f1] at HV
            rw [f2, show itV ((k2 : Int) + 1, W[k2]) = .agg #[.int .i64 ((k2 : Int) + 1), .int .i64 W[k2]] from rfl] at HH
            clear f1 f2
            generalize W[k2] = x at *
            have q1 : (x != x) = false := by simp
            have q2 : (k2 : Int) < Wn := by omega
            have e1 : IntKind.i64.wrap ((k2 : Int) + 1) = (k2 : Int) + 1 := by rw [IntKind.wrap_i64]; omega
            have T2 := hide t2
            clear t2
            go_wp2_with fail
            go_region_held (fun w' => w'.cell? ⟨g, k2, none⟩ = some (.int .i64 x)) (first | go_keep | exact b9 | exact b0) (first
              | (go_at_call 12; refine (unhide HV _ (by first | exact Turn.refl _ wr | exact (Turn.refl _ wr).drew)).mono ?_; rintro e w8 ⟨rfl, rfl⟩)
              | (go_at_call 13; refine (unhide HH _ (by first | exact Turn.refl _ wr | exact (Turn.refl _ wr).drew)).mono ?_; rintro e w9 ⟨rfl, t9⟩; have T9 := hide ((unhide T2).trans ((Turn.refl (fun _ => False) wr).drew.trans t9)); have b9 := (t9.cell (p := ⟨g, k2, none⟩) (World.block_lt_of_cell? wr ⟨g, k2, none⟩ b0) (fun e => e)).trans b0; clear t9))
            go_wp2_with fail
            go_roundw
            case rel => exact ⟨k2 + 1, by go_num, by omega, unhide T9⟩
            case measure => simp [intOf]; omega
          · obtain rfl : k2 = Wn := by omega
            have q1 : ¬ (k2 : Int) < k2 := by omega
            have hmod : ∃ cc : Nat, cut % ((k2 : Int) + 1) = (cc : Int) ∧ cc ≤ k2 := by
              have h1 := Int.emod_nonneg cut (show (k2 : Int) + 1 ≠ 0 by omega)
              have h2 := Int.emod_lt_of_pos cut (show (0 : Int) < (k2 : Int) + 1 by omega)
              exact ⟨(cut % ((k2 : Int) + 1)).toNat, by omega, by omega⟩
            obtain ⟨cc, hcc, hck⟩ := hmod
            obtain ⟨C, hC⟩ : ∃ C, C = if (cc : Int) < 1 then [] else cutR cc L := ⟨_, rfl⟩
            obtain ⟨fu, fl, fid, fcom, fcmp⟩ := (unhide G).front hck C hC
            have hpast := (unhide G).past
            have hup := (rightL_up (unhide G).right).1
            have HCut := hide (cut_any (cc : Int) ((unhide ML).1.sees.kept t2 (fun _ _ e => e)) (by omega))
            rw [← hC] at HCut
            have KC := hide (show ∀ w' vC, ISees w' vC C → Turn (fun _ => False) wc w' → _ from fun w' vC hs t => common_any hs ((unhide ML).1.sees.kept t (fun _ _ e => e)) fu hup (by omega) (by omega))
            have KV := hide (show ∀ w', Turn (fun _ => False) wc w' → _ from fun w' t => version_any ((k2 : Int) + 1) ((unhide ML).1.sees.kept t (fun _ _ e => e)) (by omega))
            have KP := hide (show ∀ w' vC, ISees w' vC C → Turn (fun _ => False) wc w' → _ from fun w' vC hs t => compare_any hs ((unhide ML).1.sees.kept t (fun _ _ e => e)) (by omega) (by omega))
            have KL := hide (show ∀ w' vC, ISees w' vC C → _ from fun w' vC hs => last_any hs (by omega))
            rw [fcom] at KC
            rw [hpast] at KV
            have Fcmp := hide fcmp
            obtain ⟨z, hz⟩ : ∃ z, z = lastF (0, 0) C := ⟨_, rfl⟩
            rw [← hz] at KC KP KL fid Fcmp
            obtain ⟨z1, z2⟩ := z
            simp only at fid
            subst fid
            rw [show itV ((cc : Int), z2) = .agg #[.int .i64 cc, .int .i64 z2] from rfl] at KC KL
            obtain ⟨pv, hpv⟩ : ∃ pv, pv = cmpP ((cc : Int), z2) (lastF (0, 0) L) := ⟨_, rfl⟩
            rw [← hpv] at KP Fcmp
            have T2 := hide t2
            have HCc := hide hcc
            have qf := fun w' => item_id (cc : Int) z2 w'
            clear hC fl fcom fcmp hpast hup hcc hz hpv t2 hLb
            go_wp2_with fail
            refine (pick_any cut ((k2 : Int) + 1) _ (by omega) (by omega)).mono ?_
            rintro e w3 ⟨rfl, rfl⟩
            rw [unhide HCc]
            go_wp2_with fail
            refine (unhide HCut).mono ?_
            rintro e wa ⟨vC, rfl, mC⟩
            obtain ⟨co, cc2, ec⟩ := mC.shape
            have MC := hide mC
            have Ta := hide ((unhide T2).trans mC.2.1)
            generalize C.length = cn at *
            clear mC HCut
            subst ec
            have Tw := hide (unhide ML).2.1
            have hsC := (unhide MC).1.sees
            have KeepC := hide (show ∀ w', Turn (fun _ => False) wa w' → _ from fun w' t => hsC.kept t (fun _ _ e => e))
            have hcm : cc = k2 ∨ cc < k2 := by omega
            clear hsC
            go_wp2_with fail
            refine (iknown_any wa).mono ?_
            rintro e wb ⟨rfl, tb⟩
            have Tb := hide tb
            clear tb
            go_wp2_with fail
            refine (unhide KL _ _ (unhide KeepC _ (unhide Tb))).mono ?_
            rintro e wd ⟨rfl, td⟩
            have Td := hide ((unhide Tb).trans td)
            clear td
            go_wp2_with fail
            refine (unhide KC _ _ (unhide KeepC _ (unhide Td)) ((unhide Ta).trans (unhide Td))).mono ?_
            rintro e we ⟨rfl, te⟩
            have Te := hide ((unhide Td).trans te)
            clear te
            go_wp2_with fail
            refine (unhide KL _ _ (unhide KeepC _ (unhide Te))).mono ?_
            rintro e wf ⟨rfl, tf⟩
            have Tf := hide ((unhide Te).trans tf)
            clear tf
            go_wp2_with fail
            refine (unhide KV _ ((unhide Ta).trans (unhide Tf))).mono ?_
            rintro e wg ⟨rfl, rfl⟩
            have Tfin := hide (((unhide Tw).trans (unhide Ta)).trans (unhide Tf))
            rcases hcm with rfl | hlt3
            · go_wp2
              go_ret
              exact ⟨rfl, unhide Tfin⟩
            · have q3 : ((cc : Int) == (k2 : Int)) = false := by rw [beq_eq_false_iff_ne]; omega
              have hp := unhide Fcmp hlt3
              subst hp
              go_wp2_with fail
              refine (unhide KP _ _ (unhide KeepC _ (unhide Tf)) ((unhide Ta).trans (unhide Tf))).mono ?_
              rintro e wh ⟨rfl, th⟩
              go_wp2
              go_ret
              exact ⟨rfl, (unhide Tfin).trans th⟩
      · obtain ⟨hlt, hlt60⟩ := of_decide_eq_true (unhide CB).symm
        clear hcb CB
        have hkl : k < l.length := by have := unhide HLn; omega
        obtain ⟨a, rfl, hc0⟩ := ints_at (unhide H) (unhide ML).2.1 k hkl
        generalize l[k] = p at *
        have hpos := (unhide G).pos
        have htop := (unhide G).top
        have hdig := (unhide G).dig
        have hitems := (unhide G).items
        have hp9 : 0 ≤ p % 9 ∧ p % 9 < 9 := by omega
        have hq : (p % 9).tdiv 7 = (p % 9) / 7 := Int.tdiv_eq_ediv_of_nonneg hp9.1
        have q1 : (k : Int) < ln := by omega
        have q2 : (k : Int) < 60 := by omega
        go_wp2_with fail
        refine (pick_any p 9 _ (by omega) (by omega)).mono ?_
        rintro e w1 ⟨rfl, rfl⟩
        generalize p % 9 = p9 at *
        go_wp2_with fail
        refine (hver_any now _ _ hpos (by omega)).mono ?_
        rintro e w1 ⟨rfl, rfl⟩
        have hF := hverF_is now (p9 / 7 % 3)
        obtain ⟨r, hr⟩ : ∃ r, r = hverF now (p9 / 7 % 3) := ⟨_, rfl⟩
        rw [← hr] at hF ⊢
        have hrd : 1 ≤ r % 10 ∧ r % 10 ≤ 4 := by
          by_cases h0 : p9 / 7 % 3 = 0
          · rw [hF.2.2.2 h0]; exact hdig
          · exact (hF.2.2.1 h0).2
        obtain ⟨hrr, hlv, hG2⟩ := (unhide G).push hlt60 hF.1 hF.2.1 hrd
        have G2 := hide hG2
        have hap : addP L ((k : Int) + 1, r) := ⟨(unhide G).right, by show (k : Int) + 1 = _; rw [(unhide G).last], by show (k : Int) + 1 ≤ 200; omega, hrr, hlv⟩
        have HAdd := hide (add_any ((k : Int) + 1) r (unhide ML).1.sees (by omega))
        have HAp := hide hap
        have HW := hide (unhide G).len
        clear hF hr hrd hrr hlv hG2 hap hp9 hq
        go_wp2_with fail
        refine (unhide HAdd).mono ?_
        rintro e w2 (⟨-, v2, rfl, m2⟩ | ⟨hno, -⟩)
        rotate_left 1
        · exact absurd (unhide HAp) hno
        have HR := hide (rightL_any m2.1.sees (by have := pushR_len ((k : Int) + 1, r) L; omega))
        rw [(unhide G2).right] at HR
        obtain ⟨o2, c2, e2⟩ := m2.shape
        obtain ⟨n2, hn2⟩ : ∃ n, n = (pushR L ((k : Int) + 1, r)).length := ⟨_, rfl⟩
        have M2 := hide m2
        rw [← hn2] at e2
        clear HAdd m2 hn2
        subst e2
        go_wp2_with fail
        refine (unhide HR).mono ?_
        rintro e w3 ⟨rfl, t3⟩
        obtain ⟨v4, w4, hr4, m4, t4⟩ := ((unhide MW).goes ((unhide M2).2.1.trans t3)).cat2 r (by have := unhide HW; omega)
        have hfin : GrAt w (.slice o2 n2 c2) v4 (k + 1) r w4 := by
          have hb : ∀ j, (Value.slice o2 n2 c2).ownBlock = some j → ¬ (Value.slice wo Wn wc2).ownBlock = some j := fun j h1 h2 => by
            have := (unhide M2).2.2 j h1
            have := OwnsC.lt (unhide MW).1 h2
            omega
          have hnew := ((unhide M2).goes t3).back (unhide ML).2.1
          exact ⟨_, _, ⟨hnew.1.kept t4 hb, hnew.2.1.trans' t4 (fun i hi e => by have := (unhide MW).2.2 i e; omega), hnew.2.2⟩, m4, unhide G2⟩
        obtain ⟨o4, c4, e4⟩ := m4.shape
        have HF := hide hfin
        have R4 := hide hr4
        generalize (W ++ [r]).length = n4 at *
        clear t3 hr4 m4 t4 hfin HR
        subst e4
        go_wp2_with (at_builtin; refine wpList_append_run rfl (.tmp 47) (.tmp 49) 38 rfl _ _ _ w4 rfl rfl (unhide R4) ?_)
        go_roundw
        case rel => exact ⟨k + 1, r, by go_num, rfl, by omega, unhide HF⟩
        case measure => simp [intOf]; omega

end

end Go.Proofs.Ytehbefhpijifjaa
