/- The law KvWhole: its walk. -/
import Derived.Test.YteomehdkfhjbeaaGreatKWhA
import Derived.Test.YteomehdkfhjbeaaGreatKKn1
import Derived.Deep.RegionHeldLaw
import Derived.Deep.CutRange
import Derived.Deep.CutBlock
import Derived.Deep.DeepMust
namespace Go.Proofs.YteomehdkfhjbeaaGreat
open Go.RowKit

set_option maxHeartbeats 8000000 in
set_option maxRecDepth 100000 in
theorem kvWhole_any (lv : Value) (xs : List Step7) (w : World) (hx : Steps7Of w w.heap.size lv xs) :
    Calls Tryz.prog 7 #[lv] w fun e w' => e = .returned (.bool true) ∧ Turn (fun _ => False) w w' := by
  obtain ⟨lo, lc, rfl, hlm⟩ := hx.shape
  unfold maxLen at hlm
  have Hx := hide hx
  clear hx
  go_enter Tryz.func7, Tryz.ntmps7
  go_wp2_with fail
  refine (dl_new (w0 := w) (K := fun _ => False) (fun _ h => h.elim) (Turn.refl _ w)).mono ?_
  rintro e w1 ⟨rfl, h1, _⟩
  obtain ⟨b, hb⟩ : ∃ b, b = w.heap.size := ⟨_, rfl⟩
  rw [← hb] at h1 ⊢
  clear hb
  go_wp2_with fail
  refine (known7_any w1).mono ?_
  rintro e w2 ⟨rfl, t2⟩
  have h2 := h1.new t2
  clear h1 t2
  generalize grow (fun _ => False) w1 w2 = K at h2
  have HO := hide (kw_open (F := fun _ => []) (n := 0) (B := 0) (R := 0) (m := []) 300 h2 rfl rfl dok_zero lid_zero (by omega) (by omega) (by omega) (by omega) (by omega) rfl (Nat.le_refl _) (by omega))
  clear h2
  go_wp2_with fail
  refine (unhide HO).mono ?_
  rintro e w3 ⟨sb, mb, l, K3, s3, a3, rfl, h3, _, _, ha3, hf3⟩
  have hsb3 := h3.sb_lt
  have hmb3 := h3.mb_lt
  obtain ⟨w4, hw4⟩ : ∃ w4, w4 = w3.alloc (.map #[] 0) := ⟨_, rfl⟩
  have hmm := run_makeMap (P := Tryz.prog) 76 w3
  rw [← hw4] at hmm
  have t4 : Turn (fun _ => False) w3 w4 := by rw [hw4]; exact (Turn.refl _ _).alloc _
  have hm4 : MSt w4 w3.heap.size [] := by rw [hw4]; exact MSt.made w3
  have hstart : Whl7 w (grow K3 w3 w4) w4 sb b w3.heap.size 0 := ⟨mb, l, 0 + 0, 0, 0, s3, _, a3, [], by omega, by omega, by omega, by omega, h3.goes t4, hm4, .inr ⟨Nat.le_refl _, hm4.lt⟩, by omega, by omega, fun p hp => by simp at hp, by simp⟩
  have Hs := hide hstart
  clear HO h3 ha3 hf3 hw4 t4 hm4 hstart hsb3 hmb3
  go_wp2_with fail
  clear hmm
  go_loopw [4, 6, 7] (fun sv mv i wr => ∃ (n sb nb : Nat) (K : Nat → Prop), sv = .pointer (some ⟨sb, 0, none⟩) ∧ mv = .map (some nb) ∧ i = .int .i64 n ∧ n ≤ 40 ∧ n ≤ xs.length ∧ Whl7 w K wr sb b nb n) (fun _ _ i _ => (40 - intOf i).toNat)
  case atStart => exact ⟨0, sb, w3.heap.size, _, rfl, rfl, rfl, by omega, by omega, unhide Hs⟩
  case round =>
    clear Hs
    obtain ⟨n, sb, nb, K, rfl, rfl, rfl, hn40, hnl, ⟨mb, l, N, B, R, s, F, a, m, hN, hB, ha, hR, hW, hM, hK, hn1, hn2, hS, hmR⟩⟩ := hrel
    by_cases hlt : n < xs.length ∧ n < 40
    · obtain ⟨ab, off, cap, he, hst⟩ := ((unhide Hx).kept hW.turn (Nat.le_refl _) (fun _ _ h => h)).each n hlt.1
      injection he with he he2 he3
      clear he2 he3
      subst he
      have c0 := hst.c0
      have c1 := hst.c1
      have c2 := hst.c2
      have c3 := hst.c3
      obtain ⟨xo, xc, hxe, hxl⟩ := hst.list.shape
      rw [hxe] at c3
      have hlist := hst.list
      have hB0 := hW.turn.size
      generalize xs[n] = x at *
      have q1 : (n : Int) < xs.length := by omega
      have q2 : (n : Int) < 40 := by omega
      obtain ⟨wa, hwa⟩ : ∃ wa, wa = wr.alloc (.cells #[.int .i64 x.what, .int .i64 x.n, .int .i64 x.cut, .slice xo x.l.length xc] 69) := ⟨_, rfl⟩
      have ta : Turn (fun _ => False) wr wa := by rw [hwa]; exact (Turn.refl _ _).alloc _
      have hA : At 69 wa wr.heap.size #[.int .i64 x.what, .int .i64 x.n, .int .i64 x.cut, .slice xo x.l.length xc] := by rw [hwa]; exact At.new _ _ _
      have hWa := hW.goes ta
      have hka : grow K wr wa wr.heap.size := .inr ⟨Nat.le_refl _, hA.lt⟩
      have hsb := hW.sb_lt
      have hmb := hW.mb_lt
      have hMa := hM.kept ta (fun e => e)
      have hKa : grow K wr wa nb := .inl hK
      have hlista := hlist.kept ta (by omega) (fun _ _ e => e)
      have hBa : w.heap.size ≤ wa.heap.size := Nat.le_trans hB0 ta.size
      have hza := ta.size
      rw [hxe] at hlista
      generalize grow K wr wa = Ka at *
      obtain ⟨xb, hxb⟩ : ∃ xb, xb = wr.heap.size := ⟨_, rfl⟩
      rw [← hxb] at hA hka hsb hmb
      have HA := hide (And.intro hA (And.intro hka (And.intro (show xb ≠ sb by omega) (show xb ≠ mb by omega))))
      have HL := hide (And.intro hWa (And.intro hlista hBa))
      have HS := hide (And.intro hsb (And.intro hmb (show xb < wa.heap.size from hA.lt)))
      have HM := hide (And.intro hMa (And.intro hKa (And.intro hn1 (And.intro hn2 (And.intro hS hmR)))))
      have Hwa := hide hwa
      have Hxb := hide hxb
      clear hwa ta hA hWa hka hlista hBa hxb hW hM hMa hK hKa hn1 hn2 hS hmR hlist hst hxe hB0 hsb hmb hza
      go_wp2_with fail
      rw [← unhide Hwa, ← unhide Hxb]
      have a0 : wa.cell? ⟨xb, 0, none⟩ = some (.int .i64 x.what) := (unhide HA).1.cell 0
      have a1 : wa.cell? ⟨xb, 1, none⟩ = some (.int .i64 x.n) := (unhide HA).1.cell 1
      have a3 : wa.cell? ⟨xb, 3, none⟩ = some (.slice xo x.l.length xc) := (unhide HA).1.cell 3
      clear Hwa Hxb c0 c1 c2 c3
      refine (pick_any x.what 10 _ (by omega) (by omega)).mono ?_
      rintro e w4 ⟨rfl, rfl⟩
      obtain ⟨q, hq⟩ : ∃ q : Int, q = x.what % 10 := ⟨_, rfl⟩
      have hq1 : 0 ≤ q ∧ q < 10 := by omega
      rw [← hq]
      have Hq := hide hq
      clear hq
      go_upto_block 2 with fail
      go_cut [6, 9, 10] from 52 to 77 (fun nv uv cv wx => ∃ K' nb' ub, nv = .map (some nb') ∧ uv = .map (some ub) ∧ Mid7 w K' wx sb b nb' ub xb #[.int .i64 x.what, .int .i64 x.n, .int .i64 x.cut, .slice xo x.l.length xc] n)
      case first =>
        have hcase : q = 6 ∨ q = 7 ∨ (q = 8 ∨ q = 9) ∨ q < 6 := by omega
        rcases hcase with rfl | rfl | hq8 | hq6
        · have HC := hide (kw_checkpoint (unhide HL).1 (by omega) (by omega) (by omega) (by have := (unhide HM).2.2.2.2.2; omega) (small_laid (unhide HM).2.2.2.2.1 (by have := (unhide HM).2.2.2.2.2; omega)) (unhide HM).2.2.2.2.2)
          go_wp2_with fail
          refine (unhide HC).mono ?_
          rintro e w5 ⟨t5, K5, hk5, hh⟩
          have hfin : (∃ k : Int, e = .returned (.int .i64 k)) ∧ Mid7 w K5 w5 sb b nb nb xb #[.int .i64 x.what, .int .i64 x.n, .int .i64 x.cut, .slice xo x.l.length xc] n := by
            obtain ⟨b1, b2, b3, b4⟩ := unhide HA
            obtain ⟨m1, m2, m3, m4, m5, m6⟩ := unhide HM
            have hm5 := m1.kept t5 (fun e => e.elim (fun e => e.2 m2) (fun e => e.elim m3 m4))
            have hx5 := b1.kept t5 (fun e => e.elim (fun e => e.2 b2) (fun e => e.elim b3 b4))
            rcases hh with ⟨rfl, s5, G, a5, h5, ha5, _⟩ | ⟨rfl, _, f5, t6, s5, h5, hd5, hf5, hl5⟩
            · exact ⟨⟨_, rfl⟩, Mid7.alive hx5 (hk5 _ b2) (by omega) (Nat.add_le_add_right hB 70000) (by omega) (by omega) h5 m3 m4 hm5 hm5 (hk5 _ m2) (hk5 _ m2) m5 m5 m6 m6⟩
            · exact ⟨⟨_, rfl⟩, Mid7.fell hx5 (hk5 _ b2) (by omega) (Nat.add_le_add_right hB 70000) (by omega) (show a + 2 ≤ _ by omega) (h5.li.dl.less (fun j hj => .inl hj)) hd5 hf5 hl5 hm5 hm5 (hk5 _ m2) (hk5 _ m2) m5 m5 m6 m6⟩
          obtain ⟨⟨k5, rfl⟩, hfin⟩ := hfin
          have Hfin := hide hfin
          clear hfin hh t5 hk5 HC
          go_wp2_with fail
          go_meet
          case rel => exact ⟨K5, nb, nb, rfl, rfl, unhide Hfin⟩
        · have HN := hide (pick_any x.n 9 wa (by omega) (by omega))
          obtain ⟨f, hf⟩ : ∃ f : Int, f = x.n % 9 - 1 := ⟨_, rfl⟩
          have hf1 : -1 ≤ f ∧ f < 8 := by omega
          have hf2 : x.n % 9 = f + 1 := by omega
          rw [hf2] at HN
          have HF := hide (kw_fuse f (unhide HL).1 (by omega) (by omega))
          have qf : f + 1 - 1 = f := by omega
          clear hf hf2
          go_wp2_with fail
          refine (unhide HN).mono ?_
          rintro e w5 ⟨rfl, rfl⟩
          go_wp2_with fail
          refine (unhide HF).mono ?_
          rintro e w5 ⟨rfl, h5, t5⟩
          have hfin : Mid7 w Ka w5 sb b nb nb xb #[.int .i64 x.what, .int .i64 x.n, .int .i64 x.cut, .slice xo x.l.length xc] n := by
            obtain ⟨b1, b2, b3, b4⟩ := unhide HA
            obtain ⟨m1, m2, m3, m4, m5, m6⟩ := unhide HM
            have hm5 := m1.kept t5 (fun e => e.2 m2)
            exact Mid7.alive (b1.kept t5 (fun e => e.2 b2)) b2 (by omega) (Nat.le_add_right_of_le hB) (by omega) (by omega) h5 m3 m4 hm5 hm5 m2 m2 m5 m5 (by omega) (by omega)
          have H5 := hide hfin
          clear hfin h5 t5 HF HN
          go_wp2_with fail
          go_meet
          case rel => exact ⟨Ka, nb, nb, rfl, rfl, unhide H5⟩
        · have hfin : Mid7 w Ka wa sb b nb nb xb #[.int .i64 x.what, .int .i64 x.n, .int .i64 x.cut, .slice xo x.l.length xc] n := by
            obtain ⟨b1, b2, b3, b4⟩ := unhide HA
            obtain ⟨m1, m2, m3, m4, m5, m6⟩ := unhide HM
            exact Mid7.alive b1 b2 (by omega) (Nat.le_add_right_of_le hB) (by omega) (by omega) (unhide HL).1 m3 m4 m1 m1 m2 m2 m5 m5 (by omega) (by omega)
          have H5 := hide hfin
          clear hfin
          rcases hq8 with rfl | rfl
          all_goals (
            go_wp2_with fail
            go_meet
            case rel => exact ⟨Ka, nb, nb, rfl, rfl, unhide H5⟩)
        · have z6 : (q == 6) = false := by simp; omega
          have z7 : (q == 7) = false := by simp; omega
          have z8 : (q == 8) = false := by simp; omega
          have z9 : (q == 9) = false := by simp; omega
          have HF1 := hide (klist_any _ x.l w.heap.size 6 wa (unhide HL).2.1 (unhide HL).2.2 (by omega))
          clear hq6
          go_wp2_with fail
          refine (unhide HF1).mono ?_
          rintro e w5 ⟨v5, cl, rfl, hc5, hcl⟩
          have hcn : cl.length ≤ 6 := by
            have h1 := congrArg List.length hcl
            rw [List.length_map] at h1
            have h2 := listC_ok_len x.l 6
            omega
          have hC5 := hc5.toCLs (by omega)
          obtain ⟨o5, p5, e5⟩ := hc5.shape
          have HW5 := hide (with_any v5 cl ((unhide HM).1.kept hc5.turn (fun e => e)) hC5 (fun j hj => hj.elim (fun e => e.elim) (fun e => e.2)) (by have := (unhide HM).2.2.2.2.2; omega) (by omega))
          have H5 := hide (And.intro hc5.turn (And.intro hC5 (And.intro hcl hcn)))
          have Hn : Hid (∀ y, y = cl → y.length ≤ 6) := hide (fun y e => by rw [e]; exact hcn)
          generalize cl.length = cn at e5
          subst e5
          clear hc5 hcl hcn hC5 HF1
          go_wp2_with fail
          refine (unhide HW5).mono ?_
          rintro e w6 ⟨ub, rfl, hu6, t6, hub⟩
          have hall6 : ∃ K6 Q : Nat → Prop, KW w K6 w6 sb mb l b N s F a B R m ∧ CLs Q w6 (.slice o5 cn p5) cl ∧ (∀ j, Q j → j < w6.heap.size) ∧ (∀ j, Q j → ¬ KOuts w K6 sb mb j) ∧ (∀ j, Ka j → K6 j) ∧ K6 ub ∧ ub ≠ sb ∧ ub ≠ mb ∧ Turn (fun _ => False) wa w6 := by
            obtain ⟨t5, hC5, _, _⟩ := unhide H5
            obtain ⟨s1, s2, s3⟩ := unhide HS
            have z5 := t5.size
            have z6 := t6.size
            refine ⟨_, _, ((unhide HL).1.goes t5).goes t6, hC5.kept t6 (fun _ _ e => e), ?_, ?_, fun j hj => .inl (.inl hj), .inr ⟨hub, hu6.lt⟩, by omega, by omega, t5.trans t6⟩
            · intro j hj
              rcases hj with hj | hj
              · exact hj.elim
              · omega
            · intro j hj e
              rcases hj with hj | hj
              · exact hj
              · rcases e with e | e | e
                · exact e.2 (.inl (.inr hj))
                · omega
                · omega
          obtain ⟨K6, Q6, h6, hC6, hQ6, hQ7, hK6, hku, hu1, hu2, tw6⟩ := hall6
          have hcl : cl.map (·.2) = listC x.l 6 := (unhide H5).2.2.1
          have hcn : cl.length ≤ 6 := (unhide H5).2.2.2
          rw [hcl] at hu6
          obtain ⟨hs6, hl6⟩ := small_fold x.l 6 (unhide HM).2.2.2.2.1
          have hl7 : ((listC x.l 6).foldl turnC m).length ≤ R + 6 := by
            have h1 := listC_ok_len x.l 6
            have h2 := (unhide HM).2.2.2.2.2
            omega
          have hm6 := (unhide HM).1.kept tw6 (fun e => e)
          have hx6 := (unhide HA).1.kept tw6 (fun e => e)
          have hkx := hK6 _ (unhide HA).2.1
          have hkn := hK6 _ (unhide HM).2.1
          cases hall : (cl.map (·.2)).all Chg.ok with
          | false =>
            have HC := hide (kw_commit_no h6 hC6 hQ6 hQ7 (by omega) (by omega) (by omega) (by omega) (by have := (unhide HM).2.2.2.2.2; omega) hall (by rw [hcl]; exact list_laid x.l 6 (by omega)))
            have H6 := hide (And.intro hu6 (And.intro hku (And.intro hu1 (And.intro hu2 (And.intro hs6 (And.intro hl7 (And.intro hm6 (And.intro hx6 (And.intro hkx hkn)))))))))
            clear h6 hC6 hQ6 hQ7 hK6 tw6 hcl hcn hs6 hl6 hl7 hm6 hx6 hkx hkn hall hu6 hku hu1 hu2 HW5 hub t6
            go_wp2_with fail
            refine (unhide HC).mono ?_
            rintro e w7 ⟨rfl, t7, K7, hk7, h7⟩
            have hfin : Mid7 w K7 w7 sb b nb ub xb #[.int .i64 x.what, .int .i64 x.n, .int .i64 x.cut, .slice xo x.l.length xc] n := by
              obtain ⟨g1, g2, g3, g4, g5, g6, g7, g8, g9, g10⟩ := unhide H6
              obtain ⟨b1, b2, b3, b4⟩ := unhide HA
              obtain ⟨m1, m2, m3, m4, m5, m6⟩ := unhide HM
              exact Mid7.alive (g8.kept t7 (fun e => e.elim (fun e => e.2 g9) (fun e => e.elim b3 b4))) (hk7 _ g9) (by omega) (Nat.le_add_right_of_le hB) (show R + 6 ≤ _ by omega) (by omega) (h7.mono (Nat.le_refl _) (Nat.le_refl _) (Nat.le_add_right R 6)) m3 m4 (g7.kept t7 (fun e => e.elim (fun e => e.2 g10) (fun e => e.elim m3 m4))) (g1.kept t7 (fun e => e.elim (fun e => e.2 g2) (fun e => e.elim g3 g4))) (hk7 _ g10) (hk7 _ g2) m5 g5 (by omega) g6
            have Hfin := hide hfin
            clear hfin h7 t7 HC H6 hk7
            go_wp2_with fail
            go_meet
            case rel => exact ⟨K7, nb, ub, rfl, rfl, unhide Hfin⟩
          | true =>
            have HC := hide (kw_commit h6 hC6 hQ6 hQ7 (by omega) (by omega) (by omega) (by omega) (by have := (unhide HM).2.2.2.2.2; omega) hall (by rw [hcl]; exact list_laid x.l 6 (by omega)))
            rw [hcl] at HC
            have H6 := hide (And.intro hu6 (And.intro hku (And.intro hu1 (And.intro hu2 (And.intro hs6 (And.intro hl7 (And.intro hm6 (And.intro hx6 (And.intro hkx hkn)))))))))
            clear h6 hC6 hQ6 hQ7 hK6 tw6 hcl hcn hs6 hl6 hl7 hm6 hx6 hkx hkn hall hu6 hku hu1 hu2 HW5 hub t6
            go_wp2_with fail
            refine (unhide HC).mono ?_
            rintro e w7 ⟨t7, K7, hk7, ⟨rfl, s7, G, a7, h7, ha7, _⟩ | ⟨rfl, _, f7, t8, s7, h7, hd7, hf7, hl7⟩⟩
            · have hfin : Mid7 w K7 w7 sb b ub ub xb #[.int .i64 x.what, .int .i64 x.n, .int .i64 x.cut, .slice xo x.l.length xc] n := by
                obtain ⟨g1, g2, g3, g4, g5, g6, g7, g8, g9, g10⟩ := unhide H6
                obtain ⟨b1, b2, b3, b4⟩ := unhide HA
                have hcn := (unhide H5).2.2.2
                have hu := g1.kept t7 (fun e => e.elim (fun e => e.2 g2) (fun e => e.elim g3 g4))
                exact Mid7.alive (g8.kept t7 (fun e => e.elim (fun e => e.2 g9) (fun e => e.elim b3 b4))) (hk7 _ g9) (by omega) (Nat.add_le_add_right hB 70000) (show R + 6 ≤ _ by omega) (by omega) (h7.mono (Nat.le_refl _) (Nat.le_refl _) (Nat.add_le_add_left hcn R)) g3 g4 hu hu (hk7 _ g2) (hk7 _ g2) g5 g5 g6 g6
              have Hfin := hide hfin
              clear hfin h7 t7 HC H6 hk7
              go_wp2_with fail
              go_meet
              case rel => exact ⟨K7, ub, ub, rfl, rfl, unhide Hfin⟩
            · have hfin : Mid7 w K7 w7 sb b nb ub xb #[.int .i64 x.what, .int .i64 x.n, .int .i64 x.cut, .slice xo x.l.length xc] n := by
                obtain ⟨g1, g2, g3, g4, g5, g6, g7, g8, g9, g10⟩ := unhide H6
                obtain ⟨b1, b2, b3, b4⟩ := unhide HA
                obtain ⟨m1, m2, m3, m4, m5, m6⟩ := unhide HM
                have hcn := (unhide H5).2.2.2
                exact Mid7.fell (g8.kept t7 (fun e => e.elim (fun e => e.2 g9) (fun e => e.elim b3 b4))) (hk7 _ g9) (by omega) (Nat.add_le_add_right hB 70000) (show R + 6 ≤ _ by omega) (show a + 2 ≤ _ by omega) (h7.li.dl.less (fun j hj => .inl hj)) hd7 (hf7.mono (Nat.add_le_add_left hcn R)) hl7 (g7.kept t7 (fun e => e.elim (fun e => e.2 g10) (fun e => e.elim m3 m4))) (g1.kept t7 (fun e => e.elim (fun e => e.2 g2) (fun e => e.elim g3 g4))) (hk7 _ g10) (hk7 _ g2) m5 g5 (by omega) g6
              have Hfin := hide hfin
              clear hfin h7 hf7 t7 HC H6 hk7
              go_wp2_with fail
              go_meet
              case rel => exact ⟨K7, nb, ub, rfl, rfl, unhide Hfin⟩
      case rest =>
        obtain ⟨K5, nb5, ub5, rfl, rfl, hM5⟩ := hcut
        generalize wc = w5 at *
        obtain ⟨hbox, hbk, N5, B5, R5, k5, d, m5, u5, y5, hN5, hB5, hk5, hR5, hd5, hf5, hy5, hlid5, hm5, hu5, hkn5, hku5, sm5, su5, lm5, lu5, halive⟩ := hM5
        have b0 : w5.cell? ⟨xb, 0, none⟩ = some (.int .i64 x.what) := hbox.cell 0
        have b1 : w5.cell? ⟨xb, 1, none⟩ = some (.int .i64 x.n) := hbox.cell 1
        have b2 : w5.cell? ⟨xb, 2, none⟩ = some (.int .i64 x.cut) := hbox.cell 2
        have HD := hide (dl_dead hd5)
        have HP := hide (pick_any x.what 10 w5 (by omega) (by omega))
        have hBb : B5 ≤ 2870000 := by
          have : n * 70000 ≤ 40 * 70000 := Nat.mul_le_mul_right 70000 hn40
          omega
        have HCr := hide (dl_crash x.n x.cut hd5 (by omega) (hlid5.big (by omega)))
        have HZ := hide (hf5.crash (u := u5) hy5 x.n x.cut sm5 su5 lm5 lu5)
        have H5 := hide (And.intro hlid5 (And.intro hm5 (And.intro hu5 (And.intro hkn5 (And.intro hku5 (And.intro sm5 (And.intro su5 (And.intro lm5 lu5))))))))
        have HAl := hide halive
        have HB5 := hide hB5
        have hcase : d.dead = true ∨ (d.dead = false ∧ q = 8) ∨ (d.dead = false ∧ q ≠ 8) := by
          cases d.dead
          · by_cases h8 : q = 8
            · exact .inr (.inl ⟨rfl, h8⟩)
            · exact .inr (.inr ⟨rfl, h8⟩)
          · exact .inl rfl
        rw [← unhide Hq] at HP
        clear HA HL HS HM a0 a1 a3 hbox hbk hd5 hf5 hy5 hlid5 hm5 hu5 hkn5 hku5 sm5 su5 lm5 lu5 halive hB5 hB ha hR hN
        go_wp2_with fail
        refine (unhide HD).mono ?_
        rintro e w6 ⟨rfl, rfl⟩
        rcases hcase with hdd | ⟨hdd, hq8⟩ | ⟨hdd, hq8⟩
        rotate_left 2
        · have z8 : (q == 8) = false := by simpa using hq8
          obtain ⟨mb6, l6, s6, F6, a6, h6, e6, ha6, n61, n62⟩ := unhide HAl hdd
          have HH := hide (holds_any h6.kr h6.rising (unhide H5).2.1 (fun p hp => by have := ((unhide H5).2.2.2.2.2.1 p hp).1; omega))
          have hfin : ∀ w7, Turn (fun _ => False) w5 w7 → Whl7 w (grow K5 w5 w7) w7 sb b nb5 (n + 1) := fun w7 t7 => by
            obtain ⟨_, g2, _, g4, _, g6, _, g8, _⟩ := unhide H5
            exact ⟨mb6, l6, N5, B5, R5, s6, F6, a6, m5, by omega, by rw [Nat.succ_mul]; exact unhide HB5, by omega, by omega, h6.goes t7, g2.kept t7 (fun e => e), .inl g4, n61, n62, g6, g8⟩
          have Hfin := hide hfin
          rw [hdd]
          clear hfin h6 e6 H5 HAl HB5 HCr HD hq8 hdd HZ
          go_wp2_with fail
          refine (unhide HP).mono ?_
          rintro e w7 ⟨rfl, rfl⟩
          go_wp2_with fail
          refine (unhide HH).mono ?_
          rintro e w7 ⟨b7, rfl, hb7, t7⟩
          obtain rfl : b7 = true := hb7.2 rfl
          have Hfin2 := hide (unhide Hfin w7 t7)
          clear Hfin HH HP hb7 t7 b0 b1 b2
          go_wp2
          go_roundw
          case rel => exact ⟨n + 1, sb, nb5, _, rfl, rfl, by go_num, by omega, by omega, unhide Hfin2⟩
          case measure => simp [intOf]; omega
        focus (
          rw [hdd]
          clear HAl HP HD hdd
          go_wp2_with fail)
        rotate_left 1
        focus (
          rw [hdd]
          have z8 : (q == 8) = true := by simp [hq8]
          clear HAl HD hdd hq8
          go_wp2_with fail
          refine (unhide HP).mono ?_
          rintro e w6 ⟨rfl, rfl⟩
          clear HP
          go_wp2_with fail)
        all_goals (
          refine (unhide HCr).mono ?_
          rintro e w7 ⟨rfl, h7, t7⟩
          obtain ⟨G, z, g1, g2, g3, g4, g5, g6⟩ := unhide HZ
          have hm7 := (unhide H5).2.1.kept t7 (fun e => e.2 (unhide H5).2.2.2.1)
          have hu7 := (unhide H5).2.2.1.kept t7 (fun e => e.2 (unhide H5).2.2.2.2.1)
          have HO := hide (kw_open_n 300 h7 rfl rfl g1 ((unhide H5).1.crash x.n x.cut) (by omega) (by omega) (by omega) (by omega) (by omega) g2 g3 (by omega))
          have H7 := hide (And.intro hm7 hu7)
          have Hz := hide (And.intro g4 (And.intro g5 g6))
          clear h7 t7 hm7 hu7 HCr g1 g2 g3 g4 g5 g6 b0 b1 b2 HZ
          go_wp2_with fail
          refine (unhide HO).mono ?_
          rintro e w8 ⟨sb8, mb8, l8, K8, s8, a8, rfl, h8, hK8, t8, ha8, hfu8, hsb8, hmb8⟩
          have hn8 := (unhide H7).1.lt
          have hn9 := (unhide H7).2.lt
          have hm8 := (unhide H7).1.kept t8 (fun e => e.2 (unhide H5).2.2.2.1)
          have hu8 := (unhide H7).2.kept t8 (fun e => e.2 (unhide H5).2.2.2.2.1)
          have HO2 := hide (kw_open2 300 h8 hfu8 (by omega) (by omega) (by omega) (by omega) (by omega) (by omega))
          have H8 := hide (And.intro hm8 (And.intro hu8 (And.intro (hK8 _ (unhide H5).2.2.2.1) (And.intro (hK8 _ (unhide H5).2.2.2.2.1) (And.intro (show nb5 ≠ sb8 ∧ nb5 ≠ mb8 by omega) (show ub5 ≠ sb8 ∧ ub5 ≠ mb8 by omega))))))
          clear HO H7 h8 hK8 t8 hfu8 hsb8 hmb8 hn8 hn9 hm8 hu8
          go_wp2_with fail
          refine (unhide HO2).mono ?_
          rintro e w9 ⟨sb9, mb9, l9, K9, s9, rfl, h9, hr9, hK9, t9, _⟩
          have hm9 := (unhide H8).1.kept t9 (fun e => e.2 (unhide H8).2.2.1)
          have hu9 := (unhide H8).2.1.kept t9 (fun e => e.2 (unhide H8).2.2.2.1)
          have Hkm : Hid (∀ p ∈ m5, p.1.length ≤ 1099511627776) := hide (fun p hp => by have := ((unhide H5).2.2.2.2.2.1 p hp).1; omega)
          have Hku : Hid (∀ p ∈ u5, p.1.length ≤ 1099511627776) := hide (fun p hp => by have := ((unhide H5).2.2.2.2.2.2.1 p hp).1; omega)
          have HH := hide (holds_any h9.kr h9.rising hm9 (unhide Hkm))
          have H9 := hide (And.intro h9 (And.intro hr9 (And.intro hm9 hu9)))
          have hfin : ∀ w11, Turn (fun _ => False) w9 w11 → ∀ v, (v = nb5 ∧ z = m5) ∨ (v = ub5 ∧ z = u5) → Whl7 w (grow K8 w9 w11) w11 sb8 b v (n + 1) := fun w11 t11 v hv => by
            obtain ⟨h9, hr9, hm9, hu9⟩ := unhide H9
            obtain ⟨_, _, k1, k2, x1, x2⟩ := unhide H8
            obtain ⟨z1, z2, z3⟩ := unhide Hz
            rcases hv with ⟨rfl, rfl⟩ | ⟨rfl, rfl⟩
            · exact ⟨mb8, l8, _, B5, R5, s9, G, a8, _, (show N5 + k5 + (a8 + 1) ≤ _ by omega), by rw [Nat.succ_mul]; exact unhide HB5, by omega, by omega, h9.goes t11, hm9.kept t11 (fun e => e), .inl k1, x1.1, x1.2, z2, z3⟩
            · exact ⟨mb8, l8, _, B5, R5, s9, G, a8, _, (show N5 + k5 + (a8 + 1) ≤ _ by omega), by rw [Nat.succ_mul]; exact unhide HB5, by omega, by omega, h9.goes t11, hu9.kept t11 (fun e => e), .inl k2, x2.1, x2.2, z2, z3⟩
          have Hfin := hide hfin
          clear HO2 h9 hr9 hK9 t9 hm9 hu9 hfin
          go_wp2_with fail
          refine (unhide HH).mono ?_
          rintro e w10 ⟨b10, rfl, hb10, t10⟩
          clear HH
          by_cases hE : z = m5
          · obtain rfl : b10 = true := hb10.2 hE
            have HH2 := hide (holds_any ((unhide H9).2.1.kept t10 (fun _ _ e => e)) (unhide H9).1.rising ((unhide H9).2.2.1.kept t10 (fun e => e)) (unhide Hkm))
            have T10 := hide t10
            have HE := hide hE
            clear hb10 t10 hE
            go_wp2_with fail
            refine (unhide HH2).mono ?_
            rintro e w11 ⟨b11, rfl, hb11, t11⟩
            obtain rfl : b11 = true := hb11.2 (unhide HE)
            have Hfin2 := hide (unhide Hfin w11 ((unhide T10).trans t11) nb5 (.inl ⟨rfl, unhide HE⟩))
            clear Hfin HH2 T10 HE hb11 t11 H9 H8 Hz H5 HB5 Hkm Hku
            go_wp2
            go_roundw
            case rel => exact ⟨n + 1, sb8, nb5, _, rfl, rfl, by go_num, by omega, by omega, unhide Hfin2⟩
            case measure => simp [intOf]; omega
          · obtain rfl : b10 = false := by
              cases b10
              · rfl
              · exact absurd (hb10.1 rfl) hE
            have hE2 : z = u5 := (unhide Hz).1.elim (fun e => absurd e hE) (fun e => e)
            have HH2 := hide (holds_any ((unhide H9).1.kr.kept t10 (fun _ _ e => e)) (unhide H9).1.rising ((unhide H9).2.2.2.kept t10 (fun e => e)) (unhide Hku))
            have T10 := hide t10
            have HE := hide hE2
            clear hb10 t10 hE hE2
            go_wp2_with fail
            refine (unhide HH2).mono ?_
            rintro e w12 ⟨b12, rfl, hb12, t12⟩
            obtain rfl : b12 = true := hb12.2 (unhide HE)
            have t12' := (unhide T10).trans t12
            have HH3 := hide (holds_any ((unhide H9).2.1.kept t12' (fun _ _ e => e)) (unhide H9).1.rising ((unhide H9).2.2.2.kept t12' (fun e => e)) (unhide Hku))
            have T12 := hide t12'
            clear HH2 T10 hb12 t12 t12'
            go_wp2_with fail
            refine (unhide HH3).mono ?_
            rintro e w11 ⟨b11, rfl, hb11, t11⟩
            obtain rfl : b11 = true := hb11.2 (unhide HE)
            have Hfin2 := hide (unhide Hfin w11 ((unhide T12).trans t11) ub5 (.inr ⟨rfl, unhide HE⟩))
            clear Hfin HH3 T12 HE hb11 t11 H9 H8 Hz H5 HB5 Hkm Hku
            go_wp2
            go_roundw
            case rel => exact ⟨n + 1, sb8, ub5, _, rfl, rfl, by go_num, by omega, by omega, unhide Hfin2⟩
            case measure => simp [intOf]; omega)
    · have hT := hW.turn
      have HT := hide hT
      clear hW hM hK hn1 hn2 hS hmR hT
      by_cases h1 : n < xs.length
      · have q1 : (n : Int) < xs.length := by omega
        have q2 : ¬ (n : Int) < 40 := by omega
        go_wp2
        go_ret
        exact ⟨rfl, unhide HT⟩
      · have q1 : ¬ (n : Int) < xs.length := by omega
        go_wp2
        go_ret
        exact ⟨rfl, unhide HT⟩

end Go.Proofs.YteomehdkfhjbeaaGreat
