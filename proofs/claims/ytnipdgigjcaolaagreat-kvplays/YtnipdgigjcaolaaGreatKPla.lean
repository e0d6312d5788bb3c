/- The law KvPlays: its walk. -/
import Derived.Test.YtnipdgigjcaolaaGreatKPlD
import Derived.Deep.RegionHeldLaw
import Derived.Deep.RegionWith
import Derived.Deep.CutRange
import Derived.Deep.CutBlock
import Derived.Deep.DeepMust
namespace Go.Proofs.YtnipdgigjcaolaaGreat
open Go.RowKit

theorem cplO_zero : CplO 0 DSt.zero RSt.zero := ⟨PSg.zero.le (by omega), rfl, ⟨fun _ => [], 0, [], by omega, dok_zero, rfl, Nat.le_refl _, fun p hp => by simp at hp, Nat.le_refl _⟩, lid_zero⟩

set_option maxHeartbeats 8000000 in
set_option maxRecDepth 100000 in
theorem kvPlays_any (seg0 : Int) (lv : Value) (xs : List Step7) (w : World) (hx : Steps7Of w w.heap.size lv xs) :
    Calls Tryz.prog 6 #[.int .i64 seg0, lv] w fun e w' => e = .returned (.bool true) ∧ Turn (fun _ => False) w w' := by
  obtain ⟨lo, lc, rfl, hlm⟩ := hx.shape
  unfold maxLen at hlm
  have Hx := hide hx
  clear hx
  go_enter Tryz.func6, Tryz.ntmps6
  go_wp2_with fail
  refine (pick_any seg0 300 _ (by omega) (by omega)).mono ?_
  rintro e w0 ⟨rfl, rfl⟩
  obtain ⟨seg, hseg⟩ : ∃ seg : Int, seg = 256 + seg0 % 300 := ⟨_, rfl⟩
  have hs0 : 256 ≤ seg ∧ seg ≤ 1048576 := by omega
  have Hseg := hide hseg
  clear hseg
  go_wp2_with fail
  refine (dl_new (w0 := w) (K := fun _ => False) (fun _ h => h.elim) (Turn.refl _ w)).mono ?_
  rintro e w1 ⟨rfl, h1, _⟩
  obtain ⟨b, hb⟩ : ∃ b, b = w.heap.size := ⟨_, rfl⟩
  rw [← hb] at h1 ⊢
  clear hb
  go_wp2_with fail
  refine (known7_any w1).mono ?_
  rintro e w2 ⟨rfl, t2⟩
  have h2 := h1.new t2
  clear h1 t2
  generalize grow (fun _ => False) w1 w2 = K at h2
  go_wp2_with fail
  refine (rnew_any w2).mono ?_
  rintro e w3 ⟨rfl, hrd, hw3⟩
  obtain ⟨rb, hrb⟩ : ∃ rb, rb = w2.heap.size := ⟨_, rfl⟩
  rw [← hrb] at hrd ⊢
  have t3 : Turn (fun _ => False) w2 w3 := hw3 ▸ (Turn.refl _ _).alloc _
  have h3 := h2.new t3
  have hB : PlB w w3 (grow K w2 w3) b rb 0 DSt.zero RSt.zero := ⟨h3.mono (by omega), _, hrd, fun j hj => by
    rcases hj with hj | hj
    · exact hj.elim
    · rw [hj]; exact .inr ⟨by omega, hrd.lt.2⟩⟩
  have HO := hide (pl_open_s hB cplO_zero (by omega) hs0.1 hs0.2)
  clear h2 h3 hB hrd hw3 t3 hrb
  generalize grow K w2 w3 = K3 at HO
  go_wp2_with fail
  rw [← unhide Hseg]
  refine (unhide HO).mono ?_
  rintro e w4 ⟨sb, K4, rfl, hH4, _, _⟩
  have HO2 := hide (pl_open_t hH4 (by omega) hs0.1 hs0.2)
  clear hH4 HO
  go_wp2_with fail
  refine (unhide HO2).mono ?_
  rintro e w5 ⟨tb, K5, rfl, hP5, _, _⟩
  have Hs := hide (Or.inl hP5 : PlX w w5 K5 b rb sb tb seg (0 + 1))
  clear hP5 HO2
  go_wp2_with fail
  go_loopw [7, 9, 11] (fun sv tv i wr => ∃ (n sb tb : Nat) (K : Nat → Prop), sv = .pointer (some ⟨sb, 0, none⟩) ∧ tv = .pointer (some ⟨tb, 0, none⟩) ∧ i = .int .i64 n ∧ n ≤ 40 ∧ n ≤ xs.length ∧ PlX w wr K b rb sb tb seg (n + 1)) (fun _ _ i _ => (40 - intOf i).toNat)
  case atStart => exact ⟨0, sb, tb, _, rfl, rfl, rfl, by omega, by omega, unhide Hs⟩
  case round =>
    clear Hs
    obtain ⟨n, sb, tb, K, rfl, rfl, rfl, hn40, hnl, hX⟩ := hrel
    by_cases hlt : n < xs.length ∧ n < 40
    · obtain ⟨ab, off, cap, he, hst⟩ := ((unhide Hx).kept hX.turn (Nat.le_refl _) (fun _ _ h => h)).each n hlt.1
      injection he with he he2 he3
      clear he2 he3
      subst he
      have c0 := hst.c0
      have c1 := hst.c1
      have c2 := hst.c2
      have c3 := hst.c3
      obtain ⟨xo, xc, hxe, hxl⟩ := hst.list.shape
      rw [hxe] at c3
      have hlist := hst.list
      have hB0 := hX.turn.size
      generalize xs[n] = x at *
      have q1 : (n : Int) < xs.length := by omega
      have q2 : (n : Int) < 40 := by omega
      obtain ⟨wa, hwa⟩ : ∃ wa, wa = wr.alloc (.cells #[.int .i64 x.what, .int .i64 x.n, .int .i64 x.cut, .slice xo x.l.length xc] 69) := ⟨_, rfl⟩
      have ta : Turn (fun _ => False) wr wa := by rw [hwa]; exact (Turn.refl _ _).alloc _
      have hA : At 69 wa wr.heap.size #[.int .i64 x.what, .int .i64 x.n, .int .i64 x.cut, .slice xo x.l.length xc] := by rw [hwa]; exact At.new _ _ _
      have hXa := hX.goes ta
      have hbx : BxK (grow K wr wa) wa wr.heap.size x.what x.n x.cut (.slice xo x.l.length xc) := ⟨hA, .inr ⟨Nat.le_refl _, hA.lt⟩⟩
      have hlista := hlist.kept ta (by omega) (fun _ _ e => e)
      have hBa : w.heap.size ≤ wa.heap.size := Nat.le_trans hB0 ta.size
      rw [hxe] at hlista
      generalize grow K wr wa = Ka at *
      obtain ⟨xb, hxb⟩ : ∃ xb, xb = wr.heap.size := ⟨_, rfl⟩
      rw [← hxb] at hbx hA
      have HX := hide hXa
      have HBx := hide hbx
      have HL := hide (And.intro hlista hBa)
      have Hwa := hide hwa
      have Hxb := hide hxb
      clear hwa ta hA hXa hbx hlista hBa hxb hX hlist hst hxe hB0
      go_wp2_with fail
      rw [← unhide Hwa, ← unhide Hxb]
      have a0 : wa.cell? ⟨xb, 0, none⟩ = some (.int .i64 x.what) := (unhide HBx).1.cell 0
      clear Hwa Hxb c0 c1 c2 c3
      go_wp2_with fail
      refine (pick_any x.what 10 _ (by omega) (by omega)).mono ?_
      rintro e w6 ⟨rfl, rfl⟩
      obtain ⟨q, hq⟩ : ∃ q : Int, q = x.what % 10 := ⟨_, rfl⟩
      have hq1 : 0 ≤ q ∧ q < 10 := by omega
      rw [← hq]
      have Hq := hide hq
      clear hq
      go_upto_block 2 with fail
      go_cut [7, 9, 13, 14, 15, 16, 17] from 64 to 140 (fun sv tv _ _ _ _ _ wx => ∃ sb' tb' K', sv = .pointer (some ⟨sb', 0, none⟩) ∧ tv = .pointer (some ⟨tb', 0, none⟩) ∧ PlX w wx K' b rb sb' tb' seg (n + 2))
      case first =>
        have a1 : wa.cell? ⟨xb, 1, none⟩ = some (.int .i64 x.n) := (unhide HBx).1.cell 1
        have a2 : wa.cell? ⟨xb, 2, none⟩ = some (.int .i64 x.cut) := (unhide HBx).1.cell 2
        have hcase : q = 6 ∨ q = 7 ∨ (q = 8 ∨ q = 9) ∨ q < 6 := by omega
        rcases hcase with rfl | rfl | hq8 | hq6
        · have HC := hide (plx_check_s (unhide HX) (by omega))
          go_wp2_with fail
          refine (unhide HC).mono ?_
          rintro e w7 ⟨k, K7, rfl, hh⟩
          have HT := hide (plx_check_t hh)
          clear hh HC
          go_wp2_with fail
          refine (unhide HT).mono ?_
          rintro e w8 ⟨rfl, K8, h8⟩
          have H8 := hide h8
          have f8 : (k != k) = false := bne_self_eq_false _
          clear h8 HT
          go_wp2_with fail
          go_meet
          case rel => exact ⟨sb, tb, K8, rfl, rfl, unhide H8⟩
        · have HN := hide (pick_any x.n 9 wa (by omega) (by omega))
          obtain ⟨f, hf⟩ : ∃ f : Int, f = x.n % 9 - 1 := ⟨_, rfl⟩
          have hf1 : -1 ≤ f ∧ f < 8 := by omega
          have hf2 : x.n % 9 = f + 1 := by omega
          rw [hf2] at HN
          have HF := hide (pl_fuse_s f (unhide HX) (by omega) (by omega))
          have qf : f + 1 - 1 = f := by omega
          clear hf hf2
          go_wp2_with fail
          refine (unhide HN).mono ?_
          rintro e w7 ⟨rfl, rfl⟩
          go_wp2_with fail
          refine (unhide HF).mono ?_
          rintro e w7 ⟨rfl, hh, t7⟩
          have HT := hide (pl_fuse_t f (by omega) hh (fun j hj => ((unhide HX).above j hj).1))
          clear hh t7 HF HN
          go_wp2_with fail
          refine (unhide HT).mono ?_
          rintro e w8 ⟨rfl, K8, h8, _⟩
          have H8 := hide h8.up
          clear h8 HT
          go_wp2_with fail
          go_meet
          case rel => exact ⟨sb, tb, K8, rfl, rfl, unhide H8⟩
        · obtain ⟨d, r, hB, hC⟩ := (unhide HX).disks
          have HDd := dl_dead hB.dl
          have HDs := hide (And.intro hB hC)
          cases hdd : d.dead with
          | true =>
            rw [hdd] at HDd
            have HDd := hide HDd
            clear hB hC hdd
            rcases hq8 with rfl | rfl
            all_goals (
              go_wp2_with fail
              refine (unhide HDd).mono ?_
              rintro e w6 ⟨rfl, rfl⟩
              have HC1 := hide (pl_crash_s x.n x.cut (unhide HDs).1 (unhide HDs).2 (by omega))
              go_wp2_with fail
              refine (unhide HC1).mono ?_
              rintro e w7 ⟨rfl, hd7, hr7, tn7⟩
              have hb7 : At 69 w7 xb #[.int .i64 x.what, .int .i64 x.n, .int .i64 x.cut, .slice xo x.l.length xc] := (unhide HBx).1.kept tn7 (fun e => e.2 (unhide HBx).2)
              have b1 : w7.cell? ⟨xb, 1, none⟩ = some (.int .i64 x.n) := hb7.cell 1
              have b2 : w7.cell? ⟨xb, 2, none⟩ = some (.int .i64 x.cut) := hb7.cell 2
              have HC2 := hide (pl_crash_t x.n x.cut hd7 hr7 (unhide HDs).2 (by omega))
              clear hd7 hr7 tn7 hb7 HC1
              go_wp2_with fail
              refine (unhide HC2).mono ?_
              rintro e w8 ⟨rfl, hB8, _, _⟩
              have HOs := hide (pl_open_s hB8 ((unhide HDs).2.2.2.1 x.n x.cut) (by omega) hs0.1 hs0.2)
              clear hB8 HC2 b1 b2
              go_wp2_with fail
              refine (unhide HOs).mono ?_
              rintro e w10 ⟨sb2, K10, rfl, hH10, _, _⟩
              have HOt := hide (pl_open_t hH10 (by omega) hs0.1 hs0.2)
              clear hH10 HOs
              go_wp2_with fail
              refine (unhide HOt).mono ?_
              rintro e w11 ⟨tb2, K11, rfl, hP11, _, _⟩
              have Hfin := hide (Or.inl hP11 : PlX w w11 K11 b rb sb2 tb2 seg (n + 1 + 1))
              clear hP11 HOt
              go_wp2_with fail
              go_meet
              case rel => exact ⟨sb2, tb2, K11, rfl, rfl, unhide Hfin⟩)
          | false =>
            rw [hdd] at HDd
            have HDd := hide HDd
            by_cases he : x.n.tmod 2 = 0
            · have he2 : (x.n.tmod 2 == 0) = true := by simp [he]
              clear hB hC hdd
              rcases hq8 with rfl | rfl
              all_goals (
                go_wp2_with fail
                refine (unhide HDd).mono ?_
                rintro e w6 ⟨rfl, rfl⟩
                have HC1 := hide (pl_crash_s x.n x.cut (unhide HDs).1 (unhide HDs).2 (by omega))
                go_wp2_with fail
                refine (unhide HC1).mono ?_
                rintro e w7 ⟨rfl, hd7, hr7, tn7⟩
                have hb7 : At 69 w7 xb #[.int .i64 x.what, .int .i64 x.n, .int .i64 x.cut, .slice xo x.l.length xc] := (unhide HBx).1.kept tn7 (fun e => e.2 (unhide HBx).2)
                have b1 : w7.cell? ⟨xb, 1, none⟩ = some (.int .i64 x.n) := hb7.cell 1
                have b2 : w7.cell? ⟨xb, 2, none⟩ = some (.int .i64 x.cut) := hb7.cell 2
                have HC2 := hide (pl_crash_t x.n x.cut hd7 hr7 (unhide HDs).2 (by omega))
                clear hd7 hr7 tn7 hb7 HC1
                go_wp2_with fail
                refine (unhide HC2).mono ?_
                rintro e w8 ⟨rfl, hB8, _, _⟩
                have HOs := hide (pl_open_s hB8 ((unhide HDs).2.2.2.1 x.n x.cut) (by omega) hs0.1 hs0.2)
                clear hB8 HC2 b1 b2
                go_wp2_with fail
                refine (unhide HOs).mono ?_
                rintro e w10 ⟨sb2, K10, rfl, hH10, _, _⟩
                have HOt := hide (pl_open_t hH10 (by omega) hs0.1 hs0.2)
                clear hH10 HOs
                go_wp2_with fail
                refine (unhide HOt).mono ?_
                rintro e w11 ⟨tb2, K11, rfl, hP11, _, _⟩
                have Hfin := hide (Or.inl hP11 : PlX w w11 K11 b rb sb2 tb2 seg (n + 1 + 1))
                clear hP11 HOt
                go_wp2_with fail
                go_meet
                case rel => exact ⟨sb2, tb2, K11, rfl, rfl, unhide Hfin⟩)
            · have he2 : (x.n.tmod 2 == 0) = false := by simp [he]
              have HOs := hide (pl_open_s hB (hC.2.2.2 hdd) (by omega) hs0.1 hs0.2)
              clear hB hC hdd
              rcases hq8 with rfl | rfl
              all_goals (
                go_wp2_with fail
                refine (unhide HDd).mono ?_
                rintro e w6 ⟨rfl, rfl⟩
                go_wp2_with fail
                refine (unhide HOs).mono ?_
                rintro e w10 ⟨sb2, K10, rfl, hH10, _, _⟩
                have HOt := hide (pl_open_t hH10 (by omega) hs0.1 hs0.2)
                clear hH10 HOs
                go_wp2_with fail
                refine (unhide HOt).mono ?_
                rintro e w11 ⟨tb2, K11, rfl, hP11, _, _⟩
                have Hfin := hide (Or.inl hP11 : PlX w w11 K11 b rb sb2 tb2 seg (n + 1 + 1))
                clear hP11 HOt
                go_wp2_with fail
                go_meet
                case rel => exact ⟨sb2, tb2, K11, rfl, rfl, unhide Hfin⟩)
        · have z6 : (q == 6) = false := by simp; omega
          have z7 : (q == 7) = false := by simp; omega
          have z8 : (q == 8) = false := by simp; omega
          have z9 : (q == 9) = false := by simp; omega
          have td : Turn (fun _ => False) wa wa.drew := (Turn.refl _ wa).drew
          have HX5 := hide ((unhide HX).goes td)
          have hb5 := (unhide HBx).goes td (K' := grow Ka wa wa.drew) (fun j hj => .inl hj)
          have HB5 := hide hb5
          have d3 : wa.drew.cell? ⟨xb, 3, none⟩ = some (.slice xo x.l.length xc) := hb5.1.cell 3
          have hl5 := (unhide HL).1.kept td (unhide HL).2 (fun _ _ e => e)
          have hs5 : w.heap.size ≤ wa.drew.heap.size := (unhide HL).2
          have HR5 := hide (And.intro hl5 hs5)
          have HL1 := hide (klist_any _ x.l w.heap.size 6 wa.drew hl5 hs5 (by omega))
          clear hq6 td hb5 hl5 hs5
          go_wp2_with fail
          go_region_held_law (fun w' => w'.cell? ⟨xb, 3, none⟩ = some (.slice xo x.l.length xc)) (first | go_keep | exact r9 | exact r8 | exact r7 | exact r6 | exact d3)
            (first
            | (go_at_call 32; refine (unhide HL1).mono ?_; rintro e w6 ⟨v6, cl6, rfl, hm6, hc6⟩; obtain ⟨o6, p6, e6⟩ := hm6.shape; have HC1 := hide (plx_commit_s x.l (unhide HX5) (by omega) hm6 hc6); have T6 := hide hm6.turn; have r6 : w6.cell? ⟨xb, 3, none⟩ = some (.slice xo x.l.length xc) := (hm6.turn.cell (p := ⟨xb, 3, none⟩) (World.block_lt_of_cell? _ _ d3) (fun e => e)).trans d3; generalize cl6.length = n6 at e6; subst e6; clear HL1 hm6 hc6)
            | (go_at_call 24; refine (unhide HC1).mono ?_; rintro e w7 ⟨k7, K7, rfl, hh7, hb7, t7⟩; have r7 : w7.cell? ⟨xb, 3, none⟩ = some (.slice xo x.l.length xc) := (hb7 _ _ _ _ _ (unhide HB5)).1.cell 3; have HH7 := hide hh7; have HB7 := hide (hb7 _ _ _ _ _ (unhide HB5)); have hl7 := ((unhide HR5).1.kept (unhide T6) (unhide HR5).2 (fun _ _ e => e)).kept t7 (Nat.le_trans (unhide HR5).2 (unhide T6).size) (fun k hk e => by omega); have hs7 : w.heap.size ≤ w7.heap.size := Nat.le_trans (Nat.le_trans (unhide HR5).2 (unhide T6).size) t7.size; have HL2 := hide (klist_any _ x.l w.heap.size 6 w7 hl7 hs7 (by omega)); clear hh7 hb7 t7 hl7 hs7)
            | (go_at_call 32; refine (unhide HL2).mono ?_; rintro e w8 ⟨v8, cl8, rfl, hm8, hc8⟩; obtain ⟨o8, p8, e8⟩ := hm8.shape; have HC2 := hide (plx_commit_t (unhide HH7) hm8 hc8); have r8 : w8.cell? ⟨xb, 3, none⟩ = some (.slice xo x.l.length xc) := (hm8.turn.cell (p := ⟨xb, 3, none⟩) (World.block_lt_of_cell? _ _ r7) (fun e => e)).trans r7; have HB8 := hide ((unhide HB7).1.kept hm8.turn (fun e => e)); generalize cl8.length = n8 at e8; subst e8; clear HL2 hm8 hc8)
            | (go_at_call 41; refine (unhide HC2).mono ?_; rintro e w9 ⟨rfl, K9, h9, _, hb9⟩; have r9 : w9.cell? ⟨xb, 3, none⟩ = some (.slice xo x.l.length xc) := (hb9 _ _ _ _ _ (unhide HB8)).cell 3; have H9 := hide h9; clear h9 hb9)
            | fail)
          all_goals (
            have f9 : (k7 != k7) = false := bne_self_eq_false _
            go_wp2_with fail
            go_meet
            case rel => exact ⟨sb, tb, K9, rfl, rfl, unhide H9⟩)
      case rest =>
        obtain ⟨sb2, tb2, K2, rfl, rfl, hX2⟩ := hcut
        generalize wc = w12 at *
        obtain ⟨d2, r2, hB2, hC2⟩ := hX2.disks
        have td : Turn (fun _ => False) w12 w12.drew := (Turn.refl _ w12).drew
        have hdl := hB2.dl.new td
        have hwk : r2.works = d2.works := hC2.1.works
        obtain ⟨wk, hwke⟩ : ∃ wk : Nat, wk = d2.works := ⟨_, rfl⟩
        have d4 : w12.drew.cell? ⟨rb, 4, none⟩ = some (.int .i64 wk) := by
          obtain ⟨Q2, hrd2, _⟩ := hB2.rd
          obtain ⟨kv, pv, kl, pl, h4⟩ := hrd2
          have := (h4.head.kept td (fun e => e)).cell 4
          rw [hwke, ← hwk]
          exact this
        have HIs := hide (pl_is (hX2.goes td) (by omega))
        have HDl := hide hdl
        have Hwk := hide hwke
        have HX12 := hide (hX2.goes td)
        have f4 : ((wk : Int) != (wk : Int)) = false := bne_self_eq_false _
        clear hX2 hB2 hC2 hdl hwk hwke td a0
        go_wp2_with fail
        go_region_held_law (fun w' => w'.cell? ⟨rb, 4, none⟩ = some (.int .i64 wk)) (first | go_keep | exact r13 | exact d4)
          (first
          | (go_at_call 42; refine (unhide HIs).mono ?_; rintro e w13 ⟨rfl, t13⟩; have r13 : w13.cell? ⟨rb, 4, none⟩ = some (.int .i64 wk) := (t13.cell (p := ⟨rb, 4, none⟩) (World.block_lt_of_cell? _ _ d4) (fun e => e)).trans d4; have HW := dl_works ((unhide HDl).new t13); rw [← unhide Hwk] at HW; have HW := hide HW; have T13 := hide t13; clear t13)
          | (go_at_call 43; refine (unhide HW).mono ?_; rintro e w14 ⟨rfl, rfl⟩)
          | fail)
        all_goals (
          have Hend := hide ((unhide HX12).goes (unhide T13))
          clear HW
          go_wp2
          go_roundw
          case rel => exact ⟨n + 1, sb2, tb2, _, rfl, rfl, by go_num, by omega, by omega, unhide Hend⟩
          case measure => simp [intOf]; omega)
    · have hT := hX.turn
      have HT := hide hT
      clear hX hT
      by_cases h1 : n < xs.length
      · have q1 : (n : Int) < xs.length := by omega
        have q2 : ¬ (n : Int) < 40 := by omega
        go_wp2
        go_ret
        exact ⟨rfl, unhide HT⟩
      · have q1 : ¬ (n : Int) < xs.length := by omega
        go_wp2
        go_ret
        exact ⟨rfl, unhide HT⟩

end Go.Proofs.YtnipdgigjcaolaaGreat
