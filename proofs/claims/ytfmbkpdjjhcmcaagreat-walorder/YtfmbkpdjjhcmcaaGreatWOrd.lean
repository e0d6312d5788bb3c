/- The law WalOrder: its walk. -/
import Derived.Test.YtfmbkpdjjhcmcaaGreatWKnw
import Derived.Test.YtfmbkpdjjhcmcaaGreatWFew
import Derived.Test.YtfmbkpdjjhcmcaaGreatStp6
namespace Go.Proofs.YtfmbkpdjjhcmcaaGreat
open Go.RowKit

section
variable {K K2 : Nat → Prop} {w wr : World} {v a b : Value} {la lb : List (Value × List UInt8)}

theorem RL.one (h : RL K w a la) : ∀ u ∈ la.map (·.1), u.oneCell' = true := by
  intro u hu
  obtain ⟨p, hp, rfl⟩ := List.mem_map.1 hu
  obtain ⟨ao, c, e⟩ := (h.each p hp).1.shape
  rw [e]
  rfl

/-- Records behind records in the making. -/
theorem RM.cat (h : RM K w v la wr) (hb : RL K2 wr b lb) (hq : ∀ j, K2 j → (K j ∨ w.heap.size ≤ j) ∧ j < wr.heap.size ∧ v.ownBlock ≠ some j) (hlen : la.length + lb.length ≤ 1000000) :
    ∃ v2 w2, (Builtin.append_ #[23, 23] 23 #[v, b]).run Tryz.prog wr = .ok v2 w2 ∧ RM K w v2 (la ++ lb) w2 := by
  obtain ⟨v2, w2, hr, ho, hg, hk⟩ := append_lists wr v (la.map (·.1)) h.own b (lb.map (·.1)) hb.sees hb.one (by simp; omega)
  exact ⟨v2, w2, hr, h.more (fun p hp => ⟨(hb.each p hp).1, fun h0 j hj => hq j ((hb.each p hp).2 h0 j hj)⟩) ho hg hk⟩

/-- A copy of records, and others behind them. -/
theorem cat_two (ha : RL K w a la) (hb : RL K w b lb) (hK : ∀ j, K j → j < w.heap.size) (hlen : la.length + lb.length ≤ 1000000) :
    ∃ v1 w1 v2 w2, (Builtin.append_ #[23, 23] 23 #[.slice (some ⟨w.heap.size, 0, none⟩) 0 0, a]).run Tryz.prog (w.alloc (.cells #[] 31)) = .ok v1 w1 ∧ (∃ ao c, v1 = .slice ao la.length c) ∧
      (Builtin.append_ #[23, 23] 23 #[v1, b]).run Tryz.prog w1 = .ok v2 w2 ∧ RM K w v2 (la ++ lb) w2 := by
  have h0 := RM.empty K w
  have ta : Turn (fun _ => False) w (w.alloc (.cells #[] 31)) := (Turn.refl _ _).alloc _
  obtain ⟨v1, w1, r1, h1⟩ := h0.cat (ha.kept ta (fun _ _ e => e)) (fun j hj => by
    have := hK j hj
    have := ta.size
    refine ⟨.inl hj, by omega, fun e => ?_⟩
    simp [Value.ownBlock] at e
    omega) (by simp; omega)
  rw [List.nil_append] at h1
  obtain ⟨v2, w2, r2, h2⟩ := h1.cat (hb.kept h1.turn (fun _ _ e => e)) (fun j hj => by
    have := hK j hj
    have := h1.turn.size
    refine ⟨.inl hj, by omega, fun e => ?_⟩
    have := h1.new j e
    omega) hlen
  exact ⟨v1, w1, v2, w2, r1, h1.shape, r2, h2⟩

end

/-- Where the loop is. -/
structure Ord6 (w : World) (K : Nat → Prop) (wr : World) (l b : Nat) (want : Value) (n : Nat) (seg : Int) : Prop where
  is : ∃ N B s F k rl, N ≤ n * 200 ∧ B ≤ n * 70000 ∧ k ≤ 2 * n ∧ LW w K wr l b N s F k B ∧ s.d.fused = false ∧ s.limit = seg ∧ RL K wr want rl ∧ rl.map (·.2) = (frun F (k + 1)).1 ∧ rl.length ≤ 4 * n ∧ ∀ x ∈ rl.map (·.2), x.length ≤ 60

theorem few_len {rl : List (Value × List UInt8)} {l : List (List UInt8)} (h : rl.map (·.2) = fewOf l) : rl.length ≤ 4 ∧ ∀ x ∈ rl.map (·.2), x.length ≤ 60 := by
  have h1 := congrArg List.length h
  rw [List.length_map] at h1
  have := fewOf_len l
  exact ⟨by omega, by rw [h]; exact fewOf_each l⟩

theorem laid_few {k m : Int} {rl : List (Value × List UInt8)} {n : Nat} (h1 : rl.length ≤ n) (hn : n ≤ 1000) (h2 : ∀ x ∈ rl.map (·.2), x.length ≤ 60) : (laidOf k m (rl.map (·.2))).length ≤ 70000 ∧ ∀ x ∈ rl.map (·.2), x.length ≤ 1000 := by
  have := laidOf_len k m 60 (rl.map (·.2)) h2
  rw [List.length_map] at this
  exact ⟨by omega, fun x hx => by have := h2 x hx; omega⟩

set_option maxHeartbeats 8000000 in
set_option maxRecDepth 100000 in
theorem walOrder_any (lv : Value) (xs : List Step6) (seg0 : Int) (w : World) (hx : Steps6Of w w.heap.size lv xs) :
    Calls Tryz.prog 6 #[lv, .int .i64 seg0] w fun e w' => e = .returned (.bool true) ∧ Turn (fun _ => False) w w' := by
  obtain ⟨lo, lc, rfl, hlm⟩ := hx.shape
  unfold maxLen at hlm
  have Hx := hide hx
  clear hx
  obtain ⟨seg, hseg⟩ : ∃ seg, seg = 256 + seg0 % 500 := ⟨_, rfl⟩
  have hs0 := Int.emod_nonneg seg0 (show (500 : Int) ≠ 0 by omega)
  have hs1 := Int.emod_lt_of_pos seg0 (show (0 : Int) < 500 by omega)
  go_enter Tryz.func6, Tryz.ntmps6
  go_wp2_with fail
  refine (pick_any seg0 500 w (by omega) (by omega)).mono ?_
  rintro e w1 ⟨rfl, rfl⟩
  go_wp2_with fail
  rw [← hseg]
  have hg0 : 256 ≤ seg := by omega
  have hg1 : seg ≤ 756 := by omega
  clear hseg hs0 hs1
  refine (dl_new (w0 := w) (K := fun _ => False) (fun _ h => h.elim) (Turn.refl _ w)).mono ?_
  rintro e w1 ⟨rfl, h1, _⟩
  obtain ⟨b, hb⟩ : ∃ b, b = w.heap.size := ⟨_, rfl⟩
  rw [← hb] at h1 ⊢
  clear hb
  go_wp2_with fail
  refine (known6_any w1).mono ?_
  rintro e w2 ⟨rfl, t2⟩
  have h2 := h1.new t2
  clear h1 t2
  generalize grow (fun _ => False) w1 w2 = K at h2
  go_wp2_with fail
  refine (lw_open seg h2 rfl rfl dok_zero lid_zero (by omega) (by omega) (by omega) (by omega) (by omega)).mono ?_
  rintro e w3 ⟨l, rv, rl, K3, s, a, rfl, h3, hr3, he3, _, _, ha, hfr, hfu, hlim⟩
  obtain ⟨ro, rc, rfl⟩ := hr3.shape
  have hstart : Ord6 w K3 w3 l b (.slice none 0 0) 0 seg := ⟨0, 0, s, _, a, [], by omega, by omega, by omega, h3.mono (by omega) (by omega), hfu, hlim, RL.nil _ _, by rw [hfr]; rfl, by simp, by simp⟩
  have Hs := hide hstart
  clear hstart h3 hr3 he3 h2 ha hfr hfu hlim
  go_wp2_with fail
  go_loopw [6, 9, 10] (fun a want i wr => ∃ (n l : Nat) (K : Nat → Prop), a = .pointer (some ⟨l, 0, none⟩) ∧ i = .int .i64 n ∧ n ≤ 30 ∧ n ≤ xs.length ∧ Ord6 w K wr l b want n seg) (fun _ _ i _ => (30 - intOf i).toNat)
  case atStart => exact ⟨0, l, K3, rfl, rfl, by omega, by omega, unhide Hs⟩
  case round =>
    clear Hs
    obtain ⟨n, l, K, rfl, rfl, hn30, hnl, ⟨N, B, s, F, k, rl, hN, hB, hk, hL, hfu, hlim, hr, hrs, hrn, h60⟩⟩ := hrel
    by_cases hlt : n < xs.length ∧ n < 30
    · obtain ⟨ab, off, cap, he, hst⟩ := ((unhide Hx).kept hL.turn (Nat.le_refl _) (fun _ _ h => h)).each n hlt.1
      injection he with he he2 he3
      clear he2 he3
      subst he
      have HF := hide (fewList_any _ _ _ wr hst.list hL.turn.size)
      have c0 := hst.c0
      have c3 := hst.c3
      obtain ⟨xo, xc, hxe, _⟩ := hst.list.shape
      rw [hxe] at c3 HF
      have q1 : (n : Int) < xs.length := by omega
      have q2 : (n : Int) < 30 := by omega
      have HL := hide hL
      have HR := hide (And.intro hr (And.intro hrs (And.intro hrn h60)))
      clear hxe hst hL hr hrs hrn h60
      go_wp2_with fail
      refine (unhide HF).mono ?_
      rintro e w4 ⟨v4, ql, rfl, hm4, he4⟩
      obtain ⟨o4, oc4, hv4⟩ := hm4.shape
      subst hv4
      have hL4 := (unhide HL).goes hm4.turn
      have hQ4 : RL (grow K wr w4) w4 (.slice o4 ql.length oc4) ql := hm4.toRL.mono (fun j hj => hj.elim (fun e => e.elim) .inr)
      have hr4 : RL (grow K wr w4) w4 _ rl := ((unhide HR).1.kept hm4.turn (fun _ _ e => e)).mono (fun j hj => .inl hj)
      have c0' := (hm4.turn.cell (World.block_lt_of_cell? _ _ c0) (fun h => h)).trans c0
      obtain ⟨hql, hq60⟩ := few_len he4
      obtain ⟨hl34, h1000⟩ := laid_few (k := 3) (m := 4) hql (by omega) hq60
      obtain ⟨hl12, _⟩ := laid_few (k := 1) (m := 2) hql (by omega) hq60
      have HP := hide (pick_any xs[n].what 6 w4 (by omega) (by omega))
      have hp0 := Int.emod_nonneg xs[n].what (show (6 : Int) ≠ 0 by omega)
      have hp1 := Int.emod_lt_of_pos xs[n].what (show (0 : Int) < 6 by omega)
      generalize hpe : xs[n].what % 6 = p at *
      have HL4 := hide hL4
      have HQ4 := hide (And.intro hQ4 (And.intro hql hq60))
      have HR4 := hide (And.intro hr4 (And.intro (unhide HR).2.1 (And.intro (unhide HR).2.2.1 (unhide HR).2.2.2)))
      have HCk := hide (lw_checkpoint hL4 hQ4 (fun j hj => .inr hj) h1000 hl34 (by omega) (by omega) (by omega))
      have HCo := hide (lw_commit hL4 hQ4 (fun j hj => .inr hj) h1000 hl12 (by omega) (by omega) (by omega))
      have HOp := hide (lw_open seg hL4.dl hL4.ok.dead hfu hL4.ok.dok hL4.lid (by omega) (by omega) (by omega) (by omega) (by omega))
      have hgrow : ∀ j, K j → grow K wr w4 j := fun j hj => .inl hj
      generalize grow K wr w4 = K4 at *
      clear HL HR HF hm4 he4 hL4 hQ4 hr4 c0 c3 hq60 hl34 hl12 h1000 hgrow
      obtain ⟨wo, wc, hwe⟩ := (unhide HR4).1.shape
      go_wp2_with fail
      refine (unhide HP).mono ?_
      rintro e w5 ⟨rfl, rfl⟩
      clear HP c0'
      by_cases hpz : p = 0
      · subst hpz
        clear HCo HOp HR4 hwe
        go_wp2_with fail
        refine (unhide HCk).mono ?_
        rintro e w5 ⟨t5, ⟨rfl, s5, G, k5, h5, hk5, hfu5, hlim5, he5, hone⟩ | ⟨_, hf, _⟩⟩
        · obtain ⟨f, t, hi⟩ := h5.li
          have HS := hide (segments_any hi (by omega))
          have hq5 := (unhide HQ4).1.kept t5 (fun j hj e => e.2 hj)
          have H5 := hide (And.intro h5 (And.intro hq5 (And.intro (hone rfl).1 (And.intro hk5 (And.intro (hfu5.trans hfu) (And.intro (hlim5.trans hlim) he5))))))
          clear hi h5 hq5 hone hfu5 hlim5 he5 t5 HCk hk5
          go_wp2_with fail
          refine (unhide HS).mono ?_
          rintro e w6 ⟨v6, l6, rfl, m6, n6, h6⟩
          have hl6 : l6.length = 1 := by
            have : l6 = [(k5 : Int)] := rise_same n6.1 (unhide H5).2.2.1.1 (fun k => by rw [n6.2 k, (unhide H5).2.2.1.2 k])
            rw [this]
            rfl
          obtain ⟨o6, oc6, hv6⟩ := m6.shape
          rw [hl6] at hv6
          subst hv6
          have hfin : Ord6 w (grow K4 w5 w6) w6 l b (.slice o4 ql.length oc4) (n + 1) seg := by
            obtain ⟨a1, a2, _, a4, a5, a6, a7⟩ := unhide H5
            exact ⟨N + (k + 2) + 3, B + 70000, s5, G, k5, ql, by omega, by omega, by omega, ⟨⟨f, t, h6⟩, a1.ok, a1.lid⟩, a5, a6, (a2.kept m6.2.1 (fun _ _ e => e)).mono (fun j hj => .inl hj), a7.symm, by have := (unhide HQ4).2.1; omega, (unhide HQ4).2.2⟩
          have Hfin := hide hfin
          clear hfin m6 n6 h6 HS H5 HQ4 HL4 hl6
          go_wp2
          go_roundw
          case rel => exact ⟨n + 1, l, _, rfl, by go_num, by omega, by omega, unhide Hfin⟩
          case measure => simp [intOf]; omega
        · rw [hfu] at hf
          simp at hf
      · by_cases hpo : p = 1
        · subst hpo
          subst hwe
          clear HCo HCk
          go_wp2_with fail
          refine (unhide HOp).mono ?_
          rintro e w6 ⟨l6, rv6, rl6, K6, s6, k6, rfl, h6, hr6, he6, hK6, t6, hk6, hfr6, hfu6, hlim6⟩
          obtain ⟨ro6, rc6, rfl⟩ := hr6.shape
          have hwant := ((unhide HR4).1.kept t6 (fun j hj e => e.2 hj)).mono hK6
          have hsame : rl6.map (·.2) = rl.map (·.2) := by rw [he6, (unhide HR4).2.1]
          have HS := hide (same_any w6 _ _ rl6 rl hr6 hwant)
          rw [decide_eq_true hsame] at HS
          have H6 := hide (And.intro h6 (And.intro hwant (And.intro hk6 (And.intro hfu6 (And.intro hlim6 hfr6)))))
          clear HOp h6 hr6 he6 hK6 t6 hk6 hfr6 hfu6 hlim6 hwant hsame
          go_wp2_with fail
          refine (unhide HS).mono ?_
          rintro e w7 ⟨rfl, t7⟩
          have hfin : Ord6 w (grow K6 w6 w7) w7 l6 b (.slice wo rl.length wc) (n + 1) seg := by
            obtain ⟨a1, a2, a3, a4, a5, a6⟩ := unhide H6
            exact ⟨N + (k + 1), B, s6, F, k6, rl, by omega, Nat.le_trans hB (Nat.mul_le_mul_right _ (by omega)), by omega, a1.goes t7, a4, a5, (a2.kept t7 (fun _ _ e => e)).mono (fun j hj => .inl hj), by rw [a6]; exact (unhide HR4).2.1, by have := (unhide HR4).2.2.1; omega, (unhide HR4).2.2.2⟩
          have Hfin := hide hfin
          clear hfin HS H6 HR4 HQ4 HL4
          go_wp2
          go_roundw
          case rel => exact ⟨n + 1, l6, _, rfl, by go_num, by omega, by omega, unhide Hfin⟩
          case measure => simp [intOf]; omega
        · have z0 : (p == 0) = false := by simpa using hpz
          have z1 : (p == 1) = false := by simpa using hpo
          clear HOp HCk hpz hpo
          go_wp2_with fail
          refine (unhide HCo).mono ?_
          rintro e w6 ⟨t6, ⟨rfl, s6, G, k6, h6, hk6, hfu6, hlim6, he6, _⟩ | ⟨_, hf, _⟩⟩
          · have hq6 := (unhide HQ4).1.kept t6 (fun j hj e => e.2 hj)
            have hr6 := (unhide HR4).1.kept t6 (fun j hj e => e.2 hj)
            obtain ⟨v7, w7, v8, w8, r7, ⟨o7, oc7, hv7⟩, r8, hm8⟩ := cat_two hr6 hq6 (fun j hj => (h6.held j hj).2) (by have := (unhide HR4).2.2.1; omega)
            obtain ⟨o8, oc8, hv8⟩ := hm8.shape
            have hfin : Ord6 w (grow K4 w6 w8) w8 l b v8 (n + 1) seg := by
              refine ⟨N + 2, B + 70000, s6, G, k6, rl ++ ql, by omega, by omega, by omega, h6.goes hm8.turn, hfu6.trans hfu, hlim6.trans hlim, hm8.toRL, by rw [List.map_append, he6, (unhide HR4).2.1], by have := (unhide HR4).2.2.1; have := (unhide HQ4).2.1; simp; omega, fun x hx => ?_⟩
              rw [List.map_append, List.mem_append] at hx
              exact hx.elim ((unhide HR4).2.2.2 x) ((unhide HQ4).2.2 x)
            have Hfin := hide hfin
            have R7 := hide r7
            have R8 := hide r8
            have hlen8 : (rl ++ ql).length = rl.length + ql.length := List.length_append
            rw [hlen8] at hv8
            subst hwe hv7 hv8
            clear hfin r7 r8 hm8 hq6 hr6 h6 he6 HCo HR4 HQ4 HL4 hfu6 hlim6 t6 hlen8
            go_wp2_with (at_builtin; first | refine wpList_append_run rfl (.tmp 67) (.tmp 68) 23 rfl _ _ _ w7 rfl rfl (unhide R7) ?_ | refine wpList_append_run rfl (.tmp 69) (.tmp 70) 23 rfl _ _ _ w8 rfl rfl (unhide R8) ?_)
            go_roundw
            case rel => exact ⟨n + 1, l, _, rfl, by go_num, by omega, by omega, unhide Hfin⟩
            case measure => simp [intOf]; omega
          · rw [hfu] at hf
            simp at hf
    · have HOp := hide (lw_open seg hL.dl hL.ok.dead hfu hL.ok.dok hL.lid (by omega) (by omega) (by omega) (by omega) (by omega))
      obtain ⟨wo, wc, hwe⟩ := hr.shape
      have HR := hide (And.intro hr hrs)
      subst hwe
      have hexit : ((n : Int) < xs.length ∧ ¬ (n : Int) < 30) ∨ ¬ (n : Int) < xs.length := by omega
      clear hL hr hrs hlt h60
      rcases hexit with ⟨x1, x2⟩ | x1
      all_goals (
        go_wp2_with fail
        refine (unhide HOp).mono ?_
        rintro e w6 ⟨l6, rv6, rl6, K6, s6, k6, rfl, h6, hr6, he6, hK6, t6, hk6, hfr6, hfu6, hlim6⟩
        obtain ⟨ro6, rc6, rfl⟩ := hr6.shape
        have hwant := ((unhide HR).1.kept t6 (fun j hj e => e.2 hj)).mono hK6
        have hsame : rl6.map (·.2) = rl.map (·.2) := by rw [he6, (unhide HR).2]
        have HS := hide (same_any w6 _ _ rl6 rl hr6 hwant)
        rw [decide_eq_true hsame] at HS
        have ht := h6.turn
        clear HOp h6 hr6 he6 hK6 t6 hk6 hfr6 hfu6 hlim6 hwant hsame
        go_wp2_with fail
        refine (unhide HS).mono ?_
        rintro e w7 ⟨rfl, t7⟩
        go_wp2
        go_ret
        exact ⟨rfl, ht.trans t7⟩)

end Go.Proofs.YtfmbkpdjjhcmcaaGreat
