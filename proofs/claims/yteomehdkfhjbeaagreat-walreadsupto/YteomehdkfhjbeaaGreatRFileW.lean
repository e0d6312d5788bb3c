/- The reference's readFile: its walk. -/
import Derived.Test.YteomehdkfhjbeaaGreatPkR
import Derived.Test.YteomehdkfhjbeaaGreatPkG
import Derived.Deep.CutRange
namespace Go.Proofs.YteomehdkfhjbeaaGreat
open Go.RowKit

/-- Within the loop. -/
structure PRd (w wr : World) (pb rb : Nat) (r : Option PSt) (b : Value) (bs : List UInt8) (rv sv : Value) (rl sl : List (Value × List UInt8)) (p : PSt) : Prop where
  is : PIs w wr pb rb rv sv rl sl p
  sees : Sees wr b bs
  lie : 0 < bs.length → ∀ j, slab b = some j → j < w.heap.size
  ok : p.Ok
  goes : PSt.takes (frs bs) p = r
  fit : rl.length + sl.length + bs.length ≤ 1099511627776

section
variable {w wr w1 : World} {pb rb : Nat} {rv sv b : Value} {rl sl : List (Value × List UInt8)} {p : PSt} {bs : List UInt8} {r : Option PSt}

theorem PIs.lens (h : PIs w wr pb rb rv sv rl sl p) : ∃ ro rc so sc, rv = .slice ro rl.length rc ∧ sv = .slice so sl.length sc := by
  obtain ⟨ro, rc, e1⟩ := h.r.shape'
  obtain ⟨so, sc, e2⟩ := h.s.shape'
  rw [List.length_map] at e1 e2
  exact ⟨ro, rc, so, sc, e1, e2⟩

end

set_option maxHeartbeats 4000000 in
set_option maxRecDepth 100000 in
theorem readFile_any (v : Value) (bs : List UInt8) (w : World) (hs : Sees w v bs) (hb : bs.length ≤ 1099511627776) :
    Calls Tryz.prog 63 #[v] w (FTo w (PSt.takes (frs bs) PSt.zero)) := by
  obtain ⟨vo, vc, hve⟩ := hs.shape
  have hA := At.new 109 w #[.slice none 0 0, .bool false]
  have t1 : Turn (fun _ => False) w (w.alloc (.cells #[.slice none 0 0, .bool false] 109)) := (Turn.refl _ _).alloc _
  have hz : (w.alloc (.cells #[.slice none 0 0, .bool false] 109)).heap.size = w.heap.size + 1 := Array.size_push _
  have hB := At.new 109 (w.alloc (.cells #[.slice none 0 0, .bool false] 109)) #[.slice none 0 0, .bool false]
  have t2 : Turn (fun _ => False) (w.alloc (.cells #[.slice none 0 0, .bool false] 109)) ((w.alloc (.cells #[.slice none 0 0, .bool false] 109)).alloc (.cells #[.slice none 0 0, .bool false] 109)) := (Turn.refl _ _).alloc _
  rw [hz] at hB
  have hst : PRd w ((w.alloc (.cells #[.slice none 0 0, .bool false] 109)).alloc (.cells #[.slice none 0 0, .bool false] 109)) (w.heap.size + 1) w.heap.size (PSt.takes (frs bs) PSt.zero) v bs (.slice none 0 0) (.slice none 0 0) [] [] PSt.zero :=
    ⟨⟨hB, hA.kept t2 (fun e => e), OwnsC.nil _ _, OwnsC.nil _ _, rfl, rfl, fun j hj => by simp [Value.ownBlock] at hj, fun j hj => by simp [Value.ownBlock] at hj, fun q hq => by simp at hq, ⟨by omega, by omega, by omega⟩, t1.trans t2⟩, hs.kept (t1.trans t2) (fun _ _ e => e), fun h0 j hj => slab_lt hs h0 hj, ⟨by simp [PSt.zero], .inl rfl⟩, rfl, by simpa using hb⟩
  have Hst := hide hst
  generalize PSt.takes (frs bs) PSt.zero = r at *
  subst hve
  have hlm := hs.len
  unfold maxLen at hlm
  clear hst hA hB t1 t2 hz hs
  go_enter Tryz.func63, Tryz.ntmps63
  go_wp2
  go_loopw [0, 5, 6] (fun b sv kd wr => ∃ bs rv rl sl p, kd = .int .i64 p.kind ∧ PRd w wr (w.heap.size + 1) w.heap.size r b bs rv sv rl sl p) (fun b _ _ _ => slen b)
  case atStart => exact ⟨bs, _, _, _, _, rfl, unhide Hst⟩
  case round =>
    clear Hst
    obtain ⟨bs, rv, rl, sl, p, rfl, hR⟩ := hrel
    generalize w.heap.size + 1 = pb at *
    generalize w.heap.size = rb at *
    obtain ⟨bo, bc, hbe⟩ := hR.sees.shape
    obtain ⟨ro, rc, so, sc, hre, hse⟩ := hR.is.lens
    subst hbe hre hse
    have hm := hR.sees.len
    unfold maxLen at hm
    have hfit0 := hR.fit
    have HN := hide (refNext_any6 _ bs wr hR.sees (by omega))
    go_wp2_with fail
    refine (unhide HN).mono ?_
    rintro e w1 ⟨vb, rfl, ho, t1, hnew⟩
    unfold toldValue
    have hI := hR.is.goes t1
    have c0 : w1.cell? ⟨pb, 0, none⟩ = some (.slice ro rl.length rc) := hI.box.cell 0
    have c1 : w1.cell? ⟨pb, 1, none⟩ = some (.bool p.fresh) := hI.box.cell 1
    have d0 : w1.cell? ⟨rb, 0, none⟩ = some (.slice none 0 0) := hI.res.cell 0
    have d1 : w1.cell? ⟨rb, 1, none⟩ = some (.bool false) := hI.res.cell 1
    have f0 : w1.frozen? ⟨rb, 0, none⟩ = false := hI.res.frozen 0
    have f1 : w1.frozen? ⟨rb, 1, none⟩ = false := hI.res.frozen 1
    have hE := hI.ends
    have g0 := hE.2.2.cell 0
    have g1 := hE.2.2.cell 1
    obtain ⟨ko, kc, hke⟩ := ho.shape
    have hsl := ho.slab_eq
    clear HN
    by_cases he : (tell bs).err = 0
    · obtain ⟨z1, z2, z3, z4⟩ := tell_ok he
      have hfr := frs_yes he
      rw [he]
      have hgoes := hR.goes
      rw [hfr, PSt.takes] at hgoes
      obtain ⟨a, hae⟩ : ∃ a, bo = some a := by
        rcases hR.sees with ⟨_, e⟩ | ⟨a, cap, e, _⟩
        · have h0 : bs.length = 0 := by rw [e]; rfl
          omega
        · injection e with e1
          exact ⟨a, e1⟩
      subst hae
      have hcap : bs.length ≤ bc ∧ bc ≤ maxLen := by
        rcases hR.sees with ⟨e, _⟩ | ⟨a, cap, e, h1, h2, _⟩
        · simp at e
        · injection e with e1 e2 e3
          subst e3
          exact ⟨h1, h2⟩
      obtain ⟨hcap, hcm⟩ := hcap
      unfold maxLen at hcm
      obtain ⟨sz, hsze⟩ : ∃ sz : Nat, (tell bs).size = (sz : Int) := ⟨_, (Int.toNat_of_nonneg z3).symm⟩
      have hszn : (tell bs).size.toNat = sz := by omega
      rw [hszn] at z1 z2 hgoes
      have hdl : (bs.drop sz).length = bs.length - sz := List.length_drop
      have hlie : 0 < (bs.drop sz).length → ∀ j, a.block = j → j < w.heap.size := fun h0 j hj => hR.lie (by omega) j (by simp [slab, hj])
      have HB2 := hide (fun (a2 : Addr) (ha : a2 = a.add sz ∨ (sz = bc ∧ a2 = a)) => (And.intro ((hR.sees.behind sz z2 a2 (ha.imp id (fun h => h.1))).kept t1 (fun _ _ e => e)) (show a2.block = a.block by
        rcases ha with ha | ha
        · rw [ha, addr_add_block]
        · rw [ha.2])))
      have hwr := hR.is.turn.size
      have hpl := hR.is.box.lt
      have hrlt := hR.is.res.lt
      have hnb : 0 < (tell bs).body.length → ∀ j, slab vb = some j → w.heap.size ≤ j ∧ j < w1.heap.size ∧ j ≠ pb ∧ j ≠ rb ∧ (Value.slice ro rl.length rc).ownBlock ≠ some j ∧ (Value.slice so sl.length sc).ownBlock ≠ some j := fun h0 j hj => by
        have h1 := hnew j (hsl ▸ hj)
        exact ⟨by omega, slab_lt ho.sees h0 hj, by omega, by omega, fun e => by have := hR.is.r.lt e; omega, fun e => by have := hR.is.s.lt e; omega⟩
      have hfit2 : rl.length + sl.length + 1 + (bs.drop sz).length ≤ 1099511627776 := by omega
      have Hlie := hide hlie
      have Hnb := hide hnb
      have HI := hide hI
      have Hgo := hide hgoes
      have Hok := hide hR.ok
      have HE := hide hE.2.1
      have hvbs := ho.sees
      rw [hsze]
      generalize (tell bs).body = body at *
      generalize (tell bs).kind = k at *
      generalize hbs2 : bs.drop sz = bs2 at *
      generalize hle : bs.length = len at *
      have HL := hide hle
      have q1 : (sz : Int) ≤ len := by omega
      have q2 : (len : Int) ≤ bc := by omega
      have q3 : sz ≤ bc := by omega
      have hbl : body.length ≤ 1048576 := z4
      have Hv := hide hvbs
      obtain ⟨nb, hnbe⟩ : ∃ nb, nb = body.length := ⟨_, rfl⟩
      rw [← hnbe] at hke hbl
      have Hnbe := hide hnbe
      subst hke
      clear hle hbs2 hR hI hE ho t1 hnew hsl hnb hlie hfr he hsze hszn z3 z4 hcm hvbs hnbe hgoes hpl hrlt hwr
      go_upto_region 7 with fail
      go_cut [0] from 21 to 23 (fun b2 wx => wx = w1 ∧ Sees w1 b2 bs2 ∧ (∀ j, slab b2 = some j → a.block = j) ∧ slen b2 < len)
      case first =>
        by_cases hc : bc = sz
        · subst hc
          have hst := unhide HB2 a (.inr ⟨rfl, rfl⟩)
          rw [Nat.sub_self, show len - bc = 0 by omega] at hst
          have Hst := hide hst
          clear hst HB2
          go_wp2
          go_meet
          case rel => exact ⟨rfl, (unhide Hst).1, fun j hj => by simpa [slab] using hj, by simp [slen]; omega⟩
        · have hst := unhide HB2 (a.add sz) (.inl rfl)
          have Hst := hide hst
          clear hst HB2
          go_wp2
          go_meet
          case rel => exact ⟨rfl, (unhide Hst).1, fun j hj => by simp only [slab, Option.some.injEq] at hj; rw [← hj]; exact (unhide Hst).2.symm, by simp [slen]; omega⟩
      case rest =>
        obtain ⟨hwz, hs2, hb2, hsl2⟩ := hcut
        rw [hwz]
        clear hwz
        obtain ⟨b2o, b2c, hb2e⟩ := hs2.shape
        subst hb2e
        have Hs2 := hide (And.intro hs2 hb2)
        have hk0 := (unhide Hok).2
        have hsl3 : bs2.length < len := by simpa [slen] using hsl2
        clear hs2 hb2 hsl2 hdl
        by_cases h13 : k = 1 ∨ k = 3
        · by_cases hf : p.kind ≠ 0 ∧ p.kind ≠ k
          · have htk : p.take k body = none := by unfold PSt.take; rw [if_pos h13, if_pos hf]
            have hr0 : none = r := by have := unhide Hgo; rw [htk] at this; exact this
            subst hr0
            have y1 : (p.kind != 0) = true := by simpa using hf.1
            have y2 : (p.kind != k) = true := by simpa using hf.2
            clear htk hf hk0
            generalize p.kind = pk at *
            rcases h13 with rfl | rfl
            all_goals (
              go_wp2
              refine bodyPost_ret (v := .tuple #[.agg #[.slice ro rl.length rc, .bool p.fresh], .int .i64 5]) (by simp [results, Tryz.results63, go_sem, g0, g1]) rfl ?_
              exact ⟨_, _, _, _, rfl, unhide HE⟩)
          · have htk : p.take k body = some ⟨p.fresh, p.recs, p.begun ++ [body], k⟩ := by unfold PSt.take; rw [if_pos h13, if_neg hf]
            have hgo2 : PSt.takes (frs bs2) ⟨p.fresh, p.recs, p.begun ++ [body], k⟩ = r := by have := unhide Hgo; rw [htk] at this; exact this
            have hI := unhide HI
            have ta : Turn (fun _ => False) w1 (w1.alloc (.cells #[.slice ko nb kc] 29)) := (Turn.refl _ _).alloc _
            have hlit := SeesC.lit w1 [.slice ko nb kc] 29 (by simp [maxLen])
            have hI2 := hI.goes ta
            obtain ⟨v2, w2, r2, ho2, hg2, hk2⟩ := append_lists _ _ (sl.map (·.1)) hI2.s _ [.slice ko nb kc] hlit (by intro u hu; simp at hu; rw [hu]; rfl) (by simp; omega)
            have hfin := hI2.begin' ((unhide Hv).kept ta (fun _ _ e => e)) (fun h0 j hj => by
              obtain ⟨a1, a2, a3⟩ := unhide Hnb h0 j hj
              exact ⟨a1, Nat.lt_of_lt_of_le a2 ta.size, a3⟩) ho2 hg2 hk2 k
            have tg : Turn (fun j => (Value.slice so sl.length sc).ownBlock = some j) _ w2 := (Turn.refl _ _).grown hg2 (fun j hj => .inl hj)
            have hs3 : Sees w2 (.slice b2o bs2.length b2c) bs2 := ((unhide Hs2).1.kept ta (fun _ _ e => e)).kept' tg (fun h0 j hj e => by
              have h1 := unhide Hlie h0 j ((unhide Hs2).2 j hj)
              have h2 := (hI.ins j e).1
              omega)
            have hnext : PRd w w2 pb rb r (.slice b2o bs2.length b2c) bs2 _ v2 rl (sl ++ [(.slice ko nb kc, body)]) ⟨p.fresh, p.recs, p.begun ++ [body], k⟩ :=
              ⟨hfin, hs3, fun h0 j hj => unhide Hlie h0 j ((unhide Hs2).2 j hj), ⟨by simp; omega, by simp only; omega⟩, hgo2, by rw [List.length_append]; simp; omega⟩
            obtain ⟨o2, p2, e2⟩ := ho2.shape'
            simp only [List.length_append, List.length_map, List.length_cons, List.length_nil, Nat.zero_add] at e2 r2
            have R2 := hide r2
            have Hn := hide hnext
            subst e2
            have hcase : p.kind = 0 ∨ (p.kind ≠ 0 ∧ p.kind = k) := by omega
            clear hnext hs3 tg hfin r2 ho2 hg2 hk2 hI2 hlit ta hI htk hf hk0 hgo2
            rcases hcase with hpk | ⟨hpk0, hpk⟩
            · rw [hpk]
              rcases h13 with rfl | rfl
              all_goals (
                clear hpk
                go_wp2_with (at_builtin; refine wpList_append_run rfl (.tmp 38) (.tmp 40) 22 rfl _ _ _ w2 rfl rfl (unhide R2) ?_)
                go_roundw
                case rel => exact ⟨_, _, _, _, _, rfl, unhide Hn⟩
                case measure => have := unhide HL; simp [slen]; omega)
            · rw [hpk]
              have y1 : (k != 0) = true := by rw [hpk] at hpk0; simpa using hpk0
              rcases h13 with rfl | rfl
              all_goals (
                clear hpk hpk0
                go_wp2_with (at_builtin; refine wpList_append_run rfl (.tmp 38) (.tmp 40) 22 rfl _ _ _ w2 rfl rfl (unhide R2) ?_)
                go_roundw
                case rel => exact ⟨_, _, _, _, _, rfl, unhide Hn⟩
                case measure => have := unhide HL; simp [slen]; omega)
        · have k1 : (k == 1) = false := by simp; omega
          have k3 : (k == 3) = false := by simp; omega
          by_cases h2 : k = 2
          · by_cases hn : p.kind ≠ 1 ∨ body ≠ []
            · have htk : p.take k body = none := by unfold PSt.take; rw [if_neg h13, if_pos h2, if_pos hn]
              have hr0 : none = r := by have := unhide Hgo; rw [htk] at this; exact this
              subst hr0
              have hcase : p.kind = 0 ∧ nb = 0 ∨ p.kind = 3 ∨ (p.kind = 1 ∨ p.kind = 0) ∧ 0 < nb := by
                have hz : body = [] ↔ nb = 0 := by rw [unhide Hnbe]; exact List.length_eq_zero_iff.symm
                rcases hk0 with e | e | e
                · by_cases h0 : nb = 0
                  · exact .inl ⟨e, h0⟩
                  · exact .inr (.inr ⟨.inr e, by omega⟩)
                · refine .inr (.inr ⟨.inl e, ?_⟩)
                  have : body ≠ [] := by
                    rcases hn with hn | hn
                    · exact absurd e hn
                    · exact hn
                  have : ¬ nb = 0 := fun e2 => this (hz.2 e2)
                  omega
                · exact .inr (.inl e)
              subst h2
              clear htk hn hk0 h13
              rcases hcase with ⟨hpk, hnb0⟩ | hpk | ⟨hpk, hnb0⟩
              · rw [hpk]
                subst hnb0
                clear hpk
                go_wp2
                refine bodyPost_ret (v := .tuple #[.agg #[.slice ro rl.length rc, .bool p.fresh], .int .i64 5]) (by simp [results, Tryz.results63, go_sem, g0, g1]) rfl ?_
                exact ⟨_, _, _, _, rfl, unhide HE⟩
              · rw [hpk]
                clear hpk
                go_wp2
                refine bodyPost_ret (v := .tuple #[.agg #[.slice ro rl.length rc, .bool p.fresh], .int .i64 5]) (by simp [results, Tryz.results63, go_sem, g0, g1]) rfl ?_
                exact ⟨_, _, _, _, rfl, unhide HE⟩
              · have y5 : (0 : Int) < nb := by omega
                rcases hpk with hpk | hpk
                all_goals (
                  rw [hpk]
                  clear hpk
                  go_wp2
                  refine bodyPost_ret (v := .tuple #[.agg #[.slice ro rl.length rc, .bool p.fresh], .int .i64 5]) (by simp [results, Tryz.results63, go_sem, g0, g1]) rfl ?_
                  exact ⟨_, _, _, _, rfl, unhide HE⟩)
            · have hk1 : p.kind = 1 := Decidable.byContradiction (fun e => hn (.inl e))
              have hb0 : body = [] := Decidable.byContradiction (fun e => hn (.inr e))
              have htk : p.take k body = some ⟨p.fresh, p.recs ++ p.begun, [], 0⟩ := by unfold PSt.take; rw [if_neg h13, if_pos h2, if_neg hn]
              have hgo2 : PSt.takes (frs bs2) ⟨p.fresh, p.recs ++ p.begun, [], 0⟩ = r := by have := unhide Hgo; rw [htk] at this; exact this
              have hnb0 : nb = 0 := by rw [unhide Hnbe, hb0]; rfl
              have hI := unhide HI
              obtain ⟨v2, w2, r2, ho2, hg2, hk2⟩ := append_lists w1 _ (rl.map (·.1)) hI.r _ (sl.map (·.1)) hI.s.sees (by
                intro u hu
                obtain ⟨q, hq, rfl⟩ := List.mem_map.1 hu
                obtain ⟨qo, qc, e⟩ := (hI.each q (.inr hq)).1.shape
                rw [e]
                rfl) (by simp; omega)
              have hfin := hI.counts ho2 hg2 hk2
              have tg : Turn (fun j => (Value.slice ro rl.length rc).ownBlock = some j) w1 w2 := (Turn.refl _ _).grown hg2 (fun j hj => .inl hj)
              have hbox2 := hI.box.kept tg (fun e => (hI.inr _ e).2.1 rfl)
              have x0 : w2.cell? ⟨pb, 0, none⟩ = some (.slice ro rl.length rc) := hbox2.cell 0
              have x1 : w2.frozen? ⟨pb, 0, none⟩ = false := hbox2.frozen 0
              have ts : Turn (fun j => j = pb) w2 (w2.setCell ⟨pb, 0, none⟩ v2) := (Turn.refl (fun j => j = pb) w2).setCell (p := ⟨pb, 0, none⟩) (.inl rfl) _
              have hs3 : Sees (w2.setCell ⟨pb, 0, none⟩ v2) (.slice b2o bs2.length b2c) bs2 := ((unhide Hs2).1.kept' tg (fun h0 j hj e => by
                have h1 := unhide Hlie h0 j ((unhide Hs2).2 j hj)
                have h2 := (hI.inr j e).1
                omega)).kept' ts (fun h0 j hj e => by
                have h1 := unhide Hlie h0 j ((unhide Hs2).2 j hj)
                have h2 := hI.new.1
                omega)
              have hnext : PRd w (w2.setCell ⟨pb, 0, none⟩ v2) pb rb r (.slice b2o bs2.length b2c) bs2 v2 (.slice none 0 0) (rl ++ sl) [] ⟨p.fresh, p.recs ++ p.begun, [], 0⟩ :=
                ⟨hfin, hs3, fun h0 j hj => unhide Hlie h0 j ((unhide Hs2).2 j hj), ⟨by simp, .inl rfl⟩, hgo2, by rw [List.length_append]; simp; omega⟩
              obtain ⟨o2, p2, e2⟩ := ho2.shape'
              simp only [List.length_append, List.length_map] at e2 r2
              have R2 := hide r2
              have Hn := hide hnext
              subst e2 h2 hnb0
              rw [hk1]
              clear hnext hs3 tg ts hfin r2 ho2 hg2 hk2 hI htk hk0 hgo2 hbox2 hk1 hb0 hn h13
              go_wp2_with (at_builtin; refine wpList_append_run rfl (.tmp 71) (.tmp 72) 22 rfl _ _ _ w2 rfl rfl (unhide R2) ?_)
              go_roundw
              case rel => exact ⟨_, _, _, _, _, rfl, unhide Hn⟩
              case measure => have := unhide HL; simp [slen]; omega
          · have k2 : (k == 2) = false := by simpa using h2
            by_cases h4 : k = 4
            · by_cases hn : (p.kind ≠ 0 ∧ p.kind ≠ 3) ∨ body ≠ []
              · have htk : p.take k body = none := by unfold PSt.take; rw [if_neg h13, if_neg h2, if_pos h4, if_pos hn]
                have hr0 : none = r := by have := unhide Hgo; rw [htk] at this; exact this
                subst hr0
                have hcase : p.kind = 1 ∨ (p.kind = 0 ∨ p.kind = 3) ∧ 0 < nb := by
                  have hz : body = [] ↔ nb = 0 := by rw [unhide Hnbe]; exact List.length_eq_zero_iff.symm
                  have hnz : (p.kind = 0 ∨ p.kind = 3) → 0 < nb := fun e => by
                    have : body ≠ [] := by
                      rcases hn with hn | hn
                      · omega
                      · exact hn
                    have : ¬ nb = 0 := fun e2 => this (hz.2 e2)
                    omega
                  rcases hk0 with e | e | e
                  · exact .inr ⟨.inl e, hnz (.inl e)⟩
                  · exact .inl e
                  · exact .inr ⟨.inr e, hnz (.inr e)⟩
                subst h4
                clear htk hn hk0 h13 h2
                rcases hcase with hpk | ⟨hpk, hnb0⟩
                · rw [hpk]
                  clear hpk
                  go_wp2
                  refine bodyPost_ret (v := .tuple #[.agg #[.slice ro rl.length rc, .bool p.fresh], .int .i64 5]) (by simp [results, Tryz.results63, go_sem, g0, g1]) rfl ?_
                  exact ⟨_, _, _, _, rfl, unhide HE⟩
                · have y5 : (0 : Int) < nb := by omega
                  rcases hpk with hpk | hpk
                  all_goals (
                    rw [hpk]
                    clear hpk
                    go_wp2
                    refine bodyPost_ret (v := .tuple #[.agg #[.slice ro rl.length rc, .bool p.fresh], .int .i64 5]) (by simp [results, Tryz.results63, go_sem, g0, g1]) rfl ?_
                    exact ⟨_, _, _, _, rfl, unhide HE⟩)
              · have hb0 : body = [] := Decidable.byContradiction (fun e => hn (.inr e))
                have hk3 : p.kind = 0 ∨ p.kind = 3 := by
                  have : ¬ (p.kind ≠ 0 ∧ p.kind ≠ 3) := fun e => hn (.inl e)
                  omega
                have htk : p.take k body = some ⟨true, p.begun, [], 0⟩ := by unfold PSt.take; rw [if_neg h13, if_neg h2, if_pos h4, if_neg hn]
                have hgo2 : PSt.takes (frs bs2) ⟨true, p.begun, [], 0⟩ = r := by have := unhide Hgo; rw [htk] at this; exact this
                have hnb0 : nb = 0 := by rw [unhide Hnbe, hb0]; rfl
                have hI0 := unhide HI
                have hI := hI0.anew
                have y0 : w1.frozen? ⟨pb, 0, none⟩ = false := hI0.box.frozen 0
                have y1 : w1.frozen? ⟨pb, 1, none⟩ = false := hI0.box.frozen 1
                have ts0 : Turn (fun j => j = pb) w1 ((w1.setCell ⟨pb, 0, none⟩ (.slice none 0 0)).setCell ⟨pb, 1, none⟩ (.bool true)) := ((Turn.refl (fun j => j = pb) w1).setCell (p := ⟨pb, 0, none⟩) (.inl rfl) _).setCell (p := ⟨pb, 1, none⟩) (.inl rfl) _
                obtain ⟨wz, hwz⟩ : ∃ wz, wz = (w1.setCell ⟨pb, 0, none⟩ (.slice none 0 0)).setCell ⟨pb, 1, none⟩ (.bool true) := ⟨_, rfl⟩
                rw [← hwz] at hI ts0
                have zc : wz.cell? ⟨pb, 0, none⟩ = some (.slice none 0 0) := hI.box.cell 0
                obtain ⟨v2, w2, r2, ho2, hg2, hk2⟩ := append_lists wz _ (([] : List (Value × List UInt8)).map (·.1)) hI.r _ (sl.map (·.1)) hI.s.sees (by
                  intro u hu
                  obtain ⟨q, hq, rfl⟩ := List.mem_map.1 hu
                  obtain ⟨qo, qc, e⟩ := (hI.each q (.inr hq)).1.shape
                  rw [e]
                  rfl) (by simp; omega)
                have hfin := hI.counts ho2 hg2 hk2
                have tg : Turn (fun j => (Value.slice none 0 0).ownBlock = some j) wz w2 := (Turn.refl _ _).grown hg2 (fun j hj => .inl hj)
                have hbox2 := hI.box.kept tg (fun e => by simp [Value.ownBlock] at e)
                have x0 : w2.cell? ⟨pb, 0, none⟩ = some (.slice none 0 0) := hbox2.cell 0
                have x1 : w2.frozen? ⟨pb, 0, none⟩ = false := hbox2.frozen 0
                have ts : Turn (fun j => j = pb) w2 (w2.setCell ⟨pb, 0, none⟩ v2) := (Turn.refl (fun j => j = pb) w2).setCell (p := ⟨pb, 0, none⟩) (.inl rfl) _
                have hs3 : Sees (w2.setCell ⟨pb, 0, none⟩ v2) (.slice b2o bs2.length b2c) bs2 := (((unhide Hs2).1.kept' ts0 (fun h0 j hj e => by
                  have h1 := unhide Hlie h0 j ((unhide Hs2).2 j hj)
                  have h2 := hI0.new.1
                  omega)).kept' tg (fun h0 j hj e => by simp [Value.ownBlock] at e)).kept' ts (fun h0 j hj e => by
                  have h1 := unhide Hlie h0 j ((unhide Hs2).2 j hj)
                  have h2 := hI0.new.1
                  omega)
                have hnext : PRd w (w2.setCell ⟨pb, 0, none⟩ v2) pb rb r (.slice b2o bs2.length b2c) bs2 v2 (.slice none 0 0) ([] ++ sl) [] ⟨true, p.begun, [], 0⟩ :=
                  ⟨hfin, hs3, fun h0 j hj => unhide Hlie h0 j ((unhide Hs2).2 j hj), ⟨by simp, .inl rfl⟩, hgo2, by simp; omega⟩
                obtain ⟨o2, p2, e2⟩ := ho2.shape'
                simp only [List.length_append, List.length_map, List.length_nil, Nat.zero_add] at e2 r2
                have R2 := hide r2
                have Hn := hide hnext
                have Hwz := hide hwz
                subst e2 h4 hnb0
                clear hnext hs3 tg ts ts0 hfin r2 ho2 hg2 hk2 hI hI0 htk hk0 hgo2 hbox2 hb0 hn h13 h2 hwz
                rcases hk3 with hpk | hpk
                all_goals (
                  rw [hpk]
                  clear hpk
                  go_wp2_with (at_builtin; rw [← unhide Hwz]; refine wpList_append_run rfl (.tmp 71) (.tmp 72) 22 rfl _ _ _ w2 rfl rfl (unhide R2) ?_)
                  go_roundw
                  case rel => exact ⟨_, _, _, _, _, rfl, unhide Hn⟩
                  case measure => have := unhide HL; simp [slen]; omega)
            · have htk : p.take k body = none := by unfold PSt.take; rw [if_neg h13, if_neg h2, if_neg h4]
              have hr0 : none = r := by have := unhide Hgo; rw [htk] at this; exact this
              subst hr0
              have k4 : (k == 4) = false := by simpa using h4
              clear htk hk0 h13 h2 h4
              go_wp2
              refine bodyPost_ret (v := .tuple #[.agg #[.slice ro rl.length rc, .bool p.fresh], .int .i64 5]) (by simp [results, Tryz.results63, go_sem, g0, g1]) rfl ?_
              exact ⟨_, _, _, _, rfl, unhide HE⟩
    · have hz : ((tell bs).err != 0) = true := by simpa using he
      have hgo := hR.goes
      rw [frs_no he] at hgo
      have hrr : some p = r := hgo
      have HE := hide (And.intro hE.1 (And.intro hI.recs hE.2.1))
      subst hke hrr
      clear hgo
      generalize (tell bs).err = er at *
      generalize (tell bs).kind = k at *
      generalize (tell bs).size = sz at *
      generalize (tell bs).body.length = nb at *
      clear hR hI hE ho t1 hnew hsl
      go_wp2
      refine bodyPost_ret (v := .tuple #[.agg #[.slice ro rl.length rc, .bool p.fresh], .int .i64 0]) (by simp [results, Tryz.results63, go_sem, g0, g1]) rfl ?_
      exact ⟨_, _, rfl, (unhide HE).1, (unhide HE).2.1, (unhide HE).2.2⟩

end Go.Proofs.YteomehdkfhjbeaaGreat
