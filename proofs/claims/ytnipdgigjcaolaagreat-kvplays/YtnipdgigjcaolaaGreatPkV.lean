/- What stands below the proof, in one text. -/
import Derived.Test.YtnipdgigjcaolaaGreatPkR
import Derived.Test.YtnipdgigjcaolaaGreatPkG
import Derived.Deep.CutRange
import Derived.Test.YtnipdgigjcaolaaGreatPkJ
import Derived.Deep.CutBlock
import Derived.Test.YtnipdgigjcaolaaGreatPkH
import Derived.Test.YtnipdgigjcaolaaGreatPkF
import Derived.Test.YtnipdgigjcaolaaGreatR5H
import Derived.Deep.RegionHeldLaw
import Derived.Deep.RegionHeld
import Derived.Test.YtnipdgigjcaolaaGreatPkS
import Derived.Test.YtnipdgigjcaolaaGreatPkD
/- The reference's readFile: its walk. -/
namespace Go.Proofs.YtnipdgigjcaolaaGreat
open Go.RowKit

/-- Within the loop. -/
structure PRd (w wr : World) (pb rb : Nat) (r : Option PSt) (b : Value) (bs : List UInt8) (rv sv : Value) (rl sl : List (Value × List UInt8)) (p : PSt) : Prop where
  is : PIs w wr pb rb rv sv rl sl p
  sees : Sees wr b bs
  lie : 0 < bs.length → ∀ j, slab b = some j → j < w.heap.size
  ok : p.Ok
  goes : PSt.takes (frs bs) p = r
  fit : rl.length + sl.length + bs.length ≤ 1099511627776

section
variable {w wr w1 : World} {pb rb : Nat} {rv sv b : Value} {rl sl : List (Value × List UInt8)} {p : PSt} {bs : List UInt8} {r : Option PSt}

theorem PIs.lens (h : PIs w wr pb rb rv sv rl sl p) : ∃ ro rc so sc, rv = .slice ro rl.length rc ∧ sv = .slice so sl.length sc := by
  obtain ⟨ro, rc, e1⟩ := h.r.shape'
  obtain ⟨so, sc, e2⟩ := h.s.shape'
  rw [List.length_map] at e1 e2
  exact ⟨ro, rc, so, sc, e1, e2⟩

end

set_option maxHeartbeats 4000000 in
set_option maxRecDepth 100000 in
theorem readFile_any (v : Value) (bs : List UInt8) (w : World) (hs : Sees w v bs) (hb : bs.length ≤ 1099511627776) :
    Calls Tryz.prog 63 #[v] w (FTo w (PSt.takes (frs bs) PSt.zero)) := by
  obtain ⟨vo, vc, hve⟩ := hs.shape
  have hA := At.new 109 w #[.slice none 0 0, .bool false]
  have t1 : Turn (fun _ => False) w (w.alloc (.cells #[.slice none 0 0, .bool false] 109)) := (Turn.refl _ _).alloc _
  have hz : (w.alloc (.cells #[.slice none 0 0, .bool false] 109)).heap.size = w.heap.size + 1 := Array.size_push _
  have hB := At.new 109 (w.alloc (.cells #[.slice none 0 0, .bool false] 109)) #[.slice none 0 0, .bool false]
  have t2 : Turn (fun _ => False) (w.alloc (.cells #[.slice none 0 0, .bool false] 109)) ((w.alloc (.cells #[.slice none 0 0, .bool false] 109)).alloc (.cells #[.slice none 0 0, .bool false] 109)) := (Turn.refl _ _).alloc _
  rw [hz] at hB
  have hst : PRd w ((w.alloc (.cells #[.slice none 0 0, .bool false] 109)).alloc (.cells #[.slice none 0 0, .bool false] 109)) (w.heap.size + 1) w.heap.size (PSt.takes (frs bs) PSt.zero) v bs (.slice none 0 0) (.slice none 0 0) [] [] PSt.zero :=
    ⟨⟨hB, hA.kept t2 (fun e => e), OwnsC.nil _ _, OwnsC.nil _ _, rfl, rfl, fun j hj => by simp [Value.ownBlock] at hj, fun j hj => by simp [Value.ownBlock] at hj, fun q hq => by simp at hq, ⟨by omega, by omega, by omega⟩, t1.trans t2⟩, hs.kept (t1.trans t2) (fun _ _ e => e), fun h0 j hj => slab_lt hs h0 hj, ⟨by simp [PSt.zero], .inl rfl⟩, rfl, by simpa using hb⟩
  have Hst := hide hst
  generalize PSt.takes (frs bs) PSt.zero = r at *
  subst hve
  have hlm := hs.len
  unfold maxLen at hlm
  clear hst hA hB t1 t2 hz hs
  go_enter Tryz.func63, Tryz.ntmps63
  go_wp2
  go_loopw [0, 5, 6] (fun b sv kd wr => ∃ bs rv rl sl p, kd = .int .i64 p.kind ∧ PRd w wr (w.heap.size + 1) w.heap.size r b bs rv sv rl sl p) (fun b _ _ _ => slen b)
  case atStart => exact ⟨bs, _, _, _, _, rfl, unhide Hst⟩
  case round =>
    clear Hst
    obtain ⟨bs, rv, rl, sl, p, rfl, hR⟩ := hrel
    generalize w.heap.size + 1 = pb at *
    generalize w.heap.size = rb at *
    obtain ⟨bo, bc, hbe⟩ := hR.sees.shape
    obtain ⟨ro, rc, so, sc, hre, hse⟩ := hR.is.lens
    subst hbe hre hse
    have hm := hR.sees.len
    unfold maxLen at hm
    have hfit0 := hR.fit
    have HN := hide (refNext_any6 _ bs wr hR.sees (by omega))
    go_wp2_with fail
    refine (unhide HN).mono ?_
    rintro e w1 ⟨vb, rfl, ho, t1, hnew⟩
    unfold toldValue
    have hI := hR.is.goes t1
    have c0 : w1.cell? ⟨pb, 0, none⟩ = some (.slice ro rl.length rc) := hI.box.cell 0
    have c1 : w1.cell? ⟨pb, 1, none⟩ = some (.bool p.fresh) := hI.box.cell 1
    have d0 : w1.cell? ⟨rb, 0, none⟩ = some (.slice none 0 0) := hI.res.cell 0
    have d1 : w1.cell? ⟨rb, 1, none⟩ = some (.bool false) := hI.res.cell 1
    have f0 : w1.frozen? ⟨rb, 0, none⟩ = false := hI.res.frozen 0
    have f1 : w1.frozen? ⟨rb, 1, none⟩ = false := hI.res.frozen 1
    have hE := hI.ends
    have g0 := hE.2.2.cell 0
    have g1 := hE.2.2.cell 1
    obtain ⟨ko, kc, hke⟩ := ho.shape
    have hsl := ho.slab_eq
    clear HN
    by_cases he : (tell bs).err = 0
    · obtain ⟨z1, z2, z3, z4⟩ := tell_ok he
      have hfr := frs_yes he
      rw [he]
      have hgoes := hR.goes
      rw [hfr, PSt.takes] at hgoes
      obtain ⟨a, hae⟩ : ∃ a, bo = some a := by
        rcases hR.sees with ⟨_, e⟩ | ⟨a, cap, e, _⟩
        · have h0 : bs.length = 0 := by rw [e]; rfl
          omega
        · injection e with e1
          exact ⟨a, e1⟩
      subst hae
      have hcap : bs.length ≤ bc ∧ bc ≤ maxLen := by
        rcases hR.sees with ⟨e, _⟩ | ⟨a, cap, e, h1, h2, _⟩
        · simp at e
        · injection e with e1 e2 e3
          subst e3
          exact ⟨h1, h2⟩
      obtain ⟨hcap, hcm⟩ := hcap
      unfold maxLen at hcm
      obtain ⟨sz, hsze⟩ : ∃ sz : Nat, (tell bs).size = (sz : Int) := ⟨_, (Int.toNat_of_nonneg z3).symm⟩
      have hszn : (tell bs).size.toNat = sz := by omega
      rw [hszn] at z1 z2 hgoes
      have hdl : (bs.drop sz).length = bs.length - sz := List.length_drop
      have hlie : 0 < (bs.drop sz).length → ∀ j, a.block = j → j < w.heap.size := fun h0 j hj => hR.lie (by omega) j (by simp [slab, hj])
      have HB2 := hide (fun (a2 : Addr) (ha : a2 = a.add sz ∨ (sz = bc ∧ a2 = a)) => (And.intro ((hR.sees.behind sz z2 a2 (ha.imp id (fun h => h.1))).kept t1 (fun _ _ e => e)) (show a2.block = a.block by
        rcases ha with ha | ha
        · rw [ha, addr_add_block]
        · rw [ha.2])))
      have hwr := hR.is.turn.size
      have hpl := hR.is.box.lt
      have hrlt := hR.is.res.lt
      have hnb : 0 < (tell bs).body.length → ∀ j, slab vb = some j → w.heap.size ≤ j ∧ j < w1.heap.size ∧ j ≠ pb ∧ j ≠ rb ∧ (Value.slice ro rl.length rc).ownBlock ≠ some j ∧ (Value.slice so sl.length sc).ownBlock ≠ some j := fun h0 j hj => by
        have h1 := hnew j (hsl ▸ hj)
        exact ⟨by omega, slab_lt ho.sees h0 hj, by omega, by omega, fun e => by have := hR.is.r.lt e; omega, fun e => by have := hR.is.s.lt e; omega⟩
      have hfit2 : rl.length + sl.length + 1 + (bs.drop sz).length ≤ 1099511627776 := by omega
      have Hlie := hide hlie
      have Hnb := hide hnb
      have HI := hide hI
      have Hgo := hide hgoes
      have Hok := hide hR.ok
      have HE := hide hE.2.1
      have hvbs := ho.sees
      rw [hsze]
      generalize (tell bs).body = body at *
      generalize (tell bs).kind = k at *
      generalize hbs2 : bs.drop sz = bs2 at *
      generalize hle : bs.length = len at *
      have HL := hide hle
      have q1 : (sz : Int) ≤ len := by omega
      have q2 : (len : Int) ≤ bc := by omega
      have q3 : sz ≤ bc := by omega
      have hbl : body.length ≤ 1048576 := z4
      have Hv := hide hvbs
      obtain ⟨nb, hnbe⟩ : ∃ nb, nb = body.length := ⟨_, rfl⟩
      rw [← hnbe] at hke hbl
      have Hnbe := hide hnbe
      subst hke
      clear hle hbs2 hR hI hE ho t1 hnew hsl hnb hlie hfr he hsze hszn z3 z4 hcm hvbs hnbe hgoes hpl hrlt hwr
      go_upto_region 7 with fail
      go_cut [0] from 21 to 23 (fun b2 wx => wx = w1 ∧ Sees w1 b2 bs2 ∧ (∀ j, slab b2 = some j → a.block = j) ∧ slen b2 < len)
      case first =>
        by_cases hc : bc = sz
        · subst hc
          have hst := unhide HB2 a (.inr ⟨rfl, rfl⟩)
          rw [Nat.sub_self, show len - bc = 0 by omega] at hst
          have Hst := hide hst
          clear hst HB2
          go_wp2
          go_meet
          case rel => exact ⟨rfl, (unhide Hst).1, fun j hj => by simpa [slab] using hj, by simp [slen]; omega⟩
        · have hst := unhide HB2 (a.add sz) (.inl rfl)
          have Hst := hide hst
          clear hst HB2
          go_wp2
          go_meet
          case rel => exact ⟨rfl, (unhide Hst).1, fun j hj => by simp only [slab, Option.some.injEq] at hj; rw [← hj]; exact (unhide Hst).2.symm, by simp [slen]; omega⟩
      case rest =>
        obtain ⟨hwz, hs2, hb2, hsl2⟩ := hcut
        rw [hwz]
        clear hwz
        obtain ⟨b2o, b2c, hb2e⟩ := hs2.shape
        subst hb2e
        have Hs2 := hide (And.intro hs2 hb2)
        have hk0 := (unhide Hok).2
        have hsl3 : bs2.length < len := by simpa [slen] using hsl2
        clear hs2 hb2 hsl2 hdl
        by_cases h13 : k = 1 ∨ k = 3
        · by_cases hf : p.kind ≠ 0 ∧ p.kind ≠ k
          · have htk : p.take k body = none := by unfold PSt.take; rw [if_pos h13, if_pos hf]
            have hr0 : none = r := by have := unhide Hgo; rw [htk] at this; exact this
            subst hr0
            have y1 : (p.kind != 0) = true := by simpa using hf.1
            have y2 : (p.kind != k) = true := by simpa using hf.2
            clear htk hf hk0
            generalize p.kind = pk at *
            rcases h13 with rfl | rfl
            all_goals (
              go_wp2
              refine bodyPost_ret (v := .tuple #[.agg #[.slice ro rl.length rc, .bool p.fresh], .int .i64 5]) (by simp [results, Tryz.results63, go_sem, g0, g1]) rfl ?_
              exact ⟨_, _, _, _, rfl, unhide HE⟩)
          · have htk : p.take k body = some ⟨p.fresh, p.recs, p.begun ++ [body], k⟩ := by unfold PSt.take; rw [if_pos h13, if_neg hf]
            have hgo2 : PSt.takes (frs bs2) ⟨p.fresh, p.recs, p.begun ++ [body], k⟩ = r := by have := unhide Hgo; rw [htk] at this; exact this
            have hI := unhide HI
            have ta : Turn (fun _ => False) w1 (w1.alloc (.cells #[.slice ko nb kc] 29)) := (Turn.refl _ _).alloc _
            have hlit := SeesC.lit w1 [.slice ko nb kc] 29 (by simp [maxLen])
            have hI2 := hI.goes ta
            obtain ⟨v2, w2, r2, ho2, hg2, hk2⟩ := append_lists _ _ (sl.map (·.1)) hI2.s _ [.slice ko nb kc] hlit (by intro u hu; simp at hu; rw [hu]; rfl) (by simp; omega)
            have hfin := hI2.begin' ((unhide Hv).kept ta (fun _ _ e => e)) (fun h0 j hj => by
              obtain ⟨a1, a2, a3⟩ := unhide Hnb h0 j hj
              exact ⟨a1, Nat.lt_of_lt_of_le a2 ta.size, a3⟩) ho2 hg2 hk2 k
            have tg : Turn (fun j => (Value.slice so sl.length sc).ownBlock = some j) _ w2 := (Turn.refl _ _).grown hg2 (fun j hj => .inl hj)
            have hs3 : Sees w2 (.slice b2o bs2.length b2c) bs2 := ((unhide Hs2).1.kept ta (fun _ _ e => e)).kept' tg (fun h0 j hj e => by
              have h1 := unhide Hlie h0 j ((unhide Hs2).2 j hj)
              have h2 := (hI.ins j e).1
              omega)
            have hnext : PRd w w2 pb rb r (.slice b2o bs2.length b2c) bs2 _ v2 rl (sl ++ [(.slice ko nb kc, body)]) ⟨p.fresh, p.recs, p.begun ++ [body], k⟩ :=
              ⟨hfin, hs3, fun h0 j hj => unhide Hlie h0 j ((unhide Hs2).2 j hj), ⟨by simp; omega, by simp only; omega⟩, hgo2, by rw [List.length_append]; simp; omega⟩
            obtain ⟨o2, p2, e2⟩ := ho2.shape'
            simp only [List.length_append, List.length_map, List.length_cons, List.length_nil, Nat.zero_add] at e2 r2
            have R2 := hide r2
            have Hn := hide hnext
            subst e2
            have hcase : p.kind = 0 ∨ (p.kind ≠ 0 ∧ p.kind = k) := by omega
            clear hnext hs3 tg hfin r2 ho2 hg2 hk2 hI2 hlit ta hI htk hf hk0 hgo2
            rcases hcase with hpk | ⟨hpk0, hpk⟩
            · rw [hpk]
              rcases h13 with rfl | rfl
              all_goals (
                clear hpk
                go_wp2_with (at_builtin; refine wpList_append_run rfl (.tmp 38) (.tmp 40) 22 rfl _ _ _ w2 rfl rfl (unhide R2) ?_)
                go_roundw
                case rel => exact ⟨_, _, _, _, _, rfl, unhide Hn⟩
                case measure => have := unhide HL; simp [slen]; omega)
            · rw [hpk]
              have y1 : (k != 0) = true := by rw [hpk] at hpk0; simpa using hpk0
              rcases h13 with rfl | rfl
              all_goals (
                clear hpk hpk0
                go_wp2_with (at_builtin; refine wpList_append_run rfl (.tmp 38) (.tmp 40) 22 rfl _ _ _ w2 rfl rfl (unhide R2) ?_)
                go_roundw
                case rel => exact ⟨_, _, _, _, _, rfl, unhide Hn⟩
                case measure => have := unhide HL; simp [slen]; omega)
        · have k1 : (k == 1) = false := by simp; omega
          have k3 : (k == 3) = false := by simp; omega
          by_cases h2 : k = 2
          · by_cases hn : p.kind ≠ 1 ∨ body ≠ []
            · have htk : p.take k body = none := by unfold PSt.take; rw [if_neg h13, if_pos h2, if_pos hn]
              have hr0 : none = r := by have := unhide Hgo; rw [htk] at this; exact this
              subst hr0
              have hcase : p.kind = 0 ∧ nb = 0 ∨ p.kind = 3 ∨ (p.kind = 1 ∨ p.kind = 0) ∧ 0 < nb := by
                have hz : body = [] ↔ nb = 0 := by rw [unhide Hnbe]; exact List.length_eq_zero_iff.symm
                rcases hk0 with e | e | e
                · by_cases h0 : nb = 0
                  · exact .inl ⟨e, h0⟩
                  · exact .inr (.inr ⟨.inr e, by omega⟩)
                · refine .inr (.inr ⟨.inl e, ?_⟩)
                  have : body ≠ [] := by
                    rcases hn with hn | hn
                    · exact absurd e hn
                    · exact hn
                  have : ¬ nb = 0 := fun e2 => this (hz.2 e2)
                  omega
                · exact .inr (.inl e)
              subst h2
              clear htk hn hk0 h13
              rcases hcase with ⟨hpk, hnb0⟩ | hpk | ⟨hpk, hnb0⟩
              · rw [hpk]
                subst hnb0
                clear hpk
                go_wp2
                refine bodyPost_ret (v := .tuple #[.agg #[.slice ro rl.length rc, .bool p.fresh], .int .i64 5]) (by simp [results, Tryz.results63, go_sem, g0, g1]) rfl ?_
                exact ⟨_, _, _, _, rfl, unhide HE⟩
              · rw [hpk]
                clear hpk
                go_wp2
                refine bodyPost_ret (v := .tuple #[.agg #[.slice ro rl.length rc, .bool p.fresh], .int .i64 5]) (by simp [results, Tryz.results63, go_sem, g0, g1]) rfl ?_
                exact ⟨_, _, _, _, rfl, unhide HE⟩
              · have y5 : (0 : Int) < nb := by omega
                rcases hpk with hpk | hpk
                all_goals (
                  rw [hpk]
                  clear hpk
                  go_wp2
                  refine bodyPost_ret (v := .tuple #[.agg #[.slice ro rl.length rc, .bool p.fresh], .int .i64 5]) (by simp [results, Tryz.results63, go_sem, g0, g1]) rfl ?_
                  exact ⟨_, _, _, _, rfl, unhide HE⟩)
            · have hk1 : p.kind = 1 := Decidable.byContradiction (fun e => hn (.inl e))
              have hb0 : body = [] := Decidable.byContradiction (fun e => hn (.inr e))
              have htk : p.take k body = some ⟨p.fresh, p.recs ++ p.begun, [], 0⟩ := by unfold PSt.take; rw [if_neg h13, if_pos h2, if_neg hn]
              have hgo2 : PSt.takes (frs bs2) ⟨p.fresh, p.recs ++ p.begun, [], 0⟩ = r := by have := unhide Hgo; rw [htk] at this; exact this
              have hnb0 : nb = 0 := by rw [unhide Hnbe, hb0]; rfl
              have hI := unhide HI
              obtain ⟨v2, w2, r2, ho2, hg2, hk2⟩ := append_lists w1 _ (rl.map (·.1)) hI.r _ (sl.map (·.1)) hI.s.sees (by
                intro u hu
                obtain ⟨q, hq, rfl⟩ := List.mem_map.1 hu
                obtain ⟨qo, qc, e⟩ := (hI.each q (.inr hq)).1.shape
                rw [e]
                rfl) (by simp; omega)
              have hfin := hI.counts ho2 hg2 hk2
              have tg : Turn (fun j => (Value.slice ro rl.length rc).ownBlock = some j) w1 w2 := (Turn.refl _ _).grown hg2 (fun j hj => .inl hj)
              have hbox2 := hI.box.kept tg (fun e => (hI.inr _ e).2.1 rfl)
              have x0 : w2.cell? ⟨pb, 0, none⟩ = some (.slice ro rl.length rc) := hbox2.cell 0
              have x1 : w2.frozen? ⟨pb, 0, none⟩ = false := hbox2.frozen 0
              have ts : Turn (fun j => j = pb) w2 (w2.setCell ⟨pb, 0, none⟩ v2) := (Turn.refl (fun j => j = pb) w2).setCell (p := ⟨pb, 0, none⟩) (.inl rfl) _
              have hs3 : Sees (w2.setCell ⟨pb, 0, none⟩ v2) (.slice b2o bs2.length b2c) bs2 := ((unhide Hs2).1.kept' tg (fun h0 j hj e => by
                have h1 := unhide Hlie h0 j ((unhide Hs2).2 j hj)
                have h2 := (hI.inr j e).1
                omega)).kept' ts (fun h0 j hj e => by
                have h1 := unhide Hlie h0 j ((unhide Hs2).2 j hj)
                have h2 := hI.new.1
                omega)
              have hnext : PRd w (w2.setCell ⟨pb, 0, none⟩ v2) pb rb r (.slice b2o bs2.length b2c) bs2 v2 (.slice none 0 0) (rl ++ sl) [] ⟨p.fresh, p.recs ++ p.begun, [], 0⟩ :=
                ⟨hfin, hs3, fun h0 j hj => unhide Hlie h0 j ((unhide Hs2).2 j hj), ⟨by simp, .inl rfl⟩, hgo2, by rw [List.length_append]; simp; omega⟩
              obtain ⟨o2, p2, e2⟩ := ho2.shape'
              simp only [List.length_append, List.length_map] at e2 r2
              have R2 := hide r2
              have Hn := hide hnext
              subst e2 h2 hnb0
              rw [hk1]
              clear hnext hs3 tg ts hfin r2 ho2 hg2 hk2 hI htk hk0 hgo2 hbox2 hk1 hb0 hn h13
              go_wp2_with (at_builtin; refine wpList_append_run rfl (.tmp 71) (.tmp 72) 22 rfl _ _ _ w2 rfl rfl (unhide R2) ?_)
              go_roundw
              case rel => exact ⟨_, _, _, _, _, rfl, unhide Hn⟩
              case measure => have := unhide HL; simp [slen]; omega
          · have k2 : (k == 2) = false := by simpa using h2
            by_cases h4 : k = 4
            · by_cases hn : (p.kind ≠ 0 ∧ p.kind ≠ 3) ∨ body ≠ []
              · have htk : p.take k body = none := by unfold PSt.take; rw [if_neg h13, if_neg h2, if_pos h4, if_pos hn]
                have hr0 : none = r := by have := unhide Hgo; rw [htk] at this; exact this
                subst hr0
                have hcase : p.kind = 1 ∨ (p.kind = 0 ∨ p.kind = 3) ∧ 0 < nb := by
                  have hz : body = [] ↔ nb = 0 := by rw [unhide Hnbe]; exact List.length_eq_zero_iff.symm
                  have hnz : (p.kind = 0 ∨ p.kind = 3) → 0 < nb := fun e => by
                    have : body ≠ [] := by
                      rcases hn with hn | hn
                      · omega
                      · exact hn
                    have : ¬ nb = 0 := fun e2 => this (hz.2 e2)
                    omega
                  rcases hk0 with e | e | e
                  · exact .inr ⟨.inl e, hnz (.inl e)⟩
                  · exact .inl e
                  · exact .inr ⟨.inr e, hnz (.inr e)⟩
                subst h4
                clear htk hn hk0 h13 h2
                rcases hcase with hpk | ⟨hpk, hnb0⟩
                · rw [hpk]
                  clear hpk
                  go_wp2
                  refine bodyPost_ret (v := .tuple #[.agg #[.slice ro rl.length rc, .bool p.fresh], .int .i64 5]) (by simp [results, Tryz.results63, go_sem, g0, g1]) rfl ?_
                  exact ⟨_, _, _, _, rfl, unhide HE⟩
                · have y5 : (0 : Int) < nb := by omega
                  rcases hpk with hpk | hpk
                  all_goals (
                    rw [hpk]
                    clear hpk
                    go_wp2
                    refine bodyPost_ret (v := .tuple #[.agg #[.slice ro rl.length rc, .bool p.fresh], .int .i64 5]) (by simp [results, Tryz.results63, go_sem, g0, g1]) rfl ?_
                    exact ⟨_, _, _, _, rfl, unhide HE⟩)
              · have hb0 : body = [] := Decidable.byContradiction (fun e => hn (.inr e))
                have hk3 : p.kind = 0 ∨ p.kind = 3 := by
                  have : ¬ (p.kind ≠ 0 ∧ p.kind ≠ 3) := fun e => hn (.inl e)
                  omega
                have htk : p.take k body = some ⟨true, p.begun, [], 0⟩ := by unfold PSt.take; rw [if_neg h13, if_neg h2, if_pos h4, if_neg hn]
                have hgo2 : PSt.takes (frs bs2) ⟨true, p.begun, [], 0⟩ = r := by have := unhide Hgo; rw [htk] at this; exact this
                have hnb0 : nb = 0 := by rw [unhide Hnbe, hb0]; rfl
                have hI0 := unhide HI
                have hI := hI0.anew
                have y0 : w1.frozen? ⟨pb, 0, none⟩ = false := hI0.box.frozen 0
                have y1 : w1.frozen? ⟨pb, 1, none⟩ = false := hI0.box.frozen 1
                have ts0 : Turn (fun j => j = pb) w1 ((w1.setCell ⟨pb, 0, none⟩ (.slice none 0 0)).setCell ⟨pb, 1, none⟩ (.bool true)) := ((Turn.refl (fun j => j = pb) w1).setCell (p := ⟨pb, 0, none⟩) (.inl rfl) _).setCell (p := ⟨pb, 1, none⟩) (.inl rfl) _
                obtain ⟨wz, hwz⟩ : ∃ wz, wz = (w1.setCell ⟨pb, 0, none⟩ (.slice none 0 0)).setCell ⟨pb, 1, none⟩ (.bool true) := ⟨_, rfl⟩
                rw [← hwz] at hI ts0
                have zc : wz.cell? ⟨pb, 0, none⟩ = some (.slice none 0 0) := hI.box.cell 0
                obtain ⟨v2, w2, r2, ho2, hg2, hk2⟩ := append_lists wz _ (([] : List (Value × List UInt8)).map (·.1)) hI.r _ (sl.map (·.1)) hI.s.sees (by
                  intro u hu
                  obtain ⟨q, hq, rfl⟩ := List.mem_map.1 hu
                  obtain ⟨qo, qc, e⟩ := (hI.each q (.inr hq)).1.shape
                  rw [e]
                  rfl) (by simp; omega)
                have hfin := hI.counts ho2 hg2 hk2
                have tg : Turn (fun j => (Value.slice none 0 0).ownBlock = some j) wz w2 := (Turn.refl _ _).grown hg2 (fun j hj => .inl hj)
                have hbox2 := hI.box.kept tg (fun e => by simp [Value.ownBlock] at e)
                have x0 : w2.cell? ⟨pb, 0, none⟩ = some (.slice none 0 0) := hbox2.cell 0
                have x1 : w2.frozen? ⟨pb, 0, none⟩ = false := hbox2.frozen 0
                have ts : Turn (fun j => j = pb) w2 (w2.setCell ⟨pb, 0, none⟩ v2) := (Turn.refl (fun j => j = pb) w2).setCell (p := ⟨pb, 0, none⟩) (.inl rfl) _
                have hs3 : Sees (w2.setCell ⟨pb, 0, none⟩ v2) (.slice b2o bs2.length b2c) bs2 := (((unhide Hs2).1.kept' ts0 (fun h0 j hj e => by
                  have h1 := unhide Hlie h0 j ((unhide Hs2).2 j hj)
                  have h2 := hI0.new.1
                  omega)).kept' tg (fun h0 j hj e => by simp [Value.ownBlock] at e)).kept' ts (fun h0 j hj e => by
                  have h1 := unhide Hlie h0 j ((unhide Hs2).2 j hj)
                  have h2 := hI0.new.1
                  omega)
                have hnext : PRd w (w2.setCell ⟨pb, 0, none⟩ v2) pb rb r (.slice b2o bs2.length b2c) bs2 v2 (.slice none 0 0) ([] ++ sl) [] ⟨true, p.begun, [], 0⟩ :=
                  ⟨hfin, hs3, fun h0 j hj => unhide Hlie h0 j ((unhide Hs2).2 j hj), ⟨by simp, .inl rfl⟩, hgo2, by simp; omega⟩
                obtain ⟨o2, p2, e2⟩ := ho2.shape'
                simp only [List.length_append, List.length_map, List.length_nil, Nat.zero_add] at e2 r2
                have R2 := hide r2
                have Hn := hide hnext
                have Hwz := hide hwz
                subst e2 h4 hnb0
                clear hnext hs3 tg ts ts0 hfin r2 ho2 hg2 hk2 hI hI0 htk hk0 hgo2 hbox2 hb0 hn h13 h2 hwz
                rcases hk3 with hpk | hpk
                all_goals (
                  rw [hpk]
                  clear hpk
                  go_wp2_with (at_builtin; rw [← unhide Hwz]; refine wpList_append_run rfl (.tmp 71) (.tmp 72) 22 rfl _ _ _ w2 rfl rfl (unhide R2) ?_)
                  go_roundw
                  case rel => exact ⟨_, _, _, _, _, rfl, unhide Hn⟩
                  case measure => have := unhide HL; simp [slen]; omega)
            · have htk : p.take k body = none := by unfold PSt.take; rw [if_neg h13, if_neg h2, if_neg h4]
              have hr0 : none = r := by have := unhide Hgo; rw [htk] at this; exact this
              subst hr0
              have k4 : (k == 4) = false := by simpa using h4
              clear htk hk0 h13 h2 h4
              go_wp2
              refine bodyPost_ret (v := .tuple #[.agg #[.slice ro rl.length rc, .bool p.fresh], .int .i64 5]) (by simp [results, Tryz.results63, go_sem, g0, g1]) rfl ?_
              exact ⟨_, _, _, _, rfl, unhide HE⟩
    · have hz : ((tell bs).err != 0) = true := by simpa using he
      have hgo := hR.goes
      rw [frs_no he] at hgo
      have hrr : some p = r := hgo
      have HE := hide (And.intro hE.1 (And.intro hI.recs hE.2.1))
      subst hke hrr
      clear hgo
      generalize (tell bs).err = er at *
      generalize (tell bs).kind = k at *
      generalize (tell bs).size = sz at *
      generalize (tell bs).body.length = nb at *
      clear hR hI hE ho t1 hnew hsl
      go_wp2
      refine bodyPost_ret (v := .tuple #[.agg #[.slice ro rl.length rc, .bool p.fresh], .int .i64 0]) (by simp [results, Tryz.results63, go_sem, g0, g1]) rfl ?_
      exact ⟨_, _, rfl, (unhide HE).1, (unhide HE).2.1, (unhide HE).2.2⟩

end Go.Proofs.YtnipdgigjcaolaaGreat

/- The reference's OpenLog. -/
namespace Go.Proofs.YtnipdgigjcaolaaGreat
open Go.RowKit

theorem PSt.take_len {p p' : PSt} {k : Int} {body : List UInt8} (e : p.take k body = some p') : p'.recs.length + p'.begun.length ≤ p.recs.length + p.begun.length + 1 := by
  unfold PSt.take at e
  split at e
  · split at e
    · simp at e
    · injection e with e
      subst e
      simp
      omega
  · split at e
    · split at e
      · simp at e
      · injection e with e
        subst e
        simp
    · split at e
      · split at e
        · simp at e
        · injection e with e
          subst e
          simp
          omega
      · simp at e

theorem PSt.takes_len : ∀ {l : List (Int × List UInt8)} {p p' : PSt}, PSt.takes l p = some p' → p'.recs.length + p'.begun.length ≤ p.recs.length + p.begun.length + l.length
  | [], p, p', e => by
    injection e with e
    subst e
    simp
  | x :: r, p, p', e => by
    rw [PSt.takes] at e
    split at e
    · simp at e
    · rename_i p1 e1
      have := PSt.take_len e1
      have := PSt.takes_len e
      rw [List.length_cons]
      omega

theorem part_len {bs : List UInt8} {p : PSt} (e : PSt.takes (frs bs) PSt.zero = some p) : p.recs.length ≤ bs.length := by
  have h1 := PSt.takes_len e
  have h2 := frs_len _ bs (Nat.le_refl _)
  have h3 : PSt.zero.recs.length + PSt.zero.begun.length = 0 := rfl
  omega

theorem openR_append (rd : Fs) (a b : List Int) (x : OSt) : openR rd (a ++ b) x = (openR rd a x).bind (openR rd b) := by
  induction a generalizing x with
  | nil => rfl
  | cons k r ih =>
    rw [List.cons_append, openR, openR]
    split
    · rfl
    · exact ih _

theorem openR_no {rd : Fs} {l : List Int} {n : Nat} {k : Int} {x o : OSt} (h0 : openR rd (l.take n) x = some o) (hk : l[n]? = some k) (h1 : PSt.takes (frs (rd k)) PSt.zero = none) : openR rd l x = none := by
  obtain ⟨e1, e2⟩ := List.getElem?_eq_some_iff.1 hk
  have e3 : l = l.take n ++ k :: l.drop (n + 1) := by rw [← e2, List.getElem_cons_drop]; simp
  rw [e3, openR_append, h0]
  show openR rd (k :: _) o = none
  rw [openR, h1]

theorem openR_yes {rd : Fs} {l : List Int} {n : Nat} {k : Int} {x o : OSt} {p : PSt} (h0 : openR rd (l.take n) x = some o) (hk : l[n]? = some k) (h1 : PSt.takes (frs (rd k)) PSt.zero = some p) : openR rd (l.take (n + 1)) x = some (o.file k p) := by
  obtain ⟨e1, e2⟩ := List.getElem?_eq_some_iff.1 hk
  rw [List.take_succ_eq_append_getElem e1, e2, openR_append, h0]
  show openR rd [k] o = _
  rw [openR, h1]
  rfl

theorem openR_len {rd : Fs} {B : Nat} (hB : ∀ k, (rd k).length ≤ B) : ∀ {l : List Int} {x y : OSt}, openR rd l x = some y → y.out.length ≤ x.out.length + l.length * B
  | [], x, y, e => by
    injection e with e
    subst e
    simp
  | k :: r, x, y, e => by
    rw [openR] at e
    split at e
    · simp at e
    · rename_i p e1
      have h2 := part_len e1
      have h3 := openR_len hB e
      have h4 := hB k
      have h5 : (x.file k p).out.length ≤ x.out.length + p.recs.length := by
        unfold OSt.file
        simp only [List.length_append]
        split <;> simp
      rw [List.length_cons, Nat.add_mul]
      omega

theorem i64s_get6 (ks : List Int) (n : Nat) (k : Int) (h : ks[n]? = some k) : (i64s ks)[n]? = some (.int .i64 k) := by simp [i64s, h]

/-- Files are removed, whatever is told. -/
def RSt.goneR (s : RSt) (l : List Int) : RSt := l.foldl (fun s k => (s.rem k).2) s

theorem goneR_snoc (s : RSt) (l : List Int) (k : Int) : s.goneR (l ++ [k]) = ((s.goneR l).rem k).2 := by simp [RSt.goneR]

section
variable {Q K : Nat → Prop} {w wr : World} {v b : Value} {la lb : List (Value × List UInt8)} {rb M B : Nat} {s : RSt}

theorem rread_len (hf : RFit M B s) (k : Int) : (s.read k).length ≤ B := by
  unfold RSt.read
  split
  · simp
  · have := hf.file k.toNat s.pend.length
    rw [List.take_length] at this
    unfold fil5
    split
    · exact this
    · simp

/-- Records behind records in the making. -/
theorem RM.cats (h : RM Q w v la wr) (hb : RL K wr b lb) (hq : ∀ j, K j → (Q j ∨ w.heap.size ≤ j) ∧ j < wr.heap.size ∧ v.ownBlock ≠ some j) (hlen : la.length + lb.length ≤ 1099511627776) :
    ∃ v2 w2, (Builtin.append_ #[22, 22] 22 #[v, b]).run Tryz.prog wr = .ok v2 w2 ∧ RM Q w v2 (la ++ lb) w2 ∧ wr.grownBy w2 v.ownBlock ∧ (v2.ownBlock = v.ownBlock ∨ v2.ownBlock = some wr.heap.size) := by
  obtain ⟨v2, w2, hr, ho, hg, hk⟩ := append_lists wr v (la.map (·.1)) h.own b (lb.map (·.1)) hb.sees hb.one (by simp; omega)
  exact ⟨v2, w2, hr, h.more (fun p hp => ⟨(hb.each p hp).1, fun h0 j hj => hq j ((hb.each p hp).2 h0 j hj)⟩) ho hg hk, hg, hk⟩

/-- What OpenLog comes to. -/
def ROTo (Q : Nat → Prop) (w : World) (rb : Nat) (s : RSt) (ns : List Int) (r : Option OSt) (e : Ending) (w' : World) : Prop :=
  match r with
  | none => e = .returned (.tuple #[.pointer none, .slice none 0 0, .int .i64 5]) ∧ Turn (fun _ => False) w w'
  | some o => ∃ l rv rl, ∃ Q' : Nat → Prop, e = .returned (.tuple #[.pointer (some ⟨l, 0, none⟩), rv, .int .i64 0]) ∧ RDk Q' w' rb (s.goneR (ns.filter (· < o.since))) ∧ RL (fun j => w.heap.size ≤ j) w' rv rl ∧ rl.map (·.2) = o.out ∧ (∀ j, Q' j → Q j ∨ w.heap.size ≤ j) ∧ Turn (fun j => j = rb) w w'

def ROpTo (Q : Nat → Prop) (w : World) (rb : Nat) (s : RSt) (e : Ending) (w' : World) : Prop := ∃ ns, s.Nums ns ∧ ROTo Q w rb s ns (openR s.read ns ⟨[], -1, 0⟩) e w'

/-- Within the first loop. -/
structure ROn (Q : Nat → Prop) (w wr : World) (rb : Nat) (s : RSt) (fv : Value) (ns : List Int) (out : Value) (rl : List (Value × List UInt8)) (o : OSt) : Prop where
  rm : RM (fun _ => False) w out rl wr
  is : rl.map (·.2) = o.out
  files : OwnsC 3 wr fv (i64s ns)
  fnew : ∀ j, fv.ownBlock = some j → w.heap.size ≤ j ∧ out.ownBlock ≠ some j

set_option maxHeartbeats 4000000 in
set_option maxRecDepth 100000 in
theorem openLog_any (seg : Int) (h : RDk Q w rb s) (hf : RFit M B s) (hd : s.dead = false) (hs0 : 256 ≤ seg) (hs1 : seg ≤ 1048576) (hB : (M + 1) * B ≤ 1099511627776) (hrm : ∀ l : List Int, (∀ k ∈ l, s.read k ≠ []) → l.length ≤ M → RFit M B (s.goneR l) ∧ (s.goneR l).works ≤ 1073741822) (hlo : ∀ k, s.read k ≠ [] → 0 ≤ k ∧ k ≤ 1099511627776) :
    Calls Tryz.prog 19 #[.pointer (some ⟨rb, 0, none⟩), .int .i64 seg] w (ROpTo Q w rb s) := by
  have hfl := rread_len hf
  have hmax := hf.max
  have c3 : w.cell? ⟨rb, 3, none⟩ = some (.bool false) := by
    obtain ⟨kv, pv, kl, pl, h1⟩ := h
    have := h1.head.cell 3
    rw [hd] at this
    exact this
  have q1 : decide (seg < 256) = false := by simp; omega
  have q2 : decide (1048576 < seg) = false := by simp; omega
  have HF := hide (rfiles_any h hf)
  have HD := hide (And.intro h (And.intro hf (And.intro hfl (And.intro hB (And.intro hrm hlo)))))
  clear h hf hfl hB hrm hlo hd
  go_enter Tryz.func19, Tryz.ntmps19
  go_wp2_with fail
  refine (unhide HF).mono ?_
  rintro e w1 ⟨fv, ns, rfl, hm, hn, hnM⟩
  obtain ⟨fo, fc, rfl⟩ := hm.shape
  have hst : ROn Q w w1 rb s (.slice fo ns.length fc) ns (.slice none 0 0) [] ⟨[], -1, 0⟩ := ⟨(RM.nil _ w).goes hm.2.1, rfl, hm.1, fun j hj => ⟨hm.2.2 j hj, by simp [Value.ownBlock]⟩⟩
  have Hst := hide hst
  have HN := hide hn
  clear hst hm hn HF c3
  go_wp2_with fail
  go_loopw [8, 9, 10, 11] (fun out fr nx i wr => ∃ (n : Nat) (o : OSt) (rl : List (Value × List UInt8)), i = .int .i64 n ∧ n ≤ ns.length ∧ fr = .int .i64 o.since ∧ nx = .int .i64 o.next ∧ openR s.read (ns.take n) ⟨[], -1, 0⟩ = some o ∧ ROn Q w wr rb s (.slice fo ns.length fc) ns out rl o) (fun _ _ _ i _ => ns.length - (intOf i).toNat)
  case atStart => exact ⟨0, _, [], rfl, by omega, rfl, rfl, rfl, unhide Hst⟩
  case round =>
    clear Hst
    obtain ⟨n, o, rl, rfl, hnl, rfl, rfl, hop, hR⟩ := hrel
    have hrk := (unhide HD).1.keeps hR.rm.turn (fun _ _ e => e) (fun e => e)
    have hrb : rb < w.heap.size := by
      obtain ⟨kv, pv, kl, pl, h1⟩ := (unhide HD).1
      exact h1.head.lt
    obtain ⟨oo, oc, hoe⟩ := hR.rm.shape
    have HOp := hide hop
    by_cases hlt : n < ns.length
    · obtain ⟨k, hk⟩ : ∃ k, ns[n]? = some k := ⟨_, List.getElem?_eq_getElem hlt⟩
      have hkm : s.read k ≠ [] := ((unhide HN).2 k).1 (List.mem_of_getElem? hk)
      have hkb := (unhide HD).2.2.2.2.2 k hkm
      have hcl := i64s_get6 ns n k hk
      obtain ⟨g, hfo⟩ : ∃ g, fo = some ⟨g, 0, none⟩ := by
        rcases hR.files.shape with ⟨h0, h1⟩ | ⟨g, cap', h0, _⟩
        · rw [h1] at hcl; simp at hcl
        · injection h0 with e1; exact ⟨g, e1⟩
      subst hfo
      have hcell : ∀ wz, OwnsC 3 wz (.slice (some ⟨g, 0, none⟩) ns.length fc) (i64s ns) → wz.cell? ⟨g, n, none⟩ = some (.int .i64 k) := fun wz ho => by
        rcases ho.sees with ⟨h0, _⟩ | ⟨a, cap, e, _, _, hc⟩
        · simp at h0
        · simp only [Value.slice.injEq, Option.some.injEq] at e
          have := hc n _ hcl
          rwa [← e.1, addr_lit, Nat.zero_add] at this
      have x1 := hcell wr hR.files
      have x2 : (n : Int) < ns.length := by omega
      have HRd := hide (rread_any k hrk (unhide HD).2.1)
      have Hcell := hide hcell
      have Hk := hide hk
      have HR := hide hR
      have hrn : rl.length ≤ n * B := by
        have h1 := openR_len (unhide HD).2.2.1 (unhide HOp)
        have h2 := congrArg List.length hR.is
        rw [List.length_map] at h2
        have h3 : (ns.take n).length * B ≤ n * B := Nat.mul_le_mul_right B (by rw [List.length_take]; omega)
        simp only [List.length_nil] at h1
        omega
      have hsum : rl.length + (s.read k).length ≤ 1099511627776 := by
        have h1 := (unhide HD).2.2.1 k
        have h2 : n * B + B ≤ (M + 1) * B := by
          have : (n + 1) * B ≤ (M + 1) * B := Nat.mul_le_mul_right B (by omega)
          rwa [Nat.succ_mul] at this
        have h3 := (unhide HD).2.2.2.1
        omega
      have hlenR : (s.read k).length ≤ 1099511627776 := by omega
      generalize hrl : rl.length = rlen at *
      have HL := hide hrl
      subst hoe
      clear hcl hkm hcell hR hk hop hrk hrl hrn
      go_wp2_with fail
      refine (unhide HRd).mono ?_
      rintro e w2 ⟨v2, rfl, hs2, hl2, t2⟩
      obtain ⟨vo2, vc2, hve2⟩ := hs2.shape
      have HFl := hide (readFile_any v2 (s.read k) w2 hs2 hlenR)
      have T2 := hide t2
      generalize (s.read k).length = nr at hve2
      subst hve2
      clear hs2 hl2 t2 HRd
      go_wp2_with fail
      refine (unhide HFl).mono ?_
      intro e w3 hF
      clear HFl
      cases htk : PSt.takes (frs (s.read k)) PSt.zero with
      | none =>
        rw [htk] at hF
        obtain ⟨ao, na, ca, bf, rfl, t3⟩ := hF
        have hno := openR_no (unhide HOp) (unhide Hk) htk
        have Hfin : Hid (∀ z, ROpTo Q w rb s (.returned (.tuple #[.pointer none, .slice none 0 0, .int .i64 5])) (w3.alloc z)) := hide (fun z => ⟨ns, unhide HN, by rw [hno]; exact ⟨rfl, (((unhide HR).rm.turn.trans (unhide T2)).trans t3).alloc z⟩⟩)
        clear hno t3 htk
        go_wp2
        go_ret3
        exact unhide Hfin _
      | some p =>
        rw [htk] at hF
        obtain ⟨rv, rl3, rfl, hr3, he3, t3⟩ := hF
        obtain ⟨ro3, rc3, hre3⟩ := hr3.shape
        obtain ⟨w4, hw4⟩ : ∃ w4, w4 = w3.alloc (.cells #[rv, .bool p.fresh] 109) := ⟨_, rfl⟩
        have t4 : Turn (fun _ => False) w3 w4 := by rw [hw4]; exact (Turn.refl _ _).alloc _
        have hA4 : At 109 w4 w3.heap.size #[rv, .bool p.fresh] := by rw [hw4]; exact At.new _ _ _
        have y0 : w4.cell? ⟨w3.heap.size, 0, none⟩ = some rv := hA4.cell 0
        have y1 : w4.cell? ⟨w3.heap.size, 1, none⟩ = some (.bool p.fresh) := hA4.cell 1
        have tt := ((unhide T2).trans t3).trans t4
        have hRM := (unhide HR).rm.goes tt
        have hfiles := (unhide HR).files.kept tt (fun _ _ e => e)
        have x3 := unhide Hcell w3 ((unhide HR).files.kept ((unhide T2).trans t3) (fun _ _ e => e))
        have hg3 : g < w3.heap.size := World.block_lt_of_cell? _ _ x3
        have hr4 := hr3.kept t4 (fun _ _ e => e)
        have hw2 : w.heap.size ≤ w2.heap.size := Nat.le_trans (unhide HR).rm.turn.size (unhide T2).size
        have hyes := openR_yes (unhide HOp) (unhide Hk) htk
        have hpl := part_len htk
        have hp3 : rl3.length = p.recs.length := by have := congrArg List.length he3; rwa [List.length_map] at this
        have hqq : ∀ (out : Value), (∀ j, out.ownBlock = some j → j < w2.heap.size) → ∀ j, grow (fun _ => False) w2 w3 j → (False ∨ w.heap.size ≤ j) ∧ j < w4.heap.size ∧ out.ownBlock ≠ some j := fun out ho j hj => by
          have s4 := t4.size
          rcases hj with hj | hj
          · exact hj.elim
          · exact ⟨.inr (by omega), by omega, fun e => by have := ho j e; omega⟩
        have qk : k + 1 ≤ 9223372036854775807 := by omega
        have Hw4 := hide hw4
        cases hfr : p.fresh with
        | true =>
          obtain ⟨v5, w5, r5, hm5, hg5, hk5⟩ := (((RM.nil (fun _ => False) w).goes hRM.turn)).cats hr4 (hqq _ (fun j hj => by simp [Value.ownBlock] at hj)) (by simp; omega)
          rw [List.nil_append] at hm5
          have tg : Turn (fun j => (Value.slice none 0 0).ownBlock = some j) w4 w5 := (Turn.refl _ _).grown hg5 (fun j hj => .inl hj)
          have hnext : ROn Q w w5 rb s (.slice (some ⟨g, 0, none⟩) ns.length fc) ns v5 rl3 (o.file k p) := by
            refine ⟨hm5, by unfold OSt.file; rw [hfr]; simpa using he3, hfiles.kept tg (fun j hj e => by simp [Value.ownBlock] at e), fun j hj => ⟨((unhide HR).fnew j hj).1, fun e => ?_⟩⟩
            rcases hk5 with h5 | h5
            · rw [h5] at e; simp [Value.ownBlock] at e
            · rw [h5] at e
              injection e with e
              have := hfiles.lt hj
              omega
          have hos : (o.file k p).since = k ∧ (o.file k p).next = k + 1 := by unfold OSt.file; rw [hfr]; exact ⟨rfl, rfl⟩
          have x5 := unhide Hcell w5 hnext.files
          obtain ⟨o5, p5, e5⟩ := hm5.shape
          have R5 := hide r5
          have Hn := hide (And.intro hyes (And.intro hnext hos))
          rw [hfr] at Hw4
          generalize rl3.length = l3 at hre3 e5
          subst hre3 e5
          clear hr3 hr4 hRM hfiles hw4 hnext hos hm5 hg5 hk5 tg r5 tt t3 t4 hA4 hyes hqq he3 htk hpl hp3 y0 y1 x1
          go_wp2_with (at_builtin; rw [← unhide Hw4]; refine wpList_append_run rfl (.tmp 52) (.tmp 54) 22 rfl _ _ _ w5 rfl rfl (unhide R5) ?_)
          go_roundw
          case rel => exact ⟨n + 1, o.file k p, _, by go_num, by omega, by rw [(unhide Hn).2.2.1], by rw [(unhide Hn).2.2.2], (unhide Hn).1, (unhide Hn).2.1⟩
          case measure => simp [intOf]; omega
        | false =>
          obtain ⟨v5, w5, r5, hm5, hg5, hk5⟩ := hRM.cats hr4 (hqq _ (fun j hj => Nat.lt_of_lt_of_le ((unhide HR).rm.own.lt hj) (unhide T2).size)) (by have := unhide HL; omega)
          have tg : Turn (fun j => (Value.slice oo rlen oc).ownBlock = some j) w4 w5 := (Turn.refl _ _).grown hg5 (fun j hj => .inl hj)
          have hnext : ROn Q w w5 rb s (.slice (some ⟨g, 0, none⟩) ns.length fc) ns v5 (rl ++ rl3) (o.file k p) := by
            refine ⟨hm5, by unfold OSt.file; rw [hfr, List.map_append, (unhide HR).is, he3]; rfl, hfiles.kept tg (fun j hj e => ((unhide HR).fnew j hj).2 e), fun j hj => ⟨((unhide HR).fnew j hj).1, fun e => ?_⟩⟩
            rcases hk5 with h5 | h5
            · rw [h5] at e
              exact ((unhide HR).fnew j hj).2 e
            · rw [h5] at e
              injection e with e
              have := hfiles.lt hj
              omega
          have hos : (o.file k p).since = o.since ∧ (o.file k p).next = k + 1 := by unfold OSt.file; rw [hfr]; exact ⟨rfl, rfl⟩
          have x5 := unhide Hcell w5 hnext.files
          obtain ⟨o5, p5, e5⟩ := hm5.shape
          have R5 := hide r5
          have Hn := hide (And.intro hyes (And.intro hnext hos))
          rw [hfr] at Hw4
          generalize rl3.length = l3 at hre3
          generalize (rl ++ rl3).length = l5 at e5
          subst hre3 e5
          clear hr3 hr4 hRM hfiles hw4 hnext hos hm5 hg5 hk5 tg r5 tt t3 t4 hA4 hyes hqq he3 htk hpl hp3 y0 y1 x1
          go_wp2_with (at_builtin; rw [← unhide Hw4]; refine wpList_append_run rfl (.tmp 52) (.tmp 54) 22 rfl _ _ _ w5 rfl rfl (unhide R5) ?_)
          go_roundw
          case rel => exact ⟨n + 1, o.file k p, _, by go_num, by omega, by rw [(unhide Hn).2.2.1], by rw [(unhide Hn).2.2.2], (unhide Hn).1, (unhide Hn).2.1⟩
          case measure => simp [intOf]; omega
    · obtain rfl : n = ns.length := by omega
      have x2 : ¬ (ns.length : Int) < ns.length := by omega
      rw [List.take_length] at hop
      have HOp := hide hop
      have HR := hide hR
      have HK := hide hrk
      subst hoe
      generalize rl.length = rlen at *
      clear hop hR hrk hlt
      generalize wr = wA at *
      go_wp2_with fail
      go_loopw [14] (fun i wx => ∃ (m : Nat) (Q' : Nat → Prop), i = .int .i64 m ∧ m ≤ ns.length ∧ RDk Q' wx rb (s.goneR ((ns.take m).filter (· < o.since))) ∧ Turn (fun j => j = rb) wA wx ∧ ∀ j, Q' j → Q j ∨ w.heap.size ≤ j) (fun i _ => ns.length - (intOf i).toNat)
      case atStart => exact ⟨0, Q, rfl, by omega, unhide HK, Turn.refl _ _, fun j hj => .inl hj⟩
      case round =>
        clear HK
        obtain ⟨m, Q', rfl, hml, hrd, tx, hQ'⟩ := hrel
        have hfk : OwnsC 3 wr (.slice fo ns.length fc) (i64s ns) := (unhide HR).files.kept tx (fun j hj e => by have := ((unhide HR).fnew j hj).1; omega)
        by_cases hlt : m < ns.length
        · obtain ⟨k, hk⟩ : ∃ k, ns[m]? = some k := ⟨_, List.getElem?_eq_getElem hlt⟩
          have hcl := i64s_get6 ns m k hk
          obtain ⟨g, hfo⟩ : ∃ g, fo = some ⟨g, 0, none⟩ := by
            rcases hfk.shape with ⟨h0, h1⟩ | ⟨g, cap', h0, _⟩
            · rw [h1] at hcl; simp at hcl
            · injection h0 with e1; exact ⟨g, e1⟩
          subst hfo
          have x1 : wr.cell? ⟨g, m, none⟩ = some (.int .i64 k) := by
            rcases hfk.sees with ⟨h0, _⟩ | ⟨a, cap, e, _, _, hc⟩
            · simp at h0
            · simp only [Value.slice.injEq, Option.some.injEq] at e
              have := hc m _ hcl
              rwa [← e.1, addr_lit, Nat.zero_add] at this
          have x3 : (m : Int) < ns.length := by omega
          obtain ⟨ht1, ht2⟩ := List.getElem?_eq_some_iff.1 hk
          have htake : ns.take (m + 1) = ns.take m ++ [k] := by rw [List.take_succ_eq_append_getElem ht1, ht2]
          by_cases hks : k < o.since
          · have hsub : ∀ j ∈ (ns.take m).filter (· < o.since), s.read j ≠ [] := fun j hj => ((unhide HN).2 j).1 (List.mem_of_mem_take (List.mem_filter.1 hj).1)
            have hlen : ((ns.take m).filter (· < o.since)).length ≤ M := Nat.le_trans (List.length_filter_le _ _) (by rw [List.length_take]; omega)
            obtain ⟨hf2, hw2⟩ := (unhide HD).2.2.2.2.1 _ hsub hlen
            have HRm := hide (rrem_any k hrd hf2 hw2)
            have hnx : s.goneR ((ns.take (m + 1)).filter (· < o.since)) = ((s.goneR ((ns.take m).filter (· < o.since))).rem k).2 := by
              rw [htake, List.filter_append, ← goneR_snoc]
              simp [hks]
            have Hnx := hide hnx
            have Htx := hide (And.intro tx hQ')
            clear hnx hf2 hw2 hsub hlen hrd htake ht1 ht2 hk hcl hfk tx hQ'
            go_wp2_with fail
            refine (unhide HRm).mono ?_
            rintro e w2 ⟨rfl, h2, t2⟩
            have hfin : RDk (grow Q' wr w2) w2 rb (s.goneR ((ns.take (m + 1)).filter (· < o.since))) ∧ Turn (fun j => j = rb) wA w2 ∧ ∀ j, grow Q' wr w2 j → Q j ∨ w.heap.size ≤ j := by
              refine ⟨by rw [unhide Hnx]; exact h2, (unhide Htx).1.trans t2, fun j hj => ?_⟩
              rcases hj with hj | hj
              · exact (unhide Htx).2 j hj
              · have h1 := (unhide Htx).1.size
                have h2 := (unhide HR).rm.turn.size
                exact .inr (by omega)
            have Hfin := hide hfin
            clear hfin h2 t2 HRm
            go_wp2
            go_roundw
            case rel => exact ⟨m + 1, _, by go_num, by omega, (unhide Hfin).1, (unhide Hfin).2.1, (unhide Hfin).2.2⟩
            case measure => simp [intOf]; omega
          · have hnx : (ns.take (m + 1)).filter (· < o.since) = (ns.take m).filter (· < o.since) := by
              rw [htake, List.filter_append]
              simp [hks]
            rw [← hnx] at hrd
            have Hfin := hide (And.intro hrd (And.intro tx hQ'))
            have y4 : decide (k < o.since) = false := by simpa using hks
            clear hnx hrd htake ht1 ht2 hk hcl hfk tx hQ'
            go_wp2
            go_roundw
            case rel => exact ⟨m + 1, _, by go_num, by omega, (unhide Hfin).1, (unhide Hfin).2.1, (unhide Hfin).2.2⟩
            case measure => simp [intOf]; omega
        · obtain rfl : m = ns.length := by omega
          rw [List.take_length] at hrd
          have hall : RL (fun j => w.heap.size ≤ j) wr (.slice oo rlen oc) rl := by
            have h1 := (unhide HR).rm.toRL
            exact (h1.kept tx (fun j hj e => hj.elim (fun e2 => e2) (fun e2 => by omega))).mono (fun j hj => hj.elim (fun e => e.elim) (fun e => e.1))
          have tz : Turn (fun j => j = rb) w wr := ((unhide HR).rm.turn.mono (fun _ _ e => e.elim)).trans tx
          have Hfin : Hid (∀ z l, ROpTo Q w rb s (.returned (.tuple #[.pointer (some ⟨l, 0, none⟩), .slice oo rlen oc, .int .i64 0])) (wr.alloc z)) := hide (fun z l => ⟨ns, unhide HN, by
            have ta : Turn (fun _ => False) wr (wr.alloc z) := (Turn.refl _ _).alloc _
            rw [unhide HOp]
            exact ⟨l, _, rl, Q', rfl, hrd.keeps ta (fun _ _ e => e) (fun e => e), hall.kept ta (fun _ _ e => e), (unhide HR).is, hQ', tz.trans (ta.mono (fun _ _ e => e.elim))⟩⟩)
          have x3 : ¬ (ns.length : Int) < ns.length := by omega
          clear hrd hall tz tx hQ' hfk hlt
          go_wp2
          go_ret3
          exact unhide Hfin _ _

end

end Go.Proofs.YtnipdgigjcaolaaGreat

/- The reference's frames: records as frames, and the mark behind them. -/
namespace Go.Proofs.YtnipdgigjcaolaaGreat
open Go.RowKit

section
variable {Q : Nat → Prop} {w : World} {v : Value} {rl : List (Value × List UInt8)}

theorem Made.goes {w w1 w2 : World} {v : Value} {bs : List UInt8} (h : Made w v bs w1) (t : Turn (fun _ => False) w1 w2) : Made w v bs w2 := ⟨h.1.kept t (fun _ _ e => e), h.2.1.trans t, h.2.2⟩

set_option maxHeartbeats 4000000 in
set_option maxRecDepth 100000 in
theorem rframes_any (k : Int) (hk0 : 1 ≤ k) (hk1 : k ≤ 200) (hr : RL Q w v rl) (hsz : (laidOf k (k + 1) (rl.map (·.2))).length ≤ 1099511627776) :
    Calls Tryz.prog 129 #[v, .int .i64 k] w fun e w' => ∃ v', e = .returned v' ∧ Made w v' (laidOf k (k + 1) (rl.map (·.2))) w' := by
  obtain ⟨i0, hi, hz0, hz1, hz2⟩ := info_parts Tryz.infoU8
  obtain ⟨vo, vc, hve⟩ := hr.shape
  have hlen := hr.len
  unfold maxLen at hlen
  have HR := hide hr
  have HAt := hide hr.at
  have HS := hide hsz
  obtain ⟨len, hlenE⟩ : ∃ len, len = rl.length := ⟨_, rfl⟩
  have HL := hide hlenE
  rw [← hlenE] at hve hlen
  subst hve
  clear hlenE hr hsz
  go_enter Tryz.func129, Tryz.ntmps129
  go_wp2_with fail
  go_loopw [5, 6] (fun lv i wr => ∃ n : Nat, i = .int .i64 n ∧ n ≤ len ∧ Made w lv (frames k ((rl.map (·.2)).take n)) wr) (fun _ i _ => len - (intOf i).toNat)
  case atStart => exact ⟨0, rfl, by omega, Made.nil w⟩
  case round =>
    obtain ⟨n, rfl, hn, hL⟩ := hrel
    obtain ⟨lo, lc, hle⟩ := hL.1.shape
    have hll2 : (frames k ((rl.map (·.2)).take n)).length ≤ (frames k (rl.map (·.2))).length := frames_take_le _ _ _
    have htot : (laidOf k (k + 1) (rl.map (·.2))).length = (frames k (rl.map (·.2))).length + 9 := by unfold laidOf; rw [List.length_append, record_length]; rfl
    by_cases hlt : n < len
    · have hnl : n < rl.length := by have := unhide HL; omega
      obtain ⟨g, cap', ao, nb, c, e, e1, e2, hc⟩ := unhide HAt n hnl
      injection e with ea eb ec
      have hrn := (unhide HR).each rl[n] (List.getElem_mem hnl)
      have hcr : wr.cell? ⟨g, n, none⟩ = some (.slice ao nb c) := by
        rw [hL.2.1.cell (p := ⟨g, n, none⟩) (World.block_lt_of_cell? _ _ hc) (fun e => e)]
        exact hc
      have hsn : Sees wr (.slice ao nb c) rl[n].2 := by
        rw [← e1]
        exact hrn.1.kept' hL.2.1 (fun h0 j hj e => e)
      have hrec : (record k rl[n].2).length = 9 + rl[n].2.length := record_length _ _
      have hnext : frames k ((rl.map (·.2)).take (n + 1)) = frames k ((rl.map (·.2)).take n) ++ record k rl[n].2 := by
        rw [List.take_succ_eq_append_getElem (by simpa using hnl), frames_snoc]
        simp
      have hle2 : (frames k ((rl.map (·.2)).take (n + 1))).length ≤ (frames k (rl.map (·.2))).length := frames_take_le _ _ _
      rw [hnext, List.length_append] at hle2
      have hbd : (frames k ((rl.map (·.2)).take n)).length + (record k rl[n].2).length ≤ 140737488355328 := by have := unhide HS; omega
      have HFr := hide (refFrame_any k _ rl[n].2 wr hsn (by have := unhide HS; omega))
      have Hnext := hide hnext
      have HB := hide hbd
      have HM := hide hL
      generalize frames k ((rl.map (·.2)).take n) = fs at *
      generalize rl[n].2 = xs at *
      subst ea hle
      have q1 : (n : Int) < len := by omega
      clear eb ec e1 e2 hc hrn hnext hle2 hbd hrec hll2 htot hsn hL
      go_wp2_with fail
      refine (unhide HFr).mono ?_
      rintro e w1 ⟨v1, rfl, hl1⟩
      obtain ⟨o1, c1', hv1⟩ := hl1.1.shape
      have hm1 := (unhide HM).goes hl1.2.1
      have hsee1 := hl1.1.sees
      have hxl := hl1.1.shape
      rw [hv1] at hsee1 ⊢
      have HM1 := hide hm1
      have hown1 := hm1.1
      clear hl1 hm1 hcr HM
      go_wp2_with (at_builtin; refine wpList_append_sees _ rfl (.tmp 13) (.tmp 19) 29 rfl i0 Tryz.underlying29 hi hz0 hz1 hz2 _ fs rfl hown1 _ (record k xs) rfl hsee1 (unhide HB) ?_; intro v2 w2 ho2 hg2 hk2)
      go_roundw
      case rel =>
        refine ⟨n + 1, by go_num, by omega, ?_⟩
        rw [unhide Hnext]
        exact (unhide HM1).more ho2 hg2 hk2
      case measure => simp [intOf]; omega
    · obtain rfl : n = len := by omega
      have q1 : ¬ (n : Int) < n := by omega
      have hall : (rl.map (·.2)).take n = rl.map (·.2) := List.take_of_length_le (by have := unhide HL; simp; omega)
      rw [hall] at hL hll2
      have hbd : (frames k (rl.map (·.2))).length + (record (k + 1) []).length ≤ 140737488355328 := by have := unhide HS; rw [record_length]; simp; omega
      have HB := hide hbd
      rw [hall] at hle
      have hres : laidOf k (k + 1) (rl.map (·.2)) = frames k (rl.map (·.2)) ++ record (k + 1) [] := rfl
      have HRes := hide hres
      have HFr := hide (refFrame_any (k + 1) (.slice none 0 0) [] wr (Sees.nil _) (by simp))
      have HM := hide hL
      generalize frames k (rl.map (·.2)) = fs at *
      subst hle
      clear hbd hll2 htot hres hall hL
      go_wp2_with fail
      refine (unhide HFr).mono ?_
      rintro e w1 ⟨v1, rfl, hl1⟩
      obtain ⟨o1, c1', hv1⟩ := hl1.1.shape
      have hm1 := (unhide HM).goes hl1.2.1
      have hsee1 := hl1.1.sees
      rw [hv1] at hsee1 ⊢
      have HM1 := hide hm1
      have hown1 := hm1.1
      clear hl1 hm1 HM
      go_wp2_with (at_builtin; refine wpList_append_sees _ rfl (.tmp 21) (.tmp 24) 29 rfl i0 Tryz.underlying29 hi hz0 hz1 hz2 _ fs rfl hown1 _ (record (k + 1) []) rfl hsee1 (unhide HB) ?_; intro v2 w2 ho2 hg2 hk2)
      have hfin := (unhide HM1).more ho2 hg2 hk2
      go_ret
      rw [unhide HRes]
      exact ⟨_, rfl, hfin⟩

end

end Go.Proofs.YtnipdgigjcaolaaGreat

/- A Disk and the reference's, plainly: what each call makes of both is the same. -/
namespace Go.Proofs.YtnipdgigjcaolaaGreat
open Go.RowKit

/-- Both say the same; N bounds all of it. -/
structure PSg (M N : Nat) (s : DSt) (r : RSt) : Prop where
  pend : r.pend = s.ops
  kept : fil5 r.kept = s.base
  dead : r.dead = s.dead
  works : r.works = s.works
  fuse : (s.fused = true ∧ r.fuse = s.left ∧ 0 ≤ s.left ∧ s.left ≤ 100) ∨ (s.fused = false ∧ r.fuse = -1)
  keys : ∀ o ∈ s.ops, 0 ≤ o.key ∧ o.key < (M : Int)
  len : r.kept.length ≤ M
  lays : ∀ k bs, DOp.lay k bs ∈ s.ops → bs ≠ [] ∧ bs.length ≤ 2097152
  size : ∀ i k, (acts s.base (s.ops.take i) k).length ≤ N * 2097152
  many : s.ops.length ≤ N
  wk : s.works ≤ N

section
variable {M N : Nat} {s : DSt} {r : RSt}

theorem PSg.now (h : PSg M N s r) : fil5 r.now = s.now := by
  unfold RSt.now DSt.now
  rw [fil5_now _ _ (fun o ho => (h.keys o (h.pend ▸ ho)).1), h.kept, h.pend]

theorem PSg.down (h : PSg M N s r) : r.down = s.down := by
  unfold RSt.down DSt.down
  rw [h.dead]
  rcases h.fuse with ⟨h1, h2, _⟩ | ⟨h1, h2⟩
  · rw [h1, h2]; simp
  · rw [h1, h2]; simp

theorem PSg.read (h : PSg M N s r) (k : Int) : r.read k = s.read k := by
  unfold RSt.read DSt.read
  rw [h.dead, h.now]

theorem PSg.zero : PSg M 0 DSt.zero RSt.zero := ⟨rfl, by funext k; unfold fil5 RSt.zero DSt.zero; simp, rfl, rfl, .inr ⟨rfl, rfl⟩, by simp [DSt.zero], by simp [RSt.zero], by simp [DSt.zero], fun i k => by simp [DSt.zero, acts], by simp [DSt.zero], by simp [DSt.zero]⟩

theorem PSg.up (h : PSg M N s r) : PSg M (N + 1) s r :=
  ⟨h.pend, h.kept, h.dead, h.works, h.fuse, h.keys, h.len, h.lays, fun i k => by rw [Nat.succ_mul]; exact Nat.le_trans (h.size i k) (Nat.le_add_right _ _), Nat.le_succ_of_le h.many, Nat.le_succ_of_le h.wk⟩

theorem PSg.fall (h : PSg M N s r) : PSg M (N + 1) s.fall r.fall :=
  ⟨h.pend, h.kept, rfl, h.works, h.fuse, h.keys, h.len, h.lays, h.up.size, h.up.many, h.up.wk⟩

theorem PSg.worked (h : PSg M N s r) (hd : s.down = false) : PSg M (N + 1) s.worked r.worked := by
  refine ⟨h.pend, h.kept, h.dead, ?_, ?_, h.keys, h.len, h.lays, h.up.size, h.up.many, ?_⟩
  · show r.works + 1 = s.works + 1
    rw [h.works]
  · rcases h.fuse with ⟨h1, h2, h3, h4⟩ | ⟨h1, h2⟩
    · left
      have h0 : s.left ≠ 0 := by
        intro e
        unfold DSt.down at hd
        rw [h1, e] at hd
        simp at hd
      refine ⟨h1, ?_, ?_, ?_⟩
      · show (if 0 < r.fuse then r.fuse - 1 else r.fuse) = if s.fused = true then s.left - 1 else s.left
        rw [if_pos (by omega), if_pos h1, h2]
      · show 0 ≤ if s.fused = true then s.left - 1 else s.left
        rw [if_pos h1]; omega
      · show (if s.fused = true then s.left - 1 else s.left) ≤ 100
        rw [if_pos h1]; omega
    · right
      refine ⟨h1, ?_⟩
      show (if 0 < r.fuse then r.fuse - 1 else r.fuse) = -1
      rw [if_neg (by omega), h2]
  · show s.works + 1 ≤ N + 1
    have := h.wk
    omega

theorem PSg.push (h : PSg M N s r) (hd : s.down = false) (o : DOp) (hk : 0 ≤ o.key ∧ o.key < (M : Int)) (hl : ∀ k bs, o = .lay k bs → bs ≠ [] ∧ bs.length ≤ 2097152) : PSg M (N + 1) (s.worked.push o) (r.worked.push o) := by
  have hw := h.worked hd
  refine ⟨by show r.pend ++ [o] = s.ops ++ [o]; rw [h.pend], hw.kept, hw.dead, hw.works, hw.fuse, ?_, hw.len, ?_, ?_, ?_, hw.wk⟩
  · intro x hx
    have hx' : x ∈ s.ops ++ [o] := hx
    rcases List.mem_append.1 hx' with hx | hx
    · exact h.keys x hx
    · simp only [List.mem_singleton] at hx
      subst hx
      exact hk
  · intro k bs hx
    have hx' : DOp.lay k bs ∈ s.ops ++ [o] := hx
    rcases List.mem_append.1 hx' with hx | hx
    · exact h.lays k bs hx
    · simp only [List.mem_singleton] at hx
      exact hl k bs hx.symm
  · intro i k
    show (acts s.base ((s.ops ++ [o]).take i) k).length ≤ _
    by_cases hi : i ≤ s.ops.length
    · rw [List.take_append_of_le_length hi]
      exact h.up.size i k
    · rw [List.take_of_length_le (by simp; omega), acts_snoc]
      have hn := h.size s.ops.length
      rw [List.take_length] at hn
      rw [Nat.succ_mul]
      cases o with
      | lay f bs =>
        by_cases e : k = f
        · have e2 : act (acts s.base s.ops) (.lay f bs) k = acts s.base s.ops f ++ bs := if_pos e
          rw [e2, List.length_append]
          exact Nat.add_le_add (hn f) (hl f bs rfl).2
        · have e2 : act (acts s.base s.ops) (.lay f bs) k = acts s.base s.ops k := if_neg e
          rw [e2]
          exact Nat.le_trans (hn k) (Nat.le_add_right _ _)
      | rem f =>
        by_cases e : k = f
        · have e2 : act (acts s.base s.ops) (.rem f) k = [] := if_pos e
          rw [e2]
          exact Nat.zero_le _
        · have e2 : act (acts s.base s.ops) (.rem f) k = acts s.base s.ops k := if_neg e
          rw [e2]
          exact Nat.le_trans (hn k) (Nat.le_add_right _ _)
  · show (s.ops ++ [o]).length ≤ _
    have := h.many
    simp
    omega

theorem PSg.add (h : PSg M N s r) (f : Int) (hf : f < (M : Int)) (bs : List UInt8) (hb : bs.length ≤ 2097152) : (r.add f bs).1 = (s.add f bs).1 ∧ PSg M (N + 1) (s.add f bs).2 (r.add f bs).2 := by
  unfold RSt.add DSt.add
  rw [h.down]
  by_cases h0 : f < 0
  · rw [if_pos h0, if_pos h0]; exact ⟨rfl, h.up⟩
  · rw [if_neg h0, if_neg h0]
    by_cases hd : s.down = true
    · rw [if_pos hd, if_pos hd]; exact ⟨rfl, h.fall⟩
    · rw [if_neg hd, if_neg hd]
      refine ⟨rfl, ?_⟩
      unfold DSt.lays
      by_cases hb0 : bs = []
      · rw [if_pos hb0, if_pos hb0]; exact h.worked (by simpa using hd)
      · rw [if_neg hb0, if_neg hb0]
        exact h.push (by simpa using hd) _ ⟨by show 0 ≤ f; omega, hf⟩ (fun k bs' e => by injection e with e1 e2; subst e2; exact ⟨hb0, hb⟩)

theorem PSg.rem (h : PSg M N s r) (f : Int) (hf : f < (M : Int)) : (r.rem f).1 = (s.rem f).1 ∧ PSg M (N + 1) (s.rem f).2 (r.rem f).2 := by
  unfold RSt.rem DSt.rem
  rw [h.down, h.now]
  by_cases h0 : f < 0
  · rw [if_pos h0, if_pos h0]; exact ⟨rfl, h.up⟩
  · rw [if_neg h0, if_neg h0]
    by_cases hd : s.down = true
    · rw [if_pos hd, if_pos hd]; exact ⟨rfl, h.fall⟩
    · rw [if_neg hd, if_neg hd]
      refine ⟨rfl, ?_⟩
      unfold DSt.rems
      by_cases hb0 : s.now f = []
      · rw [if_pos hb0, if_pos hb0]; exact h.worked (by simpa using hd)
      · rw [if_neg hb0, if_neg hb0]
        exact h.push (by simpa using hd) _ ⟨by show 0 ≤ f; omega, hf⟩ (fun k bs' e => by cases e)

theorem PSg.nlen (h : PSg M N s r) (i : Nat) : (nowL r.kept (r.pend.take i)).length ≤ M :=
  nowL_length _ _ M h.len (fun o ho => by have := h.keys o (h.pend ▸ List.mem_of_mem_take ho); exact ⟨this.1, by omega⟩)

theorem PSg.sync (h : PSg M N s r) : r.sync.1 = s.sync.1 ∧ PSg M (N + 1) s.sync.2 r.sync.2 := by
  unfold RSt.sync DSt.sync
  rw [h.down]
  by_cases hd : s.down = true
  · rw [if_pos hd, if_pos hd]; exact ⟨rfl, h.fall⟩
  · rw [if_neg hd, if_neg hd]
    have hw := h.worked (by simpa using hd)
    have hn := h.nlen r.pend.length
    rw [List.take_length] at hn
    refine ⟨rfl, rfl, h.now, hw.dead, hw.works, hw.fuse, by simp [DSt.safe], hn, by simp [DSt.safe], fun i k => ?_, by simp [DSt.safe], hw.wk⟩
    show (acts s.now (([] : List DOp).take i) k).length ≤ _
    have hs := h.up.size s.ops.length k
    rw [List.take_length] at hs
    simpa [acts, DSt.now] using hs

theorem PSg.setFuse (h : PSg M N s r) (n : Int) (hn : n ≤ 100) : PSg M N (s.fuse n) (r.setFuse n) := by
  refine ⟨h.pend, h.kept, h.dead, h.works, ?_, h.keys, h.len, h.lays, h.size, h.many, h.wk⟩
  by_cases h0 : 0 ≤ n
  · exact .inl ⟨by show decide (0 ≤ n) = true; simpa using h0, by show (if -1 < n then n else -1) = n; rw [if_pos (by omega)], h0, hn⟩
  · exact .inr ⟨by show decide (0 ≤ n) = false; simpa using h0, by show (if -1 < n then n else -1) = -1; rw [if_neg (by omega)]⟩

theorem PSg.crash (h : PSg M N s r) (done cut : Int) : PSg M N (s.crash done cut) (r.crash done cut) := by
  unfold DSt.crash RSt.crash
  rw [h.pend]
  generalize (done % ((s.ops.length : Int) + 1)).toNat = n
  have hk : ∀ i, fil5 (nowL r.kept (s.ops.take i)) = acts s.base (s.ops.take i) := fun i => by
    rw [fil5_now _ _ (fun o ho => (h.keys o (List.mem_of_mem_take ho)).1), h.kept]
  have hl : ∀ i, (nowL r.kept (s.ops.take i)).length ≤ M := fun i => by have := h.nlen i; rwa [h.pend] at this
  have key : fil5 (leftL r.kept s.ops n cut) = crashed s.base s.ops n cut ∧ (leftL r.kept s.ops n cut).length ≤ M ∧ ∀ k, (crashed s.base s.ops n cut k).length ≤ N * 2097152 := by
    rcases e : s.ops[n]? with _ | o
    · unfold leftL crashed
      rw [e]
      exact ⟨hk n, hl n, h.size n⟩
    · cases o with
      | rem f =>
        unfold leftL crashed
        rw [e]
        exact ⟨hk n, hl n, h.size n⟩
      | lay f bs =>
        have hmem := List.mem_of_getElem? e
        have hkf := h.keys _ hmem
        have hkf' : 0 ≤ f ∧ f < (M : Int) := hkf
        unfold leftL crashed
        rw [e]
        refine ⟨?_, ?_, fun k => ?_⟩
        · show fil5 (tl _ _) = partOf _ _ _
          rw [fil5_tl _ (.lay f (bs.take (cut % ((bs.length : Int) + 1)).toNat)) hkf'.1, hk n]
          rfl
        · show (tl _ _).length ≤ M
          rw [tl_length]
          have := hl n
          show max _ (f.toNat + 1) ≤ M
          omega
        · have hs := h.size (n + 1) k
          rw [acts_take_succ _ _ _ _ e] at hs
          refine Nat.le_trans ?_ hs
          show (fput _ f _ k).length ≤ (fput _ f _ k).length
          by_cases ek : k = f
          · have e1 : ∀ (z : Fs) (x : List UInt8), fput z f x k = x := fun z x => if_pos ek
            rw [e1, e1, List.length_append, List.length_append, List.length_take]
            omega
          · have e1 : ∀ (z : Fs) (x : List UInt8), fput z f x k = z k := fun z x => if_neg ek
            rw [e1, e1]
            exact Nat.le_refl _
  refine ⟨rfl, key.1, rfl, h.works, .inr ⟨rfl, rfl⟩, by simp, key.2.1, by simp, fun i k => ?_, by simp, h.wk⟩
  simpa [acts] using key.2.2 k

theorem PSg.fit (h : PSg M N s r) (hM : M ≤ 1073741824) (hN : N ≤ 5000) : RFit M (N * 2097152) r := by
  have hs : ∀ i k, ((nowL r.kept (r.pend.take i)).getD k []).length ≤ N * 2097152 := fun i k => by
    have h1 := h.size i (k : Int)
    rw [← h.kept, ← h.pend, ← fil5_now _ _ (fun o ho => (h.keys o (h.pend ▸ List.mem_of_mem_take ho)).1)] at h1
    unfold fil5 at h1
    rw [if_pos (by omega), Int.toNat_natCast] at h1
    exact h1
  have hm := h.many
  have hw := h.wk
  have hk : ∀ o ∈ r.pend, 0 ≤ o.key ∧ o.key < (M : Int) := fun o ho => h.keys o (h.pend ▸ ho)
  refine ⟨by rw [h.pend]; omega, by rw [h.works]; omega, h.len, by omega, fun o ho => (hk o ho).1, fun o ho => by have := (hk o ho).2; omega, ?_, fun k i => hs i k, fun i hi => ?_, ?_, ?_⟩
  · exact Nat.le_trans (Nat.mul_le_mul_right 2097152 hN) (by decide)
  · have h1 := hs (i + 1) r.pend[i].key.toNat
    rw [nowL_take _ _ _ hi] at h1
    have h4 := fun k => hs i k
    generalize nowL r.kept (r.pend.take i) = L at *
    have hki := hk r.pend[i] (List.getElem_mem hi)
    generalize r.pend[i] = o at *
    cases o with
    | lay f bs =>
      have hf : 0 ≤ f := hki.1
      have e1 : (tl L (.lay f bs)).getD f.toNat [] = L.getD f.toNat [] ++ bs := by
        have h2 := congrFun (fil5_tl L (.lay f bs) hki.1) f
        unfold fil5 at h2
        rw [if_pos hf] at h2
        rw [h2]
        simp [act, fput, hf]
      have h3 : ((tl L (.lay f bs)).getD f.toNat []).length ≤ N * 2097152 := h1
      rw [e1, List.length_append] at h3
      exact h3
    | rem f =>
      exact h4 f.toNat
  · rcases h.fuse with ⟨_, h2, h3, _⟩ | ⟨_, h2⟩ <;> omega
  · rcases h.fuse with ⟨_, h2, _, h4⟩ | ⟨_, h2⟩ <;> omega

end

end Go.Proofs.YtnipdgigjcaolaaGreat

/- The reference's Log in memory, and its Commit. -/
namespace Go.Proofs.YtnipdgigjcaolaaGreat
open Go.RowKit

namespace RSt

/-- The segment that a commit goes to. -/
def rto (s : RSt) (now seg : Int) : Int := if seg ≤ (s.read now).length then now + 1 else now

/-- Bytes are laid and made safe. -/
def keepR (s : RSt) (at' : Int) (bs : List UInt8) : Int × RSt :=
  if (s.add at' bs).1 ≠ 0 then (14, (s.add at' bs).2) else if (s.add at' bs).2.sync.1 ≠ 0 then (14, (s.add at' bs).2.sync.2) else (0, (s.add at' bs).2.sync.2)

theorem keepR_cases (s : RSt) (at' : Int) (h0 : 0 ≤ at') (bs : List UInt8) :
    ((s.add at' bs).1 = 14 ∧ s.keepR at' bs = (14, (s.add at' bs).2)) ∨ ((s.add at' bs).1 = 0 ∧ (s.add at' bs).2.sync.1 = 14 ∧ s.keepR at' bs = (14, (s.add at' bs).2.sync.2)) ∨ ((s.add at' bs).1 = 0 ∧ (s.add at' bs).2.sync.1 = 0 ∧ s.keepR at' bs = (0, (s.add at' bs).2.sync.2)) := by
  have ha : (s.add at' bs).1 = 14 ∨ (s.add at' bs).1 = 0 := by
    unfold RSt.add
    rw [if_neg (by omega)]
    split
    · exact .inl rfl
    · exact .inr rfl
  have hy : ∀ x : RSt, x.sync.1 = 14 ∨ x.sync.1 = 0 := fun x => by
    unfold RSt.sync
    split
    · exact .inl rfl
    · exact .inr rfl
  unfold keepR
  rcases ha with ha | ha
  · exact .inl ⟨ha, if_pos (by rw [ha]; decide)⟩
  · rcases hy (s.add at' bs).2 with hs | hs
    · exact .inr (.inl ⟨ha, hs, by rw [if_neg (by simp [ha]), if_pos (by rw [hs]; decide)]⟩)
    · exact .inr (.inr ⟨ha, hs, by rw [if_neg (by simp [ha]), if_neg (by simp [hs])]⟩)

end RSt

/-- The reference's Log in block l, its Disk in rb. -/
structure RLg (Q : Nat → Prop) (w : World) (l rb : Nat) (seg now : Int) (down : Bool) (s : RSt) : Prop where
  rd : RDk Q w rb s
  at' : At 113 w l #[.pointer (some ⟨rb, 0, none⟩), .int .i64 seg, .int .i64 now, .bool down]
  ne : l ≠ rb
  out : ¬ Q l

/-- A call has turned it. -/
def RLTo (Q : Nat → Prop) (w : World) (l rb : Nat) (seg now : Int) (down : Bool) (s : RSt) (w' : World) : Prop :=
  ∃ Q' : Nat → Prop, RLg Q' w' l rb seg now down s ∧ (∀ j, Q' j → Q j ∨ w.heap.size ≤ j) ∧ Turn (fun j => j = rb ∨ j = l) w w'

section
variable {Q K : Nat → Prop} {w w1 : World} {l rb : Nat} {seg now : Int} {down : Bool} {s : RSt}

theorem RLg.goes (h : RLg Q w l rb seg now down s) (t : Turn (fun _ => False) w w1) : RLg Q w1 l rb seg now down s :=
  ⟨h.rd.keeps t (fun _ _ e => e) (fun e => e), h.at'.kept t (fun e => e), h.ne, h.out⟩

theorem RLg.turns {s' : RSt} (h : RLg Q w l rb seg now down s) (t : RTo Q w rb s' w1) : RLg (grow Q w w1) w1 l rb seg now down s' :=
  ⟨t.1, h.at'.kept t.2 h.ne, h.ne, fun e => by
    have := h.at'.lt
    rcases e with e | e
    · exact h.out e
    · omega⟩

theorem RLg.lt (h : RLg Q w l rb seg now down s) : ∀ j, Q j → j < w.heap.size := by
  obtain ⟨_, _, _, _, h1⟩ := h.rd
  exact h1.lt

theorem RLg.rlt (h : RLg Q w l rb seg now down s) : rb < w.heap.size := by
  obtain ⟨_, _, _, _, h1⟩ := h.rd
  exact h1.head.lt

theorem RLTo.refl (h : RLg Q w l rb seg now down s) : RLTo Q w l rb seg now down s w := ⟨Q, h, fun _ e => .inl e, Turn.refl _ _⟩

theorem RLTo.up2 {w7 w8 w' : World} (h : RLg (grow Q w7 w8) w' l rb seg now down s) (z : w.heap.size ≤ w7.heap.size) (t : Turn (fun j => j = rb ∨ j = l) w w') : RLTo Q w l rb seg now down s w' :=
  ⟨_, h, fun j hj => by
    rcases hj with hj | hj
    · exact .inl hj
    · exact .inr (by omega), t⟩

theorem RLTo.up3 {w7 w8 w9 w' : World} (h : RLg (grow (grow Q w7 w8) w8 w9) w' l rb seg now down s) (z : w.heap.size ≤ w7.heap.size) (z8 : w.heap.size ≤ w8.heap.size) (t : Turn (fun j => j = rb ∨ j = l) w w') : RLTo Q w l rb seg now down s w' :=
  ⟨_, h, fun j hj => by
    rcases hj with (hj | hj) | hj
    · exact .inl hj
    · exact .inr (by omega)
    · exact .inr (by omega), t⟩

theorem RLTo.more {w2 : World} {now' : Int} {down' : Bool} {s' : RSt} (h : RLTo Q w l rb seg now down s w1) (h2 : ∀ Q', RLg Q' w1 l rb seg now down s → RLTo Q' w1 l rb seg now' down' s' w2) : RLTo Q w l rb seg now' down' s' w2 := by
  obtain ⟨Q1, a, b, c⟩ := h
  obtain ⟨Q2, a2, b2, c2⟩ := h2 Q1 a
  exact ⟨Q2, a2, fun j hj => by
    have := c.size
    rcases b2 j hj with e | e
    · exact b j e
    · exact .inr (by omega), c.trans c2⟩

set_option maxHeartbeats 1000000 in
theorem rdone_ok (v : Value) (w : World) : Calls Tryz.prog 130 #[v, .bool true] w fun e w' => e = .returned (.int .i64 0) ∧ w = w' := by
  go_enter Tryz.func130, Tryz.ntmps130
  go_wp2
  go_ret
  exact ⟨rfl, rfl⟩

set_option maxHeartbeats 1000000 in
theorem rdone_no (h : RLg Q w l rb seg now down s) : Calls Tryz.prog 130 #[.pointer (some ⟨l, 0, none⟩), .bool false] w fun e w' => e = .returned (.int .i64 14) ∧ RLg Q w' l rb seg now true s ∧ Turn (fun j => j = l) w w' := by
  have f3 := h.at'.frozen 3
  have c3 : w.cell? ⟨l, 3, none⟩ = some (.bool down) := h.at'.cell 3
  have t : Turn (fun j => j = l) w (w.setCell ⟨l, 3, none⟩ (.bool true)) := (Turn.refl (fun j => j = l) w).setCell (p := ⟨l, 3, none⟩) (.inl rfl) _
  have Hfin := hide (And.intro (⟨h.rd.keeps t (fun j hj e => h.out (e ▸ hj)) (fun e => h.ne e.symm), by simpa using h.at'.set 3 (.bool true), h.ne, h.out⟩ : RLg Q (w.setCell ⟨l, 3, none⟩ (.bool true)) l rb seg now true s) t)
  clear h t
  go_enter Tryz.func130, Tryz.ntmps130
  go_wp2
  go_ret
  exact ⟨rfl, (unhide Hfin).1, (unhide Hfin).2⟩

end

end Go.Proofs.YtnipdgigjcaolaaGreat

/- The reference's OpenLog, and what Log it makes. -/
namespace Go.Proofs.YtnipdgigjcaolaaGreat
open Go.RowKit

/-- What OpenLog comes to. -/
def ROLog (Q : Nat → Prop) (w : World) (rb : Nat) (s : RSt) (seg : Int) (ns : List Int) (r : Option OSt) (e : Ending) (w' : World) : Prop :=
  match r with
  | none => e = .returned (.tuple #[.pointer none, .slice none 0 0, .int .i64 5]) ∧ Turn (fun _ => False) w w'
  | some o => ∃ l rv rl, ∃ Q' : Nat → Prop, e = .returned (.tuple #[.pointer (some ⟨l, 0, none⟩), rv, .int .i64 0]) ∧ RLg Q' w' l rb seg o.next false (s.goneR (ns.filter (· < o.since))) ∧ RL (fun j => w.heap.size ≤ j ∧ j < l) w' rv rl ∧ rl.map (·.2) = o.out ∧ (∀ j, Q' j → Q j ∨ w.heap.size ≤ j) ∧ Turn (fun j => j = rb) w w' ∧ w.heap.size ≤ l

def ROpL (Q : Nat → Prop) (w : World) (rb : Nat) (s : RSt) (seg : Int) (e : Ending) (w' : World) : Prop := ∃ ns, s.Nums ns ∧ ROLog Q w rb s seg ns (openR s.read ns ⟨[], -1, 0⟩) e w'

section
variable {Q K : Nat → Prop} {w wr : World} {v b : Value} {la lb : List (Value × List UInt8)} {rb M B : Nat} {s : RSt}

set_option maxHeartbeats 4000000 in
set_option maxRecDepth 100000 in
theorem openLog_log (seg : Int) (h : RDk Q w rb s) (hf : RFit M B s) (hd : s.dead = false) (hs0 : 256 ≤ seg) (hs1 : seg ≤ 1048576) (hB : (M + 1) * B ≤ 1099511627776) (hrm : ∀ l : List Int, (∀ k ∈ l, s.read k ≠ []) → l.length ≤ M → RFit M B (s.goneR l) ∧ (s.goneR l).works ≤ 1073741822) (hlo : ∀ k, s.read k ≠ [] → 0 ≤ k ∧ k ≤ 1099511627776) :
    Calls Tryz.prog 19 #[.pointer (some ⟨rb, 0, none⟩), .int .i64 seg] w (ROpL Q w rb s seg) := by
  have hfl := rread_len hf
  have hmax := hf.max
  have c3 : w.cell? ⟨rb, 3, none⟩ = some (.bool false) := by
    obtain ⟨kv, pv, kl, pl, h1⟩ := h
    have := h1.head.cell 3
    rw [hd] at this
    exact this
  have q1 : decide (seg < 256) = false := by simp; omega
  have q2 : decide (1048576 < seg) = false := by simp; omega
  have HF := hide (rfiles_any h hf)
  have HD := hide (And.intro h (And.intro hf (And.intro hfl (And.intro hB (And.intro hrm hlo)))))
  clear h hf hfl hB hrm hlo hd
  go_enter Tryz.func19, Tryz.ntmps19
  go_wp2_with fail
  refine (unhide HF).mono ?_
  rintro e w1 ⟨fv, ns, rfl, hm, hn, hnM⟩
  obtain ⟨fo, fc, rfl⟩ := hm.shape
  have hst : ROn Q w w1 rb s (.slice fo ns.length fc) ns (.slice none 0 0) [] ⟨[], -1, 0⟩ := ⟨(RM.nil _ w).goes hm.2.1, rfl, hm.1, fun j hj => ⟨hm.2.2 j hj, by simp [Value.ownBlock]⟩⟩
  have Hst := hide hst
  have HN := hide hn
  clear hst hm hn HF c3
  go_wp2_with fail
  go_loopw [8, 9, 10, 11] (fun out fr nx i wr => ∃ (n : Nat) (o : OSt) (rl : List (Value × List UInt8)), i = .int .i64 n ∧ n ≤ ns.length ∧ fr = .int .i64 o.since ∧ nx = .int .i64 o.next ∧ openR s.read (ns.take n) ⟨[], -1, 0⟩ = some o ∧ ROn Q w wr rb s (.slice fo ns.length fc) ns out rl o) (fun _ _ _ i _ => ns.length - (intOf i).toNat)
  case atStart => exact ⟨0, _, [], rfl, by omega, rfl, rfl, rfl, unhide Hst⟩
  case round =>
    clear Hst
    obtain ⟨n, o, rl, rfl, hnl, rfl, rfl, hop, hR⟩ := hrel
    have hrk := (unhide HD).1.keeps hR.rm.turn (fun _ _ e => e) (fun e => e)
    have hrb : rb < w.heap.size := by
      obtain ⟨kv, pv, kl, pl, h1⟩ := (unhide HD).1
      exact h1.head.lt
    obtain ⟨oo, oc, hoe⟩ := hR.rm.shape
    have HOp := hide hop
    by_cases hlt : n < ns.length
    · obtain ⟨k, hk⟩ : ∃ k, ns[n]? = some k := ⟨_, List.getElem?_eq_getElem hlt⟩
      have hkm : s.read k ≠ [] := ((unhide HN).2 k).1 (List.mem_of_getElem? hk)
      have hkb := (unhide HD).2.2.2.2.2 k hkm
      have hcl := i64s_get6 ns n k hk
      obtain ⟨g, hfo⟩ : ∃ g, fo = some ⟨g, 0, none⟩ := by
        rcases hR.files.shape with ⟨h0, h1⟩ | ⟨g, cap', h0, _⟩
        · rw [h1] at hcl; simp at hcl
        · injection h0 with e1; exact ⟨g, e1⟩
      subst hfo
      have hcell : ∀ wz, OwnsC 3 wz (.slice (some ⟨g, 0, none⟩) ns.length fc) (i64s ns) → wz.cell? ⟨g, n, none⟩ = some (.int .i64 k) := fun wz ho => by
        rcases ho.sees with ⟨h0, _⟩ | ⟨a, cap, e, _, _, hc⟩
        · simp at h0
        · simp only [Value.slice.injEq, Option.some.injEq] at e
          have := hc n _ hcl
          rwa [← e.1, addr_lit, Nat.zero_add] at this
      have x1 := hcell wr hR.files
      have x2 : (n : Int) < ns.length := by omega
      have HRd := hide (rread_any k hrk (unhide HD).2.1)
      have Hcell := hide hcell
      have Hk := hide hk
      have HR := hide hR
      have hrn : rl.length ≤ n * B := by
        have h1 := openR_len (unhide HD).2.2.1 (unhide HOp)
        have h2 := congrArg List.length hR.is
        rw [List.length_map] at h2
        have h3 : (ns.take n).length * B ≤ n * B := Nat.mul_le_mul_right B (by rw [List.length_take]; omega)
        simp only [List.length_nil] at h1
        omega
      have hsum : rl.length + (s.read k).length ≤ 1099511627776 := by
        have h1 := (unhide HD).2.2.1 k
        have h2 : n * B + B ≤ (M + 1) * B := by
          have : (n + 1) * B ≤ (M + 1) * B := Nat.mul_le_mul_right B (by omega)
          rwa [Nat.succ_mul] at this
        have h3 := (unhide HD).2.2.2.1
        omega
      have hlenR : (s.read k).length ≤ 1099511627776 := by omega
      generalize hrl : rl.length = rlen at *
      have HL := hide hrl
      subst hoe
      clear hcl hkm hcell hR hk hop hrk hrl hrn
      go_wp2_with fail
      refine (unhide HRd).mono ?_
      rintro e w2 ⟨v2, rfl, hs2, hl2, t2⟩
      obtain ⟨vo2, vc2, hve2⟩ := hs2.shape
      have HFl := hide (readFile_any v2 (s.read k) w2 hs2 hlenR)
      have T2 := hide t2
      generalize (s.read k).length = nr at hve2
      subst hve2
      clear hs2 hl2 t2 HRd
      go_wp2_with fail
      refine (unhide HFl).mono ?_
      intro e w3 hF
      clear HFl
      cases htk : PSt.takes (frs (s.read k)) PSt.zero with
      | none =>
        rw [htk] at hF
        obtain ⟨ao, na, ca, bf, rfl, t3⟩ := hF
        have hno := openR_no (unhide HOp) (unhide Hk) htk
        have Hfin : Hid (∀ z, ROpL Q w rb s seg (.returned (.tuple #[.pointer none, .slice none 0 0, .int .i64 5])) (w3.alloc z)) := hide (fun z => ⟨ns, unhide HN, by rw [hno]; exact ⟨rfl, (((unhide HR).rm.turn.trans (unhide T2)).trans t3).alloc z⟩⟩)
        clear hno t3 htk
        go_wp2
        go_ret3
        exact unhide Hfin _
      | some p =>
        rw [htk] at hF
        obtain ⟨rv, rl3, rfl, hr3, he3, t3⟩ := hF
        obtain ⟨ro3, rc3, hre3⟩ := hr3.shape
        obtain ⟨w4, hw4⟩ : ∃ w4, w4 = w3.alloc (.cells #[rv, .bool p.fresh] 109) := ⟨_, rfl⟩
        have t4 : Turn (fun _ => False) w3 w4 := by rw [hw4]; exact (Turn.refl _ _).alloc _
        have hA4 : At 109 w4 w3.heap.size #[rv, .bool p.fresh] := by rw [hw4]; exact At.new _ _ _
        have y0 : w4.cell? ⟨w3.heap.size, 0, none⟩ = some rv := hA4.cell 0
        have y1 : w4.cell? ⟨w3.heap.size, 1, none⟩ = some (.bool p.fresh) := hA4.cell 1
        have tt := ((unhide T2).trans t3).trans t4
        have hRM := (unhide HR).rm.goes tt
        have hfiles := (unhide HR).files.kept tt (fun _ _ e => e)
        have x3 := unhide Hcell w3 ((unhide HR).files.kept ((unhide T2).trans t3) (fun _ _ e => e))
        have hg3 : g < w3.heap.size := World.block_lt_of_cell? _ _ x3
        have hr4 := hr3.kept t4 (fun _ _ e => e)
        have hw2 : w.heap.size ≤ w2.heap.size := Nat.le_trans (unhide HR).rm.turn.size (unhide T2).size
        have hyes := openR_yes (unhide HOp) (unhide Hk) htk
        have hpl := part_len htk
        have hp3 : rl3.length = p.recs.length := by have := congrArg List.length he3; rwa [List.length_map] at this
        have hqq : ∀ (out : Value), (∀ j, out.ownBlock = some j → j < w2.heap.size) → ∀ j, grow (fun _ => False) w2 w3 j → (False ∨ w.heap.size ≤ j) ∧ j < w4.heap.size ∧ out.ownBlock ≠ some j := fun out ho j hj => by
          have s4 := t4.size
          rcases hj with hj | hj
          · exact hj.elim
          · exact ⟨.inr (by omega), by omega, fun e => by have := ho j e; omega⟩
        have qk : k + 1 ≤ 9223372036854775807 := by omega
        have Hw4 := hide hw4
        cases hfr : p.fresh with
        | true =>
          obtain ⟨v5, w5, r5, hm5, hg5, hk5⟩ := (((RM.nil (fun _ => False) w).goes hRM.turn)).cats hr4 (hqq _ (fun j hj => by simp [Value.ownBlock] at hj)) (by simp; omega)
          rw [List.nil_append] at hm5
          have tg : Turn (fun j => (Value.slice none 0 0).ownBlock = some j) w4 w5 := (Turn.refl _ _).grown hg5 (fun j hj => .inl hj)
          have hnext : ROn Q w w5 rb s (.slice (some ⟨g, 0, none⟩) ns.length fc) ns v5 rl3 (o.file k p) := by
            refine ⟨hm5, by unfold OSt.file; rw [hfr]; simpa using he3, hfiles.kept tg (fun j hj e => by simp [Value.ownBlock] at e), fun j hj => ⟨((unhide HR).fnew j hj).1, fun e => ?_⟩⟩
            rcases hk5 with h5 | h5
            · rw [h5] at e; simp [Value.ownBlock] at e
            · rw [h5] at e
              injection e with e
              have := hfiles.lt hj
              omega
          have hos : (o.file k p).since = k ∧ (o.file k p).next = k + 1 := by unfold OSt.file; rw [hfr]; exact ⟨rfl, rfl⟩
          have x5 := unhide Hcell w5 hnext.files
          obtain ⟨o5, p5, e5⟩ := hm5.shape
          have R5 := hide r5
          have Hn := hide (And.intro hyes (And.intro hnext hos))
          rw [hfr] at Hw4
          generalize rl3.length = l3 at hre3 e5
          subst hre3 e5
          clear hr3 hr4 hRM hfiles hw4 hnext hos hm5 hg5 hk5 tg r5 tt t3 t4 hA4 hyes hqq he3 htk hpl hp3 y0 y1 x1
          go_wp2_with (at_builtin; rw [← unhide Hw4]; refine wpList_append_run rfl (.tmp 52) (.tmp 54) 22 rfl _ _ _ w5 rfl rfl (unhide R5) ?_)
          go_roundw
          case rel => exact ⟨n + 1, o.file k p, _, by go_num, by omega, by rw [(unhide Hn).2.2.1], by rw [(unhide Hn).2.2.2], (unhide Hn).1, (unhide Hn).2.1⟩
          case measure => simp [intOf]; omega
        | false =>
          obtain ⟨v5, w5, r5, hm5, hg5, hk5⟩ := hRM.cats hr4 (hqq _ (fun j hj => Nat.lt_of_lt_of_le ((unhide HR).rm.own.lt hj) (unhide T2).size)) (by have := unhide HL; omega)
          have tg : Turn (fun j => (Value.slice oo rlen oc).ownBlock = some j) w4 w5 := (Turn.refl _ _).grown hg5 (fun j hj => .inl hj)
          have hnext : ROn Q w w5 rb s (.slice (some ⟨g, 0, none⟩) ns.length fc) ns v5 (rl ++ rl3) (o.file k p) := by
            refine ⟨hm5, by unfold OSt.file; rw [hfr, List.map_append, (unhide HR).is, he3]; rfl, hfiles.kept tg (fun j hj e => ((unhide HR).fnew j hj).2 e), fun j hj => ⟨((unhide HR).fnew j hj).1, fun e => ?_⟩⟩
            rcases hk5 with h5 | h5
            · rw [h5] at e
              exact ((unhide HR).fnew j hj).2 e
            · rw [h5] at e
              injection e with e
              have := hfiles.lt hj
              omega
          have hos : (o.file k p).since = o.since ∧ (o.file k p).next = k + 1 := by unfold OSt.file; rw [hfr]; exact ⟨rfl, rfl⟩
          have x5 := unhide Hcell w5 hnext.files
          obtain ⟨o5, p5, e5⟩ := hm5.shape
          have R5 := hide r5
          have Hn := hide (And.intro hyes (And.intro hnext hos))
          rw [hfr] at Hw4
          generalize rl3.length = l3 at hre3
          generalize (rl ++ rl3).length = l5 at e5
          subst hre3 e5
          clear hr3 hr4 hRM hfiles hw4 hnext hos hm5 hg5 hk5 tg r5 tt t3 t4 hA4 hyes hqq he3 htk hpl hp3 y0 y1 x1
          go_wp2_with (at_builtin; rw [← unhide Hw4]; refine wpList_append_run rfl (.tmp 52) (.tmp 54) 22 rfl _ _ _ w5 rfl rfl (unhide R5) ?_)
          go_roundw
          case rel => exact ⟨n + 1, o.file k p, _, by go_num, by omega, by rw [(unhide Hn).2.2.1], by rw [(unhide Hn).2.2.2], (unhide Hn).1, (unhide Hn).2.1⟩
          case measure => simp [intOf]; omega
    · obtain rfl : n = ns.length := by omega
      have x2 : ¬ (ns.length : Int) < ns.length := by omega
      rw [List.take_length] at hop
      have HOp := hide hop
      have HR := hide hR
      have HK := hide hrk
      subst hoe
      generalize rl.length = rlen at *
      clear hop hR hrk hlt
      generalize wr = wA at *
      go_wp2_with fail
      go_loopw [14] (fun i wx => ∃ (m : Nat) (Q' : Nat → Prop), i = .int .i64 m ∧ m ≤ ns.length ∧ RDk Q' wx rb (s.goneR ((ns.take m).filter (· < o.since))) ∧ Turn (fun j => j = rb) wA wx ∧ ∀ j, Q' j → Q j ∨ w.heap.size ≤ j) (fun i _ => ns.length - (intOf i).toNat)
      case atStart => exact ⟨0, Q, rfl, by omega, unhide HK, Turn.refl _ _, fun j hj => .inl hj⟩
      case round =>
        clear HK
        obtain ⟨m, Q', rfl, hml, hrd, tx, hQ'⟩ := hrel
        have hfk : OwnsC 3 wr (.slice fo ns.length fc) (i64s ns) := (unhide HR).files.kept tx (fun j hj e => by have := ((unhide HR).fnew j hj).1; omega)
        by_cases hlt : m < ns.length
        · obtain ⟨k, hk⟩ : ∃ k, ns[m]? = some k := ⟨_, List.getElem?_eq_getElem hlt⟩
          have hcl := i64s_get6 ns m k hk
          obtain ⟨g, hfo⟩ : ∃ g, fo = some ⟨g, 0, none⟩ := by
            rcases hfk.shape with ⟨h0, h1⟩ | ⟨g, cap', h0, _⟩
            · rw [h1] at hcl; simp at hcl
            · injection h0 with e1; exact ⟨g, e1⟩
          subst hfo
          have x1 : wr.cell? ⟨g, m, none⟩ = some (.int .i64 k) := by
            rcases hfk.sees with ⟨h0, _⟩ | ⟨a, cap, e, _, _, hc⟩
            · simp at h0
            · simp only [Value.slice.injEq, Option.some.injEq] at e
              have := hc m _ hcl
              rwa [← e.1, addr_lit, Nat.zero_add] at this
          have x3 : (m : Int) < ns.length := by omega
          obtain ⟨ht1, ht2⟩ := List.getElem?_eq_some_iff.1 hk
          have htake : ns.take (m + 1) = ns.take m ++ [k] := by rw [List.take_succ_eq_append_getElem ht1, ht2]
          by_cases hks : k < o.since
          · have hsub : ∀ j ∈ (ns.take m).filter (· < o.since), s.read j ≠ [] := fun j hj => ((unhide HN).2 j).1 (List.mem_of_mem_take (List.mem_filter.1 hj).1)
            have hlen : ((ns.take m).filter (· < o.since)).length ≤ M := Nat.le_trans (List.length_filter_le _ _) (by rw [List.length_take]; omega)
            obtain ⟨hf2, hw2⟩ := (unhide HD).2.2.2.2.1 _ hsub hlen
            have HRm := hide (rrem_any k hrd hf2 hw2)
            have hnx : s.goneR ((ns.take (m + 1)).filter (· < o.since)) = ((s.goneR ((ns.take m).filter (· < o.since))).rem k).2 := by
              rw [htake, List.filter_append, ← goneR_snoc]
              simp [hks]
            have Hnx := hide hnx
            have Htx := hide (And.intro tx hQ')
            clear hnx hf2 hw2 hsub hlen hrd htake ht1 ht2 hk hcl hfk tx hQ'
            go_wp2_with fail
            refine (unhide HRm).mono ?_
            rintro e w2 ⟨rfl, h2, t2⟩
            have hfin : RDk (grow Q' wr w2) w2 rb (s.goneR ((ns.take (m + 1)).filter (· < o.since))) ∧ Turn (fun j => j = rb) wA w2 ∧ ∀ j, grow Q' wr w2 j → Q j ∨ w.heap.size ≤ j := by
              refine ⟨by rw [unhide Hnx]; exact h2, (unhide Htx).1.trans t2, fun j hj => ?_⟩
              rcases hj with hj | hj
              · exact (unhide Htx).2 j hj
              · have h1 := (unhide Htx).1.size
                have h2 := (unhide HR).rm.turn.size
                exact .inr (by omega)
            have Hfin := hide hfin
            clear hfin h2 t2 HRm
            go_wp2
            go_roundw
            case rel => exact ⟨m + 1, _, by go_num, by omega, (unhide Hfin).1, (unhide Hfin).2.1, (unhide Hfin).2.2⟩
            case measure => simp [intOf]; omega
          · have hnx : (ns.take (m + 1)).filter (· < o.since) = (ns.take m).filter (· < o.since) := by
              rw [htake, List.filter_append]
              simp [hks]
            rw [← hnx] at hrd
            have Hfin := hide (And.intro hrd (And.intro tx hQ'))
            have y4 : decide (k < o.since) = false := by simpa using hks
            clear hnx hrd htake ht1 ht2 hk hcl hfk tx hQ'
            go_wp2
            go_roundw
            case rel => exact ⟨m + 1, _, by go_num, by omega, (unhide Hfin).1, (unhide Hfin).2.1, (unhide Hfin).2.2⟩
            case measure => simp [intOf]; omega
        · obtain rfl : m = ns.length := by omega
          rw [List.take_length] at hrd
          have hall : RL (fun j => w.heap.size ≤ j ∧ j < wr.heap.size) wr (.slice oo rlen oc) rl := by
            have h1 := (unhide HR).rm.toRL
            have h3 := tx.size
            exact (h1.kept tx (fun j hj e => hj.elim (fun e2 => e2) (fun e2 => by omega))).mono (fun j hj => hj.elim (fun e => e.elim) (fun e => ⟨e.1, by omega⟩))
          have tz : Turn (fun j => j = rb) w wr := ((unhide HR).rm.turn.mono (fun _ _ e => e.elim)).trans tx
          have hrb2 : rb < wr.heap.size := by
            obtain ⟨kv, pv, kl, pl, h1⟩ := hrd
            exact h1.head.lt
          have hql : ∀ j, Q' j → j < wr.heap.size := by
            obtain ⟨kv, pv, kl, pl, h1⟩ := hrd
            exact h1.lt
          have Hfin : Hid (ROpL Q w rb s seg (.returned (.tuple #[.pointer (some ⟨wr.heap.size, 0, none⟩), .slice oo rlen oc, .int .i64 0])) (wr.alloc (.cells #[.pointer (some ⟨rb, 0, none⟩), .int .i64 seg, .int .i64 o.next, .bool false] 113))) := hide ⟨ns, unhide HN, by
            have ta : Turn (fun _ => False) wr (wr.alloc (.cells #[.pointer (some ⟨rb, 0, none⟩), .int .i64 seg, .int .i64 o.next, .bool false] 113)) := (Turn.refl _ _).alloc _
            rw [unhide HOp]
            exact ⟨_, _, rl, Q', rfl, ⟨hrd.keeps ta (fun _ _ e => e) (fun e => e), At.new _ _ _, by omega, fun e => by have := hql _ e; omega⟩, hall.kept ta (fun _ _ e => e), (unhide HR).is, hQ', tz.trans (ta.mono (fun _ _ e => e.elim)), by have := tz.size; omega⟩⟩
          have x3 : ¬ (ns.length : Int) < ns.length := by omega
          clear hrd hall tz tx hQ' hfk hlt
          go_wp2
          go_ret3
          exact unhide Hfin

end

end Go.Proofs.YtnipdgigjcaolaaGreat

/- A change's bytes by the reference: LayChange. -/
namespace Go.Proofs.YtnipdgigjcaolaaGreat
open Go.RowKit

set_option maxHeartbeats 2000000 in
set_option maxRecDepth 100000 in
theorem rlay_no (k : ByteArray) (hs : Bool) (v : Value) (bs : List UInt8) (w : World) (h : Sees w v bs) (hk : k.size ≤ maxLen) (hok : Chg.ok ⟨k, hs, bs⟩ = false) :
    Calls Tryz.prog 33 #[.agg #[.string k, .bool hs, v]] w fun e w' => e = .returned (.tuple #[.slice none 0 0, .int .i64 1]) ∧ Turn (fun _ => False) w w' := by
  obtain ⟨ao, cap, rfl⟩ := h.shape
  have hl := h.len
  unfold maxLen at hl hk
  have ta : Turn (fun _ => False) w (w.alloc (.cells #[.string k, .bool hs, .slice ao bs.length cap] 51)) := (Turn.refl _ _).alloc _
  have Hta := hide ta
  generalize hn : bs.length = n at *
  clear h ta
  have e0 : Chg.ok ⟨k, hs, bs⟩ = (decide (0 < k.size) && decide (k.size ≤ 255) && (if hs then decide (n ≤ 65535) else decide (n = 0))) := by unfold Chg.ok; simp only [hn]
  rw [e0] at hok
  clear e0 hn
  by_cases h0 : k.size < 1
  · have z0 : (k.size : Int) < 1 := by omega
    clear hok
    go_enter Tryz.func33, Tryz.ntmps33
    go_wp2
    go_ret2
    exact ⟨rfl, unhide Hta⟩
  · have z0 : ¬ (k.size : Int) < 1 := by omega
    by_cases h1 : 255 < k.size
    · have z1 : (255 : Int) < k.size := by omega
      clear hok
      go_enter Tryz.func33, Tryz.ntmps33
      go_wp2
      go_ret2
      exact ⟨rfl, unhide Hta⟩
    · have z1 : ¬ (255 : Int) < k.size := by omega
      by_cases h2 : 65535 < n
      · have z2 : (65535 : Int) < n := by omega
        clear hok
        go_enter Tryz.func33, Tryz.ntmps33
        go_wp2
        go_ret2
        exact ⟨rfl, unhide Hta⟩
      · have z2 : ¬ (65535 : Int) < n := by omega
        have hq : hs = false ∧ 0 < n := by
          cases hs
          · refine ⟨rfl, ?_⟩
            simp at hok
            omega
          · simp at hok
            omega
        obtain ⟨rfl, hn0⟩ := hq
        have z3 : (0 : Int) < n := by omega
        clear hok
        go_enter Tryz.func33, Tryz.ntmps33
        go_wp2
        go_ret2
        exact ⟨rfl, unhide Hta⟩

set_option maxHeartbeats 4000000 in
set_option maxRecDepth 100000 in
theorem rlay_yes (k : ByteArray) (hs : Bool) (v : Value) (bs : List UInt8) (w : World) (h : Sees w v bs) (hlt : 0 < bs.length → ∀ j, slab v = some j → j < w.heap.size) (hok : Chg.ok ⟨k, hs, bs⟩ = true) :
    Calls Tryz.prog 33 #[.agg #[.string k, .bool hs, v]] w fun e w' => ∃ v', e = .returned (.tuple #[v', .int .i64 0]) ∧ Made w v' (Chg.laid ⟨k, hs, bs⟩) w' := by
  obtain ⟨ao, cap, rfl⟩ := h.shape
  have hks : 0 < k.size ∧ k.size ≤ 255 ∧ bs.length ≤ 65535 ∧ (hs = false → bs.length = 0) := by
    unfold Chg.ok at hok
    simp only [Bool.and_eq_true, decide_eq_true_eq] at hok
    refine ⟨hok.1.1, hok.1.2, ?_, fun e => by have := hok.2; rw [if_neg (by simp [e])] at this; simpa using this⟩
    have h3 := hok.2
    cases hs
    · simp at h3; simp [h3]
    · simpa using h3
  obtain ⟨wa, hwa⟩ : ∃ wa, wa = w.alloc (.cells #[.string k, .bool hs, .slice ao bs.length cap] 51) := ⟨_, rfl⟩
  have ta : Turn (fun _ => False) w wa := by rw [hwa]; exact (Turn.refl _ _).alloc _
  have hA : At 51 wa w.heap.size #[.string k, .bool hs, .slice ao bs.length cap] := by rw [hwa]; exact At.new _ _ _
  have hv1 := h.kept ta (fun _ _ e => e)
  have n1 := WNew.start (fun _ => False) 87 wa
  obtain ⟨b, hb⟩ : ∃ b, b = wa.heap.size := ⟨_, rfl⟩
  obtain ⟨w2, hw2⟩ : ∃ w2, w2 = wa.alloc (.cells #[.slice none 0 0] 87) := ⟨_, rfl⟩
  have t2 : Turn (fun _ => False) wa w2 := by rw [hw2]; exact (Turn.refl _ _).alloc _
  rw [← hw2, ← hb] at n1
  have hA2 := hA.kept t2 (fun e => e)
  have hv2 := hv1.kept t2 (fun _ _ e => e)
  have hbb : w.heap.size < b := by rw [hb]; exact hA.lt
  have N1 := hide n1
  have HA2 := hide hA2
  have HV2 := hide hv2
  have Hlt := hide hlt
  have Hta := hide ta
  have Hwa := hide hwa
  have Hb := hide hb
  have Hb1 := hide (show b = w.heap.size + 1 by rw [hb, hwa]; simp)
  have Hw2 := hide hw2
  have z0 : ¬ (k.size : Int) < 1 := by omega
  have z1 : ¬ (255 : Int) < k.size := by omega
  have z2 : ¬ (65535 : Int) < bs.length := by omega
  have HL := hide (show Chg.laid ⟨k, hs, bs⟩ = (if hs then be 1 1 ++ sh k.data.toList ++ sh bs else be 0 1 ++ sh k.data.toList) from rfl)
  clear h ta hA hv1 hwa hlt hok hb n1 hA2 hv2 t2 hw2
  cases hs
  · have hb0 : bs.length = 0 := hks.2.2.2 rfl
    have z3 : ¬ (0 : Int) < bs.length := by omega
    rw [hb0] at Hwa HA2 HV2 Hlt
    rw [hb0]
    clear z2 z3 hks hb0
    go_enter Tryz.func33, Tryz.ntmps33
    go_wp2_with fail
    rw [← unhide Hwa, ← unhide Hw2, ← unhide Hb1]
    refine (rw_u8 b _ [] 0 w2 (unhide N1).at' (by simp)).mono ?_
    rintro e w3 ⟨rfl, v3, s3⟩
    have hA3 := (unhide HA2).kept s3.turn (fun e => e.elim (fun e => by omega) (fun e => by simp [Value.ownBlock] at e))
    have c0 : w3.cell? ⟨w.heap.size, 0, none⟩ = some (.string k) := hA3.cell 0
    have c1 : w3.cell? ⟨w.heap.size, 1, none⟩ = some (.bool false) := hA3.cell 1
    have N3 := hide ((unhide N1).step s3)
    have HA3 := hide hA3
    clear s3 hA3 N1 HA2
    go_wp2_with fail
    refine (rw_text_yes b v3 k _ w3 (unhide N3).at' (by omega) (by simp [be_length]; omega)).mono ?_
    rintro e w4 ⟨rfl, v4, s4⟩
    have n4 := (unhide N3).step s4
    have hA4 := (unhide HA3).kept s4.turn (fun e => (unhide N3).nots (by have := unhide Hb; omega) e)
    have c1 : w4.cell? ⟨w.heap.size, 1, none⟩ = some (.bool false) := hA4.cell 1
    have hm : Made w v4 (Chg.laid ⟨k, false, bs⟩) w4 := ⟨by rw [unhide HL]; simpa using n4.at'.2.1, (unhide Hta).trans n4.turn, fun j hj => by have := n4.newv j hj; have := (unhide Hta).size; omega⟩
    obtain ⟨o4, c4, e4⟩ := n4.at'.2.1.shape
    have c7 := n4.at'.1.cell 0
    have HM := hide hm
    clear s4 n4 hA4 hm N3 HA3 c0
    generalize (List.length _) = n5 at e4
    subst e4
    go_wp2
    go_ret2
    exact ⟨_, rfl, unhide HM⟩
  · generalize hbl : bs.length = n at *
    have Hbl := hide hbl
    clear hbl
    go_enter Tryz.func33, Tryz.ntmps33
    go_wp2_with fail
    rw [← unhide Hwa, ← unhide Hw2, ← unhide Hb1]
    refine (rw_u8 b _ [] 1 w2 (unhide N1).at' (by simp)).mono ?_
    rintro e w3 ⟨rfl, v3, s3⟩
    have hA3 := (unhide HA2).kept s3.turn (fun e => e.elim (fun e => by omega) (fun e => by simp [Value.ownBlock] at e))
    have c0 : w3.cell? ⟨w.heap.size, 0, none⟩ = some (.string k) := hA3.cell 0
    have N3 := hide ((unhide N1).step s3)
    have HA3 := hide hA3
    have HV3 := hide ((unhide HV2).kept' s3.turn (fun h0 j hj e => (unhide N1).nots (by
      have := unhide Hlt (by rw [← unhide Hbl]; exact h0) j hj
      have := (unhide Hta).size
      omega) e))
    clear s3 hA3 N1 HA2 HV2
    go_wp2_with fail
    refine (rw_text_yes b v3 k _ w3 (unhide N3).at' (by omega) (by simp [be_length]; omega)).mono ?_
    rintro e w4 ⟨rfl, v4, s4⟩
    have n4 := (unhide N3).step s4
    have hA4 := (unhide HA3).kept s4.turn (fun e => (unhide N3).nots (by have := unhide Hb; omega) e)
    have c1 : w4.cell? ⟨w.heap.size, 1, none⟩ = some (.bool true) := hA4.cell 1
    have c2 : w4.cell? ⟨w.heap.size, 2, none⟩ = some (.slice ao n cap) := hA4.cell 2
    have HV4 := hide ((unhide HV3).kept' s4.turn (fun h0 j hj e => (unhide N3).nots (by
      have := unhide Hlt (by rw [← unhide Hbl]; exact h0) j hj
      have := (unhide Hta).size
      omega) e))
    have N4 := hide n4
    clear s4 n4 hA4 N3 HA3 HV3 c0
    go_wp2_with fail
    refine (rw_short_yes b v4 _ _ bs w4 (unhide N4).at' (unhide HV4) (fun h0 j hj => by
        have h1 := unhide Hlt (by rw [← unhide Hbl]; exact h0) j hj
        have h2 := (unhide Hta).size
        have h3 := (unhide N4).nots (j := j) (by omega)
        exact ⟨fun e => h3 (.inl e), fun e => h3 (.inr e)⟩) (by have := unhide Hbl; omega) (by have := text_length k; have := unhide Hbl; simp [be_length, sh_length]; omega)).mono ?_
    rintro e w6 ⟨rfl, v6, s6⟩
    have n6 := (unhide N4).step s6
    have hm : Made w v6 (Chg.laid ⟨k, true, bs⟩) w6 := ⟨by rw [unhide HL]; simpa using n6.at'.2.1, (unhide Hta).trans n6.turn, fun j hj => by have := n6.newv j hj; have := (unhide Hta).size; omega⟩
    obtain ⟨o6, c6, e6⟩ := n6.at'.2.1.shape
    have c7 := n6.at'.1.cell 0
    have HM := hide hm
    clear s6 n6 hm N4 HV4 c1 c2
    generalize (List.length _) = n5 at e6
    subst e6
    go_wp2
    go_ret2
    exact ⟨_, rfl, unhide HM⟩

end Go.Proofs.YtnipdgigjcaolaaGreat

/- A change read by the reference: ReadChange. -/
namespace Go.Proofs.YtnipdgigjcaolaaGreat
open Go.RowKit

theorem raw_nil (b : Nat) (o : Option Addr) (c : Nat) (w : World) (h : At 143 w b #[.slice o 0 c, .bool false]) :
    Calls Tryz.prog 127 #[.pointer (some ⟨b, 0, none⟩), .int .i64 1] w fun e w' => e = .returned (.slice none 0 0) ∧ Now 143 w b (.slice o 0 c) ⟨[], true⟩ w' := by
  have c0 : w.cell? ⟨b, 0, none⟩ = some (.slice o 0 c) := h.cell 0
  have c1 : w.cell? ⟨b, 1, none⟩ = some (.bool false) := h.cell 1
  have f0 := h.frozen 0
  have f1 := h.frozen 1
  have hnow : Now 143 w b (.slice o 0 c) ⟨[], true⟩ ((w.setCell ⟨b, 1, none⟩ (.bool true)).setCell ⟨b, 0, none⟩ (.slice none 0 0)) := by
    have t1 : Turn (fun k => k = b) w (w.setCell ⟨b, 1, none⟩ (.bool true)) := (Turn.refl (fun k => k = b) w).setCell (p := ⟨b, 1, none⟩) (.inl rfl) _
    have t2 : Turn (fun k => k = b) (w.setCell ⟨b, 1, none⟩ (.bool true)) ((w.setCell ⟨b, 1, none⟩ (.bool true)).setCell ⟨b, 0, none⟩ (.slice none 0 0)) := (Turn.refl (fun k => k = b) _).setCell (p := ⟨b, 0, none⟩) (.inl rfl) _
    have hA1 : At 143 (w.setCell ⟨b, 1, none⟩ (.bool true)) b #[.slice o 0 c, .bool true] := by simpa using h.set 1 (.bool true)
    have hA2 : At 143 ((w.setCell ⟨b, 1, none⟩ (.bool true)).setCell ⟨b, 0, none⟩ (.slice none 0 0)) b #[.slice none 0 0, .bool true] := by simpa using hA1.set 0 (.slice none 0 0)
    exact ⟨.slice none 0 0, ⟨hA2, .inl ⟨rfl, rfl⟩, fun e => by cases e⟩, t1.trans t2, fun k e => by cases e⟩
  have Hnow := hide hnow
  clear hnow h
  go_enter Tryz.func127, Tryz.ntmps127
  go_wp2
  go_ret
  exact ⟨rfl, unhide Hnow⟩

set_option maxHeartbeats 400000 in
theorem u8_nil (b : Nat) (o : Option Addr) (c : Nat) (w : World) (h : At 143 w b #[.slice o 0 c, .bool false]) :
    Calls Tryz.prog 89 #[.pointer (some ⟨b, 0, none⟩)] w fun e w' => e = .returned (.int .i64 0) ∧ Now 143 w b (.slice o 0 c) ⟨[], true⟩ w' := by
  have hu : Calls Tryz.prog 126 #[.pointer (some ⟨b, 0, none⟩), .int .i64 1] w fun e w' => e = .returned (.int .u64 0) ∧ Now 143 w b (.slice o 0 c) ⟨[], true⟩ w' := by
    have HR := hide (raw_nil b o c w h)
    clear h
    go_enter Tryz.func126, Tryz.ntmps126
    go_wp2_with fail
    refine (unhide HR).mono ?_
    rintro e w1 ⟨rfl, hr⟩
    go_wp2
    go_loop [6, 7] (fun x i => i = .int .i64 0 ∧ x = .int .u64 0) (fun _ _ => 0)
    case atStart => exact ⟨rfl, rfl⟩
    case round =>
      obtain ⟨rfl, rfl⟩ := hrel
      go_wp2
      go_ret
      exact ⟨rfl, hr⟩
  have HU := hide hu
  clear hu h
  go_enter Tryz.func89, Tryz.ntmps89
  go_wp2_with fail
  refine (unhide HU).mono ?_
  rintro e w1 ⟨rfl, hr⟩
  go_wp2
  go_ret
  exact ⟨rfl, hr⟩

set_option maxHeartbeats 4000000 in
set_option maxRecDepth 100000 in
theorem rreadC_any (v : Value) (bs : List UInt8) (w : World) (h : Sees w v bs) (hb : bs.length ≤ 140737488355328) (hlt : 0 < bs.length → ∀ j, slab v = some j → j < w.heap.size) :
    Calls Tryz.prog 34 #[v] w (KRd w (readC bs)) := by
  obtain ⟨vo, vc, rfl⟩ := h.shape
  have H := hide h
  have Hlt := hide hlt
  obtain ⟨n, hn⟩ : ∃ n, n = bs.length := ⟨_, rfl⟩
  have HN := hide hn
  rw [← hn] at H Hlt hb ⊢
  obtain ⟨wa, hwa⟩ : ∃ wa, wa = w.alloc (.cells #[.string ⟨#[]⟩, .bool false, .slice none 0 0] 51) := ⟨_, rfl⟩
  obtain ⟨w1, hw1⟩ : ∃ w1, w1 = wa.alloc (.cells #[.slice vo n vc, .bool false] 143) := ⟨_, rfl⟩
  have ta : Turn (fun _ => False) w wa := by rw [hwa]; exact (Turn.refl _ _).alloc _
  have t1 : Turn (fun _ => False) wa w1 := by rw [hw1]; exact (Turn.refl _ _).alloc _
  have hA : At 51 wa w.heap.size #[.string ⟨#[]⟩, .bool false, .slice none 0 0] := by rw [hwa]; exact At.new _ _ _
  obtain ⟨b, hbb⟩ : ∃ b, b = w.heap.size + 1 := ⟨_, rfl⟩
  have hsz : wa.heap.size = b := by rw [hwa, hbb]; simp
  have hR1 : Calls Tryz.prog 89 #[.pointer (some ⟨b, 0, none⟩)] w1 fun e w' => e = .returned (.int .i64 (num ((St.mk bs false).take 1).1)) ∧ Now 143 w1 b (.slice vo n vc) ((St.mk bs false).take 1).2 w' := by
    have hAt : At 143 w1 b #[.slice vo n vc, .bool false] := by rw [hw1, ← hsz]; exact At.new _ _ _
    by_cases h0 : 0 < bs.length
    · have hR : RIs 143 w1 b (.slice vo n vc) ⟨bs, false⟩ := by
        refine ⟨hAt, ?_, fun e => ?_⟩
        · have h2 := (unhide H).kept (ta.trans t1) (fun _ _ e => e)
          exact h2
        · have := unhide Hlt (by rw [unhide HN]; exact h0) b e
          omega
      exact rr_u8 b _ _ w1 hR (fun e => by cases e) (by have := unhide HN; show bs.length ≤ _; omega)
    · have hbs : bs = [] := List.eq_nil_of_length_eq_zero (by omega)
      have hn0 : n = 0 := by rw [unhide HN, hbs]; rfl
      rw [hn0] at hAt ⊢
      have e0 : (St.mk bs false).take 1 = ([], ⟨[], true⟩) := by rw [hbs]; exact St.take_no _ 1 (.inr (by simp))
      rw [e0]
      exact u8_nil b vo vc w1 hAt
  have HA := hide (hA.kept t1 (fun e => e))
  have T1 := hide (ta.trans t1)
  have Hw1 := hide (show w1 = (w.alloc (.cells #[.string ⟨#[]⟩, .bool false, .slice none 0 0] 51)).alloc (.cells #[.slice vo n vc, .bool false] 143) by rw [hw1, hwa])
  have Hbb := hide hbb
  have HR := hide hR1
  have hbn : w.heap.size < b := by omega
  clear h hlt hn hwa hA ta t1 hw1 hR1 hbb hsz
  go_enter Tryz.func34, Tryz.ntmps34
  go_wp2_with fail
  rw [← unhide Hw1, ← unhide Hbb]
  refine (unhide HR).mono ?_
  rintro e w2 ⟨rfl, v2, s2⟩
  obtain ⟨a, ha⟩ : ∃ a, a = (St.mk bs false).take 1 := ⟨_, rfl⟩
  rw [← ha] at s2 ⊢
  have Ha := hide ha
  have hao : a.2.ok := by rw [ha]; exact St.ok_take _ (fun e => by cases e) 1
  have S2 := hide s2
  have Hao := hide hao
  have hA2 := (unhide HA).kept s2.turn (fun e => by omega)
  have HA2 := hide hA2
  have T2 := hide ((unhide T1).trans' s2.turn (fun i hi e => by omega))
  clear ha s2 HR hA2 HA T1 Hw1
  have Hkl : Hid (a.2.short.2.bs.length ≤ bs.length) := hide (by
    have h1 := a.2.take_rest 2
    have h2 := (a.2.take 2).2.take_rest (num (a.2.take 2).1)
    have h3 := (St.mk bs false).take_rest 1
    rw [← unhide Ha] at h3
    unfold St.short
    simp only at h3
    omega)
  have Hal : Hid (a.2.bs.length ≤ bs.length) := hide (by
    have h3 := (St.mk bs false).take_rest 1
    rw [← unhide Ha] at h3
    simp only at h3
    omega)
  have Hk1 : Hid (a.2.short.1.length ≤ bs.length) := hide (by
    have h1 := (a.2.take 2).2.take_le (num (a.2.take 2).1)
    have h2 := a.2.take_rest 2
    have h3 := (St.mk bs false).take_rest 1
    rw [← unhide Ha] at h3
    unfold St.short
    simp only at h3
    omega)
  by_cases hq : num a.1 = 1
  · have q1 : (num a.1 == 1) = true := by simp [hq]
    have htk : takenC bs = ⟨⟨a.2.short.1.toArray⟩, true, a.2.short.2.short.1⟩ := by unfold takenC; rw [← unhide Ha, if_pos hq]
    have Htk := hide htk
    clear htk hq
    go_wp2_with fail
    refine (rr_text b v2 a.2 w2 (unhide S2).at' (unhide Hao) (by have := unhide Hal; have := unhide HN; omega)).mono ?_
    rintro e w3 ⟨rfl, v3, s3⟩
    have hA3 := (unhide HA2).kept s3.turn (fun e => by omega)
    obtain ⟨c, hc⟩ : ∃ c, c = w3.heap.size := ⟨_, rfl⟩
    obtain ⟨w4, hw4⟩ : ∃ w4, w4 = w3.alloc (.cells #[.string ⟨a.2.short.1.toArray⟩, .bool true, .slice none 0 0] 51) := ⟨_, rfl⟩
    have t4 : Turn (fun _ => False) w3 w4 := by rw [hw4]; exact (Turn.refl _ _).alloc _
    have hA4 : At 51 w4 c #[.string ⟨a.2.short.1.toArray⟩, .bool true, .slice none 0 0] := by rw [hw4, hc]; exact At.new _ _ _
    have hAr := hA3.kept t4 (fun e => e)
    have T4 := hide (((unhide T2).trans' s3.turn (fun i hi e => by omega)).trans t4)
    have hbc : b < c := by rw [hc]; exact s3.at'.1.lt
    have hR4 := s3.at'.kept t4 (fun e => e) (fun _ _ e => e)
    have hso : a.2.short.2.ok := St.ok_short _ (unhide Hao)
    have Hw4 := hide hw4
    have Hc := hide hc
    have HA4 := hide hA4
    have HAr := hide hAr
    generalize a.2.short = k at *
    have HS := hide (rr_short b v3 k.2 w4 hR4 hso (by have := unhide Hkl; have := unhide HN; omega))
    clear hA3 hw4 t4 hA4 hAr s3 hR4 S2 T2 HA2 hc
    go_wp2_with fail
    rw [← unhide Hw4, ← unhide Hc]
    refine (unhide HS).mono ?_
    rintro e w6 ⟨v6, rfl, ho6, hn6, v7, s6⟩
    have hA6 := (unhide HA4).kept s6.turn (fun e => by omega)
    have f2 := hA6.frozen 2
    have hc6 := hA6.lt
    have hn64 := (unhide HA4).lt
    have hvc : ∀ j, v6.ownBlock = some j → c < j ∧ j < w6.heap.size := fun j hj => ⟨by have := hn6 j hj; omega, ho6.lt hj⟩
    obtain ⟨w7, hw7⟩ : ∃ w7, w7 = w6.setCell ⟨c, 2, none⟩ v6 := ⟨_, rfl⟩
    have t7 : Turn (fun i => i = c) w6 w7 := by rw [hw7]; exact (Turn.refl (fun i => i = c) w6).setCell (p := ⟨c, 2, none⟩) (.inl rfl) _
    have hA7 : At 51 w7 c #[.string ⟨k.1.toArray⟩, .bool true, v6] := by rw [hw7]; simpa using hA6.set 2 v6
    have ho7 := ho6.kept t7 (fun j hj e => by have := hvc j hj; omega)
    have hA7r := ((unhide HAr).kept s6.turn (fun e => by omega)).kept t7 (fun e => by omega)
    have t27 := ((unhide T4).trans' s6.turn (fun i hi e => by omega)).trans' t7 (fun i hi e => by omega)
    have hs7 : Sees w7 (.slice vo n vc) bs := (unhide H).kept t27 (fun _ _ e => e)
    have hv7 : ∀ j, slab v6 = some j → w.heap.size < j ∧ j < w7.heap.size := fun j hj => by
      rw [ho6.slab_eq] at hj
      have := hvc j hj
      have := t7.size
      omega
    obtain ⟨o6, c6, e6⟩ := ho7.shape
    have c70 : w6.cell? ⟨c, 0, none⟩ = some (.string ⟨k.1.toArray⟩) := hA6.cell 0
    have c71 : w6.cell? ⟨c, 1, none⟩ = some (.bool true) := hA6.cell 1
    have c72 : w6.cell? ⟨c, 2, none⟩ = some (.slice none 0 0) := hA6.cell 2
    have Hw7 := hide hw7
    have HA7 := hide (And.intro hA7 (And.intro ho7 (And.intro hA7r (And.intro t27 (And.intro hs7 hv7)))))
    clear hw7 t7 hA7 ho7 hA7r t27 hs7 hv7 hvc hA6 s6 HS HA4 HAr T4 Hw4 ho6 hn6
    rw [e6] at HA7 Hw7 ⊢
    have hkm : (⟨k.1.toArray⟩ : ByteArray).size ≤ maxLen := by
      have h1 := unhide Hk1
      have h2 := unhide HN
      have e : (⟨k.1.toArray⟩ : ByteArray).size = k.1.length := by simp [ByteArray.size]
      unfold maxLen
      omega
    have HLay : Hid (if (takenC bs).ok = true then Calls Tryz.prog 33 #[.agg #[.string ⟨k.1.toArray⟩, .bool true, .slice o6 k.2.short.1.length c6]] w7 fun e w' => ∃ v', e = .returned (.tuple #[v', .int .i64 0]) ∧ Made w7 v' (takenC bs).laid w'
        else Calls Tryz.prog 33 #[.agg #[.string ⟨k.1.toArray⟩, .bool true, .slice o6 k.2.short.1.length c6]] w7 fun e w' => e = .returned (.tuple #[.slice none 0 0, .int .i64 1]) ∧ Turn (fun _ => False) w7 w') := by
      obtain ⟨a1, a2, a3, a4, a5, a6⟩ := unhide HA7
      refine hide ?_
      rw [unhide Htk]
      split
      · rename_i hok
        exact rlay_yes _ _ _ _ w7 a2.sees (fun h0 j hj => (a6 j hj).2) hok
      · rename_i hok
        exact rlay_no _ _ _ _ w7 a2.sees hkm (by simpa using hok)
    have HTk2 : Hid (∃ c : Chg, takenC bs = c ∧ c.key = ⟨k.1.toArray⟩ ∧ c.has = true ∧ c.val = k.2.short.1) := hide ⟨_, unhide Htk, rfl, rfl, rfl⟩
    have hv8 : Hid (Sees w7 (.slice o6 k.2.short.1.length c6) k.2.short.1) := hide (unhide HA7).2.1.sees
    clear hkm Htk
    generalize hkv : k.2.short.1 = kv at *
    generalize hkl : kv.length = m at *
    clear hkv hkl
    have HZ := hide (And.intro (unhide HA7).1 (And.intro (unhide HA7).2.2.1 (And.intro (unhide HA7).2.2.2.1 (And.intro (unhide HA7).2.2.2.2.1 (unhide HA7).2.2.2.2.2))))
    clear HA7
    by_cases hok : (takenC bs).ok = true
    · have HL1 := unhide HLay
      rw [if_pos hok] at HL1
      have HL := hide HL1
      clear HL1 HLay
      go_wp2_with fail
      rw [← unhide Hw7]
      refine (unhide HL).mono ?_
      rintro e w8 ⟨v8, rfl, hm8⟩
      obtain ⟨a1, a3, a4, a5, a6⟩ := unhide HZ
      have hsb := a5.kept hm8.2.1 (fun _ _ e => e)
      have hr8 := a3.kept hm8.2.1 (fun e => e)
      have c80 : w8.cell? ⟨c, 0, none⟩ = some (.string ⟨k.1.toArray⟩) := (a1.kept hm8.2.1 (fun e => e)).cell 0
      have c81 : w8.cell? ⟨c, 1, none⟩ = some (.bool true) := (a1.kept hm8.2.1 (fun e => e)).cell 1
      have c82 : w8.cell? ⟨c, 2, none⟩ = some (.slice o6 m c6) := (a1.kept hm8.2.1 (fun e => e)).cell 2
      have g0 : w8.cell? ⟨w.heap.size, 0, none⟩ = some (.string ⟨#[]⟩) := hr8.cell 0
      have g1 : w8.cell? ⟨w.heap.size, 1, none⟩ = some (.bool false) := hr8.cell 1
      have g2 : w8.cell? ⟨w.heap.size, 2, none⟩ = some (.slice none 0 0) := hr8.cell 2
      have z0 := hr8.frozen 0
      have z1 := hr8.frozen 1
      have z2 := hr8.frozen 2
      have ht8 := a4.trans hm8.2.1
      have hv9 := (unhide hv8).kept hm8.2.1 (fun _ _ e => e)
      have hl8 : ∀ j, slab (.slice o6 m c6) = some j → w.heap.size < j ∧ j < w8.heap.size := fun j hj => ⟨(a6 j hj).1, Nat.lt_of_lt_of_le (a6 j hj).2 hm8.2.1.size⟩
      have Hfin := hide (And.intro hr8 (And.intro ht8 (And.intro hv9 hl8)))
      have k1 := run_text_of_sees (P := Tryz.prog) w8 29 9 Tryz.underlying29 Tryz.underlying5 Tryz.underlying9 hm8.1.sees
      have k2 := run_text_of_sees (P := Tryz.prog) w8 29 9 Tryz.underlying29 Tryz.underlying5 Tryz.underlying9 hsb
      obtain ⟨o8, c8, e8⟩ := hm8.1.shape
      have hrd : readC bs = if (takenC bs).laid = bs then some (takenC bs) else none := by unfold readC; simp [hok]
      have Hrd := hide hrd
      generalize (takenC bs).laid = lb at *
      generalize lb.length = n8 at *
      subst e8
      clear hm8 hsb hr8 a1 a3 a4 a5 a6 ht8 hv9 hl8 hrd HL HZ Hw7 c70 c71 c72 f2
      by_cases hd : lb = bs
      · have hres : readC bs = some (takenC bs) := by rw [unhide Hrd, if_pos hd]
        have Hres := hide hres
        have hq : (lb == bs) = true := by simp [hd]
        clear hd hres
        go_wp2
        obtain ⟨b1, b2, b3, b4⟩ := unhide Hfin
        obtain ⟨d, d1, d2, d3, d4⟩ := unhide HTk2
        refine bodyPost_ret (results_cell2 rfl _ _ w.heap.size 51 _ (0, 0) _ rfl (((b1.set 0 _).set 1 _).set 2 _) Tryz.underlying51 rfl (by kernel_rfl)) rfl ?_
        have tset : ∀ u0 u1 u2, Turn (fun i => i = w.heap.size) w8 (((w8.setCell ⟨w.heap.size, 0, none⟩ u0).setCell ⟨w.heap.size, 1, none⟩ u1).setCell ⟨w.heap.size, 2, none⟩ u2) := fun u0 u1 u2 => (((Turn.refl (fun i => i = w.heap.size) w8).setCell (p := ⟨w.heap.size, 0, none⟩) (.inl rfl) u0).setCell (p := ⟨w.heap.size, 1, none⟩) (.inl rfl) u1).setCell (p := ⟨w.heap.size, 2, none⟩) (.inl rfl) u2
        refine ⟨b2.trans' (tset _ _ _) (fun i hi e => by omega), ?_⟩
        rw [unhide Hres, d1]
        refine ⟨_, by rw [d2, d3]; rfl, ?_, fun j hj => ?_⟩
        · rw [d4]
          exact b3.kept (tset _ _ _) (fun j hj e => by have := b4 j hj; omega)
        · have := b4 j hj
          have := (tset (.string ⟨k.1.toArray⟩) (.bool true) (.slice o6 m c6)).size
          exact ⟨by omega, by omega⟩
      · have hres : readC bs = none := by rw [unhide Hrd, if_neg hd]
        have Hres := hide hres
        have hq : (lb == bs) = false := by simp [hd]
        clear hd hres
        go_wp2
        obtain ⟨b1, b2, b3, b4⟩ := unhide Hfin
        refine bodyPost_ret (results_cell2 rfl _ _ w.heap.size 51 _ (0, 0) _ rfl (((b1.set 0 _).set 1 _).set 2 _) Tryz.underlying51 rfl (by kernel_rfl)) rfl ?_
        have tset : ∀ u0 u1 u2, Turn (fun i => i = w.heap.size) w8 (((w8.setCell ⟨w.heap.size, 0, none⟩ u0).setCell ⟨w.heap.size, 1, none⟩ u1).setCell ⟨w.heap.size, 2, none⟩ u2) := fun u0 u1 u2 => (((Turn.refl (fun i => i = w.heap.size) w8).setCell (p := ⟨w.heap.size, 0, none⟩) (.inl rfl) u0).setCell (p := ⟨w.heap.size, 1, none⟩) (.inl rfl) u1).setCell (p := ⟨w.heap.size, 2, none⟩) (.inl rfl) u2
        refine ⟨b2.trans' (tset _ _ _) (fun i hi e => by omega), ?_⟩
        rw [unhide Hres]
        rfl
    · have HL1 := unhide HLay
      rw [if_neg hok] at HL1
      have HL := hide HL1
      have hres : readC bs = none := by unfold readC; simp [hok]
      have Hres := hide hres
      clear HL1 HLay hres hok
      go_wp2_with fail
      rw [← unhide Hw7]
      refine (unhide HL).mono ?_
      rintro e w8 ⟨rfl, t8⟩
      obtain ⟨a1, a3, a4, a5, a6⟩ := unhide HZ
      have hr8 := a3.kept t8 (fun e => e)
      have g0 : w8.cell? ⟨w.heap.size, 0, none⟩ = some (.string ⟨#[]⟩) := hr8.cell 0
      have g1 : w8.cell? ⟨w.heap.size, 1, none⟩ = some (.bool false) := hr8.cell 1
      have g2 : w8.cell? ⟨w.heap.size, 2, none⟩ = some (.slice none 0 0) := hr8.cell 2
      have z0 := hr8.frozen 0
      have z1 := hr8.frozen 1
      have z2 := hr8.frozen 2
      have Hfin := hide (And.intro hr8 (a4.trans t8))
      clear hr8 a1 a3 a4 a5 a6 t8 HL HZ Hw7 c70 c71 c72 f2
      go_wp2
      obtain ⟨b1, b2⟩ := unhide Hfin
      refine bodyPost_ret (results_cell2 rfl _ _ w.heap.size 51 _ (0, 0) _ rfl (((b1.set 0 _).set 1 _).set 2 _) Tryz.underlying51 rfl (by kernel_rfl)) rfl ?_
      have tset : ∀ u0 u1 u2, Turn (fun i => i = w.heap.size) w8 (((w8.setCell ⟨w.heap.size, 0, none⟩ u0).setCell ⟨w.heap.size, 1, none⟩ u1).setCell ⟨w.heap.size, 2, none⟩ u2) := fun u0 u1 u2 => (((Turn.refl (fun i => i = w.heap.size) w8).setCell (p := ⟨w.heap.size, 0, none⟩) (.inl rfl) u0).setCell (p := ⟨w.heap.size, 1, none⟩) (.inl rfl) u1).setCell (p := ⟨w.heap.size, 2, none⟩) (.inl rfl) u2
      refine ⟨b2.trans' (tset _ _ _) (fun i hi e => by omega), ?_⟩
      rw [unhide Hres]
      rfl
  · have q1 : (num a.1 == 1) = false := by simp [hq]
    have htk : takenC bs = ⟨⟨a.2.short.1.toArray⟩, false, []⟩ := by unfold takenC; rw [← unhide Ha, if_neg hq]
    have Htk := hide htk
    clear htk hq
    go_wp2_with fail
    refine (rr_text b v2 a.2 w2 (unhide S2).at' (unhide Hao) (by have := unhide Hal; have := unhide HN; omega)).mono ?_
    rintro e w3 ⟨rfl, v3, s3⟩
    have hA3 := (unhide HA2).kept s3.turn (fun e => by omega)
    obtain ⟨c, hc⟩ : ∃ c, c = w3.heap.size := ⟨_, rfl⟩
    obtain ⟨w7, hw7⟩ : ∃ w7, w7 = w3.alloc (.cells #[.string ⟨a.2.short.1.toArray⟩, .bool false, .slice none 0 0] 51) := ⟨_, rfl⟩
    have t4 : Turn (fun _ => False) w3 w7 := by rw [hw7]; exact (Turn.refl _ _).alloc _
    have hA7 : At 51 w7 c #[.string ⟨a.2.short.1.toArray⟩, .bool false, .slice none 0 0] := by rw [hw7, hc]; exact At.new _ _ _
    have hA7r := hA3.kept t4 (fun e => e)
    have t27 := (((unhide T2).trans' s3.turn (fun i hi e => by omega)).trans t4)
    have hs7 : Sees w7 (.slice vo n vc) bs := (unhide H).kept t27 (fun _ _ e => e)
    have hv7 : ∀ j, slab (.slice none 0 0) = some j → w.heap.size < j ∧ j < w7.heap.size := fun j hj => by simp [slab] at hj
    have HZ := hide (And.intro hA7 (And.intro hA7r (And.intro t27 (And.intro hs7 hv7))))
    have Hw7 := hide hw7
    have Hc := hide hc
    have hbc : b < c := by rw [hc]; exact s3.at'.1.lt
    have hv8 : Hid (Sees w7 (.slice none 0 0) []) := hide (Sees.nil w7)
    generalize a.2.short = k at *
    clear hA3 hw7 t4 hA7 hA7r s3 S2 T2 HA2 hc t27 hs7 hv7
    have hkm : (⟨k.1.toArray⟩ : ByteArray).size ≤ maxLen := by
      have h1 := unhide Hk1
      have h2 := unhide HN
      have e : (⟨k.1.toArray⟩ : ByteArray).size = k.1.length := by simp [ByteArray.size]
      unfold maxLen
      omega
    have HLay : Hid (if (takenC bs).ok = true then Calls Tryz.prog 33 #[.agg #[.string ⟨k.1.toArray⟩, .bool false, .slice none 0 0]] w7 fun e w' => ∃ v', e = .returned (.tuple #[v', .int .i64 0]) ∧ Made w7 v' (takenC bs).laid w'
        else Calls Tryz.prog 33 #[.agg #[.string ⟨k.1.toArray⟩, .bool false, .slice none 0 0]] w7 fun e w' => e = .returned (.tuple #[.slice none 0 0, .int .i64 1]) ∧ Turn (fun _ => False) w7 w') := by
      refine hide ?_
      rw [unhide Htk]
      split
      · rename_i hok
        exact rlay_yes _ _ _ _ w7 (Sees.nil w7) (fun h0 j hj => by simp [slab] at hj) hok
      · rename_i hok
        exact rlay_no _ _ _ _ w7 (Sees.nil w7) hkm (by simpa using hok)
    have HTk2 : Hid (∃ c : Chg, takenC bs = c ∧ c.key = ⟨k.1.toArray⟩ ∧ c.has = false ∧ c.val = []) := hide ⟨_, unhide Htk, rfl, rfl, rfl⟩
    clear hkm Htk
    by_cases hok : (takenC bs).ok = true
    · have HL1 := unhide HLay
      rw [if_pos hok] at HL1
      have HL := hide HL1
      clear HL1 HLay
      go_wp2_with fail
      rw [← unhide Hw7, ← unhide Hc]
      refine (unhide HL).mono ?_
      rintro e w8 ⟨v8, rfl, hm8⟩
      obtain ⟨a1, a3, a4, a5, a6⟩ := unhide HZ
      have hsb := a5.kept hm8.2.1 (fun _ _ e => e)
      have hr8 := a3.kept hm8.2.1 (fun e => e)
      have c80 : w8.cell? ⟨c, 0, none⟩ = some (.string ⟨k.1.toArray⟩) := (a1.kept hm8.2.1 (fun e => e)).cell 0
      have c81 : w8.cell? ⟨c, 1, none⟩ = some (.bool false) := (a1.kept hm8.2.1 (fun e => e)).cell 1
      have c82 : w8.cell? ⟨c, 2, none⟩ = some (.slice none 0 0) := (a1.kept hm8.2.1 (fun e => e)).cell 2
      have g0 : w8.cell? ⟨w.heap.size, 0, none⟩ = some (.string ⟨#[]⟩) := hr8.cell 0
      have g1 : w8.cell? ⟨w.heap.size, 1, none⟩ = some (.bool false) := hr8.cell 1
      have g2 : w8.cell? ⟨w.heap.size, 2, none⟩ = some (.slice none 0 0) := hr8.cell 2
      have z0 := hr8.frozen 0
      have z1 := hr8.frozen 1
      have z2 := hr8.frozen 2
      have ht8 := a4.trans hm8.2.1
      have hv9 := (unhide hv8).kept hm8.2.1 (fun _ _ e => e)
      have hl8 : ∀ j, slab (.slice none 0 0) = some j → w.heap.size < j ∧ j < w8.heap.size := fun j hj => ⟨(a6 j hj).1, Nat.lt_of_lt_of_le (a6 j hj).2 hm8.2.1.size⟩
      have Hfin := hide (And.intro hr8 (And.intro ht8 (And.intro hv9 hl8)))
      have k1 := run_text_of_sees (P := Tryz.prog) w8 29 9 Tryz.underlying29 Tryz.underlying5 Tryz.underlying9 hm8.1.sees
      have k2 := run_text_of_sees (P := Tryz.prog) w8 29 9 Tryz.underlying29 Tryz.underlying5 Tryz.underlying9 hsb
      obtain ⟨o8, c8, e8⟩ := hm8.1.shape
      have hrd : readC bs = if (takenC bs).laid = bs then some (takenC bs) else none := by unfold readC; simp [hok]
      have Hrd := hide hrd
      generalize (takenC bs).laid = lb at *
      generalize lb.length = n8 at *
      subst e8
      clear hm8 hsb hr8 a1 a3 a4 a5 a6 ht8 hv9 hl8 hrd HL HZ Hw7
      by_cases hd : lb = bs
      · have hres : readC bs = some (takenC bs) := by rw [unhide Hrd, if_pos hd]
        have Hres := hide hres
        have hq : (lb == bs) = true := by simp [hd]
        clear hd hres
        go_wp2
        obtain ⟨b1, b2, b3, b4⟩ := unhide Hfin
        obtain ⟨d, d1, d2, d3, d4⟩ := unhide HTk2
        refine bodyPost_ret (results_cell2 rfl _ _ w.heap.size 51 _ (0, 0) _ rfl (((b1.set 0 _).set 1 _).set 2 _) Tryz.underlying51 rfl (by kernel_rfl)) rfl ?_
        have tset : ∀ u0 u1 u2, Turn (fun i => i = w.heap.size) w8 (((w8.setCell ⟨w.heap.size, 0, none⟩ u0).setCell ⟨w.heap.size, 1, none⟩ u1).setCell ⟨w.heap.size, 2, none⟩ u2) := fun u0 u1 u2 => (((Turn.refl (fun i => i = w.heap.size) w8).setCell (p := ⟨w.heap.size, 0, none⟩) (.inl rfl) u0).setCell (p := ⟨w.heap.size, 1, none⟩) (.inl rfl) u1).setCell (p := ⟨w.heap.size, 2, none⟩) (.inl rfl) u2
        refine ⟨b2.trans' (tset _ _ _) (fun i hi e => by omega), ?_⟩
        rw [unhide Hres, d1]
        refine ⟨_, by rw [d2, d3]; rfl, ?_, fun j hj => ?_⟩
        · rw [d4]
          exact b3.kept (tset _ _ _) (fun j hj e => by have := b4 j hj; omega)
        · have := b4 j hj
          have := (tset (.string ⟨k.1.toArray⟩) (.bool false) (.slice none 0 0)).size
          exact ⟨by omega, by omega⟩
      · have hres : readC bs = none := by rw [unhide Hrd, if_neg hd]
        have Hres := hide hres
        have hq : (lb == bs) = false := by simp [hd]
        clear hd hres
        go_wp2
        obtain ⟨b1, b2, b3, b4⟩ := unhide Hfin
        refine bodyPost_ret (results_cell2 rfl _ _ w.heap.size 51 _ (0, 0) _ rfl (((b1.set 0 _).set 1 _).set 2 _) Tryz.underlying51 rfl (by kernel_rfl)) rfl ?_
        have tset : ∀ u0 u1 u2, Turn (fun i => i = w.heap.size) w8 (((w8.setCell ⟨w.heap.size, 0, none⟩ u0).setCell ⟨w.heap.size, 1, none⟩ u1).setCell ⟨w.heap.size, 2, none⟩ u2) := fun u0 u1 u2 => (((Turn.refl (fun i => i = w.heap.size) w8).setCell (p := ⟨w.heap.size, 0, none⟩) (.inl rfl) u0).setCell (p := ⟨w.heap.size, 1, none⟩) (.inl rfl) u1).setCell (p := ⟨w.heap.size, 2, none⟩) (.inl rfl) u2
        refine ⟨b2.trans' (tset _ _ _) (fun i hi e => by omega), ?_⟩
        rw [unhide Hres]
        rfl
    · have HL1 := unhide HLay
      rw [if_neg hok] at HL1
      have HL := hide HL1
      have hres : readC bs = none := by unfold readC; simp [hok]
      have Hres := hide hres
      clear HL1 HLay hres hok
      go_wp2_with fail
      rw [← unhide Hw7, ← unhide Hc]
      refine (unhide HL).mono ?_
      rintro e w8 ⟨rfl, t8⟩
      obtain ⟨a1, a3, a4, a5, a6⟩ := unhide HZ
      have hr8 := a3.kept t8 (fun e => e)
      have g0 : w8.cell? ⟨w.heap.size, 0, none⟩ = some (.string ⟨#[]⟩) := hr8.cell 0
      have g1 : w8.cell? ⟨w.heap.size, 1, none⟩ = some (.bool false) := hr8.cell 1
      have g2 : w8.cell? ⟨w.heap.size, 2, none⟩ = some (.slice none 0 0) := hr8.cell 2
      have z0 := hr8.frozen 0
      have z1 := hr8.frozen 1
      have z2 := hr8.frozen 2
      have Hfin := hide (And.intro hr8 (a4.trans t8))
      clear hr8 a1 a3 a4 a5 a6 t8 HL HZ Hw7
      go_wp2
      obtain ⟨b1, b2⟩ := unhide Hfin
      refine bodyPost_ret (results_cell2 rfl _ _ w.heap.size 51 _ (0, 0) _ rfl (((b1.set 0 _).set 1 _).set 2 _) Tryz.underlying51 rfl (by kernel_rfl)) rfl ?_
      have tset : ∀ u0 u1 u2, Turn (fun i => i = w.heap.size) w8 (((w8.setCell ⟨w.heap.size, 0, none⟩ u0).setCell ⟨w.heap.size, 1, none⟩ u1).setCell ⟨w.heap.size, 2, none⟩ u2) := fun u0 u1 u2 => (((Turn.refl (fun i => i = w.heap.size) w8).setCell (p := ⟨w.heap.size, 0, none⟩) (.inl rfl) u0).setCell (p := ⟨w.heap.size, 1, none⟩) (.inl rfl) u1).setCell (p := ⟨w.heap.size, 2, none⟩) (.inl rfl) u2
      refine ⟨b2.trans' (tset _ _ _) (fun i hi e => by omega), ?_⟩
      rw [unhide Hres]
      rfl

end Go.Proofs.YtnipdgigjcaolaaGreat
