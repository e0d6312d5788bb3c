/- The law KvCodes: its walk. -/
import Derived.Test.YteomehdkfhjbeaaGreatKList
import Derived.Test.YteomehdkfhjbeaaGreatKRefR
import Derived.Test.YteomehdkfhjbeaaGreatKKn1
import Derived.Test.YteomehdkfhjbeaaGreatPkF
import Derived.Test.YteomehdkfhjbeaaGreatFReads
import Derived.Deep.CutBlock
namespace Go.Proofs.YteomehdkfhjbeaaGreat
open Go.RowKit

theorem xor_byte7 (x : UInt8) (y : Nat) (hy : y < 256) : ∃ z : UInt8, bits .xor .u8 (x.toNat : Int) (y : Int) = (z.toNat : Int) := by
  have hx := byte_lt x
  have hz : x.toNat ^^^ y < 256 := Nat.xor_lt_two_pow (n := 8) hx hy
  refine ⟨UInt8.ofNat (x.toNat ^^^ y), ?_⟩
  rw [UInt8.toNat_ofNat', Nat.mod_eq_of_lt hz]
  exact u8_xor_nat _ _ hx hy

theorem chg_pos (c : Chg) : 0 < c.laid.length := by
  unfold Chg.laid
  split <;> simp [be_length] <;> omega

/-- A change at its place, behind the law's first lines. -/
structure AtC (w wx : World) (k : ByteArray) (hs : Bool) (v : Value) (bs : List UInt8) : Prop where
  at' : At 51 wx w.heap.size #[.string k, .bool hs, v]
  turn : Turn (fun _ => False) w wx
  sees : Sees wx v bs
  lt : 0 < bs.length → ∀ j, slab v = some j → j < wx.heap.size
  ks : k.size ≤ maxLen

theorem AtC.goes {w wx wy : World} {k : ByteArray} {hs : Bool} {v : Value} {bs : List UInt8} (h : AtC w wx k hs v bs) (t : Turn (fun _ => False) wx wy) : AtC w wy k hs v bs :=
  ⟨h.at'.kept t (fun e => e), h.turn.trans t, h.sees.kept t (fun _ _ e => e), fun h0 j hj => Nat.lt_of_lt_of_le (h.lt h0 j hj) t.size, h.ks⟩

set_option maxHeartbeats 8000000 in
set_option maxRecDepth 100000 in
theorem kvCodes_any (k : ByteArray) (hs : Bool) (cv : Value) (cbs : List UInt8) (rv : Value) (rbs : List UInt8) (nv : Value) (nl : List RawC) (how at' : Int) (y : Nat) (w : World)
    (hc : Sees w cv cbs) (hclt : 0 < cbs.length → ∀ j, slab cv = some j → j < w.heap.size) (hk : k.size ≤ maxLen) (hr : Sees w rv rbs) (hrl : rbs.length ≤ 140737488355328) (hn : RawsOf w w.heap.size nv nl) (hy : y < 256) :
    Calls Tryz.prog 5 #[.agg #[.string k, .bool hs, cv], rv, nv, .int .i64 how, .int .i64 at', .int .u8 (y : Int)] w fun e w' => e = .returned (.bool true) ∧ Turn (fun _ => False) w w' := by
  obtain ⟨co, cc, rfl⟩ := hc.shape
  obtain ⟨ro, rc, rfl⟩ := hr.shape
  obtain ⟨no, nc, rfl, hnm⟩ := hn.shape
  obtain ⟨w1, hw1⟩ : ∃ w1, w1 = w.alloc (.cells #[.string k, .bool hs, .slice co cbs.length cc] 51) := ⟨_, rfl⟩
  have t1 : Turn (fun _ => False) w w1 := by rw [hw1]; exact (Turn.refl _ _).alloc _
  have hA1 : AtC w w1 k hs (.slice co cbs.length cc) cbs := ⟨by rw [hw1]; exact At.new _ _ _, t1, hc.kept t1 (fun _ _ e => e), fun h0 j hj => Nat.lt_of_lt_of_le (hclt h0 j hj) t1.size, hk⟩
  have hn1 := hn.kept t1 (Nat.le_refl _) (fun _ _ e => e)
  have hr1 := hr.kept t1 (fun _ _ e => e)
  have hL1 := hide (klist_any _ nl w.heap.size 1 w1 hn1 t1.size (by omega))
  unfold maxLen at hnm
  have HA1 := hide hA1
  have HN1 := hide hn1
  have HR := hide hr
  have Hw1 := hide hw1
  obtain ⟨cl, hcll⟩ : ∃ cl, cl = cbs.length := ⟨_, rfl⟩
  obtain ⟨rl, hrll⟩ : ∃ rl, rl = rbs.length := ⟨_, rfl⟩
  obtain ⟨nn, hnn⟩ : ∃ nn, nn = nl.length := ⟨_, rfl⟩
  have HRL := hide hrll
  have HNN := hide hnn
  rw [← hcll] at HA1 Hw1 ⊢
  rw [← hrll] at HR hrl ⊢
  rw [← hnn] at HN1 hnm hL1 ⊢
  have hws := t1.size
  clear hc hclt hr hn hw1 t1 hA1 hn1 hr1 hcll hrll hnn
  go_enter Tryz.func5, Tryz.ntmps5
  go_upto_region 1 with fail
  rw [← unhide Hw1]
  go_cut [29] from 22 to 29 (fun c wx => ∃ c0 : Bool, c = .bool c0 ∧ wx = w1 ∧ (c0 = true → 0 < nn))
  case first =>
    by_cases h3 : 0 < how.tmod 3
    · by_cases hn0 : 0 < nn
      · have q0 : (0 : Int) < nn := by omega
        go_wp2
        go_meet
        case rel => exact ⟨true, rfl, rfl, fun _ => hn0⟩
      · have q0 : ¬ (0 : Int) < nn := by omega
        go_wp2
        go_meet
        case rel => exact ⟨false, rfl, rfl, fun e => by cases e⟩
    · go_wp2
      go_meet
      case rel => exact ⟨false, rfl, rfl, fun e => by cases e⟩
  case rest =>
  obtain ⟨c0, rfl, hwc, hn0'⟩ := hcut
  subst hwc
  go_upto_if 29 with fail
  go_cut [] from 30 to 33 (fun wx => ∃ k' hs' v' bs', AtC w wx k' hs' v' bs')
  case first =>
    have p0 : wc.cell? ⟨w.heap.size, 0, none⟩ = some (.string k) := (unhide HA1).at'.cell 0
    have p1 : wc.cell? ⟨w.heap.size, 1, none⟩ = some (.bool hs) := (unhide HA1).at'.cell 1
    have p2 : wc.cell? ⟨w.heap.size, 2, none⟩ = some (.slice co cl cc) := (unhide HA1).at'.cell 2
    cases c0
    rotate_left 1
    · · have hn0 := hn0' rfl
        have q0 : (0 : Int) < nn := by omega
        go_wp2_with fail
        refine (unhide hL1).mono ?_
        rintro e w2 ⟨v2, cs, rfl, hcm, hcs⟩
        have hlen : cs.length = 1 := by
          have h1 := congrArg List.length hcs
          have h2 := unhide HNN
          simp [listC] at h1
          omega
        obtain ⟨g, cap, hve, hqg, hch⟩ := (hcm.toCLs (by omega)).each 0 (by omega)
        have hch2 : ChAt (grow (fun _ => False) wc w2) w2 g 0 cs[0] := by simpa using hch
        rw [hlen] at hve
        obtain ⟨p, hp⟩ : ∃ p, p = cs[0] := ⟨_, rfl⟩
        rw [← hp] at hch2
        have b0 : w2.cell? ⟨g, 0, none⟩ = some (.string p.2.key) := hch2.c0
        have b1 : w2.cell? ⟨g, 1, none⟩ = some (.bool p.2.has) := hch2.c1
        have b2 : w2.cell? ⟨g, 2, none⟩ = some p.1 := hch2.c2
        have hA2 := (unhide HA1).goes hcm.turn
        have e0 : w2.cell? ⟨w.heap.size, 0, none⟩ = some (.string k) := hA2.at'.cell 0
        have e1 : w2.cell? ⟨w.heap.size, 1, none⟩ = some (.bool hs) := hA2.at'.cell 1
        have e2 : w2.cell? ⟨w.heap.size, 2, none⟩ = some (.slice co cl cc) := hA2.at'.cell 2
        have z0 := hA2.at'.frozen 0
        have z1 := hA2.at'.frozen 1
        have z2 := hA2.at'.frozen 2
        have hglt : wc.heap.size ≤ g ∧ g < w2.heap.size := hqg.elim (fun e => e.elim) (fun e => e)
        obtain ⟨po, pc, hpe⟩ := hch2.sees.shape
        have HX := hide (And.intro hA2 hch2)
        have hwlt := hA2.at'.lt
        have hw1lt := (unhide HA1).at'.lt
        clear hL1 hcs hp hch hch2 hcm hA2 hqg p0 p1 p2
        subst hve
        obtain ⟨pv, ⟨pk, ph, pb⟩⟩ := p
        simp only at b0 b1 b2 hpe HX
        generalize pb.length = pl at hpe
        subst hpe
        go_wp2
        go_meet
        case rel =>
          have ts : Turn (fun i => i = w.heap.size) w2 (((w2.setCell ⟨w.heap.size, 0, none⟩ (.string pk)).setCell ⟨w.heap.size, 1, none⟩ (.bool ph)).setCell ⟨w.heap.size, 2, none⟩ (.slice po pl pc)) := (((Turn.refl (fun i => i = w.heap.size) w2).setCell (p := ⟨w.heap.size, 0, none⟩) (.inl rfl) _).setCell (p := ⟨w.heap.size, 1, none⟩) (.inl rfl) _).setCell (p := ⟨w.heap.size, 2, none⟩) (.inl rfl) _
          refine ⟨pk, ph, .slice po pl pc, pb, ⟨?_, (unhide HX).1.turn.trans' ts (fun i hi e => by omega), ?_, fun h0 j hj => ?_, by have h0 : pk.size ≤ 1099511627776 := (unhide HX).2.key; unfold maxLen; omega⟩⟩
          · simpa using (((unhide HX).1.at'.set 0 (.string pk)).set 1 (.bool ph)).set 2 (.slice po pl pc)
          · exact (unhide HX).2.sees.kept' ts (fun h0 j hj e => by
              have := (unhide HX).2.mem h0 j hj
              rcases this with h | h
              · exact h
              · omega)
          · have := (unhide HX).2.mem h0 j hj
            have h2 := ts.size
            rcases this with h | h
            · exact h.elim
            · omega
    · go_wp2
      go_meet
      case rel => exact ⟨_, _, _, _, unhide HA1⟩
  case rest =>
    obtain ⟨k', hs', v', bs', hA⟩ := hcut
    obtain ⟨vo, vc, hve⟩ := hA.sees.shape
    have hkm : k'.size ≤ maxLen := hA.ks
    have p0 : wc.cell? ⟨w.heap.size, 0, none⟩ = some (.string k') := hA.at'.cell 0
    have p1 : wc.cell? ⟨w.heap.size, 1, none⟩ = some (.bool hs') := hA.at'.cell 1
    have p2 : wc.cell? ⟨w.heap.size, 2, none⟩ = some v' := hA.at'.cell 2
    by_cases hok : Chg.ok ⟨k', hs', bs'⟩ = true
    · have HL1 := hide (klay_yes k' hs' v' bs' wc hA.sees hkm hA.lt hok)
      have hlb := Chg.laid_le _ hok
      have hlp := chg_pos ⟨k', hs', bs'⟩
      have HLy : Hid (∀ wy, AtC w wy k' hs' v' bs' → Calls Tryz.prog 33 #[.agg #[.string k', .bool hs', v']] wy fun e w' => ∃ v'', e = .returned (.tuple #[v'', .int .i64 0]) ∧ Made wy v'' (Chg.laid ⟨k', hs', bs'⟩) w') := hide (fun wy hy => rlay_yes k' hs' v' bs' wy hy.sees hy.lt hok)
      have HA := hide hA
      clear hA hok hL1
      generalize Chg.laid ⟨k', hs', bs'⟩ = lb at *
      obtain ⟨ln, hln⟩ : ∃ ln, ln = lb.length := ⟨_, rfl⟩
      rw [← hln] at hlb hlp
      have HLN := hide hln
      clear hln
      generalize bs'.length = vn at hve
      subst hve
      go_wp2_with fail
      refine (unhide HL1).mono ?_
      rintro e w3 ⟨v3, rfl, hm3⟩
      have hA3 := (unhide HA).goes hm3.2.1
      have q0 : w3.cell? ⟨w.heap.size, 0, none⟩ = some (.string k') := hA3.at'.cell 0
      have q1 : w3.cell? ⟨w.heap.size, 1, none⟩ = some (.bool hs') := hA3.at'.cell 1
      have q2 : w3.cell? ⟨w.heap.size, 2, none⟩ = some (.slice vo vn vc) := hA3.at'.cell 2
      have HL2 := hide (unhide HLy w3 hA3)
      have HA3 := hide (And.intro hA3 hm3.1)
      obtain ⟨o3, c3, e3⟩ := hm3.1.shape
      rw [← unhide HLN] at e3
      subst e3
      clear hm3 hA3 HL1 HLy p0 p1 p2
      go_wp2_with fail
      refine (unhide HL2).mono ?_
      rintro e w4 ⟨v4, rfl, hm4⟩
      obtain ⟨o4, c4, e4⟩ := hm4.1.shape
      rw [← unhide HLN] at e4
      subst e4
      have k1 := run_text_of_sees (P := Tryz.prog) w4 29 9 Tryz.underlying29 Tryz.underlying5 Tryz.underlying9 ((unhide HA3).2.sees.kept hm4.2.1 (fun _ _ e => e))
      have k2 := run_text_of_sees (P := Tryz.prog) w4 29 9 Tryz.underlying29 Tryz.underlying5 Tryz.underlying9 hm4.1.sees
      have r1 : (lb == lb) = true := by simp
      have t4 := (unhide HA3).1.turn.trans hm4.2.1
      have HF := hide (few_any (.slice ro rl rc) rbs rl w4 (by have := (unhide HR).kept t4 (fun _ _ e => e); exact this) (by have := Nat.min_le_right rbs.length rl; omega))
      have H4 := hide (And.intro t4 hm4)
      clear t4 hm4 HL2 HA3 q0 q1 q2
      go_wp2_with fail
      refine (unhide HF).mono ?_
      rintro e w5 ⟨v5, rfl, hm5⟩
      have htk : rbs.take rl = rbs := List.take_of_length_le (by have := unhide HRL; omega)
      rw [htk] at hm5
      have H5 := hide (And.intro ((unhide H4).1.trans hm5.2.1) (And.intro hm5 ((unhide H4).2.1.kept hm5.2.1 (fun _ _ e => e))))
      obtain ⟨o5, c5, e5⟩ := hm5.1.shape
      rw [← unhide HRL] at e5
      subst e5
      clear hm5 htk HF H4 k1 k2 r1
      go_upto_region 8 with fail
      go_cut [64] from 58 to 64 (fun c wx => ∃ c0 : Bool, c = .bool c0 ∧ wx = w5)
      case first =>
        by_cases h5 : 0 < how.tmod 5
        · go_wp2
          go_meet
          case rel => exact ⟨true, rfl, rfl⟩
        · go_wp2
          go_meet
          case rel => exact ⟨false, rfl, rfl⟩
      case rest =>
      obtain ⟨c1, rfl, hwz⟩ := hcut
      subst hwz
      go_upto_if 64 with fail
      go_cut [17] from 65 to 78 (fun z wx => ∃ zo zn zc zb, z = .slice zo zn zc ∧ Turn (fun _ => False) w wx ∧ Sees wx (.slice zo zn zc) zb ∧ (∀ j, slab (.slice zo zn zc) = some j → j < wx.heap.size) ∧ zb.length ≤ 140737488355328)
      case first =>
        cases c1
        · go_wp2
          go_meet
          case rel => exact ⟨_, _, _, rbs, rfl, (unhide H5).1, (unhide H5).2.1.1.sees, fun j hj => by rw [(unhide H5).2.1.1.slab_eq] at hj; exact (unhide H5).2.1.1.lt hj, by have := unhide HRL; omega⟩
        · have HF := hide (few_any (.slice o4 ln c4) lb ln wc (by have := (unhide H5).2.2.sees; exact this) (by have := Nat.min_le_right lb.length ln; omega))
          go_wp2_with fail
          refine (unhide HF).mono ?_
          rintro e w6 ⟨v6, rfl, hm6⟩
          have hln := unhide HLN
          have htk : lb.take ln = lb := List.take_of_length_le (by omega)
          rw [htk] at hm6
          obtain ⟨g, cap, hve⟩ := hm6.1.solid (by omega)
          rw [← hln] at hve
          subst hve
          have hQ := pick_any at' ln w6 (by omega) (by omega)
          have hi0 := Int.emod_nonneg at' (show (ln : Int) ≠ 0 by omega)
          have hi1 := Int.emod_lt_of_pos at' (show 0 < (ln : Int) by omega)
          obtain ⟨j, hj2⟩ := Int.eq_ofNat_of_zero_le hi0
          rw [hj2] at hQ hi1
          have HQ := hide hQ
          have hj : j < lb.length := by omega
          have ho2 : Owns w6 (.slice (some ⟨g, 0, none⟩) lb.length cap) lb := by rw [← hln]; exact hm6.1
          have ci := Owns.at ho2 j hj
          have zi := Owns.frozenAt ho2 j
          obtain ⟨xj, hxj⟩ : ∃ xj, xj = lb[j] := ⟨_, rfl⟩
          obtain ⟨z, hz⟩ := xor_byte7 xj y hy
          rw [← hxj] at ci
          clear hxj
          have o5' := Owns.put ho2 j z
          have hgA := hm6.2.2 g rfl
          have t5 : Turn (fun k => k = g) w6 (w6.setCell ⟨g, j, none⟩ (.int .u8 z.toNat)) := (Turn.refl (fun k => k = g) w6).setCell (p := ⟨g, j, none⟩) (.inl rfl) _
          have HM := hide (And.intro o5' ((unhide H5).1.trans (hm6.2.1.trans' t5 (fun i hi e => by omega))))
          have zb : (0 : Int) < ln := by omega
          have zj : (j : Int) < ln := by omega
          have Hci := hide (And.intro ci (And.intro zi hz))
          clear hQ hi0 hi1 hj2 o5' t5 hm6 hgA ho2 ci zi hz hj htk HF hln
          go_wp2_with fail
          refine (unhide HQ).mono ?_
          rintro e w7 ⟨rfl, rfl⟩
          obtain ⟨ci, zi, hz⟩ := unhide Hci
          go_wp2
          go_meet
          case rel =>
            have hl : (lb.set j z).length = ln := by rw [List.length_set]; exact (unhide HLN).symm
            have ho := (unhide HM).1
            rw [hl] at ho
            exact ⟨_, _, _, lb.set j z, rfl, (unhide HM).2, ho.sees, fun j hj => by rw [ho.slab_eq] at hj; exact ho.lt hj, by omega⟩
      case rest =>
      obtain ⟨zo, zn, zc, zb, rfl, tz0, hz1, hz2, hz3⟩ := hcut
      have TZ := hide tz0
      have HZ := hide (And.intro hz1 (And.intro hz2 hz3))
      clear tz0 hz1 hz2 hz3 H5
      generalize wc = wz at *
      have tz := unhide TZ
      rcases hrd : readC zb with _ | c
      · have HKr := hide (kread_any (.slice zo zn zc) zb wz (unhide HZ).1 (unhide HZ).2.2 (fun _ => (unhide HZ).2.1))
        rw [hrd] at HKr
        have Hrd := hide hrd
        clear hrd tz
        go_wp2_with fail
        refine (unhide HKr).mono ?_
        rintro e w10 ⟨t10, rfl⟩
        have ta : Turn (fun _ => False) w10 (w10.alloc (.cells #[.string ⟨#[]⟩, .bool false, .slice none 0 0] 51)) := (Turn.refl _ _).alloc _
        have hX : At 51 (w10.alloc (.cells #[.string ⟨#[]⟩, .bool false, .slice none 0 0] 51)) w10.heap.size #[.string ⟨#[]⟩, .bool false, .slice none 0 0] := At.new _ _ _
        have HRr := hide (rread_any (.slice zo zn zc) zb _ ((unhide HZ).1.kept (t10.trans ta) (fun _ _ e => e)) (unhide HZ).2.2 (fun j hj => Nat.lt_of_lt_of_le ((unhide HZ).2.1 j hj) (t10.trans ta).size))
        rw [unhide Hrd] at HRr
        have T11 := hide (((unhide TZ).trans t10).trans ta)
        have HX := hide hX
        clear t10 ta hX HKr
        go_wp2_with fail
        refine (unhide HRr).mono ?_
        rintro e w12 ⟨t12, rfl⟩
        have ta : Turn (fun _ => False) w12 (w12.alloc (.cells #[.string ⟨#[]⟩, .bool false, .slice none 0 0] 51)) := (Turn.refl _ _).alloc _
        have hY : At 51 (w12.alloc (.cells #[.string ⟨#[]⟩, .bool false, .slice none 0 0] 51)) w12.heap.size #[.string ⟨#[]⟩, .bool false, .slice none 0 0] := At.new _ _ _
        have HX2 := hide (((unhide HX).kept t12 (fun e => e)).kept ta (fun e => e))
        have HY := hide hY
        have T13 := hide (((unhide T11).trans t12).trans ta)
        clear t12 ta hY HX HRr T11
        go_wp2_with fail
        refine (known7_any _).mono ?_
        rintro e w14 ⟨rfl, t14⟩
        have hx := (unhide HX2).kept t14 (fun e => e)
        have hy := (unhide HY).kept t14 (fun e => e)
        have x0 : w14.cell? ⟨w10.heap.size, 0, none⟩ = some (.string ⟨#[]⟩) := hx.cell 0
        have x1 : w14.cell? ⟨w10.heap.size, 1, none⟩ = some (.bool false) := hx.cell 1
        have x2 : w14.cell? ⟨w10.heap.size, 2, none⟩ = some (.slice none 0 0) := hx.cell 2
        have y0 : w14.cell? ⟨w12.heap.size, 0, none⟩ = some (.string ⟨#[]⟩) := hy.cell 0
        have y1 : w14.cell? ⟨w12.heap.size, 1, none⟩ = some (.bool false) := hy.cell 1
        have y2 : w14.cell? ⟨w12.heap.size, 2, none⟩ = some (.slice none 0 0) := hy.cell 2
        have cv := run_text_of_sees (P := Tryz.prog) w14 29 9 Tryz.underlying29 Tryz.underlying5 Tryz.underlying9 (Sees.nil w14)
        have TF := hide ((unhide T13).trans t14)
        clear hx hy t14 HX2 HY T13
        go_wp2
        go_ret
        exact ⟨rfl, unhide TF⟩
      · have HKr := hide (kread_any (.slice zo zn zc) zb wz (unhide HZ).1 (unhide HZ).2.2 (fun _ => (unhide HZ).2.1))
        rw [hrd] at HKr
        have Hrd := hide hrd
        clear hrd tz
        obtain ⟨ck, ch, cb⟩ := c
        go_wp2_with fail
        refine (unhide HKr).mono ?_
        rintro e w10 ⟨t10, v10, rfl, hs10, hl10⟩
        obtain ⟨o10, c10, e10⟩ := hs10.shape
        simp only at e10 hs10
        obtain ⟨n10, hn10⟩ : ∃ n10, n10 = cb.length := ⟨_, rfl⟩
        have HN10 := hide hn10
        rw [← hn10] at e10
        clear hn10
        subst e10
        have ta : Turn (fun _ => False) w10 (w10.alloc (.cells #[.string ck, .bool ch, .slice o10 n10 c10] 51)) := (Turn.refl _ _).alloc _
        have hX : At 51 (w10.alloc (.cells #[.string ck, .bool ch, .slice o10 n10 c10] 51)) w10.heap.size #[.string ck, .bool ch, .slice o10 n10 c10] := At.new _ _ _
        have HRr := hide (rread_any (.slice zo zn zc) zb _ ((unhide HZ).1.kept (t10.trans ta) (fun _ _ e => e)) (unhide HZ).2.2 (fun j hj => Nat.lt_of_lt_of_le ((unhide HZ).2.1 j hj) (t10.trans ta).size))
        rw [unhide Hrd] at HRr
        have T11 := hide (((unhide TZ).trans t10).trans ta)
        have HX := hide (And.intro hX (hs10.kept ta (fun _ _ e => e)))
        clear t10 ta hX HKr hs10 hl10
        go_wp2_with fail
        refine (unhide HRr).mono ?_
        rintro e w12 ⟨t12, v12, rfl, hs12, hl12⟩
        obtain ⟨o12, c12, e12⟩ := hs12.shape
        simp only at e12 hs12
        rw [← unhide HN10] at e12
        subst e12
        have ta : Turn (fun _ => False) w12 (w12.alloc (.cells #[.string ck, .bool ch, .slice o12 n10 c12] 51)) := (Turn.refl _ _).alloc _
        have hY : At 51 (w12.alloc (.cells #[.string ck, .bool ch, .slice o12 n10 c12] 51)) w12.heap.size #[.string ck, .bool ch, .slice o12 n10 c12] := At.new _ _ _
        have HX2 := hide (And.intro (((unhide HX).1.kept t12 (fun e => e)).kept ta (fun e => e)) (((unhide HX).2.kept t12 (fun _ _ e => e)).kept ta (fun _ _ e => e)))
        have HY := hide (And.intro hY (hs12.kept ta (fun _ _ e => e)))
        have T13 := hide (((unhide T11).trans t12).trans ta)
        clear t12 ta hY HX HRr T11 hs12 hl12
        go_wp2_with fail
        refine (known7_any _).mono ?_
        rintro e w14 ⟨rfl, t14⟩
        have hx := (unhide HX2).1.kept t14 (fun e => e)
        have hy := (unhide HY).1.kept t14 (fun e => e)
        have x0 : w14.cell? ⟨w10.heap.size, 0, none⟩ = some (.string ck) := hx.cell 0
        have x1 : w14.cell? ⟨w10.heap.size, 1, none⟩ = some (.bool ch) := hx.cell 1
        have x2 : w14.cell? ⟨w10.heap.size, 2, none⟩ = some (.slice o10 n10 c10) := hx.cell 2
        have y0 : w14.cell? ⟨w12.heap.size, 0, none⟩ = some (.string ck) := hy.cell 0
        have y1 : w14.cell? ⟨w12.heap.size, 1, none⟩ = some (.bool ch) := hy.cell 1
        have y2 : w14.cell? ⟨w12.heap.size, 2, none⟩ = some (.slice o12 n10 c12) := hy.cell 2
        have hv1 := (unhide HX2).2.kept t14 (fun _ _ e => e)
        have hv2 := (unhide HY).2.kept t14 (fun _ _ e => e)
        have cv := run_text_of_sees (P := Tryz.prog) w14 29 9 Tryz.underlying29 Tryz.underlying5 Tryz.underlying9 hv1
        have cy := run_text_of_sees (P := Tryz.prog) w14 29 9 Tryz.underlying29 Tryz.underlying5 Tryz.underlying9 hv2
        have r1 : (cb == cb) = true := by simp
        have r3 : (ch == ch) = true := by simp
        have TF := hide ((unhide T13).trans t14)
        clear hx hy t14 HX2 HY T13 hv1 hv2
        go_wp2
        go_ret
        exact ⟨rfl, unhide TF⟩
    · have hno : Chg.ok ⟨k', hs', bs'⟩ = false := by simpa using hok
      have HL1 := hide (klay_no k' hs' v' bs' wc hA.sees hkm hno)
      have HLy : Hid (∀ wy, AtC w wy k' hs' v' bs' → Calls Tryz.prog 33 #[.agg #[.string k', .bool hs', v']] wy fun e w' => e = .returned (.tuple #[.slice none 0 0, .int .i64 1]) ∧ Turn (fun _ => False) wy w') := hide (fun wy hy => rlay_no k' hs' v' bs' wy hy.sees hkm hno)
      have HA := hide hA
      clear hA hok hno hL1
      generalize bs'.length = vn at hve
      subst hve
      go_wp2_with fail
      refine (unhide HL1).mono ?_
      rintro e w3 ⟨rfl, t3⟩
      have hA3 := (unhide HA).goes t3
      have q0 : w3.cell? ⟨w.heap.size, 0, none⟩ = some (.string k') := hA3.at'.cell 0
      have q1 : w3.cell? ⟨w.heap.size, 1, none⟩ = some (.bool hs') := hA3.at'.cell 1
      have q2 : w3.cell? ⟨w.heap.size, 2, none⟩ = some (.slice vo vn vc) := hA3.at'.cell 2
      have HL2 := hide (unhide HLy w3 hA3)
      have HA3 := hide hA3
      clear t3 hA3 HL1 HLy p0 p1 p2
      go_wp2_with fail
      refine (unhide HL2).mono ?_
      rintro e w4 ⟨rfl, t4'⟩
      have k1 := run_text_of_sees (P := Tryz.prog) w4 29 9 Tryz.underlying29 Tryz.underlying5 Tryz.underlying9 (Sees.nil w4)
      have t4 := (unhide HA3).turn.trans t4'
      have HF := hide (few_any (.slice ro rl rc) rbs rl w4 (by have := (unhide HR).kept t4 (fun _ _ e => e); exact this) (by have := Nat.min_le_right rbs.length rl; omega))
      have H4 := hide t4
      clear t4 t4' HL2 HA3 q0 q1 q2
      go_wp2_with fail
      refine (unhide HF).mono ?_
      rintro e wz ⟨v5, rfl, hm5⟩
      have htk : rbs.take rl = rbs := List.take_of_length_le (by have := unhide HRL; omega)
      rw [htk] at hm5
      have TZ := hide ((unhide H4).trans hm5.2.1)
      obtain ⟨zb, hzb⟩ : ∃ zb, zb = rbs := ⟨_, rfl⟩
      rw [← hzb] at hm5
      have hzl : zb.length = rl := by rw [hzb]; exact (unhide HRL).symm
      obtain ⟨zo, zc, e5⟩ := hm5.1.shape
      rw [hzl] at e5
      obtain ⟨zn, hzn⟩ : ∃ zn, zn = rl := ⟨_, rfl⟩
      rw [← hzn] at e5
      have HZ : Hid (Sees wz v5 zb ∧ (∀ j, slab v5 = some j → j < wz.heap.size) ∧ zb.length ≤ 140737488355328) := hide ⟨hm5.1.sees, fun j hj => by rw [hm5.1.slab_eq] at hj; exact hm5.1.lt hj, by omega⟩
      subst e5
      clear hm5 htk HF H4 k1 hzl hzb hzn
      have tz := unhide TZ
      rcases hrd : readC zb with _ | c
      · have HKr := hide (kread_any (.slice zo zn zc) zb wz (unhide HZ).1 (unhide HZ).2.2 (fun _ => (unhide HZ).2.1))
        rw [hrd] at HKr
        have Hrd := hide hrd
        clear hrd tz
        go_wp2_with fail
        refine (unhide HKr).mono ?_
        rintro e w10 ⟨t10, rfl⟩
        have ta : Turn (fun _ => False) w10 (w10.alloc (.cells #[.string ⟨#[]⟩, .bool false, .slice none 0 0] 51)) := (Turn.refl _ _).alloc _
        have hX : At 51 (w10.alloc (.cells #[.string ⟨#[]⟩, .bool false, .slice none 0 0] 51)) w10.heap.size #[.string ⟨#[]⟩, .bool false, .slice none 0 0] := At.new _ _ _
        have HRr := hide (rread_any (.slice zo zn zc) zb _ ((unhide HZ).1.kept (t10.trans ta) (fun _ _ e => e)) (unhide HZ).2.2 (fun j hj => Nat.lt_of_lt_of_le ((unhide HZ).2.1 j hj) (t10.trans ta).size))
        rw [unhide Hrd] at HRr
        have T11 := hide (((unhide TZ).trans t10).trans ta)
        have HX := hide hX
        clear t10 ta hX HKr
        go_wp2_with fail
        refine (unhide HRr).mono ?_
        rintro e w12 ⟨t12, rfl⟩
        have ta : Turn (fun _ => False) w12 (w12.alloc (.cells #[.string ⟨#[]⟩, .bool false, .slice none 0 0] 51)) := (Turn.refl _ _).alloc _
        have hY : At 51 (w12.alloc (.cells #[.string ⟨#[]⟩, .bool false, .slice none 0 0] 51)) w12.heap.size #[.string ⟨#[]⟩, .bool false, .slice none 0 0] := At.new _ _ _
        have HX2 := hide (((unhide HX).kept t12 (fun e => e)).kept ta (fun e => e))
        have HY := hide hY
        have T13 := hide (((unhide T11).trans t12).trans ta)
        clear t12 ta hY HX HRr T11
        go_wp2_with fail
        refine (known7_any _).mono ?_
        rintro e w14 ⟨rfl, t14⟩
        have hx := (unhide HX2).kept t14 (fun e => e)
        have hy := (unhide HY).kept t14 (fun e => e)
        have x0 : w14.cell? ⟨w10.heap.size, 0, none⟩ = some (.string ⟨#[]⟩) := hx.cell 0
        have x1 : w14.cell? ⟨w10.heap.size, 1, none⟩ = some (.bool false) := hx.cell 1
        have x2 : w14.cell? ⟨w10.heap.size, 2, none⟩ = some (.slice none 0 0) := hx.cell 2
        have y0 : w14.cell? ⟨w12.heap.size, 0, none⟩ = some (.string ⟨#[]⟩) := hy.cell 0
        have y1 : w14.cell? ⟨w12.heap.size, 1, none⟩ = some (.bool false) := hy.cell 1
        have y2 : w14.cell? ⟨w12.heap.size, 2, none⟩ = some (.slice none 0 0) := hy.cell 2
        have cv := run_text_of_sees (P := Tryz.prog) w14 29 9 Tryz.underlying29 Tryz.underlying5 Tryz.underlying9 (Sees.nil w14)
        have TF := hide ((unhide T13).trans t14)
        clear hx hy t14 HX2 HY T13
        go_wp2
        go_ret
        exact ⟨rfl, unhide TF⟩
      · have HKr := hide (kread_any (.slice zo zn zc) zb wz (unhide HZ).1 (unhide HZ).2.2 (fun _ => (unhide HZ).2.1))
        rw [hrd] at HKr
        have Hrd := hide hrd
        clear hrd tz
        obtain ⟨ck, ch, cb⟩ := c
        go_wp2_with fail
        refine (unhide HKr).mono ?_
        rintro e w10 ⟨t10, v10, rfl, hs10, hl10⟩
        obtain ⟨o10, c10, e10⟩ := hs10.shape
        simp only at e10 hs10
        obtain ⟨n10, hn10⟩ : ∃ n10, n10 = cb.length := ⟨_, rfl⟩
        have HN10 := hide hn10
        rw [← hn10] at e10
        clear hn10
        subst e10
        have ta : Turn (fun _ => False) w10 (w10.alloc (.cells #[.string ck, .bool ch, .slice o10 n10 c10] 51)) := (Turn.refl _ _).alloc _
        have hX : At 51 (w10.alloc (.cells #[.string ck, .bool ch, .slice o10 n10 c10] 51)) w10.heap.size #[.string ck, .bool ch, .slice o10 n10 c10] := At.new _ _ _
        have HRr := hide (rread_any (.slice zo zn zc) zb _ ((unhide HZ).1.kept (t10.trans ta) (fun _ _ e => e)) (unhide HZ).2.2 (fun j hj => Nat.lt_of_lt_of_le ((unhide HZ).2.1 j hj) (t10.trans ta).size))
        rw [unhide Hrd] at HRr
        have T11 := hide (((unhide TZ).trans t10).trans ta)
        have HX := hide (And.intro hX (hs10.kept ta (fun _ _ e => e)))
        clear t10 ta hX HKr hs10 hl10
        go_wp2_with fail
        refine (unhide HRr).mono ?_
        rintro e w12 ⟨t12, v12, rfl, hs12, hl12⟩
        obtain ⟨o12, c12, e12⟩ := hs12.shape
        simp only at e12 hs12
        rw [← unhide HN10] at e12
        subst e12
        have ta : Turn (fun _ => False) w12 (w12.alloc (.cells #[.string ck, .bool ch, .slice o12 n10 c12] 51)) := (Turn.refl _ _).alloc _
        have hY : At 51 (w12.alloc (.cells #[.string ck, .bool ch, .slice o12 n10 c12] 51)) w12.heap.size #[.string ck, .bool ch, .slice o12 n10 c12] := At.new _ _ _
        have HX2 := hide (And.intro (((unhide HX).1.kept t12 (fun e => e)).kept ta (fun e => e)) (((unhide HX).2.kept t12 (fun _ _ e => e)).kept ta (fun _ _ e => e)))
        have HY := hide (And.intro hY (hs12.kept ta (fun _ _ e => e)))
        have T13 := hide (((unhide T11).trans t12).trans ta)
        clear t12 ta hY HX HRr T11 hs12 hl12
        go_wp2_with fail
        refine (known7_any _).mono ?_
        rintro e w14 ⟨rfl, t14⟩
        have hx := (unhide HX2).1.kept t14 (fun e => e)
        have hy := (unhide HY).1.kept t14 (fun e => e)
        have x0 : w14.cell? ⟨w10.heap.size, 0, none⟩ = some (.string ck) := hx.cell 0
        have x1 : w14.cell? ⟨w10.heap.size, 1, none⟩ = some (.bool ch) := hx.cell 1
        have x2 : w14.cell? ⟨w10.heap.size, 2, none⟩ = some (.slice o10 n10 c10) := hx.cell 2
        have y0 : w14.cell? ⟨w12.heap.size, 0, none⟩ = some (.string ck) := hy.cell 0
        have y1 : w14.cell? ⟨w12.heap.size, 1, none⟩ = some (.bool ch) := hy.cell 1
        have y2 : w14.cell? ⟨w12.heap.size, 2, none⟩ = some (.slice o12 n10 c12) := hy.cell 2
        have hv1 := (unhide HX2).2.kept t14 (fun _ _ e => e)
        have hv2 := (unhide HY).2.kept t14 (fun _ _ e => e)
        have cv := run_text_of_sees (P := Tryz.prog) w14 29 9 Tryz.underlying29 Tryz.underlying5 Tryz.underlying9 hv1
        have cy := run_text_of_sees (P := Tryz.prog) w14 29 9 Tryz.underlying29 Tryz.underlying5 Tryz.underlying9 hv2
        have r1 : (cb == cb) = true := by simp
        have r3 : (ch == ch) = true := by simp
        have TF := hide ((unhide T13).trans t14)
        clear hx hy t14 HX2 HY T13 hv1 hv2
        go_wp2
        go_ret
        exact ⟨rfl, unhide TF⟩
end Go.Proofs.YteomehdkfhjbeaaGreat
