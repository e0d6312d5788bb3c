/- A change read by the reference: ReadChange. -/
import Derived.Test.YteomehdkfhjbeaaGreatKRef
namespace Go.Proofs.YteomehdkfhjbeaaGreat
open Go.RowKit

set_option maxHeartbeats 4000000 in
set_option maxRecDepth 100000 in
theorem rread_any (v : Value) (bs : List UInt8) (w : World) (h : Sees w v bs) (hb : bs.length ≤ 140737488355328) (hlt : ∀ j, slab v = some j → j < w.heap.size) :
    Calls Tryz.prog 34 #[v] w (KRd w (readC bs)) := by
  obtain ⟨vo, vc, rfl⟩ := h.shape
  have H := hide h
  have hla : Apart (w.heap.size + 1) (.slice none 0 0) (.slice vo bs.length vc) := fun j hj => ⟨by have := hlt j hj; omega, fun e => by simp [Value.ownBlock] at e⟩
  have Hlt := hide hlt
  obtain ⟨n, hn⟩ : ∃ n, n = bs.length := ⟨_, rfl⟩
  have HN := hide hn
  rw [← hn] at H Hlt hb hla ⊢
  obtain ⟨wa, hwa⟩ : ∃ wa, wa = w.alloc (.cells #[.string ⟨#[]⟩, .bool false, .slice none 0 0] 51) := ⟨_, rfl⟩
  obtain ⟨w1, hw1⟩ : ∃ w1, w1 = wa.alloc (.cells #[.slice vo n vc, .bool false] 143) := ⟨_, rfl⟩
  have ta : Turn (fun _ => False) w wa := by rw [hwa]; exact (Turn.refl _ _).alloc _
  have t1 : Turn (fun _ => False) wa w1 := by rw [hw1]; exact (Turn.refl _ _).alloc _
  have hA : At 51 wa w.heap.size #[.string ⟨#[]⟩, .bool false, .slice none 0 0] := by rw [hwa]; exact At.new _ _ _
  obtain ⟨b, hbb⟩ : ∃ b, b = w.heap.size + 1 := ⟨_, rfl⟩
  have hsz : wa.heap.size = b := by rw [hwa, hbb]; simp
  have hR1 : RIs 143 w1 b (.slice vo n vc) ⟨bs, false⟩ := by
    refine ⟨by rw [hw1, ← hsz]; exact At.new _ _ _, ?_, fun e => ?_⟩
    · have h2 := (unhide H).kept (ta.trans t1) (fun _ _ e => e)
      exact h2
    · have := unhide Hlt b e
      omega
  have HA := hide (hA.kept t1 (fun e => e))
  have T1 := hide (ta.trans t1)
  have Hw1 := hide (show w1 = (w.alloc (.cells #[.string ⟨#[]⟩, .bool false, .slice none 0 0] 51)).alloc (.cells #[.slice vo n vc, .bool false] 143) by rw [hw1, hwa])
  have Hbb := hide hbb
  have HR := hide hR1
  have hbn : w.heap.size < b := by omega
  clear h hlt hn hwa hA ta t1 hw1 hR1 hbb hsz hla
  go_enter Tryz.func34, Tryz.ntmps34
  go_wp2_with fail
  rw [← unhide Hw1, ← unhide Hbb]
  refine (rr_u8 b _ _ w1 (unhide HR) (fun e => by cases e) (by have := unhide HN; show bs.length ≤ _; omega)).mono ?_
  rintro e w2 ⟨rfl, v2, s2⟩
  obtain ⟨a, ha⟩ : ∃ a, a = (St.mk bs false).take 1 := ⟨_, rfl⟩
  rw [← ha] at s2 ⊢
  have Ha := hide ha
  have hao : a.2.ok := by rw [ha]; exact St.ok_take _ (fun e => by cases e) 1
  have S2 := hide s2
  have Hao := hide hao
  have hA2 := (unhide HA).kept s2.turn (fun e => by omega)
  have HA2 := hide hA2
  have T2 := hide ((unhide T1).trans' s2.turn (fun i hi e => by omega))
  clear ha s2 HR hA2 HA T1 Hw1
  have Hkl : Hid (a.2.short.2.bs.length ≤ bs.length) := hide (by
    have h1 := a.2.take_rest 2
    have h2 := (a.2.take 2).2.take_rest (num (a.2.take 2).1)
    have h3 := (St.mk bs false).take_rest 1
    rw [← unhide Ha] at h3
    unfold St.short
    simp only at h3
    omega)
  have Hal : Hid (a.2.bs.length ≤ bs.length) := hide (by
    have h3 := (St.mk bs false).take_rest 1
    rw [← unhide Ha] at h3
    simp only at h3
    omega)
  have Hk1 : Hid (a.2.short.1.length ≤ bs.length) := hide (by
    have h1 := (a.2.take 2).2.take_le (num (a.2.take 2).1)
    have h2 := a.2.take_rest 2
    have h3 := (St.mk bs false).take_rest 1
    rw [← unhide Ha] at h3
    unfold St.short
    simp only at h3
    omega)
  by_cases hq : num a.1 = 1
  · have q1 : (num a.1 == 1) = true := by simp [hq]
    have htk : takenC bs = ⟨⟨a.2.short.1.toArray⟩, true, a.2.short.2.short.1⟩ := by unfold takenC; rw [← unhide Ha, if_pos hq]
    have Htk := hide htk
    clear htk hq
    go_wp2_with fail
    refine (rr_text b v2 a.2 w2 (unhide S2).at' (unhide Hao) (by have := unhide Hal; have := unhide HN; omega)).mono ?_
    rintro e w3 ⟨rfl, v3, s3⟩
    have hA3 := (unhide HA2).kept s3.turn (fun e => by omega)
    obtain ⟨c, hc⟩ : ∃ c, c = w3.heap.size := ⟨_, rfl⟩
    obtain ⟨w4, hw4⟩ : ∃ w4, w4 = w3.alloc (.cells #[.string ⟨a.2.short.1.toArray⟩, .bool true, .slice none 0 0] 51) := ⟨_, rfl⟩
    have t4 : Turn (fun _ => False) w3 w4 := by rw [hw4]; exact (Turn.refl _ _).alloc _
    have hA4 : At 51 w4 c #[.string ⟨a.2.short.1.toArray⟩, .bool true, .slice none 0 0] := by rw [hw4, hc]; exact At.new _ _ _
    have hAr := hA3.kept t4 (fun e => e)
    have T4 := hide (((unhide T2).trans' s3.turn (fun i hi e => by omega)).trans t4)
    have hbc : b < c := by rw [hc]; exact s3.at'.1.lt
    have hR4 := s3.at'.kept t4 (fun e => e) (fun _ _ e => e)
    have hso : a.2.short.2.ok := St.ok_short _ (unhide Hao)
    have Hw4 := hide hw4
    have Hc := hide hc
    have HA4 := hide hA4
    have HAr := hide hAr
    generalize a.2.short = k at *
    have HS := hide (rr_short b v3 k.2 w4 hR4 hso (by have := unhide Hkl; have := unhide HN; omega))
    clear hA3 hw4 t4 hA4 hAr s3 hR4 S2 T2 HA2 hc
    go_wp2_with fail
    rw [← unhide Hw4, ← unhide Hc]
    refine (unhide HS).mono ?_
    rintro e w6 ⟨v6, rfl, ho6, hn6, v7, s6⟩
    have hA6 := (unhide HA4).kept s6.turn (fun e => by omega)
    have f2 := hA6.frozen 2
    have hc6 := hA6.lt
    have hn64 := (unhide HA4).lt
    have hvc : ∀ j, v6.ownBlock = some j → c < j ∧ j < w6.heap.size := fun j hj => ⟨by have := hn6 j hj; omega, ho6.lt hj⟩
    obtain ⟨w7, hw7⟩ : ∃ w7, w7 = w6.setCell ⟨c, 2, none⟩ v6 := ⟨_, rfl⟩
    have t7 : Turn (fun i => i = c) w6 w7 := by rw [hw7]; exact (Turn.refl (fun i => i = c) w6).setCell (p := ⟨c, 2, none⟩) (.inl rfl) _
    have hA7 : At 51 w7 c #[.string ⟨k.1.toArray⟩, .bool true, v6] := by rw [hw7]; simpa using hA6.set 2 v6
    have ho7 := ho6.kept t7 (fun j hj e => by have := hvc j hj; omega)
    have hA7r := ((unhide HAr).kept s6.turn (fun e => by omega)).kept t7 (fun e => by omega)
    have t27 := ((unhide T4).trans' s6.turn (fun i hi e => by omega)).trans' t7 (fun i hi e => by omega)
    have hs7 : Sees w7 (.slice vo n vc) bs := (unhide H).kept t27 (fun _ _ e => e)
    have hv7 : ∀ j, slab v6 = some j → w.heap.size < j ∧ j < w7.heap.size := fun j hj => by
      rw [ho6.slab_eq] at hj
      have := hvc j hj
      have := t7.size
      omega
    obtain ⟨o6, c6, e6⟩ := ho7.shape
    have c70 : w6.cell? ⟨c, 0, none⟩ = some (.string ⟨k.1.toArray⟩) := hA6.cell 0
    have c71 : w6.cell? ⟨c, 1, none⟩ = some (.bool true) := hA6.cell 1
    have c72 : w6.cell? ⟨c, 2, none⟩ = some (.slice none 0 0) := hA6.cell 2
    have Hw7 := hide hw7
    have HA7 := hide (And.intro hA7 (And.intro ho7 (And.intro hA7r (And.intro t27 (And.intro hs7 hv7)))))
    clear hw7 t7 hA7 ho7 hA7r t27 hs7 hv7 hvc hA6 s6 HS HA4 HAr T4 Hw4 ho6 hn6
    rw [e6] at HA7 Hw7 ⊢
    have hkm : (⟨k.1.toArray⟩ : ByteArray).size ≤ maxLen := by
      have h1 := unhide Hk1
      have h2 := unhide HN
      have e : (⟨k.1.toArray⟩ : ByteArray).size = k.1.length := by simp [ByteArray.size]
      unfold maxLen
      omega
    have HLay : Hid (if (takenC bs).ok = true then Calls Tryz.prog 33 #[.agg #[.string ⟨k.1.toArray⟩, .bool true, .slice o6 k.2.short.1.length c6]] w7 fun e w' => ∃ v', e = .returned (.tuple #[v', .int .i64 0]) ∧ Made w7 v' (takenC bs).laid w'
        else Calls Tryz.prog 33 #[.agg #[.string ⟨k.1.toArray⟩, .bool true, .slice o6 k.2.short.1.length c6]] w7 fun e w' => e = .returned (.tuple #[.slice none 0 0, .int .i64 1]) ∧ Turn (fun _ => False) w7 w') := by
      obtain ⟨a1, a2, a3, a4, a5, a6⟩ := unhide HA7
      refine hide ?_
      rw [unhide Htk]
      split
      · rename_i hok
        exact rlay_yes _ _ _ _ w7 a2.sees (fun h0 j hj => (a6 j hj).2) hok
      · rename_i hok
        exact rlay_no _ _ _ _ w7 a2.sees hkm (by simpa using hok)
    have HTk2 : Hid (∃ c : Chg, takenC bs = c ∧ c.key = ⟨k.1.toArray⟩ ∧ c.has = true ∧ c.val = k.2.short.1) := hide ⟨_, unhide Htk, rfl, rfl, rfl⟩
    have hv8 : Hid (Sees w7 (.slice o6 k.2.short.1.length c6) k.2.short.1) := hide (unhide HA7).2.1.sees
    clear hkm Htk
    generalize hkv : k.2.short.1 = kv at *
    generalize hkl : kv.length = m at *
    clear hkv hkl
    have HZ := hide (And.intro (unhide HA7).1 (And.intro (unhide HA7).2.2.1 (And.intro (unhide HA7).2.2.2.1 (And.intro (unhide HA7).2.2.2.2.1 (unhide HA7).2.2.2.2.2))))
    clear HA7
    by_cases hok : (takenC bs).ok = true
    · have HL1 := unhide HLay
      rw [if_pos hok] at HL1
      have HL := hide HL1
      clear HL1 HLay
      go_wp2_with fail
      rw [← unhide Hw7]
      refine (unhide HL).mono ?_
      rintro e w8 ⟨v8, rfl, hm8⟩
      obtain ⟨a1, a3, a4, a5, a6⟩ := unhide HZ
      have hsb := a5.kept hm8.2.1 (fun _ _ e => e)
      have hr8 := a3.kept hm8.2.1 (fun e => e)
      have c80 : w8.cell? ⟨c, 0, none⟩ = some (.string ⟨k.1.toArray⟩) := (a1.kept hm8.2.1 (fun e => e)).cell 0
      have c81 : w8.cell? ⟨c, 1, none⟩ = some (.bool true) := (a1.kept hm8.2.1 (fun e => e)).cell 1
      have c82 : w8.cell? ⟨c, 2, none⟩ = some (.slice o6 m c6) := (a1.kept hm8.2.1 (fun e => e)).cell 2
      have g0 : w8.cell? ⟨w.heap.size, 0, none⟩ = some (.string ⟨#[]⟩) := hr8.cell 0
      have g1 : w8.cell? ⟨w.heap.size, 1, none⟩ = some (.bool false) := hr8.cell 1
      have g2 : w8.cell? ⟨w.heap.size, 2, none⟩ = some (.slice none 0 0) := hr8.cell 2
      have z0 := hr8.frozen 0
      have z1 := hr8.frozen 1
      have z2 := hr8.frozen 2
      have ht8 := a4.trans hm8.2.1
      have hv9 := (unhide hv8).kept hm8.2.1 (fun _ _ e => e)
      have hl8 : ∀ j, slab (.slice o6 m c6) = some j → w.heap.size < j ∧ j < w8.heap.size := fun j hj => ⟨(a6 j hj).1, Nat.lt_of_lt_of_le (a6 j hj).2 hm8.2.1.size⟩
      have Hfin := hide (And.intro hr8 (And.intro ht8 (And.intro hv9 hl8)))
      have k1 := run_text_of_sees (P := Tryz.prog) w8 29 9 Tryz.underlying29 Tryz.underlying5 Tryz.underlying9 hm8.1.sees
      have k2 := run_text_of_sees (P := Tryz.prog) w8 29 9 Tryz.underlying29 Tryz.underlying5 Tryz.underlying9 hsb
      obtain ⟨o8, c8, e8⟩ := hm8.1.shape
      have hrd : readC bs = if (takenC bs).laid = bs then some (takenC bs) else none := by unfold readC; simp [hok]
      have Hrd := hide hrd
      generalize (takenC bs).laid = lb at *
      generalize lb.length = n8 at *
      subst e8
      clear hm8 hsb hr8 a1 a3 a4 a5 a6 ht8 hv9 hl8 hrd HL HZ Hw7 c70 c71 c72 f2
      by_cases hd : lb = bs
      · have hres : readC bs = some (takenC bs) := by rw [unhide Hrd, if_pos hd]
        have Hres := hide hres
        have hq : (lb == bs) = true := by simp [hd]
        clear hd hres
        go_wp2
        obtain ⟨b1, b2, b3, b4⟩ := unhide Hfin
        obtain ⟨d, d1, d2, d3, d4⟩ := unhide HTk2
        refine bodyPost_ret (results_cell2 rfl _ _ w.heap.size 51 _ (0, 0) _ rfl (((b1.set 0 _).set 1 _).set 2 _) Tryz.underlying51 rfl (by kernel_rfl)) rfl ?_
        have tset : ∀ u0 u1 u2, Turn (fun i => i = w.heap.size) w8 (((w8.setCell ⟨w.heap.size, 0, none⟩ u0).setCell ⟨w.heap.size, 1, none⟩ u1).setCell ⟨w.heap.size, 2, none⟩ u2) := fun u0 u1 u2 => (((Turn.refl (fun i => i = w.heap.size) w8).setCell (p := ⟨w.heap.size, 0, none⟩) (.inl rfl) u0).setCell (p := ⟨w.heap.size, 1, none⟩) (.inl rfl) u1).setCell (p := ⟨w.heap.size, 2, none⟩) (.inl rfl) u2
        refine ⟨b2.trans' (tset _ _ _) (fun i hi e => by omega), ?_⟩
        rw [unhide Hres, d1]
        refine ⟨_, by rw [d2, d3]; rfl, ?_, fun j hj => ?_⟩
        · rw [d4]
          exact b3.kept (tset _ _ _) (fun j hj e => by have := b4 j hj; omega)
        · have := b4 j hj
          have := (tset (.string ⟨k.1.toArray⟩) (.bool true) (.slice o6 m c6)).size
          exact ⟨by omega, by omega⟩
      · have hres : readC bs = none := by rw [unhide Hrd, if_neg hd]
        have Hres := hide hres
        have hq : (lb == bs) = false := by simp [hd]
        clear hd hres
        go_wp2
        obtain ⟨b1, b2, b3, b4⟩ := unhide Hfin
        refine bodyPost_ret (results_cell2 rfl _ _ w.heap.size 51 _ (0, 0) _ rfl (((b1.set 0 _).set 1 _).set 2 _) Tryz.underlying51 rfl (by kernel_rfl)) rfl ?_
        have tset : ∀ u0 u1 u2, Turn (fun i => i = w.heap.size) w8 (((w8.setCell ⟨w.heap.size, 0, none⟩ u0).setCell ⟨w.heap.size, 1, none⟩ u1).setCell ⟨w.heap.size, 2, none⟩ u2) := fun u0 u1 u2 => (((Turn.refl (fun i => i = w.heap.size) w8).setCell (p := ⟨w.heap.size, 0, none⟩) (.inl rfl) u0).setCell (p := ⟨w.heap.size, 1, none⟩) (.inl rfl) u1).setCell (p := ⟨w.heap.size, 2, none⟩) (.inl rfl) u2
        refine ⟨b2.trans' (tset _ _ _) (fun i hi e => by omega), ?_⟩
        rw [unhide Hres]
        rfl
    · have HL1 := unhide HLay
      rw [if_neg hok] at HL1
      have HL := hide HL1
      have hres : readC bs = none := by unfold readC; simp [hok]
      have Hres := hide hres
      clear HL1 HLay hres hok
      go_wp2_with fail
      rw [← unhide Hw7]
      refine (unhide HL).mono ?_
      rintro e w8 ⟨rfl, t8⟩
      obtain ⟨a1, a3, a4, a5, a6⟩ := unhide HZ
      have hr8 := a3.kept t8 (fun e => e)
      have g0 : w8.cell? ⟨w.heap.size, 0, none⟩ = some (.string ⟨#[]⟩) := hr8.cell 0
      have g1 : w8.cell? ⟨w.heap.size, 1, none⟩ = some (.bool false) := hr8.cell 1
      have g2 : w8.cell? ⟨w.heap.size, 2, none⟩ = some (.slice none 0 0) := hr8.cell 2
      have z0 := hr8.frozen 0
      have z1 := hr8.frozen 1
      have z2 := hr8.frozen 2
      have Hfin := hide (And.intro hr8 (a4.trans t8))
      clear hr8 a1 a3 a4 a5 a6 t8 HL HZ Hw7 c70 c71 c72 f2
      go_wp2
      obtain ⟨b1, b2⟩ := unhide Hfin
      refine bodyPost_ret (results_cell2 rfl _ _ w.heap.size 51 _ (0, 0) _ rfl (((b1.set 0 _).set 1 _).set 2 _) Tryz.underlying51 rfl (by kernel_rfl)) rfl ?_
      have tset : ∀ u0 u1 u2, Turn (fun i => i = w.heap.size) w8 (((w8.setCell ⟨w.heap.size, 0, none⟩ u0).setCell ⟨w.heap.size, 1, none⟩ u1).setCell ⟨w.heap.size, 2, none⟩ u2) := fun u0 u1 u2 => (((Turn.refl (fun i => i = w.heap.size) w8).setCell (p := ⟨w.heap.size, 0, none⟩) (.inl rfl) u0).setCell (p := ⟨w.heap.size, 1, none⟩) (.inl rfl) u1).setCell (p := ⟨w.heap.size, 2, none⟩) (.inl rfl) u2
      refine ⟨b2.trans' (tset _ _ _) (fun i hi e => by omega), ?_⟩
      rw [unhide Hres]
      rfl
  · have q1 : (num a.1 == 1) = false := by simp [hq]
    have htk : takenC bs = ⟨⟨a.2.short.1.toArray⟩, false, []⟩ := by unfold takenC; rw [← unhide Ha, if_neg hq]
    have Htk := hide htk
    clear htk hq
    go_wp2_with fail
    refine (rr_text b v2 a.2 w2 (unhide S2).at' (unhide Hao) (by have := unhide Hal; have := unhide HN; omega)).mono ?_
    rintro e w3 ⟨rfl, v3, s3⟩
    have hA3 := (unhide HA2).kept s3.turn (fun e => by omega)
    obtain ⟨c, hc⟩ : ∃ c, c = w3.heap.size := ⟨_, rfl⟩
    obtain ⟨w7, hw7⟩ : ∃ w7, w7 = w3.alloc (.cells #[.string ⟨a.2.short.1.toArray⟩, .bool false, .slice none 0 0] 51) := ⟨_, rfl⟩
    have t4 : Turn (fun _ => False) w3 w7 := by rw [hw7]; exact (Turn.refl _ _).alloc _
    have hA7 : At 51 w7 c #[.string ⟨a.2.short.1.toArray⟩, .bool false, .slice none 0 0] := by rw [hw7, hc]; exact At.new _ _ _
    have hA7r := hA3.kept t4 (fun e => e)
    have t27 := (((unhide T2).trans' s3.turn (fun i hi e => by omega)).trans t4)
    have hs7 : Sees w7 (.slice vo n vc) bs := (unhide H).kept t27 (fun _ _ e => e)
    have hv7 : ∀ j, slab (.slice none 0 0) = some j → w.heap.size < j ∧ j < w7.heap.size := fun j hj => by simp [slab] at hj
    have HZ := hide (And.intro hA7 (And.intro hA7r (And.intro t27 (And.intro hs7 hv7))))
    have Hw7 := hide hw7
    have Hc := hide hc
    have hbc : b < c := by rw [hc]; exact s3.at'.1.lt
    have hv8 : Hid (Sees w7 (.slice none 0 0) []) := hide (Sees.nil w7)
    generalize a.2.short = k at *
    clear hA3 hw7 t4 hA7 hA7r s3 S2 T2 HA2 hc t27 hs7 hv7
    have hkm : (⟨k.1.toArray⟩ : ByteArray).size ≤ maxLen := by
      have h1 := unhide Hk1
      have h2 := unhide HN
      have e : (⟨k.1.toArray⟩ : ByteArray).size = k.1.length := by simp [ByteArray.size]
      unfold maxLen
      omega
    have HLay : Hid (if (takenC bs).ok = true then Calls Tryz.prog 33 #[.agg #[.string ⟨k.1.toArray⟩, .bool false, .slice none 0 0]] w7 fun e w' => ∃ v', e = .returned (.tuple #[v', .int .i64 0]) ∧ Made w7 v' (takenC bs).laid w'
        else Calls Tryz.prog 33 #[.agg #[.string ⟨k.1.toArray⟩, .bool false, .slice none 0 0]] w7 fun e w' => e = .returned (.tuple #[.slice none 0 0, .int .i64 1]) ∧ Turn (fun _ => False) w7 w') := by
      refine hide ?_
      rw [unhide Htk]
      split
      · rename_i hok
        exact rlay_yes _ _ _ _ w7 (Sees.nil w7) (fun h0 j hj => by simp [slab] at hj) hok
      · rename_i hok
        exact rlay_no _ _ _ _ w7 (Sees.nil w7) hkm (by simpa using hok)
    have HTk2 : Hid (∃ c : Chg, takenC bs = c ∧ c.key = ⟨k.1.toArray⟩ ∧ c.has = false ∧ c.val = []) := hide ⟨_, unhide Htk, rfl, rfl, rfl⟩
    clear hkm Htk
    by_cases hok : (takenC bs).ok = true
    · have HL1 := unhide HLay
      rw [if_pos hok] at HL1
      have HL := hide HL1
      clear HL1 HLay
      go_wp2_with fail
      rw [← unhide Hw7, ← unhide Hc]
      refine (unhide HL).mono ?_
      rintro e w8 ⟨v8, rfl, hm8⟩
      obtain ⟨a1, a3, a4, a5, a6⟩ := unhide HZ
      have hsb := a5.kept hm8.2.1 (fun _ _ e => e)
      have hr8 := a3.kept hm8.2.1 (fun e => e)
      have c80 : w8.cell? ⟨c, 0, none⟩ = some (.string ⟨k.1.toArray⟩) := (a1.kept hm8.2.1 (fun e => e)).cell 0
      have c81 : w8.cell? ⟨c, 1, none⟩ = some (.bool false) := (a1.kept hm8.2.1 (fun e => e)).cell 1
      have c82 : w8.cell? ⟨c, 2, none⟩ = some (.slice none 0 0) := (a1.kept hm8.2.1 (fun e => e)).cell 2
      have g0 : w8.cell? ⟨w.heap.size, 0, none⟩ = some (.string ⟨#[]⟩) := hr8.cell 0
      have g1 : w8.cell? ⟨w.heap.size, 1, none⟩ = some (.bool false) := hr8.cell 1
      have g2 : w8.cell? ⟨w.heap.size, 2, none⟩ = some (.slice none 0 0) := hr8.cell 2
      have z0 := hr8.frozen 0
      have z1 := hr8.frozen 1
      have z2 := hr8.frozen 2
      have ht8 := a4.trans hm8.2.1
      have hv9 := (unhide hv8).kept hm8.2.1 (fun _ _ e => e)
      have hl8 : ∀ j, slab (.slice none 0 0) = some j → w.heap.size < j ∧ j < w8.heap.size := fun j hj => ⟨(a6 j hj).1, Nat.lt_of_lt_of_le (a6 j hj).2 hm8.2.1.size⟩
      have Hfin := hide (And.intro hr8 (And.intro ht8 (And.intro hv9 hl8)))
      have k1 := run_text_of_sees (P := Tryz.prog) w8 29 9 Tryz.underlying29 Tryz.underlying5 Tryz.underlying9 hm8.1.sees
      have k2 := run_text_of_sees (P := Tryz.prog) w8 29 9 Tryz.underlying29 Tryz.underlying5 Tryz.underlying9 hsb
      obtain ⟨o8, c8, e8⟩ := hm8.1.shape
      have hrd : readC bs = if (takenC bs).laid = bs then some (takenC bs) else none := by unfold readC; simp [hok]
      have Hrd := hide hrd
      generalize (takenC bs).laid = lb at *
      generalize lb.length = n8 at *
      subst e8
      clear hm8 hsb hr8 a1 a3 a4 a5 a6 ht8 hv9 hl8 hrd HL HZ Hw7
      by_cases hd : lb = bs
      · have hres : readC bs = some (takenC bs) := by rw [unhide Hrd, if_pos hd]
        have Hres := hide hres
        have hq : (lb == bs) = true := by simp [hd]
        clear hd hres
        go_wp2
        obtain ⟨b1, b2, b3, b4⟩ := unhide Hfin
        obtain ⟨d, d1, d2, d3, d4⟩ := unhide HTk2
        refine bodyPost_ret (results_cell2 rfl _ _ w.heap.size 51 _ (0, 0) _ rfl (((b1.set 0 _).set 1 _).set 2 _) Tryz.underlying51 rfl (by kernel_rfl)) rfl ?_
        have tset : ∀ u0 u1 u2, Turn (fun i => i = w.heap.size) w8 (((w8.setCell ⟨w.heap.size, 0, none⟩ u0).setCell ⟨w.heap.size, 1, none⟩ u1).setCell ⟨w.heap.size, 2, none⟩ u2) := fun u0 u1 u2 => (((Turn.refl (fun i => i = w.heap.size) w8).setCell (p := ⟨w.heap.size, 0, none⟩) (.inl rfl) u0).setCell (p := ⟨w.heap.size, 1, none⟩) (.inl rfl) u1).setCell (p := ⟨w.heap.size, 2, none⟩) (.inl rfl) u2
        refine ⟨b2.trans' (tset _ _ _) (fun i hi e => by omega), ?_⟩
        rw [unhide Hres, d1]
        refine ⟨_, by rw [d2, d3]; rfl, ?_, fun j hj => ?_⟩
        · rw [d4]
          exact b3.kept (tset _ _ _) (fun j hj e => by have := b4 j hj; omega)
        · have := b4 j hj
          have := (tset (.string ⟨k.1.toArray⟩) (.bool false) (.slice none 0 0)).size
          exact ⟨by omega, by omega⟩
      · have hres : readC bs = none := by rw [unhide Hrd, if_neg hd]
        have Hres := hide hres
        have hq : (lb == bs) = false := by simp [hd]
        clear hd hres
        go_wp2
        obtain ⟨b1, b2, b3, b4⟩ := unhide Hfin
        refine bodyPost_ret (results_cell2 rfl _ _ w.heap.size 51 _ (0, 0) _ rfl (((b1.set 0 _).set 1 _).set 2 _) Tryz.underlying51 rfl (by kernel_rfl)) rfl ?_
        have tset : ∀ u0 u1 u2, Turn (fun i => i = w.heap.size) w8 (((w8.setCell ⟨w.heap.size, 0, none⟩ u0).setCell ⟨w.heap.size, 1, none⟩ u1).setCell ⟨w.heap.size, 2, none⟩ u2) := fun u0 u1 u2 => (((Turn.refl (fun i => i = w.heap.size) w8).setCell (p := ⟨w.heap.size, 0, none⟩) (.inl rfl) u0).setCell (p := ⟨w.heap.size, 1, none⟩) (.inl rfl) u1).setCell (p := ⟨w.heap.size, 2, none⟩) (.inl rfl) u2
        refine ⟨b2.trans' (tset _ _ _) (fun i hi e => by omega), ?_⟩
        rw [unhide Hres]
        rfl
    · have HL1 := unhide HLay
      rw [if_neg hok] at HL1
      have HL := hide HL1
      have hres : readC bs = none := by unfold readC; simp [hok]
      have Hres := hide hres
      clear HL1 HLay hres hok
      go_wp2_with fail
      rw [← unhide Hw7, ← unhide Hc]
      refine (unhide HL).mono ?_
      rintro e w8 ⟨rfl, t8⟩
      obtain ⟨a1, a3, a4, a5, a6⟩ := unhide HZ
      have hr8 := a3.kept t8 (fun e => e)
      have g0 : w8.cell? ⟨w.heap.size, 0, none⟩ = some (.string ⟨#[]⟩) := hr8.cell 0
      have g1 : w8.cell? ⟨w.heap.size, 1, none⟩ = some (.bool false) := hr8.cell 1
      have g2 : w8.cell? ⟨w.heap.size, 2, none⟩ = some (.slice none 0 0) := hr8.cell 2
      have z0 := hr8.frozen 0
      have z1 := hr8.frozen 1
      have z2 := hr8.frozen 2
      have Hfin := hide (And.intro hr8 (a4.trans t8))
      clear hr8 a1 a3 a4 a5 a6 t8 HL HZ Hw7
      go_wp2
      obtain ⟨b1, b2⟩ := unhide Hfin
      refine bodyPost_ret (results_cell2 rfl _ _ w.heap.size 51 _ (0, 0) _ rfl (((b1.set 0 _).set 1 _).set 2 _) Tryz.underlying51 rfl (by kernel_rfl)) rfl ?_
      have tset : ∀ u0 u1 u2, Turn (fun i => i = w.heap.size) w8 (((w8.setCell ⟨w.heap.size, 0, none⟩ u0).setCell ⟨w.heap.size, 1, none⟩ u1).setCell ⟨w.heap.size, 2, none⟩ u2) := fun u0 u1 u2 => (((Turn.refl (fun i => i = w.heap.size) w8).setCell (p := ⟨w.heap.size, 0, none⟩) (.inl rfl) u0).setCell (p := ⟨w.heap.size, 1, none⟩) (.inl rfl) u1).setCell (p := ⟨w.heap.size, 2, none⟩) (.inl rfl) u2
      refine ⟨b2.trans' (tset _ _ _) (fun i hi e => by omega), ?_⟩
      rw [unhide Hres]
      rfl

end Go.Proofs.YteomehdkfhjbeaaGreat
