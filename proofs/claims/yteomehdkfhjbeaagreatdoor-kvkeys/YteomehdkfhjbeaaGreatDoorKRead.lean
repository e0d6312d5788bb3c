/- A change read back: bytes.Equal and kv.Read. -/
import Derived.Test.YteomehdkfhjbeaaGreatDoorKLay
import Derived.Test.YteomehdkfhjbeaaGreatDoorPkD
import Derived.Laws.ResultCell
namespace Go.Proofs.YteomehdkfhjbeaaGreatDoor
open Go.RowKit

/-- What Read takes, ahead of its test. -/
def takenC (bs : List UInt8) : Chg :=
  if num ((St.mk bs false).take 1).1 = 1 then ⟨⟨((St.mk bs false).take 1).2.short.1.toArray⟩, true, ((St.mk bs false).take 1).2.short.2.short.1⟩
  else ⟨⟨((St.mk bs false).take 1).2.short.1.toArray⟩, false, []⟩

/-- The change that was laid as these bytes. -/
def readC (bs : List UInt8) : Option Chg := if (takenC bs).ok = true ∧ (takenC bs).laid = bs then some (takenC bs) else none

theorem bytes_of (s : ByteArray) : (⟨s.data.toList.toArray⟩ : ByteArray) = s := by cases s; simp

theorem take_front (P Y : List UInt8) (l : Bool) (n : Nat) (h : P.length = n) : (St.mk (P ++ Y) l).take n = (P, ⟨Y, l⟩) := St.take_all P Y l n (by omega)

theorem taken_laid (c : Chg) (h : c.ok = true) : takenC c.laid = c := by
  obtain ⟨k, hs, v⟩ := c
  unfold Chg.ok at h
  simp only [Bool.and_eq_true, decide_eq_true_eq] at h
  obtain ⟨⟨h1, h2⟩, h3⟩ := h
  have hk := text_length k
  cases hs
  · have e : v = [] := by simpa using h3
    subst e
    unfold takenC Chg.laid
    have e1 : (St.mk (be 0 1 ++ sh k.data.toList) false).take 1 = (be 0 1, ⟨sh k.data.toList, false⟩) := St.take_all _ _ _ _ (by simp [be_length])
    have e2 : (St.mk (sh k.data.toList) false).short = (k.data.toList, ⟨[], false⟩) := laid4 _ (by omega)
    simp only [Bool.false_eq_true, if_false, e1, num_be1, e2, bytes_of]
    rfl
  · have h3' : v.length ≤ 65535 := by simpa using h3
    unfold takenC Chg.laid
    have e1 : (St.mk (be 1 1 ++ sh k.data.toList ++ sh v) false).take 1 = (be 1 1, ⟨sh k.data.toList ++ sh v, false⟩) := by
      rw [List.append_assoc]
      exact St.take_all _ _ _ _ (by simp [be_length])
    have e2 : (St.mk (sh k.data.toList ++ sh v) false).short = (k.data.toList, ⟨sh v, false⟩) := St.short_all _ _ _ (by omega)
    have e3 : (St.mk (sh v) false).short = (v, ⟨[], false⟩) := laid4 _ h3'
    simp only [if_true, e1, num_be1, e2, e3, bytes_of]
    rfl

theorem readC_laid (c : Chg) (h : c.ok = true) : readC c.laid = some c := by
  unfold readC
  rw [taken_laid c h, if_pos ⟨h, rfl⟩]

theorem readC_some {bs : List UInt8} {c : Chg} (h : readC bs = some c) : c.ok = true ∧ c.laid = bs := by
  unfold readC at h
  split at h
  · rename_i h1
    injection h with h
    subst h
    exact h1
  · cases h

set_option maxHeartbeats 400000 in
theorem equal_any (a b : Value) (x y : List UInt8) (w : World) (ha : Sees w a x) (hb : Sees w b y) :
    Calls Tryz.prog 52 #[a, b] w fun e w' => e = .returned (.bool (decide (x = y))) ∧ w = w' := by
  have h1 := run_text_of_sees (P := Tryz.prog) w 32 9 Tryz.underlying32 Tryz.underlying5 Tryz.underlying9 ha
  have h2 := run_text_of_sees (P := Tryz.prog) w 32 9 Tryz.underlying32 Tryz.underlying5 Tryz.underlying9 hb
  obtain ⟨ao, ac, rfl⟩ := ha.shape
  obtain ⟨bo, bc, rfl⟩ := hb.shape
  clear ha hb
  generalize x.length = n at *
  generalize y.length = m at *
  go_enter Tryz.func52, Tryz.ntmps52
  go_wp2
  go_ret
  exact ⟨ret_bool (by simp), rfl⟩

/-- A change in the caller's memory. -/
theorem made_lt {w w' : World} {v : Value} {bs : List UInt8} (h : Made w v bs w') : ∀ j, slab v = some j → w.heap.size ≤ j ∧ j < w'.heap.size := fun j hj => by
  have h1 : v.ownBlock = some j := by rw [← h.1.slab_eq]; exact hj
  exact ⟨h.2.2 j h1, h.1.lt h1⟩

theorem results_cell2 {P : Program} {fn : Func} {p u : Tmp} {ty : TypeId} (h : fn.results = #[.cell p ty, .tmp u]) (tmps : Array Value) (w : World) (g : Nat) (t : TypeId) (cs : Array Value) (fr : Nat × Nat) (d : TypeDesc)
    (hp : tmps.getD p undef = .pointer (some ⟨g, 0, none⟩)) (hg : w.heap[g]? = some (.cells cs t fr))
    (hu : P.underlying ty = some d) (hd : (match d with | .struct _ | .array _ _ => true | _ => false) = true) (hi : (P.info? ty).map (·.size) = some cs.size) :
    (results fn tmps).run P w = .ok (.tuple #[.agg cs, tmps.getD u undef]) w := by
  rw [results_cell_tmp h, hp]
  simp [asAddr, run_loadVar_row w g t ty cs fr d hg hu hd hi, Result.andThen]

/-- What Read comes to. -/
def KRd (w : World) (r : Option Chg) (e : Ending) (w' : World) : Prop :=
  Turn (fun _ => False) w w' ∧ match r with
  | none => e = .returned (.tuple #[.agg #[.string ⟨#[]⟩, .bool false, .slice none 0 0], .int .i64 5])
  | some c => ∃ v, e = .returned (.tuple #[.agg #[.string c.key, .bool c.has, v], .int .i64 0]) ∧ Sees w' v c.val ∧ ∀ j, slab v = some j → w.heap.size ≤ j ∧ j < w'.heap.size

set_option maxHeartbeats 4000000 in
set_option maxRecDepth 100000 in
theorem kread_any (v : Value) (bs : List UInt8) (w : World) (h : Sees w v bs) (hb : bs.length ≤ 140737488355328) (hlt : 0 < bs.length → ∀ j, slab v = some j → j < w.heap.size) :
    Calls Tryz.prog 31 #[v] w (KRd w (readC bs)) := by
  obtain ⟨vo, vc, rfl⟩ := h.shape
  have H := hide h
  have Hlt := hide hlt
  obtain ⟨n, hn⟩ : ∃ n, n = bs.length := ⟨_, rfl⟩
  have HN := hide hn
  rw [← hn] at H Hlt hb ⊢
  obtain ⟨wa, hwa⟩ : ∃ wa, wa = w.alloc (.cells #[.string ⟨#[]⟩, .bool false, .slice none 0 0] 37) := ⟨_, rfl⟩
  have ta : Turn (fun _ => False) w wa := by rw [hwa]; exact (Turn.refl _ _).alloc _
  have hA : At 37 wa w.heap.size #[.string ⟨#[]⟩, .bool false, .slice none 0 0] := by rw [hwa]; exact At.new _ _ _
  have Hwa := hide hwa
  have HA := hide hA
  have Hta := hide ta
  have hsa := h.kept ta (fun _ _ e => e)
  have Hsa := hide hsa
  rw [← hn] at Hsa
  clear h hlt hn hwa hA ta hsa
  go_enter Tryz.func31, Tryz.ntmps31
  go_wp2_with fail
  rw [← unhide Hwa]
  refine (newReader_any _ bs wa (unhide Hsa) (by have := unhide HN; omega)).mono ?_
  rintro e w1 ⟨b, rfl, v1, hR1, hb1, hs1, t1⟩
  have HT1 := hide t1
  have Hb := hide hb1
  have Hs := hide hs1
  have HR := hide hR1
  clear hR1 t1 hb1 hs1
  go_wp2_with fail
  refine (ru8_any b v1 _ w1 (unhide HR)).mono ?_
  rintro e w2 ⟨rfl, v2, s2⟩
  have hsl2 : ∀ j, slab v2 = some j → slab v1 = some j := s2.slab
  obtain ⟨a, ha⟩ : ∃ a, a = (St.mk bs false).take 1 := ⟨_, rfl⟩
  rw [← ha] at s2 ⊢
  have Ha := hide ha
  have S2 := hide s2
  clear ha s2 HR
  have hAw := (unhide HA).lt
  have hbw := unhide Hb
  have hw12 := (unhide S2).turn.size
  have hb2 := (unhide S2).at'.1.lt
  have hs2 : ∀ j, slab v2 = some j → wa.heap.size ≤ j ∧ j < w1.heap.size := fun j hj => unhide Hs j (hsl2 j hj)
  have Hs2 := hide hs2
  have T2 : Hid (Turn (fun _ => False) w w2) := hide (((unhide Hta).trans (unhide HT1)).trans' (unhide S2).turn (fun i hi e => by omega))
  have hA2 := ((unhide HA).kept (unhide HT1) (fun e => e)).kept (unhide S2).turn (fun e => by omega)
  have HA2 := hide hA2
  clear hA2 hs2 hsl2 HA HT1 Hta Hs Hwa Hsa
  by_cases hq : num a.1 = 1
  · have q1 : (num a.1 == 1) = true := by simp [hq]
    have htk : takenC bs = ⟨⟨a.2.short.1.toArray⟩, true, a.2.short.2.short.1⟩ := by unfold takenC; rw [← unhide Ha, if_pos hq]
    have Htk := hide htk
    clear htk hq
    obtain ⟨w3, hw3⟩ : ∃ w3, w3 = w2.alloc (.cells #[.string ⟨#[]⟩, .bool true, .slice none 0 0] 37) := ⟨_, rfl⟩
    have t3 : Turn (fun _ => False) w2 w3 := by rw [hw3]; exact (Turn.refl _ _).alloc _
    obtain ⟨c, hc⟩ : ∃ c, c = w2.heap.size := ⟨_, rfl⟩
    have hA3 : At 37 w3 c #[.string ⟨#[]⟩, .bool true, .slice none 0 0] := by rw [hw3, hc]; exact At.new _ _ _
    have Hw3 := hide hw3
    have Hc := hide hc
    have hR3 := (unhide S2).at'.kept t3 (fun e => e) (fun _ _ e => e)
    have T3 := hide ((unhide T2).trans t3)
    have HA3 := hide hA3
    have HAr := hide ((unhide HA2).kept t3 (fun e => e))
    have hcc : b < c ∧ w1.heap.size ≤ c ∧ w.heap.size < c ∧ wa.heap.size ≤ c := by omega
    clear hw3 t3 hA3 S2 T2 HA2 hc
    go_wp2_with fail
    rw [← unhide Hw3, ← unhide Hc]
    refine (rtext_any b v2 a.2 w3 hR3).mono ?_
    rintro e w4 ⟨rfl, v4, s4⟩
    have Hkl : Hid (a.2.short.2.bs.length ≤ bs.length) := hide (by
      have h1 := a.2.take_rest 2
      have h2 := (a.2.take 2).2.take_rest (num (a.2.take 2).1)
      have h3 := (St.mk bs false).take_rest 1
      rw [← unhide Ha] at h3
      unfold St.short
      simp only at h3
      omega)
    have Hk1 : Hid (a.2.short.1.length ≤ bs.length) := hide (by
      have h1 := (a.2.take 2).2.take_le (num (a.2.take 2).1)
      have h2 := a.2.take_rest 2
      have h3 := (St.mk bs false).take_rest 1
      rw [← unhide Ha] at h3
      unfold St.short
      simp only at h3
      omega)
    generalize a.2.short = k at *
    have hA4 := (unhide HA3).kept s4.turn (fun e => by omega)
    have f0 := hA4.frozen 0
    obtain ⟨w5, hw5⟩ : ∃ w5, w5 = w4.setCell ⟨c, 0, none⟩ (.string ⟨k.1.toArray⟩) := ⟨_, rfl⟩
    have t5 : Turn (fun i => i = c) w4 w5 := by rw [hw5]; exact (Turn.refl (fun i => i = c) w4).setCell (p := ⟨c, 0, none⟩) (.inl rfl) _
    have hA5 : At 37 w5 c #[.string ⟨k.1.toArray⟩, .bool true, .slice none 0 0] := by rw [hw5]; simpa using hA4.set 0 (.string ⟨k.1.toArray⟩)
    have hR5 := s4.at'.kept t5 (fun e => by omega) (fun j hj e => by have := unhide Hs2 j (s4.slab j hj); omega)
    have hA5r := ((unhide HAr).kept s4.turn (fun e => by omega)).kept t5 (fun e => by omega)
    have c5 : w4.cell? ⟨c, 0, none⟩ = some (.string ⟨#[]⟩) := hA4.cell 0
    have c51 : w4.cell? ⟨c, 1, none⟩ = some (.bool true) := hA4.cell 1
    have T5 := hide (((unhide T3).trans' s4.turn (fun i hi e => by omega)).trans' t5 (fun i hi e => by omega))
    have Hw5 := hide hw5
    have HA5 := hide hA5
    have HA5r := hide hA5r
    have Hsl4 : Hid (∀ j, slab v4 = some j → slab v2 = some j) := hide s4.slab
    have hw45 : b < w5.heap.size := hR5.1.lt
    have hc5 : c < w5.heap.size := hA5.lt
    have HS := hide (rshort_any b v4 k.2 w5 hR5 (by have := unhide Hkl; have := unhide HN; omega))
    clear hw5 t5 hA4 hA5 hA5r hR5 s4 HA3 HAr T3 Hw3 Hc
    go_wp2_with fail
    rw [← unhide Hw5]
    refine (unhide HS).mono ?_
    rintro e w6 ⟨v6, rfl, ho6, hn6, v7, s6⟩
    have hA6 := (unhide HA5).kept s6.turn (fun e => by omega)
    have f2 := hA6.frozen 2
    have hvc : ∀ j, v6.ownBlock = some j → c < j ∧ j < w6.heap.size := fun j hj => ⟨by have := hn6 j hj; omega, ho6.lt hj⟩
    obtain ⟨w7, hw7⟩ : ∃ w7, w7 = w6.setCell ⟨c, 2, none⟩ v6 := ⟨_, rfl⟩
    have t7 : Turn (fun i => i = c) w6 w7 := by rw [hw7]; exact (Turn.refl (fun i => i = c) w6).setCell (p := ⟨c, 2, none⟩) (.inl rfl) _
    have hA7 : At 37 w7 c #[.string ⟨k.1.toArray⟩, .bool true, v6] := by rw [hw7]; simpa using hA6.set 2 v6
    have ho7 := ho6.kept t7 (fun j hj e => by have := hvc j hj; omega)
    have hA7r := ((unhide HA5r).kept s6.turn (fun e => by omega)).kept t7 (fun e => by omega)
    have t27 := ((unhide T5).trans' s6.turn (fun i hi e => by omega)).trans' t7 (fun i hi e => by omega)
    have hs7 : Sees w7 (.slice vo n vc) bs := (unhide H).kept t27 (fun _ _ e => e)
    have hv7 : ∀ j, slab v6 = some j → w.heap.size < j ∧ j < w7.heap.size := fun j hj => by
      rw [ho6.slab_eq] at hj
      have := hvc j hj
      have := t7.size
      omega
    obtain ⟨o6, c6, e6⟩ := ho7.shape
    have c70 : w6.cell? ⟨c, 0, none⟩ = some (.string ⟨k.1.toArray⟩) := hA6.cell 0
    have c71 : w6.cell? ⟨c, 1, none⟩ = some (.bool true) := hA6.cell 1
    have c72 : w6.cell? ⟨c, 2, none⟩ = some (.slice none 0 0) := hA6.cell 2
    have Hw7 := hide hw7
    have HA7 := hide (And.intro hA7 (And.intro ho7 (And.intro hA7r (And.intro t27 (And.intro hs7 hv7)))))
    clear hw7 t7 hA7 ho7 hA7r t27 hs7 hv7 hvc hA6 s6 HS HA5 HA5r T5 Hw5 ho6 hn6 c5 c51 f0
    rw [e6] at HA7 Hw7 ⊢
    have hkm : (⟨k.1.toArray⟩ : ByteArray).size ≤ maxLen := by
      have h1 := unhide Hk1
      have h2 := unhide HN
      have e : (⟨k.1.toArray⟩ : ByteArray).size = k.1.length := by simp [ByteArray.size]
      unfold maxLen
      omega
    have HLay : Hid (if (takenC bs).ok = true then Calls Tryz.prog 33 #[.agg #[.string ⟨k.1.toArray⟩, .bool true, .slice o6 k.2.short.1.length c6]] w7 fun e w' => ∃ v', e = .returned (.tuple #[v', .int .i64 0]) ∧ Made w7 v' (takenC bs).laid w'
        else Calls Tryz.prog 33 #[.agg #[.string ⟨k.1.toArray⟩, .bool true, .slice o6 k.2.short.1.length c6]] w7 fun e w' => e = .returned (.tuple #[.slice none 0 0, .int .i64 1]) ∧ Turn (fun _ => False) w7 w') := by
      obtain ⟨a1, a2, a3, a4, a5, a6⟩ := unhide HA7
      refine hide ?_
      rw [unhide Htk]
      split
      · rename_i hok
        exact klay_yes _ _ _ _ w7 a2.sees hkm (fun h0 j hj => (a6 j hj).2) hok
      · rename_i hok
        exact klay_no _ _ _ _ w7 a2.sees hkm (by simpa using hok)
    have HTk2 : Hid (∃ c : Chg, takenC bs = c ∧ c.key = ⟨k.1.toArray⟩ ∧ c.has = true ∧ c.val = k.2.short.1) := hide ⟨_, unhide Htk, rfl, rfl, rfl⟩
    clear hkm
    generalize hlen6 : k.2.short.1.length = n6 at *
    have Hlen6 := hide hlen6
    clear hlen6
    by_cases hok : (takenC bs).ok = true
    · have HL1 := unhide HLay
      rw [if_pos hok] at HL1
      have HL := hide HL1
      clear HL1 HLay
      go_wp2_with fail
      rw [← unhide Hw7]
      refine (unhide HL).mono ?_
      rintro e w8 ⟨v8, rfl, hm8⟩
      obtain ⟨a1, a2, a3, a4, a5, a6⟩ := unhide HA7
      have hsb := a5.kept hm8.2.1 (fun _ _ e => e)
      have hr8 := a3.kept hm8.2.1 (fun e => e)
      have HE := hide (equal_any _ _ _ _ w8 hm8.1.sees hsb)
      have c80 : w8.cell? ⟨c, 0, none⟩ = some (.string ⟨k.1.toArray⟩) := (a1.kept hm8.2.1 (fun e => e)).cell 0
      have c81 : w8.cell? ⟨c, 1, none⟩ = some (.bool true) := (a1.kept hm8.2.1 (fun e => e)).cell 1
      have c82 : w8.cell? ⟨c, 2, none⟩ = some (.slice o6 n6 c6) := (a1.kept hm8.2.1 (fun e => e)).cell 2
      have g0 : w8.cell? ⟨w.heap.size, 0, none⟩ = some (.string ⟨#[]⟩) := hr8.cell 0
      have g1 : w8.cell? ⟨w.heap.size, 1, none⟩ = some (.bool false) := hr8.cell 1
      have g2 : w8.cell? ⟨w.heap.size, 2, none⟩ = some (.slice none 0 0) := hr8.cell 2
      have z0 := hr8.frozen 0
      have z1 := hr8.frozen 1
      have z2 := hr8.frozen 2
      have ht8 := a4.trans hm8.2.1
      have hv8 : Sees w8 (.slice o6 n6 c6) k.2.short.1 := (a2.sees).kept hm8.2.1 (fun _ _ e => e)
      have hl8 : ∀ j, slab (.slice o6 n6 c6) = some j → w.heap.size < j ∧ j < w8.heap.size := fun j hj => ⟨(a6 j hj).1, Nat.lt_of_lt_of_le (a6 j hj).2 hm8.2.1.size⟩
      have Hfin := hide (And.intro hr8 (And.intro ht8 (And.intro hv8 hl8)))
      obtain ⟨o8, c8, e8⟩ := hm8.1.shape
      have hdec : decide ((takenC bs).laid = bs) = true ∨ decide ((takenC bs).laid = bs) = false := by cases decide ((takenC bs).laid = bs) <;> simp
      have hrd : readC bs = if (takenC bs).laid = bs then some (takenC bs) else none := by unfold readC; simp [hok]
      have Hrd := hide hrd
      generalize (takenC bs).laid = lb at *
      generalize lb.length = n8 at *
      subst e8
      clear hm8 hsb hr8 a1 a2 a3 a4 a5 a6 ht8 hv8 hl8 hrd HL HA7 Hw7 c70 c71 c72 f2
      rcases hdec with hd | hd
      · rw [hd] at HE
        have hres : readC bs = some (takenC bs) := by rw [unhide Hrd, if_pos (by simpa using hd)]
        have Hres := hide hres
        clear hd hres
        go_wp2_with fail
        refine (unhide HE).mono ?_
        rintro e w9 ⟨rfl, rfl⟩
        clear HE
        go_wp2
        obtain ⟨b1, b2, b3, b4⟩ := unhide Hfin
        obtain ⟨d, d1, d2, d3, d4⟩ := unhide HTk2
        refine bodyPost_ret (results_cell2 rfl _ _ w.heap.size 37 _ (0, 0) _ rfl (((b1.set 0 _).set 1 _).set 2 _) Tryz.underlying37 rfl (by kernel_rfl)) rfl ?_
        have tset : ∀ u0 u1 u2, Turn (fun i => i = w.heap.size) w8 (((w8.setCell ⟨w.heap.size, 0, none⟩ u0).setCell ⟨w.heap.size, 1, none⟩ u1).setCell ⟨w.heap.size, 2, none⟩ u2) := fun u0 u1 u2 => (((Turn.refl (fun i => i = w.heap.size) w8).setCell (p := ⟨w.heap.size, 0, none⟩) (.inl rfl) u0).setCell (p := ⟨w.heap.size, 1, none⟩) (.inl rfl) u1).setCell (p := ⟨w.heap.size, 2, none⟩) (.inl rfl) u2
        refine ⟨b2.trans' (tset _ _ _) (fun i hi e => by omega), ?_⟩
        rw [unhide Hres, d1]
        refine ⟨_, by rw [d2, d3]; rfl, ?_, fun j hj => ?_⟩
        · rw [d4]
          exact b3.kept (tset _ _ _) (fun j hj e => by have := b4 j hj; omega)
        · have := b4 j hj
          have := (tset (.string ⟨k.1.toArray⟩) (.bool true) (.slice o6 n6 c6)).size
          exact ⟨by omega, by omega⟩
      · rw [hd] at HE
        have hres : readC bs = none := by rw [unhide Hrd, if_neg (by simpa using hd)]
        have Hres := hide hres
        clear hd hres
        go_wp2_with fail
        refine (unhide HE).mono ?_
        rintro e w9 ⟨rfl, rfl⟩
        clear HE
        go_wp2
        obtain ⟨b1, b2, b3, b4⟩ := unhide Hfin
        refine bodyPost_ret (results_cell2 rfl _ _ w.heap.size 37 _ (0, 0) _ rfl (((b1.set 0 _).set 1 _).set 2 _) Tryz.underlying37 rfl (by kernel_rfl)) rfl ?_
        have tset : ∀ u0 u1 u2, Turn (fun i => i = w.heap.size) w8 (((w8.setCell ⟨w.heap.size, 0, none⟩ u0).setCell ⟨w.heap.size, 1, none⟩ u1).setCell ⟨w.heap.size, 2, none⟩ u2) := fun u0 u1 u2 => (((Turn.refl (fun i => i = w.heap.size) w8).setCell (p := ⟨w.heap.size, 0, none⟩) (.inl rfl) u0).setCell (p := ⟨w.heap.size, 1, none⟩) (.inl rfl) u1).setCell (p := ⟨w.heap.size, 2, none⟩) (.inl rfl) u2
        refine ⟨b2.trans' (tset _ _ _) (fun i hi e => by omega), ?_⟩
        rw [unhide Hres]
        rfl
    · have HL1 := unhide HLay
      rw [if_neg hok] at HL1
      have HL := hide HL1
      have hres : readC bs = none := by unfold readC; simp [hok]
      have Hres := hide hres
      clear HL1 HLay hres hok
      go_wp2_with fail
      rw [← unhide Hw7]
      refine (unhide HL).mono ?_
      rintro e w8 ⟨rfl, t8⟩
      obtain ⟨a1, a2, a3, a4, a5, a6⟩ := unhide HA7
      have hr8 := a3.kept t8 (fun e => e)
      have g0 : w8.cell? ⟨w.heap.size, 0, none⟩ = some (.string ⟨#[]⟩) := hr8.cell 0
      have g1 : w8.cell? ⟨w.heap.size, 1, none⟩ = some (.bool false) := hr8.cell 1
      have g2 : w8.cell? ⟨w.heap.size, 2, none⟩ = some (.slice none 0 0) := hr8.cell 2
      have z0 := hr8.frozen 0
      have z1 := hr8.frozen 1
      have z2 := hr8.frozen 2
      have Hfin := hide (And.intro hr8 (a4.trans t8))
      clear hr8 a1 a2 a3 a4 a5 a6 t8 HL HA7 Hw7 c70 c71 c72 f2
      go_wp2
      obtain ⟨b1, b2⟩ := unhide Hfin
      refine bodyPost_ret (results_cell2 rfl _ _ w.heap.size 37 _ (0, 0) _ rfl (((b1.set 0 _).set 1 _).set 2 _) Tryz.underlying37 rfl (by kernel_rfl)) rfl ?_
      have tset : ∀ u0 u1 u2, Turn (fun i => i = w.heap.size) w8 (((w8.setCell ⟨w.heap.size, 0, none⟩ u0).setCell ⟨w.heap.size, 1, none⟩ u1).setCell ⟨w.heap.size, 2, none⟩ u2) := fun u0 u1 u2 => (((Turn.refl (fun i => i = w.heap.size) w8).setCell (p := ⟨w.heap.size, 0, none⟩) (.inl rfl) u0).setCell (p := ⟨w.heap.size, 1, none⟩) (.inl rfl) u1).setCell (p := ⟨w.heap.size, 2, none⟩) (.inl rfl) u2
      refine ⟨b2.trans' (tset _ _ _) (fun i hi e => by omega), ?_⟩
      rw [unhide Hres]
      rfl
  · have q1 : (num a.1 == 1) = false := by simp [hq]
    have htk : takenC bs = ⟨⟨a.2.short.1.toArray⟩, false, []⟩ := by unfold takenC; rw [← unhide Ha, if_neg hq]
    have Htk := hide htk
    clear htk hq
    obtain ⟨w3, hw3⟩ : ∃ w3, w3 = w2.alloc (.cells #[.string ⟨#[]⟩, .bool false, .slice none 0 0] 37) := ⟨_, rfl⟩
    have t3 : Turn (fun _ => False) w2 w3 := by rw [hw3]; exact (Turn.refl _ _).alloc _
    obtain ⟨c, hc⟩ : ∃ c, c = w2.heap.size := ⟨_, rfl⟩
    have hA3 : At 37 w3 c #[.string ⟨#[]⟩, .bool false, .slice none 0 0] := by rw [hw3, hc]; exact At.new _ _ _
    have Hw3 := hide hw3
    have Hc := hide hc
    have hR3 := (unhide S2).at'.kept t3 (fun e => e) (fun _ _ e => e)
    have T3 := hide ((unhide T2).trans t3)
    have HA3 := hide hA3
    have HAr := hide ((unhide HA2).kept t3 (fun e => e))
    have hcc : b < c ∧ w1.heap.size ≤ c ∧ w.heap.size < c ∧ wa.heap.size ≤ c := by omega
    clear hw3 t3 hA3 S2 T2 HA2 hc
    go_wp2_with fail
    rw [← unhide Hw3, ← unhide Hc]
    refine (rtext_any b v2 a.2 w3 hR3).mono ?_
    rintro e w4 ⟨rfl, v4, s4⟩
    have Hk1 : Hid (a.2.short.1.length ≤ bs.length) := hide (by
      have h1 := (a.2.take 2).2.take_le (num (a.2.take 2).1)
      have h2 := a.2.take_rest 2
      have h3 := (St.mk bs false).take_rest 1
      rw [← unhide Ha] at h3
      unfold St.short
      simp only at h3
      omega)
    generalize a.2.short = k at *
    have hA4 := (unhide HA3).kept s4.turn (fun e => by omega)
    have f0 := hA4.frozen 0
    obtain ⟨w7, hw7⟩ : ∃ w7, w7 = w4.setCell ⟨c, 0, none⟩ (.string ⟨k.1.toArray⟩) := ⟨_, rfl⟩
    have t7 : Turn (fun i => i = c) w4 w7 := by rw [hw7]; exact (Turn.refl (fun i => i = c) w4).setCell (p := ⟨c, 0, none⟩) (.inl rfl) _
    have hA7 : At 37 w7 c #[.string ⟨k.1.toArray⟩, .bool false, .slice none 0 0] := by rw [hw7]; simpa using hA4.set 0 (.string ⟨k.1.toArray⟩)
    have hA7r := ((unhide HAr).kept s4.turn (fun e => by omega)).kept t7 (fun e => by omega)
    have t27 := ((unhide T3).trans' s4.turn (fun i hi e => by omega)).trans' t7 (fun i hi e => by omega)
    have hs7 : Sees w7 (.slice vo n vc) bs := (unhide H).kept t27 (fun _ _ e => e)
    have hv7 : ∀ j, slab (.slice none 0 0) = some j → w.heap.size < j ∧ j < w7.heap.size := fun j hj => by simp [slab] at hj
    have c70 : w4.cell? ⟨c, 0, none⟩ = some (.string ⟨#[]⟩) := hA4.cell 0
    have c71 : w4.cell? ⟨c, 1, none⟩ = some (.bool false) := hA4.cell 1
    have c72 : w4.cell? ⟨c, 2, none⟩ = some (.slice none 0 0) := hA4.cell 2
    have Hw7 := hide hw7
    have HA7 := hide (And.intro hA7 (And.intro (Sees.nil w7) (And.intro hA7r (And.intro t27 (And.intro hs7 hv7)))))
    clear hw7 t7 hA7 hA7r t27 hs7 hv7 hA4 s4 HA3 HAr T3 Hw3 Hc
    have hkm : (⟨k.1.toArray⟩ : ByteArray).size ≤ maxLen := by
      have h1 := unhide Hk1
      have h2 := unhide HN
      have e : (⟨k.1.toArray⟩ : ByteArray).size = k.1.length := by simp [ByteArray.size]
      unfold maxLen
      omega
    have HLay : Hid (if (takenC bs).ok = true then Calls Tryz.prog 33 #[.agg #[.string ⟨k.1.toArray⟩, .bool false, .slice none 0 0]] w7 fun e w' => ∃ v', e = .returned (.tuple #[v', .int .i64 0]) ∧ Made w7 v' (takenC bs).laid w'
        else Calls Tryz.prog 33 #[.agg #[.string ⟨k.1.toArray⟩, .bool false, .slice none 0 0]] w7 fun e w' => e = .returned (.tuple #[.slice none 0 0, .int .i64 1]) ∧ Turn (fun _ => False) w7 w') := by
      obtain ⟨a1, a2, a3, a4, a5, a6⟩ := unhide HA7
      refine hide ?_
      rw [unhide Htk]
      split
      · rename_i hok
        exact klay_yes _ _ _ _ w7 a2 hkm (fun h0 j hj => (a6 j hj).2) hok
      · rename_i hok
        exact klay_no _ _ _ _ w7 a2 hkm (by simpa using hok)
    have HTk2 : Hid (∃ c : Chg, takenC bs = c ∧ c.key = ⟨k.1.toArray⟩ ∧ c.has = false ∧ c.val = []) := hide ⟨_, unhide Htk, rfl, rfl, rfl⟩
    clear hkm
    by_cases hok : (takenC bs).ok = true
    · have HL1 := unhide HLay
      rw [if_pos hok] at HL1
      have HL := hide HL1
      clear HL1 HLay
      go_wp2_with fail
      rw [← unhide Hw7]
      refine (unhide HL).mono ?_
      rintro e w8 ⟨v8, rfl, hm8⟩
      obtain ⟨a1, a2, a3, a4, a5, a6⟩ := unhide HA7
      have hsb := a5.kept hm8.2.1 (fun _ _ e => e)
      have hr8 := a3.kept hm8.2.1 (fun e => e)
      have HE := hide (equal_any _ _ _ _ w8 hm8.1.sees hsb)
      have c80 : w8.cell? ⟨c, 0, none⟩ = some (.string ⟨k.1.toArray⟩) := (a1.kept hm8.2.1 (fun e => e)).cell 0
      have c81 : w8.cell? ⟨c, 1, none⟩ = some (.bool false) := (a1.kept hm8.2.1 (fun e => e)).cell 1
      have c82 : w8.cell? ⟨c, 2, none⟩ = some (.slice none 0 0) := (a1.kept hm8.2.1 (fun e => e)).cell 2
      have g0 : w8.cell? ⟨w.heap.size, 0, none⟩ = some (.string ⟨#[]⟩) := hr8.cell 0
      have g1 : w8.cell? ⟨w.heap.size, 1, none⟩ = some (.bool false) := hr8.cell 1
      have g2 : w8.cell? ⟨w.heap.size, 2, none⟩ = some (.slice none 0 0) := hr8.cell 2
      have z0 := hr8.frozen 0
      have z1 := hr8.frozen 1
      have z2 := hr8.frozen 2
      have ht8 := a4.trans hm8.2.1
      have hv8 : Sees w8 (.slice none 0 0) [] := (a2).kept hm8.2.1 (fun _ _ e => e)
      have hl8 : ∀ j, slab (.slice none 0 0) = some j → w.heap.size < j ∧ j < w8.heap.size := fun j hj => ⟨(a6 j hj).1, Nat.lt_of_lt_of_le (a6 j hj).2 hm8.2.1.size⟩
      have Hfin := hide (And.intro hr8 (And.intro ht8 (And.intro hv8 hl8)))
      obtain ⟨o8, c8, e8⟩ := hm8.1.shape
      have hdec : decide ((takenC bs).laid = bs) = true ∨ decide ((takenC bs).laid = bs) = false := by cases decide ((takenC bs).laid = bs) <;> simp
      have hrd : readC bs = if (takenC bs).laid = bs then some (takenC bs) else none := by unfold readC; simp [hok]
      have Hrd := hide hrd
      generalize (takenC bs).laid = lb at *
      generalize lb.length = n8 at *
      subst e8
      clear hm8 hsb hr8 a1 a2 a3 a4 a5 a6 ht8 hv8 hl8 hrd HL HA7 Hw7 c70 c71 c72 f0
      rcases hdec with hd | hd
      · rw [hd] at HE
        have hres : readC bs = some (takenC bs) := by rw [unhide Hrd, if_pos (by simpa using hd)]
        have Hres := hide hres
        clear hd hres
        go_wp2_with fail
        refine (unhide HE).mono ?_
        rintro e w9 ⟨rfl, rfl⟩
        clear HE
        go_wp2
        obtain ⟨b1, b2, b3, b4⟩ := unhide Hfin
        obtain ⟨d, d1, d2, d3, d4⟩ := unhide HTk2
        refine bodyPost_ret (results_cell2 rfl _ _ w.heap.size 37 _ (0, 0) _ rfl (((b1.set 0 _).set 1 _).set 2 _) Tryz.underlying37 rfl (by kernel_rfl)) rfl ?_
        have tset : ∀ u0 u1 u2, Turn (fun i => i = w.heap.size) w8 (((w8.setCell ⟨w.heap.size, 0, none⟩ u0).setCell ⟨w.heap.size, 1, none⟩ u1).setCell ⟨w.heap.size, 2, none⟩ u2) := fun u0 u1 u2 => (((Turn.refl (fun i => i = w.heap.size) w8).setCell (p := ⟨w.heap.size, 0, none⟩) (.inl rfl) u0).setCell (p := ⟨w.heap.size, 1, none⟩) (.inl rfl) u1).setCell (p := ⟨w.heap.size, 2, none⟩) (.inl rfl) u2
        refine ⟨b2.trans' (tset _ _ _) (fun i hi e => by omega), ?_⟩
        rw [unhide Hres, d1]
        refine ⟨_, by rw [d2, d3]; rfl, ?_, fun j hj => ?_⟩
        · rw [d4]
          exact b3.kept (tset _ _ _) (fun j hj e => by have := b4 j hj; omega)
        · have := b4 j hj
          have := (tset (.string ⟨k.1.toArray⟩) (.bool false) (.slice none 0 0)).size
          exact ⟨by omega, by omega⟩
      · rw [hd] at HE
        have hres : readC bs = none := by rw [unhide Hrd, if_neg (by simpa using hd)]
        have Hres := hide hres
        clear hd hres
        go_wp2_with fail
        refine (unhide HE).mono ?_
        rintro e w9 ⟨rfl, rfl⟩
        clear HE
        go_wp2
        obtain ⟨b1, b2, b3, b4⟩ := unhide Hfin
        refine bodyPost_ret (results_cell2 rfl _ _ w.heap.size 37 _ (0, 0) _ rfl (((b1.set 0 _).set 1 _).set 2 _) Tryz.underlying37 rfl (by kernel_rfl)) rfl ?_
        have tset : ∀ u0 u1 u2, Turn (fun i => i = w.heap.size) w8 (((w8.setCell ⟨w.heap.size, 0, none⟩ u0).setCell ⟨w.heap.size, 1, none⟩ u1).setCell ⟨w.heap.size, 2, none⟩ u2) := fun u0 u1 u2 => (((Turn.refl (fun i => i = w.heap.size) w8).setCell (p := ⟨w.heap.size, 0, none⟩) (.inl rfl) u0).setCell (p := ⟨w.heap.size, 1, none⟩) (.inl rfl) u1).setCell (p := ⟨w.heap.size, 2, none⟩) (.inl rfl) u2
        refine ⟨b2.trans' (tset _ _ _) (fun i hi e => by omega), ?_⟩
        rw [unhide Hres]
        rfl
    · have HL1 := unhide HLay
      rw [if_neg hok] at HL1
      have HL := hide HL1
      have hres : readC bs = none := by unfold readC; simp [hok]
      have Hres := hide hres
      clear HL1 HLay hres hok
      go_wp2_with fail
      rw [← unhide Hw7]
      refine (unhide HL).mono ?_
      rintro e w8 ⟨rfl, t8⟩
      obtain ⟨a1, a2, a3, a4, a5, a6⟩ := unhide HA7
      have hr8 := a3.kept t8 (fun e => e)
      have g0 : w8.cell? ⟨w.heap.size, 0, none⟩ = some (.string ⟨#[]⟩) := hr8.cell 0
      have g1 : w8.cell? ⟨w.heap.size, 1, none⟩ = some (.bool false) := hr8.cell 1
      have g2 : w8.cell? ⟨w.heap.size, 2, none⟩ = some (.slice none 0 0) := hr8.cell 2
      have z0 := hr8.frozen 0
      have z1 := hr8.frozen 1
      have z2 := hr8.frozen 2
      have Hfin := hide (And.intro hr8 (a4.trans t8))
      clear hr8 a1 a2 a3 a4 a5 a6 t8 HL HA7 Hw7 c70 c71 c72 f0
      go_wp2
      obtain ⟨b1, b2⟩ := unhide Hfin
      refine bodyPost_ret (results_cell2 rfl _ _ w.heap.size 37 _ (0, 0) _ rfl (((b1.set 0 _).set 1 _).set 2 _) Tryz.underlying37 rfl (by kernel_rfl)) rfl ?_
      have tset : ∀ u0 u1 u2, Turn (fun i => i = w.heap.size) w8 (((w8.setCell ⟨w.heap.size, 0, none⟩ u0).setCell ⟨w.heap.size, 1, none⟩ u1).setCell ⟨w.heap.size, 2, none⟩ u2) := fun u0 u1 u2 => (((Turn.refl (fun i => i = w.heap.size) w8).setCell (p := ⟨w.heap.size, 0, none⟩) (.inl rfl) u0).setCell (p := ⟨w.heap.size, 1, none⟩) (.inl rfl) u1).setCell (p := ⟨w.heap.size, 2, none⟩) (.inl rfl) u2
      refine ⟨b2.trans' (tset _ _ _) (fun i hi e => by omega), ?_⟩
      rw [unhide Hres]
      rfl

end Go.Proofs.YteomehdkfhjbeaaGreatDoor
