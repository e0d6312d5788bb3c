/- A change's bytes by the reference: LayChange. -/
import Derived.Test.YteomehdkfhjbeaaGreatKRead
import Derived.Test.YteomehdkfhjbeaaGreatPkD
import Derived.Test.YteomehdkfhjbeaaGreatPkF
namespace Go.Proofs.YteomehdkfhjbeaaGreat
open Go.RowKit

set_option maxHeartbeats 2000000 in
set_option maxRecDepth 100000 in
theorem rlay_no (k : ByteArray) (hs : Bool) (v : Value) (bs : List UInt8) (w : World) (h : Sees w v bs) (hk : k.size ≤ maxLen) (hok : Chg.ok ⟨k, hs, bs⟩ = false) :
    Calls Tryz.prog 33 #[.agg #[.string k, .bool hs, v]] w fun e w' => e = .returned (.tuple #[.slice none 0 0, .int .i64 1]) ∧ Turn (fun _ => False) w w' := by
  obtain ⟨ao, cap, rfl⟩ := h.shape
  have hl := h.len
  unfold maxLen at hl hk
  have ta : Turn (fun _ => False) w (w.alloc (.cells #[.string k, .bool hs, .slice ao bs.length cap] 51)) := (Turn.refl _ _).alloc _
  have Hta := hide ta
  generalize hn : bs.length = n at *
  clear h ta
  have e0 : Chg.ok ⟨k, hs, bs⟩ = (decide (0 < k.size) && decide (k.size ≤ 255) && (if hs then decide (n ≤ 65535) else decide (n = 0))) := by unfold Chg.ok; simp only [hn]
  rw [e0] at hok
  clear e0 hn
  by_cases h0 : k.size < 1
  · have z0 : (k.size : Int) < 1 := by omega
    clear hok
    go_enter Tryz.func33, Tryz.ntmps33
    go_wp2
    go_ret2
    exact ⟨rfl, unhide Hta⟩
  · have z0 : ¬ (k.size : Int) < 1 := by omega
    by_cases h1 : 255 < k.size
    · have z1 : (255 : Int) < k.size := by omega
      clear hok
      go_enter Tryz.func33, Tryz.ntmps33
      go_wp2
      go_ret2
      exact ⟨rfl, unhide Hta⟩
    · have z1 : ¬ (255 : Int) < k.size := by omega
      by_cases h2 : 65535 < n
      · have z2 : (65535 : Int) < n := by omega
        clear hok
        go_enter Tryz.func33, Tryz.ntmps33
        go_wp2
        go_ret2
        exact ⟨rfl, unhide Hta⟩
      · have z2 : ¬ (65535 : Int) < n := by omega
        have hq : hs = false ∧ 0 < n := by
          cases hs
          · refine ⟨rfl, ?_⟩
            simp at hok
            omega
          · simp at hok
            omega
        obtain ⟨rfl, hn0⟩ := hq
        have z3 : (0 : Int) < n := by omega
        clear hok
        go_enter Tryz.func33, Tryz.ntmps33
        go_wp2
        go_ret2
        exact ⟨rfl, unhide Hta⟩

set_option maxHeartbeats 4000000 in
set_option maxRecDepth 100000 in
theorem rlay_yes (k : ByteArray) (hs : Bool) (v : Value) (bs : List UInt8) (w : World) (h : Sees w v bs) (hlt : 0 < bs.length → ∀ j, slab v = some j → j < w.heap.size) (hok : Chg.ok ⟨k, hs, bs⟩ = true) :
    Calls Tryz.prog 33 #[.agg #[.string k, .bool hs, v]] w fun e w' => ∃ v', e = .returned (.tuple #[v', .int .i64 0]) ∧ Made w v' (Chg.laid ⟨k, hs, bs⟩) w' := by
  obtain ⟨ao, cap, rfl⟩ := h.shape
  have hks : 0 < k.size ∧ k.size ≤ 255 ∧ bs.length ≤ 65535 ∧ (hs = false → bs.length = 0) := by
    unfold Chg.ok at hok
    simp only [Bool.and_eq_true, decide_eq_true_eq] at hok
    refine ⟨hok.1.1, hok.1.2, ?_, fun e => by have := hok.2; rw [if_neg (by simp [e])] at this; simpa using this⟩
    have h3 := hok.2
    cases hs
    · simp at h3; simp [h3]
    · simpa using h3
  obtain ⟨wa, hwa⟩ : ∃ wa, wa = w.alloc (.cells #[.string k, .bool hs, .slice ao bs.length cap] 51) := ⟨_, rfl⟩
  have ta : Turn (fun _ => False) w wa := by rw [hwa]; exact (Turn.refl _ _).alloc _
  have hA : At 51 wa w.heap.size #[.string k, .bool hs, .slice ao bs.length cap] := by rw [hwa]; exact At.new _ _ _
  have hv1 := h.kept ta (fun _ _ e => e)
  have n1 := WNew.start (fun _ => False) 87 wa
  obtain ⟨b, hb⟩ : ∃ b, b = wa.heap.size := ⟨_, rfl⟩
  obtain ⟨w2, hw2⟩ : ∃ w2, w2 = wa.alloc (.cells #[.slice none 0 0] 87) := ⟨_, rfl⟩
  have t2 : Turn (fun _ => False) wa w2 := by rw [hw2]; exact (Turn.refl _ _).alloc _
  rw [← hw2, ← hb] at n1
  have hA2 := hA.kept t2 (fun e => e)
  have hv2 := hv1.kept t2 (fun _ _ e => e)
  have hbb : w.heap.size < b := by rw [hb]; exact hA.lt
  have N1 := hide n1
  have HA2 := hide hA2
  have HV2 := hide hv2
  have Hlt := hide hlt
  have Hta := hide ta
  have Hwa := hide hwa
  have Hb := hide hb
  have Hb1 := hide (show b = w.heap.size + 1 by rw [hb, hwa]; simp)
  have Hw2 := hide hw2
  have z0 : ¬ (k.size : Int) < 1 := by omega
  have z1 : ¬ (255 : Int) < k.size := by omega
  have z2 : ¬ (65535 : Int) < bs.length := by omega
  have HL := hide (show Chg.laid ⟨k, hs, bs⟩ = (if hs then be 1 1 ++ sh k.data.toList ++ sh bs else be 0 1 ++ sh k.data.toList) from rfl)
  clear h ta hA hv1 hwa hlt hok hb n1 hA2 hv2 t2 hw2
  cases hs
  · have hb0 : bs.length = 0 := hks.2.2.2 rfl
    have z3 : ¬ (0 : Int) < bs.length := by omega
    rw [hb0] at Hwa HA2 HV2 Hlt
    rw [hb0]
    clear z2 z3 hks hb0
    go_enter Tryz.func33, Tryz.ntmps33
    go_wp2_with fail
    rw [← unhide Hwa, ← unhide Hw2, ← unhide Hb1]
    refine (rw_u8 b _ [] 0 w2 (unhide N1).at' (by simp)).mono ?_
    rintro e w3 ⟨rfl, v3, s3⟩
    have hA3 := (unhide HA2).kept s3.turn (fun e => e.elim (fun e => by omega) (fun e => by simp [Value.ownBlock] at e))
    have c0 : w3.cell? ⟨w.heap.size, 0, none⟩ = some (.string k) := hA3.cell 0
    have c1 : w3.cell? ⟨w.heap.size, 1, none⟩ = some (.bool false) := hA3.cell 1
    have N3 := hide ((unhide N1).step s3)
    have HA3 := hide hA3
    clear s3 hA3 N1 HA2
    go_wp2_with fail
    refine (rw_text_yes b v3 k _ w3 (unhide N3).at' (by omega) (by simp [be_length]; omega)).mono ?_
    rintro e w4 ⟨rfl, v4, s4⟩
    have n4 := (unhide N3).step s4
    have hA4 := (unhide HA3).kept s4.turn (fun e => (unhide N3).nots (by have := unhide Hb; omega) e)
    have c1 : w4.cell? ⟨w.heap.size, 1, none⟩ = some (.bool false) := hA4.cell 1
    have hm : Made w v4 (Chg.laid ⟨k, false, bs⟩) w4 := ⟨by rw [unhide HL]; simpa using n4.at'.2.1, (unhide Hta).trans n4.turn, fun j hj => by have := n4.newv j hj; have := (unhide Hta).size; omega⟩
    obtain ⟨o4, c4, e4⟩ := n4.at'.2.1.shape
    have c7 := n4.at'.1.cell 0
    have HM := hide hm
    clear s4 n4 hA4 hm N3 HA3 c0
    generalize (List.length _) = n5 at e4
    subst e4
    go_wp2
    go_ret2
    exact ⟨_, rfl, unhide HM⟩
  · generalize hbl : bs.length = n at *
    have Hbl := hide hbl
    clear hbl
    go_enter Tryz.func33, Tryz.ntmps33
    go_wp2_with fail
    rw [← unhide Hwa, ← unhide Hw2, ← unhide Hb1]
    refine (rw_u8 b _ [] 1 w2 (unhide N1).at' (by simp)).mono ?_
    rintro e w3 ⟨rfl, v3, s3⟩
    have hA3 := (unhide HA2).kept s3.turn (fun e => e.elim (fun e => by omega) (fun e => by simp [Value.ownBlock] at e))
    have c0 : w3.cell? ⟨w.heap.size, 0, none⟩ = some (.string k) := hA3.cell 0
    have N3 := hide ((unhide N1).step s3)
    have HA3 := hide hA3
    have HV3 := hide ((unhide HV2).kept' s3.turn (fun h0 j hj e => (unhide N1).nots (by
      have := unhide Hlt (by rw [← unhide Hbl]; exact h0) j hj
      have := (unhide Hta).size
      omega) e))
    clear s3 hA3 N1 HA2 HV2
    go_wp2_with fail
    refine (rw_text_yes b v3 k _ w3 (unhide N3).at' (by omega) (by simp [be_length]; omega)).mono ?_
    rintro e w4 ⟨rfl, v4, s4⟩
    have n4 := (unhide N3).step s4
    have hA4 := (unhide HA3).kept s4.turn (fun e => (unhide N3).nots (by have := unhide Hb; omega) e)
    have c1 : w4.cell? ⟨w.heap.size, 1, none⟩ = some (.bool true) := hA4.cell 1
    have c2 : w4.cell? ⟨w.heap.size, 2, none⟩ = some (.slice ao n cap) := hA4.cell 2
    have HV4 := hide ((unhide HV3).kept' s4.turn (fun h0 j hj e => (unhide N3).nots (by
      have := unhide Hlt (by rw [← unhide Hbl]; exact h0) j hj
      have := (unhide Hta).size
      omega) e))
    have N4 := hide n4
    clear s4 n4 hA4 N3 HA3 HV3 c0
    go_wp2_with fail
    refine (rw_short_yes b v4 _ _ bs w4 (unhide N4).at' (unhide HV4) (fun h0 j hj => by
        have h1 := unhide Hlt (by rw [← unhide Hbl]; exact h0) j hj
        have h2 := (unhide Hta).size
        have h3 := (unhide N4).nots (j := j) (by omega)
        exact ⟨fun e => h3 (.inl e), fun e => h3 (.inr e)⟩) (by have := unhide Hbl; omega) (by have := text_length k; have := unhide Hbl; simp [be_length, sh_length]; omega)).mono ?_
    rintro e w6 ⟨rfl, v6, s6⟩
    have n6 := (unhide N4).step s6
    have hm : Made w v6 (Chg.laid ⟨k, true, bs⟩) w6 := ⟨by rw [unhide HL]; simpa using n6.at'.2.1, (unhide Hta).trans n6.turn, fun j hj => by have := n6.newv j hj; have := (unhide Hta).size; omega⟩
    obtain ⟨o6, c6, e6⟩ := n6.at'.2.1.shape
    have c7 := n6.at'.1.cell 0
    have HM := hide hm
    clear s6 n6 hm N4 HV4 c1 c2
    generalize (List.length _) = n5 at e6
    subst e6
    go_wp2
    go_ret2
    exact ⟨_, rfl, unhide HM⟩

end Go.Proofs.YteomehdkfhjbeaaGreat
