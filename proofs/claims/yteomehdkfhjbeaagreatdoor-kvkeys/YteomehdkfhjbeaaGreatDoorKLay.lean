/- A change, plainly, and its bytes: kv's right and Lay. -/
import Derived.Test.YteomehdkfhjbeaaGreatDoorPkD
import Derived.Test.YteomehdkfhjbeaaGreatDoorPkB
namespace Go.Proofs.YteomehdkfhjbeaaGreatDoor
open Go.RowKit

/-- A change, plainly. -/
structure Chg where
  key : ByteArray
  has : Bool
  val : List UInt8

/-- It may be laid. -/
def Chg.ok (c : Chg) : Bool := decide (0 < c.key.size) && decide (c.key.size ≤ 255) && (if c.has then decide (c.val.length ≤ 65535) else decide (c.val.length = 0))

/-- Its bytes. -/
def Chg.laid (c : Chg) : List UInt8 := if c.has then be 1 1 ++ sh c.key.data.toList ++ sh c.val else be 0 1 ++ sh c.key.data.toList

theorem Chg.laid_le (c : Chg) (h : c.ok = true) : c.laid.length ≤ 65795 := by
  unfold Chg.ok at h
  unfold Chg.laid
  have := text_length c.key
  cases hh : c.has <;> simp_all [be_length, sh_length] <;> omega

theorem ret_bool {a b : Bool} (h : a = true ↔ b = true) : Ending.returned (.bool a) = .returned (.bool b) := by rw [Bool.eq_iff_iff.2 h]

set_option maxHeartbeats 2000000 in
set_option maxRecDepth 100000 in
theorem right_any (k : ByteArray) (hs : Bool) (v : Value) (bs : List UInt8) (w : World) (h : Sees w v bs) (hk : k.size ≤ maxLen) :
    Calls Tryz.prog 53 #[.agg #[.string k, .bool hs, v]] w fun e w' => e = .returned (.bool (Chg.ok ⟨k, hs, bs⟩)) ∧ Turn (fun _ => False) w w' := by
  obtain ⟨ao, cap, rfl⟩ := h.shape
  have hl := h.len
  unfold maxLen at hl hk
  have ta : Turn (fun _ => False) w (w.alloc (.cells #[.string k, .bool hs, .slice ao bs.length cap] 37)) := (Turn.refl _ _).alloc _
  have Hta := hide ta
  generalize hn : bs.length = n at *
  clear h ta
  have e0 : Chg.ok ⟨k, hs, bs⟩ = (decide (0 < k.size) && decide (k.size ≤ 255) && (if hs then decide (n ≤ 65535) else decide (n = 0))) := by unfold Chg.ok; simp only [hn]
  rw [e0]
  clear e0 hn
  cases hs
  all_goals (
    by_cases h0 : k.size = 0
    · have z0 : ((k.size : Int) == 0) = true := by simp [h0]
      go_enter Tryz.func53, Tryz.ntmps53
      go_wp2
      go_ret
      exact ⟨ret_bool (by simp <;> omega), unhide Hta⟩
    · have z0 : ((k.size : Int) == 0) = false := by simp [h0]
      by_cases h1 : 255 < k.size
      · have z1 : (255 : Int) < k.size := by omega
        have e1 : ¬ k.size ≤ 255 := by omega
        go_enter Tryz.func53, Tryz.ntmps53
        go_wp2
        go_ret
        exact ⟨ret_bool (by simp <;> omega), unhide Hta⟩
      · have z1 : ¬ (255 : Int) < k.size := by omega
        have e1 : k.size ≤ 255 := by omega
        have e2 : 0 < k.size := by omega
        go_enter Tryz.func53, Tryz.ntmps53
        go_wp2
        go_ret
        exact ⟨ret_bool (by simp <;> omega), unhide Hta⟩)

set_option maxHeartbeats 2000000 in
set_option maxRecDepth 100000 in
theorem klay_no (k : ByteArray) (hs : Bool) (v : Value) (bs : List UInt8) (w : World) (h : Sees w v bs) (hk : k.size ≤ maxLen) (hok : Chg.ok ⟨k, hs, bs⟩ = false) :
    Calls Tryz.prog 33 #[.agg #[.string k, .bool hs, v]] w fun e w' => e = .returned (.tuple #[.slice none 0 0, .int .i64 1]) ∧ Turn (fun _ => False) w w' := by
  obtain ⟨ao, cap, rfl⟩ := h.shape
  have ta : Turn (fun _ => False) w (w.alloc (.cells #[.string k, .bool hs, .slice ao bs.length cap] 37)) := (Turn.refl _ _).alloc _
  have HR := hide (right_any k hs _ bs _ (h.kept ta (fun _ _ e => e)) hk)
  rw [hok] at HR
  have Hta := hide ta
  clear h ta
  generalize bs.length = n at *
  go_enter Tryz.func33, Tryz.ntmps33
  go_wp2_with fail
  refine (unhide HR).mono ?_
  rintro e w1 ⟨rfl, t1⟩
  have t2 := hide ((unhide Hta).trans t1)
  clear t1 HR
  go_wp2
  go_ret2
  exact ⟨rfl, unhide t2⟩

theorem laid_made {w wa w2 w4 w5 : World} {S : Nat → Prop} {v5 : Value} {x : List UInt8} (ta : Turn (fun _ => False) w wa) (t2 : Turn (fun _ => False) wa w2) (t4 : Turn S w2 w4) (hS : ∀ i, i < wa.heap.size → ¬ S i) (ho : Owns w5 v5 x) (hg : w4.grownBy w5 none) (hk : v5.ownBlock = none ∨ v5.ownBlock = some w4.heap.size) : Made w v5 x w5 := by
  have tt : Turn (fun _ => False) w w4 := ta.trans (t2.trans' t4 (fun i hi e => hS i hi e))
  refine ⟨ho, tt.grown hg (fun k e => by cases e), fun j hj => ?_⟩
  rcases hk with e | e
  · rw [e] at hj
    cases hj
  · rw [e] at hj
    injection hj with hj
    have := tt.size
    omega

set_option maxHeartbeats 4000000 in
set_option maxRecDepth 100000 in
theorem klay_yes (k : ByteArray) (hs : Bool) (v : Value) (bs : List UInt8) (w : World) (h : Sees w v bs) (hk : k.size ≤ maxLen) (hlt : 0 < bs.length → ∀ j, slab v = some j → j < w.heap.size) (hok : Chg.ok ⟨k, hs, bs⟩ = true) :
    Calls Tryz.prog 33 #[.agg #[.string k, .bool hs, v]] w fun e w' => ∃ v', e = .returned (.tuple #[v', .int .i64 0]) ∧ Made w v' (Chg.laid ⟨k, hs, bs⟩) w' := by
  obtain ⟨ao, cap, rfl⟩ := h.shape
  have ta : Turn (fun _ => False) w (w.alloc (.cells #[.string k, .bool hs, .slice ao bs.length cap] 37)) := (Turn.refl _ _).alloc _
  have hA : At 37 (w.alloc (.cells #[.string k, .bool hs, .slice ao bs.length cap] 37)) w.heap.size #[.string k, .bool hs, .slice ao bs.length cap] := At.new _ _ _
  have hv1 := h.kept ta (fun _ _ e => e)
  have HR := hide (right_any k hs _ bs _ hv1 hk)
  rw [hok] at HR
  have hks : 0 < k.size ∧ k.size ≤ 255 ∧ (hs = true → bs.length ≤ 65535) := by
    unfold Chg.ok at hok
    simp only [Bool.and_eq_true, decide_eq_true_eq] at hok
    exact ⟨hok.1.1, hok.1.2, fun e => by have := hok.2; rw [if_pos e] at this; simpa using this⟩
  obtain ⟨wa, hwa⟩ : ∃ wa, wa = w.alloc (.cells #[.string k, .bool hs, .slice ao bs.length cap] 37) := ⟨_, rfl⟩
  rw [← hwa] at ta hA hv1 HR
  have Hwa := hide hwa
  have Hta := hide ta
  have HA := hide hA
  have HV := hide hv1
  have Hlt := hide hlt
  have hn := h.len
  unfold maxLen at hn
  clear h ta hA hv1 hwa hlt hok
  generalize hbl : bs.length = n at *
  have Hbl := hide hbl
  clear hbl
  go_enter Tryz.func33, Tryz.ntmps33
  go_wp2_with fail
  rw [← unhide Hwa]
  refine (unhide HR).mono ?_
  rintro e w1 ⟨rfl, t1⟩
  have HA1 := hide ((unhide HA).kept t1 (fun e => e))
  have T1 := hide t1
  clear HR t1
  go_wp2_with fail
  refine (newWriter_any w1).mono ?_
  rintro e w2 ⟨rfl, e2⟩
  have hw2 : WAt 161 w2 w1.heap.size (.slice none 0 0) [] := by rw [e2]; exact WAt.new _ _
  have t2 : Turn (fun _ => False) w1 w2 := by rw [e2]; exact (Turn.refl _ _).alloc _
  obtain ⟨b, hb⟩ : ∃ b, b = w1.heap.size := ⟨_, rfl⟩
  rw [← hb] at hw2 ⊢
  have hA2 := (unhide HA1).kept t2 (fun e => e)
  have hbb : w.heap.size < b := by rw [hb]; exact (unhide HA1).lt
  have hwb : w.heap.size ≤ b := by omega
  have c1 : w2.cell? ⟨w.heap.size, 1, none⟩ = some (.bool hs) := hA2.cell 1
  have HA2 := hide hA2
  have T2 := hide ((unhide T1).trans t2)
  have Hle := hide (unhide T1).size
  have HB := hide hb
  have HW := hide hw2
  clear hw2 t2 e2 hA2 hb HA1 T1
  have hown0 : ∀ i, i < wa.heap.size → ¬ (i = b ∨ (Value.slice none 0 0).ownBlock = some i) := fun i hi e => e.elim (fun e => by
    have h1 := unhide HB
    have h2 := (unhide HA2).lt
    have h3 := (unhide Hle)
    omega) (fun e => by simp [Value.ownBlock] at e)
  have Hown0 := hide hown0
  clear hown0
  cases hs
  · go_wp2_with fail
    refine (u8_any b _ [] 0 w2 (unhide HW) (by simp)).mono ?_
    rintro e w3 ⟨rfl, v3, s3⟩
    have hA3 := (unhide HA2).kept s3.turn (fun e => e.elim (fun e => by omega) (fun e => by simp [Value.ownBlock] at e))
    have c0 : w3.cell? ⟨w.heap.size, 0, none⟩ = some (.string k) := hA3.cell 0
    have S3 := hide s3
    clear s3 hA3 c1
    go_wp2_with fail
    refine (text_yes b v3 k _ w3 (unhide S3).at' (by omega) (by simp [be_length]; omega)).mono ?_
    rintro e w4 ⟨rfl, v4, s4⟩
    have s34 := (unhide S3).trans s4
    have S4 := hide s34
    clear s34 s4 S3 c0
    go_wp2_with fail
    refine (bytes_any b v4 _ w4 (unhide S4).at' (by have := text_length k; simp [be_length, sh_length]; omega)).mono ?_
    rintro e w5 ⟨v5, rfl, ho, hg, hk5⟩
    have hfin : Made w v5 (Chg.laid ⟨k, false, bs⟩) w5 := laid_made (unhide Hta) (unhide T2) (unhide S4).turn (unhide Hown0) (by simpa [Chg.laid] using ho) hg hk5
    obtain ⟨o5, c5, e5⟩ := ho.shape
    have Hfin := hide hfin
    clear ho hg hk5 hfin
    generalize (List.length _) = n5 at e5
    subst e5
    go_wp2
    go_ret2
    exact ⟨_, rfl, unhide Hfin⟩
  · go_wp2_with fail
    refine (u8_any b _ [] 1 w2 (unhide HW) (by simp)).mono ?_
    rintro e w3 ⟨rfl, v3, s3⟩
    have hA3 := (unhide HA2).kept s3.turn (fun e => e.elim (fun e => by omega) (fun e => by simp [Value.ownBlock] at e))
    have c0 : w3.cell? ⟨w.heap.size, 0, none⟩ = some (.string k) := hA3.cell 0
    have S3 := hide s3
    clear s3 hA3 c1
    go_wp2_with fail
    refine (text_yes b v3 k _ w3 (unhide S3).at' (by omega) (by simp [be_length]; omega)).mono ?_
    rintro e w4 ⟨rfl, v4, s4⟩
    have s34 := (unhide S3).trans s4
    have hA4 := (unhide HA2).kept s34.turn (fun e => e.elim (fun e => by omega) (fun e => by simp [Value.ownBlock] at e))
    have c2 : w4.cell? ⟨w.heap.size, 2, none⟩ = some (.slice ao n cap) := hA4.cell 2
    have hv4 : Sees w4 (.slice ao n cap) bs := ((unhide HV).kept (unhide T2) (fun _ _ e => e)).kept' s34.turn (fun h0 j hj e => e.elim (fun e => by
      have := unhide Hlt (by rw [← unhide Hbl]; exact h0) j hj
      omega) (fun e => by simp [Value.ownBlock] at e))
    have hap : 0 < bs.length → Apart b v4 (.slice ao n cap) := fun h0 j hj => by
      have h1 := unhide Hlt (by rw [← unhide Hbl]; exact h0) j hj
      refine ⟨by omega, fun e => ?_⟩
      rcases s34.moved with hm | ⟨i, hi, hle⟩
      · rw [hm] at e; simp [Value.ownBlock] at e
      · rw [hi] at e; injection e with e; have := (unhide HA2).lt; omega
    have S4 := hide s34
    have HV4 := hide (And.intro hv4 hap)
    clear s34 s4 S3 c0 hA4 hv4 hap
    go_wp2_with fail
    refine (short_yes b v4 _ _ bs w4 (unhide S4).at' (unhide HV4).1 (unhide HV4).2 (by rw [unhide Hbl]; exact hks.2.2 (by simp)) (by have := text_length k; have := hks.2.2 (by simp); have := unhide Hbl; simp [be_length, sh_length]; omega)).mono ?_
    rintro e w6 ⟨rfl, v6, s6⟩
    have s46 := (unhide S4).trans s6
    have S6 := hide s46
    clear s46 s6 S4 c2 HV4
    go_wp2_with fail
    refine (bytes_any b v6 _ w6 (unhide S6).at' (by have := text_length k; have := hks.2.2 (by simp); have := unhide Hbl; simp [be_length, sh_length]; omega)).mono ?_
    rintro e w5 ⟨v5, rfl, ho, hg, hk5⟩
    have hfin : Made w v5 (Chg.laid ⟨k, true, bs⟩) w5 := laid_made (unhide Hta) (unhide T2) (unhide S6).turn (unhide Hown0) (by simpa [Chg.laid] using ho) hg hk5
    obtain ⟨o5, c5, e5⟩ := ho.shape
    have Hfin := hide hfin
    clear ho hg hk5 hfin
    generalize (List.length _) = n5 at e5
    subst e5
    go_wp2
    go_ret2
    exact ⟨_, rfl, unhide Hfin⟩

end Go.Proofs.YteomehdkfhjbeaaGreatDoor
