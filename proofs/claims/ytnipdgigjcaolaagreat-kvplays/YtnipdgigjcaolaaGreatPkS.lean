/- What stands below the proof, in one text. -/
import Derived.Test.YtnipdgigjcaolaaGreatPkD
import Derived.Test.YtnipdgigjcaolaaGreatPkB
import Derived.Laws.ResultCell
import Derived.Lib.UnsafeStr
import Derived.Lib.Strings
import Derived.Lib.BufferWrite
import Derived.Laws.MakeOwn
import Derived.Maps.OwnSet
import Derived.Deep.RegionHeldLaw
/- A change, plainly, and its bytes: kv's right and Lay. -/
namespace Go.Proofs.YtnipdgigjcaolaaGreat
open Go.RowKit

/-- A change, plainly. -/
structure Chg where
  key : ByteArray
  has : Bool
  val : List UInt8

/-- It may be laid. -/
def Chg.ok (c : Chg) : Bool := decide (0 < c.key.size) && decide (c.key.size ≤ 255) && (if c.has then decide (c.val.length ≤ 65535) else decide (c.val.length = 0))

/-- Its bytes. -/
def Chg.laid (c : Chg) : List UInt8 := if c.has then be 1 1 ++ sh c.key.data.toList ++ sh c.val else be 0 1 ++ sh c.key.data.toList

theorem Chg.laid_le (c : Chg) (h : c.ok = true) : c.laid.length ≤ 65795 := by
  unfold Chg.ok at h
  unfold Chg.laid
  have := text_length c.key
  cases hh : c.has <;> simp_all [be_length, sh_length] <;> omega

theorem ret_bool {a b : Bool} (h : a = true ↔ b = true) : Ending.returned (.bool a) = .returned (.bool b) := by rw [Bool.eq_iff_iff.2 h]

set_option maxHeartbeats 2000000 in
set_option maxRecDepth 100000 in
theorem right_any (k : ByteArray) (hs : Bool) (v : Value) (bs : List UInt8) (w : World) (h : Sees w v bs) (hk : k.size ≤ maxLen) :
    Calls Tryz.prog 76 #[.agg #[.string k, .bool hs, v]] w fun e w' => e = .returned (.bool (Chg.ok ⟨k, hs, bs⟩)) ∧ Turn (fun _ => False) w w' := by
  obtain ⟨ao, cap, rfl⟩ := h.shape
  have hl := h.len
  unfold maxLen at hl hk
  have ta : Turn (fun _ => False) w (w.alloc (.cells #[.string k, .bool hs, .slice ao bs.length cap] 51)) := (Turn.refl _ _).alloc _
  have Hta := hide ta
  generalize hn : bs.length = n at *
  clear h ta
  have e0 : Chg.ok ⟨k, hs, bs⟩ = (decide (0 < k.size) && decide (k.size ≤ 255) && (if hs then decide (n ≤ 65535) else decide (n = 0))) := by unfold Chg.ok; simp only [hn]
  rw [e0]
  clear e0 hn
  cases hs
  all_goals (
    by_cases h0 : k.size = 0
    · have z0 : ((k.size : Int) == 0) = true := by simp [h0]
      go_enter Tryz.func76, Tryz.ntmps76
      go_wp2
      go_ret
      exact ⟨ret_bool (by simp <;> omega), unhide Hta⟩
    · have z0 : ((k.size : Int) == 0) = false := by simp [h0]
      by_cases h1 : 255 < k.size
      · have z1 : (255 : Int) < k.size := by omega
        have e1 : ¬ k.size ≤ 255 := by omega
        go_enter Tryz.func76, Tryz.ntmps76
        go_wp2
        go_ret
        exact ⟨ret_bool (by simp <;> omega), unhide Hta⟩
      · have z1 : ¬ (255 : Int) < k.size := by omega
        have e1 : k.size ≤ 255 := by omega
        have e2 : 0 < k.size := by omega
        go_enter Tryz.func76, Tryz.ntmps76
        go_wp2
        go_ret
        exact ⟨ret_bool (by simp <;> omega), unhide Hta⟩)

set_option maxHeartbeats 2000000 in
set_option maxRecDepth 100000 in
theorem klay_no (k : ByteArray) (hs : Bool) (v : Value) (bs : List UInt8) (w : World) (h : Sees w v bs) (hk : k.size ≤ maxLen) (hok : Chg.ok ⟨k, hs, bs⟩ = false) :
    Calls Tryz.prog 29 #[.agg #[.string k, .bool hs, v]] w fun e w' => e = .returned (.tuple #[.slice none 0 0, .int .i64 1]) ∧ Turn (fun _ => False) w w' := by
  obtain ⟨ao, cap, rfl⟩ := h.shape
  have ta : Turn (fun _ => False) w (w.alloc (.cells #[.string k, .bool hs, .slice ao bs.length cap] 51)) := (Turn.refl _ _).alloc _
  have HR := hide (right_any k hs _ bs _ (h.kept ta (fun _ _ e => e)) hk)
  rw [hok] at HR
  have Hta := hide ta
  clear h ta
  generalize bs.length = n at *
  go_enter Tryz.func29, Tryz.ntmps29
  go_wp2_with fail
  refine (unhide HR).mono ?_
  rintro e w1 ⟨rfl, t1⟩
  have t2 := hide ((unhide Hta).trans t1)
  clear t1 HR
  go_wp2
  go_ret2
  exact ⟨rfl, unhide t2⟩

theorem laid_made {w wa w2 w4 w5 : World} {S : Nat → Prop} {v5 : Value} {x : List UInt8} (ta : Turn (fun _ => False) w wa) (t2 : Turn (fun _ => False) wa w2) (t4 : Turn S w2 w4) (hS : ∀ i, i < wa.heap.size → ¬ S i) (ho : Owns w5 v5 x) (hg : w4.grownBy w5 none) (hk : v5.ownBlock = none ∨ v5.ownBlock = some w4.heap.size) : Made w v5 x w5 := by
  have tt : Turn (fun _ => False) w w4 := ta.trans (t2.trans' t4 (fun i hi e => hS i hi e))
  refine ⟨ho, tt.grown hg (fun k e => by cases e), fun j hj => ?_⟩
  rcases hk with e | e
  · rw [e] at hj
    cases hj
  · rw [e] at hj
    injection hj with hj
    have := tt.size
    omega

set_option maxHeartbeats 4000000 in
set_option maxRecDepth 100000 in
theorem klay_yes (k : ByteArray) (hs : Bool) (v : Value) (bs : List UInt8) (w : World) (h : Sees w v bs) (hk : k.size ≤ maxLen) (hlt : 0 < bs.length → ∀ j, slab v = some j → j < w.heap.size) (hok : Chg.ok ⟨k, hs, bs⟩ = true) :
    Calls Tryz.prog 29 #[.agg #[.string k, .bool hs, v]] w fun e w' => ∃ v', e = .returned (.tuple #[v', .int .i64 0]) ∧ Made w v' (Chg.laid ⟨k, hs, bs⟩) w' := by
  obtain ⟨ao, cap, rfl⟩ := h.shape
  have ta : Turn (fun _ => False) w (w.alloc (.cells #[.string k, .bool hs, .slice ao bs.length cap] 51)) := (Turn.refl _ _).alloc _
  have hA : At 51 (w.alloc (.cells #[.string k, .bool hs, .slice ao bs.length cap] 51)) w.heap.size #[.string k, .bool hs, .slice ao bs.length cap] := At.new _ _ _
  have hv1 := h.kept ta (fun _ _ e => e)
  have HR := hide (right_any k hs _ bs _ hv1 hk)
  rw [hok] at HR
  have hks : 0 < k.size ∧ k.size ≤ 255 ∧ (hs = true → bs.length ≤ 65535) := by
    unfold Chg.ok at hok
    simp only [Bool.and_eq_true, decide_eq_true_eq] at hok
    exact ⟨hok.1.1, hok.1.2, fun e => by have := hok.2; rw [if_pos e] at this; simpa using this⟩
  obtain ⟨wa, hwa⟩ : ∃ wa, wa = w.alloc (.cells #[.string k, .bool hs, .slice ao bs.length cap] 51) := ⟨_, rfl⟩
  rw [← hwa] at ta hA hv1 HR
  have Hwa := hide hwa
  have Hta := hide ta
  have HA := hide hA
  have HV := hide hv1
  have Hlt := hide hlt
  have hn := h.len
  unfold maxLen at hn
  clear h ta hA hv1 hwa hlt hok
  generalize hbl : bs.length = n at *
  have Hbl := hide hbl
  clear hbl
  go_enter Tryz.func29, Tryz.ntmps29
  go_wp2_with fail
  rw [← unhide Hwa]
  refine (unhide HR).mono ?_
  rintro e w1 ⟨rfl, t1⟩
  have HA1 := hide ((unhide HA).kept t1 (fun e => e))
  have T1 := hide t1
  clear HR t1
  go_wp2_with fail
  refine (newWriter_any w1).mono ?_
  rintro e w2 ⟨rfl, e2⟩
  have hw2 : WAt 178 w2 w1.heap.size (.slice none 0 0) [] := by rw [e2]; exact WAt.new _ _
  have t2 : Turn (fun _ => False) w1 w2 := by rw [e2]; exact (Turn.refl _ _).alloc _
  obtain ⟨b, hb⟩ : ∃ b, b = w1.heap.size := ⟨_, rfl⟩
  rw [← hb] at hw2 ⊢
  have hA2 := (unhide HA1).kept t2 (fun e => e)
  have hbb : w.heap.size < b := by rw [hb]; exact (unhide HA1).lt
  have hwb : w.heap.size ≤ b := by omega
  have c1 : w2.cell? ⟨w.heap.size, 1, none⟩ = some (.bool hs) := hA2.cell 1
  have HA2 := hide hA2
  have T2 := hide ((unhide T1).trans t2)
  have Hle := hide (unhide T1).size
  have HB := hide hb
  have HW := hide hw2
  clear hw2 t2 e2 hA2 hb HA1 T1
  have hown0 : ∀ i, i < wa.heap.size → ¬ (i = b ∨ (Value.slice none 0 0).ownBlock = some i) := fun i hi e => e.elim (fun e => by
    have h1 := unhide HB
    have h2 := (unhide HA2).lt
    have h3 := (unhide Hle)
    omega) (fun e => by simp [Value.ownBlock] at e)
  have Hown0 := hide hown0
  clear hown0
  cases hs
  · go_wp2_with fail
    refine (u8_any b _ [] 0 w2 (unhide HW) (by simp)).mono ?_
    rintro e w3 ⟨rfl, v3, s3⟩
    have hA3 := (unhide HA2).kept s3.turn (fun e => e.elim (fun e => by omega) (fun e => by simp [Value.ownBlock] at e))
    have c0 : w3.cell? ⟨w.heap.size, 0, none⟩ = some (.string k) := hA3.cell 0
    have S3 := hide s3
    clear s3 hA3 c1
    go_wp2_with fail
    refine (text_yes b v3 k _ w3 (unhide S3).at' (by omega) (by simp [be_length]; omega)).mono ?_
    rintro e w4 ⟨rfl, v4, s4⟩
    have s34 := (unhide S3).trans s4
    have S4 := hide s34
    clear s34 s4 S3 c0
    go_wp2_with fail
    refine (bytes_any b v4 _ w4 (unhide S4).at' (by have := text_length k; simp [be_length, sh_length]; omega)).mono ?_
    rintro e w5 ⟨v5, rfl, ho, hg, hk5⟩
    have hfin : Made w v5 (Chg.laid ⟨k, false, bs⟩) w5 := laid_made (unhide Hta) (unhide T2) (unhide S4).turn (unhide Hown0) (by simpa [Chg.laid] using ho) hg hk5
    obtain ⟨o5, c5, e5⟩ := ho.shape
    have Hfin := hide hfin
    clear ho hg hk5 hfin
    generalize (List.length _) = n5 at e5
    subst e5
    go_wp2
    go_ret2
    exact ⟨_, rfl, unhide Hfin⟩
  · go_wp2_with fail
    refine (u8_any b _ [] 1 w2 (unhide HW) (by simp)).mono ?_
    rintro e w3 ⟨rfl, v3, s3⟩
    have hA3 := (unhide HA2).kept s3.turn (fun e => e.elim (fun e => by omega) (fun e => by simp [Value.ownBlock] at e))
    have c0 : w3.cell? ⟨w.heap.size, 0, none⟩ = some (.string k) := hA3.cell 0
    have S3 := hide s3
    clear s3 hA3 c1
    go_wp2_with fail
    refine (text_yes b v3 k _ w3 (unhide S3).at' (by omega) (by simp [be_length]; omega)).mono ?_
    rintro e w4 ⟨rfl, v4, s4⟩
    have s34 := (unhide S3).trans s4
    have hA4 := (unhide HA2).kept s34.turn (fun e => e.elim (fun e => by omega) (fun e => by simp [Value.ownBlock] at e))
    have c2 : w4.cell? ⟨w.heap.size, 2, none⟩ = some (.slice ao n cap) := hA4.cell 2
    have hv4 : Sees w4 (.slice ao n cap) bs := ((unhide HV).kept (unhide T2) (fun _ _ e => e)).kept' s34.turn (fun h0 j hj e => e.elim (fun e => by
      have := unhide Hlt (by rw [← unhide Hbl]; exact h0) j hj
      omega) (fun e => by simp [Value.ownBlock] at e))
    have hap : 0 < bs.length → Apart b v4 (.slice ao n cap) := fun h0 j hj => by
      have h1 := unhide Hlt (by rw [← unhide Hbl]; exact h0) j hj
      refine ⟨by omega, fun e => ?_⟩
      rcases s34.moved with hm | ⟨i, hi, hle⟩
      · rw [hm] at e; simp [Value.ownBlock] at e
      · rw [hi] at e; injection e with e; have := (unhide HA2).lt; omega
    have S4 := hide s34
    have HV4 := hide (And.intro hv4 hap)
    clear s34 s4 S3 c0 hA4 hv4 hap
    go_wp2_with fail
    refine (short_yes b v4 _ _ bs w4 (unhide S4).at' (unhide HV4).1 (unhide HV4).2 (by rw [unhide Hbl]; exact hks.2.2 (by simp)) (by have := text_length k; have := hks.2.2 (by simp); have := unhide Hbl; simp [be_length, sh_length]; omega)).mono ?_
    rintro e w6 ⟨rfl, v6, s6⟩
    have s46 := (unhide S4).trans s6
    have S6 := hide s46
    clear s46 s6 S4 c2 HV4
    go_wp2_with fail
    refine (bytes_any b v6 _ w6 (unhide S6).at' (by have := text_length k; have := hks.2.2 (by simp); have := unhide Hbl; simp [be_length, sh_length]; omega)).mono ?_
    rintro e w5 ⟨v5, rfl, ho, hg, hk5⟩
    have hfin : Made w v5 (Chg.laid ⟨k, true, bs⟩) w5 := laid_made (unhide Hta) (unhide T2) (unhide S6).turn (unhide Hown0) (by simpa [Chg.laid] using ho) hg hk5
    obtain ⟨o5, c5, e5⟩ := ho.shape
    have Hfin := hide hfin
    clear ho hg hk5 hfin
    generalize (List.length _) = n5 at e5
    subst e5
    go_wp2
    go_ret2
    exact ⟨_, rfl, unhide Hfin⟩

end Go.Proofs.YtnipdgigjcaolaaGreat

/- A change read back: bytes.Equal and kv.Read. -/
namespace Go.Proofs.YtnipdgigjcaolaaGreat
open Go.RowKit

/-- What Read takes, ahead of its test. -/
def takenC (bs : List UInt8) : Chg :=
  if num ((St.mk bs false).take 1).1 = 1 then ⟨⟨((St.mk bs false).take 1).2.short.1.toArray⟩, true, ((St.mk bs false).take 1).2.short.2.short.1⟩
  else ⟨⟨((St.mk bs false).take 1).2.short.1.toArray⟩, false, []⟩

/-- The change that was laid as these bytes. -/
def readC (bs : List UInt8) : Option Chg := if (takenC bs).ok = true ∧ (takenC bs).laid = bs then some (takenC bs) else none

theorem bytes_of (s : ByteArray) : (⟨s.data.toList.toArray⟩ : ByteArray) = s := by cases s; simp

theorem take_front (P Y : List UInt8) (l : Bool) (n : Nat) (h : P.length = n) : (St.mk (P ++ Y) l).take n = (P, ⟨Y, l⟩) := St.take_all P Y l n (by omega)

theorem taken_laid (c : Chg) (h : c.ok = true) : takenC c.laid = c := by
  obtain ⟨k, hs, v⟩ := c
  unfold Chg.ok at h
  simp only [Bool.and_eq_true, decide_eq_true_eq] at h
  obtain ⟨⟨h1, h2⟩, h3⟩ := h
  have hk := text_length k
  cases hs
  · have e : v = [] := by simpa using h3
    subst e
    unfold takenC Chg.laid
    have e1 : (St.mk (be 0 1 ++ sh k.data.toList) false).take 1 = (be 0 1, ⟨sh k.data.toList, false⟩) := St.take_all _ _ _ _ (by simp [be_length])
    have e2 : (St.mk (sh k.data.toList) false).short = (k.data.toList, ⟨[], false⟩) := laid4 _ (by omega)
    simp only [Bool.false_eq_true, if_false, e1, num_be1, e2, bytes_of]
    rfl
  · have h3' : v.length ≤ 65535 := by simpa using h3
    unfold takenC Chg.laid
    have e1 : (St.mk (be 1 1 ++ sh k.data.toList ++ sh v) false).take 1 = (be 1 1, ⟨sh k.data.toList ++ sh v, false⟩) := by
      rw [List.append_assoc]
      exact St.take_all _ _ _ _ (by simp [be_length])
    have e2 : (St.mk (sh k.data.toList ++ sh v) false).short = (k.data.toList, ⟨sh v, false⟩) := St.short_all _ _ _ (by omega)
    have e3 : (St.mk (sh v) false).short = (v, ⟨[], false⟩) := laid4 _ h3'
    simp only [if_true, e1, num_be1, e2, e3, bytes_of]
    rfl

theorem readC_laid (c : Chg) (h : c.ok = true) : readC c.laid = some c := by
  unfold readC
  rw [taken_laid c h, if_pos ⟨h, rfl⟩]

theorem readC_some {bs : List UInt8} {c : Chg} (h : readC bs = some c) : c.ok = true ∧ c.laid = bs := by
  unfold readC at h
  split at h
  · rename_i h1
    injection h with h
    subst h
    exact h1
  · cases h

set_option maxHeartbeats 400000 in
theorem equal_any (a b : Value) (x y : List UInt8) (w : World) (ha : Sees w a x) (hb : Sees w b y) :
    Calls Tryz.prog 86 #[a, b] w fun e w' => e = .returned (.bool (decide (x = y))) ∧ w = w' := by
  have h1 := run_text_of_sees (P := Tryz.prog) w 29 9 Tryz.underlying29 Tryz.underlying5 Tryz.underlying9 ha
  have h2 := run_text_of_sees (P := Tryz.prog) w 29 9 Tryz.underlying29 Tryz.underlying5 Tryz.underlying9 hb
  obtain ⟨ao, ac, rfl⟩ := ha.shape
  obtain ⟨bo, bc, rfl⟩ := hb.shape
  clear ha hb
  generalize x.length = n at *
  generalize y.length = m at *
  go_enter Tryz.func86, Tryz.ntmps86
  go_wp2
  go_ret
  exact ⟨ret_bool (by simp), rfl⟩

/-- A change in the caller's memory. -/
theorem made_lt {w w' : World} {v : Value} {bs : List UInt8} (h : Made w v bs w') : ∀ j, slab v = some j → w.heap.size ≤ j ∧ j < w'.heap.size := fun j hj => by
  have h1 : v.ownBlock = some j := by rw [← h.1.slab_eq]; exact hj
  exact ⟨h.2.2 j h1, h.1.lt h1⟩

theorem results_cell2 {P : Program} {fn : Func} {p u : Tmp} {ty : TypeId} (h : fn.results = #[.cell p ty, .tmp u]) (tmps : Array Value) (w : World) (g : Nat) (t : TypeId) (cs : Array Value) (fr : Nat × Nat) (d : TypeDesc)
    (hp : tmps.getD p undef = .pointer (some ⟨g, 0, none⟩)) (hg : w.heap[g]? = some (.cells cs t fr))
    (hu : P.underlying ty = some d) (hd : (match d with | .struct _ | .array _ _ => true | _ => false) = true) (hi : (P.info? ty).map (·.size) = some cs.size) :
    (results fn tmps).run P w = .ok (.tuple #[.agg cs, tmps.getD u undef]) w := by
  rw [results_cell_tmp h, hp]
  simp [asAddr, run_loadVar_row w g t ty cs fr d hg hu hd hi, Result.andThen]

/-- What Read comes to. -/
def KRd (w : World) (r : Option Chg) (e : Ending) (w' : World) : Prop :=
  Turn (fun _ => False) w w' ∧ match r with
  | none => e = .returned (.tuple #[.agg #[.string ⟨#[]⟩, .bool false, .slice none 0 0], .int .i64 5])
  | some c => ∃ v, e = .returned (.tuple #[.agg #[.string c.key, .bool c.has, v], .int .i64 0]) ∧ Sees w' v c.val ∧ ∀ j, slab v = some j → w.heap.size ≤ j ∧ j < w'.heap.size

set_option maxHeartbeats 4000000 in
set_option maxRecDepth 100000 in
theorem kread_any (v : Value) (bs : List UInt8) (w : World) (h : Sees w v bs) (hb : bs.length ≤ 140737488355328) (hlt : 0 < bs.length → ∀ j, slab v = some j → j < w.heap.size) :
    Calls Tryz.prog 30 #[v] w (KRd w (readC bs)) := by
  obtain ⟨vo, vc, rfl⟩ := h.shape
  have H := hide h
  have Hlt := hide hlt
  obtain ⟨n, hn⟩ : ∃ n, n = bs.length := ⟨_, rfl⟩
  have HN := hide hn
  rw [← hn] at H Hlt hb ⊢
  obtain ⟨wa, hwa⟩ : ∃ wa, wa = w.alloc (.cells #[.string ⟨#[]⟩, .bool false, .slice none 0 0] 51) := ⟨_, rfl⟩
  have ta : Turn (fun _ => False) w wa := by rw [hwa]; exact (Turn.refl _ _).alloc _
  have hA : At 51 wa w.heap.size #[.string ⟨#[]⟩, .bool false, .slice none 0 0] := by rw [hwa]; exact At.new _ _ _
  have Hwa := hide hwa
  have HA := hide hA
  have Hta := hide ta
  have hsa := h.kept ta (fun _ _ e => e)
  have Hsa := hide hsa
  rw [← hn] at Hsa
  clear h hlt hn hwa hA ta hsa
  go_enter Tryz.func30, Tryz.ntmps30
  go_wp2_with fail
  rw [← unhide Hwa]
  refine (newReader_any _ bs wa (unhide Hsa) (by have := unhide HN; omega)).mono ?_
  rintro e w1 ⟨b, rfl, v1, hR1, hb1, hs1, t1⟩
  have HT1 := hide t1
  have Hb := hide hb1
  have Hs := hide hs1
  have HR := hide hR1
  clear hR1 t1 hb1 hs1
  go_wp2_with fail
  refine (ru8_any b v1 _ w1 (unhide HR)).mono ?_
  rintro e w2 ⟨rfl, v2, s2⟩
  have hsl2 : ∀ j, slab v2 = some j → slab v1 = some j := s2.slab
  obtain ⟨a, ha⟩ : ∃ a, a = (St.mk bs false).take 1 := ⟨_, rfl⟩
  rw [← ha] at s2 ⊢
  have Ha := hide ha
  have S2 := hide s2
  clear ha s2 HR
  have hAw := (unhide HA).lt
  have hbw := unhide Hb
  have hw12 := (unhide S2).turn.size
  have hb2 := (unhide S2).at'.1.lt
  have hs2 : ∀ j, slab v2 = some j → wa.heap.size ≤ j ∧ j < w1.heap.size := fun j hj => unhide Hs j (hsl2 j hj)
  have Hs2 := hide hs2
  have T2 : Hid (Turn (fun _ => False) w w2) := hide (((unhide Hta).trans (unhide HT1)).trans' (unhide S2).turn (fun i hi e => by omega))
  have hA2 := ((unhide HA).kept (unhide HT1) (fun e => e)).kept (unhide S2).turn (fun e => by omega)
  have HA2 := hide hA2
  clear hA2 hs2 hsl2 HA HT1 Hta Hs Hwa Hsa
  by_cases hq : num a.1 = 1
  · have q1 : (num a.1 == 1) = true := by simp [hq]
    have htk : takenC bs = ⟨⟨a.2.short.1.toArray⟩, true, a.2.short.2.short.1⟩ := by unfold takenC; rw [← unhide Ha, if_pos hq]
    have Htk := hide htk
    clear htk hq
    obtain ⟨w3, hw3⟩ : ∃ w3, w3 = w2.alloc (.cells #[.string ⟨#[]⟩, .bool true, .slice none 0 0] 51) := ⟨_, rfl⟩
    have t3 : Turn (fun _ => False) w2 w3 := by rw [hw3]; exact (Turn.refl _ _).alloc _
    obtain ⟨c, hc⟩ : ∃ c, c = w2.heap.size := ⟨_, rfl⟩
    have hA3 : At 51 w3 c #[.string ⟨#[]⟩, .bool true, .slice none 0 0] := by rw [hw3, hc]; exact At.new _ _ _
    have Hw3 := hide hw3
    have Hc := hide hc
    have hR3 := (unhide S2).at'.kept t3 (fun e => e) (fun _ _ e => e)
    have T3 := hide ((unhide T2).trans t3)
    have HA3 := hide hA3
    have HAr := hide ((unhide HA2).kept t3 (fun e => e))
    have hcc : b < c ∧ w1.heap.size ≤ c ∧ w.heap.size < c ∧ wa.heap.size ≤ c := by omega
    clear hw3 t3 hA3 S2 T2 HA2 hc
    go_wp2_with fail
    rw [← unhide Hw3, ← unhide Hc]
    refine (rtext_any b v2 a.2 w3 hR3).mono ?_
    rintro e w4 ⟨rfl, v4, s4⟩
    have Hkl : Hid (a.2.short.2.bs.length ≤ bs.length) := hide (by
      have h1 := a.2.take_rest 2
      have h2 := (a.2.take 2).2.take_rest (num (a.2.take 2).1)
      have h3 := (St.mk bs false).take_rest 1
      rw [← unhide Ha] at h3
      unfold St.short
      simp only at h3
      omega)
    have Hk1 : Hid (a.2.short.1.length ≤ bs.length) := hide (by
      have h1 := (a.2.take 2).2.take_le (num (a.2.take 2).1)
      have h2 := a.2.take_rest 2
      have h3 := (St.mk bs false).take_rest 1
      rw [← unhide Ha] at h3
      unfold St.short
      simp only at h3
      omega)
    generalize a.2.short = k at *
    have hA4 := (unhide HA3).kept s4.turn (fun e => by omega)
    have f0 := hA4.frozen 0
    obtain ⟨w5, hw5⟩ : ∃ w5, w5 = w4.setCell ⟨c, 0, none⟩ (.string ⟨k.1.toArray⟩) := ⟨_, rfl⟩
    have t5 : Turn (fun i => i = c) w4 w5 := by rw [hw5]; exact (Turn.refl (fun i => i = c) w4).setCell (p := ⟨c, 0, none⟩) (.inl rfl) _
    have hA5 : At 51 w5 c #[.string ⟨k.1.toArray⟩, .bool true, .slice none 0 0] := by rw [hw5]; simpa using hA4.set 0 (.string ⟨k.1.toArray⟩)
    have hR5 := s4.at'.kept t5 (fun e => by omega) (fun j hj e => by have := unhide Hs2 j (s4.slab j hj); omega)
    have hA5r := ((unhide HAr).kept s4.turn (fun e => by omega)).kept t5 (fun e => by omega)
    have c5 : w4.cell? ⟨c, 0, none⟩ = some (.string ⟨#[]⟩) := hA4.cell 0
    have c51 : w4.cell? ⟨c, 1, none⟩ = some (.bool true) := hA4.cell 1
    have T5 := hide (((unhide T3).trans' s4.turn (fun i hi e => by omega)).trans' t5 (fun i hi e => by omega))
    have Hw5 := hide hw5
    have HA5 := hide hA5
    have HA5r := hide hA5r
    have Hsl4 : Hid (∀ j, slab v4 = some j → slab v2 = some j) := hide s4.slab
    have hw45 : b < w5.heap.size := hR5.1.lt
    have hc5 : c < w5.heap.size := hA5.lt
    have HS := hide (rshort_any b v4 k.2 w5 hR5 (by have := unhide Hkl; have := unhide HN; omega))
    clear hw5 t5 hA4 hA5 hA5r hR5 s4 HA3 HAr T3 Hw3 Hc
    go_wp2_with fail
    rw [← unhide Hw5]
    refine (unhide HS).mono ?_
    rintro e w6 ⟨v6, rfl, ho6, hn6, v7, s6⟩
    have hA6 := (unhide HA5).kept s6.turn (fun e => by omega)
    have f2 := hA6.frozen 2
    have hvc : ∀ j, v6.ownBlock = some j → c < j ∧ j < w6.heap.size := fun j hj => ⟨by have := hn6 j hj; omega, ho6.lt hj⟩
    obtain ⟨w7, hw7⟩ : ∃ w7, w7 = w6.setCell ⟨c, 2, none⟩ v6 := ⟨_, rfl⟩
    have t7 : Turn (fun i => i = c) w6 w7 := by rw [hw7]; exact (Turn.refl (fun i => i = c) w6).setCell (p := ⟨c, 2, none⟩) (.inl rfl) _
    have hA7 : At 51 w7 c #[.string ⟨k.1.toArray⟩, .bool true, v6] := by rw [hw7]; simpa using hA6.set 2 v6
    have ho7 := ho6.kept t7 (fun j hj e => by have := hvc j hj; omega)
    have hA7r := ((unhide HA5r).kept s6.turn (fun e => by omega)).kept t7 (fun e => by omega)
    have t27 := ((unhide T5).trans' s6.turn (fun i hi e => by omega)).trans' t7 (fun i hi e => by omega)
    have hs7 : Sees w7 (.slice vo n vc) bs := (unhide H).kept t27 (fun _ _ e => e)
    have hv7 : ∀ j, slab v6 = some j → w.heap.size < j ∧ j < w7.heap.size := fun j hj => by
      rw [ho6.slab_eq] at hj
      have := hvc j hj
      have := t7.size
      omega
    obtain ⟨o6, c6, e6⟩ := ho7.shape
    have c70 : w6.cell? ⟨c, 0, none⟩ = some (.string ⟨k.1.toArray⟩) := hA6.cell 0
    have c71 : w6.cell? ⟨c, 1, none⟩ = some (.bool true) := hA6.cell 1
    have c72 : w6.cell? ⟨c, 2, none⟩ = some (.slice none 0 0) := hA6.cell 2
    have Hw7 := hide hw7
    have HA7 := hide (And.intro hA7 (And.intro ho7 (And.intro hA7r (And.intro t27 (And.intro hs7 hv7)))))
    clear hw7 t7 hA7 ho7 hA7r t27 hs7 hv7 hvc hA6 s6 HS HA5 HA5r T5 Hw5 ho6 hn6 c5 c51 f0
    rw [e6] at HA7 Hw7 ⊢
    have hkm : (⟨k.1.toArray⟩ : ByteArray).size ≤ maxLen := by
      have h1 := unhide Hk1
      have h2 := unhide HN
      have e : (⟨k.1.toArray⟩ : ByteArray).size = k.1.length := by simp [ByteArray.size]
      unfold maxLen
      omega
    have HLay : Hid (if (takenC bs).ok = true then Calls Tryz.prog 29 #[.agg #[.string ⟨k.1.toArray⟩, .bool true, .slice o6 k.2.short.1.length c6]] w7 fun e w' => ∃ v', e = .returned (.tuple #[v', .int .i64 0]) ∧ Made w7 v' (takenC bs).laid w'
        else Calls Tryz.prog 29 #[.agg #[.string ⟨k.1.toArray⟩, .bool true, .slice o6 k.2.short.1.length c6]] w7 fun e w' => e = .returned (.tuple #[.slice none 0 0, .int .i64 1]) ∧ Turn (fun _ => False) w7 w') := by
      obtain ⟨a1, a2, a3, a4, a5, a6⟩ := unhide HA7
      refine hide ?_
      rw [unhide Htk]
      split
      · rename_i hok
        exact klay_yes _ _ _ _ w7 a2.sees hkm (fun h0 j hj => (a6 j hj).2) hok
      · rename_i hok
        exact klay_no _ _ _ _ w7 a2.sees hkm (by simpa using hok)
    have HTk2 : Hid (∃ c : Chg, takenC bs = c ∧ c.key = ⟨k.1.toArray⟩ ∧ c.has = true ∧ c.val = k.2.short.1) := hide ⟨_, unhide Htk, rfl, rfl, rfl⟩
    clear hkm
    generalize hlen6 : k.2.short.1.length = n6 at *
    have Hlen6 := hide hlen6
    clear hlen6
    by_cases hok : (takenC bs).ok = true
    · have HL1 := unhide HLay
      rw [if_pos hok] at HL1
      have HL := hide HL1
      clear HL1 HLay
      go_wp2_with fail
      rw [← unhide Hw7]
      refine (unhide HL).mono ?_
      rintro e w8 ⟨v8, rfl, hm8⟩
      obtain ⟨a1, a2, a3, a4, a5, a6⟩ := unhide HA7
      have hsb := a5.kept hm8.2.1 (fun _ _ e => e)
      have hr8 := a3.kept hm8.2.1 (fun e => e)
      have HE := hide (equal_any _ _ _ _ w8 hm8.1.sees hsb)
      have c80 : w8.cell? ⟨c, 0, none⟩ = some (.string ⟨k.1.toArray⟩) := (a1.kept hm8.2.1 (fun e => e)).cell 0
      have c81 : w8.cell? ⟨c, 1, none⟩ = some (.bool true) := (a1.kept hm8.2.1 (fun e => e)).cell 1
      have c82 : w8.cell? ⟨c, 2, none⟩ = some (.slice o6 n6 c6) := (a1.kept hm8.2.1 (fun e => e)).cell 2
      have g0 : w8.cell? ⟨w.heap.size, 0, none⟩ = some (.string ⟨#[]⟩) := hr8.cell 0
      have g1 : w8.cell? ⟨w.heap.size, 1, none⟩ = some (.bool false) := hr8.cell 1
      have g2 : w8.cell? ⟨w.heap.size, 2, none⟩ = some (.slice none 0 0) := hr8.cell 2
      have z0 := hr8.frozen 0
      have z1 := hr8.frozen 1
      have z2 := hr8.frozen 2
      have ht8 := a4.trans hm8.2.1
      have hv8 : Sees w8 (.slice o6 n6 c6) k.2.short.1 := (a2.sees).kept hm8.2.1 (fun _ _ e => e)
      have hl8 : ∀ j, slab (.slice o6 n6 c6) = some j → w.heap.size < j ∧ j < w8.heap.size := fun j hj => ⟨(a6 j hj).1, Nat.lt_of_lt_of_le (a6 j hj).2 hm8.2.1.size⟩
      have Hfin := hide (And.intro hr8 (And.intro ht8 (And.intro hv8 hl8)))
      obtain ⟨o8, c8, e8⟩ := hm8.1.shape
      have hdec : decide ((takenC bs).laid = bs) = true ∨ decide ((takenC bs).laid = bs) = false := by cases decide ((takenC bs).laid = bs) <;> simp
      have hrd : readC bs = if (takenC bs).laid = bs then some (takenC bs) else none := by unfold readC; simp [hok]
      have Hrd := hide hrd
      generalize (takenC bs).laid = lb at *
      generalize lb.length = n8 at *
      subst e8
      clear hm8 hsb hr8 a1 a2 a3 a4 a5 a6 ht8 hv8 hl8 hrd HL HA7 Hw7 c70 c71 c72 f2
      rcases hdec with hd | hd
      · rw [hd] at HE
        have hres : readC bs = some (takenC bs) := by rw [unhide Hrd, if_pos (by simpa using hd)]
        have Hres := hide hres
        clear hd hres
        go_wp2_with fail
        refine (unhide HE).mono ?_
        rintro e w9 ⟨rfl, rfl⟩
        clear HE
        go_wp2
        obtain ⟨b1, b2, b3, b4⟩ := unhide Hfin
        obtain ⟨d, d1, d2, d3, d4⟩ := unhide HTk2
        refine bodyPost_ret (results_cell2 rfl _ _ w.heap.size 51 _ (0, 0) _ rfl (((b1.set 0 _).set 1 _).set 2 _) Tryz.underlying51 rfl (by kernel_rfl)) rfl ?_
        have tset : ∀ u0 u1 u2, Turn (fun i => i = w.heap.size) w8 (((w8.setCell ⟨w.heap.size, 0, none⟩ u0).setCell ⟨w.heap.size, 1, none⟩ u1).setCell ⟨w.heap.size, 2, none⟩ u2) := fun u0 u1 u2 => (((Turn.refl (fun i => i = w.heap.size) w8).setCell (p := ⟨w.heap.size, 0, none⟩) (.inl rfl) u0).setCell (p := ⟨w.heap.size, 1, none⟩) (.inl rfl) u1).setCell (p := ⟨w.heap.size, 2, none⟩) (.inl rfl) u2
        refine ⟨b2.trans' (tset _ _ _) (fun i hi e => by omega), ?_⟩
        rw [unhide Hres, d1]
        refine ⟨_, by rw [d2, d3]; rfl, ?_, fun j hj => ?_⟩
        · rw [d4]
          exact b3.kept (tset _ _ _) (fun j hj e => by have := b4 j hj; omega)
        · have := b4 j hj
          have := (tset (.string ⟨k.1.toArray⟩) (.bool true) (.slice o6 n6 c6)).size
          exact ⟨by omega, by omega⟩
      · rw [hd] at HE
        have hres : readC bs = none := by rw [unhide Hrd, if_neg (by simpa using hd)]
        have Hres := hide hres
        clear hd hres
        go_wp2_with fail
        refine (unhide HE).mono ?_
        rintro e w9 ⟨rfl, rfl⟩
        clear HE
        go_wp2
        obtain ⟨b1, b2, b3, b4⟩ := unhide Hfin
        refine bodyPost_ret (results_cell2 rfl _ _ w.heap.size 51 _ (0, 0) _ rfl (((b1.set 0 _).set 1 _).set 2 _) Tryz.underlying51 rfl (by kernel_rfl)) rfl ?_
        have tset : ∀ u0 u1 u2, Turn (fun i => i = w.heap.size) w8 (((w8.setCell ⟨w.heap.size, 0, none⟩ u0).setCell ⟨w.heap.size, 1, none⟩ u1).setCell ⟨w.heap.size, 2, none⟩ u2) := fun u0 u1 u2 => (((Turn.refl (fun i => i = w.heap.size) w8).setCell (p := ⟨w.heap.size, 0, none⟩) (.inl rfl) u0).setCell (p := ⟨w.heap.size, 1, none⟩) (.inl rfl) u1).setCell (p := ⟨w.heap.size, 2, none⟩) (.inl rfl) u2
        refine ⟨b2.trans' (tset _ _ _) (fun i hi e => by omega), ?_⟩
        rw [unhide Hres]
        rfl
    · have HL1 := unhide HLay
      rw [if_neg hok] at HL1
      have HL := hide HL1
      have hres : readC bs = none := by unfold readC; simp [hok]
      have Hres := hide hres
      clear HL1 HLay hres hok
      go_wp2_with fail
      rw [← unhide Hw7]
      refine (unhide HL).mono ?_
      rintro e w8 ⟨rfl, t8⟩
      obtain ⟨a1, a2, a3, a4, a5, a6⟩ := unhide HA7
      have hr8 := a3.kept t8 (fun e => e)
      have g0 : w8.cell? ⟨w.heap.size, 0, none⟩ = some (.string ⟨#[]⟩) := hr8.cell 0
      have g1 : w8.cell? ⟨w.heap.size, 1, none⟩ = some (.bool false) := hr8.cell 1
      have g2 : w8.cell? ⟨w.heap.size, 2, none⟩ = some (.slice none 0 0) := hr8.cell 2
      have z0 := hr8.frozen 0
      have z1 := hr8.frozen 1
      have z2 := hr8.frozen 2
      have Hfin := hide (And.intro hr8 (a4.trans t8))
      clear hr8 a1 a2 a3 a4 a5 a6 t8 HL HA7 Hw7 c70 c71 c72 f2
      go_wp2
      obtain ⟨b1, b2⟩ := unhide Hfin
      refine bodyPost_ret (results_cell2 rfl _ _ w.heap.size 51 _ (0, 0) _ rfl (((b1.set 0 _).set 1 _).set 2 _) Tryz.underlying51 rfl (by kernel_rfl)) rfl ?_
      have tset : ∀ u0 u1 u2, Turn (fun i => i = w.heap.size) w8 (((w8.setCell ⟨w.heap.size, 0, none⟩ u0).setCell ⟨w.heap.size, 1, none⟩ u1).setCell ⟨w.heap.size, 2, none⟩ u2) := fun u0 u1 u2 => (((Turn.refl (fun i => i = w.heap.size) w8).setCell (p := ⟨w.heap.size, 0, none⟩) (.inl rfl) u0).setCell (p := ⟨w.heap.size, 1, none⟩) (.inl rfl) u1).setCell (p := ⟨w.heap.size, 2, none⟩) (.inl rfl) u2
      refine ⟨b2.trans' (tset _ _ _) (fun i hi e => by omega), ?_⟩
      rw [unhide Hres]
      rfl
  · have q1 : (num a.1 == 1) = false := by simp [hq]
    have htk : takenC bs = ⟨⟨a.2.short.1.toArray⟩, false, []⟩ := by unfold takenC; rw [← unhide Ha, if_neg hq]
    have Htk := hide htk
    clear htk hq
    obtain ⟨w3, hw3⟩ : ∃ w3, w3 = w2.alloc (.cells #[.string ⟨#[]⟩, .bool false, .slice none 0 0] 51) := ⟨_, rfl⟩
    have t3 : Turn (fun _ => False) w2 w3 := by rw [hw3]; exact (Turn.refl _ _).alloc _
    obtain ⟨c, hc⟩ : ∃ c, c = w2.heap.size := ⟨_, rfl⟩
    have hA3 : At 51 w3 c #[.string ⟨#[]⟩, .bool false, .slice none 0 0] := by rw [hw3, hc]; exact At.new _ _ _
    have Hw3 := hide hw3
    have Hc := hide hc
    have hR3 := (unhide S2).at'.kept t3 (fun e => e) (fun _ _ e => e)
    have T3 := hide ((unhide T2).trans t3)
    have HA3 := hide hA3
    have HAr := hide ((unhide HA2).kept t3 (fun e => e))
    have hcc : b < c ∧ w1.heap.size ≤ c ∧ w.heap.size < c ∧ wa.heap.size ≤ c := by omega
    clear hw3 t3 hA3 S2 T2 HA2 hc
    go_wp2_with fail
    rw [← unhide Hw3, ← unhide Hc]
    refine (rtext_any b v2 a.2 w3 hR3).mono ?_
    rintro e w4 ⟨rfl, v4, s4⟩
    have Hk1 : Hid (a.2.short.1.length ≤ bs.length) := hide (by
      have h1 := (a.2.take 2).2.take_le (num (a.2.take 2).1)
      have h2 := a.2.take_rest 2
      have h3 := (St.mk bs false).take_rest 1
      rw [← unhide Ha] at h3
      unfold St.short
      simp only at h3
      omega)
    generalize a.2.short = k at *
    have hA4 := (unhide HA3).kept s4.turn (fun e => by omega)
    have f0 := hA4.frozen 0
    obtain ⟨w7, hw7⟩ : ∃ w7, w7 = w4.setCell ⟨c, 0, none⟩ (.string ⟨k.1.toArray⟩) := ⟨_, rfl⟩
    have t7 : Turn (fun i => i = c) w4 w7 := by rw [hw7]; exact (Turn.refl (fun i => i = c) w4).setCell (p := ⟨c, 0, none⟩) (.inl rfl) _
    have hA7 : At 51 w7 c #[.string ⟨k.1.toArray⟩, .bool false, .slice none 0 0] := by rw [hw7]; simpa using hA4.set 0 (.string ⟨k.1.toArray⟩)
    have hA7r := ((unhide HAr).kept s4.turn (fun e => by omega)).kept t7 (fun e => by omega)
    have t27 := ((unhide T3).trans' s4.turn (fun i hi e => by omega)).trans' t7 (fun i hi e => by omega)
    have hs7 : Sees w7 (.slice vo n vc) bs := (unhide H).kept t27 (fun _ _ e => e)
    have hv7 : ∀ j, slab (.slice none 0 0) = some j → w.heap.size < j ∧ j < w7.heap.size := fun j hj => by simp [slab] at hj
    have c70 : w4.cell? ⟨c, 0, none⟩ = some (.string ⟨#[]⟩) := hA4.cell 0
    have c71 : w4.cell? ⟨c, 1, none⟩ = some (.bool false) := hA4.cell 1
    have c72 : w4.cell? ⟨c, 2, none⟩ = some (.slice none 0 0) := hA4.cell 2
    have Hw7 := hide hw7
    have HA7 := hide (And.intro hA7 (And.intro (Sees.nil w7) (And.intro hA7r (And.intro t27 (And.intro hs7 hv7)))))
    clear hw7 t7 hA7 hA7r t27 hs7 hv7 hA4 s4 HA3 HAr T3 Hw3 Hc
    have hkm : (⟨k.1.toArray⟩ : ByteArray).size ≤ maxLen := by
      have h1 := unhide Hk1
      have h2 := unhide HN
      have e : (⟨k.1.toArray⟩ : ByteArray).size = k.1.length := by simp [ByteArray.size]
      unfold maxLen
      omega
    have HLay : Hid (if (takenC bs).ok = true then Calls Tryz.prog 29 #[.agg #[.string ⟨k.1.toArray⟩, .bool false, .slice none 0 0]] w7 fun e w' => ∃ v', e = .returned (.tuple #[v', .int .i64 0]) ∧ Made w7 v' (takenC bs).laid w'
        else Calls Tryz.prog 29 #[.agg #[.string ⟨k.1.toArray⟩, .bool false, .slice none 0 0]] w7 fun e w' => e = .returned (.tuple #[.slice none 0 0, .int .i64 1]) ∧ Turn (fun _ => False) w7 w') := by
      obtain ⟨a1, a2, a3, a4, a5, a6⟩ := unhide HA7
      refine hide ?_
      rw [unhide Htk]
      split
      · rename_i hok
        exact klay_yes _ _ _ _ w7 a2 hkm (fun h0 j hj => (a6 j hj).2) hok
      · rename_i hok
        exact klay_no _ _ _ _ w7 a2 hkm (by simpa using hok)
    have HTk2 : Hid (∃ c : Chg, takenC bs = c ∧ c.key = ⟨k.1.toArray⟩ ∧ c.has = false ∧ c.val = []) := hide ⟨_, unhide Htk, rfl, rfl, rfl⟩
    clear hkm
    by_cases hok : (takenC bs).ok = true
    · have HL1 := unhide HLay
      rw [if_pos hok] at HL1
      have HL := hide HL1
      clear HL1 HLay
      go_wp2_with fail
      rw [← unhide Hw7]
      refine (unhide HL).mono ?_
      rintro e w8 ⟨v8, rfl, hm8⟩
      obtain ⟨a1, a2, a3, a4, a5, a6⟩ := unhide HA7
      have hsb := a5.kept hm8.2.1 (fun _ _ e => e)
      have hr8 := a3.kept hm8.2.1 (fun e => e)
      have HE := hide (equal_any _ _ _ _ w8 hm8.1.sees hsb)
      have c80 : w8.cell? ⟨c, 0, none⟩ = some (.string ⟨k.1.toArray⟩) := (a1.kept hm8.2.1 (fun e => e)).cell 0
      have c81 : w8.cell? ⟨c, 1, none⟩ = some (.bool false) := (a1.kept hm8.2.1 (fun e => e)).cell 1
      have c82 : w8.cell? ⟨c, 2, none⟩ = some (.slice none 0 0) := (a1.kept hm8.2.1 (fun e => e)).cell 2
      have g0 : w8.cell? ⟨w.heap.size, 0, none⟩ = some (.string ⟨#[]⟩) := hr8.cell 0
      have g1 : w8.cell? ⟨w.heap.size, 1, none⟩ = some (.bool false) := hr8.cell 1
      have g2 : w8.cell? ⟨w.heap.size, 2, none⟩ = some (.slice none 0 0) := hr8.cell 2
      have z0 := hr8.frozen 0
      have z1 := hr8.frozen 1
      have z2 := hr8.frozen 2
      have ht8 := a4.trans hm8.2.1
      have hv8 : Sees w8 (.slice none 0 0) [] := (a2).kept hm8.2.1 (fun _ _ e => e)
      have hl8 : ∀ j, slab (.slice none 0 0) = some j → w.heap.size < j ∧ j < w8.heap.size := fun j hj => ⟨(a6 j hj).1, Nat.lt_of_lt_of_le (a6 j hj).2 hm8.2.1.size⟩
      have Hfin := hide (And.intro hr8 (And.intro ht8 (And.intro hv8 hl8)))
      obtain ⟨o8, c8, e8⟩ := hm8.1.shape
      have hdec : decide ((takenC bs).laid = bs) = true ∨ decide ((takenC bs).laid = bs) = false := by cases decide ((takenC bs).laid = bs) <;> simp
      have hrd : readC bs = if (takenC bs).laid = bs then some (takenC bs) else none := by unfold readC; simp [hok]
      have Hrd := hide hrd
      generalize (takenC bs).laid = lb at *
      generalize lb.length = n8 at *
      subst e8
      clear hm8 hsb hr8 a1 a2 a3 a4 a5 a6 ht8 hv8 hl8 hrd HL HA7 Hw7 c70 c71 c72 f0
      rcases hdec with hd | hd
      · rw [hd] at HE
        have hres : readC bs = some (takenC bs) := by rw [unhide Hrd, if_pos (by simpa using hd)]
        have Hres := hide hres
        clear hd hres
        go_wp2_with fail
        refine (unhide HE).mono ?_
        rintro e w9 ⟨rfl, rfl⟩
        clear HE
        go_wp2
        obtain ⟨b1, b2, b3, b4⟩ := unhide Hfin
        obtain ⟨d, d1, d2, d3, d4⟩ := unhide HTk2
        refine bodyPost_ret (results_cell2 rfl _ _ w.heap.size 51 _ (0, 0) _ rfl (((b1.set 0 _).set 1 _).set 2 _) Tryz.underlying51 rfl (by kernel_rfl)) rfl ?_
        have tset : ∀ u0 u1 u2, Turn (fun i => i = w.heap.size) w8 (((w8.setCell ⟨w.heap.size, 0, none⟩ u0).setCell ⟨w.heap.size, 1, none⟩ u1).setCell ⟨w.heap.size, 2, none⟩ u2) := fun u0 u1 u2 => (((Turn.refl (fun i => i = w.heap.size) w8).setCell (p := ⟨w.heap.size, 0, none⟩) (.inl rfl) u0).setCell (p := ⟨w.heap.size, 1, none⟩) (.inl rfl) u1).setCell (p := ⟨w.heap.size, 2, none⟩) (.inl rfl) u2
        refine ⟨b2.trans' (tset _ _ _) (fun i hi e => by omega), ?_⟩
        rw [unhide Hres, d1]
        refine ⟨_, by rw [d2, d3]; rfl, ?_, fun j hj => ?_⟩
        · rw [d4]
          exact b3.kept (tset _ _ _) (fun j hj e => by have := b4 j hj; omega)
        · have := b4 j hj
          have := (tset (.string ⟨k.1.toArray⟩) (.bool false) (.slice none 0 0)).size
          exact ⟨by omega, by omega⟩
      · rw [hd] at HE
        have hres : readC bs = none := by rw [unhide Hrd, if_neg (by simpa using hd)]
        have Hres := hide hres
        clear hd hres
        go_wp2_with fail
        refine (unhide HE).mono ?_
        rintro e w9 ⟨rfl, rfl⟩
        clear HE
        go_wp2
        obtain ⟨b1, b2, b3, b4⟩ := unhide Hfin
        refine bodyPost_ret (results_cell2 rfl _ _ w.heap.size 51 _ (0, 0) _ rfl (((b1.set 0 _).set 1 _).set 2 _) Tryz.underlying51 rfl (by kernel_rfl)) rfl ?_
        have tset : ∀ u0 u1 u2, Turn (fun i => i = w.heap.size) w8 (((w8.setCell ⟨w.heap.size, 0, none⟩ u0).setCell ⟨w.heap.size, 1, none⟩ u1).setCell ⟨w.heap.size, 2, none⟩ u2) := fun u0 u1 u2 => (((Turn.refl (fun i => i = w.heap.size) w8).setCell (p := ⟨w.heap.size, 0, none⟩) (.inl rfl) u0).setCell (p := ⟨w.heap.size, 1, none⟩) (.inl rfl) u1).setCell (p := ⟨w.heap.size, 2, none⟩) (.inl rfl) u2
        refine ⟨b2.trans' (tset _ _ _) (fun i hi e => by omega), ?_⟩
        rw [unhide Hres]
        rfl
    · have HL1 := unhide HLay
      rw [if_neg hok] at HL1
      have HL := hide HL1
      have hres : readC bs = none := by unfold readC; simp [hok]
      have Hres := hide hres
      clear HL1 HLay hres hok
      go_wp2_with fail
      rw [← unhide Hw7]
      refine (unhide HL).mono ?_
      rintro e w8 ⟨rfl, t8⟩
      obtain ⟨a1, a2, a3, a4, a5, a6⟩ := unhide HA7
      have hr8 := a3.kept t8 (fun e => e)
      have g0 : w8.cell? ⟨w.heap.size, 0, none⟩ = some (.string ⟨#[]⟩) := hr8.cell 0
      have g1 : w8.cell? ⟨w.heap.size, 1, none⟩ = some (.bool false) := hr8.cell 1
      have g2 : w8.cell? ⟨w.heap.size, 2, none⟩ = some (.slice none 0 0) := hr8.cell 2
      have z0 := hr8.frozen 0
      have z1 := hr8.frozen 1
      have z2 := hr8.frozen 2
      have Hfin := hide (And.intro hr8 (a4.trans t8))
      clear hr8 a1 a2 a3 a4 a5 a6 t8 HL HA7 Hw7 c70 c71 c72 f0
      go_wp2
      obtain ⟨b1, b2⟩ := unhide Hfin
      refine bodyPost_ret (results_cell2 rfl _ _ w.heap.size 51 _ (0, 0) _ rfl (((b1.set 0 _).set 1 _).set 2 _) Tryz.underlying51 rfl (by kernel_rfl)) rfl ?_
      have tset : ∀ u0 u1 u2, Turn (fun i => i = w.heap.size) w8 (((w8.setCell ⟨w.heap.size, 0, none⟩ u0).setCell ⟨w.heap.size, 1, none⟩ u1).setCell ⟨w.heap.size, 2, none⟩ u2) := fun u0 u1 u2 => (((Turn.refl (fun i => i = w.heap.size) w8).setCell (p := ⟨w.heap.size, 0, none⟩) (.inl rfl) u0).setCell (p := ⟨w.heap.size, 1, none⟩) (.inl rfl) u1).setCell (p := ⟨w.heap.size, 2, none⟩) (.inl rfl) u2
      refine ⟨b2.trans' (tset _ _ _) (fun i hi e => by omega), ?_⟩
      rw [unhide Hres]
      rfl

end Go.Proofs.YtnipdgigjcaolaaGreat

/- Texts: a copy of one, and whether one begins so. -/
namespace Go.Proofs.YtnipdgigjcaolaaGreat
open Go.RowKit

/-- Nothing below the heap's end has turned. -/
theorem turn_of_below {w w' : World} (h : Below w.heap.size w w') : Turn (fun _ => False) w w' := ⟨h.os, h.tape, h.output, h.size, fun k hk _ => h.block k hk⟩

set_option maxHeartbeats 4000000 in
set_option maxRecDepth 100000 in
theorem sclone0_any (s : ByteArray) (w : World) (hs : s.size ≤ 1099511627776) :
    Calls Tryz.prog 147 #[.string s] w fun e w' => e = .returned (.string s) ∧ Turn (fun _ => False) w w' := by
  by_cases h0 : s.size = 0
  · have e : s = ⟨#[]⟩ := by
      apply ByteArray.ext
      exact Array.eq_empty_of_size_eq_zero h0
    subst e
    go_enter Tryz.func147, Tryz.ntmps147
    go_wp2
    go_ret
    exact ⟨rfl, Turn.refl _ _⟩
  · obtain ⟨i0, hi, hz0, hz1, hz2⟩ := info_parts Tryz.infoU8
    have hsz : (Tryz.prog.info? 5).map (·.size) = some 1 := by rw [hi]; simp [hz1]
    have hone : Tryz.prog.cellsOf 5 = 1 := by simp [Program.cellsOf, hi, hz1]
    obtain ⟨M, hM⟩ : ∃ M, M = madeCells (Value.int .u8 0).cells (((s.size : Nat) : Int).toNat * i0.size) := ⟨_, rfl⟩
    have hMs : M.size = s.size := by rw [hM, size_madeCells, hz1]; simp
    have hmake : ∀ W : World, (Instr.makeSlice 29 (.int .i64 (s.size : Int)) (.int .i64 (s.size : Int))).run Tryz.prog W = .ok (.slice (some ⟨W.heap.size, 0, none⟩) s.size s.size) (W.alloc (.cells M 5)) := fun W => by
      have h := run_make (P := Tryz.prog) W 29 5 i0 (.int .u8 0) Tryz.underlying29 hi hz0 .i64 .i64 (s.size : Int) (s.size : Int) (by omega) (by omega) (by rw [hz2]; omega) (by omega)
      rw [← hM] at h
      simpa using h
    clear hM
    have hcopy := Lib.run_copy_row_string (P := Tryz.prog) (w.alloc (.cells M 5)) 29 9 3 5 w.heap.size 0 s.size s.size s M 5 Tryz.underlying29 hsz (heap_alloc_new w _) (Nat.le_refl _) (by omega)
    obtain ⟨Y, hY⟩ : ∃ Y, Y = (M.toList.take 0 ++ Lib.byteCells s.data.toList ++ M.toList.drop (0 + s.size)).toArray := ⟨_, rfl⟩
    rw [← hY] at hcopy
    have hYl : Y.toList = Lib.byteCells s.data.toList := by
      rw [hY, List.toList_toArray, List.take_zero, List.nil_append, List.drop_of_length_le (by rw [Array.length_toList]; omega), List.append_nil]
    have hYs : Y.size = s.size := by rw [← Array.length_toList, hYl, Lib.byteCells_length, ← Lib.size_eq]
    have hrow : ((w.alloc (.cells M 5)).setRow w.heap.size Y).heap[w.heap.size]? = some (.cells Y 5 (0, 0)) := setRow_heap _ _ M _ 5 (0, 0) (heap_alloc_new w _)
    have hne : s.data.toList ≠ [] := fun e => h0 (by rw [Lib.size_eq, e]; rfl)
    have hstr := Lib.run_unsafeString_row (P := Tryz.prog) ((w.alloc (.cells M 5)).setRow w.heap.size Y) 225 3 9 5 Tryz.underlying225 hone w.heap.size Y.size (by unfold World.shape?; rw [hrow]) s.data.toList hne (by rw [← Lib.size_eq]; omega) (by rw [← Lib.size_eq]; omega)
      (fun j x hx => Lib.cells_of_row hrow Y.size j _ (by rw [List.take_of_length_le (by rw [Array.length_toList]; exact Nat.le_refl _), hYl]; simp [Lib.byteCells, hx]))
    rw [← Lib.size_eq] at hstr
    clear hY
    go_enter Tryz.func147, Tryz.ntmps147
    go_wp2
    go_ret
    have b1 : Below w.heap.size w (w.alloc (.cells M 5)) := (Below.refl _ w).alloc (Nat.le_refl _) _
    have b2 : Below w.heap.size (w.alloc (.cells M 5)) ((w.alloc (.cells M 5)).setRow w.heap.size Y) := ⟨rfl, rfl, rfl, by simp, fun k hk => setRow_other _ _ _ _ (by omega)⟩
    exact ⟨rfl, turn_of_below (Lib.below_freeze (b1.trans b2) (p := ⟨w.heap.size, 0, none⟩) (Nat.le_refl _) _)⟩

set_option maxHeartbeats 400000 in
theorem sclone_any (s : ByteArray) (w : World) (hs : s.size ≤ 1099511627776) :
    Calls Tryz.prog 113 #[.string s] w fun e w' => e = .returned (.string s) ∧ Turn (fun _ => False) w w' := by
  go_enter Tryz.func113, Tryz.ntmps113
  go_wp2_with fail
  refine (sclone0_any s w hs).mono ?_
  rintro e w1 ⟨rfl, t1⟩
  go_wp2
  go_ret
  exact ⟨rfl, t1⟩

/-- s begins with p. -/
def begins (s p : List UInt8) : Bool := decide (p.length ≤ s.length) && decide (s.take p.length = p)

set_option maxHeartbeats 2000000 in
set_option maxRecDepth 100000 in
theorem hasPrefix0_any (s p : ByteArray) (w : World) :
    Calls Tryz.prog 114 #[.string s, .string p] w fun e w' => e = .returned (.bool (begins s.data.toList p.data.toList)) ∧ w = w' := by
  have l1 := text_length s
  have l2 := text_length p
  by_cases h : p.size ≤ s.size
  · have q1 : (p.size : Int) ≤ s.size := by omega
    go_enter Tryz.func114, Tryz.ntmps114
    go_wp2
    go_ret
    refine ⟨ret_bool ?_, rfl⟩
    unfold begins
    rw [Lib.toList_data, Lib.toList_data]
    simp [l1, l2, h]
  · have q1 : ¬ (p.size : Int) ≤ s.size := by omega
    go_enter Tryz.func114, Tryz.ntmps114
    go_wp2
    go_ret
    exact ⟨ret_bool (by unfold begins; simp; omega), rfl⟩

set_option maxHeartbeats 400000 in
theorem hasPrefix_any (s p : ByteArray) (w : World) :
    Calls Tryz.prog 72 #[.string s, .string p] w fun e w' => e = .returned (.bool (begins s.data.toList p.data.toList)) ∧ w = w' := by
  go_enter Tryz.func72, Tryz.ntmps72
  go_wp2_with fail
  refine (hasPrefix0_any s p w).mono ?_
  rintro e w1 ⟨rfl, rfl⟩
  go_wp2
  go_ret
  exact ⟨rfl, rfl⟩

end Go.Proofs.YtnipdgigjcaolaaGreat

/- A store's pairs: a sorted list, plainly, and a map of byte slices in memory. -/
namespace Go.Proofs.YtnipdgigjcaolaaGreat
open Go.RowKit

/-- A pair is laid at its place. -/
def kins {α : Type} (k : List UInt8) (v : α) : List (List UInt8 × α) → List (List UInt8 × α)
  | [] => [(k, v)]
  | y :: r => if bytesBefore k y.1 then (k, v) :: y :: r else y :: kins k v r

theorem kins_cons {α : Type} (k : List UInt8) (v : α) (y : List UInt8 × α) (r : List (List UInt8 × α)) : kins k v (y :: r) = if bytesBefore k y.1 then (k, v) :: y :: r else y :: kins k v r := rfl

def kdel {α : Type} (k : List UInt8) (m : List (List UInt8 × α)) : List (List UInt8 × α) := m.filter fun p => !(p.1 == k)
def kput {α : Type} (k : List UInt8) (v : α) (m : List (List UInt8 × α)) : List (List UInt8 × α) := kins k v (kdel k m)
def kget {α : Type} (k : List UInt8) (m : List (List UInt8 × α)) : Option α := (m.find? fun p => p.1 == k).map (·.2)

section
variable {α β : Type} (f : α → β)

/-- A pair's second limb turned. -/
def snd1 (p : List UInt8 × α) : List UInt8 × β := (p.1, f p.2)

theorem kins_map (k : List UInt8) (v : α) : ∀ m : List (List UInt8 × α), (kins k v m).map (snd1 f) = kins k (f v) (m.map (snd1 f))
  | [] => rfl
  | y :: r => by
    rw [kins_cons, List.map_cons, kins_cons]
    show _ = if bytesBefore k y.1 = true then _ else _
    split
    · rfl
    · rw [List.map_cons, kins_map k v r]

theorem kdel_map (k : List UInt8) (m : List (List UInt8 × α)) : (kdel k m).map (snd1 f) = kdel k (m.map (snd1 f)) := by
  unfold kdel
  rw [List.filter_map]
  rfl

theorem kput_map (k : List UInt8) (v : α) (m : List (List UInt8 × α)) : (kput k v m).map (snd1 f) = kput k (f v) (m.map (snd1 f)) := by
  unfold kput
  rw [kins_map, kdel_map]

theorem kget_map (k : List UInt8) : ∀ m : List (List UInt8 × α), kget k (m.map (snd1 f)) = (kget k m).map f
  | [] => rfl
  | y :: r => by
    have ih := kget_map k r
    unfold kget at *
    simp only [List.map_cons, List.find?_cons]
    show Option.map _ (match y.1 == k with | true => _ | false => _) = _
    cases y.1 == k
    · exact ih
    · rfl

theorem kins_mem (k : List UInt8) (v : α) (p : List UInt8 × α) : ∀ m : List (List UInt8 × α), p ∈ kins k v m ↔ p = (k, v) ∨ p ∈ m
  | [] => by simp [kins]
  | y :: r => by
    unfold kins
    split
    · simp
    · rw [List.mem_cons, kins_mem k v p r, List.mem_cons]
      constructor
      · rintro (h | h | h)
        · exact .inr (.inl h)
        · exact .inl h
        · exact .inr (.inr h)
      · rintro (h | h | h)
        · exact .inr (.inl h)
        · exact .inl h
        · exact .inr (.inr h)

theorem kins_length (k : List UInt8) (v : α) : ∀ m : List (List UInt8 × α), (kins k v m).length = m.length + 1
  | [] => rfl
  | y :: r => by
    unfold kins
    split
    · rfl
    · simp [kins_length k v r]

theorem kdel_length (k : List UInt8) (m : List (List UInt8 × α)) : (kdel k m).length ≤ m.length := List.length_filter_le _ _
theorem kput_length (k : List UInt8) (v : α) (m : List (List UInt8 × α)) : (kput k v m).length ≤ m.length + 1 := by
  unfold kput
  rw [kins_length]
  have := kdel_length k m
  omega

end

/-- How a value of the map reads: as itself. -/
def heldV (v : Value) : Option (DataW Value × List MemPlace) := some (.held v, [])

/-- Pairs as a map's entries. -/
def datM (m : List (List UInt8 × Value)) : List (Lit × DataW Value) := m.map fun p => (.string p.1, .held p.2)

theorem datM_ins (k : List UInt8) (v : Value) : ∀ m : List (List UInt8 × Value), DataW.insert (.string k, .held v) (datM m) = datM (kins k v m)
  | [] => rfl
  | y :: r => by
    unfold kins
    show DataW.insert _ ((Lit.string y.1, DataW.held y.2) :: datM r) = _
    unfold DataW.insert
    show (if bytesBefore k y.1 = true then _ else _) = _
    split
    · rfl
    · rw [datM_ins k v r]
      rfl

theorem datM_del (k : List UInt8) (m : List (List UInt8 × Value)) : (datM m).filter (fun p => !p.1.sameKey (.string k)) = datM (kdel k m) := by
  unfold datM kdel
  rw [List.filter_map]
  rfl

theorem datM_put (k : List UInt8) (v : Value) (m : List (List UInt8 × Value)) : (DataW.map (datM m)).put (.string k) (.held v) = .map (datM (kput k v m)) := by
  show DataW.map (DataW.insert _ _) = _
  rw [datM_del, datM_ins]
  rfl

theorem datM_drop (k : List UInt8) (m : List (List UInt8 × Value)) : (DataW.map (datM m)).del (.string k) = .map (datM (kdel k m)) := by
  show DataW.map _ = _
  rw [datM_del]

theorem datM_find (k : List UInt8) : ∀ m : List (List UInt8 × Value), (datM m).find? (fun p => p.1.sameKey (.string k)) = (m.find? fun p => p.1 == k).map fun p => (Lit.string p.1, DataW.held p.2)
  | [] => rfl
  | y :: r => by
    show List.find? _ ((Lit.string y.1, DataW.held y.2) :: datM r) = _
    simp only [List.find?_cons]
    show (match y.1 == k with | true => _ | false => _) = _
    cases y.1 == k
    · exact datM_find k r
    · rfl

theorem datM_at (k : List UInt8) (z : Value) (m : List (List UInt8 × Value)) : (DataW.map (datM m)).atKey (.string k) (.held z) = .held ((kget k m).getD z) := by
  unfold DataW.atKey kget
  simp only [datM_find]
  cases m.find? fun p => p.1 == k <;> rfl

theorem datM_has (k : List UInt8) : ∀ m : List (List UInt8 × Value), Maps.has (DataW.map (datM m)) (.string k) = (kget k m).isSome
  | [] => rfl
  | y :: r => by
    have ih := datM_has k r
    rw [Maps.has_eq] at *
    unfold kget at *
    show List.any ((Lit.string y.1, DataW.held y.2) :: datM r) _ = _
    simp only [List.any_cons, List.find?_cons]
    show ((y.1 == k) || _) = _
    cases y.1 == k
    · exact ih
    · rfl

end Go.Proofs.YtnipdgigjcaolaaGreat

/- A map of pairs in memory, and kv's turn. -/
namespace Go.Proofs.YtnipdgigjcaolaaGreat
open Go.RowKit Go.Maps

/-- A map in block b with these pairs: a key, the value as it lies, its bytes. -/
structure MPs (Q : Nat → Prop) (w : World) (b : Nat) (m : List (List UInt8 × (Value × List UInt8))) : Prop where
  map : w.ownsMap Tryz.prog 9 heldV b m.length (.map (datM (m.map (snd1 Prod.fst))))
  each : ∀ p ∈ m, Sees w p.2.1 p.2.2 ∧ ∀ j, slab p.2.1 = some j → Q j ∧ j ≠ b
  own : Q b

/-- The pairs, plainly. -/
def plain (m : List (List UInt8 × (Value × List UInt8))) : List (List UInt8 × List UInt8) := m.map (snd1 Prod.snd)

theorem keyedS : Keyed Tryz.prog 9 := string_keyed Tryz.underlying9

section
variable {Q : Nat → Prop} {w w' : World} {b n : Nat} {m : List (List UInt8 × (Value × List UInt8))}

theorem ownsMap_turn {S : Nat → Prop} {D : DataW Value} (h : w.ownsMap Tryz.prog 9 heldV b n D) (t : Turn S w w') (hb : ¬ S b) : w'.ownsMap Tryz.prog 9 heldV b n D := by
  have hlt := h.lt
  obtain ⟨es, clock, h1, h2⟩ := h
  exact ⟨es, clock, (t.block b hlt hb).trans h1, h2⟩

/-- As many as there are. -/
theorem ownsMap_tight {l : List (Lit × DataW Value)} (h : w.ownsMap Tryz.prog 9 heldV b n (.map l)) : w.ownsMap Tryz.prog 9 heldV b l.length (.map l) := by
  obtain ⟨es, clock, h1, h2, h3, h4⟩ := h
  refine ⟨es, clock, h1, h2, ?_, h4⟩
  injection h4 with h4
  rw [h4, length_read]
  exact Nat.le_refl _

theorem datM_length (l : List (List UInt8 × Value)) : (datM l).length = l.length := by simp [datM]

theorem MPs.kept {S : Nat → Prop} (h : MPs Q w b m) (t : Turn S w w') (hS : ∀ j, Q j → ¬ S j) : MPs Q w' b m :=
  ⟨ownsMap_turn h.map t (hS b h.own), fun p hp => ⟨(h.each p hp).1.kept t (fun j hj => hS j ((h.each p hp).2 j hj).1), (h.each p hp).2⟩, h.own⟩

theorem MPs.mono {Q' : Nat → Prop} (h : MPs Q w b m) (hQ : ∀ j, Q j → Q' j) : MPs Q' w b m :=
  ⟨h.map, fun p hp => ⟨(h.each p hp).1, fun j hj => ⟨hQ j ((h.each p hp).2 j hj).1, ((h.each p hp).2 j hj).2⟩⟩, hQ b h.own⟩

theorem MPs.lt (h : MPs Q w b m) : b < w.heap.size := h.map.lt

/-- 'm[k] = v'. -/
theorem MPs.put {v : Value} {bs : List UInt8} (h : MPs Q w b m) (hm : m.length ≤ 1099511627776) (k : ByteArray) (hk : k.size ≤ maxLen) (hv : Sees w v bs) (hQ : ∀ j, slab v = some j → Q j ∧ j ≠ b) :
    ∃ w', (Instr.mapUpdate 115 (.map (some b)) (.string k) v).run Tryz.prog w = .ok () w' ∧ MPs Q w' b (kput k.data.toList (v, bs) m) ∧ Turn (fun j => j = b) w w' := by
  obtain ⟨w', r1, r2, r3⟩ := h.map.update (e := 29) keyedS Tryz.underlying115 (by unfold maxLen; omega) (Go.WideMaps.keyOf_string_mk Tryz.underlying9 hk) (show heldV v = some (.held v, []) from rfl)
  have tg : Turn (fun j => j = b) w w' := (Turn.refl _ _).grown r3 (fun j hj => by injection hj with hj; exact .inl hj.symm)
  refine ⟨w', r1, ⟨?_, fun p hp => ?_, h.own⟩, tg⟩
  · rw [datM_put, ← kput_map Prod.fst k.data.toList (v, bs)] at r2
    have := ownsMap_tight r2
    rw [datM_length, List.length_map] at this
    exact this
  · have hp' : p = (k.data.toList, (v, bs)) ∨ p ∈ m := by
      unfold kput at hp
      rcases (kins_mem _ _ _ _).1 hp with h1 | h1
      · exact .inl h1
      · exact .inr (List.mem_filter.1 h1).1
    rcases hp' with rfl | hp'
    · exact ⟨hv.kept tg (fun j hj e => (hQ j hj).2 e), hQ⟩
    · exact ⟨(h.each p hp').1.kept tg (fun j hj e => ((h.each p hp').2 j hj).2 e), (h.each p hp').2⟩

/-- 'delete(m, k)'. -/
theorem MPs.drop (h : MPs Q w b m) (k : ByteArray) (hk : k.size ≤ maxLen) (ty : TypeId) :
    ∃ w', (Builtin.delete_ #[115, 9] ty #[.map (some b), .string k]).run Tryz.prog w = .ok (.tuple #[]) w' ∧ MPs Q w' b (kdel k.data.toList m) ∧ Turn (fun j => j = b) w w' := by
  obtain ⟨w', r1, r2, r3⟩ := h.map.drop (e := 29) keyedS Tryz.underlying115 (Go.WideMaps.keyOf_string_mk Tryz.underlying9 hk) ty
  have tg : Turn (fun j => j = b) w w' := (Turn.refl _ _).grown r3.grown (fun j hj => by injection hj with hj; exact .inl hj.symm)
  refine ⟨w', r1, ⟨?_, fun p hp => ?_, h.own⟩, tg⟩
  · rw [datM_drop, ← kdel_map Prod.fst k.data.toList] at r2
    have := ownsMap_tight r2
    rw [datM_length, List.length_map] at this
    exact this
  · have hp' := (List.mem_filter.1 hp).1
    exact ⟨(h.each p hp').1.kept tg (fun j hj e => ((h.each p hp').2 j hj).2 e), (h.each p hp').2⟩

/-- 'v, ok := m[k]'. -/
theorem MPs.look (h : MPs Q w b m) (k : ByteArray) (hk : k.size ≤ maxLen) :
    (Instr.lookup 115 (.map (some b)) (.string k) true).run Tryz.prog w = .ok (.tuple #[((kget k.data.toList m).map Prod.fst).getD (.slice none 0 0), .bool (kget k.data.toList m).isSome]) w := by
  have hz : (zeroValue 29).run Tryz.prog w = .ok (.slice none 0 0) w := by kernel_rfl
  obtain ⟨v, ps, r1, r2⟩ := h.map.look_ok (e := 29) keyedS Tryz.underlying115 hz (show heldV (.slice none 0 0) = some (.held (.slice none 0 0), []) from rfl) (Go.WideMaps.keyOf_string_mk Tryz.underlying9 hk)
  rw [r1, datM_has, kget_map]
  rw [datM_at, kget_map] at r2
  unfold heldV at r2
  simp only [Option.some.injEq, Prod.mk.injEq, DataW.held.injEq] at r2
  rw [r2.1, Option.isSome_map]

/-- 'm[k]'. -/
theorem MPs.look1 (h : MPs Q w b m) (k : ByteArray) (hk : k.size ≤ maxLen) :
    (Instr.lookup 115 (.map (some b)) (.string k) false).run Tryz.prog w = .ok (((kget k.data.toList m).map Prod.fst).getD (.slice none 0 0)) w := by
  have hz : (zeroValue 29).run Tryz.prog w = .ok (.slice none 0 0) w := by kernel_rfl
  obtain ⟨v, ps, r1, r2⟩ := h.map.lookup (e := 29) keyedS Tryz.underlying115 hz (show heldV (.slice none 0 0) = some (.held (.slice none 0 0), []) from rfl) (Go.WideMaps.keyOf_string_mk Tryz.underlying9 hk)
  rw [r1]
  rw [datM_at, kget_map] at r2
  unfold heldV at r2
  simp only [Option.some.injEq, Prod.mk.injEq, DataW.held.injEq] at r2
  rw [r2.1]

/-- 'len(m)'. -/
theorem MPs.len (h : MPs Q w b m) (ty : TypeId) : (Builtin.len_ #[115] ty #[.map (some b)]).run Tryz.prog w = .ok (.int .i64 m.length) w := by
  rw [h.map.len Tryz.underlying115 ty, Maps.size_eq, datM_length, List.length_map]

/-- 'make(map)'. -/
theorem MPs.made (w : World) (Q : Nat → Prop) (hQ : Q w.heap.size) : MPs Q (w.alloc (.map #[] 0)) w.heap.size [] := ⟨World.ownsMap_made w _ _ _, fun p hp => by simp at hp, hQ⟩

/-- What turn comes to. -/
def TrnTo (Q : Nat → Prop) (w : World) (b : Nat) (m : List (List UInt8 × (Value × List UInt8))) (k : List UInt8) (has : Bool) (bs : List UInt8) (e : Ending) (w' : World) : Prop :=
  e = .returned (.tuple #[]) ∧ Turn (fun j => j = b) w w' ∧ ∃ m', MPs (grow Q w w') w' b m' ∧ plain m' = (if has then kput k bs (plain m) else kdel k (plain m))

set_option maxHeartbeats 4000000 in
set_option maxRecDepth 100000 in
theorem turn_drop (k : ByteArray) (v : Value) (bs : List UInt8) (h : MPs Q w b m) (hk : k.size ≤ maxLen) :
    Calls Tryz.prog 71 #[.map (some b), .agg #[.string k, .bool false, v]] w (TrnTo Q w b m k.data.toList false bs) := by
  have ta : Turn (fun _ => False) w (w.alloc (.cells #[.string k, .bool false, v] 51)) := (Turn.refl _ _).alloc _
  have h1 := h.kept ta (fun _ _ e => e)
  obtain ⟨w1, r1, r2, r3⟩ := h1.drop k hk 0
  have Hfin : Hid (TrnTo Q w b m k.data.toList false bs (.returned (.tuple #[])) w1) := hide ⟨rfl, (ta.mono (fun _ _ e => e.elim)).trans' r3 (fun _ _ e => e), _, r2.mono (fun j hj => .inl hj), by unfold plain; rw [kdel_map]; rfl⟩
  clear r2 r3 h1 ta h hk
  go_enter Tryz.func71, Tryz.ntmps71
  go_wp2
  go_end0
  exact unhide Hfin

theorem put_step {k : ByteArray} {bs : List UInt8} {v3 : Value} {w2 w3 : World} (h : MPs Q w b m) (t2 : Turn (fun _ => False) w w2) (hm3 : Made w2 v3 bs w3) (hm : m.length ≤ 1099511627776) (hk : k.size ≤ maxLen) :
    ∃ w4, (Instr.mapUpdate 115 (.map (some b)) (.string k) v3).run Tryz.prog w3 = .ok () w4 ∧ TrnTo Q w b m k.data.toList true bs (.returned (.tuple #[])) w4 ∧ ∀ j, w.heap.size < w3.heap.size → w4.cell? ⟨w.heap.size, j, none⟩ = w3.cell? ⟨w.heap.size, j, none⟩ := by
  have hbl := h.lt
  have t3 := t2.trans hm3.2.1
  obtain ⟨w4, r4, p4, t4⟩ := MPs.put ((h.kept t3 (fun _ _ e => e)).mono (Q' := grow Q w w3) (fun _ e => .inl e)) hm k hk hm3.1.sees (fun j hj => by
    have hl := Nat.le_trans t2.size ((made_lt hm3 j hj).1)
    exact ⟨.inr ⟨hl, (made_lt hm3 j hj).2⟩, fun e => by omega⟩)
  exact ⟨w4, r4, ⟨rfl, (t3.mono (fun _ _ e => e.elim)).trans' t4 (fun _ _ e => e), _, p4.mono (fun j hj => hj.imp id (fun e => ⟨e.1, Nat.lt_of_lt_of_le e.2 t4.size⟩)), by unfold plain; rw [kput_map]; rfl⟩, fun j hj => t4.cell (p := ⟨w.heap.size, j, none⟩) hj (fun e => by
    have e' : w.heap.size = b := e
    omega)⟩

set_option maxHeartbeats 4000000 in
set_option maxRecDepth 100000 in
theorem turn_put (k : ByteArray) (v : Value) (bs : List UInt8) (h : MPs Q w b m) (hm : m.length ≤ 1099511627776) (hk : k.size ≤ 1099511627776) (hv : Sees w v bs) (hb : bs.length ≤ 140737488355328) :
    Calls Tryz.prog 71 #[.map (some b), .agg #[.string k, .bool true, v]] w (TrnTo Q w b m k.data.toList true bs) := by
  obtain ⟨vo, vc, rfl⟩ := hv.shape
  have ta : Turn (fun _ => False) w (w.alloc (.cells #[.string k, .bool true, .slice vo bs.length vc] 51)) := (Turn.refl _ _).alloc _
  have hA : At 51 (w.alloc (.cells #[.string k, .bool true, .slice vo bs.length vc] 51)) w.heap.size #[.string k, .bool true, .slice vo bs.length vc] := At.new _ _ _
  have hbl := h.lt
  have hal := hA.lt
  have k0 : (w.alloc (.cells #[.string k, .bool true, .slice vo bs.length vc] 51)).drew.cell? ⟨w.heap.size, 0, none⟩ = some (.string k) := hA.cell 0
  have k2 : (w.alloc (.cells #[.string k, .bool true, .slice vo bs.length vc] 51)).drew.cell? ⟨w.heap.size, 2, none⟩ = some (.slice vo bs.length vc) := hA.cell 2
  have HH := hide (And.intro h hv)
  have HT := hide ta.drew
  have Hal := hide hal
  have Hb : Hid (∀ y, y = bs → y.length ≤ 140737488355328) := hide (fun y e => by rw [e]; exact hb)
  have Hm := hide hm
  have K0 := hide k0
  have K2 := hide k2
  generalize bs.length = n at *
  have hkk : k.size ≤ maxLen := by unfold maxLen; omega
  clear ta hA h hv hal hm hb k0 k2
  go_enter Tryz.func71, Tryz.ntmps71
  go_wp2_with fail
  have k0 := unhide K0
  have k2 := unhide K2
  go_region_held_law (fun w' => w'.cell? ⟨w.heap.size, 0, none⟩ = some (.string k) ∧ w'.cell? ⟨w.heap.size, 2, none⟩ = some (.slice vo n vc)) (first | go_keep | (constructor <;> assumption))
    (first
    | (go_at_call 113; refine (sclone_any k _ hk).mono ?_; rintro e w2 ⟨rfl, t2⟩; have j0 := (t2.cell (p := ⟨w.heap.size, 0, none⟩) (unhide Hal) (fun e => e)).trans k0; have j2 := (t2.cell (p := ⟨w.heap.size, 2, none⟩) (unhide Hal) (fun e => e)).trans k2; have T2 := hide ((unhide HT).trans t2); have L2 := hide (Nat.lt_of_lt_of_le (unhide Hal) t2.size); clear t2)
    | (go_at_call 110; refine (clone_any _ bs w2 ((unhide HH).2.kept (unhide T2) (fun _ _ e => e)) (unhide Hb _ rfl)).mono ?_; rintro e w3 ⟨v3, rfl, hm3⟩; have i0 := (hm3.2.1.cell (p := ⟨w.heap.size, 0, none⟩) (unhide L2) (fun e => e)).trans j0; have i2 := (hm3.2.1.cell (p := ⟨w.heap.size, 2, none⟩) (unhide L2) (fun e => e)).trans j2; have hq3 := Nat.lt_of_lt_of_le (unhide L2) hm3.2.1.size; obtain ⟨w4, r4, p4, t4⟩ := put_step (unhide HH).1 (unhide T2) hm3 (unhide Hm) hkk; have e0 := (t4 0 hq3).trans i0; have e2 := (t4 2 hq3).trans i2; have H4 := hide p4; clear hm3 p4 t4 hq3)
    | fail)
  all_goals (
    go_wp2
    go_end0
    exact unhide H4)

end

end Go.Proofs.YtnipdgigjcaolaaGreat
