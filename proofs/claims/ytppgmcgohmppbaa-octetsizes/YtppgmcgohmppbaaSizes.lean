/- The law of sizes: its walk. -/
import Derived.Test.YtppgmcgohmppbaaOctR
import Derived.Test.YtppgmcgohmppbaaHand
namespace Go.Proofs.Ytppgmcgohmppbaa
open Go.RowKit

theorem ext_le (s : ByteArray) : (s.extract 0 60000).size ≤ 60000 := by
  rw [ByteArray.size_extract]
  omega

set_option maxHeartbeats 1000000 in
theorem sizes_any (a b c : Int) (s : ByteArray) (cut : Int) (w : World) (hc0 : -9223372036854775808 ≤ c) (hc1 : c ≤ 9223372036854775807) (hs : s.size ≤ maxLen) :
    Calls Try.prog 7 #[.int .i64 a, .int .i64 b, .int .i64 c, .string s, .int .i64 cut] w fun e w' => e = .returned (.bool true) ∧ Turn (fun _ => False) w w' := by
  have hc := hide (And.intro hc0 hc1)
  clear hc0 hc1
  have hs63 : (s.size : Int) ≤ 9223372036854775807 := by unfold maxLen at hs; omega
  clear hs
  go_enter Try.func7, Try.ntmps7
  go_wp2_with fail
  refine (newWriter_any w).mono ?_
  rintro e w2 ⟨rfl, rfl⟩
  go_wp2_with fail
  refine (known_any _).mono ?_
  rintro e w3 ⟨rfl, ht3⟩
  have hw3 : WAt 54 w3 w.heap.size (.slice none 0 0) [] := (WAt.new 54 w).kept ht3 (fun h => h) (fun _ _ h => h)
  have t3 : Turn (fun _ => False) w w3 := ((Turn.refl _ _).alloc _).trans ht3
  obtain ⟨bl, hbl⟩ : ∃ bl, bl = w.heap.size := ⟨_, rfl⟩
  rw [← hbl] at hw3
  have Hbl := hide hbl
  rw [← hbl]
  clear ht3 hbl
  go_wp2_with fail
  all_goals first
    | (have h1 : (60000 : Int) < s.size := ‹_›; have ht := ext_le s; generalize s.extract 0 60000 = t at *)
    | (have h1 : (s.size : Int) ≤ 60000 := ‹_›; have ht : s.size ≤ 60000 := by omega
       generalize s = t at *)
  all_goals
    refine (u8_any bl _ [] a w3 hw3 (by simp)).mono ?_
    rintro e w4 ⟨rfl, v4, hst4⟩
    go_wp2_with fail
    refine (u16_any bl v4 _ b w4 hst4.at' (by simp [be_length])).mono ?_
    rintro e w5 ⟨rfl, v5, hst5⟩
    go_wp2_with fail
    refine (u64_any bl v5 _ c w5 hst5.at' (by simp [be_length])).mono ?_
    rintro e w6 ⟨rfl, v6, hst6⟩
    go_wp2_with fail
    refine (text_yes bl v6 t _ w6 hst6.at' (by omega) (by simp [be_length]; omega)).mono ?_
    rintro e w7 ⟨rfl, v7, hst7⟩
    have hst : WStep 54 bl w3 (.slice none 0 0) w7 v7 (laid a b c t.data.toList) := ((hst4.trans hst5).trans hst6).trans hst7
    have hw7 := hst.at'
    have t7 : Turn (fun _ => False) w w7 := t3.trans' hst.turn fun i hi hS => by
      rcases hS with hS | hS
      · have := unhide Hbl; omega
      · simp [Value.ownBlock] at hS
    clear hst hst4 hst5 hst6 hst7 hw3 t3
    have hL := laid_length a b c t.data.toList
    rw [text_length] at hL
    go_wp2_with fail
    refine (bytes_any bl v7 _ w7 hw7 (by rw [hL]; omega)).mono ?_
    rintro e w8 ⟨v8, rfl, ho8, hg8, _⟩
    have hw8 : WAt 54 w8 bl v7 (laid a b c t.data.toList) := hw7.kept (turn_of_grown hg8) (fun h => h) (fun _ _ h => h)
    have t8 := t7.trans (turn_of_grown hg8)
    obtain ⟨ao, cp, rfl⟩ := ho8.shape
    clear ho8 hg8 hw7 t7
    rw [hL]
    go_wp2_with fail
    refine (bytes_any bl v7 _ w8 hw8 (by rw [hL]; omega)).mono ?_
    rintro e w9 ⟨v9, rfl, ho9, hg9, _⟩
    have t9 := t8.trans (turn_of_grown hg9)
    obtain ⟨g, cp9, rfl⟩ := ho9.solid (by omega)
    have hsee := ho9.sees
    have hg9l : g < w9.heap.size := ho9.lt rfl
    clear hg9 hw8 t8 ho9
    have hN : ((13 + t.size : Nat) : Int) = 13 + (t.size : Int) := by omega
    rw [hL]
    go_wp2_with fail
    refine (pick_any cut (13 + (t.size : Int)) w9 (by omega) (by omega)).mono ?_
    rintro e w10 ⟨rfl, rfl⟩
    have hk0 := Int.emod_nonneg cut (show (13 + (t.size : Int)) ≠ 0 by omega)
    have hk1 := Int.emod_lt_of_pos cut (show 0 < (13 + (t.size : Int)) by omega)
    generalize cut % (13 + (t.size : Int)) = kk at *
    obtain ⟨k, rfl⟩ := Int.eq_ofNat_of_zero_le hk0
    have hk : k < 13 + t.size := by omega
    have hcap : 13 + t.size ≤ cp9 := by
      rcases hsee with ⟨h, _⟩ | ⟨_, _, e, h, _⟩
      · simp at h
      · simp only [Value.slice.injEq, true_and] at e
        rw [e.2, ← hL]
        exact h
    have hfr := hsee.front k (by omega)
    clear hk0 hk1
    go_wp2_with fail
    refine (newReader_any _ _ w9 hfr (by simp [hL]; omega)).mono ?_
    rintro e w11 ⟨rb, rfl, rv, hr11, hrb, hrv, ht11⟩
    clear hfr
    have q := hide (ru8_any rb rv _ w11 hr11)
    go_wp2_with fail
    refine (unhide q).mono ?_
    clear q
    rintro e w12 ⟨rfl, v12, hr12⟩
    have q := hide (ru16_any rb v12 _ w12 hr12.at')
    go_wp2_with fail
    refine (unhide q).mono ?_
    clear q
    rintro e w13 ⟨rfl, v13, hr13⟩
    have q := hide (ru64_any rb v13 _ w13 hr13.at')
    go_wp2_with fail
    refine (unhide q).mono ?_
    clear q
    rintro e w14 ⟨rfl, v14, hr14⟩
    have q := hide (rtext_any rb v14 _ w14 hr14.at')
    go_wp2_with fail
    refine (unhide q).mono ?_
    clear q
    rintro e w15 ⟨rfl, v15, hr15⟩
    have hst := ((hr12.trans hr13).trans hr14).trans hr15
    rw [laid_cut a b c _ (by rw [text_length]; omega) k (by rw [text_length]; omega)] at hst
    have hr16 : RIs 52 w15 rb v15 ⟨[], true⟩ := hst.at'
    have hsee15 : Sees w15 (.slice (some ⟨g, 0, none⟩) (laid a b c t.data.toList).length cp9) (laid a b c t.data.toList) := (hsee.kept ht11 (fun _ _ h => h)).kept hst.turn (fun k hk e => by simp only [slab, Option.some.injEq] at hk; omega)
    have t15 : Turn (fun _ => False) w w15 := (t9.trans ht11).trans' hst.turn (fun i hi e => by have := t9.size; omega)
    rw [hL] at hsee15
    have t9s := Nat.le_trans t9.size (Nat.le_trans ht11.size hst.turn.size)
    clear hst hr12 hr13 hr14 hr15 hr11 hsee t9 ht11 hrv
    go_wp2_with fail
    refine (newReader_any _ _ w15 hsee15 (by rw [hL]; omega)).mono ?_
    rintro e w16 ⟨tb, rfl, tv, ht16, htb, _, htt⟩
    have hrt : rb < w15.heap.size := hr16.1.lt
    have hr17 : RIs 52 w16 rb v15 ⟨[], true⟩ := hr16.kept htt (fun h => h) (fun _ _ h => h)
    have t16 := t15.trans htt
    clear hr16 t15 htt hsee15
    go_wp2_with fail
    refine (lack_any rb v15 _ w16 hr17).mono ?_
    rintro e w17 ⟨rfl, rfl⟩
    go_wp2_with fail
    refine (left_any rb v15 _ w16 hr17).mono ?_
    rintro e w17 ⟨rfl, rfl⟩
    have q := ru8_any tb tv _ w16 ht16
    rw [laid1, num_be1] at q
    have Q := hide q
    clear q
    go_wp2_with fail
    refine (unhide Q).mono ?_
    clear Q
    rintro e w18 ⟨rfl, v18, hr18⟩
    go_wp2_with fail
    refine (pick_any a 256 w18 (by omega) (by omega)).mono ?_
    rintro e w19 ⟨rfl, rfl⟩
    have q := ru16_any tb v18 ⟨be b 2 ++ (be c 8 ++ sh t.data.toList), false⟩ w18 hr18.at'
    simp only [laid2, num_be2] at q
    have Q := hide q
    clear q
    go_wp2_with fail
    refine (unhide Q).mono ?_
    clear Q
    rintro e w19 ⟨rfl, v19, hr19⟩
    go_wp2_with fail
    refine (pick_any b 65536 w19 (by omega) (by omega)).mono ?_
    rintro e w20 ⟨rfl, rfl⟩
    have hcw : wrap64 c = c := by have := (unhide hc); unfold wrap64; omega
    have q := ru64_any tb v19 ⟨be c 8 ++ sh t.data.toList, false⟩ w19 hr19.at'
    simp only [laid3, num_be8, hcw] at q
    have Q := hide q
    clear q hcw
    go_wp2_with fail
    refine (unhide Q).mono ?_
    clear Q
    rintro e w20 ⟨rfl, v20, hr20⟩
    have q := rtext_any tb v20 ⟨sh t.data.toList, false⟩ w20 hr20.at'
    simp only [laid4 _ (show t.data.toList.length ≤ 65535 by rw [text_length]; omega), Array.toArray_toList] at q
    have Q := hide q
    clear q
    go_wp2_with fail
    refine (unhide Q).mono ?_
    clear Q
    rintro e w21 ⟨rfl, v21, hr21⟩
    have hst := ((hr18.trans hr19).trans hr20).trans hr21
    have hr22 : RIs 52 w21 tb v21 ⟨[], false⟩ := hst.at'
    have t21 : Turn (fun _ => False) w w21 := t16.trans' hst.turn (fun i hi e => by have := t16.size; have := t9s; omega)
    go_wp2_with fail
    refine (lack_any tb v21 _ w21 hr22).mono ?_
    rintro e w22 ⟨rfl, rfl⟩
    clear hst hr18 hr19 hr20 hr21 hr22 ht16 hr17
    go_wp2
    go_ret
    exact ⟨rfl, t21⟩

end Go.Proofs.Ytppgmcgohmppbaa
