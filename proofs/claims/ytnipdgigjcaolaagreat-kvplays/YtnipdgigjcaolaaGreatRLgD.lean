/- The reference's Log: Commit. -/
import Derived.Test.YtnipdgigjcaolaaGreatRLgC
import Derived.Deep.RegionWith
import Derived.Test.YtnipdgigjcaolaaGreatPkV
import Derived.Deep.RegionHeldLaw
namespace Go.Proofs.YtnipdgigjcaolaaGreat
open Go.RowKit

section
variable {Q K : Nat → Prop} {w w1 : World} {l rb M B M2 B2 : Nat} {seg now : Int} {down : Bool} {s : RSt} {v : Value} {rl : List (Value × List UInt8)}

set_option maxHeartbeats 8000000 in
set_option maxRecDepth 100000 in
theorem rlcommitA (h : RLg Q w l rb seg now false s) (hf : RFit M B s) (hr : RL K w v rl) (hno : ¬ tooLong rl) (hne : rl ≠ []) (hsz : (laidOf 1 2 (rl.map (·.2))).length ≤ 1099511627776) (hn0 : 0 ≤ now) (hn1 : now ≤ 1099511627776)
    (hf2 : RFit M2 B2 (s.add (s.rto now seg) (laidOf 1 2 (rl.map (·.2)))).2) (hw : (s.add (s.rto now seg) (laidOf 1 2 (rl.map (·.2)))).2.works ≤ 1073741822) (hK : ∀ j, K j → j ≠ l ∧ j ≠ rb) (hA : (s.add (s.rto now seg) (laidOf 1 2 (rl.map (·.2)))).1 = 14) :
    Calls Tryz.prog 98 #[.pointer (some ⟨l, 0, none⟩), v] w fun e w' => e = .returned (.int .i64 (s.keepR (s.rto now seg) (laidOf 1 2 (rl.map (·.2)))).1) ∧
      RLTo Q w l rb seg (s.rto now seg) (decide ((s.keepR (s.rto now seg) (laidOf 1 2 (rl.map (·.2)))).1 ≠ 0)) (s.keepR (s.rto now seg) (laidOf 1 2 (rl.map (·.2)))).2 w' := by
  obtain ⟨vo, vc, hve⟩ := hr.shape
  have hlen := hr.len
  unfold maxLen at hlen
  have HAt := hide hr.at
  have HNo := hide hno
  have HR := hide hr
  obtain ⟨bs, hbs⟩ : ∃ bs, bs = laidOf 1 2 (rl.map (·.2)) := ⟨_, rfl⟩
  obtain ⟨nw, hnw⟩ : ∃ nw, nw = s.rto now seg := ⟨_, rfl⟩
  have Hbs := hide hbs
  have Hnw := hide hnw
  rw [← hbs, ← hnw] at hf2 hw ⊢
  rw [← hbs] at hsz
  obtain ⟨len, hlenE⟩ : ∃ len, len = rl.length := ⟨_, rfl⟩
  have hl0 : 0 < len := by
    rw [hlenE]
    exact List.length_pos_iff.2 hne
  have HL := hide hlenE
  rw [← hlenE] at hve hlen
  subst hve
  have c0 : w.cell? ⟨l, 0, none⟩ = some (.pointer (some ⟨rb, 0, none⟩)) := h.at'.cell 0
  have c1 : w.cell? ⟨l, 1, none⟩ = some (.int .i64 seg) := h.at'.cell 1
  have c2 : w.cell? ⟨l, 2, none⟩ = some (.int .i64 now) := h.at'.cell 2
  have c3 : w.cell? ⟨l, 3, none⟩ = some (.bool false) := h.at'.cell 3
  have f2 := h.at'.frozen 2
  have td : Turn (fun _ => False) w w.drew := (Turn.refl _ w).drew
  have HRd := hide (rread_any now (h.goes td).rd hf)
  have H := hide h
  have HF := hide (And.intro hf (And.intro hf2 (And.intro hw (And.intro hsz hK))))
  obtain ⟨rn, hrn⟩ : ∃ rn, rn = (s.read now).length := ⟨_, rfl⟩
  have Hrn := hide hrn
  have hrnb : rn ≤ 1152921504606846976 := by
    have h1 := rread_len hf now
    have h2 := hf.big
    omega
  have hq0 : 0 ≤ nw ∧ nw ≤ 1099511627777 := by
    rw [hnw]
    unfold RSt.rto
    split <;> omega
  obtain ⟨x, hx⟩ : ∃ x, x = (s.add nw bs).2 := ⟨_, rfl⟩
  have hkc := s.keepR_cases nw hq0.1 bs
  rw [← hx] at hkc hf2 hw
  have HF2 := hide (And.intro hf2 hw)
  have Hx := hide hx
  have hcase : (¬ seg ≤ (rn : Int) ∧ nw = now) ∨ (seg ≤ (rn : Int) ∧ nw = now + 1) := by
    rw [hnw, hrn]
    unfold RSt.rto
    by_cases hh : seg ≤ ((s.read now).length : Int)
    · rw [if_pos hh]; exact .inr ⟨hh, rfl⟩
    · rw [if_neg hh]; exact .inl ⟨hh, rfl⟩
  have Hcase := hide hcase
  rw [← hbs, ← hnw] at hA
  clear h hf hr hno hne hsz hf2 hw hbs hnw hlenE hK td hrn hx hcase
  rcases hkc with ⟨ha, hkr⟩ | ⟨ha, hsy, hkr⟩ | ⟨ha, hsy, hkr⟩
  rotate_left 1
  · rw [hA] at ha
    cases ha
  · rw [hA] at ha
    cases ha
  all_goals rw [hkr]
  all_goals (
   have Ha := hide ha
   clear hA
   try have Hsy := hide hsy
   clear hkr ha
   try clear hsy
   go_enter Tryz.func98, Tryz.ntmps98
   go_wp2_with fail
   go_loop [5] (fun i => ∃ n : Nat, i = .int .i64 n ∧ n ≤ len) (fun i => len - (intOf i).toNat)
   case atStart => exact ⟨0, rfl, by omega⟩
   case round =>
     obtain ⟨n, rfl, hn⟩ := hrel
     by_cases hlt : n < len
     · have hnl : n < rl.length := by have := unhide HL; omega
       obtain ⟨g, cap', ao, nb, c, e, e1, e2, hc⟩ := unhide HAt n hnl
       injection e with ea eb ec
       have hb1 : nb ≤ 1048576 := by
         rw [e2]
         exact Nat.le_of_not_lt (fun h => unhide HNo ⟨rl[n]'hnl, List.getElem_mem hnl, h⟩)
       have q2 : ¬ (1048576 : Int) < nb := by omega
       have q1 : (n : Int) < len := by omega
       subst ea
       clear e1 e2 eb ec
       go_wp2
       go_round
       case rel => exact ⟨n + 1, by go_num, by omega⟩
       case measure => simp [intOf]; omega
     · have q1 : ¬ (n : Int) < len := by omega
       have q0 : ((len : Int) == 0) = false := by simp; omega
       have d0 : w.drew.cell? ⟨l, 0, none⟩ = some (.pointer (some ⟨rb, 0, none⟩)) := c0
       have d1 : w.drew.cell? ⟨l, 1, none⟩ = some (.int .i64 seg) := c1
       have d2 : w.drew.cell? ⟨l, 2, none⟩ = some (.int .i64 now) := c2
       go_wp2_with fail
       go_region_held_law (fun w' => w'.cell? ⟨l, 0, none⟩ = some (.pointer (some ⟨rb, 0, none⟩)) ∧ w'.cell? ⟨l, 1, none⟩ = some (.int .i64 seg) ∧ w'.cell? ⟨l, 2, none⟩ = some (.int .i64 now)) (first | go_keep | exact ⟨e0, e1, e2⟩ | exact ⟨d0, d1, d2⟩)
         (first
         | (go_at_call 64; refine (unhide HRd).mono ?_; rintro e w5 ⟨v5, rfl, hs5, _, t5⟩; obtain ⟨o5, p5, e5⟩ := hs5.shape; rw [← unhide Hrn] at e5; have hL5 := ((unhide H).goes ((Turn.refl _ w).drew)).goes t5; have e0 : w5.cell? ⟨l, 0, none⟩ = some (.pointer (some ⟨rb, 0, none⟩)) := hL5.at'.cell 0; have e1 : w5.cell? ⟨l, 1, none⟩ = some (.int .i64 seg) := hL5.at'.cell 1; have e2 : w5.cell? ⟨l, 2, none⟩ = some (.int .i64 now) := hL5.at'.cell 2; have g2 := hL5.at'.frozen 2; have HL5 := hide (And.intro hL5 (((Turn.refl (fun _ => False) w).drew).trans t5)); clear hL5 hs5 t5 HRd; subst e5)
         | fail)
       all_goals (
         rcases unhide Hcase with ⟨hq, hnn⟩ | ⟨hq, hnn⟩
         · have hL6 := (unhide HL5).1
           have T6 := hide ((unhide HL5).2.mono (fun _ _ e => e.elim) : Turn (fun j => j = rb ∨ j = l) w w5)
           rw [← hnn] at hL6
           obtain ⟨w6, hw6⟩ : ∃ w6, w6 = w5 := ⟨_, rfl⟩
           rw [← hw6] at hL6 T6
           have HL6 := hide hL6
           clear hL6 HL5
           go_wp2_with fail
           rw [← hw6]
           clear hw6
           have hR6 := (unhide HR).kept (unhide T6) (fun j hj e => by
             have h1 := (unhide HF).2.2.2.2 j hj
             rcases e with e | e
             · exact h1.2 e
             · exact h1.1 e)
           have td6 : Turn (fun _ => False) w6 w6.drew := (Turn.refl _ w6).drew
           have HFm : Hid (Calls Tryz.prog 129 #[.slice vo len vc, .int .i64 1] w6.drew fun e w' => ∃ v', e = .returned v' ∧ Made w6.drew v' bs w') := hide (by rw [unhide Hbs]; exact rframes_any 1 (by omega) (by omega) (hR6.kept td6 (fun _ _ e => e)) (by show (laidOf 1 2 (rl.map (·.2))).length ≤ _; rw [← unhide Hbs]; exact (unhide HF).2.2.2.1))
           have k0 : w6.drew.cell? ⟨l, 0, none⟩ = some (.pointer (some ⟨rb, 0, none⟩)) := (unhide HL6).at'.cell 0
           have k2 : w6.drew.cell? ⟨l, 2, none⟩ = some (.int .i64 nw) := (unhide HL6).at'.cell 2
           have T6' := hide ((unhide T6).trans (td6.mono (fun _ _ e => e.elim)))
           have HL6' := hide ((unhide HL6).goes td6)
           have Z6 : Hid (w6.drew.heap.size = w6.heap.size) := hide rfl
           clear hR6 td6 hnn hq
           first | (go_region_with
             (first
             | (go_at_call 129; refine (unhide HFm).mono ?_; rintro e w7 ⟨v7, rfl, hm7⟩; obtain ⟨o7, p7, e7⟩ := hm7.1.shape; have hL7 := (unhide HL6').goes hm7.2.1; have T7 := hide ((unhide T6').trans (hm7.2.1.mono (fun _ _ e => e.elim))); have r0 : w7.cell? ⟨l, 0, none⟩ = some (.pointer (some ⟨rb, 0, none⟩)) := hL7.at'.cell 0; have r2 : w7.cell? ⟨l, 2, none⟩ = some (.int .i64 nw) := hL7.at'.cell 2; have HAd := hide (radd_any nw v7 bs hL7.rd (unhide HF).1 hm7.1.sees (fun _ e => by rw [hm7.1.slab_eq] at e; have h1 := hm7.2.2 _ e; have h2 := (unhide HL6).rlt; have h3 := unhide Z6; omega) (by have := (unhide HF).2.2.2.1; omega)); rw [unhide Ha, ← unhide Hx] at HAd; clear hm7; subst e7)
             | (go_at_call 15; refine (unhide HAd).mono ?_; rintro e w8 ⟨rfl, hto8⟩; have hL8 := hL7.turns hto8; have T8 := hide ((unhide T7).trans (hto8.2.mono (fun _ _ e => .inl e))); have s0 : w8.cell? ⟨l, 0, none⟩ = some (.pointer (some ⟨rb, 0, none⟩)) := hL8.at'.cell 0; have s2 : w8.cell? ⟨l, 2, none⟩ = some (.int .i64 nw) := hL8.at'.cell 2; have HSy := hide (rsync_any hL8.rd (unhide HF2).1 (unhide HF2).2); try rw [unhide Hsy] at HSy)
             | (go_at_call 17; refine (unhide HSy).mono ?_; rintro e w9 ⟨rfl, hto9⟩; have hL9 := hL8.turns hto9; have T9 := hide ((unhide T8).trans (hto9.2.mono (fun _ _ e => .inl e))); have u0 : w9.cell? ⟨l, 0, none⟩ = some (.pointer (some ⟨rb, 0, none⟩)) := hL9.at'.cell 0; have u2 : w9.cell? ⟨l, 2, none⟩ = some (.int .i64 nw) := hL9.at'.cell 2)
             | (go_at_call 130; refine (rdone_okC Hsy (.pointer (some ⟨l, 0, none⟩)) _).mono ?_; rintro e w10 ⟨rfl, rfl⟩)
             | (go_at_call 130; refine (rdone_noB Hsy hL9).mono ?_; rintro e w10 ⟨rfl, hL10, t10⟩; have u0 : w10.cell? ⟨l, 0, none⟩ = some (.pointer (some ⟨rb, 0, none⟩)) := hL10.at'.cell 0; have u2 : w10.cell? ⟨l, 2, none⟩ = some (.int .i64 nw) := hL10.at'.cell 2)
             | (go_at_call 130; refine (rdone_no hL8).mono ?_; rintro e w10 ⟨rfl, hL10, t10⟩; have u0 : w10.cell? ⟨l, 0, none⟩ = some (.pointer (some ⟨rb, 0, none⟩)) := hL10.at'.cell 0; have u2 : w10.cell? ⟨l, 2, none⟩ = some (.int .i64 nw) := hL10.at'.cell 2)
             | fail)) | fail
           all_goals (
             first
             | (have Hend := hide (RLTo.up3 hL10 (unhide T7).size (unhide T8).size ((unhide T9).trans (t10.mono (fun _ _ e => .inr e)))))
             | (have Hend := hide (RLTo.up2 hL10 (unhide T7).size ((unhide T8).trans (t10.mono (fun _ _ e => .inr e)))))
             | (have Hend := hide (RLTo.up3 hL9 (unhide T7).size (unhide T8).size (unhide T9)))
             go_wp2
             go_ret
             exact ⟨rfl, unhide Hend⟩)
         · have hL5 := (unhide HL5).1
           have t6 : Turn (fun j => j = l) w5 (w5.setCell ⟨l, 2, none⟩ (.int .i64 (now + 1))) := (Turn.refl (fun j => j = l) w5).setCell (p := ⟨l, 2, none⟩) (.inl rfl) _
           have hL6 : RLg Q (w5.setCell ⟨l, 2, none⟩ (.int .i64 (now + 1))) l rb seg nw false s := ⟨hL5.rd.keeps t6 (fun j hj e => hL5.out (e ▸ hj)) (fun e => hL5.ne e.symm), by rw [hnn]; simpa using hL5.at'.set 2 (.int .i64 (now + 1)), hL5.ne, hL5.out⟩
           have T6 := hide (((unhide HL5).2.mono (fun _ _ e => e.elim) : Turn (fun j => j = rb ∨ j = l) w w5).trans (t6.mono (fun _ _ e => .inr e)))
           obtain ⟨w6, hw6⟩ : ∃ w6, w6 = w5.setCell ⟨l, 2, none⟩ (.int .i64 (now + 1)) := ⟨_, rfl⟩
           rw [← hw6] at hL6 T6
           have HL6 := hide hL6
           have q3 : now + 1 ≤ 9223372036854775807 := by omega
           clear hL6 HL5 hL5 t6
           go_wp2_with fail
           rw [← hw6]
           clear hw6
           have hR6 := (unhide HR).kept (unhide T6) (fun j hj e => by
             have h1 := (unhide HF).2.2.2.2 j hj
             rcases e with e | e
             · exact h1.2 e
             · exact h1.1 e)
           have td6 : Turn (fun _ => False) w6 w6.drew := (Turn.refl _ w6).drew
           have HFm : Hid (Calls Tryz.prog 129 #[.slice vo len vc, .int .i64 1] w6.drew fun e w' => ∃ v', e = .returned v' ∧ Made w6.drew v' bs w') := hide (by rw [unhide Hbs]; exact rframes_any 1 (by omega) (by omega) (hR6.kept td6 (fun _ _ e => e)) (by show (laidOf 1 2 (rl.map (·.2))).length ≤ _; rw [← unhide Hbs]; exact (unhide HF).2.2.2.1))
           have k0 : w6.drew.cell? ⟨l, 0, none⟩ = some (.pointer (some ⟨rb, 0, none⟩)) := (unhide HL6).at'.cell 0
           have k2 : w6.drew.cell? ⟨l, 2, none⟩ = some (.int .i64 nw) := (unhide HL6).at'.cell 2
           have T6' := hide ((unhide T6).trans (td6.mono (fun _ _ e => e.elim)))
           have HL6' := hide ((unhide HL6).goes td6)
           have Z6 : Hid (w6.drew.heap.size = w6.heap.size) := hide rfl
           clear hR6 td6 hnn hq
           first | (go_region_with
             (first
             | (go_at_call 129; refine (unhide HFm).mono ?_; rintro e w7 ⟨v7, rfl, hm7⟩; obtain ⟨o7, p7, e7⟩ := hm7.1.shape; have hL7 := (unhide HL6').goes hm7.2.1; have T7 := hide ((unhide T6').trans (hm7.2.1.mono (fun _ _ e => e.elim))); have r0 : w7.cell? ⟨l, 0, none⟩ = some (.pointer (some ⟨rb, 0, none⟩)) := hL7.at'.cell 0; have r2 : w7.cell? ⟨l, 2, none⟩ = some (.int .i64 nw) := hL7.at'.cell 2; have HAd := hide (radd_any nw v7 bs hL7.rd (unhide HF).1 hm7.1.sees (fun _ e => by rw [hm7.1.slab_eq] at e; have h1 := hm7.2.2 _ e; have h2 := (unhide HL6).rlt; have h3 := unhide Z6; omega) (by have := (unhide HF).2.2.2.1; omega)); rw [unhide Ha, ← unhide Hx] at HAd; clear hm7; subst e7)
             | (go_at_call 15; refine (unhide HAd).mono ?_; rintro e w8 ⟨rfl, hto8⟩; have hL8 := hL7.turns hto8; have T8 := hide ((unhide T7).trans (hto8.2.mono (fun _ _ e => .inl e))); have s0 : w8.cell? ⟨l, 0, none⟩ = some (.pointer (some ⟨rb, 0, none⟩)) := hL8.at'.cell 0; have s2 : w8.cell? ⟨l, 2, none⟩ = some (.int .i64 nw) := hL8.at'.cell 2; have HSy := hide (rsync_any hL8.rd (unhide HF2).1 (unhide HF2).2); try rw [unhide Hsy] at HSy)
             | (go_at_call 17; refine (unhide HSy).mono ?_; rintro e w9 ⟨rfl, hto9⟩; have hL9 := hL8.turns hto9; have T9 := hide ((unhide T8).trans (hto9.2.mono (fun _ _ e => .inl e))); have u0 : w9.cell? ⟨l, 0, none⟩ = some (.pointer (some ⟨rb, 0, none⟩)) := hL9.at'.cell 0; have u2 : w9.cell? ⟨l, 2, none⟩ = some (.int .i64 nw) := hL9.at'.cell 2)
             | (go_at_call 130; refine (rdone_okC Hsy (.pointer (some ⟨l, 0, none⟩)) _).mono ?_; rintro e w10 ⟨rfl, rfl⟩)
             | (go_at_call 130; refine (rdone_noB Hsy hL9).mono ?_; rintro e w10 ⟨rfl, hL10, t10⟩; have u0 : w10.cell? ⟨l, 0, none⟩ = some (.pointer (some ⟨rb, 0, none⟩)) := hL10.at'.cell 0; have u2 : w10.cell? ⟨l, 2, none⟩ = some (.int .i64 nw) := hL10.at'.cell 2)
             | (go_at_call 130; refine (rdone_no hL8).mono ?_; rintro e w10 ⟨rfl, hL10, t10⟩; have u0 : w10.cell? ⟨l, 0, none⟩ = some (.pointer (some ⟨rb, 0, none⟩)) := hL10.at'.cell 0; have u2 : w10.cell? ⟨l, 2, none⟩ = some (.int .i64 nw) := hL10.at'.cell 2)
             | fail)) | fail
           all_goals (
             first
             | (have Hend := hide (RLTo.up3 hL10 (unhide T7).size (unhide T8).size ((unhide T9).trans (t10.mono (fun _ _ e => .inr e)))))
             | (have Hend := hide (RLTo.up2 hL10 (unhide T7).size ((unhide T8).trans (t10.mono (fun _ _ e => .inr e)))))
             | (have Hend := hide (RLTo.up3 hL9 (unhide T7).size (unhide T8).size (unhide T9)))
             go_wp2
             go_ret
             exact ⟨rfl, unhide Hend⟩)))


set_option maxRecDepth 100000 in
theorem rlcommit_any (h : RLg Q w l rb seg now false s) (hf : RFit M B s) (hr : RL K w v rl) (hno : ¬ tooLong rl) (hne : rl ≠ []) (hsz : (laidOf 1 2 (rl.map (·.2))).length ≤ 1099511627776) (hn0 : 0 ≤ now) (hn1 : now ≤ 1099511627776)
    (hf2 : RFit M2 B2 (s.add (s.rto now seg) (laidOf 1 2 (rl.map (·.2)))).2) (hw : (s.add (s.rto now seg) (laidOf 1 2 (rl.map (·.2)))).2.works ≤ 1073741822) (hK : ∀ j, K j → j ≠ l ∧ j ≠ rb) :
    Calls Tryz.prog 98 #[.pointer (some ⟨l, 0, none⟩), v] w fun e w' => e = .returned (.int .i64 (s.keepR (s.rto now seg) (laidOf 1 2 (rl.map (·.2)))).1) ∧
      RLTo Q w l rb seg (s.rto now seg) (decide ((s.keepR (s.rto now seg) (laidOf 1 2 (rl.map (·.2)))).1 ≠ 0)) (s.keepR (s.rto now seg) (laidOf 1 2 (rl.map (·.2)))).2 w' := by
  have h0 : 0 ≤ s.rto now seg := by
    unfold RSt.rto
    split <;> omega
  rcases s.keepR_cases (s.rto now seg) h0 (laidOf 1 2 (rl.map (·.2))) with ⟨ha, _⟩ | ⟨ha, _⟩ | ⟨ha, _⟩
  · exact rlcommitA h hf hr hno hne hsz hn0 hn1 hf2 hw hK ha
  · exact rlcommitBC h hf hr hno hne hsz hn0 hn1 hf2 hw hK ha
  · exact rlcommitBC h hf hr hno hne hsz hn0 hn1 hf2 hw hK ha

end

end Go.Proofs.YtnipdgigjcaolaaGreat
