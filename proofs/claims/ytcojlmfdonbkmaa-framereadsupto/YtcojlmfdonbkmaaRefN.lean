/- What the reference's Next tells of any bytes. -/
import Derived.Test.YtcojlmfdonbkmaaRefR
import Derived.Test.YtcojlmfdonbkmaaRefF
namespace Go.Proofs.Ytcojlmfdonbkmaa
open Go.RowKit

/-- A Reader in new memory, over bytes that came in; nothing else has turned. -/
structure RRef (T : TypeId) (w w1 : World) (b : Nat) (v : Value) (s : St) : Prop where
  at' : RIs T w1 b v s
  turn : Turn (fun _ => False) w w1
  new : w.heap.size ≤ b

theorem RRef.step {T : TypeId} {w w1 w2 : World} {b : Nat} {v : Value} {s s2 : St} (h : RRef T w w1 b v s) (hn : Now T w1 b v s2 w2) : ∃ v2, RRef T w w2 b v2 s2 := by
  obtain ⟨v2, hst⟩ := hn
  exact ⟨v2, hst.at', h.turn.trans' hst.turn (fun i hi e => by have := h.new; omega), h.new⟩

theorem RRef.start (T : TypeId) (w : World) (v : Value) (bs : List UInt8) (hs : Sees w v bs) (h0 : 0 < bs.length) : RRef T w (w.alloc (.cells #[v, .bool false] T)) w.heap.size v ⟨bs, false⟩ :=
  ⟨⟨At.new _ _ _, hs.kept ((Turn.refl (fun _ => False) w).alloc _) (fun _ _ h => h), fun e => by have := slab_lt hs h0 e; omega⟩, (Turn.refl _ _).alloc _, Nat.le_refl _⟩

/-- Behind the reference's Next: the body; nothing has turned. -/
def RefIs (w : World) (r : Told) (v : Value) (w' : World) : Prop := Owns w' v r.body ∧ Turn (fun _ => False) w w'

theorem RefIs.none {w w' : World} (ht : Turn (fun _ => False) w w') (k s e : Int) : RefIs w ⟨k, [], s, e⟩ (.slice none 0 0) w' := ⟨Owns.nil _, ht⟩

set_option maxHeartbeats 400000 in
set_option maxRecDepth 100000 in
theorem refNext_short (v : Value) (bs : List UInt8) (w : World) (hs : Sees w v bs) (hl : bs.length < 9) :
    Calls Try.prog 12 #[v] w fun e w' => ∃ v', e = .returned (toldValue (tell bs) v') ∧ RefIs w (tell bs) v' w' := by
  rw [tell_short bs hl]
  obtain ⟨ao, cap, rfl⟩ := hs.shape
  have hl' : (bs.length : Int) < 9 := by omega
  go_enter Try.func12, Try.ntmps12
  go_wp2
  (try simp only [Exit.inBlock, Exit.then])
  refine bodyPost_ret (results_tmp4 rfl _ _ _) rfl ?_
  exact ⟨_, rfl, RefIs.none (Turn.refl _ _) _ _ _⟩

theorem St.ok_no (bs : List UInt8) : (St.mk bs false).ok := fun h => by cases h

set_option maxHeartbeats 2000000 in
set_option maxRecDepth 100000 in
theorem refNext_long (v : Value) (bs A L S R : List UInt8) (w : World) (hs : Sees w v bs) (hb : bs.length ≤ 140737488355328) (h1 : A.length = 1) (h2 : L.length = 4) (h3 : S.length = 4) (hbs : bs = A ++ (L ++ (S ++ R))) :
    Calls Try.prog 12 #[v] w fun e w' => ∃ v', e = .returned (toldValue (told A L S R) v') ∧ RefIs w (told A L S R) v' w' := by
  obtain ⟨i0, hi, hz0, hz1, hz2⟩ := info_parts Try.infoU8
  have hlen := congrArg List.length hbs
  simp only [List.length_append, h1, h2, h3] at hlen
  have t5 : bs.take 5 = A ++ L := hbs ▸ take5 h1 h2
  have d9 : bs.drop 9 = R := hbs ▸ drop9 h1 h2 h3
  have bL := num4_lt h2
  have bS := num4_lt h3
  obtain ⟨a, cap, rfl, hcap, hcapm⟩ : ∃ a cap, v = .slice (some a) bs.length cap ∧ bs.length ≤ cap ∧ cap ≤ maxLen := by
    rcases hs with ⟨_, e⟩ | ⟨a, cap, e, hc, hm', _⟩
    · rw [e] at hlen
      simp at hlen
      omega
    · exact ⟨a, cap, e, hc, hm'⟩
  unfold maxLen at hcapm
  have s5 : Sees w (.slice (some a) 5 cap) (A ++ L) := t5 ▸ hs.front 5 (by omega)
  have sm := hide (fun n (hn : 9 + n ≤ bs.length) a2 h2 => d9 ▸ hs.mid 9 n hn a2 h2)
  have n1 := RRef.start 59 w _ bs hs (by omega)
  have Q1 := hide (fun b v w (h : RIs 59 w b v ⟨A ++ (L ++ (S ++ R)), false⟩) => rr_u8 b v _ w h (St.ok_no _) (by simp only [List.length_append]; omega))
  have Q2 := hide (fun b v w (h : RIs 59 w b v ⟨L ++ (S ++ R), false⟩) => rr_u32 b v _ w h (St.ok_no _) (by simp only [List.length_append]; omega))
  have Q3 := hide (fun b v w (h : RIs 59 w b v ⟨S ++ R, false⟩) => rr_u32 b v _ w h (St.ok_no _) (by simp only [List.length_append]; omega))
  simp only [St.take_all A (L ++ (S ++ R)) false 1 (by omega)] at Q1
  simp only [St.take_all L (S ++ R) false 4 (by omega)] at Q2
  simp only [St.take_all S R false 4 (by omega)] at Q3
  have n1' : RRef 59 w (w.alloc (.cells #[.slice (some a) bs.length cap, .bool false] 59)) w.heap.size (.slice (some a) bs.length cap) ⟨A ++ (L ++ (S ++ R)), false⟩ := ⟨by have := n1.at'; rw [RIs] at this ⊢; rw [← hbs]; exact this, n1.turn, n1.new⟩
  clear hbs t5 d9 hs n1
  generalize bs.length = len at *
  have HL := hide hlen
  have hl9' : 9 ≤ len := by omega
  clear hlen
  have hl9 : ¬ (len : Int) < 9 := by omega
  have tf := hide (told_form A L S R)
  have ts := hide (told_short A L S R)
  have tq := hide (told_sum A L S R)
  have tw := hide (told_well A L S R)
  generalize told A L S R = r at *
  generalize num A = ka at *
  generalize num L = nl at *
  generalize num S = ns at *
  go_enter Try.func12, Try.ntmps12
  go_wp2_with fail
  refine (unhide Q1 w.heap.size _ _ n1'.at').mono ?_
  rintro e w2 ⟨rfl, hn2⟩
  obtain ⟨v2, n2⟩ := n1'.step hn2
  clear hn2 n1' Q1
  obtain ⟨b, hb0⟩ : ∃ b, b = w.heap.size := ⟨_, rfl⟩
  rw [← hb0] at n2
  have hb1 : w.heap.size = b := hb0.symm
  simp only [hb1]
  clear hb0 hb1
  go_wp2_with fail
  refine (unhide Q2 b v2 w2 n2.at').mono ?_
  rintro e w3 ⟨rfl, hn3⟩
  obtain ⟨v3, n3⟩ := n2.step hn3
  clear hn3 n2 Q2
  go_wp2_with fail
  refine (unhide Q3 b v3 w3 n3.at').mono ?_
  rintro e w4 ⟨rfl, hn4⟩
  obtain ⟨v4, n4⟩ := n3.step hn4
  have tt := n4.turn
  clear hn4 n3 Q3 n4
  obtain ⟨m, rfl⟩ := Int.eq_ofNat_of_zero_le bS.1
  have hmm : (m : Int) % 4294967296 = m := by omega
  have hmw : IntKind.u32.wrap (m : Int) = m := by rw [IntKind.wrap_u32']; omega
  by_cases c1 : ka = 0
  · subst c1
    have hx := RefIs.none tt 0 0 5
    clear tt
    go_wp2
    (try simp only [Exit.inBlock, Exit.then])
    refine bodyPost_ret (results_tmp4 rfl _ _ _) rfl ?_
    rw [unhide tf (by simp)]
    exact ⟨_, rfl, hx⟩
  have kb : (ka == 0) = false := by simpa using c1
  by_cases c2 : 1048576 < nl
  · have hx := RefIs.none tt 0 0 5
    clear tt
    go_wp2
    (try simp only [Exit.inBlock, Exit.then])
    refine bodyPost_ret (results_tmp4 rfl _ _ _) rfl ?_
    rw [unhide tf (.inr c2)]
    exact ⟨_, rfl, hx⟩
  have C12 : Hid (¬ (ka = 0 ∨ 1048576 < nl)) := hide (by omega)
  obtain ⟨n, rfl⟩ := Int.eq_ofNat_of_zero_le bL.1
  by_cases c3 : (R.length : Int) < n
  · have hx := RefIs.none tt 0 0 7
    have c3' : (len : Int) - 9 < n := by have := unhide HL; omega
    have C3 := hide c3
    clear tt c3
    go_wp2
    (try simp only [Exit.inBlock, Exit.then])
    refine bodyPost_ret (results_tmp4 rfl _ _ _) rfl ?_
    rw [unhide ts (unhide C12) (unhide C3)]
    exact ⟨_, rfl, hx⟩
  have c3' : ¬ (len : Int) - 9 < n := by have := unhide HL; omega
  have c3'' : (9 : Int) + n ≤ len := by omega
  have hRn : n ≤ R.length := by omega
  have C3 := hide c3
  clear c3
  have sR : ∀ a2, (a2 = a.add 9 ∨ 9 = cap) → Sees (w4.alloc (.cells #[] 5)) (.slice (some a2) n (cap - 9)) (R.take n) := fun a2 h2 => (unhide sm n (by omega) a2 h2).kept (tt.alloc _) (fun _ _ h => h)
  have hB : (R.take n).length = n := by rw [List.length_take]; omega
  have hal : (A ++ L).length = 5 := by rw [List.length_append]; omega
  simp only [Int.toNat_natCast] at tq tw
  generalize hcs : csum (A ++ L ++ R.take n) = cs at *
  have Hcs := hide hcs
  clear hcs sm
  generalize R.take n = B at *
  have HB := hide hB
  have hBn : B.length ≤ n := by omega
  clear hB
  by_cases hc9 : cap = 9
  · subst hc9
    have s0 : Sees (w4.alloc (.cells #[] 5)) (.slice (some a) (9 + n - 9) 0) B := by rw [Nat.add_sub_cancel_left]; exact sR a (.inr rfl)
    clear sR
    go_wp2_with (at_builtin; refine wpList_append_sees _ rfl (.tmp 35) (.tmp 39) 25 rfl i0 Try.underlying25 hi hz0 hz1 hz2 _ [] rfl (owns_empty w4) _ B rfl s0 (by simp only [List.length_nil]; omega) ?_)
    intro v5 w5 ho hg hk
    have m5 := Made.append ho hg hk
    obtain ⟨ao5, cap5, e5⟩ := m5.1.shape
    subst e5
    have t5 := tt.trans m5.2.1
    clear ho hg hk s0
    have s55 : Sees (w5.alloc (.cells #[] 5)) (.slice (some a) 5 9) (A ++ L) := s5.kept (t5.alloc _) (fun _ _ h => h)
    have hal5 : (A ++ L).length ≤ 5 := by omega
    have HA := hide hal
    clear hal
    generalize A ++ L = F at *
    go_wp2_with (at_builtin; refine wpList_append_sees _ rfl (.tmp 41) (.tmp 43) 25 rfl i0 Try.underlying25 hi hz0 hz1 hz2 _ [] rfl (owns_empty w5) _ F rfl s55 (by simp only [List.length_nil]; omega) ?_)
    intro v6 w6 ho hg hk
    have m6 := Made.append ho hg hk
    obtain ⟨ao6, cap6, e6⟩ := m6.1.shape
    subst e6
    clear ho hg hk s55
    have o6 := m5.1.kept m6.2.1 (fun _ _ h => h)
    go_wp2_with (at_builtin; refine wpList_append_sees _ rfl (.tmp 44) (.tmp 45) 25 rfl i0 Try.underlying25 hi hz0 hz1 hz2 _ F rfl m6.1 _ B rfl o6.sees (by omega) ?_)
    intro v7 w7 ho hg hk
    have m7 := m6.more ho hg hk
    have o7 := m5.1.kept m7.2.1 (fun _ _ h => h)
    have t7 := t5.trans m7.2.1
    clear ho hg hk m6 o6 t5 tt
    obtain ⟨ao7, cap7, e7⟩ := m7.1.shape
    subst e7
    have s7 := m7.1.sees
    rw [List.length_append] at s7
    go_wp2_with fail
    refine (refSum_any (.slice ao7 (F.length + B.length) cap7) (F ++ B) w7 s7).mono ?_
    rintro e w8 ⟨rfl, rfl⟩
    rw [unhide Hcs]
    clear m7 s7 m5
    by_cases c4 : (m : Int) = cs
    · have c4n : m = cs := by omega
      have H4 := hide c4
      clear c4
      subst c4n
      have e4 : ((m : Int) != (m : Int)) = false := by simp
      go_wp2
      (try simp only [Exit.inBlock, Exit.then])
      refine bodyPost_ret (results_tmp4 rfl _ _ _) rfl ?_
      rw [unhide tw (unhide C12) (unhide C3) (unhide H4)]
      exact ⟨_, rfl, o7, t7⟩
    · have e4 : ((cs : Int) != (m : Int)) = true := by simp; omega
      have H4 := hide c4
      clear c4
      go_wp2
      (try simp only [Exit.inBlock, Exit.then])
      refine bodyPost_ret (results_tmp4 rfl _ _ _) rfl ?_
      rw [unhide tq (unhide C12) (unhide C3) (unhide H4)]
      exact ⟨_, rfl, Owns.nil _, t7⟩
  · have s0 : Sees (w4.alloc (.cells #[] 5)) (.slice (some (a.add 9)) (9 + n - 9) (cap - 9)) B := by rw [Nat.add_sub_cancel_left]; exact sR _ (.inl rfl)
    clear sR
    go_wp2_with (at_builtin; refine wpList_append_sees _ rfl (.tmp 35) (.tmp 39) 25 rfl i0 Try.underlying25 hi hz0 hz1 hz2 _ [] rfl (owns_empty w4) _ B rfl s0 (by simp only [List.length_nil]; omega) ?_)
    intro v5 w5 ho hg hk
    have m5 := Made.append ho hg hk
    obtain ⟨ao5, cap5, e5⟩ := m5.1.shape
    subst e5
    have t5 := tt.trans m5.2.1
    clear ho hg hk s0
    have s55 : Sees (w5.alloc (.cells #[] 5)) (.slice (some a) 5 cap) (A ++ L) := s5.kept (t5.alloc _) (fun _ _ h => h)
    have hal5 : (A ++ L).length ≤ 5 := by omega
    have HA := hide hal
    clear hal
    generalize A ++ L = F at *
    go_wp2_with (at_builtin; refine wpList_append_sees _ rfl (.tmp 41) (.tmp 43) 25 rfl i0 Try.underlying25 hi hz0 hz1 hz2 _ [] rfl (owns_empty w5) _ F rfl s55 (by simp only [List.length_nil]; omega) ?_)
    intro v6 w6 ho hg hk
    have m6 := Made.append ho hg hk
    obtain ⟨ao6, cap6, e6⟩ := m6.1.shape
    subst e6
    clear ho hg hk s55
    have o6 := m5.1.kept m6.2.1 (fun _ _ h => h)
    go_wp2_with (at_builtin; refine wpList_append_sees _ rfl (.tmp 44) (.tmp 45) 25 rfl i0 Try.underlying25 hi hz0 hz1 hz2 _ F rfl m6.1 _ B rfl o6.sees (by omega) ?_)
    intro v7 w7 ho hg hk
    have m7 := m6.more ho hg hk
    have o7 := m5.1.kept m7.2.1 (fun _ _ h => h)
    have t7 := t5.trans m7.2.1
    clear ho hg hk m6 o6 t5 tt
    obtain ⟨ao7, cap7, e7⟩ := m7.1.shape
    subst e7
    have s7 := m7.1.sees
    rw [List.length_append] at s7
    go_wp2_with fail
    refine (refSum_any (.slice ao7 (F.length + B.length) cap7) (F ++ B) w7 s7).mono ?_
    rintro e w8 ⟨rfl, rfl⟩
    rw [unhide Hcs]
    clear m7 s7 m5
    by_cases c4 : (m : Int) = cs
    · have c4n : m = cs := by omega
      have H4 := hide c4
      clear c4
      subst c4n
      have e4 : ((m : Int) != (m : Int)) = false := by simp
      go_wp2
      (try simp only [Exit.inBlock, Exit.then])
      refine bodyPost_ret (results_tmp4 rfl _ _ _) rfl ?_
      rw [unhide tw (unhide C12) (unhide C3) (unhide H4)]
      exact ⟨_, rfl, o7, t7⟩
    · have e4 : ((cs : Int) != (m : Int)) = true := by simp; omega
      have H4 := hide c4
      clear c4
      go_wp2
      (try simp only [Exit.inBlock, Exit.then])
      refine bodyPost_ret (results_tmp4 rfl _ _ _) rfl ?_
      rw [unhide tq (unhide C12) (unhide C3) (unhide H4)]
      exact ⟨_, rfl, Owns.nil _, t7⟩

end Go.Proofs.Ytcojlmfdonbkmaa
