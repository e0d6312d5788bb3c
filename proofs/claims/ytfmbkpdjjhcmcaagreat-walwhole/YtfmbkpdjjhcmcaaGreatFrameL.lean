/- What Next of package frame tells of nine bytes and more. -/
import Derived.Test.YtfmbkpdjjhcmcaaGreatFrameN
namespace Go.Proofs.YtfmbkpdjjhcmcaaGreat
open Go.RowKit

theorem now_turn {T : TypeId} {w w' : World} {b : Nat} {v : Value} {s : St} (h : Now T w b v s w') : Turn (fun k => k = b) w w' := by
  obtain ⟨_, hst⟩ := h
  exact hst.turn

set_option maxHeartbeats 2000000 in
set_option maxRecDepth 100000 in
theorem next_long (f t : Nat) (v : Value) (bs A L S R : List UInt8) (w : World) (hF : Fr w f t) (hs : Sees w v bs) (h1 : A.length = 1) (h2 : L.length = 4) (h3 : S.length = 4) (hbs : bs = A ++ (L ++ (S ++ R))) :
    Calls Tryz.prog 55 #[.pointer (some ⟨f, 0, none⟩), v] w fun e w' => ∃ v', e = .returned (toldValue (told A L S R) v') ∧ NextIs w f t (told A L S R) v' w' := by
  have hlen := congrArg List.length hbs
  simp only [List.length_append, h1, h2, h3] at hlen
  have hm := hs.len
  unfold maxLen at hm
  have t9 : bs.take 9 = A ++ (L ++ S) := hbs ▸ take9 h1 h2 h3
  have t5 : bs.take 5 = A ++ L := hbs ▸ take5 h1 h2
  have d9 : bs.drop 9 = R := hbs ▸ drop9 h1 h2 h3
  have hA := num_one
  have bL := num4_lt h2
  have hAn : 0 ≤ num A := by obtain ⟨a, rfl⟩ := one_of h1; rw [num_one]; omega
  obtain ⟨a, cap, rfl, hcap, hcapm⟩ : ∃ a cap, v = .slice (some a) bs.length cap ∧ bs.length ≤ cap ∧ cap ≤ maxLen := by
    rcases hs with ⟨_, e⟩ | ⟨a, cap, e, hc, hm', _⟩
    · rw [e] at hlen
      simp at hlen
      omega
    · exact ⟨a, cap, e, hc, hm'⟩
  unfold maxLen at hcapm
  have hlf := hF.ltf
  have hlt := hF.ltt
  have s9 : Sees w (.slice (some a) 9 cap) (A ++ (L ++ S)) := t9 ▸ hs.front 9 (by omega)
  have s5 : Sees w (.slice (some a) 5 cap) (A ++ L) := t5 ▸ hs.front 5 (by omega)
  have sm := hide (fun n (hn : 9 + n ≤ bs.length) a2 h2 => d9 ▸ hs.mid 9 n hn a2 h2)
  have q1 := ru8_any (s := ⟨A ++ (L ++ S), false⟩)
  simp only [St.take_all A (L ++ S) false 1 (by omega)] at q1
  have Q1 := hide q1
  clear hbs t9 t5 d9 hs q1 hA
  generalize bs.length = len at *
  have HL := hide hlen
  have hl9' : 9 ≤ len := by omega
  clear hlen
  have hl9 : ¬ (len : Int) < 9 := by omega
  have tf := hide (told_form A L S R)
  have ts := hide (told_short A L S R)
  have tq := hide (told_sum A L S R)
  have tw := hide (told_well A L S R)
  generalize told A L S R = r at *
  have Q2 := hide (fun b v w (h : RIs 158 w b v ⟨L ++ S, false⟩) => takeFour_any b v L S false w h h2)
  have Q3 := hide (fun b v w (h : RIs 158 w b v ⟨S ++ [], false⟩) => takeFour_any b v S [] false w h h3)
  generalize num A = ka at *
  generalize num L = nl at *
  generalize num S = ns at *
  go_enter Tryz.func55, Tryz.ntmps55
  go_wp2_with fail
  refine (newReader_any _ (A ++ (L ++ S)) w s9 (by simp; omega)).mono ?_
  rintro e w1 ⟨b, rfl, hfr⟩
  obtain ⟨v1, n1⟩ := hfr.rnew
  clear hfr s9
  go_wp2_with fail
  refine (unhide Q1 b v1 w1 n1.at').mono ?_
  rintro e w2 ⟨rfl, hn2⟩
  obtain ⟨v2, n2⟩ := n1.step hn2
  clear hn2 n1 Q1
  go_wp2_with fail
  refine (unhide Q2 b v2 w2 n2.at').mono ?_
  rintro e w3 ⟨rfl, hn3⟩
  obtain ⟨v3, n3⟩ := n2.step hn3
  clear hn3 n2 Q2
  by_cases c1 : ka = 0
  · subst c1
    have hx := NextIs.none hF n3.turn 0 0 5
    clear n3
    go_wp2
    (try simp only [Exit.inBlock, Exit.then])
    refine bodyPost_ret (results_tmp4 rfl _ _ _) rfl ?_
    rw [unhide tf (by simp)]
    exact ⟨_, rfl, hx⟩
  have kb : (ka == 0) = false := by simpa using c1
  by_cases c2 : 1048576 < nl
  · have hx := NextIs.none hF n3.turn 0 0 5
    clear n3
    go_wp2
    (try simp only [Exit.inBlock, Exit.then])
    refine bodyPost_ret (results_tmp4 rfl _ _ _) rfl ?_
    rw [unhide tf (.inr c2)]
    exact ⟨_, rfl, hx⟩
  have C12 : Hid (¬ (ka = 0 ∨ 1048576 < nl)) := hide (by omega)
  obtain ⟨n, rfl⟩ := Int.eq_ofNat_of_zero_le bL.1
  by_cases c3 : (R.length : Int) < n
  · have hx := NextIs.none hF n3.turn 0 0 7
    have c3' : (len : Int) < 9 + n := by have := unhide HL; omega
    clear n3
    go_wp2_with fail
    refine (size_small n w3 (by omega) (by omega)).mono ?_
    rintro e w4 ⟨rfl, rfl⟩
    go_wp2
    (try simp only [Exit.inBlock, Exit.then])
    refine bodyPost_ret (results_tmp4 rfl _ _ _) rfl ?_
    rw [unhide ts (unhide C12) c3]
    exact ⟨_, rfl, hx⟩
  have c3' : ¬ (len : Int) < 9 + n := by have := unhide HL; omega
  go_wp2_with fail
  refine (size_small n w3 (by omega) (by omega)).mono ?_
  rintro e w4 ⟨rfl, rfl⟩
  have sR : ∀ a2, (a2 = a.add 9 ∨ 9 = cap) → Sees w3 (.slice (some a2) n (cap - 9)) (R.take n) := fun a2 h2 => (unhide sm n (by omega) a2 h2).kept n3.turn (fun _ _ h => h)
  clear sm
  go_wp2_with fail
  · obtain rfl := ‹cap = 9›
    have s0 : Sees w3 (.slice (some a) n 0) (R.take n) := sR a (.inr rfl)
    refine (clone_any _ (R.take n) w3 s0 (by simp; omega)).mono ?_
    clear s0
    rintro e w5 ⟨v5, rfl, m5⟩
    have n5 : RNew 158 w w5.drew b v3 ⟨S ++ [], false⟩ := by
      have := n3.goes (m5.2.1.drew)
      rwa [← List.append_nil S] at this
    have o5 : Owns w5.drew v5 (R.take n) := m5.1.drew
    have k5 : ∀ k, v5.ownBlock = some k → w.heap.size ≤ k := fun k hk => Nat.le_trans n3.turn.size (m5.2.2 k hk)
    have k5b : ∀ k, v5.ownBlock = some k → ¬ k = b := fun k hk e => by have := m5.2.2 k hk; have := n3.at'.1.lt; omega
    clear m5 n3 sR
    have hB : (R.take n).length ≤ n := List.length_take_le _ _
    have hal : (A ++ L).length = 5 := by rw [List.length_append]; omega
    simp only [Int.toNat_natCast] at tq tw
    generalize hcs : csum (A ++ L ++ R.take n) = cs at *
    have Hcs := hide hcs
    clear hcs
    generalize R.take n = B at *
    obtain ⟨ao5, cap5, e5⟩ := o5.shape
    subst e5
    by_cases c4 : ns = cs
    · have e4 : (ns != (cs : Int)) = false := by simpa using c4
      have H4 := hide c4
      have C3 := hide c3
      clear c4 c3
      go_wp2_with fail
      go_region_with (first
        | (go_at_call 70; go_must (refine (unhide Q3 b v3 _ n5.at').mono ?_; rintro e w6 ⟨rfl, hn6⟩; obtain ⟨v6, n6⟩ := n5.step hn6; have f6 := hF.goes n6.turn; have s6 := s5.kept n6.turn (fun _ _ h => h); have o6 := o5.kept (now_turn hn6) k5b; clear hn6))
        | (go_at_call 72; go_must (refine (fsum_any f t _ _ (A ++ L) B _ f6 s6 o6.sees (by omega)).mono ?_; rintro e w7 ⟨rfl, f7, t7⟩; rw [unhide Hcs])))
      all_goals (
        go_wp2
        (try simp only [Exit.inBlock, Exit.then])
        refine bodyPost_ret (results_tmp4 rfl _ _ _) rfl ?_
        rw [unhide tw (unhide C12) (unhide C3) (unhide H4)]
        exact ⟨_, rfl, o6.kept t7 (fun k hk e => by have := k5 k hk; omega), f7, (n6.turn.mono (fun _ _ h => h.elim)).trans t7, k5⟩)
    · have e4 : (ns != (cs : Int)) = true := by simpa using c4
      have H4 := hide c4
      have C3 := hide c3
      clear c4 c3
      go_wp2_with fail
      go_region_with (first
        | (go_at_call 70; go_must (refine (unhide Q3 b v3 _ n5.at').mono ?_; rintro e w6 ⟨rfl, hn6⟩; obtain ⟨v6, n6⟩ := n5.step hn6; have f6 := hF.goes n6.turn; have s6 := s5.kept n6.turn (fun _ _ h => h); have o6 := o5.kept (now_turn hn6) k5b; clear hn6))
        | (go_at_call 72; go_must (refine (fsum_any f t _ _ (A ++ L) B _ f6 s6 o6.sees (by omega)).mono ?_; rintro e w7 ⟨rfl, f7, t7⟩; rw [unhide Hcs])))
      all_goals (
        go_wp2
        (try simp only [Exit.inBlock, Exit.then])
        refine bodyPost_ret (results_tmp4 rfl _ _ _) rfl ?_
        rw [unhide tq (unhide C12) (unhide C3) (unhide H4)]
        exact ⟨_, rfl, Owns.nil _, f7, (n6.turn.mono (fun _ _ h => h.elim)).trans t7, fun k hk => by simp [Value.ownBlock] at hk⟩)
  · have s0 : Sees w3 (.slice (some (a.add 9)) n (cap - 9)) (R.take n) := sR _ (.inl rfl)
    refine (clone_any _ (R.take n) w3 s0 (by simp; omega)).mono ?_
    clear s0
    rintro e w5 ⟨v5, rfl, m5⟩
    have n5 : RNew 158 w w5.drew b v3 ⟨S ++ [], false⟩ := by
      have := n3.goes (m5.2.1.drew)
      rwa [← List.append_nil S] at this
    have o5 : Owns w5.drew v5 (R.take n) := m5.1.drew
    have k5 : ∀ k, v5.ownBlock = some k → w.heap.size ≤ k := fun k hk => Nat.le_trans n3.turn.size (m5.2.2 k hk)
    have k5b : ∀ k, v5.ownBlock = some k → ¬ k = b := fun k hk e => by have := m5.2.2 k hk; have := n3.at'.1.lt; omega
    clear m5 n3 sR
    have hB : (R.take n).length ≤ n := List.length_take_le _ _
    have hal : (A ++ L).length = 5 := by rw [List.length_append]; omega
    simp only [Int.toNat_natCast] at tq tw
    generalize hcs : csum (A ++ L ++ R.take n) = cs at *
    have Hcs := hide hcs
    clear hcs
    generalize R.take n = B at *
    obtain ⟨ao5, cap5, e5⟩ := o5.shape
    subst e5
    by_cases c4 : ns = cs
    · have e4 : (ns != (cs : Int)) = false := by simpa using c4
      have H4 := hide c4
      have C3 := hide c3
      clear c4 c3
      go_wp2_with fail
      go_region_with (first
        | (go_at_call 70; go_must (refine (unhide Q3 b v3 _ n5.at').mono ?_; rintro e w6 ⟨rfl, hn6⟩; obtain ⟨v6, n6⟩ := n5.step hn6; have f6 := hF.goes n6.turn; have s6 := s5.kept n6.turn (fun _ _ h => h); have o6 := o5.kept (now_turn hn6) k5b; clear hn6))
        | (go_at_call 72; go_must (refine (fsum_any f t _ _ (A ++ L) B _ f6 s6 o6.sees (by omega)).mono ?_; rintro e w7 ⟨rfl, f7, t7⟩; rw [unhide Hcs])))
      all_goals (
        go_wp2
        (try simp only [Exit.inBlock, Exit.then])
        refine bodyPost_ret (results_tmp4 rfl _ _ _) rfl ?_
        rw [unhide tw (unhide C12) (unhide C3) (unhide H4)]
        exact ⟨_, rfl, o6.kept t7 (fun k hk e => by have := k5 k hk; omega), f7, (n6.turn.mono (fun _ _ h => h.elim)).trans t7, k5⟩)
    · have e4 : (ns != (cs : Int)) = true := by simpa using c4
      have H4 := hide c4
      have C3 := hide c3
      clear c4 c3
      go_wp2_with fail
      go_region_with (first
        | (go_at_call 70; go_must (refine (unhide Q3 b v3 _ n5.at').mono ?_; rintro e w6 ⟨rfl, hn6⟩; obtain ⟨v6, n6⟩ := n5.step hn6; have f6 := hF.goes n6.turn; have s6 := s5.kept n6.turn (fun _ _ h => h); have o6 := o5.kept (now_turn hn6) k5b; clear hn6))
        | (go_at_call 72; go_must (refine (fsum_any f t _ _ (A ++ L) B _ f6 s6 o6.sees (by omega)).mono ?_; rintro e w7 ⟨rfl, f7, t7⟩; rw [unhide Hcs])))
      all_goals (
        go_wp2
        (try simp only [Exit.inBlock, Exit.then])
        refine bodyPost_ret (results_tmp4 rfl _ _ _) rfl ?_
        rw [unhide tq (unhide C12) (unhide C3) (unhide H4)]
        exact ⟨_, rfl, Owns.nil _, f7, (n6.turn.mono (fun _ _ h => h.elim)).trans t7, fun k hk => by simp [Value.ownBlock] at hk⟩)

end Go.Proofs.YtfmbkpdjjhcmcaaGreat
