/- The reference's Files and Crash. -/
import Derived.Test.YtnojedjdnecagaaR5F
import Derived.Test.YtnojedjdnecagaaDFil
namespace Go.Proofs.Ytnojedjdnecagaa
open Go.RowKit

theorem fil_all (bs : List (List UInt8)) (k : Int) : k ∈ fil (fil5 bs) bs.length ↔ fil5 bs k ≠ [] := by
  constructor
  · intro h
    exact (fil_lt _ _ k h).2.2
  · intro h
    have h0 : 0 ≤ k := Classical.byContradiction fun hn => h (by unfold fil5; rw [if_neg hn])
    obtain ⟨n, rfl⟩ : ∃ n : Nat, k = (n : Int) := ⟨k.toNat, by omega⟩
    refine fil_mem _ _ n (Classical.byContradiction fun hn => h ?_) h
    unfold fil5
    rw [if_pos h0, Int.toNat_natCast, List.getD_eq_getElem?_getD, List.getElem?_eq_none (by omega)]
    rfl

/-- The files that are there, rising. -/
def RSt.Nums (s : RSt) (l : List Int) : Prop := l.Pairwise (· < ·) ∧ ∀ k, k ∈ l ↔ s.read k ≠ []

section
variable {Q : Nat → Prop} {w : World} {rb : Nat} {s : RSt} {M B : Nat}

set_option maxHeartbeats 2000000 in
set_option maxRecDepth 100000 in
theorem rfiles_any (h : RDk Q w rb s) (hf : RFit M B s) : Calls Try.prog 28 #[.pointer (some ⟨rb, 0, none⟩)] w fun e w' => ∃ v l, e = .returned v ∧ MadeI w v l w' ∧ s.Nums l ∧ l.length ≤ M := by
  have hcall := rnow_any h hf
  have hnl : (nowL s.kept s.pend).length ≤ M := nowL_length _ _ M hf.len (fun o ho => ⟨hf.lo o ho, hf.hi o ho⟩)
  have hmax := hf.max
  obtain ⟨kv, pv, kl, pl, h⟩ := h
  have c3 : w.cell? ⟨rb, 3, none⟩ = some (.bool s.dead) := h.head.cell 3
  have hrl := h.head.lt
  have Hcall := hide hcall
  clear hcall h
  go_enter Try.func28, Try.ntmps28
  go_wp2_with fail
  refine (unhide Hcall).mono ?_
  rintro e w1 ⟨v1, l1, rfl, hl1, hm1, t1⟩
  have d3 : w1.cell? ⟨rb, 3, none⟩ = some (.bool s.dead) := (t1.cell (p := ⟨rb, 3, none⟩) hrl (fun h => h)).trans c3
  obtain ⟨vo, vc, hv1⟩ := hl1.shape
  have hl1n : l1.length = (nowL s.kept s.pend).length := by rw [← hm1]; simp
  have hlm : l1.length ≤ M := by omega
  clear Hcall
  by_cases hd : s.dead = true
  · have hnums : s.Nums [] := ⟨List.Pairwise.nil, fun k => by unfold RSt.read; rw [if_pos hd]; simp⟩
    rw [hd] at d3
    subst hv1
    have Hn := hide hnums
    have hmi : MadeI w (.slice none 0 0) [] w1 := ⟨OwnsC.nil _ _, t1, fun k hk => by simp [Value.ownBlock] at hk⟩
    clear hnums hl1n
    go_wp2_with fail
    go_loopw [3, 5] (fun out i wr => out = .slice none 0 0 ∧ i = .int .i64 0 ∧ wr = w1) (fun _ _ _ => 0)
    case atStart => exact ⟨rfl, rfl, rfl⟩
    case round =>
      obtain ⟨rfl, rfl, rfl⟩ := hrel
      by_cases h0 : 0 < l1.length
      · go_wp2
        go_ret
        exact ⟨_, [], rfl, hmi, unhide Hn, Nat.zero_le _⟩
      · have h0' : l1.length = 0 := by omega
        rw [h0']
        go_wp2
        go_ret
        exact ⟨_, [], rfl, hmi, unhide Hn, Nat.zero_le _⟩
  · have hd' : s.dead = false := by simpa using hd
    rw [hd'] at d3
    have hnums : s.Nums (fil (fil5 s.now) l1.length) := by
      refine ⟨fil_rise _ _, fun k => ?_⟩
      have e1 : s.read k = fil5 s.now k := if_neg hd
      rw [e1, hl1n]
      exact fil_all s.now k
    have hget : ∀ k (hk : k < l1.length), fil5 s.now (k : Int) = l1[k].2 := by
      intro k hk
      unfold fil5
      rw [if_pos (by omega), Int.toNat_natCast]
      show (nowL s.kept s.pend).getD k [] = _
      rw [← hm1, List.getD_eq_getElem?_getD, List.getElem?_map, List.getElem?_eq_getElem hk]
      rfl
    have hmi : MadeI w1 (.slice none 0 0) [] w1 := MadeI.nil w1
    subst hv1
    have Hn := hide hnums
    have Hg := hide hget
    have Hl := hide hl1
    have Hm := hide hmi
    clear hnums hget hl1 hmi hm1 hl1n
    go_wp2_with fail
    go_loopw [3, 5] (fun out i wr => ∃ k : Nat, k ≤ l1.length ∧ i = .int .i64 k ∧ MadeI w1 out (fil (fil5 s.now) k) wr) (fun _ i _ => (l1.length - intOf i).toNat)
    case atStart => exact ⟨0, by omega, rfl, unhide Hm⟩
    case round =>
      obtain ⟨k, hk, rfl, hmd⟩ := hrel
      have t2 := hmd.2.1
      have d3' : wr.cell? ⟨rb, 3, none⟩ = some (.bool false) := (t2.cell (p := ⟨rb, 3, none⟩) (Nat.lt_of_lt_of_le hrl t1.size) (fun h => h)).trans d3
      obtain ⟨oo, oc, hov⟩ := hmd.shape
      subst hov
      have hfl := fil_le (fil5 s.now) k
      by_cases hlt : k < l1.length
      · obtain ⟨g, cap, ao, n, c, hv, hv2, hnn, hc⟩ := ((unhide Hl).kept t2 (fun _ _ h => h)).at k hlt
        injection hv with e1 e2 e3
        subst e1 e3
        have hcap : vc ≤ 9223372036854775807 ∧ l1.length ≤ vc := by
          rcases unhide Hl with ⟨h0, _⟩ | ⟨g', cap', h0, h1, h2, _⟩
          · simp at h0
          · injection h0 with a1 a2 a3; subst a3; exact ⟨h2, h1⟩
        have hgk := unhide Hg k hlt
        have hnm : n ≤ 9223372036854775807 := by
          have := ((unhide Hl).each l1[k] (List.getElem_mem hlt)).1.len
          unfold maxLen at this
          omega
        have q1 : (k : Int) < l1.length := by omega
        by_cases hn0 : n = 0
        · have hno := fil_no (fil5 s.now) k (by rw [hgk]; exact List.eq_nil_of_length_eq_zero (by omega))
          subst hn0
          have Hno := hide hno
          have Hmd := hide hmd
          clear hno hmd t2 hv2 hnn hgk
          go_wp2
          exact ⟨⟨k + 1, by omega, by go_num, by rw [unhide Hno]; exact unhide Hmd⟩, by simp [intOf]; omega⟩
        · have hyes := fil_yes (fil5 s.now) k (by rw [hgk]; intro e; rw [e] at hnn; exact hn0 hnn)
          have q2 : (0 : Int) < n := by omega
          have ta : Turn (fun _ => False) wr (wr.alloc (.cells #[.int .i64 (k : Int)] 3)) := (Turn.refl _ _).alloc _
          have hA := At.new 3 wr #[.int .i64 (k : Int)]
          obtain ⟨v9, w9, hr, ho, hg, hkk⟩ := append_one _ _ _ (k : Int) _ (hmd.1.kept ta (fun _ _ h => h)) hA (by omega)
          have hm9 := hmd.more ta ho hg hkk
          rw [← hyes] at hm9
          obtain ⟨o9, c9, hv9⟩ := hm9.shape
          have hl9 : (fil (fil5 s.now) (k + 1)).length = (fil (fil5 s.now) k).length + 1 := by rw [hyes]; simp
          rw [hl9] at hv9
          subst hv9
          have Hr := hide hr
          have H9 := hide hm9
          clear hr hm9 ho hg hkk hA ta hyes hl9 hmd t2 hv2 hnn hgk
          generalize (fil (fil5 s.now) k).length = nf at *
          go_wp2_with (at_builtin; refine wpList_append_run rfl (.tmp 27) (.tmp 29) 28 rfl _ _ _ w9 rfl rfl (unhide Hr) ?_)
          exact ⟨⟨k + 1, by omega, by go_num, unhide H9⟩, by simp [intOf]; omega⟩
      · obtain rfl : k = l1.length := by omega
        have hfin : MadeI w (.slice oo (fil (fil5 s.now) l1.length).length oc) (fil (fil5 s.now) l1.length) wr := ⟨hmd.1, t1.trans hmd.2.1, fun j hj => Nat.le_trans t1.size (hmd.2.2 j hj)⟩
        have Hfin := hide hfin
        have hfl2 : (fil (fil5 s.now) l1.length).length ≤ M := by omega
        clear hfin hmd t2
        go_wp2
        go_ret
        exact ⟨_, _, rfl, unhide Hfin, unhide Hn, hfl2⟩

set_option maxHeartbeats 400000 in
theorem rpick_any (n m : Int) (w : World) (hm : 0 < m) (hm2 : m ≤ 4611686018427387904) :
    Calls Try.prog 38 #[.int .i64 n, .int .i64 m] w fun e w' => e = .returned (.int .i64 (n % m)) ∧ w = w' := by
  go_enter Try.func38, Try.ntmps38
  go_wp2
  · go_ret
    exact ⟨ret_int (tmod_neg n m hm hm2 ‹_›), rfl⟩
  · go_ret
    exact ⟨ret_int (tmod_pos n m hm ‹_›), rfl⟩

end

end Go.Proofs.Ytnojedjdnecagaa
