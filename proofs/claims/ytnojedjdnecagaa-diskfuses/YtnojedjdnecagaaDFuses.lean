/- The law DiskFuses. -/
import Derived.Test.YtnojedjdnecagaaDKnown
namespace Go.Proofs.Ytnojedjdnecagaa
open Go.RowKit

/-- Behind i works of a Disk whose fuse lets n go well. -/
structure Fz (n i : Nat) (s : DSt) : Prop where
  fused : s.fused = true
  works : s.works = min i n
  dead : s.dead = decide (n < i)
  left : s.left = (n : Int) - (min i n : Nat)
  small : ∀ k, (s.now k).length ≤ i
  lays : ∀ k bs, DOp.lay k bs ∈ s.ops → bs.length ≤ 1

theorem Fz.down {n i : Nat} {s : DSt} (h : Fz n i s) : s.down = decide (n ≤ i) := by
  unfold DSt.down
  rw [h.fused, h.dead, h.left]
  by_cases h1 : n < i
  · simp [h1, Nat.le_of_lt h1]
  · by_cases h2 : n ≤ i
    · obtain rfl : i = n := by omega
      simp
    · have h3 : ¬ ((n : Int) - ((min i n : Nat) : Int)) = 0 := by rw [Nat.min_eq_left (by omega)]; omega
      simp only [h1, h2, decide_false, Bool.false_or, Bool.true_and]
      simpa using h3

theorem Fz.fall {n i : Nat} {s : DSt} (h : Fz n i s) (hi : ¬ i < n) : Fz n (i + 1) s.fall := by
  refine ⟨h.fused, ?_, ?_, ?_, fun k => Nat.le_succ_of_le (h.small k), h.lays⟩
  · show s.works = _
    rw [h.works, Nat.min_eq_right (by omega), Nat.min_eq_right (by omega)]
  · show true = _
    simp
    omega
  · show s.left = _
    rw [h.left, Nat.min_eq_right (by omega), Nat.min_eq_right (by omega)]

theorem Fz.more {n i : Nat} {s s' : DSt} (h : Fz n i s) (hi : i < n) (hf : s'.fused = s.fused) (hw : s'.works = s.works + 1) (hl : s'.left = s.left - 1) (hd : s'.dead = s.dead) (hs : ∀ k, (s'.now k).length ≤ (s.now k).length + 1) (ho : ∀ k bs, DOp.lay k bs ∈ s'.ops → DOp.lay k bs ∈ s.ops ∨ bs.length ≤ 1) : Fz n (i + 1) s' := by
  refine ⟨by rw [hf, h.fused], ?_, ?_, ?_, fun k => ?_, fun k bs hk => (ho k bs hk).elim (h.lays k bs) id⟩
  · rw [hw, h.works, Nat.min_eq_left (by omega), Nat.min_eq_left (by omega)]
  · rw [hd, h.dead]
    simp
    omega
  · rw [hl, h.left, Nat.min_eq_left (by omega), Nat.min_eq_left (by omega)]
    omega
  · have h1 := hs k
    have h2 := h.small k
    omega

theorem Fz.worked {n i : Nat} {s : DSt} (h : Fz n i s) : s.worked.left = s.left - 1 := by
  show (if s.fused = true then s.left - 1 else s.left) = _
  rw [if_pos h.fused]

theorem Fz.step {n i : Nat} {s : DSt} (h : Fz n i s) : (∀ f x, 0 ≤ f → (s.add f [x]).1 = (if i < n then 0 else 14) ∧ Fz n (i + 1) (s.add f [x]).2) ∧ (s.sync.1 = (if i < n then 0 else 14) ∧ Fz n (i + 1) s.sync.2) ∧ ∀ f, 0 ≤ f → (s.rem f).1 = (if i < n then 0 else 14) ∧ Fz n (i + 1) (s.rem f).2 := by
  have hd := h.down
  have hw := h.worked
  by_cases hi : i < n
  · have hd' : s.down = false := by rw [hd]; simp; omega
    refine ⟨fun f x hf => ?_, ?_, fun f hf => ?_⟩
    · unfold DSt.add
      rw [if_neg (by omega), hd', if_neg (by simp), if_pos hi]
      refine ⟨rfl, ?_⟩
      unfold DSt.lays
      rw [if_neg (by simp)]
      refine h.more hi rfl rfl hw rfl (fun k => ?_) (fun k bs hk => ?_)
      · show ((s.worked.push _).now k).length ≤ _
        rw [acts_push]
        by_cases hkf : k = f
        · subst hkf
          show (fput s.now k (s.now k ++ [x]) k).length ≤ _
          have : fput s.now k (s.now k ++ [x]) k = s.now k ++ [x] := if_pos rfl
          rw [this]
          simp
        · show (fput s.now f (s.now f ++ [x]) k).length ≤ _
          have : fput s.now f (s.now f ++ [x]) k = s.now k := if_neg hkf
          rw [this]
          omega
      · have hk' : DOp.lay k bs ∈ s.ops ++ [.lay f [x]] := hk
        rcases List.mem_append.1 hk' with hk | hk
        · exact .inl hk
        · simp at hk
          rw [hk.2]
          exact .inr (by simp)
    · unfold DSt.sync
      rw [hd', if_neg (by simp), if_pos hi]
      exact ⟨rfl, h.more hi rfl rfl hw rfl (fun k => Nat.le_succ _) (fun k bs hk => by simp [DSt.safe] at hk)⟩
    · unfold DSt.rem
      rw [if_neg (by omega), hd', if_neg (by simp), if_pos hi]
      refine ⟨rfl, ?_⟩
      unfold DSt.rems
      split
      · exact h.more hi rfl rfl hw rfl (fun k => Nat.le_succ _) (fun k bs hk => .inl hk)
      · refine h.more hi rfl rfl hw rfl (fun k => ?_) (fun k bs hk => ?_)
        · show ((s.worked.push _).now k).length ≤ _
          rw [acts_push]
          by_cases hkf : k = f
          · subst hkf
            show (fput s.now k [] k).length ≤ _
            have : fput s.now k [] k = [] := if_pos rfl
            rw [this]
            simp
          · show (fput s.now f [] k).length ≤ _
            have : fput s.now f [] k = s.now k := if_neg hkf
            rw [this]
            omega
        · have hk' : DOp.lay k bs ∈ s.ops ++ [.rem f] := hk
          rcases List.mem_append.1 hk' with hk | hk
          · exact .inl hk
          · simp at hk
  · have hd' : s.down = true := by rw [hd]; simp; omega
    refine ⟨fun f x hf => ?_, ?_, fun f hf => ?_⟩
    · unfold DSt.add
      rw [if_neg (by omega), if_pos hd', if_neg hi]
      exact ⟨rfl, h.fall hi⟩
    · unfold DSt.sync
      rw [if_pos hd', if_neg hi]
      exact ⟨rfl, h.fall hi⟩
    · unfold DSt.rem
      rw [if_neg (by omega), if_pos hd', if_neg hi]
      exact ⟨rfl, h.fall hi⟩

theorem Fz.start (n : Nat) : Fz n 0 (DSt.zero.fuse n) := ⟨by simp [DSt.fuse], by simp [DSt.fuse, DSt.zero], by simp [DSt.fuse, DSt.zero], by simp [DSt.fuse], fun k => by simp [DSt.now, DSt.fuse, DSt.zero, acts], by simp [DSt.fuse, DSt.zero]⟩

set_option maxHeartbeats 8000000 in
set_option maxRecDepth 100000 in
theorem diskFuses_any (n0 : Int) (lv : Value) (l : List Int) (w : World) (hl : IntsAt w w.heap.size lv l) :
    Calls Try.prog 7 #[.int .i64 n0, lv] w fun e w' => e = .returned (.bool true) ∧ Turn (fun _ => False) w w' := by
  obtain ⟨lo, lc, hlv, hlm⟩ : ∃ ao cap, lv = .slice ao l.length cap ∧ l.length ≤ maxLen := by
    rcases hl with ⟨rfl, rfl⟩ | ⟨a, cap, rfl, hm, _⟩
    · exact ⟨none, 0, rfl, by simp⟩
    · exact ⟨_, _, rfl, hm⟩
  unfold maxLen at hlm
  subst hlv
  have Hl := hide hl
  clear hl
  go_enter Try.func7, Try.ntmps7
  go_wp2_with fail
  refine (dl_new (w0 := w) (K := fun _ => False) (fun _ h => h.elim) (Turn.refl _ w)).mono ?_
  rintro e w1 ⟨rfl, h1, _⟩
  obtain ⟨b, hb⟩ : ∃ b, b = w.heap.size := ⟨_, rfl⟩
  rw [← hb] at h1 ⊢
  clear hb
  go_wp2_with fail
  refine (known_any w1).mono ?_
  rintro e w2 ⟨rfl, t2⟩
  have h2 := h1.new t2
  clear h1 t2
  generalize grow (fun _ => False) w1 w2 = K at h2
  go_wp2_with fail
  refine (pick_any n0 12 _ (by omega) (by omega)).mono ?_
  rintro e w3 ⟨rfl, rfl⟩
  obtain ⟨n, hn⟩ : ∃ n : Nat, (n : Int) = n0 % 12 := ⟨(n0 % 12).toNat, by omega⟩
  have hn12 : n < 12 := by omega
  rw [← hn]
  clear hn
  go_wp2_with fail
  refine (dl_fuse n h2 (by omega) (by omega)).mono ?_
  rintro e w3 ⟨rfl, h3, _⟩
  have H3 := hide h3
  clear h2 h3
  go_wp2_with fail
  go_loopw [6, 7] (fun i _ wr => ∃ (k : Nat) (K : Nat → Prop) (s : DSt), k ≤ 20 ∧ k ≤ l.length ∧ i = .int .i64 k ∧ DL w K wr b k s ∧ Fz n k s) (fun i _ _ => (20 - intOf i).toNat)
  case atStart => exact ⟨0, K, _, by omega, by omega, rfl, unhide H3, Fz.start n⟩
  case round =>
    clear H3
    obtain ⟨i, K, s, hi, hil, rfl, hd, hz⟩ := hrel
    by_cases hlt : i < l.length ∧ i < 20
    · obtain ⟨a, rfl, hcell⟩ : ∃ a, lo = some a ∧ wr.cell? (a.add i) = some (.int .i64 l[i]) := by
        have := (unhide Hl).kept hd.turn (Nat.le_refl _) (fun _ _ h => h)
        rcases this with ⟨_, rfl⟩ | ⟨a, cap, e, _, hc⟩
        · simp at hlt
        · simp only [Value.slice.injEq] at e
          exact ⟨a, e.1, (hc i hlt.1).2⟩
      have q1 : (i : Int) < l.length := by omega
      have q2 : (i : Int) < 20 := by omega
      have hst := hz.step
      have hstep := hide hst
      have hd1 := hide hd
      have hz1 := hide hz
      clear hst hz hd
      go_wp2_with fail
      refine (pick_any l[i] 3 _ (by omega) (by omega)).mono ?_
      rintro e w4 ⟨rfl, rfl⟩
      have hp : l[i] % 3 = 0 ∨ l[i] % 3 = 1 ∨ l[i] % 3 = 2 := by omega
      rcases hp with hp | hp | hp
      all_goals rw [hp]; clear hp
      · have hsee := Sees.one wr (i : Int) 5 (by omega) (by omega)
        have t4 : Turn (fun _ => False) wr (wr.alloc (.cells #[.int .u8 (i : Int)] 5)) := (Turn.refl _ _).alloc _
        have h4 := (unhide hd1).new t4
        have m4 : grow K wr (wr.alloc (.cells #[.int .u8 (i : Int)] 5)) wr.heap.size := .inr ⟨Nat.le_refl _, by simp⟩
        obtain ⟨e1, z1⟩ := (unhide hstep).1 1 (UInt8.ofNat (i : Int).toNat) (by omega)
        have hcall := dl_append 1 _ [UInt8.ofNat (i : Int).toNat] h4 hsee (fun _ k hk => .inr (by simp [slab] at hk; exact hk ▸ m4)) (by omega) (by have := (unhide hz1).small 1; simp only [List.length_cons, List.length_nil]; omega)
        rw [e1] at hcall
        have Hcall := hide hcall
        have Hz := hide z1
        clear hsee t4 h4 m4 e1 z1 hcall
        go_wp2_with fail
        refine (unhide Hcall).mono ?_
        rintro e w5 ⟨rfl, h5, _⟩
        generalize (s.add 1 [UInt8.ofNat (i : Int).toNat]).2 = s5 at *
        generalize grow K wr (wr.alloc (.cells #[.int .u8 (i : Int)] 5)) = K5 at *
        have hdead := (unhide Hz).dead
        have hworks := (unhide Hz).works
        have H5 := hide h5
        clear Hcall h5 hstep hd1 hz1
        by_cases hin : i < n
        · rw [if_pos hin]
          have hin2 : (i : Int) < n := by omega
          have hin3 : ¬ (n : Int) < (i : Int) + 1 := by omega
          have hin4 : ((i : Int) + 1 != (i : Int) + 1) = false := by simp
          have hd0 : s5.dead = false := by rw [hdead]; simp; omega
          have hw0 : s5.works = i + 1 := by rw [hworks]; omega
          clear hdead hworks
          go_wp2_with fail
          refine (dl_dead (unhide H5)).mono ?_
          rintro e w6 ⟨rfl, rfl⟩
          rw [hd0]
          go_wp2_with fail
          refine (dl_works (unhide H5)).mono ?_
          rintro e w6 ⟨rfl, rfl⟩
          rw [hw0]
          go_wp2
          exact ⟨⟨i + 1, _, s5, by omega, by omega, by go_num, unhide H5, unhide Hz⟩, by simp [intOf]; omega⟩
        · rw [if_neg hin]
          have hin2 : ¬ (i : Int) < n := by omega
          have hin3 : (n : Int) < (i : Int) + 1 := by omega
          have hin4 : ((n : Int) != (n : Int)) = false := by simp
          have hd0 : s5.dead = true := by rw [hdead]; simp; omega
          have hw0 : s5.works = n := by rw [hworks]; omega
          clear hdead hworks
          go_wp2_with fail
          refine (dl_dead (unhide H5)).mono ?_
          rintro e w6 ⟨rfl, rfl⟩
          rw [hd0]
          go_wp2_with fail
          refine (dl_works (unhide H5)).mono ?_
          rintro e w6 ⟨rfl, rfl⟩
          rw [hw0]
          go_wp2
          exact ⟨⟨i + 1, _, s5, by omega, by omega, by go_num, unhide H5, unhide Hz⟩, by simp [intOf]; omega⟩
      · have hcall := dl_sync (unhide hd1) (by omega)
        obtain ⟨e1, z1⟩ := (unhide hstep).2.1
        rw [e1] at hcall
        have Hcall := hide hcall
        have Hz := hide z1
        clear e1 z1 hcall
        go_wp2_with fail
        refine (unhide Hcall).mono ?_
        rintro e w5 ⟨rfl, h5, _⟩
        generalize s.sync.2 = s5 at *
        have hdead := (unhide Hz).dead
        have hworks := (unhide Hz).works
        have H5 := hide h5
        clear Hcall h5 hstep hd1 hz1
        by_cases hin : i < n
        · rw [if_pos hin]
          have hin2 : (i : Int) < n := by omega
          have hin3 : ¬ (n : Int) < (i : Int) + 1 := by omega
          have hin4 : ((i : Int) + 1 != (i : Int) + 1) = false := by simp
          have hd0 : s5.dead = false := by rw [hdead]; simp; omega
          have hw0 : s5.works = i + 1 := by rw [hworks]; omega
          clear hdead hworks
          go_wp2_with fail
          refine (dl_dead (unhide H5)).mono ?_
          rintro e w6 ⟨rfl, rfl⟩
          rw [hd0]
          go_wp2_with fail
          refine (dl_works (unhide H5)).mono ?_
          rintro e w6 ⟨rfl, rfl⟩
          rw [hw0]
          go_wp2
          exact ⟨⟨i + 1, _, s5, by omega, by omega, by go_num, unhide H5, unhide Hz⟩, by simp [intOf]; omega⟩
        · rw [if_neg hin]
          have hin2 : ¬ (i : Int) < n := by omega
          have hin3 : (n : Int) < (i : Int) + 1 := by omega
          have hin4 : ((n : Int) != (n : Int)) = false := by simp
          have hd0 : s5.dead = true := by rw [hdead]; simp; omega
          have hw0 : s5.works = n := by rw [hworks]; omega
          clear hdead hworks
          go_wp2_with fail
          refine (dl_dead (unhide H5)).mono ?_
          rintro e w6 ⟨rfl, rfl⟩
          rw [hd0]
          go_wp2_with fail
          refine (dl_works (unhide H5)).mono ?_
          rintro e w6 ⟨rfl, rfl⟩
          rw [hw0]
          go_wp2
          exact ⟨⟨i + 1, _, s5, by omega, by omega, by go_num, unhide H5, unhide Hz⟩, by simp [intOf]; omega⟩
      · have hcall := dl_remove 2 (unhide hd1) (by omega)
        obtain ⟨e1, z1⟩ := (unhide hstep).2.2 2 (by omega)
        rw [e1] at hcall
        have Hcall := hide hcall
        have Hz := hide z1
        clear e1 z1 hcall
        go_wp2_with fail
        refine (unhide Hcall).mono ?_
        rintro e w5 ⟨rfl, h5, _⟩
        generalize (s.rem 2).2 = s5 at *
        have hdead := (unhide Hz).dead
        have hworks := (unhide Hz).works
        have H5 := hide h5
        clear Hcall h5 hstep hd1 hz1
        by_cases hin : i < n
        · rw [if_pos hin]
          have hin2 : (i : Int) < n := by omega
          have hin3 : ¬ (n : Int) < (i : Int) + 1 := by omega
          have hin4 : ((i : Int) + 1 != (i : Int) + 1) = false := by simp
          have hd0 : s5.dead = false := by rw [hdead]; simp; omega
          have hw0 : s5.works = i + 1 := by rw [hworks]; omega
          clear hdead hworks
          go_wp2_with fail
          refine (dl_dead (unhide H5)).mono ?_
          rintro e w6 ⟨rfl, rfl⟩
          rw [hd0]
          go_wp2_with fail
          refine (dl_works (unhide H5)).mono ?_
          rintro e w6 ⟨rfl, rfl⟩
          rw [hw0]
          go_wp2
          exact ⟨⟨i + 1, _, s5, by omega, by omega, by go_num, unhide H5, unhide Hz⟩, by simp [intOf]; omega⟩
        · rw [if_neg hin]
          have hin2 : ¬ (i : Int) < n := by omega
          have hin3 : (n : Int) < (i : Int) + 1 := by omega
          have hin4 : ((n : Int) != (n : Int)) = false := by simp
          have hd0 : s5.dead = true := by rw [hdead]; simp; omega
          have hw0 : s5.works = n := by rw [hworks]; omega
          clear hdead hworks
          go_wp2_with fail
          refine (dl_dead (unhide H5)).mono ?_
          rintro e w6 ⟨rfl, rfl⟩
          rw [hd0]
          go_wp2_with fail
          refine (dl_works (unhide H5)).mono ?_
          rintro e w6 ⟨rfl, rfl⟩
          rw [hw0]
          go_wp2
          exact ⟨⟨i + 1, _, s5, by omega, by omega, by go_num, unhide H5, unhide Hz⟩, by simp [intOf]; omega⟩
    · have hcall := dl_crash 0 0 hd (by omega) (fun k bs hk => by have := hz.lays k bs hk; omega)
      have hd2 : (s.crash 0 0).dead = false := rfl
      have hs2 : (s.crash 0 0).sync.1 = 0 := rfl
      have Hcall := hide hcall
      clear hcall hd hz
      generalize s.crash 0 0 = s5 at *
      by_cases hil2 : i < l.length
      · obtain rfl : i = 20 := by omega
        have q1 : ((20 : Nat) : Int) < l.length := by omega
        go_wp2_with fail
        refine (unhide Hcall).mono ?_
        rintro e w5 ⟨rfl, h5, _⟩
        have H5 := hide h5
        clear h5
        go_wp2_with fail
        refine (dl_dead (unhide H5)).mono ?_
        rintro e w6 ⟨rfl, rfl⟩
        rw [hd2]
        go_wp2_with fail
        refine (dl_sync (unhide H5) (by omega)).mono ?_
        rintro e w6 ⟨rfl, h6, _⟩
        rw [hs2]
        go_wp2
        go_ret
        exact ⟨rfl, h6.turn⟩
      · obtain rfl : i = l.length := by omega
        go_wp2_with fail
        refine (unhide Hcall).mono ?_
        rintro e w5 ⟨rfl, h5, _⟩
        have H5 := hide h5
        clear h5
        go_wp2_with fail
        refine (dl_dead (unhide H5)).mono ?_
        rintro e w6 ⟨rfl, rfl⟩
        rw [hd2]
        go_wp2_with fail
        refine (dl_sync (unhide H5) (by omega)).mono ?_
        rintro e w6 ⟨rfl, h6, _⟩
        rw [hs2]
        go_wp2
        go_ret
        exact ⟨rfl, h6.turn⟩

end Go.Proofs.Ytnojedjdnecagaa
