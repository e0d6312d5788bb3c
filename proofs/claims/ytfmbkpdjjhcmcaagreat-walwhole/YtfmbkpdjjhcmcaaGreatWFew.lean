/- Lists of records in new memory: few of what came in, and whether two lists are the same. -/
import Derived.Test.YtfmbkpdjjhcmcaaGreatHist
import Derived.Test.YtfmbkpdjjhcmcaaGreatLists
import Derived.Test.YtfmbkpdjjhcmcaaGreatHand
import Derived.Deep.QuietTactic
import Derived.BigQuiet
namespace Go.Proofs.YtfmbkpdjjhcmcaaGreat
open Go.RowKit

/-- Records in the making: the row in new memory, each record in Q or in new memory, apart from the row. -/
structure RM (Q : Nat → Prop) (w : World) (v : Value) (rl : List (Value × List UInt8)) (wr : World) : Prop where
  own : OwnsC 31 wr v (rl.map (·.1))
  new : ∀ k, v.ownBlock = some k → w.heap.size ≤ k
  each : ∀ p ∈ rl, Sees wr p.1 p.2 ∧ (0 < p.2.length → ∀ j, slab p.1 = some j → (Q j ∨ w.heap.size ≤ j) ∧ j < wr.heap.size ∧ v.ownBlock ≠ some j)
  turn : Turn (fun _ => False) w wr

section
variable {Q : Nat → Prop} {w wr w2 : World} {v v2 : Value} {rl qs : List (Value × List UInt8)}

theorem RM.nil (Q : Nat → Prop) (w : World) : RM Q w (.slice none 0 0) [] w := ⟨OwnsC.nil _ _, fun k hk => by simp [Value.ownBlock] at hk, fun p hp => by simp at hp, Turn.refl _ _⟩

theorem RM.empty (Q : Nat → Prop) (w : World) : RM Q w (.slice (some ⟨w.heap.size, 0, none⟩) 0 0) [] (w.alloc (.cells #[] 31)) := ⟨OwnsC.empty _ _, fun k hk => by simp [Value.ownBlock] at hk; omega, fun p hp => by simp at hp, (Turn.refl _ _).alloc _⟩

theorem RM.goes (h : RM Q w v rl wr) (t : Turn (fun _ => False) wr w2) : RM Q w v rl w2 :=
  ⟨h.own.kept t (fun _ _ e => e), h.new, fun p hp => ⟨(h.each p hp).1.kept t (fun _ _ e => e), fun h0 j hj => by
    have h1 := (h.each p hp).2 h0 j hj
    exact ⟨h1.1, Nat.lt_of_lt_of_le h1.2.1 t.size, h1.2.2⟩⟩, h.turn.trans t⟩

theorem RM.more (h : RM Q w v rl wr) (hq : ∀ p ∈ qs, Sees wr p.1 p.2 ∧ (0 < p.2.length → ∀ j, slab p.1 = some j → (Q j ∨ w.heap.size ≤ j) ∧ j < wr.heap.size ∧ v.ownBlock ≠ some j))
    (ho : OwnsC 31 w2 v2 (rl.map (·.1) ++ qs.map (·.1))) (hg : wr.grownBy w2 v.ownBlock) (hk : v2.ownBlock = v.ownBlock ∨ v2.ownBlock = some wr.heap.size) : RM Q w v2 (rl ++ qs) w2 := by
  have tg : Turn (fun j => v.ownBlock = some j) wr w2 := (Turn.refl _ _).grown hg (fun j hj => .inl hj)
  refine ⟨by rw [List.map_append]; exact ho, fun k e => ?_, fun p hp => ?_, h.turn.trans' tg (fun j hj e => by have := h.new j e; omega)⟩
  · rcases hk with hk | hk
    · exact h.new k (hk ▸ e)
    · rw [hk] at e
      injection e with e
      have := h.turn.size
      omega
  · have hp' : Sees wr p.1 p.2 ∧ (0 < p.2.length → ∀ j, slab p.1 = some j → (Q j ∨ w.heap.size ≤ j) ∧ j < wr.heap.size ∧ v.ownBlock ≠ some j) := (List.mem_append.1 hp).elim (h.each p) (hq p)
    refine ⟨hp'.1.kept' tg (fun h0 j hj => (hp'.2 h0 j hj).2.2), fun h0 j hj => ?_⟩
    obtain ⟨h1, h2, h3⟩ := hp'.2 h0 j hj
    refine ⟨h1, Nat.lt_of_lt_of_le h2 tg.size, fun e => ?_⟩
    rcases hk with hk | hk
    · exact h3 (hk ▸ e)
    · rw [hk] at e
      injection e with e
      omega

theorem RM.toRL (h : RM Q w v rl wr) : RL (grow Q w wr) wr v rl :=
  RL.of h.own (fun g hg => .inr ⟨h.new g hg, h.own.lt hg⟩) (fun p hp => ⟨(h.each p hp).1, fun h0 j hj => by
    obtain ⟨h1, h2, _⟩ := (h.each p hp).2 h0 j hj
    exact h1.imp id (fun e => ⟨e, h2⟩)⟩)

theorem RM.shape (h : RM Q w v rl wr) : ∃ ao cap, v = .slice ao rl.length cap := by
  obtain ⟨ao, cap, e⟩ := h.own.shape'
  rw [List.length_map] at e
  exact ⟨ao, cap, e⟩

end

def fewOf (l : List (List UInt8)) : List (List UInt8) := (l.take 4).map (List.take 60)

theorem fewOf_len (l : List (List UInt8)) : (fewOf l).length ≤ 4 := by unfold fewOf; simp; omega
theorem fewOf_each (l : List (List UInt8)) : ∀ x ∈ fewOf l, x.length ≤ 60 := by
  intro x hx
  obtain ⟨y, _, rfl⟩ := List.mem_map.1 hx
  simp
  omega

set_option maxHeartbeats 2000000 in
set_option maxRecDepth 100000 in
theorem fewList_any (v : Value) (l : List (Value × List UInt8)) (B : Nat) (w : World) (hl : ListAt w B v l) (hB : B ≤ w.heap.size) :
    Calls Tryz.prog 27 #[v] w fun e w' => ∃ v' rl, e = .returned v' ∧ RM (fun _ => False) w v' rl w' ∧ rl.map (·.2) = fewOf (l.map (·.2)) := by
  obtain ⟨lo, lc, rfl, hlm⟩ := hl.shape
  unfold maxLen at hlm
  have Hl := hide hl
  clear hl
  obtain ⟨len, hlen⟩ : ∃ len, len = l.length := ⟨_, rfl⟩
  have HL := hide hlen
  rw [← hlen] at hlm ⊢
  rw [← hlen] at Hl
  clear hlen
  go_enter Tryz.func27, Tryz.ntmps27
  go_wp2_with fail
  go_loopw [3, 4] (fun out i wr => ∃ (n : Nat) (rl : List (Value × List UInt8)), i = .int .i64 n ∧ n ≤ 4 ∧ n ≤ len ∧ RM (fun _ => False) w out rl wr ∧ rl.map (·.2) = ((l.map (·.2)).take n).map (List.take 60)) (fun _ i _ => (4 - intOf i).toNat)
  case atStart => exact ⟨0, [], rfl, by omega, by omega, RM.nil _ _, rfl⟩
  case round =>
    obtain ⟨n, rl, rfl, hn4, hnl, hm, he⟩ := hrel
    have hrl : rl.length = n := by
      have := congrArg List.length he
      have h2 := unhide HL
      simp at this
      omega
    by_cases hlt : n < len ∧ n < 4
    · have hkl : n < l.length := by have := unhide HL; omega
      obtain ⟨a, rfl, hcell, hsee, hsl, _⟩ := ((unhide Hl).kept hm.turn hB (fun _ _ h => h)).at n hkl
      have HFw := hide (few_any _ _ 60 wr hsee (by omega))
      obtain ⟨xo, xc, hxe⟩ := hsee.shape
      rw [hxe] at hcell HFw
      have q1 : (n : Int) < len := by omega
      have q2 : (n : Int) < 4 := by omega
      have Hm := hide hm
      have He := hide he
      have hnext : ((l.map (·.2)).take (n + 1)).map (List.take 60) = ((l.map (·.2)).take n).map (List.take 60) ++ [l[n].2.take 60] := by
        rw [List.take_succ_eq_append_getElem (by simpa using hkl)]
        simp
      have HN := hide hnext
      obtain ⟨oo, oc, hoe⟩ := hm.shape
      have hxm := hsee.len
      unfold maxLen at hxm
      clear hm he hsee hsl hxe hnext
      generalize l[n].2.take 60 = ys at *
      generalize l[n].2 = xs at *
      rw [hrl] at hoe
      subst hoe
      go_wp2_with fail
      refine (unhide HFw).mono ?_
      rintro e w1 ⟨v1, rfl, m1⟩
      obtain ⟨o1, c1, hv1⟩ := m1.1.shape
      have hm1 := (unhide Hm).goes m1.2.1
      have ta : Turn (fun _ => False) w1 (w1.alloc (.cells #[v1] 31)) := (Turn.refl _ _).alloc _
      have hlit := SeesC.lit w1 [v1] 31 (by simp [maxLen])
      have hm2 := hm1.goes ta
      obtain ⟨v2, w2, hr, ho, hg, hk⟩ := append_lists _ _ (rl.map (·.1)) hm2.own _ [v1] hlit (by intro u hu; simp at hu; rw [hu, hv1]; rfl) (by rw [List.length_map, hrl]; simp; omega)
      have hfin := hm2.more (qs := [(v1, ys)]) (by
        intro p hp
        simp only [List.mem_singleton] at hp
        subst hp
        refine ⟨m1.1.sees.kept ta (fun _ _ e => e), fun h0 j hj => ?_⟩
        have hj' : v1.ownBlock = some j := by rw [← m1.1.slab_eq]; exact hj
        have h1 := m1.2.2 j hj'
        have h2 := m1.1.lt hj'
        have h3 := (unhide Hm).turn.size
        have h4 := ta.size
        refine ⟨.inr (by omega), by omega, fun e => ?_⟩
        have := (unhide Hm).own.lt e
        omega) ho hg hk
      obtain ⟨o2, c2, hv2⟩ := ho.shape'
      simp only [List.length_append, List.length_map, List.length_cons, List.length_nil, Nat.zero_add] at hv2
      rw [hrl] at hv2
      simp only [List.length_cons, List.length_nil, Nat.zero_add] at hr
      have Hr := hide hr
      have Hfin := hide hfin
      clear hfin hr hk hg ho hm2 hlit ta hm1 hcell HFw m1
      subst hv1 hv2
      go_wp2_with (at_builtin; refine wpList_append_run rfl (.tmp 15) (.tmp 21) 23 rfl _ _ _ w2 rfl rfl (unhide Hr) ?_)
      go_roundw
      case rel => exact ⟨n + 1, _, by go_num, by omega, by omega, unhide Hfin, by rw [List.map_append, unhide He, unhide HN]; rfl⟩
      case measure => simp [intOf]; omega
    · have hend : ((l.map (·.2)).take n).map (List.take 60) = fewOf (l.map (·.2)) := by
        unfold fewOf
        congr 1
        by_cases h4 : n < 4
        · have h5 := unhide HL
          rw [List.take_of_length_le (by simp; omega), List.take_of_length_le (by simp; omega)]
        · have : n = 4 := by omega
          rw [this]
      rw [hend] at he
      obtain ⟨oo, oc, hoe⟩ := hm.shape
      rw [hrl] at hoe
      have Hfin := hide (And.intro hm he)
      have hexit : ((n : Int) < len ∧ ¬ (n : Int) < 4) ∨ ¬ (n : Int) < len := by omega
      subst hoe
      clear hm he hend hlt
      rcases hexit with ⟨x1, x2⟩ | x1
      all_goals (
        go_wp2
        go_ret
        exact ⟨_, rfl, rl, (unhide Hfin).1, (unhide Hfin).2⟩)

section
variable {Q Q' : Nat → Prop} {w : World} {a b : Value} {la lb : List (Value × List UInt8)}

theorem turn_drewN6 (w : World) (n : Nat) : Turn (fun _ => False) w (w.drewN n) := ⟨rfl, rfl, rfl, Nat.le_refl _, fun _ _ _ => rfl⟩

set_option maxHeartbeats 2000000 in
set_option maxRecDepth 100000 in
theorem same_any (w : World) (a b : Value) (la lb : List (Value × List UInt8)) (ha : RL Q w a la) (hb : RL Q' w b lb) :
    Calls Tryz.prog 25 #[a, b] w fun e w' => e = .returned (.bool (decide (la.map (·.2) = lb.map (·.2)))) ∧ Turn (fun _ => False) w w' := by
  obtain ⟨ao, ac, rfl⟩ := ha.shape
  obtain ⟨bo, bc, rfl⟩ := hb.shape
  have hla := ha.len
  have hlb := hb.len
  unfold maxLen at hla hlb
  by_cases hne : la.length = lb.length
  · have HA := hide ha
    have HB := hide hb
    obtain ⟨len, hlen⟩ : ∃ len, len = la.length := ⟨_, rfl⟩
    rw [← hne, ← hlen] at HB
    rw [← hlen] at HA
    rw [← hne, ← hlen] at hlb ⊢
    have HL := hide hlen
    have HL2 := hide hne
    clear hne hlen ha hb hla
    have q0 : ((len : Int) != (len : Int)) = false := by simp
    go_enter Tryz.func25, Tryz.ntmps25
    go_wp2
    go_loopw [5] (fun i wr => ∃ n : Nat, i = .int .i64 n ∧ n ≤ len ∧ (la.map (·.2)).take n = (lb.map (·.2)).take n ∧ Turn (fun _ => False) w wr) (fun i _ => len - (intOf i).toNat)
    case atStart => exact ⟨0, rfl, by omega, rfl, Turn.refl _ _⟩
    case round =>
      obtain ⟨n, rfl, hn, heq, tn⟩ := hrel
      by_cases hlt : n < len
      · have h1 := unhide HL
        have h2 := unhide HL2
        obtain ⟨ga, ca, ax, an, axc, ea, ea1, ea2, hca⟩ := ((unhide HA).kept tn (fun _ _ e => e)).at n (by omega)
        obtain ⟨gb, cb, bx, bn, bxc, eb, eb1, eb2, hcb⟩ := ((unhide HB).kept tn (fun _ _ e => e)).at n (by omega)
        have hsa := (((unhide HA).kept tn (fun _ _ e => e)).each (la[n]'(by omega)) (List.getElem_mem _)).1
        have hsb := (((unhide HB).kept tn (fun _ _ e => e)).each (lb[n]'(by omega)) (List.getElem_mem _)).1
        rw [ea1] at hsa
        rw [eb1] at hsb
        have hcvA := fun k => run_text_of_sees (P := Tryz.prog) (wr.drewN k) 31 9 Tryz.underlying31 Tryz.underlying5 Tryz.underlying9 (show Sees (wr.drewN k) _ _ from hsa)
        have hcvB := fun k => run_text_of_sees (P := Tryz.prog) (wr.drewN k) 31 9 Tryz.underlying31 Tryz.underlying5 Tryz.underlying9 (show Sees (wr.drewN k) _ _ from hsb)
        have htk : la.map (·.2) = lb.map (·.2) → (la[n]'(by omega)).2 = (lb[n]'(by omega)).2 := fun e => by
          have e1 := congrArg (fun l => l[n]?) e
          simp only [List.getElem?_map, List.getElem?_eq_getElem (show n < la.length by omega), List.getElem?_eq_getElem (show n < lb.length by omega), Option.map_some, Option.some.injEq] at e1
          exact e1
        have hnx : (la[n]'(by omega)).2 = (lb[n]'(by omega)).2 → (la.map (·.2)).take (n + 1) = (lb.map (·.2)).take (n + 1) := fun e => by
          rw [List.take_succ_eq_append_getElem (by simp; omega), List.take_succ_eq_append_getElem (by simp; omega), heq]
          simp [e]
        have Htk := hide htk
        have Hnx := hide hnx
        have Heq := hide heq
        clear htk hnx heq hsa hsb ea1 eb1 ea2 eb2
        generalize (la[n]'(by omega)).2 = x at *
        generalize (lb[n]'(by omega)).2 = y at *
        injection ea with ea ea2 ea3
        injection eb with eb eb2 eb3
        clear ea2 ea3 eb2 eb3
        subst ea eb
        have q1 : (n : Int) < len := by omega
        clear h1 h2
        by_cases hxy : x = y
        · subst hxy
          go_wp2_with fail
          go_quiet ((fail))
          go_wp2
          exact ⟨⟨n + 1, by go_num, by omega, unhide Hnx trivial, tn.trans (turn_drewN6 _ nq)⟩, by simp [intOf]; omega⟩
        · have q2 : (x == y) = false := by simpa using hxy
          have Hd := hide (decide_eq_false (fun e => hxy (unhide Htk e)))
          clear hxy
          go_wp2_with fail
          go_quiet ((fail))
          go_wp2
          go_ret
          rw [unhide Hd]
          exact ⟨rfl, tn.trans (turn_drewN6 _ nq)⟩
      · obtain rfl : n = len := by omega
        have q1 : ¬ (n : Int) < n := by omega
        have h1 := unhide HL
        have h2 := unhide HL2
        rw [List.take_of_length_le (by rw [List.length_map]; omega), List.take_of_length_le (by rw [List.length_map]; omega)] at heq
        have Hd := hide (decide_eq_true heq)
        clear heq h1 h2
        go_wp2
        go_ret
        rw [unhide Hd]
        exact ⟨rfl, tn⟩
  · have hd : decide (la.map (·.2) = lb.map (·.2)) = false := decide_eq_false (fun e => hne (by simpa using congrArg List.length e))
    rw [hd]
    have q0 : ((la.length : Int) != (lb.length : Int)) = true := by simp; omega
    clear ha hb hd
    generalize la.length = n at *
    generalize lb.length = m at *
    go_enter Tryz.func25, Tryz.ntmps25
    go_wp2
    go_ret
    exact ⟨rfl, Turn.refl _ _⟩

end

section
variable {K K2 : Nat → Prop} {w wr : World} {v a b : Value} {la lb : List (Value × List UInt8)}

theorem RL.one (h : RL K w a la) : ∀ u ∈ la.map (·.1), u.oneCell' = true := by
  intro u hu
  obtain ⟨p, hp, rfl⟩ := List.mem_map.1 hu
  obtain ⟨ao, c, e⟩ := (h.each p hp).1.shape
  rw [e]
  rfl

/-- Records behind records in the making. -/
theorem RM.cat (h : RM K w v la wr) (hb : RL K2 wr b lb) (hq : ∀ j, K2 j → (K j ∨ w.heap.size ≤ j) ∧ j < wr.heap.size ∧ v.ownBlock ≠ some j) (hlen : la.length + lb.length ≤ 1000000) :
    ∃ v2 w2, (Builtin.append_ #[23, 23] 23 #[v, b]).run Tryz.prog wr = .ok v2 w2 ∧ RM K w v2 (la ++ lb) w2 := by
  obtain ⟨v2, w2, hr, ho, hg, hk⟩ := append_lists wr v (la.map (·.1)) h.own b (lb.map (·.1)) hb.sees hb.one (by simp; omega)
  exact ⟨v2, w2, hr, h.more (fun p hp => ⟨(hb.each p hp).1, fun h0 j hj => hq j ((hb.each p hp).2 h0 j hj)⟩) ho hg hk⟩

/-- A copy of records, and others behind them. -/
theorem cat_two (ha : RL K w a la) (hb : RL K w b lb) (hK : ∀ j, K j → j < w.heap.size) (hlen : la.length + lb.length ≤ 1000000) :
    ∃ v1 w1 v2 w2, (Builtin.append_ #[23, 23] 23 #[.slice (some ⟨w.heap.size, 0, none⟩) 0 0, a]).run Tryz.prog (w.alloc (.cells #[] 31)) = .ok v1 w1 ∧ (∃ ao c, v1 = .slice ao la.length c) ∧
      (Builtin.append_ #[23, 23] 23 #[v1, b]).run Tryz.prog w1 = .ok v2 w2 ∧ RM K w v2 (la ++ lb) w2 := by
  have h0 := RM.empty K w
  have ta : Turn (fun _ => False) w (w.alloc (.cells #[] 31)) := (Turn.refl _ _).alloc _
  obtain ⟨v1, w1, r1, h1⟩ := h0.cat (ha.kept ta (fun _ _ e => e)) (fun j hj => by
    have := hK j hj
    have := ta.size
    refine ⟨.inl hj, by omega, fun e => ?_⟩
    simp [Value.ownBlock] at e
    omega) (by simp; omega)
  rw [List.nil_append] at h1
  obtain ⟨v2, w2, r2, h2⟩ := h1.cat (hb.kept h1.turn (fun _ _ e => e)) (fun j hj => by
    have := hK j hj
    have := h1.turn.size
    refine ⟨.inl hj, by omega, fun e => ?_⟩
    have := h1.new j e
    omega) hlen
  exact ⟨v1, w1, v2, w2, r1, h1.shape, r2, h2⟩

end

theorem few_len {rl : List (Value × List UInt8)} {l : List (List UInt8)} (h : rl.map (·.2) = fewOf l) : rl.length ≤ 4 ∧ ∀ x ∈ rl.map (·.2), x.length ≤ 60 := by
  have h1 := congrArg List.length h
  rw [List.length_map] at h1
  have := fewOf_len l
  exact ⟨by omega, by rw [h]; exact fewOf_each l⟩

end Go.Proofs.YtfmbkpdjjhcmcaaGreat
