/- The reference's turn: files behind one that pends, in new memory. -/
import Derived.Test.YtnipdgigjcaolaaGreatPkC
namespace Go.Proofs.YtnipdgigjcaolaaGreat
open Go.RowKit

/-- What a turn tells. -/
def Turned (Q : Nat → Prop) (w : World) (bs : List (List UInt8)) (e : Ending) (w' : World) : Prop :=
  ∃ v' l', e = .returned v' ∧ RL (grow Q w w') w' v' l' ∧ l'.map (·.2) = bs ∧ Turn (fun _ => False) w w'

theorem set_map1 (l : List (Value × List UInt8)) (k : Nat) (p : Value × List UInt8) : (l.set k p).map (·.1) = (l.map (·.1)).set k p.1 := by rw [List.map_set]
theorem set_map2 (l : List (Value × List UInt8)) (k : Nat) (p : Value × List UInt8) : (l.set k p).map (·.2) = (l.map (·.2)).set k p.2 := by rw [List.map_set]

/-- One place of a row of lists is written anew. -/
theorem MadeL.set {w w1 : World} {g n c k : Nat} {cs : List Value} (h : MadeL w (.slice (some ⟨g, 0, none⟩) n c) cs w1) (u : Value) : MadeL w (.slice (some ⟨g, 0, none⟩) n c) (cs.set k u) (w1.setCell ⟨g, k, none⟩ u) := by
  obtain ⟨ho, t, hn⟩ := h
  refine ⟨?_, t.setCell (p := ⟨g, k, none⟩) (.inr (hn g rfl)) _, hn⟩
  rcases ho.2 with ⟨h0, _⟩ | ⟨g', cap, cur, e, h1, h2, h3, h4, h5, h6⟩
  · simp at h0
  · simp only [Value.slice.injEq, Option.some.injEq, Addr.mk.injEq, and_true] at e
    obtain ⟨rfl, rfl, rfl⟩ := e
    refine ⟨by rw [List.length_set]; exact ho.1, .inr ⟨g, c, _, by rw [List.length_set], h1, heap_setCell_same w1 g _ _ _ _ h2, by rw [List.length_set]; exact h3, h4, by rw [Array.size_setIfInBounds]; exact h5, ?_⟩⟩
    rw [Array.toList_setIfInBounds, List.take_set, List.length_set, h6]

theorem MadeL.frozen {w w1 : World} {g n c k : Nat} {cs : List Value} (h : MadeL w (.slice (some ⟨g, 0, none⟩) n c) cs w1) : w1.frozen? ⟨g, k, none⟩ = false := by
  rcases h.1.2 with ⟨h0, _⟩ | ⟨g', cap, cur, e, h1, h2, h3, h4, h5, h6⟩
  · simp at h0
  · simp only [Value.slice.injEq, Option.some.injEq, Addr.mk.injEq, and_true] at e
    obtain ⟨rfl, rfl, rfl⟩ := e
    exact frozen_of_row w1 g _ _ _ h2

theorem MadeL.cell {w w1 : World} {g n c k : Nat} {cs : List Value} {u : Value} (h : MadeL w (.slice (some ⟨g, 0, none⟩) n c) cs w1) (hk : cs[k]? = some u) : w1.cell? ⟨g, k, none⟩ = some u := by
  rcases h.1.sees with ⟨h0, _⟩ | ⟨a, cap', e, _, _, hc⟩
  · simp at h0
  · simp only [Value.slice.injEq, Option.some.injEq] at e
    have hh := hc k u hk
    rwa [← e.1, addr_lit, Nat.zero_add] at hh

theorem MadeL.kept {S : Nat → Prop} {w w1 w2 : World} {v : Value} {cs : List Value} (h : MadeL w v cs w1) (t : Turn S w1 w2) (hS : ∀ k, v.ownBlock = some k → ¬ S k) (hT : ∀ k, k < w.heap.size → ¬ S k) : MadeL w v cs w2 :=
  ⟨h.1.kept t hS, h.2.1.trans' t (fun i hi e => hT i hi e), h.2.2⟩

/-- The bytes that one that pends lays. -/
def DOp.bytes : DOp → List UInt8
  | .lay _ bs => bs
  | .rem _ => []

/-- How long a slice is. -/
def vlen : Value → Nat
  | .slice _ n _ => n
  | _ => 0

section
variable {Q : Nat → Prop} {w : World} {v : Value} {l : List (Value × List UInt8)}

/-- The padded list. -/
def padL (l : List (Value × List UInt8)) (n : Nat) : List (Value × List UInt8) := l ++ List.replicate n (.slice none 0 0, [])

theorem padL_each (h : RL Q w v l) (n : Nat) : ∀ p ∈ padL l n, Sees w p.1 p.2 ∧ (0 < p.2.length → ∀ j, slab p.1 = some j → Q j) := by
  intro p hp
  rcases List.mem_append.1 hp with hp | hp
  · exact h.each p hp
  · obtain ⟨_, rfl⟩ := List.mem_replicate.1 hp
    exact ⟨Sees.nil _, fun h => by simp at h⟩

theorem padL_one (h : RL Q w v l) (n : Nat) : ∀ u ∈ (padL l n).map (·.1), u.oneCell' = true := by
  intro u hu
  obtain ⟨p, hp, rfl⟩ := List.mem_map.1 hu
  obtain ⟨ao, c, e⟩ := (padL_each h n p hp).1.shape
  rw [e]
  rfl

theorem padL_map2 (l : List (Value × List UInt8)) (n : Nat) : (padL l n).map (·.2) = l.map (·.2) ++ List.replicate n [] := by simp [padL]

theorem padL_succ (l : List (Value × List UInt8)) (n : Nat) : (padL l (n + 1)).map (·.1) = (padL l n).map (·.1) ++ [.slice none 0 0] := by
  unfold padL
  rw [List.replicate_succ', ← List.append_assoc, List.map_append]
  rfl

/-- The end of a turn: the row, and the file's new bytes. -/
theorem turned_of {w1 : World} {g n c k : Nat} {m : Nat} {u : Value} {us : List UInt8} (h : RL Q w v l) (hm : MadeL w (.slice (some ⟨g, 0, none⟩) n c) (((padL l m).map (·.1)).set k u) w1) (hu : Sees w1 u us) (hun : 0 < us.length → ∀ j, slab u = some j → w.heap.size ≤ j) :
    RL (grow Q w w1) w1 (.slice (some ⟨g, 0, none⟩) n c) ((padL l m).set k (u, us)) ∧ ((padL l m).set k (u, us)).map (fun (p : Value × List UInt8) => p.2) = (l.map (fun (p : Value × List UInt8) => p.2) ++ List.replicate m []).set k us := by
  refine ⟨RL.of ?_ ?_ ?_, by rw [set_map2, padL_map2]⟩
  · rw [set_map1]
    exact hm.1
  · intro j hj
    exact .inr ⟨hm.2.2 j hj, hm.1.lt hj⟩
  · intro p hp
    rcases List.mem_or_eq_of_mem_set hp with hp | rfl
    · obtain ⟨h1, h2⟩ := padL_each h m p hp
      exact ⟨h1.kept hm.2.1 (fun _ _ h => h), fun h0 j hj => .inl (h2 h0 j hj)⟩
    · refine ⟨hu, fun h0 j hj => .inr ⟨hun h0 j hj, ?_⟩⟩
      rcases hu with ⟨e, _⟩ | ⟨a, cap, e, _, _, hc⟩
      · rw [e] at hj; simp [slab] at hj
      · have h0' : 0 < (u8s us).length := by rw [u8s_length]; exact h0
        have := World.block_lt_of_cell? _ _ (hc 0 _ (List.getElem?_eq_getElem h0'))
        rw [addr_add_block] at this
        rw [e] at hj
        simp only [slab, Option.some.injEq] at hj
        omega

set_option maxHeartbeats 4000000 in
set_option maxRecDepth 100000 in
theorem turn_any (o : DOp) (ov : Value) (h : RL Q w v l) (ho : ROk Q w (o, ov)) (hk0 : 0 ≤ o.key) (hk1 : o.key ≤ 1073741824) (hl : l.length ≤ 1073741824) (hsz : ((l.map (·.2)).getD o.key.toNat []).length + o.bytes.length ≤ 140737488355328) :
    Calls Tryz.prog 97 #[v, .agg #[.int .i64 o.key, .bool o.isRem, ov]] w (Turned Q w (tl (l.map (·.2)) o)) := by
  obtain ⟨oo, on, oc, hov, hom⟩ := ho.shape
  simp only at hov
  subst hov
  unfold maxLen at hom
  obtain ⟨k, hk⟩ : ∃ k : Nat, (k : Int) = o.key := ⟨o.key.toNat, by omega⟩
  obtain ⟨vo, vc, hve⟩ := h.shape
  have hlm := h.len
  unfold maxLen at hlm
  have hsee := h.sees
  have hone : ∀ u ∈ l.map (·.1), u.oneCell' = true := by simpa [padL] using padL_one h 0
  have ta : Turn (fun _ => False) w ((w.alloc (.cells #[.int .i64 o.key, .bool o.isRem, .slice oo on oc] 96)).alloc (.cells #[] 29)) := ((Turn.refl _ _).alloc _).alloc _
  have hA0 := At.new 96 w #[.int .i64 o.key, .bool o.isRem, .slice oo on oc]
  have hA : At 96 ((w.alloc (.cells #[.int .i64 o.key, .bool o.isRem, .slice oo on oc] 96)).alloc (.cells #[] 29)) w.heap.size #[.int .i64 o.key, .bool o.isRem, .slice oo on oc] := hA0.kept (S := fun _ => False) ((Turn.refl _ _).alloc _) (fun h => h)
  have he := OwnsC.empty 29 (w.alloc (.cells #[.int .i64 o.key, .bool o.isRem, .slice oo on oc] 96))
  have hsize : (w.alloc (.cells #[.int .i64 o.key, .bool o.isRem, .slice oo on oc] 96)).heap.size = w.heap.size + 1 := by simp
  rw [hsize] at he
  obtain ⟨v1, w1, hr1, ho1, hg1, hk1'⟩ := append_lists _ _ _ he v (l.map (·.1)) (hsee.kept ta (fun _ _ h => h)) hone (by rw [List.length_map]; simp; omega)
  have hmade0 : MadeL w (.slice (some ⟨w.heap.size + 1, 0, none⟩) 0 0) [] ((w.alloc (.cells #[.int .i64 o.key, .bool o.isRem, .slice oo on oc] 96)).alloc (.cells #[] 29)) := ⟨he, ta, fun k hk => by simp [Value.ownBlock] at hk; omega⟩
  have hmade1 : MadeL w v1 ((padL l 0).map (·.1)) w1 := by
    have := hmade0.more (Turn.refl _ _) ho1 hg1 hk1'
    simpa [padL] using this
  have hA1 : At 96 w1 w.heap.size #[.int .i64 o.key, .bool o.isRem, .slice oo on oc] ∧ ∀ g, v1.ownBlock = some g → g ≠ w.heap.size := by
    have t1 : Turn (fun j => j = w.heap.size + 1) ((w.alloc (.cells #[.int .i64 o.key, .bool o.isRem, .slice oo on oc] 96)).alloc (.cells #[] 29)) w1 := (Turn.refl _ _).grown hg1 (fun k hk => .inl (by simp [Value.ownBlock] at hk; omega))
    refine ⟨hA.kept t1 (by omega), fun g hg => ?_⟩
    rcases hk1' with e | e
    · rw [e] at hg; simp [Value.ownBlock] at hg; omega
    · rw [e] at hg; injection hg with hg; simp at hg; omega
  obtain ⟨ao1, c1, hv1⟩ := hmade1.shape
  have hpl : ∀ n, ((padL l n).map (·.1)).length = l.length + n := fun n => by simp [padL]
  rw [hpl] at hv1
  simp only [Nat.add_zero] at hv1
  subst hve hv1
  have H1 := hide hmade1
  have HA1 := hide hA1
  have Hr1 := hide hr1
  have Hh := hide h
  have Hk := hide hk
  have hk2 : k ≤ 1073741824 := by omega
  rw [← hk] at Hr1 HA1 ⊢
  clear hmade1 hmade0 hA1 hr1 ho1 hg1 hk1' he hsize hA hA0 ta hsee hone h hk
  go_enter Tryz.func97, Tryz.ntmps97
  go_wp2_with (at_builtin; refine wpList_append_run rfl (.tmp 6) (.tmp 7) 22 rfl _ _ _ w1 rfl rfl (unhide Hr1) ?_)
  go_loopw [5] (fun out wr => ∃ (n : Nat) (ao : Option Addr) (c : Nat), out = .slice ao (l.length + n) c ∧ MadeL w (.slice ao (l.length + n) c) ((padL l n).map (·.1)) wr ∧ (n = 0 ∨ l.length + n ≤ k + 1) ∧ At 96 wr w.heap.size #[.int .i64 k, .bool o.isRem, .slice oo on oc] ∧ ∀ g, (Value.slice ao (l.length + n) c).ownBlock = some g → g ≠ w.heap.size) (fun out _ => k + 1 - vlen out)
  case atStart => exact ⟨0, ao1, c1, rfl, unhide H1, .inl rfl, unhide HA1⟩
  case round =>
    clear H1 HA1 Hr1
    obtain ⟨n, ao, c, rfl, hm, hn, hA, hgn⟩ := hrel
    have r0 : wr.cell? ⟨w.heap.size, 0, none⟩ = some (.int .i64 k) := hA.cell 0
    have r1 : wr.cell? ⟨w.heap.size, 1, none⟩ = some (.bool o.isRem) := hA.cell 1
    have r2 : wr.cell? ⟨w.heap.size, 2, none⟩ = some (.slice oo on oc) := hA.cell 2
    by_cases hlt : l.length + n ≤ k
    · have ta : Turn (fun _ => False) wr (wr.alloc (.cells #[.slice none 0 0] 29)) := (Turn.refl _ _).alloc _
      have hone := SeesC.lit wr [.slice none 0 0] 29 (by simp [maxLen])
      obtain ⟨v2, w2, hr2, ho2, hg2, hk2⟩ := append_lists _ _ _ (hm.1.kept ta (fun _ _ h => h)) _ [.slice none 0 0] hone (by intro u hu; simp at hu; rw [hu]; rfl) (by rw [hpl]; simp; omega)
      rw [← padL_succ] at ho2
      have hm2 := hm.more ta ho2 hg2 hk2
      obtain ⟨ao2, c2, hv2⟩ := hm2.shape
      rw [hpl] at hv2
      subst hv2
      have t2 : Turn (fun j => (Value.slice ao (l.length + n) c).ownBlock = some j) (wr.alloc (.cells #[.slice none 0 0] 29)) w2 := (Turn.refl _ _).grown hg2 (fun k hk => .inl hk)
      have hA2 := (hA.kept ta (fun h => h)).kept t2 (fun e => hgn _ e rfl)
      have hgn2 : ∀ g, (Value.slice ao2 (l.length + (n + 1)) c2).ownBlock = some g → g ≠ w.heap.size := by
        intro g hg
        rcases hk2 with e | e
        · exact hgn g (e ▸ hg)
        · rw [e] at hg
          injection hg with hg
          have := ta.size
          have := hA.lt
          omega
      have hfin := And.intro hm2 (And.intro hA2 hgn2)
      have Hfin := hide hfin
      simp only [List.length_cons, List.length_nil, Nat.zero_add] at hr2
      have Hr2 := hide hr2
      clear hfin hr2 hm2 hA2 hgn2 t2 ho2 hg2 hk2 hone ta hA hm
      have q1 : ((l.length + n : Nat) : Int) ≤ k := by omega
      go_wp2_with (at_builtin; refine wpList_append_run rfl (.tmp 14) (.tmp 15) 22 rfl _ _ _ w2 rfl rfl (unhide Hr2) ?_)
      exact ⟨⟨n + 1, ao2, c2, rfl, (unhide Hfin).1, .inr (by omega), (unhide Hfin).2⟩, by simp [vlen]; omega⟩
    · obtain rfl : n = k + 1 - l.length := by omega
      have hkl : k < l.length + (k + 1 - l.length) := by omega
      obtain ⟨g, hg⟩ : ∃ g, ao = some ⟨g, 0, none⟩ := by
        rcases hm.1.shape with ⟨h0, _⟩ | ⟨g, cap, h0, _⟩
        · injection h0 with _ e2; omega
        · injection h0 with e1; exact ⟨g, e1⟩
      subst hg
      have hgw : g ≠ w.heap.size := hgn g rfl
      have q1 : ¬ ((l.length + (k + 1 - l.length) : Nat) : Int) ≤ k := by omega
      have hcm : c ≤ 9223372036854775807 ∧ l.length + (k + 1 - l.length) ≤ c := by
        rcases hm.1.shape with ⟨h0, _⟩ | ⟨g, cap, h0, h1, h2⟩
        · simp at h0
        · injection h0 with e1 e2 e3; subst e3; rw [hpl] at h1; exact ⟨h2, h1⟩
      have hf := hm.frozen (k := k)
      obtain ⟨p, hp⟩ : ∃ p, (padL l (k + 1 - l.length))[k]? = some p := ⟨_, List.getElem?_eq_getElem (by simpa [padL] using hkl)⟩
      have hpe := padL_each (unhide Hh) _ p (List.mem_of_getElem? hp)
      obtain ⟨po, pc, hpv⟩ := hpe.1.shape
      have hcell : wr.cell? ⟨g, k, none⟩ = some (.slice po p.2.length pc) := by rw [← hpv]; exact hm.cell (by rw [List.getElem?_map, hp]; rfl)
      generalize hN : l.length + (k + 1 - l.length) = nn at *
      have q2 : (k : Int) < nn := by omega
      cases o with
      | rem f =>
        have hfk : k = f.toNat := by have e : (k : Int) = f := unhide Hk; omega
        obtain ⟨hd1, hd2⟩ := turned_of (us := []) (unhide Hh) (hm.set (k := k) (.slice none 0 0)) (Sees.nil _) (fun h => by simp at h)
        have hfin : Turned Q w (tl (l.map (·.2)) (.rem f)) (.returned (.slice (some ⟨g, 0, none⟩) nn c)) (wr.setCell ⟨g, k, none⟩ (.slice none 0 0)) := by
          refine ⟨_, _, rfl, hd1, ?_, (hm.set (k := k) (.slice none 0 0)).2.1⟩
          rw [hd2]
          simp [tl, DOp.key, hfk]
        have r1' : wr.cell? ⟨w.heap.size, 1, none⟩ = some (.bool true) := r1
        have Hfin := hide hfin
        clear hfin hd1 hd2 hm hA r1 hN hn hp hpl hgn hpe hpv hfk
        go_wp2
        go_ret
        exact unhide Hfin
      | lay f bs =>
        have hfk : k = f.toNat := by have e : (k : Int) = f := unhide Hk; omega
        obtain ⟨i0, hi, hz0, hz1, hz2⟩ := info_parts Tryz.infoU8
        have hob : Sees w (.slice oo on oc) bs := ho.1
        obtain ⟨oo', oc', hoe⟩ := hob.shape
        injection hoe with e1 e2 e3
        subst e2
        clear e1 e3
        have hps : p.2 = (l.map (fun (p : Value × List UInt8) => p.2)).getD f.toNat [] := by
          have h1 : ((padL l (k + 1 - l.length)).map (fun (p : Value × List UInt8) => p.2)).getD k [] = p.2 := by rw [List.getD_eq_getElem?_getD, List.getElem?_map, hp]; rfl
          rw [padL_map2, getD_pad, hfk] at h1
          exact h1.symm
        have hsz2 : p.2.length + bs.length ≤ 140737488355328 := by rw [hps]; exact hsz
        have td : Turn (fun _ => False) w (wr.drew.alloc (.cells #[] 5)) := hm.2.1.drew.alloc _
        have hp1 : Sees (wr.drew.alloc (.cells #[] 5)) (.slice po p.2.length pc) p.2 := by rw [← hpv]; exact hpe.1.kept td (fun _ _ h => h)
        obtain ⟨v3, w3, hr3, ho3, hg3, hk3⟩ := run_append_sees (P := Tryz.prog) _ 29 29 i0 Tryz.underlying29 hi hz0 hz1 hz2 _ [] (owns_empty wr.drew) _ p.2 hp1 (by simp; omega)
        have hk3' : v3.ownBlock = some wr.drew.heap.size ∨ v3.ownBlock = some (wr.drew.heap.size + 1) := by
          rcases hk3 with e | e
          · exact .inl e
          · right; rw [e]; simp
        have hmd3 : Made wr.drew v3 p.2 w3 := Made.append ho3 hg3 hk3'
        have hb3 : Sees w3 (.slice oo bs.length oc) bs := hob.kept (hm.2.1.drew.trans hmd3.2.1) (fun _ _ h => h)
        obtain ⟨v4, w4, hr4, ho4, hg4, hk4⟩ := run_append_sees (P := Tryz.prog) w3 29 29 i0 Tryz.underlying29 hi hz0 hz1 hz2 v3 p.2 hmd3.1 _ bs hb3 hsz2
        have hmd4 : Made wr.drew v4 (p.2 ++ bs) w4 := hmd3.more ho4 hg4 hk4
        have hlt : g < wr.heap.size := hm.1.lt rfl
        have hm4 : MadeL w (.slice (some ⟨g, 0, none⟩) nn c) ((padL l (k + 1 - l.length)).map (·.1)) w4 := hm.kept ((Turn.refl (fun _ => False) wr).drew.trans hmd4.2.1) (fun _ _ h => h) (fun _ _ h => h)
        have hm5 := hm4.set (k := k) v4
        have hs5 : Sees (w4.setCell ⟨g, k, none⟩ v4) v4 (p.2 ++ bs) := hmd4.1.sees.kept (Turn.at g k v4 w4) (fun j hj e => by
          rw [hmd4.1.slab_eq] at hj
          have := hmd4.2.2 j hj
          have h2 : wr.drew.heap.size = wr.heap.size := rfl
          omega)
        obtain ⟨hd1, hd2⟩ := turned_of (us := p.2 ++ bs) (unhide Hh) hm5 hs5 (fun _ j hj => by
          rw [hmd4.1.slab_eq] at hj
          have h1 := hmd4.2.2 j hj
          have h2 : wr.drew.heap.size = wr.heap.size := rfl
          have h3 := hm.2.1.size
          omega)
        have hfin : Turned Q w (tl (l.map (·.2)) (.lay f bs)) (.returned (.slice (some ⟨g, 0, none⟩) nn c)) (w4.setCell ⟨g, k, none⟩ v4) := by
          refine ⟨_, _, rfl, hd1, ?_, hm5.2.1⟩
          rw [hd2, hfk]
          simp only [tl, DOp.key, List.length_map]
          rw [getD_pad, ← hps]
        have r1' : wr.cell? ⟨w.heap.size, 1, none⟩ = some (.bool false) := r1
        have hAa : At 96 (wr.alloc (.cells #[] 5)) w.heap.size #[.int .i64 k, .bool (DOp.lay f bs).isRem, .slice oo bs.length oc] := hA.kept (S := fun _ => False) ((Turn.refl _ _).alloc _) (fun h => h)
        have hA3 : At 96 w3 w.heap.size #[.int .i64 k, .bool (DOp.lay f bs).isRem, .slice oo bs.length oc] := hA.kept (S := fun _ => False) ((Turn.refl _ wr).drew.trans hmd3.2.1) (fun h => h)
        have hA4 : At 96 w4 w.heap.size #[.int .i64 k, .bool (DOp.lay f bs).isRem, .slice oo bs.length oc] := hA.kept (S := fun _ => False) ((Turn.refl _ wr).drew.trans hmd4.2.1) (fun h => h)
        have a0 : (wr.alloc (.cells #[] 5)).cell? ⟨w.heap.size, 0, none⟩ = some (.int .i64 k) := hAa.cell 0
        have a2 : (wr.alloc (.cells #[] 5)).cell? ⟨w.heap.size, 2, none⟩ = some (.slice oo bs.length oc) := hAa.cell 2
        have b0 : w3.cell? ⟨w.heap.size, 0, none⟩ = some (.int .i64 k) := hA3.cell 0
        have b2 : w3.cell? ⟨w.heap.size, 2, none⟩ = some (.slice oo bs.length oc) := hA3.cell 2
        have d0 : w4.cell? ⟨w.heap.size, 0, none⟩ = some (.int .i64 k) := hA4.cell 0
        have ac : (wr.alloc (.cells #[] 5)).cell? ⟨g, k, none⟩ = some (.slice po p.2.length pc) := (((Turn.refl (fun _ => False) wr).alloc (.cells #[] 5)).cell (p := ⟨g, k, none⟩) hlt (fun h => h)).trans hcell
        have hr3' : (Builtin.append_ #[29, 29] 29 #[.slice (some ⟨wr.heap.size, 0, none⟩) 0 0, .slice po p.2.length pc]).run Tryz.prog (wr.alloc (.cells #[] 5)).drew = .ok v3 w3 := hr3
        have hf4 : w4.frozen? ⟨g, k, none⟩ = false := hm4.frozen
        have hc4 : w4.cell? ⟨g, k, none⟩ = some (.slice po p.2.length pc) := by rw [← hpv]; exact hm4.cell (by rw [List.getElem?_map, hp]; rfl)
        obtain ⟨o3, c3, hv3⟩ := hmd3.1.shape
        obtain ⟨o4, c4, hv4⟩ := hmd4.1.shape
        subst hv3 hv4
        have Hfin := hide hfin
        have Hr3 := hide hr3'
        have Hr4 := hide hr4
        generalize (p.2 ++ bs).length = n4 at *
        clear hfin hd1 hd2 hm5 hs5 hm4 hmd4 ho4 hg4 hk4 hr4 hb3 hmd3 ho3 hg3 hk3 hr3 hp1 td hm hA r1 hob hN hn hpl hgn hk3' hfk hps hp hpe hpv hr3' hAa hA3 hA4
        go_wp2_with fail
        go_region_law (first
          | (refine step_append_run (by rfl) (.tmp 32) (.tmp 34) 29 (by rfl) (.slice o3 p.2.length c3) (.slice oo bs.length oc) (.slice o4 n4 c4) w4 (by simp [Act.eval]) (by simp [Act.eval]) (unhide Hr4) ?_)
          | (refine step_append_run (by rfl) (.tmp 26) (.tmp 31) 29 (by rfl) (.slice (some ⟨wr.heap.size, 0, none⟩) 0 0) (.slice po p.2.length pc) (.slice o3 p.2.length c3) w3 (by simp [Act.eval]) (by simp [Act.eval]) (unhide Hr3) ?_))
        all_goals (
          go_wp2
          go_ret
          exact unhide Hfin)

end

end Go.Proofs.YtnipdgigjcaolaaGreat
