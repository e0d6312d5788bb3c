/- The reference's put: a change among pairs. -/
import Derived.Test.YtnipdgigjcaolaaGreatRPr
import Derived.BigQuiet
namespace Go.Proofs.YtnipdgigjcaolaaGreat
open Go.RowKit

theorem turn_drewNR (w : World) (n : Nat) : Turn (fun _ => False) w (w.drewN n) := ⟨rfl, rfl, rfl, Nat.le_refl _, fun _ _ _ => rfl⟩

/-- Within put's loop. -/
structure PtR (Q : Nat → Prop) (w1 : World) (out : Value) (pre : List (List UInt8 × (Value × List UInt8))) (k : List UInt8) (z : Value × List UInt8) (has done : Bool) (pl : List (List UInt8 × (Value × List UInt8))) (n : Nat) (wr : World) : Prop where
  pm : PM Q w1 out pre wr
  is : pre ++ putR k z done (pl.drop n) = putR k z (!has) pl
  len : pre.length ≤ 2 * n

def PtAt (Q : Nat → Prop) (w1 : World) (k : List UInt8) (z : Value × List UInt8) (has : Bool) (pl : List (List UInt8 × (Value × List UInt8))) (len : Nat) (out dn i : Value) (wr : World) : Prop :=
  ∃ (n : Nat) (done : Bool) (pre : List (List UInt8 × (Value × List UInt8))), i = .int .i64 n ∧ n ≤ len ∧ dn = .bool done ∧ PtR Q w1 out pre k z has done pl n wr

section
variable {Q : Nat → Prop} {w1 wr w2 : World} {out v2 : Value} {pre pl : List (List UInt8 × (Value × List UInt8))} {k : List UInt8} {z : Value × List UInt8} {has done : Bool} {n : Nat}

theorem PtR.next (h : PtR Q w1 out pre k z has done pl n wr) (hn : n < pl.length) (hp : PM Q w1 v2 (pre ++ ((if (!done && bytesBefore k pl[n].1) = true then [(k, z)] else []) ++ (if pl[n].1 = k then [] else [pl[n]]))) w2) : PtR Q w1 v2 (pre ++ ((if (!done && bytesBefore k pl[n].1) = true then [(k, z)] else []) ++ (if pl[n].1 = k then [] else [pl[n]]))) k z has (done || bytesBefore k pl[n].1) pl (n + 1) w2 := by
  refine ⟨hp, ?_, ?_⟩
  · rw [← h.is, List.drop_eq_getElem_cons hn, putR, List.append_assoc, List.append_assoc]
  · have := h.len
    have h1 : (if (!done && bytesBefore k pl[n].1) = true then [(k, z)] else []).length ≤ 1 := by split <;> simp
    have h2 : (if pl[n].1 = k then [] else [pl[n]]).length ≤ 1 := by split <;> simp
    simp only [List.length_append]
    omega

set_option maxHeartbeats 8000000 in
set_option maxRecDepth 100000 in
theorem rput_any (v : Value) (pl : List (List UInt8 × (Value × List UInt8))) (k : List UInt8) (has : Bool) (cv : Value) (bs : List UInt8) (w : World) (h : PrL Q w v pl) (hl : pl.length ≤ 1000000) (hs : Sees w cv bs) (hm : 0 < bs.length → ∀ j, slab cv = some j → Q j) (hQ : ∀ j, Q j → j < w.heap.size) (hk : k.length ≤ 1099511627776) (hb : bs.length ≤ 140737488355328) :
    Calls Tryz.prog 92 #[v, .agg #[.string (txt k), .bool has, cv]] w fun e w' => ∃ v', e = .returned v' ∧ PrL (grow Q w w') w' v' (putR k (cv, bs) (!has) pl) ∧ Turn (fun _ => False) w w' := by
  obtain ⟨co, cc, hcv⟩ := hs.shape
  obtain ⟨w1, hw1⟩ : ∃ w1, w1 = w.alloc (.cells #[.string (txt k), .bool has, cv] 51) := ⟨_, rfl⟩
  have t1 : Turn (fun _ => False) w w1 := hw1 ▸ (Turn.refl _ _).alloc _
  have hA : At 51 w1 w.heap.size #[.string (txt k), .bool has, cv] := hw1 ▸ At.new _ _ _
  have hP := h.kept t1 (fun _ _ e => e)
  have hS := hs.kept t1 (fun _ _ e => e)
  have hs1 : w.heap.size < w1.heap.size := hA.lt
  obtain ⟨vo, vc, hve, _⟩ := h.shape
  obtain ⟨len, hlen⟩ : ∃ len, len = pl.length := ⟨_, rfl⟩
  have HL := hide hlen
  rw [← hlen] at hve hl
  have h0 : w1.cell? ⟨w.heap.size, 0, none⟩ = some (.string (txt k)) := hA.cell 0
  have h1 : w1.cell? ⟨w.heap.size, 1, none⟩ = some (.bool has) := hA.cell 1
  have h2 : w1.cell? ⟨w.heap.size, 2, none⟩ = some cv := hA.cell 2
  have HP := hide hP
  have HS := hide hS
  have HM := hide (And.intro hm (And.intro hQ (And.intro hk hb)))
  have HT1 := hide t1
  have HA := hide (And.intro hA hs1)
  have Hw1 := hide hw1
  have Hcv := hide hcv
  obtain ⟨bl, hbl⟩ : ∃ bl, bl = bs.length := ⟨_, rfl⟩
  have Hbl := hide hbl
  rw [← hbl] at hcv
  subst hve
  clear h hs hm hQ t1 hA hP hS hs1 hlen hw1 hbl hb hk
  go_enter Tryz.func92, Tryz.ntmps92
  subst hcv
  go_wp2_with fail
  rw [← unhide Hw1]
  go_wp2_with fail
  go_loopw [5, 6, 7] (fun out dn i wr => PtAt Q w1 k (.slice co bl cc, bs) has pl len out dn i wr) (fun _ _ i _ => len - (intOf i).toNat)
  case atStart => exact ⟨0, !has, [], rfl, by omega, rfl, PM.nil _ _, rfl, by simp⟩
  case round =>
    obtain ⟨n, done, pre, rfl, hn, rfl, hR⟩ := hrel
    obtain ⟨oo, oc, hoe⟩ := hR.pm.shape
    have hprl : pre.length ≤ 2000000 := by have := hR.len; omega
    have HPM := hide hR.pm
    by_cases hlt : n < len
    · have hnl : n < pl.length := by have := unhide HL; omega
      obtain ⟨g, cap, e, hg, hy⟩ := (unhide HP).each n hnl
      injection e with e1 e2 e3
      subst e1
      have hnx := fun v2 w2 => (hR.next (v2 := v2) (w2 := w2) hnl)
      obtain ⟨yk, yv, ybs, hye⟩ : ∃ yk yv ybs, pl[n] = (yk, (yv, ybs)) := ⟨_, _, _, rfl⟩
      rw [hye] at hy hnx
      obtain ⟨yo, yc, hyv⟩ := hy.sees.shape
      obtain ⟨ybl, hybl⟩ : ∃ ybl, ybl = ybs.length := ⟨_, rfl⟩
      have hyv2 : yv = .slice yo ybl yc := by rw [hybl]; exact hyv
      clear hyv
      subst hyv2
      have HY := hide hy
      have Hg := hide hg
      clear hy hye hg e2 hybl
      have a0 : wr.cell? ⟨g, n * 2, none⟩ = some (.string (txt yk)) := (((unhide HPM).turn).cell (p := ⟨g, n * 2, none⟩) (World.block_lt_of_cell? _ _ (unhide HY).c0) (fun e => e)).trans (unhide HY).c0
      have a1 : wr.cell? ⟨g, n * 2 + 1, none⟩ = some (.slice yo ybl yc) := (((unhide HPM).turn).cell (p := ⟨g, n * 2 + 1, none⟩) (World.block_lt_of_cell? _ _ (unhide HY).c1) (fun e => e)).trans (unhide HY).c1
      have a2 : wr.cell? ⟨w.heap.size, 0, none⟩ = some (.string (txt k)) := (((unhide HPM).turn).cell (p := ⟨w.heap.size, 0, none⟩) (unhide HA).2 (fun e => e)).trans h0
      have a3 : wr.cell? ⟨w.heap.size, 2, none⟩ = some (.slice co bl cc) := (((unhide HPM).turn).cell (p := ⟨w.heap.size, 2, none⟩) (unhide HA).2 (fun e => e)).trans h2
      have f1 := txt_less k yk
      have f2 := txt_same yk k
      have q1 : (n : Int) < len := by omega
      have q2 : len ≤ 1000000 := hl
      obtain ⟨bf, hbf⟩ : ∃ bf, bf = bytesBefore k yk := ⟨_, rfl⟩
      obtain ⟨eq, heq⟩ : ∃ eq, eq = (yk == k) := ⟨_, rfl⟩
      have heq2 : eq = true ↔ yk = k := by rw [heq]; simp
      have hnb : bf = true → eq = false := fun hb => by
        rw [heq, beq_eq_false_iff_ne]
        rintro rfl
        rw [hbf, before_self] at hb
        cases hb
      rw [← hbf] at f1 hnx
      rw [← heq] at f2
      have HNx := hide hnx
      have HE := hide heq2
      have Hnb := hide hnb
      obtain ⟨pln, hpln⟩ : ∃ pln, pln = pre.length := ⟨_, rfl⟩
      have Hpln := hide hpln
      rw [← hpln] at hoe hprl
      subst hoe
      clear hnx hR heq hbf heq2 hnb hpln
      rcases done with _ | _
      · rcases bf with _ | _
        · go_wp2_with fail
          go_quiet ((fail))
          obtain ⟨wx, hwx⟩ : ∃ wx, wx = wr.drewN nq := ⟨_, rfl⟩
          have HX := hide (((unhide HPM).goes (turn_drewNR wr nq)))
          rw [← hwx] at HX
          have d0 : wx.cell? ⟨g, n * 2, none⟩ = some (.string (txt yk)) := (((unhide HX).turn).cell (p := ⟨g, n * 2, none⟩) (World.block_lt_of_cell? _ _ (unhide HY).c0) (fun e => e)).trans (unhide HY).c0
          have d1 : wx.cell? ⟨g, n * 2 + 1, none⟩ = some (.slice yo ybl yc) := (((unhide HX).turn).cell (p := ⟨g, n * 2 + 1, none⟩) (World.block_lt_of_cell? _ _ (unhide HY).c1) (fun e => e)).trans (unhide HY).c1
          have d2 : wx.cell? ⟨w.heap.size, 0, none⟩ = some (.string (txt k)) := (((unhide HX).turn).cell (p := ⟨w.heap.size, 0, none⟩) (unhide HA).2 (fun e => e)).trans h0
          have d3 : wx.cell? ⟨w.heap.size, 2, none⟩ = some (.slice co bl cc) := (((unhide HX).turn).cell (p := ⟨w.heap.size, 2, none⟩) (unhide HA).2 (fun e => e)).trans h2
          clear a0 a1 a2 a3
          go_wp2_with fail
          rw [← hwx]
          clear hwx
          rcases eq with _ | _
          · go_quiet ((fail))
            have HZ := hide (((unhide HX).goes (turn_drewNR wx nq)))
            obtain ⟨v3, wz, r3, hp3, _⟩ := (unhide HZ).cat (yk, (.slice yo ybl yc, ybs)) ((unhide HY).sees.kept (unhide HZ).turn (fun _ _ e => e)) (fun h0 j hj => by
              have h1 := (unhide HY).mem h0 j hj
              have h2 := (unhide HM).2.1 j h1
              have h3 := (unhide HT1).size
              have h4 := (unhide HZ).turn.size
              exact ⟨.inl h1, by omega, fun e => by have := (unhide HZ).new j e; omega⟩) (unhide HY).key (unhide HY).len (by rw [← unhide Hpln]; omega)
            obtain ⟨o3, c3, e3⟩ := hp3.shape
            have HFin := hide hp3
            have R3 := hide r3
            have hne : ¬ yk = k := fun e => by have := (unhide HE).2 e; cases this
            have Hend := hide ((unhide HNx) v3 wz (by simpa [hne, List.append_assoc] using unhide HFin))
            clear hp3 r3
            generalize hl3 : List.length _ = l3 at e3
            subst e3
            clear hl3
            go_wp2_with (at_builtin; refine wpList_append_run rfl (.tmp 45) (.tmp 50) 144 rfl _ _ _ wz rfl rfl (unhide R3) ?_)
            go_roundw
            case rel => exact ⟨_, _, _, ⟨n + 1, _, _, rfl, by omega, rfl, unhide Hend⟩, rfl, rfl, by go_num⟩
            case measure => simp [intOf]; omega
          · go_quiet ((fail))
            have HZ := hide (((unhide HX).goes (turn_drewNR wx nq)))
            have hye : yk = k := (unhide HE).1 rfl
            have Hend := hide ((unhide HNx) _ _ (by simpa [hye] using unhide HZ))
            go_wp2
            go_roundw
            case rel => exact ⟨_, _, _, ⟨n + 1, _, _, rfl, by omega, rfl, unhide Hend⟩, rfl, rfl, by go_num⟩
            case measure => simp [intOf]; omega
        · go_wp2_with fail
          go_quiet ((fail))
          have hpa := (unhide HPM).goes (turn_drewNR wr nq)
          obtain ⟨v2, wx, r2, hp2, _⟩ := hpa.cat (k, (.slice co bl cc, bs)) ((unhide HS).kept hpa.turn (fun _ _ e => e)) (fun h0 j hj => by
            have h1 := (unhide HM).1 h0 j hj
            have h2 := (unhide HM).2.1 j h1
            have h3 := (unhide HT1).size
            have h4 := hpa.turn.size
            exact ⟨.inl h1, by omega, fun e => by have := hpa.new j e; omega⟩) (unhide HM).2.2.1 (unhide HM).2.2.2 (by rw [← unhide Hpln]; omega)
          obtain ⟨ao2, ac2, e2⟩ := hp2.shape
          have HX := hide hp2
          have R2 := hide r2
          have d0 : wx.cell? ⟨g, n * 2, none⟩ = some (.string (txt yk)) := (((unhide HX).turn).cell (p := ⟨g, n * 2, none⟩) (World.block_lt_of_cell? _ _ (unhide HY).c0) (fun e => e)).trans (unhide HY).c0
          have d1 : wx.cell? ⟨g, n * 2 + 1, none⟩ = some (.slice yo ybl yc) := (((unhide HX).turn).cell (p := ⟨g, n * 2 + 1, none⟩) (World.block_lt_of_cell? _ _ (unhide HY).c1) (fun e => e)).trans (unhide HY).c1
          have d2 : wx.cell? ⟨w.heap.size, 0, none⟩ = some (.string (txt k)) := (((unhide HX).turn).cell (p := ⟨w.heap.size, 0, none⟩) (unhide HA).2 (fun e => e)).trans h0
          have d3 : wx.cell? ⟨w.heap.size, 2, none⟩ = some (.slice co bl cc) := (((unhide HX).turn).cell (p := ⟨w.heap.size, 2, none⟩) (unhide HA).2 (fun e => e)).trans h2
          generalize (pre ++ [(k, (Value.slice co bl cc, bs))]).length = pl2 at e2
          subst e2
          clear r2 hp2 hpa
          go_wp2_with (at_builtin; refine wpList_append_run rfl (.tmp 29) (.tmp 35) 144 rfl _ _ _ wx rfl rfl (unhide R2) ?_)
          have he0 := unhide Hnb (by trivial)
          subst he0
          go_quiet ((fail))
          have HZ := hide (((unhide HX).goes (turn_drewNR wx nq)))
          obtain ⟨v3, wz, r3, hp3, _⟩ := (unhide HZ).cat (yk, (.slice yo ybl yc, ybs)) ((unhide HY).sees.kept (unhide HZ).turn (fun _ _ e => e)) (fun h0 j hj => by
            have h1 := (unhide HY).mem h0 j hj
            have h2 := (unhide HM).2.1 j h1
            have h3 := (unhide HT1).size
            have h4 := (unhide HZ).turn.size
            exact ⟨.inl h1, by omega, fun e => by have := (unhide HZ).new j e; omega⟩) (unhide HY).key (unhide HY).len (by rw [List.length_append, ← unhide Hpln]; simp; omega)
          obtain ⟨o3, c3, e3⟩ := hp3.shape
          have HFin := hide hp3
          have R3 := hide r3
          have hne : ¬ yk = k := fun e => by have := (unhide HE).2 e; cases this
          have Hend := hide ((unhide HNx) v3 wz (by simpa [hne, List.append_assoc] using unhide HFin))
          clear hp3 r3
          generalize hl3 : List.length _ = l3 at e3
          subst e3
          clear hl3
          go_wp2_with (at_builtin; refine wpList_append_run rfl (.tmp 45) (.tmp 50) 144 rfl _ _ _ wz rfl rfl (unhide R3) ?_)
          go_roundw
          case rel => exact ⟨_, _, _, ⟨n + 1, _, _, rfl, by omega, rfl, unhide Hend⟩, rfl, rfl, by go_num⟩
          case measure => simp [intOf]; omega
      · go_wp2_with fail
        go_quiet ((fail))
        obtain ⟨wx, hwx⟩ : ∃ wx, wx = wr.drewN nq := ⟨_, rfl⟩
        have HX := hide (((unhide HPM).goes (turn_drewNR wr nq)))
        rw [← hwx] at HX
        have d0 : wx.cell? ⟨g, n * 2, none⟩ = some (.string (txt yk)) := (((unhide HX).turn).cell (p := ⟨g, n * 2, none⟩) (World.block_lt_of_cell? _ _ (unhide HY).c0) (fun e => e)).trans (unhide HY).c0
        have d1 : wx.cell? ⟨g, n * 2 + 1, none⟩ = some (.slice yo ybl yc) := (((unhide HX).turn).cell (p := ⟨g, n * 2 + 1, none⟩) (World.block_lt_of_cell? _ _ (unhide HY).c1) (fun e => e)).trans (unhide HY).c1
        have d2 : wx.cell? ⟨w.heap.size, 0, none⟩ = some (.string (txt k)) := (((unhide HX).turn).cell (p := ⟨w.heap.size, 0, none⟩) (unhide HA).2 (fun e => e)).trans h0
        have d3 : wx.cell? ⟨w.heap.size, 2, none⟩ = some (.slice co bl cc) := (((unhide HX).turn).cell (p := ⟨w.heap.size, 2, none⟩) (unhide HA).2 (fun e => e)).trans h2
        clear a0 a1 a2 a3
        go_wp2_with fail
        rw [← hwx]
        clear hwx
        rcases eq with _ | _
        · go_quiet ((fail))
          have HZ := hide (((unhide HX).goes (turn_drewNR wx nq)))
          obtain ⟨v3, wz, r3, hp3, _⟩ := (unhide HZ).cat (yk, (.slice yo ybl yc, ybs)) ((unhide HY).sees.kept (unhide HZ).turn (fun _ _ e => e)) (fun h0 j hj => by
            have h1 := (unhide HY).mem h0 j hj
            have h2 := (unhide HM).2.1 j h1
            have h3 := (unhide HT1).size
            have h4 := (unhide HZ).turn.size
            exact ⟨.inl h1, by omega, fun e => by have := (unhide HZ).new j e; omega⟩) (unhide HY).key (unhide HY).len (by rw [← unhide Hpln]; omega)
          obtain ⟨o3, c3, e3⟩ := hp3.shape
          have HFin := hide hp3
          have R3 := hide r3
          have hne : ¬ yk = k := fun e => by have := (unhide HE).2 e; cases this
          have Hend := hide ((unhide HNx) v3 wz (by simpa [hne, List.append_assoc] using unhide HFin))
          clear hp3 r3
          generalize hl3 : List.length _ = l3 at e3
          subst e3
          clear hl3
          go_wp2_with (at_builtin; refine wpList_append_run rfl (.tmp 45) (.tmp 50) 144 rfl _ _ _ wz rfl rfl (unhide R3) ?_)
          go_roundw
          case rel => exact ⟨_, _, _, ⟨n + 1, _, _, rfl, by omega, rfl, unhide Hend⟩, rfl, rfl, by go_num⟩
          case measure => simp [intOf]; omega
        · go_quiet ((fail))
          have HZ := hide (((unhide HX).goes (turn_drewNR wx nq)))
          have hye : yk = k := (unhide HE).1 rfl
          have Hend := hide ((unhide HNx) _ _ (by simpa [hye] using unhide HZ))
          go_wp2
          go_roundw
          case rel => exact ⟨_, _, _, ⟨n + 1, _, _, rfl, by omega, rfl, unhide Hend⟩, rfl, rfl, by go_num⟩
          case measure => simp [intOf]; omega
    · obtain rfl : n = len := by omega
      have q1 : ¬ (n : Int) < n := by omega
      have hd : pl.drop n = [] := List.drop_of_length_le (by have := unhide HL; omega)
      have his := hR.is
      rw [hd] at his
      have a0 : wr.cell? ⟨w.heap.size, 0, none⟩ = some (.string (txt k)) := ((unhide HPM).turn.cell (p := ⟨w.heap.size, 0, none⟩) (unhide HA).2 (fun e => e)).trans h0
      have a2 : wr.cell? ⟨w.heap.size, 2, none⟩ = some (.slice co bl cc) := ((unhide HPM).turn.cell (p := ⟨w.heap.size, 2, none⟩) (unhide HA).2 (fun e => e)).trans h2
      have hgr : ∀ (x : Value) (qs : List (List UInt8 × (Value × List UInt8))) (wz : World), PM Q w1 x qs wz → qs = putR k (.slice co bl cc, bs) (!has) pl → PrL (grow Q w wz) wz x (putR k (.slice co bl cc, bs) (!has) pl) ∧ Turn (fun _ => False) w wz := fun x qs wz hp e => by
        have hlen2 : qs.length ≤ 10000000 := by
          have h5 := hR.len
          rw [e, ← his]
          rw [List.length_append]
          have : (putR k (Value.slice co bl cc, bs) done []).length ≤ 1 := by unfold putR; split <;> simp
          omega
        rw [← e]
        exact ⟨(hp.toPrL hlen2).mono (fun j hj => by
          rcases hj with hj | hj
          · exact .inl hj
          · have := (unhide HT1).size
            exact .inr (by omega)), (unhide HT1).trans hp.turn⟩
      have Hgr := hide hgr
      have His := hide his
      have hcat := (unhide HPM).cat (k, (.slice co bl cc, bs)) ((unhide HS).kept (unhide HPM).turn (fun _ _ e => e)) (fun h0 j hj => by
        have h1 := (unhide HM).1 h0 j hj
        have h2 := (unhide HM).2.1 j h1
        have h3 := (unhide HT1).size
        have h4 := (unhide HPM).turn.size
        exact ⟨.inl h1, by omega, fun e => by have := (unhide HPM).new j e; omega⟩) (unhide HM).2.2.1 (unhide HM).2.2.2 (by omega)
      have Hcat := hide hcat
      generalize pre.length = pln at *
      subst hoe
      clear hgr his hd hR hcat hlt
      rcases done with _ | _
      · obtain ⟨v2, wx, r2, hp2, _⟩ := unhide Hcat
        obtain ⟨o2, c2, e2⟩ := hp2.shape
        have Hend := hide ((unhide Hgr) v2 _ wx hp2 (unhide His))
        have R2 := hide r2
        generalize hl2 : List.length _ = l2 at e2
        subst e2
        clear hp2 r2 hl2
        go_wp2_with (at_builtin; refine wpList_append_run rfl (.tmp 54) (.tmp 60) 144 rfl _ _ _ wx rfl rfl (unhide R2) ?_)
        go_ret
        exact ⟨_, rfl, unhide Hend⟩
      · have Hend := hide ((unhide Hgr) _ pre wr (unhide HPM) (by have := unhide His; simpa [putR] using this))
        go_wp2
        go_ret
        exact ⟨_, rfl, unhide Hend⟩

end

end Go.Proofs.YtnipdgigjcaolaaGreat
