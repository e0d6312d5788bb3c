/- The reference's Store: Checkpoint. -/
import Derived.Test.YtnipdgigjcaolaaGreatRStC
import Derived.Test.YtnipdgigjcaolaaGreatRLgK
import Derived.Test.YtnipdgigjcaolaaGreatKChk
import Derived.Deep.RegionHeldLaw
namespace Go.Proofs.YtnipdgigjcaolaaGreat
open Go.RowKit

section
variable {Q Z K : Nat → Prop} {w w1 : World} {tb l rb M B M2 B2 : Nat} {seg now : Int} {down : Bool} {s r : RSt} {v : Value} {rl : List (Value × List UInt8)} {m : List (List UInt8 × List UInt8)}

/-- What Checkpoint comes to. -/
def RSk (Q Z : Nat → Prop) (w : World) (tb l rb : Nat) (seg now : Int) (r : RSt) (m : List (List UInt8 × List UInt8)) (e : Ending) (w' : World) : Prop :=
  Turn (fun j => j = rb ∨ j = l ∨ j = tb) w w' ∧ ∃ (Q' : Nat → Prop) (ns : List Int), (∀ j, Q' j → Q j ∨ w.heap.size ≤ j) ∧ ((r.keepR (r.rplace now) (laidOf 3 4 (recsOf m))).1 = 0 → (r.keepR (r.rplace now) (laidOf 3 4 (recsOf m))).2.Nums ns) ∧
  (((r.ckR (r.rplace now) (recsOf m) ns).1 ≠ 0 ∧ e = .returned (.int .i64 14) ∧ RSd Q' w' tb rb (r.ckR (r.rplace now) (recsOf m) ns).2) ∨
   ((r.ckR (r.rplace now) (recsOf m) ns).1 = 0 ∧ e = .returned (.int .i64 0) ∧ RSr Q' Z w' tb l rb seg (r.rplace now) (r.ckR (r.rplace now) (recsOf m) ns).2 m))

theorem recsOf_take (m : List (List UInt8 × List UInt8)) (n : Nat) (hn : n < m.length) : recsOf (m.take (n + 1)) = recsOf (m.take n) ++ [Chg.laid ⟨txt m[n].1, true, m[n].2⟩] := by
  rw [List.take_succ_eq_append_getElem hn]
  unfold recsOf madeC
  rw [List.map_append, List.map_append]
  rfl

theorem fit_get {m : List (List UInt8 × List UInt8)} (h : fitK m) (n : Nat) (hn : n < m.length) : Chg.ok ⟨txt m[n].1, true, m[n].2⟩ = true := by
  have := made_ok h
  rw [List.all_eq_true] at this
  exact this _ (List.mem_map.2 ⟨m[n], List.getElem_mem hn, rfl⟩)

set_option maxHeartbeats 8000000 in
set_option maxRecDepth 100000 in
theorem rscheckpoint_any (h : RSr Q Z w tb l rb seg now r m) (hfit : fitK m) (hf : RFit M B r) (hml : m.length ≤ 100000) (hn0 : 0 ≤ now) (hn1 : now ≤ 1099511627776)
    (hsz : (laidOf 3 4 (recsOf m)).length ≤ 1099511627776)
    (hf2 : RFit M2 B2 (r.add (r.rplace now) (laidOf 3 4 (recsOf m))).2) (hw : (r.add (r.rplace now) (laidOf 3 4 (recsOf m))).2.works ≤ 1073741822)
    (hrm : ∀ L : List Int, L.length ≤ M2 → RFit M2 B2 ((r.keepR (r.rplace now) (laidOf 3 4 (recsOf m))).2.goneR L) ∧ ((r.keepR (r.rplace now) (laidOf 3 4 (recsOf m))).2.goneR L).works ≤ 1073741822) :
    Calls Tryz.prog 36 #[.pointer (some ⟨tb, 0, none⟩)] w (RSk Q Z w tb l rb seg now r m) := by
  obtain ⟨pv, pl, hA, hP, hpm⟩ := h.ps
  obtain ⟨po, pc, hpv, _⟩ := hP.shape
  obtain ⟨len, hlen⟩ : ∃ len, len = pl.length := ⟨_, rfl⟩
  have hlm : m.length = len := by rw [hlen, ← hpm, plain_length]
  have c0 : w.cell? ⟨tb, 0, none⟩ = some (.pointer (some ⟨l, 0, none⟩)) := hA.cell 0
  have c1 : w.cell? ⟨tb, 1, none⟩ = some pv := hA.cell 1
  have c2 : w.cell? ⟨tb, 2, none⟩ = some (.bool false) := hA.cell 2
  have hll : len ≤ 100000 := by omega
  have H := hide h
  have HA := hide hA
  have HP := hide hP
  have HF := hide (And.intro hf (And.intro hf2 (And.intro hw (And.intro hsz (And.intro hn0 (And.intro hn1 hrm))))))
  have HL := hide (And.intro hlen (And.intro hlm hpm))
  have HFit := hide hfit
  rw [← hlen] at hpv
  subst hpv
  clear h hf hn0 hn1 hsz hf2 hw hlen hml hA hP hpm hrm hfit hlm
  go_enter Tryz.func36, Tryz.ntmps36
  go_wp2_with fail
  go_loopw [3, 4, 5, 6] (fun out i _ _ wr => ∃ (n : Nat) (rl : List (Value × List UInt8)), i = .int .i64 n ∧ n ≤ len ∧ RM (fun _ => False) w out rl wr ∧ rl.map (·.2) = recsOf (m.take n)) (fun _ i _ _ _ => len - (intOf i).toNat)
  case atStart => exact ⟨0, [], rfl, by omega, RM.nil _ _, rfl⟩
  case round =>
    obtain ⟨n, rl, rfl, hnl, hm, he⟩ := hrel
    have hrl : rl.length = n := by
      have := congrArg List.length he
      have h2 := (unhide HL).2.1
      simp [recsOf, madeC] at this
      omega
    have b1 : wr.cell? ⟨tb, 1, none⟩ = some (.slice po len pc) := (hm.turn.cell (p := ⟨tb, 1, none⟩) (unhide HA).lt (fun e => e)).trans c1
    by_cases hlt : n < len
    · have hkl : n < pl.length := by have := (unhide HL).1; omega
      have hkm : n < m.length := by have := (unhide HL).2.1; omega
      obtain ⟨g, cap, e, hg, hc⟩ := ((unhide HP).kept hm.turn (fun _ _ e => e)).each n hkl
      obtain ⟨key, pv', val, hpe⟩ : ∃ key pv' val, pl[n] = (key, (pv', val)) := ⟨_, _, _, rfl⟩
      rw [hpe] at hc
      have hmn : m[n] = (key, val) := by
        have h1 := (unhide HL).2.2
        have h2 : (plain pl)[n]? = m[n]? := by rw [h1]
        unfold plain at h2
        rw [List.getElem?_map, List.getElem?_eq_getElem hkl, List.getElem?_eq_getElem hkm, hpe] at h2
        simpa [snd1] using h2.symm
      have hnx := recsOf_take m n hkm
      have hcok := fit_get (unhide HFit) n hkm
      rw [hmn] at hnx hcok
      injection e with e1 e2 e3
      have k0 : wr.cell? ⟨g, n * 2, none⟩ = some (.string (txt key)) := hc.c0
      have k1 : wr.cell? ⟨g, n * 2 + 1, none⟩ = some pv' := hc.c1
      have hvs : Sees wr pv' val := hc.sees
      obtain ⟨vo, vc, hpv⟩ := hvs.shape
      have Hm := hide hm
      have He := hide he
      have Hnx := hide hnx
      have q1 : (n : Int) < len := by omega
      obtain ⟨oo, oc, hoe⟩ := hm.shape
      rw [hrl] at hoe
      obtain ⟨vn, hvn⟩ : ∃ vn, vn = val.length := ⟨_, rfl⟩
      rw [← hvn] at hpv
      have Hmem := hide hc.mem
      subst hpv hoe e1
      have hwr := (unhide Hm).turn.size
      have hlt2 : 0 < val.length → ∀ j, slab (.slice vo vn vc) = some j → j < wr.drew.heap.size := fun h0 j hj => by
        have h1 := (unhide H).zlt j ((unhide Hmem) h0 j hj)
        have h2 : wr.drew.heap.size = wr.heap.size := rfl
        omega
      have td : Turn (fun _ => False) wr wr.drew := (Turn.refl _ wr).drew
      have HLay := hide (rlay_yes (txt key) true _ val wr.drew (hvs.kept td (fun _ _ e => e)) hlt2 hcok)
      have d1 : wr.drew.cell? ⟨tb, 1, none⟩ = some (.slice (some ⟨g, 0, none⟩) len pc) := b1
      have dk0 : wr.drew.cell? ⟨g, n * 2, none⟩ = some (.string (txt key)) := k0
      have dk1 : wr.drew.cell? ⟨g, n * 2 + 1, none⟩ = some (.slice vo vn vc) := k1
      have HCl := hide (And.intro (unhide HA).lt (And.intro (World.block_lt_of_cell? _ _ k0) hwr))
      have Hmd := hide ((unhide Hm).goes td)
      clear e2 e3 hpe hm he hnx hc hvs hvn hlt2 hcok td hmn
      go_wp2_with fail
      go_region_held_law (fun w' => w'.cell? ⟨tb, 1, none⟩ = some (.slice (some ⟨g, 0, none⟩) len pc) ∧ w'.cell? ⟨g, n * 2, none⟩ = some (.string (txt key)) ∧ w'.cell? ⟨g, n * 2 + 1, none⟩ = some (.slice vo vn vc)) (first | go_keep | exact ⟨r1, r2, r3⟩ | exact ⟨d1, dk0, dk1⟩)
        (first
        | (go_at_call 33; refine (unhide HLay).mono ?_; rintro e w1 ⟨v1, rfl, m1⟩; have r1 : w1.cell? ⟨tb, 1, none⟩ = some (.slice (some ⟨g, 0, none⟩) len pc) := (m1.2.1.cell (p := ⟨tb, 1, none⟩) (World.block_lt_of_cell? _ _ d1) (fun e => e)).trans d1; have r2 : w1.cell? ⟨g, n * 2, none⟩ = some (.string (txt key)) := (m1.2.1.cell (p := ⟨g, n * 2, none⟩) (World.block_lt_of_cell? _ _ dk0) (fun e => e)).trans dk0; have r3 : w1.cell? ⟨g, n * 2 + 1, none⟩ = some (.slice vo vn vc) := (m1.2.1.cell (p := ⟨g, n * 2 + 1, none⟩) (World.block_lt_of_cell? _ _ dk1) (fun e => e)).trans dk1; have HM1 := hide m1; clear m1)
        | fail)
      all_goals (
        have m1 := unhide HM1
        obtain ⟨o1, c1', hv1⟩ := m1.1.shape
        have hm1 := (unhide Hmd).goes m1.2.1
        have ta : Turn (fun _ => False) w1 (w1.alloc (.cells #[v1] 29)) := (Turn.refl _ _).alloc _
        have hlit := SeesC.lit w1 [v1] 29 (by simp [maxLen])
        have hm2 := hm1.goes ta
        obtain ⟨v2, w2, hr, ho, hg2, hk⟩ := append_lists _ _ (rl.map (·.1)) hm2.own _ [v1] hlit (by intro u hu; simp at hu; rw [hu, hv1]; rfl) (by rw [List.length_map, hrl]; simp; omega)
        have hfin := hm2.more (qs := [(v1, Chg.laid ⟨txt key, true, val⟩)]) (by
          intro p hp
          simp only [List.mem_singleton] at hp
          subst hp
          refine ⟨m1.1.sees.kept ta (fun _ _ e => e), fun h0 j hj => ?_⟩
          have hj' : v1.ownBlock = some j := by rw [← m1.1.slab_eq]; exact hj
          have h1 := m1.2.2 j hj'
          have h2 := m1.1.lt hj'
          have h3 := (unhide Hmd).turn.size
          have h4 := ta.size
          refine ⟨.inr (by omega), by omega, fun e => ?_⟩
          have := (unhide Hmd).own.lt e
          omega) ho hg2 hk
        obtain ⟨o2, c2', hv2⟩ := ho.shape'
        simp only [List.length_append, List.length_map, List.length_cons, List.length_nil, Nat.zero_add] at hv2
        rw [hrl] at hv2
        simp only [List.length_cons, List.length_nil, Nat.zero_add] at hr
        have Hr := hide hr
        have Hfin := hide hfin
        have hlaid : (rl ++ [(v1, Chg.laid ⟨txt key, true, val⟩)]).map (·.2) = recsOf (m.take (n + 1)) := by rw [List.map_append, unhide He, unhide Hnx]; simp
        have Hend := hide hlaid
        clear hfin hr hk hg2 ho hm2 hlit ta hm1 m1 hlaid HM1
        generalize (Chg.laid ⟨txt key, true, val⟩).length = n1 at hv1
        subst hv1 hv2
        go_wp2_with (at_builtin; refine wpList_append_run rfl (.tmp 42) (.tmp 44) 22 rfl _ _ _ w2 rfl rfl (unhide Hr) ?_)
        go_roundw
        case rel => exact ⟨n + 1, _, by go_num, by omega, unhide Hfin, unhide Hend⟩
        case measure => simp [intOf]; omega)
    · obtain rfl : n = len := by omega
      have q1 : ¬ (n : Int) < n := by omega
      rw [List.take_of_length_le (by have := (unhide HL).2.1; omega)] at he
      have hno : ¬ tooLong rl := fun ⟨p, hp, hlong⟩ => by
        have hin : p.2 ∈ (madeC m).map Chg.laid := by
          have : rl.map (·.2) = (madeC m).map Chg.laid := he
          rw [← this]
          exact List.mem_map.2 ⟨p, hp, rfl⟩
        obtain ⟨c, hcin, hce⟩ := List.mem_map.1 hin
        have := Chg.laid_le c (List.all_eq_true.1 (made_ok (unhide HFit)) c hcin)
        rw [hce] at this
        omega
      have hg := (unhide H).goes hm.turn
      have b0 : wr.cell? ⟨tb, 0, none⟩ = some (.pointer (some ⟨l, 0, none⟩)) := (hm.turn.cell (p := ⟨tb, 0, none⟩) (unhide HA).lt (fun e => e)).trans c0
      have HCm := rlcheckpoint_any hg.lg (unhide HF).1 hm.toRL hno (by rw [he]; exact (unhide HF).2.2.2.1) (unhide HF).2.2.2.2.1 (unhide HF).2.2.2.2.2.1 (by rw [he]; exact (unhide HF).2.1) (by rw [he]; exact (unhide HF).2.2.1) (fun j hj => by
        have h1 := (unhide H).lg.at'.lt
        have h2 := (unhide H).lg.rlt
        rcases hj with hj | hj
        · exact hj.elim
        · exact ⟨by omega, by omega⟩) (by rw [he]; exact (unhide HF).2.2.2.2.2.2)
      rw [he] at HCm
      have HCm := hide HCm
      have HG := hide hg
      have T1 := hide hm.turn
      obtain ⟨oo, oc, hoe⟩ := hm.shape
      rw [hrl] at hoe
      subst hoe
      clear hg hm he hno hlt
      go_wp2_with fail
      refine (unhide HCm).mono ?_
      rintro e w2 ⟨ns, hns, rfl, Q2, hL2, hq2, t2⟩
      obtain ⟨cr, hcr⟩ : ∃ cr, cr = r.ckR (r.rplace now) (recsOf m) ns := ⟨_, rfl⟩
      have Hcr := hide hcr
      have Hns := hide hns
      rw [← hcr] at hL2 ⊢
      clear hcr hns HCm
      have T2 : Hid (Turn (fun j => j = rb ∨ j = l ∨ j = tb) w w2) := hide (((unhide T1).mono (fun _ _ e => e.elim)).trans (t2.mono (fun _ _ e => e.elim .inl (fun e => .inr (.inl e)))))
      have hps : ∃ pv pl, At 146 w2 tb #[.pointer (some ⟨l, 0, none⟩), pv, .bool false] ∧ PrL Z w2 pv pl ∧ plain pl = m := by
        obtain ⟨pv, pl, a, b, c⟩ := (unhide HG).ps
        have hne := (unhide H).ne
        exact ⟨pv, pl, a.kept t2 (fun e => e.elim hne.2 hne.1), b.kept t2 (fun j hj e => by
          have := (unhide H).zout j hj
          exact e.elim this.2.2 this.2.1), c⟩
      have hQ2 : ∀ j, Q2 j → Q j ∨ w.heap.size ≤ j := fun j hj => by
        have h1 := (unhide T1).size
        rcases hq2 j hj with e | e
        · exact .inl e
        · exact .inr (by omega)
      have htq : ¬ Q2 tb := fun e => by
        rcases hq2 tb e with e | e
        · exact (unhide H).out e
        · have := (unhide HG).tlt
          omega
      have hs2 := t2.size
      have hs1 := (unhide T1).size
      by_cases hz : cr.1 = 0
      · have hL3 : RLg Q2 w2 l rb seg (r.rplace now) false cr.2 := by
          have := hL2
          rwa [show decide (cr.1 ≠ 0) = false by simp [hz]] at this
        have hfin : RSk Q Z w tb l rb seg now r m (.returned (.int .i64 0)) w2 := by
          refine ⟨unhide T2, Q2, ns, hQ2, unhide Hns, .inr ⟨by rw [← unhide Hcr]; exact hz, rfl, ?_⟩⟩
          rw [← unhide Hcr]
          exact ⟨hL3, hps, (unhide H).ne, htq, (unhide H).zout, fun j hj => by have := (unhide H).zlt j hj; omega⟩
        have Hfin := hide hfin
        have hz' : (cr.1 != 0) = false := by simpa using hz
        clear hfin hL2 hL3 hps hQ2 htq hq2 t2 hs1 hs2 hz
        go_wp2
        go_ret
        exact unhide Hfin
      · have hz' : (cr.1 != 0) = true := by simpa using hz
        have d2 : w2.cell? ⟨tb, 2, none⟩ = some (.bool false) := by obtain ⟨pv, pl, a, _⟩ := hps; exact a.cell 2
        have f2 : w2.frozen? ⟨tb, 2, none⟩ = false := by obtain ⟨pv, pl, a, _⟩ := hps; exact a.frozen 2
        obtain ⟨pv, pl, hA2, _, _⟩ := hps
        have hA3 : At 146 (w2.setCell ⟨tb, 2, none⟩ (.bool true)) tb #[.pointer (some ⟨l, 0, none⟩), pv, .bool true] := by simpa using hA2.set 2 (.bool true)
        have hA4 : At 146 ((w2.setCell ⟨tb, 2, none⟩ (.bool true)).setCell ⟨tb, 1, none⟩ (.slice none 0 0)) tb #[.pointer (some ⟨l, 0, none⟩), .slice none 0 0, .bool true] := by simpa using hA3.set 1 (.slice none 0 0)
        have f1 := hA3.frozen 1
        have x1 := hA3.cell 1
        have t3 : Turn (fun j => j = tb) w2 (w2.setCell ⟨tb, 2, none⟩ (.bool true)) := (Turn.refl (fun j => j = tb) w2).setCell (p := ⟨tb, 2, none⟩) (.inl rfl) _
        have t4 : Turn (fun j => j = tb) w2 ((w2.setCell ⟨tb, 2, none⟩ (.bool true)).setCell ⟨tb, 1, none⟩ (.slice none 0 0)) := t3.setCell (p := ⟨tb, 1, none⟩) (.inl rfl) _
        have hfin : RSk Q Z w tb l rb seg now r m (.returned (.int .i64 14)) ((w2.setCell ⟨tb, 2, none⟩ (.bool true)).setCell ⟨tb, 1, none⟩ (.slice none 0 0)) := by
          refine ⟨(unhide T2).trans (t4.mono (fun _ _ e => .inr (.inr e))), Q2, ns, hQ2, unhide Hns, .inl ⟨by rw [← unhide Hcr]; exact hz, rfl, ?_⟩⟩
          rw [← unhide Hcr]
          exact ⟨hL2.rd.keeps t4 (fun j hj e => htq (e ▸ hj)) (fun e => (unhide H).ne.2 e.symm), ⟨l, hA4⟩, (unhide H).ne.2, htq⟩
        have Hfin := hide hfin
        have x1' : (w2.setCell ⟨tb, 2, none⟩ (.bool true)).cell? ⟨tb, 1, none⟩ = some pv := x1
        clear hfin t3 t4 hA2 hA3 hA4 hL2 hQ2 htq hq2 t2 x1
        go_wp2
        go_ret
        exact unhide Hfin

end

end Go.Proofs.YtnipdgigjcaolaaGreat
