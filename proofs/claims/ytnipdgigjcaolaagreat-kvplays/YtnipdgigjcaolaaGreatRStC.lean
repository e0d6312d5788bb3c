/- The reference's Store: Commit. -/
import Derived.Test.YtnipdgigjcaolaaGreatRSto
import Derived.Test.YtnipdgigjcaolaaGreatRLgD
import Derived.Test.YtnipdgigjcaolaaGreatPkT
import Derived.Test.YtnipdgigjcaolaaGreatPkV
import Derived.Deep.RegionWith
namespace Go.Proofs.YtnipdgigjcaolaaGreat
open Go.RowKit

/-- A commit of the reference's Log: what it answers, its segment, its Disk. -/
def RSt.comR (s : RSt) (now seg : Int) (recs : List (List UInt8)) : Int × Int × RSt :=
  if recs = [] then (0, now, s) else ((s.keepR (s.rto now seg) (laidOf 1 2 recs)).1, s.rto now seg, (s.keepR (s.rto now seg) (laidOf 1 2 recs)).2)

/-- A dead Store of the reference's. -/
structure RSd (Q : Nat → Prop) (w : World) (tb rb : Nat) (r : RSt) : Prop where
  rd : RDk Q w rb r
  at' : ∃ l, At 146 w tb #[.pointer (some ⟨l, 0, none⟩), .slice none 0 0, .bool true]
  ne : tb ≠ rb
  out : ¬ Q tb

section
variable {Q Z K : Nat → Prop} {w w1 : World} {tb l rb M B M2 B2 : Nat} {seg now : Int} {down : Bool} {s r : RSt} {v : Value} {rl : List (Value × List UInt8)} {m : List (List UInt8 × List UInt8)}

set_option maxHeartbeats 1000000 in
theorem rlcommit_nil (o : Option Addr) (c : Nat) (w : World) (l : Nat) : Calls Tryz.prog 98 #[.pointer (some ⟨l, 0, none⟩), .slice o 0 c] w fun e w' => e = .returned (.int .i64 0) ∧ w = w' := by
  go_enter Tryz.func98, Tryz.ntmps98
  go_wp2_with fail
  go_loop [5] (fun i => i = .int .i64 0) (fun _ => 0)
  case atStart => rfl
  case round =>
    subst hrel
    go_wp2
    go_ret
    exact ⟨rfl, rfl⟩

theorem rlcommit_all (h : RLg Q w l rb seg now false s) (hf : RFit M B s) (hr : RL K w v rl) (hno : ¬ tooLong rl) (hsz : (laidOf 1 2 (rl.map (·.2))).length ≤ 1099511627776) (hn0 : 0 ≤ now) (hn1 : now ≤ 1099511627776)
    (hf2 : RFit M2 B2 (s.add (s.rto now seg) (laidOf 1 2 (rl.map (·.2)))).2) (hw : (s.add (s.rto now seg) (laidOf 1 2 (rl.map (·.2)))).2.works ≤ 1073741822) (hK : ∀ j, K j → j ≠ l ∧ j ≠ rb) :
    Calls Tryz.prog 98 #[.pointer (some ⟨l, 0, none⟩), v] w fun e w' => e = .returned (.int .i64 (s.comR now seg (rl.map (·.2))).1) ∧
      RLTo Q w l rb seg (s.comR now seg (rl.map (·.2))).2.1 (decide ((s.comR now seg (rl.map (·.2))).1 ≠ 0)) (s.comR now seg (rl.map (·.2))).2.2 w' := by
  unfold RSt.comR
  by_cases hne : rl = []
  · subst hne
    obtain ⟨o, c, rfl⟩ := hr.shape
    rw [List.map_nil, if_pos rfl]
    refine (rlcommit_nil o c w l).mono ?_
    rintro e w' ⟨rfl, rfl⟩
    exact ⟨rfl, RLTo.refl h⟩
  · rw [if_neg (by simpa using hne)]
    exact rlcommit_any h hf hr hno hne hsz hn0 hn1 hf2 hw hK

theorem RSr.goes (h : RSr Q Z w tb l rb seg now r m) (t : Turn (fun _ => False) w w1) : RSr Q Z w1 tb l rb seg now r m := by
  obtain ⟨pv, pl, a, b, c⟩ := h.ps
  exact ⟨h.lg.goes t, ⟨pv, pl, a.kept t (fun e => e), b.kept t (fun _ _ e => e), c⟩, h.ne, h.out, h.zout, fun j hj => Nat.lt_of_lt_of_le (h.zlt j hj) t.size⟩

theorem RSr.tlt (h : RSr Q Z w tb l rb seg now r m) : tb < w.heap.size := by
  obtain ⟨pv, pl, a, b, c⟩ := h.ps
  exact a.lt

/-- What Commit comes to. -/
def RSc (Q Z : Nat → Prop) (w : World) (tb l rb : Nat) (seg now : Int) (r : RSt) (m : List (List UInt8 × List UInt8)) (cl : List Chg) (e : Ending) (w' : World) : Prop :=
  Turn (fun j => j = rb ∨ j = l ∨ j = tb) w w' ∧ ∃ Q' Z' : Nat → Prop, (∀ j, Q' j → Q j ∨ w.heap.size ≤ j) ∧ (∀ j, Z' j → Z j ∨ w.heap.size ≤ j) ∧
  ((cl.all Chg.ok = false ∧ e = .returned (.int .i64 1) ∧ RSr Q' Z' w' tb l rb seg now r m) ∨
   (cl.all Chg.ok = true ∧ (r.comR now seg (cl.map Chg.laid)).1 ≠ 0 ∧ e = .returned (.int .i64 14) ∧ RSd Q' w' tb rb (r.comR now seg (cl.map Chg.laid)).2.2) ∨
   (cl.all Chg.ok = true ∧ (r.comR now seg (cl.map Chg.laid)).1 = 0 ∧ e = .returned (.int .i64 0) ∧ RSr Q' Z' w' tb l rb seg (r.comR now seg (cl.map Chg.laid)).2.1 (r.comR now seg (cl.map Chg.laid)).2.2 (cl.foldl turnC m)))

set_option maxHeartbeats 8000000 in
set_option maxRecDepth 100000 in
theorem rscommit_any (v : Value) (cl : List (Value × Chg)) (h : RSr Q Z w tb l rb seg now r m) (hf : RFit M B r) (hc : CLs K w v cl) (hKlt : ∀ j, K j → j < w.heap.size) (hK : ∀ j, K j → j ≠ l ∧ j ≠ rb ∧ j ≠ tb) (hl : cl.length ≤ 100000) (hml : m.length + cl.length ≤ 1000000) (hn0 : 0 ≤ now) (hn1 : now ≤ 1099511627776)
    (hsz : (laidOf 1 2 ((cl.map (·.2)).map Chg.laid)).length ≤ 1099511627776)
    (hf2 : RFit M2 B2 (r.add (r.rto now seg) (laidOf 1 2 ((cl.map (·.2)).map Chg.laid))).2) (hw : (r.add (r.rto now seg) (laidOf 1 2 ((cl.map (·.2)).map Chg.laid))).2.works ≤ 1073741822) :
    Calls Tryz.prog 41 #[.pointer (some ⟨tb, 0, none⟩), v] w (RSc Q Z w tb l rb seg now r m (cl.map (·.2))) := by
  obtain ⟨lo, lc, hve, _⟩ := hc.shape
  obtain ⟨len, hlen⟩ : ∃ len, len = cl.length := ⟨_, rfl⟩
  have c0 : w.cell? ⟨tb, 0, none⟩ = some (.pointer (some ⟨l, 0, none⟩)) := by obtain ⟨pv, pl, a, _⟩ := h.ps; exact a.cell 0
  have c2 : w.cell? ⟨tb, 2, none⟩ = some (.bool false) := by obtain ⟨pv, pl, a, _⟩ := h.ps; exact a.cell 2
  have H := hide h
  have HC := hide hc
  have HF := hide (And.intro hf (And.intro hf2 (And.intro hw (And.intro hsz (And.intro hn0 hn1)))))
  have HK := hide (And.intro hKlt hK)
  have HL := hide hlen
  have HM := hide hml
  rw [← hlen] at hve hl
  subst hve
  clear h hf hc hKlt hK hn0 hn1 hsz hf2 hw hlen hml
  go_enter Tryz.func41, Tryz.ntmps41
  go_wp2_with fail
  go_loopw [5, 6, 7, 8] (fun out i _ _ wr => ∃ (n : Nat) (rl : List (Value × List UInt8)), i = .int .i64 n ∧ n ≤ len ∧ RM (fun _ => False) w out rl wr ∧ rl.map (·.2) = ((cl.map (·.2)).take n).map Chg.laid ∧ ((cl.map (·.2)).take n).all Chg.ok = true) (fun _ i _ _ _ => len - (intOf i).toNat)
  case atStart => exact ⟨0, [], rfl, by omega, RM.nil _ _, rfl, rfl⟩
  case round =>
    obtain ⟨n, rl, rfl, hnl, hm, he, hok⟩ := hrel
    have hrl : rl.length = n := by
      have := congrArg List.length he
      have h2 := unhide HL
      simp at this
      omega
    by_cases hlt : n < len
    · have hkl : n < cl.length := by have := unhide HL; omega
      obtain ⟨g, cap, e, hg, hc⟩ := ((unhide HC).kept hm.turn (fun _ _ e => e)).each n hkl
      obtain ⟨pv, ⟨key, has, val⟩, hpe⟩ : ∃ pv c, (pv, c) = cl[n] := ⟨cl[n].1, cl[n].2, rfl⟩
      rw [← hpe] at hc
      have hnx : (cl.map (·.2)).take (n + 1) = (cl.map (·.2)).take n ++ [⟨key, has, val⟩] := by
        rw [List.take_succ_eq_append_getElem (by simpa using hkl)]
        simp [← hpe]
      injection e with e1 e2 e3
      have k0 := hc.c0
      have k1 := hc.c1
      have k2 := hc.c2
      simp only at k0 k1 k2
      have hvs := hc.sees
      obtain ⟨po, pc, hpv⟩ := hvs.shape
      simp only at hpv
      have Hm := hide hm
      have He := hide he
      have Hok := hide hok
      have Hnx := hide hnx
      have Hc := hide hc
      have q1 : (n : Int) < len := by omega
      obtain ⟨oo, oc, hoe⟩ := hm.shape
      rw [hrl] at hoe
      obtain ⟨vn, hvn⟩ : ∃ vn, vn = val.length := ⟨_, rfl⟩
      rw [← hvn] at hpv
      have Hvn := hide hvn
      subst hpv hoe e1
      clear e2 e3 hpe hm he hok hnx hc hvs hvn
      have hwr := (unhide Hm).turn.size
      have hlt2 : 0 < val.length → ∀ j, slab (.slice po vn pc) = some j → j < wr.heap.size := fun h0 j hj => by
        have := (unhide HK).1 j ((unhide Hc).mem h0 j hj)
        omega
      have hkm : key.size ≤ maxLen := by have := (unhide Hc).key; unfold maxLen; simp only at this; omega
      have hsee : Sees wr (.slice po vn pc) val := (unhide Hc).sees
      go_wp2_with fail
      by_cases hco : Chg.ok ⟨key, has, val⟩ = true
      · refine (rlay_yes key has _ val wr hsee hlt2 hco).mono ?_
        rintro e w1 ⟨v1, rfl, m1⟩
        obtain ⟨o1, c1, hv1⟩ := m1.1.shape
        have hm1 := (unhide Hm).goes m1.2.1
        have ta : Turn (fun _ => False) w1 (w1.alloc (.cells #[v1] 29)) := (Turn.refl _ _).alloc _
        have hlit := SeesC.lit w1 [v1] 29 (by simp [maxLen])
        have hm2 := hm1.goes ta
        obtain ⟨v2, w2, hr, ho, hg2, hk⟩ := append_lists _ _ (rl.map (·.1)) hm2.own _ [v1] hlit (by intro u hu; simp at hu; rw [hu, hv1]; rfl) (by rw [List.length_map, hrl]; simp; omega)
        have hfin := hm2.more (qs := [(v1, Chg.laid ⟨key, has, val⟩)]) (by
          intro p hp
          simp only [List.mem_singleton] at hp
          subst hp
          refine ⟨m1.1.sees.kept ta (fun _ _ e => e), fun h0 j hj => ?_⟩
          have hj' : v1.ownBlock = some j := by rw [← m1.1.slab_eq]; exact hj
          have h1 := m1.2.2 j hj'
          have h2 := m1.1.lt hj'
          have h3 := (unhide Hm).turn.size
          have h4 := ta.size
          refine ⟨.inr (by omega), by omega, fun e => ?_⟩
          have := (unhide Hm).own.lt e
          omega) ho hg2 hk
        obtain ⟨o2, c2', hv2⟩ := ho.shape'
        simp only [List.length_append, List.length_map, List.length_cons, List.length_nil, Nat.zero_add] at hv2
        rw [hrl] at hv2
        simp only [List.length_cons, List.length_nil, Nat.zero_add] at hr
        have Hr := hide hr
        have Hfin := hide hfin
        have hall : ((cl.map (·.2)).take (n + 1)).all Chg.ok = true := by rw [unhide Hnx, List.all_append, unhide Hok]; simp [hco]
        have hlaid : (rl ++ [(v1, Chg.laid ⟨key, has, val⟩)]).map (·.2) = ((cl.map (·.2)).take (n + 1)).map Chg.laid := by rw [List.map_append, unhide He, unhide Hnx]; simp
        have Hend := hide (And.intro hlaid hall)
        clear hfin hr hk hg2 ho hm2 hlit ta hm1 m1 hall hlaid hsee hlt2 hco
        generalize (Chg.laid ⟨key, has, val⟩).length = n1 at hv1
        subst hv1 hv2
        go_wp2_with (at_builtin; refine wpList_append_run rfl (.tmp 33) (.tmp 35) 22 rfl _ _ _ w2 rfl rfl (unhide Hr) ?_)
        go_roundw
        case rel => exact ⟨n + 1, _, by go_num, by omega, unhide Hfin, (unhide Hend).1, (unhide Hend).2⟩
        case measure => simp [intOf]; omega
      · have hco' : Chg.ok ⟨key, has, val⟩ = false := by simpa using hco
        refine (rlay_no key has _ val wr hsee hkm hco').mono ?_
        rintro e w1 ⟨rfl, t1⟩
        have hbad : (cl.map (·.2)).all Chg.ok = false := by
          rw [List.all_eq_false]
          refine ⟨⟨key, has, val⟩, ?_, by simp [hco']⟩
          have hin : (⟨key, has, val⟩ : Chg) ∈ (cl.map (·.2)).take (n + 1) := by rw [unhide Hnx]; simp
          exact List.mem_of_mem_take hin
        have tt := (unhide Hm).turn.trans t1
        have Hfin : Hid (RSc Q Z w tb l rb seg now r m (cl.map (·.2)) (.returned (.int .i64 1)) w1) := hide ⟨tt.mono (fun _ _ e => e.elim), Q, Z, fun _ e => .inl e, fun _ e => .inl e, .inl ⟨hbad, rfl, (unhide H).goes tt⟩⟩
        clear hsee hlt2 t1 hbad hco hco' tt
        go_wp2
        go_ret
        exact unhide Hfin
    · obtain rfl : n = len := by omega
      have q1 : ¬ (n : Int) < n := by omega
      have hall : (cl.map (·.2)).take n = cl.map (·.2) := List.take_of_length_le (by rw [List.length_map, ← unhide HL]; exact Nat.le_refl _)
      rw [hall] at he hok
      have hno : ¬ tooLong rl := fun ⟨p, hp, hlong⟩ => by
        have hin : p.2 ∈ (cl.map (·.2)).map Chg.laid := by rw [← he]; exact List.mem_map.2 ⟨p, hp, rfl⟩
        obtain ⟨c, hcin, hce⟩ := List.mem_map.1 hin
        have := Chg.laid_le c (List.all_eq_true.1 hok c hcin)
        rw [hce] at this
        omega
      have hg := (unhide H).goes hm.turn
      have d0 : wr.cell? ⟨tb, 0, none⟩ = some (.pointer (some ⟨l, 0, none⟩)) := (hm.turn.cell (p := ⟨tb, 0, none⟩) (unhide H).tlt (fun e => e)).trans c0
      have HCm := rlcommit_all hg.lg (unhide HF).1 hm.toRL hno (by rw [he]; exact (unhide HF).2.2.2.1) (unhide HF).2.2.2.2.1 (unhide HF).2.2.2.2.2 (by rw [he]; exact (unhide HF).2.1) (by rw [he]; exact (unhide HF).2.2.1) (fun j hj => by
        have h1 := (unhide H).lg.at'.lt
        have h2 := (unhide H).lg.rlt
        rcases hj with hj | hj
        · exact hj.elim
        · exact ⟨by omega, by omega⟩)
      rw [he] at HCm
      have HCm := hide HCm
      have HG := hide hg
      have T1 := hide hm.turn
      have Hok := hide hok
      obtain ⟨oo, oc, hoe⟩ := hm.shape
      rw [hrl] at hoe
      subst hoe
      clear hg hm he hok hall hno hlt
      obtain ⟨cr, hcr⟩ : ∃ cr, cr = r.comR now seg ((cl.map (·.2)).map Chg.laid) := ⟨_, rfl⟩
      have Hcr := hide hcr
      rw [← hcr] at HCm
      clear hcr
      go_wp2_with fail
      refine (unhide HCm).mono ?_
      rintro e w2 ⟨rfl, Q2, hL2, hq2, t2⟩
      have T2 : Hid (Turn (fun j => j = rb ∨ j = l ∨ j = tb) w w2) := hide (((unhide T1).mono (fun _ _ e => e.elim)).trans (t2.mono (fun _ _ e => e.elim .inl (fun e => .inr (.inl e)))))
      have hps : ∃ pv pl, At 146 w2 tb #[.pointer (some ⟨l, 0, none⟩), pv, .bool false] ∧ PrL Z w2 pv pl ∧ plain pl = m := by
        obtain ⟨pv, pl, a, b, c⟩ := (unhide HG).ps
        have hne := (unhide H).ne
        exact ⟨pv, pl, a.kept t2 (fun e => e.elim hne.2 hne.1), b.kept t2 (fun j hj e => by
          have := (unhide H).zout j hj
          exact e.elim this.2.2 this.2.1), c⟩
      have hQ2 : ∀ j, Q2 j → Q j ∨ w.heap.size ≤ j := fun j hj => by
        have h1 := (unhide T1).size
        rcases hq2 j hj with e | e
        · exact .inl e
        · exact .inr (by omega)
      have htq : ¬ Q2 tb := fun e => by
        rcases hq2 tb e with e | e
        · exact (unhide H).out e
        · have := (unhide HG).tlt
          omega
      have hs2 := t2.size
      have hs1 := (unhide T1).size
      have Hsz := hide (And.intro hs1 hs2)
      by_cases hz : cr.1 = 0
      · have hz' : (cr.1 != 0) = false := by simpa using hz
        have hL3 : RLg Q2 w2 l rb seg cr.2.1 false cr.2.2 := by
          have := hL2
          rwa [show decide (cr.1 ≠ 0) = false by simp [hz]] at this
        have hR2 : RSr Q2 Z w2 tb l rb seg cr.2.1 cr.2.2 m := ⟨hL3, hps, (unhide H).ne, htq, (unhide H).zout, fun j hj => by have := (unhide H).zlt j hj; omega⟩
        have Hz := hide hz
        have HR2 := hide hR2
        have HQ2 := hide hQ2
        clear hL2 hL3 hR2 hps hQ2 htq hq2 t2 hz hs1 hs2 HCm
        go_wp2_with fail
        go_loopw [10, 11] (fun i _ wx => ∃ (n' : Nat) (Z' : Nat → Prop), i = .int .i64 n' ∧ n' ≤ n ∧ RSr Q2 Z' wx tb l rb seg cr.2.1 cr.2.2 (((cl.map (·.2)).take n').foldl turnC m) ∧ (∀ j, Z' j → Z j ∨ w.heap.size ≤ j) ∧ Turn (fun j => j = tb) w2 wx) (fun i _ _ => n - (intOf i).toNat)
        case atStart => exact ⟨0, Z, rfl, by omega, unhide HR2, fun _ e => .inl e, Turn.refl _ _⟩
        case round =>
          clear HR2
          obtain ⟨k, Z', rfl, hk, hR, hZ', tx⟩ := hrel
          have hKx : ∀ j, K j → ¬ (j = rb ∨ j = l ∨ j = tb) := fun j hj e => by
            have := (unhide HK).2 j hj
            rcases e with e | e | e
            · exact this.2.1 e
            · exact this.1 e
            · exact this.2.2 e
          have tall : Turn (fun j => j = rb ∨ j = l ∨ j = tb) w wr := (unhide T2).trans (tx.mono (fun _ _ e => .inr (.inr e)))
          by_cases hlt : k < n
          · have hkl : k < cl.length := by have := unhide HL; omega
            obtain ⟨g, cap, e, hg, hcc⟩ := ((unhide HC).kept tall hKx).each k hkl
            obtain ⟨pv, ⟨key, has, val⟩, hpe⟩ : ∃ pv c, (pv, c) = cl[k] := ⟨cl[k].1, cl[k].2, rfl⟩
            rw [← hpe] at hcc
            have hnx : (cl.map (·.2)).take (k + 1) = (cl.map (·.2)).take k ++ [⟨key, has, val⟩] := by
              rw [List.take_succ_eq_append_getElem (by simpa using hkl)]
              simp [← hpe]
            injection e with e1 e2 e3
            have k0 := hcc.c0
            have k1 := hcc.c1
            have k2 := hcc.c2
            simp only at k0 k1 k2
            have hvs := hcc.sees
            obtain ⟨po, pc, hpv⟩ := hvs.shape
            simp only at hpv
            obtain ⟨vn, hvn⟩ : ∃ vn, vn = val.length := ⟨_, rfl⟩
            rw [← hvn] at hpv
            have hKw : ∀ j, K j → j < wr.heap.size := fun j hj => Nat.lt_of_lt_of_le ((unhide HK).1 j hj) tall.size
            have hbk : val.length ≤ 140737488355328 ∧ key.size ≤ 1099511627776 := ⟨hcc.len, hcc.key⟩
            have hcok : Chg.ok ⟨key, has, val⟩ = true := List.all_eq_true.1 (unhide Hok) _ (by
              have hin : (⟨key, has, val⟩ : Chg) ∈ (cl.map (·.2)).take (k + 1) := by rw [hnx]; simp
              exact List.mem_of_mem_take hin)
            have hvb := ok_bounds hcok
            have hmemv := hcc.mem
            have q2 : (k : Int) < n := by omega
            have Hnx := hide hnx
            subst hpv e1
            obtain ⟨wa, hwa⟩ : ∃ wa, wa = wr.alloc (.cells #[.string key, .bool has, .slice po vn pc] 51) := ⟨_, rfl⟩
            have ta : Turn (fun _ => False) wr wa := hwa ▸ (Turn.refl _ _).alloc _
            have hC : At 51 wa wr.heap.size #[.string key, .bool has, .slice po vn pc] := by rw [hwa]; exact At.new _ _ _
            have hasz : wa.heap.size = wr.heap.size + 1 := by rw [hwa]; simp
            have te : Turn (fun _ => False) wa (wa.alloc (.cells #[] 5)) := (Turn.refl _ _).alloc _
            have hse : Sees (wa.alloc (.cells #[] 5)) (.slice po vn pc) val := (hcc.sees.kept ta (fun _ _ e => e)).kept te (fun _ _ e => e)
            have y2 : (wa.alloc (.cells #[] 5)).cell? ⟨wr.heap.size, 2, none⟩ = some (.slice po vn pc) := (hC.kept te (fun e => e)).cell 2
            have Hwa := hide hwa
            have HC5 := hide (And.intro hC (And.intro ta hasz))
            have Hse := hide hse
            have HR := hide hR
            have HZ := hide hZ'
            have HT := hide tx
            have HB := hide (And.intro hbk hvb)
            have hmx : vn ≤ 65535 := by rw [hvn]; exact hvb.2
            clear e2 e3 hpe hcc hvs hnx hR hZ' tx hwa ta hC te hse hKx hmemv hbk hcok hvb tall
            obtain ⟨i0, hi, hz0, hz1, hz2⟩ := info_parts Tryz.infoU8
            have Hvn := hide hvn
            have Has := hide hasz
            clear hvn hasz
            go_wp2_with (at_builtin; rw [← unhide Hwa, ← unhide Has]; refine wpList_append_sees _ rfl (.tmp 61) (.tmp 63) 29 rfl i0 Tryz.underlying29 hi hz0 hz1 hz2 _ [] rfl (owns_empty wa) _ val rfl (unhide Hse) (by rw [← unhide Hvn]; simp only [List.length_nil]; omega) ?_)
            intro v5 w5 ho hg5 hk5
            have hmade : Made wa v5 val w5 := Made.append (by rw [List.nil_append]; exact ho) hg5 hk5
            obtain ⟨a5, p5, hve5⟩ := hmade.1.shape
            have hC5 : At 51 w5 wr.heap.size #[.string key, .bool has, .slice po vn pc] := (unhide HC5).1.kept hmade.2.1 (fun e => e)
            have x2 : w5.cell? ⟨wr.heap.size, 2, none⟩ = some (.slice po vn pc) := hC5.cell 2
            have g2 := hC5.frozen 2
            have tc : Turn (fun j => j = wr.heap.size) w5 (w5.setCell ⟨wr.heap.size, 2, none⟩ v5) := (Turn.refl (fun j => j = wr.heap.size) w5).setCell (p := ⟨wr.heap.size, 2, none⟩) (.inl rfl) _
            have hC6 : At 51 (w5.setCell ⟨wr.heap.size, 2, none⟩ v5) wr.heap.size #[.string key, .bool has, v5] := by simpa using hC5.set 2 v5
            have hs5 : Sees (w5.setCell ⟨wr.heap.size, 2, none⟩ v5) v5 val := hmade.1.sees.kept tc (fun j hj e => by
              rw [hmade.1.slab_eq] at hj
              have := hmade.2.2 j hj
              have := unhide Has
              omega)
            have hv5 : ∀ j, slab v5 = some j → wr.heap.size ≤ j ∧ j < w5.heap.size := fun j hj => by
              rw [hmade.1.slab_eq] at hj
              have h1 := hmade.2.2 j hj
              have h2 := hmade.1.lt hj
              have := unhide Has
              omega
            obtain ⟨w6, hw6⟩ : ∃ w6, w6 = w5.setCell ⟨wr.heap.size, 2, none⟩ v5 := ⟨_, rfl⟩
            rw [← hw6] at tc hC6 hs5
            have t6 : Turn (fun _ => False) wr w6 := ((unhide HC5).2.1.trans hmade.2.1).trans' tc (fun i hi e => by omega)
            have hs56 : w5.heap.size ≤ w6.heap.size := tc.size
            have td : Turn (fun _ => False) w6 w6.drew := (Turn.refl _ w6).drew
            have hR6 := ((unhide HR).goes t6).goes td
            obtain ⟨pv, pl, hA, hP, hpm⟩ := hR6.ps
            have hpl : pl.length ≤ 1000000 := by
              have h1 : (plain pl).length = pl.length := plain_length pl
              rw [hpm] at h1
              have h2 := fold_length ((cl.map (·.2)).take k) m
              have h3 : ((cl.map (·.2)).take k).length ≤ k := by rw [List.length_take]; omega
              have h4 := unhide HM
              omega
            have hsz6 : w6.drew.heap.size = w6.heap.size := rfl
            have hzl : ∀ j, Z' j → j < wr.heap.size := (unhide HR).zlt
            have hP6 : PrL (grow Z' wr w6) w6.drew pv pl := hP.mono (fun j hj => .inl hj)
            have HPut := rput_any pv pl key.data.toList has v5 val w6.drew hP6 hpl (hs5.kept td (fun _ _ e => e)) (fun _ j hj => .inr (by have := hv5 j hj; omega)) (fun j hj => by
              have := t6.size
              rcases hj with hj | hj
              · have := hzl j hj; omega
              · omega) (by rw [text_length]; exact (unhide HB).1.2) (unhide HB).1.1
            rw [txt_of] at HPut
            have HPut := hide HPut
            obtain ⟨Po, Pc, hpv, _⟩ := hP.shape
            have z1 : w6.drew.cell? ⟨tb, 1, none⟩ = some pv := hA.cell 1
            have hC6d := hC6.kept td (fun e => e)
            have z2 : w6.drew.cell? ⟨wr.heap.size, 0, none⟩ = some (.string key) := hC6d.cell 0
            have z3 : w6.drew.cell? ⟨wr.heap.size, 1, none⟩ = some (.bool has) := hC6d.cell 1
            have z4 : w6.drew.cell? ⟨wr.heap.size, 2, none⟩ = some v5 := hC6d.cell 2
            have HR6 := hide hR6
            have HA6 := hide hA
            have T6 := hide (t6.trans td)
            have Hpm := hide hpm
            have Hw6 := hide hw6
            have Hs6 := hide (And.intro hsz6 (And.intro t6.size hzl))
            obtain ⟨pln, hpln⟩ : ∃ pln, pln = pl.length := ⟨_, rfl⟩
            rw [← hpln] at hpv
            obtain ⟨vl5, hvl5⟩ : ∃ vl5, vl5 = val.length := ⟨_, rfl⟩
            rw [← hvl5] at hve5
            have hpl' : pln ≤ 1000000 := by omega
            subst hpv hve5
            clear hmade hC5 tc hC6 hs5 hv5 hw6 t6 td hR6 hA hP hpm hpl hP6 hC6d hpln hvl5 ho hg5 hk5 hs56 hsz6 hzl
            go_wp2_with fail
            rw [← unhide Hw6]
            go_region_with (go_at_call 92; refine (unhide HPut).mono ?_; rintro e w7 ⟨v7, rfl, hp7, t7⟩; obtain ⟨o7, c7, he7, _⟩ := hp7.shape; have hA7 := (unhide HA6).kept t7 (fun e => e); have f7 := hA7.frozen 1; have x7 : w7.cell? ⟨tb, 1, none⟩ = some (.slice Po pln Pc) := hA7.cell 1; have HA7 := hide hA7; have HP7 := hide hp7; have T7 := hide t7; generalize hl7 : List.length _ = l7 at he7; subst he7; clear hp7 t7 hA7 hl7)
            all_goals (
              have ts : Turn (fun j => j = tb) w7 (w7.setCell ⟨tb, 1, none⟩ (.slice o7 l7 c7)) := (Turn.refl (fun j => j = tb) w7).setCell (p := ⟨tb, 1, none⟩) (.inl rfl) _
              have hR7 := (unhide HR6).goes (unhide T7)
              have hfin : RSr Q2 (grow (grow Z' wr w6) w6.drew w7) (w7.setCell ⟨tb, 1, none⟩ (.slice o7 l7 c7)) tb l rb seg cr.2.1 cr.2.2 (((cl.map (·.2)).take (k + 1)).foldl turnC m) := by
                have hne := hR7.ne
                have htl := (unhide HR).tlt
                have hll := (unhide HR).lg.at'.lt
                have hrl := (unhide HR).lg.rlt
                have hs6 := unhide Hs6
                have hs7 := (unhide T7).size
                have hs8 := ts.size
                have hnew : ∀ j, grow (grow Z' wr w6) w6.drew w7 j → Z' j ∨ wr.heap.size ≤ j := fun j hj => by
                  rcases hj with (hj | hj) | hj
                  · exact .inl hj
                  · exact .inr hj.1
                  · exact .inr (by omega)
                have hzo : ∀ j, grow (grow Z' wr w6) w6.drew w7 j → j ≠ tb ∧ j ≠ l ∧ j ≠ rb := fun j hj => by
                  rcases hnew j hj with hj | hj
                  · exact (unhide HR).zout j hj
                  · exact ⟨by omega, by omega, by omega⟩
                refine ⟨⟨hR7.lg.rd.keeps ts (fun j hj e => hR7.out (e ▸ hj)) (fun e => hne.2 e.symm), hR7.lg.at'.kept ts (fun e => hne.1 e.symm), hR7.lg.ne, hR7.lg.out⟩, ⟨_, _, by simpa using (unhide HA7).set 1 (.slice o7 l7 c7), (unhide HP7).kept ts (fun j hj e => (hzo j hj).1 e), ?_⟩, hne, hR7.out, hzo, fun j hj => ?_⟩
                · rw [plain_putR, txt_of, unhide Hpm, unhide Hnx, List.foldl_append]
                  rfl
                · rcases hj with (hj | hj) | hj
                  · have := hs6.2.2 j hj; omega
                  · omega
                  · omega
              have hfz : ∀ j, grow (grow Z' wr w6) w6.drew w7 j → Z j ∨ w.heap.size ≤ j := fun j hj => by
                have hs6 := unhide Hs6
                have h1 := (unhide HT).size
                have h2 := unhide Hsz
                rcases hj with (hj | hj) | hj
                · exact (unhide HZ) j hj
                · exact .inr (by omega)
                · exact .inr (by omega)
              have Hfin := hide (And.intro hfin (And.intro hfz (((unhide HT).trans (((unhide T6).trans (unhide T7)).mono (fun _ _ e => e.elim))).trans ts)))
              clear hfin hfz ts hR7
              go_wp2
              go_roundw
              case rel => exact ⟨k + 1, _, by go_num, by omega, (unhide Hfin).1, (unhide Hfin).2.1, (unhide Hfin).2.2⟩
              case measure => simp [intOf]; omega)
          · obtain rfl : k = n := by omega
            have q2 : ¬ (k : Int) < k := by omega
            have hall : (cl.map (·.2)).take k = cl.map (·.2) := List.take_of_length_le (by rw [List.length_map, ← unhide HL]; exact Nat.le_refl _)
            rw [hall] at hR
            have hfin : RSc Q Z w tb l rb seg now r m (cl.map (·.2)) (.returned (.int .i64 0)) wr := by
              refine ⟨tall, Q2, Z', unhide HQ2, hZ', .inr (.inr ⟨unhide Hok, by rw [← unhide Hcr]; exact unhide Hz, rfl, ?_⟩)⟩
              rw [← unhide Hcr]
              exact hR
            have Hfin := hide hfin
            clear hfin hR hZ' tx tall hKx hall
            go_wp2
            go_ret
            exact unhide Hfin
      · have hz' : (cr.1 != 0) = true := by simpa using hz
        have d0 : w2.cell? ⟨tb, 0, none⟩ = some (.pointer (some ⟨l, 0, none⟩)) := by obtain ⟨pv, pl, a, _⟩ := hps; exact a.cell 0
        have d2 : w2.cell? ⟨tb, 2, none⟩ = some (.bool false) := by obtain ⟨pv, pl, a, _⟩ := hps; exact a.cell 2
        have f2 : w2.frozen? ⟨tb, 2, none⟩ = false := by obtain ⟨pv, pl, a, _⟩ := hps; exact a.frozen 2
        obtain ⟨pv, pl, hA2, _, _⟩ := hps
        have hA3 : At 146 (w2.setCell ⟨tb, 2, none⟩ (.bool true)) tb #[.pointer (some ⟨l, 0, none⟩), pv, .bool true] := by simpa using hA2.set 2 (.bool true)
        have hA4 : At 146 ((w2.setCell ⟨tb, 2, none⟩ (.bool true)).setCell ⟨tb, 1, none⟩ (.slice none 0 0)) tb #[.pointer (some ⟨l, 0, none⟩), .slice none 0 0, .bool true] := by simpa using hA3.set 1 (.slice none 0 0)
        have f1 := hA3.frozen 1
        have x1 := hA3.cell 1
        have t3 : Turn (fun j => j = tb) w2 (w2.setCell ⟨tb, 2, none⟩ (.bool true)) := (Turn.refl (fun j => j = tb) w2).setCell (p := ⟨tb, 2, none⟩) (.inl rfl) _
        have t4 : Turn (fun j => j = tb) w2 ((w2.setCell ⟨tb, 2, none⟩ (.bool true)).setCell ⟨tb, 1, none⟩ (.slice none 0 0)) := t3.setCell (p := ⟨tb, 1, none⟩) (.inl rfl) _
        have hfin : RSc Q Z w tb l rb seg now r m (cl.map (·.2)) (.returned (.int .i64 14)) ((w2.setCell ⟨tb, 2, none⟩ (.bool true)).setCell ⟨tb, 1, none⟩ (.slice none 0 0)) := by
          refine ⟨(unhide T2).trans (t4.mono (fun _ _ e => .inr (.inr e))), Q2, Z, hQ2, fun _ e => .inl e, .inr (.inl ⟨unhide Hok, by rw [← unhide Hcr]; exact hz, rfl, ?_⟩)⟩
          rw [← unhide Hcr]
          exact ⟨hL2.rd.keeps t4 (fun j hj e => htq (e ▸ hj)) (fun e => (unhide H).ne.2 e.symm), ⟨l, hA4⟩, (unhide H).ne.2, htq⟩
        have Hfin := hide hfin
        have x1' : (w2.setCell ⟨tb, 2, none⟩ (.bool true)).cell? ⟨tb, 1, none⟩ = some pv := x1
        clear hfin t3 t4 hA2 hA3 hA4 hL2 hQ2 htq hq2 t2 HCm x1 d0
        go_wp2
        go_ret
        exact unhide Hfin

end

end Go.Proofs.YtnipdgigjcaolaaGreat
