/- The reference's Store in memory; OpenStore. -/
import Derived.Test.YtnipdgigjcaolaaGreatRPut
import Derived.Test.YtnipdgigjcaolaaGreatPkV
import Derived.Deep.RegionWith
namespace Go.Proofs.YtnipdgigjcaolaaGreat
open Go.RowKit

theorem txt_of (s : ByteArray) : txt s.data.toList = s := by cases s; simp [txt]

theorem plain_putR (k : List UInt8) (v : Value) (bs : List UInt8) (has : Bool) (pl : List (List UInt8 × (Value × List UInt8))) : plain (putR k (v, bs) (!has) pl) = turnC (plain pl) ⟨txt k, has, bs⟩ := by
  unfold turnC
  cases has with
  | true =>
    show plain (putR k (v, bs) false pl) = _
    rw [putR_put, if_pos rfl]
    unfold plain
    rw [kput_map]
    simp [txt]
  | false =>
    show plain (putR k (v, bs) true pl) = _
    rw [putR_done, if_neg (by simp)]
    unfold plain
    rw [kdel_map]
    simp [txt]

theorem putR_length {α : Type} (k : List UInt8) (v : α) (b : Bool) (l : List (List UInt8 × α)) : (putR k v b l).length ≤ l.length + 1 := by
  cases b with
  | true => rw [putR_done]; have := kdel_length k l; omega
  | false => rw [putR_put]; exact kput_length k v l

/-- The reference's Store in block tb: its Log in l, its Disk in rb; its pairs in Z. -/
structure RSr (Q Z : Nat → Prop) (w : World) (tb l rb : Nat) (seg now : Int) (r : RSt) (m : List (List UInt8 × List UInt8)) : Prop where
  lg : RLg Q w l rb seg now false r
  ps : ∃ pv pl, At 146 w tb #[.pointer (some ⟨l, 0, none⟩), pv, .bool false] ∧ PrL Z w pv pl ∧ plain pl = m
  ne : tb ≠ l ∧ tb ≠ rb
  out : ¬ Q tb
  zout : ∀ j, Z j → j ≠ tb ∧ j ≠ l ∧ j ≠ rb
  zlt : ∀ j, Z j → j < w.heap.size

/-- What OpenStore comes to. -/
def ROSt (Q : Nat → Prop) (w : World) (rb : Nat) (s : RSt) (seg : Int) (e : Ending) (w' : World) : Prop := ∃ ns, s.Nums ns ∧
  match openR s.read ns ⟨[], -1, 0⟩ with
  | none => e = .returned (.tuple #[.pointer none, .int .i64 5]) ∧ Turn (fun _ => False) w w'
  | some o => match replayC o.out with
    | none => e = .returned (.tuple #[.pointer none, .int .i64 5]) ∧ Turn (fun j => j = rb) w w'
    | some m => ∃ tb l, ∃ Q' Z : Nat → Prop, e = .returned (.tuple #[.pointer (some ⟨tb, 0, none⟩), .int .i64 0]) ∧ RSr Q' Z w' tb l rb seg o.next (s.goneR (ns.filter (· < o.since))) m ∧ (∀ j, Q' j → Q j ∨ w.heap.size ≤ j) ∧ (∀ j, Z j → w.heap.size ≤ j) ∧ Turn (fun j => j = rb) w w' ∧ w.heap.size ≤ tb ∧ w.heap.size ≤ l

/-- Within OpenStore's loop. -/
structure OSr (w2 : World) (tb l : Nat) (recs : List (List UInt8)) (n : Nat) (wr : World) : Prop where
  turn : Turn (fun j => j = tb) w2 wr
  is : ∃ pv pl m, At 146 wr tb #[.pointer (some ⟨l, 0, none⟩), pv, .bool false] ∧ PrL (fun j => tb < j ∧ j < wr.heap.size) wr pv pl ∧ plain pl = m ∧ replayC (recs.take n) = some m ∧ pl.length ≤ n

theorem replay_stop {l : List (List UInt8)} {n : Nat} {m : List (List UInt8 × List UInt8)} (h : replayC (l.take n) = some m) (hn : n < l.length) (hr : readC l[n] = none) : replayC l = none := by
  conv => lhs; rw [← List.take_append_drop n l, List.drop_eq_getElem_cons hn]
  rw [replayC_append, h, List.foldl_cons]
  have e : stepC (some m) l[n] = none := by simp [stepC, hr]
  rw [e, fold_none]

theorem replay_go {l : List (List UInt8)} {n : Nat} {m : List (List UInt8 × List UInt8)} (h : replayC (l.take n) = some m) (hn : n < l.length) {c : Chg} (hr : readC l[n] = some c) : replayC (l.take (n + 1)) = some (turnC m c) := by
  rw [List.take_succ_eq_append_getElem hn, replayC_snoc, h]
  simp [stepC, hr]

section
variable {Q : Nat → Prop} {w : World} {rb M B : Nat} {s : RSt}

set_option maxHeartbeats 8000000 in
set_option maxRecDepth 100000 in
theorem ropenStore_any (seg : Int) (h : RDk Q w rb s) (hf : RFit M B s) (hd : s.dead = false) (hs0 : 256 ≤ seg) (hs1 : seg ≤ 1048576) (hB : (M + 1) * B ≤ 1099511627776) (hrm : ∀ l : List Int, (∀ k ∈ l, s.read k ≠ []) → l.length ≤ M → RFit M B (s.goneR l) ∧ (s.goneR l).works ≤ 1073741822) (hlo : ∀ k, s.read k ≠ [] → 0 ≤ k ∧ k ≤ 1099511627776)
    (hR : ∀ ns o, s.Nums ns → openR s.read ns ⟨[], -1, 0⟩ = some o → o.out.length ≤ 1000000 ∧ ∀ x ∈ o.out, x.length ≤ 1099511627776) :
    Calls Tryz.prog 35 #[.pointer (some ⟨rb, 0, none⟩), .int .i64 seg] w (ROSt Q w rb s seg) := by
  have hrb : rb < w.heap.size := by
    obtain ⟨kv, pv, kl, pl, h1⟩ := h
    exact h1.head.lt
  have HO := hide (openLog_log seg h hf hd hs0 hs1 hB hrm hlo)
  have HRR := hide hR
  have HRb := hide hrb
  clear h hf hd hs0 hs1 hB hrm hlo hR hrb
  go_enter Tryz.func35, Tryz.ntmps35
  go_wp2_with fail
  refine (unhide HO).mono ?_
  rintro e w1 ⟨ns, hns, hm⟩
  cases ho : openR s.read ns ⟨[], -1, 0⟩ with
  | none =>
    rw [ho] at hm
    obtain ⟨rfl, t1⟩ := hm
    have Hfin : Hid (ROSt Q w rb s seg (.returned (.tuple #[.pointer none, .int .i64 5])) w1) := hide ⟨ns, hns, by rw [ho]; exact ⟨rfl, t1⟩⟩
    clear hns ho t1 HO
    go_wp2_with fail
    refine bodyPost_ret (results_tmp2 rfl _ _ _) rfl ?_
    exact unhide Hfin
  | some o =>
    rw [ho] at hm
    obtain ⟨l, rv, rl, Q', rfl, hL, hrl, hout, hQ', t1, hl1⟩ := hm
    obtain ⟨vo, vc, hve⟩ := hrl.shape
    have hbig := unhide HRR ns o hns ho
    obtain ⟨tb, htb⟩ : ∃ tb, tb = w1.heap.size := ⟨_, rfl⟩
    obtain ⟨w2, hw2⟩ : ∃ w2, w2 = w1.alloc (.cells #[.pointer (some ⟨l, 0, none⟩), .slice none 0 0, .bool false] 146) := ⟨_, rfl⟩
    have ta : Turn (fun _ => False) w1 w2 := hw2 ▸ (Turn.refl _ _).alloc _
    have hA : At 146 w2 tb #[.pointer (some ⟨l, 0, none⟩), .slice none 0 0, .bool false] := by rw [hw2, htb]; exact At.new _ _ _
    have hst : OSr w2 tb l o.out 0 w2 := ⟨Turn.refl _ _, .slice none 0 0, [], [], hA, PrL.nil _ _, rfl, rfl, by simp⟩
    obtain ⟨len, hlen⟩ : ∃ len, len = rl.length := ⟨_, rfl⟩
    have hol : o.out.length = len := by rw [← hout, hlen]; simp
    rw [← hlen] at hve
    have hllt := hL.at'.lt
    have Hst := hide hst
    have HL := hide (And.intro hL (And.intro hrl (And.intro hout (And.intro hQ' (And.intro t1 hl1)))))
    have HW := hide (And.intro htb (And.intro hw2 ta))
    have HB := hide hbig
    have HN := hide (And.intro hns ho)
    have HLn := hide (And.intro hlen hol)
    have hlb : len ≤ 1000000 := by omega
    subst hve
    clear hst hL hrl hout hQ' t1 hl1 htb hw2 ta hA hbig hns ho hlen hol HO HRR
    go_wp2_with fail
    rw [← (unhide HW).2.1, ← (unhide HW).1]
    go_loopw [10, 11, 12] (fun i _ _ wr => ∃ n : Nat, i = .int .i64 n ∧ n ≤ len ∧ OSr w2 tb l o.out n wr) (fun i _ _ _ => len - (intOf i).toNat)
    case atStart => exact ⟨0, rfl, by omega, unhide Hst⟩
    case round =>
      clear Hst
      obtain ⟨n, rfl, hn, hO⟩ := hrel
      by_cases hlt : n < len
      · have q1 : (n : Int) < len := by omega
        have hnl : n < rl.length := by have := (unhide HLn).1; omega
        have hno : n < o.out.length := by have := (unhide HLn).2; omega
        have hrlr : RL (fun j => w.heap.size ≤ j ∧ j < l) wr (.slice vo len vc) rl := (unhide HL).2.1.kept (((unhide HW).2.2.mono (fun _ _ e => e.elim)).trans hO.turn) (fun j hj e => by have := (unhide HW).1; have := hllt; omega)
        obtain ⟨g, cap', ao, nb, c, e, e1, e2, hc⟩ := hrlr.at n hnl
        injection e with ea eb ec
        subst ea
        have heach := hrlr.each rl[n] (List.getElem_mem hnl)
        have hget : o.out[n] = rl[n].2 := by
          have h1 := (unhide HL).2.2.1
          have h2 : (rl.map (·.2))[n]? = o.out[n]? := by rw [h1]
          rw [List.getElem?_map, List.getElem?_eq_getElem hnl, List.getElem?_eq_getElem hno] at h2
          simpa using h2.symm
        have hbn : rl[n].2.length ≤ 1099511627776 := by rw [← hget]; exact (unhide HB).2 _ (List.getElem_mem hno)
        have hsn : Sees wr (.slice ao nb c) rl[n].2 := by rw [← e1]; exact heach.1
        have hwsz : w1.heap.size < wr.heap.size := by
          have h1 := hO.turn.size
          obtain ⟨_, _, _, hA, _⟩ := hO.is
          have := hA.lt
          have := (unhide HW).1
          omega
        have HRd := hide (rreadC_any (.slice ao nb c) rl[n].2 wr hsn (by omega) (fun h0 j hj => by
          have := heach.2 h0 j (by rw [e1]; exact hj)
          omega))
        have Hget := hide hget
        have HO2 := hide hO
        have Hwsz := hide hwsz
        clear e1 e2 eb ec hsn heach hrlr hO hget hwsz
        go_wp2_with fail
        refine (unhide HRd).mono ?_
        rintro e w3 ⟨t3, hK⟩
        have Ht3 := hide t3
        cases hrc : readC rl[n].2 with
        | none =>
          rw [hrc] at hK
          subst hK
          have hstop : replayC o.out = none := by
            obtain ⟨_, _, m, _, _, _, h4, _⟩ := (unhide HO2).is
            exact replay_stop h4 hno (by rw [unhide Hget]; exact hrc)
          have Hfin : Hid (∀ z, ROSt Q w rb s seg (.returned (.tuple #[.pointer none, .int .i64 5])) (w3.alloc z)) := hide (fun z => ⟨ns, (unhide HN).1, by
            rw [(unhide HN).2]
            show match replayC o.out with
              | none => _
              | some m => _
            rw [hstop]
            refine ⟨rfl, ?_⟩
            have h1 := ((unhide HL).2.2.2.2.1.trans' ((unhide HW).2.2) (fun i _ e => e.elim)).trans' (unhide HO2).turn (fun i hi e => by
              have h2 := (unhide HL).2.2.2.2.1.size
              have h3 := (unhide HW).1
              omega)
            exact (h1.trans' (unhide Ht3) (fun i _ e => e.elim)).alloc z⟩)
          clear hstop hrc t3 HRd
          go_wp2_with fail
          refine bodyPost_ret (results_tmp2 rfl _ _ _) rfl ?_
          exact unhide Hfin _
        | some c =>
          rw [hrc] at hK
          obtain ⟨v, rfl, hsv, hmv⟩ := hK
          obtain ⟨hok, _⟩ := readC_some hrc
          have hkb := ok_bounds hok
          obtain ⟨v2o, v2c, hve2⟩ := hsv.shape
          obtain ⟨w4, hw4⟩ : ∃ w4, w4 = w3.alloc (.cells #[.string c.key, .bool c.has, v] 51) := ⟨_, rfl⟩
          have t4 : Turn (fun _ => False) w3 w4 := hw4 ▸ (Turn.refl _ _).alloc _
          have hC : At 51 w4 w3.heap.size #[.string c.key, .bool c.has, v] := by rw [hw4]; exact At.new _ _ _
          have t34 := t3.trans t4
          obtain ⟨pv, pl, m, hA, hP, hpm, hrep, hpl⟩ := (unhide HO2).is
          have td : Turn (fun _ => False) w4 w4.drew := (Turn.refl _ w4).drew
          have hA4 := (hA.kept t34 (fun e => e)).kept td (fun e => e)
          have hC4 := hC.kept td (fun e => e)
          have htbw : tb < wr.heap.size := hA.lt
          have hsz3 := t3.size
          have hsz4 := t4.size
          have hP4 : PrL (fun j => tb < j ∧ j < w4.heap.size) w4.drew pv pl := ((hP.kept t34 (fun _ _ e => e)).kept td (fun _ _ e => e)).mono (fun j hj => ⟨hj.1, by omega⟩)
          have HPut := rput_any pv pl c.key.data.toList c.has v c.val w4.drew hP4 (by omega) ((hsv.kept t4 (fun _ _ e => e)).kept td (fun _ _ e => e)) (fun _ j hj => by have := hmv j hj; exact ⟨by omega, by omega⟩) (fun j hj => hj.2) (by rw [text_length]; omega) (by omega)
          rw [txt_of] at HPut
          have HPut := hide HPut
          obtain ⟨po, pc, hpv, _⟩ := hP.shape
          have x1 : w4.drew.cell? ⟨tb, 1, none⟩ = some pv := hA4.cell 1
          have y0 : w4.drew.cell? ⟨w3.heap.size, 0, none⟩ = some (.string c.key) := hC4.cell 0
          have y1 : w4.drew.cell? ⟨w3.heap.size, 1, none⟩ = some (.bool c.has) := hC4.cell 1
          have y2 : w4.drew.cell? ⟨w3.heap.size, 2, none⟩ = some v := hC4.cell 2
          have HA4 := hide hA4
          have HX := hide (And.intro hpm (And.intro hrep (And.intro hpl (And.intro hrc hno))))
          have HT4 := hide ((((unhide HO2).turn.trans (t34.mono (fun _ _ e => e.elim))).trans (td.mono (fun _ _ e => e.elim))) : Turn (fun j => j = tb) w2 w4.drew)
          have Hw4 := hide hw4
          have Htb := hide (And.intro htbw (And.intro hsz3 hsz4))
          obtain ⟨cvl, hcvl⟩ : ∃ cvl, cvl = c.val.length := ⟨_, rfl⟩
          rw [← hcvl] at hve2
          obtain ⟨pln, hpln⟩ : ∃ pln, pln = pl.length := ⟨_, rfl⟩
          rw [← hpln] at hpv
          subst hve2 hpv
          clear hcvl hpln hC t4 t3 t34 td hA hP hpm hrep hpl hA4 hC4 hP4 hsv hmv hok hkb hrc htbw hsz3 hsz4 HRd hw4 Ht3
          go_wp2_with fail
          rw [← unhide Hw4]
          go_wp2_with fail
          go_region_with (go_at_call 92; refine (unhide HPut).mono ?_; rintro e w5 ⟨v5, rfl, hp5, t5⟩; obtain ⟨o5, c5, he5, _⟩ := hp5.shape; have hA5 := (unhide HA4).kept t5 (fun e => e); have f5 := hA5.frozen 1; have x5 : w5.cell? ⟨tb, 1, none⟩ = some (.slice po pln pc) := hA5.cell 1; have HA5 := hide hA5; have HP5 := hide hp5; have T5 := hide t5; generalize hl5 : List.length _ = l5 at he5; subst he5; clear hp5 t5 hA5 hl5)
          all_goals (
            have ts : Turn (fun j => j = tb) w5 (w5.setCell ⟨tb, 1, none⟩ (.slice o5 l5 c5)) := (Turn.refl (fun j => j = tb) w5).setCell (p := ⟨tb, 1, none⟩) (.inl rfl) _
            have hfin : OSr w2 tb l o.out (n + 1) (w5.setCell ⟨tb, 1, none⟩ (.slice o5 l5 c5)) := by
              refine ⟨((unhide HT4).trans ((unhide T5).mono (fun _ _ e => e.elim))).trans ts, _, _, _, by simpa using (unhide HA5).set 1 (.slice o5 l5 c5), ((unhide HP5).kept ts (fun j hj e => ?_)).mono (fun j hj => ?_), by rw [plain_putR, txt_of, (unhide HX).1], replay_go (unhide HX).2.1 hno (by rw [unhide Hget]; exact (unhide HX).2.2.2.1), ?_⟩
              · have h1 := (unhide Htb).1
                have h2 := (unhide Htb).2
                have h5 : w4.drew.heap.size = w4.heap.size := rfl
                rcases hj with hj | hj <;> omega
              · have h1 := (unhide Htb).1
                have h2 := (unhide Htb).2
                have h3 := (unhide T5).size
                have h4 := ts.size
                have h5 : w4.drew.heap.size = w4.heap.size := rfl
                rcases hj with hj | hj
                · exact ⟨hj.1, by omega⟩
                · exact ⟨by omega, by omega⟩
              · have h1 := (unhide HX).2.2.1
                have h2 := putR_length c.key.data.toList (Value.slice v2o cvl v2c, c.val) (!c.has) pl
                omega
            have Hfin := hide hfin
            clear hfin ts
            go_wp2
            go_roundw
            case rel => exact ⟨n + 1, by go_num, by omega, unhide Hfin⟩
            case measure => simp [intOf]; omega)
      · obtain rfl : n = len := by omega
        have q1 : ¬ (n : Int) < n := by omega
        have hfin : ROSt Q w rb s seg (.returned (.tuple #[.pointer (some ⟨tb, 0, none⟩), .int .i64 0])) wr := by
          obtain ⟨pv, pl, m, hA, hP, hpm, hrep, hpl⟩ := hO.is
          have hol := (unhide HLn).2
          rw [← hol, List.take_length] at hrep
          refine ⟨ns, (unhide HN).1, ?_⟩
          rw [(unhide HN).2]
          show match replayC o.out with
            | none => _
            | some m => _
          rw [hrep]
          have htb := (unhide HW).1
          have ht := ((unhide HW).2.2.mono (fun _ _ e => e.elim) : Turn (fun j => j = tb) w1 w2).trans hO.turn
          have hL := (unhide HL).1
          have hlt1 : ∀ j, Q' j → j < w1.heap.size := hL.lt
          have hrl1 := hL.rlt
          have hs := (unhide HL).2.2.2.2.1.size
          refine ⟨tb, l, Q', _, rfl, ⟨⟨hL.rd.keeps ht (fun j hj e => by have := hlt1 j hj; omega) (by omega), hL.at'.kept ht (by omega), hL.ne, hL.out⟩, ⟨pv, pl, hA, hP, hpm⟩, ⟨by omega, by omega⟩, fun e => by have := hlt1 _ e; omega, fun j hj => ⟨by omega, by omega, by omega⟩, fun j hj => hj.2⟩, (unhide HL).2.2.2.1, fun j hj => by omega, (unhide HL).2.2.2.2.1.trans' ht (fun i hi e => by omega), by omega, (unhide HL).2.2.2.2.2⟩
        have Hfin := hide hfin
        clear hfin hO
        go_wp2
        refine bodyPost_ret (results_tmp2 rfl _ _ _) rfl ?_
        exact unhide Hfin

end

end Go.Proofs.YtnipdgigjcaolaaGreat
