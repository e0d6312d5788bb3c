/- The law WalReads: its walk. -/
import Derived.Test.YteomehdkfhjbeaaGreatWFil
import Derived.Test.YteomehdkfhjbeaaGreatROpen
import Derived.Test.YteomehdkfhjbeaaGreatWKnw
import Derived.Test.YteomehdkfhjbeaaGreatPkF
import Derived.Deep.CutBlock
namespace Go.Proofs.YteomehdkfhjbeaaGreat
open Go.RowKit

theorem RFit.mono {M B B' : Nat} {s : RSt} (h : RFit M B s) (hB : B ≤ B') (hb : B' ≤ 140737488355328) : RFit M B' s :=
  ⟨h.many, h.works, h.len, h.max, h.lo, h.hi, hb, fun k i => Nat.le_trans (h.file k i) hB, fun i hi => Nat.le_trans (h.more i hi) hB, h.fz, h.fu⟩

section
variable {N : Nat} {s : DSt} {r : RSt}

theorem PSam6.few (h : PSam6 N s r) (k : Int) (hk : s.read k ≠ []) : 0 ≤ k ∧ k < 5 := by
  rw [← h.read k] at hk
  unfold RSt.read at hk
  split at hk
  · simp at hk
  · unfold fil5 at hk
    split at hk
    · rename_i h0
      refine ⟨h0, ?_⟩
      have hl := h.nlen r.pend.length
      rw [List.take_length] at hl
      by_cases hlt : k.toNat < (nowL r.kept r.pend).length
      · omega
      · have hle : (RSt.now r).length ≤ k.toNat := by unfold RSt.now; omega
        exact absurd (by simp [List.getD, List.getElem?_eq_none hle]) hk
    · simp at hk

theorem PSam6.nums (h : PSam6 N s r) {ns : List Int} (hn : s.Nums ns) : ns.length ≤ 5 := by
  have := rise_le ((List.range 5).map (fun i : Nat => (i : Int))) ns hn.1 (fun k hk => by
    have h1 := h.few k ((hn.2 k).1 hk)
    exact List.mem_map.2 ⟨k.toNat, by rw [List.mem_range]; omega, by omega⟩)
  simpa using this

theorem PSam6.gone (h : PSam6 N s r) : ∀ (l : List Int), (∀ k ∈ l, k < 5) → PSam6 (N + l.length) (s.gone l) (r.goneR l)
  | l, hl => by
    induction l generalizing N s r with
    | nil => exact h
    | cons k q ih =>
      have h1 := (h.rem k (hl k (by simp))).2
      have h2 := ih h1 (fun j hj => hl j (by simp [hj]))
      rw [List.length_cons, show N + (q.length + 1) = N + 1 + q.length by omega]
      exact h2

theorem PSam6.lens (h : PSam6 N s r) (k : Int) : (s.read k).length ≤ N * 2097152 := by
  unfold DSt.read
  split
  · simp
  · have := h.size s.ops.length k
    rw [List.take_length] at this
    exact this

theorem PSam6.le {M : Nat} (h : PSam6 N s r) (hM : N ≤ M) : PSam6 M s r := by
  obtain ⟨d, rfl⟩ : ∃ d, M = N + d := ⟨M - N, by omega⟩
  clear hM
  induction d with
  | zero => exact h
  | succ d ih => exact ih.up

/-- Both open the same. -/
theorem PSam6.opens (h : PSam6 N s r) (ns : List Int) : (openN s.read ns (HSt.zero, 0) = none ∧ openR r.read ns ⟨[], -1, 0⟩ = none) ∨ ∃ y q, openN s.read ns (HSt.zero, 0) = some y ∧ openR r.read ns ⟨[], -1, 0⟩ = some q ∧ y.1.recs = q.out ∧ ((∀ k ∈ ns, 0 ≤ k) → ns.filter (· < y.1.since) = ns.filter (· < q.since)) := by
  have e : r.read = s.read := funext h.read
  rw [e]
  rcases openR_same s.read ns (x := (HSt.zero, 0)) (o := ⟨[], -1, 0⟩) ⟨rfl, .inl ⟨rfl, rfl⟩, rfl⟩ with h1 | ⟨y, q, h1, h2, h3⟩
  · exact .inl h1
  · refine .inr ⟨y, q, h1, h2, h3.recs, fun h0 => ?_⟩
    rcases h3.since with ⟨e1, e2⟩ | e1
    · rw [e1, e2]
      refine List.filter_congr (fun k hk => ?_)
      have := h0 k hk
      simp
      omega
    · rw [e1]

end

theorem xor_byte6 (x : UInt8) (y : Nat) (hy : y < 256) : ∃ z : UInt8, bits .xor .u8 (x.toNat : Int) (y : Int) = (z.toNat : Int) := by
  have hx := byte_lt x
  have hz : x.toNat ^^^ y < 256 := Nat.xor_lt_two_pow (n := 8) hx hy
  refine ⟨UInt8.ofNat (x.toNat ^^^ y), ?_⟩
  rw [UInt8.toNat_ofNat', Nat.mod_eq_of_lt hz]
  exact u8_xor_nat _ _ hx hy

theorem index5 (w : World) : ∀ i : Nat, i < 5 → (Instr.index 32 (.agg #[.int .i64 1, .int .i64 1, .int .i64 2, .int .i64 3, .int .i64 4]) (.int .i64 (i : Int))).run Tryz.prog w = .ok (.int .i64 ([1, 1, 2, 3, 4].getD i 0)) w
  | 0, _ => by simp [Instr.index, run_underlying Tryz.underlying32, asIntOf, part, isAgg, run_underlying Tryz.underlying3]
  | 1, _ => by simp [Instr.index, run_underlying Tryz.underlying32, asIntOf, part, isAgg, run_underlying Tryz.underlying3]
  | 2, _ => by simp [Instr.index, run_underlying Tryz.underlying32, asIntOf, part, isAgg, run_underlying Tryz.underlying3]
  | 3, _ => by simp [Instr.index, run_underlying Tryz.underlying32, asIntOf, part, isAgg, run_underlying Tryz.underlying3]
  | 4, _ => by simp [Instr.index, run_underlying Tryz.underlying32, asIntOf, part, isAgg, run_underlying Tryz.underlying3]

set_option maxHeartbeats 8000000 in
set_option maxRecDepth 100000 in
theorem walReads_any (lv kv bv : Value) (l bodies : List (Value × List UInt8)) (kinds : List Int) (at' : Int) (y : Nat) (w : World) (hl : ListAt w w.heap.size lv l) (hk : IntsAt w w.heap.size kv kinds) (hb : ListAt w w.heap.size bv bodies) (hbig : ∀ k (hk : k < l.length), l[k].2.length ≤ 1048576) (hy : y < 256) :
    Calls Tryz.prog 3 #[lv, kv, bv, .int .i64 at', .int .u8 (y : Int)] w fun e w' => e = .returned (.bool true) ∧ Turn (fun _ => False) w w' := by
  obtain ⟨lo, lc, rfl, hlm⟩ := hl.shape
  obtain ⟨ko, kc, rfl, hkm⟩ := hk.shape
  obtain ⟨bo, bc, rfl, hbm⟩ := hb.shape
  unfold maxLen at hlm hkm hbm
  obtain ⟨i0, hi, hz0, hz1, hz2⟩ := info_parts Tryz.infoU8
  have Hl := hide hl
  have Hk := hide hk
  have Hb := hide hb
  have Hbig := hide hbig
  clear hl hk hb hbig
  go_enter Tryz.func3, Tryz.ntmps3
  go_wp2_with fail
  refine (dl_new (w0 := w) (K := fun _ => False) (fun _ h => h.elim) (Turn.refl _ w)).mono ?_
  rintro e w1 ⟨rfl, h1, _⟩
  obtain ⟨b, hbe⟩ : ∃ b, b = w.heap.size := ⟨_, rfl⟩
  rw [← hbe] at h1 ⊢
  clear hbe
  go_wp2_with fail
  refine (known6_any w1).mono ?_
  rintro e w2 ⟨rfl, t2⟩
  have h2 := h1.new t2
  clear h1 t2
  go_wp2_with fail
  refine (rnew_any w2).mono ?_
  rintro e w3 ⟨rfl, hr3, hw3⟩
  have ta : Turn (fun _ => False) w2 w3 := by rw [hw3]; exact (Turn.refl _ _).alloc _
  have hlt3 : w2.heap.size < w3.heap.size := by rw [hw3]; simp
  have h3 : Two6 w _ w3 b (fun _ => False) w2.heap.size 0 DSt.zero RSt.zero := ⟨h2.new ta, hr3, fun _ e => e.elim, .inr ⟨Nat.le_refl _, hlt3⟩, PSam6.zero⟩
  have Hs := hide (And.intro h3 (And.intro (show DSt.zero.dead = false from rfl) (show DSt.zero.fused = false from rfl)))
  generalize w2.heap.size = rb at *
  generalize grow _ w2 w3 = K3 at Hs
  clear h3 ta hlt3 hw3 hr3 h2
  go_wp2_with fail
  go_loopw [13, 14] (fun n f wr => ∃ (nn ff : Nat) (K Q : Nat → Prop) (s : DSt) (r : RSt), n = .int .i64 nn ∧ f = .int .i64 ff ∧ ff ≤ 3 ∧ nn ≤ kinds.length ∧ Two6 w K wr b Q rb ff s r ∧ s.dead = false ∧ s.fused = false) (fun _ f _ => (3 - intOf f).toNat)
  case atStart => exact ⟨0, 0, K3, _, _, _, rfl, rfl, by omega, by omega, unhide Hs⟩
  case round =>
    clear Hs
    obtain ⟨nn, ff, K, Q, s, r, rfl, rfl, hf3, hnk, hT, hdd, hfu⟩ := hrel
    by_cases hlt : ff < 3
    · have x1 : (ff : Int) < 3 := by omega
      have HT := hide (And.intro hT (And.intro hdd hfu))
      have tA := hT.dl.turn
      generalize wr = wA at *
      clear hT hdd hfu
      go_wp2_with fail
      go_loopw [13, 15, 16] (fun n bb i wr => ∃ (nn ii : Nat) (bs : List UInt8), n = .int .i64 nn ∧ i = .int .i64 ii ∧ nn ≤ kinds.length ∧ ii ≤ 5 ∧ bs.length ≤ ii * 59 ∧ Made wA bb bs wr) (fun _ _ i _ => (5 - intOf i).toNat)
      case atStart => exact ⟨nn, 0, [], rfl, rfl, hnk, by omega, by simp, Owns.nil _, Turn.refl _ _, fun k hk => by simp [Value.ownBlock] at hk⟩
      case round =>
        obtain ⟨nn, ii, bs, rfl, rfl, hnk2, hi5, hbl, hmd⟩ := hrel
        have tw := tA.trans hmd.2.1
        obtain ⟨oo, oc, hoe⟩ := hmd.1.shape
        by_cases hc : ii < 5 ∧ nn < kinds.length
        · obtain ⟨ka, hka, hkc, _⟩ := ((unhide Hk).kept tw (Nat.le_refl _) (fun _ _ e => e)).at nn hc.2
          subst hka
          have q1 : (ii : Int) < 5 := by omega
          have q2 : (nn : Int) < kinds.length := by omega
          have Hmd := hide hmd
          generalize bs.length = blen at hoe
          subst hoe
          generalize kinds[nn]'hc.2 = kn at *
          have hp0 := Int.emod_nonneg kn (show (6 : Int) ≠ 0 by omega)
          have hp1 := Int.emod_lt_of_pos kn (show (0 : Int) < 6 by omega)
          go_wp2_with fail
          refine (pick_any kn 6 _ (by omega) (by omega)).mono ?_
          rintro e w5 ⟨rfl, rfl⟩
          obtain ⟨k0, hk0⟩ : ∃ k0 : Int, k0 = 1 + kn % 6 := ⟨_, rfl⟩
          have hk01 : 1 ≤ k0 ∧ k0 ≤ 6 := by omega
          have hkp : kn % 6 = k0 - 1 := by omega
          rw [hkp]
          have qa : 1 + (k0 - 1) = k0 := by omega
          clear hk0 hkp hp0 hp1
          have Hw := hide tw
          have Hkc := hide hkc
          clear hmd tw
          go_upto_region 15 with fail
          go_cut [61] from 53 to 61 (fun t wx => wx = wr ∧ ∃ c : Bool, t = .bool c ∧ (c = true → nn < bodies.length))
          case first =>
            by_cases hn1 : (nn : Int) < bodies.length
            · by_cases hn2 : k0 % 2 = 1
              · have z2 : (k0 % 2 == 1) = true := by simpa using hn2
                go_wp2
                go_meet
                case rel => exact ⟨rfl, true, rfl, fun _ => by omega⟩
              · have z2 : (k0 % 2 == 1) = false := by simpa using hn2
                go_wp2
                go_meet
                case rel => exact ⟨rfl, false, rfl, fun e => by simp at e⟩
            · go_wp2
              go_meet
              case rel => exact ⟨rfl, false, rfl, fun e => by simp at e⟩
          case rest =>
            obtain ⟨hwz, c, rfl, hcb⟩ := hcut
            rw [hwz]
            clear hwz
            go_upto_if 61 with fail
            go_cut [17] from 62 to 66 (fun bv wx => ∃ bs17, Made wr bv bs17 wx ∧ bs17.length ≤ 50)
            case first =>
              cases c
              · go_wp2
                go_meet
                case rel => exact ⟨[], Made.nil _, by simp⟩
              · have hnb := hcb rfl
                obtain ⟨ba, hba, hbcell, hbsee, _, _⟩ := ((unhide Hb).kept (unhide Hw) (Nat.le_refl _) (fun _ _ e => e)).at nn hnb
                have HFw := hide (few_any _ _ 50 wr hbsee (by omega))
                obtain ⟨xo, xc, hxe⟩ := hbsee.shape
                rw [hxe] at hbcell HFw
                have z1 : (nn : Int) < bodies.length := by omega
                subst hba
                clear hbsee hxe
                generalize (bodies[nn]'hnb).2 = xs at *
                go_wp2_with fail
                refine (unhide HFw).mono ?_
                rintro e w6 ⟨v6, rfl, hm6⟩
                obtain ⟨o6, c6, e6⟩ := hm6.1.shape
                have Hm6 := hide hm6
                have hl6 : (xs.take 50).length ≤ 50 := by simp; omega
                generalize xs.take 50 = ys at *
                subst e6
                clear hm6
                go_wp2
                go_meet
                case rel => exact ⟨ys, unhide Hm6, hl6⟩
            case rest =>
              obtain ⟨bs17, hm17, hl17⟩ := hcut
              generalize wc = w6 at *
              obtain ⟨o17, c17, e17⟩ := hm17.1.shape
              have x6 : w6.cell? (ka.add nn) = some (.int .i64 kn) := (hm17.2.1.cell (World.block_lt_of_cell? _ _ (unhide Hkc)) (fun e => e)).trans (unhide Hkc)
              have H17 := hide hm17
              have hs17 := hm17.1.sees
              have HS17 := hide hs17
              generalize hb17 : bs17.length = n17 at *
              have HB17 := hide hb17
              subst e17
              clear hm17 hs17 hb17
              go_upto_if 72 with fail
              go_cut [17, 18] from 72 to 80 (fun bv kk wx => ∃ bs18 k', kk = .int .i64 k' ∧ Made wr bv bs18 wx ∧ bs18.length ≤ 50)
              case first =>
                by_cases hm : 0 < kn.tmod 3
                · have HF50 : Hid (Calls Tryz.prog 12 #[.slice o17 n17 c17, .int .i64 50] w6 fun e w' => ∃ v', e = .returned v' ∧ Made w6 v' (bs17.take 50) w') := hide (few_any _ _ 50 w6 (unhide HS17) (by omega))
                  have HF0 : Hid (Calls Tryz.prog 12 #[.slice o17 n17 c17, .int .i64 0] w6 fun e w' => ∃ v', e = .returned v' ∧ Made w6 v' (bs17.take 0) w') := hide (few_any _ _ 0 w6 (unhide HS17) (by omega))
                  have z3 : decide (0 < kn.tmod 3) = true := by simpa using hm
                  have H50 : Hid ((bs17.take 50).length ≤ 50) := hide (by simp; omega)
                  have H0 : Hid ((bs17.take 0).length ≤ 50) := hide (by simp)
                  have hic : ii = 0 ∨ ii = 1 ∨ ii = 2 ∨ ii = 3 ∨ ii = 4 := by omega
                  generalize bs17.take 50 = y50 at *
                  generalize bs17.take 0 = y00 at *
                  clear hc q1 hi5 hbl
                  rcases hic with rfl | rfl | rfl | rfl | rfl
                  · have hx := index5 w6 0 (by omega)
                    simp at hx
                    go_wp2_with fail
                    refine (unhide HF50).mono ?_
                    rintro e w7 ⟨v7, rfl, hm7⟩
                    obtain ⟨o7, c7, e7⟩ := hm7.1.shape
                    have Hm7 : Hid (Made wr v7 y50 w7) := hide ⟨hm7.1, (unhide H17).2.1.trans hm7.2.1, fun k hk => Nat.le_trans (unhide H17).2.1.size (hm7.2.2 k hk)⟩
                    generalize y50.length = n7 at e7
                    subst e7
                    clear hm7 hx
                    go_wp2
                    go_meet
                    case rel => exact ⟨y50, _, rfl, unhide Hm7, unhide H50⟩
                  · have hx := index5 w6 1 (by omega)
                    simp at hx
                    go_wp2_with fail
                    refine (unhide HF50).mono ?_
                    rintro e w7 ⟨v7, rfl, hm7⟩
                    obtain ⟨o7, c7, e7⟩ := hm7.1.shape
                    have Hm7 : Hid (Made wr v7 y50 w7) := hide ⟨hm7.1, (unhide H17).2.1.trans hm7.2.1, fun k hk => Nat.le_trans (unhide H17).2.1.size (hm7.2.2 k hk)⟩
                    generalize y50.length = n7 at e7
                    subst e7
                    clear hm7 hx
                    go_wp2
                    go_meet
                    case rel => exact ⟨y50, _, rfl, unhide Hm7, unhide H50⟩
                  · have hx := index5 w6 2 (by omega)
                    simp at hx
                    go_wp2_with fail
                    refine (unhide HF0).mono ?_
                    rintro e w7 ⟨v7, rfl, hm7⟩
                    obtain ⟨o7, c7, e7⟩ := hm7.1.shape
                    have Hm7 : Hid (Made wr v7 y00 w7) := hide ⟨hm7.1, (unhide H17).2.1.trans hm7.2.1, fun k hk => Nat.le_trans (unhide H17).2.1.size (hm7.2.2 k hk)⟩
                    generalize y00.length = n7 at e7
                    subst e7
                    clear hm7 hx
                    go_wp2
                    go_meet
                    case rel => exact ⟨y00, _, rfl, unhide Hm7, unhide H0⟩
                  · have hx := index5 w6 3 (by omega)
                    simp at hx
                    go_wp2_with fail
                    refine (unhide HF50).mono ?_
                    rintro e w7 ⟨v7, rfl, hm7⟩
                    obtain ⟨o7, c7, e7⟩ := hm7.1.shape
                    have Hm7 : Hid (Made wr v7 y50 w7) := hide ⟨hm7.1, (unhide H17).2.1.trans hm7.2.1, fun k hk => Nat.le_trans (unhide H17).2.1.size (hm7.2.2 k hk)⟩
                    generalize y50.length = n7 at e7
                    subst e7
                    clear hm7 hx
                    go_wp2
                    go_meet
                    case rel => exact ⟨y50, _, rfl, unhide Hm7, unhide H50⟩
                  · have hx := index5 w6 4 (by omega)
                    simp at hx
                    go_wp2_with fail
                    refine (unhide HF0).mono ?_
                    rintro e w7 ⟨v7, rfl, hm7⟩
                    obtain ⟨o7, c7, e7⟩ := hm7.1.shape
                    have Hm7 : Hid (Made wr v7 y00 w7) := hide ⟨hm7.1, (unhide H17).2.1.trans hm7.2.1, fun k hk => Nat.le_trans (unhide H17).2.1.size (hm7.2.2 k hk)⟩
                    generalize y00.length = n7 at e7
                    subst e7
                    clear hm7 hx
                    go_wp2
                    go_meet
                    case rel => exact ⟨y00, _, rfl, unhide Hm7, unhide H0⟩
                · have z3 : decide (0 < kn.tmod 3) = false := by simpa using hm
                  go_wp2
                  go_meet
                  case rel => exact ⟨bs17, k0, rfl, unhide H17, by have := unhide HB17; omega⟩
              case rest =>
                obtain ⟨bs18, k', rfl, hm18, hl18⟩ := hcut
                generalize wc = w7 at *
                have HFr := hide (refFrame_any k' _ bs18 w7 hm18.1.sees (by omega))
                obtain ⟨o18, c18, e18⟩ := hm18.1.shape
                have H18 := hide hm18
                have hrec : (record k' bs18).length = 9 + bs18.length := record_length _ _
                generalize bs18.length = n18 at *
                subst e18
                clear hm18 x6 H17 HS17 HB17
                go_wp2_with fail
                refine (unhide HFr).mono ?_
                rintro e w8 ⟨v8, rfl, hm8⟩
                have hmd8 : Made wA (.slice oo blen oc) bs w8 := by
                  have hmd := unhide Hmd
                  have t8 := (unhide H18).2.1.trans hm8.2.1
                  exact ⟨hmd.1.kept t8 (fun _ _ e => e), hmd.2.1.trans t8, hmd.2.2⟩
                have hs8 := hm8.1.sees
                obtain ⟨o8, c8, e8⟩ := hm8.1.shape
                have hbe : blen = bs.length := by
                  obtain ⟨a1, a2, a3⟩ := hmd8.1.shape
                  injection a3
                generalize record k' bs18 = rc8 at *
                have hsz : bs.length + rc8.length ≤ 140737488355328 := by omega
                have HSz := hide hsz
                have hlen9 : bs.length + rc8.length ≤ (ii + 1) * 59 := by omega
                have HL9 := hide hlen9
                have Hhm8 := hide hmd8
                have HO := hide hmd8.1
                have HS8 := hide hs8
                rw [hbe] at HO Hhm8 ⊢
                clear hmd8 hs8 hm8 hsz hlen9 hrec hbe
                subst e8
                go_wp2_with (at_builtin; refine wpList_append_sees _ rfl (.tmp 81) (.tmp 84) 29 rfl i0 Tryz.underlying29 hi hz0 hz1 hz2 _ bs rfl (unhide HO) _ rc8 rfl (unhide HS8) (unhide HSz) ?_; intro v9 w9 ho9 hg9 hk9)
                have hfin := (unhide Hhm8).more ho9 hg9 hk9
                have hl9 : (bs ++ rc8).length ≤ (ii + 1) * 59 := by rw [List.length_append]; exact unhide HL9
                go_roundw
                case rel => exact ⟨nn + 1, ii + 1, bs ++ rc8, by go_num, by go_num, by omega, by omega, hl9, hfin⟩
                case measure => simp [intOf]; omega
        · have hexit : (¬ (ii : Int) < 5) ∨ ((ii : Int) < 5 ∧ ¬ (nn : Int) < kinds.length) := by omega
          have hb295 : bs.length ≤ 295 := by omega
          have Hmd := hide hmd
          have HB := hide hb295
          have Hw := hide tw
          generalize hble : bs.length = blen at hoe
          have Hble := hide hble
          subst hoe
          clear hmd hble hb295 hbl hc tw
          have hfin : ∀ (v : Value) (bs2 : List UInt8) (w6 : World), Made wA v bs2 w6 → bs2.length ≤ 1048871 → Hid (Calls Tryz.prog 14 #[.pointer (some ⟨b, 0, none⟩), .int .i64 ff, v] w6 fun e w7 => (∃ z, e = .returned (.int .i64 z)) ∧ Hid (Calls Tryz.prog 15 #[.pointer (some ⟨rb, 0, none⟩), .int .i64 ff, v] w7 fun e w8 => (∃ z, e = .returned (.int .i64 z)) ∧ ∃ (K Q : Nat → Prop) (s : DSt) (r : RSt), Two6 w K w8 b Q rb (ff + 1) s r ∧ s.dead = false ∧ s.fused = false)) := fun v bs2 w6 hm hl2 => by
            obtain ⟨hT, hdd, hfu⟩ := unhide HT
            have h6 := hT.new hm.2.1
            have hnow : (s.now ff).length ≤ 6291456 := by
              have := hT.same.size s.ops.length ff
              rw [List.take_length] at this
              exact Nat.le_trans this (Nat.le_trans (Nat.mul_le_mul_right 2097152 (show ff ≤ 3 by omega)) (by decide))
            have hdn : s.down = false := by unfold DSt.down; rw [hdd, hfu]; rfl
            refine hide ((dl_append ff v bs2 h6.dl hm.1.sees (fun h0 k hk => .inr (.inr ⟨hm.2.2 k (hm.1.slab_eq ▸ hk), slab_lt hm.1.sees h0 hk⟩)) (by omega) (by omega)).mono ?_)
            rintro e w7 ⟨rfl, h7, t7⟩
            refine ⟨⟨_, rfl⟩, ?_⟩
            have hrd7 := h6.rd.keeps t7 (fun j hj e => e.2 (h6.qk j hj)) (fun e => e.2 h6.rk)
            have hs7 : Sees w7 v bs2 := hm.1.sees.kept' t7 (fun h0 k hk e => e.2 (.inr ⟨hm.2.2 k (hm.1.slab_eq ▸ hk), slab_lt hm.1.sees h0 hk⟩))
            have hrbA := (hT.dl.held rb hT.rk).2
            refine hide ((radd_any ff v bs2 hrd7 (h6.same.fit (by omega)) hs7 (fun h0 e => by have := hm.2.2 rb (hm.1.slab_eq ▸ e); omega) (by omega)).mono ?_)
            rintro e w8 ⟨rfl, hrd8, t8⟩
            refine ⟨⟨_, rfl⟩, _, _, _, _, ⟨h7.hold (t8.mono (fun j _ e => e ▸ h6.rk)), hrd8, fun j hj => hj.imp (h6.qk j) id, .inl h6.rk, (h6.same.add ff (by omega) bs2 (by omega)).2⟩, ?_, ?_⟩
            · rw [add_down hdn ff (by omega)]
              exact (lays_dead s ff bs2).1.trans hdd
            · rw [add_down hdn ff (by omega)]
              exact (lays_dead s ff bs2).2.trans hfu
          have Hfin := hide hfin
          clear hfin
          go_upto_region 11 with fail
          go_cut [44] from 37 to 44 (fun t wx => wx = wr ∧ t = .bool false)
          case first =>
            clear Hfin HB
            rcases hexit with x5 | ⟨x5, x6⟩
            all_goals (
              go_wp2
              go_meet
              case rel => exact ⟨rfl, rfl⟩)
          case rest =>
            obtain ⟨hwz, rfl⟩ := hcut
            rw [hwz]
            clear hwz hexit
            go_upto_if 91 with fail
            go_cut [15] from 88 to 97 (fun bb wx => ∃ bs2, Made wA bb bs2 wx ∧ bs2.length ≤ 1048871)
            case first =>
              clear Hfin
              by_cases hfl : (ff : Int) < l.length
              · have hfl2 : ff < l.length := by omega
                obtain ⟨la, hla, hlcell, hlsee, _, _⟩ := ((unhide Hl).kept (unhide Hw) (Nat.le_refl _) (fun _ _ e => e)).at ff hfl2
                have hbg := unhide Hbig ff hfl2
                obtain ⟨xo, xc, hxe⟩ := hlsee.shape
                rw [hxe] at hlcell hlsee
                subst hla
                have HS := hide hlsee
                have hsz : bs.length + (l[ff]'hfl2).2.length ≤ 140737488355328 := by have := unhide HB; omega
                have HSz := hide hsz
                have hl9 : (bs ++ (l[ff]'hfl2).2).length ≤ 1048871 := by rw [List.length_append]; have := unhide HB; omega
                have HL9 := hide hl9
                have HO := hide (unhide Hmd).1
                rw [← unhide Hble] at HO Hmd ⊢
                clear hlsee hxe hsz hl9 hbg
                generalize (l[ff]'hfl2).2 = xs at *
                go_wp2_with (at_builtin; refine wpList_append_sees _ rfl (.tmp 92) (.tmp 96) 29 rfl i0 Tryz.underlying29 hi hz0 hz1 hz2 _ bs rfl (unhide HO) _ xs rfl (unhide HS) (unhide HSz) ?_; intro v9 w9 ho9 hg9 hk9)
                have hf9 := (unhide Hmd).more ho9 hg9 hk9
                go_meet
                case rel => exact ⟨bs ++ xs, hf9, unhide HL9⟩
              · go_wp2
                go_meet
                case rel => exact ⟨bs, unhide Hmd, by have := unhide HB; omega⟩
            case rest =>
              obtain ⟨bs2, hm2, hl2⟩ := hcut
              generalize wc = w6 at *
              obtain ⟨o2, c2, hve⟩ := hm2.1.shape
              have HM2 := hide hm2
              have HL2 := hide hl2
              generalize hn2 : bs2.length = n2 at *
              have HN2 := hide hn2
              subst hve
              clear hm2 hl2 hn2 Hmd Hble HB
              go_upto_region 24 with fail
              go_cut [106] from 98 to 106 (fun t wx => wx = w6 ∧ ∃ c : Bool, t = .bool c ∧ (c = true → 0 < n2))
              case first =>
                clear Hfin
                by_cases hat : at'.tmod 4 = ff
                · have za : (at'.tmod 4 == (ff : Int)) = true := by simpa using hat
                  clear hat
                  by_cases h0 : 0 < n2
                  · have zb : (0 : Int) < n2 := by omega
                    go_wp2
                    go_meet
                    case rel => exact ⟨rfl, true, rfl, fun _ => h0⟩
                  · have zb : ¬ (0 : Int) < n2 := by omega
                    go_wp2
                    go_meet
                    case rel => exact ⟨rfl, false, rfl, fun e => by simp at e⟩
                · have za : (at'.tmod 4 == (ff : Int)) = false := by simpa using hat
                  clear hat
                  go_wp2
                  go_meet
                  case rel => exact ⟨rfl, false, rfl, fun e => by simp at e⟩
              case rest =>
                obtain ⟨hwz, c, rfl, hcb⟩ := hcut
                rw [hwz]
                clear hwz
                go_upto_if 106 with fail
                go_cut [] from 107 to 117 (fun wx => ∃ bs3, Made wA (.slice o2 n2 c2) bs3 wx ∧ bs3.length = n2)
                case first =>
                  clear Hfin
                  cases c
                  · go_wp2
                    go_meet
                    case rel => exact ⟨bs2, unhide HM2, unhide HN2⟩
                  · have h0 := hcb rfl
                    have hm2 := unhide HM2
                    have hn2 := unhide HN2
                    obtain ⟨g, cap, hve⟩ := hm2.1.solid (by omega)
                    rw [hn2] at hve
                    simp only [Value.slice.injEq, true_and] at hve
                    obtain ⟨rfl, rfl⟩ := hve
                    have hQ := pick_any (wrap64 (at'.tdiv 4)) n2 w6 (by omega) (by have := unhide HL2; omega)
                    have hi0 := Int.emod_nonneg (wrap64 (at'.tdiv 4)) (show (n2 : Int) ≠ 0 by omega)
                    have hi1 := Int.emod_lt_of_pos (wrap64 (at'.tdiv 4)) (show 0 < (n2 : Int) by omega)
                    obtain ⟨j, hj2⟩ := Int.eq_ofNat_of_zero_le hi0
                    rw [hj2] at hQ hi1
                    have HQ := hide hQ
                    have hj : j < bs2.length := by omega
                    have ho2 : Owns w6 (.slice (some ⟨g, 0, none⟩) bs2.length c2) bs2 := by rw [hn2]; exact hm2.1
                    have ci := Owns.at ho2 j hj
                    have zi := Owns.frozenAt ho2 j
                    obtain ⟨xj, hxj⟩ : ∃ xj, xj = bs2[j] := ⟨_, rfl⟩
                    obtain ⟨z, hz⟩ := xor_byte6 xj y hy
                    rw [← hxj] at ci
                    clear hxj
                    have o5 := Owns.put ho2 j z
                    rw [List.length_set, hn2] at o5
                    have hgA := hm2.2.2 g rfl
                    have t5 : Turn (fun k => k = g) w6 (w6.setCell ⟨g, j, none⟩ (.int .u8 z.toNat)) := (Turn.refl (fun k => k = g) w6).setCell (p := ⟨g, j, none⟩) (.inl rfl) _
                    have hm3 : Made wA (.slice (some ⟨g, 0, none⟩) n2 c2) (bs2.set j z) (w6.setCell ⟨g, j, none⟩ (.int .u8 z.toNat)) := ⟨o5, hm2.2.1.trans' t5 (fun i hi e => by omega), hm2.2.2⟩
                    have HM3 := hide (And.intro hm3 (show (bs2.set j z).length = n2 by rw [List.length_set]; exact hn2))
                    have zb : (0 : Int) < n2 := by omega
                    have zj : (j : Int) < n2 := by omega
                    have Hci := hide (And.intro ci (And.intro zi hz))
                    have Hj := hide (And.intro hj zj)
                    have Hh0 := hide h0
                    clear hQ hi0 hi1 hj2 o5 t5 hm3 hm2 hgA hn2 hcb ho2 ci zi hz hj zj h0
                    go_wp2_with fail
                    refine (unhide HQ).mono ?_
                    rintro e w7 ⟨rfl, rfl⟩
                    obtain ⟨ci, zi, hz⟩ := unhide Hci
                    obtain ⟨hj, zj⟩ := unhide Hj
                    clear hj
                    go_wp2
                    go_meet
                    case rel => exact ⟨_, (unhide HM3).1, (unhide HM3).2⟩
                case rest =>
                  obtain ⟨bs3, hm3, hn3⟩ := hcut
                  generalize wc = w7 at *
                  have HA := unhide Hfin _ _ _ hm3 (by have := unhide HL2; omega)
                  clear hm3 hn3 hcb HM2 HN2 Hfin
                  go_wp2_with fail
                  refine (unhide HA).mono ?_
                  rintro e w8 ⟨⟨z7, rfl⟩, HA2⟩
                  clear HA
                  go_wp2_with fail
                  refine (unhide HA2).mono ?_
                  rintro e w9 ⟨⟨z8, rfl⟩, K8, Q8, s8, r8, h8, hd8, hf8⟩
                  have H8 := hide (And.intro h8 (And.intro hd8 hf8))
                  clear HA2 h8 hd8 hf8
                  go_wp2
                  go_roundw
                  case rel => exact ⟨nn, ff + 1, K8, Q8, s8, r8, rfl, by go_num, by omega, hnk2, unhide H8⟩
                  case measure => simp [intOf]; omega
    · obtain rfl : ff = 3 := by omega
      have x1 : ¬ (3 : Int) < 3 := by omega
      have HY := hide (dl_sync hT.dl (by omega))
      have hsy := hT.same.sync
      have hdn : s.down = false := by unfold DSt.down; rw [hdd, hfu]; rfl
      have hsd := sync_down hdn
      have HT := hide (And.intro hT (And.intro hsy (And.intro hsd (And.intro hdd hfu))))
      clear hT hsy hsd hdn
      go_wp2_with fail
      refine (unhide HY).mono ?_
      rintro e w4 ⟨rfl, h4, t4⟩
      have hrd4 := (unhide HT).1.rd.keeps t4 (fun j hj e => e.2 ((unhide HT).1.qk j hj)) (fun e => e.2 (unhide HT).1.rk)
      have HY2 := hide (rsync_any hrd4 ((unhide HT).1.same.fit (by omega)) (by rw [(unhide HT).1.same.works]; have := (unhide HT).1.same.wk; omega))
      have H4 := hide h4
      clear h4 t4 hrd4 HY
      go_wp2_with fail
      refine (unhide HY2).mono ?_
      rintro e w5 ⟨rfl, hrd5, t5⟩
      have hK5 : ∀ j, K j → grow K w4 w5 j := fun j hj => .inl hj
      have h5 : Two6 w (grow K w4 w5) w5 b (grow Q w4 w5) rb 4 s.sync.2 r.sync.2 :=
        ⟨(unhide H4).hold (t5.mono (fun j _ e => e ▸ (unhide HT).1.rk)), hrd5, fun j hj => hj.imp ((unhide HT).1.qk j) id, .inl (unhide HT).1.rk, (unhide HT).2.1.2⟩
      have hdead5 : s.sync.2.dead = false := by rw [(unhide HT).2.2.1]; exact (unhide HT).2.2.2.1
      generalize s.sync.2 = s5 at *
      generalize r.sync.2 = r5 at *
      generalize grow K w4 w5 = K5 at *
      generalize grow Q w4 w5 = Q5 at *
      have HO := hide (open_any (seg := 300) 5 8388608 h5.dl hdead5 (by omega) (by omega) (fun ns hn => h5.same.nums hn) (fun k => Nat.le_trans (h5.same.lens k) (by omega)) (by omega) (by omega) (fun k hk => by have := h5.same.few k hk; omega))
      have H5 := hide (And.intro h5 hdead5)
      clear HY2 hK5 h5 hdead5 hrd5 t5 H4 HT
      go_wp2_with fail
      refine (unhide HO).mono ?_
      rintro e w6 ⟨ns, hns, ho⟩
      clear HO
      have hpos : ∀ k ∈ ns, 0 ≤ k ∧ k < 5 := fun k hk => (unhide H5).1.same.few k ((hns.2 k).1 hk)
      have hnl := (unhide H5).1.same.nums hns
      have hRO : ∀ w6, RDk Q5 w6 rb r5 → Hid (Calls Tryz.prog 19 #[.pointer (some ⟨rb, 0, none⟩), .int .i64 300] w6 (ROpTo Q5 w6 rb r5)) := fun w6 hrd => by
        have hs := (unhide H5).1.same
        refine hide (openLog_any (M := 5) (B := 18874368) 300 hrd ((hs.fit (by omega)).mono (by omega) (by omega)) (by rw [hs.dead]; exact (unhide H5).2) (by omega) (by omega) (by omega) (fun l hl hlen => ?_) (fun k hk => by have := hs.few k (by rw [← hs.read]; exact hk); omega))
        have hg := hs.gone l (fun k hk => (hs.few k (by rw [← hs.read]; exact hl k hk)).2)
        refine ⟨(hg.fit (by omega)).mono (Nat.le_trans (Nat.mul_le_mul_right 2097152 (show 4 + l.length ≤ 9 by omega)) (by omega)) (by omega), ?_⟩
        rw [hg.works]
        have := hg.wk
        omega
      rcases (unhide H5).1.same.opens ns with ⟨e1, e2⟩ | ⟨yy, qq, e1, e2, e3, e4⟩
      · rw [e1] at ho
        obtain ⟨rfl, t6⟩ := ho
        have h6 := (unhide H5).1.new t6
        have HRO := hRO w6 h6.rd
        have H6 := hide h6
        have Hns := hide hns
        clear h6 t6 hRO e1 hns
        go_wp2_with fail
        refine (unhide HRO).mono ?_
        rintro e w7 ⟨ns2, hns2, ho2⟩
        obtain rfl : ns2 = ns := rise_same hns2.1 (unhide Hns).1 (fun k => by rw [hns2.2 k, (unhide Hns).2 k, (unhide H5).1.same.read])
        rw [e2] at ho2
        obtain ⟨rfl, t7⟩ := ho2
        have h7 := (unhide H6).new t7
        have H7 := hide h7
        have HS := hide (same_any w7 _ _ [] [] (RL.nil (fun _ => False) w7) (RL.nil (fun _ => False) w7))
        rw [decide_eq_true (show (([] : List (Value × List UInt8)).map (·.2)) = (([] : List (Value × List UInt8)).map (·.2)) from rfl)] at HS
        clear HRO H6 h7 t7 e2 hns2
        go_wp2_with fail
        refine (unhide HS).mono ?_
        rintro e w8 ⟨rfl, t8⟩
        have h8 := (unhide H7).new t8
        have HF := hide (files6_any h8 (by omega))
        have ht8 := h8.dl.turn
        clear HS H7 h8 t8
        go_wp2_with fail
        refine (unhide HF).mono ?_
        rintro e w9 ⟨rfl, t9⟩
        go_wp2
        go_ret
        exact ⟨rfl, ht8.trans t9⟩
      · rw [e1] at ho
        obtain ⟨l6, f6, tt6, rv6, rl6, K6, rfl, hLI, hRL6, hrec6, hK6, t6⟩ := ho
        obtain ⟨ro6, rc6, hre6⟩ := hRL6.shape
        have hrd6 := (unhide H5).1.rd.keeps t6 (fun j hj e => e.2 ((unhide H5).1.qk j hj)) (fun e => e.2 (unhide H5).1.rk)
        have hrb5 := ((unhide H5).1.dl.held rb (unhide H5).1.rk).2
        have HRO := hRO w6 hrd6
        have H6 := hide (And.intro hLI (And.intro hRL6 (And.intro hrec6 (And.intro hK6 (e4 (fun k hk => (hpos k hk).1))))))
        have Hns := hide hns
        generalize rl6.length = rlen6 at hre6
        subst hre6
        clear hLI hRL6 hrec6 hK6 t6 hrd6 hRO e1 hns e4
        go_wp2_with fail
        refine (unhide HRO).mono ?_
        rintro e w7 ⟨ns2, hns2, ho2⟩
        obtain rfl : ns2 = ns := rise_same hns2.1 (unhide Hns).1 (fun k => by rw [hns2.2 k, (unhide Hns).2 k, (unhide H5).1.same.read])
        rw [e2] at ho2
        obtain ⟨l7, rv7, rl7, Q7, rfl, hrd7, hRL7, hrec7, hQ7, t7⟩ := ho2
        obtain ⟨ro7, rc7, hre7⟩ := hRL7.shape
        obtain ⟨a1, a2, a3, a4, a5⟩ := unhide H6
        have hrbK : K6 rb := a4 rb (unhide H5).1.rk
        have hL5 : (ns2.filter (· < yy.1.since)).length ≤ 5 := Nat.le_trans (List.length_filter_le _ _) hnl
        have h7 : Two6 w (grow K6 w6 w7) w7 b Q7 rb 9 (s5.gone (ns2.filter (· < yy.1.since))) (r5.goneR (ns2.filter (· < yy.1.since))) := by
          refine ⟨(a1.dl.less (fun j hj => .inl hj)).hold (t7.mono (fun j _ e => e ▸ hrbK)), by rw [a5]; exact hrd7, fun j hj => ?_, .inl hrbK, ((unhide H5).1.same.gone _ (fun k hk => (hpos k (List.mem_filter.1 hk).1).2)).le (by omega)⟩
          rcases hQ7 j hj with h1 | h1
          · exact .inl (a4 j ((unhide H5).1.qk j h1))
          · obtain ⟨_, _, _, _, hd7⟩ := hrd7
            exact .inr ⟨h1, hd7.lt j hj⟩
        have hp7 := a2.kept t7 (fun j hj e => by have := hj.2; omega)
        have hEq : rl6.map (·.2) = rl7.map (·.2) := by rw [a3, hrec7, e3]
        have HS := hide (same_any w7 _ _ rl6 rl7 hp7 hRL7)
        rw [decide_eq_true hEq] at HS
        have H7 := hide h7
        generalize rl7.length = rlen7 at hre7
        subst hre7
        clear HRO H6 h7 t7 e2 hns2 a1 a2 a3 a4 a5 hp7 hEq hrd7 hRL7 hrec7 hQ7 hL5 hrbK
        go_wp2_with fail
        refine (unhide HS).mono ?_
        rintro e w8 ⟨rfl, t8⟩
        have h8 := (unhide H7).new t8
        have HF := hide (files6_any h8 (by omega))
        have ht8 := h8.dl.turn
        clear HS H7 h8 t8
        go_wp2_with fail
        refine (unhide HF).mono ?_
        rintro e w9 ⟨rfl, t9⟩
        go_wp2
        go_ret
        exact ⟨rfl, ht8.trans t9⟩

end Go.Proofs.YteomehdkfhjbeaaGreat
