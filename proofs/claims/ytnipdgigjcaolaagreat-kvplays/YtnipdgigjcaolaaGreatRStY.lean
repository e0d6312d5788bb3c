/- The reference's Store: Keys. -/
import Derived.Test.YtnipdgigjcaolaaGreatRStC
import Derived.Test.YtnipdgigjcaolaaGreatPkT
import Derived.Deep.CutRange
namespace Go.Proofs.YtnipdgigjcaolaaGreat
open Go.RowKit

theorem keysOf_take {m : List (List UInt8 × List UInt8)} (p : List UInt8) (n : Nat) (hn : n < m.length) : keysOf (m.take (n + 1)) p = keysOf (m.take n) p ++ (if begins m[n].1 p = true then [m[n].1] else []) := by
  unfold keysOf
  rw [List.take_succ_eq_append_getElem hn, List.map_append, List.filter_append]
  congr 1
  by_cases h : begins m[n].1 p = true
  · simp [h]
  · simp [h]

section
variable {Q Z : Nat → Prop} {w : World} {tb l rb : Nat} {seg now : Int} {r : RSt} {m : List (List UInt8 × List UInt8)}

set_option maxHeartbeats 4000000 in
set_option maxRecDepth 100000 in
theorem rkeys_of (p : ByteArray) {pv : Value} {dd : Bool} {pl : List (List UInt8 × (Value × List UInt8))} (hA : At 146 w tb #[.pointer (some ⟨l, 0, none⟩), pv, .bool dd]) (hP : PrL Z w pv pl) (hpm : plain pl = m) (hml : m.length ≤ 1000000) :
    Calls Tryz.prog 99 #[.pointer (some ⟨tb, 0, none⟩), .string p] w fun e w' => ∃ v, e = .returned v ∧ Texts w v (keysOf m p.data.toList) w' := by
  obtain ⟨i0, hi, hz0, hz1, hz2⟩ := info_parts Tryz.infoStr
  obtain ⟨po, pc, hpv, _⟩ := hP.shape
  obtain ⟨len, hlen⟩ : ∃ len, len = pl.length := ⟨_, rfl⟩
  have hlm : m.length = len := by rw [hlen, ← hpm, plain_length]
  have c1 : w.cell? ⟨tb, 1, none⟩ = some pv := hA.cell 1
  have hll : len ≤ 1000000 := by omega
  have HA := hide hA
  have HP := hide hP
  have HL := hide (And.intro hlen (And.intro hlm hpm))
  rw [← hlen] at hpv
  subst hpv
  clear hlen hml hA hP hpm hlm
  go_enter Tryz.func99, Tryz.ntmps99
  go_wp2_with fail
  go_loopw [5, 6, 7] (fun out i _ wr => ∃ n : Nat, i = .int .i64 n ∧ n ≤ len ∧ Texts w out (keysOf (m.take n) p.data.toList) wr) (fun _ i _ _ => len - (intOf i).toNat)
  case atStart => exact ⟨0, rfl, by omega, ⟨OwnsC.nil _ _, Turn.refl _ _, fun k hk => by simp [Value.ownBlock] at hk⟩⟩
  case round =>
    obtain ⟨n, rfl, hnl, hm⟩ := hrel
    have b1 : wr.cell? ⟨tb, 1, none⟩ = some (.slice po len pc) := (hm.turn.cell (p := ⟨tb, 1, none⟩) (unhide HA).lt (fun e => e)).trans c1
    obtain ⟨oo, oc, hoe⟩ := hm.own.shape'
    rw [List.length_map] at hoe
    by_cases hlt : n < len
    · have hkl : n < pl.length := by have := (unhide HL).1; omega
      have hkm : n < m.length := by have := (unhide HL).2.1; omega
      obtain ⟨g, cap, e, hg, hc⟩ := ((unhide HP).kept hm.turn (fun _ _ e => e)).each n hkl
      obtain ⟨key, pv', val, hpe⟩ : ∃ key pv' val, pl[n] = (key, (pv', val)) := ⟨_, _, _, rfl⟩
      rw [hpe] at hc
      have hmn : m[n] = (key, val) := by
        have h1 := (unhide HL).2.2
        have h2 : (plain pl)[n]? = m[n]? := by rw [h1]
        unfold plain at h2
        rw [List.getElem?_map, List.getElem?_eq_getElem hkl, List.getElem?_eq_getElem hkm, hpe] at h2
        simpa [snd1] using h2.symm
      have hnx := keysOf_take p.data.toList n hkm
      rw [hmn] at hnx
      injection e with e1 e2 e3
      have k0 : wr.cell? ⟨g, n * 2, none⟩ = some (.string (txt key)) := hc.c0
      have hkk := hc.key
      have q1 : (n : Int) < len := by omega
      have hol : (keysOf (m.take n) p.data.toList).length ≤ n := by
        unfold keysOf
        refine Nat.le_trans (List.length_filter_le _ _) ?_
        rw [List.length_map, List.length_take]
        omega
      obtain ⟨on, hon⟩ : ∃ on, on = (keysOf (m.take n) p.data.toList).length := ⟨_, rfl⟩
      rw [← hon] at hoe hol
      have Hm := hide hm
      have Hnx := hide hnx
      have Hon := hide hon
      subst hoe e1
      clear e2 e3 hpe hm hnx hc hmn hon
      have l1 : (txt key).size = key.length := by unfold txt; simp [ByteArray.size]
      have l2 := text_length p
      go_upto_region 6 with fail
      go_cut [37] from 25 to 41 (fun cv wx => cv = .bool (begins key p.data.toList) ∧ wx = wr)
      case first =>
        by_cases h : p.size ≤ (txt key).size
        · have q2 : (p.size : Int) ≤ (txt key).size := by omega
          go_wp2_with fail
          go_meet
          case rel =>
            refine ⟨?_, rfl⟩
            congr 1
            unfold begins
            rw [Lib.toList_data, Lib.toList_data]
            have hk2 : (txt key).data.toList = key := by simp [txt]
            have hk3 : p.size ≤ key.length := by omega
            simp [l2, hk2, hk3]
            rw [Bool.eq_iff_iff]
            simp
        · have q2 : ¬ (p.size : Int) ≤ (txt key).size := by omega
          go_wp2_with fail
          go_meet
          case rel =>
            refine ⟨?_, rfl⟩
            congr 1
            unfold begins
            simp
            omega
      case rest =>
      obtain ⟨rfl, rfl⟩ := hcut
      have ta : Turn (fun _ => False) wc (wc.alloc (.cells #[encStr key] 9)) := (Turn.refl _ _).alloc _
      cases hb : begins key p.data.toList with
      | false =>
        have hfin : keysOf (m.take (n + 1)) p.data.toList = keysOf (m.take n) p.data.toList := by
          rw [unhide Hnx]
          simp [hb]
        have hend : Texts w (.slice oo on oc) (keysOf (m.take (n + 1)) p.data.toList) wc := by rw [hfin]; exact unhide Hm
        have Hend := hide hend
        clear hend hfin ta
        go_wp2_with fail
        go_roundw
        case rel => exact ⟨n + 1, by go_num, by omega, unhide Hend⟩
        case measure => simp [intOf]; omega
      | true =>
        have hm := unhide Hm
        have hlit := SeesC.lit wc [encStr key] 9 (by simp [maxLen])
        have hon := unhide Hon
        obtain ⟨v', w4, hr, ho, hg4, hloc⟩ := run_append_cells (P := Tryz.prog) (wc.alloc (.cells #[encStr key] 9)) 53 53 9 i0 _ 16 Tryz.underlying53 hi hz0 hz1 hz2 rfl _ _ (hm.own.kept ta (fun _ _ e => e)) _ [encStr key] hlit (by intro u hu; simp at hu; rw [hu]; rfl) (by unfold maxLen; rw [List.length_map]; simp; omega) (by rw [List.length_map]; simp; omega)
        obtain ⟨o4, c4, e4⟩ := ho.shape'
        simp only [List.length_append, List.length_map, List.length_cons, List.length_nil, Nat.zero_add] at e4
        rw [← hon] at e4
        simp only [List.length_cons, List.length_nil, Nat.zero_add] at hr
        have t4 : Turn (fun j => (Value.slice oo on oc).ownBlock = some j) (wc.alloc (.cells #[encStr key] 9)) w4 := (Turn.refl _ _).grown hg4 (fun j hj => .inl hj)
        have hasz := ta.size
        have hend : Texts w v' (keysOf (m.take (n + 1)) p.data.toList) w4 := by
          refine ⟨?_, (hm.turn.trans ta).trans' t4 (fun i hi e => by have := hm.new i e; omega), fun j hj => ?_⟩
          · rw [unhide Hnx, if_pos hb, List.map_append]
            exact ho
          · rcases hloc with h1 | h1
            · rw [h1] at hj
              exact hm.new j hj
            · rw [h1] at hj
              injection hj with hj
              have := hm.turn.size
              omega
        have Hend := hide hend
        have HR := hide hr
        clear hend hr ho hg4 hloc hm hlit hon ta t4 hasz
        subst e4
        go_wp2_with (at_builtin; refine wpList_append_run rfl (.tmp 38) (.tmp 40) 53 rfl _ _ _ w4 rfl rfl (unhide HR) ?_)
        go_roundw
        case rel => exact ⟨n + 1, by go_num, by omega, unhide Hend⟩
        case measure => simp [intOf]; omega
    · obtain rfl : n = len := by omega
      have q1 : ¬ (n : Int) < n := by omega
      rw [List.take_of_length_le (by have := (unhide HL).2.1; omega)] at hm hoe
      have Hm := hide hm
      obtain ⟨on, hon⟩ : ∃ on, on = (keysOf m p.data.toList).length := ⟨_, rfl⟩
      rw [← hon] at hoe
      subst hoe
      clear hm hon
      go_wp2
      go_ret
      exact ⟨_, rfl, unhide Hm⟩

theorem rkeys_any (p : ByteArray) (h : RSr Q Z w tb l rb seg now r m) (hml : m.length ≤ 1000000) :
    Calls Tryz.prog 99 #[.pointer (some ⟨tb, 0, none⟩), .string p] w fun e w' => ∃ v, e = .returned v ∧ Texts w v (keysOf m p.data.toList) w' := by
  obtain ⟨pv, pl, hA, hP, hpm⟩ := h.ps
  exact rkeys_of p hA hP hpm hml

theorem rkeys_dead (p : ByteArray) (h : RSd Q w tb rb r) :
    Calls Tryz.prog 99 #[.pointer (some ⟨tb, 0, none⟩), .string p] w fun e w' => ∃ v, e = .returned v ∧ Texts w v [] w' := by
  obtain ⟨l', hA⟩ := h.at'
  exact rkeys_of (m := []) p hA (PrL.nil (fun _ => False) w) rfl (by simp)

end

end Go.Proofs.YtnipdgigjcaolaaGreat
