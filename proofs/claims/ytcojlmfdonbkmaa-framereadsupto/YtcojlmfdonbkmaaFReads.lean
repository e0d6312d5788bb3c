/- Any bytes begin with a record, or are refused, as the reference says: the law's walk. -/
import Derived.Test.YtcojlmfdonbkmaaRefN
namespace Go.Proofs.Ytcojlmfdonbkmaa
open Go.RowKit

theorem refNext_any (v : Value) (bs : List UInt8) (w : World) (hs : Sees w v bs) (hb : bs.length ≤ 140737488355328) :
    Calls Try.prog 12 #[v] w fun e w' => ∃ v', e = .returned (toldValue (tell bs) v') ∧ RefIs w (tell bs) v' w' := by
  by_cases hl : bs.length < 9
  · exact refNext_short v bs w hs hl
  · obtain ⟨A, L, S, R, h1, h2, h3, h4, h5⟩ := parts bs (by omega)
    rw [h5]
    exact refNext_long v bs A L S R w hs hb h1 h2 h3 h4

/-- A byte that is turned by another one, as the walk spells it. -/
theorem xor_byte (x : UInt8) (y : Nat) (hy : y < 256) : ∃ z : UInt8, bits .xor .u8 (x.toNat : Int) (y : Int) = (z.toNat : Int) := by
  have hx := byte_lt x
  have hz : x.toNat ^^^ y < 256 := Nat.xor_lt_two_pow (n := 8) hx hy
  refine ⟨UInt8.ofNat (x.toNat ^^^ y), ?_⟩
  rw [UInt8.toNat_ofNat', Nat.mod_eq_of_lt hz]
  exact u8_xor_nat _ _ hx hy

set_option maxHeartbeats 4000000 in
set_option maxRecDepth 100000 in
theorem frameReads_any (kind how at' : Int) (by' : Nat) (vb vr vm : Value) (bs rs ms : List UInt8) (w : World) (hby : by' < 256) (hsb : Sees w vb bs) (hsr : Sees w vr rs) (hsm : Sees w vm ms) (hB : bs.length + 9 + ms.length ≤ 140737488355328) (hR : rs.length ≤ 140737488355328) :
    Calls Try.prog 4 #[.int .i64 kind, vb, vr, vm, .int .i64 how, .int .i64 at', .int .u8 by'] w fun e w' => e = .returned (.bool true) ∧ Turn (fun _ => False) w w' := by
  obtain ⟨i0, hi, hz0, hz1, hz2⟩ := info_parts Try.infoU8
  obtain ⟨aob, capb, eb⟩ := hsb.shape
  subst eb
  obtain ⟨aor, capr, er⟩ := hsr.shape
  subst er
  obtain ⟨aom, capm, em⟩ := hsm.shape
  subst em
  go_enter Try.func4, Try.ntmps4
  go_wp2_with fail
  refine (frameNew_any w).mono ?_
  rintro e w1 ⟨f, rfl, h1⟩
  obtain ⟨t, h1⟩ := FOwn.of h1
  go_wp2_with fail
  refine (frameExample_any w1).mono ?_
  rintro e w2 ⟨rfl, t2⟩
  have h2 := h1.goes t2
  have hs2 := hsr.kept h2.turn (fun _ _ h => h)
  have hlt2 := h2.fr.ltt
  clear h1 t2
  go_wp2_with fail
  refine (few_any _ rs rs.length w2 hs2 (by omega)).mono ?_
  rintro e w3 ⟨v3, rfl, m3⟩
  rw [List.take_length] at m3
  have h3 := h2.goes m3.2.1
  obtain ⟨ao3, cap3, e3⟩ := m3.1.shape
  subst e3
  clear hs2 hsr
  by_cases c5 : 0 < how.tmod 5
  · have hs3 := hsb.kept h3.turn (fun _ _ h => h)
    have hm3 := hsm.kept h3.turn (fun _ _ h => h)
    clear m3 hsb hsm
    have hlt3 := h3.fr.ltt
    have hk0 : 0 ≤ kind % 255 := by omega
    have hk1 : kind % 255 < 255 := by omega
    go_wp2_with fail
    refine (pick_any kind 255 w3 (by omega) (by omega)).mono ?_
    rintro e w4 ⟨rfl, rfl⟩
    generalize kind % 255 = kk at *
    have Q := hide (refFrame_any (1 + kk) _ bs w3 hs3 (by omega))
    go_wp2_with fail
    refine (unhide Q).mono ?_
    rintro e w4 ⟨v4, rfl, m4⟩
    clear Q
    have h4 := h3.goes m4.2.1
    have hm4 := hm3.kept m4.2.1 (fun _ _ h => h)
    have hrl := record_length (1 + kk) bs
    generalize record (1 + kk) bs = rec at *
    obtain ⟨g, cap, e4⟩ := m4.1.solid (by omega)
    subst e4
    have o4 := m4.1
    have hnew := m4.2.2 g rfl
    have hgt : t ≠ g := by omega
    have hcap : rec.length ≤ cap ∧ cap ≤ 9223372036854775807 := by
      rcases o4.2 with ⟨e, _⟩ | ⟨_, _, _, e, _, _, hle, hlm, _⟩
      · cases e
      · simp only [Value.slice.injEq, true_and] at e
        obtain ⟨_, rfl⟩ := e
        exact ⟨hle, hlm⟩
    have HRL := hide hrl
    have hr0 : 0 < rec.length := by omega
    have hr1 : rec.length + ms.length ≤ 140737488355328 := by omega
    have hlf3 := h3.fr.ltf
    have hsz3 := h3.turn.size
    clear hrl m4 hs3 hm3 h3
    have hq0 : 0 ≤ how % 4 := by omega
    have hq1 : how % 4 < 4 := by omega
    go_wp2_with fail
    refine (pick_any how 4 w4 (by omega) (by omega)).mono ?_
    rintro e w5 ⟨rfl, rfl⟩
    generalize how % 4 = q at *
    obtain rfl | rfl | rfl | rfl : q = 0 ∨ q = 1 ∨ q = 2 ∨ q = 3 := by omega
    · have Q := pick_any at' rec.length w4 (by omega) (by omega)
      have hi0 := Int.emod_nonneg at' (show (rec.length : Int) ≠ 0 by omega)
      have hi1 := Int.emod_lt_of_pos at' (show 0 < (rec.length : Int) by omega)
      obtain ⟨i, hi2⟩ := Int.eq_ofNat_of_zero_le hi0
      rw [hi2] at Q hi1
      have HQ := hide Q
      clear Q hi0 hi2
      have hi : i < rec.length := by omega
      have ci := Owns.at o4 i hi
      have zi := Owns.frozenAt o4 i
      obtain ⟨z, hz⟩ := xor_byte rec[i] by' hby
      have o5 := Owns.put o4 i z
      rw [List.length_set] at o5
      have t5 : Turn (fun k => k = g) w4 (w4.setCell ⟨g, i, none⟩ (.int .u8 z.toNat)) := (Turn.refl (fun k => k = g) w4).setCell (p := ⟨g, i, none⟩) (.inl rfl) _
      have hT : FOwn w (w4.setCell ⟨g, i, none⟩ (.int .u8 z.toNat)) f t := ⟨h4.fr.kept t5 (by omega) hgt, h4.turn.trans' t5 (fun j hj e => by omega), h4.newf, h4.newt⟩
      have sT := o5.sees
      have neT : ∀ k, slab (.slice (some ⟨g, 0, none⟩) rec.length cap) = some k → ¬ k = t := fun k hk e => by simp only [slab, Option.some.injEq] at hk; omega
      have bT : (rec.set i z).length ≤ 140737488355328 := by rw [List.length_set]; omega
      generalize rec.set i z = xs at *
      generalize rec[i] = x at *
      clear o5 t5 o4 h4 hm4
      go_wp2_with fail
      refine (unhide HQ).mono ?_
      rintro e w5 ⟨rfl, rfl⟩
      go_wp2_with fail
      refine (next_any f t _ xs _ hT.fr sT).mono ?_
      rintro e w7 ⟨v7, rfl, hn⟩
      have h7 := hT.next hn
      have Q := hide (refNext_any _ xs w7 (sT.kept hn.2.2 neT) bT)
      have o7 := hn.1
      clear hn hT sT neT bT
      generalize tell xs = r at *
      obtain ⟨rk, rb, rz, re⟩ := r
      unfold toldValue at Q ⊢
      obtain ⟨ao7, cap7, e7⟩ := o7.shape
      subst e7
      go_wp2_with fail
      refine (unhide Q).mono ?_
      rintro e w8 ⟨v8, rfl, hr⟩
      clear Q
      have c7 := run_text_of_sees (P := Try.prog) w8 25 9 Try.underlying25 Try.underlying5 Try.underlying9 (o7.kept hr.2 (fun _ _ h => h)).sees
      have c8 := run_text_of_sees (P := Try.prog) w8 25 9 Try.underlying25 Try.underlying5 Try.underlying9 hr.1.sees
      have h8 := (h7.goes hr.2).turn
      obtain ⟨ao8, cap8, e8⟩ := hr.1.shape
      subst e8
      clear hr h7 o7
      simp only at c7 c8
      go_wp2
      go_ret
      exact ⟨rfl, h8⟩
    · have Q := pick_any at' (rec.length + 1) w4 (by omega) (by omega)
      have hi0 := Int.emod_nonneg at' (show (rec.length : Int) + 1 ≠ 0 by omega)
      have hi1 := Int.emod_lt_of_pos at' (show 0 < (rec.length : Int) + 1 by omega)
      obtain ⟨i, hi2⟩ := Int.eq_ofNat_of_zero_le hi0
      rw [hi2] at Q hi1
      have HQ := hide Q
      clear Q hi0 hi2
      have hi : i ≤ rec.length := by omega
      have sT := o4.sees.front i hi
      have hT := h4
      have neT : ∀ k, slab (.slice (some ⟨g, 0, none⟩) i cap) = some k → ¬ k = t := fun k hk e => by simp only [slab, Option.some.injEq] at hk; omega
      have bT : (rec.take i).length ≤ 140737488355328 := by rw [List.length_take]; omega
      generalize rec.take i = xs at *
      clear o4 h4 hm4
      go_wp2_with fail
      refine (unhide HQ).mono ?_
      rintro e w5 ⟨rfl, rfl⟩
      go_wp2_with fail
      refine (next_any f t _ xs _ hT.fr sT).mono ?_
      rintro e w7 ⟨v7, rfl, hn⟩
      have h7 := hT.next hn
      have Q := hide (refNext_any _ xs w7 (sT.kept hn.2.2 neT) bT)
      have o7 := hn.1
      clear hn hT sT neT bT
      generalize tell xs = r at *
      obtain ⟨rk, rb, rz, re⟩ := r
      unfold toldValue at Q ⊢
      obtain ⟨ao7, cap7, e7⟩ := o7.shape
      subst e7
      go_wp2_with fail
      refine (unhide Q).mono ?_
      rintro e w8 ⟨v8, rfl, hr⟩
      clear Q
      have c7 := run_text_of_sees (P := Try.prog) w8 25 9 Try.underlying25 Try.underlying5 Try.underlying9 (o7.kept hr.2 (fun _ _ h => h)).sees
      have c8 := run_text_of_sees (P := Try.prog) w8 25 9 Try.underlying25 Try.underlying5 Try.underlying9 hr.1.sees
      have h8 := (h7.goes hr.2).turn
      obtain ⟨ao8, cap8, e8⟩ := hr.1.shape
      subst e8
      clear hr h7 o7
      simp only at c7 c8
      go_wp2
      go_ret
      exact ⟨rfl, h8⟩
    · go_wp2_with (at_builtin; refine wpList_append_sees _ rfl (.tmp 69) (.tmp 70) 25 rfl i0 Try.underlying25 hi hz0 hz1 hz2 _ rec rfl o4 _ ms rfl hm4 (by omega) ?_)
      intro v5 w5 ho hg hk
      have t5 : Turn (fun k => k = g) w4 w5 := (Turn.refl _ _).grown hg (fun k e => .inl (by injection e with e; exact e.symm))
      have hsz4 := h4.fr.ltt
      have hT : FOwn w w5 f t := ⟨h4.fr.kept t5 (by omega) hgt, h4.turn.trans' t5 (fun j hj e => by omega), h4.newf, h4.newt⟩
      have sT := ho.sees
      have neT : ∀ k, slab v5 = some k → ¬ k = t := fun k e' e => by
        rw [ho.slab_eq] at e'
        rcases hk with hk | hk
        · rw [hk] at e'; injection e' with e'; exact hgt (by rw [← e, ← e'])
        · rw [hk] at e'; injection e' with e'; omega
      have bT : (rec ++ ms).length ≤ 140737488355328 := by rw [List.length_append]; omega
      obtain ⟨ao5, cap5, e5⟩ := ho.shape
      subst e5
      generalize rec ++ ms = xs at *
      clear o4 h4 hm4 ho hg hk t5
      go_wp2_with fail
      refine (next_any f t _ xs _ hT.fr sT).mono ?_
      rintro e w7 ⟨v7, rfl, hn⟩
      have h7 := hT.next hn
      have Q := hide (refNext_any _ xs w7 (sT.kept hn.2.2 neT) bT)
      have o7 := hn.1
      clear hn hT sT neT bT
      generalize tell xs = r at *
      obtain ⟨rk, rb, rz, re⟩ := r
      unfold toldValue at Q ⊢
      obtain ⟨ao7, cap7, e7⟩ := o7.shape
      subst e7
      go_wp2_with fail
      refine (unhide Q).mono ?_
      rintro e w8 ⟨v8, rfl, hr⟩
      clear Q
      have c7 := run_text_of_sees (P := Try.prog) w8 25 9 Try.underlying25 Try.underlying5 Try.underlying9 (o7.kept hr.2 (fun _ _ h => h)).sees
      have c8 := run_text_of_sees (P := Try.prog) w8 25 9 Try.underlying25 Try.underlying5 Try.underlying9 hr.1.sees
      have h8 := (h7.goes hr.2).turn
      obtain ⟨ao8, cap8, e8⟩ := hr.1.shape
      subst e8
      clear hr h7 o7
      simp only at c7 c8
      go_wp2
      go_ret
      exact ⟨rfl, h8⟩
    · have sT := o4.sees
      have hT := h4
      have neT : ∀ k, slab (.slice (some ⟨g, 0, none⟩) rec.length cap) = some k → ¬ k = t := fun k hk e => by simp only [slab, Option.some.injEq] at hk; omega
      have bT : rec.length ≤ 140737488355328 := by omega
      obtain ⟨xs, hxs⟩ : ∃ xs, xs = rec := ⟨_, rfl⟩
      rw [show (Sees w4 (.slice (some ⟨g, 0, none⟩) rec.length cap) rec) = Sees w4 (.slice (some ⟨g, 0, none⟩) rec.length cap) xs by rw [hxs]] at sT
      rw [← hxs] at bT
      clear o4 h4 hm4
      go_wp2_with fail
      refine (next_any f t _ xs _ hT.fr sT).mono ?_
      rintro e w7 ⟨v7, rfl, hn⟩
      have h7 := hT.next hn
      have Q := hide (refNext_any _ xs w7 (sT.kept hn.2.2 neT) bT)
      have o7 := hn.1
      clear hn hT sT neT bT
      generalize tell xs = r at *
      obtain ⟨rk, rb, rz, re⟩ := r
      unfold toldValue at Q ⊢
      obtain ⟨ao7, cap7, e7⟩ := o7.shape
      subst e7
      go_wp2_with fail
      refine (unhide Q).mono ?_
      rintro e w8 ⟨v8, rfl, hr⟩
      clear Q
      have c7 := run_text_of_sees (P := Try.prog) w8 25 9 Try.underlying25 Try.underlying5 Try.underlying9 (o7.kept hr.2 (fun _ _ h => h)).sees
      have c8 := run_text_of_sees (P := Try.prog) w8 25 9 Try.underlying25 Try.underlying5 Try.underlying9 hr.1.sees
      have h8 := (h7.goes hr.2).turn
      obtain ⟨ao8, cap8, e8⟩ := hr.1.shape
      subst e8
      clear hr h7 o7
      simp only at c7 c8
      go_wp2
      go_ret
      exact ⟨rfl, h8⟩
  · have sT := m3.1.sees
    have hT := h3
    have neT : ∀ k, slab (.slice ao3 rs.length cap3) = some k → ¬ k = t := fun k hk e => by
      rw [m3.1.slab_eq] at hk
      have := m3.2.2 k hk
      omega
    have bT := hR
    obtain ⟨xs, hxs⟩ : ∃ xs, xs = rs := ⟨_, rfl⟩
    rw [show (Sees w3 (.slice ao3 rs.length cap3) rs) = Sees w3 (.slice ao3 rs.length cap3) xs by rw [hxs]] at sT
    rw [← hxs] at bT
    clear m3 h3
    go_wp2_with fail
    refine (next_any f t _ xs _ hT.fr sT).mono ?_
    rintro e w7 ⟨v7, rfl, hn⟩
    have h7 := hT.next hn
    have Q := hide (refNext_any _ xs w7 (sT.kept hn.2.2 neT) bT)
    have o7 := hn.1
    clear hn hT sT neT bT
    generalize tell xs = r at *
    obtain ⟨rk, rb, rz, re⟩ := r
    unfold toldValue at Q ⊢
    obtain ⟨ao7, cap7, e7⟩ := o7.shape
    subst e7
    go_wp2_with fail
    refine (unhide Q).mono ?_
    rintro e w8 ⟨v8, rfl, hr⟩
    clear Q
    have c7 := run_text_of_sees (P := Try.prog) w8 25 9 Try.underlying25 Try.underlying5 Try.underlying9 (o7.kept hr.2 (fun _ _ h => h)).sees
    have c8 := run_text_of_sees (P := Try.prog) w8 25 9 Try.underlying25 Try.underlying5 Try.underlying9 hr.1.sees
    have h8 := (h7.goes hr.2).turn
    obtain ⟨ao8, cap8, e8⟩ := hr.1.shape
    subst e8
    clear hr h7 o7
    simp only at c7 c8
    go_wp2
    go_ret
    exact ⟨rfl, h8⟩

end Go.Proofs.Ytcojlmfdonbkmaa
