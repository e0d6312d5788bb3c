/- The law of taking: its walk. -/
import Derived.Test.YtppgmcgohmppbaaRefR
import Derived.Test.YtppgmcgohmppbaaSteps
import Derived.RegionTactic
import Derived.Deep.RegionWith
import Derived.Deep.DeepMust
import Derived.Deep.CutRange
import Derived.Deep.CutBlock
import Derived.Deep.QuietTactic
import Derived.BigQuiet
namespace Go.Proofs.Ytppgmcgohmppbaa
open Go.RowKit

theorem St.short_rest (s : St) : s.short.2.bs.length ≤ s.bs.length := Nat.le_trans (St.take_rest _ _) (St.take_rest _ _)

/-- The program's Reader at xb and the reference's at rb have the same, apart from one another, from block B on. -/
structure Two (B : Nat) (w : World) (xb rb : Nat) (xv rv : Value) (s s' : St) : Prop where
  x : RIs 52 w xb xv s
  r : RIs 46 w rb rv s'
  ne : xb ≠ rb
  xs : slab xv ≠ some rb
  rs : slab rv ≠ some xb
  bx : B ≤ xb
  br : B ≤ rb
  bw : B ≤ w.heap.size

theorem Two.left {B : Nat} {w w1 : World} {xb rb : Nat} {xv rv xv' : Value} {s s' s1 : St} (h : Two B w xb rb xv rv s s') (hst : RStep 52 xb w xv w1 xv' s1.bs s1.lack) : Two B w1 xb rb xv' rv s1 s' ∧ Below B w w1 :=
  ⟨⟨hst.at', RAt.kept h.r hst.turn (fun e => h.ne e.symm) (fun k hk e => h.rs (e ▸ hk)), h.ne, fun e => h.xs (hst.slab _ e), h.rs, h.bx, h.br, Nat.le_trans h.bw hst.turn.size⟩,
    hst.turn.below h.bw (fun k hk e => by have := h.bx; omega)⟩

theorem Two.right {B : Nat} {w w1 : World} {xb rb : Nat} {xv rv rv' : Value} {s s' s1 : St} (h : Two B w xb rb xv rv s s') (hst : RStep 46 rb w rv w1 rv' s1.bs s1.lack) : Two B w1 xb rb xv rv' s s1 ∧ Below B w w1 :=
  ⟨⟨RAt.kept h.x hst.turn (fun e => h.ne e) (fun k hk e => h.xs (e ▸ hk)), hst.at', h.ne, h.xs, fun e => h.rs (hst.slab _ e), h.bx, h.br, Nat.le_trans h.bw hst.turn.size⟩,
    hst.turn.below h.bw (fun k hk e => by have := h.br; omega)⟩

theorem lack_same (b : Nat) (v : Value) (s : St) (w : World) (h : RIs 52 w b v s) :
    Calls Try.prog 14 #[.pointer (some ⟨b, 0, none⟩)] w fun e w' => e = .returned (.bool s.lack) ∧ w' = w := (lack_any b v s w h).mono fun _ _ h => ⟨h.1, h.2.symm⟩
theorem left_same (b : Nat) (v : Value) (s : St) (w : World) (h : RIs 52 w b v s) :
    Calls Try.prog 15 #[.pointer (some ⟨b, 0, none⟩)] w fun e w' => e = .returned (.int .i64 s.bs.length) ∧ w' = w := (left_any b v s w h).mono fun _ _ h => ⟨h.1, h.2.symm⟩
theorem RIs.drewN {T : TypeId} {w : World} {b : Nat} {v : Value} {s : St} (h : RIs T w b v s) (n : Nat) : RIs T (w.drewN n) b v s := h
theorem Two.drewN {B : Nat} {w : World} {xb rb : Nat} {xv rv : Value} {s s' : St} (h : Two B w xb rb xv rv s s') (n : Nat) : Two B (w.drewN n) xb rb xv rv s s' := ⟨h.x, h.r, h.ne, h.xs, h.rs, h.bx, h.br, h.bw⟩
theorem below_drewN' {B : Nat} {w w' : World} (h : Below B w w') (n : Nat) : Below B w (w'.drewN n) := ⟨h.os, h.tape, h.output, h.size, h.block⟩

set_option maxHeartbeats 8000000 in
set_option maxRecDepth 100000 in
theorem reads_any (bv : Value) (bs : List UInt8) (ab off cap : Nat) (xs : List StepD) (w : World) (hbs : Sees w bv bs) (hb47 : bs.length ≤ 140737488355328)
    (h : StepsAt w w.heap.size ab off cap xs) :
    Calls Try.prog 5 #[bv, .slice (some ⟨ab, off, none⟩) xs.length cap] w fun e w' => e = .returned (.bool true) ∧ Below w.heap.size w w' := by
  obtain ⟨B, hB⟩ : ∃ B, B = w.heap.size := ⟨_, rfl⟩
  rw [← hB] at h ⊢
  have HB := hide (Nat.le_of_eq hB)
  go_enter Try.func5, Try.ntmps5
  go_wp2_with fail
  refine (newReader_any bv bs w hbs hb47).mono ?_
  rintro e w1 ⟨xb, rfl, xv, hx1, hxb, hxv, ht1⟩
  go_wp2_with fail
  refine (known_any _).mono ?_
  rintro e w2 ⟨rfl, ht2⟩
  have hx2 := RAt.kept hx1 ht2 (fun h => h) (fun _ _ h => h)
  have hs2 := (hbs.kept ht1 (fun _ _ h => h)).kept ht2 (fun _ _ h => h)
  obtain ⟨ao, cb, rfl⟩ := hbs.shape
  go_wp2_with fail
  refine (few_any _ bs bs.length w2 hs2 (by omega)).mono ?_
  rintro e w3 ⟨fv, rfl, hm3⟩
  rw [List.take_length] at hm3
  have hfs : ∀ k, slab fv = some k → w2.heap.size ≤ k := fun k hk => hm3.2.2 k (hm3.1.slab_eq ▸ hk)
  have hfl : ∀ k, slab fv = some k → k < w3.heap.size := fun k hk => hm3.1.lt (hm3.1.slab_eq ▸ hk)
  have hx3 := hx2.kept hm3.2.1 (fun h => h) (fun _ _ h => h)
  have htw : Two B (w3.alloc (.cells #[fv, .bool false] 46)) xb w3.heap.size xv fv ⟨bs, false⟩ ⟨bs, false⟩ := by
    have hxl := hx3.1.lt
    have hxl2 := hx2.1.lt
    have hs3 := hm3.2.1.size
    have hs1 := ht1.size
    have hs2' := ht2.size
    have t4 := (Turn.refl (fun _ => False) w3).alloc (.cells #[fv, .bool false] 46)
    refine ⟨hx3.kept t4 (fun h => h) (fun _ _ h => h), ⟨At.new _ w3 _, hm3.1.sees.kept t4 (fun _ _ h => h), fun e => by have := hfl _ e; omega⟩, by omega, fun e => ?_, fun e => by have := hfs _ e; omega, by omega, by omega, by simp; omega⟩
    have := (hxv _ e).2
    omega
  have hbl : Below B w (w3.alloc (.cells #[fv, .bool false] 46)) := (((ht1.trans ht2).trans hm3.2.1).alloc _).below (by omega) (fun _ _ h => h)
  obtain ⟨ao3, cp3, rfl⟩ := hm3.1.shape
  have HBe := hide hB
  clear hx1 ht1 ht2 hx2 hs2 hbs hm3 hx3 hfs hfl hxv hxb hB
  obtain ⟨rb, hrb⟩ : ∃ rb, rb = w3.heap.size := ⟨_, rfl⟩
  have Hrb := hide hrb
  go_wp2_with fail
  rw [← hrb] at htw ⊢
  generalize (.slice ao3 bs.length cp3 : Value) = rv0 at *
  generalize w3.alloc (.cells #[rv0, .bool false] 46) = w4 at *
  clear hrb
  go_loopw [7] (fun i w1 => ∃ (k : Nat) (xv rv : Value) (s : St), k ≤ xs.length ∧ k ≤ 40 ∧ i = .int .i64 k ∧ Two B w1 xb rb xv rv s s ∧ s.ok ∧ s.bs.length ≤ 140737488355328 ∧ Below B w w1) (fun i _ => 40 - (intOf i).toNat)
  case atStart => exact ⟨0, xv, rv0, ⟨bs, false⟩, Nat.zero_le _, Nat.zero_le _, rfl, htw, fun h => by simp at h, hb47, hbl⟩
  case round =>
    obtain ⟨k, xv1, rv1, s, hk1, hk2, rfl, htwo, hok, hlen, hbl1⟩ := hrel
    clear htw hbl
    have Htwo := hide htwo
    have Hok := hide hok
    clear htwo hok
    by_cases hlt : k < xs.length ∧ k < 40
    · obtain ⟨hlt, hlt2⟩ := hlt
      have hlt3 : (k : Int) < 40 := by omega
      have hs := h.later hbl1
      have c0 := hs.c0 k hlt
      have c1 := hs.c1 k hlt
      clear hs
      generalize xs[k] = x at *
      have h05 : x.what % 6 = 0 ∨ x.what % 6 = 1 ∨ x.what % 6 = 2 ∨ x.what % 6 = 3 ∨ x.what % 6 = 4 ∨ x.what % 6 = 5 := by omega
      go_wp2_with fail
      refine (pick_any x.what 6 wr (by omega) (by omega)).mono ?_
      rintro e w5 ⟨rfl, rfl⟩
      go_upto_block 2 with fail
      go_cut [8, 9] from 24 to 113 (fun okv _ w1 => okv = .bool true ∧ ∃ (xv rv : Value) (s : St), Two B w1 xb rb xv rv s s ∧ s.ok ∧ s.bs.length ≤ 140737488355328 ∧ Below B wr w1)
      case first =>
        rcases h05 with hm | hm | hm | hm | hm | hm
        · rw [hm]
          clear hm
          have q := hide (ru8_any xb xv1 s wr (unhide Htwo).x)
          go_wp2_with fail
          refine (unhide q).mono ?_
          clear q
          rintro e w6 ⟨rfl, xv6, hst6⟩
          have h6 := (unhide Htwo).left hst6
          have q := hide (rr_u8 rb rv1 s w6 h6.1.r (unhide Hok) hlen)
          go_wp2_with fail
          refine (unhide q).mono ?_
          clear q
          rintro e w7 ⟨rfl, rv7, hst7⟩
          have h7 := h6.1.right hst7
          have hfin : ∃ (xv rv : Value) (s : St), Two B w7 xb rb xv rv s s ∧ s.ok ∧ s.bs.length ≤ 140737488355328 ∧ Below B wr w7 := ⟨xv6, rv7, _, h7.1, St.ok_take _ (unhide Hok) _, Nat.le_trans (St.take_rest _ _) hlen, h6.2.trans h7.2⟩
          have Hfin := hide hfin
          clear hst6 hst7 h6 h7 hfin
          go_wp2_with fail
          go_meet
          case rel => exact ⟨rfl, unhide Hfin⟩
        · rw [hm]
          clear hm
          have q := hide (ru16_any xb xv1 s wr (unhide Htwo).x)
          go_wp2_with fail
          refine (unhide q).mono ?_
          clear q
          rintro e w6 ⟨rfl, xv6, hst6⟩
          have h6 := (unhide Htwo).left hst6
          have q := hide (rr_u16 rb rv1 s w6 h6.1.r (unhide Hok) hlen)
          go_wp2_with fail
          refine (unhide q).mono ?_
          clear q
          rintro e w7 ⟨rfl, rv7, hst7⟩
          have h7 := h6.1.right hst7
          have hfin : ∃ (xv rv : Value) (s : St), Two B w7 xb rb xv rv s s ∧ s.ok ∧ s.bs.length ≤ 140737488355328 ∧ Below B wr w7 := ⟨xv6, rv7, _, h7.1, St.ok_take _ (unhide Hok) _, Nat.le_trans (St.take_rest _ _) hlen, h6.2.trans h7.2⟩
          have Hfin := hide hfin
          clear hst6 hst7 h6 h7 hfin
          go_wp2_with fail
          go_meet
          case rel => exact ⟨rfl, unhide Hfin⟩
        · rw [hm]
          clear hm
          have q := hide (ru64_any xb xv1 s wr (unhide Htwo).x)
          go_wp2_with fail
          refine (unhide q).mono ?_
          clear q
          rintro e w6 ⟨rfl, xv6, hst6⟩
          have h6 := (unhide Htwo).left hst6
          have q := hide (rr_u64 rb rv1 s w6 h6.1.r (unhide Hok) hlen)
          go_wp2_with fail
          refine (unhide q).mono ?_
          clear q
          rintro e w7 ⟨rfl, rv7, hst7⟩
          have h7 := h6.1.right hst7
          have hfin : ∃ (xv rv : Value) (s : St), Two B w7 xb rb xv rv s s ∧ s.ok ∧ s.bs.length ≤ 140737488355328 ∧ Below B wr w7 := ⟨xv6, rv7, _, h7.1, St.ok_take _ (unhide Hok) _, Nat.le_trans (St.take_rest _ _) hlen, h6.2.trans h7.2⟩
          have Hfin := hide hfin
          clear hst6 hst7 h6 h7 hfin
          go_wp2_with fail
          go_meet
          case rel => exact ⟨rfl, unhide Hfin⟩
        · rw [hm]
          clear hm
          have hy0 := Int.emod_nonneg x.n (show (9 : Int) ≠ 0 by omega)
          have hy1 := Int.emod_lt_of_pos x.n (show (0 : Int) < 9 by omega)
          go_wp2_with fail
          refine (pick_any x.n 9 wr (by omega) (by omega)).mono ?_
          rintro e w6 ⟨rfl, rfl⟩
          generalize x.n % 9 = y at *
          have hrok : (s.take (y - 1)).2.ok ∧ (s.take (y - 1)).2.bs.length ≤ 140737488355328 := ⟨St.ok_take _ (unhide Hok) _, Nat.le_trans (St.take_rest _ _) hlen⟩
          have QX : Hid (∀ W xv', RIs 52 W xb xv' s → Calls Try.prog 35 #[.pointer (some ⟨xb, 0, none⟩), .int .i64 (y - 1)] W fun e w' => ∃ fv, e = .returned fv ∧ Gave 52 W xb xv' (s.take (y - 1)) fv w') := fun W xv' h => rraw_any xb xv' s (y - 1) W h hlen
          have QR : Hid (∀ W rv', RIs 46 W rb rv' s → Calls Try.prog 36 #[.pointer (some ⟨rb, 0, none⟩), .int .i64 (y - 1)] W fun e w' => ∃ fv, e = .returned fv ∧ Gave 46 W rb rv' (s.take (y - 1)) fv w') := fun W rv' h => rr_raw rb rv' s (y - 1) W h (unhide Hok) hlen
          generalize s.take (y - 1) = r at QX QR hrok
          have Hrok := hide hrok
          have HT := hide ((unhide Htwo).drewN 1)
          have hxl : xb < wr.heap.size := (unhide Htwo).x.1.lt
          have hrl : rb < wr.heap.size := (unhide Htwo).r.1.lt
          clear hrok c0 c1
          go_wp2_with fail
          go_region_with (first
            | (go_at_call 35
               go_must (
                 refine (unhide QX _ xv1 ?hx).mono ?_
                 case hx => first | exact hTR.1.x | exact (unhide HT).x
                 rintro e wX ⟨fx, rfl, hoX, hfX, xvX, hstX⟩
                 have hcvX := run_text_of_sees (P := Try.prog) wX 24 9 Try.underlying24 Try.underlying5 Try.underlying9 hoX.sees
                 first
                   | (have hTfin := hTR.1.left hstX
                      have hbfin := hTR.2.trans hTfin.2
                      have hcvR2 := run_text_of_sees (P := Try.prog) wX 24 9 Try.underlying24 Try.underlying5 Try.underlying9 (hoR.kept hstX.turn (fun i hi e => by have h1 := hfR i hi; have h2 : wr.drew.heap.size = wr.heap.size := rfl; omega)).sees)
                   | (have hTX := (unhide HT).left hstX)
                 obtain ⟨aoX, cpX, rfl⟩ := hoX.shape))
            | (go_at_call 36
               go_must (
                 refine (unhide QR _ rv1 ?hx).mono ?_
                 case hx => first | exact hTX.1.r | exact (unhide HT).r
                 rintro e wR ⟨fr, rfl, hoR, hfR, rvR, hstR⟩
                 have hcvR := run_text_of_sees (P := Try.prog) wR 24 9 Try.underlying24 Try.underlying5 Try.underlying9 hoR.sees
                 first
                   | (have hTfin := hTX.1.right hstR
                      have hbfin := hTX.2.trans hTfin.2
                      have hcvX2 := run_text_of_sees (P := Try.prog) wR 24 9 Try.underlying24 Try.underlying5 Try.underlying9 (hoX.kept hstR.turn (fun i hi e => by have h1 := hfX i hi; have h2 : wr.drew.heap.size = wr.heap.size := rfl; omega)).sees)
                   | (have hTR := (unhide HT).right hstR)
                 obtain ⟨aoR, cpR, rfl⟩ := hoR.shape)))
          all_goals
            go_wp2_with fail
            go_meet
            case rel => exact ⟨rfl, _, _, _, hTfin.1, (unhide Hrok).1, (unhide Hrok).2, (below_drewN' (Below.refl B wr) 1).trans hbfin⟩
        · rw [hm]
          clear hm
          have hrok : s.short.2.ok ∧ s.short.2.bs.length ≤ 140737488355328 := ⟨St.ok_short _ (unhide Hok), Nat.le_trans (St.short_rest _) hlen⟩
          have QX : Hid (∀ W xv', RIs 52 W xb xv' s → Calls Try.prog 37 #[.pointer (some ⟨xb, 0, none⟩)] W fun e w' => ∃ fv, e = .returned fv ∧ Gave 52 W xb xv' s.short fv w') := fun W xv' h => rshort_any xb xv' s W h hlen
          have QR : Hid (∀ W rv', RIs 46 W rb rv' s → Calls Try.prog 38 #[.pointer (some ⟨rb, 0, none⟩)] W fun e w' => ∃ fv, e = .returned fv ∧ Gave 46 W rb rv' s.short fv w') := fun W rv' h => rr_short rb rv' s W h (unhide Hok) hlen
          generalize s.short = r at QX QR hrok
          have Hrok := hide hrok
          have HT := hide ((unhide Htwo).drewN 1)
          have hxl : xb < wr.heap.size := (unhide Htwo).x.1.lt
          have hrl : rb < wr.heap.size := (unhide Htwo).r.1.lt
          clear hrok c0 c1
          go_wp2_with fail
          go_region_with (first
            | (go_at_call 37
               go_must (
                 refine (unhide QX _ xv1 ?hx).mono ?_
                 case hx => first | exact hTR.1.x | exact (unhide HT).x
                 rintro e wX ⟨fx, rfl, hoX, hfX, xvX, hstX⟩
                 have hcvX := run_text_of_sees (P := Try.prog) wX 24 9 Try.underlying24 Try.underlying5 Try.underlying9 hoX.sees
                 first
                   | (have hTfin := hTR.1.left hstX
                      have hbfin := hTR.2.trans hTfin.2
                      have hcvR2 := run_text_of_sees (P := Try.prog) wX 24 9 Try.underlying24 Try.underlying5 Try.underlying9 (hoR.kept hstX.turn (fun i hi e => by have h1 := hfR i hi; have h2 : wr.drew.heap.size = wr.heap.size := rfl; omega)).sees)
                   | (have hTX := (unhide HT).left hstX)
                 obtain ⟨aoX, cpX, rfl⟩ := hoX.shape))
            | (go_at_call 38
               go_must (
                 refine (unhide QR _ rv1 ?hx).mono ?_
                 case hx => first | exact hTX.1.r | exact (unhide HT).r
                 rintro e wR ⟨fr, rfl, hoR, hfR, rvR, hstR⟩
                 have hcvR := run_text_of_sees (P := Try.prog) wR 24 9 Try.underlying24 Try.underlying5 Try.underlying9 hoR.sees
                 first
                   | (have hTfin := hTX.1.right hstR
                      have hbfin := hTX.2.trans hTfin.2
                      have hcvX2 := run_text_of_sees (P := Try.prog) wR 24 9 Try.underlying24 Try.underlying5 Try.underlying9 (hoX.kept hstR.turn (fun i hi e => by have h1 := hfX i hi; have h2 : wr.drew.heap.size = wr.heap.size := rfl; omega)).sees)
                   | (have hTR := (unhide HT).right hstR)
                 obtain ⟨aoR, cpR, rfl⟩ := hoR.shape)))
          all_goals
            go_wp2_with fail
            go_meet
            case rel => exact ⟨rfl, _, _, _, hTfin.1, (unhide Hrok).1, (unhide Hrok).2, (below_drewN' (Below.refl B wr) 1).trans hbfin⟩
        · rw [hm]
          clear hm
          have q := hide (rtext_any xb xv1 s wr (unhide Htwo).x)
          go_wp2_with fail
          refine (unhide q).mono ?_
          clear q
          rintro e w6 ⟨rfl, xv6, hst6⟩
          have h6 := (unhide Htwo).left hst6
          have q := hide (rr_text rb rv1 s w6 h6.1.r (unhide Hok) hlen)
          go_wp2_with fail
          refine (unhide q).mono ?_
          clear q
          rintro e w7 ⟨rfl, rv7, hst7⟩
          have h7 := h6.1.right hst7
          have hfin : ∃ (xv rv : Value) (s : St), Two B w7 xb rb xv rv s s ∧ s.ok ∧ s.bs.length ≤ 140737488355328 ∧ Below B wr w7 := ⟨xv6, rv7, _, h7.1, St.ok_short _ (unhide Hok), Nat.le_trans (St.short_rest _) hlen, h6.2.trans h7.2⟩
          have Hfin := hide hfin
          clear hst6 hst7 h6 h7 hfin
          go_wp2_with fail
          go_meet
          case rel => exact ⟨rfl, unhide Hfin⟩
      case rest =>
        obtain ⟨rfl, xv2, rv2, s2, htwo2, hok2, hlen2, hbl2⟩ := hcut
        have cl : wc.cell? ⟨rb, 1, none⟩ = some (.bool s2.lack) := by rw [htwo2.r.1.cell]; rfl
        obtain ⟨aoR, cpR, hrv⟩ := htwo2.r.2.1.shape
        have cB : wc.cell? ⟨rb, 0, none⟩ = some (.slice aoR s2.bs.length cpR) := by rw [htwo2.r.1.cell, ← hrv]; rfl
        have Htwo2 := hide htwo2
        have Hok2 := hide hok2
        have hl63 : (s2.bs.length : Int) ≤ 140737488355328 := by omega
        clear htwo2 hok2 hrv c0 c1 hlen
        go_wp2_with fail
        go_quiet ((first
          | (go_at_call 14; exact Calls.quiet_of_same (lack_same xb xv2 s2 _ ((unhide Htwo2).x.drewN _)))
          | (go_at_call 15; exact Calls.quiet_of_same (left_same xb xv2 s2 _ ((unhide Htwo2).x.drewN _)))))
        go_wp2
        exact ⟨⟨k + 1, xv2, rv2, s2, by omega, by omega, by go_num, (unhide Htwo2).drewN _, unhide Hok2, hlen2, below_drewN' (hbl1.trans hbl2) _⟩, by simp [intOf]; omega⟩
    · have hend' : xs.length ≤ k ∨ (40 ≤ k ∧ k < xs.length) := by omega
      clear hlt
      rcases hend' with hd | ⟨hd, hd2⟩
      all_goals
        go_wp2
        go_ret
        exact ⟨rfl, unhide HBe ▸ hbl1⟩

end Go.Proofs.Ytppgmcgohmppbaa
