/- The law of laying: its walk. -/
import Derived.Test.YtppgmcgohmppbaaRefW
import Derived.Test.YtppgmcgohmppbaaSteps
import Derived.RegionTactic
import Derived.Deep.RegionWith
import Derived.Deep.DeepMust
import Derived.Deep.CutRange
import Derived.Deep.CutBlock
import Derived.Deep.QuietTactic
import Derived.BigQuiet
namespace Go.Proofs.Ytppgmcgohmppbaa
open Go.RowKit

/-- The program's Writer at xb and the reference's at rb, apart from one another, from block B on. -/
structure TwoW (B : Nat) (w : World) (xb rb : Nat) (xv rv : Value) (a a' : List UInt8) : Prop where
  x : WAt 54 w xb xv a
  r : WAt 35 w rb rv a'
  ne : xb ≠ rb
  xr : xv.ownBlock ≠ some rb
  rx : rv.ownBlock ≠ some xb
  vv : ∀ k, xv.ownBlock = some k → rv.ownBlock ≠ some k
  bx : B ≤ xb
  br : B ≤ rb
  ox : ∀ k, xv.ownBlock = some k → B ≤ k
  or : ∀ k, rv.ownBlock = some k → B ≤ k
  bw : B ≤ w.heap.size

/-- What may have turned: nothing below B, and nothing that was there apart from the two. -/
def Apart2 (xb rb : Nat) (xv rv : Value) (k : Nat) : Prop := k ≠ xb ∧ k ≠ rb ∧ xv.ownBlock ≠ some k ∧ rv.ownBlock ≠ some k

theorem TwoW.left {B : Nat} {w w1 : World} {xb rb : Nat} {xv rv xv' : Value} {a a' a1 : List UInt8} (h : TwoW B w xb rb xv rv a a') (hst : WStep 54 xb w xv w1 xv' a1) : TwoW B w1 xb rb xv' rv a1 a' ∧ Below B w w1 := by
  have hrl := h.r.1.lt
  refine ⟨⟨hst.at', h.r.kept hst.turn (fun hS => ?_) (fun k hk hS => ?_), h.ne, fun e => ?_, h.rx, fun k hk e => ?_, h.bx, h.br, fun k hk => ?_, h.or, Nat.le_trans h.bw hst.turn.size⟩, hst.turn.below h.bw (fun k hk hS => ?_)⟩
  · rcases hS with e | e
    · exact h.ne e.symm
    · exact h.xr e
  · rcases hS with e | e
    · exact h.rx (e ▸ hk)
    · exact h.vv k e hk
  · rcases hst.moved with hm | ⟨j, hj, hle⟩
    · exact h.xr (hm ▸ e)
    · rw [hj] at e
      injection e with e
      omega
  · rcases hst.moved with hm | ⟨j, hj, hle⟩
    · exact h.vv k (hm ▸ hk) e
    · rw [hj] at hk
      injection hk with hk
      have := h.r.2.1.lt e
      omega
  · rcases hst.moved with hm | ⟨j, hj, hle⟩
    · exact h.ox k (hm ▸ hk)
    · rw [hj] at hk
      injection hk with hk
      have := h.bw
      omega
  · rcases hS with e | e
    · have := h.bx
      omega
    · have := h.ox k e
      omega

theorem TwoW.right {B : Nat} {w w1 : World} {xb rb : Nat} {xv rv rv' : Value} {a a' a1 : List UInt8} (h : TwoW B w xb rb xv rv a a') (hst : WStep 35 rb w rv w1 rv' a1) : TwoW B w1 xb rb xv rv' a a1 ∧ Below B w w1 := by
  have hxl := h.x.1.lt
  refine ⟨⟨h.x.kept hst.turn (fun hS => ?_) (fun k hk hS => ?_), hst.at', h.ne, h.xr, fun e => ?_, fun k hk e => ?_, h.bx, h.br, h.ox, fun k hk => ?_, Nat.le_trans h.bw hst.turn.size⟩, hst.turn.below h.bw (fun k hk hS => ?_)⟩
  · rcases hS with e | e
    · exact h.ne e
    · exact h.rx e
  · rcases hS with e | e
    · exact h.xr (e ▸ hk)
    · exact h.vv k hk e
  · rcases hst.moved with hm | ⟨j, hj, hle⟩
    · exact h.rx (hm ▸ e)
    · rw [hj] at e
      injection e with e
      omega
  · rcases hst.moved with hm | ⟨j, hj, hle⟩
    · exact h.vv k hk (hm ▸ e)
    · rw [hj] at e
      injection e with e
      have := h.x.2.1.lt hk
      omega
  · rcases hst.moved with hm | ⟨j, hj, hle⟩
    · exact h.or k (hm ▸ hk)
    · rw [hj] at hk
      injection hk with hk
      have := h.bw
      omega
  · rcases hS with e | e
    · have := h.br
      omega
    · have := h.or k e
      omega

theorem TwoW.kept {B : Nat} {w w1 : World} {xb rb : Nat} {xv rv : Value} {a a' : List UInt8} (h : TwoW B w xb rb xv rv a a') (ht : Turn (fun _ => False) w w1) : TwoW B w1 xb rb xv rv a a' :=
  ⟨h.x.kept ht (fun h => h) (fun _ _ h => h), h.r.kept ht (fun h => h) (fun _ _ h => h), h.ne, h.xr, h.rx, h.vv, h.bx, h.br, h.ox, h.or, Nat.le_trans h.bw ht.size⟩

theorem TwoW.drewN {B : Nat} {w : World} {xb rb : Nat} {xv rv : Value} {a a' : List UInt8} (h : TwoW B w xb rb xv rv a a') (n : Nat) : TwoW B (w.drewN n) xb rb xv rv a a' := ⟨h.x, h.r, h.ne, h.xr, h.rx, h.vv, h.bx, h.br, h.ox, h.or, h.bw⟩

theorem TwoW.keptS {S : Nat → Prop} {B : Nat} {w w1 : World} {xb rb : Nat} {xv rv : Value} {a a' : List UInt8} (h : TwoW B w xb rb xv rv a a') (ht : Turn S w w1) (h1 : ¬ S xb) (h2 : ¬ S rb) (h3 : ∀ k, xv.ownBlock = some k → ¬ S k) (h4 : ∀ k, rv.ownBlock = some k → ¬ S k) : TwoW B w1 xb rb xv rv a a' :=
  ⟨h.x.kept ht h1 h3, h.r.kept ht h2 h4, h.ne, h.xr, h.rx, h.vv, h.bx, h.br, h.ox, h.or, Nat.le_trans h.bw ht.size⟩

theorem xor_one (b : UInt8) : bits .xor .u8 (b.toNat : Int) 1 = ((b ^^^ 1).toNat : Int) := by
  have h := u8_xor_nat b.toNat 1 b.toNat_lt (by omega)
  rw [UInt8.toNat_xor]
  exact h

theorem u8s_set (zs : List UInt8) (j : Nat) (b : UInt8) : (u8s zs).set j (.int .u8 (b.toNat : Int)) = u8s (zs.set j b) := by simp [u8s, List.map_set]

theorem Owns.of {w : World} {v : Value} {n : Nat} {ys : List UInt8} (h : w.ownsRow 0 5 1 v n (u8s ys)) (hn : ys.length = n) : Owns w v ys := by
  subst hn
  exact h

theorem below_drewN' {B : Nat} {w w' : World} (h : Below B w w') (n : Nat) : Below B w (w'.drewN n) := ⟨h.os, h.tape, h.output, h.size, h.block⟩

set_option maxHeartbeats 8000000 in
set_option maxRecDepth 100000 in
theorem lays_any (ab off cap : Nat) (xs : List StepD) (w : World) (h : StepsAt w w.heap.size ab off cap xs) (hbk : ∀ k (hk : k < xs.length), xs[k].bs.length ≤ 1048576) :
    Calls Try.prog 4 #[.slice (some ⟨ab, off, none⟩) xs.length cap] w fun e w' => e = .returned (.bool true) ∧ Below w.heap.size w w' := by
  obtain ⟨B, hB⟩ : ∃ B, B = w.heap.size := ⟨_, rfl⟩
  rw [← hB] at h ⊢
  have HB := hide (Nat.le_of_eq hB)
  have HBe := hide hB
  have Hbk := hide hbk
  clear hbk
  go_enter Try.func4, Try.ntmps4
  go_wp2_with fail
  refine (newWriter_any w).mono ?_
  rintro e w2 ⟨rfl, rfl⟩
  go_wp2_with fail
  refine (known_any _).mono ?_
  rintro e w3 ⟨rfl, ht3⟩
  have hx3 := (WAt.new 54 w).kept ht3 (fun h => h) (fun _ _ h => h)
  have htw : TwoW B (w3.alloc (.cells #[.slice none 0 0] 35)) w.heap.size w3.heap.size (.slice none 0 0) (.slice none 0 0) [] [] := by
    have hxl := hx3.1.lt
    refine ⟨hx3.alloc _, WAt.new _ w3, by omega, by simp [Value.ownBlock], by simp [Value.ownBlock], by simp [Value.ownBlock], by omega, by omega, by simp [Value.ownBlock], by simp [Value.ownBlock], by simp; omega⟩
  have hbl : Below B w (w3.alloc (.cells #[.slice none 0 0] 35)) := ((((Turn.refl (fun _ => False) w).alloc _).trans ht3).alloc _).below (by omega) (fun _ _ h => h)
  clear hx3 ht3 
  rw [← hB] at htw
  rw [← hB]
  clear hB
  go_upto_block 0 with fail
  obtain ⟨rb, hrb⟩ : ∃ rb, rb = w3.heap.size := ⟨_, rfl⟩
  rw [← hrb] at htw ⊢
  clear hrb
  generalize w3.alloc (.cells #[.slice none 0 0] 35) = w4 at *
  go_cut [5, 6] from 18 to 96 (fun _ _ w1 => ∃ (xv rv : Value) (acc : List UInt8), TwoW B w1 B rb xv rv acc acc ∧ acc.length ≤ 1048578 * 40 ∧ Below B w w1)
  case first =>
    go_wp2_with fail
    go_loopw [5] (fun i w1 => ∃ (k : Nat) (xv rv : Value) (acc : List UInt8), k ≤ xs.length ∧ k ≤ 40 ∧ i = .int .i64 k ∧ TwoW B w1 B rb xv rv acc acc ∧ acc.length ≤ 1048578 * k ∧ Below B w w1) (fun i _ => 40 - (intOf i).toNat)
    case atStart => exact ⟨0, _, _, [], Nat.zero_le _, Nat.zero_le _, rfl, htw, by simp, hbl⟩
    case round =>
      obtain ⟨k, xv, rv, acc, hk1, hk2, rfl, htwo, hal, hbl1⟩ := hrel
      clear htw hbl
      by_cases hlt : k < xs.length ∧ k < 40
      · obtain ⟨hlt, hlt2⟩ := hlt
        have hlt3 : (k : Int) < 40 := by omega
        have hs := h.later hbl1
        have c0 := hs.c0 k hlt
        have c1 := hs.c1 k hlt
        have c2 := hs.c2 k hlt
        have hsees := hs.sees k hlt
        have hslab := hs.slabs k hlt
        have hbk := unhide Hbk k hlt
        clear hs
        generalize xs[k] = x at *
        obtain ⟨ao, cb, hbv⟩ := hsees.shape
        rw [hbv] at c2 hsees hslab
        have Hsees := hide hsees
        have Hslab := hide hslab
        have Htwo := hide htwo
        clear hbv hsees hslab htwo
        have hxkl0 : wr.heap.size < (wr.alloc (.cells #[.int .i64 x.what, .int .i64 x.n, .slice ao x.bs.length cb] 37)).heap.size := by simp
        have hat := At.new 37 wr #[.int .i64 x.what, .int .i64 x.n, .slice ao x.bs.length cb]
        have t0 : Turn (fun _ => False) wr (wr.alloc (.cells #[.int .i64 x.what, .int .i64 x.n, .slice ao x.bs.length cb] 37)) := (Turn.refl _ _).alloc _
        have HT := hide ((unhide Htwo).kept t0)
        have HS0 := hide ((unhide Hsees).kept t0 (fun _ _ h => h))
        have hbl0 := hbl1.trans (t0.below (unhide Htwo).bw (fun _ _ h => h))
        have hap : Apart2 B rb xv rv wr.heap.size := ⟨fun e => by have := (unhide Htwo).x.1.lt; omega, fun e => by have := (unhide Htwo).r.1.lt; omega, fun e => by have := (unhide Htwo).x.2.1.lt e; omega, fun e => by have := (unhide Htwo).r.2.1.lt e; omega⟩
        go_wp2_with fail
        refine (pick_any x.what 6 _ (by omega) (by omega)).mono ?_
        rintro e w5 ⟨rfl, rfl⟩
        generalize wr.alloc (.cells #[.int .i64 x.what, .int .i64 x.n, .slice ao x.bs.length cb] 37) = W0 at *
        generalize wr.heap.size = xk at *
        have cx1 : W0.cell? ⟨xk, 1, none⟩ = some (.int .i64 x.n) := by rw [hat.cell]; rfl
        have cx2 : W0.cell? ⟨xk, 2, none⟩ = some (.slice ao x.bs.length cb) := by rw [hat.cell]; rfl
        have hxkl : xk < W0.heap.size := hxkl0
        have h05 : x.what % 6 = 0 ∨ x.what % 6 = 1 ∨ x.what % 6 = 2 ∨ x.what % 6 = 3 ∨ x.what % 6 = 4 ∨ x.what % 6 = 5 := by omega
        clear hxkl0 hat t0 c0 c1 c2 Htwo Hsees hbl1
        rcases h05 with hm | hm | hm | hm | hm | hm
        · rw [hm]
          clear hm
          go_wp2_with fail
          refine (u8_any B xv acc x.n W0 (unhide HT).x (by omega)).mono ?_
          rintro e w6 ⟨rfl, xv6, hst6⟩
          have h6 := (unhide HT).left hst6
          have cx1' : w6.cell? ⟨xk, 1, none⟩ = some (.int .i64 x.n) := (hst6.turn.cell (p := ⟨xk, 1, none⟩) hxkl (fun hS => hS.elim hap.1 hap.2.2.1)).trans cx1
          have H6 := hide h6
          clear hst6 h6
          go_wp2_with fail
          refine (rw_u8 rb rv acc x.n w6 (unhide H6).1.r (by omega)).mono ?_
          rintro e w7 ⟨rfl, rv7, hst7⟩
          have h7 := (unhide H6).1.right hst7
          have hbf := hbl0.trans ((unhide H6).2.trans h7.2)
          have H7 := hide h7.1
          clear hst7 h7 H6
          go_wp2
          exact ⟨⟨k + 1, _, _, _, by omega, by omega, by go_num, unhide H7, by simp [be_length]; omega, hbf⟩, by simp [intOf]; omega⟩
        · rw [hm]
          clear hm
          go_wp2_with fail
          refine (u16_any B xv acc x.n W0 (unhide HT).x (by omega)).mono ?_
          rintro e w6 ⟨rfl, xv6, hst6⟩
          have h6 := (unhide HT).left hst6
          have cx1' : w6.cell? ⟨xk, 1, none⟩ = some (.int .i64 x.n) := (hst6.turn.cell (p := ⟨xk, 1, none⟩) hxkl (fun hS => hS.elim hap.1 hap.2.2.1)).trans cx1
          have H6 := hide h6
          clear hst6 h6
          go_wp2_with fail
          refine (rw_u16 rb rv acc x.n w6 (unhide H6).1.r (by omega)).mono ?_
          rintro e w7 ⟨rfl, rv7, hst7⟩
          have h7 := (unhide H6).1.right hst7
          have hbf := hbl0.trans ((unhide H6).2.trans h7.2)
          have H7 := hide h7.1
          clear hst7 h7 H6
          go_wp2
          exact ⟨⟨k + 1, _, _, _, by omega, by omega, by go_num, unhide H7, by simp [be_length]; omega, hbf⟩, by simp [intOf]; omega⟩
        · rw [hm]
          clear hm
          go_wp2_with fail
          refine (u64_any B xv acc x.n W0 (unhide HT).x (by omega)).mono ?_
          rintro e w6 ⟨rfl, xv6, hst6⟩
          have h6 := (unhide HT).left hst6
          have cx1' : w6.cell? ⟨xk, 1, none⟩ = some (.int .i64 x.n) := (hst6.turn.cell (p := ⟨xk, 1, none⟩) hxkl (fun hS => hS.elim hap.1 hap.2.2.1)).trans cx1
          have H6 := hide h6
          clear hst6 h6
          go_wp2_with fail
          refine (rw_u64 rb rv acc x.n w6 (unhide H6).1.r (by omega)).mono ?_
          rintro e w7 ⟨rfl, rv7, hst7⟩
          have h7 := (unhide H6).1.right hst7
          have hbf := hbl0.trans ((unhide H6).2.trans h7.2)
          have H7 := hide h7.1
          clear hst7 h7 H6
          go_wp2
          exact ⟨⟨k + 1, _, _, _, by omega, by omega, by go_num, unhide H7, by simp [be_length]; omega, hbf⟩, by simp [intOf]; omega⟩
        · rw [hm]
          clear hm
          go_wp2_with fail
          refine (raw_any B xv _ acc x.bs W0 (unhide HT).x (unhide HS0) (by omega)).mono ?_
          rintro e w6 ⟨rfl, xv6, hst6⟩
          have h6 := (unhide HT).left hst6
          have cx2' : w6.cell? ⟨xk, 2, none⟩ = some (.slice ao x.bs.length cb) := (hst6.turn.cell (p := ⟨xk, 2, none⟩) hxkl (fun hS => hS.elim hap.1 hap.2.2.1)).trans cx2
          have HS6 := hide ((unhide HS0).below (unhide Hslab) h6.2)
          have H6 := hide h6
          clear hst6 h6
          go_wp2_with fail
          refine (rw_raw rb rv _ acc x.bs w6 (unhide H6).1.r (unhide HS6) (by omega)).mono ?_
          rintro e w7 ⟨rfl, rv7, hst7⟩
          have h7 := (unhide H6).1.right hst7
          have hbf := hbl0.trans ((unhide H6).2.trans h7.2)
          have H7 := hide h7.1
          clear hst7 h7 H6
          go_wp2
          exact ⟨⟨k + 1, _, _, _, by omega, by omega, by go_num, unhide H7, by simp; omega, hbf⟩, by simp [intOf]; omega⟩
        · rw [hm]
          clear hm cx1
          have HTd : Hid (TwoW B W0.drew B rb xv rv acc acc) := (unhide HT).drewN 1
          by_cases hd : x.bs.length ≤ 65535
          · go_wp2_with fail
            go_region_with (first
              | (go_at_call 16
                 go_must (
                   refine (short_yes B xv _ acc x.bs _ ?hx ?hs ?hp hd (by omega)).mono ?_
                   case hx => exact (unhide HTd).x
                   case hs => exact (unhide HS0).drew
                   case hp => exact fun h0 j hj => ⟨fun e => by have := unhide Hslab h0 j hj; omega, fun e => by have := unhide Hslab h0 j hj; have := (unhide HTd).ox j e; omega⟩
                   rintro e wX ⟨rfl, xvX, hstX⟩
                   have hTX := (unhide HTd).left hstX
                   have cX2 : wX.cell? ⟨xk, 2, none⟩ = some (.slice ao x.bs.length cb) := (hstX.turn.cell (p := ⟨xk, 2, none⟩) hxkl (fun hS => hS.elim hap.1 hap.2.2.1)).trans cx2
                   have HSX := hide ((unhide HS0).drew.below (unhide Hslab) hTX.2)))
              | (go_at_call 27
                 go_must (
                   refine (rw_short_yes rb rv _ acc x.bs _ hTX.1.r (unhide HSX) ?hp hd (by omega)).mono ?_
                   case hp => exact fun h0 j hj => ⟨fun e => by have := unhide Hslab h0 j hj; have := hTX.1.br; omega, fun e => by have := unhide Hslab h0 j hj; have := hTX.1.or j e; omega⟩
                   rintro e wR ⟨rfl, rvR, hstR⟩
                   have hTR := hTX.1.right hstR
                   have hbf : Below B W0 wR := Below.trans (b := W0.drew) (below_drewN' (Below.refl B W0) 1) (hTX.2.trans hTR.2)
                   have HF := hide hTR.1)))
            all_goals
              go_wp2
              exact ⟨⟨k + 1, _, _, _, by omega, by omega, by go_num, unhide HF, by simp [sh_length]; omega, hbl0.trans hbf⟩, by simp [intOf]; omega⟩
          · have hd' : 65535 < x.bs.length := by omega
            go_wp2_with fail
            go_region_with (first
              | (go_at_call 16
                 go_must (
                   refine (short_no B _ x.bs _ (unhide HS0).drew hd').mono ?_
                   rintro e wX ⟨rfl, rfl⟩))
              | (go_at_call 27
                 go_must (
                   refine (rw_short_no rb _ x.bs _ (unhide HS0).drew hd').mono ?_
                   rintro e wX ⟨rfl, rfl⟩)))
            all_goals
              go_wp2
              exact ⟨⟨k + 1, _, _, _, by omega, by omega, by go_num, unhide HTd, by omega, hbl0.drew⟩, by simp [intOf]; omega⟩
        · rw [hm]
          clear hm cx1
          have HTd : Hid (TwoW B W0.drew B rb xv rv acc acc) := (unhide HT).drewN 1
          have hcv0 := run_text_of_sees (P := Try.prog) W0.drew 24 9 Try.underlying24 Try.underlying5 Try.underlying9 (unhide HS0).drew
          have hsz : (ByteArray.mk x.bs.toArray).size = x.bs.length := by simp [ByteArray.size]
          have Hsz := hide hsz
          clear hsz
          by_cases hd : x.bs.length ≤ 65535
          · go_wp2_with fail
            go_region_with (first
              | (go_at_call 28
                 go_must (
                   refine (text_yes B xv ⟨x.bs.toArray⟩ acc _ ?hx (by rw [unhide Hsz]; exact hd) (by rw [unhide Hsz]; omega)).mono ?_
                   case hx => exact (unhide HTd).x
                   rintro e wX ⟨rfl, xvX, hstX⟩
                   have hTX := (unhide HTd).left hstX
                   have cX2 : wX.cell? ⟨xk, 2, none⟩ = some (.slice ao x.bs.length cb) := (hstX.turn.cell (p := ⟨xk, 2, none⟩) hxkl (fun hS => hS.elim hap.1 hap.2.2.1)).trans cx2
                   have hcvX := run_text_of_sees (P := Try.prog) wX 24 9 Try.underlying24 Try.underlying5 Try.underlying9 ((unhide HS0).drew.below (unhide Hslab) hTX.2)))
              | (go_at_call 29
                 go_must (
                   refine (rw_text_yes rb rv ⟨x.bs.toArray⟩ acc _ hTX.1.r (by rw [unhide Hsz]; exact hd) (by rw [unhide Hsz]; omega)).mono ?_
                   rintro e wR ⟨rfl, rvR, hstR⟩
                   have hTR := hTX.1.right hstR
                   have hbf : Below B W0 wR := Below.trans (b := W0.drew) (below_drewN' (Below.refl B W0) 1) (hTX.2.trans hTR.2)
                   have HF : Hid (TwoW B wR B rb xvX rvR (acc ++ sh x.bs) (acc ++ sh x.bs)) := hTR.1)))
            all_goals
              go_wp2
              exact ⟨⟨k + 1, _, _, _, by omega, by omega, by go_num, unhide HF, by simp [sh_length]; omega, hbl0.trans hbf⟩, by simp [intOf]; omega⟩
          · have hd' : 65535 < x.bs.length := by omega
            go_wp2_with fail
            go_region_with (first
              | (go_at_call 28
                 go_must (
                   refine (text_no B ⟨x.bs.toArray⟩ _ (by rw [unhide Hsz]; exact hd') (by rw [unhide Hsz]; unfold maxLen; omega)).mono ?_
                   rintro e wX ⟨rfl, htX⟩
                   have hTX := (unhide HTd).kept htX
                   have hbX := htX.below (unhide HTd).bw (fun _ _ h => h)
                   have cX2 : wX.cell? ⟨xk, 2, none⟩ = some (.slice ao x.bs.length cb) := (htX.cell (p := ⟨xk, 2, none⟩) hxkl (fun h => h)).trans cx2
                   have hcvX := run_text_of_sees (P := Try.prog) wX 24 9 Try.underlying24 Try.underlying5 Try.underlying9 ((unhide HS0).drew.below (unhide Hslab) hbX)))
              | (go_at_call 29
                 go_must (
                   refine (rw_text_no rb ⟨x.bs.toArray⟩ _ (by rw [unhide Hsz]; exact hd') (by rw [unhide Hsz]; unfold maxLen; omega)).mono ?_
                   rintro e wR ⟨rfl, htR⟩
                   have hTR := hTX.kept htR
                   have hbf : Below B W0 wR := Below.trans (b := W0.drew) (below_drewN' (Below.refl B W0) 1) (hbX.trans (htR.below hTX.bw (fun _ _ h => h)))
                   have HF := hide hTR)))
            all_goals
              go_wp2
              exact ⟨⟨k + 1, _, _, _, by omega, by omega, by go_num, unhide HF, by omega, hbl0.trans hbf⟩, by simp [intOf]; omega⟩
      · have hend' : xs.length ≤ k ∨ (40 ≤ k ∧ k < xs.length) := by omega
        clear hlt
        rcases hend' with hd | ⟨hd, hd2⟩
        all_goals
          go_wp2_with fail
          go_meet
          case rel => exact ⟨xv, rv, acc, htwo, by omega, hbl1⟩
  case rest =>
    obtain ⟨xv, rv, acc, htwo, hal, hbl1⟩ := hcut
    clear htw hbl Hbk
    have hxl := htwo.x.1.lt
    have hrl := htwo.r.1.lt
    go_wp2_with fail
    refine (bytes_any B xv acc wc htwo.x (by omega)).mono ?_
    rintro e w5 ⟨bv, rfl, ho5, hg5, hk5⟩
    have t5 := turn_of_grown hg5
    have HT5 := hide (htwo.kept t5)
    have hbl5 := hbl1.trans (t5.below htwo.bw (fun _ _ h => h))
    have hbvk : ∀ k, bv.ownBlock = some k → wc.heap.size ≤ k := fun k hk => by
      rcases hk5 with e | e
      · rw [e] at hk; cases hk
      · rw [e] at hk; injection hk with hk; omega
    have hbvr : ∀ k, bv.ownBlock = some k → k ≠ B ∧ k ≠ rb ∧ xv.ownBlock ≠ some k ∧ rv.ownBlock ≠ some k := fun k hk => by
      have h1 := hbvk k hk
      exact ⟨by omega, by omega, fun e => by have := htwo.x.2.1.lt e; omega, fun e => by have := htwo.r.2.1.lt e; omega⟩
    have HR5 := (unhide HT5).r.2.1.sees
    obtain ⟨aoR, cpR, hrv⟩ := (unhide HT5).r.2.1.shape
    have cR : w5.cell? ⟨rb, 0, none⟩ = some (.slice aoR acc.length cpR) := by rw [(unhide HT5).r.1.cell, ← hrv]; rfl
    rw [hrv] at HR5
    have hcvR := fun n => run_text_of_sees (P := Try.prog) (w5.drewN n) 24 9 Try.underlying24 Try.underlying5 Try.underlying9 (show Sees (w5.drewN n) _ _ from HR5)
    have hcvB := fun n => run_text_of_sees (P := Try.prog) (w5.drewN n) 24 9 Try.underlying24 Try.underlying5 Try.underlying9 (show Sees (w5.drewN n) _ _ from ho5.sees)
    have Hown := hide ho5
    have Hbl5 := hide hbl5
    have Hbvr := hide hbvr
    have HgB : Hid (∀ k, bv.ownBlock = some k → ¬ k < B) := fun k hk hlt => by have h1 := hbvk k hk; have h2 := htwo.bw; omega
    obtain ⟨aob, cpb, rfl⟩ := ho5.shape
    have Hrv := hide hrv
    clear ho5 hg5 hk5 t5 hbvk hbvr HR5 hrv htwo hbl1 hbl5 hxl hrl
    go_wp2_with fail
    go_quiet ((fail))
    go_upto_block 3 with fail
    go_cut [8] from 107 to 120 (fun _ w1 => TwoW B w1 B rb xv rv acc acc ∧ Below B w w1)
    case first =>
      by_cases h0 : acc.length = 0
      · have h0' : acc.length ≤ 0 := by omega
        clear h0
        go_wp2_with fail
        go_loop [8] (fun i => i = .int .i64 0) (fun _ => 0)
        case atStart => rfl
        case round =>
          obtain rfl := hrel
          go_wp2_with fail
          go_meet
          case rel => exact ⟨(unhide HT5).drewN _, below_drewN' (unhide Hbl5) _⟩
      · obtain ⟨g, cpb', hsol⟩ := (unhide Hown).solid (by omega)
        simp only [Value.slice.injEq, true_and] at hsol
        obtain ⟨rfl, rfl⟩ := hsol
        have hgne := unhide Hbvr g rfl
        have Hg := hide hgne
        have hgB : Hid (B ≤ g) := hide (Nat.le_of_not_lt (fun hlt => unhide HgB g rfl hlt))
        clear hgne h0 Hbvr hcvR hcvB cR
        go_wp2_with fail
        go_loopw [8] (fun i w1 => ∃ (j : Nat) (zs : List UInt8), j ≤ acc.length ∧ i = .int .i64 j ∧ zs.length = acc.length ∧ Owns w1 (.slice (some ⟨g, 0, none⟩) acc.length cpb) zs ∧ Turn (fun k => k = g) (w5.drewN nq) w1) (fun i _ => acc.length - (intOf i).toNat)
        case atStart => exact ⟨0, acc, Nat.zero_le _, rfl, rfl, unhide Hown, Turn.refl _ _⟩
        case round =>
          obtain ⟨j, zs, hj, rfl, hzl, hoz, htz⟩ := hrel
          by_cases hjl : j < acc.length
          · have hoz' : wr.ownsRow 0 5 1 (.slice (some ⟨g, 0, none⟩) acc.length cpb) acc.length (u8s zs) := hzl ▸ hoz
            have cz : wr.cell? ⟨g, j, none⟩ = some (.int .u8 ((zs[j]'(by omega)).toNat : Int)) := by
              rw [World.ownsRow.cellAt hoz' j (by omega)]
              simp [u8s, List.getElem?_eq_getElem (show j < zs.length by omega)]
            have fz := World.ownsRow.frozenAt hoz' j
            have hst := World.ownsRow.stored hoz' j (.int .u8 (((zs[j]'(by omega)) ^^^ 1).toNat : Int))
            have Hst := hide hst
            have Htz := hide htz
            clear hoz hoz' hst htz
            go_wp2
            simp only [xor_one]
            refine ⟨⟨j + 1, zs.set j ((zs[j]'(by omega)) ^^^ 1), by omega, by go_num, by simp [hzl], ?_, (unhide Htz).grown (unhide Hst).2 (fun k hk => by injection hk with hk; exact .inl hk.symm)⟩, by simp [intOf]; omega⟩
            have h1 := (unhide Hst).1
            rw [u8s_set] at h1
            exact Owns.of h1 (by rw [List.length_set]; exact hzl)
          · have Hfin : Hid (TwoW B wr B rb xv rv acc acc ∧ Below B w wr) := by
              refine ⟨TwoW.keptS ((unhide HT5).drewN nq) htz (fun e => (unhide Hg).1 e.symm) (fun e => (unhide Hg).2.1 e.symm) (fun k hk e => (unhide Hg).2.2.1 (e ▸ hk)) (fun k hk e => (unhide Hg).2.2.2 (e ▸ hk)), ?_⟩
              exact (below_drewN' (unhide Hbl5) nq).trans (htz.below (unhide HT5).bw (fun k hk e => by have := unhide hgB; omega))
            clear hoz htz
            go_wp2_with fail
            go_meet
            case rel => exact unhide Hfin
    case rest =>
      obtain ⟨ht9, hb9⟩ := hcut
      clear hcvR hcvB cR Hown HT5 Hbl5 Hbvr HgB
      have Ht9 := hide ht9
      have HR9 := hide ht9.r.2.1.sees
      rw [unhide Hrv] at HR9
      have cR9 : wc.cell? ⟨rb, 0, none⟩ = some (.slice aoR acc.length cpR) := by rw [ht9.r.1.cell, ← unhide Hrv]; rfl
      have hcv9 := run_text_of_sees (P := Try.prog) wc.drew 24 9 Try.underlying24 Try.underlying5 Try.underlying9 (unhide HR9).drew
      clear ht9
      go_wp2_with fail
      go_region_with ((go_at_call 17
                       go_must (
                         refine (bytes_any B xv acc _ (unhide Ht9).x.drew (by omega)).mono ?_
                         rintro e wB ⟨fv, rfl, hoB, hgB2, _⟩
                         have tB := turn_of_grown hgB2
                         have hcvf := run_text_of_sees (P := Try.prog) wB 24 9 Try.underlying24 Try.underlying5 Try.underlying9 hoB.sees
                         have hcvr := run_text_of_sees (P := Try.prog) wB 24 9 Try.underlying24 Try.underlying5 Try.underlying9 ((unhide HR9).drew.kept tB (fun _ _ h => h))
                         have cRB : wB.cell? ⟨rb, 0, none⟩ = some (.slice aoR acc.length cpR) := (tB.cell (p := ⟨rb, 0, none⟩) (unhide Ht9).r.1.lt (fun h => h)).trans cR9
                         have hbB : Below B w wB := hb9.drew.trans (tB.below (unhide Ht9).bw (fun _ _ h => h))
                         obtain ⟨aof, cpf, rfl⟩ := hoB.shape
                         clear hoB hgB2 tB)))
      all_goals
        go_wp2
        go_ret
        exact ⟨rfl, hbB⟩

end Go.Proofs.Ytppgmcgohmppbaa
