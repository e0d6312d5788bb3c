/- Package event's own: sameDef, Same; slices.Equal of numbers, slices.EqualFunc of nodes, bytes.Equal. -/
import Derived.Test.YthclffafbkeepaaEvM
import Derived.BigQuiet
import Derived.Deep.CutRange
import Derived.Deep.CutBlock
namespace Go.Proofs.Ythclffafbkeepaa
open Go.RowKit

section
variable {Q : Nat → Prop} {w : World} {a b : Value}

theorem ret_boolE {a b : Bool} (h : a = true ↔ b = true) : Ending.returned (.bool a) = .returned (.bool b) := by rw [Bool.eq_iff_iff.2 h]

theorem bytesEqual_any (a b : Value) (x y : List UInt8) (w : World) (ha : Sees w a x) (hb : Sees w b y) :
    Calls Try.prog 31 #[a, b] w fun e w' => e = .returned (.bool (decide (x = y))) ∧ w = w' := by
  have h1 := run_text_of_sees (P := Try.prog) w 22 9 Try.underlying22 Try.underlying5 Try.underlying9 ha
  have h2 := run_text_of_sees (P := Try.prog) w 22 9 Try.underlying22 Try.underlying5 Try.underlying9 hb
  obtain ⟨ao, ac, rfl⟩ := ha.shape
  obtain ⟨bo, bc, rfl⟩ := hb.shape
  clear ha hb
  generalize x.length = n at *
  generalize y.length = m at *
  go_enter Try.func31, Try.ntmps31
  go_wp2
  go_ret
  exact ⟨ret_boolE (by simp), rfl⟩

set_option maxHeartbeats 4000000 in
theorem equalInts_any {xs ys : List Int} (hx : IntsQ Q w a xs) (hy : IntsQ Q w b ys) : Calls Try.prog 48 #[a, b] w fun e w' => e = .returned (.bool (decide (xs = ys))) ∧ Drawn w w' := by
  obtain ⟨ao, ac, rfl, hm⟩ := hx.shape
  obtain ⟨bo, bc, rfl, hm2⟩ := hy.shape
  unfold maxLen at hm hm2
  obtain ⟨res, hres⟩ : ∃ r, r = decide (xs = ys) := ⟨_, rfl⟩
  rw [← hres]
  by_cases hl : xs.length = ys.length
  case neg =>
    have hr : res = false := by rw [hres, decide_eq_false]; rintro rfl; exact hl rfl
    subst hr
    have q1 : ((xs.length : Int) != (ys.length : Int)) = true := by simp only [bne_iff_ne]; omega
    clear hx hy hres
    generalize xs.length = xn at *
    generalize ys.length = yn at *
    go_enter Try.func48, Try.ntmps48
    go_wp2_with fail
    go_ret
    exact ⟨rfl, Drawn.refl _⟩
  obtain ⟨len, hlen⟩ : ∃ n, n = xs.length := ⟨_, rfl⟩
  have H := hide (And.intro hx (And.intro hy (And.intro hl (And.intro hres hlen))))
  rw [← hl, ← hlen]
  rw [← hlen] at hm
  clear hx hy hl hlen hres hm2
  have q0 : ((len : Int) != (len : Int)) = false := by simp
  go_enter Try.func48, Try.ntmps48
  go_wp2_with fail
  go_loopw [5, 13] (fun _ i wr => ∃ n : Nat, i = .int .i64 n ∧ n ≤ len ∧ xs.take n = ys.take n ∧ Drawn w wr) (fun _ i _ => len - (intOf i).toNat)
  case atStart => exact ⟨0, rfl, by omega, by simp, Drawn.refl _⟩
  case round =>
    obtain ⟨n, rfl, hn, htk, hd⟩ := hrel
    have HD := hide hd
    by_cases hlt : n < len
    · have hnx : n < xs.length := by have := (unhide H).2.2.2.2; omega
      have hny : n < ys.length := by have := (unhide H).2.2.1; omega
      have hx := (unhide H).1.kept (hd.turn (fun _ => False)) (fun _ _ e => e)
      have hy := (unhide H).2.1.kept (hd.turn (fun _ => False)) (fun _ _ e => e)
      obtain ⟨xa, rfl, a0⟩ := hx.at n hnx
      obtain ⟨ya, rfl, b0⟩ := hy.at n hny
      have htk2 : xs[n] = ys[n] → xs.take (n + 1) = ys.take (n + 1) := fun e => by
        rw [List.take_succ_eq_append_getElem hnx, List.take_succ_eq_append_getElem hny, htk, e]
      have hne2 : xs[n] ≠ ys[n] → res = false := fun e => by
        rw [(unhide H).2.2.2.1, decide_eq_false]
        rintro rfl
        exact e rfl
      generalize xs[n] = x at *
      generalize ys[n] = y at *
      have q1 : (n : Int) < len := by omega
      clear hx hy htk hd
      by_cases hxy : x = y
      · subst hxy
        have Hk := hide (htk2 rfl)
        have q2 : (x != x) = false := by simp
        clear htk2 hne2
        go_wp2_with fail
        go_quiet ((fail))
        go_wp2_with fail
        go_roundw
        case rel => exact ⟨n + 1, by go_num, by omega, unhide Hk, by obtain ⟨m, e⟩ := unhide HD; exact ⟨m + nq, by rw [e, World.drewN_drewN]⟩⟩
        case measure => simp [intOf]; omega
      · have hr := hne2 hxy
        subst hr
        have q2 : (x != y) = true := by simpa using hxy
        clear htk2 hne2
        go_wp2_with fail
        go_quiet ((fail))
        go_wp2_with fail
        go_ret
        exact ⟨rfl, by obtain ⟨m, e⟩ := unhide HD; exact ⟨m + nq, by rw [e, World.drewN_drewN]⟩⟩
    · obtain rfl : n = len := by omega
      have q1 : ¬ (n : Int) < n := by omega
      have hr : res = true := by
        have h5 := (unhide H).2.2.2.2
        have h3 := (unhide H).2.2.1
        rw [(unhide H).2.2.2.1, decide_eq_true]
        rw [List.take_of_length_le (by omega), List.take_of_length_le (by omega)] at htk
        exact htk
      clear H htk
      subst hr
      go_wp2_with fail
      go_ret
      exact ⟨rfl, hd⟩

/-- A node's value. -/
def dfV (d : Df) (nv : Value) : Value := .agg #[nv, .int .i64 d.2.1, .int .i64 d.2.2]

set_option maxHeartbeats 4000000 in
theorem sameDef_any {x y : Df} (hx : IntsQ Q w a x.1) (hy : IntsQ Q w b y.1) : Calls Try.prog 36 #[dfV x a, dfV y b] w fun e w' => e = .returned (.bool (decide (x = y))) ∧ Turn (fun _ => False) w w' := by
  obtain ⟨res, hres⟩ : ∃ r, r = decide (x = y) := ⟨_, rfl⟩
  rw [← hres]
  obtain ⟨xs, x1, x2⟩ := x
  obtain ⟨ys, y1, y2⟩ := y
  unfold dfV
  simp only at *
  obtain ⟨ao, ac, ha, -⟩ := hx.shape
  obtain ⟨bo, bc, hb, -⟩ := hy.shape
  have tz : Turn (fun _ => False) w ((w.alloc (.cells #[a, .int .i64 x1, .int .i64 x2] 45)).alloc (.cells #[b, .int .i64 y1, .int .i64 y2] 45)) := ((Turn.refl _ _).alloc _).alloc _
  have hA : At 45 ((w.alloc (.cells #[a, .int .i64 x1, .int .i64 x2] 45)).alloc (.cells #[b, .int .i64 y1, .int .i64 y2] 45)) w.heap.size #[a, .int .i64 x1, .int .i64 x2] := (At.new _ _ _).kept ((Turn.refl (fun _ => False) _).alloc _) (fun e => e)
  have hB : At 45 ((w.alloc (.cells #[a, .int .i64 x1, .int .i64 x2] 45)).alloc (.cells #[b, .int .i64 y1, .int .i64 y2] 45)) (w.heap.size + 1) #[b, .int .i64 y1, .int .i64 y2] := by
    have := At.new 45 (w.alloc (.cells #[a, .int .i64 x1, .int .i64 x2] 45)) #[b, .int .i64 y1, .int .i64 y2]
    simpa using this
  have KE := hide (equalInts_any (hx.kept tz (fun _ _ e => e)) (hy.kept tz (fun _ _ e => e)))
  have TZ := hide tz
  subst ha hb
  clear hx hy tz
  generalize xs.length = xn at *
  generalize ys.length = yn at *
  go_enter Try.func36, Try.ntmps36
  go_upto_region 1 with fail
  generalize (w.alloc (.cells #[.slice ao xn ac, .int .i64 x1, .int .i64 x2] 45)).alloc (.cells #[.slice bo yn bc, .int .i64 y1, .int .i64 y2] 45) = wz at *
  have a0 : wz.cell? ⟨w.heap.size, 0, none⟩ = some (.slice ao xn ac) := hA.cell 0
  have a1 : wz.cell? ⟨w.heap.size, 1, none⟩ = some (.int .i64 x1) := hA.cell 1
  have a2 : wz.cell? ⟨w.heap.size, 2, none⟩ = some (.int .i64 x2) := hA.cell 2
  have b0 : wz.cell? ⟨w.heap.size + 1, 0, none⟩ = some (.slice bo yn bc) := hB.cell 0
  have b1 : wz.cell? ⟨w.heap.size + 1, 1, none⟩ = some (.int .i64 y1) := hB.cell 1
  have b2 : wz.cell? ⟨w.heap.size + 1, 2, none⟩ = some (.int .i64 y2) := hB.cell 2
  clear hA hB
  by_cases k1 : x1 = y1
  case neg =>
    have hr : res = false := by rw [hres]; simp [k1]
    have q1 : (x1 == y1) = false := by simpa using k1
    clear hres
    subst hr
    go_wp2_with fail
    go_ret
    exact ⟨rfl, unhide TZ⟩
  subst k1
  have q1 : (x1 == x1) = true := by simp
  by_cases k2 : x2 = y2
  case neg =>
    have hr : res = false := by rw [hres]; simp [k2]
    have q2 : (x2 == y2) = false := by simpa using k2
    clear hres
    subst hr
    go_wp2_with fail
    go_ret
    exact ⟨rfl, unhide TZ⟩
  subst k2
  have q2 : (x2 == x2) = true := by simp
  have hr : res = decide (xs = ys) := by rw [hres]; simp
  rw [← hr] at KE
  clear hres hr
  go_wp2_with (go_at_call 48; refine (unhide KE).mono ?_; rintro e w2 ⟨rfl, hd⟩)
  go_ret
  exact ⟨rfl, (unhide TZ).trans (hd.turn _)⟩

set_option maxHeartbeats 8000000 in
set_option maxRecDepth 100000 in
theorem equalDefs_any {xs ys : List Df} (hx : DefsQ Q w a xs) (hy : DefsQ Q w b ys) : Calls Try.prog 35 #[a, b, .func (.func 36) #[] #[]] w fun e w' => e = .returned (.bool (decide (xs = ys))) ∧ Turn (fun _ => False) w w' := by
  obtain ⟨ao, ac, rfl, hm⟩ := hx.shape
  obtain ⟨bo, bc, rfl, hm2⟩ := hy.shape
  unfold maxLen at hm hm2
  obtain ⟨res, hres⟩ : ∃ r, r = decide (xs = ys) := ⟨_, rfl⟩
  rw [← hres]
  by_cases hl : xs.length = ys.length
  case neg =>
    have hr : res = false := by rw [hres, decide_eq_false]; rintro rfl; exact hl rfl
    subst hr
    have q1 : ((xs.length : Int) != (ys.length : Int)) = true := by simp only [bne_iff_ne]; omega
    clear hx hy hres
    generalize xs.length = xn at *
    generalize ys.length = yn at *
    go_enter Try.func35, Try.ntmps35
    go_wp2_with fail
    go_ret
    exact ⟨rfl, Turn.refl _ _⟩
  obtain ⟨len, hlen⟩ : ∃ n, n = xs.length := ⟨_, rfl⟩
  have H := hide (And.intro hx (And.intro hy (And.intro hl (And.intro hres hlen))))
  rw [← hl, ← hlen]
  rw [← hlen] at hm
  clear hx hy hl hlen hres hm2
  have q0 : ((len : Int) != (len : Int)) = false := by simp
  go_enter Try.func35, Try.ntmps35
  go_wp2_with fail
  go_loopw [7, 8, 9, 17] (fun _ _ _ i wr => ∃ n : Nat, i = .int .i64 n ∧ n ≤ len ∧ xs.take n = ys.take n ∧ Turn (fun _ => False) w wr) (fun _ _ _ i _ => len - (intOf i).toNat)
  case atStart => exact ⟨0, rfl, by omega, by simp, Turn.refl _ _⟩
  case round =>
    obtain ⟨n, rfl, hn, htk, hd⟩ := hrel
    have HD := hide hd
    by_cases hlt : n < len
    · have hnx : n < xs.length := by have := (unhide H).2.2.2.2; omega
      have hny : n < ys.length := by have := (unhide H).2.2.1; omega
      have hx := (unhide H).1.kept hd (fun _ _ e => e)
      have hy := (unhide H).2.1.kept hd (fun _ _ e => e)
      obtain ⟨g, o, nv, rfl, a0, a1, a2, hxi⟩ := hx.at n hnx
      obtain ⟨g2, o2, nv2, rfl, b0, b1, b2, hyi⟩ := hy.at n hny
      have htk2 : xs[n] = ys[n] → xs.take (n + 1) = ys.take (n + 1) := fun e => by
        rw [List.take_succ_eq_append_getElem hnx, List.take_succ_eq_append_getElem hny, htk, e]
      have hne2 : xs[n] ≠ ys[n] → res = false := fun e => by
        rw [(unhide H).2.2.2.1, decide_eq_false]
        rintro rfl
        exact e rfl
      generalize xs[n] = x at *
      generalize ys[n] = y at *
      obtain ⟨xi, x1, x2⟩ := x
      obtain ⟨yi, y1, y2⟩ := y
      simp only at a1 a2 b1 b2 hxi hyi
      have q1 : (n : Int) < len := by omega
      obtain ⟨no, nc, rfl, -⟩ := hxi.shape
      obtain ⟨no2, nc2, rfl, -⟩ := hyi.shape
      have t1 : Turn (fun _ => False) wr (wr.alloc (.cells #[.slice no xi.length nc, .int .i64 x1, .int .i64 x2] 45)) := (Turn.refl _ _).alloc _
      have e0 : (wr.alloc (.cells #[.slice no xi.length nc, .int .i64 x1, .int .i64 x2] 45)).cell? ⟨g2, o2 + n * 3, none⟩ = some (.slice no2 yi.length nc2) := (t1.cell (p := ⟨g2, o2 + n * 3, none⟩) (World.block_lt_of_cell? wr ⟨g2, o2 + n * 3, none⟩ b0) (fun e => e)).trans b0
      have e1 : (wr.alloc (.cells #[.slice no xi.length nc, .int .i64 x1, .int .i64 x2] 45)).cell? ⟨g2, o2 + n * 3 + 1, none⟩ = some (.int .i64 y1) := (t1.cell (p := ⟨g2, o2 + n * 3 + 1, none⟩) (World.block_lt_of_cell? wr ⟨g2, o2 + n * 3 + 1, none⟩ b1) (fun e => e)).trans b1
      have e2 : (wr.alloc (.cells #[.slice no xi.length nc, .int .i64 x1, .int .i64 x2] 45)).cell? ⟨g2, o2 + n * 3 + 2, none⟩ = some (.int .i64 y2) := (t1.cell (p := ⟨g2, o2 + n * 3 + 2, none⟩) (World.block_lt_of_cell? wr ⟨g2, o2 + n * 3 + 2, none⟩ b2) (fun e => e)).trans b2
      have t2 : Turn (fun _ => False) wr ((wr.alloc (.cells #[.slice no xi.length nc, .int .i64 x1, .int .i64 x2] 45)).alloc (.cells #[.slice no2 yi.length nc2, .int .i64 y1, .int .i64 y2] 45)) := t1.alloc _
      have hA : At 45 ((wr.alloc (.cells #[.slice no xi.length nc, .int .i64 x1, .int .i64 x2] 45)).alloc (.cells #[.slice no2 yi.length nc2, .int .i64 y1, .int .i64 y2] 45)) wr.heap.size #[.slice no xi.length nc, .int .i64 x1, .int .i64 x2] := (At.new _ _ _).kept ((Turn.refl (fun _ => False) _).alloc _) (fun e => e)
      have hB : At 45 ((wr.alloc (.cells #[.slice no xi.length nc, .int .i64 x1, .int .i64 x2] 45)).alloc (.cells #[.slice no2 yi.length nc2, .int .i64 y1, .int .i64 y2] 45)) (wr.heap.size + 1) #[.slice no2 yi.length nc2, .int .i64 y1, .int .i64 y2] := by
        have := At.new 45 (wr.alloc (.cells #[.slice no xi.length nc, .int .i64 x1, .int .i64 x2] 45)) #[.slice no2 yi.length nc2, .int .i64 y1, .int .i64 y2]
        simpa using this
      have KS := hide (sameDef_any (x := (xi, x1, x2)) (y := (yi, y1, y2)) (hxi.kept t2 (fun _ _ e => e)) (hyi.kept t2 (fun _ _ e => e)))
      unfold dfV at KS
      simp only at KS
      have T2 := hide t2
      generalize xi.length = xin at *
      generalize yi.length = yin at *
      have c0 := hA.cell 0
      have c1 := hA.cell 1
      have c2 := hA.cell 2
      have d0 := hB.cell 0
      have d1 := hB.cell 1
      have d2 := hB.cell 2
      clear hx hy htk hd hxi hyi t1 t2 hA hB
      rcases hxy : decide ((xi, x1, x2) = (yi, y1, y2)) with _ | _
      · have hr := hne2 (by simpa using hxy)
        subst hr
        rw [hxy] at KS
        clear htk2 hne2 hxy
        go_wp2_with (go_at_call 36; refine (unhide KS).mono ?_; rintro e w2 ⟨rfl, t3⟩)
        go_ret
        exact ⟨rfl, (unhide HD).trans ((unhide T2).trans t3)⟩
      · have Hk := hide (htk2 (by simpa using hxy))
        rw [hxy] at KS
        clear htk2 hne2 hxy
        go_wp2_with (go_at_call 36; refine (unhide KS).mono ?_; rintro e w2 ⟨rfl, t3⟩)
        go_roundw
        case rel => exact ⟨n + 1, by go_num, by omega, unhide Hk, (unhide HD).trans ((unhide T2).trans t3)⟩
        case measure => simp [intOf]; omega
    · obtain rfl : n = len := by omega
      have q1 : ¬ (n : Int) < n := by omega
      have hr : res = true := by
        have h5 := (unhide H).2.2.2.2
        have h3 := (unhide H).2.2.1
        rw [(unhide H).2.2.2.1, decide_eq_true]
        rw [List.take_of_length_le (by omega), List.take_of_length_le (by omega)] at htk
        exact htk
      clear H htk
      subst hr
      go_wp2_with fail
      go_ret
      exact ⟨rfl, hd⟩

end

end Go.Proofs.Ythclffafbkeepaa
