/- The reference's Common. -/
import Derived.Test.YtehbefhpijifjaaItN
import Derived.BigQuiet
namespace Go.Proofs.Ytehbefhpijifjaa
open Go.RowKit

/-- Where the reference's Common stands. -/
def RcAt (res : It) (X Y : List Int) (ob : Nat) (w4 : World) (xn yn n : Nat) (wr : World) : Prop :=
  ∃ c1 c2 : Int, n ≤ xn ∧ n ≤ yn ∧ Hid (res = comR n (c1, c2) (X.drop n) (Y.drop n)) ∧ At 23 wr ob #[.int .i64 c1, .int .i64 c2] ∧ Turn (fun k => k = ob) w4 wr

section
variable {w : World} {v v2 : Value} {l m : List It}

set_option maxHeartbeats 8000000 in
theorem refCommon_any (h : ISees w v l) (k : ISees w v2 m) (hu : Up 0 l) (hv : Up 0 m) (hl : l.length ≤ 100000000) (hm : m.length ≤ 100000000) (hl2 : (expd 0 l).length ≤ 100000000) (hm2 : (expd 0 m).length ≤ 100000000) :
    Calls Try.prog 20 #[v, v2] w fun e w' => e = .returned (itV (comR 0 (0, 0) (expd 0 l) (expd 0 m))) ∧ Turn (fun _ => False) w w' := by
  obtain ⟨ao, cap, rfl⟩ := h.shape
  obtain ⟨ao2, cap2, rfl⟩ := k.shape
  have ta : Turn (fun _ => False) w (w.alloc (.cells #[.int .i64 0, .int .i64 0] 23)) := (Turn.refl _ _).alloc _
  have hA : At 23 (w.alloc (.cells #[.int .i64 0, .int .i64 0] 23)) w.heap.size #[.int .i64 0, .int .i64 0] := At.new _ _ _
  have HV1 := hide (versions_any (h.kept ta (fun _ _ e => e)) hu hl hl2)
  have HV2 := hide (show ∀ w', Turn (fun _ => False) w w' → _ from fun w' t => versions_any (k.kept t (fun _ _ e => e)) hv hm hm2)
  obtain ⟨X, hX⟩ : ∃ X, X = expd 0 l := ⟨_, rfl⟩
  obtain ⟨Y, hY⟩ : ∃ Y, Y = expd 0 m := ⟨_, rfl⟩
  obtain ⟨res, hres⟩ : ∃ r, r = comR 0 (0, 0) (expd 0 l) (expd 0 m) := ⟨_, rfl⟩
  rw [← hres]
  rw [← hX, ← hY] at hres
  rw [← hX] at HV1 hl2
  rw [← hY] at HV2 hm2
  have R := hide (And.intro hres (And.intro hl2 hm2))
  have HA := hide (And.intro hA ta)
  clear h k hu hv hl hm hX hY hres hA ta hl2 hm2
  go_enter Try.func20, Try.ntmps20
  go_wp2_with fail
  refine (unhide HV1).mono ?_
  rintro e w2 ⟨vx, rfl, mx⟩
  obtain ⟨xo, xc, ex⟩ := mx.shape
  obtain ⟨xn, hxn⟩ : ∃ n, n = X.length := ⟨_, rfl⟩
  have T2 := hide ((unhide HA).2.trans mx.2.1)
  have HV2' := hide (unhide HV2 _ (unhide T2))
  have MX := hide mx
  have HXn := hide hxn
  rw [← hxn] at ex
  clear mx HV1 HV2 hxn
  subst ex
  go_wp2_with fail
  refine (unhide HV2').mono ?_
  rintro e w3 ⟨vy, rfl, my⟩
  obtain ⟨yo, yc, ey⟩ := my.shape
  obtain ⟨yn, hyn⟩ : ∃ n, n = Y.length := ⟨_, rfl⟩
  have T3 := hide ((unhide T2).trans my.2.1)
  have M2 := hide (And.intro ((unhide MX).goes my.2.1) my)
  have HYn := hide hyn
  have HA3 := hide ((unhide HA).1.kept ((unhide MX).2.1.trans my.2.1) (fun e => e))
  rw [← hyn] at ey
  clear my HV2' hyn MX HA T2
  subst ey
  go_wp2_with fail
  have t4 := (unhide T3).alloc (.cells #[.int .i64 0, .int .i64 0] 23)
  have hA4 := (unhide HA3).kept ((Turn.refl (fun _ => False) w3).alloc (.cells #[.int .i64 0, .int .i64 0] 23)) (fun e => e)
  have hB4 : At 23 (w3.alloc (.cells #[.int .i64 0, .int .i64 0] 23)) w3.heap.size #[.int .i64 0, .int .i64 0] := At.new _ _ _
  have hX4 := (unhide M2).1.goes ((Turn.refl (fun _ => False) w3).alloc (.cells #[.int .i64 0, .int .i64 0] 23))
  have hY4 := (unhide M2).2.goes ((Turn.refl (fun _ => False) w3).alloc (.cells #[.int .i64 0, .int .i64 0] 23))
  have hne : w.heap.size < w3.heap.size := (unhide HA3).lt
  have ta3 : Turn (fun _ => False) w3 (w3.alloc (.cells #[.int .i64 0, .int .i64 0] 23)) := (Turn.refl _ _).alloc _
  have HXat := hide (show ∀ k (hk : k < X.length), ∃ g, xo = some ⟨g, 0, none⟩ ∧ ∀ wr, Turn (fun j => j = w3.heap.size) (w3.alloc (.cells #[.int .i64 0, .int .i64 0] 23)) wr → wr.cell? ⟨g, k, none⟩ = some (.int .i64 X[k]) from fun k hk => by
    obtain ⟨g, e, hc⟩ := (unhide M2).1.at k hk
    exact ⟨g, e, fun wr t => ((ta3.trans' t (fun i hi e => by omega)).cell (p := ⟨g, k, none⟩) (World.block_lt_of_cell? w3 ⟨g, k, none⟩ hc) (fun e => e)).trans hc⟩)
  have HYat := hide (show ∀ k (hk : k < Y.length), ∃ g, yo = some ⟨g, 0, none⟩ ∧ ∀ wr, Turn (fun j => j = w3.heap.size) (w3.alloc (.cells #[.int .i64 0, .int .i64 0] 23)) wr → wr.cell? ⟨g, k, none⟩ = some (.int .i64 Y[k]) from fun k hk => by
    obtain ⟨g, e, hc⟩ := (unhide M2).2.at k hk
    exact ⟨g, e, fun wr t => ((ta3.trans' t (fun i hi e => by omega)).cell (p := ⟨g, k, none⟩) (World.block_lt_of_cell? w3 ⟨g, k, none⟩ hc) (fun e => e)).trans hc⟩)
  clear ta3
  generalize w3.alloc (.cells #[.int .i64 0, .int .i64 0] 23) = w4 at *
  generalize w3.heap.size = ob at *
  have W4 := hide (And.intro t4 (And.intro hA4 (And.intro hB4 (And.intro hX4 hY4))))
  have Hne := hide hne
  clear t4 hA4 hB4 hX4 hY4 hne M2 HA3 T3
  go_loopw [8] (fun i wr => ∃ n : Nat, i = .int .i64 n ∧ RcAt res X Y ob w4 xn yn n wr) (fun i _ => xn - (intOf i).toNat)
  case atStart => exact ⟨0, rfl, 0, 0, by omega, by omega, hide (by rw [(unhide R).1]; simp), (unhide W4).2.2.1, Turn.refl _ _⟩
  case round =>
    obtain ⟨n, rfl, c1, c2, hn1, hn2, hr, hB, ht⟩ := hrel
    have hA := (unhide W4).2.1.kept ht (fun e => by have := unhide Hne; omega)
    have htw : Turn (fun _ => False) w wr := (unhide W4).1.trans' ht (fun i hi e => by have := unhide Hne; omega)
    have exit : ∀ nq, At 23 (wr.drewN nq) ob #[.int .i64 c1, .int .i64 c2] ∧ At 23 (wr.drewN nq) w.heap.size #[.int .i64 0, .int .i64 0] ∧ Turn (fun _ => False) w (wr.drewN nq) := fun nq =>
      ⟨hB.kept (turn_drewNI (fun _ => False) wr nq) (fun e => e), hA.kept (turn_drewNI (fun _ => False) wr nq) (fun e => e), htw.trans (turn_drewNI _ wr nq)⟩
    have EX := hide exit
    by_cases hx : n < xn
    case neg =>
      have hres : res = (c1, c2) := by
        have h1 := unhide hr
        rw [List.drop_of_length_le (by have := unhide HXn; omega)] at h1
        simpa [comR] using h1
      go_wp2_with fail
      go_quiet ((fail))
      obtain ⟨hB2, h02, ht2⟩ := unhide EX nq
      clear hB hA ht htw exit
      generalize wr.drewN nq = wq at *
      have y0 : wq.cell? ⟨ob, 0, none⟩ = some (.int .i64 c1) := hB2.cell 0
      have y1 : wq.cell? ⟨ob, 1, none⟩ = some (.int .i64 c2) := hB2.cell 1
      have y2 : wq.cell? ⟨w.heap.size, 0, none⟩ = some (.int .i64 0) := h02.cell 0
      have y3 : wq.cell? ⟨w.heap.size, 1, none⟩ = some (.int .i64 0) := h02.cell 1
      have z0 := h02.frozen 0
      have z1 := h02.frozen 1
      go_wp2_with fail
      refine bodyPost_ret (results_cell_row rfl _ _ w.heap.size 23 _ (0, 0) _ rfl ((h02.set 0 _).set 1 _) Try.underlying23 rfl (by kernel_rfl)) rfl ?_
      exact ⟨by rw [hres]; rfl, (ht2.setCell (.inr (Nat.le_refl _)) _).setCell (.inr (Nat.le_refl _)) _⟩
    obtain ⟨g, rfl, hca⟩ := unhide HXat n (by have := unhide HXn; omega)
    have a0 := hca wr ht
    by_cases hy : n < yn
    case neg =>
      have hres : res = (c1, c2) := by
        have h1 := unhide hr
        rw [List.drop_of_length_le (l := Y) (by have := unhide HYn; omega), comR_nil] at h1
        exact h1
      clear hca
      go_wp2_with fail
      go_quiet ((fail))
      obtain ⟨hB2, h02, ht2⟩ := unhide EX nq
      clear hB hA ht htw exit
      generalize wr.drewN nq = wq at *
      have y0 : wq.cell? ⟨ob, 0, none⟩ = some (.int .i64 c1) := hB2.cell 0
      have y1 : wq.cell? ⟨ob, 1, none⟩ = some (.int .i64 c2) := hB2.cell 1
      have y2 : wq.cell? ⟨w.heap.size, 0, none⟩ = some (.int .i64 0) := h02.cell 0
      have y3 : wq.cell? ⟨w.heap.size, 1, none⟩ = some (.int .i64 0) := h02.cell 1
      have z0 := h02.frozen 0
      have z1 := h02.frozen 1
      go_wp2_with fail
      refine bodyPost_ret (results_cell_row rfl _ _ w.heap.size 23 _ (0, 0) _ rfl ((h02.set 0 _).set 1 _) Try.underlying23 rfl (by kernel_rfl)) rfl ?_
      exact ⟨by rw [hres]; rfl, (ht2.setCell (.inr (Nat.le_refl _)) _).setCell (.inr (Nat.le_refl _)) _⟩
    obtain ⟨g2, rfl, hcb⟩ := unhide HYat n (by have := unhide HYn; omega)
    have b0 := hcb wr ht
    have h1 := unhide hr
    rw [List.drop_eq_getElem_cons (l := X) (i := n) (by have := unhide HXn; omega), List.drop_eq_getElem_cons (l := Y) (i := n) (by have := unhide HYn; omega)] at h1
    have hxX : n < X.length := by have := unhide HXn; omega
    have hyY : n < Y.length := by have := unhide HYn; omega
    obtain ⟨x, hxe⟩ : ∃ x, x = X[n] := ⟨_, rfl⟩
    obtain ⟨y, hye⟩ : ∃ y, y = Y[n] := ⟨_, rfl⟩
    rw [← hxe] at h1 a0
    rw [← hye] at h1 b0
    simp only [comR] at h1
    by_cases hxy : x = y
    case neg =>
      have hres : res = (c1, c2) := by rw [h1, if_neg hxy]
      have q3 : (x == y) = false := by simpa using hxy
      clear hca hcb h1 hxe hye
      go_wp2_with fail
      go_quiet ((fail))
      obtain ⟨hB2, h02, ht2⟩ := unhide EX nq
      clear hB hA ht htw exit
      generalize wr.drewN nq = wq at *
      have y0 : wq.cell? ⟨ob, 0, none⟩ = some (.int .i64 c1) := hB2.cell 0
      have y1 : wq.cell? ⟨ob, 1, none⟩ = some (.int .i64 c2) := hB2.cell 1
      have y2 : wq.cell? ⟨w.heap.size, 0, none⟩ = some (.int .i64 0) := h02.cell 0
      have y3 : wq.cell? ⟨w.heap.size, 1, none⟩ = some (.int .i64 0) := h02.cell 1
      have z0 := h02.frozen 0
      have z1 := h02.frozen 1
      go_wp2_with fail
      refine bodyPost_ret (results_cell_row rfl _ _ w.heap.size 23 _ (0, 0) _ rfl ((h02.set 0 _).set 1 _) Try.underlying23 rfl (by kernel_rfl)) rfl ?_
      exact ⟨by rw [hres]; rfl, (ht2.setCell (.inr (Nat.le_refl _)) _).setCell (.inr (Nat.le_refl _)) _⟩
    case pos =>
      subst hxy
      rw [if_pos rfl] at h1
      have q3 : (x == x) = true := by simp
      have H1 := hide h1
      have HXY := hide (And.intro hxX hyY)
      clear hca hcb h1 hxe hye hxX hyY
      go_wp2_with fail
      go_quiet ((fail))
      obtain ⟨hB2, -, -⟩ := unhide EX nq
      have t2 := ht.trans (turn_drewNI _ wr nq)
      have a2 := ((turn_drewNI (fun _ => False) wr nq).cell (p := ⟨g, n, none⟩) (World.block_lt_of_cell? wr ⟨g, n, none⟩ a0) (fun e => e)).trans a0
      clear hB hA ht htw exit EX a0 b0
      generalize wr.drewN nq = wq at *
      have y0 : wq.cell? ⟨ob, 0, none⟩ = some (.int .i64 c1) := hB2.cell 0
      have y1 : wq.cell? ⟨ob, 1, none⟩ = some (.int .i64 c2) := hB2.cell 1
      have z0 := hB2.frozen 0
      have z1 := hB2.frozen 1
      have hfin : At 23 ((wq.setCell ⟨ob, 0, none⟩ (.int .i64 ((n : Int) + 1))).setCell ⟨ob, 1, none⟩ (.int .i64 x)) ob #[.int .i64 ((n : Int) + 1), .int .i64 x] := (hB2.set 0 _).set 1 _
      have HF := hide (And.intro hfin ((t2.setCell (p := ⟨ob, 0, none⟩) (.inl rfl) (.int .i64 ((n : Int) + 1))).setCell (p := ⟨ob, 1, none⟩) (.inl rfl) (.int .i64 x)))
      clear hfin t2 hB2
      have hnb : n ≤ 100000000 := by have := (unhide R).2.1; have := unhide HXn; omega
      go_wp2_with fail
      go_roundw
      case rel => exact ⟨n + 1, by go_num, (n : Int) + 1, x, by omega, by omega, hide (by have := unhide H1; simpa using this), (unhide HF).1, (unhide HF).2⟩
      case measure => simp [intOf]; omega

end

end Go.Proofs.Ytehbefhpijifjaa
