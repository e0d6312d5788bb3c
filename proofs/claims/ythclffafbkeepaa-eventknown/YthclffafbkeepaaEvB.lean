/- Package event's own Same. -/
import Derived.Test.YthclffafbkeepaaEvT
namespace Go.Proofs.Ythclffafbkeepaa
open Go.RowKit

section
variable {Q : Nat → Prop} {w : World}

set_option maxHeartbeats 8000000 in
set_option maxRecDepth 100000 in
theorem evSame_any {x y : EvP} {dv fv dv2 fv2 : Value} (hx : EvQ Q w dv fv x) (hy : EvQ Q w dv2 fv2 y) : Calls Try.prog 19 #[evV x dv fv, evV y dv2 fv2] w fun e w' => e = .returned (.bool (sameE x y)) ∧ Turn (fun _ => False) w w' := by
  obtain ⟨res, hres⟩ : ∃ r, r = sameE x y := ⟨_, rfl⟩
  rw [← hres]
  obtain ⟨xi, xv, xt, xk, xd, xn, xs, xb, xf⟩ := x
  obtain ⟨yi, yv, yt, yk, yd, yn, ys, yb, yf⟩ := y
  unfold evV
  simp only
  unfold sameE at hres
  simp only at hres
  obtain ⟨do1, dc1, hd1⟩ := hx.data.shape
  obtain ⟨do2, dc2, hd2⟩ := hy.data.shape
  obtain ⟨fo1, fc1, hf1, -⟩ := hx.defs.shape
  obtain ⟨fo2, fc2, hf2, -⟩ := hy.defs.shape
  simp only at hd1 hd2 hf1 hf2
  subst hd1 hd2 hf1 hf2
  go_enter Try.func19, Try.ntmps19
  go_upto_region 1 with fail
  have tz : Turn (fun _ => False) w ((w.alloc (.cells #[.int .i64 xi, .int .i64 xv, .int .i64 xt, .int .i64 xk, .int .i64 xd, .int .i64 xn, .string xs, .slice do1 xb.length dc1, .slice fo1 xf.length fc1] 25)).alloc (.cells #[.int .i64 yi, .int .i64 yv, .int .i64 yt, .int .i64 yk, .int .i64 yd, .int .i64 yn, .string ys, .slice do2 yb.length dc2, .slice fo2 yf.length fc2] 25)) := ((Turn.refl _ _).alloc _).alloc _
  have hA : At 25 ((w.alloc (.cells #[.int .i64 xi, .int .i64 xv, .int .i64 xt, .int .i64 xk, .int .i64 xd, .int .i64 xn, .string xs, .slice do1 xb.length dc1, .slice fo1 xf.length fc1] 25)).alloc (.cells #[.int .i64 yi, .int .i64 yv, .int .i64 yt, .int .i64 yk, .int .i64 yd, .int .i64 yn, .string ys, .slice do2 yb.length dc2, .slice fo2 yf.length fc2] 25)) w.heap.size #[.int .i64 xi, .int .i64 xv, .int .i64 xt, .int .i64 xk, .int .i64 xd, .int .i64 xn, .string xs, .slice do1 xb.length dc1, .slice fo1 xf.length fc1] := (At.new _ _ _).kept ((Turn.refl (fun _ => False) _).alloc _) (fun e => e)
  have hB : At 25 ((w.alloc (.cells #[.int .i64 xi, .int .i64 xv, .int .i64 xt, .int .i64 xk, .int .i64 xd, .int .i64 xn, .string xs, .slice do1 xb.length dc1, .slice fo1 xf.length fc1] 25)).alloc (.cells #[.int .i64 yi, .int .i64 yv, .int .i64 yt, .int .i64 yk, .int .i64 yd, .int .i64 yn, .string ys, .slice do2 yb.length dc2, .slice fo2 yf.length fc2] 25)) (w.heap.size + 1) #[.int .i64 yi, .int .i64 yv, .int .i64 yt, .int .i64 yk, .int .i64 yd, .int .i64 yn, .string ys, .slice do2 yb.length dc2, .slice fo2 yf.length fc2] := by
    have := At.new 25 (w.alloc (.cells #[.int .i64 xi, .int .i64 xv, .int .i64 xt, .int .i64 xk, .int .i64 xd, .int .i64 xn, .string xs, .slice do1 xb.length dc1, .slice fo1 xf.length fc1] 25)) #[.int .i64 yi, .int .i64 yv, .int .i64 yt, .int .i64 yk, .int .i64 yd, .int .i64 yn, .string ys, .slice do2 yb.length dc2, .slice fo2 yf.length fc2]
    simpa using this
  generalize (w.alloc (.cells #[.int .i64 xi, .int .i64 xv, .int .i64 xt, .int .i64 xk, .int .i64 xd, .int .i64 xn, .string xs, .slice do1 xb.length dc1, .slice fo1 xf.length fc1] 25)).alloc (.cells #[.int .i64 yi, .int .i64 yv, .int .i64 yt, .int .i64 yk, .int .i64 yd, .int .i64 yn, .string ys, .slice do2 yb.length dc2, .slice fo2 yf.length fc2] 25) = wz at *
  have a0 : wz.cell? ⟨w.heap.size, 0, none⟩ = some (.int .i64 xi) := hA.cell 0
  have a1 : wz.cell? ⟨w.heap.size, 1, none⟩ = some (.int .i64 xv) := hA.cell 1
  have a2 : wz.cell? ⟨w.heap.size, 2, none⟩ = some (.int .i64 xt) := hA.cell 2
  have a3 : wz.cell? ⟨w.heap.size, 3, none⟩ = some (.int .i64 xk) := hA.cell 3
  have a4 : wz.cell? ⟨w.heap.size, 4, none⟩ = some (.int .i64 xd) := hA.cell 4
  have a5 : wz.cell? ⟨w.heap.size, 5, none⟩ = some (.int .i64 xn) := hA.cell 5
  have a6 : wz.cell? ⟨w.heap.size, 6, none⟩ = some (.string xs) := hA.cell 6
  have a7 : wz.cell? ⟨w.heap.size, 7, none⟩ = some (.slice do1 xb.length dc1) := hA.cell 7
  have a8 : wz.cell? ⟨w.heap.size, 8, none⟩ = some (.slice fo1 xf.length fc1) := hA.cell 8
  have b0 : wz.cell? ⟨w.heap.size + 1, 0, none⟩ = some (.int .i64 yi) := hB.cell 0
  have b1 : wz.cell? ⟨w.heap.size + 1, 1, none⟩ = some (.int .i64 yv) := hB.cell 1
  have b2 : wz.cell? ⟨w.heap.size + 1, 2, none⟩ = some (.int .i64 yt) := hB.cell 2
  have b3 : wz.cell? ⟨w.heap.size + 1, 3, none⟩ = some (.int .i64 yk) := hB.cell 3
  have b4 : wz.cell? ⟨w.heap.size + 1, 4, none⟩ = some (.int .i64 yd) := hB.cell 4
  have b5 : wz.cell? ⟨w.heap.size + 1, 5, none⟩ = some (.int .i64 yn) := hB.cell 5
  have b6 : wz.cell? ⟨w.heap.size + 1, 6, none⟩ = some (.string ys) := hB.cell 6
  have b7 : wz.cell? ⟨w.heap.size + 1, 7, none⟩ = some (.slice do2 yb.length dc2) := hB.cell 7
  have b8 : wz.cell? ⟨w.heap.size + 1, 8, none⟩ = some (.slice fo2 yf.length fc2) := hB.cell 8
  have KB := hide (bytesEqual_any _ _ _ _ wz (hx.kept tz (fun _ _ e => e)).data (hy.kept tz (fun _ _ e => e)).data)
  have KS := hide (equalDefs_any (hx.kept tz (fun _ _ e => e)).defs (hy.kept tz (fun _ _ e => e)).defs)
  have TZ := hide tz
  clear hx hy tz hA hB
  simp only at KB KS
  generalize xb.length = xbn at *
  generalize yb.length = ybn at *
  generalize xf.length = xfn at *
  generalize yf.length = yfn at *
  by_cases k0 : xi = yi
  case neg =>
    have hr : res = false := by rw [hres]; simp [k0]
    have q0 : (xi == yi) = false := by simpa using k0
    clear hres
    subst hr
    go_wp2_with fail
    go_ret
    exact ⟨rfl, unhide TZ⟩
  subst k0
  have q0 : (xi == xi) = true := by simp
  by_cases k1 : xv = yv
  case neg =>
    have hr : res = false := by rw [hres]; simp [k1]
    have q1 : (xv == yv) = false := by simpa using k1
    clear hres
    subst hr
    go_wp2_with fail
    go_ret
    exact ⟨rfl, unhide TZ⟩
  subst k1
  have q1 : (xv == xv) = true := by simp
  by_cases k2 : xt = yt
  case neg =>
    have hr : res = false := by rw [hres]; simp [k2]
    have q2 : (xt == yt) = false := by simpa using k2
    clear hres
    subst hr
    go_wp2_with fail
    go_ret
    exact ⟨rfl, unhide TZ⟩
  subst k2
  have q2 : (xt == xt) = true := by simp
  by_cases k3 : xk = yk
  case neg =>
    have hr : res = false := by rw [hres]; simp [k3]
    have q3 : (xk == yk) = false := by simpa using k3
    clear hres
    subst hr
    go_wp2_with fail
    go_ret
    exact ⟨rfl, unhide TZ⟩
  subst k3
  have q3 : (xk == xk) = true := by simp
  by_cases k4 : xd = yd
  case neg =>
    have hr : res = false := by rw [hres]; simp [k4]
    have q4 : (xd == yd) = false := by simpa using k4
    clear hres
    subst hr
    go_wp2_with fail
    go_ret
    exact ⟨rfl, unhide TZ⟩
  subst k4
  have q4 : (xd == xd) = true := by simp
  by_cases k5 : xn = yn
  case neg =>
    have hr : res = false := by rw [hres]; simp [k5]
    have q5 : (xn == yn) = false := by simpa using k5
    clear hres
    subst hr
    go_wp2_with fail
    go_ret
    exact ⟨rfl, unhide TZ⟩
  subst k5
  have q5 : (xn == xn) = true := by simp
  by_cases k6 : xs.toList = ys.toList
  case neg =>
    have hr : res = false := by rw [hres]; simp [k6]
    have q6 : (xs.toList == ys.toList) = false := by simpa using k6
    clear hres
    subst hr
    go_wp2_with fail
    go_ret
    exact ⟨rfl, unhide TZ⟩
  have q6 : (xs.toList == ys.toList) = true := by simpa using k6
  by_cases k7 : xb = yb
  case neg =>
    have hr : res = false := by rw [hres]; simp [k7]
    rw [decide_eq_false k7] at KB
    clear hres
    subst hr
    go_wp2_with (go_at_call 31; refine (unhide KB).mono ?_; rintro e w2 ⟨rfl, rfl⟩)
    go_ret
    exact ⟨rfl, unhide TZ⟩
  have hr : res = decide (xf = yf) := by rw [hres]; simp [k6, k7]
  rw [decide_eq_true k7] at KB
  clear hres
  subst hr
  go_wp2_with (first | (go_at_call 31; refine (unhide KB).mono ?_; rintro e w2 ⟨rfl, rfl⟩) | (go_at_call 35; refine (unhide KS).mono ?_; rintro e w3 ⟨rfl, hd⟩))
  go_ret
  exact ⟨rfl, (unhide TZ).trans hd⟩

end

end Go.Proofs.Ythclffafbkeepaa
