/- Package event's own hasOnly, rightTry, rightData. -/
import Derived.Test.YthclffafbkeepaaEvA
import Derived.Test.YthclffafbkeepaaEvB
namespace Go.Proofs.Ythclffafbkeepaa
open Go.RowKit

/-- The other event with the place and the type of this one. -/
def onlyV (e m : EvP) : EvP := ⟨e.id, e.ver, e.time, e.kind, m.node, m.n, m.name, m.data, m.defs⟩

/-- Whether an event has nothing that the other one lacks. -/
def onlyB (e m : EvP) : Bool := sameE e (onlyV e m)

/-- The event of nothing. -/
def zeroE : EvP := ⟨0, 0, 0, 0, 0, 0, ⟨#[]⟩, [], []⟩

/-- A boxed event's cells. -/
def evC (e : EvP) (dv fv : Value) : Array Value := #[.int .i64 e.id, .int .i64 e.ver, .int .i64 e.time, .int .i64 e.kind, .int .i64 e.node, .int .i64 e.n, .string e.name, dv, fv]

theorem ev_nine {T : TypeId} {w : World} {b : Nat} {e : EvP} {dv fv : Value} (h : At T w b (evC e dv fv)) :
    w.cell? ⟨b, 0, none⟩ = some (.int .i64 e.id) ∧ w.cell? ⟨b, 1, none⟩ = some (.int .i64 e.ver) ∧ w.cell? ⟨b, 2, none⟩ = some (.int .i64 e.time) ∧ w.cell? ⟨b, 3, none⟩ = some (.int .i64 e.kind) ∧ w.cell? ⟨b, 4, none⟩ = some (.int .i64 e.node) ∧ w.cell? ⟨b, 5, none⟩ = some (.int .i64 e.n) ∧ w.cell? ⟨b, 6, none⟩ = some (.string e.name) ∧ w.cell? ⟨b, 7, none⟩ = some dv ∧ w.cell? ⟨b, 8, none⟩ = some fv :=
  ⟨h.cell 0, h.cell 1, h.cell 2, h.cell 3, h.cell 4, h.cell 5, h.cell 6, h.cell 7, h.cell 8⟩

section
variable {Q : Nat → Prop} {w : World} {dv fv dv2 fv2 : Value}

set_option maxHeartbeats 4000000 in
theorem rightTry_any {x : EvP} (hx : EvQ Q w dv fv x) : Calls Try.prog 53 #[evV x dv fv] w fun e w' => e = .returned (.bool (inB x.node 0 7 && inB x.n 1 5)) ∧ Turn (fun _ => False) w w' := by
  obtain ⟨xi, xv, xt, xk, xd, xn, xs, xb, xf⟩ := x
  unfold evV
  simp only
  obtain ⟨do1, dc1, hd1⟩ := hx.data.shape
  obtain ⟨fo1, fc1, hf1, -⟩ := hx.defs.shape
  simp only at hd1 hf1
  subst hd1 hf1
  clear hx
  generalize xb.length = bn
  generalize xf.length = fn
  rcases h1 : inB xd 0 7 with _ | _
  · go_enter Try.func53, Try.ntmps53
    go_wp2_with (go_at_call 33; refine (within_any _ _ _ _).mono ?_; rw [h1]; rintro e w' ⟨rfl, rfl⟩)
    go_ret
    exact ⟨rfl, (Turn.refl _ _).alloc _⟩
  · go_enter Try.func53, Try.ntmps53
    go_wp2_with (go_at_call 33; refine (within_any _ _ _ _).mono ?_; first | (rw [h1]; rintro e w' ⟨rfl, rfl⟩) | (rintro e w' ⟨rfl, rfl⟩))
    go_ret
    exact ⟨rfl, (Turn.refl _ _).alloc _⟩

theorem rightData_any {x : EvP} (hx : EvQ Q w dv fv x) : Calls Try.prog 54 #[evV x dv fv] w fun e w' => e = .returned (.bool (decide (x.data.length ≤ 40))) ∧ Turn (fun _ => False) w w' := by
  obtain ⟨xi, xv, xt, xk, xd, xn, xs, xb, xf⟩ := x
  unfold evV
  simp only
  obtain ⟨do1, dc1, hd1⟩ := hx.data.shape
  obtain ⟨fo1, fc1, hf1, -⟩ := hx.defs.shape
  have hl := hx.long
  simp only at hd1 hf1 hl
  subst hd1 hf1
  clear hx
  generalize xb.length = bn at *
  generalize xf.length = fn
  go_enter Try.func54, Try.ntmps54
  go_wp2_with fail
  go_ret
  exact ⟨ret_boolE (by simp; omega), (Turn.refl _ _).alloc _⟩

set_option maxHeartbeats 8000000 in
set_option maxRecDepth 100000 in
theorem hasOnly_any {x y : EvP} (hx : EvQ Q w dv fv x) (hy : EvQ Q w dv2 fv2 y) : Calls Try.prog 52 #[evV x dv fv, evV y dv2 fv2] w fun e w' => e = .returned (.bool (onlyB x y)) ∧ Turn (fun _ => False) w w' := by
  unfold onlyB
  have KS := hide (show ∀ w', Turn (fun _ => False) w w' → Calls Try.prog 19 #[evV x dv fv, evV (onlyV x y) dv2 fv2] w' fun e w2 => e = .returned (.bool (sameE x (onlyV x y))) ∧ Turn (fun _ => False) w' w2 from fun w' t => evSame_any (hx.kept t (fun _ _ h => h)) ⟨(hy.kept t (fun _ _ h => h)).data, hy.mem, (hy.kept t (fun _ _ h => h)).defs, hy.name, hy.long⟩)
  generalize sameE x (onlyV x y) = res at *
  obtain ⟨xi, xv, xt, xk, xd, xn, xs, xb, xf⟩ := x
  obtain ⟨yi, yv, yt, yk, yd, yn, ys, yb, yf⟩ := y
  unfold evV onlyV at KS
  unfold evV
  simp only at KS ⊢
  obtain ⟨do1, dc1, hd1⟩ := hx.data.shape
  obtain ⟨do2, dc2, hd2⟩ := hy.data.shape
  obtain ⟨fo1, fc1, hf1, -⟩ := hx.defs.shape
  obtain ⟨fo2, fc2, hf2, -⟩ := hy.defs.shape
  simp only at hd1 hd2 hf1 hf2
  subst hd1 hd2 hf1 hf2
  clear hx hy
  generalize xb.length = xbn at *
  generalize xf.length = xfn at *
  generalize yb.length = ybn at *
  generalize yf.length = yfn at *
  go_enter Try.func52, Try.ntmps52
  go_upto_region 1 with fail
  have tz : Turn (fun _ => False) w ((w.alloc (.cells #[.int .i64 xi, .int .i64 xv, .int .i64 xt, .int .i64 xk, .int .i64 xd, .int .i64 xn, .string xs, .slice do1 xbn dc1, .slice fo1 xfn fc1] 25)).alloc (.cells #[.int .i64 yi, .int .i64 yv, .int .i64 yt, .int .i64 yk, .int .i64 yd, .int .i64 yn, .string ys, .slice do2 ybn dc2, .slice fo2 yfn fc2] 25)) := ((Turn.refl _ _).alloc _).alloc _
  have hA : At 25 ((w.alloc (.cells #[.int .i64 xi, .int .i64 xv, .int .i64 xt, .int .i64 xk, .int .i64 xd, .int .i64 xn, .string xs, .slice do1 xbn dc1, .slice fo1 xfn fc1] 25)).alloc (.cells #[.int .i64 yi, .int .i64 yv, .int .i64 yt, .int .i64 yk, .int .i64 yd, .int .i64 yn, .string ys, .slice do2 ybn dc2, .slice fo2 yfn fc2] 25)) w.heap.size #[.int .i64 xi, .int .i64 xv, .int .i64 xt, .int .i64 xk, .int .i64 xd, .int .i64 xn, .string xs, .slice do1 xbn dc1, .slice fo1 xfn fc1] := (At.new _ _ _).kept ((Turn.refl (fun _ => False) _).alloc _) (fun e => e)
  have hB : At 25 ((w.alloc (.cells #[.int .i64 xi, .int .i64 xv, .int .i64 xt, .int .i64 xk, .int .i64 xd, .int .i64 xn, .string xs, .slice do1 xbn dc1, .slice fo1 xfn fc1] 25)).alloc (.cells #[.int .i64 yi, .int .i64 yv, .int .i64 yt, .int .i64 yk, .int .i64 yd, .int .i64 yn, .string ys, .slice do2 ybn dc2, .slice fo2 yfn fc2] 25)) (w.heap.size + 1) #[.int .i64 yi, .int .i64 yv, .int .i64 yt, .int .i64 yk, .int .i64 yd, .int .i64 yn, .string ys, .slice do2 ybn dc2, .slice fo2 yfn fc2] := by
    have := At.new 25 (w.alloc (.cells #[.int .i64 xi, .int .i64 xv, .int .i64 xt, .int .i64 xk, .int .i64 xd, .int .i64 xn, .string xs, .slice do1 xbn dc1, .slice fo1 xfn fc1] 25)) #[.int .i64 yi, .int .i64 yv, .int .i64 yt, .int .i64 yk, .int .i64 yd, .int .i64 yn, .string ys, .slice do2 ybn dc2, .slice fo2 yfn fc2]
    simpa using this
  generalize (w.alloc (.cells #[.int .i64 xi, .int .i64 xv, .int .i64 xt, .int .i64 xk, .int .i64 xd, .int .i64 xn, .string xs, .slice do1 xbn dc1, .slice fo1 xfn fc1] 25)).alloc (.cells #[.int .i64 yi, .int .i64 yv, .int .i64 yt, .int .i64 yk, .int .i64 yd, .int .i64 yn, .string ys, .slice do2 ybn dc2, .slice fo2 yfn fc2] 25) = wz at *
  have a0 : wz.cell? ⟨w.heap.size, 0, none⟩ = some (.int .i64 xi) := hA.cell 0
  have a1 : wz.cell? ⟨w.heap.size, 1, none⟩ = some (.int .i64 xv) := hA.cell 1
  have a2 : wz.cell? ⟨w.heap.size, 2, none⟩ = some (.int .i64 xt) := hA.cell 2
  have a3 : wz.cell? ⟨w.heap.size, 3, none⟩ = some (.int .i64 xk) := hA.cell 3
  have b0 : wz.cell? ⟨w.heap.size + 1, 0, none⟩ = some (.int .i64 yi) := hB.cell 0
  have b1 : wz.cell? ⟨w.heap.size + 1, 1, none⟩ = some (.int .i64 yv) := hB.cell 1
  have b2 : wz.cell? ⟨w.heap.size + 1, 2, none⟩ = some (.int .i64 yt) := hB.cell 2
  have b3 : wz.cell? ⟨w.heap.size + 1, 3, none⟩ = some (.int .i64 yk) := hB.cell 3
  have f0 := hB.frozen 0
  have f1 := hB.frozen 1
  have f2 := hB.frozen 2
  have f3 := hB.frozen 3
  have hA2 := hA
  have hB2 := (((hB.set 0 (.int .i64 xi)).set 1 (.int .i64 xv)).set 2 (.int .i64 xt)).set 3 (.int .i64 xk)
  have t2 : Turn (fun k => k = w.heap.size + 1) wz ((((wz.setCell ⟨w.heap.size + 1, 0, none⟩ (.int .i64 xi)).setCell ⟨w.heap.size + 1, 1, none⟩ (.int .i64 xv)).setCell ⟨w.heap.size + 1, 2, none⟩ (.int .i64 xt)).setCell ⟨w.heap.size + 1, 3, none⟩ (.int .i64 xk)).drew := (((((Turn.refl (fun k => k = w.heap.size + 1) wz).setCell (p := ⟨w.heap.size + 1, 0, none⟩) (.inl rfl) _).setCell (p := ⟨w.heap.size + 1, 1, none⟩) (.inl rfl) _).setCell (p := ⟨w.heap.size + 1, 2, none⟩) (.inl rfl) _).setCell (p := ⟨w.heap.size + 1, 3, none⟩) (.inl rfl) _).drew
  have hA3 : At 25 ((((wz.setCell ⟨w.heap.size + 1, 0, none⟩ (.int .i64 xi)).setCell ⟨w.heap.size + 1, 1, none⟩ (.int .i64 xv)).setCell ⟨w.heap.size + 1, 2, none⟩ (.int .i64 xt)).setCell ⟨w.heap.size + 1, 3, none⟩ (.int .i64 xk)).drew w.heap.size #[.int .i64 xi, .int .i64 xv, .int .i64 xt, .int .i64 xk, .int .i64 xd, .int .i64 xn, .string xs, .slice do1 xbn dc1, .slice fo1 xfn fc1] := hA.kept t2 (by simp)
  have hB3 : At 25 ((((wz.setCell ⟨w.heap.size + 1, 0, none⟩ (.int .i64 xi)).setCell ⟨w.heap.size + 1, 1, none⟩ (.int .i64 xv)).setCell ⟨w.heap.size + 1, 2, none⟩ (.int .i64 xt)).setCell ⟨w.heap.size + 1, 3, none⟩ (.int .i64 xk)).drew (w.heap.size + 1) #[.int .i64 xi, .int .i64 xv, .int .i64 xt, .int .i64 xk, .int .i64 yd, .int .i64 yn, .string ys, .slice do2 ybn dc2, .slice fo2 yfn fc2] := hB2
  have t3 : Turn (fun _ => False) w ((((wz.setCell ⟨w.heap.size + 1, 0, none⟩ (.int .i64 xi)).setCell ⟨w.heap.size + 1, 1, none⟩ (.int .i64 xv)).setCell ⟨w.heap.size + 1, 2, none⟩ (.int .i64 xt)).setCell ⟨w.heap.size + 1, 3, none⟩ (.int .i64 xk)).drew := tz.trans' t2 (fun i hi e => by have e : i = w.heap.size + 1 := e; omega)
  have TZ := hide tz
  go_region
  generalize ((((wz.setCell ⟨w.heap.size + 1, 0, none⟩ (.int .i64 xi)).setCell ⟨w.heap.size + 1, 1, none⟩ (.int .i64 xv)).setCell ⟨w.heap.size + 1, 2, none⟩ (.int .i64 xt)).setCell ⟨w.heap.size + 1, 3, none⟩ (.int .i64 xk)).drew = wy at *
  have KT := hide (unhide KS _ t3)
  have T3 := hide t3
  clear a0 a1 a2 a3 b0 b1 b2 b3 f0 f1 f2 f3 hA hB hA2 hB2 t2 t3 tz KS
  have c0 := hA3.cell 0
  have c1 := hA3.cell 1
  have c2 := hA3.cell 2
  have c3 := hA3.cell 3
  have c4 := hA3.cell 4
  have c5 := hA3.cell 5
  have c6 := hA3.cell 6
  have c7 := hA3.cell 7
  have c8 := hA3.cell 8
  have d0 := hB3.cell 0
  have d1 := hB3.cell 1
  have d2 := hB3.cell 2
  have d3 := hB3.cell 3
  have d4 := hB3.cell 4
  have d5 := hB3.cell 5
  have d6 := hB3.cell 6
  have d7 := hB3.cell 7
  have d8 := hB3.cell 8
  clear hA3 hB3
  go_wp2_with (go_at_call 19; refine (unhide KT).mono ?_; rintro e w2 ⟨rfl, t4⟩)
  go_ret
  exact ⟨rfl, (unhide T3).trans t4⟩

end

end Go.Proofs.Ythclffafbkeepaa
