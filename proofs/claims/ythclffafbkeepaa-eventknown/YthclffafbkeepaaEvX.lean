/- Lists of events in memory; package event's own follows. -/
import Derived.Test.YthclffafbkeepaaEvF
namespace Go.Proofs.Ythclffafbkeepaa
open Go.RowKit

/-- Events in blocks of Q. -/
def EvsQ (Q : Nat → Prop) (w : World) (v : Value) (es : List EvP) : Prop :=
  (v = .slice none 0 0 ∧ es = []) ∨
  ∃ g o cap, v = .slice (some ⟨g, o, none⟩) es.length cap ∧ es.length ≤ maxLen ∧ ∀ k (hk : k < es.length), Q g ∧ ∃ dv fv,
    (∀ j u, (evC es[k] dv fv)[j]? = some u → w.cell? ⟨g, o + k * 9 + j, none⟩ = some u) ∧ EvQ Q w dv fv es[k]

section
variable {Q Q' S : Nat → Prop} {w w' : World} {v : Value} {es : List EvP}

theorem EvsQ.kept (h : EvsQ Q w v es) (t : Turn S w w') (hq : ∀ j, Q j → ¬ S j) : EvsQ Q w' v es := by
  rcases h with h | ⟨g, o, cap, rfl, hm, hc⟩
  · exact .inl h
  · refine .inr ⟨g, o, cap, rfl, hm, fun k hk => ?_⟩
    obtain ⟨h1, dv, fv, hcell, he⟩ := hc k hk
    refine ⟨h1, dv, fv, fun j u hu => ?_, he.kept t hq⟩
    have h2 := hcell j u hu
    exact (t.cell (p := ⟨g, o + k * 9 + j, none⟩) (World.block_lt_of_cell? w ⟨g, o + k * 9 + j, none⟩ h2) (hq _ h1)).trans h2

theorem EvsQ.shape (h : EvsQ Q w v es) : ∃ ao cap, v = .slice ao es.length cap ∧ es.length ≤ maxLen := by
  rcases h with ⟨rfl, rfl⟩ | ⟨g, o, cap, rfl, hm, _⟩
  · exact ⟨none, 0, rfl, by simp⟩
  · exact ⟨_, _, rfl, hm⟩

theorem EvsQ.at {ao : Option Addr} {n cap : Nat} (h : EvsQ Q w (.slice ao n cap) es) (k : Nat) (hk : k < es.length) : ∃ g o dv fv, ao = some ⟨g, o, none⟩ ∧ Q g ∧
    (∀ j u, (evC es[k] dv fv)[j]? = some u → w.cell? ⟨g, o + k * 9 + j, none⟩ = some u) ∧ EvQ Q w dv fv es[k] := by
  rcases h with ⟨_, rfl⟩ | ⟨g, o, cap', e, hm, hc⟩
  · simp at hk
  · injection e with e
    obtain ⟨h1, dv, fv, h2, h3⟩ := hc k hk
    exact ⟨g, o, dv, fv, e, h1, h2, h3⟩

end

/-- Whether an event may stand right behind another one. -/
def followB (e a : EvP) : Bool := decide (e.id = a.id + 1) && decide (a.ver ≤ e.ver) && decide (a.time ≤ e.time)

/-- Whether an event may stand behind what there is. -/
def befB : Option EvP → EvP → Bool
  | none, _ => true
  | some a, e => followB e a

/-- Whether events may stand one behind the other, behind p. -/
def linB : Option EvP → List EvP → Bool
  | _, [] => true
  | p, e :: r => rightE e && befB p e && linB (some e) r

theorem linB_cons (p : Option EvP) (e : EvP) (r : List EvP) : linB p (e :: r) = (rightE e && befB p e && linB (some e) r) := rfl

section
variable {Q Q2 : Nat → Prop} {w : World} {dv fv dv2 fv2 : Value}

set_option maxHeartbeats 8000000 in
set_option maxRecDepth 100000 in
theorem follows_any {x y : EvP} (hx : EvQ Q w dv fv x) (hy : EvQ Q2 w dv2 fv2 y) (hi : 0 ≤ y.id ∧ y.id ≤ 1000000000) : Calls Try.prog 32 #[evV x dv fv, evV y dv2 fv2] w fun e w' => e = .returned (.bool (followB x y)) ∧ Turn (fun _ => False) w w' := by
  obtain ⟨res, hres⟩ : ∃ r, r = followB x y := ⟨_, rfl⟩
  rw [← hres]
  unfold followB at hres
  obtain ⟨xi, xv, xt, xk, xd, xn, xs, xb, xf⟩ := x
  obtain ⟨yi, yv, yt, yk, yd, yn, ys, yb, yf⟩ := y
  unfold evV
  obtain ⟨do1, dc1, hd1⟩ := hx.data.shape
  obtain ⟨do2, dc2, hd2⟩ := hy.data.shape
  obtain ⟨fo1, fc1, hf1, -⟩ := hx.defs.shape
  obtain ⟨fo2, fc2, hf2, -⟩ := hy.defs.shape
  simp only at hd1 hd2 hf1 hf2 hi hres ⊢
  subst hd1 hd2 hf1 hf2
  clear hx hy
  generalize xb.length = xbn at *
  generalize xf.length = xfn at *
  generalize yb.length = ybn at *
  generalize yf.length = yfn at *
  have tz : Turn (fun _ => False) w ((w.alloc (.cells #[.int .i64 xi, .int .i64 xv, .int .i64 xt, .int .i64 xk, .int .i64 xd, .int .i64 xn, .string xs, .slice do1 xbn dc1, .slice fo1 xfn fc1] 25)).alloc (.cells #[.int .i64 yi, .int .i64 yv, .int .i64 yt, .int .i64 yk, .int .i64 yd, .int .i64 yn, .string ys, .slice do2 ybn dc2, .slice fo2 yfn fc2] 25)) := ((Turn.refl _ _).alloc _).alloc _
  have hA : At 25 ((w.alloc (.cells #[.int .i64 xi, .int .i64 xv, .int .i64 xt, .int .i64 xk, .int .i64 xd, .int .i64 xn, .string xs, .slice do1 xbn dc1, .slice fo1 xfn fc1] 25)).alloc (.cells #[.int .i64 yi, .int .i64 yv, .int .i64 yt, .int .i64 yk, .int .i64 yd, .int .i64 yn, .string ys, .slice do2 ybn dc2, .slice fo2 yfn fc2] 25)) w.heap.size #[.int .i64 xi, .int .i64 xv, .int .i64 xt, .int .i64 xk, .int .i64 xd, .int .i64 xn, .string xs, .slice do1 xbn dc1, .slice fo1 xfn fc1] := (At.new _ _ _).kept ((Turn.refl (fun _ => False) _).alloc _) (fun e => e)
  have hB : At 25 ((w.alloc (.cells #[.int .i64 xi, .int .i64 xv, .int .i64 xt, .int .i64 xk, .int .i64 xd, .int .i64 xn, .string xs, .slice do1 xbn dc1, .slice fo1 xfn fc1] 25)).alloc (.cells #[.int .i64 yi, .int .i64 yv, .int .i64 yt, .int .i64 yk, .int .i64 yd, .int .i64 yn, .string ys, .slice do2 ybn dc2, .slice fo2 yfn fc2] 25)) (w.heap.size + 1) #[.int .i64 yi, .int .i64 yv, .int .i64 yt, .int .i64 yk, .int .i64 yd, .int .i64 yn, .string ys, .slice do2 ybn dc2, .slice fo2 yfn fc2] := by
    have := At.new 25 (w.alloc (.cells #[.int .i64 xi, .int .i64 xv, .int .i64 xt, .int .i64 xk, .int .i64 xd, .int .i64 xn, .string xs, .slice do1 xbn dc1, .slice fo1 xfn fc1] 25)) #[.int .i64 yi, .int .i64 yv, .int .i64 yt, .int .i64 yk, .int .i64 yd, .int .i64 yn, .string ys, .slice do2 ybn dc2, .slice fo2 yfn fc2]
    simpa using this
  have e1 : wrap64 (yi + 1) = yi + 1 := by unfold wrap64; omega
  go_enter Try.func32, Try.ntmps32
  go_upto_region 1 with fail
  generalize (w.alloc (.cells #[.int .i64 xi, .int .i64 xv, .int .i64 xt, .int .i64 xk, .int .i64 xd, .int .i64 xn, .string xs, .slice do1 xbn dc1, .slice fo1 xfn fc1] 25)).alloc (.cells #[.int .i64 yi, .int .i64 yv, .int .i64 yt, .int .i64 yk, .int .i64 yd, .int .i64 yn, .string ys, .slice do2 ybn dc2, .slice fo2 yfn fc2] 25) = wz at *
  have a0 : wz.cell? ⟨w.heap.size, 0, none⟩ = some (.int .i64 xi) := hA.cell 0
  have a1 : wz.cell? ⟨w.heap.size, 1, none⟩ = some (.int .i64 xv) := hA.cell 1
  have a2 : wz.cell? ⟨w.heap.size, 2, none⟩ = some (.int .i64 xt) := hA.cell 2
  have b0 : wz.cell? ⟨w.heap.size + 1, 0, none⟩ = some (.int .i64 yi) := hB.cell 0
  have b1 : wz.cell? ⟨w.heap.size + 1, 1, none⟩ = some (.int .i64 yv) := hB.cell 1
  have b2 : wz.cell? ⟨w.heap.size + 1, 2, none⟩ = some (.int .i64 yt) := hB.cell 2
  have TZ := hide tz
  clear hA hB tz
  by_cases k0 : xi = yi + 1
  case neg =>
    have hr : res = false := by rw [hres]; simp [k0]
    have q0 : (xi == yi + 1) = false := by simpa using k0
    clear hres
    subst hr
    go_wp2_with fail
    go_ret
    exact ⟨rfl, unhide TZ⟩
  have q0 : (xi == yi + 1) = true := by simpa using k0
  by_cases k1 : yv ≤ xv
  case neg =>
    have hr : res = false := by rw [hres]; simp [k1]
    clear hres k0
    subst hr
    go_wp2_with fail
    go_ret
    exact ⟨rfl, unhide TZ⟩
  by_cases k2 : yt ≤ xt
  case neg =>
    have hr : res = false := by rw [hres]; simp [k2]
    clear hres k0
    subst hr
    go_wp2_with fail
    go_ret
    exact ⟨rfl, unhide TZ⟩
  have hr : res = true := by rw [hres]; simp [k0, k1, k2]
  clear hres k0
  subst hr
  go_wp2_with fail
  go_ret
  exact ⟨rfl, unhide TZ⟩

end

/-- Where Line's loop stands. -/
def LnAt (w : World) (res : Bool) (l : List EvP) (n : Nat) (wr : World) : Prop :=
  Turn (fun _ => False) w wr ∧ ∃ pv : Option EvP, (n = 0 → pv = none) ∧ (∀ j, n = j + 1 → l[j]? = pv) ∧ (∀ a, pv = some a → rightE a = true) ∧ res = linB pv (l.drop n)

end Go.Proofs.Ythclffafbkeepaa
