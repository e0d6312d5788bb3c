/- A Meter's Stop: its Once, what it is handed, and the deferred end. -/
import Derived.Test.YtdfamclggeaejaaMet
namespace Go.Proofs.Ytdfamclggeaejaa
open Go.RowKit

theorem run_equalIn_nilFunc (n : Nat) (w : World) : (Op.equalIn (n + 1) 1 .nilFunc .nilFunc).run Try.prog w = .ok true w := by
  simp [Op.equalIn, run_underlying Try.underlying1]

theorem run_equal_nilFunc (w : World) : (Op.equal 1 .nilFunc .nilFunc).run Try.prog w = .ok true w := run_equalIn_nilFunc 9999 w

theorem run_neq_nilFunc (w : World) : (binOp .neq 1 .nilFunc .nilFunc).run Try.prog w = .ok (.bool false) w := by
  simp only [binOp]
  simp [run_equal_nilFunc]

theorem run_equalIn_func (n : Nat) (fn : Fn) (first cap : Array Value) (w : World) : (Op.equalIn (n + 1) 1 (.func fn first cap) .nilFunc).run Try.prog w = .ok false w := by
  simp [Op.equalIn, run_underlying Try.underlying1]

theorem run_equal_func (fn : Fn) (first cap : Array Value) (w : World) : (Op.equal 1 (.func fn first cap) .nilFunc).run Try.prog w = .ok false w := run_equalIn_func 9999 fn first cap w

theorem run_neq_func (fn : Fn) (first cap : Array Value) (w : World) : (binOp .neq 1 (.func fn first cap) .nilFunc).run Try.prog w = .ok (.bool true) w := by
  simp only [binOp]
  simp [run_equal_func]

set_option maxRecDepth 100000 in
/-- The deferred end of a finish that did not panic. -/
theorem finish1_idle (pm b : Nat) (f : Nat → Int) (d l s : Int) (w : World) (hp : At 22 w pm #[.pointer (some ⟨b, 0, none⟩)]) (h : Met w b f d l s) :
    CallsD Try.prog 29 #[.pointer (some ⟨pm, 0, none⟩)] .returning w fun e u' w' => u' = .returning ∧ e = .returned (.tuple #[]) ∧ Met w' b f d l 1 ∧ Turn (fun k => k = b) w w' := by
  have hc : w.cell? ⟨pm, 0, none⟩ = some (.pointer (some ⟨b, 0, none⟩)) := hp.cell 0
  refine callsD_of_wpS Try.func29 rfl fun c₀ cs hu => ?_
  apply wpS_seq
  apply wpS_region
  simp [wpOpsS, go_sem, recoverD, hu, Try.ntmps29, Exit.thenS]
  refine wpS_of_wp ?_
  go_wp2_with fail
  refine (boolStore_any ⟨b, 8, none⟩ _ _ h.stop (h.frozen _)).mono ?_
  rintro e w1 ⟨rfl, e1⟩
  have h1 : Met w1 b f d l 1 := e1 ▸ h.drew.setStop 1
  have t1 : Turn (fun k => k = b) w w1 := by rw [e1]; exact (Turn.refl (fun k => k = b) w).drew.setCell (p := ⟨b, 8, none⟩) (.inl rfl) _
  clear e1
  go_wp2
  cases c₀
  simp_all [bodyPostS, results, Try.results29]

set_option maxRecDepth 100000 in
set_option maxHeartbeats 1000000 in
theorem finish_nil (b : Nat) (f : Nat → Int) (d l s : Int) (w : World) (h : Met w b f d l s) :
    Calls Try.prog 22 #[.pointer (some ⟨b, 0, none⟩), .nilFunc] w fun e w' => e = .returned (.tuple #[]) ∧ Met w' b f d l 1 ∧ Turn (fun k => k = b) w w' := by
  have hmf : ∀ (fn : Fn) (first cap : Array Value) (w : World), (Instr.makeFunc fn first cap).run Try.prog w = .ok (.func fn first cap) w := fun _ _ _ _ => rfl
  have hne := run_neq_nilFunc
  have t1 : Turn (fun k => k = b) w (w.alloc (.cells #[.pointer (some ⟨b, 0, none⟩)] 22)) := (Turn.refl (fun k => k = b) w).alloc _
  have h1 : Met (w.alloc (.cells #[.pointer (some ⟨b, 0, none⟩)] 22)) b f d l s := h.kept (S := fun _ => False) ((Turn.refl _ _).alloc _) (fun h => h)
  go_enter_defers Try.func22, Try.ntmps22
  go_wp2
  refine leaves_cons (f := 29) (args := #[.pointer (some ⟨w.heap.size, 0, none⟩)]) (by simp) (by simp [go_sem]) ?_
  refine (finish1_idle w.heap.size b f d l s _ (At.new _ _ _) h1).mono ?_
  rintro e u' w2 ⟨rfl, rfl, h2, t2⟩
  exact ⟨_, results_none rfl _ _ _, rfl, h2, t1.trans t2⟩

set_option maxRecDepth 100000 in
set_option maxHeartbeats 1000000 in
/-- finish with a function that has one captured variable, a number of the law's own. -/
theorem finish_fn (F : FuncId) (b p : Nat) (x y : Int) (f : Nat → Int) (d l s : Int) (w : World) (hpb : p ≠ b) (h : Met w b f d l s) (hp : At 3 w p #[.int .i64 x])
    (hin : ∀ args w, (callFunc F args).run Try.prog w = .ok (.enter F args) w)
    (hF : ∀ w, At 3 w p #[.int .i64 x] → Calls Try.prog F #[.pointer (some ⟨p, 0, none⟩)] w fun e w' => e = .returned (.tuple #[]) ∧ At 3 w' p #[.int .i64 y] ∧ Turn (fun k => k = p) w w') :
    Calls Try.prog 22 #[.pointer (some ⟨b, 0, none⟩), .func (.func F) #[] #[.pointer (some ⟨p, 0, none⟩)]] w fun e w' => e = .returned (.tuple #[]) ∧ Met w' b f d l 1 ∧ At 3 w' p #[.int .i64 y] ∧ Turn (fun k => k = b ∨ k = p) w w' := by
  have hmf : ∀ (fn : Fn) (first cap : Array Value) (w : World), (Instr.makeFunc fn first cap).run Try.prog w = .ok (.func fn first cap) w := fun _ _ _ _ => rfl
  have hF := hide hF
  have hne := run_neq_func
  have hlt := hp.lt
  have ta : Turn (fun _ => False) w (w.alloc (.cells #[.pointer (some ⟨b, 0, none⟩)] 22)) := (Turn.refl _ w).alloc _
  have t1 : Turn (fun k => k = b ∨ k = p) w (w.alloc (.cells #[.pointer (some ⟨b, 0, none⟩)] 22)) := (Turn.refl _ w).alloc _
  have h1 : Met (w.alloc (.cells #[.pointer (some ⟨b, 0, none⟩)] 22)) b f d l s := h.kept ta (fun h => h)
  have hp1 := hp.kept ta (fun h => h)
  have hm1 := At.new 22 w #[.pointer (some ⟨b, 0, none⟩)]
  go_enter_defers Try.func22, Try.ntmps22
  go_wp2_with fail
  refine (unhide hF _ hp1).mono ?_
  rintro e w2 ⟨rfl, hp2, t2⟩
  have h2 := h1.kept t2 (fun e => hpb e.symm)
  have hm2 := hm1.kept t2 (by omega)
  have t3 := t1.trans (t2.mono fun _ _ e => .inr e)
  go_wp2
  refine leaves_cons (f := 29) (args := #[.pointer (some ⟨w.heap.size, 0, none⟩)]) (by simp) (by simp [go_sem]) ?_
  refine (finish1_idle w.heap.size b f d l s _ hm2 h2).mono ?_
  rintro e u' w3 ⟨rfl, rfl, h3, t4⟩
  exact ⟨_, results_none rfl _ _ _, rfl, h3, hp2.kept t4 hpb, t3.trans (t4.mono fun _ _ e => .inl e)⟩

/-- A call of a function with a body enters it. -/
theorem enters {f : FuncId} {fn : Func} {c : Code} (hf : Try.prog.funcs[f]? = some fn) (hname : (fn.name == "runtime.NumGoroutine") = false) (hb : fn.body = some c) (args : Array Value) (w : World) :
    (callFunc f args).run Try.prog w = .ok (.enter f args) w := by
  have h1 : fn.name ≠ "runtime.NumGoroutine" := by simpa using hname
  simp [callFunc, hf, h1, hb]

theorem enters_once (args : Array Value) (w : World) : (callFunc 16 args).run Try.prog w = .ok (.enter 16 args) w :=
  enters Try.func16 (by kernel_rfl) rfl args w

theorem more_any (F : FuncId) (hF : F = 16) (p : Nat) (x : Int) (hx : 0 ≤ x ∧ x < 1000) (w : World) (hp : At 3 w p #[.int .i64 x]) :
    Calls Try.prog F #[.pointer (some ⟨p, 0, none⟩)] w fun e w' => e = .returned (.tuple #[]) ∧ At 3 w' p #[.int .i64 (x + 1)] ∧ Turn (fun k => k = p) w w' := by
  subst hF
  have hc : w.cell? ⟨p, 0, none⟩ = some (.int .i64 x) := hp.cell 0
  have hf := hp.frozen 0
  go_enter Try.func16, Try.ntmps16
  go_wp2
  go_end0
  exact ⟨rfl, hp.set 0 _, Turn.here 0 _⟩

end Go.Proofs.Ytdfamclggeaejaa
