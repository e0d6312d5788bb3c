/- The law MeterKnown: chapter 4's example, and more. -/
import Derived.Test.YtdfamclggeaejaaMOnce
namespace Go.Proofs.Ytdfamclggeaejaa
open Go.RowKit

theorem value_is (b k : Nat) (hk : k < 5) (x : Int) (f : Nat → Int) (hx : f k = x) (d l s : Int) (w : World) (h : Met w b f d l s) :
    Calls Try.prog 15 #[.pointer (some ⟨b, 0, none⟩), .int .i64 k] w fun e w' => e = .returned (.int .i64 x) ∧ w = w' := hx ▸ value_in b k hk f d l s w h

theorem met_new (w : World) : Met (w.alloc (.cells (mcells (fun _ => 0) 0 0 0) 56)) w.heap.size (fun _ => 0) 0 0 0 := At.new _ _ _

set_option maxRecDepth 100000 in
set_option maxHeartbeats 1600000 in
theorem mknown_any (w : World) : Calls Try.prog 8 #[] w fun e w' => e = .returned (.bool true) ∧ Turn (fun _ => False) w w' := by
  have hnot : ∀ (x : Bool) (w : World), (Op.unary .not (.bool x)).run Try.prog w = .ok (.bool (!x)) w := fun _ _ => rfl
  go_enter Try.func8, Try.ntmps8
  go_wp2_with fail
  refine (mnew_any _).mono ?_
  rintro e w1 ⟨rfl, e1⟩
  have h1 : Met w1 w.heap.size (fun _ => 0) 0 0 0 := e1 ▸ met_new w
  have t1 : Turn (fun _ => False) w w1 := e1 ▸ (Turn.refl _ w).alloc _
  clear e1
  go_wp2_with fail
  refine (add_in w.heap.size 0 (by omega) 2 _ 0 0 0 _ h1).mono ?_
  rintro e w2 ⟨rfl, h2, t2⟩
  replace t2 := t1.trans' t2 (fun i hi e => by omega)
  obtain ⟨g, hg, h2⟩ : ∃ g : Nat → Int, g 0 = 2 ∧ Met w2 w.heap.size g 0 0 0 := ⟨_, by rw [upd_same]; unfold wrap64; omega, h2⟩
  go_wp2_with fail
  refine (raise_not w.heap.size 0 (by omega) 1 _ (by omega) 0 0 0 _ h2).mono ?_
  rintro e w3 ⟨rfl, rfl⟩
  go_wp2_with fail
  refine (value_is w.heap.size 0 (by omega) 2 _ hg 0 0 0 _ h2).mono ?_
  rintro e w3 ⟨rfl, rfl⟩
  go_wp2_with fail
  refine (raise_up w.heap.size 0 (by omega) 5 _ (by omega) 0 0 0 _ h2).mono ?_
  rintro e w4 ⟨rfl, h4, t4⟩
  replace t4 := t2.trans' t4 (fun i hi e => by omega)
  go_wp2_with fail
  refine (value_is w.heap.size 0 (by omega) 5 _ (upd_same _ _ _) 0 0 0 _ h4).mono ?_
  rintro e w5 ⟨rfl, rfl⟩
  go_wp2
  go_ret
  exact ⟨rfl, t4⟩

theorem enters_known1 (args : Array Value) (w : World) : (callFunc 11 args).run Try.prog w = .ok (.enter 11 args) w :=
  enters Try.func11 (by kernel_rfl) rfl args w

theorem known1_any (p : Nat) (w : World) (hp : At 3 w p #[.int .i64 0]) :
    Calls Try.prog 11 #[.pointer (some ⟨p, 0, none⟩)] w fun e w' => e = .returned (.tuple #[]) ∧ At 3 w' p #[.int .i64 1] ∧ Turn (fun k => k = p) w w' := by
  have hc : w.cell? ⟨p, 0, none⟩ = some (.int .i64 0) := hp.cell 0
  have hf := hp.frozen 0
  go_enter Try.func11, Try.ntmps11
  go_wp2
  go_end0
  exact ⟨rfl, hp.set 0 _, Turn.here 0 _⟩

set_option maxRecDepth 100000 in
set_option maxHeartbeats 4000000 in
theorem meterKnown_walk (w : World) : Calls Try.prog 3 #[] w fun e w' => e = .returned (.bool true) ∧ Turn (fun _ => False) w w' := by
  have hnot : ∀ (x : Bool) (w : World), (Op.unary .not (.bool x)).run Try.prog w = .ok (.bool (!x)) w := fun _ _ => rfl
  have hmf : ∀ (fn : Fn) (first cap : Array Value) (w : World), (Instr.makeFunc fn first cap).run Try.prog w = .ok (.func fn first cap) w := fun _ _ _ _ => rfl
  go_enter Try.func3, Try.ntmps3
  go_wp2_with fail
  refine (mnew_any _).mono ?_
  rintro e w1 ⟨rfl, e1⟩
  have h1 : Met w1 w.heap.size (fun _ => 0) 0 0 0 := e1 ▸ met_new w
  have t1 : Turn (fun _ => False) w w1 := e1 ▸ (Turn.refl _ w).alloc _
  clear e1
  go_wp2_with fail
  refine (mknown_any _).mono ?_
  rintro e w2 ⟨rfl, t2⟩
  have h2 := h1.kept t2 (fun h => h)
  have hlt2 := h2.lt
  replace t2 := t1.trans t2
  clear h1 t1
  have t3 : Turn (fun _ => False) w (w2.alloc (.cells #[.int .i64 0] 3)) := t2.alloc _
  have hp3 := At.new 3 w2 #[.int .i64 0]
  have h3 := h2.kept (S := fun _ => False) (w' := w2.alloc (.cells #[.int .i64 0] 3)) ((Turn.refl _ _).alloc _) (fun h => h)
  go_wp2_with fail
  refine (stopped_any w.heap.size _ 0 0 0 _ h3).mono ?_
  rintro e w4 ⟨rfl, rfl⟩
  go_wp2_with fail
  refine (stop_first w.heap.size _ (.inr ⟨_, _, _, rfl⟩) _ _ _ (hook_fn 11 w.heap.size w2.heap.size 0 1 (by omega) enters_known1 (known1_any w2.heap.size)) _ _ h3 hp3 (by rintro k rfl; exact hp3.lt)).mono ?_
  rintro e w5 ⟨rfl, h5, hp5, t5⟩
  replace t5 := t3.trans' t5 (fun i hi e => by rcases e with e | e <;> have := t2.size <;> omega)
  clear h3 hp3 t3
  go_wp2_with fail
  refine (stop_again w.heap.size _ (.inr ⟨_, _, _, rfl⟩) _ 1 _ h5).mono ?_
  rintro e w6 ⟨rfl, t6⟩
  have h6 := h5.kept t6 (fun h => h)
  have hp6 := hp5.kept t6 (fun h => h)
  replace t6 := t5.trans t6
  clear t5 hp5 h5
  go_wp2_with fail
  refine (mnew_any _).mono ?_
  rintro e w7 ⟨rfl, e7⟩
  have ho7 : Met w7 w6.heap.size (fun _ => 0) 0 0 0 := e7 ▸ met_new w6
  have t7 : Turn (fun _ => False) w6 w7 := e7 ▸ (Turn.refl _ w6).alloc _
  have h7 := h6.kept t7 (fun h => h)
  have hp7 := hp6.kept t7 (fun h => h)
  have hlt := h6.lt
  replace t7 := t6.trans t7
  have hc7 : w7.cell? ⟨w2.heap.size, 0, none⟩ = some (.int .i64 1) := hp7.cell 0
  clear hp7 h6 hp6 e7
  go_wp2_with fail
  refine (stopped_any w.heap.size _ 1 0 1 _ h7).mono ?_
  rintro e w8 ⟨rfl, rfl⟩
  go_wp2_with fail
  refine (stop_first w6.heap.size _ (.inl rfl) _ _ _ (hook_nil w6.heap.size) _ _ ho7 trivial (by rintro k h; exact h.elim)).mono ?_
  rintro e w9 ⟨rfl, ho9, _, t9⟩
  have h9 := h7.kept t9 (by rintro (e | e); omega; exact e)
  replace t9 := t7.trans' t9 (fun i hi e => by rcases e with e | e; have := t6.size; omega; exact e)
  clear h7 ho7 t7 hc7
  go_wp2_with fail
  refine (stopped_any w6.heap.size _ 1 0 1 _ ho9).mono ?_
  rintro e w10 ⟨rfl, rfl⟩
  go_wp2_with fail
  refine (add_out w.heap.size (-1) (by omega) 1 _).mono ?_
  rintro e w10 ⟨rfl, rfl⟩
  go_wp2_with fail
  refine (add_out w.heap.size 5 (by omega) 1 _).mono ?_
  rintro e w10 ⟨rfl, rfl⟩
  go_wp2_with fail
  refine (raise_out w.heap.size 99 (by omega) 1 _).mono ?_
  rintro e w10 ⟨rfl, rfl⟩
  go_wp2_with fail
  refine (value_out w.heap.size (-1) (by omega) _).mono ?_
  rintro e w10 ⟨rfl, rfl⟩
  go_wp2
  go_ret
  exact ⟨rfl, t9⟩

end Go.Proofs.Ytdfamclggeaejaa
