/- A Meter's Stop: the first one, and those behind it. -/
import Derived.Test.YtdfamclggeaejaaMStop
namespace Go.Proofs.Ytdfamclggeaejaa
open Go.RowKit

/-- What Stop is handed, as finish does it: K is so ahead of it, K' behind it, and the blocks of S are turned. -/
structure Hook (v : Value) (b : Nat) (S : Nat → Prop) (K K' : World → Prop) : Prop where
  fin : ∀ f w, Met w b f 0 1 0 → K w → Calls Try.prog 22 #[.pointer (some ⟨b, 0, none⟩), v] w fun e w' => e = .returned (.tuple #[]) ∧ Met w' b f 0 1 1 ∧ K' w' ∧ Turn (fun k => k = b ∨ S k) w w'
  kept : ∀ (T : Nat → Prop) w w', K w → Turn T w w' → (∀ k, S k → ¬ T k) → K w'
  kept' : ∀ (T : Nat → Prop) w w', K' w → Turn T w w' → (∀ k, S k → ¬ T k) → K' w'
  not : ¬ S b

theorem hook_nil (b : Nat) : Hook .nilFunc b (fun _ => False) (fun _ => True) (fun _ => True) where
  fin f w h _ := (finish_nil b f 0 1 0 w h).mono fun _ _ h => ⟨h.1, h.2.1, trivial, h.2.2.mono fun _ _ e => .inl e⟩
  kept _ _ _ _ _ _ := trivial
  kept' _ _ _ _ _ _ := trivial
  not h := h

theorem hook_fn (F : FuncId) (b p : Nat) (x y : Int) (hpb : p ≠ b) (hin : ∀ args w, (callFunc F args).run Try.prog w = .ok (.enter F args) w)
    (hF : ∀ w, At 3 w p #[.int .i64 x] → Calls Try.prog F #[.pointer (some ⟨p, 0, none⟩)] w fun e w' => e = .returned (.tuple #[]) ∧ At 3 w' p #[.int .i64 y] ∧ Turn (fun k => k = p) w w') :
    Hook (.func (.func F) #[] #[.pointer (some ⟨p, 0, none⟩)]) b (fun k => k = p) (fun w => At 3 w p #[.int .i64 x]) (fun w => At 3 w p #[.int .i64 y]) where
  fin f w h hp := finish_fn F b p x y f 0 1 0 w hpb h hp hin hF
  kept _ _ _ h ht hs := h.kept ht (hs p rfl)
  kept' _ _ _ h ht hs := h.kept ht (hs p rfl)
  not e := hpb e.symm

set_option maxRecDepth 100000 in
set_option maxHeartbeats 1000000 in
theorem stop1_any (b a a1 a2 : Nat) (v : Value) (S : Nat → Prop) (K K' : World → Prop) (hk : Hook v b S K K') (f : Nat → Int) (w : World) (h : Met w b f 0 1 0) (hK : K w)
    (ha : At 4 w a #[.bool false]) (h1 : At 22 w a1 #[.pointer (some ⟨b, 0, none⟩)]) (h2 : At 1 w a2 #[v]) (hab : a ≠ b) (ha1 : a ≠ a1) (ha2 : a ≠ a2) (haS : ¬ S a) :
    Calls Try.prog 21 #[.pointer (some ⟨a, 0, none⟩), .pointer (some ⟨a1, 0, none⟩), .pointer (some ⟨a2, 0, none⟩)] w fun e w' => e = .returned (.tuple #[]) ∧ At 4 w' a #[.bool true] ∧ Met w' b f 0 1 1 ∧ K' w' ∧ Turn (fun k => k = a ∨ k = b ∨ S k) w w' := by
  have hfin := hide hk
  clear hk
  have t1 : Turn (fun k => k = a) w (w.setCell ⟨a, 0, none⟩ (.bool true)) := Turn.here 0 _
  have hm1 := h.kept t1 (fun e => hab e.symm)
  have hK1 : K (w.setCell ⟨a, 0, none⟩ (.bool true)) := (unhide hfin).kept _ _ _ hK t1 (fun k hs e => haS (e ▸ hs))
  have g0 : w.cell? ⟨a, 0, none⟩ = some (.bool false) := ha.cell 0
  have gz := ha.frozen 0
  have ha' : At 4 (w.setCell ⟨a, 0, none⟩ (.bool true)) a #[.bool true] := ha.set 0 (.bool true)
  have g1 : (w.setCell ⟨a, 0, none⟩ (.bool true)).cell? ⟨a1, 0, none⟩ = some (.pointer (some ⟨b, 0, none⟩)) := (h1.kept t1 (fun e => ha1 e.symm)).cell 0
  have g2 : (w.setCell ⟨a, 0, none⟩ (.bool true)).cell? ⟨a2, 0, none⟩ = some v := (h2.kept t1 (fun e => ha2 e.symm)).cell 0
  go_enter Try.func21, Try.ntmps21
  go_wp2_with fail
  refine ((unhide hfin).fin f _ hm1 hK1).mono ?_
  rintro e w2 ⟨rfl, hm2, hK2, t2⟩
  have ha2' := ha'.kept t2 (by rintro (e | e); exact hab e; exact haS e)
  have t3 := (t1.mono (S' := fun k => k = a ∨ k = b ∨ S k) (fun _ _ e => .inl e)).trans (t2.mono fun _ _ e => .inr e)
  go_wp2
  go_end0
  exact ⟨rfl, ha2', hm2, hK2, t3⟩

set_option maxRecDepth 100000 in
set_option maxHeartbeats 1600000 in
theorem mslow_any (b a a1 a2 : Nat) (v : Value) (S : Nat → Prop) (K K' : World → Prop) (hk : Hook v b S K K') (f : Nat → Int) (w : World) (h : Met w b f 0 0 0) (hK : K w)
    (ha : At 4 w a #[.bool false]) (h1 : At 22 w a1 #[.pointer (some ⟨b, 0, none⟩)]) (h2 : At 1 w a2 #[v]) (hab : a ≠ b) (h1b : a1 ≠ b) (h2b : a2 ≠ b) (ha1 : a ≠ a1) (ha2 : a ≠ a2) (haS : ¬ S a) :
    Calls Try.prog 28 #[.pointer (some ⟨b, 5, none⟩), .func (.func 21) #[] #[.pointer (some ⟨a, 0, none⟩), .pointer (some ⟨a1, 0, none⟩), .pointer (some ⟨a2, 0, none⟩)]] w fun e w' => e = .returned (.tuple #[]) ∧ At 4 w' a #[.bool true] ∧ Met w' b f 1 0 1 ∧ K' w' ∧ Turn (fun k => k = a ∨ k = b ∨ S k) w w' := by
  have hnot : ∀ (x : Bool) (w : World), (Op.unary .not (.bool x)).run Try.prog w = .ok (.bool (!x)) w := fun _ _ => rfl
  have hfin := hide hk
  clear hk
  have hbS : ∀ k, S k → ¬ k = b := fun k hs e => (unhide hfin).not (e ▸ hs)
  go_enter_defers Try.func28, Try.ntmps28
  go_wp2_with fail
  refine (lock_free ⟨b, 6, none⟩ _ h.lock (h.frozen _)).mono ?_
  rintro e w1 ⟨rfl, e1⟩
  have hm1 : Met w1 b f 0 1 0 := e1 ▸ h.setLock 1
  have t1 : Turn (fun k => k = b) w w1 := by rw [e1]; exact Turn.here 6 _
  have hK1 := (unhide hfin).kept _ _ _ hK t1 hbS
  have ga := ha.kept t1 hab
  have g1 := h1.kept t1 h1b
  have g2 := h2.kept t1 h2b
  clear e1 h hK ha h1 h2
  go_wp2_with fail
  refine (boolLoad_any ⟨b, 5, none⟩ 0 _ hm1.done).mono ?_
  rintro e w2 ⟨rfl, rfl⟩
  go_wp2_with fail
  refine (stop1_any b a a1 a2 v S K K' (unhide hfin) f _ hm1 hK1 ga g1 g2 hab ha1 ha2 haS).mono ?_
  rintro e w3 ⟨rfl, ga3, hm3, hK3, t3⟩
  have t4 := (t1.mono (S' := fun k => k = a ∨ k = b ∨ S k) (fun _ _ e => .inr (.inl e))).trans t3
  clear t3 hm1 t1 ga g1 g2 hK1
  go_wp2
  refine leaves_cons (f := 30) (args := #[.pointer (some ⟨b, 5, none⟩), .bool true]) (by simp) (by simp [go_sem]) ?_
  refine (store_deferred ⟨b, 5, none⟩ (.int .u32 0) .returning _ hm3.done (hm3.frozen _)).mono ?_
  rintro e u' w5 ⟨rfl, rfl, e5⟩
  have hm5 : Met w5 b f 1 1 1 := e5 ▸ hm3.drew.setDone 1
  have t5 : Turn (fun k => k = b) w3 w5 := by rw [e5]; exact (Turn.refl (fun k => k = b) w3).drew.setCell (p := ⟨b, 5, none⟩) (.inl rfl) _
  clear e5
  refine leaves_cons (f := 35) (args := #[.pointer (some ⟨b, 6, none⟩)]) (by simp [settle]) (by simp [go_sem]) ?_
  refine (unlock_deferred ⟨b, 6, none⟩ _ _ hm5.lock (hm5.frozen _)).mono ?_
  rintro e u' w6 ⟨rfl, rfl, e6⟩
  have hm6 : Met w6 b f 1 0 1 := e6 ▸ hm5.setLock 0
  have t6 : Turn (fun k => k = b) w3 w6 := t5.trans (by rw [e6]; exact Turn.here 6 _)
  exact ⟨_, results_none rfl _ _ _, rfl, ga3.kept t6 hab, hm6, (unhide hfin).kept' _ _ _ hK3 t6 hbS, t4.trans (t6.mono fun _ _ e => .inr (.inl e))⟩

set_option maxRecDepth 100000 in
set_option maxHeartbeats 1600000 in
theorem mdo_first (b a a1 a2 : Nat) (v : Value) (S : Nat → Prop) (K K' : World → Prop) (hk : Hook v b S K K') (f : Nat → Int) (w : World) (h : Met w b f 0 0 0) (hK : K w)
    (ha : At 4 w a #[.bool false]) (h1 : At 22 w a1 #[.pointer (some ⟨b, 0, none⟩)]) (h2 : At 1 w a2 #[v]) (hab : a ≠ b) (h1b : a1 ≠ b) (h2b : a2 ≠ b) (ha1 : a ≠ a1) (ha2 : a ≠ a2) (haS : ¬ S a) :
    Calls Try.prog 20 #[.pointer (some ⟨b, 5, none⟩), .func (.func 21) #[] #[.pointer (some ⟨a, 0, none⟩), .pointer (some ⟨a1, 0, none⟩), .pointer (some ⟨a2, 0, none⟩)]] w fun e w' => e = .returned (.tuple #[]) ∧ At 4 w' a #[.bool true] ∧ Met w' b f 1 0 1 ∧ K' w' ∧ Turn (fun k => k = a ∨ k = b ∨ S k) w w' := by
  have hnot : ∀ (x : Bool) (w : World), (Op.unary .not (.bool x)).run Try.prog w = .ok (.bool (!x)) w := fun _ _ => rfl
  have hfin := hide hk
  clear hk
  go_enter Try.func20, Try.ntmps20
  go_wp2_with fail
  refine (boolLoad_any ⟨b, 5, none⟩ 0 _ h.done).mono ?_
  rintro e w2 ⟨rfl, rfl⟩
  go_wp2_with fail
  refine (mslow_any b a a1 a2 v S K K' (unhide hfin) f _ h hK ha h1 h2 hab h1b h2b ha1 ha2 haS).mono ?_
  rintro e w3 ⟨rfl, h3⟩
  go_wp2
  go_end0
  exact ⟨rfl, h3⟩

theorem mdo_again (b : Nat) (v : Value) (f : Nat → Int) (s : Int) (w : World) (h : Met w b f 1 0 s) :
    Calls Try.prog 20 #[.pointer (some ⟨b, 5, none⟩), v] w fun e w' => e = .returned (.tuple #[]) ∧ w = w' := by
  have hnot : ∀ (x : Bool) (w : World), (Op.unary .not (.bool x)).run Try.prog w = .ok (.bool (!x)) w := fun _ _ => rfl
  go_enter Try.func20, Try.ntmps20
  go_wp2_with fail
  refine (boolLoad_any ⟨b, 5, none⟩ 1 _ h.done).mono ?_
  rintro e w2 ⟨rfl, rfl⟩
  go_wp2
  go_end0
  exact ⟨rfl, rfl⟩

/-- The world behind Stop's own variables. -/
def stopIn (b : Nat) (v : Value) (w : World) : World := ((w.alloc (.cells #[.pointer (some ⟨b, 0, none⟩)] 22)).alloc (.cells #[v] 1)).alloc (.cells #[.bool false] 4)

theorem stopIn_turn (b : Nat) (v : Value) (w : World) : Turn (fun _ => False) w (stopIn b v w) := (((Turn.refl _ _).alloc _).alloc _).alloc _
theorem stopIn_first (b : Nat) (v : Value) (w : World) : At 4 (stopIn b v w) (w.heap.size + 2) #[.bool false] := by
  have := At.new 4 ((w.alloc (.cells #[.pointer (some ⟨b, 0, none⟩)] 22)).alloc (.cells #[v] 1)) #[.bool false]
  rw [show ((w.alloc (.cells #[.pointer (some ⟨b, 0, none⟩)] 22)).alloc (.cells #[v] 1)).heap.size = w.heap.size + 2 by simp] at this
  exact this
theorem stopIn_m (b : Nat) (v : Value) (w : World) : At 22 (stopIn b v w) w.heap.size #[.pointer (some ⟨b, 0, none⟩)] :=
  (At.new 22 w #[.pointer (some ⟨b, 0, none⟩)]).kept (S := fun _ => False) (((Turn.refl _ _).alloc _).alloc _) (fun h => h)
theorem stopIn_f (b : Nat) (v : Value) (w : World) : At 1 (stopIn b v w) (w.heap.size + 1) #[v] := by
  have := At.new 1 (w.alloc (.cells #[.pointer (some ⟨b, 0, none⟩)] 22)) #[v]
  rw [show (w.alloc (.cells #[.pointer (some ⟨b, 0, none⟩)] 22)).heap.size = w.heap.size + 1 by simp] at this
  exact this.kept (S := fun _ => False) ((Turn.refl _ _).alloc _) (fun h => h)

/-- A value of a function's type. -/
def IsFn (v : Value) : Prop := v = .nilFunc ∨ ∃ fn fi ca, v = .func fn fi ca

set_option maxRecDepth 100000 in
set_option maxHeartbeats 1600000 in
theorem stop_of (b : Nat) (v : Value) (hv : IsFn v) (x : Bool) (f : Nat → Int) (d s : Int) (w : World) (h : Met w b f d 0 s) (R : World → Prop)
    (hdo : Calls Try.prog 20 #[.pointer (some ⟨b, 5, none⟩), .func (.func 21) #[] #[.pointer (some ⟨w.heap.size + 2, 0, none⟩), .pointer (some ⟨w.heap.size, 0, none⟩), .pointer (some ⟨w.heap.size + 1, 0, none⟩)]] (stopIn b v w) fun e w' => e = .returned (.tuple #[]) ∧ At 4 w' (w.heap.size + 2) #[.bool x] ∧ R w') :
    Calls Try.prog 10 #[.pointer (some ⟨b, 0, none⟩), v] w fun e w' => e = .returned (.bool x) ∧ R w' := by
  have hmf : ∀ (fn : Fn) (first cap : Array Value) (w : World), (Instr.makeFunc fn first cap).run Try.prog w = .ok (.func fn first cap) w := fun _ _ _ _ => rfl
  have hdo := hide hdo
  have hlt := h.lt
  rcases hv with rfl | ⟨fn, fi, ca, rfl⟩
  all_goals (
    go_enter Try.func10, Try.ntmps10
    go_wp2_with fail
    refine (unhide hdo).mono ?_
    rintro e w2 ⟨rfl, ha, hR⟩
    have hc : w2.cell? ⟨w.heap.size + 2, 0, none⟩ = some (.bool x) := ha.cell 0
    clear hdo
    go_wp2
    go_ret
    exact ⟨rfl, hR⟩)

theorem stop_first (b : Nat) (v : Value) (hv : IsFn v) (S : Nat → Prop) (K K' : World → Prop) (hk : Hook v b S K K') (f : Nat → Int) (w : World) (h : Met w b f 0 0 0) (hK : K w) (hS : ∀ k, S k → k < w.heap.size) :
    Calls Try.prog 10 #[.pointer (some ⟨b, 0, none⟩), v] w fun e w' => e = .returned (.bool true) ∧ Met w' b f 1 0 1 ∧ K' w' ∧ Turn (fun k => k = b ∨ S k) w w' := by
  have hlt := h.lt
  have ht := stopIn_turn b v w
  refine stop_of b v hv true f 0 0 w h (fun w' => Met w' b f 1 0 1 ∧ K' w' ∧ Turn (fun k => k = b ∨ S k) w w') ?_
  refine (mdo_first b (w.heap.size + 2) w.heap.size (w.heap.size + 1) v S K K' hk f _ (h.kept ht (fun h => h)) (hk.kept _ _ _ hK ht (fun _ _ h => h)) (stopIn_first b v w) (stopIn_m b v w) (stopIn_f b v w) (by omega) (by omega) (by omega) (by omega) (by omega) (fun hs => by have := hS _ hs; omega)).mono ?_
  rintro e w2 ⟨rfl, ha, hm, hK2, t2⟩
  refine ⟨rfl, ha, hm, hK2, (ht.mono (S' := fun k => k = b ∨ S k) (fun _ _ h => h.elim)).trans' t2 fun i hi hs => ?_⟩
  rcases hs with hs | hs
  · omega
  · exact hs

theorem stop_again (b : Nat) (v : Value) (hv : IsFn v) (f : Nat → Int) (s : Int) (w : World) (h : Met w b f 1 0 s) :
    Calls Try.prog 10 #[.pointer (some ⟨b, 0, none⟩), v] w fun e w' => e = .returned (.bool false) ∧ Turn (fun _ => False) w w' := by
  have ht := stopIn_turn b v w
  refine stop_of b v hv false f 1 s w h (fun w' => Turn (fun _ => False) w w') ?_
  refine (mdo_again b _ f s _ (h.kept ht (fun h => h))).mono ?_
  rintro e w2 ⟨rfl, rfl⟩
  exact ⟨rfl, stopIn_first b v w, ht⟩

end Go.Proofs.Ytdfamclggeaejaa
