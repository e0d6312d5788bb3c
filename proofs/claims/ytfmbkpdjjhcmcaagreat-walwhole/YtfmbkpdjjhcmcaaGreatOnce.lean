/- A Table's table is made once: its Once, its Sum, its Made. -/
import Derived.Test.YtfmbkpdjjhcmcaaGreatTab
namespace Go.Proofs.YtfmbkpdjjhcmcaaGreat
open Go.RowKit

set_option maxRecDepth 100000 in
set_option maxHeartbeats 1600000 in
/-- The slow road of a Table's Once. -/
theorem slow_any (b : Nat) (w : World) (h : Mid w b 0 0 0 0) :
    Calls Tryz.prog 107 #[.pointer (some ⟨b, 0, none⟩), .func (.func 102) #[.pointer (some ⟨b, 0, none⟩)] #[]] w fun e w' => e = .returned (.tuple #[]) ∧ Mid w' b 1 0 1 256 ∧ Turn (fun k => k = b) w w' := by
  have hnot : ∀ (x : Bool) (w : World), (Op.unary .not (.bool x)).run Tryz.prog w = .ok (.bool (!x)) w := fun _ _ => rfl
  go_enter_defers Tryz.func107, Tryz.ntmps107
  go_wp2_with fail
  refine (lock_free ⟨b, 1, none⟩ _ h.lock (h.frozen _)).mono ?_
  rintro e w1 ⟨rfl, e1⟩
  have h1 : Mid w1 b 0 1 0 0 := e1 ▸ h.setLock 1
  have t1 : Turn (fun k => k = b) w w1 := e1 ▸ (Turn.refl (fun k => k = b) w).setCell (p := ⟨b, 1, none⟩) (.inl rfl) _
  clear e1 h
  go_wp2_with fail
  refine (boolLoad_any ⟨b, 0, none⟩ 0 _ h1.done).mono ?_
  rintro e w2 ⟨rfl, rfl⟩
  go_wp2_with fail
  refine (fill_any b 0 1 _ h1).mono ?_
  rintro e w3 ⟨rfl, h3, t3⟩
  have t4 := t1.trans t3
  clear t3 h1 t1
  go_wp2
  refine leaves_cons (f := 113) (args := #[.pointer (some ⟨b, 0, none⟩), .bool true]) (by simp) (by simp [go_sem]) ?_
  refine (store_deferred ⟨b, 0, none⟩ (.int .u32 0) .returning _ h3.done (h3.frozen _)).mono ?_
  rintro e u' w5 ⟨rfl, rfl, e5⟩
  have h5 : Mid w5 b 1 1 1 256 := e5 ▸ h3.drew.setDone 1
  have t5 : Turn (fun k => k = b) w w5 := e5 ▸ t4.drew.setCell (p := ⟨b, 0, none⟩) (.inl rfl) _
  clear e5
  refine leaves_cons (f := 112) (args := #[.pointer (some ⟨b, 1, none⟩)]) (by simp [settle]) (by simp [go_sem]) ?_
  refine (unlock_deferred ⟨b, 1, none⟩ _ _ h5.lock (h5.frozen _)).mono ?_
  rintro e u' w6 ⟨rfl, rfl, e6⟩
  have h6 : Mid w6 b 1 0 1 256 := e6 ▸ h5.setLock 0
  have t6 : Turn (fun k => k = b) w w6 := e6 ▸ t5.setCell (p := ⟨b, 1, none⟩) (.inl rfl) _
  exact ⟨_, results_none rfl _ _ _, rfl, h6, t6⟩

theorem Tab.mid {w : World} {b : Nat} (h : Tab w b false) : Mid w b 0 0 0 0 := by
  obtain ⟨cs, f, h1, h2, h3⟩ := h.cells
  exact ⟨cs, f, h1, h2, fun i hi => by omega⟩
theorem Tab.whole {w : World} {b : Nat} (h : Tab w b true) : Mid w b 1 0 1 256 := by
  obtain ⟨cs, f, h1, h2, h3⟩ := h.cells
  exact ⟨cs, f, h1, h2, fun i hi => h3 rfl i hi⟩
theorem Mid.tab {w : World} {b : Nat} (h : Mid w b 1 0 1 256) : Tab w b true := by
  obtain ⟨cs, f, h1, h2, h3⟩ := h.cells
  exact ⟨cs, f, h1, h2, fun _ i hi => h3 i hi⟩

set_option maxRecDepth 100000 in
set_option maxHeartbeats 1600000 in
/-- A Table's Once, whether it is done or not. -/
theorem do_any (b : Nat) (used : Bool) (w : World) (h : Tab w b used) :
    Calls Tryz.prog 101 #[.pointer (some ⟨b, 0, none⟩), .func (.func 102) #[.pointer (some ⟨b, 0, none⟩)] #[]] w fun e w' => e = .returned (.tuple #[]) ∧ Tab w' b true ∧ Turn (fun k => k = b) w w' := by
  have hnot : ∀ (x : Bool) (w : World), (Op.unary .not (.bool x)).run Tryz.prog w = .ok (.bool (!x)) w := fun _ _ => rfl
  cases used with
  | true =>
    have hd := h.whole.done
    go_enter Tryz.func101, Tryz.ntmps101
    go_wp2_with fail
    refine (boolLoad_any ⟨b, 0, none⟩ 1 _ hd).mono ?_
    rintro e w2 ⟨rfl, rfl⟩
    go_wp2
    go_end0
    exact ⟨rfl, h, Turn.refl _ _⟩
  | false =>
    have hd := h.mid.done
    go_enter Tryz.func101, Tryz.ntmps101
    go_wp2_with fail
    refine (boolLoad_any ⟨b, 0, none⟩ 0 _ hd).mono ?_
    rintro e w2 ⟨rfl, rfl⟩
    go_wp2_with fail
    refine (slow_any b _ h.mid).mono ?_
    rintro e w3 ⟨rfl, h3, t3⟩
    go_wp2
    go_end0
    exact ⟨rfl, h3.tab, t3⟩

/-- A Table's Once that is done turns nothing. -/
theorem do_again (b : Nat) (w : World) (h : Tab w b true) (f : Value) :
    Calls Tryz.prog 101 #[.pointer (some ⟨b, 0, none⟩), f] w fun e w' => e = .returned (.tuple #[]) ∧ w = w' := by
  have hnot : ∀ (x : Bool) (w : World), (Op.unary .not (.bool x)).run Tryz.prog w = .ok (.bool (!x)) w := fun _ _ => rfl
  have hd := h.whole.done
  go_enter Tryz.func101, Tryz.ntmps101
  go_wp2_with fail
  refine (boolLoad_any ⟨b, 0, none⟩ 1 _ hd).mono ?_
  rintro e w2 ⟨rfl, rfl⟩
  go_wp2
  go_end0
  exact ⟨rfl, rfl⟩

end Go.Proofs.YtfmbkpdjjhcmcaaGreat
