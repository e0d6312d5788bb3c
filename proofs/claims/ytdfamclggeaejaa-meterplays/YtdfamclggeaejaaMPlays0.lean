/- The law MeterPlays where there are no calls; and what an argument that is a slice of raw calls shows of memory. -/
import Derived.Test.YtdfamclggeaejaaMPlays
import Derived.Test.YtdfamclggeaejaaOpenB
namespace Go.Proofs.Ytdfamclggeaejaa
open Go.ChangeShapes Go.WideShapes Go.ChangeAt Go.RowKit Go.Deep

set_option maxHeartbeats 4000000 in
set_option maxRecDepth 100000 in
theorem meterPlays_none (ao : Option Addr) (cap : Nat) (w : World) :
    Calls Try.prog 5 #[.slice ao 0 cap] w fun e w' => e = .returned (.bool true) ∧ Turn (fun _ => False) w w' := by
  have hnot : ∀ (x : Bool) (w : World), (Op.unary .not (.bool x)).run Try.prog w = .ok (.bool (!x)) w := fun _ _ => rfl
  go_enter Try.func5, Try.ntmps5
  go_wp2_with fail
  refine (mnew_any w).mono ?_
  rintro e w1 ⟨rfl, e1⟩
  have t1 : Turn (fun _ => False) w w1 := e1 ▸ (Turn.refl _ _).alloc _
  clear e1
  go_wp2_with fail
  refine (mknown_any _).mono ?_
  rintro e w3 ⟨rfl, ht3⟩
  have t3 : Turn (fun _ => False) w w3 := t1.trans ht3
  clear ht3 t1
  go_wp2_with fail
  go_loopw [2, 5, 6, 7, 8] (fun _ i _ _ _ wr => i = .int .i64 0 ∧ Turn (fun _ => False) w wr) (fun _ _ _ _ _ _ => 0)
  case atStart => exact ⟨rfl, t3.alloc _⟩
  case round =>
    obtain ⟨rfl, ht⟩ := hrel
    go_wp2
    go_ret
    exact ⟨rfl, ht⟩

theorem Try.cellsBool1 : Try.prog.cellsOf 4 = 1 := by kernel_rfl
theorem Try.cellsInt1 : Try.prog.cellsOf 3 = 1 := by kernel_rfl
theorem Try.cellsCall : Try.prog.cellsOf 34 = 3 := by kernel_rfl

section
variable {H : Type} {enc : TypeId × Value → H} {W : World}

theorem three_of' {l : List Value} (h : l.length = 3) : ∃ c0 c1 c2, l = [c0, c1, c2] := by
  match l, h with
  | [a, b, c], _ => exact ⟨a, b, c, rfl⟩

/-- One raw call that is read as data. -/
theorem open_call {fuel : Nat} {cs : List Value} {x : DataW H × List MemPlace} (h : DataW.trod enc Try.prog W 0 (fun _ => true) true fuel 34 cs = some x) :
    ∃ s : StepM, cs = [.bool s.up, .int .i64 s.kind, .int .i64 s.n] := by
  obtain ⟨y0, y1, y2, n, hx, hl, h0, h1, h2⟩ := trod_struct3 Try.underlying34 h
  rw [Try.cellsCall] at hl
  obtain ⟨c0, c1, c2, hcs⟩ := three_of' hl
  subst hcs
  have e0 : DataW.trod enc Try.prog W 0 (fun _ => true) true n 4 [c0] = some y0 := by simpa [Try.cellsBool1] using h0
  have e1 : DataW.trod enc Try.prog W 0 (fun _ => true) true n 3 [c1] = some y1 := by simpa [Try.cellsInt1] using h1
  have e2 : DataW.trod enc Try.prog W 0 (fun _ => true) true n 3 [c2] = some y2 := by simpa [Try.cellsInt1] using h2
  obtain ⟨f, hf, _⟩ := DataW.trod_bool Try.underlying4 e0
  obtain ⟨a, ha, _, _⟩ := DataW.trod_int Try.underlying3 e1
  obtain ⟨b, hb, _, _⟩ := DataW.trod_int Try.underlying3 e2
  injection hf with hf
  injection ha with ha
  injection hb with hb
  subst hf ha hb
  exact ⟨⟨f, a, b⟩, rfl⟩

/-- A slice of raw calls that is read as data. -/
theorem open_calls {fuel : Nat} {v : Value} {x : DataW H × List MemPlace} (h : DataW.trod enc Try.prog W 0 (fun _ => true) true fuel 31 [v] = some x) :
    (∃ ao cap, v = .slice ao 0 cap) ∨ ∃ ab off cap xs, v = .slice (some ⟨ab, off, none⟩) xs.length cap ∧ xs.length ≤ maxLen ∧ CallsAt W W.heap.size ab off cap xs := by
  rcases open_slice Try.underlying31 h with ⟨hcs, hx⟩ | ⟨a, len, cap, m, n, D, Pl, hcs, _, hl, hm, hmm, hx, hel⟩
  · injection hcs with hcs
    exact .inl ⟨_, _, hcs⟩
  · injection hcs with hcs
    subst hcs
    simp only [if_true] at hmm
    subst hmm
    by_cases h0 : len = 0
    · subst h0
      exact .inl ⟨_, _, rfl⟩
    · have each : ∀ i, i < len → ∃ s : StepM, W.cell? (a.add (i * 3)) = some (.bool s.up) ∧ W.cell? ((a.add (i * 3)).add 1) = some (.int .i64 s.kind) ∧ W.cell? ((a.add (i * 3)).add 2) = some (.int .i64 s.n) := by
        intro i hi
        obtain ⟨cs', hc, ht⟩ := hel i (by omega)
        rw [Try.cellsCall] at hc
        obtain ⟨s, rfl⟩ := open_call ht
        obtain ⟨_, _, hce⟩ := World.cells?_some hc
        exact ⟨s, by have := hce 0 (by omega); rw [show (a.add (i * 3)).add 0 = a.add (i * 3) from if_pos rfl] at this; simpa using this, by have := hce 1 (by omega); simpa using this, by have := hce 2 (by omega); simpa using this⟩
      obtain ⟨ab, off, spot⟩ := a
      obtain ⟨s0, h00, _⟩ := each 0 (by omega)
      have hspot : spot = none := by simpa [Addr.add] using World.cell?_spot h00
      subst hspot
      have hab : ab < W.heap.size := by have := World.block_lt_of_cell? _ _ h00; simpa [addr_add_block] using this
      obtain ⟨xs, hxl, hxs⟩ := list_of len each
      subst hxl
      refine .inr ⟨ab, off, _, xs, rfl, by omega, hl, fun _ => hab, fun k hk => ?_, fun k hk => ?_, fun k hk => ?_⟩
      · have := (hxs k hk).1
        rwa [add_plain] at this
      · have := (hxs k hk).2.1
        rwa [add_plain, add_plain] at this
      · have := (hxs k hk).2.2
        rwa [add_plain, add_plain] at this

end

end Go.Proofs.Ytdfamclggeaejaa
