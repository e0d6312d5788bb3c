/- What an argument that is a slice of raw steps, or of bytes, shows of memory. -/
import Derived.Test.YtppgmcgohmppbaaSteps
import Derived.ProofKit
import Derived.OpenShut
import Derived.Deep.Slices
import Derived.Deep.Strs
namespace Go.Proofs.Ytppgmcgohmppbaa
open Go.ChangeShapes Go.WideShapes Go.ChangeAt Go.RowKit Go.Deep

theorem Try.cellsInt : Try.prog.cellsOf 3 = 1 := by kernel_rfl
theorem Try.cellsU8 : Try.prog.cellsOf 5 = 1 := by kernel_rfl
theorem Try.cellsBytes : Try.prog.cellsOf 24 = 1 := by kernel_rfl
theorem Try.cellsStep : Try.prog.cellsOf 37 = 3 := by kernel_rfl

section
variable {H : Type}

theorem bulk_one (d : DataW H) : 1 ≤ Rows.uptoBulk d := by
  cases d with
  | lit l => cases l <;> simp [Rows.uptoBulk]
  | nil => simp [Rows.uptoBulk]
  | ptr d => simp [Rows.uptoBulk]
  | slice elems spare => simp [Rows.uptoBulk]
  | agg parts => simp [Rows.uptoBulk]
  | iface t d => simp [Rows.uptoBulk]
  | map entries => simp [Rows.uptoBulk]
  | held h => simp [Rows.uptoBulk]

theorem bulk_length : ∀ l : List (DataW H), l.length ≤ Rows.uptoBulkAll l
  | [] => by simp [Rows.uptoBulkAll]
  | x :: r => by
    have h1 := bulk_one x
    have h2 := bulk_length r
    simp only [Rows.uptoBulkAll, List.length_cons]
    omega

theorem bulk_part {d : DataW H} : ∀ {l : List (DataW H)}, d ∈ l → Rows.uptoBulk d ≤ Rows.uptoBulkAll l
  | x :: r, h => by
    simp only [Rows.uptoBulkAll]
    rcases List.mem_cons.1 h with e | e
    · subst e; omega
    · have := bulk_part e; omega

/-- A datum that is a slice of so many elements, or nil. -/
def Long (d : DataW H) (n : Nat) : Prop := (d = .nil ∧ n = 0) ∨ ∃ elems spare, d = .slice elems spare ∧ elems.length = n

theorem Long.bulk {d : DataW H} {n : Nat} (h : Long d n) : n ≤ Rows.uptoBulk d := by
  rcases h with ⟨rfl, rfl⟩ | ⟨elems, spare, rfl, rfl⟩
  · omega
  · have := bulk_length elems
    simp only [Rows.uptoBulk]
    omega

end

section
variable {H : Type} {enc : TypeId × Value → H} {W : World}

theorem byte_wf {n : Int} (h : (Lit.int .u8 n).wf = true) : ((UInt8.ofNat n.toNat).toNat : Int) = n := by
  have hb := bounds_u8 h
  rw [UInt8.toNat_ofNat']
  omega

/-- A slice of bytes that is read as data: what it shows, and that its bytes lie below the world's end. -/
theorem open_bytes {fuel : Nat} {c : Value} {x : DataW H × List MemPlace} (h : DataW.trod enc Try.prog W 0 (fun _ => true) true fuel 24 [c] = some x) :
    ∃ bs : List UInt8, Sees W c bs ∧ (0 < bs.length → ∀ k, slab c = some k → k < W.heap.size) ∧ Long x.1 bs.length := by
  rcases open_ints Try.underlying24 Try.underlying5 Try.cellsU8 h with ⟨hcs, hx⟩ | ⟨a, len, cap, zs, hcs, _, hl, hm, hz, hx, hcell, hwz⟩
  · injection hcs with hcs
    subst hcs
    exact ⟨[], Sees.nil W, fun h => by simp at h, .inl ⟨by rw [hx], rfl⟩⟩
  · injection hcs with hcs
    subst hcs
    simp only [if_true] at hz
    refine ⟨(zs.take len).map (fun n => UInt8.ofNat n.toNat), ?_, ?_, .inr ⟨_, _, by rw [hx], by simp [lits]⟩⟩
    · refine .inr ⟨a, cap, by simp; omega, by simp; omega, hm, fun j u hj => ?_⟩
      have hjl : j < len := by
        have := (List.getElem?_eq_some_iff.1 hj).1
        simp [u8s] at this
        omega
      rw [hcell j (by omega)]
      rw [← hj]
      have hzj : zs[j]? = some (zs.getD j 0) := by
        rw [List.getD_eq_getElem?_getD, List.getElem?_eq_getElem (show j < zs.length by omega)]
        rfl
      have hmem : zs.getD j 0 ∈ zs := List.mem_of_getElem? hzj
      simp only [u8s, List.map_map, List.getElem?_map, List.getElem?_take, hjl, if_true, hzj, Option.map_some, Function.comp]
      rw [byte_wf (hwz _ hmem)]
    · intro h0 k hk
      simp only [slab, Option.some.injEq] at hk
      subst hk
      have h1 : 0 < zs.length := by simp at h0; omega
      have := World.block_lt_of_cell? _ _ (hcell 0 h1)
      rwa [addr_add_block] at this

theorem one_of {l : List Value} {c0 c1 c2 : Value} (h : l = [c0, c1, c2]) : (l.drop 0).take 1 = [c0] ∧ (l.drop 1).take 1 = [c1] ∧ (l.drop 2).take 1 = [c2] := by subst h; exact ⟨rfl, rfl, rfl⟩

theorem three_of {l : List Value} (h : l.length = 3) : ∃ c0 c1 c2, l = [c0, c1, c2] := by
  match l, h with
  | [a, b, c], _ => exact ⟨a, b, c, rfl⟩

/-- One step that is read as data. -/
theorem open_step {fuel : Nat} {cs : List Value} {x : DataW H × List MemPlace} (h : DataW.trod enc Try.prog W 0 (fun _ => true) true fuel 37 cs = some x) :
    ∃ s : StepD, cs = [.int .i64 s.what, .int .i64 s.n, s.bv] ∧ Sees W s.bv s.bs ∧ (0 < s.bs.length → ∀ k, slab s.bv = some k → k < W.heap.size) ∧ (-9223372036854775808 ≤ s.n ∧ s.n ≤ 9223372036854775807) ∧ s.bs.length ≤ Rows.uptoBulk x.1 := by
  obtain ⟨y0, y1, y2, n, hx, hl, h0, h1, h2⟩ := trod_struct3 Try.underlying37 h
  rw [Try.cellsStep] at hl
  obtain ⟨c0, c1, c2, hcs⟩ := three_of hl
  subst hcs
  have e0 : DataW.trod enc Try.prog W 0 (fun _ => true) true n 3 [c0] = some y0 := by simpa [Try.cellsInt] using h0
  have e1 : DataW.trod enc Try.prog W 0 (fun _ => true) true n 3 [c1] = some y1 := by simpa [Try.cellsInt] using h1
  have e2 : DataW.trod enc Try.prog W 0 (fun _ => true) true n 24 [c2] = some y2 := by simpa [Try.cellsBytes] using h2
  obtain ⟨a, ha, _, _⟩ := DataW.trod_int Try.underlying3 e0
  obtain ⟨b, hb, _, wb⟩ := DataW.trod_int Try.underlying3 e1
  obtain ⟨bs, hsee, hslab, hlong⟩ := open_bytes e2
  injection ha with ha
  injection hb with hb
  subst ha hb
  refine ⟨⟨a, b, c2, bs⟩, rfl, hsee, hslab, bounds_i64 wb, ?_⟩
  have h3 := hlong.bulk
  have h4 := bulk_part (d := y2.1) (l := [y0.1, y1.1, y2.1]) (by simp)
  rw [hx]
  simp only [Rows.uptoBulk]
  omega

theorem list_of {α : Type} {p : Nat → α → Prop} : ∀ n : Nat, (∀ i, i < n → ∃ x, p i x) → ∃ xs : List α, xs.length = n ∧ ∀ i (h : i < xs.length), p i xs[i]
  | 0, _ => ⟨[], rfl, fun i h => by simp at h⟩
  | n + 1, h => by
    obtain ⟨xs, hl, hx⟩ := list_of n (fun i hi => h i (by omega))
    obtain ⟨y, hy⟩ := h n (by omega)
    refine ⟨xs ++ [y], by simp [hl], fun i hi => ?_⟩
    by_cases hi' : i < xs.length
    · rw [List.getElem_append_left hi']
      exact hx i hi'
    · have e : i = xs.length := by simp at hi; omega
      subst e
      simp only [List.getElem_concat_length]
      rw [hl]
      exact hy

/-- A slice of steps that is read as data. -/
theorem open_steps {fuel : Nat} {v : Value} {x : DataW H × List MemPlace} (h : DataW.trod enc Try.prog W 0 (fun _ => true) true fuel 32 [v] = some x) :
    (∃ ao cap, v = .slice ao 0 cap) ∨ ∃ ab off cap xs, v = .slice (some ⟨ab, off, none⟩) xs.length cap ∧ xs.length ≤ maxLen ∧ StepsAt W W.heap.size ab off cap xs ∧ ∀ k (hk : k < xs.length), xs[k].bs.length ≤ Rows.uptoBulk x.1 := by
  rcases open_slice Try.underlying32 h with ⟨hcs, hx⟩ | ⟨a, len, cap, m, n, D, Pl, hcs, _, hl, hm, hmm, hx, hel⟩
  · injection hcs with hcs
    exact .inl ⟨_, _, hcs⟩
  · injection hcs with hcs
    subst hcs
    simp only [if_true] at hmm
    subst hmm
    by_cases h0 : len = 0
    · subst h0
      exact .inl ⟨_, _, rfl⟩
    · have each : ∀ i, i < len → ∃ s : StepD, W.cell? (a.add (i * 3)) = some (.int .i64 s.what) ∧ W.cell? ((a.add (i * 3)).add 1) = some (.int .i64 s.n) ∧ W.cell? ((a.add (i * 3)).add 2) = some s.bv ∧ Sees W s.bv s.bs ∧
          (0 < s.bs.length → ∀ k, slab s.bv = some k → k < W.heap.size) ∧ (-9223372036854775808 ≤ s.n ∧ s.n ≤ 9223372036854775807) ∧ s.bs.length ≤ Rows.uptoBulk x.1 := by
        intro i hi
        obtain ⟨cs', hc, ht⟩ := hel i (by omega)
        rw [Try.cellsStep] at hc
        obtain ⟨s, rfl, h1, h2, h3, h4⟩ := open_step ht
        have h5 : s.bs.length ≤ Rows.uptoBulk x.1 := by
          rw [hx]
          have h6 := bulk_part (d := D i) (l := (List.range len).map D) (List.mem_map.2 ⟨i, List.mem_range.2 hi, rfl⟩)
          simp only [Rows.uptoBulk]
          simp only at h4
          omega
        obtain ⟨_, _, hce⟩ := World.cells?_some hc
        exact ⟨s, by have := hce 0 (by omega); rw [show (a.add (i * 3)).add 0 = a.add (i * 3) from if_pos rfl] at this; simpa using this, by have := hce 1 (by omega); simpa using this, by have := hce 2 (by omega); simpa using this, h1, h2, h3, h5⟩
      obtain ⟨ab, off, spot⟩ := a
      obtain ⟨s0, h00, _⟩ := each 0 (by omega)
      have hspot : spot = none := by simpa [Addr.add] using World.cell?_spot h00
      subst hspot
      have hab : ab < W.heap.size := by have := World.block_lt_of_cell? _ _ h00; simpa [addr_add_block] using this
      obtain ⟨xs, hxl, hxs⟩ := list_of len each
      subst hxl
      refine .inr ⟨ab, off, _, xs, rfl, by omega, ?_, fun k hk => (hxs k hk).2.2.2.2.2.2⟩
      refine ⟨hl, fun _ => hab, fun k hk => ?_, fun k hk => ?_, fun k hk => ?_, fun k hk => (hxs k hk).2.2.2.1, fun k hk => (hxs k hk).2.2.2.2.1, fun k hk => (hxs k hk).2.2.2.2.2.1⟩
      · have := (hxs k hk).1
        rwa [add_plain] at this
      · have := (hxs k hk).2.1
        rwa [add_plain, add_plain] at this
      · have := (hxs k hk).2.2.1
        rwa [add_plain, add_plain] at this

end

end Go.Proofs.Ytppgmcgohmppbaa
