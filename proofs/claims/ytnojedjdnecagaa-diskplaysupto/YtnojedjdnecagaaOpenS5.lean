/- What an argument that is a slice of raw steps shows of memory. -/
import Derived.Test.YtnojedjdnecagaaStp5
import Derived.Test.YtnojedjdnecagaaOpenB
namespace Go.Proofs.Ytnojedjdnecagaa
open Go.ChangeShapes Go.WideShapes Go.ChangeAt Go.RowKit Go.Deep

theorem Try.cellsIntS : Try.prog.cellsOf 3 = 1 := by kernel_rfl
theorem Try.cellsBytesS : Try.prog.cellsOf 27 = 1 := by kernel_rfl
theorem Try.cellsStep5 : Try.prog.cellsOf 40 = 5 := by kernel_rfl

section
variable {H : Type} {enc : TypeId × Value → H} {W : World} {P : Program} {base : Nat} {spare : Nat → Bool} {held : Bool}

theorem trod_struct5 {t : TypeId} {f0 f1 f2 f3 f4 : Field} {fuel : Nat} {cs : List Value} {x : DataW H × List MemPlace} (ht : P.underlying t = some (.struct #[f0, f1, f2, f3, f4])) (h : DataW.trod enc P W base spare held fuel t cs = some x) :
    ∃ y0 y1 y2 y3 y4 n, x = (.agg [y0.1, y1.1, y2.1, y3.1, y4.1], y0.2 ++ (y1.2 ++ (y2.2 ++ (y3.2 ++ y4.2)))) ∧ cs.length = P.cellsOf t ∧ DataW.trod enc P W base spare held n f0.type ((cs.drop f0.offset).take (P.cellsOf f0.type)) = some y0 ∧
      DataW.trod enc P W base spare held n f1.type ((cs.drop f1.offset).take (P.cellsOf f1.type)) = some y1 ∧ DataW.trod enc P W base spare held n f2.type ((cs.drop f2.offset).take (P.cellsOf f2.type)) = some y2 ∧ DataW.trod enc P W base spare held n f3.type ((cs.drop f3.offset).take (P.cellsOf f3.type)) = some y3 ∧ DataW.trod enc P W base spare held n f4.type ((cs.drop f4.offset).take (P.cellsOf f4.type)) = some y4 := by
  obtain ⟨xs, n, _, rfl, hl, hlen, hf⟩ := DataW.trod_struct ht h
  match xs, hlen with
  | [y0, y1, y2, y3, y4], _ => exact ⟨y0, y1, y2, y3, y4, n, by simp, hl, by simpa using hf 0 f0 rfl, by simpa using hf 1 f1 rfl, by simpa using hf 2 f2 rfl, by simpa using hf 3 f3 rfl, by simpa using hf 4 f4 rfl⟩

theorem five_of {l : List Value} (h : l.length = 5) : ∃ c0 c1 c2 c3 c4, l = [c0, c1, c2, c3, c4] := by
  match l, h with
  | [a, b, c, d, e], _ => exact ⟨a, b, c, d, e, rfl⟩

end

section
variable {H : Type} {enc : TypeId × Value → H} {W : World}

/-- One step that is read as data. -/
theorem open_step5 {fuel : Nat} {cs : List Value} {x : DataW H × List MemPlace} (h : DataW.trod enc Try.prog W 0 (fun _ => true) true fuel 40 cs = some x) :
    ∃ s : StepE, cs = [.int .i64 s.what, .int .i64 s.file, .int .i64 s.n, .int .i64 s.cut, s.bv] ∧ Sees W s.bv s.bs ∧ (0 < s.bs.length → ∀ k, slab s.bv = some k → k < W.heap.size) ∧ s.bs.length ≤ Rows.uptoBulk x.1 := by
  obtain ⟨y0, y1, y2, y3, y4, n, hx, hl, h0, h1, h2, h3, h4⟩ := trod_struct5 Try.underlying40 h
  rw [Try.cellsStep5] at hl
  obtain ⟨c0, c1, c2, c3, c4, hcs⟩ := five_of hl
  subst hcs
  have e0 : DataW.trod enc Try.prog W 0 (fun _ => true) true n 3 [c0] = some y0 := by simpa [Try.cellsIntS] using h0
  have e1 : DataW.trod enc Try.prog W 0 (fun _ => true) true n 3 [c1] = some y1 := by simpa [Try.cellsIntS] using h1
  have e2 : DataW.trod enc Try.prog W 0 (fun _ => true) true n 3 [c2] = some y2 := by simpa [Try.cellsIntS] using h2
  have e3 : DataW.trod enc Try.prog W 0 (fun _ => true) true n 3 [c3] = some y3 := by simpa [Try.cellsIntS] using h3
  have e4 : DataW.trod enc Try.prog W 0 (fun _ => true) true n 27 [c4] = some y4 := by simpa [Try.cellsBytesS] using h4
  obtain ⟨a, ha, _, _⟩ := DataW.trod_int Try.underlying3 e0
  obtain ⟨b, hb, _, _⟩ := DataW.trod_int Try.underlying3 e1
  obtain ⟨c, hc, _, _⟩ := DataW.trod_int Try.underlying3 e2
  obtain ⟨d, hd, _, _⟩ := DataW.trod_int Try.underlying3 e3
  obtain ⟨bs, hsee, hslab, hlong⟩ := open_bytes e4
  injection ha with ha
  injection hb with hb
  injection hc with hc
  injection hd with hd
  subst ha hb hc hd
  refine ⟨⟨a, b, c, d, c4, bs⟩, rfl, hsee, hslab, ?_⟩
  have h5 := hlong.bulk
  have h6 := bulk_part (d := y4.1) (l := [y0.1, y1.1, y2.1, y3.1, y4.1]) (by simp)
  rw [hx]
  simp only [Rows.uptoBulk]
  omega

/-- A slice of steps that is read as data. -/
theorem open_steps5 {fuel : Nat} {v : Value} {x : DataW H × List MemPlace} (h : DataW.trod enc Try.prog W 0 (fun _ => true) true fuel 36 [v] = some x) :
    ∃ xs, StepsOf W W.heap.size v xs ∧ ∀ k (hk : k < xs.length), xs[k].bs.length ≤ Rows.uptoBulk x.1 := by
  rcases open_slice Try.underlying36 h with ⟨hcs, _⟩ | ⟨a, len, cap, m, n, D, Pl, hcs, _, hl, hm, hmm, hx, hel⟩
  · injection hcs with hcs
    exact ⟨[], ⟨⟨_, _, hcs, by simp [maxLen]⟩, fun k hk => by simp at hk⟩, fun k hk => by simp at hk⟩
  · injection hcs with hcs
    subst hcs
    simp only [if_true] at hmm
    subst hmm
    by_cases h0 : len = 0
    · subst h0
      exact ⟨[], ⟨⟨_, _, rfl, by simp [maxLen]⟩, fun k hk => by simp at hk⟩, fun k hk => by simp at hk⟩
    obtain ⟨ab, off, spot⟩ := a
    have hspot : spot = none := by
      obtain ⟨cs', hc, ht⟩ := hel 0 (by omega)
      rw [Try.cellsStep5] at hc
      obtain ⟨s, rfl, _⟩ := open_step5 ht
      obtain ⟨_, _, hce⟩ := World.cells?_some hc
      have h7 := hce 0 (by omega)
      simp only [List.getElem?_cons_zero] at h7
      simpa [Addr.add] using World.cell?_spot h7
    subst hspot
    have each : ∀ i, i < len → ∃ s : StepE, StepAt W W.heap.size ab (off + i * 5) s ∧ s.bs.length ≤ Rows.uptoBulk x.1 := by
      intro i hi
      obtain ⟨cs', hc, ht⟩ := hel i (by omega)
      rw [Try.cellsStep5] at hc
      obtain ⟨s, rfl, h1, h2, h4⟩ := open_step5 ht
      have h5 : s.bs.length ≤ Rows.uptoBulk x.1 := by
        rw [hx]
        have h6 := bulk_part (d := D i) (l := (List.range len).map D) (List.mem_map.2 ⟨i, List.mem_range.2 hi, rfl⟩)
        simp only [Rows.uptoBulk]
        simp only at h4
        omega
      obtain ⟨_, _, hce⟩ := World.cells?_some hc
      have hce' : ∀ j, j < 5 → W.cell? ⟨ab, off + i * 5 + j, none⟩ = [Value.int .i64 s.what, .int .i64 s.file, .int .i64 s.n, .int .i64 s.cut, s.bv][j]? := by
        intro j hj
        have := hce j (by omega)
        rwa [add_plain, add_plain] at this
      have hab : ab < W.heap.size := by
        have h8 := hce' 0 (by omega)
        simp only [List.getElem?_cons_zero] at h8
        exact World.block_lt_of_cell? _ _ h8
      exact ⟨s, ⟨hab, hce' 0 (by omega), hce' 1 (by omega), hce' 2 (by omega), hce' 3 (by omega), hce' 4 (by omega), h1, h2⟩, h5⟩
    obtain ⟨xs, hxl, hxs⟩ := list_of len each
    subst hxl
    exact ⟨xs, ⟨⟨_, _, rfl, by omega⟩, fun k hk => ⟨ab, off, _, rfl, (hxs k hk).1⟩⟩, fun k hk => (hxs k hk).2⟩

end

end Go.Proofs.Ytnojedjdnecagaa
