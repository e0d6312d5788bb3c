/- Raw steps of chapter 7's laws in memory: a slice of structs of three numbers and raw changes; what such an argument shows. -/
import Derived.Test.YtnipdgigjcaolaaGreatOpenR7
namespace Go.Proofs.YtnipdgigjcaolaaGreat
open Go.ChangeShapes Go.WideShapes Go.ChangeAt Go.RowKit Go.Deep

/-- One step: three numbers, raw changes and what it shows. -/
structure Step7 where
  what : Int
  n : Int
  cut : Int
  lv : Value
  l : List RawC

/-- One step, at its place. -/
structure Step7At (W : World) (B ab off : Nat) (x : Step7) : Prop where
  lt : ab < B
  c0 : W.cell? ⟨ab, off, none⟩ = some (.int .i64 x.what)
  c1 : W.cell? ⟨ab, off + 1, none⟩ = some (.int .i64 x.n)
  c2 : W.cell? ⟨ab, off + 2, none⟩ = some (.int .i64 x.cut)
  c3 : W.cell? ⟨ab, off + 3, none⟩ = some x.lv
  list : RawsOf W B x.lv x.l

/-- A slice of steps that came in, all of it below B. -/
structure Steps7Of (W : World) (B : Nat) (v : Value) (xs : List Step7) : Prop where
  shape : ∃ ao cap, v = .slice ao xs.length cap ∧ xs.length ≤ maxLen
  each : ∀ k (hk : k < xs.length), ∃ ab off cap, v = .slice (some ⟨ab, off, none⟩) xs.length cap ∧ Step7At W B ab (off + k * 4) xs[k]

theorem Step7At.kept {S : Nat → Prop} {w w' : World} {B ab off : Nat} {x : Step7} (h : Step7At w B ab off x) (ht : Turn S w w') (hB : B ≤ w.heap.size) (hS : ∀ k, k < B → ¬ S k) : Step7At w' B ab off x := by
  have hc : ∀ o, w'.cell? ⟨ab, o, none⟩ = w.cell? ⟨ab, o, none⟩ := fun o => ht.cell (p := ⟨ab, o, none⟩) (Nat.lt_of_lt_of_le h.lt hB) (hS ab h.lt)
  exact ⟨h.lt, (hc _).trans h.c0, (hc _).trans h.c1, (hc _).trans h.c2, (hc _).trans h.c3, h.list.kept ht hB hS⟩

theorem Steps7Of.kept {S : Nat → Prop} {w w' : World} {B : Nat} {v : Value} {xs : List Step7} (h : Steps7Of w B v xs) (ht : Turn S w w') (hB : B ≤ w.heap.size) (hS : ∀ k, k < B → ¬ S k) : Steps7Of w' B v xs :=
  ⟨h.shape, fun k hk => by
    obtain ⟨ab, off, cap, e, hs⟩ := h.each k hk
    exact ⟨ab, off, cap, e, hs.kept ht hB hS⟩⟩

theorem Tryz.cellsRaws7 : Tryz.prog.cellsOf 61 = 1 := by kernel_rfl
theorem Tryz.cellsStep7 : Tryz.prog.cellsOf 69 = 4 := by kernel_rfl

section
variable {H : Type} {enc : TypeId × Value → H} {W : World} {P : Program} {base : Nat} {spare : Nat → Bool} {held : Bool}

theorem trod_struct4k {t : TypeId} {f0 f1 f2 f3 : Field} {fuel : Nat} {cs : List Value} {x : DataW H × List MemPlace} (ht : P.underlying t = some (.struct #[f0, f1, f2, f3])) (h : DataW.trod enc P W base spare held fuel t cs = some x) :
    ∃ y0 y1 y2 y3 n, x = (.agg [y0.1, y1.1, y2.1, y3.1], y0.2 ++ (y1.2 ++ (y2.2 ++ y3.2))) ∧ cs.length = P.cellsOf t ∧ DataW.trod enc P W base spare held n f0.type ((cs.drop f0.offset).take (P.cellsOf f0.type)) = some y0 ∧
      DataW.trod enc P W base spare held n f1.type ((cs.drop f1.offset).take (P.cellsOf f1.type)) = some y1 ∧ DataW.trod enc P W base spare held n f2.type ((cs.drop f2.offset).take (P.cellsOf f2.type)) = some y2 ∧ DataW.trod enc P W base spare held n f3.type ((cs.drop f3.offset).take (P.cellsOf f3.type)) = some y3 := by
  obtain ⟨xs, n, _, rfl, hl, hlen, hf⟩ := DataW.trod_struct ht h
  match xs, hlen with
  | [y0, y1, y2, y3], _ => exact ⟨y0, y1, y2, y3, n, by simp, hl, by simpa using hf 0 f0 rfl, by simpa using hf 1 f1 rfl, by simpa using hf 2 f2 rfl, by simpa using hf 3 f3 rfl⟩

theorem four_of7 {l : List Value} (h : l.length = 4) : ∃ c0 c1 c2 c3, l = [c0, c1, c2, c3] := by
  match l, h with
  | [a, b, c, d], _ => exact ⟨a, b, c, d, rfl⟩

end

section
variable {H : Type} {enc : TypeId × Value → H} {W : World}

/-- One step that is read as data. -/
theorem open_step7 {fuel : Nat} {cs : List Value} {x : DataW H × List MemPlace} (h : DataW.trod enc Tryz.prog W 0 (fun _ => true) true fuel 69 cs = some x) :
    ∃ s : Step7, cs = [.int .i64 s.what, .int .i64 s.n, .int .i64 s.cut, s.lv] ∧ RawsOf W W.heap.size s.lv s.l := by
  obtain ⟨y0, y1, y2, y3, n, hx, hl, h0, h1, h2, h3⟩ := trod_struct4k Tryz.underlying69 h
  rw [Tryz.cellsStep7] at hl
  obtain ⟨c0, c1, c2, c3, hcs⟩ := four_of7 hl
  subst hcs
  have e0 : DataW.trod enc Tryz.prog W 0 (fun _ => true) true n 3 [c0] = some y0 := by simpa [Tryz.cellsInt7] using h0
  have e1 : DataW.trod enc Tryz.prog W 0 (fun _ => true) true n 3 [c1] = some y1 := by simpa [Tryz.cellsInt7] using h1
  have e2 : DataW.trod enc Tryz.prog W 0 (fun _ => true) true n 3 [c2] = some y2 := by simpa [Tryz.cellsInt7] using h2
  have e3 : DataW.trod enc Tryz.prog W 0 (fun _ => true) true n 61 [c3] = some y3 := by simpa [Tryz.cellsRaws7] using h3
  obtain ⟨a, ha, _, _⟩ := DataW.trod_int Tryz.underlying3 e0
  obtain ⟨b, hb, _, _⟩ := DataW.trod_int Tryz.underlying3 e1
  obtain ⟨c, hc, _, _⟩ := DataW.trod_int Tryz.underlying3 e2
  obtain ⟨l, hlist⟩ := open_raws e3
  injection ha with ha
  injection hb with hb
  injection hc with hc
  subst ha hb hc
  exact ⟨⟨a, b, c, c3, l⟩, rfl, hlist⟩

set_option maxRecDepth 100000 in
/-- A slice of steps that is read as data. -/
theorem open_steps7 {fuel : Nat} {v : Value} {x : DataW H × List MemPlace} (h : DataW.trod enc Tryz.prog W 0 (fun _ => true) true fuel 64 [v] = some x) : ∃ xs, Steps7Of W W.heap.size v xs := by
  rcases open_slice Tryz.underlying64 h with ⟨hcs, _⟩ | ⟨a, len, cap, m, n, D, Pl, hcs, _, hl, hm, hmm, hx, hel⟩
  · injection hcs with hcs
    exact ⟨[], ⟨⟨_, _, hcs, by simp [maxLen]⟩, fun k hk => by simp at hk⟩⟩
  · injection hcs with hcs
    subst hcs
    simp only [if_true] at hmm
    subst hmm
    by_cases h0 : len = 0
    · subst h0
      exact ⟨[], ⟨⟨_, _, rfl, by simp [maxLen]⟩, fun k hk => by simp at hk⟩⟩
    obtain ⟨ab, off, spot⟩ := a
    have hspot : spot = none := by
      obtain ⟨cs', hc, ht⟩ := hel 0 (by omega)
      rw [Tryz.cellsStep7] at hc
      obtain ⟨s, rfl, _⟩ := open_step7 ht
      obtain ⟨_, _, hce⟩ := World.cells?_some hc
      have h7 := hce 0 (by omega)
      simp only [List.getElem?_cons_zero] at h7
      simpa [Addr.add] using World.cell?_spot h7
    subst hspot
    have each : ∀ i, i < len → ∃ s : Step7, Step7At W W.heap.size ab (off + i * 4) s := by
      intro i hi
      obtain ⟨cs', hc, ht⟩ := hel i (by omega)
      rw [Tryz.cellsStep7] at hc
      obtain ⟨s, rfl, h1⟩ := open_step7 ht
      obtain ⟨_, _, hce⟩ := World.cells?_some hc
      have hce' : ∀ j, j < 4 → W.cell? ⟨ab, off + i * 4 + j, none⟩ = [Value.int .i64 s.what, .int .i64 s.n, .int .i64 s.cut, s.lv][j]? := by
        intro j hj
        have := hce j (by omega)
        rwa [add_plain, add_plain] at this
      have hab : ab < W.heap.size := by
        have h8 := hce' 0 (by omega)
        simp only [List.getElem?_cons_zero] at h8
        exact World.block_lt_of_cell? _ _ h8
      exact ⟨s, ⟨hab, hce' 0 (by omega), hce' 1 (by omega), hce' 2 (by omega), hce' 3 (by omega), h1⟩⟩
    obtain ⟨xs, hxl, hxs⟩ := list_of len each
    subst hxl
    exact ⟨xs, ⟨⟨_, _, rfl, by omega⟩, fun k hk => ⟨ab, off, _, rfl, hxs k hk⟩⟩⟩

end

end Go.Proofs.YtnipdgigjcaolaaGreat
