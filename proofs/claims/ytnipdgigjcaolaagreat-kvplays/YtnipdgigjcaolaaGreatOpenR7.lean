/- What arguments of chapter 7's laws show of memory: a change, raw changes. -/
import Derived.Test.YtnipdgigjcaolaaGreatKList
import Derived.Test.YtnipdgigjcaolaaGreatPkC
namespace Go.Proofs.YtnipdgigjcaolaaGreat
open Go.ChangeShapes Go.WideShapes Go.ChangeAt Go.RowKit Go.Deep

theorem Tryz.cellsInt7 : Tryz.prog.cellsOf 3 = 1 := by kernel_rfl
theorem Tryz.cellsBytes7 : Tryz.prog.cellsOf 29 = 1 := by kernel_rfl
theorem Tryz.cellsRaw7 : Tryz.prog.cellsOf 140 = 3 := by kernel_rfl
theorem Tryz.cellsString7 : Tryz.prog.cellsOf 9 = 1 := by kernel_rfl
theorem Tryz.cellsBool7 : Tryz.prog.cellsOf 4 = 1 := by kernel_rfl
theorem Tryz.cellsChange7 : Tryz.prog.cellsOf 51 = 3 := by kernel_rfl

theorem three_of7 {l : List Value} (h : l.length = 3) : ∃ c0 c1 c2, l = [c0, c1, c2] := by
  match l, h with
  | [a, b, c], _ => exact ⟨a, b, c, rfl⟩

section
variable {H : Type} {enc : TypeId × Value → H} {W : World}

/-- A change that is read as data. -/
theorem open_change {fuel : Nat} {cs : List Value} {x : DataW H × List MemPlace} (h : DataW.trod enc Tryz.prog W 0 (fun _ => true) true fuel 51 cs = some x) :
    ∃ (k : ByteArray) (hs : Bool) (v : Value) (bs : List UInt8), cs = [.string k, .bool hs, v] ∧ Sees W v bs ∧ (0 < bs.length → ∀ j, slab v = some j → j < W.heap.size) ∧ k.size ≤ maxLen := by
  obtain ⟨y0, y1, y2, n, hx, hl, h0, h1, h2⟩ := trod_struct3 Tryz.underlying51 h
  rw [Tryz.cellsChange7] at hl
  obtain ⟨c0, c1, c2, hcs⟩ := three_of7 hl
  subst hcs
  have e0 : DataW.trod enc Tryz.prog W 0 (fun _ => true) true n 9 [c0] = some y0 := by simpa [Tryz.cellsString7] using h0
  have e1 : DataW.trod enc Tryz.prog W 0 (fun _ => true) true n 4 [c1] = some y1 := by simpa [Tryz.cellsBool7] using h1
  have e2 : DataW.trod enc Tryz.prog W 0 (fun _ => true) true n 29 [c2] = some y2 := by simpa [Tryz.cellsBytes7] using h2
  obtain ⟨k, hk, _, hkm⟩ := DataW.trod_string Tryz.underlying9 e0
  obtain ⟨b, hb, _⟩ := DataW.trod_bool Tryz.underlying4 e1
  obtain ⟨bs, hsee, hslab, hlong⟩ := open_bytes e2
  injection hk with hk
  injection hb with hb
  subst hk hb
  exact ⟨k, b, c2, bs, rfl, hsee, hslab, hkm⟩

/-- One raw change that is read as data. -/
theorem open_raw {fuel : Nat} {cs : List Value} {x : DataW H × List MemPlace} (h : DataW.trod enc Tryz.prog W 0 (fun _ => true) true fuel 140 cs = some x) :
    ∃ s : RawC, cs = [.int .i64 s.key, .int .i64 s.n, s.vv] ∧ Sees W s.vv s.val ∧ (0 < s.val.length → ∀ j, slab s.vv = some j → j < W.heap.size) := by
  obtain ⟨y0, y1, y2, n, hx, hl, h0, h1, h2⟩ := trod_struct3 Tryz.underlying140 h
  rw [Tryz.cellsRaw7] at hl
  obtain ⟨c0, c1, c2, hcs⟩ := three_of7 hl
  subst hcs
  have e0 : DataW.trod enc Tryz.prog W 0 (fun _ => true) true n 3 [c0] = some y0 := by simpa [Tryz.cellsInt7] using h0
  have e1 : DataW.trod enc Tryz.prog W 0 (fun _ => true) true n 3 [c1] = some y1 := by simpa [Tryz.cellsInt7] using h1
  have e2 : DataW.trod enc Tryz.prog W 0 (fun _ => true) true n 29 [c2] = some y2 := by simpa [Tryz.cellsBytes7] using h2
  obtain ⟨a, ha, _, _⟩ := DataW.trod_int Tryz.underlying3 e0
  obtain ⟨b, hb, _, _⟩ := DataW.trod_int Tryz.underlying3 e1
  obtain ⟨bs, hsee, hslab, hlong⟩ := open_bytes e2
  injection ha with ha
  injection hb with hb
  subst ha hb
  exact ⟨⟨a, b, c2, bs⟩, rfl, hsee, hslab⟩

set_option maxRecDepth 100000 in
/-- A slice of raw changes that is read as data. -/
theorem open_raws {fuel : Nat} {v : Value} {x : DataW H × List MemPlace} (h : DataW.trod enc Tryz.prog W 0 (fun _ => true) true fuel 61 [v] = some x) : ∃ xs, RawsOf W W.heap.size v xs := by
  rcases open_slice Tryz.underlying61 h with ⟨hcs, _⟩ | ⟨a, len, cap, m, n, D, Pl, hcs, _, hl, hm, hmm, hx, hel⟩
  · injection hcs with hcs
    exact ⟨[], ⟨⟨_, _, hcs, by simp [maxLen]⟩, fun k hk => by simp at hk⟩⟩
  · injection hcs with hcs
    subst hcs
    simp only [if_true] at hmm
    subst hmm
    by_cases h0 : len = 0
    · subst h0
      exact ⟨[], ⟨⟨_, _, rfl, by simp [maxLen]⟩, fun k hk => by simp at hk⟩⟩
    obtain ⟨ab, off, spot⟩ := a
    have hspot : spot = none := by
      obtain ⟨cs', hc, ht⟩ := hel 0 (by omega)
      rw [Tryz.cellsRaw7] at hc
      obtain ⟨s, rfl, _⟩ := open_raw ht
      obtain ⟨_, _, hce⟩ := World.cells?_some hc
      have h7 := hce 0 (by omega)
      simp only [List.getElem?_cons_zero] at h7
      simpa [Addr.add] using World.cell?_spot h7
    subst hspot
    have each : ∀ i, i < len → ∃ s : RawC, RawAt W W.heap.size ab (off + i * 3) s := by
      intro i hi
      obtain ⟨cs', hc, ht⟩ := hel i (by omega)
      rw [Tryz.cellsRaw7] at hc
      obtain ⟨s, rfl, h1, h2⟩ := open_raw ht
      obtain ⟨_, _, hce⟩ := World.cells?_some hc
      have hce' : ∀ j, j < 3 → W.cell? ⟨ab, off + i * 3 + j, none⟩ = [Value.int .i64 s.key, .int .i64 s.n, s.vv][j]? := by
        intro j hj
        have := hce j (by omega)
        rwa [add_plain, add_plain] at this
      have hab : ab < W.heap.size := by
        have h8 := hce' 0 (by omega)
        simp only [List.getElem?_cons_zero] at h8
        exact World.block_lt_of_cell? _ _ h8
      exact ⟨s, ⟨hab, hce' 0 (by omega), hce' 1 (by omega), hce' 2 (by omega), h1, h2⟩⟩
    obtain ⟨xs, hxl, hxs⟩ := list_of len each
    subst hxl
    exact ⟨xs, ⟨⟨_, _, rfl, by omega⟩, fun k hk => ⟨ab, off, _, rfl, hxs k hk⟩⟩⟩

end

end Go.Proofs.YtnipdgigjcaolaaGreat
