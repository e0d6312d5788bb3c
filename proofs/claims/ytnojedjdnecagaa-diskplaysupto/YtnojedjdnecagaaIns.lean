/- slices.Insert of one entry. -/
import Derived.Test.YtnojedjdnecagaaDel
namespace Go.Proofs.Ytnojedjdnecagaa
open Go.RowKit

theorem sizeEnt : (Try.prog.info? 59).map (·.size) = some 2 := by
  obtain ⟨i, hi, _, hs, _⟩ := infoEnt
  rw [hi]
  simp [hs]

theorem sizeOfEnt (w : World) : (Go.sizeOf 59).run Try.prog w = .ok 2 w := by
  obtain ⟨i, hi, _, hs, _⟩ := infoEnt
  simp [sizeOf, typeInfo, hi, hs]

/-- One entry, laid in a block of its own. -/
structure OneAt (w : World) (vb : Nat) (x0 x1 : Value) : Prop where
  heap : w.heap[vb]? = some (.cells #[x0, x1] 59 (0, 0))
  one0 : x0.oneCell' = true
  one1 : x1.oneCell' = true

theorem OneAt.cell {w : World} {vb : Nat} {x0 x1 : Value} (h : OneAt w vb x0 x1) (j : Nat) (u : Value) (hj : [x0, x1][j]? = some u) : w.cell? ((⟨vb, 0, none⟩ : Addr).add j) = some u := by
  rw [addr_lit, Nat.zero_add, cell_of_row w vb j _ _ (0, 0) h.heap]
  simpa using hj

theorem OneAt.one {w : World} {vb : Nat} {x0 x1 : Value} (h : OneAt w vb x0 x1) : ∀ u ∈ [x0, x1], u.oneCell' = true := by
  intro u hu
  simp only [List.mem_cons, List.not_mem_nil, or_false] at hu
  rcases hu with rfl | rfl
  · exact h.one0
  · exact h.one1

theorem OneAt.kept {S : Nat → Prop} {w w' : World} {vb : Nat} {x0 x1 : Value} (h : OneAt w vb x0 x1) (ht : Turn S w w') (hs : ¬ S vb) : OneAt w' vb x0 x1 :=
  ⟨(ht.block vb (Array.getElem?_eq_some_iff.1 h.heap).1 hs).trans h.heap, h.one0, h.one1⟩

theorem RowAt.kept {S : Nat → Prop} {w w' : World} {g cap n : Nat} {xs : List Value} {cur : Array Value} (h : RowAt w g cap n xs cur) (ht : Turn S w w') (hs : ¬ S g) : RowAt w' g cap n xs cur :=
  ⟨(ht.block g (Array.getElem?_eq_some_iff.1 h.heap).1 hs).trans h.heap, h.len, h.le, h.max, h.size, h.take⟩

/-- Entries are copied into a row. -/
theorem ins_copy (w : World) (g cap n o dLen dCap : Nat) (xs : List Value) (cur : Array Value) (h : RowAt w g cap n xs cur) (a : Addr) (sLen sCap : Nat) (cs : List Value) (hn : cs.length = Nat.min sLen dLen * 2)
    (hsrc : ∀ j v, cs[j]? = some v → w.cell? (a.add j) = some v) (h1 : ∀ v ∈ cs, v.oneCell' = true) (m : Nat) (hm : m ≤ cap) (hfit : o * 2 + cs.length ≤ cap * 2) :
    ∃ w' cur' r, (∀ ty, (Builtin.copy_ #[51, 51] ty #[.slice (some ⟨g, o * 2, none⟩) dLen dCap, .slice (some a) sLen sCap]).run Try.prog w = .ok r w') ∧
      RowAt w' g cap m ((seg cur.toList (o * 2) cs).take (m * 2)) cur' ∧ cur'.toList = seg cur.toList (o * 2) cs ∧ Turn (fun k => k = g) w w' := by
  have hr := fun ty => run_copy_sized (P := Try.prog) w 51 51 ty 59 2 g (o * 2) dLen dCap a sLen sCap cur _ cs Try.underlying51 sizeEnt h.heap hn hsrc (by rw [h.size]; exact hfit) h1
  exact ⟨_, _, _, hr, seg_row h (o * 2) m cs hm hfit, rfl, turn_setRow _ _ _⟩

/-- Two copies come to an insertion. -/
theorem ins_list (cur xs cs : List Value) (n i : Nat) (hx : cur.take (n * 2) = xs) (hl : (n + 1) * 2 ≤ cur.length) (hi : i ≤ n) (hcs : cs.length = 2) :
    (seg (seg cur ((i + 1) * 2) (xs.drop (i * 2))) (i * 2) cs).take ((n + 1) * 2) = xs.take (i * 2) ++ (cs ++ xs.drop (i * 2)) := by
  have hxl : xs.length = n * 2 := by rw [← hx, List.length_take]; omega
  have hdl : (xs.drop (i * 2)).length = (n - i) * 2 := by rw [List.length_drop, hxl]; omega
  have hs1 := seg_length cur ((i + 1) * 2) (xs.drop (i * 2)) (by omega)
  have e1 : seg (seg cur ((i + 1) * 2) (xs.drop (i * 2))) (i * 2) cs = (seg cur ((i + 1) * 2) (xs.drop (i * 2))).take (i * 2) ++ (cs ++ (seg cur ((i + 1) * 2) (xs.drop (i * 2))).drop (i * 2 + cs.length)) := by
    conv => lhs; unfold seg
    rw [List.append_assoc]
    rfl
  rw [e1, seg_front _ _ _ _ (by omega) (by omega), List.take_append, List.take_append]
  have h1 : (cur.take (i * 2)).length = i * 2 := by rw [List.length_take]; omega
  rw [h1, hcs, List.take_of_length_le (by omega), List.take_of_length_le (l := cs) (by omega)]
  congr 1
  · rw [← hx, List.take_take, Nat.min_eq_left (by omega)]
  · congr 1
    unfold seg
    rw [List.append_assoc, List.drop_append, List.drop_of_length_le (by rw [List.length_take]; omega), List.nil_append, List.length_take, Nat.min_eq_left (by omega), show i * 2 + 2 - (i + 1) * 2 = 0 by omega, List.drop_zero, List.take_append_of_le_length (by omega), List.take_of_length_le (by omega)]

/-- The copies the other way round: into a row that has the front. -/
theorem ins_list' (cur xs cs : List Value) (n i : Nat) (hxl : xs.length = n * 2) (hx : cur.take (i * 2) = xs.take (i * 2)) (hl : (n + 1) * 2 ≤ cur.length) (hi : i ≤ n) (hcs : cs.length = 2) :
    (seg (seg cur (i * 2) cs) ((i + 1) * 2) (xs.drop (i * 2))).take ((n + 1) * 2) = xs.take (i * 2) ++ (cs ++ xs.drop (i * 2)) := by
  have hdl : (xs.drop (i * 2)).length = (n - i) * 2 := by rw [List.length_drop, hxl]; omega
  have hs1 := seg_length cur (i * 2) cs (by omega)
  have h2 := seg_take (seg cur (i * 2) cs) ((i + 1) * 2) (xs.drop (i * 2)) (by omega)
  rw [hdl, show (i + 1) * 2 + (n - i) * 2 = (n + 1) * 2 by omega] at h2
  have h3 := seg_take cur (i * 2) cs (by omega)
  rw [hcs, show i * 2 + 2 = (i + 1) * 2 by omega] at h3
  rw [h2, h3, hx, List.append_assoc]

end Go.Proofs.Ytnojedjdnecagaa
