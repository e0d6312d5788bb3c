/- slices.Insert of one entry: its three roads. -/
import Derived.Test.YtnojedjdnecagaaIns
namespace Go.Proofs.Ytnojedjdnecagaa
open Go.RowKit

/-- What an insertion leaves. -/
def Inserted (w : World) (v : Value) (n i : Nat) (xs : List Value) (x0 x1 : Value) (e : Ending) (w' : World) : Prop :=
  ∃ v', e = .returned v' ∧ w'.ownsRow 0 59 2 v' (n + 1) (xs.take (i * 2) ++ ([x0, x1] ++ xs.drop (i * 2))) ∧ (v'.ownBlock = v.ownBlock ∨ v'.ownBlock = some w.heap.size) ∧ Turn (fun k => v.ownBlock = some k) w w'

set_option maxHeartbeats 1000000 in
set_option maxRecDepth 100000 in
theorem insert_end (v : Value) (n vb : Nat) (xs : List Value) (x0 x1 : Value) (w : World) (h : w.ownsRow 0 59 2 v n xs) (hx : OneAt w vb x0 x1) (hlen : n ≤ 1099511627776) :
    Calls Try.prog 42 #[v, .int .i64 n, .slice (some ⟨vb, 0, none⟩) 1 1] w (Inserted w v n n xs x0 x1) := by
  obtain ⟨t, ht, hz, hs, hb⟩ := infoEnt
  obtain ⟨v', w', hr, ho, hg, _, hat⟩ := run_append_own_at (P := Try.prog) w 0 51 51 59 t _ 2 32 Try.underlying51 ht hz hs hb rfl (by omega) v n xs h ⟨vb, 0, none⟩ 1 1 [x0, x1] rfl hx.cell hx.one (by unfold maxLen; omega) (by omega) (Nat.zero_le _)
  have hfin : Inserted w v n n xs x0 x1 (.returned v') w' := by
    refine ⟨v', rfl, ?_, hat, (Turn.refl _ w).grown hg (fun k hk => .inl hk)⟩
    have hl := h.1
    rw [List.take_of_length_le (by omega), List.drop_of_length_le (by omega), List.append_nil]
    exact ho
  have Hfin := hide hfin
  have Hr := hide hr
  have hsh := ho.2
  clear ho hg hat hr hfin
  have hsh' : ∃ ao c, v' = .slice ao (n + 1) c := by
    rcases hsh with ⟨rfl, h0⟩ | ⟨g, cap, cur, rfl, _⟩
    · omega
    · exact ⟨_, _, rfl⟩
  obtain ⟨ao, c, rfl⟩ := hsh'
  clear hsh
  rcases row_shape h with ⟨rfl, rfl⟩ | ⟨g, cap, rfl, hnc, hcm, _⟩
  · go_enter Try.func42, Try.ntmps42
    go_wp2_with (at_builtin; refine wpList_append_run rfl (.tmp 23) (.tmp 24) 51 rfl _ _ _ w' rfl rfl (unhide Hr) ?_)
    go_ret
    exact unhide Hfin
  · unfold maxLen at hcm
    have q1 : (n : Int) ≤ cap := by omega
    go_enter Try.func42, Try.ntmps42
    go_wp2_with (at_builtin; refine wpList_append_run rfl (.tmp 23) (.tmp 24) 51 rfl _ _ _ w' rfl rfl (unhide Hr) ?_)
    all_goals (
      go_ret
      exact unhide Hfin)

set_option maxHeartbeats 4000000 in
set_option maxRecDepth 100000 in
theorem insert_room (g cap n i vb : Nat) (xs : List Value) (cur : Array Value) (x0 x1 : Value) (w : World) (h : RowAt w g cap n xs cur) (hx : OneAt w vb x0 x1) (hv : vb ≠ g) (hi : i < n) (hroom : n + 1 ≤ cap) (hlen : n ≤ 1099511627776) (hone : ∀ u ∈ xs, u.oneCell' = true) :
    Calls Try.prog 42 #[.slice (some ⟨g, 0, none⟩) n cap, .int .i64 i, .slice (some ⟨vb, 0, none⟩) 1 1] w (Inserted w (.slice (some ⟨g, 0, none⟩) n cap) n i xs x0 x1) := by
  have hxl := h.len
  have hdl : (xs.drop (i * 2)).length = (n - i) * 2 := by rw [List.length_drop, hxl]; omega
  have hcl : cur.toList.length = cap * 2 := by rw [Array.length_toList, h.size]
  obtain ⟨w1, cur1, r1, hc1, hr1, hcur1, t1⟩ := ins_copy w.drew g cap n (i + 1) (n + 1 - (i + 1)) (cap - (i + 1)) xs cur h.drew ⟨g, i * 2, none⟩ (n + 1 - i) (cap - i) (xs.drop (i * 2)) (by rw [hdl]; simp only [Nat.min_def]; split <;> omega)
    (fun j u hj => by rw [addr_lit]; rw [List.getElem?_drop] at hj; exact h.drew.cell _ u hj) (fun u hu => hone u (List.mem_of_mem_drop hu)) n (by omega) (by rw [hdl]; omega)
  have hx1 := (hx.kept (Turn.refl (fun _ => False) w).drew (fun h => h)).kept t1 hv
  obtain ⟨w2, cur2, r2, hc2, hr2, hcur2, t2⟩ := ins_copy w1 g cap n i (n + 1 - i) (cap - i) _ cur1 hr1 ⟨vb, 0, none⟩ 1 1 [x0, x1] (by show 2 = _; simp only [Nat.min_def]; split <;> omega) hx1.cell hx.one (n + 1) hroom (by simp; omega)
  rw [hcur1, ins_list cur.toList xs [x0, x1] n i h.take (by omega) (by omega) rfl] at hr2
  have hfin : Inserted w (.slice (some ⟨g, 0, none⟩) n cap) n i xs x0 x1 (.returned (.slice (some ⟨g, 0, none⟩) (n + 1) cap)) w2 :=
    ⟨_, rfl, hr2.own, .inl rfl, (((Turn.refl _ w).drew.trans t1).trans t2).mono (fun k _ e => congrArg some e.symm)⟩
  have hov : ∀ lb cb, (callFunc 46 #[.slice (some ⟨vb, 0, none⟩) 1 1, .slice (some ⟨g, (i + 1) * 2, none⟩) lb cb]).run Try.prog w = .ok (.value (.bool false)) w := fun lb cb => by
    rw [run_callFunc_extern Try.func46 (by kernel_rfl) (by kernel_rfl) (by kernel_rfl) (e := Extern.SlicesOverlaps.overlaps #[51, 51] #[4]) (by kernel_rfl),
      Lib.run_overlaps_apart w 51 4 59 Try.underlying51 2 sizeOfEnt ⟨vb, 0, none⟩ ⟨g, (i + 1) * 2, none⟩ 1 1 lb cb hv 59 59 2 (cap * 2) (by unfold World.shape?; rw [hx.heap]; rfl) (by unfold World.shape?; rw [h.heap, ← h.size]) (by omega) (frozen_of_row w vb 0 _ _ hx.heap) (frozen_of_row w vb 2 _ _ hx.heap)]
    rfl
  have Hfin := hide hfin
  rw [Nat.add_sub_add_right] at hc1
  have Hc1 := hide (hc1 3)
  have Hc2 := hide (hc2 3)
  have hmax : cap ≤ 9223372036854775807 := h.max
  have q1 : (n : Int) ≤ cap := by omega
  have q2 : (i : Int) ≤ n := by omega
  have q3 : ¬ (i : Int) = n := by omega
  have q4 : (n : Int) + 1 ≤ cap := by omega
  have q5 : IntKind.i64.wrap ((i : Int) + 1) = (i : Int) + 1 := by rw [IntKind.wrap_i64]; omega
  have q6 : ((i : Int) + 1).toNat = i + 1 := by omega
  have q7 : (0 : Int) ≤ (i : Int) + 1 := by omega
  have q8 : (i : Int) + 1 ≤ n + 1 := by omega
  have q9 : ¬ cap = i + 1 := by omega
  have q10 : ¬ cap = i := by omega
  have q11 : (i : Int) ≤ (n : Int) + 1 := by omega
  have q12 : i ≤ n := by omega
  clear hc1 hc2 hr1 hr2 hcur1 hcur2 hx1 t1 t2 hfin hdl hcl hxl
  go_enter Try.func42, Try.ntmps42
  go_wp2_with (simp only [hov])
  go_region_law (refine step_copy_run (by rfl) (.tmp 73) (.tmp 76) 51 (by rfl) (.slice (some ⟨g, (i + 1) * 2, none⟩) (n - i) (cap - (i + 1))) (.slice (some ⟨g, i * 2, none⟩) (n + 1 - i) (cap - i)) r1 w1 (by simp [Act.eval, Act.put]) (by simp [Act.eval, Act.put]) (unhide Hc1) ?_)
  have hc2 := unhide Hc2
  go_wp2
  go_ret
  exact unhide Hfin

set_option maxHeartbeats 4000000 in
set_option maxRecDepth 100000 in
theorem insert_grow (g cap n i vb : Nat) (xs : List Value) (cur : Array Value) (x0 x1 : Value) (w : World) (h : RowAt w g cap n xs cur) (hx : OneAt w vb x0 x1) (hi : i < n) (hroom : cap < n + 1) (hlen : n ≤ 1099511627776) (hone : ∀ u ∈ xs, u.oneCell' = true) :
    Calls Try.prog 42 #[.slice (some ⟨g, 0, none⟩) n cap, .int .i64 i, .slice (some ⟨vb, 0, none⟩) 1 1] w (Inserted w (.slice (some ⟨g, 0, none⟩) n cap) n i xs x0 x1) := by
  have hxl := h.len
  have hle := h.le
  have hgl : g < w.heap.size := (Array.getElem?_eq_some_iff.1 h.heap).1
  have hvl : vb < w.heap.size := (Array.getElem?_eq_some_iff.1 hx.heap).1
  have hdl : (xs.drop (i * 2)).length = (n - i) * 2 := by rw [List.length_drop, hxl]; omega
  obtain ⟨t, ht, hz, hs, hb⟩ := infoEnt
  have hold : (Builtin.firstCells t.size i (.slice (some ⟨g, 0, none⟩) i cap)).run Try.prog w.drew = .ok (xs.take (i * 2)).toArray w.drew := by
    rw [hs]
    refine run_firstCells_some w.drew 2 i ⟨g, 0, none⟩ i cap (xs.take (i * 2)) (by rw [List.length_take]; omega) (fun j v hj => ?_)
    rw [addr_lit, Nat.zero_add]
    rw [List.getElem?_take] at hj
    split at hj
    · exact h.drew.cell j v hj
    · cases hj
  have hrz := fun ty => Lib.run_append_grow_zeros (P := Try.prog) w 51 3 ty 59 t _ .i64 .i64 Try.underlying51 Try.underlying3 ht hz (some ⟨g, 0, none⟩) i cap (xs.take (i * 2)) hold (n + 1 - i) (by omega) (by omega) (by omega) (by omega) (by rw [hb]; omega) (by rw [hb]; exact growslice_fits (by omega) (by omega))
  rw [show i + (n + 1 - i) = n + 1 by omega] at hrz
  have hge := grownCap_ge w (n + 1) cap 59
  have hcm : grownCap w (n + 1) cap 59 ≤ maxLen := grownCap_le_maxLen w (n + 1) cap 59 (by unfold maxLen; omega)
  generalize grownCap w (n + 1) cap 59 = G at *
  obtain ⟨row, hrow⟩ : ∃ row : Array Value, row = (xs.take (i * 2)).toArray ++ Builtin.zeroCells (Value.agg #[.int .i64 0, .slice none 0 0]).cells (n + 1 - i) ++ Builtin.zeroCells (Value.agg #[.int .i64 0, .slice none 0 0]).cells (G - (n + 1)) := ⟨_, rfl⟩
  rw [← hrow] at hrz
  have hrs : row.size = G * 2 := by
    rw [hrow, Array.size_append, Array.size_append, size_zeroCells, size_zeroCells, List.size_toArray, List.length_take]
    show _ + _ * 2 + _ * 2 = _
    omega
  have hrt : row.toList.take (i * 2) = xs.take (i * 2) := by
    rw [hrow, Array.toList_append, Array.toList_append, List.append_assoc, List.take_append_of_le_length (by simp; omega), List.take_of_length_le (by simp; omega)]
  have t0 : Turn (fun _ => False) w (w.drew.alloc (.cells row 59)) := (Turn.refl _ w).drew.alloc _
  have hR : RowAt (w.drew.alloc (.cells row 59)) w.heap.size G (n + 1) (row.toList.take ((n + 1) * 2)) row :=
    ⟨heap_alloc_new w.drew _, by rw [List.length_take, Array.length_toList, hrs]; omega, hge, hcm, hrs, rfl⟩
  have hx0 := hx.kept t0 (fun h => h)
  have h0 := h.kept t0 (fun h => h)
  generalize hW : w.drew.alloc (.cells row 59) = W0 at *
  obtain ⟨w1, cur1, r1, hc1, hr1, hcur1, t1⟩ := ins_copy W0 w.heap.size G (n + 1) i (n + 1 - i) (G - i) _ row hR ⟨vb, 0, none⟩ 1 1 [x0, x1] (by show 2 = _; simp only [Nat.min_def]; split <;> omega) hx0.cell hx.one (n + 1) hge (by simp; omega)
  have h1 := h0.kept t1 (by omega)
  obtain ⟨w2, cur2, r2, hc2, hr2, hcur2, t2⟩ := ins_copy w1.drew w.heap.size G (n + 1) (i + 1) (n + 1 - (i + 1)) (G - (i + 1)) _ cur1 hr1.drew ⟨g, i * 2, none⟩ (n - i) (cap - i) (xs.drop (i * 2)) (by rw [hdl]; simp only [Nat.min_def]; split <;> omega)
    (fun j u hj => by rw [addr_lit]; rw [List.getElem?_drop] at hj; exact h1.drew.cell _ u hj) (fun u hu => hone u (List.mem_of_mem_drop hu)) (n + 1) hge (by rw [hdl]; omega)
  rw [hcur1, ins_list' row.toList xs [x0, x1] n i hxl hrt (by rw [Array.length_toList, hrs]; omega) (by omega) rfl] at hr2
  have hfin : Inserted w (.slice (some ⟨g, 0, none⟩) n cap) n i xs x0 x1 (.returned (.slice (some ⟨w.heap.size, 0, none⟩) (n + 1) G)) w2 :=
    ⟨_, rfl, hr2.own, .inr rfl, ((t0.mono (fun _ _ h => h.elim)).trans' t1 (fun k hk e => by omega)).drew.trans' t2 (fun k hk e => by omega)⟩
  rw [Nat.add_sub_add_right] at hc2
  have Hfin := hide hfin
  have Hrz := hide (hrz 51)
  have Hc1 := hide (hc1 3)
  have Hc2 := hide (hc2 3)
  have hmax : cap ≤ 9223372036854775807 := h.max
  have hmaxG : G ≤ 9223372036854775807 := hcm
  have q1 : (n : Int) ≤ cap := by omega
  have q2 : (i : Int) ≤ n := by omega
  have q3 : ¬ (i : Int) = n := by omega
  have q4 : (cap : Int) < n + 1 := by omega
  have q5 : IntKind.i64.wrap ((i : Int) + 1) = (i : Int) + 1 := by rw [IntKind.wrap_i64]; omega
  have q6 : ((i : Int) + 1).toNat = i + 1 := by omega
  have q7 : (0 : Int) ≤ (i : Int) + 1 := by omega
  have q8 : (i : Int) + 1 ≤ n + 1 := by omega
  have q9 : ¬ G = i + 1 := by omega
  have q10 : ¬ cap = i := by omega
  have q11 : ¬ G = i := by omega
  have q12 : i ≤ n := by omega
  have q13 : i ≤ cap := by omega
  have q14 : (i : Int) ≤ (n : Int) + 1 := by omega
  have q15 : (n : Int) + 1 - (i : Int) = ((n + 1 - i : Nat) : Int) := by omega
  clear hc1 hc2 hr1 hr2 hcur1 hcur2 t1 t2 hfin hdl hxl hrz hold hrow hrs hrt hR hx0 h0 h1 t0 hW hcm hz ht hs hb
  have hc1 := unhide Hc1
  go_enter Try.func42, Try.ntmps42
  go_wp2_with (at_builtin; refine Lib.wpList_append_run _ rfl (.tmp 34) (.tmp 39) 51 3 rfl _ _ rfl rfl _ _ (unhide Hrz) ?_)
  go_region_law (refine step_copy_run (by rfl) (.tmp 50) (.tmp 53) 51 (by rfl) (.slice (some ⟨w.heap.size, (i + 1) * 2, none⟩) (n - i) (G - (i + 1))) (.slice (some ⟨g, i * 2, none⟩) (n - i) (cap - i)) r2 w2 (by simp [Act.eval, Act.put]) (by simp [Act.eval, Act.put]) (unhide Hc2) ?_)
  go_wp2
  go_ret
  exact unhide Hfin

theorem insert_any (v : Value) (n i vb : Nat) (xs : List Value) (x0 x1 : Value) (w : World) (h : w.ownsRow 0 59 2 v n xs) (hx : OneAt w vb x0 x1) (hv : v.ownBlock ≠ some vb) (hi : i ≤ n) (hlen : n ≤ 1099511627776) (hone : ∀ u ∈ xs, u.oneCell' = true) :
    Calls Try.prog 42 #[v, .int .i64 i, .slice (some ⟨vb, 0, none⟩) 1 1] w (Inserted w v n i xs x0 x1) := by
  by_cases hin : i = n
  · subst hin
    exact insert_end v i vb xs x0 x1 w h hx hlen
  · obtain ⟨g, cap, cur, rfl, hr⟩ := row_at h (by omega)
    have hvg : vb ≠ g := fun e => hv (by rw [e]; rfl)
    by_cases hroom : n + 1 ≤ cap
    · exact insert_room g cap n i vb xs cur x0 x1 w hr hx hvg (by omega) hroom hlen hone
    · exact insert_grow g cap n i vb xs cur x0 x1 w hr hx (by omega) (by omega) hlen hone

end Go.Proofs.Ytnojedjdnecagaa
