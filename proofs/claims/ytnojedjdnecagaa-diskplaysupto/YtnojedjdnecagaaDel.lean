/- slices.Delete of one entry. -/
import Derived.Test.YtnojedjdnecagaaCut
import Derived.Test.YtnojedjdnecagaaCells
namespace Go.Proofs.Ytnojedjdnecagaa
open Go.RowKit

theorem Try.infoEnt : (Try.prog.info? 59).map (fun i => (i.zero, i.size, i.bytes)) = some (some (.agg #[.int .i64 0, .slice none 0 0]), 2, 32) := by kernel_rfl

theorem infoEnt : ∃ i, Try.prog.info? 59 = some i ∧ i.zero = some (.agg #[.int .i64 0, .slice none 0 0]) ∧ i.size = 2 ∧ i.bytes = 32 := by
  obtain ⟨i, hi, h⟩ := Option.map_eq_some_iff.1 Try.infoEnt
  simp only [Prod.mk.injEq] at h
  exact ⟨i, hi, h.1, h.2.1, h.2.2⟩

theorem zeroEnt (w : World) : (zeroValue 59).run Try.prog w = .ok (.agg #[.int .i64 0, .slice none 0 0]) w := by
  obtain ⟨i, hi, hz, _⟩ := infoEnt
  simp [zeroValue, typeInfo, hi, hz]

/-- A row of entries that lies in block g. -/
structure RowAt (w : World) (g cap n : Nat) (xs : List Value) (cur : Array Value) : Prop where
  heap : w.heap[g]? = some (.cells cur 59 (0, 0))
  len : xs.length = n * 2
  le : n ≤ cap
  max : cap ≤ maxLen
  size : cur.size = cap * 2
  take : cur.toList.take (n * 2) = xs

theorem RowAt.own {w : World} {g cap n : Nat} {xs : List Value} {cur : Array Value} (h : RowAt w g cap n xs cur) : w.ownsRow 0 59 2 (.slice (some ⟨g, 0, none⟩) n cap) n xs :=
  ⟨h.len, .inr ⟨g, cap, cur, rfl, Nat.zero_le _, h.heap, h.le, h.max, h.size, h.take⟩⟩

theorem RowAt.cell {w : World} {g cap n : Nat} {xs : List Value} {cur : Array Value} (h : RowAt w g cap n xs cur) (j : Nat) (u : Value) (hj : xs[j]? = some u) : w.cell? ⟨g, j, none⟩ = some u := by
  have hl := (List.getElem?_eq_some_iff.1 hj).1
  rw [h.own.cellAt j (by rw [← h.len]; exact hl)]
  exact hj

theorem RowAt.drew {w : World} {g cap n : Nat} {xs : List Value} {cur : Array Value} (h : RowAt w g cap n xs cur) : RowAt w.drew g cap n xs cur := ⟨h.heap, h.len, h.le, h.max, h.size, h.take⟩

theorem zeroEntCells : (Builtin.zeroCells (Value.agg #[.int .i64 0, .slice none 0 0]).cells 1).toList = [.int .i64 0, .slice none 0 0] := by
  simp [Builtin.zeroCells, Value.cells]
  rfl

theorem row_at {w : World} {v : Value} {n : Nat} {xs : List Value} (h : w.ownsRow 0 59 2 v n xs) (hn : 0 < n) : ∃ g cap cur, v = .slice (some ⟨g, 0, none⟩) n cap ∧ RowAt w g cap n xs cur := by
  rcases h.2 with ⟨_, h0⟩ | ⟨g, cap, cur, rfl, _, hg, h1, h2, h3, h4⟩
  · omega
  · exact ⟨g, cap, cur, rfl, hg, h.1, h1, h2, h3, h4⟩

theorem addr_lit (g o j : Nat) : (⟨g, o, none⟩ : Addr).add j = ⟨g, o + j, none⟩ := by unfold Addr.add; split <;> simp_all

theorem seg_row {w : World} {g cap n : Nat} {xs : List Value} {cur : Array Value} (h : RowAt w g cap n xs cur) (o m : Nat) (cs : List Value) (hm : m ≤ cap) (hfit : o + cs.length ≤ cap * 2) :
    RowAt (w.setRow g (seg cur.toList o cs).toArray) g cap m ((seg cur.toList o cs).take (m * 2)) (seg cur.toList o cs).toArray := by
  have hs : cur.toList.length = cap * 2 := by rw [Array.length_toList, h.size]
  have hl := seg_length cur.toList o cs (by omega)
  refine ⟨setRow_heap w g cur _ _ _ h.heap, ?_, hm, h.max, ?_, rfl⟩
  · rw [List.length_take, hl]; omega
  · rw [List.size_toArray, hl, hs]

/-- The append within Delete. -/
theorem del_append (w : World) (g cap n i : Nat) (xs : List Value) (cur : Array Value) (h : RowAt w g cap n xs cur) (hi : i < n) (hone : ∀ u ∈ xs, u.oneCell' = true) (a : Addr) (c : Nat) (ha : a = ⟨g, (i + 1) * 2, none⟩ ∨ n = i + 1) :
    ∃ w' cur', (∀ ty, (Builtin.append_ #[51, 51] ty #[.slice (some ⟨g, 0, none⟩) i cap, .slice (some a) (n - (i + 1)) c]).run Try.prog w = .ok (.slice (some ⟨g, 0, none⟩) (n - 1) cap) w') ∧
      RowAt w' g cap (n - 1) (xs.take (i * 2) ++ xs.drop ((i + 1) * 2)) cur' ∧ Turn (fun k => k = g) w w' := by
  obtain ⟨t, ht, hz, hs, hb⟩ := infoEnt
  have hle := h.le
  have hxl := h.len
  have hsz := h.size
  have hnl : (xs.drop ((i + 1) * 2)).length = (n - (i + 1)) * 2 := by rw [List.length_drop, hxl]; omega
  have hr := fun ty => run_append_room (P := Try.prog) w 51 ty 59 t Try.underlying51 ht g i cap cur h.heap a (n - (i + 1)) c (xs.drop ((i + 1) * 2)) (by rw [hs]; exact hnl)
    (fun j u hj => by
      rcases ha with rfl | hc
      · rw [addr_lit]
        rw [List.getElem?_drop] at hj
        exact h.cell _ u hj
      · have := (List.getElem?_eq_some_iff.1 hj).1
        omega) (fun u hu => hone u (List.mem_of_mem_drop hu)) (by omega) (by rw [hs, hnl]; omega)
  rw [hs] at hr
  rw [show i + (n - (i + 1)) = n - 1 by omega] at hr
  have hrow := seg_row h (i * 2) (n - 1) (xs.drop ((i + 1) * 2)) (by omega) (by rw [hnl]; omega)
  unfold seg at hrow
  have e : (seg cur.toList (i * 2) (xs.drop ((i + 1) * 2))).take ((n - 1) * 2) = xs.take (i * 2) ++ xs.drop ((i + 1) * 2) := by
    have := seg_take cur.toList (i * 2) (xs.drop ((i + 1) * 2)) (by rw [hnl, Array.length_toList, hsz]; omega)
    rw [hnl, show i * 2 + (n - (i + 1)) * 2 = (n - 1) * 2 by omega] at this
    rw [this]
    congr 1
    conv => rhs; rw [← h.take, List.take_take, Nat.min_eq_left (by omega)]
  unfold seg at e
  rw [e] at hrow
  exact ⟨_, _, hr, hrow, turn_setRow _ _ _⟩

/-- The clear within Delete. -/
theorem del_clear (w : World) (g cap n : Nat) (xs : List Value) (cur : Array Value) (h : RowAt w g cap (n - 1) xs cur) (hn : 0 < n) (hc : n ≤ cap) (c : Nat) :
    ∃ w' cur', (∀ ty, (Builtin.clear_ #[51] ty #[.slice (some ⟨g, (n - 1) * 2, none⟩) 1 c]).run Try.prog w = .ok (.tuple #[]) w') ∧ RowAt w' g cap (n - 1) xs cur' ∧ Turn (fun k => k = g) w w' := by
  have hr := fun ty => run_clear_sized (P := Try.prog) w 51 59 ty _ Try.underlying51 zeroEnt g ((n - 1) * 2) 1 c (by omega) cur h.heap (by rw [h.size]; show (n - 1) * 2 + 1 * 2 ≤ _; omega) (by rw [zeroEntCells]; simp [Value.oneCell'])
  have hz : (Builtin.zeroCells (Value.agg #[.int .i64 0, .slice none 0 0]).cells 1).toList.length = 2 := by rw [zeroEntCells]; rfl
  have hrow := seg_row h ((n - 1) * 2) (n - 1) (Builtin.zeroCells (Value.agg #[.int .i64 0, .slice none 0 0]).cells 1).toList (by omega) (by rw [hz]; omega)
  rw [seg_front _ _ _ _ (by omega) (by rw [hz, Array.length_toList, h.size]; omega), h.take] at hrow
  exact ⟨_, _, hr, hrow, turn_setRow _ _ _⟩

set_option maxHeartbeats 1000000 in
set_option maxRecDepth 100000 in
theorem delete_any (v : Value) (n i : Nat) (xs : List Value) (w : World) (h : w.ownsRow 0 59 2 v n xs) (hi : i < n) (hlen : n ≤ 1099511627776) (hone : ∀ u ∈ xs, u.oneCell' = true) :
    Calls Try.prog 41 #[v, .int .i64 i, .int .i64 (i + 1)] w fun e w' => ∃ v', e = .returned v' ∧ w'.ownsRow 0 59 2 v' (n - 1) (xs.take (i * 2) ++ xs.drop ((i + 1) * 2)) ∧ v'.ownBlock = v.ownBlock ∧ Turn (fun k => v.ownBlock = some k) w w' := by
  obtain ⟨g, cap, cur, rfl, hr⟩ := row_at h (by omega)
  have hle := hr.le
  have hmax := hr.max
  have hmax' : cap ≤ 9223372036854775807 := hmax
  clear hmax
  have q1 : (i : Int) + 1 ≤ n := by omega
  have q2 : (n : Int) ≤ cap := by omega
  have q3 : ¬ (i : Int) = i + 1 := by omega
  have q4 : IntKind.i64.wrap ((i : Int) + 1) = (i : Int) + 1 := by rw [IntKind.wrap_i64]; omega
  have q5 : ((i : Int) + 1).toNat = i + 1 := by omega
  have q6 : i ≤ cap := by omega
  have q7 : (i : Int) ≤ i + 1 := by omega
  have q8 : (i : Int) ≤ n := by omega
  have q9 : (0 : Int) ≤ (i : Int) + 1 := by omega
  by_cases hc : cap = i + 1
  · obtain rfl : n = i + 1 := by omega
    subst hc
    obtain ⟨w1, cur1, hap, hr1, t1⟩ := del_append w.drew g (i + 1) (i + 1) i xs cur hr.drew hi hone ⟨g, 0, none⟩ 0 (.inr rfl)
    obtain ⟨w2, cur2, hcl, hr2, t2⟩ := del_clear w1 g (i + 1) (i + 1) _ cur1 hr1 (by omega) (by omega) 1
    rw [Nat.sub_self, Nat.add_sub_cancel] at hap
    rw [Nat.add_sub_cancel] at hcl
    have Hap := hide hap
    have Hcl := hide hcl
    clear hap hcl
    go_enter Try.func41, Try.ntmps41
    go_wp2_with fail
    go_region_law (refine step_append_run (by rfl) (.tmp 22) (.tmp 25) 51 (by rfl) (.slice (some ⟨g, 0, none⟩) i (i + 1)) (.slice (some ⟨g, 0, none⟩) 0 0) (.slice (some ⟨g, 0, none⟩) i (i + 1)) w1 (by rfl) (by simp [Act.eval, Act.put]) (unhide Hap _) ?_)
    have hcl := unhide Hcl 0
    go_wp2
    go_ret
    exact ⟨_, rfl, hr2.own, rfl, (((Turn.refl _ w).drew.trans t1).trans t2).mono (fun k _ e => congrArg some e.symm)⟩
  · have hc' : ¬ cap = i + 1 := hc
    obtain ⟨w1, cur1, hap, hr1, t1⟩ := del_append w.drew g cap n i xs cur hr.drew hi hone ⟨g, (i + 1) * 2, none⟩ (cap - (i + 1)) (.inl rfl)
    obtain ⟨w2, cur2, hcl, hr2, t2⟩ := del_clear w1 g cap n _ cur1 hr1 (by omega) (by omega) (cap - (n - 1))
    have Hap := hide hap
    have Hcl := hide hcl
    clear hap hcl
    go_enter Try.func41, Try.ntmps41
    go_wp2_with fail
    go_region_law (refine step_append_run (by rfl) (.tmp 22) (.tmp 25) 51 (by rfl) (.slice (some ⟨g, 0, none⟩) i cap) (.slice (some ⟨g, (i + 1) * 2, none⟩) (n - (i + 1)) (cap - (i + 1))) (.slice (some ⟨g, 0, none⟩) (n - 1) cap) w1 (by rfl) (by simp [Act.eval, Act.put]) (unhide Hap _) ?_)
    have hcl := unhide Hcl 0
    obtain ⟨m, rfl⟩ : ∃ m, n = m + 1 := ⟨n - 1, by omega⟩
    rw [Nat.add_sub_cancel] at hcl ⊢
    go_wp2
    go_ret
    rw [Nat.add_sub_cancel] at hr2
    exact ⟨_, rfl, hr2.own, rfl, (((Turn.refl _ w).drew.trans t1).trans t2).mono (fun k _ e => congrArg some e.symm)⟩

end Go.Proofs.Ytnojedjdnecagaa
