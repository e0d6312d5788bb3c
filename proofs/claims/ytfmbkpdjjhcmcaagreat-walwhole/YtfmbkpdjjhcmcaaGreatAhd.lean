/- Numbers that rise: slices.BinarySearch over them, and those ahead of one. -/
import Derived.Test.YtfmbkpdjjhcmcaaGreatInts
import Derived.Test.YtfmbkpdjjhcmcaaGreatPkA
namespace Go.Proofs.YtfmbkpdjjhcmcaaGreat
open Go.RowKit

theorem i64s_at (l : List Int) (j : Nat) (hj : j < l.length) : (i64s l)[j]? = some (.int .i64 l[j]) := by simp [i64s, hj]

theorem SeesC.shape {w : World} {v : Value} {cs : List Value} (h : SeesC w v cs) : (v = .slice none 0 0 ∧ cs = []) ∨ ∃ a cap, v = .slice (some a) cs.length cap ∧ cs.length ≤ cap ∧ cap ≤ maxLen := by
  rcases h with h | ⟨a, cap, h1, h2, h3, _⟩
  · exact .inl h
  · exact .inr ⟨a, cap, h1, h2, h3⟩

theorem SeesC.cellAt {w : World} {a : Addr} {n cap : Nat} {cs : List Value} (h : SeesC w (.slice (some a) n cap) cs) (j : Nat) (u : Value) (hj : cs[j]? = some u) : w.cell? (a.add j) = some u := by
  rcases h with ⟨h, _⟩ | ⟨a', cap', e, _, _, hc⟩
  · simp at h
  · simp only [Value.slice.injEq, Option.some.injEq] at e
    obtain ⟨rfl, _, _⟩ := e
    exact hc j u hj

theorem isNaN2_any (a : Int) (w : World) : Calls Tryz.prog 76 #[.int .i64 a] w fun e w' => e = .returned (.bool false) ∧ w = w' := by
  have e0 : (a != a) = false := bne_self_eq_false _
  go_enter Tryz.func76, Tryz.ntmps76
  go_wp2
  go_ret
  exact ⟨rfl, rfl⟩

set_option maxHeartbeats 400000 in
theorem less_yes (a b : Int) (w : World) (h : a < b) : Calls Tryz.prog 75 #[.int .i64 a, .int .i64 b] w fun e w' => e = .returned (.bool true) ∧ w = w' := by
  go_enter Tryz.func75, Tryz.ntmps75
  go_wp2_with (go_at_call 95; refine (isNaN_any _ _).mono ?_; rintro e w' ⟨rfl, rfl⟩)
  go_ret
  exact ⟨rfl, rfl⟩

set_option maxHeartbeats 400000 in
theorem less_no (a b : Int) (w : World) (h : ¬ a < b) : Calls Tryz.prog 75 #[.int .i64 a, .int .i64 b] w fun e w' => e = .returned (.bool false) ∧ w = w' := by
  have h2 : decide (a < b) = false := by simpa using h
  go_enter Tryz.func75, Tryz.ntmps75
  go_wp2_with (go_at_call 95; refine (isNaN_any _ _).mono ?_; rintro e w' ⟨rfl, rfl⟩)
  go_ret

  exact ⟨rfl, rfl⟩

/-- Up to a all are below k, from b on none is. -/
structure AmidI (l : List Int) (k : Int) (a b : Nat) : Prop where
  lo : ∀ x (h : x < l.length), x < a → l[x] < k
  hi : ∀ x (h : x < l.length), b ≤ x → k ≤ l[x]

theorem lt_at {l : List Int} (h : l.Pairwise (· < ·)) {i j : Nat} (hi : i < l.length) (hj : j < l.length) (hij : i < j) : l[i] < l[j] := List.pairwise_iff_getElem.1 h i j hi hj hij

theorem AmidI.start (l : List Int) (k : Int) : AmidI l k 0 l.length := ⟨fun x _ hx => by omega, fun x h hx => by omega⟩

theorem AmidI.up {l : List Int} {k : Int} {a b m : Nat} {y : Int} (h : AmidI l k a b) (hr : l.Pairwise (· < ·)) (he : l[m]? = some y) (hk : y < k) : AmidI l k (m + 1) b := by
  obtain ⟨hm, rfl⟩ := List.getElem?_eq_some_iff.1 he
  exact ⟨fun x hx hl => by
    by_cases e : x = m
    · subst e; exact hk
    · have := lt_at hr hx hm (by omega); omega, h.hi⟩

theorem AmidI.down {l : List Int} {k : Int} {a b m : Nat} {y : Int} (h : AmidI l k a b) (hr : l.Pairwise (· < ·)) (he : l[m]? = some y) (hk : ¬ y < k) : AmidI l k a m := by
  obtain ⟨hm, rfl⟩ := List.getElem?_eq_some_iff.1 he
  exact ⟨h.lo, fun x hx hl => by
    by_cases e : x = m
    · subst e; omega
    · have := lt_at hr hm hx (by omega); omega⟩

theorem AmidI.filter {l : List Int} {k : Int} {a : Nat} (h : AmidI l k a a) : l.take a = l.filter (· < k) := by
  have h1 : (l.take a).filter (· < k) = l.take a := List.filter_eq_self.2 (fun x hx => by
    obtain ⟨i, hi, rfl⟩ := List.getElem_of_mem hx
    rw [List.length_take] at hi
    rw [List.getElem_take]
    simpa using h.lo i (by omega) (by omega))
  have h2 : (l.drop a).filter (· < k) = [] := List.filter_eq_nil_iff.2 (fun x hx => by
    obtain ⟨i, hi, rfl⟩ := List.getElem_of_mem hx
    rw [List.length_drop] at hi
    rw [List.getElem_drop]
    have := h.hi (a + i) (by omega) (by omega)
    simp
    omega)
  conv => rhs; rw [← List.take_append_drop a l]
  rw [List.filter_append, h1, h2, List.append_nil]

/-- What a search tells. -/
def Sought (l : List Int) (k : Int) (w : World) (e : Ending) (w' : World) : Prop :=
  ∃ (a : Nat) (there : Bool), e = .returned (.tuple #[.int .i64 a, .bool there]) ∧ a ≤ l.length ∧ AmidI l k a a ∧ w = w'

set_option maxHeartbeats 1000000 in
set_option maxRecDepth 100000 in
theorem bsearch_any (v : Value) (l : List Int) (k : Int) (w : World) (h : SeesC w v (i64s l)) (hr : l.Pairwise (· < ·)) (hlen : l.length ≤ 1099511627776) :
    Calls Tryz.prog 58 #[v, .int .i64 k] w fun e w' => Sought l k w e w' := by
  have hil := i64s_length l
  rcases h.shape with ⟨rfl, hn⟩ | ⟨g, cap, rfl, hnc, hcm⟩
  · have hl : l = [] := by rw [hn] at hil; exact List.eq_nil_of_length_eq_zero hil.symm
    subst hl
    clear h hil hn
    go_enter Tryz.func58, Tryz.ntmps58
    go_wp2
    go_loopw [7, 8, 9] (fun i j _ wr => i = .int .i64 0 ∧ j = .int .i64 0 ∧ wr = w) (fun _ _ _ _ => 0)
    case atStart => exact ⟨rfl, rfl, rfl⟩
    case round =>
      obtain ⟨rfl, rfl, rfl⟩ := hrel
      go_wp2
      go_ret2
      exact ⟨0, false, rfl, by simp, ⟨by simp, by simp⟩, rfl⟩
  · unfold maxLen at hcm
    rw [hil] at h hnc ⊢
    have HC : Hid (∀ j x, l[j]? = some x → w.cell? (g.add j) = some (.int .i64 x)) := hide (fun j x hj => h.cellAt j _ (by simp [i64s, hj]))
    clear h hil
    have hS := hide (AmidI.start l k)
    generalize hlenE : l.length = len at *
    have HL := hide hlenE
    clear hlenE
    go_enter Tryz.func58, Tryz.ntmps58
    go_wp2
    go_loopw [7, 8, 9] (fun i j _ wr => ∃ a b : Nat, a ≤ b ∧ b ≤ len ∧ i = .int .i64 a ∧ j = .int .i64 b ∧ AmidI l k a b ∧ wr = w) (fun i j _ _ => (intOf j - intOf i).toNat)
    case atStart => exact ⟨0, len, by omega, by omega, rfl, rfl, unhide hS, rfl⟩
    case round =>
      obtain ⟨a, b, hab, hb, rfl, rfl, hbt, rfl⟩ := hrel
      by_cases hlt : a < b
      · obtain ⟨m, hm⟩ : ∃ m, m = (a + b) / 2 := ⟨_, rfl⟩
        have hm1 : m < b := by omega
        have hm2 : a ≤ m := by omega
        obtain ⟨x, hx⟩ : ∃ x, l[m]? = some x := ⟨_, List.getElem?_eq_getElem (by have := unhide HL; omega)⟩
        have hc := unhide HC m x hx
        have Hx := hide hx
        have q0 : (a : Int) < b := by omega
        have q1 : IntKind.u64.wrap ((a : Int) + (b : Int)) = (a : Int) + (b : Int) := by rw [IntKind.wrap_u64]; omega
        have q2 : ((a : Int) + (b : Int)) / 2 = (m : Int) := by omega
        have q3 : (a : Int) + (b : Int) ≤ 2199023255552 := by omega
        have q4 : m < len := by omega
        clear hm hx
        by_cases hk : x < k
        · go_wp2_with fail
          refine (less_yes _ _ _ hk).mono ?_
          rintro e1 w1 ⟨rfl, rfl⟩
          go_wp2
          go_roundw
          case rel => exact ⟨m + 1, b, by omega, hb, by go_num, rfl, hbt.up hr (unhide Hx) hk, by trivial⟩
          case measure => simp [intOf]; omega
        · go_wp2_with fail
          refine (less_no _ _ _ (by omega)).mono ?_
          rintro e1 w1 ⟨rfl, rfl⟩
          go_wp2
          go_roundw
          case rel => exact ⟨a, m, hm2, by omega, rfl, rfl, hbt.down hr (unhide Hx) (by omega), by trivial⟩
          case measure => simp [intOf]; omega
      · obtain rfl : a = b := by omega
        have q0 : ¬ (a : Int) < a := by omega
        have hle : a ≤ l.length := by have := unhide HL; omega
        have HLE := hide hle
        clear hle
        by_cases hl : a < len
        · have hc := unhide HC a _ (List.getElem?_eq_getElem (by have := unhide HL; omega))
          generalize l[a]'(by have := unhide HL; omega) = x at hc
          have q1 : (a : Int) < len := by omega
          by_cases hk : x = k
          · subst hk
            have q2 : (x == x) = true := by simp
            go_wp2_with (go_at_call 76; refine (isNaN2_any _ _).mono ?_; rintro e w' ⟨rfl, rfl⟩)
            go_ret2
            exact ⟨a, _, rfl, unhide HLE, hbt, rfl⟩
          · have q2 : (x == k) = false := by simpa using hk
            go_wp2_with (go_at_call 76; refine (isNaN2_any _ _).mono ?_; rintro e w' ⟨rfl, rfl⟩)
            go_ret2
            exact ⟨a, _, rfl, unhide HLE, hbt, rfl⟩
        · obtain rfl : a = len := by omega
          go_wp2
          go_ret2
          exact ⟨_, false, rfl, unhide HLE, hbt, rfl⟩

/-- Those ahead of one: a part of the same list. -/
def Part (w : World) (v : Value) (l : List Int) (k : Int) (e : Ending) (w' : World) : Prop :=
  ∃ v', e = .returned v' ∧ SeesC w v' (i64s (l.filter (· < k))) ∧ (∀ j, slab v' = some j → slab v = some j) ∧ w = w'

set_option maxHeartbeats 1000000 in
set_option maxRecDepth 100000 in
theorem ahead_any (v : Value) (l : List Int) (k : Int) (w : World) (h : SeesC w v (i64s l)) (hr : l.Pairwise (· < ·)) (hlen : l.length ≤ 1099511627776) :
    Calls Tryz.prog 33 #[v, .int .i64 k] w fun e w' => Part w v l k e w' := by
  have Hb := hide (bsearch_any v l k w h hr hlen)
  have hil := i64s_length l
  rcases h.shape with ⟨rfl, hn⟩ | ⟨g, cap, rfl, hnc, hcm⟩
  · have hl : l = [] := by rw [hn] at hil; exact List.eq_nil_of_length_eq_zero hil.symm
    subst hl
    clear h hil hn
    go_enter Tryz.func33, Tryz.ntmps33
    go_wp2_with fail
    refine (unhide Hb).mono ?_
    rintro e w1 ⟨a, there, rfl, ha, hb, rfl⟩
    obtain rfl : a = 0 := by simpa using ha
    go_wp2
    go_ret
    exact ⟨_, rfl, .inl ⟨rfl, rfl⟩, fun _ h => h, rfl⟩
  · unfold maxLen at hcm
    have HS := hide h
    clear h
    rw [hil] at hnc Hb ⊢
    generalize hlenE : l.length = len at *
    have HE := hide hlenE
    clear hlenE
    go_enter Tryz.func33, Tryz.ntmps33
    go_wp2_with fail
    refine (unhide Hb).mono ?_
    rintro e w1 ⟨a, there, rfl, ha, hb, rfl⟩
    have ha' : a ≤ len := by have := unhide HE; omega
    have ha2 : a ≤ cap := by omega
    have ha3 : (a : Int) ≤ cap := by omega
    go_wp2
    go_ret
    refine ⟨_, rfl, ?_, fun _ h => h, rfl⟩
    have := (unhide HS).front a (by rw [hil]; omega)
    rwa [← i64s_take, hb.filter] at this

end Go.Proofs.YtfmbkpdjjhcmcaaGreat
