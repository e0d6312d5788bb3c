/- A Table's Sum, and the plain sum, bit by bit. -/
import Derived.Test.YtfmbkpdjjhcmcaaGreatOnce
namespace Go.Proofs.YtfmbkpdjjhcmcaaGreat
open Go.RowKit

theorem take_snoc (bs : List UInt8) (k : Nat) (hk : k < bs.length) : bs.take (k + 1) = bs.take k ++ [bs[k]] := by
  rw [List.take_add_one, List.getElem?_eq_getElem hk]
  rfl

/-- One byte by the table, as the walk spells it. -/
theorem by_table (c : Nat) (x : UInt8) (hc : c < 4294967296) : ∃ z : Nat, z < 256 ∧ bits .xor .u8 ((c : Int) % 256) (x.toNat : Int) = (z : Int) ∧ bits .xor .u32 (cword z : Int) ((c : Int) / 256) = (cstep c x : Int) := by
  have hb := byte_lt x
  refine ⟨(c % 256) ^^^ x.toNat, ?_, ?_, ?_⟩
  · exact Nat.xor_lt_two_pow (n := 8) (by omega) hb
  · exact u8_xor_nat (c % 256) x.toNat (by omega) hb
  · rw [cstep_table]
    exact u32_xor_nat _ (c / 256) (cword_lt _ (by have := Nat.xor_lt_two_pow (n := 8) (show c % 256 < 2 ^ 8 by omega) (show x.toNat < 2 ^ 8 by omega); omega)) (by omega)

set_option maxHeartbeats 1000000 in
set_option maxRecDepth 100000 in
theorem sum_of (R : World → Prop) (b : Nat) (v : Value) (bs : List UInt8) (w : World)
    (hdo : Calls Tryz.prog 101 #[.pointer (some ⟨b, 0, none⟩), .func (.func 102) #[.pointer (some ⟨b, 0, none⟩)] #[]] w fun e w' => e = .returned (.tuple #[]) ∧ Tab w' b true ∧ Turn (fun k => k = b) w w' ∧ R w')
    (hs : Sees w v bs) (hsl : 0 < bs.length → slab v ≠ some b) :
    Calls Tryz.prog 93 #[.pointer (some ⟨b, 0, none⟩), v] w fun e w' => e = .returned (.int .u32 (csum bs)) ∧ R w' := by
  have hdo := hide hdo
  have hlen := hs.len
  unfold maxLen at hlen
  have hmf : ∀ (fn : Fn) (first cap : Array Value) (w : World), (Instr.makeFunc fn first cap).run Tryz.prog w = .ok (.func fn first cap) w := fun _ _ _ _ => rfl
  obtain ⟨ao, cap, rfl⟩ := hs.shape
  go_enter Tryz.func93, Tryz.ntmps93
  go_wp2_with fail
  refine (unhide hdo).mono ?_
  clear hdo
  rintro e w1 ⟨rfl, h1, t1, hR⟩
  have hs1 : Sees w1 (.slice ao bs.length cap) bs := hs.kept' t1 (fun h0 k hk e => hsl h0 (e ▸ hk))
  go_wp2_with fail
  go_loop [5, 7, 18] (fun c _ i => ∃ k : Nat, k ≤ bs.length ∧ c = .int .u32 (crun 4294967295 (bs.take k)) ∧ i = .int .i64 k) (fun _ _ i => (bs.length - intOf i).toNat)
  case atStart => exact ⟨0, by omega, rfl, rfl⟩
  case round =>
    obtain ⟨k, hk, rfl, rfl⟩ := hrel
    have hc := crun_lt 4294967295 (bs.take k) (by omega)
    by_cases hlt : k < bs.length
    · obtain ⟨z, hz, e1, e2⟩ := by_table _ bs[k] hc
      rw [← crun_snoc, ← take_snoc bs k hlt] at e2
      have hw := h1.whole.word z hz hz
      rcases hs1 with ⟨h0, h0'⟩ | ⟨a, cap', e, _, _, hcell⟩
      · subst h0'
        simp at hlt
      · simp only [Value.slice.injEq, true_and] at e
        obtain ⟨rfl, rfl⟩ := e
        have hb : w1.cell? (a.add k) = some (.int .u8 (bs[k].toNat : Int)) := hcell k _ (by simp [u8s, hlt])
        clear hcell
        generalize crun 4294967295 (bs.take k) = c at *
        generalize hc' : crun 4294967295 (bs.take (k + 1)) = c' at *
        have Hc := hide hc'
        clear hc'
        go_wp2
        exact ⟨⟨k + 1, by omega, by rw [unhide Hc], by go_num⟩, by simp [intOf]; omega⟩
    · obtain rfl : k = bs.length := by omega
      rw [List.take_length] at hc ⊢
      have hn : bits .xor .u32 IntKind.u32.max (crun 4294967295 bs : Int) = ((4294967295 - crun 4294967295 bs : Nat) : Int) := not_u32 _ hc
      have hcs : Hid (csum bs = 4294967295 - crun 4294967295 bs) := rfl
      generalize crun 4294967295 bs = c at *
      go_wp2
      go_ret
      exact ⟨by rw [unhide hcs, ← hn]; rfl, hR⟩

theorem sum_any (b : Nat) (v : Value) (bs : List UInt8) (used : Bool) (w : World) (h : Tab w b used) (hs : Sees w v bs) (hsl : 0 < bs.length → slab v ≠ some b) :
    Calls Tryz.prog 93 #[.pointer (some ⟨b, 0, none⟩), v] w fun e w' => e = .returned (.int .u32 (csum bs)) ∧ Tab w' b true ∧ Turn (fun k => k = b) w w' :=
  sum_of (fun w' => Tab w' b true ∧ Turn (fun k => k = b) w w') b v bs w ((do_any b used w h).mono fun _ _ h => ⟨h.1, h.2.1, h.2.2, h.2⟩) hs hsl

/-- A Table that was used already is not turned by a Sum. -/
theorem sum_again (b : Nat) (v : Value) (bs : List UInt8) (w : World) (h : Tab w b true) (hs : Sees w v bs) (hsl : 0 < bs.length → slab v ≠ some b) :
    Calls Tryz.prog 93 #[.pointer (some ⟨b, 0, none⟩), v] w fun e w' => e = .returned (.int .u32 (csum bs)) ∧ w = w' :=
  sum_of (fun w' => w = w') b v bs w ((do_again b w h _).mono fun _ w' h' => by obtain ⟨h1, rfl⟩ := h'; exact ⟨h1, h, Turn.refl _ _, rfl⟩) hs hsl

/-- One byte bit by bit, as the walk spells it. -/
theorem goes_in (c : Nat) (x : UInt8) (hc : c < 4294967296) : ∃ y : Nat, y < 4294967296 ∧ bits .xor .u32 (c : Int) ((x.toNat : Int) % 4294967296) = (y : Int) ∧ cstep c x = cbits 8 y := by
  have hb := byte_lt x
  rw [Int.emod_eq_of_lt (by omega) (by omega)]
  exact ⟨c ^^^ x.toNat, xor_lt _ _ hc (by omega), u32_xor_nat _ _ hc (by omega), rfl⟩

set_option maxHeartbeats 1000000 in
set_option maxRecDepth 100000 in
theorem refSum_any (v : Value) (bs : List UInt8) (w : World) (hs : Sees w v bs) :
    Calls Tryz.prog 43 #[v] w fun e w' => e = .returned (.int .u32 (csum bs)) ∧ w = w' := by
  have hlen := hs.len
  unfold maxLen at hlen
  obtain ⟨ao, cap, rfl⟩ := hs.shape
  go_enter Tryz.func43, Tryz.ntmps43
  go_wp2_with fail
  go_loop [3, 4, 5, 6] (fun c i _ _ => ∃ k : Nat, k ≤ bs.length ∧ c = .int .u32 (crun 4294967295 (bs.take k)) ∧ i = .int .i64 k) (fun _ i _ _ => (bs.length - intOf i).toNat)
  case atStart => exact ⟨0, by omega, rfl, rfl⟩
  case round =>
    obtain ⟨k, hk, rfl, rfl⟩ := hrel
    have hc := crun_lt 4294967295 (bs.take k) (by omega)
    by_cases hlt : k < bs.length
    · obtain ⟨y, hy, e1, e2⟩ := goes_in _ bs[k] hc
      rw [← crun_snoc, ← take_snoc bs k hlt] at e2
      have Hc := hide e2
      clear e2
      rcases hs with ⟨h0, h0'⟩ | ⟨a, cap', e, _, _, hcell⟩
      · subst h0'
        simp at hlt
      · simp only [Value.slice.injEq, true_and] at e
        obtain ⟨rfl, rfl⟩ := e
        have hb : w.cell? (a.add k) = some (.int .u8 (bs[k].toNat : Int)) := hcell k _ (by simp [u8s, hlt])
        clear hcell
        generalize crun 4294967295 (bs.take k) = c at *
        go_wp2_with fail
        go_loop [3, 5, 6] (fun c j _ => ∃ m : Nat, m ≤ 8 ∧ c = .int .u32 (cbits m y) ∧ j = .int .i64 m) (fun _ j _ => (8 - intOf j).toNat)
        case atStart => exact ⟨0, by omega, rfl, rfl⟩
        case round =>
          obtain ⟨m, hm, rfl, rfl⟩ := hrel
          have hlt8 := cbits_lt m y hy
          have hbit := low_bit (cbits m y) hlt8
          by_cases hm8 : m < 8
          · by_cases hodd : cbits m y % 2 = 1
            · have hx := cbit_odd _ hlt8 hodd
              rw [← cbits_succ] at hx
              rw [hodd] at hbit
              go_wp2
              refine ⟨⟨m + 1, by omega, rfl, by simp⟩, ?_⟩
              simp [intOf]
              omega
            · have hx := cbit_plain _ hodd
              rw [← cbits_succ] at hx
              rw [show cbits m y % 2 = 0 by omega] at hbit
              go_wp2
              refine ⟨⟨m + 1, by omega, rfl, by simp⟩, ?_⟩
              simp [intOf]
              omega
          · obtain rfl : m = 8 := by omega
            clear hbit
            generalize cbits 8 y = c8 at *
            go_wp2
            exact ⟨⟨k + 1, by omega, by rw [unhide Hc], by go_num⟩, by simp [intOf]; omega⟩
    · obtain rfl : k = bs.length := by omega
      rw [List.take_length] at hc ⊢
      have hn : bits .xor .u32 IntKind.u32.max (crun 4294967295 bs : Int) = ((4294967295 - crun 4294967295 bs : Nat) : Int) := not_u32 _ hc
      have hcs : Hid (csum bs = 4294967295 - crun 4294967295 bs) := rfl
      generalize crun 4294967295 bs = c at *
      go_wp2
      go_ret
      exact ⟨by rw [unhide hcs, ← hn]; rfl, rfl⟩

end Go.Proofs.YtfmbkpdjjhcmcaaGreat
