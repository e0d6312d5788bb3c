/- The closed sentence of chapter 1: its walk. -/
import Derived.Test.YtppgmcgohmppbaaOctR
namespace Go.Proofs.Ytppgmcgohmppbaa
open Go.RowKit

theorem kn1 : (St.mk [255, 255, 255, 255, 255, 255, 255, 254, 0, 1, 97, 9] false).take 8 = ([255, 255, 255, 255, 255, 255, 255, 254], ⟨[0, 1, 97, 9], false⟩) := rfl
theorem kn2 : num [255, 255, 255, 255, 255, 255, 255, 254] = -2 := by
  have h := num_be8 (-2)
  rw [show be (-2) 8 = [255, 255, 255, 255, 255, 255, 255, 254] by decide] at h
  rw [h]
  unfold wrap64
  omega
theorem kn3 : num [0, 1] = 1 := by
  have h := num_be2 1
  rw [show be 1 2 = [0, 1] by decide] at h
  exact h
theorem kn4 : (St.mk [0, 1, 97, 9] false).short = ([97], ⟨[9], false⟩) := by
  unfold St.short
  rw [show (St.mk [0, 1, 97, 9] false).take 2 = ([0, 1], ⟨[97, 9], false⟩) from rfl]
  simp only [kn3]
  rfl
theorem kn5 : (St.mk [9] false).take 2 = ([], ⟨[], true⟩) := rfl

/-- Many zeros. -/
def zeros (n : Nat) : Array Value := madeCells #[.int .u8 0] n
theorem zeros_eq (n : Nat) : zeros n = (u8s (List.replicate n 0)).toArray := by
  apply Array.ext'
  unfold zeros
  rw [toList_madeCells_one]
  simp [u8s]

theorem run_make_bytes (n : Nat) (hn : n ≤ 1000000) (w : World) : (Instr.makeSlice 24 (.int .i64 n) (.int .i64 n)).run Try.prog w = .ok (.slice (some ⟨w.heap.size, 0, none⟩) n n) (w.alloc (.cells (zeros n) 5)) := by
  obtain ⟨i0, hi, hz0, hz1, hz2⟩ := info_parts Try.infoU8
  rw [run_make w 24 5 i0 (.int .u8 0) Try.underlying24 hi hz0 .i64 .i64 n n (by omega) (by omega) (by rw [hz2]; omega) (by omega)]
  simp [hz1, zeros, Value.cells]

theorem sees_zeros (w : World) (n : Nat) (hn : n ≤ 1000000) : Sees (w.alloc (.cells (zeros n) 5)) (.slice (some ⟨w.heap.size, 0, none⟩) n n) (List.replicate n 0) := by
  have h := Sees.lit w (List.replicate n 0) 5 (by rw [List.length_replicate]; unfold maxLen; omega)
  rw [← zeros_eq, List.length_replicate] at h
  exact h

set_option maxHeartbeats 1000000 in
theorem octetKnown_any (w : World) : Calls Try.prog 3 #[] w fun e w' => e = .returned (.bool true) ∧ Turn (fun _ => False) w w' := by
  go_enter Try.func3, Try.ntmps3
  go_wp2_with fail
  refine (newReader_any _ [255, 255, 255, 255, 255, 255, 255, 254, 0, 1, 97, 9] _ (Sees.lit w [255, 255, 255, 255, 255, 255, 255, 254, 0, 1, 97, 9] _ (by simp [maxLen])) (by simp)).mono ?_
  rintro e w1 ⟨b, rfl, v, h1, hb, hv, ht⟩
  have t1 : Turn (fun _ => False) w w1 := ((Turn.refl _ _).alloc _).trans ht
  clear ht
  go_wp2_with fail
  refine (newWriter_any w1).mono ?_
  rintro e w2 ⟨rfl, rfl⟩
  go_wp2_with fail
  refine (known_any _).mono ?_
  rintro e w3 ⟨rfl, ht3⟩
  have hbw : b < w1.heap.size := h1.1.lt
  have hr3 : RIs 52 w3 b v ⟨[255, 255, 255, 255, 255, 255, 255, 254, 0, 1, 97, 9], false⟩ := h1.kept (((Turn.refl (fun _ => False) _).alloc _).trans ht3) (fun h => h) (fun _ _ h => h)
  have hw3 : WAt 54 w3 w1.heap.size (.slice none 0 0) [] := (WAt.new 54 w1).kept ht3 (fun h => h) (fun _ _ h => h)
  have t3 : Turn (fun _ => False) w w3 := (t1.alloc _).trans ht3
  generalize w1.heap.size = c at *
  clear h1 ht3 t1 hv
  have hb0 := hb
  clear hb
  have q := ru64_any b v _ w3 hr3
  simp only [kn1, kn2] at q
  have q := hide q
  go_wp2_with fail
  refine (unhide q).mono ?_
  clear q
  rintro e w4 ⟨rfl, v4, hr4⟩
  have q := rtext_any b v4 _ w4 hr4.at'
  simp only [kn4] at q
  have q := hide q
  go_wp2_with fail
  refine (unhide q).mono ?_
  clear q
  rintro e w5 ⟨rfl, v5, hr5⟩
  have q := ru16_any b v5 _ w5 hr5.at'
  simp only [kn5] at q
  have q := hide q
  go_wp2_with fail
  refine (unhide q).mono ?_
  clear q
  rintro e w6 ⟨rfl, v6, hr6⟩
  have hst := (hr4.trans hr5).trans hr6
  have hr7 : RIs 52 w6 b v6 ⟨[], true⟩ := hr6.at'
  have hw7 : WAt 54 w6 c (.slice none 0 0) [] := hw3.kept hst.turn (by omega) (fun k hk => by simp [Value.ownBlock] at hk)
  have t7 : Turn (fun k => k = b) w w6 := (t3.mono (fun _ _ h => h.elim)).trans hst.turn
  clear hr4 hr5 hr6 hst hr3 hw3 t3
  have hnum : num [] = 0 := rfl
  go_wp2_with fail
  refine (lack_any b v6 _ w6 hr7).mono ?_
  rintro e w8 ⟨rfl, rfl⟩
  go_wp2_with fail
  refine (left_any b v6 _ w6 hr7).mono ?_
  rintro e w8 ⟨rfl, rfl⟩
  have hmk1 := run_make_bytes 65536 (by omega)
  have hmk2 := run_make_bytes 65535 (by omega)
  simp only [Int.cast_ofNat_Int] at hmk1 hmk2
  go_wp2_with fail
  refine (short_no c _ (List.replicate 65536 0) _ (sees_zeros w6 65536 (by omega)) (by rw [List.length_replicate]; omega)).mono ?_
  rintro e w9 ⟨rfl, rfl⟩
  have hw9 := hw7.alloc (.cells (zeros 65536) 5)
  have t9 := t7.alloc (.cells (zeros 65536) 5)
  generalize w6.alloc (.cells (zeros 65536) 5) = w9 at *
  clear hw7 hr7 t7 hmk1
  go_wp2_with fail
  refine (bytes_any c _ [] w9 hw9 (by simp)).mono ?_
  rintro e w10 ⟨v10, rfl, ho, hg, _⟩
  have hw10 : WAt 54 w10 c (.slice none 0 0) [] := hw9.kept (turn_of_grown hg) (fun h => h) (fun _ _ h => h)
  have t10 : Turn (fun k => k = b) w w10 := t9.trans' (turn_of_grown hg) (fun _ _ h => h.elim)
  obtain ⟨ao, cap, rfl⟩ := ho.shape
  simp only [List.length_nil]
  clear ho hg hw9 t9
  go_wp2_with fail
  refine (short_yes c _ _ [] (List.replicate 65535 0) _ (hw10.alloc _) (sees_zeros w10 65535 (by omega)) ?_ (by rw [List.length_replicate]; omega) (by rw [List.length_replicate]; simp)).mono ?_
  · intro _ k hk
    simp only [slab, Option.some.injEq] at hk
    subst hk
    have := hw10.1.lt
    exact ⟨by omega, by simp [Value.ownBlock]⟩
  rintro e w11 ⟨rfl, v11, hst⟩
  have hlen : ([] ++ sh (List.replicate 65535 0)).length = 65537 := by rw [List.nil_append, sh_length, List.length_replicate]
  have t11 : Turn (fun k => k = b ∨ k = c) w w11 := ((t10.alloc _).mono (fun _ _ h => .inl h)).trans' hst.turn fun i _ hS => by
    rcases hS with hS | hS
    · exact .inr hS
    · simp [Value.ownBlock] at hS
  go_wp2_with fail
  refine (bytes_any c v11 _ w11 hst.at' (by rw [hlen]; omega)).mono ?_
  rintro e w12 ⟨v12, rfl, ho, hg, _⟩
  have t12 : Turn (fun k => k = b ∨ k = c) w w12 := t11.trans' (turn_of_grown hg) (fun _ _ h => h.elim)
  have hw0 : w.heap.size + 1 ≤ b := by simpa using hb0
  have t13 : Turn (fun _ => False) w w12 := t12.mono (fun i hi h => by rcases h with h | h <;> omega)
  obtain ⟨ao', cap', rfl⟩ := ho.shape
  simp only [hlen]
  clear ho hg t12 t11 hst hw10 t10 hmk2
  go_wp2
  go_ret
  exact ⟨rfl, t13⟩

end Go.Proofs.Ytppgmcgohmppbaa
