/- What the calls of the reference's Writer do to memory. -/
import Derived.Test.YtcojlmfdonbkmaaOctW
import Derived.Test.YtcojlmfdonbkmaaHand
namespace Go.Proofs.Ytcojlmfdonbkmaa
open Go.RowKit

theorem be_mod1 (n : Int) : ∀ k, k < 8 → n % 18446744073709551616 / 2 ^ (8 * k) % 256 = n / 2 ^ (8 * k) % 256
  | 0, _ => by omega
  | 1, _ => by omega
  | 2, _ => by omega
  | 3, _ => by omega
  | 4, _ => by omega
  | 5, _ => by omega
  | 6, _ => by omega
  | 7, _ => by omega

theorem be_mod (n : Int) : ∀ k, k ≤ 8 → be (n % 18446744073709551616) k = be n k
  | 0, _ => rfl
  | k + 1, h => by
    rw [be, be, be_mod1 n k (by omega), be_mod n k (by omega)]

set_option maxHeartbeats 400000 in
set_option maxRecDepth 100000 in
theorem rw_raw (b : Nat) (v s : Value) (bs ds : List UInt8) (w : World) (h : WAt 54 w b v bs) (hs : Sees w s ds) (hb : bs.length + ds.length ≤ 140737488355328) :
    Calls Try.prog 28 #[.pointer (some ⟨b, 0, none⟩), s] w fun e w' => e = .returned (.tuple #[]) ∧ ∃ v', WStep 54 b w v w' v' (bs ++ ds) := by
  obtain ⟨i0, hi, hz0, hz1, hz2⟩ := info_parts Try.infoU8
  obtain ⟨ao, cap, rfl⟩ := h.2.1.shape
  have hc : w.cell? ⟨b, 0, none⟩ = some (.slice ao bs.length cap) := by rw [h.1.cell]; rfl
  have hlt := h.1.lt
  go_enter Try.func28, Try.ntmps28
  go_wp2_with (at_builtin; refine wpList_append_sees _ rfl (.tmp 8) (.tmp 9) 25 rfl i0 Try.underlying25 hi hz0 hz1 hz2 _ bs rfl h.2.1 s ds rfl hs hb ?_)
  intro v' w' ho hg hk
  have hst := WStep.append h ho hg hk
  have hb0 := hg.block b hlt (fun e => h.2.2 e.symm)
  have hc' : w'.cell? ⟨b, 0, none⟩ = some (.slice ao bs.length cap) := (World.cell?_of_block hb0).trans hc
  have hf' : w'.frozen? ⟨b, 0, none⟩ = false := (World.frozen?_of_block hb0).trans (h.1.frozen 0)
  obtain ⟨ao', cap', rfl⟩ := ho.shape
  clear hb0 ho hg hk
  rw [List.length_append] at hst
  go_wp2
  go_end0
  exact ⟨rfl, _, hst⟩

set_option maxHeartbeats 400000 in
set_option maxRecDepth 100000 in
theorem rw_u (b : Nat) (v : Value) (bs : List UInt8) (n : Int) (k : Nat) (w : World) (h : WAt 54 w b v bs) (hk : k ≤ 8) (hb : bs.length + k ≤ 140737488355328) :
    Calls Try.prog 38 #[.pointer (some ⟨b, 0, none⟩), .int .u64 n, .int .i64 k] w fun e w' => e = .returned (.tuple #[]) ∧ ∃ v', WStep 54 b w v w' v' (bs ++ be n k) := by
  obtain ⟨i0, hi, hz0, hz1, hz2⟩ := info_parts Try.infoU8
  go_enter Try.func38, Try.ntmps38
  go_wp2
  go_loopw [6] (fun i w1 => ∃ (j : Nat) (done : List UInt8) (v1 : Value), j ≤ k ∧ i = .int .i64 (j - 1 : Int) ∧ done ++ be n j = be n k ∧ done.length + j = k ∧ WStep 54 b w v w1 v1 (bs ++ done)) (fun i _ => (intOf i + 1).toNat)
  case atStart => exact ⟨k, [], v, Nat.le_refl _, rfl, rfl, by simp, by simpa using WStep.refl h⟩
  case round =>
    obtain ⟨j, done, v1, hj, rfl, hd, hdl, hst⟩ := hrel
    have Hd := hide hd
    clear hd
    by_cases hlt : 0 < j
    · obtain ⟨m, rfl⟩ : ∃ m, j = m + 1 := ⟨j - 1, by omega⟩
      obtain ⟨acc, hacc⟩ : ∃ acc, acc = bs ++ done := ⟨_, rfl⟩
      rw [← hacc] at hst
      have hal : acc.length + (m + 1) = bs.length + k := by rw [hacc, List.length_append]; omega
      have Hacc := hide hacc
      clear hacc
      have h1 := hst.at'
      obtain ⟨ao, cap, rfl⟩ := h1.2.1.shape
      have hc : wr.cell? ⟨b, 0, none⟩ = some (.slice ao acc.length cap) := by rw [h1.1.cell]; rfl
      have hblt := h1.1.lt
      have h2 := h1.alloc (.cells #[.int .u8 ((n / 2 ^ (8 * m)) % 256)] 5)
      have hb2 : acc.length + [UInt8.ofNat ((n / 2 ^ (8 * m)) % 256).toNat].length ≤ 140737488355328 := by simp; omega
      have H2 := hide h2
      have Hst := hide hst
      clear h1 h2 hst
      go_wp2_with (at_builtin; refine wpList_append_sees _ rfl (.tmp 17) (.tmp 24) 25 rfl i0 Try.underlying25 hi hz0 hz1 hz2 _ acc rfl (unhide H2).2.1 _ [UInt8.ofNat ((n / 2 ^ (8 * m)) % 256).toNat] rfl (Sees.one _ _ _ (by omega) (by omega)) hb2 ?_)
      intro v' w' ho hg hkk
      have hst2 := ((unhide Hst).alloc _).trans (WStep.append (unhide H2) ho hg (by simpa using hkk))
      have hb0 := hg.block b (unhide H2).1.lt (fun e => (unhide H2).2.2 e.symm)
      have hc' : w'.cell? ⟨b, 0, none⟩ = some (.slice ao acc.length cap) := (World.cell?_of_block hb0).trans (by rw [(unhide H2).1.cell]; rfl)
      have hf' : w'.frozen? ⟨b, 0, none⟩ = false := (World.frozen?_of_block hb0).trans ((unhide H2).1.frozen 0)
      obtain ⟨ao', cap', rfl⟩ := ho.shape
      clear hb0 ho hg hkk hb2
      rw [List.length_append, List.length_singleton] at hst2
      go_wp2
      refine ⟨⟨m, done ++ [UInt8.ofNat ((n / 2 ^ (8 * m)) % 256).toNat], .slice ao' (acc.length + 1) cap', by omega, by go_num, by rw [← unhide Hd, be_step, List.append_assoc], by simp; omega, ?_⟩, by simp [intOf]⟩
      rw [← List.append_assoc, ← unhide Hacc]
      exact hst2
    · obtain rfl : j = 0 := by omega
      go_wp2
      go_end0
      have hd := unhide Hd
      simp only [be, List.append_nil] at hd
      exact ⟨rfl, v1, hd ▸ hst⟩

set_option maxHeartbeats 400000 in
set_option maxRecDepth 100000 in
theorem rw_u8 (b : Nat) (v : Value) (bs : List UInt8) (n : Int) (w : World) (h : WAt 54 w b v bs) (hb : bs.length + 1 ≤ 140737488355328) :
    Calls Try.prog 25 #[.pointer (some ⟨b, 0, none⟩), .int .i64 n] w fun e w' => e = .returned (.tuple #[]) ∧ ∃ v', WStep 54 b w v w' v' (bs ++ be n 1) := by
  have q := hide (rw_u b v bs (n % 18446744073709551616) 1 w h (by omega) hb)
  rw [be_mod n 1 (by omega)] at q
  go_enter Try.func25, Try.ntmps25
  go_wp2_with fail
  refine (unhide q).mono ?_
  rintro e w1 ⟨rfl, v1, hst⟩
  go_wp2
  go_end0
  exact ⟨rfl, v1, hst⟩

set_option maxHeartbeats 400000 in
set_option maxRecDepth 100000 in
theorem rw_u32 (b : Nat) (v : Value) (bs : List UInt8) (n : Int) (w : World) (h : WAt 54 w b v bs) (hb : bs.length + 4 ≤ 140737488355328) :
    Calls Try.prog 26 #[.pointer (some ⟨b, 0, none⟩), .int .i64 n] w fun e w' => e = .returned (.tuple #[]) ∧ ∃ v', WStep 54 b w v w' v' (bs ++ be n 4) := by
  have q := hide (rw_u b v bs (n % 18446744073709551616) 4 w h (by omega) hb)
  rw [be_mod n 4 (by omega)] at q
  go_enter Try.func26, Try.ntmps26
  go_wp2_with fail
  refine (unhide q).mono ?_
  rintro e w1 ⟨rfl, v1, hst⟩
  go_wp2
  go_end0
  exact ⟨rfl, v1, hst⟩

end Go.Proofs.Ytcojlmfdonbkmaa
