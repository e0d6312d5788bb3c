/- What the calls of package octet's Writer do to memory. -/
import Derived.Test.YthclffafbkeepaaInfo
import Derived.Test.YthclffafbkeepaaSt
namespace Go.Proofs.Ythclffafbkeepaa
open Go.RowKit

set_option maxHeartbeats 400000 in
set_option maxRecDepth 100000 in
theorem copied_any (v : Value) (bs : List UInt8) (w : World) (hs : Sees w v bs) (hb : bs.length ≤ 140737488355328) :
    Calls Try.prog 41 #[v] w fun e w' => ∃ v', e = .returned v' ∧ Owns w' v' bs ∧ w.grownBy w' none ∧ (v'.ownBlock = none ∨ v'.ownBlock = some w.heap.size) := by
  obtain ⟨i0, hi, hz0, hz1, hz2⟩ := info_parts Try.infoU8
  go_enter Try.func41, Try.ntmps41
  go_wp2_with (at_builtin; refine wpList_append_sees _ rfl (.const (.slice none 0 0)) (.tmp 3) 22 rfl i0 Try.underlying22 hi hz0 hz1 hz2 _ [] rfl (Owns.nil _) v bs rfl hs (by simpa using hb) ?_)
  intro v' w' ho hg hk
  go_wp2
  go_ret
  exact ⟨_, rfl, by simpa using ho, hg, hk⟩

set_option maxHeartbeats 400000 in
set_option maxRecDepth 100000 in
theorem raw_any (b : Nat) (v s : Value) (bs ds : List UInt8) (w : World) (h : WAt 64 w b v bs) (hs : Sees w s ds) (hb : bs.length + ds.length ≤ 140737488355328) :
    Calls Try.prog 40 #[.pointer (some ⟨b, 0, none⟩), s] w fun e w' => e = .returned (.tuple #[]) ∧ ∃ v', WStep 64 b w v w' v' (bs ++ ds) := by
  obtain ⟨i0, hi, hz0, hz1, hz2⟩ := info_parts Try.infoU8
  obtain ⟨ao, cap, rfl⟩ := h.2.1.shape
  have hc : w.cell? ⟨b, 0, none⟩ = some (.slice ao bs.length cap) := by rw [h.1.cell]; rfl
  have hlt := h.1.lt
  go_enter Try.func40, Try.ntmps40
  go_wp2_with (at_builtin; refine wpList_append_sees _ rfl (.tmp 10) (.tmp 11) 22 rfl i0 Try.underlying22 hi hz0 hz1 hz2 _ bs rfl h.2.1 s ds rfl hs hb ?_)
  intro v' w' ho hg hk
  have hst := WStep.append h ho hg hk
  have hb0 := hg.block b hlt (fun e => h.2.2 e.symm)
  have hc' : w'.cell? ⟨b, 0, none⟩ = some (.slice ao bs.length cap) := (World.cell?_of_block hb0).trans hc
  have hf' : w'.frozen? ⟨b, 0, none⟩ = false := (World.frozen?_of_block hb0).trans (h.1.frozen 0)
  obtain ⟨ao', cap', rfl⟩ := ho.shape
  clear hb0 ho hg hk
  rw [List.length_append] at hst
  go_wp2
  go_end0
  exact ⟨rfl, _, hst⟩

set_option maxHeartbeats 400000 in
set_option maxRecDepth 100000 in
theorem lay_any (b : Nat) (v : Value) (bs : List UInt8) (n : Int) (k : Nat) (w : World) (h : WAt 64 w b v bs) (hk : k ≤ 8) (hb : bs.length + k ≤ 140737488355328) :
    Calls Try.prog 39 #[.pointer (some ⟨b, 0, none⟩), .int .i64 n, .int .i64 k] w fun e w' => e = .returned (.tuple #[]) ∧ ∃ v', WStep 64 b w v w' v' (bs ++ be n k) := by
  go_enter Try.func39, Try.ntmps39
  go_wp2
  go_loopw [6] (fun i w1 => ∃ (j : Nat) (done : List UInt8) (v1 : Value), j ≤ k ∧ i = .int .i64 (8 * (j - 1 : Int)) ∧ done ++ be n j = be n k ∧ done.length + j = k ∧ WStep 64 b w v w1 v1 (bs ++ done)) (fun i _ => (intOf i + 8).toNat)
  case atStart => exact ⟨k, [], v, Nat.le_refl _, rfl, rfl, by simp, by simpa using WStep.refl h⟩
  case round =>
    obtain ⟨j, done, v1, hj, rfl, hd, hdl, hst⟩ := hrel
    have Hd := hide hd
    clear hd
    by_cases hlt : 0 < j
    · obtain ⟨m, rfl⟩ : ∃ m, j = m + 1 := ⟨j - 1, by omega⟩
      go_wp2_with fail
      refine (raw_any b v1 _ (bs ++ done) [UInt8.ofNat ((n / 2 ^ (8 * m)) % 256).toNat] _ (hst.at'.alloc _) (Sees.one _ _ _ (by omega) (by omega)) (by simp; omega)).mono ?_
      rintro e w2 ⟨rfl, v2, hst2⟩
      have hst3 := (hst.alloc _).trans hst2
      go_wp2
      go_roundw
      case rel => exact ⟨m, done ++ [UInt8.ofNat ((n / 2 ^ (8 * m)) % 256).toNat], v2, by omega, by go_num, by rw [← unhide Hd, be_step, List.append_assoc], by simp; omega, by rw [← List.append_assoc]; exact hst3⟩
      case measure => simp [intOf]; omega
    · obtain rfl : j = 0 := by omega
      go_wp2
      go_end0
      have hd := unhide Hd
      simp only [be, List.append_nil] at hd
      exact ⟨rfl, v1, hd ▸ hst⟩

set_option maxHeartbeats 400000 in
set_option maxRecDepth 100000 in
theorem newWriter_any (w : World) : Calls Try.prog 21 #[] w fun e w' => e = .returned (.pointer (some ⟨w.heap.size, 0, none⟩)) ∧ w' = w.alloc (.cells #[.slice none 0 0] 64) := by
  go_enter Try.func21, Try.ntmps21
  go_wp2
  go_ret
  exact ⟨rfl, rfl⟩

theorem WAt.new (T : TypeId) (w : World) : WAt T (w.alloc (.cells #[.slice none 0 0] T)) w.heap.size (.slice none 0 0) [] := ⟨At.new T w _, Owns.nil _, by simp [Value.ownBlock]⟩

set_option maxHeartbeats 400000 in
set_option maxRecDepth 100000 in
theorem u8_any (b : Nat) (v : Value) (bs : List UInt8) (n : Int) (w : World) (h : WAt 64 w b v bs) (hb : bs.length + 1 ≤ 140737488355328) :
    Calls Try.prog 24 #[.pointer (some ⟨b, 0, none⟩), .int .i64 n] w fun e w' => e = .returned (.tuple #[]) ∧ ∃ v', WStep 64 b w v w' v' (bs ++ be n 1) := by
  go_enter Try.func24, Try.ntmps24
  go_wp2_with fail
  refine (lay_any b v bs n 1 w h (by omega) hb).mono ?_
  rintro e w1 ⟨rfl, v1, hst⟩
  go_wp2
  go_end0
  exact ⟨rfl, v1, hst⟩

set_option maxHeartbeats 400000 in
set_option maxRecDepth 100000 in
theorem u16_any (b : Nat) (v : Value) (bs : List UInt8) (n : Int) (w : World) (h : WAt 64 w b v bs) (hb : bs.length + 2 ≤ 140737488355328) :
    Calls Try.prog 22 #[.pointer (some ⟨b, 0, none⟩), .int .i64 n] w fun e w' => e = .returned (.tuple #[]) ∧ ∃ v', WStep 64 b w v w' v' (bs ++ be n 2) := by
  go_enter Try.func22, Try.ntmps22
  go_wp2_with fail
  refine (lay_any b v bs n 2 w h (by omega) hb).mono ?_
  rintro e w1 ⟨rfl, v1, hst⟩
  go_wp2
  go_end0
  exact ⟨rfl, v1, hst⟩

set_option maxHeartbeats 400000 in
set_option maxRecDepth 100000 in
theorem u64_any (b : Nat) (v : Value) (bs : List UInt8) (n : Int) (w : World) (h : WAt 64 w b v bs) (hb : bs.length + 8 ≤ 140737488355328) :
    Calls Try.prog 23 #[.pointer (some ⟨b, 0, none⟩), .int .i64 n] w fun e w' => e = .returned (.tuple #[]) ∧ ∃ v', WStep 64 b w v w' v' (bs ++ be n 8) := by
  go_enter Try.func23, Try.ntmps23
  go_wp2_with fail
  refine (lay_any b v bs n 8 w h (by omega) hb).mono ?_
  rintro e w1 ⟨rfl, v1, hst⟩
  go_wp2
  go_end0
  exact ⟨rfl, v1, hst⟩

/-- A slice that lies apart from a Writer. -/
def Apart (b : Nat) (v s : Value) : Prop := ∀ k, slab s = some k → k ≠ b ∧ v.ownBlock ≠ some k

set_option maxHeartbeats 400000 in
set_option maxRecDepth 100000 in
theorem short_yes (b : Nat) (v s : Value) (bs ds : List UInt8) (w : World) (h : WAt 64 w b v bs) (hs : Sees w s ds) (hap : 0 < ds.length → Apart b v s) (hd : ds.length ≤ 65535) (hb : bs.length + 2 + ds.length ≤ 140737488355328) :
    Calls Try.prog 26 #[.pointer (some ⟨b, 0, none⟩), s] w fun e w' => e = .returned (.bool true) ∧ ∃ v', WStep 64 b w v w' v' (bs ++ sh ds) := by
  obtain ⟨ao, cap, rfl⟩ := hs.shape
  have hd' : ¬ ((65535 : Int) < (ds.length : Int)) := by omega
  go_enter Try.func26, Try.ntmps26
  go_wp2_with fail
  refine (u16_any b v bs ds.length w h (by omega)).mono ?_
  rintro e w1 ⟨rfl, v1, hst⟩
  have hs1 : Sees w1 (.slice ao ds.length cap) ds := hs.kept' hst.turn fun h0 k hk hS => hS.elim (hap h0 k hk).1 (hap h0 k hk).2
  go_wp2_with fail
  refine (raw_any b v1 _ (bs ++ be ds.length 2) ds w1 hst.at' hs1 (by simp [be_length]; omega)).mono ?_
  rintro e w2 ⟨rfl, v2, hst2⟩
  have hst3 := hst.trans hst2
  rw [List.append_assoc] at hst3
  go_wp2
  go_ret
  exact ⟨rfl, v2, hst3⟩

set_option maxHeartbeats 400000 in
set_option maxRecDepth 100000 in
theorem short_no (b : Nat) (s : Value) (ds : List UInt8) (w : World) (hs : Sees w s ds) (hd : 65535 < ds.length) :
    Calls Try.prog 26 #[.pointer (some ⟨b, 0, none⟩), s] w fun e w' => e = .returned (.bool false) ∧ w' = w := by
  obtain ⟨ao, cap, rfl⟩ := hs.shape
  have hd' : (65535 : Int) < (ds.length : Int) := by omega
  go_enter Try.func26, Try.ntmps26
  go_wp2
  go_ret
  exact ⟨rfl, rfl⟩

set_option maxHeartbeats 400000 in
set_option maxRecDepth 100000 in
theorem bytes_any (b : Nat) (v : Value) (bs : List UInt8) (w : World) (h : WAt 64 w b v bs) (hb : bs.length ≤ 140737488355328) :
    Calls Try.prog 28 #[.pointer (some ⟨b, 0, none⟩)] w fun e w' => ∃ v', e = .returned v' ∧ Owns w' v' bs ∧ w.grownBy w' none ∧ (v'.ownBlock = none ∨ v'.ownBlock = some w.heap.size) := by
  obtain ⟨ao, cap, rfl⟩ := h.2.1.shape
  have hc : w.cell? ⟨b, 0, none⟩ = some (.slice ao bs.length cap) := by rw [h.1.cell]; rfl
  go_enter Try.func28, Try.ntmps28
  go_wp2_with fail
  refine (copied_any _ bs w h.2.1.sees hb).mono ?_
  rintro e w1 ⟨v1, rfl, hq⟩
  go_wp2
  go_ret
  exact ⟨_, rfl, hq⟩

theorem text_length (s : ByteArray) : s.data.toList.length = s.size := Array.length_toList

/-- The bytes of a text, laid anew. -/
theorem Sees.text (w : World) (s : ByteArray) (cap lo hi : Nat) (T : TypeId) (hc : s.size ≤ cap) (hm : cap ≤ maxLen) : Sees (w.alloc (.cells (bytesRow s cap) T (lo, hi))) (.slice (some ⟨w.heap.size, 0, none⟩) s.size cap) s.data.toList := by
  refine .inr ⟨⟨w.heap.size, 0, none⟩, cap, by rw [text_length], by rw [text_length]; exact hc, hm, fun j u hj => ?_⟩
  rw [show (⟨w.heap.size, 0, none⟩ : Addr).add j = ⟨w.heap.size, j, none⟩ by unfold Addr.add; split <;> simp_all]
  rw [World.cell?_alloc_mark]
  have hlt : j < s.data.size := by
    have := (List.getElem?_eq_some_iff.1 hj).1
    simpa [u8s] using this
  rw [bytesRow_at s cap j hlt, ← hj]
  simp [u8s, Array.getElem?_eq_getElem hlt]

set_option maxHeartbeats 400000 in
set_option maxRecDepth 100000 in
theorem text_yes (b : Nat) (v : Value) (s : ByteArray) (bs : List UInt8) (w : World) (h : WAt 64 w b v bs) (hd : s.size ≤ 65535) (hb : bs.length + 2 + s.size ≤ 140737488355328) :
    Calls Try.prog 25 #[.pointer (some ⟨b, 0, none⟩), .string s] w fun e w' => e = .returned (.bool true) ∧ ∃ v', WStep 64 b w v w' v' (bs ++ sh s.data.toList) := by
  have kc := fun (w : World) (s : ByteArray) => run_bytes_of_string (P := Try.prog) w 9 22 5 s Try.underlying9 Try.underlying22 Try.underlying5
  have hcap := grownCap_ge w s.size 0 5
  have hcap2 := grownCap_le_maxLen w s.size 0 5 (by unfold maxLen; omega)
  have hlt := h.1.lt
  go_enter Try.func25, Try.ntmps25
  go_wp2_with fail
  refine (short_yes b v _ bs s.data.toList _ (h.alloc _).drew (Sees.text w s _ _ _ _ hcap hcap2).drew ?_ (by rw [text_length]; exact hd) (by rw [text_length]; exact hb)).mono ?_
  · intro _ k hk
    simp only [slab, Option.some.injEq] at hk
    subst hk
    exact ⟨by omega, fun e => by have := h.2.1.lt e; omega⟩
  rintro e w1 ⟨rfl, v1, hst⟩
  have hst1 : WStep 64 b w v w1 v1 (bs ++ sh s.data.toList) := ((WStep.refl h).alloc _).drew.trans hst
  go_wp2
  go_ret
  exact ⟨rfl, _, hst1⟩

set_option maxHeartbeats 400000 in
set_option maxRecDepth 100000 in
theorem text_no (b : Nat) (s : ByteArray) (w : World) (hd : 65535 < s.size) (hd2 : s.size ≤ maxLen) :
    Calls Try.prog 25 #[.pointer (some ⟨b, 0, none⟩), .string s] w fun e w' => e = .returned (.bool false) ∧ Turn (fun _ => False) w w' := by
  have kc := fun (w : World) (s : ByteArray) => run_bytes_of_string (P := Try.prog) w 9 22 5 s Try.underlying9 Try.underlying22 Try.underlying5
  have hcap := grownCap_ge w s.size 0 5
  have hcap2 := grownCap_le_maxLen w s.size 0 5 hd2
  go_enter Try.func25, Try.ntmps25
  go_wp2_with fail
  refine (short_no b _ s.data.toList _ (Sees.text w s _ _ _ _ hcap hcap2).drew (by rw [text_length]; exact hd)).mono ?_
  rintro e w1 ⟨rfl, rfl⟩
  go_wp2
  go_ret
  exact ⟨rfl, ((Turn.refl _ _).alloc _).drew⟩

end Go.Proofs.Ythclffafbkeepaa
