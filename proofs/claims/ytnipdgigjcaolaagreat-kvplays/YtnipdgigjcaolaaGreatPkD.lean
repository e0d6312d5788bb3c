/- What stands below the proof, in one text. -/
import Derived.Test.YtnipdgigjcaolaaGreatPkA
import Derived.Test.YtnipdgigjcaolaaGreatPkB
/- What the calls of package octet's Writer do to memory. -/
namespace Go.Proofs.YtnipdgigjcaolaaGreat
open Go.RowKit

set_option maxHeartbeats 400000 in
set_option maxRecDepth 100000 in
theorem copied_any (v : Value) (bs : List UInt8) (w : World) (hs : Sees w v bs) (hb : bs.length ≤ 140737488355328) :
    Calls Tryz.prog 121 #[v] w fun e w' => ∃ v', e = .returned v' ∧ Owns w' v' bs ∧ w.grownBy w' none ∧ (v'.ownBlock = none ∨ v'.ownBlock = some w.heap.size) := by
  obtain ⟨i0, hi, hz0, hz1, hz2⟩ := info_parts Tryz.infoU8
  go_enter Tryz.func121, Tryz.ntmps121
  go_wp2_with (at_builtin; refine wpList_append_sees _ rfl (.const (.slice none 0 0)) (.tmp 3) 29 rfl i0 Tryz.underlying29 hi hz0 hz1 hz2 _ [] rfl (Owns.nil _) v bs rfl hs (by simpa using hb) ?_)
  intro v' w' ho hg hk
  go_wp2
  go_ret
  exact ⟨_, rfl, by simpa using ho, hg, hk⟩

set_option maxHeartbeats 400000 in
set_option maxRecDepth 100000 in
theorem raw_any (b : Nat) (v s : Value) (bs ds : List UInt8) (w : World) (h : WAt 178 w b v bs) (hs : Sees w s ds) (hb : bs.length + ds.length ≤ 140737488355328) :
    Calls Tryz.prog 120 #[.pointer (some ⟨b, 0, none⟩), s] w fun e w' => e = .returned (.tuple #[]) ∧ ∃ v', WStep 178 b w v w' v' (bs ++ ds) := by
  obtain ⟨i0, hi, hz0, hz1, hz2⟩ := info_parts Tryz.infoU8
  obtain ⟨ao, cap, rfl⟩ := h.2.1.shape
  have hc : w.cell? ⟨b, 0, none⟩ = some (.slice ao bs.length cap) := by rw [h.1.cell]; rfl
  have hlt := h.1.lt
  go_enter Tryz.func120, Tryz.ntmps120
  go_wp2_with (at_builtin; refine wpList_append_sees _ rfl (.tmp 10) (.tmp 11) 29 rfl i0 Tryz.underlying29 hi hz0 hz1 hz2 _ bs rfl h.2.1 s ds rfl hs hb ?_)
  intro v' w' ho hg hk
  have hst := WStep.append h ho hg hk
  have hb0 := hg.block b hlt (fun e => h.2.2 e.symm)
  have hc' : w'.cell? ⟨b, 0, none⟩ = some (.slice ao bs.length cap) := (World.cell?_of_block hb0).trans hc
  have hf' : w'.frozen? ⟨b, 0, none⟩ = false := (World.frozen?_of_block hb0).trans (h.1.frozen 0)
  obtain ⟨ao', cap', rfl⟩ := ho.shape
  clear hb0 ho hg hk
  rw [List.length_append] at hst
  go_wp2
  go_end0
  exact ⟨rfl, _, hst⟩

set_option maxHeartbeats 400000 in
set_option maxRecDepth 100000 in
theorem lay_any (b : Nat) (v : Value) (bs : List UInt8) (n : Int) (k : Nat) (w : World) (h : WAt 178 w b v bs) (hk : k ≤ 8) (hb : bs.length + k ≤ 140737488355328) :
    Calls Tryz.prog 118 #[.pointer (some ⟨b, 0, none⟩), .int .i64 n, .int .i64 k] w fun e w' => e = .returned (.tuple #[]) ∧ ∃ v', WStep 178 b w v w' v' (bs ++ be n k) := by
  go_enter Tryz.func118, Tryz.ntmps118
  go_wp2
  go_loopw [6] (fun i w1 => ∃ (j : Nat) (done : List UInt8) (v1 : Value), j ≤ k ∧ i = .int .i64 (8 * (j - 1 : Int)) ∧ done ++ be n j = be n k ∧ done.length + j = k ∧ WStep 178 b w v w1 v1 (bs ++ done)) (fun i _ => (intOf i + 8).toNat)
  case atStart => exact ⟨k, [], v, Nat.le_refl _, rfl, rfl, by simp, by simpa using WStep.refl h⟩
  case round =>
    obtain ⟨j, done, v1, hj, rfl, hd, hdl, hst⟩ := hrel
    have Hd := hide hd
    clear hd
    by_cases hlt : 0 < j
    · obtain ⟨m, rfl⟩ : ∃ m, j = m + 1 := ⟨j - 1, by omega⟩
      go_wp2_with fail
      refine (raw_any b v1 _ (bs ++ done) [UInt8.ofNat ((n / 2 ^ (8 * m)) % 256).toNat] _ (hst.at'.alloc _) (Sees.one _ _ _ (by omega) (by omega)) (by simp; omega)).mono ?_
      rintro e w2 ⟨rfl, v2, hst2⟩
      have hst3 := (hst.alloc _).trans hst2
      go_wp2
      go_roundw
      case rel => exact ⟨m, done ++ [UInt8.ofNat ((n / 2 ^ (8 * m)) % 256).toNat], v2, by omega, by go_num, by rw [← unhide Hd, be_step, List.append_assoc], by simp; omega, by rw [← List.append_assoc]; exact hst3⟩
      case measure => simp [intOf]; omega
    · obtain rfl : j = 0 := by omega
      go_wp2
      go_end0
      have hd := unhide Hd
      simp only [be, List.append_nil] at hd
      exact ⟨rfl, v1, hd ▸ hst⟩

set_option maxHeartbeats 400000 in
set_option maxRecDepth 100000 in
theorem newWriter_any (w : World) : Calls Tryz.prog 77 #[] w fun e w' => e = .returned (.pointer (some ⟨w.heap.size, 0, none⟩)) ∧ w' = w.alloc (.cells #[.slice none 0 0] 178) := by
  go_enter Tryz.func77, Tryz.ntmps77
  go_wp2
  go_ret
  exact ⟨rfl, rfl⟩

theorem WAt.new (T : TypeId) (w : World) : WAt T (w.alloc (.cells #[.slice none 0 0] T)) w.heap.size (.slice none 0 0) [] := ⟨At.new T w _, Owns.nil _, by simp [Value.ownBlock]⟩

set_option maxHeartbeats 400000 in
set_option maxRecDepth 100000 in
theorem u8_any (b : Nat) (v : Value) (bs : List UInt8) (n : Int) (w : World) (h : WAt 178 w b v bs) (hb : bs.length + 1 ≤ 140737488355328) :
    Calls Tryz.prog 78 #[.pointer (some ⟨b, 0, none⟩), .int .i64 n] w fun e w' => e = .returned (.tuple #[]) ∧ ∃ v', WStep 178 b w v w' v' (bs ++ be n 1) := by
  go_enter Tryz.func78, Tryz.ntmps78
  go_wp2_with fail
  refine (lay_any b v bs n 1 w h (by omega) hb).mono ?_
  rintro e w1 ⟨rfl, v1, hst⟩
  go_wp2
  go_end0
  exact ⟨rfl, v1, hst⟩

set_option maxHeartbeats 400000 in
set_option maxRecDepth 100000 in
theorem u16_any (b : Nat) (v : Value) (bs : List UInt8) (n : Int) (w : World) (h : WAt 178 w b v bs) (hb : bs.length + 2 ≤ 140737488355328) :
    Calls Tryz.prog 119 #[.pointer (some ⟨b, 0, none⟩), .int .i64 n] w fun e w' => e = .returned (.tuple #[]) ∧ ∃ v', WStep 178 b w v w' v' (bs ++ be n 2) := by
  go_enter Tryz.func119, Tryz.ntmps119
  go_wp2_with fail
  refine (lay_any b v bs n 2 w h (by omega) hb).mono ?_
  rintro e w1 ⟨rfl, v1, hst⟩
  go_wp2
  go_end0
  exact ⟨rfl, v1, hst⟩

/-- A slice that lies apart from a Writer. -/
def Apart (b : Nat) (v s : Value) : Prop := ∀ k, slab s = some k → k ≠ b ∧ v.ownBlock ≠ some k

set_option maxHeartbeats 400000 in
set_option maxRecDepth 100000 in
theorem short_yes (b : Nat) (v s : Value) (bs ds : List UInt8) (w : World) (h : WAt 178 w b v bs) (hs : Sees w s ds) (hap : 0 < ds.length → Apart b v s) (hd : ds.length ≤ 65535) (hb : bs.length + 2 + ds.length ≤ 140737488355328) :
    Calls Tryz.prog 80 #[.pointer (some ⟨b, 0, none⟩), s] w fun e w' => e = .returned (.bool true) ∧ ∃ v', WStep 178 b w v w' v' (bs ++ sh ds) := by
  obtain ⟨ao, cap, rfl⟩ := hs.shape
  have hd' : ¬ ((65535 : Int) < (ds.length : Int)) := by omega
  go_enter Tryz.func80, Tryz.ntmps80
  go_wp2_with fail
  refine (u16_any b v bs ds.length w h (by omega)).mono ?_
  rintro e w1 ⟨rfl, v1, hst⟩
  have hs1 : Sees w1 (.slice ao ds.length cap) ds := hs.kept' hst.turn fun h0 k hk hS => hS.elim (hap h0 k hk).1 (hap h0 k hk).2
  go_wp2_with fail
  refine (raw_any b v1 _ (bs ++ be ds.length 2) ds w1 hst.at' hs1 (by simp [be_length]; omega)).mono ?_
  rintro e w2 ⟨rfl, v2, hst2⟩
  have hst3 := hst.trans hst2
  rw [List.append_assoc] at hst3
  go_wp2
  go_ret
  exact ⟨rfl, v2, hst3⟩

set_option maxHeartbeats 400000 in
set_option maxRecDepth 100000 in
theorem short_no (b : Nat) (s : Value) (ds : List UInt8) (w : World) (hs : Sees w s ds) (hd : 65535 < ds.length) :
    Calls Tryz.prog 80 #[.pointer (some ⟨b, 0, none⟩), s] w fun e w' => e = .returned (.bool false) ∧ w' = w := by
  obtain ⟨ao, cap, rfl⟩ := hs.shape
  have hd' : (65535 : Int) < (ds.length : Int) := by omega
  go_enter Tryz.func80, Tryz.ntmps80
  go_wp2
  go_ret
  exact ⟨rfl, rfl⟩

set_option maxHeartbeats 400000 in
set_option maxRecDepth 100000 in
theorem bytes_any (b : Nat) (v : Value) (bs : List UInt8) (w : World) (h : WAt 178 w b v bs) (hb : bs.length ≤ 140737488355328) :
    Calls Tryz.prog 81 #[.pointer (some ⟨b, 0, none⟩)] w fun e w' => ∃ v', e = .returned v' ∧ Owns w' v' bs ∧ w.grownBy w' none ∧ (v'.ownBlock = none ∨ v'.ownBlock = some w.heap.size) := by
  obtain ⟨ao, cap, rfl⟩ := h.2.1.shape
  have hc : w.cell? ⟨b, 0, none⟩ = some (.slice ao bs.length cap) := by rw [h.1.cell]; rfl
  go_enter Tryz.func81, Tryz.ntmps81
  go_wp2_with fail
  refine (copied_any _ bs w h.2.1.sees hb).mono ?_
  rintro e w1 ⟨v1, rfl, hq⟩
  go_wp2
  go_ret
  exact ⟨_, rfl, hq⟩

theorem text_length (s : ByteArray) : s.data.toList.length = s.size := Array.length_toList

/-- The bytes of a text, laid anew. -/
theorem Sees.text (w : World) (s : ByteArray) (cap lo hi : Nat) (T : TypeId) (hc : s.size ≤ cap) (hm : cap ≤ maxLen) : Sees (w.alloc (.cells (bytesRow s cap) T (lo, hi))) (.slice (some ⟨w.heap.size, 0, none⟩) s.size cap) s.data.toList := by
  refine .inr ⟨⟨w.heap.size, 0, none⟩, cap, by rw [text_length], by rw [text_length]; exact hc, hm, fun j u hj => ?_⟩
  rw [show (⟨w.heap.size, 0, none⟩ : Addr).add j = ⟨w.heap.size, j, none⟩ by unfold Addr.add; split <;> simp_all]
  rw [World.cell?_alloc_mark]
  have hlt : j < s.data.size := by
    have := (List.getElem?_eq_some_iff.1 hj).1
    simpa [u8s] using this
  rw [bytesRow_at s cap j hlt, ← hj]
  simp [u8s, Array.getElem?_eq_getElem hlt]

set_option maxHeartbeats 400000 in
set_option maxRecDepth 100000 in
theorem text_yes (b : Nat) (v : Value) (s : ByteArray) (bs : List UInt8) (w : World) (h : WAt 178 w b v bs) (hd : s.size ≤ 65535) (hb : bs.length + 2 + s.size ≤ 140737488355328) :
    Calls Tryz.prog 79 #[.pointer (some ⟨b, 0, none⟩), .string s] w fun e w' => e = .returned (.bool true) ∧ ∃ v', WStep 178 b w v w' v' (bs ++ sh s.data.toList) := by
  have kc := fun (w : World) (s : ByteArray) => run_bytes_of_string (P := Tryz.prog) w 9 29 5 s Tryz.underlying9 Tryz.underlying29 Tryz.underlying5
  have hcap := grownCap_ge w s.size 0 5
  have hcap2 := grownCap_le_maxLen w s.size 0 5 (by unfold maxLen; omega)
  have hlt := h.1.lt
  go_enter Tryz.func79, Tryz.ntmps79
  go_wp2_with fail
  refine (short_yes b v _ bs s.data.toList _ (h.alloc _).drew (Sees.text w s _ _ _ _ hcap hcap2).drew ?_ (by rw [text_length]; exact hd) (by rw [text_length]; exact hb)).mono ?_
  · intro _ k hk
    simp only [slab, Option.some.injEq] at hk
    subst hk
    exact ⟨by omega, fun e => by have := h.2.1.lt e; omega⟩
  rintro e w1 ⟨rfl, v1, hst⟩
  have hst1 : WStep 178 b w v w1 v1 (bs ++ sh s.data.toList) := ((WStep.refl h).alloc _).drew.trans hst
  go_wp2
  go_ret
  exact ⟨rfl, _, hst1⟩

set_option maxHeartbeats 400000 in
set_option maxRecDepth 100000 in
theorem text_no (b : Nat) (s : ByteArray) (w : World) (hd : 65535 < s.size) (hd2 : s.size ≤ maxLen) :
    Calls Tryz.prog 79 #[.pointer (some ⟨b, 0, none⟩), .string s] w fun e w' => e = .returned (.bool false) ∧ Turn (fun _ => False) w w' := by
  have kc := fun (w : World) (s : ByteArray) => run_bytes_of_string (P := Tryz.prog) w 9 29 5 s Tryz.underlying9 Tryz.underlying29 Tryz.underlying5
  have hcap := grownCap_ge w s.size 0 5
  have hcap2 := grownCap_le_maxLen w s.size 0 5 hd2
  go_enter Tryz.func79, Tryz.ntmps79
  go_wp2_with fail
  refine (short_no b _ s.data.toList _ (Sees.text w s _ _ _ _ hcap hcap2).drew (by rw [text_length]; exact hd)).mono ?_
  rintro e w1 ⟨rfl, rfl⟩
  go_wp2
  go_ret
  exact ⟨rfl, ((Turn.refl _ _).alloc _).drew⟩

end Go.Proofs.YtnipdgigjcaolaaGreat

/- What the calls of package octet's Reader do to memory. -/
namespace Go.Proofs.YtnipdgigjcaolaaGreat
open Go.RowKit

theorem take_fin {T : TypeId} {b : Nat} {w : World} {a : Addr} {cap : Nat} {bs : List UInt8} {lack : Bool} (h : RAt T w b (.slice (some a) bs.length cap) bs lack) (n : Nat) (hn : n ≤ bs.length) (a2 : Addr) (h2 : a2 = a.add n ∨ n = cap) (hb : a2.block = a.block) :
    Sees (w.setCell ⟨b, 0, none⟩ (.slice (some a2) (bs.length - n) (cap - n))) (.slice (some a) n cap) (bs.take n) ∧ RAt T (w.setCell ⟨b, 0, none⟩ (.slice (some a2) (bs.length - n) (cap - n))) b (.slice (some a2) (bs.length - n) (cap - n)) (bs.drop n) lack ∧
      Turn (fun k => k = b) w (w.setCell ⟨b, 0, none⟩ (.slice (some a2) (bs.length - n) (cap - n))) := by
  have hs := h.2.1.behind n hn a2 h2
  have hne : a.block ≠ b := fun e => h.2.2 (by simp [slab, e])
  obtain ⟨h1, ht⟩ := h.set hs (by simp only [slab, hb]; intro e; injection e with e; exact hne e)
  refine ⟨(h.2.1.front n hn).kept ht (fun k hk e => ?_), h1, ht⟩
  simp only [slab, Option.some.injEq] at hk
  exact hne (hk.trans e)

/-- A Reader in memory. -/
def RIs (T : TypeId) (w : World) (b : Nat) (v : Value) (s : St) : Prop := RAt T w b v s.bs s.lack

/-- What was taken: fv shows it, the Reader has what is behind it. -/
def Took (T : TypeId) (w : World) (b : Nat) (v : Value) (r : List UInt8 × St) (fv : Value) (w' : World) : Prop :=
  Sees w' fv r.1 ∧ (∀ k, slab fv = some k → slab v = some k) ∧ ∃ v', RStep T b w v w' v' r.2.bs r.2.lack

/-- The Reader has s now. -/
def Now (T : TypeId) (w : World) (b : Nat) (v : Value) (s : St) (w' : World) : Prop := ∃ v', RStep T b w v w' v' s.bs s.lack

set_option maxHeartbeats 400000 in
set_option maxRecDepth 100000 in
theorem take_yes (b : Nat) (v : Value) (s : St) (n : Nat) (w : World) (h : RIs 180 w b v s) (hn : n ≤ s.bs.length) :
    Calls Tryz.prog 123 #[.pointer (some ⟨b, 0, none⟩), .int .i64 n] w fun e w' => ∃ fv, e = .returned fv ∧ Took 180 w b v (s.take n) fv w' := by
  rw [s.take_yes n (by omega) (by omega), Int.toNat_natCast]
  obtain ⟨bs, lack⟩ := s
  have hlen := h.2.1.len
  unfold maxLen at hlen
  have hlt := h.1.lt
  have f0 := h.1.frozen 0
  have h2 := h.2.1
  simp only at hn h2 hlen
  rcases h2 with ⟨rfl, rfl⟩ | ⟨a, cap, rfl, hc, hm, hcell⟩
  · obtain rfl : n = 0 := by simpa using hn
    have c0 : w.cell? ⟨b, 0, none⟩ = some (.slice none 0 0) := by rw [h.1.cell]; rfl
    have hset := RAt.set h (Sees.nil w) (by simp [slab])
    go_enter Tryz.func123, Tryz.ntmps123
    go_wp2
    go_ret
    exact ⟨_, rfl, Sees.nil _, fun _ h => h, _, hset.1, hset.2, fun _ h => h⟩
  · have c0 : w.cell? ⟨b, 0, none⟩ = some (.slice (some a) bs.length cap) := by rw [h.1.cell]; rfl
    have h' : RAt 180 w b (.slice (some a) bs.length cap) bs lack := h
    clear hcell h
    go_enter Tryz.func123, Tryz.ntmps123
    go_wp2
    · go_ret
      have hf := take_fin h' n hn a (.inr (Eq.symm ‹cap = n›)) rfl
      obtain rfl := ‹cap = n›
      simp only [Nat.sub_self] at hf
      exact ⟨_, rfl, hf.1, fun _ h => h, _, hf.2.1, hf.2.2, fun _ h => h⟩
    · go_ret
      have hf := take_fin h' n hn (a.add n) (.inl rfl) (addr_add_block _ _)
      exact ⟨_, rfl, hf.1, fun _ h => h, _, hf.2.1, hf.2.2, by simp [slab, addr_add_block]⟩

set_option maxHeartbeats 400000 in
set_option maxRecDepth 100000 in
theorem take_no (b : Nat) (v : Value) (s : St) (n : Int) (w : World) (h : RIs 180 w b v s) (hn : n < 0 ∨ (s.bs.length : Int) < n) :
    Calls Tryz.prog 123 #[.pointer (some ⟨b, 0, none⟩), .int .i64 n] w fun e w' => ∃ fv, e = .returned fv ∧ Took 180 w b v (s.take n) fv w' := by
  rw [s.take_no n hn]
  obtain ⟨bs, lack⟩ := s
  have hlt := h.1.lt
  have f0 := h.1.frozen 0
  have f1 := h.1.frozen 1
  obtain ⟨ao, cap, rfl⟩ := h.2.1.shape
  have c0 : w.cell? ⟨b, 0, none⟩ = some (.slice ao bs.length cap) := by rw [h.1.cell]; rfl
  have c1 : w.cell? ⟨b, 1, none⟩ = some (.bool lack) := by rw [h.1.cell]; rfl
  have hl := RAt.lacks h
  have hb0 : 0 ≤ (bs.length : Int) := by omega
  simp only at hn
  by_cases h0 : n < 0
  · go_enter Tryz.func123, Tryz.ntmps123
    go_wp2
    go_ret
    exact ⟨_, rfl, Sees.nil _, fun _ h => by simp [slab] at h, _, hl.1, hl.2, fun _ h => by simp [slab] at h⟩
  · have h1 : (bs.length : Int) < n := by omega
    go_enter Tryz.func123, Tryz.ntmps123
    go_wp2
    go_ret
    exact ⟨_, rfl, Sees.nil _, fun _ h => by simp [slab] at h, _, hl.1, hl.2, fun _ h => by simp [slab] at h⟩

theorem take_any (b : Nat) (v : Value) (s : St) (n : Int) (w : World) (h : RIs 180 w b v s) :
    Calls Tryz.prog 123 #[.pointer (some ⟨b, 0, none⟩), .int .i64 n] w fun e w' => ∃ fv, e = .returned fv ∧ Took 180 w b v (s.take n) fv w' := by
  by_cases hn : n < 0 ∨ (s.bs.length : Int) < n
  · exact take_no b v s n w h hn
  · obtain ⟨k, rfl⟩ := Int.eq_ofNat_of_zero_le (show 0 ≤ n by omega)
    exact take_yes b v s k w h (by omega)

set_option maxHeartbeats 400000 in
set_option maxRecDepth 100000 in
theorem number_any (b : Nat) (v : Value) (s : St) (n : Nat) (w : World) (h : RIs 180 w b v s) (hn : n ≤ 8) :
    Calls Tryz.prog 122 #[.pointer (some ⟨b, 0, none⟩), .int .i64 n] w fun e w' => e = .returned (.int .i64 (num (s.take n).1)) ∧ Now 180 w b v (s.take n).2 w' := by
  have hl8 := s.take_len n
  have htk := hide (take_any b v s n w h)
  generalize s.take n = r at *
  obtain ⟨fr, st⟩ := r
  simp only at hl8 ⊢
  have hl : fr.length ≤ 8 := by omega
  clear hl8 h
  go_enter Tryz.func122, Tryz.ntmps122
  go_wp2_with fail
  refine (unhide htk).mono ?_
  clear htk
  rintro e w1 ⟨fv, rfl, hs, _, hr⟩
  simp only at hs hr
  rcases hs with ⟨rfl, rfl⟩ | ⟨a, cap, rfl, hc, hm, hcell⟩
  · go_wp2
    go_loop [5, 12] (fun x i => i = .int .i64 0 ∧ x = .int .i64 0) (fun _ _ => 0)
    case atStart => exact ⟨rfl, rfl⟩
    case round =>
      obtain ⟨rfl, rfl⟩ := hrel
      go_wp2
      go_ret
      exact ⟨rfl, hr⟩
  · have hcell' : ∀ k, (hk : k < fr.length) → w1.cell? (a.add k) = some (.int .u8 ((fr[k]).toNat : Int)) := fun k hk => hcell k _ (by simp [u8s, hk])
    clear hcell
    go_wp2
    go_loop [5, 12] (fun x i => ∃ k : Nat, k ≤ fr.length ∧ i = .int .i64 k ∧ x = .int .i64 (num (fr.take k))) (fun _ i => fr.length - (intOf i).toNat)
    case atStart => exact ⟨0, Nat.zero_le _, rfl, rfl⟩
    case round =>
      obtain ⟨k, hk, rfl, rfl⟩ := hrel
      by_cases hlt : k < fr.length
      · have c0 := hcell' k hlt
        have hsn : Hid (num (fr.take (k + 1)) = numStep (num (fr.take k)) fr[k]) := by
          unfold Hid
          rw [List.take_succ_eq_append_getElem hlt, num_snoc]
        clear hcell'
        go_wp2
        exact ⟨⟨k + 1, by omega, by go_num, by rw [unhide hsn]; rfl⟩, by simp [intOf]; omega⟩
      · go_wp2
        go_ret
        obtain rfl : k = fr.length := by omega
        exact ⟨by rw [List.take_length]; rfl, hr⟩

set_option maxHeartbeats 400000 in
set_option maxRecDepth 100000 in
theorem ru8_any (b : Nat) (v : Value) (s : St) (w : World) (h : RIs 180 w b v s) :
    Calls Tryz.prog 83 #[.pointer (some ⟨b, 0, none⟩)] w fun e w' => e = .returned (.int .i64 (num (s.take 1).1)) ∧ Now 180 w b v (s.take 1).2 w' := by
  have hq := hide (number_any b v s 1 w h (by omega))
  go_enter Tryz.func83, Tryz.ntmps83
  go_wp2_with fail
  refine (unhide hq).mono ?_
  clear hq
  rintro e w1 ⟨rfl, hr⟩
  go_wp2
  go_ret
  exact ⟨rfl, hr⟩

set_option maxHeartbeats 400000 in
set_option maxRecDepth 100000 in
theorem ru16_any (b : Nat) (v : Value) (s : St) (w : World) (h : RIs 180 w b v s) :
    Calls Tryz.prog 124 #[.pointer (some ⟨b, 0, none⟩)] w fun e w' => e = .returned (.int .i64 (num (s.take 2).1)) ∧ Now 180 w b v (s.take 2).2 w' := by
  have hq := hide (number_any b v s 2 w h (by omega))
  go_enter Tryz.func124, Tryz.ntmps124
  go_wp2_with fail
  refine (unhide hq).mono ?_
  clear hq
  rintro e w1 ⟨rfl, hr⟩
  go_wp2
  go_ret
  exact ⟨rfl, hr⟩

/-- A slice of one's own in new memory; the Reader has s now. -/
def Gave (T : TypeId) (w : World) (b : Nat) (v : Value) (r : List UInt8 × St) (fv : Value) (w' : World) : Prop :=
  Owns w' fv r.1 ∧ (∀ k, fv.ownBlock = some k → w.heap.size ≤ k) ∧ Now T w b v r.2 w'

theorem Took.copied {T : TypeId} {w : World} {b : Nat} {v : Value} {r : List UInt8 × St} {fv : Value} {w1 : World} (h : Took T w b v r fv w1) {fv' : Value} {w2 : World} (ho : Owns w2 fv' r.1) (hg : w1.grownBy w2 none) (hk : fv'.ownBlock = none ∨ fv'.ownBlock = some w1.heap.size) : Gave T w b v r fv' w2 := by
  obtain ⟨_, _, v', hst⟩ := h
  refine ⟨ho, fun k e => ?_, v', hst.grown (turn_of_grown hg)⟩
  rcases hk with hk | hk
  · rw [hk] at e; cases e
  · rw [hk] at e
    injection e with e
    have := hst.turn.size
    omega

set_option maxHeartbeats 400000 in
set_option maxRecDepth 100000 in
theorem rshort_any (b : Nat) (v : Value) (s : St) (w : World) (h : RIs 180 w b v s) (hb : s.bs.length ≤ 140737488355328) :
    Calls Tryz.prog 85 #[.pointer (some ⟨b, 0, none⟩)] w fun e w' => ∃ fv, e = .returned fv ∧ Gave 180 w b v s.short fv w' := by
  have hq := hide (ru16_any b v s w h)
  have hle := s.take_rest 2
  unfold St.short
  generalize s.take 2 = r at *
  go_enter Tryz.func85, Tryz.ntmps85
  go_wp2_with fail
  refine (unhide hq).mono ?_
  clear hq
  rintro e w1 ⟨rfl, v1, hr⟩
  have hq2 := hide (take_any b v1 r.2 (num r.1) w1 hr.at')
  have hle2 := r.2.take_le (num r.1)
  go_wp2_with fail
  refine (unhide hq2).mono ?_
  clear hq2
  rintro e w2 ⟨fv, rfl, hr2⟩
  go_wp2_with fail
  refine (copied_any fv _ w2 hr2.1 (by omega)).mono ?_
  rintro e w3 ⟨fv', rfl, ho, hg, hk⟩
  have hgv := hr2.copied ho hg hk
  have hgv' : Gave 180 w b v (r.2.take (num r.1)) fv' w3 := by
    obtain ⟨h1, h2, v', h3⟩ := hgv
    exact ⟨h1, fun k hk => Nat.le_trans hr.turn.size (h2 k hk), v', hr.trans h3⟩
  clear hgv hr2
  go_wp2
  go_ret
  exact ⟨_, rfl, hgv'⟩

set_option maxHeartbeats 400000 in
set_option maxRecDepth 100000 in
theorem rtext_any (b : Nat) (v : Value) (s : St) (w : World) (h : RIs 180 w b v s) :
    Calls Tryz.prog 84 #[.pointer (some ⟨b, 0, none⟩)] w fun e w' => e = .returned (.string ⟨s.short.1.toArray⟩) ∧ Now 180 w b v s.short.2 w' := by
  have hq := hide (ru16_any b v s w h)
  unfold St.short
  generalize s.take 2 = r at *
  go_enter Tryz.func84, Tryz.ntmps84
  go_wp2_with fail
  refine (unhide hq).mono ?_
  clear hq
  rintro e w1 ⟨rfl, v1, hr⟩
  have hq2 := hide (take_any b v1 r.2 (num r.1) w1 hr.at')
  go_wp2_with fail
  refine (unhide hq2).mono ?_
  clear hq2
  rintro e w2 ⟨fv, rfl, hr2⟩
  have hconv := run_text_of_sees (P := Tryz.prog) w2 29 9 Tryz.underlying29 Tryz.underlying5 Tryz.underlying9 hr2.1
  have hnow : Now 180 w b v (r.2.take (num r.1)).2 w2 := by
    obtain ⟨_, _, v', h3⟩ := hr2
    exact ⟨v', hr.trans h3⟩
  clear hr2
  go_wp2
  go_ret
  exact ⟨rfl, hnow⟩

/-- A new Reader: its block b is new, and so are its bytes. -/
def Fresh (T : TypeId) (w : World) (bs : List UInt8) (b : Nat) (w' : World) : Prop :=
  ∃ v, RIs T w' b v ⟨bs, false⟩ ∧ w.heap.size ≤ b ∧ (∀ k, slab v = some k → w.heap.size ≤ k ∧ k < w'.heap.size) ∧ Turn (fun _ => False) w w'

set_option maxHeartbeats 400000 in
set_option maxRecDepth 100000 in
theorem newReader_any (v : Value) (bs : List UInt8) (w : World) (hs : Sees w v bs) (hb : bs.length ≤ 140737488355328) :
    Calls Tryz.prog 82 #[v] w fun e w' => ∃ b, e = .returned (.pointer (some ⟨b, 0, none⟩)) ∧ Fresh 180 w bs b w' := by
  go_enter Tryz.func82, Tryz.ntmps82
  go_wp2_with fail
  refine (copied_any v bs w hs hb).mono ?_
  rintro e w1 ⟨fv, rfl, ho, hg, hk⟩
  have hfr : Fresh 180 w bs w1.heap.size (w1.alloc (.cells #[fv, .bool false] 180)) := by
    have hsz := hg.size
    have hne : slab fv ≠ some w1.heap.size := by
      rw [ho.slab_eq]
      intro e
      have := ho.lt e
      omega
    refine ⟨fv, ⟨At.new _ w1 _, ho.sees.kept ((Turn.refl (fun _ => False) _).alloc _) (fun _ _ h => h), hne⟩, hsz, fun k e => ?_, (turn_of_grown hg).alloc _⟩
    rw [ho.slab_eq] at e
    have hlt := ho.lt e
    rcases hk with hk | hk
    · rw [hk] at e; cases e
    · rw [hk] at e; injection e with e; simp; omega
  obtain ⟨ao, cap, rfl⟩ := ho.shape
  clear ho hg hk
  go_wp2
  go_ret
  exact ⟨_, rfl, hfr⟩

end Go.Proofs.YtnipdgigjcaolaaGreat

/- What the calls of the reference's Reader do to memory. -/
namespace Go.Proofs.YtnipdgigjcaolaaGreat
open Go.RowKit

/-- What lacks has nothing left. -/
def St.ok (s : St) : Prop := s.lack = true → s.bs = []

theorem St.ok_take (s : St) (h : s.ok) (n : Int) : (s.take n).2.ok := by
  unfold St.take
  split
  · intro _; rfl
  · intro hl
    have := h hl
    simp [this]

theorem St.ok_short (s : St) (h : s.ok) : s.short.2.ok := St.ok_take _ (St.ok_take _ h _) _

theorem Made.gave {T : TypeId} {w : World} {b : Nat} {v : Value} {r : List UInt8 × St} {fv : Value} {w1 w2 : World} (hm : Made w fv r.1 w1) (hsz : b < w.heap.size) {v' : Value} (hst : RStep T b w1 v w2 v' r.2.bs r.2.lack) : Gave T w b v r fv w2 := by
  obtain ⟨ho, ht, hf⟩ := hm
  refine ⟨ho.kept hst.turn (fun k hk e => by have := hf k hk; omega), hf, v', hst.at', ht.mono (fun _ _ h => h.elim) |>.trans hst.turn, hst.slab⟩

set_option maxHeartbeats 400000 in
set_option maxRecDepth 100000 in
theorem rr_raw_yes (b : Nat) (v : Value) (bs : List UInt8) (n : Nat) (w : World) (h : RIs 143 w b v ⟨bs, false⟩) (hn : n ≤ bs.length) (hb : bs.length ≤ 140737488355328) :
    Calls Tryz.prog 127 #[.pointer (some ⟨b, 0, none⟩), .int .i64 n] w fun e w' => ∃ fv, e = .returned fv ∧ Gave 143 w b v ((St.mk bs false).take n) fv w' := by
  rw [St.take_yes _ n (by omega) (by simp only; omega), Int.toNat_natCast]
  obtain ⟨i0, hi, hz0, hz1, hz2⟩ := info_parts Tryz.infoU8
  have hlen := h.2.1.len
  unfold maxLen at hlen
  have hlt := h.1.lt
  have h2 := h.2.1
  have c1 : w.cell? ⟨b, 1, none⟩ = some (.bool false) := by rw [h.1.cell]; rfl
  simp only at hlen h2
  rcases h2 with ⟨rfl, rfl⟩ | ⟨a, cap, rfl, hc, hm, hcell⟩
  · obtain rfl : n = 0 := by simpa using hn
    have c0 : w.cell? ⟨b, 0, none⟩ = some (.slice none 0 0) := by rw [h.1.cell]; rfl
    have f0 := h.1.frozen 0
    have hA := RAt.kept h ((Turn.refl (fun _ => False) w).alloc (.cells #[] 5)) (fun h => h) (fun _ _ h => h)
    have hset := RAt.set hA (Sees.nil _) (by simp [slab])
    have hmade : Made w (.slice (some ⟨w.heap.size, 0, none⟩) 0 0) [] (w.alloc (.cells #[] 5)) := ⟨owns_empty w, (Turn.refl _ _).alloc _, fun k hk => by simp [Value.ownBlock] at hk; omega⟩
    have hgv := Made.gave (r := ([], ⟨[], false⟩)) hmade hlt (v' := .slice none 0 0) (v := .slice none 0 0) ⟨hset.1, hset.2, fun _ h => h⟩
    clear hA hset hmade h
    rw [World.setCell_alloc_past _ b 0 _ hlt] at hgv
    go_enter Tryz.func127, Tryz.ntmps127
    go_wp2
    go_ret
    exact ⟨_, rfl, hgv⟩
  · have c0 : w.cell? ⟨b, 0, none⟩ = some (.slice (some a) bs.length cap) := by rw [h.1.cell]; rfl
    have h' : RAt 143 w b (.slice (some a) bs.length cap) bs false := h
    have hsee := ((h'.2.1.front n hn).kept ((Turn.refl (fun _ => False) w).alloc (.cells #[] 5)) (fun _ _ h => h))
    have hlen2 : (bs.take n).length = n := by simp; omega
    clear hcell h
    go_enter Tryz.func127, Tryz.ntmps127
    go_wp2_with (at_builtin; refine wpList_append_sees _ rfl (.tmp 29) (.tmp 35) 29 rfl i0 Tryz.underlying29 hi hz0 hz1 hz2 _ [] rfl (owns_empty w) _ (bs.take n) rfl hsee (by simp only [List.length_nil, hlen2]; omega) ?_)
    intro fv w1 ho hg hkk
    have hmade : Made w fv (bs.take n) w1 := Made.append ho hg hkk
    have hw1 := h'.kept hmade.2.1 (fun h => h) (fun _ _ h => h)
    have c0' : w1.cell? ⟨b, 0, none⟩ = some (.slice (some a) bs.length cap) := by rw [hw1.1.cell]; rfl
    have f0' := hw1.1.frozen 0
    obtain ⟨aof, cpf, rfl⟩ := ho.shape
    have hgv := fun a2 h2 hb2 => Made.gave (r := (bs.take n, ⟨bs.drop n, false⟩)) hmade hlt (v := .slice (some a) bs.length cap) ⟨(take_fin hw1 n hn a2 h2 hb2).2.1, (take_fin hw1 n hn a2 h2 hb2).2.2, fun k hk => by simp only [slab, hb2] at hk ⊢; exact hk⟩
    have Hgv := hide hgv
    clear ho hg hkk hmade hgv hsee h'
    rw [hlen2] at Hgv
    rw [hlen2]
    go_wp2
    · go_ret
      have hf := unhide Hgv a (.inr (Eq.symm ‹cap = n›)) rfl
      obtain rfl := ‹cap = n›
      simp only [Nat.sub_self] at hf
      exact ⟨_, rfl, hf⟩
    · go_ret
      exact ⟨_, rfl, unhide Hgv (a.add n) (.inl rfl) (addr_add_block _ _)⟩

set_option maxHeartbeats 400000 in
set_option maxRecDepth 100000 in
theorem rr_raw_no (b : Nat) (v : Value) (s : St) (n : Int) (w : World) (h : RIs 143 w b v s) (hn : s.lack = true ∨ n < 0 ∨ (s.bs.length : Int) < n) :
    Calls Tryz.prog 127 #[.pointer (some ⟨b, 0, none⟩), .int .i64 n] w fun e w' => e = .returned (.slice none 0 0) ∧ Now 143 w b v ⟨[], true⟩ w' := by
  obtain ⟨bs, lack⟩ := s
  have hlt := h.1.lt
  have f0 := h.1.frozen 0
  have f1 := h.1.frozen 1
  obtain ⟨ao, cap, rfl⟩ := h.2.1.shape
  have c0 : w.cell? ⟨b, 0, none⟩ = some (.slice ao bs.length cap) := by rw [h.1.cell]; rfl
  have c1 : w.cell? ⟨b, 1, none⟩ = some (.bool lack) := by rw [h.1.cell]; rfl
  have hl := RAt.lacks' h
  have hnow : Now 143 w b (.slice ao bs.length cap) ⟨[], true⟩ ((w.setCell ⟨b, 1, none⟩ (.bool true)).setCell ⟨b, 0, none⟩ (.slice none 0 0)) := ⟨_, hl.1, hl.2, fun _ h => by simp [slab] at h⟩
  have hb0 : 0 ≤ (bs.length : Int) := by omega
  simp only at hn
  clear hl
  cases lack with
  | true =>
    clear hn
    go_enter Tryz.func127, Tryz.ntmps127
    go_wp2
    go_ret
    exact ⟨rfl, hnow⟩
  | false =>
    simp only [Bool.false_eq_true, false_or] at hn
    by_cases h0 : n < 0
    · go_enter Tryz.func127, Tryz.ntmps127
      go_wp2
      go_ret
      exact ⟨rfl, hnow⟩
    · have h1 : (bs.length : Int) < n := by omega
      go_enter Tryz.func127, Tryz.ntmps127
      go_wp2
      go_ret
      exact ⟨rfl, hnow⟩

theorem rr_raw (b : Nat) (v : Value) (s : St) (n : Int) (w : World) (h : RIs 143 w b v s) (ho : s.ok) (hb : s.bs.length ≤ 140737488355328) :
    Calls Tryz.prog 127 #[.pointer (some ⟨b, 0, none⟩), .int .i64 n] w fun e w' => ∃ fv, e = .returned fv ∧ Gave 143 w b v (s.take n) fv w' := by
  by_cases hn : s.lack = true ∨ n < 0 ∨ (s.bs.length : Int) < n
  · have e : s.take n = ([], ⟨[], true⟩) := by
      by_cases hl : s.lack = true
      · obtain ⟨bs, lack⟩ := s
        simp only at hl
        subst hl
        obtain rfl : bs = [] := ho rfl
        exact St.dead n
      · exact St.take_no s n (by rcases hn with hn | hn; exact absurd hn hl; exact hn)
    rw [e]
    exact (rr_raw_no b v s n w h hn).mono fun e w' ⟨h1, h2⟩ => ⟨_, h1, Owns.nil _, fun k hk => by simp [Value.ownBlock] at hk, h2⟩
  · obtain ⟨bs, lack⟩ := s
    simp only [not_or] at hn
    obtain rfl : lack = false := by simpa using hn.1
    obtain ⟨k, rfl⟩ := Int.eq_ofNat_of_zero_le (show 0 ≤ n by omega)
    exact rr_raw_yes b v bs k w h (by omega) hb

/-- One byte more at the end of a number without a sign. -/
def numUStep (n : Int) (b : UInt8) : Int := (n * 256 + b.toNat) % 18446744073709551616
theorem wrapU (n : Int) : IntKind.u64.wrap n = n % 18446744073709551616 := by simp [IntKind.wrap, IntKind.bits, IntKind.signed]
theorem numUStep_eq (n : Int) (b : UInt8) : IntKind.u64.wrap (IntKind.u64.wrap (n * 256) + IntKind.u64.wrap (b.toNat : Int)) = numUStep n b := by
  simp only [wrapU, numUStep]
  omega
def numU (bs : List UInt8) : Int := bs.foldl numUStep 0
theorem numU_snoc (bs : List UInt8) (b : UInt8) : numU (bs ++ [b]) = numUStep (numU bs) b := by simp [numU]
theorem foldl_numU : ∀ (bs : List UInt8) (m : Int), bs.foldl numStep (wrap64 m) = wrap64 (bs.foldl numUStep m)
  | [], m => rfl
  | b :: r, m => by
    rw [List.foldl_cons, List.foldl_cons, numStep_eq, wrap64_wrap64, ← foldl_numU r]
    congr 1
    unfold numUStep wrap64
    omega
theorem num_numU (bs : List UInt8) : num bs = wrap64 (numU bs) := by
  have h := foldl_numU bs 0
  have z : wrap64 0 = 0 := by unfold wrap64; omega
  rw [z] at h
  exact h
theorem numU_bd (bs : List UInt8) : 0 ≤ numU bs ∧ numU bs < 18446744073709551616 := by
  rcases List.eq_nil_or_concat bs with rfl | ⟨l, b, rfl⟩
  · simp [numU]
  · rw [List.concat_eq_append, numU_snoc]
    unfold numUStep
    omega

set_option maxHeartbeats 400000 in
set_option maxRecDepth 100000 in
theorem rr_u (b : Nat) (v : Value) (s : St) (n : Nat) (w : World) (h : RIs 143 w b v s) (ho : s.ok) (hb : s.bs.length ≤ 140737488355328) (hn : n ≤ 8) :
    Calls Tryz.prog 126 #[.pointer (some ⟨b, 0, none⟩), .int .i64 n] w fun e w' => e = .returned (.int .u64 (numU (s.take n).1)) ∧ Now 143 w b v (s.take n).2 w' := by
  have hl8 := s.take_len n
  have htk := hide (rr_raw b v s n w h ho hb)
  generalize s.take n = r at *
  obtain ⟨fr, st⟩ := r
  simp only at hl8 ⊢
  have hl : fr.length ≤ 8 := by omega
  clear hl8 h
  go_enter Tryz.func126, Tryz.ntmps126
  go_wp2_with fail
  refine (unhide htk).mono ?_
  clear htk
  rintro e w1 ⟨fv, rfl, hown, _, hr⟩
  have hs := hown.sees
  simp only at hs hr
  clear hown
  rcases hs with ⟨rfl, rfl⟩ | ⟨a, cap, rfl, hc, hm, hcell⟩
  · go_wp2
    go_loop [6, 7] (fun x i => i = .int .i64 0 ∧ x = .int .u64 0) (fun _ _ => 0)
    case atStart => exact ⟨rfl, rfl⟩
    case round =>
      obtain ⟨rfl, rfl⟩ := hrel
      go_wp2
      go_ret
      exact ⟨rfl, hr⟩
  · have hcell' : ∀ k, (hk : k < fr.length) → w1.cell? (a.add k) = some (.int .u8 ((fr[k]).toNat : Int)) := fun k hk => hcell k _ (by simp [u8s, hk])
    clear hcell
    go_wp2
    go_loop [6, 7] (fun x i => ∃ k : Nat, k ≤ fr.length ∧ i = .int .i64 k ∧ x = .int .u64 (numU (fr.take k))) (fun _ i => fr.length - (intOf i).toNat)
    case atStart => exact ⟨0, Nat.zero_le _, rfl, rfl⟩
    case round =>
      obtain ⟨k, hk, rfl, rfl⟩ := hrel
      by_cases hlt : k < fr.length
      · have c0 := hcell' k hlt
        have hsn : Hid (numU (fr.take (k + 1)) = numUStep (numU (fr.take k)) fr[k]) := by
          unfold Hid
          rw [List.take_succ_eq_append_getElem hlt, numU_snoc]
        clear hcell'
        go_wp2
        exact ⟨⟨k + 1, by omega, by go_num, by rw [unhide hsn, numUStep_eq]⟩, by simp [intOf]; omega⟩
      · go_wp2
        go_ret
        obtain rfl : k = fr.length := by omega
        exact ⟨by rw [List.take_length]; rfl, hr⟩

set_option maxHeartbeats 400000 in
set_option maxRecDepth 100000 in
theorem rr_u8 (b : Nat) (v : Value) (s : St) (w : World) (h : RIs 143 w b v s) (ho : s.ok) (hb : s.bs.length ≤ 140737488355328) :
    Calls Tryz.prog 89 #[.pointer (some ⟨b, 0, none⟩)] w fun e w' => e = .returned (.int .i64 (num (s.take 1).1)) ∧ Now 143 w b v (s.take 1).2 w' := by
  have hq := hide (rr_u b v s 1 w h ho hb (by omega))
  have hnm := hide (num_numU (s.take 1).1)
  go_enter Tryz.func89, Tryz.ntmps89
  go_wp2_with fail
  refine (unhide hq).mono ?_
  clear hq
  rintro e w1 ⟨rfl, hr⟩
  go_wp2
  go_ret
  exact ⟨ret_int (unhide hnm).symm, hr⟩

set_option maxHeartbeats 400000 in
set_option maxRecDepth 100000 in
theorem rr_u16 (b : Nat) (v : Value) (s : St) (w : World) (h : RIs 143 w b v s) (ho : s.ok) (hb : s.bs.length ≤ 140737488355328) :
    Calls Tryz.prog 128 #[.pointer (some ⟨b, 0, none⟩)] w fun e w' => e = .returned (.int .i64 (num (s.take 2).1)) ∧ Now 143 w b v (s.take 2).2 w' := by
  have hq := hide (rr_u b v s 2 w h ho hb (by omega))
  have hnm := hide (num_numU (s.take 2).1)
  go_enter Tryz.func128, Tryz.ntmps128
  go_wp2_with fail
  refine (unhide hq).mono ?_
  clear hq
  rintro e w1 ⟨rfl, hr⟩
  go_wp2
  go_ret
  exact ⟨ret_int (unhide hnm).symm, hr⟩

set_option maxHeartbeats 400000 in
set_option maxRecDepth 100000 in
theorem rr_u32 (b : Nat) (v : Value) (s : St) (w : World) (h : RIs 143 w b v s) (ho : s.ok) (hb : s.bs.length ≤ 140737488355328) :
    Calls Tryz.prog 146 #[.pointer (some ⟨b, 0, none⟩)] w fun e w' => e = .returned (.int .i64 (num (s.take 4).1)) ∧ Now 143 w b v (s.take 4).2 w' := by
  have hq := hide (rr_u b v s 4 w h ho hb (by omega))
  have hnm := hide (num_numU (s.take 4).1)
  go_enter Tryz.func146, Tryz.ntmps146
  go_wp2_with fail
  refine (unhide hq).mono ?_
  clear hq
  rintro e w1 ⟨rfl, hr⟩
  go_wp2
  go_ret
  exact ⟨ret_int (unhide hnm).symm, hr⟩

set_option maxHeartbeats 400000 in
set_option maxRecDepth 100000 in
theorem rr_short (b : Nat) (v : Value) (s : St) (w : World) (h : RIs 143 w b v s) (ho : s.ok) (hb : s.bs.length ≤ 140737488355328) :
    Calls Tryz.prog 91 #[.pointer (some ⟨b, 0, none⟩)] w fun e w' => ∃ fv, e = .returned fv ∧ Gave 143 w b v s.short fv w' := by
  have hq := hide (rr_u16 b v s w h ho hb)
  have hle := s.take_rest 2
  have hok := s.ok_take ho 2
  unfold St.short
  generalize s.take 2 = r at *
  have Hok := hide hok
  clear hok
  go_enter Tryz.func91, Tryz.ntmps91
  go_wp2_with fail
  refine (unhide hq).mono ?_
  clear hq
  rintro e w1 ⟨rfl, v1, hr⟩
  have hq2 := hide (rr_raw b v1 r.2 (num r.1) w1 hr.at' (unhide Hok) (by omega))
  go_wp2_with fail
  refine (unhide hq2).mono ?_
  clear hq2
  rintro e w2 ⟨fv, rfl, h1, h2, v', h3⟩
  have hgv : Gave 143 w b v (r.2.take (num r.1)) fv w2 := ⟨h1, fun k hk => Nat.le_trans hr.turn.size (h2 k hk), v', hr.trans h3⟩
  clear h1 h2 h3
  go_wp2
  go_ret
  exact ⟨_, rfl, hgv⟩

-- behind 91
set_option maxHeartbeats 400000 in
set_option maxRecDepth 100000 in
theorem rr_text (b : Nat) (v : Value) (s : St) (w : World) (h : RIs 143 w b v s) (ho : s.ok) (hb : s.bs.length ≤ 140737488355328) :
    Calls Tryz.prog 90 #[.pointer (some ⟨b, 0, none⟩)] w fun e w' => e = .returned (.string ⟨s.short.1.toArray⟩) ∧ Now 143 w b v s.short.2 w' := by
  have hq := hide (rr_short b v s w h ho hb)
  generalize s.short = r at *
  go_enter Tryz.func90, Tryz.ntmps90
  go_wp2_with fail
  refine (unhide hq).mono ?_
  clear hq
  rintro e w1 ⟨fv, rfl, h1, _, h3⟩
  have hconv := run_text_of_sees (P := Tryz.prog) w1 29 9 Tryz.underlying29 Tryz.underlying5 Tryz.underlying9 h1.sees
  clear h1
  go_wp2
  go_ret
  exact ⟨rfl, h3⟩

end Go.Proofs.YtnipdgigjcaolaaGreat

/- What the calls of the reference's Writer do to memory. -/
namespace Go.Proofs.YtnipdgigjcaolaaGreat
open Go.RowKit

theorem be_mod1 (n : Int) : ∀ k, k < 8 → n % 18446744073709551616 / 2 ^ (8 * k) % 256 = n / 2 ^ (8 * k) % 256
  | 0, _ => by omega
  | 1, _ => by omega
  | 2, _ => by omega
  | 3, _ => by omega
  | 4, _ => by omega
  | 5, _ => by omega
  | 6, _ => by omega
  | 7, _ => by omega

theorem be_mod (n : Int) : ∀ k, k ≤ 8 → be (n % 18446744073709551616) k = be n k
  | 0, _ => rfl
  | k + 1, h => by
    rw [be, be, be_mod1 n k (by omega), be_mod n k (by omega)]

set_option maxHeartbeats 400000 in
set_option maxRecDepth 100000 in
theorem rw_raw (b : Nat) (v s : Value) (bs ds : List UInt8) (w : World) (h : WAt 87 w b v bs) (hs : Sees w s ds) (hb : bs.length + ds.length ≤ 140737488355328) :
    Calls Tryz.prog 50 #[.pointer (some ⟨b, 0, none⟩), s] w fun e w' => e = .returned (.tuple #[]) ∧ ∃ v', WStep 87 b w v w' v' (bs ++ ds) := by
  obtain ⟨i0, hi, hz0, hz1, hz2⟩ := info_parts Tryz.infoU8
  obtain ⟨ao, cap, rfl⟩ := h.2.1.shape
  have hc : w.cell? ⟨b, 0, none⟩ = some (.slice ao bs.length cap) := by rw [h.1.cell]; rfl
  have hlt := h.1.lt
  go_enter Tryz.func50, Tryz.ntmps50
  go_wp2_with (at_builtin; refine wpList_append_sees _ rfl (.tmp 8) (.tmp 9) 29 rfl i0 Tryz.underlying29 hi hz0 hz1 hz2 _ bs rfl h.2.1 s ds rfl hs hb ?_)
  intro v' w' ho hg hk
  have hst := WStep.append h ho hg hk
  have hb0 := hg.block b hlt (fun e => h.2.2 e.symm)
  have hc' : w'.cell? ⟨b, 0, none⟩ = some (.slice ao bs.length cap) := (World.cell?_of_block hb0).trans hc
  have hf' : w'.frozen? ⟨b, 0, none⟩ = false := (World.frozen?_of_block hb0).trans (h.1.frozen 0)
  obtain ⟨ao', cap', rfl⟩ := ho.shape
  clear hb0 ho hg hk
  rw [List.length_append] at hst
  go_wp2
  go_end0
  exact ⟨rfl, _, hst⟩

set_option maxHeartbeats 400000 in
set_option maxRecDepth 100000 in
theorem rw_u (b : Nat) (v : Value) (bs : List UInt8) (n : Int) (k : Nat) (w : World) (h : WAt 87 w b v bs) (hk : k ≤ 8) (hb : bs.length + k ≤ 140737488355328) :
    Calls Tryz.prog 103 #[.pointer (some ⟨b, 0, none⟩), .int .u64 n, .int .i64 k] w fun e w' => e = .returned (.tuple #[]) ∧ ∃ v', WStep 87 b w v w' v' (bs ++ be n k) := by
  obtain ⟨i0, hi, hz0, hz1, hz2⟩ := info_parts Tryz.infoU8
  go_enter Tryz.func103, Tryz.ntmps103
  go_wp2
  go_loopw [6] (fun i w1 => ∃ (j : Nat) (done : List UInt8) (v1 : Value), j ≤ k ∧ i = .int .i64 (j - 1 : Int) ∧ done ++ be n j = be n k ∧ done.length + j = k ∧ WStep 87 b w v w1 v1 (bs ++ done)) (fun i _ => (intOf i + 1).toNat)
  case atStart => exact ⟨k, [], v, Nat.le_refl _, rfl, rfl, by simp, by simpa using WStep.refl h⟩
  case round =>
    obtain ⟨j, done, v1, hj, rfl, hd, hdl, hst⟩ := hrel
    have Hd := hide hd
    clear hd
    by_cases hlt : 0 < j
    · obtain ⟨m, rfl⟩ : ∃ m, j = m + 1 := ⟨j - 1, by omega⟩
      obtain ⟨acc, hacc⟩ : ∃ acc, acc = bs ++ done := ⟨_, rfl⟩
      rw [← hacc] at hst
      have hal : acc.length + (m + 1) = bs.length + k := by rw [hacc, List.length_append]; omega
      have Hacc := hide hacc
      clear hacc
      have h1 := hst.at'
      obtain ⟨ao, cap, rfl⟩ := h1.2.1.shape
      have hc : wr.cell? ⟨b, 0, none⟩ = some (.slice ao acc.length cap) := by rw [h1.1.cell]; rfl
      have hblt := h1.1.lt
      have h2 := h1.alloc (.cells #[.int .u8 ((n / 2 ^ (8 * m)) % 256)] 5)
      have hb2 : acc.length + [UInt8.ofNat ((n / 2 ^ (8 * m)) % 256).toNat].length ≤ 140737488355328 := by simp; omega
      have H2 := hide h2
      have Hst := hide hst
      clear h1 h2 hst
      go_wp2_with (at_builtin; refine wpList_append_sees _ rfl (.tmp 17) (.tmp 24) 29 rfl i0 Tryz.underlying29 hi hz0 hz1 hz2 _ acc rfl (unhide H2).2.1 _ [UInt8.ofNat ((n / 2 ^ (8 * m)) % 256).toNat] rfl (Sees.one _ _ _ (by omega) (by omega)) hb2 ?_)
      intro v' w' ho hg hkk
      have hst2 := ((unhide Hst).alloc _).trans (WStep.append (unhide H2) ho hg (by simpa using hkk))
      have hb0 := hg.block b (unhide H2).1.lt (fun e => (unhide H2).2.2 e.symm)
      have hc' : w'.cell? ⟨b, 0, none⟩ = some (.slice ao acc.length cap) := (World.cell?_of_block hb0).trans (by rw [(unhide H2).1.cell]; rfl)
      have hf' : w'.frozen? ⟨b, 0, none⟩ = false := (World.frozen?_of_block hb0).trans ((unhide H2).1.frozen 0)
      obtain ⟨ao', cap', rfl⟩ := ho.shape
      clear hb0 ho hg hkk hb2
      rw [List.length_append, List.length_singleton] at hst2
      go_wp2
      refine ⟨⟨m, done ++ [UInt8.ofNat ((n / 2 ^ (8 * m)) % 256).toNat], .slice ao' (acc.length + 1) cap', by omega, by go_num, by rw [← unhide Hd, be_step, List.append_assoc], by simp; omega, ?_⟩, by simp [intOf]⟩
      rw [← List.append_assoc, ← unhide Hacc]
      exact hst2
    · obtain rfl : j = 0 := by omega
      go_wp2
      go_end0
      have hd := unhide Hd
      simp only [be, List.append_nil] at hd
      exact ⟨rfl, v1, hd ▸ hst⟩

set_option maxHeartbeats 400000 in
set_option maxRecDepth 100000 in
theorem rw_u8 (b : Nat) (v : Value) (bs : List UInt8) (n : Int) (w : World) (h : WAt 87 w b v bs) (hb : bs.length + 1 ≤ 140737488355328) :
    Calls Tryz.prog 47 #[.pointer (some ⟨b, 0, none⟩), .int .i64 n] w fun e w' => e = .returned (.tuple #[]) ∧ ∃ v', WStep 87 b w v w' v' (bs ++ be n 1) := by
  have q := hide (rw_u b v bs (n % 18446744073709551616) 1 w h (by omega) hb)
  rw [be_mod n 1 (by omega)] at q
  go_enter Tryz.func47, Tryz.ntmps47
  go_wp2_with fail
  refine (unhide q).mono ?_
  rintro e w1 ⟨rfl, v1, hst⟩
  go_wp2
  go_end0
  exact ⟨rfl, v1, hst⟩

set_option maxHeartbeats 400000 in
set_option maxRecDepth 100000 in
theorem rw_u16 (b : Nat) (v : Value) (bs : List UInt8) (n : Int) (w : World) (h : WAt 87 w b v bs) (hb : bs.length + 2 ≤ 140737488355328) :
    Calls Tryz.prog 125 #[.pointer (some ⟨b, 0, none⟩), .int .i64 n] w fun e w' => e = .returned (.tuple #[]) ∧ ∃ v', WStep 87 b w v w' v' (bs ++ be n 2) := by
  have q := hide (rw_u b v bs (n % 18446744073709551616) 2 w h (by omega) hb)
  rw [be_mod n 2 (by omega)] at q
  go_enter Tryz.func125, Tryz.ntmps125
  go_wp2_with fail
  refine (unhide q).mono ?_
  rintro e w1 ⟨rfl, v1, hst⟩
  go_wp2
  go_end0
  exact ⟨rfl, v1, hst⟩

set_option maxHeartbeats 400000 in
set_option maxRecDepth 100000 in
theorem rw_u32 (b : Nat) (v : Value) (bs : List UInt8) (n : Int) (w : World) (h : WAt 87 w b v bs) (hb : bs.length + 4 ≤ 140737488355328) :
    Calls Tryz.prog 48 #[.pointer (some ⟨b, 0, none⟩), .int .i64 n] w fun e w' => e = .returned (.tuple #[]) ∧ ∃ v', WStep 87 b w v w' v' (bs ++ be n 4) := by
  have q := hide (rw_u b v bs (n % 18446744073709551616) 4 w h (by omega) hb)
  rw [be_mod n 4 (by omega)] at q
  go_enter Tryz.func48, Tryz.ntmps48
  go_wp2_with fail
  refine (unhide q).mono ?_
  rintro e w1 ⟨rfl, v1, hst⟩
  go_wp2
  go_end0
  exact ⟨rfl, v1, hst⟩

set_option maxHeartbeats 400000 in
set_option maxRecDepth 100000 in
theorem rw_short_yes (b : Nat) (v s : Value) (bs ds : List UInt8) (w : World) (h : WAt 87 w b v bs) (hs : Sees w s ds) (hap : 0 < ds.length → Apart b v s) (hd : ds.length ≤ 65535) (hb : bs.length + 2 + ds.length ≤ 140737488355328) :
    Calls Tryz.prog 88 #[.pointer (some ⟨b, 0, none⟩), s] w fun e w' => e = .returned (.bool true) ∧ ∃ v', WStep 87 b w v w' v' (bs ++ sh ds) := by
  obtain ⟨ao, cap, rfl⟩ := hs.shape
  have hd' : ¬ ((65535 : Int) < (ds.length : Int)) := by omega
  go_enter Tryz.func88, Tryz.ntmps88
  go_wp2_with fail
  refine (rw_u16 b v bs ds.length w h (by omega)).mono ?_
  rintro e w1 ⟨rfl, v1, hst⟩
  have hs1 : Sees w1 (.slice ao ds.length cap) ds := hs.kept' hst.turn fun h0 k hk hS => hS.elim (hap h0 k hk).1 (hap h0 k hk).2
  go_wp2_with fail
  refine (rw_raw b v1 _ (bs ++ be ds.length 2) ds w1 hst.at' hs1 (by simp [be_length]; omega)).mono ?_
  rintro e w2 ⟨rfl, v2, hst2⟩
  have hst3 := hst.trans hst2
  rw [List.append_assoc] at hst3
  go_wp2
  go_ret
  exact ⟨rfl, v2, hst3⟩

set_option maxHeartbeats 400000 in
set_option maxRecDepth 100000 in
theorem rw_short_no (b : Nat) (s : Value) (ds : List UInt8) (w : World) (hs : Sees w s ds) (hd : 65535 < ds.length) :
    Calls Tryz.prog 88 #[.pointer (some ⟨b, 0, none⟩), s] w fun e w' => e = .returned (.bool false) ∧ w' = w := by
  obtain ⟨ao, cap, rfl⟩ := hs.shape
  have hd' : (65535 : Int) < (ds.length : Int) := by omega
  go_enter Tryz.func88, Tryz.ntmps88
  go_wp2
  go_ret
  exact ⟨rfl, rfl⟩

set_option maxHeartbeats 400000 in
set_option maxRecDepth 100000 in
theorem rw_text_yes (b : Nat) (v : Value) (s : ByteArray) (bs : List UInt8) (w : World) (h : WAt 87 w b v bs) (hd : s.size ≤ 65535) (hb : bs.length + 2 + s.size ≤ 140737488355328) :
    Calls Tryz.prog 87 #[.pointer (some ⟨b, 0, none⟩), .string s] w fun e w' => e = .returned (.bool true) ∧ ∃ v', WStep 87 b w v w' v' (bs ++ sh s.data.toList) := by
  have kc := fun (w : World) (s : ByteArray) => run_bytes_of_string (P := Tryz.prog) w 9 29 5 s Tryz.underlying9 Tryz.underlying29 Tryz.underlying5
  have hcap := grownCap_ge w s.size 0 5
  have hcap2 := grownCap_le_maxLen w s.size 0 5 (by unfold maxLen; omega)
  have hlt := h.1.lt
  go_enter Tryz.func87, Tryz.ntmps87
  go_wp2_with fail
  refine (rw_short_yes b v _ bs s.data.toList _ (h.alloc _).drew (Sees.text w s _ _ _ _ hcap hcap2).drew ?_ (by rw [text_length]; exact hd) (by rw [text_length]; exact hb)).mono ?_
  · intro _ k hk
    simp only [slab, Option.some.injEq] at hk
    subst hk
    exact ⟨by omega, fun e => by have := h.2.1.lt e; omega⟩
  rintro e w1 ⟨rfl, v1, hst⟩
  have hst1 : WStep 87 b w v w1 v1 (bs ++ sh s.data.toList) := ((WStep.refl h).alloc _).drew.trans hst
  go_wp2
  go_ret
  exact ⟨rfl, _, hst1⟩

set_option maxHeartbeats 400000 in
set_option maxRecDepth 100000 in
theorem rw_text_no (b : Nat) (s : ByteArray) (w : World) (hd : 65535 < s.size) (hd2 : s.size ≤ maxLen) :
    Calls Tryz.prog 87 #[.pointer (some ⟨b, 0, none⟩), .string s] w fun e w' => e = .returned (.bool false) ∧ Turn (fun _ => False) w w' := by
  have kc := fun (w : World) (s : ByteArray) => run_bytes_of_string (P := Tryz.prog) w 9 29 5 s Tryz.underlying9 Tryz.underlying29 Tryz.underlying5
  have hcap := grownCap_ge w s.size 0 5
  have hcap2 := grownCap_le_maxLen w s.size 0 5 hd2
  go_enter Tryz.func87, Tryz.ntmps87
  go_wp2_with fail
  refine (rw_short_no b _ s.data.toList _ (Sees.text w s _ _ _ _ hcap hcap2).drew (by rw [text_length]; exact hd)).mono ?_
  rintro e w1 ⟨rfl, rfl⟩
  go_wp2
  go_ret
  exact ⟨rfl, ((Turn.refl _ _).alloc _).drew⟩

end Go.Proofs.YtnipdgigjcaolaaGreat
