/- What the calls of the reference's Reader do to memory. -/
import Derived.Test.YtcojlmfdonbkmaaOctR
import Derived.Test.YtcojlmfdonbkmaaHand
namespace Go.Proofs.Ytcojlmfdonbkmaa
open Go.RowKit

/-- What lacks has nothing left. -/
def St.ok (s : St) : Prop := s.lack = true → s.bs = []

theorem St.ok_take (s : St) (h : s.ok) (n : Int) : (s.take n).2.ok := by
  unfold St.take
  split
  · intro _; rfl
  · intro hl
    have := h hl
    simp [this]

theorem St.ok_short (s : St) (h : s.ok) : s.short.2.ok := St.ok_take _ (St.ok_take _ h _) _

theorem Made.gave {T : TypeId} {w : World} {b : Nat} {v : Value} {r : List UInt8 × St} {fv : Value} {w1 w2 : World} (hm : Made w fv r.1 w1) (hsz : b < w.heap.size) {v' : Value} (hst : RStep T b w1 v w2 v' r.2.bs r.2.lack) : Gave T w b v r fv w2 := by
  obtain ⟨ho, ht, hf⟩ := hm
  refine ⟨ho.kept hst.turn (fun k hk e => by have := hf k hk; omega), hf, v', hst.at', ht.mono (fun _ _ h => h.elim) |>.trans hst.turn, hst.slab⟩

set_option maxHeartbeats 400000 in
set_option maxRecDepth 100000 in
theorem rr_raw_yes (b : Nat) (v : Value) (bs : List UInt8) (n : Nat) (w : World) (h : RIs 59 w b v ⟨bs, false⟩) (hn : n ≤ bs.length) (hb : bs.length ≤ 140737488355328) :
    Calls Try.prog 44 #[.pointer (some ⟨b, 0, none⟩), .int .i64 n] w fun e w' => ∃ fv, e = .returned fv ∧ Gave 59 w b v ((St.mk bs false).take n) fv w' := by
  rw [St.take_yes _ n (by omega) (by simp only; omega), Int.toNat_natCast]
  obtain ⟨i0, hi, hz0, hz1, hz2⟩ := info_parts Try.infoU8
  have hlen := h.2.1.len
  unfold maxLen at hlen
  have hlt := h.1.lt
  have h2 := h.2.1
  have c1 : w.cell? ⟨b, 1, none⟩ = some (.bool false) := by rw [h.1.cell]; rfl
  simp only at hlen h2
  rcases h2 with ⟨rfl, rfl⟩ | ⟨a, cap, rfl, hc, hm, hcell⟩
  · obtain rfl : n = 0 := by simpa using hn
    have c0 : w.cell? ⟨b, 0, none⟩ = some (.slice none 0 0) := by rw [h.1.cell]; rfl
    have f0 := h.1.frozen 0
    have hA := RAt.kept h ((Turn.refl (fun _ => False) w).alloc (.cells #[] 5)) (fun h => h) (fun _ _ h => h)
    have hset := RAt.set hA (Sees.nil _) (by simp [slab])
    have hmade : Made w (.slice (some ⟨w.heap.size, 0, none⟩) 0 0) [] (w.alloc (.cells #[] 5)) := ⟨owns_empty w, (Turn.refl _ _).alloc _, fun k hk => by simp [Value.ownBlock] at hk; omega⟩
    have hgv := Made.gave (r := ([], ⟨[], false⟩)) hmade hlt (v' := .slice none 0 0) (v := .slice none 0 0) ⟨hset.1, hset.2, fun _ h => h⟩
    clear hA hset hmade h
    rw [World.setCell_alloc_past _ b 0 _ hlt] at hgv
    go_enter Try.func44, Try.ntmps44
    go_wp2
    go_ret
    exact ⟨_, rfl, hgv⟩
  · have c0 : w.cell? ⟨b, 0, none⟩ = some (.slice (some a) bs.length cap) := by rw [h.1.cell]; rfl
    have h' : RAt 59 w b (.slice (some a) bs.length cap) bs false := h
    have hsee := ((h'.2.1.front n hn).kept ((Turn.refl (fun _ => False) w).alloc (.cells #[] 5)) (fun _ _ h => h))
    have hlen2 : (bs.take n).length = n := by simp; omega
    clear hcell h
    go_enter Try.func44, Try.ntmps44
    go_wp2_with (at_builtin; refine wpList_append_sees _ rfl (.tmp 29) (.tmp 35) 25 rfl i0 Try.underlying25 hi hz0 hz1 hz2 _ [] rfl (owns_empty w) _ (bs.take n) rfl hsee (by simp only [List.length_nil, hlen2]; omega) ?_)
    intro fv w1 ho hg hkk
    have hmade : Made w fv (bs.take n) w1 := Made.append ho hg hkk
    have hw1 := h'.kept hmade.2.1 (fun h => h) (fun _ _ h => h)
    have c0' : w1.cell? ⟨b, 0, none⟩ = some (.slice (some a) bs.length cap) := by rw [hw1.1.cell]; rfl
    have f0' := hw1.1.frozen 0
    obtain ⟨aof, cpf, rfl⟩ := ho.shape
    have hgv := fun a2 h2 hb2 => Made.gave (r := (bs.take n, ⟨bs.drop n, false⟩)) hmade hlt (v := .slice (some a) bs.length cap) ⟨(take_fin hw1 n hn a2 h2 hb2).2.1, (take_fin hw1 n hn a2 h2 hb2).2.2, fun k hk => by simp only [slab, hb2] at hk ⊢; exact hk⟩
    have Hgv := hide hgv
    clear ho hg hkk hmade hgv hsee h'
    rw [hlen2] at Hgv
    rw [hlen2]
    go_wp2
    · go_ret
      have hf := unhide Hgv a (.inr (Eq.symm ‹cap = n›)) rfl
      obtain rfl := ‹cap = n›
      simp only [Nat.sub_self] at hf
      exact ⟨_, rfl, hf⟩
    · go_ret
      exact ⟨_, rfl, unhide Hgv (a.add n) (.inl rfl) (addr_add_block _ _)⟩

set_option maxHeartbeats 400000 in
set_option maxRecDepth 100000 in
theorem rr_raw_no (b : Nat) (v : Value) (s : St) (n : Int) (w : World) (h : RIs 59 w b v s) (hn : s.lack = true ∨ n < 0 ∨ (s.bs.length : Int) < n) :
    Calls Try.prog 44 #[.pointer (some ⟨b, 0, none⟩), .int .i64 n] w fun e w' => e = .returned (.slice none 0 0) ∧ Now 59 w b v ⟨[], true⟩ w' := by
  obtain ⟨bs, lack⟩ := s
  have hlt := h.1.lt
  have f0 := h.1.frozen 0
  have f1 := h.1.frozen 1
  obtain ⟨ao, cap, rfl⟩ := h.2.1.shape
  have c0 : w.cell? ⟨b, 0, none⟩ = some (.slice ao bs.length cap) := by rw [h.1.cell]; rfl
  have c1 : w.cell? ⟨b, 1, none⟩ = some (.bool lack) := by rw [h.1.cell]; rfl
  have hl := RAt.lacks' h
  have hnow : Now 59 w b (.slice ao bs.length cap) ⟨[], true⟩ ((w.setCell ⟨b, 1, none⟩ (.bool true)).setCell ⟨b, 0, none⟩ (.slice none 0 0)) := ⟨_, hl.1, hl.2, fun _ h => by simp [slab] at h⟩
  have hb0 : 0 ≤ (bs.length : Int) := by omega
  simp only at hn
  clear hl
  cases lack with
  | true =>
    clear hn
    go_enter Try.func44, Try.ntmps44
    go_wp2
    go_ret
    exact ⟨rfl, hnow⟩
  | false =>
    simp only [Bool.false_eq_true, false_or] at hn
    by_cases h0 : n < 0
    · go_enter Try.func44, Try.ntmps44
      go_wp2
      go_ret
      exact ⟨rfl, hnow⟩
    · have h1 : (bs.length : Int) < n := by omega
      go_enter Try.func44, Try.ntmps44
      go_wp2
      go_ret
      exact ⟨rfl, hnow⟩

theorem rr_raw (b : Nat) (v : Value) (s : St) (n : Int) (w : World) (h : RIs 59 w b v s) (ho : s.ok) (hb : s.bs.length ≤ 140737488355328) :
    Calls Try.prog 44 #[.pointer (some ⟨b, 0, none⟩), .int .i64 n] w fun e w' => ∃ fv, e = .returned fv ∧ Gave 59 w b v (s.take n) fv w' := by
  by_cases hn : s.lack = true ∨ n < 0 ∨ (s.bs.length : Int) < n
  · have e : s.take n = ([], ⟨[], true⟩) := by
      by_cases hl : s.lack = true
      · obtain ⟨bs, lack⟩ := s
        simp only at hl
        subst hl
        obtain rfl : bs = [] := ho rfl
        exact St.dead n
      · exact St.take_no s n (by rcases hn with hn | hn; exact absurd hn hl; exact hn)
    rw [e]
    exact (rr_raw_no b v s n w h hn).mono fun e w' ⟨h1, h2⟩ => ⟨_, h1, Owns.nil _, fun k hk => by simp [Value.ownBlock] at hk, h2⟩
  · obtain ⟨bs, lack⟩ := s
    simp only [not_or] at hn
    obtain rfl : lack = false := by simpa using hn.1
    obtain ⟨k, rfl⟩ := Int.eq_ofNat_of_zero_le (show 0 ≤ n by omega)
    exact rr_raw_yes b v bs k w h (by omega) hb

/-- One byte more at the end of a number without a sign. -/
def numUStep (n : Int) (b : UInt8) : Int := (n * 256 + b.toNat) % 18446744073709551616
theorem wrapU (n : Int) : IntKind.u64.wrap n = n % 18446744073709551616 := by simp [IntKind.wrap, IntKind.bits, IntKind.signed]
theorem numUStep_eq (n : Int) (b : UInt8) : IntKind.u64.wrap (IntKind.u64.wrap (n * 256) + IntKind.u64.wrap (b.toNat : Int)) = numUStep n b := by
  simp only [wrapU, numUStep]
  omega
def numU (bs : List UInt8) : Int := bs.foldl numUStep 0
theorem numU_snoc (bs : List UInt8) (b : UInt8) : numU (bs ++ [b]) = numUStep (numU bs) b := by simp [numU]
theorem foldl_numU : ∀ (bs : List UInt8) (m : Int), bs.foldl numStep (wrap64 m) = wrap64 (bs.foldl numUStep m)
  | [], m => rfl
  | b :: r, m => by
    rw [List.foldl_cons, List.foldl_cons, numStep_eq, wrap64_wrap64, ← foldl_numU r]
    congr 1
    unfold numUStep wrap64
    omega
theorem num_numU (bs : List UInt8) : num bs = wrap64 (numU bs) := by
  have h := foldl_numU bs 0
  have z : wrap64 0 = 0 := by unfold wrap64; omega
  rw [z] at h
  exact h
theorem numU_bd (bs : List UInt8) : 0 ≤ numU bs ∧ numU bs < 18446744073709551616 := by
  rcases List.eq_nil_or_concat bs with rfl | ⟨l, b, rfl⟩
  · simp [numU]
  · rw [List.concat_eq_append, numU_snoc]
    unfold numUStep
    omega

set_option maxHeartbeats 400000 in
set_option maxRecDepth 100000 in
theorem rr_u (b : Nat) (v : Value) (s : St) (n : Nat) (w : World) (h : RIs 59 w b v s) (ho : s.ok) (hb : s.bs.length ≤ 140737488355328) (hn : n ≤ 8) :
    Calls Try.prog 39 #[.pointer (some ⟨b, 0, none⟩), .int .i64 n] w fun e w' => e = .returned (.int .u64 (numU (s.take n).1)) ∧ Now 59 w b v (s.take n).2 w' := by
  have hl8 := s.take_len n
  have htk := hide (rr_raw b v s n w h ho hb)
  generalize s.take n = r at *
  obtain ⟨fr, st⟩ := r
  simp only at hl8 ⊢
  have hl : fr.length ≤ 8 := by omega
  clear hl8 h
  go_enter Try.func39, Try.ntmps39
  go_wp2_with fail
  refine (unhide htk).mono ?_
  clear htk
  rintro e w1 ⟨fv, rfl, hown, _, hr⟩
  have hs := hown.sees
  simp only at hs hr
  clear hown
  rcases hs with ⟨rfl, rfl⟩ | ⟨a, cap, rfl, hc, hm, hcell⟩
  · go_wp2
    go_loop [6, 7] (fun x i => i = .int .i64 0 ∧ x = .int .u64 0) (fun _ _ => 0)
    case atStart => exact ⟨rfl, rfl⟩
    case round =>
      obtain ⟨rfl, rfl⟩ := hrel
      go_wp2
      go_ret
      exact ⟨rfl, hr⟩
  · have hcell' : ∀ k, (hk : k < fr.length) → w1.cell? (a.add k) = some (.int .u8 ((fr[k]).toNat : Int)) := fun k hk => hcell k _ (by simp [u8s, hk])
    clear hcell
    go_wp2
    go_loop [6, 7] (fun x i => ∃ k : Nat, k ≤ fr.length ∧ i = .int .i64 k ∧ x = .int .u64 (numU (fr.take k))) (fun _ i => fr.length - (intOf i).toNat)
    case atStart => exact ⟨0, Nat.zero_le _, rfl, rfl⟩
    case round =>
      obtain ⟨k, hk, rfl, rfl⟩ := hrel
      by_cases hlt : k < fr.length
      · have c0 := hcell' k hlt
        have hsn : Hid (numU (fr.take (k + 1)) = numUStep (numU (fr.take k)) fr[k]) := by
          unfold Hid
          rw [List.take_succ_eq_append_getElem hlt, numU_snoc]
        clear hcell'
        go_wp2
        exact ⟨⟨k + 1, by omega, by go_num, by rw [unhide hsn, numUStep_eq]⟩, by simp [intOf]; omega⟩
      · go_wp2
        go_ret
        obtain rfl : k = fr.length := by omega
        exact ⟨by rw [List.take_length]; rfl, hr⟩

set_option maxHeartbeats 400000 in
set_option maxRecDepth 100000 in
theorem rr_u8 (b : Nat) (v : Value) (s : St) (w : World) (h : RIs 59 w b v s) (ho : s.ok) (hb : s.bs.length ≤ 140737488355328) :
    Calls Try.prog 29 #[.pointer (some ⟨b, 0, none⟩)] w fun e w' => e = .returned (.int .i64 (num (s.take 1).1)) ∧ Now 59 w b v (s.take 1).2 w' := by
  have hq := hide (rr_u b v s 1 w h ho hb (by omega))
  have hnm := hide (num_numU (s.take 1).1)
  go_enter Try.func29, Try.ntmps29
  go_wp2_with fail
  refine (unhide hq).mono ?_
  clear hq
  rintro e w1 ⟨rfl, hr⟩
  go_wp2
  go_ret
  exact ⟨ret_int (unhide hnm).symm, hr⟩

set_option maxHeartbeats 400000 in
set_option maxRecDepth 100000 in
theorem rr_u32 (b : Nat) (v : Value) (s : St) (w : World) (h : RIs 59 w b v s) (ho : s.ok) (hb : s.bs.length ≤ 140737488355328) :
    Calls Try.prog 30 #[.pointer (some ⟨b, 0, none⟩)] w fun e w' => e = .returned (.int .i64 (num (s.take 4).1)) ∧ Now 59 w b v (s.take 4).2 w' := by
  have hq := hide (rr_u b v s 4 w h ho hb (by omega))
  have hnm := hide (num_numU (s.take 4).1)
  go_enter Try.func30, Try.ntmps30
  go_wp2_with fail
  refine (unhide hq).mono ?_
  clear hq
  rintro e w1 ⟨rfl, hr⟩
  go_wp2
  go_ret
  exact ⟨ret_int (unhide hnm).symm, hr⟩

end Go.Proofs.Ytcojlmfdonbkmaa
