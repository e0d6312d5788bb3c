/- What the calls of package octet's Reader do to memory. -/
import Derived.Test.YthclffafbkeepaaOctW
import Derived.Test.YthclffafbkeepaaSt
namespace Go.Proofs.Ythclffafbkeepaa
open Go.RowKit

theorem take_fin {T : TypeId} {b : Nat} {w : World} {a : Addr} {cap : Nat} {bs : List UInt8} {lack : Bool} (h : RAt T w b (.slice (some a) bs.length cap) bs lack) (n : Nat) (hn : n ≤ bs.length) (a2 : Addr) (h2 : a2 = a.add n ∨ n = cap) (hb : a2.block = a.block) :
    Sees (w.setCell ⟨b, 0, none⟩ (.slice (some a2) (bs.length - n) (cap - n))) (.slice (some a) n cap) (bs.take n) ∧ RAt T (w.setCell ⟨b, 0, none⟩ (.slice (some a2) (bs.length - n) (cap - n))) b (.slice (some a2) (bs.length - n) (cap - n)) (bs.drop n) lack ∧
      Turn (fun k => k = b) w (w.setCell ⟨b, 0, none⟩ (.slice (some a2) (bs.length - n) (cap - n))) := by
  have hs := h.2.1.behind n hn a2 h2
  have hne : a.block ≠ b := fun e => h.2.2 (by simp [slab, e])
  obtain ⟨h1, ht⟩ := h.set hs (by simp only [slab, hb]; intro e; injection e with e; exact hne e)
  refine ⟨(h.2.1.front n hn).kept ht (fun k hk e => ?_), h1, ht⟩
  simp only [slab, Option.some.injEq] at hk
  exact hne (hk.trans e)

/-- A Reader in memory. -/
def RIs (T : TypeId) (w : World) (b : Nat) (v : Value) (s : St) : Prop := RAt T w b v s.bs s.lack

/-- What was taken: fv shows it, the Reader has what is behind it. -/
def Took (T : TypeId) (w : World) (b : Nat) (v : Value) (r : List UInt8 × St) (fv : Value) (w' : World) : Prop :=
  Sees w' fv r.1 ∧ (∀ k, slab fv = some k → slab v = some k) ∧ ∃ v', RStep T b w v w' v' r.2.bs r.2.lack

/-- The Reader has s now. -/
def Now (T : TypeId) (w : World) (b : Nat) (v : Value) (s : St) (w' : World) : Prop := ∃ v', RStep T b w v w' v' s.bs s.lack

set_option maxHeartbeats 400000 in
set_option maxRecDepth 100000 in
theorem take_yes (b : Nat) (v : Value) (s : St) (n : Nat) (w : World) (h : RIs 71 w b v s) (hn : n ≤ s.bs.length) :
    Calls Try.prog 57 #[.pointer (some ⟨b, 0, none⟩), .int .i64 n] w fun e w' => ∃ fv, e = .returned fv ∧ Took 71 w b v (s.take n) fv w' := by
  rw [s.take_yes n (by omega) (by omega), Int.toNat_natCast]
  obtain ⟨bs, lack⟩ := s
  have hlen := h.2.1.len
  unfold maxLen at hlen
  have hlt := h.1.lt
  have f0 := h.1.frozen 0
  have h2 := h.2.1
  simp only at hn h2 hlen
  rcases h2 with ⟨rfl, rfl⟩ | ⟨a, cap, rfl, hc, hm, hcell⟩
  · obtain rfl : n = 0 := by simpa using hn
    have c0 : w.cell? ⟨b, 0, none⟩ = some (.slice none 0 0) := by rw [h.1.cell]; rfl
    have hset := RAt.set h (Sees.nil w) (by simp [slab])
    go_enter Try.func57, Try.ntmps57
    go_wp2
    go_ret
    exact ⟨_, rfl, Sees.nil _, fun _ h => h, _, hset.1, hset.2, fun _ h => h⟩
  · have c0 : w.cell? ⟨b, 0, none⟩ = some (.slice (some a) bs.length cap) := by rw [h.1.cell]; rfl
    have h' : RAt 71 w b (.slice (some a) bs.length cap) bs lack := h
    clear hcell h
    go_enter Try.func57, Try.ntmps57
    go_wp2
    · go_ret
      have hf := take_fin h' n hn a (.inr (Eq.symm ‹cap = n›)) rfl
      obtain rfl := ‹cap = n›
      simp only [Nat.sub_self] at hf
      exact ⟨_, rfl, hf.1, fun _ h => h, _, hf.2.1, hf.2.2, fun _ h => h⟩
    · go_ret
      have hf := take_fin h' n hn (a.add n) (.inl rfl) (addr_add_block _ _)
      exact ⟨_, rfl, hf.1, fun _ h => h, _, hf.2.1, hf.2.2, by simp [slab, addr_add_block]⟩

set_option maxHeartbeats 400000 in
set_option maxRecDepth 100000 in
theorem take_no (b : Nat) (v : Value) (s : St) (n : Int) (w : World) (h : RIs 71 w b v s) (hn : n < 0 ∨ (s.bs.length : Int) < n) :
    Calls Try.prog 57 #[.pointer (some ⟨b, 0, none⟩), .int .i64 n] w fun e w' => ∃ fv, e = .returned fv ∧ Took 71 w b v (s.take n) fv w' := by
  rw [s.take_no n hn]
  obtain ⟨bs, lack⟩ := s
  have hlt := h.1.lt
  have f0 := h.1.frozen 0
  have f1 := h.1.frozen 1
  obtain ⟨ao, cap, rfl⟩ := h.2.1.shape
  have c0 : w.cell? ⟨b, 0, none⟩ = some (.slice ao bs.length cap) := by rw [h.1.cell]; rfl
  have c1 : w.cell? ⟨b, 1, none⟩ = some (.bool lack) := by rw [h.1.cell]; rfl
  have hl := RAt.lacks h
  have hb0 : 0 ≤ (bs.length : Int) := by omega
  simp only at hn
  by_cases h0 : n < 0
  · go_enter Try.func57, Try.ntmps57
    go_wp2
    go_ret
    exact ⟨_, rfl, Sees.nil _, fun _ h => by simp [slab] at h, _, hl.1, hl.2, fun _ h => by simp [slab] at h⟩
  · have h1 : (bs.length : Int) < n := by omega
    go_enter Try.func57, Try.ntmps57
    go_wp2
    go_ret
    exact ⟨_, rfl, Sees.nil _, fun _ h => by simp [slab] at h, _, hl.1, hl.2, fun _ h => by simp [slab] at h⟩

theorem take_any (b : Nat) (v : Value) (s : St) (n : Int) (w : World) (h : RIs 71 w b v s) :
    Calls Try.prog 57 #[.pointer (some ⟨b, 0, none⟩), .int .i64 n] w fun e w' => ∃ fv, e = .returned fv ∧ Took 71 w b v (s.take n) fv w' := by
  by_cases hn : n < 0 ∨ (s.bs.length : Int) < n
  · exact take_no b v s n w h hn
  · obtain ⟨k, rfl⟩ := Int.eq_ofNat_of_zero_le (show 0 ≤ n by omega)
    exact take_yes b v s k w h (by omega)

set_option maxHeartbeats 400000 in
set_option maxRecDepth 100000 in
theorem number_any (b : Nat) (v : Value) (s : St) (n : Nat) (w : World) (h : RIs 71 w b v s) (hn : n ≤ 8) :
    Calls Try.prog 56 #[.pointer (some ⟨b, 0, none⟩), .int .i64 n] w fun e w' => e = .returned (.int .i64 (num (s.take n).1)) ∧ Now 71 w b v (s.take n).2 w' := by
  have hl8 := s.take_len n
  have htk := hide (take_any b v s n w h)
  generalize s.take n = r at *
  obtain ⟨fr, st⟩ := r
  simp only at hl8 ⊢
  have hl : fr.length ≤ 8 := by omega
  clear hl8 h
  go_enter Try.func56, Try.ntmps56
  go_wp2_with fail
  refine (unhide htk).mono ?_
  clear htk
  rintro e w1 ⟨fv, rfl, hs, _, hr⟩
  simp only at hs hr
  rcases hs with ⟨rfl, rfl⟩ | ⟨a, cap, rfl, hc, hm, hcell⟩
  · go_wp2
    go_loop [5, 12] (fun x i => i = .int .i64 0 ∧ x = .int .i64 0) (fun _ _ => 0)
    case atStart => exact ⟨rfl, rfl⟩
    case round =>
      obtain ⟨rfl, rfl⟩ := hrel
      go_wp2
      go_ret
      exact ⟨rfl, hr⟩
  · have hcell' : ∀ k, (hk : k < fr.length) → w1.cell? (a.add k) = some (.int .u8 ((fr[k]).toNat : Int)) := fun k hk => hcell k _ (by simp [u8s, hk])
    clear hcell
    go_wp2
    go_loop [5, 12] (fun x i => ∃ k : Nat, k ≤ fr.length ∧ i = .int .i64 k ∧ x = .int .i64 (num (fr.take k))) (fun _ i => fr.length - (intOf i).toNat)
    case atStart => exact ⟨0, Nat.zero_le _, rfl, rfl⟩
    case round =>
      obtain ⟨k, hk, rfl, rfl⟩ := hrel
      by_cases hlt : k < fr.length
      · have c0 := hcell' k hlt
        have hsn : Hid (num (fr.take (k + 1)) = numStep (num (fr.take k)) fr[k]) := by
          unfold Hid
          rw [List.take_succ_eq_append_getElem hlt, num_snoc]
        clear hcell'
        go_wp2
        exact ⟨⟨k + 1, by omega, by go_num, by rw [unhide hsn]; rfl⟩, by simp [intOf]; omega⟩
      · go_wp2
        go_ret
        obtain rfl : k = fr.length := by omega
        exact ⟨by rw [List.take_length]; rfl, hr⟩

set_option maxHeartbeats 400000 in
set_option maxRecDepth 100000 in
theorem ru8_any (b : Nat) (v : Value) (s : St) (w : World) (h : RIs 71 w b v s) :
    Calls Try.prog 44 #[.pointer (some ⟨b, 0, none⟩)] w fun e w' => e = .returned (.int .i64 (num (s.take 1).1)) ∧ Now 71 w b v (s.take 1).2 w' := by
  have hq := hide (number_any b v s 1 w h (by omega))
  go_enter Try.func44, Try.ntmps44
  go_wp2_with fail
  refine (unhide hq).mono ?_
  clear hq
  rintro e w1 ⟨rfl, hr⟩
  go_wp2
  go_ret
  exact ⟨rfl, hr⟩

set_option maxHeartbeats 400000 in
set_option maxRecDepth 100000 in
theorem ru16_any (b : Nat) (v : Value) (s : St) (w : World) (h : RIs 71 w b v s) :
    Calls Try.prog 42 #[.pointer (some ⟨b, 0, none⟩)] w fun e w' => e = .returned (.int .i64 (num (s.take 2).1)) ∧ Now 71 w b v (s.take 2).2 w' := by
  have hq := hide (number_any b v s 2 w h (by omega))
  go_enter Try.func42, Try.ntmps42
  go_wp2_with fail
  refine (unhide hq).mono ?_
  clear hq
  rintro e w1 ⟨rfl, hr⟩
  go_wp2
  go_ret
  exact ⟨rfl, hr⟩

set_option maxHeartbeats 400000 in
set_option maxRecDepth 100000 in
theorem ru64_any (b : Nat) (v : Value) (s : St) (w : World) (h : RIs 71 w b v s) :
    Calls Try.prog 43 #[.pointer (some ⟨b, 0, none⟩)] w fun e w' => e = .returned (.int .i64 (num (s.take 8).1)) ∧ Now 71 w b v (s.take 8).2 w' := by
  have hq := hide (number_any b v s 8 w h (by omega))
  go_enter Try.func43, Try.ntmps43
  go_wp2_with fail
  refine (unhide hq).mono ?_
  clear hq
  rintro e w1 ⟨rfl, hr⟩
  go_wp2
  go_ret
  exact ⟨rfl, hr⟩

/-- A slice of one's own in new memory; the Reader has s now. -/
def Gave (T : TypeId) (w : World) (b : Nat) (v : Value) (r : List UInt8 × St) (fv : Value) (w' : World) : Prop :=
  Owns w' fv r.1 ∧ (∀ k, fv.ownBlock = some k → w.heap.size ≤ k) ∧ Now T w b v r.2 w'

theorem Took.copied {T : TypeId} {w : World} {b : Nat} {v : Value} {r : List UInt8 × St} {fv : Value} {w1 : World} (h : Took T w b v r fv w1) {fv' : Value} {w2 : World} (ho : Owns w2 fv' r.1) (hg : w1.grownBy w2 none) (hk : fv'.ownBlock = none ∨ fv'.ownBlock = some w1.heap.size) : Gave T w b v r fv' w2 := by
  obtain ⟨_, _, v', hst⟩ := h
  refine ⟨ho, fun k e => ?_, v', hst.grown (turn_of_grown hg)⟩
  rcases hk with hk | hk
  · rw [hk] at e; cases e
  · rw [hk] at e
    injection e with e
    have := hst.turn.size
    omega

set_option maxHeartbeats 400000 in
set_option maxRecDepth 100000 in
theorem rshort_any (b : Nat) (v : Value) (s : St) (w : World) (h : RIs 71 w b v s) (hb : s.bs.length ≤ 140737488355328) :
    Calls Try.prog 46 #[.pointer (some ⟨b, 0, none⟩)] w fun e w' => ∃ fv, e = .returned fv ∧ Gave 71 w b v s.short fv w' := by
  have hq := hide (ru16_any b v s w h)
  have hle := s.take_rest 2
  unfold St.short
  generalize s.take 2 = r at *
  go_enter Try.func46, Try.ntmps46
  go_wp2_with fail
  refine (unhide hq).mono ?_
  clear hq
  rintro e w1 ⟨rfl, v1, hr⟩
  have hq2 := hide (take_any b v1 r.2 (num r.1) w1 hr.at')
  have hle2 := r.2.take_le (num r.1)
  go_wp2_with fail
  refine (unhide hq2).mono ?_
  clear hq2
  rintro e w2 ⟨fv, rfl, hr2⟩
  go_wp2_with fail
  refine (copied_any fv _ w2 hr2.1 (by omega)).mono ?_
  rintro e w3 ⟨fv', rfl, ho, hg, hk⟩
  have hgv := hr2.copied ho hg hk
  have hgv' : Gave 71 w b v (r.2.take (num r.1)) fv' w3 := by
    obtain ⟨h1, h2, v', h3⟩ := hgv
    exact ⟨h1, fun k hk => Nat.le_trans hr.turn.size (h2 k hk), v', hr.trans h3⟩
  clear hgv hr2
  go_wp2
  go_ret
  exact ⟨_, rfl, hgv'⟩

set_option maxHeartbeats 400000 in
set_option maxRecDepth 100000 in
theorem rtext_any (b : Nat) (v : Value) (s : St) (w : World) (h : RIs 71 w b v s) :
    Calls Try.prog 45 #[.pointer (some ⟨b, 0, none⟩)] w fun e w' => e = .returned (.string ⟨s.short.1.toArray⟩) ∧ Now 71 w b v s.short.2 w' := by
  have hq := hide (ru16_any b v s w h)
  unfold St.short
  generalize s.take 2 = r at *
  go_enter Try.func45, Try.ntmps45
  go_wp2_with fail
  refine (unhide hq).mono ?_
  clear hq
  rintro e w1 ⟨rfl, v1, hr⟩
  have hq2 := hide (take_any b v1 r.2 (num r.1) w1 hr.at')
  go_wp2_with fail
  refine (unhide hq2).mono ?_
  clear hq2
  rintro e w2 ⟨fv, rfl, hr2⟩
  have hconv := run_text_of_sees (P := Try.prog) w2 22 9 Try.underlying22 Try.underlying5 Try.underlying9 hr2.1
  have hnow : Now 71 w b v (r.2.take (num r.1)).2 w2 := by
    obtain ⟨_, _, v', h3⟩ := hr2
    exact ⟨v', hr.trans h3⟩
  clear hr2
  go_wp2
  go_ret
  exact ⟨rfl, hnow⟩

/-- A new Reader: its block b is new, and so are its bytes. -/
def Fresh (T : TypeId) (w : World) (bs : List UInt8) (b : Nat) (w' : World) : Prop :=
  ∃ v, RIs T w' b v ⟨bs, false⟩ ∧ w.heap.size ≤ b ∧ (∀ k, slab v = some k → w.heap.size ≤ k ∧ k < w'.heap.size) ∧ Turn (fun _ => False) w w'

set_option maxHeartbeats 400000 in
set_option maxRecDepth 100000 in
theorem newReader_any (v : Value) (bs : List UInt8) (w : World) (hs : Sees w v bs) (hb : bs.length ≤ 140737488355328) :
    Calls Try.prog 30 #[v] w fun e w' => ∃ b, e = .returned (.pointer (some ⟨b, 0, none⟩)) ∧ Fresh 71 w bs b w' := by
  go_enter Try.func30, Try.ntmps30
  go_wp2_with fail
  refine (copied_any v bs w hs hb).mono ?_
  rintro e w1 ⟨fv, rfl, ho, hg, hk⟩
  have hfr : Fresh 71 w bs w1.heap.size (w1.alloc (.cells #[fv, .bool false] 71)) := by
    have hsz := hg.size
    have hne : slab fv ≠ some w1.heap.size := by
      rw [ho.slab_eq]
      intro e
      have := ho.lt e
      omega
    refine ⟨fv, ⟨At.new _ w1 _, ho.sees.kept ((Turn.refl (fun _ => False) _).alloc _) (fun _ _ h => h), hne⟩, hsz, fun k e => ?_, (turn_of_grown hg).alloc _⟩
    rw [ho.slab_eq] at e
    have hlt := ho.lt e
    rcases hk with hk | hk
    · rw [hk] at e; cases e
    · rw [hk] at e; injection e with e; simp; omega
  obtain ⟨ao, cap, rfl⟩ := ho.shape
  clear ho hg hk
  go_wp2
  go_ret
  exact ⟨_, rfl, hfr⟩

end Go.Proofs.Ythclffafbkeepaa
