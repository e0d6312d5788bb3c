/- Writers and their steps in new memory; package event's own layDef, Lay. -/
import Derived.Test.YthclffafbkeepaaEvG
import Derived.Test.YthclffafbkeepaaEvF
import Derived.Test.YthclffafbkeepaaOctW
namespace Go.Proofs.Ythclffafbkeepaa
open Go.RowKit

/-- A Writer whose blocks are of G or new since w0; nothing else has turned. -/
structure WNe (T : TypeId) (G : Nat → Prop) (w0 : World) (b : Nat) (bs : List UInt8) (v : Value) (w : World) : Prop where
  at' : WAt T w b v bs
  turn : Turn G w0 w
  new : G b ∨ w0.heap.size ≤ b
  newv : ∀ k, v.ownBlock = some k → G k ∨ w0.heap.size ≤ k

def WrS (T : TypeId) (G : Nat → Prop) (w0 : World) (b : Nat) (bs : List UInt8) (w : World) : Prop := ∃ v, WNe T G w0 b bs v w

theorem WrS.start (T : TypeId) (w : World) : WrS T (fun _ => False) w w.heap.size [] (w.alloc (.cells #[.slice none 0 0] T)) :=
  ⟨_, WAt.new T w, (Turn.refl _ _).alloc _, .inr (Nat.le_refl _), fun k hk => by simp [Value.ownBlock] at hk⟩

theorem WrS.turn {T : TypeId} {G : Nat → Prop} {w0 w : World} {b : Nat} {bs : List UInt8} (h : WrS T G w0 b bs w) : Turn G w0 w := by
  obtain ⟨v, h⟩ := h
  exact h.turn

theorem WNe.step {T : TypeId} {G : Nat → Prop} {w w1 w2 : World} {b : Nat} {v v2 : Value} {bs bs2 : List UInt8} (h : WNe T G w b bs v w1) (hst : WStep T b w1 v w2 v2 bs2) : WrS T G w b bs2 w2 := by
  refine ⟨v2, hst.at', h.turn.trans' hst.turn (fun i hi hS => ?_), h.new, fun k hk => ?_⟩
  · have hb := h.new
    rcases hS with rfl | hS
    · rcases hb with hb | hb
      · exact hb
      · omega
    · rcases h.newv i hS with hb | hb
      · exact hb
      · omega
  · rcases hst.moved with hm | ⟨j, hj, hle⟩
    · exact h.newv k (hm ▸ hk)
    · rw [hj] at hk
      injection hk with hk
      have := h.turn.size
      exact .inr (by omega)

theorem WrS.goes {T : TypeId} {G : Nat → Prop} {w w1 w2 : World} {b : Nat} {bs : List UInt8} (h : WrS T G w b bs w1) (t : Turn (fun _ => False) w1 w2) : WrS T G w b bs w2 := by
  obtain ⟨v, h⟩ := h
  exact ⟨v, h.at'.kept t (fun h => h) (fun _ _ h => h), h.turn.trans' t (fun _ _ h => h.elim), h.new, h.newv⟩

/-- The same Writer, seen from here on: what is here besides it stays. -/
theorem WrS.over {T : TypeId} {G : Nat → Prop} {w0 w wa : World} {b : Nat} {bs : List UInt8} (h : WrS T G w0 b bs w) (t : Turn (fun _ => False) w wa) :
    ∃ G' : Nat → Prop, WrS T G' wa b bs wa ∧ (∀ k, G' k → k < w.heap.size ∧ (G k ∨ w0.heap.size ≤ k)) ∧ ∀ bs2 w2, WrS T G' wa b bs2 w2 → WrS T G w0 b bs2 w2 := by
  obtain ⟨v, h⟩ := h
  have hlt : ∀ k, (k = b ∨ v.ownBlock = some k) → k < w.heap.size := fun k hk => by
    rcases hk with rfl | hk
    · exact h.at'.1.lt
    · exact h.at'.2.1.lt hk
  have hG : ∀ k, (k = b ∨ v.ownBlock = some k) → G k ∨ w0.heap.size ≤ k := fun k hk => by
    rcases hk with rfl | hk
    · exact h.new
    · exact h.newv k hk
  refine ⟨fun k => k = b ∨ v.ownBlock = some k, ⟨v, h.at'.kept t (fun h => h) (fun _ _ h => h), Turn.refl _ _, .inl (.inl rfl), fun k hk => .inl (.inr hk)⟩, fun k hk => ⟨hlt k hk, hG k hk⟩, fun bs2 w2 h2 => ?_⟩
  obtain ⟨v2, h2⟩ := h2
  refine ⟨v2, h2.at', (h.turn.trans' t (fun _ _ h => h.elim)).trans' h2.turn (fun i hi hS => ?_), ?_, fun k hk => ?_⟩
  · rcases hG i hS with hb | hb
    · exact hb
    · omega
  · exact h.new
  · rcases h2.newv k hk with hb | hb
    · exact hG k hb
    · have := h.turn.size
      have := t.size
      exact .inr (by omega)

theorem IntsQ.ltE {Q : Nat → Prop} {w : World} {v : Value} {xs : List Int} (h : IntsQ Q w v xs) : IntsQ (fun j => j < w.heap.size) w v xs := by
  rcases h with h | ⟨a, cap, rfl, hm, hc⟩
  · exact .inl h
  · refine .inr ⟨a, cap, rfl, hm, fun k hk => ⟨?_, (hc k hk).2⟩⟩
    have := World.block_lt_of_cell? _ _ (hc k hk).2
    rwa [addr_add_block] at this

theorem DefsQ.ltE {Q : Nat → Prop} {w : World} {v : Value} {ds : List Df} (h : DefsQ Q w v ds) : DefsQ (fun j => j < w.heap.size) w v ds := by
  rcases h with h | ⟨g, o, cap, rfl, hm, hc⟩
  · exact .inl h
  · refine .inr ⟨g, o, cap, rfl, hm, fun k hk => ?_⟩
    obtain ⟨_, nv, c0, c1, c2, h2⟩ := hc k hk
    exact ⟨World.block_lt_of_cell? w ⟨g, o + k * 3 + 1, none⟩ c1, nv, c0, c1, c2, h2.ltE⟩

theorem Sees.ltE {w : World} {s : Value} {ds : List UInt8} (h : Sees w s ds) (h0 : 0 < ds.length) {k : Nat} (hk : slab s = some k) : k < w.heap.size := by
  rcases h with ⟨_, rfl⟩ | ⟨a, cap, rfl, hc, hm, hcell⟩
  · simp at h0
  · obtain ⟨d, r, rfl⟩ : ∃ d r, ds = d :: r := by
      cases ds with
      | nil => simp at h0
      | cons d r => exact ⟨d, r, rfl⟩
    have := World.block_lt_of_cell? _ _ (hcell 0 _ rfl)
    rw [addr_add_block] at this
    have e : a.block = k := by
      unfold slab at hk
      simpa using hk
    omega

section
variable {G : Nat → Prop} {w0 w : World} {b : Nat} {bs : List UInt8}

theorem wn_u8 (n : Int) (h : WrS 64 G w0 b bs w) (hb : bs.length ≤ 100000000) : Calls Try.prog 24 #[.pointer (some ⟨b, 0, none⟩), .int .i64 n] w fun e w' => e = .returned (.tuple #[]) ∧ WrS 64 G w0 b (bs ++ be n 1) w' := by
  obtain ⟨v, h⟩ := h
  refine (u8_any b v bs n w h.at' (by omega)).mono ?_
  rintro e w' ⟨rfl, v', hs⟩
  exact ⟨rfl, h.step hs⟩

theorem wn_u16 (n : Int) (h : WrS 64 G w0 b bs w) (hb : bs.length ≤ 100000000) : Calls Try.prog 22 #[.pointer (some ⟨b, 0, none⟩), .int .i64 n] w fun e w' => e = .returned (.tuple #[]) ∧ WrS 64 G w0 b (bs ++ be n 2) w' := by
  obtain ⟨v, h⟩ := h
  refine (u16_any b v bs n w h.at' (by omega)).mono ?_
  rintro e w' ⟨rfl, v', hs⟩
  exact ⟨rfl, h.step hs⟩

theorem wn_u64 (n : Int) (h : WrS 64 G w0 b bs w) (hb : bs.length ≤ 100000000) : Calls Try.prog 23 #[.pointer (some ⟨b, 0, none⟩), .int .i64 n] w fun e w' => e = .returned (.tuple #[]) ∧ WrS 64 G w0 b (bs ++ be n 8) w' := by
  obtain ⟨v, h⟩ := h
  refine (u64_any b v bs n w h.at' (by omega)).mono ?_
  rintro e w' ⟨rfl, v', hs⟩
  exact ⟨rfl, h.step hs⟩

theorem wn_text (s : ByteArray) (h : WrS 64 G w0 b bs w) (hs : s.size ≤ 65535) (hb : bs.length ≤ 100000000) : Calls Try.prog 25 #[.pointer (some ⟨b, 0, none⟩), .string s] w fun e w' => e = .returned (.bool true) ∧ WrS 64 G w0 b (bs ++ sh s.data.toList) w' := by
  obtain ⟨v, h⟩ := h
  refine (text_yes b v s bs w h.at' hs (by omega)).mono ?_
  rintro e w' ⟨rfl, v', hs⟩
  exact ⟨rfl, h.step hs⟩

theorem wn_short (s : Value) (ds : List UInt8) (h : WrS 64 (fun _ => False) w0 b bs w) (hs : Sees w0 s ds) (hd : ds.length ≤ 65535) (hb : bs.length ≤ 100000000) : Calls Try.prog 26 #[.pointer (some ⟨b, 0, none⟩), s] w fun e w' => e = .returned (.bool true) ∧ WrS 64 (fun _ => False) w0 b (bs ++ sh ds) w' := by
  obtain ⟨v, h⟩ := h
  refine (short_yes b v s bs ds w h.at' (hs.kept h.turn (fun _ _ h => h)) (fun h0 k hk => ⟨?_, fun e => ?_⟩) hd (by omega)).mono ?_
  · have := hs.ltE h0 hk
    rcases h.new with h | h
    · exact h.elim
    · omega
  · have := hs.ltE h0 hk
    rcases h.newv k e with h | h
    · exact h.elim
    · omega
  · rintro e w' ⟨rfl, v', hs⟩
    exact ⟨rfl, h.step hs⟩

theorem wn_bytes (h : WrS 64 (fun _ => False) w0 b bs w) (hb : bs.length ≤ 100000000) : Calls Try.prog 28 #[.pointer (some ⟨b, 0, none⟩)] w fun e w' => ∃ v', e = .returned v' ∧ Made w0 v' bs w' := by
  obtain ⟨v, h⟩ := h
  refine (bytes_any b v bs w h.at' (by omega)).mono ?_
  rintro e w' ⟨v', rfl, ho, hg, hk⟩
  refine ⟨v', rfl, ho, h.turn.trans (turn_of_grown hg), fun k e => ?_⟩
  rcases hk with hk | hk
  · rw [hk] at e; cases e
  · rw [hk] at e
    injection e with e
    have := h.turn.size
    omega

set_option maxHeartbeats 8000000 in
set_option maxRecDepth 100000 in
theorem layDef_any {nv : Value} (d : Df) (hx : IntsQ (fun j => j < w0.heap.size ∧ ¬ G j) w nv d.1) (h : WrS 64 G w0 b bs w) (hd : d.1.length ≤ 1000000) (hb : bs.length ≤ 10000000) :
    Calls Try.prog 27 #[.pointer (some ⟨b, 0, none⟩), dfV d nv] w fun e w' => e = .returned (.tuple #[]) ∧ WrS 64 G w0 b (bs ++ defBy d) w' := by
  obtain ⟨ao, ac, rfl, hm⟩ := hx.shape
  obtain ⟨xs, d1, d2⟩ := d
  unfold dfV
  simp only at *
  have ta : Turn (fun _ => False) w (w.alloc (.cells #[.slice ao xs.length ac, .int .i64 d1, .int .i64 d2] 45)) := (Turn.refl _ _).alloc _
  have hA : At 45 (w.alloc (.cells #[.slice ao xs.length ac, .int .i64 d1, .int .i64 d2] 45)) w.heap.size #[.slice ao xs.length ac, .int .i64 d1, .int .i64 d2] := At.new _ _ _
  obtain ⟨len, hlen⟩ : ∃ n, n = xs.length := ⟨_, rfl⟩
  obtain ⟨fin, hfin⟩ : ∃ r, r = bs ++ defBy (xs, d1, d2) := ⟨_, rfl⟩
  have hfin2 : fin = bs ++ be d1 1 ++ be d2 8 ++ be len 1 ++ xs.flatMap (fun n => be n 1) := by
    rw [hfin, hlen]
    unfold defBy
    simp only [List.append_assoc]
  rw [← hfin]
  obtain ⟨G', h1, hG', hback⟩ := h.over ta
  have hx1 := hx.kept ta (fun _ _ h => h)
  rw [← hlen] at hA ta hd hx1 ⊢
  rw [← hlen] at hback h1 hm
  obtain ⟨wa, hwa⟩ : ∃ x, x = w.alloc (.cells #[.slice ao len ac, .int .i64 d1, .int .i64 d2] 45) := ⟨_, rfl⟩
  rw [← hwa] at ta hA h1 hback hx1
  obtain ⟨db, hdb⟩ : ∃ x, x = w.heap.size := ⟨_, rfl⟩
  rw [← hdb] at hA hG'
  have hdG : ¬ G' db := fun h => by have := (hG' db h).1; omega
  have hQG : ∀ j, (j < w0.heap.size ∧ ¬ G j) → ¬ G' j := fun j hj h => by
    rcases (hG' j h).2 with h | h
    · exact hj.2 h
    · omega
  have H1 := hide h1
  have HA := hide hA
  have HX := hide hx1
  have HL := hide hlen
  have HF := hide hfin2
  have HM := hide hm
  have HK := hide hback
  have HG := hide hdG
  have HQ := hide hQG
  have c1 : wa.cell? ⟨db, 1, none⟩ = some (.int .i64 d1) := hA.cell 1
  have HB := hide hdb
  have HW := hide hwa
  unfold maxLen at hm
  clear h ta hA hx hx1 hlen hfin hfin2 hdb hwa h1 hback hG' hdG hQG
  go_enter Try.func27, Try.ntmps27
  go_upto_region 1 with fail
  rw [← unhide HW, ← unhide HB]
  go_wp2_with fail
  refine (wn_u8 d1 (unhide H1) (by omega)).mono ?_
  rintro e w2 ⟨rfl, h2⟩
  have H2 := hide h2
  have c2 : w2.cell? ⟨db, 2, none⟩ = some (.int .i64 d2) := ((unhide HA).kept h2.turn (unhide HG)).cell 2
  clear h2 c1
  go_wp2_with fail
  refine (wn_u64 d2 (unhide H2) (by simp [be_length]; omega)).mono ?_
  rintro e w3 ⟨rfl, h3⟩
  have H3 := hide h3
  have c3 : w3.cell? ⟨db, 0, none⟩ = some (.slice ao len ac) := ((unhide HA).kept h3.turn (unhide HG)).cell 0
  clear h3 c2
  go_wp2_with fail
  refine (wn_u8 len (unhide H3) (by simp [be_length]; omega)).mono ?_
  rintro e w4 ⟨rfl, h4⟩
  have H4 := hide h4
  have c4 : w4.cell? ⟨db, 0, none⟩ = some (.slice ao len ac) := ((unhide HA).kept h4.turn (unhide HG)).cell 0
  clear h4 c3
  go_wp2_with fail
  go_loopw [5, 22] (fun _ i wr => ∃ n : Nat, i = .int .i64 n ∧ n ≤ len ∧ WrS 64 G' wa b (bs ++ be d1 1 ++ be d2 8 ++ be len 1 ++ (xs.take n).flatMap (fun n => be n 1)) wr) (fun _ i _ => len - (intOf i).toNat)
  case atStart => exact ⟨0, rfl, by omega, by simpa using unhide H4⟩
  case round =>
    obtain ⟨n, rfl, hn, hr⟩ := hrel
    have HR := hide hr
    by_cases hlt : n < len
    · have hnx : n < xs.length := by have := unhide HL; omega
      have hxr := (unhide HX).kept hr.turn (fun j hj => unhide HQ j hj)
      obtain ⟨xa, rfl, a0⟩ := hxr.at n hnx
      have hnext : Hid (xs.take (n + 1) = xs.take n ++ [xs[n]]) := hide (List.take_succ_eq_append_getElem hnx)
      generalize xs[n] = x at *
      have q1 : (n : Int) < len := by omega
      have hbd : Hid ((bs ++ be d1 1 ++ be d2 8 ++ be (len : Int) 1 ++ (xs.take n).flatMap (fun n => be n 1)).length ≤ 100000000) := hide (by
        simp only [List.length_append, be_length, ones_length, List.length_take]
        omega)
      clear hr hxr c4
      go_wp2_with (go_at_call 24; refine (wn_u8 x (unhide HR) (unhide hbd)).mono ?_; rintro e w5 ⟨rfl, h5⟩)
      go_roundw
      case rel =>
        refine ⟨n + 1, by go_num, by omega, ?_⟩
        rw [unhide hnext, List.flatMap_append]
        simpa using h5
      case measure => simp [intOf]; omega
    · obtain rfl : n = len := by omega
      have q1 : ¬ (n : Int) < n := by omega
      clear hr
      go_wp2_with fail
      go_end0
      refine ⟨rfl, unhide HK _ _ ?_⟩
      have h5 := unhide HR
      rw [List.take_of_length_le (by have := unhide HL; omega)] at h5
      rw [unhide HF]
      exact h5

end

end Go.Proofs.Ythclffafbkeepaa
