/- The closed sentence of chapter 3: its walk. -/
import Derived.Test.YtcojlmfdonbkmaaFrameL
import Derived.Test.YtcojlmfdonbkmaaRecB
import Derived.Test.YtcojlmfdonbkmaaPut
namespace Go.Proofs.Ytcojlmfdonbkmaa
open Go.RowKit

theorem next_any (f t : Nat) (v : Value) (bs : List UInt8) (w : World) (h : Fr w f t) (hs : Sees w v bs) :
    Calls Try.prog 8 #[.pointer (some ⟨f, 0, none⟩), v] w fun e w' => ∃ v', e = .returned (toldValue (tell bs) v') ∧ NextIs w f t (tell bs) v' w' := by
  by_cases hl : bs.length < 9
  · exact next_short f t v bs w h hs hl
  · obtain ⟨A, L, S, R, h1, h2, h3, h4, h5⟩ := parts bs (by omega)
    rw [h5]
    exact next_long f t v bs A L S R w h hs h1 h2 h3 h4

/-- A Framer of the law's own, in new memory; nothing else has turned. -/
structure FOwn (w w' : World) (f t : Nat) : Prop where
  fr : Fr w' f t
  turn : Turn (fun _ => False) w w'
  newf : w.heap.size ≤ f
  newt : w.heap.size ≤ t

theorem FOwn.of {w w' : World} {f : Nat} (h : FrNew w f w') : ∃ t, FOwn w w' f t := by
  obtain ⟨t, h1, h2, h3, h4⟩ := h
  exact ⟨t, h1, h4, h2, h3⟩

theorem FOwn.goes {w w1 w2 : World} {f t : Nat} (h : FOwn w w1 f t) (ht : Turn (fun _ => False) w1 w2) : FOwn w w2 f t := ⟨h.fr.goes ht, h.turn.trans ht, h.newf, h.newt⟩

theorem FOwn.turned {w w1 w2 : World} {f t : Nat} (h : FOwn w w1 f t) (h2 : Fr w2 f t) (ht : Turn (fun k => k = t) w1 w2) : FOwn w w2 f t := ⟨h2, h.turn.trans' ht (fun i hi e => by have := h.newt; omega), h.newf, h.newt⟩

theorem FOwn.next {w w1 w2 : World} {f t : Nat} {r : Told} {v : Value} (h : FOwn w w1 f t) (hn : NextIs w1 f t r v w2) : FOwn w w2 f t := h.turned hn.2.1 hn.2.2

theorem FOwn.laid {w w1 w2 : World} {f t : Nat} {bs : List UInt8} {v : Value} (h : FOwn w w1 f t) (hn : Laid w1 f t bs v w2) : FOwn w w2 f t := h.turned hn.2.2.1 hn.2.2.2

set_option maxHeartbeats 1000000 in
set_option maxRecDepth 100000 in
theorem frameExample_any (w : World) : Calls Try.prog 6 #[] w fun e w' => e = .returned (.bool true) ∧ Turn (fun _ => False) w w' := by
  go_enter Try.func6, Try.ntmps6
  go_wp2_with fail
  refine (frameNew_any w).mono ?_
  rintro e w1 ⟨f, rfl, h1⟩
  obtain ⟨t, h1⟩ := FOwn.of h1
  go_wp2_with fail
  refine (next_any f t _ [] w1 h1.fr (Sees.nil _)).mono ?_
  rintro e w2 ⟨v2, rfl, hn⟩
  have h2 := h1.next hn
  rw [tell_short [] (by simp)]
  rw [tell_short [] (by simp)] at hn
  obtain ⟨ao2, cap2, rfl⟩ := hn.1.shape
  clear h1 hn
  unfold toldValue
  obtain ⟨w3, hcv, hs3, t3⟩ := run_lit w2 [97] (by simp [maxLen])
  have h3 := h2.goes t3
  have hltt := h2.fr.ltt
  simp [u8s] at hcv
  simp only [List.length_cons, List.length_nil, Nat.zero_add] at hs3
  go_wp2_with fail
  refine (lay_yes f t 1 _ [97] w3 h3.fr (by omega) (by omega) hs3 (by simp) (fun _ e => by simp [slab] at e; omega) (fun h0 j e => slab_lt hs3 h0 e)).mono ?_
  rintro e w4 ⟨v4, rfl, hl⟩
  have h4 := h3.laid hl
  rw [record_a] at hl
  obtain ⟨ao4, cap4, e4⟩ := hl.1.shape
  subst e4
  have s4 := hl.1.sees
  simp only [List.length_cons, List.length_nil, Nat.zero_add, Nat.reduceAdd] at s4
  clear hcv hs3 t3 h2 h3 hl hltt
  go_wp2_with fail
  refine (next_any f t _ _ w4 h4.fr s4).mono ?_
  rintro e w5 ⟨v5, rfl, hn⟩
  have h5 := h4.next hn
  rw [tell_a]
  rw [tell_a] at hn
  have hconv := run_text_of_sees (P := Try.prog) w5 25 9 Try.underlying25 Try.underlying5 Try.underlying9 hn.1.sees
  obtain ⟨ao5, cap5, rfl⟩ := hn.1.shape
  simp only [List.length_cons, List.length_nil, Nat.zero_add] at hconv
  clear s4 hn h4
  have hsz := hide (size_small 1 w5 (by omega) (by omega))
  unfold toldValue
  go_wp2_with fail
  refine (unhide hsz).mono ?_
  rintro e w6 ⟨rfl, rfl⟩
  go_wp2
  go_ret
  exact ⟨rfl, h5.turn⟩

theorem make_great (w : World) : ∃ w', (Instr.makeSlice 25 (.int .i64 1048577) (.int .i64 1048577)).run Try.prog w = .ok (.slice (some ⟨w.heap.size, 0, none⟩) 1048577 1048577) w' ∧ Turn (fun _ => False) w w' := by
  obtain ⟨i0, hi, hz0, hz1, hz2⟩ := info_parts Try.infoU8
  have h := run_makeSlice (P := Try.prog) w 25 5 i0 (.int .u8 0) Try.underlying25 hi hz0 .i64 .i64 1048577 1048577 (by omega) (by omega) (by rw [hz1]; decide) (by rw [hz2]; decide) (by omega)
  exact ⟨_, h, (Turn.refl _ _).alloc _⟩

set_option maxHeartbeats 2000000 in
set_option maxRecDepth 100000 in
theorem frameKnown_any (w : World) : Calls Try.prog 3 #[] w fun e w' => e = .returned (.bool true) ∧ Turn (fun _ => False) w w' := by
  go_enter Try.func3, Try.ntmps3
  go_wp2_with fail
  refine (frameNew_any w).mono ?_
  rintro e w1 ⟨f, rfl, h1⟩
  obtain ⟨t, h1⟩ := FOwn.of h1
  go_wp2_with fail
  refine (frameExample_any w1).mono ?_
  rintro e w2 ⟨rfl, t2⟩
  have h2 := h1.goes t2
  clear h1 t2
  go_wp2_with fail
  refine (lay_no f 0 none 0 0 w2 (by omega)).mono ?_
  rintro e w3 ⟨rfl, rfl⟩
  go_wp2_with fail
  refine (lay_no f 256 none 0 0 w2 (by omega)).mono ?_
  rintro e w3 ⟨rfl, rfl⟩
  obtain ⟨w3, hmk, t3⟩ := make_great w2
  have h3 := h2.goes t3
  go_wp2_with fail
  refine (lay_no f 1 _ 1048577 1048577 w3 (by omega)).mono ?_
  rintro e w4 ⟨rfl, rfl⟩
  clear h2 t3 hmk
  obtain ⟨w4, hcv, hs4, t4⟩ := run_lit w3 [104, 101, 108, 108, 111] (by simp [maxLen])
  have h4 := h3.goes t4
  have hltt := h3.fr.ltt
  simp [u8s] at hcv
  simp only [List.length_cons, List.length_nil, Nat.zero_add, Nat.reduceAdd] at hs4
  go_wp2_with fail
  refine (lay_yes f t 7 _ [104, 101, 108, 108, 111] w4 h4.fr (by omega) (by omega) hs4 (by simp) (fun _ e => by simp [slab] at e; omega) (fun h0 j e => slab_lt hs4 h0 e)).mono ?_
  rintro e w5 ⟨v5, rfl, hl⟩
  have h5 := h4.laid hl
  rw [record_hello] at hl
  obtain ⟨g5, cap5, e5⟩ := hl.1.solid (by simp)
  subst e5
  have s5 := hl.1.sees
  have hne5 := hl.2.1 g5 rfl
  have s13 := s5.front 13 (by simp)
  simp only [List.length_cons, List.length_nil, Nat.zero_add, Nat.reduceAdd] at s5 s13
  have hcap5 : 14 ≤ cap5 := by
    rcases hl.1.2 with ⟨e, _⟩ | ⟨_, _, _, e, _, _, hle, _⟩
    · cases e
    · simp only [Value.slice.injEq, true_and] at e
      obtain ⟨_, rfl⟩ := e
      simpa using hle
  have hcapm5 : cap5 ≤ 9223372036854775807 := by
    rcases hl.1.2 with ⟨e, _⟩ | ⟨_, _, _, e, _, _, _, hle, _⟩
    · cases e
    · simp only [Value.slice.injEq, true_and] at e
      obtain ⟨_, rfl⟩ := e
      exact hle
  have hlt5 := h4.fr.ltt
  clear hcv hs4 t4 h3 h4 hl hltt
  go_wp2_with fail
  refine (next_any f t _ _ w5 h5.fr s13).mono ?_
  rintro e w6 ⟨v6, rfl, hn⟩
  have h6 := h5.next hn
  have s6 := s5.kept hn.2.2 (fun k hk e => by simp only [slab, Option.some.injEq] at hk; omega)
  rw [show List.take 13 ([7, 0, 0, 0, 5, 161, 169, 179, 39, 104, 101, 108, 108, 111] : List UInt8) = [7, 0, 0, 0, 5, 161, 169, 179, 39, 104, 101, 108, 108] from rfl, tell_13] at hn ⊢
  obtain ⟨ao6, cap6, e6⟩ := hn.1.shape
  subst e6
  clear h5 hn s13 s5
  unfold toldValue
  have hs7 := Sees.lit w6 [0, 0, 0, 0, 0, 0, 0, 0, 0] 5 (by simp [maxLen])
  have t7 : Turn (fun _ => False) w6 (w6.alloc (.cells (u8s [0, 0, 0, 0, 0, 0, 0, 0, 0]).toArray 5)) := (Turn.refl _ w6).alloc _
  have h7 := h6.goes t7
  have s7 := s6.kept t7 (fun _ _ h => h)
  simp [u8s] at hs7 h7 s7
  clear t7
  go_wp2_with fail
  refine (next_any f t _ [0, 0, 0, 0, 0, 0, 0, 0, 0] _ h7.fr hs7).mono ?_
  rintro e w8 ⟨v8, rfl, hn⟩
  have h8 := h7.next hn
  have s8 := s7.kept hn.2.2 (fun k hk e => by simp only [slab, Option.some.injEq] at hk; omega)
  rw [tell_zeros] at hn ⊢
  obtain ⟨ao8, cap8, e8⟩ := hn.1.shape
  subst e8
  clear h6 hn h7 s6 s7 hs7
  unfold toldValue
  have hs9 := Sees.lit w8 [1, 255, 0, 0, 0, 0, 0, 0, 0] 5 (by simp [maxLen])
  have t9 : Turn (fun _ => False) w8 (w8.alloc (.cells (u8s [1, 255, 0, 0, 0, 0, 0, 0, 0]).toArray 5)) := (Turn.refl _ w8).alloc _
  have h9 := h8.goes t9
  have s9 := s8.kept t9 (fun _ _ h => h)
  simp [u8s] at hs9 h9 s9
  clear t9
  go_wp2_with fail
  refine (next_any f t _ [1, 255, 0, 0, 0, 0, 0, 0, 0] _ h9.fr hs9).mono ?_
  rintro e w10 ⟨v10, rfl, hn⟩
  have h10 := h9.next hn
  have s10 := s9.kept hn.2.2 (fun k hk e => by simp only [slab, Option.some.injEq] at hk; omega)
  rw [tell_great] at hn ⊢
  obtain ⟨ao10, cap10, e10⟩ := hn.1.shape
  subst e10
  clear h8 hn h9 s8 s9 hs9
  unfold toldValue
  obtain ⟨i0, hi, hz0, hz1, hz2⟩ := info_parts Try.infoU8
  have hsee := s10.kept ((Turn.refl (fun _ => False) w10).alloc (.cells #[] 5)) (fun _ _ h => h)
  go_wp2_with (at_builtin; refine wpList_append_sees _ rfl (.tmp 85) (.tmp 86) 25 rfl i0 Try.underlying25 hi hz0 hz1 hz2 _ [] rfl (owns_empty w10) _ _ rfl hsee (by simp) ?_)
  intro v11 w11 ho hg hk
  have hm := Made.append ho hg hk
  have h11 := h10.goes hm.2.1
  obtain ⟨g, cap, e11⟩ := hm.1.solid (by simp)
  subst e11
  have hnew := hm.2.2 g rfl
  have c13 : w11.cell? ⟨g, 13, none⟩ = some (.int .u8 111) := Owns.at hm.1 13 (by simp)
  have z13 : w11.frozen? ⟨g, 13, none⟩ = false := Owns.frozenAt hm.1 13
  have o12 : Owns (w11.setCell ⟨g, 13, none⟩ (.int .u8 112)) (.slice (some ⟨g, 0, none⟩) 14 cap) [7, 0, 0, 0, 5, 161, 169, 179, 39, 104, 101, 108, 108, 112] := Owns.put hm.1 13 112
  have hlt10 := h10.fr.ltt
  have hlf10 := h10.fr.ltf
  have t12 : Turn (fun k => k = g) w11 (w11.setCell ⟨g, 13, none⟩ (.int .u8 112)) := (Turn.refl (fun k => k = g) w11).setCell (p := ⟨g, 13, none⟩) (.inl rfl) _
  have hge := h10.turn.size
  have h12 : FOwn w (w11.setCell ⟨g, 13, none⟩ (.int .u8 112)) f t := ⟨h11.fr.kept t12 (by omega) (by omega), h11.turn.trans' t12 (fun i hi e => by omega), h11.newf, h11.newt⟩
  clear ho hg hk hm h11 hsee h10 t12 s10
  simp only [List.length_cons, List.length_nil, Nat.zero_add, Nat.reduceAdd]
  go_wp2_with fail
  refine (next_any f t _ _ _ h12.fr o12.sees).mono ?_
  rintro e w13 ⟨v13, rfl, hn⟩
  have h13 := h12.next hn
  rw [tell_hellp] at hn ⊢
  obtain ⟨ao13, cap13, e13⟩ := hn.1.shape
  subst e13
  clear hn h12 o12
  unfold toldValue
  go_wp2
  go_ret
  exact ⟨rfl, h13.turn⟩

end Go.Proofs.Ytcojlmfdonbkmaa
