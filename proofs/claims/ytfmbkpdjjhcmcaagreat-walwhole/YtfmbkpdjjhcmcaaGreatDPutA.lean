/- The method put: a file's bytes are made anew. -/
import Derived.Test.YtfmbkpdjjhcmcaaGreatDPut
namespace Go.Proofs.YtfmbkpdjjhcmcaaGreat
open Go.RowKit

section
variable {w : World} {b : Nat} {own : Nat → Option Tag} {fv pv : Value} {wk : Nat} {fu : Bool} {lf : Int} {de : Bool} {fs : List Ent}

theorem splice_none (fs : List Ent) (at' : Nat) (k : Int) (v : Value) : splice fs at' false k v [] = fs := by
  simp [splice]

theorem splice_del_length {at' : Nat} (hlt : at' < fs.length) (k : Int) (v : Value) : (splice fs at' true k v []).length = fs.length - 1 := by
  simp [splice]
  omega

theorem splice_put_length {at' : Nat} (hlt : at' < fs.length) (k : Int) (v : Value) {bs : List UInt8} (hb : bs ≠ []) : (splice fs at' true k v bs).length = fs.length := by
  simp [splice, hb]
  omega

theorem splice_ins_length {at' : Nat} (hle : at' ≤ fs.length) (k : Int) (v : Value) {bs : List UInt8} (hb : bs ≠ []) : (splice fs at' false k v bs).length = fs.length + 1 := by
  simp [splice, hb]
  omega

theorem ecells_there {at' : Nat} {e : Ent} (he : fs[at']? = some e) (v : Value) {bs : List UInt8} (hb : bs ≠ []) : (ecells fs).set (at' * 2 + 1) v = ecells (splice fs at' true e.num v bs) := by
  have hlt := (List.getElem?_eq_some_iff.1 he).1
  have hl : (ecells (fs.take at')).length = at' * 2 := by rw [ecells_length, List.length_take]; omega
  conv => lhs; rw [ents_split he]
  unfold splice
  rw [if_neg hb, ecells_append, ecells_append, List.set_append_right _ _ (by omega), hl, show at' * 2 + 1 - at' * 2 = 1 by omega]
  rfl

set_option maxHeartbeats 2000000 in
set_option maxRecDepth 100000 in
theorem put_any (k : Int) (v : Value) (bs : List UInt8) (h : FAt w b own fv pv wk fu lf de fs) (hv : Owns w v bs) (hvo : bs ≠ [] → ∀ g, v.ownBlock = some g → own g = some (.file k)) (hlen : fs.length ≤ 1073741824) :
    Calls Tryz.prog 46 #[.pointer (some ⟨b, 0, none⟩), .int .i64 k, v] w fun e w' => e = .returned (.tuple #[]) ∧ PutAt w b own pv wk fu lf de fs k bs w' := by
  obtain ⟨vao, vcap, hve⟩ := hv.shape
  have hbm : bs.length ≤ maxLen := hv.sees.len
  unfold maxLen at hbm
  subst hve
  go_enter Tryz.func46, Tryz.ntmps46
  go_wp2_with fail
  refine (find_any b fv pv wk fu lf de fs k _ h.head h.files (by omega)).mono ?_
  rintro e w1 ⟨at', there, rfl, hp, t1⟩
  have h1 := h.same t1
  have hv1 := hv.kept t1 (fun _ _ h => h)
  have back : ∀ w', PutAt w1 b own pv wk fu lf de fs k bs w' → PutAt w b own pv wk fu lf de fs k bs w' := by
    rintro w' ⟨own', fv', fs', a1, a2, a3, a4, a5⟩
    exact ⟨own', fv', fs', a1, a2, a3, (t1.mono (fun _ _ h => h.elim)).trans a4, fun j => (a5 j).imp id (fun h => ⟨h.1, Nat.le_trans t1.size h.2.1, h.2.2⟩)⟩
  have hle := hp.le
  have Hback := hide back
  have Hp := hide hp
  have Hv := hide hv1
  clear h hv back t1 hv1
  obtain ⟨ao, c, rfl⟩ := h1.shape
  have c0 : w1.cell? ⟨b, 0, none⟩ = some (.slice ao fs.length c) := h1.head.cell 0
  cases there with
  | false =>
    clear hp
    by_cases hb : bs = []
    · have hz : bs.length = 0 := by rw [hb]; rfl
      have Hb := hide hb
      clear hb
      go_wp2
      go_end0
      refine ⟨rfl, unhide Hback _ ?_⟩
      refine h1.done (unhide Hp) (unhide Hv) hvo (Turn.refl _ _) (v' := .slice ao fs.length c) ?_ (.inl rfl) (Turn.refl _ _) h1.head
      rw [unhide Hb, splice_none]
      exact h1.row
    · have hz : ¬ bs.length = 0 := fun h0 => hb (List.eq_nil_of_length_eq_zero h0)
      have hz2 : (0 : Int) < bs.length := by omega
      have Hb := hide hb
      clear hb
      go_wp2_with fail
      have hA : At 101 (w1.alloc (.cells #[.int .i64 k, .slice vao bs.length vcap] 101)) w1.heap.size #[.int .i64 k, .slice vao bs.length vcap] := At.new _ _ _
      have ta : Turn (fun _ => False) w1 (w1.alloc (.cells #[.int .i64 k, .slice vao bs.length vcap] 101)) := (Turn.refl _ _).alloc _
      have h2 := h1.same ta
      have hsz : w1.heap.size ≤ (w1.alloc (.cells #[.int .i64 k, .slice vao bs.length vcap] 101)).heap.size := ta.size
      generalize hwa : w1.alloc (.cells #[.int .i64 k, .slice vao bs.length vcap] 101) = wa at *
      clear hwa
      refine (insert_any _ fs.length at' w1.heap.size (ecells fs) (.int .i64 k) (.slice vao bs.length vcap) wa h2.row ⟨hA, rfl, rfl⟩ ?_ hle (by omega) h2.one).mono ?_
      · intro e
        have := (World.ownsRow.lt h1.row _ e).2
        omega
      rintro e w2 ⟨v', rfl, hrow, hloc, t2⟩
      obtain ⟨ao', c', rfl⟩ : ∃ ao' c', v' = .slice ao' (fs.length + 1) c' := by
        rcases row_shape hrow with ⟨rfl, h0⟩ | ⟨g, cap, rfl, _⟩
        · omega
        · exact ⟨_, _, rfl⟩
      have hfb : ¬ (Value.slice ao fs.length c).ownBlock = some b := fun e => by have := h1.fown b e; rw [h1.hb] at this; cases this
      have hd2 : At 70 w2 b (dcells (.slice ao fs.length c) pv wk fu lf de) := h2.head.kept t2 hfb
      have c2 : w2.cell? ⟨b, 0, none⟩ = some (.slice ao fs.length c) := hd2.cell 0
      have f2 : w2.frozen? ⟨b, 0, none⟩ = false := hd2.frozen 0
      have Hrow := hide hrow
      have Hloc := hide hloc
      clear hrow hloc h2 hA
      go_wp2
      go_end0
      refine ⟨rfl, unhide Hback _ ?_⟩
      refine h1.done (unhide Hp) (unhide Hv) hvo ((ta.mono (fun _ _ h => h.elim)).trans t2) (v' := .slice ao' (fs.length + 1) c') ?_ ?_ ((Turn.refl (fun j => j = b) w2).setCell (p := ⟨b, 0, none⟩) (.inl rfl) _) ?_
      · rw [splice_ins_length hle k _ (unhide Hb), ecells_splice, if_neg (unhide Hb)]
        exact unhide Hrow
      · rcases unhide Hloc with e | e
        · exact .inl e
        · exact .inr ⟨_, e, hsz⟩
      · exact hd2.set 0 _
  | true =>
    obtain ⟨x, hx, hxk⟩ := hp.is rfl
    clear hp
    obtain ⟨hlt, _⟩ := List.getElem?_eq_some_iff.1 hx
    by_cases hb : bs = []
    · have hz : bs.length = 0 := by rw [hb]; rfl
      have Hb := hide hb
      clear hb
      have q0 : IntKind.i64.wrap ((at' : Int) + 1) = (at' : Int) + 1 := by rw [IntKind.wrap_i64]; omega
      go_wp2_with fail
      refine (delete_any _ fs.length at' (ecells fs) w1 h1.row hlt (by omega) h1.one).mono ?_
      rintro e w2 ⟨v', rfl, hrow, hloc, t2⟩
      obtain ⟨ao', c', rfl⟩ : ∃ ao' c', v' = .slice ao' (fs.length - 1) c' := by
        rcases row_shape hrow with ⟨rfl, h0⟩ | ⟨g, cap, rfl, _⟩
        · exact ⟨none, 0, by rw [h0]⟩
        · exact ⟨_, _, rfl⟩
      have hfb : ¬ (Value.slice ao fs.length c).ownBlock = some b := fun e => by have := h1.fown b e; rw [h1.hb] at this; cases this
      have hd2 : At 70 w2 b (dcells (.slice ao fs.length c) pv wk fu lf de) := h1.head.kept t2 hfb
      have c2 : w2.cell? ⟨b, 0, none⟩ = some (.slice ao fs.length c) := hd2.cell 0
      have f2 : w2.frozen? ⟨b, 0, none⟩ = false := hd2.frozen 0
      have Hrow := hide hrow
      have Hloc := hide hloc
      clear hrow hloc
      go_wp2
      go_end0
      refine ⟨rfl, unhide Hback _ ?_⟩
      refine h1.done (unhide Hp) (unhide Hv) hvo t2 (v' := .slice ao' (fs.length - 1) c') ?_ (.inl (unhide Hloc)) ((Turn.refl (fun j => j = b) w2).setCell (p := ⟨b, 0, none⟩) (.inl rfl) _) ?_
      · rw [ecells_splice, if_pos (unhide Hb), List.nil_append, unhide Hb, splice_del_length hlt]
        exact unhide Hrow
      · exact hd2.set 0 _
    · have hz : ¬ bs.length = 0 := fun h0 => hb (List.eq_nil_of_length_eq_zero h0)
      have hz2 : (0 : Int) < bs.length := by omega
      have Hb := hide hb
      clear hb
      go_wp2_with fail
      obtain ⟨g, cap, cur, hsl, hr⟩ := row_at h1.row (by omega)
      injection hsl with e1 e2 e3
      subst e1 e3
      have hcm := hr.max
      unfold maxLen at hcm
      have hrl := hr.le
      have q1 : (at' : Int) < fs.length := by omega
      have hcc : w1.cell? ⟨g, at' * 2 + 1, none⟩ = some x.v := hr.cell _ _ (ecells_val fs at' x hx)
      obtain ⟨xo, xn, xc, hxv⟩ := h1.files.val x (List.mem_of_getElem? hx)
      rw [hxv] at hcc
      have hff : w1.frozen? ⟨g, at' * 2 + 1, none⟩ = false := frozen_of_row w1 g _ _ _ hr.heap
      have hgb : b ≠ g := fun e => by have := h1.fown g rfl; rw [← e, h1.hb] at this; cases this
      have Hr := hide hr
      have Hx := hide hx
      clear hr hx
      go_wp2
      go_end0
      refine ⟨rfl, unhide Hback _ ?_⟩
      have tg : Turn (fun j => (Value.slice (some ⟨g, 0, none⟩) fs.length c).ownBlock = some j) w1 (w1.setCell ⟨g, at' * 2 + 1, none⟩ (.slice vao bs.length vcap)) := (Turn.refl (fun j => (Value.slice (some ⟨g, 0, none⟩) fs.length c).ownBlock = some j) w1).setCell (p := ⟨g, at' * 2 + 1, none⟩) (.inl rfl) _
      refine h1.done (unhide Hp) (unhide Hv) hvo tg (v' := .slice (some ⟨g, 0, none⟩) fs.length c) ?_ (.inl rfl) (Turn.refl _ _) (h1.head.kept tg (fun e => by injection e with e; exact hgb e.symm))
      rw [splice_put_length hlt k _ (unhide Hb), ← hxk, ← ecells_there (unhide Hx) _ (unhide Hb)]
      have hr := unhide Hr
      refine ⟨by rw [List.length_set]; exact hr.len, .inr ⟨g, c, _, rfl, Nat.zero_le _, heap_setCell_same w1 g _ _ _ _ hr.heap, hr.le, hr.max, by rw [Array.size_setIfInBounds]; exact hr.size, ?_⟩⟩
      rw [Array.toList_setIfInBounds, List.take_set, hr.take]

end

end Go.Proofs.YtfmbkpdjjhcmcaaGreat
