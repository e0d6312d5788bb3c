/- The method Append, of some bytes; the method Remove. -/
import Derived.Test.YtfmbkpdjjhcmcaaGreatDApp
namespace Go.Proofs.YtfmbkpdjjhcmcaaGreat
open Go.RowKit

section
variable {w : World} {b : Nat} {own : Nat → Option Tag} {fv pv : Value} {wk : Nat} {fu : Bool} {lf : Int} {de : Bool} {fs : List Ent} {us : List U}

/-- All blocks that are known of are the thing's, or have come since. -/
def Known (S : Nat → Prop) (w0 : World) (own : Nat → Option Tag) (w : World) : Prop := ∀ j, own j ≠ none → grow S w0 w j

theorem Known.lt {S : Nat → Prop} {w0 : World} (h : Known S w0 own w) (hS : ∀ j, S j → j < w0.heap.size) (hw : w0.heap.size ≤ w.heap.size) : ∀ j, own j ≠ none → j < w.heap.size := fun j hj => (h j hj).elim (fun h => Nat.lt_of_lt_of_le (hS j h) hw) (fun h => h.2)

theorem Known.old {S : Nat → Prop} {w0 : World} (h : Known S w0 own w) : ∀ j, j < w0.heap.size → own j ≠ none → S j := fun j hj h0 => (h j h0).elim id (fun h => by omega)

theorem Known.next {S : Nat → Prop} {w0 w' : World} {own' : Nat → Option Tag} (h : Known S w0 own w) (h0 : w0.heap.size ≤ w.heap.size) (hw : w.heap.size ≤ w'.heap.size) (ho : ∀ j, own' j ≠ none → own j ≠ none ∨ (w.heap.size ≤ j ∧ j < w'.heap.size)) : Known S w0 own' w' := by
  intro j hj
  rcases ho j hj with h1 | h1
  · rcases h j h1 with h2 | h2
    · exact .inl h2
    · exact .inr ⟨h2.1, by omega⟩
  · exact .inr ⟨by omega, h1.2⟩

/-- Bytes are laid behind those of a file, in memory. -/
theorem FAt.grown {w' : World} {v v' : Value} {f : Int} {bs : List UInt8} (h : FAt w b own fv pv wk fu lf de fs) (hp : PAt w own pv us us.length) (hsub : ∀ j, own j ≠ none → j < w.heap.size)
    (hvo : ∀ g, v.ownBlock = some g → own g = some (.file f)) (huni : ∀ e ∈ fs, e.num = f → e.v = v) (hg : w.grownBy w' v.ownBlock) (hk : v'.ownBlock = v.ownBlock ∨ v'.ownBlock = some w.heap.size) (ho : Owns w' v' bs) (hkeep : Owns w' v (look fs f)) :
    ∃ own', FAt w' b own' fv pv wk fu lf de fs ∧ PAt w' own' pv us us.length ∧ (∀ g, v'.ownBlock = some g → own' g = some (.file f)) ∧ Turn (fun j => own j = some (.file f)) w w' ∧ ∀ j, own' j ≠ none → own j ≠ none ∨ (w.heap.size ≤ j ∧ j < w'.heap.size) := by
  have t : Turn (fun j => own j = some (.file f)) w w' := (Turn.refl _ _).grown hg (fun k hk => .inl (hvo k hk))
  have key : ∀ g, own g ≠ none → own g ≠ some (.file f) → v'.ownBlock ≠ some g := by
    intro g h0 h1 e
    rcases hk with hl | hl
    · rw [hl] at e; exact h1 (hvo g e)
    · rw [hl] at e
      injection e with e
      have := hsub g h0
      omega
  have hnew : ∀ j, own j ≠ none → own j ≠ some (.file f) → (if v'.ownBlock = some j then some (Tag.file f) else own j) = own j := fun j h0 h1 => if_neg (key j h0 h1)
  refine ⟨fun j => if v'.ownBlock = some j then some (.file f) else own j, ⟨h.head.kept t (by rw [h.hb]; simp), ?_, row_kept h.row t (fun k hk e => by rw [h.fown k hk] at e; cases e), ?_, h.rise, ?_⟩, ?_, fun g hg => if_pos hg, t, ?_⟩
  · show (if v'.ownBlock = some b then some (Tag.file f) else own b) = _
    rw [hnew b (by rw [h.hb]; simp) (by rw [h.hb]; simp)]
    exact h.hb
  · intro g hg
    show (if v'.ownBlock = some g then some (Tag.file f) else own g) = _
    have := h.fown g hg
    rw [hnew g (by rw [this]; simp) (by rw [this]; simp)]
    exact this
  · intro e he
    obtain ⟨a1, a2, a3⟩ := h.file e he
    by_cases hef : e.num = f
    · have hev := huni e he hef
      have hbs : look fs f = e.bs := by rw [← hef]; exact look_mem h.rise e he
      refine ⟨by rw [hev, ← hbs]; exact hkeep, a2, fun g hg => ?_⟩
      show (if v'.ownBlock = some g then some (Tag.file f) else own g) = _
      rw [hef]
      split
      · rfl
      · have := a3 g hg
        rwa [hef] at this
    · have hne : ∀ g, e.v.ownBlock = some g → own g ≠ some (.file f) := fun g hg e' => by
        rw [a3 g hg] at e'
        injection e' with e'
        injection e' with e'
        exact hef e'
      refine ⟨a1.kept t (fun k hk => hne k hk), a2, fun g hg => ?_⟩
      show (if v'.ownBlock = some g then some (Tag.file f) else own g) = _
      rw [hnew g (by rw [a3 g hg]; simp) (hne g hg)]
      exact a3 g hg
  · refine (hp.kept t (fun k hk => by rw [hk]; simp)).retag ?_
    intro j hj
    rcases hj with hj | ⟨i, _, hj⟩ <;> exact hnew j (by rw [hj]; simp) (by rw [hj]; simp)
  · intro j hj
    by_cases hjv : v'.ownBlock = some j
    · rcases hk with hl | hl
      · left
        rw [hl] at hjv
        rw [hvo j hjv]
        simp
      · right
        have := ho.lt hjv
        rw [hl] at hjv
        injection hjv with hjv
        omega
    · left
      have : (if v'.ownBlock = some j then some (Tag.file f) else own j) ≠ none := hj
      rwa [if_neg hjv] at this

/-- What pends stays behind a put. -/
theorem PutAt.pends {w' : World} {k : Int} {bs : List UInt8} {m : Nat} (h : PutAt w b own pv wk fu lf de fs k bs w') (hp : PAt w own pv us m) (hsub : ∀ j, own j ≠ none → j < w.heap.size) :
    ∃ own' fv' fs', FAt w' b own' fv' pv wk fu lf de fs' ∧ look fs' = fput (look fs) k bs ∧ PAt w' own' pv us m ∧ Turn (fun j => own j = some .disk ∨ own j = some .files) w w' ∧ (∀ j, own' j ≠ none → own j ≠ none ∨ (w.heap.size ≤ j ∧ j < w'.heap.size)) ∧ ∀ j, own j ≠ none → own' j = own j := by
  obtain ⟨own', fv', fs', a1, a2, a3, a4, a5⟩ := h
  have hsame : ∀ j, own j ≠ none → own' j = own j := fun j h0 => by
    rcases a5 j with h | ⟨_, h, _⟩
    · exact h
    · have := hsub j h0; omega
  refine ⟨own', fv', fs', a1, a2, (hp.kept a4 (fun k hk => by rcases hk with hk | hk <;> rw [hk] <;> simp)).retag ?_, a4, ?_, hsame⟩
  · intro j hj
    refine hsame j ?_
    rcases hj with hj | ⟨i, _, hj⟩ <;> rw [hj] <;> simp
  · intro j hj
    rcases a5 j with h | ⟨_, h⟩
    · left; rwa [h] at hj
    · exact .inr h

end

section
variable {w : World} {b : Nat} {S : Nat → Prop} {N : Nat} {s : DSt}

set_option maxHeartbeats 2000000 in
set_option maxRecDepth 100000 in
theorem append_some (f : Int) (v : Value) (bs : List UInt8) (h : Dk w b S N s) (hs : Sees w v bs) (hsl : ∀ k, slab v = some k → ¬ S k) (hb : bs ≠ []) (hf : 0 ≤ f) (hd : s.down = false) (hN : N ≤ 1073741823) (hsz : (s.now f).length + bs.length ≤ 140737488355328) :
    Calls Tryz.prog 20 #[.pointer (some ⟨b, 0, none⟩), .int .i64 f, v] w fun e w' => e = .returned (.int .i64 0) ∧ DkTo w b S (N + 1) (s.worked.push (.lay f bs)) w' := by
  obtain ⟨i0, hi, hz0, hz1, hz2⟩ := info_parts Tryz.infoU8
  have hm := h.mem
  obtain ⟨own, fv, pv, fs, us, h⟩ := h
  have hmany := And.intro h.many.1 h.many.2.1
  have hf' : ¬ f < 0 := by omega
  have hfit := h.fit
  have hwk := hfit.works
  have hbl : 0 < bs.length := Nat.pos_of_ne_zero fun e => hb (List.eq_nil_of_length_eq_zero e)
  have q1 : (0 : Int) < bs.length := by omega
  have hbm := hs.len
  unfold maxLen at hbm
  obtain ⟨ao, c, hve⟩ := hs.shape
  subst hve
  go_enter Tryz.func20, Tryz.ntmps20
  go_wp2_with fail
  refine (work_ok h.f.head hd (by omega) hfit.left hfit.hi).mono ?_
  rintro e w1 ⟨rfl, hat, t1⟩
  have h1 : DkIs w1 b S (N + 1) s.worked own fv pv fs us := h.rehead t1 hat rfl rfl (hfit.worked hd)
  have hs1 := hs.kept t1 (fun k hk e => hsl k hk (e ▸ hm))
  have k1 : Known S w own w1 := fun j hj => .inl (h.sub j hj)
  have T1 : Turn S w w1 := t1.mono (fun j _ e => e ▸ hm)
  have hlt := h.lt
  have hnow := h.now
  have hund := h.und
  have H1 := hide h1
  have HS := hide (And.intro hs1 (And.intro hnow (And.intro hund hlt)))
  clear h1 h hat hs hs1 hnow hund t1 hlt
  go_wp2_with fail
  refine (bytesOf_any f (unhide H1).f (by omega)).mono ?_
  rintro e w2 ⟨v2, rfl, ho2, hvo2, huni, t2⟩
  have F2 := (unhide H1).f.same t2
  have P2 := (unhide H1).p.kept t2 (fun _ h => h.elim)
  have k2 : Known S w own w2 := k1.next T1.size t2.size (fun j hj => .inl hj)
  have T2 : Turn S w w2 := T1.trans (t2.mono (fun _ _ h => h.elim))
  have hs2 := (unhide HS).1.kept t2 (fun _ _ h => h)
  have hnow := (unhide HS).2.1
  obtain ⟨v3, w3, hr3, ho3, hg3, hk3, hkeep⟩ := run_append_keeps (P := Tryz.prog) w2 31 31 i0 Tryz.underlying31 hi hz0 hz1 hz2 v2 _ ho2 _ bs hs2 (by rw [hnow]; exact hsz)
  obtain ⟨own3, F3, P3, hvo3, t3, d3⟩ := F2.grown P2 (k2.lt (unhide HS).2.2.2 T2.size) hvo2 huni hg3 hk3 ho3 hkeep
  have k3 : Known S w own3 w3 := k2.next T2.size t3.size d3
  have T3 : Turn S w w3 := T2.trans' t3 (fun i hi e => k2.old i hi (by rw [e]; simp))
  have hput := put_any f v3 _ F3 ho3 (fun _ => hvo3) (by omega)
  obtain ⟨vo2, vc2, hv2⟩ := ho2.shape
  obtain ⟨vo3, vc3, hv3⟩ := ho3.shape
  subst hv2 hv3
  have Hput := hide hput
  have Hr3 := hide hr3
  have HF := hide (And.intro F3 (And.intro P3 (And.intro k3 T3)))
  clear F2 P2 k2 T2 hs2 hnow hr3 ho3 hg3 hk3 hkeep F3 P3 hvo3 t3 d3 k3 T3 hput ho2 hvo2 huni t2 k1 T1
  generalize (look fs f ++ bs).length = n3 at *
  go_wp2_with (at_builtin; refine wpList_append_run rfl (.tmp 26) (.tmp 27) 31 rfl _ _ _ w3 rfl rfl (unhide Hr3) ?_)
  refine (unhide Hput).mono ?_
  rintro e w4 ⟨rfl, hpa⟩
  obtain ⟨F3, P3, k3, T3⟩ := unhide HF
  have hlt := (unhide HS).2.2.2
  obtain ⟨own4, fv4, fs4, F4, hl4, P4, t4, d4, _⟩ := hpa.pends P3 (k3.lt hlt T3.size)
  have k4 : Known S w own4 w4 := k3.next T3.size t4.size d4
  have T4 : Turn S w w4 := T3.trans' t4 (fun i hi e => k3.old i hi (by rcases e with e | e <;> rw [e] <;> simp))
  have c1 : w4.cell? ⟨b, 1, none⟩ = some pv := F4.head.cell 1
  have ta : Turn (fun _ => False) w4 (w4.alloc (.cells #[.int .i64 f, .int .i64 bs.length, .slice none 0 0] 75)) := (Turn.refl _ _).alloc _
  have hA : At 75 (w4.alloc (.cells #[.int .i64 f, .int .i64 bs.length, .slice none 0 0] 75)) w4.heap.size #[.int .i64 f, .int .i64 bs.length, .slice none 0 0] := At.new _ _ _
  obtain ⟨v5, w5, hr5, ho5, hg5, hk5⟩ := pend_append _ pv us.length w4.heap.size (pcells us) _ _ _ (row_kept P4.row ta (fun _ _ h => h)) hA rfl rfl rfl (by omega)
  obtain ⟨own6, F6, P6, t6, d6⟩ := pushed (w2 := w5) (v' := v5) ⟨f, bs.length, .slice none 0 0, []⟩ F4 P4 (k4.lt hlt T4.size) ta hg5 hk5 ho5 (Owns.nil _) (fun g hg => by simp [Value.ownBlock] at hg)
  have k6 : Known S w own6 (w5.setCell ⟨b, 1, none⟩ v5) := k4.next T4.size t6.size (fun j hj => by
    rcases d6 j with h | ⟨_, h⟩
    · left; rwa [h] at hj
    · exact .inr h)
  have T6 : Turn S w (w5.setCell ⟨b, 1, none⟩ v5) := T4.trans' t6 (fun i hi e => k4.old i hi (by rcases e with e | e <;> rw [e] <;> simp))
  have hfin : DkTo w b S (N + 1) (s.worked.push (.lay f bs)) (w5.setCell ⟨b, 1, none⟩ v5) := by
    refine ⟨⟨own6, fv4, v5, fs4, _, F6, P6, ?_, ?_, k6, fun j hj => hj.elim (fun h => Nat.lt_of_lt_of_le (hlt j h) T6.size) (fun h => h.2), hfit.push hd _ (fun k bs' e => by injection e with e1 e2; rw [← e2]; exact hb)⟩, T6⟩
    · rw [hl4, acts_push, act, (unhide HS).2.1]
    · have hu := (unhide HS).2.2.1
      rw [List.map_append, hu]
      show unds s.base s.ops ++ [_] = unds s.base (s.ops ++ [_])
      rw [unds_snoc]
      rfl
  obtain ⟨po, pc, hpv⟩ := P4.shape
  obtain ⟨vo5, vc5, hv5⟩ : ∃ ao c, v5 = .slice ao (us.length + 1) c := by
    rcases row_shape ho5 with ⟨rfl, h0⟩ | ⟨g, cap, rfl, _⟩
    · omega
    · exact ⟨_, _, rfl⟩
  have tb : Turn (fun j => pv.ownBlock = some j) (w4.alloc (.cells #[.int .i64 f, .int .i64 bs.length, .slice none 0 0] 75)) w5 := (Turn.refl _ _).grown hg5 (fun k hk => .inl hk)
  have hd5 := (F4.head.kept ta (fun h => h)).kept tb (fun e => by have := P4.pown b e; rw [F4.hb] at this; cases this)
  have c5 : w5.cell? ⟨b, 1, none⟩ = some pv := hd5.cell 1
  have f5 : w5.frozen? ⟨b, 1, none⟩ = false := hd5.frozen 1
  have Hfin := hide hfin
  have Hr5 := hide hr5
  clear hfin hr5 F6 P6 t6 d6 k6 T6 ho5 hg5 hk5 F4 P4 t4 d4 k4 T4 F3 P3 k3 T3 hpa hl4 hA ta tb hd5 hlt
  subst hpv hv5
  go_wp2_with (at_builtin; refine wpList_append_run rfl (.tmp 34) (.tmp 39) 68 rfl _ _ _ w5 rfl rfl (unhide Hr5) ?_)
  go_ret
  exact ⟨rfl, unhide Hfin⟩

set_option maxHeartbeats 400000 in
theorem remove_arg (f : Int) (w : World) (hf : f < 0) : Calls Tryz.prog 34 #[.pointer (some ⟨b, 0, none⟩), .int .i64 f] w fun e w' => e = .returned (.int .i64 1) ∧ w = w' := by
  go_enter Tryz.func34, Tryz.ntmps34
  go_wp2
  go_ret
  exact ⟨rfl, rfl⟩

set_option maxHeartbeats 400000 in
theorem remove_down (f : Int) (h : Dk w b S N s) (hf : 0 ≤ f) (hd : s.down = true) :
    Calls Tryz.prog 34 #[.pointer (some ⟨b, 0, none⟩), .int .i64 f] w fun e w' => e = .returned (.int .i64 14) ∧ DkTo w b S N s.fall w' := by
  have hm := h.mem
  obtain ⟨own, fv, pv, fs, us, h⟩ := h
  have hf' : ¬ f < 0 := by omega
  go_enter Tryz.func34, Tryz.ntmps34
  go_wp2_with fail
  refine (work_down h.f.head hd).mono ?_
  rintro e w1 ⟨rfl, hat, ht⟩
  have h1 : DkIs w1 b S N s.fall own fv pv fs us := h.rehead ht hat rfl rfl h.fit.fall
  have H1 := hide h1
  clear h1 h hat
  go_wp2
  go_ret
  exact ⟨rfl, DkTo.of (unhide H1) hm ht⟩

set_option maxHeartbeats 1000000 in
set_option maxRecDepth 100000 in
theorem remove_none (f : Int) (h : Dk w b S N s) (hf : 0 ≤ f) (hd : s.down = false) (hn : s.now f = []) (hN : N ≤ 1073741824) :
    Calls Tryz.prog 34 #[.pointer (some ⟨b, 0, none⟩), .int .i64 f] w fun e w' => e = .returned (.int .i64 0) ∧ DkTo w b S (N + 1) s.worked w' := by
  have hm := h.mem
  obtain ⟨own, fv, pv, fs, us, h⟩ := h
  have hf' : ¬ f < 0 := by omega
  have hmany := And.intro h.many.1 h.many.2.1
  have hfit := h.fit
  have hwk := hfit.works
  go_enter Tryz.func34, Tryz.ntmps34
  go_wp2_with fail
  refine (work_ok h.f.head hd (by omega) hfit.left hfit.hi).mono ?_
  rintro e w1 ⟨rfl, hat, ht⟩
  have h1 : DkIs w1 b S (N + 1) s.worked own fv pv fs us := h.rehead ht hat rfl rfl (hfit.worked hd)
  have hnow := h.now
  have H1 := hide h1
  have Hn := hide hn
  clear h1 h hat hn
  go_wp2_with fail
  refine (bytesOf_any f (unhide H1).f (by omega)).mono ?_
  rintro e w2 ⟨v2, rfl, ho2, _, _, t2⟩
  rw [hnow, unhide Hn] at ho2
  obtain ⟨ao, c, rfl⟩ := ho2.shape
  have hk : Dk w2 b S (N + 1) s.worked := Dk.kept ⟨own, fv, pv, fs, us, unhide H1⟩ t2 (fun _ _ h => h)
  have hfin : DkTo w b S (N + 1) s.worked w2 := by
    have T : Turn S w w2 := (ht.mono (fun j _ e => e ▸ hm)).trans (t2.mono (fun _ _ h => h.elim))
    exact ⟨hk.mono (fun _ h => .inl h) (fun j hj => hj.elim (hk.lt j) (fun h => h.2)) (Nat.le_refl _), T⟩
  have Hfin := hide hfin
  clear hnow ho2 t2 hk hfin
  go_wp2
  go_ret
  exact ⟨rfl, unhide Hfin⟩

set_option maxHeartbeats 2000000 in
set_option maxRecDepth 100000 in
theorem remove_some (f : Int) (h : Dk w b S N s) (hf : 0 ≤ f) (hd : s.down = false) (hn : s.now f ≠ []) (hN : N ≤ 1073741823) :
    Calls Tryz.prog 34 #[.pointer (some ⟨b, 0, none⟩), .int .i64 f] w fun e w' => e = .returned (.int .i64 0) ∧ DkTo w b S (N + 1) (s.worked.push (.rem f)) w' := by
  have hm := h.mem
  obtain ⟨own, fv, pv, fs, us, h⟩ := h
  have hf' : ¬ f < 0 := by omega
  have hmany := And.intro h.many.1 h.many.2.1
  have hfit := h.fit
  have hwk := hfit.works
  go_enter Tryz.func34, Tryz.ntmps34
  go_wp2_with fail
  refine (work_ok h.f.head hd (by omega) hfit.left hfit.hi).mono ?_
  rintro e w1 ⟨rfl, hat, t1⟩
  have h1 : DkIs w1 b S (N + 1) s.worked own fv pv fs us := h.rehead t1 hat rfl rfl (hfit.worked hd)
  have k1 : Known S w own w1 := fun j hj => .inl (h.sub j hj)
  have T1 : Turn S w w1 := t1.mono (fun j _ e => e ▸ hm)
  have hlt := h.lt
  have H1 := hide h1
  have HS := hide (And.intro h.now (And.intro h.und hlt))
  clear h1 h hat t1 hlt
  go_wp2_with fail
  refine (bytesOf_any f (unhide H1).f (by omega)).mono ?_
  rintro e w2 ⟨v2, rfl, ho2, hvo2, huni, t2⟩
  have F2 := (unhide H1).f.same t2
  have P2 := (unhide H1).p.kept t2 (fun _ h => h.elim)
  have k2 : Known S w own w2 := k1.next T1.size t2.size (fun j hj => .inl hj)
  have T2 : Turn S w w2 := T1.trans (t2.mono (fun _ _ h => h.elim))
  have hnow := (unhide HS).1
  rw [hnow] at ho2
  have hbl : 0 < (s.now f).length := Nat.pos_of_ne_zero fun e => hn (List.eq_nil_of_length_eq_zero e)
  have q1 : (0 : Int) < (s.now f).length := by omega
  have hput := put_any f (.slice none 0 0) [] F2 (Owns.nil _) (fun h => absurd rfl h) (by omega)
  obtain ⟨vo2, vc2, hv2⟩ := ho2.shape
  have hbm := ho2.sees.len
  unfold maxLen at hbm
  subst hv2
  have Hput := hide hput
  have HF := hide (And.intro F2 (And.intro P2 (And.intro k2 (And.intro T2 (And.intro ho2 hvo2)))))
  clear F2 P2 k2 T2 hnow hput ho2 hvo2 huni t2 k1 T1
  go_wp2_with fail
  refine (unhide Hput).mono ?_
  rintro e w4 ⟨rfl, hpa⟩
  obtain ⟨F2, P2, k2, T2, ho2, hvo2⟩ := unhide HF
  have hlt := (unhide HS).2.2
  obtain ⟨own4, fv4, fs4, F4, hl4, P4, t4, d4, same4⟩ := hpa.pends P2 (k2.lt hlt T2.size)
  have k4 : Known S w own4 w4 := k2.next T2.size t4.size d4
  have T4 : Turn S w w4 := T2.trans' t4 (fun i hi e => k2.old i hi (by rcases e with e | e <;> rw [e] <;> simp))
  have ho4 := ho2.kept t4 (fun k hk e => by rw [hvo2 k hk] at e; rcases e with e | e <;> cases e)
  have hvo4 : ∀ g, (Value.slice vo2 (s.now f).length vc2).ownBlock = some g → own4 g = some (.file f) := fun g hg => by
    rw [same4 g (by rw [hvo2 g hg]; simp)]
    exact hvo2 g hg
  have hgone : ∀ e ∈ fs4, e.num ≠ f := by
    intro e he hef
    have h1 := look_mem F4.rise e he
    rw [hef, hl4] at h1
    have h2 : fput (look fs) f [] f = [] := if_pos rfl
    rw [h2] at h1
    exact (F4.file e he).2.1 h1.symm
  obtain ⟨own5, hown5⟩ : ∃ own5 : Nat → Option Tag, own5 = fun j => if (Value.slice vo2 (s.now f).length vc2).ownBlock = some j then some (.took us.length) else own4 j := ⟨_, rfl⟩
  have ev : ∀ j, own5 j = if (Value.slice vo2 (s.now f).length vc2).ownBlock = some j then some (.took us.length) else own4 j := fun j => by rw [hown5]
  have F5 : FAt w4 b own5 fv4 pv s.worked.works s.worked.fused s.worked.left s.worked.dead fs4 := by
    refine ⟨F4.head, ?_, F4.row, fun g hg => ?_, F4.rise, fun e he => ⟨(F4.file e he).1, (F4.file e he).2.1, fun g hg => ?_⟩⟩
    · rw [ev, if_neg (fun e => by have := hvo4 b e; rw [F4.hb] at this; cases this)]
      exact F4.hb
    · rw [ev, if_neg (fun e => by have := hvo4 g e; rw [F4.fown g hg] at this; cases this)]
      exact F4.fown g hg
    · have h3 := (F4.file e he).2.2 g hg
      rw [ev, if_neg (fun e' => by
        have := hvo4 g e'
        rw [h3] at this
        injection this with this
        injection this with this
        exact hgone e he this)]
      exact h3
  have P5 : PAt w4 own5 pv us us.length := P4.retag (fun j hj => by
    rw [ev, if_neg (fun e' => by
      have := hvo4 j e'
      rcases hj with hj | ⟨i, _, hj⟩ <;> rw [hj] at this <;> cases this)])
  have k5 : Known S w own5 w4 := fun j hj => by
    rw [ev] at hj
    split at hj
    · exact k4 j (by rw [hvo4 j (by assumption)]; simp)
    · exact k4 j hj
  have c1 : w4.cell? ⟨b, 1, none⟩ = some pv := F4.head.cell 1
  have ta : Turn (fun _ => False) w4 (w4.alloc (.cells #[.int .i64 f, .int .i64 0, .slice vo2 (s.now f).length vc2] 75)) := (Turn.refl _ _).alloc _
  have hA : At 75 (w4.alloc (.cells #[.int .i64 f, .int .i64 0, .slice vo2 (s.now f).length vc2] 75)) w4.heap.size #[.int .i64 f, .int .i64 0, .slice vo2 (s.now f).length vc2] := At.new _ _ _
  obtain ⟨v5, w5, hr5, ho5, hg5, hk5⟩ := pend_append _ pv us.length w4.heap.size (pcells us) _ _ _ (row_kept P5.row ta (fun _ _ h => h)) hA rfl rfl rfl (by omega)
  obtain ⟨own6, F6, P6, t6, d6⟩ := pushed (w2 := w5) (v' := v5) ⟨f, 0, .slice vo2 (s.now f).length vc2, s.now f⟩ F5 P5 (k5.lt hlt T4.size) ta hg5 hk5 ho5 ho4 (fun g hg => by rw [ev, if_pos hg])
  have k6 : Known S w own6 (w5.setCell ⟨b, 1, none⟩ v5) := k5.next T4.size t6.size (fun j hj => by
    rcases d6 j with h | ⟨_, h⟩
    · left; rwa [h] at hj
    · exact .inr h)
  have T6 : Turn S w (w5.setCell ⟨b, 1, none⟩ v5) := T4.trans' t6 (fun i hi e => k5.old i hi (by rcases e with e | e <;> rw [e] <;> simp))
  have hfin : DkTo w b S (N + 1) (s.worked.push (.rem f)) (w5.setCell ⟨b, 1, none⟩ v5) := by
    refine ⟨⟨own6, fv4, v5, fs4, _, F6, P6, ?_, ?_, k6, fun j hj => hj.elim (fun h => Nat.lt_of_lt_of_le (hlt j h) T6.size) (fun h => h.2), hfit.push hd _ (fun k bs' e => by cases e)⟩, T6⟩
    · rw [hl4, acts_push, act, (unhide HS).1]
    · have hu := (unhide HS).2.1
      rw [List.map_append, hu]
      show unds s.base s.ops ++ [_] = unds s.base (s.ops ++ [_])
      rw [unds_snoc]
      rfl
  obtain ⟨po, pc, hpv⟩ := P4.shape
  obtain ⟨vo5, vc5, hv5⟩ : ∃ ao c, v5 = .slice ao (us.length + 1) c := by
    rcases row_shape ho5 with ⟨rfl, h0⟩ | ⟨g, cap, rfl, _⟩
    · omega
    · exact ⟨_, _, rfl⟩
  have tb : Turn (fun j => pv.ownBlock = some j) (w4.alloc (.cells #[.int .i64 f, .int .i64 0, .slice vo2 (s.now f).length vc2] 75)) w5 := (Turn.refl _ _).grown hg5 (fun k hk => .inl hk)
  have hd5 := (F4.head.kept ta (fun h => h)).kept tb (fun e => by have := P4.pown b e; rw [F4.hb] at this; cases this)
  have c5 : w5.cell? ⟨b, 1, none⟩ = some pv := hd5.cell 1
  have f5 : w5.frozen? ⟨b, 1, none⟩ = false := hd5.frozen 1
  have Hfin := hide hfin
  have Hr5 := hide hr5
  clear hfin hr5 F6 P6 t6 d6 k6 T6 ho5 hg5 hk5 F4 P4 t4 d4 k4 T4 F2 P2 k2 T2 hpa hl4 hA ta tb hd5 hlt F5 P5 k5 ev hown5 hgone hvo4 ho4 same4 ho2 hvo2
  subst hpv hv5
  go_wp2_with (at_builtin; refine wpList_append_run rfl (.tmp 31) (.tmp 35) 68 rfl _ _ _ w5 rfl rfl (unhide Hr5) ?_)
  go_ret
  exact ⟨rfl, unhide Hfin⟩

theorem remove_any (f : Int) (h : Dk w b S N s) (hN : N ≤ 1073741823) :
    Calls Tryz.prog 34 #[.pointer (some ⟨b, 0, none⟩), .int .i64 f] w fun e w' => e = .returned (.int .i64 (s.rem f).1) ∧ DkTo w b S (N + 1) (s.rem f).2 w' := by
  have up : ∀ {s' : DSt} {w' : World}, DkTo w b S N s' w' → DkTo w b S (N + 1) s' w' := fun h => ⟨h.1.mono (fun _ h => h) h.1.lt (by omega), h.2⟩
  unfold DSt.rem
  by_cases hf : f < 0
  · rw [if_pos hf]
    exact (remove_arg f w hf).mono (fun e w' h' => ⟨h'.1, h'.2 ▸ up (DkTo.refl h)⟩)
  · rw [if_neg hf]
    by_cases hd : s.down = true
    · rw [if_pos hd]
      exact (remove_down f h (by omega) hd).mono (fun e w' h' => ⟨h'.1, up h'.2⟩)
    · rw [if_neg hd]
      have hd' : s.down = false := by simpa using hd
      unfold DSt.rems
      by_cases hb : s.now f = []
      · rw [if_pos hb]
        exact remove_none f h (by omega) hd' hb (by omega)
      · rw [if_neg hb]
        exact remove_some f h (by omega) hd' hb hN

theorem append_any (f : Int) (v : Value) (bs : List UInt8) (h : Dk w b S N s) (hs : Sees w v bs) (hsl : 0 < bs.length → ∀ k, slab v = some k → ¬ S k) (hN : N ≤ 1073741823) (hsz : (s.now f).length + bs.length ≤ 140737488355328) :
    Calls Tryz.prog 20 #[.pointer (some ⟨b, 0, none⟩), .int .i64 f, v] w fun e w' => e = .returned (.int .i64 (s.add f bs).1) ∧ DkTo w b S (N + 1) (s.add f bs).2 w' := by
  have up : ∀ {s' : DSt} {w' : World}, DkTo w b S N s' w' → DkTo w b S (N + 1) s' w' := fun h => ⟨h.1.mono (fun _ h => h) h.1.lt (by omega), h.2⟩
  unfold DSt.add
  by_cases hf : f < 0
  · rw [if_pos hf]
    exact (append_arg f v bs w hf hs).mono (fun e w' h' => ⟨h'.1, h'.2 ▸ up (DkTo.refl h)⟩)
  · rw [if_neg hf]
    by_cases hd : s.down = true
    · rw [if_pos hd]
      exact (append_down f v bs h hs (by omega) hd).mono (fun e w' h' => ⟨h'.1, up h'.2⟩)
    · rw [if_neg hd]
      have hd' : s.down = false := by simpa using hd
      unfold DSt.lays
      by_cases hb : bs = []
      · subst hb
        rw [if_pos rfl]
        exact append_none f v h hs (by omega) hd' (by omega)
      · rw [if_neg hb]
        exact append_some f v bs h hs (hsl (Nat.pos_of_ne_zero fun e => hb (List.eq_nil_of_length_eq_zero e))) hb (by omega) hd' hN hsz

end

end Go.Proofs.YtfmbkpdjjhcmcaaGreat
