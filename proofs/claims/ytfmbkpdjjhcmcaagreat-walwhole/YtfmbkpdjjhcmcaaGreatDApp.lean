/- The methods Append and Remove. -/
import Derived.Test.YtfmbkpdjjhcmcaaGreatDUndo
namespace Go.Proofs.YtfmbkpdjjhcmcaaGreat
open Go.RowKit

section
variable {P : Program} (w : World)

/-- append onto bytes of one's own: what was there still shows what it showed. -/
theorem run_append_keeps (t ty : TypeId) (i : TypeInfo) (ht : P.underlying t = some (.slice 5)) (hi : P.info? 5 = some i) (hz : i.zero = some (.int .u8 0)) (hsize : i.size = 1) (hby : i.bytes = 1)
    (v : Value) (xs : List UInt8) (hown : Owns w v xs) (sv : Value) (ds : List UInt8) (hsee : Sees w sv ds) (hbound : xs.length + ds.length ≤ 140737488355328) :
    ∃ v' w', (Builtin.append_ #[t, t] ty #[v, sv]).run P w = .ok v' w' ∧ Owns w' v' (xs ++ ds) ∧ w.grownBy w' v.ownBlock ∧ (v'.ownBlock = v.ownBlock ∨ v'.ownBlock = some w.heap.size) ∧ Owns w' v xs := by
  obtain ⟨v', w', hr, ho, hg, hk⟩ := run_append_sees w t ty i ht hi hz hsize hby v xs hown sv ds hsee hbound
  refine ⟨v', w', hr, ho, hg, hk, ?_⟩
  have h63 : xs.length + ds.length ≤ maxLen := by unfold maxLen; omega
  rcases hown.2 with ⟨rfl, hn⟩ | ⟨g, cp, cur, rfl, _, hgg, hnc, hcm, hcs, htake⟩
  · rw [List.eq_nil_of_length_eq_zero hn]
    exact Owns.nil _
  · have hlt := (Array.getElem?_eq_some_iff.1 hgg).1
    rcases hsee with ⟨rfl, rfl⟩ | ⟨a, cap, rfl, hc, hm, hcell⟩
    · have h0 := run_append_owned_none w 0 t ty 5 i 1 ht hi _ _ _ hown
      rw [hr] at h0
      injection h0 with e1 e2
      subst e2
      exact hown
    · have hone : ∀ u ∈ u8s ds, u.oneCell' = true := fun u hu => u8s_one hu
      have hl : (u8s ds).length = ds.length * 1 := by rw [u8s_length]; omega
      by_cases hroom : xs.length + ds.length ≤ cp
      · obtain ⟨w2, hr2, _, _⟩ := run_append_fits (P := P) w 0 t ty 5 i 1 ht hi hsize g xs.length cp (u8s xs) hown a ds.length cap (u8s ds) hl hcell hone hroom
        rw [hr] at hr2
        injection hr2 with e1 e2
        subst e1
        rw [← List.length_append] at ho
        have := ho.front xs.length (by simp)
        rwa [List.take_left] at this
      · have hr2 := run_append_grow (P := P) w t ty 5 i (.int .u8 0) ht hi hz ⟨g, 0, none⟩ xs.length cp (u8s xs) (by rw [hsize, u8s_length]; omega) (World.ownsRow.cells hown (g := g) rfl) a ds.length cap (u8s ds) (by rw [hsize]; exact hl) hcell (by omega) (by unfold maxLen at h63; omega) (growslice_fits (by omega) (by rw [hby]; omega))
        rw [hr] at hr2
        injection hr2 with e1 e2
        subst e2
        exact hown.kept (S := fun _ => False) ((Turn.refl _ w).drew.alloc _) (fun _ _ h => h)

end

theorem Tryz.infoChg : (Tryz.prog.info? 75).map (fun i => (i.zero, i.size, i.bytes)) = some (some (.agg #[.int .i64 0, .int .i64 0, .slice none 0 0]), 3, 40) := by kernel_rfl

theorem infoChg : ∃ i, Tryz.prog.info? 75 = some i ∧ i.zero = some (.agg #[.int .i64 0, .int .i64 0, .slice none 0 0]) ∧ i.size = 3 ∧ i.bytes = 40 := by
  obtain ⟨i, hi, h⟩ := Option.map_eq_some_iff.1 Tryz.infoChg
  simp only [Prod.mk.injEq] at h
  exact ⟨i, hi, h.1, h.2.1, h.2.2⟩

theorem pend_append (w : World) (pv : Value) (n vb : Nat) (xs : List Value) (x0 x1 x2 : Value) (h : w.ownsRow 0 75 3 pv n xs) (hx : At 75 w vb #[x0, x1, x2]) (h0 : x0.oneCell' = true) (h1 : x1.oneCell' = true) (h2 : x2.oneCell' = true) (hn : n ≤ 1073741824) :
    ∃ v' w', (Builtin.append_ #[68, 68] 68 #[pv, .slice (some ⟨vb, 0, none⟩) 1 1]).run Tryz.prog w = .ok v' w' ∧ w'.ownsRow 0 75 3 v' (n + 1) (xs ++ [x0, x1, x2]) ∧ w.grownBy w' pv.ownBlock ∧ (v'.ownBlock = pv.ownBlock ∨ v'.ownBlock = some w.heap.size) := by
  obtain ⟨t, ht, hz, hs, hb⟩ := infoChg
  obtain ⟨v', w', hr, ho, hg, _, hat⟩ := run_append_own_at (P := Tryz.prog) w 0 68 68 75 t _ 3 40 Tryz.underlying68 ht hz hs hb rfl (by omega) pv n xs h ⟨vb, 0, none⟩ 1 1 [x0, x1, x2] rfl
    (fun j u hj => by
      rw [addr_lit, Nat.zero_add, hx.cell j]
      simpa using hj)
    (fun u hu => by
      simp only [List.mem_cons, List.not_mem_nil, or_false] at hu
      rcases hu with rfl | rfl | rfl <;> assumption) (by unfold maxLen; omega) (by omega) (Nat.zero_le _)
  exact ⟨v', w', hr, ho, hg, hat⟩

section
variable {w : World} {b : Nat} {own : Nat → Option Tag} {fv pv : Value} {wk : Nat} {fu : Bool} {lf : Int} {de : Bool} {fs : List Ent} {us : List U}

/-- One more pends. -/
theorem pushed {wa w2 : World} {v' : Value} (u : U) (hf : FAt w b own fv pv wk fu lf de fs) (hp : PAt w own pv us us.length) (hsub : ∀ j, own j ≠ none → j < w.heap.size)
    (ta : Turn (fun _ => False) w wa) (hg : wa.grownBy w2 pv.ownBlock) (hloc : v'.ownBlock = pv.ownBlock ∨ v'.ownBlock = some wa.heap.size) (hrow : w2.ownsRow 0 75 3 v' (us.length + 1) (pcells us ++ [.int .i64 u.file, .int .i64 u.laid, u.v]))
    (hu : Owns w u.v u.took) (hut : ∀ g, u.v.ownBlock = some g → own g = some (.took us.length)) :
    ∃ own', FAt (w2.setCell ⟨b, 1, none⟩ v') b own' fv v' wk fu lf de fs ∧ PAt (w2.setCell ⟨b, 1, none⟩ v') own' v' (us ++ [u]) (us ++ [u]).length ∧ Turn (fun j => own j = some .disk ∨ own j = some .pends) w (w2.setCell ⟨b, 1, none⟩ v') ∧ ∀ j, own' j = own j ∨ (own' j = some .pends ∧ w.heap.size ≤ j ∧ j < (w2.setCell ⟨b, 1, none⟩ v').heap.size) := by
  have t2 : Turn (fun j => pv.ownBlock = some j) wa w2 := (Turn.refl _ _).grown hg (fun k hk => .inl hk)
  have ts := Turn.at b 1 v' w2
  have tp : Turn (fun j => own j = some .pends) w w2 := (ta.mono (fun _ _ h => h.elim)).trans' t2 (fun j _ hj => hp.pown j hj)
  have key : ∀ g, own g ≠ none → own g ≠ some .pends → v'.ownBlock ≠ some g := by
    intro g h0 h1 e
    rcases hloc with hl | hl
    · rw [hl] at e; exact h1 (hp.pown g e)
    · rw [hl] at e
      injection e with e
      have := hsub g h0
      have := ta.size
      omega
  have hvb : v'.ownBlock ≠ some b := key b (by rw [hf.hb]; simp) (by rw [hf.hb]; simp)
  have hf2 := hf.kept tp (fun k hk => by rw [hk]; simp)
  have hf3 := hf2.rehead (pv' := v') ts (hf2.head.set 1 v')
  have tt : Turn (fun j => own j = some .disk ∨ own j = some .pends) w (w2.setCell ⟨b, 1, none⟩ v') := (tp.mono (fun _ _ h => .inr h)).trans' ts (fun j _ e => .inl (by rw [e]; exact hf.hb))
  have hnew : ∀ j, own j ≠ none → own j ≠ some .pends → (if v'.ownBlock = some j then some Tag.pends else own j) = own j := fun j h0 h1 => if_neg (key j h0 h1)
  refine ⟨fun j => if v'.ownBlock = some j then some .pends else own j, hf3.retag ?_, ⟨?_, fun g hg => if_pos hg, ?_⟩, tt, ?_⟩
  · intro j hj
    rcases hj with h | h | ⟨f, h⟩ <;> exact hnew j (by rw [h]; simp) (by rw [h]; simp)
  · rw [pcells_snoc, List.length_append]
    exact row_kept hrow ts (fun k hk e => hvb (e ▸ hk))
  · intro i x hi hx
    have kept : ∀ (y : Value) (ys : List UInt8) (n : Nat), Owns w y ys → (∀ g, y.ownBlock = some g → own g = some (.took n)) → Owns (w2.setCell ⟨b, 1, none⟩ v') y ys ∧ ∀ g, y.ownBlock = some g → (if v'.ownBlock = some g then some Tag.pends else own g) = some (.took n) := by
      intro y ys n hy hyt
      refine ⟨hy.kept tt (fun k hk e => ?_), fun g hg => ?_⟩
      · rw [hyt k hk] at e
        rcases e with e | e <;> cases e
      · rw [hnew g (by rw [hyt g hg]; simp) (by rw [hyt g hg]; simp)]
        exact hyt g hg
    by_cases hi' : i < us.length
    · rw [List.getElem?_append_left hi'] at hx
      obtain ⟨a1, a2⟩ := hp.each i x hi' hx
      exact kept _ _ _ a1 a2
    · have : i = us.length := by simp at hi; omega
      subst this
      simp at hx
      subst hx
      exact kept _ _ _ hu hut
  · intro j
    show (if v'.ownBlock = some j then some Tag.pends else own j) = own j ∨ ((if v'.ownBlock = some j then some Tag.pends else own j) = some .pends ∧ w.heap.size ≤ j ∧ j < (w2.setCell ⟨b, 1, none⟩ v').heap.size)
    by_cases hj : v'.ownBlock = some j
    · rw [if_pos hj]
      rcases hloc with hl | hl
      · rw [hl] at hj
        exact .inl (hp.pown j hj).symm
      · have h1 := (World.ownsRow.lt hrow j hj).2
        have h2 := ts.size
        rw [hl] at hj
        injection hj with hj
        have := ta.size
        exact .inr ⟨rfl, by omega, by omega⟩
    · exact .inl (if_neg hj)

end

theorem acts_push (s : DSt) (o : DOp) : (s.worked.push o).now = act s.now o := acts_snoc s.base s.ops o

section
variable {w : World} {b : Nat} {S : Nat → Prop} {N : Nat} {s : DSt}

set_option maxHeartbeats 400000 in
theorem append_arg (f : Int) (v : Value) (bs : List UInt8) (w : World) (hf : f < 0) (hs : Sees w v bs) : Calls Tryz.prog 20 #[.pointer (some ⟨b, 0, none⟩), .int .i64 f, v] w fun e w' => e = .returned (.int .i64 1) ∧ w = w' := by
  obtain ⟨ao, c, rfl⟩ := hs.shape
  go_enter Tryz.func20, Tryz.ntmps20
  go_wp2
  go_ret
  exact ⟨rfl, rfl⟩

set_option maxHeartbeats 400000 in
theorem append_down (f : Int) (v : Value) (bs : List UInt8) (h : Dk w b S N s) (hs : Sees w v bs) (hf : 0 ≤ f) (hd : s.down = true) :
    Calls Tryz.prog 20 #[.pointer (some ⟨b, 0, none⟩), .int .i64 f, v] w fun e w' => e = .returned (.int .i64 14) ∧ DkTo w b S N s.fall w' := by
  have hm := h.mem
  obtain ⟨own, fv, pv, fs, us, h⟩ := h
  obtain ⟨ao, c, rfl⟩ := hs.shape
  have hf' : ¬ f < 0 := by omega
  go_enter Tryz.func20, Tryz.ntmps20
  go_wp2_with fail
  refine (work_down h.f.head hd).mono ?_
  rintro e w1 ⟨rfl, hat, ht⟩
  have h1 : DkIs w1 b S N s.fall own fv pv fs us := h.rehead ht hat rfl rfl h.fit.fall
  have H1 := hide h1
  clear h1 h hat
  go_wp2
  go_ret
  exact ⟨rfl, DkTo.of (unhide H1) hm ht⟩

set_option maxHeartbeats 400000 in
theorem append_none (f : Int) (v : Value) (h : Dk w b S N s) (hs : Sees w v []) (hf : 0 ≤ f) (hd : s.down = false) (hN : N ≤ 1073741824) :
    Calls Tryz.prog 20 #[.pointer (some ⟨b, 0, none⟩), .int .i64 f, v] w fun e w' => e = .returned (.int .i64 0) ∧ DkTo w b S (N + 1) s.worked w' := by
  have hm := h.mem
  obtain ⟨own, fv, pv, fs, us, h⟩ := h
  obtain ⟨ao, c, rfl⟩ := hs.shape
  have hf' : ¬ f < 0 := by omega
  have hfit := h.fit
  have hwk := hfit.works
  go_enter Tryz.func20, Tryz.ntmps20
  go_wp2_with fail
  refine (work_ok h.f.head hd (by omega) hfit.left hfit.hi).mono ?_
  rintro e w1 ⟨rfl, hat, ht⟩
  have h1 : DkIs w1 b S (N + 1) s.worked own fv pv fs us := h.rehead ht hat rfl rfl (hfit.worked hd)
  have H1 := hide h1
  clear h1 h hat
  go_wp2
  go_ret
  exact ⟨rfl, DkTo.of (unhide H1) hm ht⟩

end

end Go.Proofs.YtfmbkpdjjhcmcaaGreat
