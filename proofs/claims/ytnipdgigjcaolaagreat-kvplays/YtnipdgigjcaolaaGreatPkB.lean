/- What stands below the proof, in one text. -/
import Derived.Test.YtnipdgigjcaolaaGreatPkA
import Derived.Lib.AppendZeros
import Derived.Lib.SliceRun
/- A Disk's files in memory, and what bytesOf and put do to them. -/
namespace Go.Proofs.YtnipdgigjcaolaaGreat
open Go.RowKit

/-- What a block of a Disk's is for. -/
inductive Tag where
  | disk
  | files
  | pends
  | file (k : Int)
  | took (i : Nat)

/-- A Disk in block b: its files; own tells what each block is for. -/
structure FAt (w : World) (b : Nat) (own : Nat → Option Tag) (fv pv : Value) (wk : Nat) (fu : Bool) (lf : Int) (de : Bool) (fs : List Ent) : Prop where
  head : At 83 w b (dcells fv pv wk fu lf de)
  hb : own b = some .disk
  row : w.ownsRow 0 162 2 fv fs.length (ecells fs)
  fown : ∀ g, fv.ownBlock = some g → own g = some .files
  rise : Rise fs
  file : ∀ e ∈ fs, Owns w e.v e.bs ∧ e.bs ≠ [] ∧ ∀ g, e.v.ownBlock = some g → own g = some (.file e.num)

section
variable {w : World} {b : Nat} {own : Nat → Option Tag} {fv pv : Value} {wk : Nat} {fu : Bool} {lf : Int} {de : Bool} {fs : List Ent}

theorem FAt.files (h : FAt w b own fv pv wk fu lf de fs) : Files w fv fs :=
  ⟨h.row, h.rise, fun e he => by obtain ⟨ao, c, hv⟩ := (h.file e he).1.shape; exact ⟨_, _, _, hv⟩⟩

theorem FAt.kept {S : Nat → Prop} {w' : World} (h : FAt w b own fv pv wk fu lf de fs) (ht : Turn S w w') (hs : ∀ k, S k → own k ≠ some .disk ∧ own k ≠ some .files ∧ ∀ f, own k ≠ some (.file f)) : FAt w' b own fv pv wk fu lf de fs :=
  ⟨h.head.kept ht (fun hS => (hs b hS).1 h.hb), h.hb, row_kept h.row ht (fun k hk hS => (hs k hS).2.1 (h.fown k hk)), h.fown, h.rise,
    fun e he => ⟨(h.file e he).1.kept ht (fun k hk hS => (hs k hS).2.2 _ ((h.file e he).2.2 k hk)), (h.file e he).2⟩⟩

theorem FAt.same {w' : World} (h : FAt w b own fv pv wk fu lf de fs) (ht : Turn (fun _ => False) w w') : FAt w' b own fv pv wk fu lf de fs := h.kept ht (fun _ h => h.elim)

theorem FAt.shape (h : FAt w b own fv pv wk fu lf de fs) : ∃ ao c, fv = .slice ao fs.length c := by
  rcases row_shape h.row with ⟨rfl, h0⟩ | ⟨g, cap, rfl, _⟩
  · exact ⟨none, 0, by rw [h0]⟩
  · exact ⟨_, _, rfl⟩

theorem FAt.one (h : FAt w b own fv pv wk fu lf de fs) : ∀ u ∈ ecells fs, u.oneCell' = true :=
  ecells_one (fun e he => by obtain ⟨ao, c, hv⟩ := (h.file e he).1.shape; rw [hv]; rfl)

theorem _root_.Go.Proofs.YtnipdgigjcaolaaGreat.Place.only_not {fs : List Ent} {k : Int} {at' : Nat} (h : Place fs k at' false) : ∀ e ∈ fs, e.num ≠ k := by
  have h1 := h.pre
  have h2 := h.post
  intro e he
  rw [← List.take_append_drop at' fs] at he
  rcases List.mem_append.1 he with h' | h'
  · have := h1 e h'; omega
  · have := h2 e h'; omega

theorem _root_.Go.Proofs.YtnipdgigjcaolaaGreat.Place.only_there {fs : List Ent} {k : Int} {at' : Nat} {x : Ent} (h : Place fs k at' true) (hx : fs[at']? = some x) : ∀ e ∈ fs, e.num = k → e = x := by
  have h1 := h.pre
  have h2 := h.post
  intro e he hk
  rw [ents_split hx] at he
  rcases List.mem_append.1 he with h' | h'
  · have := h1 e h'; omega
  · rcases List.mem_cons.1 h' with h' | h'
    · exact h'
    · have := h2 e h'; omega

/-- What bytesOf tells. -/
def ToldB (w : World) (own : Nat → Option Tag) (fs : List Ent) (k : Int) (e : Ending) (w' : World) : Prop :=
  ∃ v, e = .returned v ∧ Owns w' v (look fs k) ∧ (∀ g, v.ownBlock = some g → own g = some (.file k)) ∧ (∀ e ∈ fs, e.num = k → e.v = v) ∧ Turn (fun _ => False) w w'

set_option maxHeartbeats 1000000 in
set_option maxRecDepth 100000 in
theorem bytesOf_any (k : Int) (h : FAt w b own fv pv wk fu lf de fs) (hlen : fs.length ≤ 1099511627776) :
    Calls Tryz.prog 53 #[.pointer (some ⟨b, 0, none⟩), .int .i64 k] w (ToldB w own fs k) := by
  have hnot : ∀ (x : Bool) (w : World), (Op.unary .not (.bool x)).run Tryz.prog w = .ok (.bool (!x)) w := fun _ _ => rfl
  go_enter Tryz.func53, Tryz.ntmps53
  go_wp2_with fail
  refine (find_any b fv pv wk fu lf de fs k _ h.head h.files hlen).mono ?_
  rintro e w1 ⟨at', there, rfl, hp, t1⟩
  have h1 := h.same t1
  cases there with
  | false =>
    go_wp2
    go_ret
    exact ⟨_, rfl, by rw [hp.look_not]; exact Owns.nil _, fun g hg => by simp [Value.ownBlock] at hg, fun e he hk => absurd hk (hp.only_not e he), t1⟩
  | true =>
    obtain ⟨x, hx, hxk⟩ := hp.is rfl
    obtain ⟨hlt, _⟩ := List.getElem?_eq_some_iff.1 hx
    rcases row_shape h1.row with ⟨rfl, h0⟩ | ⟨g, cap, rfl, hnc, hcm, _⟩
    · omega
    · obtain ⟨ao, n, c, hv, c0, c1⟩ := h1.files.cells at' x hx
      have c2 : w1.cell? ⟨b, 0, none⟩ = some (.slice (some ⟨g, 0, none⟩) fs.length cap) := h1.head.cell 0
      have q1 : (at' : Int) < fs.length := by omega
      have Hf := hide (h1.file x (List.mem_of_getElem? hx))
      have Hp := hide (hp.look_there hx)
      have Ho := hide (hp.only_there hx)
      clear h1 hx c0
      unfold maxLen at hcm
      go_wp2
      go_ret
      refine ⟨_, rfl, ?_, ?_, ?_, t1⟩
      · rw [unhide Hp, ← hv]; exact (unhide Hf).1
      · rw [← hv, ← hxk]; exact (unhide Hf).2.2
      · intro e he hk
        rw [unhide Ho e he hk, hv]
        rfl

/-- Where the files come to behind a put. -/
def PutAt (w : World) (b : Nat) (own : Nat → Option Tag) (pv : Value) (wk : Nat) (fu : Bool) (lf : Int) (de : Bool) (fs : List Ent) (k : Int) (bs : List UInt8) (w' : World) : Prop :=
  ∃ own' fv' fs', FAt w' b own' fv' pv wk fu lf de fs' ∧ look fs' = fput (look fs) k bs ∧ fs'.length ≤ fs.length + 1 ∧ Turn (fun j => own j = some .disk ∨ own j = some .files) w w' ∧ ∀ j, own' j = own j ∨ (own' j = some .files ∧ w.heap.size ≤ j ∧ j < w'.heap.size)

theorem FAt.done (h : FAt w b own fv pv wk fu lf de fs) {k : Int} {v : Value} {bs : List UInt8} {at' : Nat} {there : Bool} (hp : Place fs k at' there) (hv : Owns w v bs) (hvo : bs ≠ [] → ∀ g, v.ownBlock = some g → own g = some (.file k)) {w2 w3 : World} {v' : Value}
    (ht : Turn (fun j => fv.ownBlock = some j) w w2) (hrow : w2.ownsRow 0 162 2 v' (splice fs at' there k v bs).length (ecells (splice fs at' there k v bs))) (hloc : v'.ownBlock = fv.ownBlock ∨ ∃ g, v'.ownBlock = some g ∧ w.heap.size ≤ g)
    (ts : Turn (fun j => j = b) w2 w3) (hat3 : At 83 w3 b (dcells v' pv wk fu lf de)) :
    PutAt w b own pv wk fu lf de fs k bs w3 := by
  have hlt := h.head.lt
  have key : ∀ g, g < w.heap.size → own g ≠ some .files → v'.ownBlock ≠ some g := by
    intro g hg hf e
    rcases hloc with hl | ⟨g', hl, hge⟩
    · rw [hl] at e
      exact hf (h.fown g e)
    · rw [hl] at e
      injection e with e
      omega
  have keyf : ∀ g, own g ≠ some .files → fv.ownBlock ≠ some g := fun g hf e => hf (h.fown g e)
  have hvb : v'.ownBlock ≠ some b := key b hlt (by rw [h.hb]; simp)
  have hfb : fv.ownBlock ≠ some b := keyf b (by rw [h.hb]; simp)
  have tt : Turn (fun j => own j = some .disk ∨ own j = some .files) w w3 :=
    (ht.mono (fun j _ e => .inr (h.fown j e))).trans' ts (fun j _ e => .inl (by rw [e]; exact h.hb))
  have new : ∀ g, g < w.heap.size → own g ≠ some .files → (if v'.ownBlock = some g then some Tag.files else own g) = own g := fun g hg hf => if_neg (key g hg hf)
  have hown : ∀ (x : Value) (ys : List UInt8) (f : Int), Owns w x ys → (∀ g, x.ownBlock = some g → own g = some (.file f)) → Owns w3 x ys ∧ ∀ g, x.ownBlock = some g → (if v'.ownBlock = some g then some Tag.files else own g) = some (.file f) := by
    intro x ys f hx hg
    refine ⟨hx.kept tt (fun j hj e => ?_), fun g hgx => ?_⟩
    · rw [hg j hj] at e
      rcases e with e | e <;> simp at e
    · rw [new g (hx.lt hgx) (by rw [hg g hgx]; simp)]
      exact hg g hgx
  refine ⟨fun j => if v'.ownBlock = some j then some .files else own j, v', splice fs at' there k v bs, ⟨?_, ?_, row_kept hrow ts (fun j hj e => hvb (e ▸ hj)), fun g hg => if_pos hg, splice_rise hp h.rise v bs, ?_⟩, ?_, splice_length hp v bs, tt, ?_⟩
  · exact hat3
  · show (if v'.ownBlock = some b then some Tag.files else own b) = _
    rw [if_neg hvb]; exact h.hb
  · intro e he
    rcases splice_mem hp he with ⟨h1, _⟩ | ⟨rfl, h2⟩
    · obtain ⟨a1, a2, a3⟩ := h.file e h1
      obtain ⟨b1, b2⟩ := hown e.v e.bs e.num a1 a3
      exact ⟨b1, a2, b2⟩
    · obtain ⟨b1, b2⟩ := hown v bs k hv (hvo h2)
      exact ⟨b1, h2, b2⟩
  · funext i
    rw [splice_look hp v bs i]
    rfl
  · intro j
    show (if v'.ownBlock = some j then some Tag.files else own j) = own j ∨ ((if v'.ownBlock = some j then some Tag.files else own j) = some .files ∧ w.heap.size ≤ j ∧ j < w3.heap.size)
    by_cases hj : v'.ownBlock = some j
    · rw [if_pos hj]
      rcases hloc with hl | ⟨g', hl, hge⟩
      · rw [hl] at hj
        exact .inl (h.fown j hj).symm
      · have hlt2 := (World.ownsRow.lt hrow j hj).2
        have hlt3 := ts.size
        rw [hl] at hj
        injection hj with hj
        exact .inr ⟨rfl, by omega, by omega⟩
    · rw [if_neg hj]
      exact .inl rfl

end

end Go.Proofs.YtnipdgigjcaolaaGreat

/- The method put: a file's bytes are made anew. -/
namespace Go.Proofs.YtnipdgigjcaolaaGreat
open Go.RowKit

section
variable {w : World} {b : Nat} {own : Nat → Option Tag} {fv pv : Value} {wk : Nat} {fu : Bool} {lf : Int} {de : Bool} {fs : List Ent}

theorem splice_none (fs : List Ent) (at' : Nat) (k : Int) (v : Value) : splice fs at' false k v [] = fs := by
  simp [splice]

theorem splice_del_length {at' : Nat} (hlt : at' < fs.length) (k : Int) (v : Value) : (splice fs at' true k v []).length = fs.length - 1 := by
  simp [splice]
  omega

theorem splice_put_length {at' : Nat} (hlt : at' < fs.length) (k : Int) (v : Value) {bs : List UInt8} (hb : bs ≠ []) : (splice fs at' true k v bs).length = fs.length := by
  simp [splice, hb]
  omega

theorem splice_ins_length {at' : Nat} (hle : at' ≤ fs.length) (k : Int) (v : Value) {bs : List UInt8} (hb : bs ≠ []) : (splice fs at' false k v bs).length = fs.length + 1 := by
  simp [splice, hb]
  omega

theorem ecells_there {at' : Nat} {e : Ent} (he : fs[at']? = some e) (v : Value) {bs : List UInt8} (hb : bs ≠ []) : (ecells fs).set (at' * 2 + 1) v = ecells (splice fs at' true e.num v bs) := by
  have hlt := (List.getElem?_eq_some_iff.1 he).1
  have hl : (ecells (fs.take at')).length = at' * 2 := by rw [ecells_length, List.length_take]; omega
  conv => lhs; rw [ents_split he]
  unfold splice
  rw [if_neg hb, ecells_append, ecells_append, List.set_append_right _ _ (by omega), hl, show at' * 2 + 1 - at' * 2 = 1 by omega]
  rfl

set_option maxHeartbeats 2000000 in
set_option maxRecDepth 100000 in
theorem put_any (k : Int) (v : Value) (bs : List UInt8) (h : FAt w b own fv pv wk fu lf de fs) (hv : Owns w v bs) (hvo : bs ≠ [] → ∀ g, v.ownBlock = some g → own g = some (.file k)) (hlen : fs.length ≤ 1073741824) :
    Calls Tryz.prog 52 #[.pointer (some ⟨b, 0, none⟩), .int .i64 k, v] w fun e w' => e = .returned (.tuple #[]) ∧ PutAt w b own pv wk fu lf de fs k bs w' := by
  obtain ⟨vao, vcap, hve⟩ := hv.shape
  have hbm : bs.length ≤ maxLen := hv.sees.len
  unfold maxLen at hbm
  subst hve
  go_enter Tryz.func52, Tryz.ntmps52
  go_wp2_with fail
  refine (find_any b fv pv wk fu lf de fs k _ h.head h.files (by omega)).mono ?_
  rintro e w1 ⟨at', there, rfl, hp, t1⟩
  have h1 := h.same t1
  have hv1 := hv.kept t1 (fun _ _ h => h)
  have back : ∀ w', PutAt w1 b own pv wk fu lf de fs k bs w' → PutAt w b own pv wk fu lf de fs k bs w' := by
    rintro w' ⟨own', fv', fs', a1, a2, a3, a4, a5⟩
    exact ⟨own', fv', fs', a1, a2, a3, (t1.mono (fun _ _ h => h.elim)).trans a4, fun j => (a5 j).imp id (fun h => ⟨h.1, Nat.le_trans t1.size h.2.1, h.2.2⟩)⟩
  have hle := hp.le
  have Hback := hide back
  have Hp := hide hp
  have Hv := hide hv1
  clear h hv back t1 hv1
  obtain ⟨ao, c, rfl⟩ := h1.shape
  have c0 : w1.cell? ⟨b, 0, none⟩ = some (.slice ao fs.length c) := h1.head.cell 0
  cases there with
  | false =>
    clear hp
    by_cases hb : bs = []
    · have hz : bs.length = 0 := by rw [hb]; rfl
      have Hb := hide hb
      clear hb
      go_wp2
      go_end0
      refine ⟨rfl, unhide Hback _ ?_⟩
      refine h1.done (unhide Hp) (unhide Hv) hvo (Turn.refl _ _) (v' := .slice ao fs.length c) ?_ (.inl rfl) (Turn.refl _ _) h1.head
      rw [unhide Hb, splice_none]
      exact h1.row
    · have hz : ¬ bs.length = 0 := fun h0 => hb (List.eq_nil_of_length_eq_zero h0)
      have hz2 : (0 : Int) < bs.length := by omega
      have Hb := hide hb
      clear hb
      go_wp2_with fail
      have hA : At 162 (w1.alloc (.cells #[.int .i64 k, .slice vao bs.length vcap] 162)) w1.heap.size #[.int .i64 k, .slice vao bs.length vcap] := At.new _ _ _
      have ta : Turn (fun _ => False) w1 (w1.alloc (.cells #[.int .i64 k, .slice vao bs.length vcap] 162)) := (Turn.refl _ _).alloc _
      have h2 := h1.same ta
      have hsz : w1.heap.size ≤ (w1.alloc (.cells #[.int .i64 k, .slice vao bs.length vcap] 162)).heap.size := ta.size
      generalize hwa : w1.alloc (.cells #[.int .i64 k, .slice vao bs.length vcap] 162) = wa at *
      clear hwa
      refine (insert_any _ fs.length at' w1.heap.size (ecells fs) (.int .i64 k) (.slice vao bs.length vcap) wa h2.row ⟨hA, rfl, rfl⟩ ?_ hle (by omega) h2.one).mono ?_
      · intro e
        have := (World.ownsRow.lt h1.row _ e).2
        omega
      rintro e w2 ⟨v', rfl, hrow, hloc, t2⟩
      obtain ⟨ao', c', rfl⟩ : ∃ ao' c', v' = .slice ao' (fs.length + 1) c' := by
        rcases row_shape hrow with ⟨rfl, h0⟩ | ⟨g, cap, rfl, _⟩
        · omega
        · exact ⟨_, _, rfl⟩
      have hfb : ¬ (Value.slice ao fs.length c).ownBlock = some b := fun e => by have := h1.fown b e; rw [h1.hb] at this; cases this
      have hd2 : At 83 w2 b (dcells (.slice ao fs.length c) pv wk fu lf de) := h2.head.kept t2 hfb
      have c2 : w2.cell? ⟨b, 0, none⟩ = some (.slice ao fs.length c) := hd2.cell 0
      have f2 : w2.frozen? ⟨b, 0, none⟩ = false := hd2.frozen 0
      have Hrow := hide hrow
      have Hloc := hide hloc
      clear hrow hloc h2 hA
      go_wp2
      go_end0
      refine ⟨rfl, unhide Hback _ ?_⟩
      refine h1.done (unhide Hp) (unhide Hv) hvo ((ta.mono (fun _ _ h => h.elim)).trans t2) (v' := .slice ao' (fs.length + 1) c') ?_ ?_ ((Turn.refl (fun j => j = b) w2).setCell (p := ⟨b, 0, none⟩) (.inl rfl) _) ?_
      · rw [splice_ins_length hle k _ (unhide Hb), ecells_splice, if_neg (unhide Hb)]
        exact unhide Hrow
      · rcases unhide Hloc with e | e
        · exact .inl e
        · exact .inr ⟨_, e, hsz⟩
      · exact hd2.set 0 _
  | true =>
    obtain ⟨x, hx, hxk⟩ := hp.is rfl
    clear hp
    obtain ⟨hlt, _⟩ := List.getElem?_eq_some_iff.1 hx
    by_cases hb : bs = []
    · have hz : bs.length = 0 := by rw [hb]; rfl
      have Hb := hide hb
      clear hb
      have q0 : IntKind.i64.wrap ((at' : Int) + 1) = (at' : Int) + 1 := by rw [IntKind.wrap_i64]; omega
      go_wp2_with fail
      refine (delete_any _ fs.length at' (ecells fs) w1 h1.row hlt (by omega) h1.one).mono ?_
      rintro e w2 ⟨v', rfl, hrow, hloc, t2⟩
      obtain ⟨ao', c', rfl⟩ : ∃ ao' c', v' = .slice ao' (fs.length - 1) c' := by
        rcases row_shape hrow with ⟨rfl, h0⟩ | ⟨g, cap, rfl, _⟩
        · exact ⟨none, 0, by rw [h0]⟩
        · exact ⟨_, _, rfl⟩
      have hfb : ¬ (Value.slice ao fs.length c).ownBlock = some b := fun e => by have := h1.fown b e; rw [h1.hb] at this; cases this
      have hd2 : At 83 w2 b (dcells (.slice ao fs.length c) pv wk fu lf de) := h1.head.kept t2 hfb
      have c2 : w2.cell? ⟨b, 0, none⟩ = some (.slice ao fs.length c) := hd2.cell 0
      have f2 : w2.frozen? ⟨b, 0, none⟩ = false := hd2.frozen 0
      have Hrow := hide hrow
      have Hloc := hide hloc
      clear hrow hloc
      go_wp2
      go_end0
      refine ⟨rfl, unhide Hback _ ?_⟩
      refine h1.done (unhide Hp) (unhide Hv) hvo t2 (v' := .slice ao' (fs.length - 1) c') ?_ (.inl (unhide Hloc)) ((Turn.refl (fun j => j = b) w2).setCell (p := ⟨b, 0, none⟩) (.inl rfl) _) ?_
      · rw [ecells_splice, if_pos (unhide Hb), List.nil_append, unhide Hb, splice_del_length hlt]
        exact unhide Hrow
      · exact hd2.set 0 _
    · have hz : ¬ bs.length = 0 := fun h0 => hb (List.eq_nil_of_length_eq_zero h0)
      have hz2 : (0 : Int) < bs.length := by omega
      have Hb := hide hb
      clear hb
      go_wp2_with fail
      obtain ⟨g, cap, cur, hsl, hr⟩ := row_at h1.row (by omega)
      injection hsl with e1 e2 e3
      subst e1 e3
      have hcm := hr.max
      unfold maxLen at hcm
      have hrl := hr.le
      have q1 : (at' : Int) < fs.length := by omega
      have hcc : w1.cell? ⟨g, at' * 2 + 1, none⟩ = some x.v := hr.cell _ _ (ecells_val fs at' x hx)
      obtain ⟨xo, xn, xc, hxv⟩ := h1.files.val x (List.mem_of_getElem? hx)
      rw [hxv] at hcc
      have hff : w1.frozen? ⟨g, at' * 2 + 1, none⟩ = false := frozen_of_row w1 g _ _ _ hr.heap
      have hgb : b ≠ g := fun e => by have := h1.fown g rfl; rw [← e, h1.hb] at this; cases this
      have Hr := hide hr
      have Hx := hide hx
      clear hr hx
      go_wp2
      go_end0
      refine ⟨rfl, unhide Hback _ ?_⟩
      have tg : Turn (fun j => (Value.slice (some ⟨g, 0, none⟩) fs.length c).ownBlock = some j) w1 (w1.setCell ⟨g, at' * 2 + 1, none⟩ (.slice vao bs.length vcap)) := (Turn.refl (fun j => (Value.slice (some ⟨g, 0, none⟩) fs.length c).ownBlock = some j) w1).setCell (p := ⟨g, at' * 2 + 1, none⟩) (.inl rfl) _
      refine h1.done (unhide Hp) (unhide Hv) hvo tg (v' := .slice (some ⟨g, 0, none⟩) fs.length c) ?_ (.inl rfl) (Turn.refl _ _) (h1.head.kept tg (fun e => by injection e with e; exact hgb e.symm))
      rw [splice_put_length hlt k _ (unhide Hb), ← hxk, ← ecells_there (unhide Hx) _ (unhide Hb)]
      have hr := unhide Hr
      refine ⟨by rw [List.length_set]; exact hr.len, .inr ⟨g, c, _, rfl, Nat.zero_le _, heap_setCell_same w1 g _ _ _ _ hr.heap, hr.le, hr.max, by rw [Array.size_setIfInBounds]; exact hr.size, ?_⟩⟩
      rw [Array.toList_setIfInBounds, List.take_set, hr.take]

end

end Go.Proofs.YtnipdgigjcaolaaGreat

/- A Disk's state, plainly: what is safe, what pends, the fuse; and a Disk in memory that is in it. -/
namespace Go.Proofs.YtnipdgigjcaolaaGreat
open Go.RowKit

/-- A Disk, plainly. -/
structure DSt where
  base : Fs
  ops : List DOp
  works : Nat
  fused : Bool
  left : Int
  dead : Bool

def DOp.key : DOp → Int
  | .lay k _ => k
  | .rem k => k

namespace DSt

def zero : DSt := ⟨fun _ => [], [], 0, false, 0, false⟩
def now (s : DSt) : Fs := acts s.base s.ops
def down (s : DSt) : Bool := s.dead || (s.fused && s.left == 0)
def fall (s : DSt) : DSt := { s with dead := true }
def worked (s : DSt) : DSt := { s with works := s.works + 1, left := if s.fused then s.left - 1 else s.left }
def push (s : DSt) (o : DOp) : DSt := { s with ops := s.ops ++ [o] }
def lays (s : DSt) (f : Int) (bs : List UInt8) : DSt := if bs = [] then s.worked else s.worked.push (.lay f bs)
def rems (s : DSt) (f : Int) : DSt := if s.now f = [] then s.worked else s.worked.push (.rem f)
def safe (s : DSt) : DSt := { s.worked with base := s.now, ops := [] }
def fuse (s : DSt) (n : Int) : DSt := { s with fused := decide (0 ≤ n), left := n }
def crash (s : DSt) (done cut : Int) : DSt := ⟨crashed s.base s.ops (done % ((s.ops.length : Int) + 1)).toNat cut, [], s.works, false, -1, false⟩
def read (s : DSt) (k : Int) : List UInt8 := if s.dead then [] else s.now k

def add (s : DSt) (f : Int) (bs : List UInt8) : Int × DSt := if f < 0 then (1, s) else if s.down then (14, s.fall) else (0, s.lays f bs)
def rem (s : DSt) (f : Int) : Int × DSt := if f < 0 then (1, s) else if s.down then (14, s.fall) else (0, s.rems f)
def sync (s : DSt) : Int × DSt := if s.down then (14, s.fall) else (0, s.safe)

/-- What keeps a state within bounds. -/
structure Fit (N : Nat) (s : DSt) : Prop where
  keys : ∃ L : List Int, L.length ≤ N ∧ (∀ k, s.base k ≠ [] → k ∈ L) ∧ ∀ o ∈ s.ops, o.key ∈ L
  many : s.ops.length ≤ N
  works : s.works ≤ N
  left : s.fused = true → 0 ≤ s.left
  lo : -9223372036854775808 ≤ s.left
  hi : s.left ≤ 9223372036854775807
  lay : ∀ k bs, DOp.lay k bs ∈ s.ops → bs ≠ []

theorem Fit.zero : Fit 0 zero := ⟨⟨[], by simp, fun k h => absurd rfl h, by simp [DSt.zero]⟩, by simp [DSt.zero], by simp [DSt.zero], by simp [DSt.zero], by simp [DSt.zero], by simp [DSt.zero], by simp [DSt.zero]⟩

theorem Fit.fall {N : Nat} {s : DSt} (h : Fit N s) : Fit N s.fall := ⟨h.keys, h.many, h.works, h.left, h.lo, h.hi, h.lay⟩

theorem Fit.mono {N M : Nat} {s : DSt} (h : Fit N s) (hm : N ≤ M) : Fit M s := by
  obtain ⟨L, h1, h2⟩ := h.keys
  exact ⟨⟨L, by omega, h2⟩, by have := h.many; omega, by have := h.works; omega, h.left, h.lo, h.hi, h.lay⟩

theorem Fit.worked {N : Nat} {s : DSt} (h : Fit N s) (hd : s.down = false) : Fit (N + 1) s.worked := by
  obtain ⟨L, h1, h2⟩ := h.keys
  have hm := h.many
  have hw := h.works
  have hl := h.left
  have hlo := h.lo
  have hhi := h.hi
  refine ⟨⟨L, by omega, h2⟩, by show s.ops.length ≤ _; omega, by show s.works + 1 ≤ _; omega, ?_, ?_, ?_, h.lay⟩
  · intro hf
    have hf' : s.fused = true := hf
    show 0 ≤ if s.fused = true then s.left - 1 else s.left
    have := hl hf'
    have h0 : s.left ≠ 0 := by
      intro e
      unfold DSt.down at hd
      rw [hf', e] at hd
      simp at hd
    rw [if_pos hf']
    omega
  · show _ ≤ if s.fused = true then s.left - 1 else s.left
    split
    · have := hl ‹_›; omega
    · omega
  · show (if s.fused = true then s.left - 1 else s.left) ≤ _
    split <;> omega

theorem Fit.push {N : Nat} {s : DSt} (h : Fit N s) (hd : s.down = false) (o : DOp) (ho : ∀ k bs, o = .lay k bs → bs ≠ []) : Fit (N + 1) (s.worked.push o) := by
  have hw := h.worked hd
  obtain ⟨L, h1, h2, h3⟩ := h.keys
  have hm := h.many
  refine ⟨⟨o.key :: L, by simp; omega, fun k hk => List.mem_cons_of_mem _ (h2 k hk), ?_⟩, by show (s.ops ++ [o]).length ≤ _; simp; omega, hw.works, hw.left, hw.lo, hw.hi, ?_⟩
  · intro x hx
    have hx' : x ∈ s.ops ++ [o] := hx
    rcases List.mem_append.1 hx' with hx | hx
    · exact List.mem_cons_of_mem _ (h3 x hx)
    · simp only [List.mem_singleton] at hx
      subst hx
      exact List.mem_cons_self
  · intro k bs hx
    have hx' : DOp.lay k bs ∈ s.ops ++ [o] := hx
    rcases List.mem_append.1 hx' with hx | hx
    · exact h.lay k bs hx
    · simp only [List.mem_singleton] at hx
      exact ho k bs hx.symm

theorem fput_keys {s : Fs} {f : Int} {x : List UInt8} {L : List Int} (h : ∀ k, s k ≠ [] → k ∈ L) (hf : f ∈ L) : ∀ k, fput s f x k ≠ [] → k ∈ L := by
  intro k hk
  by_cases e : k = f
  · rw [e]; exact hf
  · have e2 : fput s f x k = s k := if_neg e
    rw [e2] at hk
    exact h k hk

theorem act_keys {s : Fs} {o : DOp} {L : List Int} (h : ∀ k, s k ≠ [] → k ∈ L) (ho : o.key ∈ L) : ∀ k, act s o k ≠ [] → k ∈ L := by
  cases o with
  | lay f bs => exact fput_keys h ho
  | rem f => exact fput_keys h ho

theorem acts_keys {L : List Int} : ∀ (l : List DOp) {s : Fs}, (∀ k, s k ≠ [] → k ∈ L) → (∀ o ∈ l, o.key ∈ L) → ∀ k, acts s l k ≠ [] → k ∈ L
  | [], s, h, _ => h
  | o :: r, s, h, hl => acts_keys r (act_keys h (hl o (by simp))) (fun x hx => hl x (by simp [hx]))

theorem Fit.now {N : Nat} {s : DSt} (h : Fit N s) : ∃ L : List Int, L.length ≤ N ∧ ∀ k, s.now k ≠ [] → k ∈ L := by
  obtain ⟨L, h1, h2, h3⟩ := h.keys
  exact ⟨L, h1, acts_keys s.ops h2 h3⟩

theorem Fit.safe {N : Nat} {s : DSt} (h : Fit N s) (hd : s.down = false) : Fit (N + 1) s.safe := by
  have hw := h.worked hd
  obtain ⟨L, h1, h2⟩ := h.now
  exact ⟨⟨L, by omega, h2, by simp [DSt.safe]⟩, by simp [DSt.safe], hw.works, hw.left, hw.lo, hw.hi, by simp [DSt.safe]⟩

theorem Fit.fuse {N : Nat} {s : DSt} (h : Fit N s) (n : Int) (h0 : -9223372036854775808 ≤ n) (h1 : n ≤ 9223372036854775807) : Fit N (s.fuse n) :=
  ⟨h.keys, h.many, h.works, fun hf => by simpa [DSt.fuse] using hf, h0, h1, h.lay⟩

theorem part_keys {s : Fs} {o : DOp} {c : Nat} {L : List Int} (h : ∀ k, s k ≠ [] → k ∈ L) (ho : o.key ∈ L) : ∀ k, partOf s c o k ≠ [] → k ∈ L := by
  cases o with
  | lay f bs => exact fput_keys h ho
  | rem f => exact h

theorem crashed_keys {s : Fs} {l : List DOp} {n : Nat} {cut : Int} {L : List Int} (h : ∀ k, s k ≠ [] → k ∈ L) (hl : ∀ o ∈ l, o.key ∈ L) : ∀ k, crashed s l n cut k ≠ [] → k ∈ L := by
  have ht : ∀ k, acts s (l.take n) k ≠ [] → k ∈ L := acts_keys (l.take n) h (fun o ho => hl o (List.mem_of_mem_take ho))
  rcases e : l[n]? with _ | o
  · unfold crashed
    rw [e]
    exact ht
  · cases o with
    | lay k bs =>
      unfold crashed
      rw [e]
      exact part_keys ht (hl _ (List.mem_of_getElem? e))
    | rem k =>
      unfold crashed
      rw [e]
      exact ht

theorem Fit.crash {N : Nat} {s : DSt} (h : Fit N s) (done cut : Int) : Fit N (s.crash done cut) := by
  obtain ⟨L, h1, h2, h3⟩ := h.keys
  exact ⟨⟨L, h1, crashed_keys h2 h3, by simp [DSt.crash]⟩, by simp [DSt.crash], h.works, by simp [DSt.crash], by simp [DSt.crash], by simp [DSt.crash], by simp [DSt.crash]⟩

end DSt

/-- A rising list of members of L is no longer than L. -/
theorem rise_le : ∀ (L : List Int) (l : List Int), l.Pairwise (· < ·) → (∀ k ∈ l, k ∈ L) → l.length ≤ L.length
  | L, [], _, _ => by simp
  | L, k :: r, hp, hm => by
    have hk := hm k (by simp)
    have hp' := List.pairwise_cons.1 hp
    have := rise_le (L.erase k) r hp'.2 (fun x hx => by
      have hne : x ≠ k := by have := hp'.1 x hx; omega
      exact (List.mem_erase_of_ne hne).2 (hm x (by simp [hx])))
    rw [List.length_erase_of_mem hk] at this
    have : 0 < L.length := List.length_pos_of_mem hk
    simp only [List.length_cons]
    omega

theorem look_mem {fs : List Ent} (hr : Rise fs) : ∀ e ∈ fs, look fs e.num = e.bs := by
  induction fs with
  | nil => intro e he; simp at he
  | cons x r ih =>
    intro e he
    unfold Rise at hr
    rw [List.pairwise_cons] at hr
    rcases List.mem_cons.1 he with rfl | he
    · exact look_head _ _
    · rw [look_skip (by have := hr.1 e he; omega)]
      exact ih hr.2 e he

theorem files_le {fs : List Ent} (hr : Rise fs) (hne : ∀ e ∈ fs, e.bs ≠ []) {L : List Int} (hL : ∀ k, look fs k ≠ [] → k ∈ L) : fs.length ≤ L.length := by
  have := rise_le L (fs.map (fun e => e.num)) (List.pairwise_map.2 (show fs.Pairwise (fun a b => a.num < b.num) from hr)) (fun k hk => by
    obtain ⟨e, he, rfl⟩ := List.mem_map.1 hk
    exact hL _ (by rw [look_mem hr e he]; exact hne e he))
  simpa using this

theorem look_some {fs : List Ent} {k : Int} (h : look fs k ≠ []) : ∃ e ∈ fs, e.num = k := by
  induction fs with
  | nil => exact absurd rfl h
  | cons x r ih =>
    unfold look at h
    split at h
    · exact ⟨x, by simp, ‹_›⟩
    · obtain ⟨e, he, hk⟩ := ih h
      exact ⟨e, by simp [he], hk⟩

theorem nums_iff {fs : List Ent} (hr : Rise fs) (hne : ∀ e ∈ fs, e.bs ≠ []) (k : Int) : k ∈ fs.map (·.num) ↔ look fs k ≠ [] := by
  constructor
  · intro hk
    obtain ⟨e, he, rfl⟩ := List.mem_map.1 hk
    rw [look_mem hr e he]
    exact hne e he
  · intro h
    obtain ⟨e, he, hk⟩ := look_some h
    exact List.mem_map.2 ⟨e, he, hk⟩

/-- What undoes one that pends, as it lies in memory. -/
structure U where
  file : Int
  laid : Nat
  v : Value
  took : List UInt8

def U.und (u : U) : Und := ⟨u.file, u.laid, u.took⟩

def pcells : List U → List Value
  | [] => []
  | u :: r => .int .i64 u.file :: .int .i64 u.laid :: u.v :: pcells r

theorem pcells_length (us : List U) : (pcells us).length = us.length * 3 := by
  induction us with
  | nil => rfl
  | cons u r ih => simp [pcells, ih]; omega

theorem pcells_snoc (us : List U) (u : U) : pcells (us ++ [u]) = pcells us ++ [.int .i64 u.file, .int .i64 u.laid, u.v] := by
  induction us with
  | nil => rfl
  | cons x r ih => simp [pcells, ih]

theorem pcells_at : ∀ (us : List U) (n : Nat) (u : U), us[n]? = some u → (pcells us)[n * 3]? = some (.int .i64 u.file) ∧ (pcells us)[n * 3 + 1]? = some (.int .i64 u.laid) ∧ (pcells us)[n * 3 + 2]? = some u.v
  | [], n, u, h => by simp at h
  | x :: r, 0, u, h => by simp at h; subst h; exact ⟨rfl, rfl, rfl⟩
  | x :: r, n + 1, u, h => by
    have := pcells_at r n u (by simpa using h)
    rw [show (n + 1) * 3 = n * 3 + 3 by omega, show n * 3 + 3 + 1 = (n * 3 + 1) + 3 by omega, show n * 3 + 3 + 2 = (n * 3 + 2) + 3 by omega, pcells]
    simpa using this

/-- What pends, in memory: the first m are as they were. -/
structure PAt (w : World) (own : Nat → Option Tag) (pv : Value) (us : List U) (m : Nat) : Prop where
  row : w.ownsRow 0 94 3 pv us.length (pcells us)
  pown : ∀ g, pv.ownBlock = some g → own g = some .pends
  each : ∀ i u, i < m → us[i]? = some u → Owns w u.v u.took ∧ ∀ g, u.v.ownBlock = some g → own g = some (.took i)

theorem PAt.kept {S : Nat → Prop} {w w' : World} {own : Nat → Option Tag} {pv : Value} {us : List U} {m : Nat} (h : PAt w own pv us m) (ht : Turn S w w') (hs : ∀ k, S k → own k ≠ some .pends ∧ ∀ i, i < m → own k ≠ some (.took i)) : PAt w' own pv us m :=
  ⟨row_kept h.row ht (fun k hk hS => (hs k hS).1 (h.pown k hk)), h.pown, fun i u hi hu => ⟨(h.each i u hi hu).1.kept ht (fun k hk hS => (hs k hS).2 i hi ((h.each i u hi hu).2 k hk)), (h.each i u hi hu).2⟩⟩

theorem PAt.retag {w : World} {own own' : Nat → Option Tag} {pv : Value} {us : List U} {m : Nat} (h : PAt w own pv us m) (ho : ∀ j, own j = some .pends ∨ (∃ i, i < m ∧ own j = some (.took i)) → own' j = own j) : PAt w own' pv us m :=
  ⟨h.row, fun g hg => by rw [ho g (.inl (h.pown g hg))]; exact h.pown g hg, fun i u hi hu => ⟨(h.each i u hi hu).1, fun g hg => by
    have := (h.each i u hi hu).2 g hg
    rw [ho g (.inr ⟨i, hi, this⟩)]; exact this⟩⟩

theorem PAt.less {w : World} {own : Nat → Option Tag} {pv : Value} {us : List U} {m n : Nat} (h : PAt w own pv us m) (hn : n ≤ m) : PAt w own pv us n := ⟨h.row, h.pown, fun i u hi => h.each i u (by omega)⟩

theorem PAt.none (w : World) (own : Nat → Option Tag) : PAt w own (.slice none 0 0) [] 0 := ⟨World.ownsRow_nil w 0 _ _, fun g hg => by simp [Value.ownBlock] at hg, fun i u hi => by omega⟩

theorem PAt.shape {w : World} {own : Nat → Option Tag} {pv : Value} {us : List U} {m : Nat} (h : PAt w own pv us m) : ∃ ao c, pv = .slice ao us.length c := by
  rcases row_shape h.row with ⟨rfl, h0⟩ | ⟨g, cap, rfl, _⟩
  · exact ⟨_, 0, by rw [h0]⟩
  · exact ⟨_, _, rfl⟩

section
variable {w : World} {b : Nat} {own : Nat → Option Tag} {fv pv : Value} {wk : Nat} {fu : Bool} {lf : Int} {de : Bool} {fs : List Ent}

theorem FAt.retag {own' : Nat → Option Tag} (h : FAt w b own fv pv wk fu lf de fs) (ho : ∀ j, own j = some .disk ∨ own j = some .files ∨ (∃ f, own j = some (.file f)) → own' j = own j) : FAt w b own' fv pv wk fu lf de fs :=
  ⟨h.head, by rw [ho b (.inl h.hb)]; exact h.hb, h.row, fun g hg => by rw [ho g (.inr (.inl (h.fown g hg)))]; exact h.fown g hg, h.rise, fun e he => ⟨(h.file e he).1, (h.file e he).2.1, fun g hg => by
    have := (h.file e he).2.2 g hg
    rw [ho g (.inr (.inr ⟨_, this⟩))]; exact this⟩⟩

theorem FAt.rehead {w' : World} {pv' : Value} {wk' : Nat} {fu' : Bool} {lf' : Int} {de' : Bool} (h : FAt w b own fv pv wk fu lf de fs) (ht : Turn (fun j => j = b) w w') (hat : At 83 w' b (dcells fv pv' wk' fu' lf' de')) : FAt w' b own fv pv' wk' fu' lf' de' fs :=
  ⟨hat, h.hb, row_kept h.row ht (fun k hk e => by have := h.fown k hk; rw [e, h.hb] at this; cases this), h.fown, h.rise, fun e he => ⟨(h.file e he).1.kept ht (fun k hk e' => by
    have := (h.file e he).2.2 k hk
    rw [e', h.hb] at this; cases this), (h.file e he).2⟩⟩

theorem FAt.le (h : FAt w b own fv pv wk fu lf de fs) {L : List Int} {N : Nat} (hL : ∀ k, look fs k ≠ [] → k ∈ L) (hN : L.length ≤ N) : fs.length ≤ N :=
  Nat.le_trans (files_le h.rise (fun e he => (h.file e he).2.1) hL) hN

end

/-- A Disk in block b, in state s; all its blocks are in S. -/
structure DkIs (w : World) (b : Nat) (S : Nat → Prop) (N : Nat) (s : DSt) (own : Nat → Option Tag) (fv pv : Value) (fs : List Ent) (us : List U) : Prop where
  f : FAt w b own fv pv s.works s.fused s.left s.dead fs
  p : PAt w own pv us us.length
  now : look fs = s.now
  und : us.map U.und = unds s.base s.ops
  sub : ∀ j, own j ≠ none → S j
  lt : ∀ j, S j → j < w.heap.size
  fit : s.Fit N

def Dk (w : World) (b : Nat) (S : Nat → Prop) (N : Nat) (s : DSt) : Prop := ∃ own fv pv fs us, DkIs w b S N s own fv pv fs us

theorem Dk.lt {w : World} {b : Nat} {S : Nat → Prop} {N : Nat} {s : DSt} (h : Dk w b S N s) : ∀ j, S j → j < w.heap.size := by
  obtain ⟨own, fv, pv, fs, us, h⟩ := h
  exact h.lt

theorem Dk.mem {w : World} {b : Nat} {S : Nat → Prop} {N : Nat} {s : DSt} (h : Dk w b S N s) : S b := by
  obtain ⟨own, fv, pv, fs, us, h⟩ := h
  exact h.sub b (by rw [h.f.hb]; simp)

theorem Dk.fit {w : World} {b : Nat} {S : Nat → Prop} {N : Nat} {s : DSt} (h : Dk w b S N s) : s.Fit N := by
  obtain ⟨own, fv, pv, fs, us, h⟩ := h
  exact h.fit

theorem DkIs.many {w : World} {b : Nat} {S : Nat → Prop} {N : Nat} {s : DSt} {own : Nat → Option Tag} {fv pv : Value} {fs : List Ent} {us : List U} (h : DkIs w b S N s own fv pv fs us) : fs.length ≤ N ∧ us.length ≤ N ∧ us.length = s.ops.length := by
  obtain ⟨L, h1, h2⟩ := h.fit.now
  have hu : us.length = s.ops.length := by
    have := congrArg List.length h.und
    rwa [List.length_map, unds_length] at this
  exact ⟨h.f.le (by rw [h.now]; exact h2) h1, by rw [hu]; exact h.fit.many, hu⟩

theorem Dk.kept {T : Nat → Prop} {w w' : World} {b : Nat} {S : Nat → Prop} {N : Nat} {s : DSt} (h : Dk w b S N s) (ht : Turn T w w') (hT : ∀ j, S j → ¬ T j) : Dk w' b S N s := by
  obtain ⟨own, fv, pv, fs, us, h⟩ := h
  have key : ∀ k, T k → own k = none := fun k hk => Classical.byContradiction fun hn => hT k (h.sub k hn) hk
  exact ⟨own, fv, pv, fs, us, h.f.kept ht (fun k hk => by rw [key k hk]; simp), h.p.kept ht (fun k hk => by rw [key k hk]; simp), h.now, h.und, h.sub, fun j hj => Nat.lt_of_lt_of_le (h.lt j hj) ht.size, h.fit⟩

theorem Dk.mono {w : World} {b : Nat} {S S' : Nat → Prop} {N N' : Nat} {s : DSt} (h : Dk w b S N s) (hS : ∀ j, S j → S' j) (hl : ∀ j, S' j → j < w.heap.size) (hN : N ≤ N') : Dk w b S' N' s := by
  obtain ⟨own, fv, pv, fs, us, h⟩ := h
  exact ⟨own, fv, pv, fs, us, h.f, h.p, h.now, h.und, fun j hj => hS j (h.sub j hj), hl, h.fit.mono hN⟩

/-- What a thing's blocks come to from one world to another. -/
def grow (S : Nat → Prop) (w w' : World) : Nat → Prop := fun j => S j ∨ (w.heap.size ≤ j ∧ j < w'.heap.size)

/-- A call has turned the Disk alone. -/
def DkTo (w : World) (b : Nat) (S : Nat → Prop) (N : Nat) (s : DSt) (w' : World) : Prop := Dk w' b (grow S w w') N s ∧ Turn S w w'

theorem DkTo.refl {w : World} {b : Nat} {S : Nat → Prop} {N : Nat} {s : DSt} (h : Dk w b S N s) : DkTo w b S N s w :=
  ⟨h.mono (fun _ h => .inl h) (fun j hj => hj.elim (h.lt j) (fun h => h.2)) (Nat.le_refl _), Turn.refl _ _⟩

end Go.Proofs.YtnipdgigjcaolaaGreat

/- What the verifier's own small functions do: a number brought within bounds; at most so many bytes, in new memory. -/
namespace Go.Proofs.YtnipdgigjcaolaaGreat
open Go.RowKit

theorem tmod_neg (n m : Int) (hm : 0 < m) (hm2 : m ≤ 4611686018427387904) (h : n.tmod m < 0) : wrap64 (n.tmod m + m) = n % m := by
  have h0 := Int.emod_nonneg n (show m ≠ 0 by omega)
  have h1 := Int.emod_lt_of_pos n hm
  have e := Int.tmod_eq_emod (a := n) (b := m)
  have ha : (m.natAbs : Int) = m := by omega
  split at e
  · omega
  · rw [e]
    unfold wrap64
    omega

theorem tmod_pos (n m : Int) (hm : 0 < m) (h : 0 ≤ n.tmod m) : n.tmod m = n % m := by
  have h1 := Int.emod_lt_of_pos n hm
  have e := Int.tmod_eq_emod (a := n) (b := m)
  have ha : (m.natAbs : Int) = m := by omega
  split at e <;> omega

theorem ret_int {k : IntKind} {a b : Int} (h : a = b) : Ending.returned (.int k a) = .returned (.int k b) := by rw [h]

set_option maxHeartbeats 400000 in
theorem pick_any (n m : Int) (w : World) (hm : 0 < m) (hm2 : m ≤ 4611686018427387904) :
    Calls Tryz.prog 11 #[.int .i64 n, .int .i64 m] w fun e w' => e = .returned (.int .i64 (n % m)) ∧ w = w' := by
  go_enter Tryz.func11, Tryz.ntmps11
  go_wp2
  · go_ret
    exact ⟨ret_int (tmod_neg n m hm hm2 ‹_›), rfl⟩
  · go_ret
    exact ⟨ret_int (tmod_pos n m hm ‹_›), rfl⟩

theorem owns_empty (w : World) : Owns (w.alloc (.cells #[] 5)) (.slice (some ⟨w.heap.size, 0, none⟩) 0 0) [] :=
  World.ownsRow_made w #[] 0 (Nat.zero_le _) (Nat.zero_le _) rfl

/-- Bytes of one's own, in new memory; nothing else has turned. -/
def Made (w : World) (v : Value) (bs : List UInt8) (w' : World) : Prop := Owns w' v bs ∧ Turn (fun _ => False) w w' ∧ ∀ k, v.ownBlock = some k → w.heap.size ≤ k

theorem Made.append {w w' : World} {v' : Value} {bs : List UInt8} (ho : Owns w' v' ([] ++ bs)) (hg : (w.alloc (.cells #[] 5)).grownBy w' (some w.heap.size)) (hk : v'.ownBlock = some w.heap.size ∨ v'.ownBlock = some (w.heap.size + 1)) : Made w v' bs w' := by
  refine ⟨ho, ((Turn.refl _ _).alloc _).grown hg (fun k hk => ?_), fun k e => ?_⟩
  · injection hk with hk
    exact .inr (by omega)
  · rcases hk with hk | hk
    · rw [hk] at e; injection e with e; omega
    · rw [hk] at e; injection e with e; omega

set_option maxHeartbeats 400000 in
theorem few_any (v : Value) (bs : List UInt8) (n : Nat) (w : World) (hs : Sees w v bs) (hb : min bs.length n ≤ 140737488355328) :
    Calls Tryz.prog 12 #[v, .int .i64 n] w fun e w' => ∃ v', e = .returned v' ∧ Made w v' (bs.take n) w' := by
  obtain ⟨i0, hi, hz0, hz1, hz2⟩ := info_parts Tryz.infoU8
  have hs' := hs
  rcases hs' with ⟨rfl, rfl⟩ | ⟨a, cap, rfl, hc, hm, hcell⟩
  · go_enter Tryz.func12, Tryz.ntmps12
    go_wp2_with fail
    go_ret
    refine ⟨_, rfl, ?_, (Turn.refl _ _).alloc _, ?_⟩
    · rw [List.take_nil]
      exact owns_empty w
    · intro k hk
      simp [Value.ownBlock] at hk
      omega
  · clear hcell
    have hmx : bs.length ≤ maxLen := by omega
    unfold maxLen at hmx hm
    by_cases hn : n < bs.length
    · have hsee := ((hs.front n (by omega)).kept ((Turn.refl (fun _ => False) w).alloc (.cells #[] 5)) (fun _ _ h => h))
      have hlen : (bs.take n).length = n := by simp; omega
      go_enter Tryz.func12, Tryz.ntmps12
      go_wp2_with (at_builtin; refine wpList_append_sees _ rfl (.tmp 5) (.tmp 11) 29 rfl i0 Tryz.underlying29 hi hz0 hz1 hz2 _ [] rfl (owns_empty w) _ (bs.take n) rfl hsee (by simp only [List.length_nil, hlen]; omega) ?_)
      intro v' w' ho hg hk
      have hmade := Made.append ho hg hk
      obtain ⟨ao, c, rfl⟩ := ho.shape
      clear ho hg hk
      go_wp2
      go_ret
      exact ⟨_, rfl, hmade⟩
    · have hsee := (hs.kept ((Turn.refl (fun _ => False) w).alloc (.cells #[] 5)) (fun _ _ h => h))
      rw [List.take_of_length_le (by omega)]
      go_enter Tryz.func12, Tryz.ntmps12
      go_wp2_with (at_builtin; refine wpList_append_sees _ rfl (.tmp 5) (.tmp 11) 29 rfl i0 Tryz.underlying29 hi hz0 hz1 hz2 _ [] rfl (owns_empty w) _ bs rfl hsee (by simp only [List.length_nil]; omega) ?_)
      intro v' w' ho hg hk
      have hmade := Made.append ho hg hk
      obtain ⟨ao, c, rfl⟩ := ho.shape
      clear ho hg hk
      go_wp2
      go_ret
      exact ⟨_, rfl, hmade⟩

end Go.Proofs.YtnipdgigjcaolaaGreat

/- What slices.Grow, slices.Concat and bytes.Clone do to memory. -/
namespace Go.Proofs.YtnipdgigjcaolaaGreat
open Go.RowKit

theorem Made.nil (w : World) : Made w (.slice none 0 0) [] w := ⟨Owns.nil _, Turn.refl _ _, fun k hk => by simp [Value.ownBlock] at hk⟩

theorem made_zeros (w : World) (n : Nat) (h : n ≤ maxLen) :
    Made w (.slice (some ⟨w.heap.size, 0, none⟩) 0 (grownCap w n 0 5)) [] (w.drew.alloc (.cells (Builtin.zeroCells (Value.int .u8 0).cells n ++ Builtin.zeroCells (Value.int .u8 0).cells (grownCap w n 0 5 - n)) 5)) := by
  have h1 := grownCap_ge w n 0 5
  have h2 := grownCap_le_maxLen w n 0 5 h
  refine ⟨World.ownsRow_made w.drew _ _ (Nat.zero_le _) h2 ?_, (Turn.refl _ _).drew.alloc _, fun k hk => by simp [Value.ownBlock] at hk; omega⟩
  rw [Array.size_append, size_zeroCells, size_zeroCells]
  show n * 1 + (grownCap w n 0 5 - n) * 1 = _
  omega

set_option maxHeartbeats 400000 in
set_option maxRecDepth 100000 in
theorem grow_any (n : Nat) (w : World) (hn : n ≤ 140737488355328) :
    Calls Tryz.prog 174 #[.slice none 0 0, .int .i64 n] w fun e w' => ∃ v, e = .returned v ∧ Made w v [] w' := by
  obtain ⟨i0, hi, hz0, hz1, hz2⟩ := info_parts Tryz.infoU8
  by_cases h0 : n = 0
  · subst h0
    go_enter Tryz.func174, Tryz.ntmps174
    go_wp2
    go_ret
    exact ⟨_, rfl, Made.nil w⟩
  · have hr := fun ty => Lib.run_append_nil_zeros (P := Tryz.prog) w 29 3 ty 5 i0 (.int .u8 0) .i64 .i64 Tryz.underlying29 Tryz.underlying3 hi hz0 n (by omega) (by omega) (by omega) (by rw [hz2]; omega)
    have hm := hide (made_zeros w n (by unfold maxLen; omega))
    have hge := grownCap_ge w n 0 5
    have hle := grownCap_le_maxLen w n 0 5 (by unfold maxLen; omega)
    unfold maxLen at hle
    generalize grownCap w n 0 5 = cap at *
    have hp : (0 : Int) < n := by omega
    go_enter Tryz.func174, Tryz.ntmps174
    go_wp2_with (at_builtin; refine Lib.wpList_append_run _ rfl _ _ _ _ rfl _ _ rfl rfl _ _ (hr _) ?_)
    go_wp2
    go_ret
    exact ⟨_, rfl, unhide hm⟩

/-- Lists one behind the other. -/
def cat (l : List (Value × List UInt8)) : List UInt8 := (l.map (·.2)).flatten

theorem cat_snoc (l : List (Value × List UInt8)) (k : Nat) (hk : k < l.length) : cat (l.take (k + 1)) = cat (l.take k) ++ l[k].2 := by
  unfold cat
  rw [List.take_succ_eq_append_getElem hk, List.map_append, List.flatten_append]
  simp

theorem cat_le (l : List (Value × List UInt8)) (k : Nat) : (cat (l.take k)).length ≤ (cat l).length := by
  have h : cat l = cat (l.take k) ++ cat (l.drop k) := by
    unfold cat
    rw [← List.flatten_append, ← List.map_append, List.take_append_drop]
  rw [h, List.length_append]
  omega

theorem Made.more {w w1 w2 : World} {v1 v2 : Value} {bs ds : List UInt8} (h : Made w v1 bs w1) (ho : Owns w2 v2 (bs ++ ds)) (hg : w1.grownBy w2 v1.ownBlock) (hk : v2.ownBlock = v1.ownBlock ∨ v2.ownBlock = some w1.heap.size) : Made w v2 (bs ++ ds) w2 := by
  refine ⟨ho, h.2.1.grown hg (fun k hk => .inr (h.2.2 k hk)), fun k e => ?_⟩
  rcases hk with hk | hk
  · exact h.2.2 k (hk ▸ e)
  · rw [hk] at e
    injection e with e
    have := h.2.1.size
    omega

set_option maxHeartbeats 1000000 in
set_option maxRecDepth 100000 in
theorem concat_any (a : Addr) (cap : Nat) (l : List (Value × List UInt8)) (w : World) (hm : l.length ≤ maxLen) (hc : ∀ k (hk : k < l.length), w.cell? (a.add k) = some l[k].1 ∧ Sees w l[k].1 l[k].2) (hn : (cat l).length ≤ 140737488355328) :
    Calls Tryz.prog 164 #[.slice (some a) l.length cap] w fun e w' => ∃ v, e = .returned v ∧ Made w v (cat l) w' := by
  obtain ⟨i0, hi, hz0, hz1, hz2⟩ := info_parts Tryz.infoU8
  unfold maxLen at hm
  have Hc := hide hc
  clear hc
  go_enter Tryz.func164, Tryz.ntmps164
  go_wp2_with fail
  go_loop [3, 5, 11] (fun sz _ i => ∃ k : Nat, k ≤ l.length ∧ sz = .int .i64 (cat (l.take k)).length ∧ i = .int .i64 k) (fun _ _ i => (l.length - intOf i).toNat)
  case atStart => exact ⟨0, by omega, rfl, rfl⟩
  case round =>
    obtain ⟨k, hk, rfl, rfl⟩ := hrel
    by_cases hlt : k < l.length
    · have hle := cat_le l (k + 1)
      have hsn := cat_snoc l k hlt
      obtain ⟨c0, hs0⟩ := unhide Hc k hlt
      obtain ⟨ao, cp, e0⟩ := hs0.shape
      rw [e0] at c0
      have hsn' := congrArg List.length hsn
      rw [List.length_append] at hsn'
      have H := hide hsn'
      generalize hn1 : (cat (l.take (k + 1))).length = n1 at *
      have Hn1 := hide hn1
      clear hn1
      generalize (cat (l.take k)).length = n0 at *
      generalize l[k].2.length = n2 at *
      clear hs0 e0 hsn hsn'
      have hb : n0 + n2 ≤ 140737488355328 := by have := unhide H; omega
      go_wp2
      exact ⟨⟨k + 1, by omega, by rw [unhide Hn1, unhide H]; go_num, by go_num⟩, by simp [intOf]; omega⟩
    · obtain rfl : k = l.length := by omega
      rw [List.take_length]
      go_wp2_with fail
      refine (grow_any (cat l).length w hn).mono ?_
      rintro e w1 ⟨v1, rfl, h1⟩
      obtain ⟨ao1, cp1, rfl⟩ := h1.1.shape
      go_wp2_with fail
      go_loopw [6, 8, 27] (fun ns _ i w2 => ∃ k : Nat, k ≤ l.length ∧ i = .int .i64 k ∧ Made w ns (cat (l.take k)) w2) (fun _ _ i _ => (l.length - intOf i).toNat)
      case atStart => exact ⟨0, by omega, rfl, h1⟩
      case round =>
        obtain ⟨k, hk, rfl, hmd⟩ := hrel
        by_cases hlt : k < l.length
        · have hle := cat_le l (k + 1)
          have hsn := cat_snoc l k hlt
          obtain ⟨c0, hs0⟩ := unhide Hc k hlt
          have hs1 := hs0.kept hmd.2.1 (fun _ _ h => h)
          have c1 := (hmd.2.1.cell (World.block_lt_of_cell? _ _ c0) (fun h => h)).trans c0
          obtain ⟨ao, cp, e0⟩ := hs0.shape
          rw [e0] at c1 hs1
          have Hsn := hide hsn
          clear hs0 c0 e0
          have hbd : (cat (l.take k)).length + l[k].2.length ≤ 140737488355328 := by
            have := congrArg List.length hsn
            rw [List.length_append] at this
            omega
          clear hsn
          obtain ⟨ao2, cp2, e2⟩ := hmd.1.shape
          subst e2
          generalize cat (l.take k) = xs at *
          generalize l[k].2 = ds at *
          go_wp2_with (at_builtin; refine wpList_append_sees _ rfl _ _ 29 rfl i0 Tryz.underlying29 hi hz0 hz1 hz2 _ xs rfl hmd.1 _ ds rfl hs1 hbd ?_)
          intro v' w' ho hg hkk
          have hmd' := hmd.more ho hg hkk
          rw [← unhide Hsn] at hmd'
          obtain ⟨ao3, cp3, rfl⟩ := ho.shape
          clear ho hg hkk hmd
          go_wp2
          go_roundw
          case rel => exact ⟨k + 1, by omega, by go_num, hmd'⟩
          case measure => simp [intOf]; omega
        · obtain rfl : k = l.length := by omega
          rw [List.take_length] at hmd
          obtain ⟨ao2, cp2, e2⟩ := hmd.1.shape
          subst e2
          go_wp2
          go_ret
          exact ⟨_, rfl, hmd⟩

set_option maxHeartbeats 400000 in
set_option maxRecDepth 100000 in
theorem clone_any (v : Value) (bs : List UInt8) (w : World) (hs : Sees w v bs) (hb : bs.length ≤ 140737488355328) :
    Calls Tryz.prog 110 #[v] w fun e w' => ∃ v', e = .returned v' ∧ Made w v' bs w' := by
  obtain ⟨i0, hi, hz0, hz1, hz2⟩ := info_parts Tryz.infoU8
  have qT : ∀ (w : World) (a : Option Addr) (n c n' c' : Nat), (binOp .eql 29 (.slice a n c) (.slice none n' c')).run Tryz.prog w = .ok (.bool a.isNone) w := fun w a n c n' c' => Lib.run_eql_slice_nil w _ _ a n c n' c' Tryz.underlying29
  have hsee := (hs.kept ((Turn.refl (fun _ => False) w).alloc (.cells #[] 5)) (fun _ _ h => h))
  rcases hs with ⟨rfl, rfl⟩ | ⟨a, cap, rfl, hc, hm, hcell⟩
  · go_enter Tryz.func110, Tryz.ntmps110
    go_wp2
    go_ret
    exact ⟨_, rfl, Made.nil w⟩
  · clear hcell
    go_enter Tryz.func110, Tryz.ntmps110
    go_wp2_with (at_builtin; refine wpList_append_sees _ rfl (.tmp 5) (.tmp 6) 29 rfl i0 Tryz.underlying29 hi hz0 hz1 hz2 _ [] rfl (owns_empty w) _ bs rfl hsee (by simp only [List.length_nil]; omega) ?_)
    intro v' w' ho hg hk
    have hmade := Made.append ho hg hk
    obtain ⟨ao, c, rfl⟩ := ho.shape
    clear ho hg hk
    go_wp2
    go_ret
    exact ⟨_, rfl, hmade⟩

end Go.Proofs.YtnipdgigjcaolaaGreat

/- A Disk's small methods: New, work, Fuse, Dead, Pending, Works, Sync, Read. -/
namespace Go.Proofs.YtnipdgigjcaolaaGreat
open Go.RowKit

theorem Turn.at (b j : Nat) (v : Value) (w : World) : Turn (fun k => k = b) w (w.setCell ⟨b, j, none⟩ v) := (Turn.refl (fun k => k = b) w).setCell (p := ⟨b, j, none⟩) (.inl rfl) _

set_option maxHeartbeats 400000 in
theorem dskNew_any (w : World) : Calls Tryz.prog 8 #[] w fun e w' => e = .returned (.pointer (some ⟨w.heap.size, 0, none⟩)) ∧ Dk w' w.heap.size (fun j => j = w.heap.size) 0 DSt.zero ∧ Turn (fun _ => False) w w' := by
  go_enter Tryz.func8, Tryz.ntmps8
  go_wp2
  go_ret
  refine ⟨rfl, ⟨fun j => if j = w.heap.size then some .disk else none, .slice none 0 0, .slice none 0 0, [], [], ⟨At.new _ _ _, if_pos rfl, World.ownsRow_nil _ 0 _ _, fun g hg => by simp [Value.ownBlock] at hg, List.Pairwise.nil, fun e he => by simp at he⟩, PAt.none _ _, ?_, rfl, ?_, ?_, DSt.Fit.zero⟩, (Turn.refl _ _).alloc _⟩
  · funext k
    rfl
  · intro j hj
    by_cases e : j = w.heap.size
    · exact e
    · simp [e] at hj
  · rintro j rfl
    simp

section
variable {w : World} {b : Nat} {fv pv : Value} {wk : Nat} {fu : Bool} {lf : Int} {de : Bool}

set_option maxHeartbeats 1000000 in
theorem work_down (h : At 83 w b (dcells fv pv wk fu lf de)) (hd : (de || (fu && lf == 0)) = true) :
    Calls Tryz.prog 51 #[.pointer (some ⟨b, 0, none⟩)] w fun e w' => e = .returned (.int .i64 14) ∧ At 83 w' b (dcells fv pv wk fu lf true) ∧ Turn (fun j => j = b) w w' := by
  have c3 : w.cell? ⟨b, 3, none⟩ = some (.bool fu) := h.cell 3
  have c4 : w.cell? ⟨b, 4, none⟩ = some (.int .i64 lf) := h.cell 4
  have c5 : w.cell? ⟨b, 5, none⟩ = some (.bool de) := h.cell 5
  have f5 : w.frozen? ⟨b, 5, none⟩ = false := h.frozen 5
  have hs := h.set 5 (.bool true)
  have c5' : (w.setCell ⟨b, 5, none⟩ (.bool true)).cell? ⟨b, 5, none⟩ = some (.bool true) := hs.cell 5
  have Hh := hide h
  have Hs := hide hs
  clear h hs
  cases fu with
  | false =>
    obtain rfl : de = true := by simpa using hd
    go_enter Tryz.func51, Tryz.ntmps51
    go_wp2
    go_ret
    exact ⟨rfl, unhide Hh, Turn.refl _ _⟩
  | true =>
    by_cases h0 : lf = 0
    · subst h0
      go_enter Tryz.func51, Tryz.ntmps51
      go_wp2
      go_ret
      exact ⟨rfl, unhide Hs, Turn.at b 5 _ w⟩
    · obtain rfl : de = true := by simpa [h0] using hd
      have h0' : (lf == 0) = false := by simpa using h0
      go_enter Tryz.func51, Tryz.ntmps51
      go_wp2
      go_ret
      exact ⟨rfl, unhide Hh, Turn.refl _ _⟩

set_option maxHeartbeats 1000000 in
theorem work_ok (h : At 83 w b (dcells fv pv wk fu lf de)) (hd : (de || (fu && lf == 0)) = false) (hw : wk ≤ 1073741824) (hl : fu = true → 0 ≤ lf) (hh : lf ≤ 9223372036854775807) :
    Calls Tryz.prog 51 #[.pointer (some ⟨b, 0, none⟩)] w fun e w' => e = .returned (.int .i64 0) ∧ At 83 w' b (dcells fv pv (wk + 1) fu (if fu then lf - 1 else lf) de) ∧ Turn (fun j => j = b) w w' := by
  have c2 : w.cell? ⟨b, 2, none⟩ = some (.int .i64 wk) := h.cell 2
  have c3 : w.cell? ⟨b, 3, none⟩ = some (.bool fu) := h.cell 3
  have c4 : w.cell? ⟨b, 4, none⟩ = some (.int .i64 lf) := h.cell 4
  have c5 : w.cell? ⟨b, 5, none⟩ = some (.bool de) := h.cell 5
  have f2 : w.frozen? ⟨b, 2, none⟩ = false := h.frozen 2
  have f4 : w.frozen? ⟨b, 4, none⟩ = false := h.frozen 4
  have hw' : ((wk + 1 : Nat) : Int) = (wk : Int) + 1 := by omega
  have hde : de = false := by
    cases de with
    | false => rfl
    | true => simp at hd
  subst hde
  cases fu with
  | false =>
    have hs := h.set 2 (.int .i64 ((wk + 1 : Nat) : Int))
    rw [hw'] at hs
    have Hs := hide hs
    clear h hs
    go_enter Tryz.func51, Tryz.ntmps51
    go_wp2
    go_ret
    refine ⟨rfl, ?_, Turn.at b 2 _ w⟩
    exact unhide Hs
  | true =>
    have h0 : ¬ lf = 0 := by
      rintro rfl
      simp at hd
    have hl' := hl rfl
    have h0' : (lf == 0) = false := by simpa using h0
    have hs4 := h.set 4 (.int .i64 (lf - 1))
    have c2' : (w.setCell ⟨b, 4, none⟩ (.int .i64 (lf - 1))).cell? ⟨b, 2, none⟩ = some (.int .i64 wk) := hs4.cell 2
    have f2' : (w.setCell ⟨b, 4, none⟩ (.int .i64 (lf - 1))).frozen? ⟨b, 2, none⟩ = false := hs4.frozen 2
    have hs := hs4.set 2 (.int .i64 ((wk + 1 : Nat) : Int))
    rw [hw'] at hs
    have Hs := hide hs
    clear h hs hs4
    go_enter Tryz.func51, Tryz.ntmps51
    go_wp2
    go_ret
    refine ⟨rfl, ?_, (Turn.at b 4 _ w).trans (Turn.at b 2 _ _)⟩
    exact unhide Hs

set_option maxHeartbeats 1000000 in
theorem fuse_at (n : Int) (h : At 83 w b (dcells fv pv wk fu lf de)) :
    Calls Tryz.prog 28 #[.pointer (some ⟨b, 0, none⟩), .int .i64 n] w fun e w' => e = .returned (.tuple #[]) ∧ At 83 w' b (dcells fv pv wk (decide (0 ≤ n)) n de) ∧ Turn (fun j => j = b) w w' := by
  have c3 : w.cell? ⟨b, 3, none⟩ = some (.bool fu) := h.cell 3
  have f3 : w.frozen? ⟨b, 3, none⟩ = false := h.frozen 3
  have hs3 := h.set 3 (.bool (decide (0 ≤ n)))
  have c4 : (w.setCell ⟨b, 3, none⟩ (.bool (decide (0 ≤ n)))).cell? ⟨b, 4, none⟩ = some (.int .i64 lf) := hs3.cell 4
  have f4 : (w.setCell ⟨b, 3, none⟩ (.bool (decide (0 ≤ n)))).frozen? ⟨b, 4, none⟩ = false := hs3.frozen 4
  have hs := hs3.set 4 (.int .i64 n)
  have Hs := hide hs
  clear h hs hs3
  go_enter Tryz.func28, Tryz.ntmps28
  go_wp2
  go_end0
  exact ⟨rfl, unhide Hs, (Turn.at b 3 _ w).trans (Turn.at b 4 _ _)⟩

end

section
variable {w : World} {b : Nat} {S : Nat → Prop} {N : Nat} {s : DSt}

/-- The head alone has turned. -/
theorem DkIs.rehead {own : Nat → Option Tag} {fv pv : Value} {fs : List Ent} {us : List U} {w' : World} {s' : DSt} {M : Nat} (h : DkIs w b S N s own fv pv fs us) (ht : Turn (fun j => j = b) w w') (hat : At 83 w' b (dcells fv pv s'.works s'.fused s'.left s'.dead))
    (hb : s'.base = s.base) (ho : s'.ops = s.ops) (hf : s'.Fit M) : DkIs w' b S M s' own fv pv fs us :=
  ⟨h.f.rehead ht hat, h.p.kept ht (fun k hk => by rw [hk, h.f.hb]; simp), by rw [h.now]; unfold DSt.now; rw [hb, ho], by rw [h.und, hb, ho], h.sub, fun j hj => Nat.lt_of_lt_of_le (h.lt j hj) ht.size, hf⟩

theorem DkTo.of {own : Nat → Option Tag} {fv pv : Value} {fs : List Ent} {us : List U} {w' : World} {s' : DSt} {M : Nat} (h : DkIs w' b S M s' own fv pv fs us) (hb : S b) (ht : Turn (fun j => j = b) w w') : DkTo w b S M s' w' := by
  refine ⟨?_, ht.mono (fun j _ e => e ▸ hb)⟩
  have h' : Dk w' b S M s' := ⟨own, fv, pv, fs, us, h⟩
  exact h'.mono (fun _ h => .inl h) (fun j hj => hj.elim (h'.lt j) (fun h => h.2)) (Nat.le_refl _)

theorem fuse_any (n : Int) (h : Dk w b S N s) (h0 : -9223372036854775808 ≤ n) (h1 : n ≤ 9223372036854775807) :
    Calls Tryz.prog 28 #[.pointer (some ⟨b, 0, none⟩), .int .i64 n] w fun e w' => e = .returned (.tuple #[]) ∧ Dk w' b S N (s.fuse n) ∧ Turn S w w' := by
  have hm := h.mem
  obtain ⟨own, fv, pv, fs, us, h⟩ := h
  refine (fuse_at n h.f.head).mono ?_
  rintro e w' ⟨rfl, hat, ht⟩
  exact ⟨rfl, ⟨own, fv, pv, fs, us, h.rehead ht hat rfl rfl (h.fit.fuse n h0 h1)⟩, ht.mono (fun j _ e => e ▸ hm)⟩

set_option maxHeartbeats 400000 in
theorem dead_any (h : Dk w b S N s) : Calls Tryz.prog 38 #[.pointer (some ⟨b, 0, none⟩)] w fun e w' => e = .returned (.bool s.dead) ∧ w = w' := by
  obtain ⟨own, fv, pv, fs, us, h⟩ := h
  have c5 : w.cell? ⟨b, 5, none⟩ = some (.bool s.dead) := h.f.head.cell 5
  go_enter Tryz.func38, Tryz.ntmps38
  go_wp2
  go_ret
  exact ⟨rfl, rfl⟩

set_option maxHeartbeats 400000 in
theorem works_any (h : Dk w b S N s) : Calls Tryz.prog 43 #[.pointer (some ⟨b, 0, none⟩)] w fun e w' => e = .returned (.int .i64 s.works) ∧ w = w' := by
  obtain ⟨own, fv, pv, fs, us, h⟩ := h
  have c2 : w.cell? ⟨b, 2, none⟩ = some (.int .i64 s.works) := h.f.head.cell 2
  go_enter Tryz.func43, Tryz.ntmps43
  go_wp2
  go_ret
  exact ⟨rfl, rfl⟩

set_option maxHeartbeats 1000000 in
theorem sync_any (h : Dk w b S N s) (hN : N ≤ 1073741824) :
    Calls Tryz.prog 16 #[.pointer (some ⟨b, 0, none⟩)] w fun e w' => e = .returned (.int .i64 s.sync.1) ∧ Dk w' b S (N + 1) s.sync.2 ∧ Turn S w w' := by
  have hm := h.mem
  obtain ⟨own, fv, pv, fs, us, h⟩ := h
  have hfit := h.fit
  have hwk := hfit.works
  by_cases hd : s.down = true
  · have e1 : s.sync = (14, s.fall) := by unfold DSt.sync; rw [if_pos hd]
    rw [e1]
    go_enter Tryz.func16, Tryz.ntmps16
    go_wp2_with fail
    refine (work_down h.f.head hd).mono ?_
    rintro e w1 ⟨rfl, hat, ht⟩
    have h1 : DkIs w1 b S N s.fall own fv pv fs us := h.rehead ht hat rfl rfl hfit.fall
    have H1 := hide h1
    clear h1 h hat
    go_wp2
    go_ret
    exact ⟨rfl, Dk.mono ⟨own, fv, pv, fs, us, unhide H1⟩ (fun _ h => h) (unhide H1).lt (by omega), ht.mono (fun j _ e => e ▸ hm)⟩
  · have hd' : s.down = false := by simpa using hd
    have e1 : s.sync = (0, s.safe) := by unfold DSt.sync; rw [if_neg hd]
    rw [e1]
    go_enter Tryz.func16, Tryz.ntmps16
    go_wp2_with fail
    refine (work_ok h.f.head hd' (by omega) hfit.left hfit.hi).mono ?_
    rintro e w1 ⟨rfl, hat, ht⟩
    have h1 : DkIs w1 b S (N + 1) s.worked own fv pv fs us := h.rehead ht hat rfl rfl (hfit.worked hd')
    have c1 : w1.cell? ⟨b, 1, none⟩ = some pv := hat.cell 1
    have f1 : w1.frozen? ⟨b, 1, none⟩ = false := hat.frozen 1
    obtain ⟨ao, c, rfl⟩ := h.p.shape
    have H1 := hide h1
    have Hat := hide hat
    clear h1 h hat
    go_wp2
    go_ret
    have h1 := unhide H1
    have t2 := Turn.at b 1 (.slice none 0 0) w1
    refine ⟨rfl, ⟨own, fv, .slice none 0 0, fs, [], h1.f.rehead t2 ((unhide Hat).set 1 _), PAt.none _ _, h1.now, rfl, h1.sub, fun j hj => Nat.lt_of_lt_of_le (h1.lt j hj) t2.size, hfit.safe hd'⟩, (ht.trans t2).mono (fun j _ e => e ▸ hm)⟩

set_option maxHeartbeats 1000000 in
theorem read_any (k : Int) (h : Dk w b S N s) (hN : N ≤ 1073741824) (hk : (s.now k).length ≤ 140737488355328) :
    Calls Tryz.prog 59 #[.pointer (some ⟨b, 0, none⟩), .int .i64 k] w fun e w' => ∃ v, e = .returned v ∧ Made w v (s.read k) w' := by
  obtain ⟨own, fv, pv, fs, us, h⟩ := h
  have hmany := h.many
  have c5 : w.cell? ⟨b, 5, none⟩ = some (.bool s.dead) := h.f.head.cell 5
  by_cases hd : s.dead = true
  · have e1 : s.read k = [] := if_pos hd
    rw [e1]
    rw [hd] at c5
    go_enter Tryz.func59, Tryz.ntmps59
    go_wp2
    go_ret
    exact ⟨_, rfl, Made.nil w⟩
  · have e1 : s.read k = s.now k := if_neg hd
    rw [e1]
    have hd' : s.dead = false := by simpa using hd
    rw [hd'] at c5
    go_enter Tryz.func59, Tryz.ntmps59
    go_wp2_with fail
    refine (bytesOf_any k h.f (by omega)).mono ?_
    rintro e w1 ⟨v, rfl, ho, _, _, t1⟩
    rw [h.now] at ho
    obtain ⟨ao, c, rfl⟩ := ho.shape
    go_wp2_with fail
    refine (clone_any _ _ _ ho.sees hk).mono ?_
    rintro e w2 ⟨v2, rfl, hm2⟩
    have hm3 : Made w v2 (s.now k) w2 := ⟨hm2.1, t1.trans hm2.2.1, fun j hj => Nat.le_trans t1.size (hm2.2.2 j hj)⟩
    obtain ⟨ao2, c2, rfl⟩ := hm2.1.shape
    have H3 := hide hm3
    clear hm2 hm3
    go_wp2
    go_ret
    exact ⟨_, rfl, unhide H3⟩

end

end Go.Proofs.YtnipdgigjcaolaaGreat

/- remainder and the method undo. -/
namespace Go.Proofs.YtnipdgigjcaolaaGreat
open Go.RowKit

theorem rem_rem (n m : Int) (hm : 0 < m) (hm2 : m ≤ 4611686018427387904) : (wrap64 (n.tmod m + m)).tmod m = n % m := by
  have h0 := Int.emod_nonneg n (show m ≠ 0 by omega)
  have h1 := Int.emod_lt_of_pos n hm
  have e := Int.tmod_eq_emod (a := n) (b := m)
  have ha : (m.natAbs : Int) = m := by omega
  have hw : wrap64 (n.tmod m + m) = n.tmod m + m := by
    unfold wrap64
    split at e <;> omega
  rw [hw]
  split at e
  · rw [e, show n % m - ((0 : Nat) : Int) + m = n % m + m by omega, Int.tmod_eq_emod_of_nonneg (by omega), Int.add_emod_right, Int.emod_emod_of_dvd n (Int.dvd_refl m)]
  · rw [e, show n % m - (m.natAbs : Int) + m = n % m by omega, Int.tmod_eq_emod_of_nonneg h0, Int.emod_emod_of_dvd n (Int.dvd_refl m)]

set_option maxHeartbeats 400000 in
theorem remainder_any (n m : Int) (w : World) (hm : 0 < m) (hm2 : m ≤ 4611686018427387904) :
    Calls Tryz.prog 94 #[.int .i64 n, .int .i64 m] w fun e w' => e = .returned (.int .i64 (n % m)) ∧ w = w' := by
  have hr := rem_rem n m hm hm2
  have Hr := hide hr
  clear hr
  go_enter Tryz.func94, Tryz.ntmps94
  go_wp2
  go_ret
  exact ⟨ret_int (unhide Hr), rfl⟩

theorem Owns.front {w : World} {g n cap : Nat} {bs : List UInt8} (h : Owns w (.slice (some ⟨g, 0, none⟩) n cap) bs) (m : Nat) (hm : m ≤ bs.length) : Owns w (.slice (some ⟨g, 0, none⟩) m cap) (bs.take m) := by
  rcases h.2 with ⟨h0, _⟩ | ⟨g', cap', cur, e, h1, h2, h3, h4, h5, h6⟩
  · simp at h0
  · simp only [Value.slice.injEq, Option.some.injEq, Addr.mk.injEq, and_true] at e
    obtain ⟨rfl, e2, rfl⟩ := e
    have hl : (bs.take m).length = m := by rw [List.length_take]; omega
    refine ⟨by rw [u8s_length]; omega, .inr ⟨g, cap, cur, by rw [hl], h1, h2, by omega, h4, h5, ?_⟩⟩
    rw [hl]
    have : cur.toList.take (m * 1) = (cur.toList.take (bs.length * 1)).take (m * 1) := by rw [List.take_take, Nat.min_eq_left (by omega)]
    rw [this, h6]
    simp [u8s]

section
variable {w : World} {b : Nat} {own : Nat → Option Tag} {fv pv : Value} {wk : Nat} {fu : Bool} {lf : Int} {de : Bool} {fs : List Ent}

theorem PutAt.back {w0 w' : World} {k : Int} {bs : List UInt8} (t : Turn (fun _ => False) w0 w) (h : PutAt w b own pv wk fu lf de fs k bs w') : PutAt w0 b own pv wk fu lf de fs k bs w' := by
  obtain ⟨own', fv', fs', a1, a2, a3, a4, a5⟩ := h
  exact ⟨own', fv', fs', a1, a2, a3, (t.mono (fun _ _ h => h.elim)).trans a4, fun j => (a5 j).imp id (fun h => ⟨h.1, Nat.le_trans t.size h.2.1, h.2.2⟩)⟩

/-- The bytes of a file behind an undo. -/
def undone (bs : List UInt8) (laid : Nat) (took : List UInt8) (stays : Nat) : List UInt8 := if laid = 0 then took else bs.take (bs.length - laid + stays)

theorem undoF_undone (s : Fs) (u : Und) (stays : Nat) : undoF s u stays = fput s u.file (undone (s u.file) u.laid u.took stays) := by
  unfold undoF undone
  split <;> rfl

set_option maxHeartbeats 2000000 in
set_option maxRecDepth 100000 in
theorem undo_took (f : Int) (tv : Value) (took : List UInt8) (stays : Nat) (h : FAt w b own fv pv wk fu lf de fs) (hv : Owns w tv took) (hvo : ∀ g, tv.ownBlock = some g → own g = some (.file f)) (hlen : fs.length ≤ 1073741824) :
    Calls Tryz.prog 95 #[.pointer (some ⟨b, 0, none⟩), .agg #[.int .i64 f, .int .i64 0, tv], .int .i64 stays] w fun e w' => e = .returned (.tuple #[]) ∧ PutAt w b own pv wk fu lf de fs f took w' := by
  obtain ⟨ao, c, rfl⟩ := hv.shape
  have ta : Turn (fun _ => False) w (w.alloc (.cells #[.int .i64 f, .int .i64 0, .slice ao took.length c] 94)) := (Turn.refl _ _).alloc _
  go_enter Tryz.func95, Tryz.ntmps95
  go_wp2_with fail
  refine (put_any f _ took (h.same ta) (hv.kept ta (fun _ _ h => h)) (fun _ => hvo) hlen).mono ?_
  rintro e w1 ⟨rfl, hpa⟩
  have Hfin := hide (hpa.back ta)
  clear hpa
  go_wp2
  refine bodyPost_ret (results_none rfl _ _ _) rfl ?_
  exact ⟨rfl, unhide Hfin⟩

set_option maxHeartbeats 2000000 in
set_option maxRecDepth 100000 in
theorem undo_laid (f : Int) (laid : Nat) (tv : Value) (took : List UInt8) (stays : Nat) (h : FAt w b own fv pv wk fu lf de fs) (hv : Owns w tv took) (hl : 0 < laid) (hle : laid ≤ (look fs f).length) (hst : stays ≤ laid) (hlen : fs.length ≤ 1073741824) :
    Calls Tryz.prog 95 #[.pointer (some ⟨b, 0, none⟩), .agg #[.int .i64 f, .int .i64 laid, tv], .int .i64 stays] w fun e w' => e = .returned (.tuple #[]) ∧ PutAt w b own pv wk fu lf de fs f ((look fs f).take ((look fs f).length - laid + stays)) w' := by
  obtain ⟨ao, c, rfl⟩ := hv.shape
  have ta : Turn (fun _ => False) w (w.alloc (.cells #[.int .i64 f, .int .i64 laid, .slice ao took.length c] 94)) := (Turn.refl _ _).alloc _
  have hA : At 94 (w.alloc (.cells #[.int .i64 f, .int .i64 laid, .slice ao took.length c] 94)) w.heap.size #[.int .i64 f, .int .i64 laid, .slice ao took.length c] := At.new _ _ _
  have h1 := h.same ta
  have q1 : ¬ (laid : Int) = 0 := by omega
  have q2 : ((laid : Int) == 0) = false := by simpa using q1
  go_enter Tryz.func95, Tryz.ntmps95
  go_wp2_with fail
  refine (bytesOf_any f h1 (by omega)).mono ?_
  rintro e w1 ⟨v, rfl, ho, hvo, _, t1⟩
  have h2 := h1.same t1
  have hA1 := hA.kept t1 (fun h => h)
  have hbm : (look fs f).length ≤ maxLen := ho.sees.len
  obtain ⟨g, cap, rfl⟩ := ho.solid (by omega)
  have hcap : (look fs f).length ≤ cap ∧ cap ≤ maxLen := by
    rcases row_shape ho with ⟨h0, _⟩ | ⟨g', cap', e, h3, h4, _⟩
    · simp at h0
    · simp only [Value.slice.injEq, Option.some.injEq, Addr.mk.injEq, and_true, true_and] at e
      obtain ⟨_, rfl⟩ := e
      exact ⟨h3, h4⟩
  have hf := ho.front ((look fs f).length - laid + stays) (by omega)
  unfold maxLen at hbm hcap
  have c0 : w1.cell? ⟨w.heap.size, 0, none⟩ = some (.int .i64 f) := hA1.cell 0
  have c1 : w1.cell? ⟨w.heap.size, 1, none⟩ = some (.int .i64 laid) := hA1.cell 1
  have Hf := hide hf
  have H2 := hide h2
  have hcall := fun ww (hw : Turn (fun _ => False) w1 ww) => (put_any (w := ww) f _ _ (h2.same hw) (hf.kept hw (fun _ _ h => h)) (fun _ => hvo) hlen).mono (fun e w' h => (⟨h.1, h.2.back ((ta.trans t1).trans hw)⟩ : e = .returned (.tuple #[]) ∧ PutAt w b own pv wk fu lf de fs f ((look fs f).take ((look fs f).length - laid + stays)) w'))
  generalize hL : look fs f = L at *
  have HL := hide hL
  have q3 : IntKind.i64.wrap ((L.length : Int) - (laid : Int)) = (L.length : Int) - laid := by rw [IntKind.wrap_i64]; omega
  have q4 : IntKind.i64.wrap ((L.length : Int) - (laid : Int) + stays) = (L.length : Int) - laid + stays := by rw [IntKind.wrap_i64]; omega
  have q5 : ((L.length : Int) - laid + stays).toNat = L.length - laid + stays := by omega
  have q6 : (0 : Int) ≤ (L.length : Int) - laid + stays := by omega
  have q7 : (L.length : Int) - laid + stays ≤ cap := by omega
  have Hcall := hide hcall
  clear hf h2 hA1 h1 hA ho hL h hv ta t1 hcall
  go_wp2_with fail
  go_region_with (go_at_call 52; go_must (refine (unhide Hcall _ ?_).mono ?_; exact (Turn.refl _ _).drew; rintro e w2 ⟨rfl, hpa⟩))
  all_goals (
    go_wp2
    go_end0
    refine ⟨rfl, ?_⟩
    rw [unhide HL]
    assumption)

end

end Go.Proofs.YtnipdgigjcaolaaGreat

/- The methods Append and Remove. -/
namespace Go.Proofs.YtnipdgigjcaolaaGreat
open Go.RowKit

section
variable {P : Program} (w : World)

/-- append onto bytes of one's own: what was there still shows what it showed. -/
theorem run_append_keeps (t ty : TypeId) (i : TypeInfo) (ht : P.underlying t = some (.slice 5)) (hi : P.info? 5 = some i) (hz : i.zero = some (.int .u8 0)) (hsize : i.size = 1) (hby : i.bytes = 1)
    (v : Value) (xs : List UInt8) (hown : Owns w v xs) (sv : Value) (ds : List UInt8) (hsee : Sees w sv ds) (hbound : xs.length + ds.length ≤ 140737488355328) :
    ∃ v' w', (Builtin.append_ #[t, t] ty #[v, sv]).run P w = .ok v' w' ∧ Owns w' v' (xs ++ ds) ∧ w.grownBy w' v.ownBlock ∧ (v'.ownBlock = v.ownBlock ∨ v'.ownBlock = some w.heap.size) ∧ Owns w' v xs := by
  obtain ⟨v', w', hr, ho, hg, hk⟩ := run_append_sees w t ty i ht hi hz hsize hby v xs hown sv ds hsee hbound
  refine ⟨v', w', hr, ho, hg, hk, ?_⟩
  have h63 : xs.length + ds.length ≤ maxLen := by unfold maxLen; omega
  rcases hown.2 with ⟨rfl, hn⟩ | ⟨g, cp, cur, rfl, _, hgg, hnc, hcm, hcs, htake⟩
  · rw [List.eq_nil_of_length_eq_zero hn]
    exact Owns.nil _
  · have hlt := (Array.getElem?_eq_some_iff.1 hgg).1
    rcases hsee with ⟨rfl, rfl⟩ | ⟨a, cap, rfl, hc, hm, hcell⟩
    · have h0 := run_append_owned_none w 0 t ty 5 i 1 ht hi _ _ _ hown
      rw [hr] at h0
      injection h0 with e1 e2
      subst e2
      exact hown
    · have hone : ∀ u ∈ u8s ds, u.oneCell' = true := fun u hu => u8s_one hu
      have hl : (u8s ds).length = ds.length * 1 := by rw [u8s_length]; omega
      by_cases hroom : xs.length + ds.length ≤ cp
      · obtain ⟨w2, hr2, _, _⟩ := run_append_fits (P := P) w 0 t ty 5 i 1 ht hi hsize g xs.length cp (u8s xs) hown a ds.length cap (u8s ds) hl hcell hone hroom
        rw [hr] at hr2
        injection hr2 with e1 e2
        subst e1
        rw [← List.length_append] at ho
        have := ho.front xs.length (by simp)
        rwa [List.take_left] at this
      · have hr2 := run_append_grow (P := P) w t ty 5 i (.int .u8 0) ht hi hz ⟨g, 0, none⟩ xs.length cp (u8s xs) (by rw [hsize, u8s_length]; omega) (World.ownsRow.cells hown (g := g) rfl) a ds.length cap (u8s ds) (by rw [hsize]; exact hl) hcell (by omega) (by unfold maxLen at h63; omega) (growslice_fits (by omega) (by rw [hby]; omega))
        rw [hr] at hr2
        injection hr2 with e1 e2
        subst e2
        exact hown.kept (S := fun _ => False) ((Turn.refl _ w).drew.alloc _) (fun _ _ h => h)

end

theorem Tryz.infoChg : (Tryz.prog.info? 94).map (fun i => (i.zero, i.size, i.bytes)) = some (some (.agg #[.int .i64 0, .int .i64 0, .slice none 0 0]), 3, 40) := by kernel_rfl

theorem infoChg : ∃ i, Tryz.prog.info? 94 = some i ∧ i.zero = some (.agg #[.int .i64 0, .int .i64 0, .slice none 0 0]) ∧ i.size = 3 ∧ i.bytes = 40 := by
  obtain ⟨i, hi, h⟩ := Option.map_eq_some_iff.1 Tryz.infoChg
  simp only [Prod.mk.injEq] at h
  exact ⟨i, hi, h.1, h.2.1, h.2.2⟩

theorem pend_append (w : World) (pv : Value) (n vb : Nat) (xs : List Value) (x0 x1 x2 : Value) (h : w.ownsRow 0 94 3 pv n xs) (hx : At 94 w vb #[x0, x1, x2]) (h0 : x0.oneCell' = true) (h1 : x1.oneCell' = true) (h2 : x2.oneCell' = true) (hn : n ≤ 1073741824) :
    ∃ v' w', (Builtin.append_ #[81, 81] 81 #[pv, .slice (some ⟨vb, 0, none⟩) 1 1]).run Tryz.prog w = .ok v' w' ∧ w'.ownsRow 0 94 3 v' (n + 1) (xs ++ [x0, x1, x2]) ∧ w.grownBy w' pv.ownBlock ∧ (v'.ownBlock = pv.ownBlock ∨ v'.ownBlock = some w.heap.size) := by
  obtain ⟨t, ht, hz, hs, hb⟩ := infoChg
  obtain ⟨v', w', hr, ho, hg, _, hat⟩ := run_append_own_at (P := Tryz.prog) w 0 81 81 94 t _ 3 40 Tryz.underlying81 ht hz hs hb rfl (by omega) pv n xs h ⟨vb, 0, none⟩ 1 1 [x0, x1, x2] rfl
    (fun j u hj => by
      rw [addr_lit, Nat.zero_add, hx.cell j]
      simpa using hj)
    (fun u hu => by
      simp only [List.mem_cons, List.not_mem_nil, or_false] at hu
      rcases hu with rfl | rfl | rfl <;> assumption) (by unfold maxLen; omega) (by omega) (Nat.zero_le _)
  exact ⟨v', w', hr, ho, hg, hat⟩

section
variable {w : World} {b : Nat} {own : Nat → Option Tag} {fv pv : Value} {wk : Nat} {fu : Bool} {lf : Int} {de : Bool} {fs : List Ent} {us : List U}

/-- One more pends. -/
theorem pushed {wa w2 : World} {v' : Value} (u : U) (hf : FAt w b own fv pv wk fu lf de fs) (hp : PAt w own pv us us.length) (hsub : ∀ j, own j ≠ none → j < w.heap.size)
    (ta : Turn (fun _ => False) w wa) (hg : wa.grownBy w2 pv.ownBlock) (hloc : v'.ownBlock = pv.ownBlock ∨ v'.ownBlock = some wa.heap.size) (hrow : w2.ownsRow 0 94 3 v' (us.length + 1) (pcells us ++ [.int .i64 u.file, .int .i64 u.laid, u.v]))
    (hu : Owns w u.v u.took) (hut : ∀ g, u.v.ownBlock = some g → own g = some (.took us.length)) :
    ∃ own', FAt (w2.setCell ⟨b, 1, none⟩ v') b own' fv v' wk fu lf de fs ∧ PAt (w2.setCell ⟨b, 1, none⟩ v') own' v' (us ++ [u]) (us ++ [u]).length ∧ Turn (fun j => own j = some .disk ∨ own j = some .pends) w (w2.setCell ⟨b, 1, none⟩ v') ∧ ∀ j, own' j = own j ∨ (own' j = some .pends ∧ w.heap.size ≤ j ∧ j < (w2.setCell ⟨b, 1, none⟩ v').heap.size) := by
  have t2 : Turn (fun j => pv.ownBlock = some j) wa w2 := (Turn.refl _ _).grown hg (fun k hk => .inl hk)
  have ts := Turn.at b 1 v' w2
  have tp : Turn (fun j => own j = some .pends) w w2 := (ta.mono (fun _ _ h => h.elim)).trans' t2 (fun j _ hj => hp.pown j hj)
  have key : ∀ g, own g ≠ none → own g ≠ some .pends → v'.ownBlock ≠ some g := by
    intro g h0 h1 e
    rcases hloc with hl | hl
    · rw [hl] at e; exact h1 (hp.pown g e)
    · rw [hl] at e
      injection e with e
      have := hsub g h0
      have := ta.size
      omega
  have hvb : v'.ownBlock ≠ some b := key b (by rw [hf.hb]; simp) (by rw [hf.hb]; simp)
  have hf2 := hf.kept tp (fun k hk => by rw [hk]; simp)
  have hf3 := hf2.rehead (pv' := v') ts (hf2.head.set 1 v')
  have tt : Turn (fun j => own j = some .disk ∨ own j = some .pends) w (w2.setCell ⟨b, 1, none⟩ v') := (tp.mono (fun _ _ h => .inr h)).trans' ts (fun j _ e => .inl (by rw [e]; exact hf.hb))
  have hnew : ∀ j, own j ≠ none → own j ≠ some .pends → (if v'.ownBlock = some j then some Tag.pends else own j) = own j := fun j h0 h1 => if_neg (key j h0 h1)
  refine ⟨fun j => if v'.ownBlock = some j then some .pends else own j, hf3.retag ?_, ⟨?_, fun g hg => if_pos hg, ?_⟩, tt, ?_⟩
  · intro j hj
    rcases hj with h | h | ⟨f, h⟩ <;> exact hnew j (by rw [h]; simp) (by rw [h]; simp)
  · rw [pcells_snoc, List.length_append]
    exact row_kept hrow ts (fun k hk e => hvb (e ▸ hk))
  · intro i x hi hx
    have kept : ∀ (y : Value) (ys : List UInt8) (n : Nat), Owns w y ys → (∀ g, y.ownBlock = some g → own g = some (.took n)) → Owns (w2.setCell ⟨b, 1, none⟩ v') y ys ∧ ∀ g, y.ownBlock = some g → (if v'.ownBlock = some g then some Tag.pends else own g) = some (.took n) := by
      intro y ys n hy hyt
      refine ⟨hy.kept tt (fun k hk e => ?_), fun g hg => ?_⟩
      · rw [hyt k hk] at e
        rcases e with e | e <;> cases e
      · rw [hnew g (by rw [hyt g hg]; simp) (by rw [hyt g hg]; simp)]
        exact hyt g hg
    by_cases hi' : i < us.length
    · rw [List.getElem?_append_left hi'] at hx
      obtain ⟨a1, a2⟩ := hp.each i x hi' hx
      exact kept _ _ _ a1 a2
    · have : i = us.length := by simp at hi; omega
      subst this
      simp at hx
      subst hx
      exact kept _ _ _ hu hut
  · intro j
    show (if v'.ownBlock = some j then some Tag.pends else own j) = own j ∨ ((if v'.ownBlock = some j then some Tag.pends else own j) = some .pends ∧ w.heap.size ≤ j ∧ j < (w2.setCell ⟨b, 1, none⟩ v').heap.size)
    by_cases hj : v'.ownBlock = some j
    · rw [if_pos hj]
      rcases hloc with hl | hl
      · rw [hl] at hj
        exact .inl (hp.pown j hj).symm
      · have h1 := (World.ownsRow.lt hrow j hj).2
        have h2 := ts.size
        rw [hl] at hj
        injection hj with hj
        have := ta.size
        exact .inr ⟨rfl, by omega, by omega⟩
    · exact .inl (if_neg hj)

end

theorem acts_push (s : DSt) (o : DOp) : (s.worked.push o).now = act s.now o := acts_snoc s.base s.ops o

section
variable {w : World} {b : Nat} {S : Nat → Prop} {N : Nat} {s : DSt}

set_option maxHeartbeats 400000 in
theorem append_arg (f : Int) (v : Value) (bs : List UInt8) (w : World) (hf : f < 0) (hs : Sees w v bs) : Calls Tryz.prog 14 #[.pointer (some ⟨b, 0, none⟩), .int .i64 f, v] w fun e w' => e = .returned (.int .i64 1) ∧ w = w' := by
  obtain ⟨ao, c, rfl⟩ := hs.shape
  go_enter Tryz.func14, Tryz.ntmps14
  go_wp2
  go_ret
  exact ⟨rfl, rfl⟩

set_option maxHeartbeats 400000 in
theorem append_down (f : Int) (v : Value) (bs : List UInt8) (h : Dk w b S N s) (hs : Sees w v bs) (hf : 0 ≤ f) (hd : s.down = true) :
    Calls Tryz.prog 14 #[.pointer (some ⟨b, 0, none⟩), .int .i64 f, v] w fun e w' => e = .returned (.int .i64 14) ∧ DkTo w b S N s.fall w' := by
  have hm := h.mem
  obtain ⟨own, fv, pv, fs, us, h⟩ := h
  obtain ⟨ao, c, rfl⟩ := hs.shape
  have hf' : ¬ f < 0 := by omega
  go_enter Tryz.func14, Tryz.ntmps14
  go_wp2_with fail
  refine (work_down h.f.head hd).mono ?_
  rintro e w1 ⟨rfl, hat, ht⟩
  have h1 : DkIs w1 b S N s.fall own fv pv fs us := h.rehead ht hat rfl rfl h.fit.fall
  have H1 := hide h1
  clear h1 h hat
  go_wp2
  go_ret
  exact ⟨rfl, DkTo.of (unhide H1) hm ht⟩

set_option maxHeartbeats 400000 in
theorem append_none (f : Int) (v : Value) (h : Dk w b S N s) (hs : Sees w v []) (hf : 0 ≤ f) (hd : s.down = false) (hN : N ≤ 1073741824) :
    Calls Tryz.prog 14 #[.pointer (some ⟨b, 0, none⟩), .int .i64 f, v] w fun e w' => e = .returned (.int .i64 0) ∧ DkTo w b S (N + 1) s.worked w' := by
  have hm := h.mem
  obtain ⟨own, fv, pv, fs, us, h⟩ := h
  obtain ⟨ao, c, rfl⟩ := hs.shape
  have hf' : ¬ f < 0 := by omega
  have hfit := h.fit
  have hwk := hfit.works
  go_enter Tryz.func14, Tryz.ntmps14
  go_wp2_with fail
  refine (work_ok h.f.head hd (by omega) hfit.left hfit.hi).mono ?_
  rintro e w1 ⟨rfl, hat, ht⟩
  have h1 : DkIs w1 b S (N + 1) s.worked own fv pv fs us := h.rehead ht hat rfl rfl (hfit.worked hd)
  have H1 := hide h1
  clear h1 h hat
  go_wp2
  go_ret
  exact ⟨rfl, DkTo.of (unhide H1) hm ht⟩

end

end Go.Proofs.YtnipdgigjcaolaaGreat

/- The method Append, of some bytes; the method Remove. -/
namespace Go.Proofs.YtnipdgigjcaolaaGreat
open Go.RowKit

section
variable {w : World} {b : Nat} {own : Nat → Option Tag} {fv pv : Value} {wk : Nat} {fu : Bool} {lf : Int} {de : Bool} {fs : List Ent} {us : List U}

/-- All blocks that are known of are the thing's, or have come since. -/
def Known (S : Nat → Prop) (w0 : World) (own : Nat → Option Tag) (w : World) : Prop := ∀ j, own j ≠ none → grow S w0 w j

theorem Known.lt {S : Nat → Prop} {w0 : World} (h : Known S w0 own w) (hS : ∀ j, S j → j < w0.heap.size) (hw : w0.heap.size ≤ w.heap.size) : ∀ j, own j ≠ none → j < w.heap.size := fun j hj => (h j hj).elim (fun h => Nat.lt_of_lt_of_le (hS j h) hw) (fun h => h.2)

theorem Known.old {S : Nat → Prop} {w0 : World} (h : Known S w0 own w) : ∀ j, j < w0.heap.size → own j ≠ none → S j := fun j hj h0 => (h j h0).elim id (fun h => by omega)

theorem Known.next {S : Nat → Prop} {w0 w' : World} {own' : Nat → Option Tag} (h : Known S w0 own w) (h0 : w0.heap.size ≤ w.heap.size) (hw : w.heap.size ≤ w'.heap.size) (ho : ∀ j, own' j ≠ none → own j ≠ none ∨ (w.heap.size ≤ j ∧ j < w'.heap.size)) : Known S w0 own' w' := by
  intro j hj
  rcases ho j hj with h1 | h1
  · rcases h j h1 with h2 | h2
    · exact .inl h2
    · exact .inr ⟨h2.1, by omega⟩
  · exact .inr ⟨by omega, h1.2⟩

/-- Bytes are laid behind those of a file, in memory. -/
theorem FAt.grown {w' : World} {v v' : Value} {f : Int} {bs : List UInt8} (h : FAt w b own fv pv wk fu lf de fs) (hp : PAt w own pv us us.length) (hsub : ∀ j, own j ≠ none → j < w.heap.size)
    (hvo : ∀ g, v.ownBlock = some g → own g = some (.file f)) (huni : ∀ e ∈ fs, e.num = f → e.v = v) (hg : w.grownBy w' v.ownBlock) (hk : v'.ownBlock = v.ownBlock ∨ v'.ownBlock = some w.heap.size) (ho : Owns w' v' bs) (hkeep : Owns w' v (look fs f)) :
    ∃ own', FAt w' b own' fv pv wk fu lf de fs ∧ PAt w' own' pv us us.length ∧ (∀ g, v'.ownBlock = some g → own' g = some (.file f)) ∧ Turn (fun j => own j = some (.file f)) w w' ∧ ∀ j, own' j ≠ none → own j ≠ none ∨ (w.heap.size ≤ j ∧ j < w'.heap.size) := by
  have t : Turn (fun j => own j = some (.file f)) w w' := (Turn.refl _ _).grown hg (fun k hk => .inl (hvo k hk))
  have key : ∀ g, own g ≠ none → own g ≠ some (.file f) → v'.ownBlock ≠ some g := by
    intro g h0 h1 e
    rcases hk with hl | hl
    · rw [hl] at e; exact h1 (hvo g e)
    · rw [hl] at e
      injection e with e
      have := hsub g h0
      omega
  have hnew : ∀ j, own j ≠ none → own j ≠ some (.file f) → (if v'.ownBlock = some j then some (Tag.file f) else own j) = own j := fun j h0 h1 => if_neg (key j h0 h1)
  refine ⟨fun j => if v'.ownBlock = some j then some (.file f) else own j, ⟨h.head.kept t (by rw [h.hb]; simp), ?_, row_kept h.row t (fun k hk e => by rw [h.fown k hk] at e; cases e), ?_, h.rise, ?_⟩, ?_, fun g hg => if_pos hg, t, ?_⟩
  · show (if v'.ownBlock = some b then some (Tag.file f) else own b) = _
    rw [hnew b (by rw [h.hb]; simp) (by rw [h.hb]; simp)]
    exact h.hb
  · intro g hg
    show (if v'.ownBlock = some g then some (Tag.file f) else own g) = _
    have := h.fown g hg
    rw [hnew g (by rw [this]; simp) (by rw [this]; simp)]
    exact this
  · intro e he
    obtain ⟨a1, a2, a3⟩ := h.file e he
    by_cases hef : e.num = f
    · have hev := huni e he hef
      have hbs : look fs f = e.bs := by rw [← hef]; exact look_mem h.rise e he
      refine ⟨by rw [hev, ← hbs]; exact hkeep, a2, fun g hg => ?_⟩
      show (if v'.ownBlock = some g then some (Tag.file f) else own g) = _
      rw [hef]
      split
      · rfl
      · have := a3 g hg
        rwa [hef] at this
    · have hne : ∀ g, e.v.ownBlock = some g → own g ≠ some (.file f) := fun g hg e' => by
        rw [a3 g hg] at e'
        injection e' with e'
        injection e' with e'
        exact hef e'
      refine ⟨a1.kept t (fun k hk => hne k hk), a2, fun g hg => ?_⟩
      show (if v'.ownBlock = some g then some (Tag.file f) else own g) = _
      rw [hnew g (by rw [a3 g hg]; simp) (hne g hg)]
      exact a3 g hg
  · refine (hp.kept t (fun k hk => by rw [hk]; simp)).retag ?_
    intro j hj
    rcases hj with hj | ⟨i, _, hj⟩ <;> exact hnew j (by rw [hj]; simp) (by rw [hj]; simp)
  · intro j hj
    by_cases hjv : v'.ownBlock = some j
    · rcases hk with hl | hl
      · left
        rw [hl] at hjv
        rw [hvo j hjv]
        simp
      · right
        have := ho.lt hjv
        rw [hl] at hjv
        injection hjv with hjv
        omega
    · left
      have : (if v'.ownBlock = some j then some (Tag.file f) else own j) ≠ none := hj
      rwa [if_neg hjv] at this

/-- What pends stays behind a put. -/
theorem PutAt.pends {w' : World} {k : Int} {bs : List UInt8} {m : Nat} (h : PutAt w b own pv wk fu lf de fs k bs w') (hp : PAt w own pv us m) (hsub : ∀ j, own j ≠ none → j < w.heap.size) :
    ∃ own' fv' fs', FAt w' b own' fv' pv wk fu lf de fs' ∧ look fs' = fput (look fs) k bs ∧ PAt w' own' pv us m ∧ Turn (fun j => own j = some .disk ∨ own j = some .files) w w' ∧ (∀ j, own' j ≠ none → own j ≠ none ∨ (w.heap.size ≤ j ∧ j < w'.heap.size)) ∧ ∀ j, own j ≠ none → own' j = own j := by
  obtain ⟨own', fv', fs', a1, a2, a3, a4, a5⟩ := h
  have hsame : ∀ j, own j ≠ none → own' j = own j := fun j h0 => by
    rcases a5 j with h | ⟨_, h, _⟩
    · exact h
    · have := hsub j h0; omega
  refine ⟨own', fv', fs', a1, a2, (hp.kept a4 (fun k hk => by rcases hk with hk | hk <;> rw [hk] <;> simp)).retag ?_, a4, ?_, hsame⟩
  · intro j hj
    refine hsame j ?_
    rcases hj with hj | ⟨i, _, hj⟩ <;> rw [hj] <;> simp
  · intro j hj
    rcases a5 j with h | ⟨_, h⟩
    · left; rwa [h] at hj
    · exact .inr h

end

section
variable {w : World} {b : Nat} {S : Nat → Prop} {N : Nat} {s : DSt}

set_option maxHeartbeats 2000000 in
set_option maxRecDepth 100000 in
theorem append_some (f : Int) (v : Value) (bs : List UInt8) (h : Dk w b S N s) (hs : Sees w v bs) (hsl : ∀ k, slab v = some k → ¬ S k) (hb : bs ≠ []) (hf : 0 ≤ f) (hd : s.down = false) (hN : N ≤ 1073741823) (hsz : (s.now f).length + bs.length ≤ 140737488355328) :
    Calls Tryz.prog 14 #[.pointer (some ⟨b, 0, none⟩), .int .i64 f, v] w fun e w' => e = .returned (.int .i64 0) ∧ DkTo w b S (N + 1) (s.worked.push (.lay f bs)) w' := by
  obtain ⟨i0, hi, hz0, hz1, hz2⟩ := info_parts Tryz.infoU8
  have hm := h.mem
  obtain ⟨own, fv, pv, fs, us, h⟩ := h
  have hmany := And.intro h.many.1 h.many.2.1
  have hf' : ¬ f < 0 := by omega
  have hfit := h.fit
  have hwk := hfit.works
  have hbl : 0 < bs.length := Nat.pos_of_ne_zero fun e => hb (List.eq_nil_of_length_eq_zero e)
  have q1 : (0 : Int) < bs.length := by omega
  have hbm := hs.len
  unfold maxLen at hbm
  obtain ⟨ao, c, hve⟩ := hs.shape
  subst hve
  go_enter Tryz.func14, Tryz.ntmps14
  go_wp2_with fail
  refine (work_ok h.f.head hd (by omega) hfit.left hfit.hi).mono ?_
  rintro e w1 ⟨rfl, hat, t1⟩
  have h1 : DkIs w1 b S (N + 1) s.worked own fv pv fs us := h.rehead t1 hat rfl rfl (hfit.worked hd)
  have hs1 := hs.kept t1 (fun k hk e => hsl k hk (e ▸ hm))
  have k1 : Known S w own w1 := fun j hj => .inl (h.sub j hj)
  have T1 : Turn S w w1 := t1.mono (fun j _ e => e ▸ hm)
  have hlt := h.lt
  have hnow := h.now
  have hund := h.und
  have H1 := hide h1
  have HS := hide (And.intro hs1 (And.intro hnow (And.intro hund hlt)))
  clear h1 h hat hs hs1 hnow hund t1 hlt
  go_wp2_with fail
  refine (bytesOf_any f (unhide H1).f (by omega)).mono ?_
  rintro e w2 ⟨v2, rfl, ho2, hvo2, huni, t2⟩
  have F2 := (unhide H1).f.same t2
  have P2 := (unhide H1).p.kept t2 (fun _ h => h.elim)
  have k2 : Known S w own w2 := k1.next T1.size t2.size (fun j hj => .inl hj)
  have T2 : Turn S w w2 := T1.trans (t2.mono (fun _ _ h => h.elim))
  have hs2 := (unhide HS).1.kept t2 (fun _ _ h => h)
  have hnow := (unhide HS).2.1
  obtain ⟨v3, w3, hr3, ho3, hg3, hk3, hkeep⟩ := run_append_keeps (P := Tryz.prog) w2 29 29 i0 Tryz.underlying29 hi hz0 hz1 hz2 v2 _ ho2 _ bs hs2 (by rw [hnow]; exact hsz)
  obtain ⟨own3, F3, P3, hvo3, t3, d3⟩ := F2.grown P2 (k2.lt (unhide HS).2.2.2 T2.size) hvo2 huni hg3 hk3 ho3 hkeep
  have k3 : Known S w own3 w3 := k2.next T2.size t3.size d3
  have T3 : Turn S w w3 := T2.trans' t3 (fun i hi e => k2.old i hi (by rw [e]; simp))
  have hput := put_any f v3 _ F3 ho3 (fun _ => hvo3) (by omega)
  obtain ⟨vo2, vc2, hv2⟩ := ho2.shape
  obtain ⟨vo3, vc3, hv3⟩ := ho3.shape
  subst hv2 hv3
  have Hput := hide hput
  have Hr3 := hide hr3
  have HF := hide (And.intro F3 (And.intro P3 (And.intro k3 T3)))
  clear F2 P2 k2 T2 hs2 hnow hr3 ho3 hg3 hk3 hkeep F3 P3 hvo3 t3 d3 k3 T3 hput ho2 hvo2 huni t2 k1 T1
  generalize (look fs f ++ bs).length = n3 at *
  go_wp2_with (at_builtin; refine wpList_append_run rfl (.tmp 26) (.tmp 27) 29 rfl _ _ _ w3 rfl rfl (unhide Hr3) ?_)
  refine (unhide Hput).mono ?_
  rintro e w4 ⟨rfl, hpa⟩
  obtain ⟨F3, P3, k3, T3⟩ := unhide HF
  have hlt := (unhide HS).2.2.2
  obtain ⟨own4, fv4, fs4, F4, hl4, P4, t4, d4, _⟩ := hpa.pends P3 (k3.lt hlt T3.size)
  have k4 : Known S w own4 w4 := k3.next T3.size t4.size d4
  have T4 : Turn S w w4 := T3.trans' t4 (fun i hi e => k3.old i hi (by rcases e with e | e <;> rw [e] <;> simp))
  have c1 : w4.cell? ⟨b, 1, none⟩ = some pv := F4.head.cell 1
  have ta : Turn (fun _ => False) w4 (w4.alloc (.cells #[.int .i64 f, .int .i64 bs.length, .slice none 0 0] 94)) := (Turn.refl _ _).alloc _
  have hA : At 94 (w4.alloc (.cells #[.int .i64 f, .int .i64 bs.length, .slice none 0 0] 94)) w4.heap.size #[.int .i64 f, .int .i64 bs.length, .slice none 0 0] := At.new _ _ _
  obtain ⟨v5, w5, hr5, ho5, hg5, hk5⟩ := pend_append _ pv us.length w4.heap.size (pcells us) _ _ _ (row_kept P4.row ta (fun _ _ h => h)) hA rfl rfl rfl (by omega)
  obtain ⟨own6, F6, P6, t6, d6⟩ := pushed (w2 := w5) (v' := v5) ⟨f, bs.length, .slice none 0 0, []⟩ F4 P4 (k4.lt hlt T4.size) ta hg5 hk5 ho5 (Owns.nil _) (fun g hg => by simp [Value.ownBlock] at hg)
  have k6 : Known S w own6 (w5.setCell ⟨b, 1, none⟩ v5) := k4.next T4.size t6.size (fun j hj => by
    rcases d6 j with h | ⟨_, h⟩
    · left; rwa [h] at hj
    · exact .inr h)
  have T6 : Turn S w (w5.setCell ⟨b, 1, none⟩ v5) := T4.trans' t6 (fun i hi e => k4.old i hi (by rcases e with e | e <;> rw [e] <;> simp))
  have hfin : DkTo w b S (N + 1) (s.worked.push (.lay f bs)) (w5.setCell ⟨b, 1, none⟩ v5) := by
    refine ⟨⟨own6, fv4, v5, fs4, _, F6, P6, ?_, ?_, k6, fun j hj => hj.elim (fun h => Nat.lt_of_lt_of_le (hlt j h) T6.size) (fun h => h.2), hfit.push hd _ (fun k bs' e => by injection e with e1 e2; rw [← e2]; exact hb)⟩, T6⟩
    · rw [hl4, acts_push, act, (unhide HS).2.1]
    · have hu := (unhide HS).2.2.1
      rw [List.map_append, hu]
      show unds s.base s.ops ++ [_] = unds s.base (s.ops ++ [_])
      rw [unds_snoc]
      rfl
  obtain ⟨po, pc, hpv⟩ := P4.shape
  obtain ⟨vo5, vc5, hv5⟩ : ∃ ao c, v5 = .slice ao (us.length + 1) c := by
    rcases row_shape ho5 with ⟨rfl, h0⟩ | ⟨g, cap, rfl, _⟩
    · omega
    · exact ⟨_, _, rfl⟩
  have tb : Turn (fun j => pv.ownBlock = some j) (w4.alloc (.cells #[.int .i64 f, .int .i64 bs.length, .slice none 0 0] 94)) w5 := (Turn.refl _ _).grown hg5 (fun k hk => .inl hk)
  have hd5 := (F4.head.kept ta (fun h => h)).kept tb (fun e => by have := P4.pown b e; rw [F4.hb] at this; cases this)
  have c5 : w5.cell? ⟨b, 1, none⟩ = some pv := hd5.cell 1
  have f5 : w5.frozen? ⟨b, 1, none⟩ = false := hd5.frozen 1
  have Hfin := hide hfin
  have Hr5 := hide hr5
  clear hfin hr5 F6 P6 t6 d6 k6 T6 ho5 hg5 hk5 F4 P4 t4 d4 k4 T4 F3 P3 k3 T3 hpa hl4 hA ta tb hd5 hlt
  subst hpv hv5
  go_wp2_with (at_builtin; refine wpList_append_run rfl (.tmp 34) (.tmp 39) 81 rfl _ _ _ w5 rfl rfl (unhide Hr5) ?_)
  go_ret
  exact ⟨rfl, unhide Hfin⟩

set_option maxHeartbeats 400000 in
theorem remove_arg (f : Int) (w : World) (hf : f < 0) : Calls Tryz.prog 61 #[.pointer (some ⟨b, 0, none⟩), .int .i64 f] w fun e w' => e = .returned (.int .i64 1) ∧ w = w' := by
  go_enter Tryz.func61, Tryz.ntmps61
  go_wp2
  go_ret
  exact ⟨rfl, rfl⟩

set_option maxHeartbeats 400000 in
theorem remove_down (f : Int) (h : Dk w b S N s) (hf : 0 ≤ f) (hd : s.down = true) :
    Calls Tryz.prog 61 #[.pointer (some ⟨b, 0, none⟩), .int .i64 f] w fun e w' => e = .returned (.int .i64 14) ∧ DkTo w b S N s.fall w' := by
  have hm := h.mem
  obtain ⟨own, fv, pv, fs, us, h⟩ := h
  have hf' : ¬ f < 0 := by omega
  go_enter Tryz.func61, Tryz.ntmps61
  go_wp2_with fail
  refine (work_down h.f.head hd).mono ?_
  rintro e w1 ⟨rfl, hat, ht⟩
  have h1 : DkIs w1 b S N s.fall own fv pv fs us := h.rehead ht hat rfl rfl h.fit.fall
  have H1 := hide h1
  clear h1 h hat
  go_wp2
  go_ret
  exact ⟨rfl, DkTo.of (unhide H1) hm ht⟩

set_option maxHeartbeats 1000000 in
set_option maxRecDepth 100000 in
theorem remove_none (f : Int) (h : Dk w b S N s) (hf : 0 ≤ f) (hd : s.down = false) (hn : s.now f = []) (hN : N ≤ 1073741824) :
    Calls Tryz.prog 61 #[.pointer (some ⟨b, 0, none⟩), .int .i64 f] w fun e w' => e = .returned (.int .i64 0) ∧ DkTo w b S (N + 1) s.worked w' := by
  have hm := h.mem
  obtain ⟨own, fv, pv, fs, us, h⟩ := h
  have hf' : ¬ f < 0 := by omega
  have hmany := And.intro h.many.1 h.many.2.1
  have hfit := h.fit
  have hwk := hfit.works
  go_enter Tryz.func61, Tryz.ntmps61
  go_wp2_with fail
  refine (work_ok h.f.head hd (by omega) hfit.left hfit.hi).mono ?_
  rintro e w1 ⟨rfl, hat, ht⟩
  have h1 : DkIs w1 b S (N + 1) s.worked own fv pv fs us := h.rehead ht hat rfl rfl (hfit.worked hd)
  have hnow := h.now
  have H1 := hide h1
  have Hn := hide hn
  clear h1 h hat hn
  go_wp2_with fail
  refine (bytesOf_any f (unhide H1).f (by omega)).mono ?_
  rintro e w2 ⟨v2, rfl, ho2, _, _, t2⟩
  rw [hnow, unhide Hn] at ho2
  obtain ⟨ao, c, rfl⟩ := ho2.shape
  have hk : Dk w2 b S (N + 1) s.worked := Dk.kept ⟨own, fv, pv, fs, us, unhide H1⟩ t2 (fun _ _ h => h)
  have hfin : DkTo w b S (N + 1) s.worked w2 := by
    have T : Turn S w w2 := (ht.mono (fun j _ e => e ▸ hm)).trans (t2.mono (fun _ _ h => h.elim))
    exact ⟨hk.mono (fun _ h => .inl h) (fun j hj => hj.elim (hk.lt j) (fun h => h.2)) (Nat.le_refl _), T⟩
  have Hfin := hide hfin
  clear hnow ho2 t2 hk hfin
  go_wp2
  go_ret
  exact ⟨rfl, unhide Hfin⟩

set_option maxHeartbeats 2000000 in
set_option maxRecDepth 100000 in
theorem remove_some (f : Int) (h : Dk w b S N s) (hf : 0 ≤ f) (hd : s.down = false) (hn : s.now f ≠ []) (hN : N ≤ 1073741823) :
    Calls Tryz.prog 61 #[.pointer (some ⟨b, 0, none⟩), .int .i64 f] w fun e w' => e = .returned (.int .i64 0) ∧ DkTo w b S (N + 1) (s.worked.push (.rem f)) w' := by
  have hm := h.mem
  obtain ⟨own, fv, pv, fs, us, h⟩ := h
  have hf' : ¬ f < 0 := by omega
  have hmany := And.intro h.many.1 h.many.2.1
  have hfit := h.fit
  have hwk := hfit.works
  go_enter Tryz.func61, Tryz.ntmps61
  go_wp2_with fail
  refine (work_ok h.f.head hd (by omega) hfit.left hfit.hi).mono ?_
  rintro e w1 ⟨rfl, hat, t1⟩
  have h1 : DkIs w1 b S (N + 1) s.worked own fv pv fs us := h.rehead t1 hat rfl rfl (hfit.worked hd)
  have k1 : Known S w own w1 := fun j hj => .inl (h.sub j hj)
  have T1 : Turn S w w1 := t1.mono (fun j _ e => e ▸ hm)
  have hlt := h.lt
  have H1 := hide h1
  have HS := hide (And.intro h.now (And.intro h.und hlt))
  clear h1 h hat t1 hlt
  go_wp2_with fail
  refine (bytesOf_any f (unhide H1).f (by omega)).mono ?_
  rintro e w2 ⟨v2, rfl, ho2, hvo2, huni, t2⟩
  have F2 := (unhide H1).f.same t2
  have P2 := (unhide H1).p.kept t2 (fun _ h => h.elim)
  have k2 : Known S w own w2 := k1.next T1.size t2.size (fun j hj => .inl hj)
  have T2 : Turn S w w2 := T1.trans (t2.mono (fun _ _ h => h.elim))
  have hnow := (unhide HS).1
  rw [hnow] at ho2
  have hbl : 0 < (s.now f).length := Nat.pos_of_ne_zero fun e => hn (List.eq_nil_of_length_eq_zero e)
  have q1 : (0 : Int) < (s.now f).length := by omega
  have hput := put_any f (.slice none 0 0) [] F2 (Owns.nil _) (fun h => absurd rfl h) (by omega)
  obtain ⟨vo2, vc2, hv2⟩ := ho2.shape
  have hbm := ho2.sees.len
  unfold maxLen at hbm
  subst hv2
  have Hput := hide hput
  have HF := hide (And.intro F2 (And.intro P2 (And.intro k2 (And.intro T2 (And.intro ho2 hvo2)))))
  clear F2 P2 k2 T2 hnow hput ho2 hvo2 huni t2 k1 T1
  go_wp2_with fail
  refine (unhide Hput).mono ?_
  rintro e w4 ⟨rfl, hpa⟩
  obtain ⟨F2, P2, k2, T2, ho2, hvo2⟩ := unhide HF
  have hlt := (unhide HS).2.2
  obtain ⟨own4, fv4, fs4, F4, hl4, P4, t4, d4, same4⟩ := hpa.pends P2 (k2.lt hlt T2.size)
  have k4 : Known S w own4 w4 := k2.next T2.size t4.size d4
  have T4 : Turn S w w4 := T2.trans' t4 (fun i hi e => k2.old i hi (by rcases e with e | e <;> rw [e] <;> simp))
  have ho4 := ho2.kept t4 (fun k hk e => by rw [hvo2 k hk] at e; rcases e with e | e <;> cases e)
  have hvo4 : ∀ g, (Value.slice vo2 (s.now f).length vc2).ownBlock = some g → own4 g = some (.file f) := fun g hg => by
    rw [same4 g (by rw [hvo2 g hg]; simp)]
    exact hvo2 g hg
  have hgone : ∀ e ∈ fs4, e.num ≠ f := by
    intro e he hef
    have h1 := look_mem F4.rise e he
    rw [hef, hl4] at h1
    have h2 : fput (look fs) f [] f = [] := if_pos rfl
    rw [h2] at h1
    exact (F4.file e he).2.1 h1.symm
  obtain ⟨own5, hown5⟩ : ∃ own5 : Nat → Option Tag, own5 = fun j => if (Value.slice vo2 (s.now f).length vc2).ownBlock = some j then some (.took us.length) else own4 j := ⟨_, rfl⟩
  have ev : ∀ j, own5 j = if (Value.slice vo2 (s.now f).length vc2).ownBlock = some j then some (.took us.length) else own4 j := fun j => by rw [hown5]
  have F5 : FAt w4 b own5 fv4 pv s.worked.works s.worked.fused s.worked.left s.worked.dead fs4 := by
    refine ⟨F4.head, ?_, F4.row, fun g hg => ?_, F4.rise, fun e he => ⟨(F4.file e he).1, (F4.file e he).2.1, fun g hg => ?_⟩⟩
    · rw [ev, if_neg (fun e => by have := hvo4 b e; rw [F4.hb] at this; cases this)]
      exact F4.hb
    · rw [ev, if_neg (fun e => by have := hvo4 g e; rw [F4.fown g hg] at this; cases this)]
      exact F4.fown g hg
    · have h3 := (F4.file e he).2.2 g hg
      rw [ev, if_neg (fun e' => by
        have := hvo4 g e'
        rw [h3] at this
        injection this with this
        injection this with this
        exact hgone e he this)]
      exact h3
  have P5 : PAt w4 own5 pv us us.length := P4.retag (fun j hj => by
    rw [ev, if_neg (fun e' => by
      have := hvo4 j e'
      rcases hj with hj | ⟨i, _, hj⟩ <;> rw [hj] at this <;> cases this)])
  have k5 : Known S w own5 w4 := fun j hj => by
    rw [ev] at hj
    split at hj
    · exact k4 j (by rw [hvo4 j (by assumption)]; simp)
    · exact k4 j hj
  have c1 : w4.cell? ⟨b, 1, none⟩ = some pv := F4.head.cell 1
  have ta : Turn (fun _ => False) w4 (w4.alloc (.cells #[.int .i64 f, .int .i64 0, .slice vo2 (s.now f).length vc2] 94)) := (Turn.refl _ _).alloc _
  have hA : At 94 (w4.alloc (.cells #[.int .i64 f, .int .i64 0, .slice vo2 (s.now f).length vc2] 94)) w4.heap.size #[.int .i64 f, .int .i64 0, .slice vo2 (s.now f).length vc2] := At.new _ _ _
  obtain ⟨v5, w5, hr5, ho5, hg5, hk5⟩ := pend_append _ pv us.length w4.heap.size (pcells us) _ _ _ (row_kept P5.row ta (fun _ _ h => h)) hA rfl rfl rfl (by omega)
  obtain ⟨own6, F6, P6, t6, d6⟩ := pushed (w2 := w5) (v' := v5) ⟨f, 0, .slice vo2 (s.now f).length vc2, s.now f⟩ F5 P5 (k5.lt hlt T4.size) ta hg5 hk5 ho5 ho4 (fun g hg => by rw [ev, if_pos hg])
  have k6 : Known S w own6 (w5.setCell ⟨b, 1, none⟩ v5) := k5.next T4.size t6.size (fun j hj => by
    rcases d6 j with h | ⟨_, h⟩
    · left; rwa [h] at hj
    · exact .inr h)
  have T6 : Turn S w (w5.setCell ⟨b, 1, none⟩ v5) := T4.trans' t6 (fun i hi e => k5.old i hi (by rcases e with e | e <;> rw [e] <;> simp))
  have hfin : DkTo w b S (N + 1) (s.worked.push (.rem f)) (w5.setCell ⟨b, 1, none⟩ v5) := by
    refine ⟨⟨own6, fv4, v5, fs4, _, F6, P6, ?_, ?_, k6, fun j hj => hj.elim (fun h => Nat.lt_of_lt_of_le (hlt j h) T6.size) (fun h => h.2), hfit.push hd _ (fun k bs' e => by cases e)⟩, T6⟩
    · rw [hl4, acts_push, act, (unhide HS).1]
    · have hu := (unhide HS).2.1
      rw [List.map_append, hu]
      show unds s.base s.ops ++ [_] = unds s.base (s.ops ++ [_])
      rw [unds_snoc]
      rfl
  obtain ⟨po, pc, hpv⟩ := P4.shape
  obtain ⟨vo5, vc5, hv5⟩ : ∃ ao c, v5 = .slice ao (us.length + 1) c := by
    rcases row_shape ho5 with ⟨rfl, h0⟩ | ⟨g, cap, rfl, _⟩
    · omega
    · exact ⟨_, _, rfl⟩
  have tb : Turn (fun j => pv.ownBlock = some j) (w4.alloc (.cells #[.int .i64 f, .int .i64 0, .slice vo2 (s.now f).length vc2] 94)) w5 := (Turn.refl _ _).grown hg5 (fun k hk => .inl hk)
  have hd5 := (F4.head.kept ta (fun h => h)).kept tb (fun e => by have := P4.pown b e; rw [F4.hb] at this; cases this)
  have c5 : w5.cell? ⟨b, 1, none⟩ = some pv := hd5.cell 1
  have f5 : w5.frozen? ⟨b, 1, none⟩ = false := hd5.frozen 1
  have Hfin := hide hfin
  have Hr5 := hide hr5
  clear hfin hr5 F6 P6 t6 d6 k6 T6 ho5 hg5 hk5 F4 P4 t4 d4 k4 T4 F2 P2 k2 T2 hpa hl4 hA ta tb hd5 hlt F5 P5 k5 ev hown5 hgone hvo4 ho4 same4 ho2 hvo2
  subst hpv hv5
  go_wp2_with (at_builtin; refine wpList_append_run rfl (.tmp 31) (.tmp 35) 81 rfl _ _ _ w5 rfl rfl (unhide Hr5) ?_)
  go_ret
  exact ⟨rfl, unhide Hfin⟩

theorem remove_any (f : Int) (h : Dk w b S N s) (hN : N ≤ 1073741823) :
    Calls Tryz.prog 61 #[.pointer (some ⟨b, 0, none⟩), .int .i64 f] w fun e w' => e = .returned (.int .i64 (s.rem f).1) ∧ DkTo w b S (N + 1) (s.rem f).2 w' := by
  have up : ∀ {s' : DSt} {w' : World}, DkTo w b S N s' w' → DkTo w b S (N + 1) s' w' := fun h => ⟨h.1.mono (fun _ h => h) h.1.lt (by omega), h.2⟩
  unfold DSt.rem
  by_cases hf : f < 0
  · rw [if_pos hf]
    exact (remove_arg f w hf).mono (fun e w' h' => ⟨h'.1, h'.2 ▸ up (DkTo.refl h)⟩)
  · rw [if_neg hf]
    by_cases hd : s.down = true
    · rw [if_pos hd]
      exact (remove_down f h (by omega) hd).mono (fun e w' h' => ⟨h'.1, up h'.2⟩)
    · rw [if_neg hd]
      have hd' : s.down = false := by simpa using hd
      unfold DSt.rems
      by_cases hb : s.now f = []
      · rw [if_pos hb]
        exact remove_none f h (by omega) hd' hb (by omega)
      · rw [if_neg hb]
        exact remove_some f h (by omega) hd' hb hN

theorem append_any (f : Int) (v : Value) (bs : List UInt8) (h : Dk w b S N s) (hs : Sees w v bs) (hsl : 0 < bs.length → ∀ k, slab v = some k → ¬ S k) (hN : N ≤ 1073741823) (hsz : (s.now f).length + bs.length ≤ 140737488355328) :
    Calls Tryz.prog 14 #[.pointer (some ⟨b, 0, none⟩), .int .i64 f, v] w fun e w' => e = .returned (.int .i64 (s.add f bs).1) ∧ DkTo w b S (N + 1) (s.add f bs).2 w' := by
  have up : ∀ {s' : DSt} {w' : World}, DkTo w b S N s' w' → DkTo w b S (N + 1) s' w' := fun h => ⟨h.1.mono (fun _ h => h) h.1.lt (by omega), h.2⟩
  unfold DSt.add
  by_cases hf : f < 0
  · rw [if_pos hf]
    exact (append_arg f v bs w hf hs).mono (fun e w' h' => ⟨h'.1, h'.2 ▸ up (DkTo.refl h)⟩)
  · rw [if_neg hf]
    by_cases hd : s.down = true
    · rw [if_pos hd]
      exact (append_down f v bs h hs (by omega) hd).mono (fun e w' h' => ⟨h'.1, up h'.2⟩)
    · rw [if_neg hd]
      have hd' : s.down = false := by simpa using hd
      unfold DSt.lays
      by_cases hb : bs = []
      · subst hb
        rw [if_pos rfl]
        exact append_none f v h hs (by omega) hd' (by omega)
      · rw [if_neg hb]
        exact append_some f v bs h hs (hsl (Nat.pos_of_ne_zero fun e => hb (List.eq_nil_of_length_eq_zero e))) hb (by omega) hd' hN hsz

end

end Go.Proofs.YtnipdgigjcaolaaGreat

/- The method Crash. -/
namespace Go.Proofs.YtnipdgigjcaolaaGreat
open Go.RowKit

section
variable {w : World} {b : Nat} {own : Nat → Option Tag} {fv pv : Value} {wk : Nat} {fu : Bool} {lf : Int} {de : Bool} {fs : List Ent} {us : List U}

/-- What an undo leaves: the files, and one that pends less. -/
def Undid (w : World) (b : Nat) (own : Nat → Option Tag) (pv : Value) (wk : Nat) (fu : Bool) (lf : Int) (de : Bool) (us : List U) (m : Nat) (s' : Fs) (w' : World) : Prop :=
  ∃ own' fv' fs', FAt w' b own' fv' pv wk fu lf de fs' ∧ PAt w' own' pv us m ∧ look fs' = s' ∧ Turn (fun j => own j ≠ none) w w' ∧ ∀ j, own' j ≠ none → own j ≠ none ∨ (w.heap.size ≤ j ∧ j < w'.heap.size)

theorem undo_any (u : U) (o : DOp) (s : Fs) (m c : Nat) (h : FAt w b own fv pv wk fu lf de fs) (hp : PAt w own pv us (m + 1)) (hu : us[m]? = some u) (hsub : ∀ j, own j ≠ none → j < w.heap.size) (hl : look fs = act s o) (hund : u.und = undOf s o) (hc : c ≤ u.laid) (hb : ∀ k bs, o = .lay k bs → bs ≠ []) (hlen : fs.length ≤ 1073741824) :
    Calls Tryz.prog 95 #[.pointer (some ⟨b, 0, none⟩), .agg #[.int .i64 u.file, .int .i64 u.laid, u.v], .int .i64 c] w fun e w' => e = .returned (.tuple #[]) ∧ Undid w b own pv wk fu lf de us m (partOf s c o) w' := by
  obtain ⟨hu1, hu2⟩ := hp.each m u (by omega) hu
  cases o with
  | lay k bs =>
    have hbs := hb k bs rfl
    have e1 : u.file = k := congrArg Und.file hund
    have e2 : u.laid = bs.length := congrArg Und.laid hund
    have hbl : 0 < bs.length := Nat.pos_of_ne_zero fun e => hbs (List.eq_nil_of_length_eq_zero e)
    have hlk : look fs k = s k ++ bs := by rw [hl]; exact if_pos rfl
    refine (undo_laid u.file u.laid u.v u.took c h hu1 (by omega) (by rw [e1, hlk, List.length_append]; omega) hc hlen).mono ?_
    rintro e w' ⟨rfl, hpa⟩
    obtain ⟨own', fv', fs', F, L, P, t, d, _⟩ := hpa.pends (hp.less (Nat.le_succ m)) hsub
    refine ⟨rfl, own', fv', fs', F, P, ?_, t.mono (fun j _ e => by rcases e with e | e <;> rw [e] <;> simp), d⟩
    rw [L, hl, ← undo_lay s k bs c hbs, undoF_undone]
    unfold undone
    have hl0 : (undOf s (DOp.lay k bs)).laid ≠ 0 := by show bs.length ≠ 0; omega
    rw [if_neg hl0]
    show fput _ u.file _ = fput _ k _
    rw [e1, e2]
    rfl
  | rem k =>
    have e1 : u.file = k := congrArg Und.file hund
    have e2 : u.laid = 0 := congrArg Und.laid hund
    have e3 : u.took = s k := congrArg Und.took hund
    obtain ⟨own5, hown5⟩ : ∃ own5 : Nat → Option Tag, own5 = fun j => if u.v.ownBlock = some j then some (.file u.file) else own j := ⟨_, rfl⟩
    have ev : ∀ j, own5 j = if u.v.ownBlock = some j then some (.file u.file) else own j := fun j => by rw [hown5]
    have same : ∀ j, own j ≠ some (.took m) → own5 j = own j := fun j hj => by
      rw [ev, if_neg (fun e => hj (hu2 j e))]
    have F5 := h.retag (own' := own5) (fun j hj => same j (by rcases hj with hj | hj | ⟨f, hj⟩ <;> rw [hj] <;> simp))
    have P5 := (hp.less (Nat.le_succ m)).retag (own' := own5) (fun j hj => same j (by
      rcases hj with hj | ⟨i, hi, hj⟩
      · rw [hj]; simp
      · rw [hj]
        intro e
        injection e with e
        injection e with e
        omega))
    have none5 : ∀ j, own5 j ≠ none → own j ≠ none := fun j hj => by
      rw [ev] at hj
      split at hj
      · rw [hu2 j (by assumption)]; simp
      · exact hj
    rw [e2]
    refine (undo_took u.file u.v u.took c F5 hu1 (fun g hg => by rw [ev, if_pos hg]) hlen).mono ?_
    rintro e w' ⟨rfl, hpa⟩
    obtain ⟨own', fv', fs', F, L, P, t, d, _⟩ := hpa.pends P5 (fun j hj => hsub j (none5 j hj))
    refine ⟨rfl, own', fv', fs', F, P, ?_, t.mono (fun j _ e => none5 j (by rcases e with e | e <;> rw [e] <;> simp)), fun j hj => (d j hj).imp (none5 j) id⟩
    rw [L, hl, ← undo_rem s k c, undoF_undone]
    show fput _ u.file _ = fput _ k _
    rw [e1, e3]
    rfl

end

/-- How far the files have come back, with m that still pend. -/
def gone (s : Fs) (l : List DOp) (n : Nat) (cut : Int) (m : Nat) : Fs := if m = n then crashed s l n cut else acts s (l.take m)

theorem gone_start (s : Fs) (l : List DOp) (n : Nat) (cut : Int) (hn : n ≤ l.length) : gone s l n cut l.length = acts s l := by
  unfold gone
  split
  · subst_vars
    unfold crashed
    rw [List.getElem?_eq_none (Nat.le_refl _), List.take_length]
  · rw [List.take_length]

theorem gone_step (s : Fs) (l : List DOp) (n : Nat) (cut : Int) (m : Nat) (o : DOp) (ho : l[m]? = some o) (hm : n ≤ m) (c : Nat) (hc : c = if m = n then (cut % (((undOf (acts s (l.take m)) o).laid : Int) + 1)).toNat else 0) : gone s l n cut m = partOf (acts s (l.take m)) c o := by
  unfold gone
  split
  · subst_vars
    rw [if_pos rfl]
    unfold crashed
    rw [ho]
    cases o with
    | lay k bs => rfl
    | rem k => rfl
  · rw [if_neg (by assumption)] at hc
    rw [hc, partOf_none]

theorem gone_up (s : Fs) (l : List DOp) (n : Nat) (cut : Int) (m : Nat) (o : DOp) (ho : l[m]? = some o) (hm : n ≤ m) : gone s l n cut (m + 1) = act (acts s (l.take m)) o := by
  unfold gone
  rw [if_neg (by omega), acts_take_succ s l m o ho]

theorem gone_keys {s : Fs} {l : List DOp} {n : Nat} {cut : Int} {m : Nat} {L : List Int} (h : ∀ k, s k ≠ [] → k ∈ L) (hl : ∀ o ∈ l, o.key ∈ L) : ∀ k, gone s l n cut m k ≠ [] → k ∈ L := by
  unfold gone
  by_cases e : m = n
  · rw [if_pos e]; exact DSt.crashed_keys h hl
  · rw [if_neg e]; exact DSt.acts_keys (l.take m) h (fun o ho => hl o (List.mem_of_mem_take ho))

section
variable {w : World} {b : Nat} {S : Nat → Prop} {N : Nat} {s : DSt}

/-- Where a Crash is, with m that still pend. -/
structure Amid (w : World) (b : Nat) (S : Nat → Prop) (s : DSt) (pv : Value) (us : List U) (n : Nat) (cut : Int) (m : Nat) (own : Nat → Option Tag) (fv : Value) (fs : List Ent) (wr : World) : Prop where
  f : FAt wr b own fv pv s.works s.fused s.left s.dead fs
  p : PAt wr own pv us m
  look : look fs = gone s.base s.ops n cut m
  known : Known S w own wr
  turn : Turn S w wr

theorem Amid.undo {pv : Value} {us : List U} {n m c : Nat} {cut : Int} {own : Nat → Option Tag} {fv : Value} {fs : List Ent} {wr wa : World} {u : U} {o : DOp} (h : Amid w b S s pv us n cut (m + 1) own fv fs wr) (hlt : ∀ j, S j → j < w.heap.size) (ta : Turn (fun _ => False) wr wa) (hu : us[m]? = some u) (ho : s.ops[m]? = some o) (hm : n ≤ m)
    (hund : u.und = undOf (acts s.base (s.ops.take m)) o) (hlay : ∀ k bs, o = .lay k bs → bs ≠ []) (hlen : fs.length ≤ 1073741824) (hc : c = if m = n then (cut % ((u.laid : Int) + 1)).toNat else 0) :
    Calls Tryz.prog 95 #[.pointer (some ⟨b, 0, none⟩), .agg #[.int .i64 u.file, .int .i64 u.laid, u.v], .int .i64 c] wa fun e w' => e = .returned (.tuple #[]) ∧ ∃ own' fv' fs', Amid w b S s pv us n cut m own' fv' fs' w' := by
  have T : Turn S w wa := h.turn.trans (ta.mono (fun _ _ h => h.elim))
  have K : Known S w own wa := h.known.next h.turn.size ta.size (fun j hj => .inl hj)
  have e2 : u.laid = (undOf (acts s.base (s.ops.take m)) o).laid := congrArg Und.laid hund
  have hcl : c ≤ u.laid := by
    rw [hc]
    split
    · have h1 := Int.emod_nonneg cut (show (u.laid : Int) + 1 ≠ 0 by omega)
      have h2 := Int.emod_lt_of_pos cut (show 0 < (u.laid : Int) + 1 by omega)
      omega
    · omega
  refine (undo_any u o (acts s.base (s.ops.take m)) m c (h.f.same ta) (h.p.kept ta (fun _ h => h.elim)) hu (K.lt hlt T.size) (by rw [h.look]; exact gone_up _ _ _ _ _ _ ho hm) hund hcl hlay hlen).mono ?_
  rintro e w' ⟨rfl, own', fv', fs', F, P, L, t, d⟩
  refine ⟨rfl, own', fv', fs', F, P, ?_, K.next T.size t.size d, T.trans' t (fun i hi e => K.old i hi e)⟩
  rw [L]
  exact (gone_step _ _ _ _ _ _ ho hm c (by rw [← e2]; exact hc)).symm

set_option maxHeartbeats 4000000 in
set_option maxRecDepth 100000 in
theorem crash_any (done cut : Int) (h : Dk w b S N s) (hN : N ≤ 1073741823) (hbig : ∀ k bs, DOp.lay k bs ∈ s.ops → bs.length ≤ 140737488355328) :
    Calls Tryz.prog 39 #[.pointer (some ⟨b, 0, none⟩), .int .i64 done, .int .i64 cut] w fun e w' => e = .returned (.tuple #[]) ∧ DkTo w b S N (s.crash done cut) w' := by
  obtain ⟨own, fv, pv, fs, us, h⟩ := h
  have hmany := h.many
  have hfit := h.fit
  obtain ⟨L, hL1, hL2, hL3⟩ := hfit.keys
  obtain ⟨n, hn⟩ : ∃ n : Nat, (n : Int) = done % ((s.ops.length : Int) + 1) := ⟨(done % ((s.ops.length : Int) + 1)).toNat, by have := Int.emod_nonneg done (show (s.ops.length : Int) + 1 ≠ 0 by omega); omega⟩
  have hnl : n ≤ s.ops.length := by have := Int.emod_lt_of_pos done (show 0 < (s.ops.length : Int) + 1 by omega); omega
  have hcr : s.crash done cut = ⟨crashed s.base s.ops n cut, [], s.works, false, -1, false⟩ := by
    unfold DSt.crash
    rw [← hn, Int.toNat_natCast]
  rw [hcr]
  have c1 : w.cell? ⟨b, 1, none⟩ = some pv := h.f.head.cell 1
  obtain ⟨po, pc, hpv⟩ := h.p.shape
  have hstart : Amid w b S s pv us n cut us.length own fv fs w := ⟨h.f, h.p, by rw [hmany.2.2, gone_start _ _ _ _ hnl, h.now]; rfl, fun j hj => .inl (h.sub j hj), Turn.refl _ _⟩
  have hund := h.und
  have hlt := h.lt
  have hSb : S b := h.sub b (by rw [h.f.hb]; simp)
  have hlen : us.length = s.ops.length := hmany.2.2
  have hmn : us.length ≤ N := hmany.2.1
  have q0 : (0 : Int) < (us.length : Int) + 1 := by omega
  have hn' : (n : Int) = done % ((us.length : Int) + 1) := by rw [hlen]; exact hn
  have Hn := hide hn'
  have HS := hide (And.intro hstart (And.intro hund (And.intro hlt (And.intro hlen hL2))))
  subst hpv
  clear hn hn' hstart hund hlt hmany h hcr hlen hL2
  go_enter Tryz.func39, Tryz.ntmps39
  go_wp2_with fail
  refine (remainder_any done ((us.length : Int) + 1) _ q0 (by omega)).mono ?_
  rintro e w0 ⟨rfl, rfl⟩
  rw [← unhide Hn]
  go_wp2_with fail
  go_loopw [7, 8, 9] (fun at' _ _ wr => ∃ (m : Nat) (own : Nat → Option Tag) (fv : Value) (fs : List Ent), n ≤ m ∧ m ≤ us.length ∧ at' = .int .i64 ((m : Int) - 1) ∧ Amid w b S s (.slice po us.length pc) us n cut m own fv fs wr) (fun at' _ _ _ => (intOf at' + 1).toNat)
  case atStart => exact ⟨us.length, own, fv, fs, by have := (unhide HS).2.2.2.1; omega, Nat.le_refl _, rfl, (unhide HS).1⟩
  case round =>
    obtain ⟨m, own1, fv1, fs1, hm1, hm2, rfl, ham⟩ := hrel
    have hlen := (unhide HS).2.2.2.1
    by_cases hgt : n < m
    · obtain ⟨m, rfl⟩ : ∃ k, m = k + 1 := ⟨m - 1, by omega⟩
      rw [show ((m + 1 : Nat) : Int) - 1 = (m : Int) by omega]
      obtain ⟨u, hu⟩ : ∃ u, us[m]? = some u := ⟨_, List.getElem?_eq_getElem (by omega)⟩
      obtain ⟨o, ho⟩ : ∃ o, s.ops[m]? = some o := ⟨_, List.getElem?_eq_getElem (by omega)⟩
      have hund : u.und = undOf (acts s.base (s.ops.take m)) o := by
        have h1 := congrArg (fun l => l[m]?) (unhide HS).2.1
        simp only [List.getElem?_map, hu, Option.map_some, unds_at s.base s.ops m o ho, Option.some.injEq] at h1
        exact h1
      have hlay : ∀ k bs, o = .lay k bs → bs ≠ [] := fun k bs e => hfit.lay k bs (by rw [← e]; exact List.mem_of_getElem? ho)
      have hul : u.laid ≤ 140737488355328 := by
        have e2 : u.laid = (undOf (acts s.base (s.ops.take m)) o).laid := congrArg Und.laid hund
        rw [e2]
        cases o with
        | lay k bs => exact hbig k bs (List.mem_of_getElem? ho)
        | rem k => exact Nat.zero_le _
      obtain ⟨g, cap, cur, hpo⟩ : ∃ (g cap : Nat) (cur : Array Value), po = some ⟨g, 0, none⟩ := by
        rcases row_shape ham.p.row with ⟨_, h0⟩ | ⟨g, cap, e, _⟩
        · omega
        · injection e with e1
          exact ⟨g, 0, #[], e1⟩
      subst hpo
      obtain ⟨pc0, pc1, pc2⟩ := pcells_at us m u hu
      have r0 : wr.cell? ⟨g, m * 3, none⟩ = some (.int .i64 u.file) := by rw [ham.p.row.cellAt (m * 3) (by omega), pc0]
      have r1 : wr.cell? ⟨g, m * 3 + 1, none⟩ = some (.int .i64 u.laid) := by rw [ham.p.row.cellAt (m * 3 + 1) (by omega), pc1]
      obtain ⟨uo, uc, huv⟩ := (ham.p.each m u (by omega) hu).1.shape
      have r2 : wr.cell? ⟨g, m * 3 + 2, none⟩ = some (.slice uo u.took.length uc) := by rw [ham.p.row.cellAt (m * 3 + 2) (by omega), pc2, huv]
      have d1 : wr.cell? ⟨b, 1, none⟩ = some (.slice (some ⟨g, 0, none⟩) us.length pc) := ham.f.head.cell 1
      have hfl : fs1.length ≤ N := ham.f.le (L := L) (by rw [ham.look]; exact gone_keys (unhide HS).2.2.2.2 hL3) hL1
      have hund' := hide hund
      have Hlen := hide hlen
      have Hu := hide hu
      have Ho := hide ho
      have Ham := hide ham
      have Huv := hide huv
      have Hlay := hide hlay
      clear hund hlen hu ho ham huv hlay pc0 pc1 pc2 hL1 hL3
      have p1 : (m : Int) < us.length := by omega
      have hcall := fun (wa : World) (ta : Turn (fun _ => False) wr wa) (c : Nat) (hc : c = if m = n then (cut % ((u.laid : Int) + 1)).toNat else 0) => (unhide Ham).undo (c := c) (unhide HS).2.2.1 ta (unhide Hu) (unhide Ho) (by omega) (unhide hund') (unhide Hlay) (by omega) hc
      rw [unhide Huv] at hcall
      have Hcall := hide hcall
      clear hcall
      have ta : ∀ o : Obj, Turn (fun _ => False) wr (wr.alloc o) := fun o => (Turn.refl _ _).alloc _
      have Hta := hide ta
      clear ta
      by_cases hmn' : m = n
      · subst hmn'
        obtain ⟨c, hc⟩ : ∃ c : Nat, (c : Int) = cut % ((u.laid : Int) + 1) := ⟨(cut % ((u.laid : Int) + 1)).toNat, by have := Int.emod_nonneg cut (show (u.laid : Int) + 1 ≠ 0 by omega); omega⟩
        have Hc := hide hc
        clear hc
        go_wp2_with fail
        refine (remainder_any cut ((u.laid : Int) + 1) _ (by omega) (by omega)).mono ?_
        rintro e w0 ⟨rfl, rfl⟩
        rw [← unhide Hc]
        go_wp2_with fail
        refine (unhide Hcall _ (unhide Hta _) c (by have e := unhide Hc; simp [← e])).mono ?_
        rintro e w2 ⟨rfl, own2, fv2, fs2, h2⟩
        have H2 := hide h2
        clear h2
        go_wp2
        go_roundw
        case rel => exact ⟨m, own2, fv2, fs2, by omega, by omega, rfl, unhide H2⟩
        case measure => simp [intOf]
      · have p2 : ¬ (m : Int) = n := by omega
        have p3 : (n : Int) ≤ m := by omega
        have p4 : ((m : Int) == (n : Int)) = false := by simpa using p2
        go_wp2_with fail
        refine (unhide Hcall _ (unhide Hta _) 0 (by simp [hmn'])).mono ?_
        rintro e w2 ⟨rfl, own2, fv2, fs2, h2⟩
        have H2 := hide h2
        clear h2
        go_wp2
        go_roundw
        case rel => exact ⟨m, own2, fv2, fs2, by omega, by omega, rfl, unhide H2⟩
        case measure => simp [intOf]
    · obtain rfl : m = n := by omega
      have p1 : ¬ (m : Int) ≤ (m : Int) - 1 := by omega
      have d1 : wr.cell? ⟨b, 1, none⟩ = some (.slice po us.length pc) := ham.f.head.cell 1
      have f1 : wr.frozen? ⟨b, 1, none⟩ = false := ham.f.head.frozen 1
      have hs1 := ham.f.head.set 1 (.slice none 0 0)
      have d5 : (wr.setCell ⟨b, 1, none⟩ (.slice none 0 0)).cell? ⟨b, 5, none⟩ = some (.bool s.dead) := hs1.cell 5
      have f5 : (wr.setCell ⟨b, 1, none⟩ (.slice none 0 0)).frozen? ⟨b, 5, none⟩ = false := hs1.frozen 5
      have hs5 : At 83 ((wr.setCell ⟨b, 1, none⟩ (.slice none 0 0)).setCell ⟨b, 5, none⟩ (.bool false)) b (dcells fv1 (.slice none 0 0) s.works s.fused s.left false) := hs1.set 5 (.bool false)
      have ts : Turn (fun j => j = b) wr ((wr.setCell ⟨b, 1, none⟩ (.slice none 0 0)).setCell ⟨b, 5, none⟩ (.bool false)) := (Turn.at b 1 _ wr).trans (Turn.at b 5 _ _)
      have Ham := hide ham
      have Hs5 := hide hs5
      have Hts := hide ts
      have Hlen := hide hlen
      clear hlen ham hs1 hs5 ts
      go_wp2_with fail
      refine (fuse_at (-1) (unhide Hs5)).mono ?_
      rintro e w2 ⟨rfl, hat, t2⟩
      have ham := unhide Ham
      have ts := (unhide Hts).trans t2
      have hlt := (unhide HS).2.2.1
      have T : Turn S w w2 := ham.turn.trans (ts.mono (fun j _ e => e ▸ hSb))
      have hfin : DkTo w b S N ⟨crashed s.base s.ops m cut, [], s.works, false, -1, false⟩ w2 := by
        refine ⟨⟨own1, fv1, .slice none 0 0, fs1, [], ham.f.rehead ts hat, PAt.none _ _, ?_, rfl, ham.known.next ham.turn.size ts.size (fun j hj => .inl hj), fun j hj => hj.elim (fun h => Nat.lt_of_lt_of_le (hlt j h) T.size) (fun h => h.2), ?_⟩, T⟩
        · rw [ham.look]
          unfold gone
          rw [if_pos rfl]
          rfl
        · have := hfit.crash m cut
          unfold DSt.crash at this
          rw [Int.emod_eq_of_lt (by omega) (by omega), Int.toNat_natCast] at this
          exact this
      have Hfin := hide hfin
      clear ham hfin hat t2 ts T hlt
      go_wp2
      go_end0
      exact ⟨rfl, unhide Hfin⟩

end

end Go.Proofs.YtnipdgigjcaolaaGreat
