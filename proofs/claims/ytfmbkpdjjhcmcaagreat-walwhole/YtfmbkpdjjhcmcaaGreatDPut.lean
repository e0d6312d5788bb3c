/- A Disk's files in memory, and what bytesOf and put do to them. -/
import Derived.Test.YtfmbkpdjjhcmcaaGreatPkA
namespace Go.Proofs.YtfmbkpdjjhcmcaaGreat
open Go.RowKit

/-- What a block of a Disk's is for. -/
inductive Tag where
  | disk
  | files
  | pends
  | file (k : Int)
  | took (i : Nat)

/-- A Disk in block b: its files; own tells what each block is for. -/
structure FAt (w : World) (b : Nat) (own : Nat → Option Tag) (fv pv : Value) (wk : Nat) (fu : Bool) (lf : Int) (de : Bool) (fs : List Ent) : Prop where
  head : At 70 w b (dcells fv pv wk fu lf de)
  hb : own b = some .disk
  row : w.ownsRow 0 101 2 fv fs.length (ecells fs)
  fown : ∀ g, fv.ownBlock = some g → own g = some .files
  rise : Rise fs
  file : ∀ e ∈ fs, Owns w e.v e.bs ∧ e.bs ≠ [] ∧ ∀ g, e.v.ownBlock = some g → own g = some (.file e.num)

section
variable {w : World} {b : Nat} {own : Nat → Option Tag} {fv pv : Value} {wk : Nat} {fu : Bool} {lf : Int} {de : Bool} {fs : List Ent}

theorem FAt.files (h : FAt w b own fv pv wk fu lf de fs) : Files w fv fs :=
  ⟨h.row, h.rise, fun e he => by obtain ⟨ao, c, hv⟩ := (h.file e he).1.shape; exact ⟨_, _, _, hv⟩⟩

theorem FAt.kept {S : Nat → Prop} {w' : World} (h : FAt w b own fv pv wk fu lf de fs) (ht : Turn S w w') (hs : ∀ k, S k → own k ≠ some .disk ∧ own k ≠ some .files ∧ ∀ f, own k ≠ some (.file f)) : FAt w' b own fv pv wk fu lf de fs :=
  ⟨h.head.kept ht (fun hS => (hs b hS).1 h.hb), h.hb, row_kept h.row ht (fun k hk hS => (hs k hS).2.1 (h.fown k hk)), h.fown, h.rise,
    fun e he => ⟨(h.file e he).1.kept ht (fun k hk hS => (hs k hS).2.2 _ ((h.file e he).2.2 k hk)), (h.file e he).2⟩⟩

theorem FAt.same {w' : World} (h : FAt w b own fv pv wk fu lf de fs) (ht : Turn (fun _ => False) w w') : FAt w' b own fv pv wk fu lf de fs := h.kept ht (fun _ h => h.elim)

theorem FAt.shape (h : FAt w b own fv pv wk fu lf de fs) : ∃ ao c, fv = .slice ao fs.length c := by
  rcases row_shape h.row with ⟨rfl, h0⟩ | ⟨g, cap, rfl, _⟩
  · exact ⟨none, 0, by rw [h0]⟩
  · exact ⟨_, _, rfl⟩

theorem FAt.one (h : FAt w b own fv pv wk fu lf de fs) : ∀ u ∈ ecells fs, u.oneCell' = true :=
  ecells_one (fun e he => by obtain ⟨ao, c, hv⟩ := (h.file e he).1.shape; rw [hv]; rfl)

theorem _root_.Go.Proofs.YtfmbkpdjjhcmcaaGreat.Place.only_not {fs : List Ent} {k : Int} {at' : Nat} (h : Place fs k at' false) : ∀ e ∈ fs, e.num ≠ k := by
  have h1 := h.pre
  have h2 := h.post
  intro e he
  rw [← List.take_append_drop at' fs] at he
  rcases List.mem_append.1 he with h' | h'
  · have := h1 e h'; omega
  · have := h2 e h'; omega

theorem _root_.Go.Proofs.YtfmbkpdjjhcmcaaGreat.Place.only_there {fs : List Ent} {k : Int} {at' : Nat} {x : Ent} (h : Place fs k at' true) (hx : fs[at']? = some x) : ∀ e ∈ fs, e.num = k → e = x := by
  have h1 := h.pre
  have h2 := h.post
  intro e he hk
  rw [ents_split hx] at he
  rcases List.mem_append.1 he with h' | h'
  · have := h1 e h'; omega
  · rcases List.mem_cons.1 h' with h' | h'
    · exact h'
    · have := h2 e h'; omega

/-- What bytesOf tells. -/
def ToldB (w : World) (own : Nat → Option Tag) (fs : List Ent) (k : Int) (e : Ending) (w' : World) : Prop :=
  ∃ v, e = .returned v ∧ Owns w' v (look fs k) ∧ (∀ g, v.ownBlock = some g → own g = some (.file k)) ∧ (∀ e ∈ fs, e.num = k → e.v = v) ∧ Turn (fun _ => False) w w'

set_option maxHeartbeats 1000000 in
set_option maxRecDepth 100000 in
theorem bytesOf_any (k : Int) (h : FAt w b own fv pv wk fu lf de fs) (hlen : fs.length ≤ 1099511627776) :
    Calls Tryz.prog 47 #[.pointer (some ⟨b, 0, none⟩), .int .i64 k] w (ToldB w own fs k) := by
  have hnot : ∀ (x : Bool) (w : World), (Op.unary .not (.bool x)).run Tryz.prog w = .ok (.bool (!x)) w := fun _ _ => rfl
  go_enter Tryz.func47, Tryz.ntmps47
  go_wp2_with fail
  refine (find_any b fv pv wk fu lf de fs k _ h.head h.files hlen).mono ?_
  rintro e w1 ⟨at', there, rfl, hp, t1⟩
  have h1 := h.same t1
  cases there with
  | false =>
    go_wp2
    go_ret
    exact ⟨_, rfl, by rw [hp.look_not]; exact Owns.nil _, fun g hg => by simp [Value.ownBlock] at hg, fun e he hk => absurd hk (hp.only_not e he), t1⟩
  | true =>
    obtain ⟨x, hx, hxk⟩ := hp.is rfl
    obtain ⟨hlt, _⟩ := List.getElem?_eq_some_iff.1 hx
    rcases row_shape h1.row with ⟨rfl, h0⟩ | ⟨g, cap, rfl, hnc, hcm, _⟩
    · omega
    · obtain ⟨ao, n, c, hv, c0, c1⟩ := h1.files.cells at' x hx
      have c2 : w1.cell? ⟨b, 0, none⟩ = some (.slice (some ⟨g, 0, none⟩) fs.length cap) := h1.head.cell 0
      have q1 : (at' : Int) < fs.length := by omega
      have Hf := hide (h1.file x (List.mem_of_getElem? hx))
      have Hp := hide (hp.look_there hx)
      have Ho := hide (hp.only_there hx)
      clear h1 hx c0
      unfold maxLen at hcm
      go_wp2
      go_ret
      refine ⟨_, rfl, ?_, ?_, ?_, t1⟩
      · rw [unhide Hp, ← hv]; exact (unhide Hf).1
      · rw [← hv, ← hxk]; exact (unhide Hf).2.2
      · intro e he hk
        rw [unhide Ho e he hk, hv]
        rfl

/-- Where the files come to behind a put. -/
def PutAt (w : World) (b : Nat) (own : Nat → Option Tag) (pv : Value) (wk : Nat) (fu : Bool) (lf : Int) (de : Bool) (fs : List Ent) (k : Int) (bs : List UInt8) (w' : World) : Prop :=
  ∃ own' fv' fs', FAt w' b own' fv' pv wk fu lf de fs' ∧ look fs' = fput (look fs) k bs ∧ fs'.length ≤ fs.length + 1 ∧ Turn (fun j => own j = some .disk ∨ own j = some .files) w w' ∧ ∀ j, own' j = own j ∨ (own' j = some .files ∧ w.heap.size ≤ j ∧ j < w'.heap.size)

theorem FAt.done (h : FAt w b own fv pv wk fu lf de fs) {k : Int} {v : Value} {bs : List UInt8} {at' : Nat} {there : Bool} (hp : Place fs k at' there) (hv : Owns w v bs) (hvo : bs ≠ [] → ∀ g, v.ownBlock = some g → own g = some (.file k)) {w2 w3 : World} {v' : Value}
    (ht : Turn (fun j => fv.ownBlock = some j) w w2) (hrow : w2.ownsRow 0 101 2 v' (splice fs at' there k v bs).length (ecells (splice fs at' there k v bs))) (hloc : v'.ownBlock = fv.ownBlock ∨ ∃ g, v'.ownBlock = some g ∧ w.heap.size ≤ g)
    (ts : Turn (fun j => j = b) w2 w3) (hat3 : At 70 w3 b (dcells v' pv wk fu lf de)) :
    PutAt w b own pv wk fu lf de fs k bs w3 := by
  have hlt := h.head.lt
  have key : ∀ g, g < w.heap.size → own g ≠ some .files → v'.ownBlock ≠ some g := by
    intro g hg hf e
    rcases hloc with hl | ⟨g', hl, hge⟩
    · rw [hl] at e
      exact hf (h.fown g e)
    · rw [hl] at e
      injection e with e
      omega
  have keyf : ∀ g, own g ≠ some .files → fv.ownBlock ≠ some g := fun g hf e => hf (h.fown g e)
  have hvb : v'.ownBlock ≠ some b := key b hlt (by rw [h.hb]; simp)
  have hfb : fv.ownBlock ≠ some b := keyf b (by rw [h.hb]; simp)
  have tt : Turn (fun j => own j = some .disk ∨ own j = some .files) w w3 :=
    (ht.mono (fun j _ e => .inr (h.fown j e))).trans' ts (fun j _ e => .inl (by rw [e]; exact h.hb))
  have new : ∀ g, g < w.heap.size → own g ≠ some .files → (if v'.ownBlock = some g then some Tag.files else own g) = own g := fun g hg hf => if_neg (key g hg hf)
  have hown : ∀ (x : Value) (ys : List UInt8) (f : Int), Owns w x ys → (∀ g, x.ownBlock = some g → own g = some (.file f)) → Owns w3 x ys ∧ ∀ g, x.ownBlock = some g → (if v'.ownBlock = some g then some Tag.files else own g) = some (.file f) := by
    intro x ys f hx hg
    refine ⟨hx.kept tt (fun j hj e => ?_), fun g hgx => ?_⟩
    · rw [hg j hj] at e
      rcases e with e | e <;> simp at e
    · rw [new g (hx.lt hgx) (by rw [hg g hgx]; simp)]
      exact hg g hgx
  refine ⟨fun j => if v'.ownBlock = some j then some .files else own j, v', splice fs at' there k v bs, ⟨?_, ?_, row_kept hrow ts (fun j hj e => hvb (e ▸ hj)), fun g hg => if_pos hg, splice_rise hp h.rise v bs, ?_⟩, ?_, splice_length hp v bs, tt, ?_⟩
  · exact hat3
  · show (if v'.ownBlock = some b then some Tag.files else own b) = _
    rw [if_neg hvb]; exact h.hb
  · intro e he
    rcases splice_mem hp he with ⟨h1, _⟩ | ⟨rfl, h2⟩
    · obtain ⟨a1, a2, a3⟩ := h.file e h1
      obtain ⟨b1, b2⟩ := hown e.v e.bs e.num a1 a3
      exact ⟨b1, a2, b2⟩
    · obtain ⟨b1, b2⟩ := hown v bs k hv (hvo h2)
      exact ⟨b1, h2, b2⟩
  · funext i
    rw [splice_look hp v bs i]
    rfl
  · intro j
    show (if v'.ownBlock = some j then some Tag.files else own j) = own j ∨ ((if v'.ownBlock = some j then some Tag.files else own j) = some .files ∧ w.heap.size ≤ j ∧ j < w3.heap.size)
    by_cases hj : v'.ownBlock = some j
    · rw [if_pos hj]
      rcases hloc with hl | ⟨g', hl, hge⟩
      · rw [hl] at hj
        exact .inl (h.fown j hj).symm
      · have hlt2 := (World.ownsRow.lt hrow j hj).2
        have hlt3 := ts.size
        rw [hl] at hj
        injection hj with hj
        exact .inr ⟨rfl, by omega, by omega⟩
    · rw [if_neg hj]
      exact .inl rfl

end

end Go.Proofs.YtfmbkpdjjhcmcaaGreat
