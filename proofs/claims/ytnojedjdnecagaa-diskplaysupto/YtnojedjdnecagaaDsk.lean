/- Files by their numbers, what pends, and what undoes it: plain lists. -/
import Derived.Test.YtnojedjdnecagaaBase
namespace Go.Proofs.Ytnojedjdnecagaa

/-- A file that is there: its number, where its bytes lie, its bytes. -/
structure Ent where
  num : Int
  v : Value
  bs : List UInt8

/-- The bytes of a file, by its number. -/
def look : List Ent → Int → List UInt8
  | [], _ => []
  | e :: r, k => if e.num = k then e.bs else look r k

def Rise (fs : List Ent) : Prop := fs.Pairwise (fun a b => a.num < b.num)

theorem look_none {fs : List Ent} {k : Int} (h : ∀ e ∈ fs, e.num ≠ k) : look fs k = [] := by
  induction fs with
  | nil => rfl
  | cons e r ih =>
    rw [look, if_neg (h e (by simp))]
    exact ih (fun x hx => h x (by simp [hx]))

theorem look_append {a b : List Ent} {k : Int} (h : ∀ e ∈ a, e.num ≠ k) : look (a ++ b) k = look b k := by
  induction a with
  | nil => rfl
  | cons e r ih =>
    rw [List.cons_append, look, if_neg (h e (by simp))]
    exact ih (fun x hx => h x (by simp [hx]))

theorem look_head (e : Ent) (r : List Ent) : look (e :: r) e.num = e.bs := if_pos rfl

theorem look_skip {e : Ent} {r : List Ent} {k : Int} (h : e.num ≠ k) : look (e :: r) k = look r k := if_neg h

theorem look_congr {a b c : List Ent} {k : Int} (h : look b k = look c k) : look (a ++ b) k = look (a ++ c) k := by
  induction a with
  | nil => exact h
  | cons e r ih =>
    rw [List.cons_append, List.cons_append, look, look, ih]

/-- Where a file stands among those that are there, or would stand. -/
structure Place (fs : List Ent) (k : Int) (at' : Nat) (there : Bool) : Prop where
  le : at' ≤ fs.length
  pre : ∀ e ∈ fs.take at', e.num < k
  post : ∀ e ∈ fs.drop (at' + there.toNat), k < e.num
  is : there = true → ∃ e, fs[at']? = some e ∧ e.num = k

/-- The files, with bs the bytes of file k. -/
def splice (fs : List Ent) (at' : Nat) (there : Bool) (k : Int) (v : Value) (bs : List UInt8) : List Ent :=
  fs.take at' ++ ((if bs = [] then [] else [⟨k, v, bs⟩]) ++ fs.drop (at' + there.toNat))

theorem ents_split {fs : List Ent} {at' : Nat} {e : Ent} (h : fs[at']? = some e) : fs = fs.take at' ++ e :: fs.drop (at' + 1) := by
  obtain ⟨h1, h2⟩ := List.getElem?_eq_some_iff.1 h
  rw [← h2, List.getElem_cons_drop]
  simp

theorem Place.look_there {fs : List Ent} {k : Int} {at' : Nat} {e : Ent} (h : Place fs k at' true) (he : fs[at']? = some e) : look fs k = e.bs := by
  obtain ⟨e', he', hn⟩ := h.is rfl
  rw [he] at he'
  injection he' with he'
  subst he'
  rw [ents_split he, look_append (fun x hx => by have := h.pre x hx; omega), ← hn, look_head]

theorem Place.look_not {fs : List Ent} {k : Int} {at' : Nat} (h : Place fs k at' false) : look fs k = [] := by
  have h1 := h.pre
  have h2 := h.post
  refine look_none fun e he => ?_
  rw [← List.take_append_drop at' fs] at he
  rcases List.mem_append.1 he with h' | h'
  · have := h1 e h'; omega
  · have := h2 e h'; omega

theorem splice_look {fs : List Ent} {k : Int} {at' : Nat} {there : Bool} (h : Place fs k at' there) (v : Value) (bs : List UInt8) (i : Int) :
    look (splice fs at' there k v bs) i = if i = k then bs else look fs i := by
  unfold splice
  by_cases hi : i = k
  · subst hi
    rw [if_pos rfl, look_append (fun x hx => by have := h.pre x hx; omega)]
    by_cases hb : bs = []
    · rw [if_pos hb, List.nil_append, look_none (fun x hx => by have := h.post x hx; omega), hb]
    · rw [if_neg hb]
      exact look_head _ _
  · rw [if_neg hi]
    have h1 : look ((if bs = [] then [] else [⟨k, v, bs⟩]) ++ fs.drop (at' + there.toNat)) i = look (fs.drop (at' + there.toNat)) i := by
      refine look_append fun x hx => ?_
      split at hx
      · simp at hx
      · simp only [List.mem_singleton] at hx
        subst hx
        exact fun e => hi e.symm
    rw [look_congr h1]
    cases there with
    | false =>
      simp
    | true =>
      obtain ⟨e, he, hn⟩ := h.is rfl
      conv => rhs; rw [ents_split he]
      exact (look_congr (look_skip (by rw [hn]; exact fun e => hi e.symm))).symm

theorem splice_rise {fs : List Ent} {k : Int} {at' : Nat} {there : Bool} (h : Place fs k at' there) (hr : Rise fs) (v : Value) (bs : List UInt8) : Rise (splice fs at' there k v bs) := by
  unfold splice Rise at *
  have hp := hr
  rw [← List.take_append_drop at' fs, List.pairwise_append] at hp
  refine List.pairwise_append.2 ⟨hp.1, List.pairwise_append.2 ⟨?_, hr.sublist (List.drop_sublist _ _), ?_⟩, ?_⟩
  · split <;> simp
  · intro a ha b hb
    split at ha
    · simp at ha
    · simp only [List.mem_singleton] at ha
      subst ha
      exact h.post b hb
  · intro a ha b hb
    have h1 := h.pre a ha
    rcases List.mem_append.1 hb with hb | hb
    · split at hb
      · simp at hb
      · simp only [List.mem_singleton] at hb
        subst hb
        exact h1
    · have := h.post b hb
      omega

theorem splice_mem {fs : List Ent} {k : Int} {at' : Nat} {there : Bool} (h : Place fs k at' there) {v : Value} {bs : List UInt8} {e : Ent} (he : e ∈ splice fs at' there k v bs) : (e ∈ fs ∧ e.num ≠ k) ∨ (e = ⟨k, v, bs⟩ ∧ bs ≠ []) := by
  unfold splice at he
  rcases List.mem_append.1 he with he | he
  · exact .inl ⟨List.mem_of_mem_take he, by have := h.pre e he; omega⟩
  · rcases List.mem_append.1 he with he | he
    · split at he
      · simp at he
      · rename_i hb
        simp only [List.mem_singleton] at he
        exact .inr ⟨he, hb⟩
    · exact .inl ⟨List.mem_of_mem_drop he, by have := h.post e he; omega⟩

theorem splice_length {fs : List Ent} {k : Int} {at' : Nat} {there : Bool} (h : Place fs k at' there) (v : Value) (bs : List UInt8) : (splice fs at' there k v bs).length ≤ fs.length + 1 := by
  have := h.le
  unfold splice
  simp only [List.length_append, List.length_take, List.length_drop]
  split <;> simp <;> omega

/-- The cells of files. -/
def ecells : List Ent → List Value
  | [] => []
  | e :: r => .int .i64 e.num :: e.v :: ecells r

theorem ecells_length (fs : List Ent) : (ecells fs).length = fs.length * 2 := by
  induction fs with
  | nil => rfl
  | cons e r ih => simp [ecells, ih]; omega

theorem ecells_append (a b : List Ent) : ecells (a ++ b) = ecells a ++ ecells b := by
  induction a with
  | nil => rfl
  | cons e r ih => simp [ecells, ih]

theorem ecells_take : ∀ (fs : List Ent) (n : Nat), (ecells fs).take (n * 2) = ecells (fs.take n)
  | fs, 0 => by simp [ecells]
  | [], n + 1 => by simp [ecells]
  | e :: r, n + 1 => by
    rw [show (n + 1) * 2 = n * 2 + 1 + 1 by omega, ecells, List.take_succ_cons, List.take_succ_cons, ecells_take r n, List.take_succ_cons, ecells]

theorem ecells_drop : ∀ (fs : List Ent) (n : Nat), (ecells fs).drop (n * 2) = ecells (fs.drop n)
  | fs, 0 => by simp
  | [], n + 1 => by simp [ecells]
  | e :: r, n + 1 => by
    rw [show (n + 1) * 2 = n * 2 + 1 + 1 by omega, ecells, List.drop_succ_cons, List.drop_succ_cons, ecells_drop r n, List.drop_succ_cons]

theorem ecells_num : ∀ (fs : List Ent) (n : Nat) (e : Ent), fs[n]? = some e → (ecells fs)[n * 2]? = some (.int .i64 e.num)
  | [], n, e, h => by simp at h
  | x :: r, 0, e, h => by simp at h; subst h; rfl
  | x :: r, n + 1, e, h => by
    rw [show (n + 1) * 2 = n * 2 + 1 + 1 by omega, ecells, List.getElem?_cons_succ, List.getElem?_cons_succ]
    exact ecells_num r n e (by simpa using h)

theorem ecells_val : ∀ (fs : List Ent) (n : Nat) (e : Ent), fs[n]? = some e → (ecells fs)[n * 2 + 1]? = some e.v
  | [], n, e, h => by simp at h
  | x :: r, 0, e, h => by simp at h; subst h; rfl
  | x :: r, n + 1, e, h => by
    rw [show (n + 1) * 2 + 1 = (n * 2 + 1) + 1 + 1 by omega, ecells, List.getElem?_cons_succ, List.getElem?_cons_succ]
    exact ecells_val r n e (by simpa using h)

theorem ecells_one {fs : List Ent} (h : ∀ e ∈ fs, e.v.oneCell' = true) : ∀ u ∈ ecells fs, u.oneCell' = true := by
  induction fs with
  | nil => intro u hu; simp [ecells] at hu
  | cons e r ih =>
    intro u hu
    simp only [ecells, List.mem_cons] at hu
    rcases hu with rfl | rfl | hu
    · rfl
    · exact h e (by simp)
    · exact ih (fun x hx => h x (by simp [hx])) u hu

/-- The cells of a splice. -/
theorem ecells_splice (fs : List Ent) (at' : Nat) (there : Bool) (k : Int) (v : Value) (bs : List UInt8) :
    ecells (splice fs at' there k v bs) = (ecells fs).take (at' * 2) ++ ((if bs = [] then [] else [.int .i64 k, v]) ++ (ecells fs).drop ((at' + there.toNat) * 2)) := by
  unfold splice
  rw [ecells_append, ecells_append, ecells_take, ecells_drop]
  congr 2
  split <;> rfl

/-- What pends. -/
inductive DOp where
  | lay (k : Int) (bs : List UInt8)
  | rem (k : Int)

abbrev Fs := Int → List UInt8

def fput (s : Fs) (k : Int) (bs : List UInt8) : Fs := fun i => if i = k then bs else s i

def act (s : Fs) : DOp → Fs
  | .lay k bs => fput s k (s k ++ bs)
  | .rem k => fput s k []

def acts (s : Fs) (l : List DOp) : Fs := l.foldl act s

theorem acts_snoc (s : Fs) (l : List DOp) (o : DOp) : acts s (l ++ [o]) = act (acts s l) o := by simp [acts]
theorem acts_nil (s : Fs) : acts s [] = s := rfl

/-- What undoes one that pends: of which file, how many bytes were laid, or those that were taken. -/
structure Und where
  file : Int
  laid : Nat
  took : List UInt8

def undOf (s : Fs) : DOp → Und
  | .lay k bs => ⟨k, bs.length, []⟩
  | .rem k => ⟨k, 0, s k⟩

def unds (s : Fs) : List DOp → List Und
  | [] => []
  | o :: r => undOf s o :: unds (act s o) r

theorem unds_length (s : Fs) (l : List DOp) : (unds s l).length = l.length := by
  induction l generalizing s with
  | nil => rfl
  | cons o r ih => simp [unds, ih]

theorem unds_snoc (s : Fs) (l : List DOp) (o : DOp) : unds s (l ++ [o]) = unds s l ++ [undOf (acts s l) o] := by
  induction l generalizing s with
  | nil => rfl
  | cons x r ih => simp [unds, ih, acts]

theorem unds_at (s : Fs) (l : List DOp) (i : Nat) (o : DOp) (h : l[i]? = some o) : (unds s l)[i]? = some (undOf (acts s (l.take i)) o) := by
  induction l generalizing s i with
  | nil => simp at h
  | cons x r ih =>
    match i with
    | 0 => simp at h; subst h; simp [unds, acts]
    | i + 1 =>
      simp only [List.getElem?_cons_succ] at h
      simp only [unds, List.getElem?_cons_succ, List.take_succ_cons, acts, List.foldl_cons]
      exact ih (act s x) i h

theorem acts_take_succ (s : Fs) (l : List DOp) (i : Nat) (o : DOp) (h : l[i]? = some o) : acts s (l.take (i + 1)) = act (acts s (l.take i)) o := by
  obtain ⟨h1, h2⟩ := List.getElem?_eq_some_iff.1 h
  rw [List.take_succ_eq_append_getElem h1, acts_snoc, h2]

/-- A part of a change, or none of it. -/
def partOf (s : Fs) (c : Nat) : DOp → Fs
  | .lay k bs => fput s k (s k ++ bs.take c)
  | .rem _ => s

def undoF (s : Fs) (u : Und) (stays : Nat) : Fs :=
  if u.laid = 0 then fput s u.file u.took else fput s u.file ((s u.file).take ((s u.file).length - u.laid + stays))

theorem fput_fput (s : Fs) (k : Int) (a b : List UInt8) : fput (fput s k a) k b = fput s k b := by
  funext i
  unfold fput
  split <;> rfl

theorem fput_same (s : Fs) (k : Int) : fput s k (s k) = s := by
  funext i
  unfold fput
  split
  · subst_vars; rfl
  · rfl

theorem undo_lay (s : Fs) (k : Int) (bs : List UInt8) (c : Nat) (hb : bs ≠ []) : undoF (act s (.lay k bs)) (undOf s (.lay k bs)) c = partOf s c (.lay k bs) := by
  have h0 : bs.length ≠ 0 := fun h => hb (List.eq_nil_of_length_eq_zero h)
  have e1 : act s (.lay k bs) k = s k ++ bs := if_pos rfl
  unfold undoF undOf partOf
  rw [if_neg h0]
  simp only [e1]
  rw [act, fput_fput]
  congr 1
  rw [List.length_append, show (s k).length + bs.length - bs.length + c = (s k).length + c by omega, List.take_append]
  simp only [Nat.add_sub_cancel_left]
  rw [List.take_of_length_le (by omega)]

theorem undo_rem (s : Fs) (k : Int) (c : Nat) : undoF (act s (.rem k)) (undOf s (.rem k)) c = partOf s c (.rem k) := by
  unfold undoF undOf partOf
  rw [if_pos rfl, act, fput_fput, fput_same]

theorem partOf_none (s : Fs) (o : DOp) : partOf s 0 o = s := by
  cases o with
  | lay k bs => unfold partOf; simp [fput_same]
  | rem k => rfl

/-- What a crash leaves: the first ones, and a part of the next one. -/
def crashed (s : Fs) (l : List DOp) (n : Nat) (cut : Int) : Fs :=
  match l[n]? with
  | some (.lay k bs) => partOf (acts s (l.take n)) (cut % ((bs.length : Int) + 1)).toNat (.lay k bs)
  | _ => acts s (l.take n)

end Go.Proofs.Ytnojedjdnecagaa
