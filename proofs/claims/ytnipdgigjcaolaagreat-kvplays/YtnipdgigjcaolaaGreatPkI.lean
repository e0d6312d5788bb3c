/- What stands below the proof, in one text. -/
import Derived.Test.YtnipdgigjcaolaaGreatPkH
import Derived.Test.YtnipdgigjcaolaaGreatWRem
/- What is opened of files of whole commits and checkpoints, plainly: what stays where some of those ahead are gone, and behind a crash. -/
namespace Go.Proofs.YtnipdgigjcaolaaGreat

/-- Files 0 to n - 1 are taken. -/
def frun (F : Int → List Chunk) : Nat → Recs
  | 0 => ([], 0)
  | n + 1 => krun n (F n) (frun F n)

theorem krun_two (k : Int) : ∀ (cs : List Chunk) (y : Recs), ((krun k cs y).2 = k ∧ ∀ y', krun k cs y' = krun k cs y) ∨ (krun k cs y).2 = y.2
  | [], y => .inr rfl
  | c :: r, y => by
    have e : ∀ y, krun k (c :: r) y = krun k r (kstep k y c) := fun _ => rfl
    rcases krun_two k r (kstep k y c) with h | h
    · exact .inl ⟨by rw [e]; exact h.1, fun y' => by rw [e, e]; exact h.2 _⟩
    · cases hc : c.1 with
      | true =>
        have e2 : ∀ y, kstep k y c = (c.2, k) := fun y => by unfold kstep; rw [hc]; rfl
        refine .inl ⟨?_, fun y' => by rw [e, e, e2, e2]⟩
        rw [e, h, e2]
      | false =>
        have e2 : (kstep k y c).2 = y.2 := by unfold kstep; rw [hc]; rfl
        exact .inr (by rw [e, h, e2])

theorem krun_snoc (k : Int) (cs : List Chunk) (c : Chunk) (y : Recs) : krun k (cs ++ [c]) y = kstep k (krun k cs y) c := by simp [krun]

theorem frun_lt (F : Int → List Chunk) : ∀ n : Nat, 0 ≤ (frun F n).2 ∧ ((frun F n).2 < n ∨ (frun F n).2 = 0)
  | 0 => ⟨Int.le_refl _, .inr rfl⟩
  | n + 1 => by
    have ih := frun_lt F n
    have e : frun F (n + 1) = krun n (F n) (frun F n) := rfl
    rcases krun_two n (F n) (frun F n) with h | h
    · rw [e, h.1]
      omega
    · rw [e, h]
      omega

/-- What stands ahead of the last checkpoint counts for nothing. -/
theorem frun_cut {F G : Int → List Chunk} {c : Int} (hG : ∀ k, c ≤ k → G k = F k) : ∀ n : Nat, c ≤ (frun F n).2 → frun G n = frun F n
  | 0, _ => rfl
  | n + 1, hc => by
    have e : frun F (n + 1) = krun n (F n) (frun F n) := rfl
    have e' : frun G (n + 1) = krun n (G n) (frun G n) := rfl
    rw [e] at hc
    rcases krun_two n (F n) (frun F n) with h | h
    · rw [h.1] at hc
      rw [e, e', hG n hc, h.2]
    · rw [h] at hc
      have := frun_lt F n
      rw [e, e', hG n (by omega), frun_cut hG n hc]

theorem frun_same {F G : Int → List Chunk} : ∀ n : Nat, (∀ k : Int, k < n → G k = F k) → frun G n = frun F n
  | 0, _ => rfl
  | n + 1, h => by
    have e : frun F (n + 1) = krun n (F n) (frun F n) := rfl
    have e' : frun G (n + 1) = krun n (G n) (frun G n) := rfl
    rw [e, e', h n (by omega), frun_same n (fun k hk => h k (by omega))]

theorem frun_more {F : Int → List Chunk} {n : Nat} (hF : ∀ k : Int, n ≤ k → F k = []) : ∀ m : Nat, n ≤ m → frun F m = frun F n := by
  intro m hm
  obtain ⟨d, rfl⟩ : ∃ d, m = n + d := ⟨m - n, by omega⟩
  clear hm
  induction d with
  | zero => rfl
  | succ d ih =>
    have e : frun F (n + (d + 1)) = krun (n + d : Nat) (F (n + d : Nat)) (frun F (n + d)) := rfl
    rw [e, hF _ (by omega), ih]
    rfl

theorem whole_nil : Whole [] [] := ⟨fun c hc => by simp at hc, [], torn_nil, rfl⟩

theorem Chunk.bytes_pos (c : Chunk) : 9 ≤ c.bytes.length := by
  unfold Chunk.bytes laidOf
  rw [List.length_append, record_length]
  omega

theorem Whole.none {cs : List Chunk} (h : Whole [] cs) : cs = [] := by
  obtain ⟨t, _, e⟩ := h.is
  cases cs with
  | nil => rfl
  | cons c r =>
    have := congrArg List.length e
    have h1 := c.bytes_pos
    simp only [List.map_cons, List.flatten_cons, List.append_assoc, List.length_append, List.length_nil] at this
    omega

/-- Files 0 to n - 1 are of whole commits and checkpoints, each with a torn end; there are no others. -/
structure Holds (rd : Fs) (F : Int → List Chunk) (n : Nat) : Prop where
  whole : ∀ k, Whole (rd k) (F k)
  no : ∀ k : Int, k < 0 ∨ (n : Int) ≤ k → rd k = []

theorem Holds.none {rd : Fs} {F : Int → List Chunk} {n : Nat} (h : Holds rd F n) {k : Int} (hk : rd k = []) : F k = [] := Whole.none (hk ▸ h.whole k)

theorem Holds.wide {rd : Fs} {F : Int → List Chunk} {n m : Nat} (h : Holds rd F n) (hm : ∀ k : Int, (m : Int) ≤ k → rd k = []) : Holds rd F m := ⟨h.whole, fun k hk => hk.elim (fun e => h.no k (.inl e)) (hm k)⟩

theorem Holds.runs {rd : Fs} {F : Int → List Chunk} {n m : Nat} (h : Holds rd F n) (h2 : Holds rd F m) : frun F n = frun F m := by
  rcases Nat.le_total n m with e | e
  · exact (frun_more (fun k hk => h.none (h.no k (.inr hk))) m e).symm
  · exact frun_more (fun k hk => h2.none (h2.no k (.inr hk))) n e

/-- A Disk's files that are there, rising. -/
def RNums (rd : Fs) (l : List Int) : Prop := l.Pairwise (· < ·) ∧ ∀ k, k ∈ l ↔ rd k ≠ []

theorem numsN (n : Nat) : ((List.range n).map (fun i : Nat => (i : Int))).Pairwise (· < ·) := by
  rw [List.pairwise_map]
  exact List.pairwise_lt_range.imp (fun h => by omega)

theorem Holds.nums {rd : Fs} {F : Int → List Chunk} {n : Nat} (h : Holds rd F n) {l : List Int} (hl : RNums rd l) : l = ((List.range n).map (fun i : Nat => (i : Int))).filter (fun k => !(rd k).isEmpty) := by
  refine rise_same hl.1 ((numsN n).sublist List.filter_sublist) (fun k => ?_)
  rw [hl.2 k, List.mem_filter]
  constructor
  · intro hk
    have h0 : ¬ (k < 0 ∨ (n : Int) ≤ k) := fun e => hk (h.no k e)
    refine ⟨List.mem_map.2 ⟨k.toNat, by rw [List.mem_range]; omega, by omega⟩, ?_⟩
    cases hr : rd k with
    | nil => exact absurd hr hk
    | cons a r => rfl
  · intro hk e
    rw [e] at hk
    simp at hk

theorem Holds.len {rd : Fs} {F : Int → List Chunk} {n : Nat} (h : Holds rd F n) {l : List Int} (hl : RNums rd l) : l.length ≤ n := by
  rw [h.nums hl]
  refine Nat.le_trans (List.length_filter_le _ _) ?_
  simp

theorem fold_range {rd : Fs} {F : Int → List Chunk} (hF : ∀ k, rd k = [] → F k = []) : ∀ n : Nat, (((List.range n).map (fun i : Nat => (i : Int))).filter (fun k => !(rd k).isEmpty)).foldl (fun y k => krun k (F k) y) ([], 0) = frun F n
  | 0 => rfl
  | n + 1 => by
    rw [List.range_succ, List.map_append, List.filter_append, List.foldl_append, fold_range hF n]
    have e : frun F (n + 1) = krun n (F n) (frun F n) := rfl
    rw [e]
    cases hr : rd n with
    | nil =>
      have e2 : List.filter (fun k => !(rd k).isEmpty) (List.map (fun i : Nat => (i : Int)) [n]) = [] := by simp [hr]
      rw [e2, hF n hr]
      rfl
    | cons a r =>
      have e2 : List.filter (fun k => !(rd k).isEmpty) (List.map (fun i : Nat => (i : Int)) [n]) = [(n : Int)] := by simp [hr]
      rw [e2]
      rfl

theorem last_num : ∀ (l : List Int) (x : Int), l.Pairwise (· < ·) → (l = [] ∧ l.foldl (fun _ k => k + 1) x = x) ∨ ((l.foldl (fun _ k => k + 1) x - 1) ∈ l ∧ ∀ k ∈ l, k < l.foldl (fun _ k => k + 1) x)
  | [], x, _ => .inl ⟨rfl, rfl⟩
  | a :: r, x, h => by
    rw [List.pairwise_cons] at h
    right
    rw [List.foldl_cons]
    rcases last_num r (a + 1) h.2 with ⟨rfl, e⟩ | ⟨h1, h2⟩
    · rw [e]
      exact ⟨by simp, fun k hk => by simp at hk; omega⟩
    · refine ⟨List.mem_cons_of_mem _ h1, fun k hk => ?_⟩
      rcases List.mem_cons.1 hk with rfl | hk
      · have := h.1 _ h1; have := h2 _ h1; omega
      · exact h2 k hk

/-- Such files are opened. -/
theorem Holds.opens {rd : Fs} {F : Int → List Chunk} {n : Nat} (h : Holds rd F n) {l : List Int} (hl : RNums rd l) : ∃ (y : HSt) (a : Nat), openN rd l (HSt.zero, 0) = some (y, (a : Int)) ∧ (y.recs, y.since) = frun F n ∧ a ≤ n ∧ Holds rd F a := by
  obtain ⟨y, h1, h2⟩ := openN_whole (rd := rd) (F := F) l (HSt.zero, 0) (fun k _ => h.whole k)
  have h3 : l.foldl (fun y k => krun k (F k) y) (HSt.zero.recs, HSt.zero.since) = frun F n := by
    have := fold_range (rd := rd) (F := F) (fun k => h.none) n
    rw [← h.nums hl] at this
    exact this
  have hin : ∀ k ∈ l, 0 ≤ k ∧ k < n := fun k hk => by
    have h0 : ¬ (k < 0 ∨ (n : Int) ≤ k) := fun e => (hl.2 k).1 hk (h.no k e)
    omega
  rcases last_num l 0 hl.1 with ⟨e, e2⟩ | ⟨e1, e2⟩
  · refine ⟨y, 0, ?_, h2.trans h3, by omega, h.wide (fun k _ => ?_)⟩
    · rw [h1, e2]; rfl
    · by_cases hr : rd k = []
      · exact hr
      · have := (hl.2 k).2 hr
        rw [e] at this
        simp at this
  · have hb := hin _ e1
    refine ⟨y, (l.foldl (fun _ k => k + 1) 0).toNat, ?_, h2.trans h3, by omega, h.wide (fun k hk => ?_)⟩
    · rw [h1]
      congr 2
      show l.foldl (fun _ k => k + 1) 0 = _
      omega
    · by_cases hr : rd k = []
      · exact hr
      · have := e2 k ((hl.2 k).2 hr)
        omega

/-- Some of the files ahead of c are gone. -/
def Half (c : Int) (s s' : Fs) : Prop := ∀ k, (c ≤ k → s' k = s k) ∧ (s' k = s k ∨ s' k = [])

theorem Half.refl (c : Int) (s : Fs) : Half c s s := fun _ => ⟨fun _ => rfl, .inl rfl⟩

theorem Half.trans {c : Int} {a b d : Fs} (h : Half c a b) (h2 : Half c b d) : Half c a d := fun k => by
  refine ⟨fun hc => ((h2 k).1 hc).trans ((h k).1 hc), ?_⟩
  rcases (h2 k).2 with e | e
  · rw [e]
    exact (h k).2
  · exact .inr e

def Rems (c : Int) (l : List DOp) : Prop := ∀ o ∈ l, ∃ k, o = .rem k ∧ k < c

theorem Rems.half {c : Int} : ∀ {l : List DOp} {s : Fs}, Rems c l → Half c s (acts s l)
  | [], s, _ => Half.refl c s
  | o :: r, s, h => by
    obtain ⟨k, rfl, hk⟩ := h o (by simp)
    have h1 : Half c s (act s (.rem k)) := fun i => by
      show (c ≤ i → fput s k [] i = s i) ∧ (fput s k [] i = s i ∨ fput s k [] i = [])
      unfold fput
      split
      · exact ⟨fun e => by omega, .inr rfl⟩
      · exact ⟨fun _ => rfl, .inl rfl⟩
    exact h1.trans (Rems.half (l := r) (fun x hx => h x (by simp [hx])))

theorem Holds.half {rd rd' : Fs} {F : Int → List Chunk} {n : Nat} {c : Int} (h : Holds rd F n) (hc : c ≤ (frun F n).2) (hh : Half c rd rd') : ∃ G, Holds rd' G n ∧ frun G n = frun F n ∧ ∀ k, c ≤ k → G k = F k := by
  refine ⟨fun k => if (rd' k).isEmpty then [] else F k, ⟨fun k => ?_, fun k hk => ?_⟩, ?_⟩
  · cases hr : rd' k with
    | nil => exact whole_nil
    | cons a r =>
      show Whole (a :: r) (F k)
      rcases (hh k).2 with e | e
      · rw [← hr, e]
        exact h.whole k
      · rw [hr] at e
        simp at e
  · rcases (hh k).2 with e | e
    · rw [e]
      exact h.no k hk
    · exact e
  · have hg : ∀ k, c ≤ k → (if (rd' k).isEmpty then [] else F k) = F k := fun k hk => by
      have e := (hh k).1 hk
      rw [e]
      split
      · rename_i e2
        rw [h.none (List.isEmpty_iff.1 e2)]
      · rfl
    exact ⟨frun_cut hg n hc, hg⟩

/-- A commit or checkpoint more, behind whole ones, in the last file. -/
def fadd (F : Int → List Chunk) (a : Int) (c : Chunk) : Int → List Chunk := fun k => if k = a then F a ++ [c] else F k

theorem frun_add (F : Int → List Chunk) (a : Nat) (c : Chunk) : frun (fadd F a c) (a + 1) = kstep a (frun F (a + 1)) c := by
  have e : frun (fadd F a c) (a + 1) = krun a (fadd F a c a) (frun (fadd F a c) a) := rfl
  have e2 : frun F (a + 1) = krun a (F a) (frun F a) := rfl
  have e3 : frun (fadd F a c) a = frun F a := frun_same a (fun k hk => by unfold fadd; rw [if_neg (by omega)])
  have e4 : fadd F a c a = F a ++ [c] := by unfold fadd; rw [if_pos rfl]
  rw [e, e3, e4, krun_snoc, e2]

theorem Holds.add {rd : Fs} {F : Int → List Chunk} {a : Nat} (h : Holds rd F (a + 1)) {c : Chunk} (hc : c.Ok) (he : rd a = ((F a).map Chunk.bytes).flatten) : Holds (fput rd a (rd a ++ c.bytes)) (fadd F a c) (a + 1) := by
  refine ⟨fun k => ?_, fun k hk => ?_⟩
  · unfold fput fadd
    by_cases hka : k = a
    · rw [if_pos hka, if_pos hka]
      refine ⟨fun x hx => ?_, [], torn_nil, by rw [he]; simp⟩
      rcases List.mem_append.1 hx with hx | hx
      · exact (h.whole a).ok x hx
      · simp only [List.mem_singleton] at hx
        exact hx ▸ hc
    · rw [if_neg hka, if_neg hka]
      exact h.whole k
  · unfold fput
    rw [if_neg (by omega)]
    exact h.no k hk

theorem Holds.torn {rd : Fs} {F : Int → List Chunk} {a : Nat} (h : Holds rd F (a + 1)) {c : Chunk} (hc : c.Ok) (he : rd a = ((F a).map Chunk.bytes).flatten) (n : Nat) (hn : n < c.bytes.length) : Holds (fput rd a (rd a ++ c.bytes.take n)) F (a + 1) := by
  refine ⟨fun k => ?_, fun k hk => ?_⟩
  · unfold fput
    by_cases hka : k = a
    · rw [if_pos hka, hka]
      exact ⟨(h.whole a).ok, _, ⟨c, n, hc, hn, rfl⟩, by rw [he]⟩
    · rw [if_neg hka]
      exact h.whole k
  · unfold fput
    rw [if_neg (by omega)]
    exact h.no k hk

end Go.Proofs.YtnipdgigjcaolaaGreat

/- A Log's calls, plainly: what they leave on the disk, what a crash leaves of it, what is opened then. -/
namespace Go.Proofs.YtnipdgigjcaolaaGreat

/-- What pends takes away only what counts for nothing. -/
structure DOk (d : DSt) (F : Int → List Chunk) (n : Nat) : Prop where
  holds : Holds d.base F n
  rems : Rems (frun F n).2 d.ops

/-- A Log that is not down, in segment a. -/
structure LOk (s : WSt) (F : Int → List Chunk) (a : Nat) : Prop where
  down : s.down = false
  dead : s.d.dead = false
  dok : DOk s.d F (a + 1)
  at' : s.at' = a
  is : s.d.base a = ((F a).map Chunk.bytes).flatten
  size : s.size = (s.d.base a).length

/-- Whatever a crash leaves, x is opened, or y. -/
def Fallen (d : DSt) (n : Nat) (x y : List (List UInt8)) : Prop := ∀ done cut, ∃ G, Holds (d.crash done cut).base G n ∧ ((frun G n).1 = x ∨ (frun G n).1 = y)

theorem crashed_rems {c : Int} {l : List DOp} (h : Rems c l) (s : Fs) (n : Nat) (cut : Int) : crashed s l n cut = acts s (l.take n) := by
  unfold crashed
  cases e : l[n]? with
  | none => rfl
  | some o =>
    obtain ⟨k, rfl, _⟩ := h o (List.mem_of_getElem? e)
    rfl

theorem Rems.take {c : Int} {l : List DOp} (h : Rems c l) (n : Nat) : Rems c (l.take n) := fun o ho => h o (List.mem_of_mem_take ho)

theorem DOk.crash {d : DSt} {F : Int → List Chunk} {n : Nat} (h : DOk d F n) (done cut : Int) : ∃ G, Holds (d.crash done cut).base G n ∧ frun G n = frun F n := by
  obtain ⟨G, h1, h2, _⟩ := h.holds.half (Int.le_refl _) ((h.rems.take (done % ((d.ops.length : Int) + 1)).toNat).half)
  refine ⟨G, ?_, h2⟩
  show Holds (crashed d.base d.ops _ cut) G n
  rw [crashed_rems h.rems]
  exact h1

theorem DOk.fallen {d : DSt} {F : Int → List Chunk} {n : Nat} (h : DOk d F n) (y : List (List UInt8)) : Fallen d n (frun F n).1 y := fun done cut => by
  obtain ⟨G, h1, h2⟩ := h.crash done cut
  exact ⟨G, h1, .inl (by rw [h2])⟩

theorem DOk.now {d : DSt} {F : Int → List Chunk} {n : Nat} (h : DOk d F n) : ∃ G, Holds d.now G n ∧ frun G n = frun F n ∧ ∀ k, (frun F n).2 ≤ k → G k = F k ∧ d.now k = d.base k := by
  obtain ⟨G, h1, h2, h3⟩ := h.holds.half (Int.le_refl _) (h.rems.half (s := d.base))
  exact ⟨G, h1, h2, fun k hk => ⟨h3 k hk, (h.rems.half k).1 hk⟩⟩

/-- A disk on which a segment may be written on. -/
structure Mids (d : DSt) (F : Int → List Chunk) (a : Nat) (z : Int) : Prop where
  dead : d.dead = false
  dok : DOk d F (a + 1)
  is : d.base a = ((F a).map Chunk.bytes).flatten
  size : z = (d.base a).length

theorem since_le (F : Int → List Chunk) (a : Nat) : (frun F (a + 1)).2 ≤ a := by
  have := frun_lt F (a + 1)
  omega

theorem LOk.mid {s : WSt} {F : Int → List Chunk} {a : Nat} (h : LOk s F a) : Mids s.d F a s.size := ⟨h.dead, h.dok, h.is, h.size⟩

theorem LOk.next {s : WSt} {F : Int → List Chunk} {a : Nat} (h : LOk s F a) : Mids s.d F (a + 1) 0 ∧ frun F (a + 1 + 1) = frun F (a + 1) := by
  have hn : s.d.base ((a + 1 : Nat) : Int) = [] := h.dok.holds.no _ (.inr (by omega))
  have hw : Holds s.d.base F (a + 1 + 1) := h.dok.holds.wide (fun k hk => h.dok.holds.no k (.inr (by omega)))
  have hf : frun F (a + 1 + 1) = frun F (a + 1) := hw.runs h.dok.holds
  exact ⟨⟨h.dead, ⟨hw, by rw [hf]; exact h.dok.rems⟩, by rw [hn, h.dok.holds.none hn]; rfl, by rw [hn]; rfl⟩, hf⟩

theorem Mids.add {d : DSt} {F : Int → List Chunk} {a : Nat} {z : Int} (h : Mids d F a z) {c : Chunk} (hc : c.Ok) : ∃ G, Holds (fput d.now a (d.now a ++ c.bytes)) (fadd G a c) (a + 1) ∧ frun G (a + 1) = frun F (a + 1) ∧ d.now a = ((G a).map Chunk.bytes).flatten ∧ d.now a = d.base a ∧ Holds d.now G (a + 1) := by
  obtain ⟨G, h1, h2, h3⟩ := h.dok.now
  obtain ⟨h4, h5⟩ := h3 a (since_le F a)
  have h6 : d.now a = ((G a).map Chunk.bytes).flatten := by rw [h5, h.is, h4]
  exact ⟨G, h1.add hc h6, h2, h6, h5, h1⟩

/-- With a commit or checkpoint that pends behind the rest. -/
theorem Mids.fallen {d d' : DSt} {F : Int → List Chunk} {a : Nat} {z : Int} (h : Mids d F a z) {c : Chunk} (hc : c.Ok) (hb : d'.base = d.base) (ho : d'.ops = d.ops ++ [.lay a c.bytes]) : Fallen d' (a + 1) (frun F (a + 1)).1 (kstep a (frun F (a + 1)) c).1 := by
  intro done cut
  have hm : 0 ≤ done % ((d'.ops.length : Int) + 1) ∧ done % ((d'.ops.length : Int) + 1) < (d'.ops.length : Int) + 1 := ⟨Int.emod_nonneg _ (by omega), Int.emod_lt_of_pos _ (by omega)⟩
  have hl : d'.ops.length = d.ops.length + 1 := by rw [ho]; simp
  show ∃ G, Holds (crashed d'.base d'.ops (done % ((d'.ops.length : Int) + 1)).toNat cut) G (a + 1) ∧ _
  generalize hme : (done % ((d'.ops.length : Int) + 1)).toNat = m
  have hm2 : m ≤ d.ops.length + 1 := by omega
  clear hm hme
  rw [hb, ho]
  obtain ⟨G, g1, g2, g3, g4, g5⟩ := h.add hc
  by_cases hlt : m < d.ops.length
  · have e : crashed d.base (d.ops ++ [.lay a c.bytes]) m cut = acts d.base (d.ops.take m) := by
      unfold crashed
      rw [List.getElem?_append_left hlt, List.take_append_of_le_length (by omega)]
      have := crashed_rems h.dok.rems d.base m cut
      unfold crashed at this
      exact this
    obtain ⟨G', h1, h2, _⟩ := h.dok.holds.half (Int.le_refl _) ((h.dok.rems.take m).half (s := d.base))
    exact ⟨G', by rw [e]; exact h1, .inl (by rw [h2])⟩
  · by_cases heq : m = d.ops.length
    · have e : crashed d.base (d.ops ++ [.lay a c.bytes]) m cut = fput d.now a (d.now a ++ c.bytes.take (cut % ((c.bytes.length : Int) + 1)).toNat) := by
        unfold crashed
        rw [heq, List.getElem?_concat_length, List.take_append_of_le_length (by omega), List.take_of_length_le (by omega)]
        rfl
      rw [e]
      have hcut : 0 ≤ cut % ((c.bytes.length : Int) + 1) ∧ cut % ((c.bytes.length : Int) + 1) < (c.bytes.length : Int) + 1 := ⟨Int.emod_nonneg _ (by omega), Int.emod_lt_of_pos _ (by omega)⟩
      by_cases hf : (cut % ((c.bytes.length : Int) + 1)).toNat < c.bytes.length
      · exact ⟨G, g5.torn hc g3 _ hf, .inl (by rw [g2])⟩
      · rw [List.take_of_length_le (by omega)]
        exact ⟨fadd G a c, g1, .inr (by rw [frun_add, g2])⟩
    · have e : crashed d.base (d.ops ++ [.lay a c.bytes]) m cut = fput d.now a (d.now a ++ c.bytes) := by
        unfold crashed
        rw [List.getElem?_eq_none (by simp; omega), List.take_of_length_le (by simp; omega)]
        show acts d.base (d.ops ++ [.lay a c.bytes]) = _
        rw [acts_snoc]
        rfl
      rw [e]
      exact ⟨fadd G a c, g1, .inr (by rw [frun_add, g2])⟩

theorem keep_out {s : WSt} {F : Int → List Chunk} {a : Nat} {z : Int} (hd : s.down = false) (h : Mids s.d F a z) {c : Chunk} (hc : c.Ok) :
    ((s.keep a z c.bytes).1 = 0 ∧ (s.keep a z c.bytes).2.limit = s.limit ∧ (s.keep a z c.bytes).2.d.fused = s.d.fused ∧ (s.keep a z c.bytes).2.d.ops = [] ∧ (s.keep a z c.bytes).2.d.base a ≠ [] ∧ ∃ G, LOk (s.keep a z c.bytes).2 G a ∧ frun G (a + 1) = kstep a (frun F (a + 1)) c) ∨
    ((s.keep a z c.bytes).1 = 14 ∧ s.d.fused = true ∧ (s.keep a z c.bytes).2.d.dead = true ∧ Fallen (s.keep a z c.bytes).2.d (a + 1) (frun F (a + 1)).1 (kstep a (frun F (a + 1)) c).1) := by
  have hne : c.bytes ≠ [] := fun e => by have := c.bytes_pos; rw [e] at this; simp at this
  have hfu : s.d.down = true → s.d.fused = true := fun e => by
    unfold DSt.down at e
    rw [h.dead] at e
    simp at e
    exact e.1
  by_cases hdn : s.d.down = true
  · right
    have ha : s.d.add a c.bytes = (14, s.d.fall) := by
      unfold DSt.add
      rw [if_neg (by omega), if_pos hdn]
    have hk : s.keep a z c.bytes = (14, s.fell s.d.fall) := by
      unfold WSt.keep
      rw [if_neg (by simp [hd]), ha, if_pos (by simp)]
    rw [hk]
    refine ⟨rfl, hfu hdn, rfl, fun done cut => ?_⟩
    obtain ⟨G, h1, h2⟩ := h.dok.crash done cut
    exact ⟨G, h1, .inl (by rw [h2])⟩
  · rw [Bool.not_eq_true] at hdn
    have ha := add_down hdn a (by omega) c.bytes
    have hl : s.d.lays a c.bytes = s.d.worked.push (.lay a c.bytes) := by unfold DSt.lays; rw [if_neg hne]
    have hops : (s.d.lays a c.bytes).ops = s.d.ops ++ [.lay a c.bytes] := by rw [hl]; rfl
    have hbase : (s.d.lays a c.bytes).base = s.d.base := by rw [hl]; rfl
    by_cases hdn2 : (s.d.lays a c.bytes).down = true
    · right
      have hy : (s.d.lays a c.bytes).sync = (14, (s.d.lays a c.bytes).fall) := by unfold DSt.sync; rw [if_pos hdn2]
      have hk : s.keep a z c.bytes = (14, s.fell (s.d.lays a c.bytes).fall) := by
        unfold WSt.keep
        rw [if_neg (by simp [hd]), ha, if_neg (by simp), hy, if_pos (by simp)]
      rw [hk]
      refine ⟨rfl, ?_, rfl, h.fallen hc (d' := (s.d.lays a c.bytes).fall) hbase hops⟩
      unfold DSt.down at hdn2
      rw [(lays_dead s.d a c.bytes).1, (lays_dead s.d a c.bytes).2, h.dead] at hdn2
      simp at hdn2
      exact hdn2.1
    · rw [Bool.not_eq_true] at hdn2
      left
      have hy := sync_down hdn2
      have hk : s.keep a z c.bytes = (0, { s with d := (s.d.lays a c.bytes).safe, at' := a, size := z + c.bytes.length }) := by
        unfold WSt.keep
        rw [if_neg (by simp [hd]), ha, if_neg (by simp), hy, if_neg (by simp)]
      have hnow : (s.d.lays a c.bytes).safe.base = fput s.d.now a (s.d.now a ++ c.bytes) := lays_now s.d a c.bytes
      obtain ⟨G, g1, g2, g3, g4, g5⟩ := h.add hc
      rw [hk]
      refine ⟨rfl, rfl, (lays_dead s.d a c.bytes).2, rfl, ?_, fadd G a c, ⟨hd, (lays_dead s.d a c.bytes).1.trans h.dead, ⟨?_, fun o ho => ?_⟩, rfl, ?_, ?_⟩, by rw [frun_add, g2]⟩
      · show (s.d.lays a c.bytes).safe.base a ≠ []
        rw [hnow]
        have e5 : fput s.d.now a (s.d.now a ++ c.bytes) a = s.d.now a ++ c.bytes := if_pos rfl
        rw [e5]
        simp [hne]
      · show Holds (s.d.lays a c.bytes).safe.base _ _
        rw [hnow]
        exact g1
      · have ho' : o ∈ ([] : List DOp) := ho
        simp at ho'
      · show (s.d.lays a c.bytes).safe.base a = _
        rw [hnow]
        have e4 : fadd G a c a = G a ++ [c] := by unfold fadd; rw [if_pos rfl]
        have e5 : fput s.d.now a (s.d.now a ++ c.bytes) a = s.d.now a ++ c.bytes := if_pos rfl
        rw [e4, e5, g3]
        simp
      · show z + c.bytes.length = (((s.d.lays a c.bytes).safe.base a).length : Int)
        rw [hnow]
        have e5 : fput s.d.now a (s.d.now a ++ c.bytes) a = s.d.now a ++ c.bytes := if_pos rfl
        rw [e5, g4, List.length_append, h.size]
        omega

/-- Commit. -/
theorem commit_out {s : WSt} {F : Int → List Chunk} {a : Nat} (h : LOk s F a) (l : List (List UInt8)) (hl : ∀ x ∈ l, x.length ≤ 1048576) :
    ((s.commit l).1 = 0 ∧ (s.commit l).2.limit = s.limit ∧ (s.commit l).2.d.fused = s.d.fused ∧ ∃ G b, LOk (s.commit l).2 G b ∧ b ≤ a + 1 ∧ (frun G (b + 1)).1 = (frun F (a + 1)).1 ++ l) ∨
    ((s.commit l).1 = 14 ∧ s.d.fused = true ∧ (s.commit l).2.d.dead = true ∧ Fallen (s.commit l).2.d (a + 2) (frun F (a + 1)).1 ((frun F (a + 1)).1 ++ l)) := by
  by_cases h0 : l = []
  · have hk : s.commit l = (0, s) := by unfold WSt.commit; rw [if_pos h0]
    rw [hk]
    exact .inl ⟨rfl, rfl, rfl, F, a, h, by omega, by rw [h0, List.append_nil]⟩
  · have hc : Chunk.Ok (false, l) := ⟨fun _ => h0, hl⟩
    have hk : s.commit l = s.keep s.to.1 s.to.2 (Chunk.bytes (false, l)) := by unfold WSt.commit; rw [if_neg h0]; rfl
    have hcs : ∀ (k : Int) (y : Recs), (kstep k y (false, l)).1 = y.1 ++ l := fun _ _ => rfl
    by_cases hz : s.limit ≤ s.size
    · have ht : s.to = (((a + 1 : Nat) : Int), 0) := by unfold WSt.to; rw [if_pos hz, h.at']; rfl
      obtain ⟨hm, hf⟩ := h.next
      rw [hk, ht]
      rcases keep_out h.down hm hc with ⟨h1, h2, h3, _, _, G, h4, h5⟩ | ⟨h1, h2, h3, h4⟩
      · exact .inl ⟨h1, h2, h3, G, a + 1, h4, by omega, by rw [h5, hcs, hf]⟩
      · rw [hf, hcs] at h4
        exact .inr ⟨h1, h2, h3, h4⟩
    · have ht : s.to = ((a : Int), s.size) := by unfold WSt.to; rw [if_neg hz, h.at']
      rw [hk, ht]
      rcases keep_out h.down h.mid hc with ⟨h1, h2, h3, _, _, G, h4, h5⟩ | ⟨h1, h2, h3, h4⟩
      · exact .inl ⟨h1, h2, h3, G, a, h4, by omega, by rw [h5, hcs]⟩
      · rw [hcs] at h4
        refine .inr ⟨h1, h2, h3, fun done cut => ?_⟩
        obtain ⟨G, h5, h6⟩ := h4 done cut
        have hw : Holds ((s.keep a s.size (Chunk.bytes (false, l))).2.d.crash done cut).base G (a + 2) := h5.wide (fun k hk => h5.no k (.inr (by omega)))
        refine ⟨G, hw, ?_⟩
        rw [hw.runs h5]
        exact h6

/-- Files go, one behind the other, as long as the disk does not fall. -/
structure Gone6 (s s' : WSt) (l : List Int) : Prop where
  base : s'.d.base = s.d.base
  rems : ∀ c : Int, (∀ k ∈ l, k < c) → Rems c s.d.ops → Rems c s'.d.ops
  fused : s'.d.fused = s.d.fused
  same : s'.limit = s.limit ∧ s'.at' = s.at' ∧ s'.size = s.size
  or : (s'.down = false ∧ s'.d.dead = false ∧ ∀ k, s'.d.now k = if k ∈ l then [] else s.d.now k) ∨ (s'.down = true ∧ s'.d.dead = true ∧ s.d.fused = true)

theorem rems_fields (d : DSt) (k : Int) : (d.rems k).base = d.base ∧ ((d.rems k).ops = d.ops ∨ (d.rems k).ops = d.ops ++ [.rem k]) ∧ (d.rems k).dead = d.dead ∧ (d.rems k).fused = d.fused := by
  unfold DSt.rems
  split
  · exact ⟨rfl, .inl rfl, rfl, rfl⟩
  · exact ⟨rfl, .inr rfl, rfl, rfl⟩

theorem rms_out {s : WSt} (hd : s.down = false) (hdead : s.d.dead = false) : ∀ (l : List Int), (∀ k ∈ l, 0 ≤ k) → Gone6 s (s.rms l) l := by
  intro l
  suffices h : ∀ n, n ≤ l.length → (∀ k ∈ l, 0 ≤ k) → Gone6 s (s.rms (l.take n)) (l.take n) by
    intro hl
    have := h l.length (Nat.le_refl _) hl
    rwa [List.take_length] at this
  intro n
  induction n with
  | zero => exact fun _ _ => ⟨rfl, fun c _ h => h, rfl, ⟨rfl, rfl, rfl⟩, .inl ⟨hd, hdead, fun k => by simp [WSt.rms]⟩⟩
  | succ n ih =>
    intro hn hl
    have g := ih (by omega) hl
    rw [List.take_succ_eq_append_getElem (by omega), WSt.rms_snoc]
    have hk0 := hl l[n] (List.getElem_mem (by omega))
    generalize l[n] = k at *
    generalize s.rms (l.take n) = s1 at *
    generalize l.take n = l1 at *
    rcases g.or with ⟨g1, g2, g3⟩ | ⟨g1, g2, g3⟩
    · by_cases hdn : s1.d.down = true
      · have hr : s1.d.rem k = (14, s1.d.fall) := by unfold DSt.rem; rw [if_neg (by omega), if_pos hdn]
        have e : s1.rm1 k = { s1 with d := s1.d.fall, down := true } := by
          unfold WSt.rm1
          rw [if_neg (by simp [g1]), hr]
          rfl
        rw [e]
        refine ⟨g.base, fun c hc h => g.rems c (fun x hx => hc x (by simp [hx])) h, g.fused, g.same, .inr ⟨rfl, rfl, ?_⟩⟩
        unfold DSt.down at hdn
        rw [g2, g.fused] at hdn
        simp at hdn
        exact hdn.1
      · rw [Bool.not_eq_true] at hdn
        have hr := rem_down hdn k hk0
        have e : s1.rm1 k = { s1 with d := s1.d.rems k } := by
          unfold WSt.rm1
          rw [if_neg (by simp [g1]), hr]
          show ({ s1 with d := s1.d.rems k, down := false } : WSt) = _
          rw [← g1]
        rw [e]
        obtain ⟨f1, f2, f3, f4⟩ := rems_fields s1.d k
        refine ⟨f1.trans g.base, fun c hc h => ?_, f4.trans g.fused, g.same, .inl ⟨g1, f3.trans g2, fun j => ?_⟩⟩
        · have h1 := g.rems c (fun x hx => hc x (by simp [hx])) h
          rcases f2 with f2 | f2
          · show Rems c (s1.d.rems k).ops
            rw [f2]
            exact h1
          · show Rems c (s1.d.rems k).ops
            rw [f2]
            intro o ho
            rcases List.mem_append.1 ho with ho | ho
            · exact h1 o ho
            · simp only [List.mem_singleton] at ho
              exact ⟨k, ho, hc k (by simp)⟩
        · show (s1.d.rems k).now j = _
          rw [rems_now]
          unfold fput
          rw [g3 j]
          by_cases hjk : j = k
          · simp [hjk]
          · simp [hjk]
    · have e : s1.rm1 k = s1 := by unfold WSt.rm1; rw [if_pos g1]
      rw [e]
      exact ⟨g.base, fun c hc h => g.rems c (fun x hx => hc x (by simp [hx])) h, g.fused, g.same, .inr ⟨g1, g2, g3⟩⟩

/-- Checkpoint. -/
theorem checkpoint_out {s : WSt} {F : Int → List Chunk} {a : Nat} (h : LOk s F a) (l : List (List UInt8)) (hl : ∀ x ∈ l, x.length ≤ 1048576) (ns : List Int) (hn : (s.kept l).1 = 0 → (s.kept l).2.d.Nums ns) :
    ((s.checkpoint l ns).1 = 0 ∧ (s.checkpoint l ns).2.limit = s.limit ∧ (s.checkpoint l ns).2.d.fused = s.d.fused ∧ ∃ G b, LOk (s.checkpoint l ns).2 G b ∧ b ≤ a + 1 ∧ (frun G (b + 1)).1 = l ∧ (s.checkpoint l ns).2.d.ops = [] ∧ s.place = b ∧ ∀ k, (s.checkpoint l ns).2.d.base k ≠ [] ↔ k = b) ∨
    ((s.checkpoint l ns).1 = 14 ∧ s.d.fused = true ∧ (s.checkpoint l ns).2.d.dead = true ∧ Fallen (s.checkpoint l ns).2.d (a + 2) (frun F (a + 1)).1 l) := by
  have hc : Chunk.Ok (true, l) := ⟨fun e => by simp at e, hl⟩
  have hcs : ∀ (k : Int) (y : Recs), kstep k y (true, l) = (l, k) := fun _ _ => rfl
  have hkept : s.kept l = s.keep s.place 0 (Chunk.bytes (true, l)) := rfl
  obtain ⟨b, hb, hpl, hm, hf⟩ : ∃ b : Nat, b ≤ a + 1 ∧ s.place = b ∧ Mids s.d F b 0 ∧ frun F (b + 1) = frun F (a + 1) := by
    by_cases hz : 0 < s.size
    · obtain ⟨hm, hf⟩ := h.next
      exact ⟨a + 1, Nat.le_refl _, by unfold WSt.place; rw [if_pos hz, h.at']; rfl, hm, hf⟩
    · have h0 : s.size = 0 := by have := h.size; omega
      exact ⟨a, by omega, by unfold WSt.place; rw [if_neg hz, h.at'], h0 ▸ h.mid, rfl⟩
  have hwide : ∀ (d : DSt) (x y : List (List UInt8)), Fallen d (b + 1) x y → Fallen d (a + 2) x y := fun d x y hd done cut => by
    obtain ⟨G, h5, h6⟩ := hd done cut
    have hw : Holds (d.crash done cut).base G (a + 2) := h5.wide (fun k hk => h5.no k (.inr (by omega)))
    refine ⟨G, hw, ?_⟩
    rw [hw.runs h5]
    exact h6
  have hko := keep_out h.down hm hc
  rw [← hpl, ← hkept, hcs, hf] at hko
  rcases hko with ⟨h1, h2, h3, h3', hbne, G, h4, h5⟩ | ⟨h1, h2, h3, h4⟩
  · have hck : s.checkpoint l ns = (s.kept l).2.clears ns := by unfold WSt.checkpoint; rw [if_pos h1]
    have hN := hn h1
    rw [hck]
    clear hck hn hkept h1
    generalize (s.kept l).2 = s1 at *
    have hat : s1.at' = b := h4.at'
    have h50 : (frun G (b + 1)).2 = b := by rw [h5, hpl]
    have h51 : (frun G (b + 1)).1 = l := by rw [h5]
    have hnow1 : s1.d.now = s1.d.base := by unfold DSt.now; rw [h3']; rfl
    have hread : ∀ k, s1.d.read k = s1.d.base k := fun k => by unfold DSt.read; rw [h4.dead, if_neg (by simp), hnow1]
    have hks : ∀ k ∈ ns.filter (· < s1.at'), 0 ≤ k ∧ k < b := fun k hk => by
      rw [List.mem_filter] at hk
      have h0 := (hN.2 k).1 hk.1
      rw [hread] at h0
      have h1 : ¬ k < 0 := fun e => h0 (h4.dok.holds.no k (.inl e))
      have h2 := hk.2
      simp [hat] at h2
      omega
    have g := rms_out h4.down h4.dead (ns.filter (· < s1.at')) (fun k hk => (hks k hk).1)
    have hrems := g.rems b (fun k hk => (hks k hk).2) (by rw [h3']; exact fun o ho => by simp at ho)
    have hdok : DOk (s1.rms (ns.filter (· < s1.at'))).d G (b + 1) := ⟨by rw [g.base]; exact h4.dok.holds, by rw [h50]; exact hrems⟩
    rw [hpl] at hbne
    unfold WSt.clears
    generalize hs2 : s1.rms (ns.filter (· < s1.at')) = s2 at *
    rcases g.or with ⟨g1, g2, g3⟩ | ⟨g1, g2, g3⟩
    · by_cases hdn : s2.d.down = true
      · right
        have hy : s2.d.sync = (14, s2.d.fall) := by unfold DSt.sync; rw [if_pos hdn]
        have e : s2.done = (14, s2.fell s2.d.fall) := by unfold WSt.done; rw [if_neg (by simp [g1]), hy, if_pos (by simp)]
        rw [e]
        refine ⟨rfl, ?_, rfl, hwide _ _ _ (fun done cut => ?_)⟩
        · unfold DSt.down at hdn
          rw [g2, g.fused, h3] at hdn
          simp at hdn
          exact hdn.1
        · obtain ⟨G2, k1, k2⟩ := hdok.crash done cut
          exact ⟨G2, k1, .inr (by rw [k2, h51])⟩
      · rw [Bool.not_eq_true] at hdn
        left
        have hy := sync_down hdn
        have e : s2.done = (0, { s2 with d := s2.d.safe }) := by unfold WSt.done; rw [if_neg (by simp [g1]), hy, if_neg (by simp)]
        rw [e]
        obtain ⟨G2, k1, k2, k3⟩ := hdok.now
        have kb := k3 b (by rw [h50]; omega)
        refine ⟨rfl, g.same.1.trans h2, g.fused.trans h3, G2, b, ⟨g1, g2, ⟨k1, fun o ho => ?_⟩, g.same.2.1.trans hat, ?_, ?_⟩, hb, by rw [k2, h51], rfl, hpl, fun k => ?_⟩
        · have ho' : o ∈ ([] : List DOp) := ho
          simp at ho'
        · show s2.d.now b = _
          rw [kb.1, kb.2, g.base]
          exact h4.is
        · show s2.size = ((s2.d.now b).length : Int)
          rw [kb.2, g.base, g.same.2.2]
          exact h4.size
        · show s2.d.now k ≠ [] ↔ k = b
          rw [g3 k, hnow1]
          constructor
          · intro hk
            split at hk
            · simp at hk
            · rename_i hkn
              have h0 : k ∈ ns := (hN.2 k).2 (by rw [hread]; exact hk)
              have h1 : ¬ (k < 0 ∨ ((b + 1 : Nat) : Int) ≤ k) := fun e => hk (h4.dok.holds.no k e)
              have h2 : ¬ k < b := fun e => hkn (List.mem_filter.2 ⟨h0, by simpa [hat] using e⟩)
              omega
          · rintro rfl
            rw [if_neg (fun e => by have := (hks _ e).2; omega)]
            exact hbne
    · right
      have e : s2.done = (14, s2) := by unfold WSt.done; rw [if_pos g1]
      rw [e]
      refine ⟨rfl, by rw [← h3]; exact g3, g2, hwide _ _ _ (fun done cut => ?_)⟩
      obtain ⟨G2, k1, k2⟩ := hdok.crash done cut
      exact ⟨G2, k1, .inr (by rw [k2, h51])⟩
  · have hck : s.checkpoint l ns = s.kept l := by unfold WSt.checkpoint; rw [if_neg (by rw [h1]; simp)]
    rw [hck]
    refine .inr ⟨h1, h2, h3, ?_⟩
    exact hwide _ _ _ (by rw [hpl] at h4; exact h4)

/-- Open. -/
theorem open_out {d : DSt} {F : Int → List Chunk} {n : Nat} (h : DOk d F n) (hd : d.dead = false) (hfu : d.fused = false) (seg : Int) {ns : List Int} (hn : d.Nums ns) :
    ∃ (y : HSt) (a : Nat), openN d.read ns (HSt.zero, 0) = some (y, (a : Int)) ∧ y.recs = (frun F n).1 ∧ a ≤ n ∧ LOk ⟨d.gone (ns.filter (· < y.since)), seg, a, 0, false⟩ F a ∧ frun F (a + 1) = frun F n ∧ (d.gone (ns.filter (· < y.since))).fused = false ∧ (d.gone (ns.filter (· < y.since))).base = d.base := by
  have hread : d.read = d.now := by funext k; unfold DSt.read; rw [hd, if_neg (by simp)]
  obtain ⟨G, g1, g2, g3⟩ := h.now
  have hR : RNums d.now ns := ⟨hn.1, fun k => by rw [hn.2 k, hread]⟩
  obtain ⟨y, a, o1, o2, o3, o4⟩ := g1.opens hR
  have hy1 : y.recs = (frun F n).1 := by rw [← g2, ← o2]
  have hy2 : y.since = (frun F n).2 := by rw [← g2, ← o2]
  have hca : (frun F n).2 ≤ a := by
    have h1 : frun G a = frun F n := by rw [← g2]; exact o4.runs g1
    have h2 := frun_lt G a
    rw [h1] at h2
    omega
  have hhold : Holds d.base F (a + 1) := h.holds.wide (fun k hk => by rw [← (g3 k (by omega)).2]; exact o4.no k (.inr (by omega)))
  have hfr : frun F (a + 1) = frun F n := hhold.runs h.holds
  have hba : d.base a = [] := by rw [← (g3 a hca).2]; exact o4.no a (.inr (by omega))
  have hks : ∀ k ∈ ns.filter (· < y.since), 0 ≤ k ∧ k < (frun F n).2 := fun k hk => by
    rw [List.mem_filter] at hk
    have h0 := (hR.2 k).1 hk.1
    have h1 : ¬ k < 0 := fun e => h0 (g1.no k (.inl e))
    have h2 := hk.2
    simp [hy2] at h2
    omega
  have hgone : ∀ l : List Int, (∀ k ∈ l, 0 ≤ k ∧ k < (frun F n).2) → ∀ d1 : DSt, d1.dead = false → d1.fused = false → d1.base = d.base → Rems (frun F n).2 d1.ops → (d1.gone l).dead = false ∧ (d1.gone l).fused = false ∧ (d1.gone l).base = d.base ∧ Rems (frun F n).2 (d1.gone l).ops := by
    intro l
    induction l with
    | nil => exact fun _ d1 h1 h2 h3 h4 => ⟨h1, h2, h3, h4⟩
    | cons k r ih =>
      intro hl d1 h1 h2 h3 h4
      have hdn : d1.down = false := by unfold DSt.down; rw [h1, h2]; rfl
      have hk := hl k (by simp)
      have e : d1.gone (k :: r) = (d1.rems k).gone r := by
        show ((d1.rem k).2).gone r = _
        rw [rem_down hdn k hk.1]
      obtain ⟨f1, f2, f3, f4⟩ := rems_fields d1 k
      rw [e]
      refine ih (fun x hx => hl x (by simp [hx])) _ (f3.trans h1) (f4.trans h2) (f1.trans h3) ?_
      rcases f2 with f2 | f2
      · rw [f2]
        exact h4
      · rw [f2]
        intro o ho
        rcases List.mem_append.1 ho with ho | ho
        · exact h4 o ho
        · simp only [List.mem_singleton] at ho
          exact ⟨k, ho, hk.2⟩
  obtain ⟨e1, e2, e3, e4⟩ := hgone _ hks d hd hfu rfl h.rems
  refine ⟨y, a, by rw [hread]; exact o1, hy1, o3, ⟨rfl, e1, ⟨?_, ?_⟩, rfl, ?_, ?_⟩, hfr, e2, e3⟩
  · show Holds (d.gone _).base F (a + 1)
    rw [e3]
    exact hhold
  · rw [hfr]
    exact e4
  · show (d.gone _).base a = _
    rw [e3, hba, h.holds.none hba]
    rfl
  · show (0 : Int) = (((d.gone (ns.filter (· < y.since))).base a).length : Int)
    rw [e3, hba]
    rfl

end Go.Proofs.YtnipdgigjcaolaaGreat
