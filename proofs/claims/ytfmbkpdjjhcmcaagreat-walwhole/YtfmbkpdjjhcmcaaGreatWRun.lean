/- What is opened of files of whole commits and checkpoints, plainly: what stays where some of those ahead are gone, and behind a crash. -/
import Derived.Test.YtfmbkpdjjhcmcaaGreatWFrs
import Derived.Test.YtfmbkpdjjhcmcaaGreatWRem
namespace Go.Proofs.YtfmbkpdjjhcmcaaGreat

/-- Files 0 to n - 1 are taken. -/
def frun (F : Int → List Chunk) : Nat → Recs
  | 0 => ([], 0)
  | n + 1 => krun n (F n) (frun F n)

theorem krun_two (k : Int) : ∀ (cs : List Chunk) (y : Recs), ((krun k cs y).2 = k ∧ ∀ y', krun k cs y' = krun k cs y) ∨ (krun k cs y).2 = y.2
  | [], y => .inr rfl
  | c :: r, y => by
    have e : ∀ y, krun k (c :: r) y = krun k r (kstep k y c) := fun _ => rfl
    rcases krun_two k r (kstep k y c) with h | h
    · exact .inl ⟨by rw [e]; exact h.1, fun y' => by rw [e, e]; exact h.2 _⟩
    · cases hc : c.1 with
      | true =>
        have e2 : ∀ y, kstep k y c = (c.2, k) := fun y => by unfold kstep; rw [hc]; rfl
        refine .inl ⟨?_, fun y' => by rw [e, e, e2, e2]⟩
        rw [e, h, e2]
      | false =>
        have e2 : (kstep k y c).2 = y.2 := by unfold kstep; rw [hc]; rfl
        exact .inr (by rw [e, h, e2])

theorem krun_snoc (k : Int) (cs : List Chunk) (c : Chunk) (y : Recs) : krun k (cs ++ [c]) y = kstep k (krun k cs y) c := by simp [krun]

theorem frun_lt (F : Int → List Chunk) : ∀ n : Nat, 0 ≤ (frun F n).2 ∧ ((frun F n).2 < n ∨ (frun F n).2 = 0)
  | 0 => ⟨Int.le_refl _, .inr rfl⟩
  | n + 1 => by
    have ih := frun_lt F n
    have e : frun F (n + 1) = krun n (F n) (frun F n) := rfl
    rcases krun_two n (F n) (frun F n) with h | h
    · rw [e, h.1]
      omega
    · rw [e, h]
      omega

/-- What stands ahead of the last checkpoint counts for nothing. -/
theorem frun_cut {F G : Int → List Chunk} {c : Int} (hG : ∀ k, c ≤ k → G k = F k) : ∀ n : Nat, c ≤ (frun F n).2 → frun G n = frun F n
  | 0, _ => rfl
  | n + 1, hc => by
    have e : frun F (n + 1) = krun n (F n) (frun F n) := rfl
    have e' : frun G (n + 1) = krun n (G n) (frun G n) := rfl
    rw [e] at hc
    rcases krun_two n (F n) (frun F n) with h | h
    · rw [h.1] at hc
      rw [e, e', hG n hc, h.2]
    · rw [h] at hc
      have := frun_lt F n
      rw [e, e', hG n (by omega), frun_cut hG n hc]

theorem frun_same {F G : Int → List Chunk} : ∀ n : Nat, (∀ k : Int, k < n → G k = F k) → frun G n = frun F n
  | 0, _ => rfl
  | n + 1, h => by
    have e : frun F (n + 1) = krun n (F n) (frun F n) := rfl
    have e' : frun G (n + 1) = krun n (G n) (frun G n) := rfl
    rw [e, e', h n (by omega), frun_same n (fun k hk => h k (by omega))]

theorem frun_more {F : Int → List Chunk} {n : Nat} (hF : ∀ k : Int, n ≤ k → F k = []) : ∀ m : Nat, n ≤ m → frun F m = frun F n := by
  intro m hm
  obtain ⟨d, rfl⟩ : ∃ d, m = n + d := ⟨m - n, by omega⟩
  clear hm
  induction d with
  | zero => rfl
  | succ d ih =>
    have e : frun F (n + (d + 1)) = krun (n + d : Nat) (F (n + d : Nat)) (frun F (n + d)) := rfl
    rw [e, hF _ (by omega), ih]
    rfl

theorem whole_nil : Whole [] [] := ⟨fun c hc => by simp at hc, [], torn_nil, rfl⟩

theorem Chunk.bytes_pos (c : Chunk) : 9 ≤ c.bytes.length := by
  unfold Chunk.bytes laidOf
  rw [List.length_append, record_length]
  omega

theorem Whole.none {cs : List Chunk} (h : Whole [] cs) : cs = [] := by
  obtain ⟨t, _, e⟩ := h.is
  cases cs with
  | nil => rfl
  | cons c r =>
    have := congrArg List.length e
    have h1 := c.bytes_pos
    simp only [List.map_cons, List.flatten_cons, List.append_assoc, List.length_append, List.length_nil] at this
    omega

/-- Files 0 to n - 1 are of whole commits and checkpoints, each with a torn end; there are no others. -/
structure Holds (rd : Fs) (F : Int → List Chunk) (n : Nat) : Prop where
  whole : ∀ k, Whole (rd k) (F k)
  no : ∀ k : Int, k < 0 ∨ (n : Int) ≤ k → rd k = []

theorem Holds.none {rd : Fs} {F : Int → List Chunk} {n : Nat} (h : Holds rd F n) {k : Int} (hk : rd k = []) : F k = [] := Whole.none (hk ▸ h.whole k)

theorem Holds.wide {rd : Fs} {F : Int → List Chunk} {n m : Nat} (h : Holds rd F n) (hm : ∀ k : Int, (m : Int) ≤ k → rd k = []) : Holds rd F m := ⟨h.whole, fun k hk => hk.elim (fun e => h.no k (.inl e)) (hm k)⟩

theorem Holds.runs {rd : Fs} {F : Int → List Chunk} {n m : Nat} (h : Holds rd F n) (h2 : Holds rd F m) : frun F n = frun F m := by
  rcases Nat.le_total n m with e | e
  · exact (frun_more (fun k hk => h.none (h.no k (.inr hk))) m e).symm
  · exact frun_more (fun k hk => h2.none (h2.no k (.inr hk))) n e

/-- A Disk's files that are there, rising. -/
def RNums (rd : Fs) (l : List Int) : Prop := l.Pairwise (· < ·) ∧ ∀ k, k ∈ l ↔ rd k ≠ []

theorem numsN (n : Nat) : ((List.range n).map (fun i : Nat => (i : Int))).Pairwise (· < ·) := by
  rw [List.pairwise_map]
  exact List.pairwise_lt_range.imp (fun h => by omega)

theorem Holds.nums {rd : Fs} {F : Int → List Chunk} {n : Nat} (h : Holds rd F n) {l : List Int} (hl : RNums rd l) : l = ((List.range n).map (fun i : Nat => (i : Int))).filter (fun k => !(rd k).isEmpty) := by
  refine rise_same hl.1 ((numsN n).sublist List.filter_sublist) (fun k => ?_)
  rw [hl.2 k, List.mem_filter]
  constructor
  · intro hk
    have h0 : ¬ (k < 0 ∨ (n : Int) ≤ k) := fun e => hk (h.no k e)
    refine ⟨List.mem_map.2 ⟨k.toNat, by rw [List.mem_range]; omega, by omega⟩, ?_⟩
    cases hr : rd k with
    | nil => exact absurd hr hk
    | cons a r => rfl
  · intro hk e
    rw [e] at hk
    simp at hk

theorem Holds.len {rd : Fs} {F : Int → List Chunk} {n : Nat} (h : Holds rd F n) {l : List Int} (hl : RNums rd l) : l.length ≤ n := by
  rw [h.nums hl]
  refine Nat.le_trans (List.length_filter_le _ _) ?_
  simp

theorem fold_range {rd : Fs} {F : Int → List Chunk} (hF : ∀ k, rd k = [] → F k = []) : ∀ n : Nat, (((List.range n).map (fun i : Nat => (i : Int))).filter (fun k => !(rd k).isEmpty)).foldl (fun y k => krun k (F k) y) ([], 0) = frun F n
  | 0 => rfl
  | n + 1 => by
    rw [List.range_succ, List.map_append, List.filter_append, List.foldl_append, fold_range hF n]
    have e : frun F (n + 1) = krun n (F n) (frun F n) := rfl
    rw [e]
    cases hr : rd n with
    | nil =>
      have e2 : List.filter (fun k => !(rd k).isEmpty) (List.map (fun i : Nat => (i : Int)) [n]) = [] := by simp [hr]
      rw [e2, hF n hr]
      rfl
    | cons a r =>
      have e2 : List.filter (fun k => !(rd k).isEmpty) (List.map (fun i : Nat => (i : Int)) [n]) = [(n : Int)] := by simp [hr]
      rw [e2]
      rfl

theorem last_num : ∀ (l : List Int) (x : Int), l.Pairwise (· < ·) → (l = [] ∧ l.foldl (fun _ k => k + 1) x = x) ∨ ((l.foldl (fun _ k => k + 1) x - 1) ∈ l ∧ ∀ k ∈ l, k < l.foldl (fun _ k => k + 1) x)
  | [], x, _ => .inl ⟨rfl, rfl⟩
  | a :: r, x, h => by
    rw [List.pairwise_cons] at h
    right
    rw [List.foldl_cons]
    rcases last_num r (a + 1) h.2 with ⟨rfl, e⟩ | ⟨h1, h2⟩
    · rw [e]
      exact ⟨by simp, fun k hk => by simp at hk; omega⟩
    · refine ⟨List.mem_cons_of_mem _ h1, fun k hk => ?_⟩
      rcases List.mem_cons.1 hk with rfl | hk
      · have := h.1 _ h1; have := h2 _ h1; omega
      · exact h2 k hk

/-- Such files are opened. -/
theorem Holds.opens {rd : Fs} {F : Int → List Chunk} {n : Nat} (h : Holds rd F n) {l : List Int} (hl : RNums rd l) : ∃ (y : HSt) (a : Nat), openN rd l (HSt.zero, 0) = some (y, (a : Int)) ∧ (y.recs, y.since) = frun F n ∧ a ≤ n ∧ Holds rd F a := by
  obtain ⟨y, h1, h2⟩ := openN_whole (rd := rd) (F := F) l (HSt.zero, 0) (fun k _ => h.whole k)
  have h3 : l.foldl (fun y k => krun k (F k) y) (HSt.zero.recs, HSt.zero.since) = frun F n := by
    have := fold_range (rd := rd) (F := F) (fun k => h.none) n
    rw [← h.nums hl] at this
    exact this
  have hin : ∀ k ∈ l, 0 ≤ k ∧ k < n := fun k hk => by
    have h0 : ¬ (k < 0 ∨ (n : Int) ≤ k) := fun e => (hl.2 k).1 hk (h.no k e)
    omega
  rcases last_num l 0 hl.1 with ⟨e, e2⟩ | ⟨e1, e2⟩
  · refine ⟨y, 0, ?_, h2.trans h3, by omega, h.wide (fun k _ => ?_)⟩
    · rw [h1, e2]; rfl
    · by_cases hr : rd k = []
      · exact hr
      · have := (hl.2 k).2 hr
        rw [e] at this
        simp at this
  · have hb := hin _ e1
    refine ⟨y, (l.foldl (fun _ k => k + 1) 0).toNat, ?_, h2.trans h3, by omega, h.wide (fun k hk => ?_)⟩
    · rw [h1]
      congr 2
      show l.foldl (fun _ k => k + 1) 0 = _
      omega
    · by_cases hr : rd k = []
      · exact hr
      · have := e2 k ((hl.2 k).2 hr)
        omega

/-- Some of the files ahead of c are gone. -/
def Half (c : Int) (s s' : Fs) : Prop := ∀ k, (c ≤ k → s' k = s k) ∧ (s' k = s k ∨ s' k = [])

theorem Half.refl (c : Int) (s : Fs) : Half c s s := fun _ => ⟨fun _ => rfl, .inl rfl⟩

theorem Half.trans {c : Int} {a b d : Fs} (h : Half c a b) (h2 : Half c b d) : Half c a d := fun k => by
  refine ⟨fun hc => ((h2 k).1 hc).trans ((h k).1 hc), ?_⟩
  rcases (h2 k).2 with e | e
  · rw [e]
    exact (h k).2
  · exact .inr e

def Rems (c : Int) (l : List DOp) : Prop := ∀ o ∈ l, ∃ k, o = .rem k ∧ k < c

theorem Rems.half {c : Int} : ∀ {l : List DOp} {s : Fs}, Rems c l → Half c s (acts s l)
  | [], s, _ => Half.refl c s
  | o :: r, s, h => by
    obtain ⟨k, rfl, hk⟩ := h o (by simp)
    have h1 : Half c s (act s (.rem k)) := fun i => by
      show (c ≤ i → fput s k [] i = s i) ∧ (fput s k [] i = s i ∨ fput s k [] i = [])
      unfold fput
      split
      · exact ⟨fun e => by omega, .inr rfl⟩
      · exact ⟨fun _ => rfl, .inl rfl⟩
    exact h1.trans (Rems.half (l := r) (fun x hx => h x (by simp [hx])))

theorem Holds.half {rd rd' : Fs} {F : Int → List Chunk} {n : Nat} {c : Int} (h : Holds rd F n) (hc : c ≤ (frun F n).2) (hh : Half c rd rd') : ∃ G, Holds rd' G n ∧ frun G n = frun F n ∧ ∀ k, c ≤ k → G k = F k := by
  refine ⟨fun k => if (rd' k).isEmpty then [] else F k, ⟨fun k => ?_, fun k hk => ?_⟩, ?_⟩
  · cases hr : rd' k with
    | nil => exact whole_nil
    | cons a r =>
      show Whole (a :: r) (F k)
      rcases (hh k).2 with e | e
      · rw [← hr, e]
        exact h.whole k
      · rw [hr] at e
        simp at e
  · rcases (hh k).2 with e | e
    · rw [e]
      exact h.no k hk
    · exact e
  · have hg : ∀ k, c ≤ k → (if (rd' k).isEmpty then [] else F k) = F k := fun k hk => by
      have e := (hh k).1 hk
      rw [e]
      split
      · rename_i e2
        rw [h.none (List.isEmpty_iff.1 e2)]
      · rfl
    exact ⟨frun_cut hg n hc, hg⟩

/-- A commit or checkpoint more, behind whole ones, in the last file. -/
def fadd (F : Int → List Chunk) (a : Int) (c : Chunk) : Int → List Chunk := fun k => if k = a then F a ++ [c] else F k

theorem frun_add (F : Int → List Chunk) (a : Nat) (c : Chunk) : frun (fadd F a c) (a + 1) = kstep a (frun F (a + 1)) c := by
  have e : frun (fadd F a c) (a + 1) = krun a (fadd F a c a) (frun (fadd F a c) a) := rfl
  have e2 : frun F (a + 1) = krun a (F a) (frun F a) := rfl
  have e3 : frun (fadd F a c) a = frun F a := frun_same a (fun k hk => by unfold fadd; rw [if_neg (by omega)])
  have e4 : fadd F a c a = F a ++ [c] := by unfold fadd; rw [if_pos rfl]
  rw [e, e3, e4, krun_snoc, e2]

theorem Holds.add {rd : Fs} {F : Int → List Chunk} {a : Nat} (h : Holds rd F (a + 1)) {c : Chunk} (hc : c.Ok) (he : rd a = ((F a).map Chunk.bytes).flatten) : Holds (fput rd a (rd a ++ c.bytes)) (fadd F a c) (a + 1) := by
  refine ⟨fun k => ?_, fun k hk => ?_⟩
  · unfold fput fadd
    by_cases hka : k = a
    · rw [if_pos hka, if_pos hka]
      refine ⟨fun x hx => ?_, [], torn_nil, by rw [he]; simp⟩
      rcases List.mem_append.1 hx with hx | hx
      · exact (h.whole a).ok x hx
      · simp only [List.mem_singleton] at hx
        exact hx ▸ hc
    · rw [if_neg hka, if_neg hka]
      exact h.whole k
  · unfold fput
    rw [if_neg (by omega)]
    exact h.no k hk

theorem Holds.torn {rd : Fs} {F : Int → List Chunk} {a : Nat} (h : Holds rd F (a + 1)) {c : Chunk} (hc : c.Ok) (he : rd a = ((F a).map Chunk.bytes).flatten) (n : Nat) (hn : n < c.bytes.length) : Holds (fput rd a (rd a ++ c.bytes.take n)) F (a + 1) := by
  refine ⟨fun k => ?_, fun k hk => ?_⟩
  · unfold fput
    by_cases hka : k = a
    · rw [if_pos hka, hka]
      exact ⟨(h.whole a).ok, _, ⟨c, n, hc, hn, rfl⟩, by rw [he]⟩
    · rw [if_neg hka]
      exact h.whole k
  · unfold fput
    rw [if_neg (by omega)]
    exact h.no k hk

end Go.Proofs.YtfmbkpdjjhcmcaaGreat
