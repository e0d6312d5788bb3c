/- A Disk's state, plainly: what is safe, what pends, the fuse; and a Disk in memory that is in it. -/
import Derived.Test.YtfmbkpdjjhcmcaaGreatDPutA
namespace Go.Proofs.YtfmbkpdjjhcmcaaGreat
open Go.RowKit

/-- A Disk, plainly. -/
structure DSt where
  base : Fs
  ops : List DOp
  works : Nat
  fused : Bool
  left : Int
  dead : Bool

def DOp.key : DOp → Int
  | .lay k _ => k
  | .rem k => k

namespace DSt

def zero : DSt := ⟨fun _ => [], [], 0, false, 0, false⟩
def now (s : DSt) : Fs := acts s.base s.ops
def down (s : DSt) : Bool := s.dead || (s.fused && s.left == 0)
def fall (s : DSt) : DSt := { s with dead := true }
def worked (s : DSt) : DSt := { s with works := s.works + 1, left := if s.fused then s.left - 1 else s.left }
def push (s : DSt) (o : DOp) : DSt := { s with ops := s.ops ++ [o] }
def lays (s : DSt) (f : Int) (bs : List UInt8) : DSt := if bs = [] then s.worked else s.worked.push (.lay f bs)
def rems (s : DSt) (f : Int) : DSt := if s.now f = [] then s.worked else s.worked.push (.rem f)
def safe (s : DSt) : DSt := { s.worked with base := s.now, ops := [] }
def fuse (s : DSt) (n : Int) : DSt := { s with fused := decide (0 ≤ n), left := n }
def crash (s : DSt) (done cut : Int) : DSt := ⟨crashed s.base s.ops (done % ((s.ops.length : Int) + 1)).toNat cut, [], s.works, false, -1, false⟩
def read (s : DSt) (k : Int) : List UInt8 := if s.dead then [] else s.now k

def add (s : DSt) (f : Int) (bs : List UInt8) : Int × DSt := if f < 0 then (1, s) else if s.down then (14, s.fall) else (0, s.lays f bs)
def rem (s : DSt) (f : Int) : Int × DSt := if f < 0 then (1, s) else if s.down then (14, s.fall) else (0, s.rems f)
def sync (s : DSt) : Int × DSt := if s.down then (14, s.fall) else (0, s.safe)

/-- What keeps a state within bounds. -/
structure Fit (N : Nat) (s : DSt) : Prop where
  keys : ∃ L : List Int, L.length ≤ N ∧ (∀ k, s.base k ≠ [] → k ∈ L) ∧ ∀ o ∈ s.ops, o.key ∈ L
  many : s.ops.length ≤ N
  works : s.works ≤ N
  left : s.fused = true → 0 ≤ s.left
  lo : -9223372036854775808 ≤ s.left
  hi : s.left ≤ 9223372036854775807
  lay : ∀ k bs, DOp.lay k bs ∈ s.ops → bs ≠ []

theorem Fit.zero : Fit 0 zero := ⟨⟨[], by simp, fun k h => absurd rfl h, by simp [DSt.zero]⟩, by simp [DSt.zero], by simp [DSt.zero], by simp [DSt.zero], by simp [DSt.zero], by simp [DSt.zero], by simp [DSt.zero]⟩

theorem Fit.fall {N : Nat} {s : DSt} (h : Fit N s) : Fit N s.fall := ⟨h.keys, h.many, h.works, h.left, h.lo, h.hi, h.lay⟩

theorem Fit.mono {N M : Nat} {s : DSt} (h : Fit N s) (hm : N ≤ M) : Fit M s := by
  obtain ⟨L, h1, h2⟩ := h.keys
  exact ⟨⟨L, by omega, h2⟩, by have := h.many; omega, by have := h.works; omega, h.left, h.lo, h.hi, h.lay⟩

theorem Fit.worked {N : Nat} {s : DSt} (h : Fit N s) (hd : s.down = false) : Fit (N + 1) s.worked := by
  obtain ⟨L, h1, h2⟩ := h.keys
  have hm := h.many
  have hw := h.works
  have hl := h.left
  have hlo := h.lo
  have hhi := h.hi
  refine ⟨⟨L, by omega, h2⟩, by show s.ops.length ≤ _; omega, by show s.works + 1 ≤ _; omega, ?_, ?_, ?_, h.lay⟩
  · intro hf
    have hf' : s.fused = true := hf
    show 0 ≤ if s.fused = true then s.left - 1 else s.left
    have := hl hf'
    have h0 : s.left ≠ 0 := by
      intro e
      unfold DSt.down at hd
      rw [hf', e] at hd
      simp at hd
    rw [if_pos hf']
    omega
  · show _ ≤ if s.fused = true then s.left - 1 else s.left
    split
    · have := hl ‹_›; omega
    · omega
  · show (if s.fused = true then s.left - 1 else s.left) ≤ _
    split <;> omega

theorem Fit.push {N : Nat} {s : DSt} (h : Fit N s) (hd : s.down = false) (o : DOp) (ho : ∀ k bs, o = .lay k bs → bs ≠ []) : Fit (N + 1) (s.worked.push o) := by
  have hw := h.worked hd
  obtain ⟨L, h1, h2, h3⟩ := h.keys
  have hm := h.many
  refine ⟨⟨o.key :: L, by simp; omega, fun k hk => List.mem_cons_of_mem _ (h2 k hk), ?_⟩, by show (s.ops ++ [o]).length ≤ _; simp; omega, hw.works, hw.left, hw.lo, hw.hi, ?_⟩
  · intro x hx
    have hx' : x ∈ s.ops ++ [o] := hx
    rcases List.mem_append.1 hx' with hx | hx
    · exact List.mem_cons_of_mem _ (h3 x hx)
    · simp only [List.mem_singleton] at hx
      subst hx
      exact List.mem_cons_self
  · intro k bs hx
    have hx' : DOp.lay k bs ∈ s.ops ++ [o] := hx
    rcases List.mem_append.1 hx' with hx | hx
    · exact h.lay k bs hx
    · simp only [List.mem_singleton] at hx
      exact ho k bs hx.symm

theorem fput_keys {s : Fs} {f : Int} {x : List UInt8} {L : List Int} (h : ∀ k, s k ≠ [] → k ∈ L) (hf : f ∈ L) : ∀ k, fput s f x k ≠ [] → k ∈ L := by
  intro k hk
  by_cases e : k = f
  · rw [e]; exact hf
  · have e2 : fput s f x k = s k := if_neg e
    rw [e2] at hk
    exact h k hk

theorem act_keys {s : Fs} {o : DOp} {L : List Int} (h : ∀ k, s k ≠ [] → k ∈ L) (ho : o.key ∈ L) : ∀ k, act s o k ≠ [] → k ∈ L := by
  cases o with
  | lay f bs => exact fput_keys h ho
  | rem f => exact fput_keys h ho

theorem acts_keys {L : List Int} : ∀ (l : List DOp) {s : Fs}, (∀ k, s k ≠ [] → k ∈ L) → (∀ o ∈ l, o.key ∈ L) → ∀ k, acts s l k ≠ [] → k ∈ L
  | [], s, h, _ => h
  | o :: r, s, h, hl => acts_keys r (act_keys h (hl o (by simp))) (fun x hx => hl x (by simp [hx]))

theorem Fit.now {N : Nat} {s : DSt} (h : Fit N s) : ∃ L : List Int, L.length ≤ N ∧ ∀ k, s.now k ≠ [] → k ∈ L := by
  obtain ⟨L, h1, h2, h3⟩ := h.keys
  exact ⟨L, h1, acts_keys s.ops h2 h3⟩

theorem Fit.safe {N : Nat} {s : DSt} (h : Fit N s) (hd : s.down = false) : Fit (N + 1) s.safe := by
  have hw := h.worked hd
  obtain ⟨L, h1, h2⟩ := h.now
  exact ⟨⟨L, by omega, h2, by simp [DSt.safe]⟩, by simp [DSt.safe], hw.works, hw.left, hw.lo, hw.hi, by simp [DSt.safe]⟩

theorem Fit.fuse {N : Nat} {s : DSt} (h : Fit N s) (n : Int) (h0 : -9223372036854775808 ≤ n) (h1 : n ≤ 9223372036854775807) : Fit N (s.fuse n) :=
  ⟨h.keys, h.many, h.works, fun hf => by simpa [DSt.fuse] using hf, h0, h1, h.lay⟩

theorem part_keys {s : Fs} {o : DOp} {c : Nat} {L : List Int} (h : ∀ k, s k ≠ [] → k ∈ L) (ho : o.key ∈ L) : ∀ k, partOf s c o k ≠ [] → k ∈ L := by
  cases o with
  | lay f bs => exact fput_keys h ho
  | rem f => exact h

theorem crashed_keys {s : Fs} {l : List DOp} {n : Nat} {cut : Int} {L : List Int} (h : ∀ k, s k ≠ [] → k ∈ L) (hl : ∀ o ∈ l, o.key ∈ L) : ∀ k, crashed s l n cut k ≠ [] → k ∈ L := by
  have ht : ∀ k, acts s (l.take n) k ≠ [] → k ∈ L := acts_keys (l.take n) h (fun o ho => hl o (List.mem_of_mem_take ho))
  rcases e : l[n]? with _ | o
  · unfold crashed
    rw [e]
    exact ht
  · cases o with
    | lay k bs =>
      unfold crashed
      rw [e]
      exact part_keys ht (hl _ (List.mem_of_getElem? e))
    | rem k =>
      unfold crashed
      rw [e]
      exact ht

theorem Fit.crash {N : Nat} {s : DSt} (h : Fit N s) (done cut : Int) : Fit N (s.crash done cut) := by
  obtain ⟨L, h1, h2, h3⟩ := h.keys
  exact ⟨⟨L, h1, crashed_keys h2 h3, by simp [DSt.crash]⟩, by simp [DSt.crash], h.works, by simp [DSt.crash], by simp [DSt.crash], by simp [DSt.crash], by simp [DSt.crash]⟩

end DSt

/-- A rising list of members of L is no longer than L. -/
theorem rise_le : ∀ (L : List Int) (l : List Int), l.Pairwise (· < ·) → (∀ k ∈ l, k ∈ L) → l.length ≤ L.length
  | L, [], _, _ => by simp
  | L, k :: r, hp, hm => by
    have hk := hm k (by simp)
    have hp' := List.pairwise_cons.1 hp
    have := rise_le (L.erase k) r hp'.2 (fun x hx => by
      have hne : x ≠ k := by have := hp'.1 x hx; omega
      exact (List.mem_erase_of_ne hne).2 (hm x (by simp [hx])))
    rw [List.length_erase_of_mem hk] at this
    have : 0 < L.length := List.length_pos_of_mem hk
    simp only [List.length_cons]
    omega

theorem look_mem {fs : List Ent} (hr : Rise fs) : ∀ e ∈ fs, look fs e.num = e.bs := by
  induction fs with
  | nil => intro e he; simp at he
  | cons x r ih =>
    intro e he
    unfold Rise at hr
    rw [List.pairwise_cons] at hr
    rcases List.mem_cons.1 he with rfl | he
    · exact look_head _ _
    · rw [look_skip (by have := hr.1 e he; omega)]
      exact ih hr.2 e he

theorem files_le {fs : List Ent} (hr : Rise fs) (hne : ∀ e ∈ fs, e.bs ≠ []) {L : List Int} (hL : ∀ k, look fs k ≠ [] → k ∈ L) : fs.length ≤ L.length := by
  have := rise_le L (fs.map (fun e => e.num)) (List.pairwise_map.2 (show fs.Pairwise (fun a b => a.num < b.num) from hr)) (fun k hk => by
    obtain ⟨e, he, rfl⟩ := List.mem_map.1 hk
    exact hL _ (by rw [look_mem hr e he]; exact hne e he))
  simpa using this

theorem look_some {fs : List Ent} {k : Int} (h : look fs k ≠ []) : ∃ e ∈ fs, e.num = k := by
  induction fs with
  | nil => exact absurd rfl h
  | cons x r ih =>
    unfold look at h
    split at h
    · exact ⟨x, by simp, ‹_›⟩
    · obtain ⟨e, he, hk⟩ := ih h
      exact ⟨e, by simp [he], hk⟩

theorem nums_iff {fs : List Ent} (hr : Rise fs) (hne : ∀ e ∈ fs, e.bs ≠ []) (k : Int) : k ∈ fs.map (·.num) ↔ look fs k ≠ [] := by
  constructor
  · intro hk
    obtain ⟨e, he, rfl⟩ := List.mem_map.1 hk
    rw [look_mem hr e he]
    exact hne e he
  · intro h
    obtain ⟨e, he, hk⟩ := look_some h
    exact List.mem_map.2 ⟨e, he, hk⟩

/-- What undoes one that pends, as it lies in memory. -/
structure U where
  file : Int
  laid : Nat
  v : Value
  took : List UInt8

def U.und (u : U) : Und := ⟨u.file, u.laid, u.took⟩

def pcells : List U → List Value
  | [] => []
  | u :: r => .int .i64 u.file :: .int .i64 u.laid :: u.v :: pcells r

theorem pcells_length (us : List U) : (pcells us).length = us.length * 3 := by
  induction us with
  | nil => rfl
  | cons u r ih => simp [pcells, ih]; omega

theorem pcells_snoc (us : List U) (u : U) : pcells (us ++ [u]) = pcells us ++ [.int .i64 u.file, .int .i64 u.laid, u.v] := by
  induction us with
  | nil => rfl
  | cons x r ih => simp [pcells, ih]

theorem pcells_at : ∀ (us : List U) (n : Nat) (u : U), us[n]? = some u → (pcells us)[n * 3]? = some (.int .i64 u.file) ∧ (pcells us)[n * 3 + 1]? = some (.int .i64 u.laid) ∧ (pcells us)[n * 3 + 2]? = some u.v
  | [], n, u, h => by simp at h
  | x :: r, 0, u, h => by simp at h; subst h; exact ⟨rfl, rfl, rfl⟩
  | x :: r, n + 1, u, h => by
    have := pcells_at r n u (by simpa using h)
    rw [show (n + 1) * 3 = n * 3 + 3 by omega, show n * 3 + 3 + 1 = (n * 3 + 1) + 3 by omega, show n * 3 + 3 + 2 = (n * 3 + 2) + 3 by omega, pcells]
    simpa using this

/-- What pends, in memory: the first m are as they were. -/
structure PAt (w : World) (own : Nat → Option Tag) (pv : Value) (us : List U) (m : Nat) : Prop where
  row : w.ownsRow 0 75 3 pv us.length (pcells us)
  pown : ∀ g, pv.ownBlock = some g → own g = some .pends
  each : ∀ i u, i < m → us[i]? = some u → Owns w u.v u.took ∧ ∀ g, u.v.ownBlock = some g → own g = some (.took i)

theorem PAt.kept {S : Nat → Prop} {w w' : World} {own : Nat → Option Tag} {pv : Value} {us : List U} {m : Nat} (h : PAt w own pv us m) (ht : Turn S w w') (hs : ∀ k, S k → own k ≠ some .pends ∧ ∀ i, i < m → own k ≠ some (.took i)) : PAt w' own pv us m :=
  ⟨row_kept h.row ht (fun k hk hS => (hs k hS).1 (h.pown k hk)), h.pown, fun i u hi hu => ⟨(h.each i u hi hu).1.kept ht (fun k hk hS => (hs k hS).2 i hi ((h.each i u hi hu).2 k hk)), (h.each i u hi hu).2⟩⟩

theorem PAt.retag {w : World} {own own' : Nat → Option Tag} {pv : Value} {us : List U} {m : Nat} (h : PAt w own pv us m) (ho : ∀ j, own j = some .pends ∨ (∃ i, i < m ∧ own j = some (.took i)) → own' j = own j) : PAt w own' pv us m :=
  ⟨h.row, fun g hg => by rw [ho g (.inl (h.pown g hg))]; exact h.pown g hg, fun i u hi hu => ⟨(h.each i u hi hu).1, fun g hg => by
    have := (h.each i u hi hu).2 g hg
    rw [ho g (.inr ⟨i, hi, this⟩)]; exact this⟩⟩

theorem PAt.less {w : World} {own : Nat → Option Tag} {pv : Value} {us : List U} {m n : Nat} (h : PAt w own pv us m) (hn : n ≤ m) : PAt w own pv us n := ⟨h.row, h.pown, fun i u hi => h.each i u (by omega)⟩

theorem PAt.none (w : World) (own : Nat → Option Tag) : PAt w own (.slice none 0 0) [] 0 := ⟨World.ownsRow_nil w 0 _ _, fun g hg => by simp [Value.ownBlock] at hg, fun i u hi => by omega⟩

theorem PAt.shape {w : World} {own : Nat → Option Tag} {pv : Value} {us : List U} {m : Nat} (h : PAt w own pv us m) : ∃ ao c, pv = .slice ao us.length c := by
  rcases row_shape h.row with ⟨rfl, h0⟩ | ⟨g, cap, rfl, _⟩
  · exact ⟨_, 0, by rw [h0]⟩
  · exact ⟨_, _, rfl⟩

section
variable {w : World} {b : Nat} {own : Nat → Option Tag} {fv pv : Value} {wk : Nat} {fu : Bool} {lf : Int} {de : Bool} {fs : List Ent}

theorem FAt.retag {own' : Nat → Option Tag} (h : FAt w b own fv pv wk fu lf de fs) (ho : ∀ j, own j = some .disk ∨ own j = some .files ∨ (∃ f, own j = some (.file f)) → own' j = own j) : FAt w b own' fv pv wk fu lf de fs :=
  ⟨h.head, by rw [ho b (.inl h.hb)]; exact h.hb, h.row, fun g hg => by rw [ho g (.inr (.inl (h.fown g hg)))]; exact h.fown g hg, h.rise, fun e he => ⟨(h.file e he).1, (h.file e he).2.1, fun g hg => by
    have := (h.file e he).2.2 g hg
    rw [ho g (.inr (.inr ⟨_, this⟩))]; exact this⟩⟩

theorem FAt.rehead {w' : World} {pv' : Value} {wk' : Nat} {fu' : Bool} {lf' : Int} {de' : Bool} (h : FAt w b own fv pv wk fu lf de fs) (ht : Turn (fun j => j = b) w w') (hat : At 70 w' b (dcells fv pv' wk' fu' lf' de')) : FAt w' b own fv pv' wk' fu' lf' de' fs :=
  ⟨hat, h.hb, row_kept h.row ht (fun k hk e => by have := h.fown k hk; rw [e, h.hb] at this; cases this), h.fown, h.rise, fun e he => ⟨(h.file e he).1.kept ht (fun k hk e' => by
    have := (h.file e he).2.2 k hk
    rw [e', h.hb] at this; cases this), (h.file e he).2⟩⟩

theorem FAt.le (h : FAt w b own fv pv wk fu lf de fs) {L : List Int} {N : Nat} (hL : ∀ k, look fs k ≠ [] → k ∈ L) (hN : L.length ≤ N) : fs.length ≤ N :=
  Nat.le_trans (files_le h.rise (fun e he => (h.file e he).2.1) hL) hN

end

/-- A Disk in block b, in state s; all its blocks are in S. -/
structure DkIs (w : World) (b : Nat) (S : Nat → Prop) (N : Nat) (s : DSt) (own : Nat → Option Tag) (fv pv : Value) (fs : List Ent) (us : List U) : Prop where
  f : FAt w b own fv pv s.works s.fused s.left s.dead fs
  p : PAt w own pv us us.length
  now : look fs = s.now
  und : us.map U.und = unds s.base s.ops
  sub : ∀ j, own j ≠ none → S j
  lt : ∀ j, S j → j < w.heap.size
  fit : s.Fit N

def Dk (w : World) (b : Nat) (S : Nat → Prop) (N : Nat) (s : DSt) : Prop := ∃ own fv pv fs us, DkIs w b S N s own fv pv fs us

theorem Dk.lt {w : World} {b : Nat} {S : Nat → Prop} {N : Nat} {s : DSt} (h : Dk w b S N s) : ∀ j, S j → j < w.heap.size := by
  obtain ⟨own, fv, pv, fs, us, h⟩ := h
  exact h.lt

theorem Dk.mem {w : World} {b : Nat} {S : Nat → Prop} {N : Nat} {s : DSt} (h : Dk w b S N s) : S b := by
  obtain ⟨own, fv, pv, fs, us, h⟩ := h
  exact h.sub b (by rw [h.f.hb]; simp)

theorem Dk.fit {w : World} {b : Nat} {S : Nat → Prop} {N : Nat} {s : DSt} (h : Dk w b S N s) : s.Fit N := by
  obtain ⟨own, fv, pv, fs, us, h⟩ := h
  exact h.fit

theorem DkIs.many {w : World} {b : Nat} {S : Nat → Prop} {N : Nat} {s : DSt} {own : Nat → Option Tag} {fv pv : Value} {fs : List Ent} {us : List U} (h : DkIs w b S N s own fv pv fs us) : fs.length ≤ N ∧ us.length ≤ N ∧ us.length = s.ops.length := by
  obtain ⟨L, h1, h2⟩ := h.fit.now
  have hu : us.length = s.ops.length := by
    have := congrArg List.length h.und
    rwa [List.length_map, unds_length] at this
  exact ⟨h.f.le (by rw [h.now]; exact h2) h1, by rw [hu]; exact h.fit.many, hu⟩

theorem Dk.kept {T : Nat → Prop} {w w' : World} {b : Nat} {S : Nat → Prop} {N : Nat} {s : DSt} (h : Dk w b S N s) (ht : Turn T w w') (hT : ∀ j, S j → ¬ T j) : Dk w' b S N s := by
  obtain ⟨own, fv, pv, fs, us, h⟩ := h
  have key : ∀ k, T k → own k = none := fun k hk => Classical.byContradiction fun hn => hT k (h.sub k hn) hk
  exact ⟨own, fv, pv, fs, us, h.f.kept ht (fun k hk => by rw [key k hk]; simp), h.p.kept ht (fun k hk => by rw [key k hk]; simp), h.now, h.und, h.sub, fun j hj => Nat.lt_of_lt_of_le (h.lt j hj) ht.size, h.fit⟩

theorem Dk.mono {w : World} {b : Nat} {S S' : Nat → Prop} {N N' : Nat} {s : DSt} (h : Dk w b S N s) (hS : ∀ j, S j → S' j) (hl : ∀ j, S' j → j < w.heap.size) (hN : N ≤ N') : Dk w b S' N' s := by
  obtain ⟨own, fv, pv, fs, us, h⟩ := h
  exact ⟨own, fv, pv, fs, us, h.f, h.p, h.now, h.und, fun j hj => hS j (h.sub j hj), hl, h.fit.mono hN⟩

/-- What a thing's blocks come to from one world to another. -/
def grow (S : Nat → Prop) (w w' : World) : Nat → Prop := fun j => S j ∨ (w.heap.size ≤ j ∧ j < w'.heap.size)

/-- A call has turned the Disk alone. -/
def DkTo (w : World) (b : Nat) (S : Nat → Prop) (N : Nat) (s : DSt) (w' : World) : Prop := Dk w' b (grow S w w') N s ∧ Turn S w w'

theorem DkTo.refl {w : World} {b : Nat} {S : Nat → Prop} {N : Nat} {s : DSt} (h : Dk w b S N s) : DkTo w b S N s w :=
  ⟨h.mono (fun _ h => .inl h) (fun j hj => hj.elim (h.lt j) (fun h => h.2)) (Nat.le_refl _), Turn.refl _ _⟩

end Go.Proofs.YtfmbkpdjjhcmcaaGreat
