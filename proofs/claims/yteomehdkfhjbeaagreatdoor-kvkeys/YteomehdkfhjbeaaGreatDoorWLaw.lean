/- A Log within a law: its calls, with what a crash leaves of them, within bounds. -/
import Derived.Test.YteomehdkfhjbeaaGreatDoorPkI
import Derived.Test.YteomehdkfhjbeaaGreatDoorWOpen
namespace Go.Proofs.YteomehdkfhjbeaaGreatDoor
open Go.RowKit

def DOp.len : DOp → Nat
  | .lay _ bs => bs.length
  | .rem _ => 0

def laysum : List DOp → Nat
  | [] => 0
  | o :: r => o.len + laysum r

theorem laysum_append (a b : List DOp) : laysum (a ++ b) = laysum a + laysum b := by
  induction a with
  | nil => simp [laysum]
  | cons o r ih => simp [laysum, ih]; omega

theorem laysum_take (l : List DOp) (n : Nat) : laysum (l.take n) ≤ laysum l := by
  conv => rhs; rw [← List.take_append_drop n l, laysum_append]
  omega

theorem laysum_mem {l : List DOp} {o : DOp} (h : o ∈ l) : o.len ≤ laysum l := by
  obtain ⟨p, q, rfl⟩ := List.append_of_mem h
  rw [laysum_append]
  show _ ≤ laysum p + (o.len + laysum q)
  omega

def FsLe (B : Nat) (s : Fs) : Prop := ∀ k, (s k).length ≤ B

theorem fput_le {B C : Nat} {s : Fs} (h : FsLe B s) (hc : B ≤ C) (k : Int) (x : List UInt8) (hx : x.length ≤ C) : FsLe C (fput s k x) := fun i => by
  unfold fput
  split
  · exact hx
  · have := h i; omega

theorem act_le {B : Nat} {s : Fs} (h : FsLe B s) (o : DOp) : FsLe (B + o.len) (act s o) := by
  cases o with
  | lay k bs => exact fput_le h (by omega) k _ (by have := h k; simp [DOp.len]; omega)
  | rem k => exact fput_le h (by omega) k _ (by simp)

theorem acts_le : ∀ {B : Nat} {s : Fs} (l : List DOp), FsLe B s → FsLe (B + laysum l) (acts s l)
  | B, s, [], h => h
  | B, s, o :: r, h => by
    have := acts_le r (act_le h o)
    intro k
    have h2 := this k
    show (acts (act s o) r k).length ≤ B + (o.len + laysum r)
    omega

theorem crashed_le {B : Nat} {s : Fs} (h : FsLe B s) (l : List DOp) (n : Nat) (cut : Int) : FsLe (B + laysum l) (crashed s l n cut) := by
  have ht : FsLe (B + laysum (l.take n)) (acts s (l.take n)) := acts_le _ h
  have hle := laysum_take l n
  have ht2 : FsLe (B + laysum l) (acts s (l.take n)) := fun k => by have := ht k; omega
  unfold crashed
  split
  · rename_i k bs e
    obtain ⟨hlt, e2⟩ := List.getElem?_eq_some_iff.1 e
    have h1 : laysum (l.take (n + 1)) = laysum (l.take n) + bs.length := by
      rw [List.take_succ_eq_append_getElem hlt, e2, laysum_append]
      simp [laysum, DOp.len]
    have h2 := laysum_take l (n + 1)
    unfold partOf
    refine fput_le ht (by omega) k _ ?_
    have := ht k
    simp only [List.length_append, List.length_take]
    omega
  · exact ht2

/-- No file will have more bytes. -/
def Lid (B : Nat) (d : DSt) : Prop := ∃ c, FsLe c d.base ∧ c + laysum d.ops ≤ B

theorem Lid.mono {B C : Nat} {d : DSt} (h : Lid B d) (hc : B ≤ C) : Lid C d := by
  obtain ⟨c, h1, h2⟩ := h
  exact ⟨c, h1, by omega⟩

theorem Lid.now {B : Nat} {d : DSt} (h : Lid B d) (k : Int) : (d.now k).length ≤ B := by
  obtain ⟨c, h1, h2⟩ := h
  have := acts_le d.ops h1 k
  unfold DSt.now
  omega

theorem Lid.read {B : Nat} {d : DSt} (h : Lid B d) (k : Int) : (d.read k).length ≤ B := by
  unfold DSt.read
  split
  · simp
  · exact h.now k

theorem Lid.crash {B : Nat} {d : DSt} (h : Lid B d) (done cut : Int) : Lid B (d.crash done cut) := by
  obtain ⟨c, h1, h2⟩ := h
  exact ⟨c + laysum d.ops, crashed_le h1 d.ops _ cut, by show _ + laysum [] ≤ _; simp [laysum]; omega⟩

theorem Lid.big {B : Nat} {d : DSt} (h : Lid B d) (hB : B ≤ 140737488355328) : ∀ k bs, DOp.lay k bs ∈ d.ops → bs.length ≤ 140737488355328 := fun k bs hm => by
  obtain ⟨c, h1, h2⟩ := h
  have h3 := laysum_mem hm
  have h4 : (DOp.lay k bs).len = bs.length := rfl
  omega

theorem Lid.add {B : Nat} {d : DSt} (h : Lid B d) (f : Int) (bs : List UInt8) : Lid (B + bs.length) (d.add f bs).2 := by
  obtain ⟨c, h1, h2⟩ := h
  unfold DSt.add
  split
  · exact ⟨c, h1, by show c + laysum d.ops ≤ _; omega⟩
  · split
    · exact ⟨c, h1, by show c + laysum d.ops ≤ _; omega⟩
    · show Lid _ (d.lays f bs)
      unfold DSt.lays
      split
      · exact ⟨c, h1, by show c + laysum d.ops ≤ _; omega⟩
      · refine ⟨c, h1, ?_⟩
        show c + laysum (d.ops ++ [.lay f bs]) ≤ _
        rw [laysum_append]
        simp [laysum, DOp.len]
        omega

theorem Lid.rem {B : Nat} {d : DSt} (h : Lid B d) (f : Int) : Lid B (d.rem f).2 := by
  obtain ⟨c, h1, h2⟩ := h
  unfold DSt.rem
  split
  · exact ⟨c, h1, h2⟩
  · split
    · exact ⟨c, h1, h2⟩
    · show Lid _ (d.rems f)
      unfold DSt.rems
      split
      · exact ⟨c, h1, h2⟩
      · refine ⟨c, h1, ?_⟩
        show c + laysum (d.ops ++ [.rem f]) ≤ _
        rw [laysum_append]
        simp [laysum, DOp.len]
        omega

theorem Lid.sync {B : Nat} {d : DSt} (h : Lid B d) : Lid B d.sync.2 := by
  have hn := h.now
  obtain ⟨c, h1, h2⟩ := h
  unfold DSt.sync
  split
  · exact ⟨c, h1, h2⟩
  · exact ⟨B, hn, by show B + laysum [] ≤ B; simp [laysum]⟩

theorem Lid.gone {B : Nat} : ∀ (l : List Int) {d : DSt}, Lid B d → Lid B (d.gone l)
  | [], _, h => h
  | k :: r, d, h => Lid.gone r (d := (d.rem k).2) (h.rem k)

theorem Lid.keep {B : Nat} {s : WSt} (h : Lid B s.d) (a z : Int) (bs : List UInt8) : Lid (B + bs.length) (s.keep a z bs).2.d := by
  unfold WSt.keep
  split
  · exact h.mono (by omega)
  · split
    · exact h.add a bs
    · split
      · exact (h.add a bs).sync
      · exact (h.add a bs).sync

theorem Lid.commit {B : Nat} {s : WSt} (h : Lid B s.d) (l : List (List UInt8)) : Lid (B + (laidOf 1 2 l).length) (s.commit l).2.d := by
  unfold WSt.commit
  split
  · exact h.mono (by omega)
  · exact h.keep _ _ _

theorem Lid.rms {B : Nat} : ∀ (l : List Int) {s : WSt}, Lid B s.d → Lid B (s.rms l).d
  | [], s, h => h
  | k :: r, s, h => by
    refine Lid.rms r (s := s.rm1 k) ?_
    unfold WSt.rm1
    split
    · exact h
    · exact h.rem k

theorem Lid.done {B : Nat} {s : WSt} (h : Lid B s.d) : Lid B s.done.2.d := by
  unfold WSt.done
  split
  · exact h
  · split
    · exact h.sync
    · exact h.sync

theorem Lid.checkpoint {B : Nat} {s : WSt} (h : Lid B s.d) (l : List (List UInt8)) (ns : List Int) : Lid (B + (laidOf 3 4 l).length) (s.checkpoint l ns).2.d := by
  unfold WSt.checkpoint
  split
  · exact (Lid.rms _ (h.keep _ _ _)).done
  · exact h.keep _ _ _

theorem frames_len (k : Int) (c : Nat) : ∀ (l : List (List UInt8)), (∀ x ∈ l, x.length ≤ c) → (frames k l).length ≤ l.length * (9 + c)
  | [], _ => by simp [frames]
  | x :: r, h => by
    have e : frames k (x :: r) = record k x ++ frames k r := by simp [frames]
    rw [e, List.length_append, record_length, List.length_cons, Nat.succ_mul]
    have := frames_len k c r (fun y hy => h y (by simp [hy]))
    have := h x (by simp)
    omega

theorem laidOf_len (k m : Int) (c : Nat) (l : List (List UInt8)) (h : ∀ x ∈ l, x.length ≤ c) : (laidOf k m l).length ≤ l.length * (9 + c) + 9 := by
  unfold laidOf
  rw [List.length_append, record_length]
  have := frames_len k c l h
  simp
  omega

theorem laid_few {k m : Int} {rl : List (Value × List UInt8)} {n : Nat} (h1 : rl.length ≤ n) (hn : n ≤ 1000) (h2 : ∀ x ∈ rl.map (·.2), x.length ≤ 60) : (laidOf k m (rl.map (·.2))).length ≤ 70000 ∧ ∀ x ∈ rl.map (·.2), x.length ≤ 1000 := by
  have := laidOf_len k m 60 (rl.map (·.2)) h2
  rw [List.length_map] at this
  exact ⟨by omega, fun x hx => by have := h2 x hx; omega⟩

/-- A Log within a law, that is not down, in segment a; F is what its files are, B what bounds each. -/
structure LW (w0 : World) (K : Nat → Prop) (w : World) (l b N : Nat) (s : WSt) (F : Int → List Chunk) (a B : Nat) : Prop where
  li : ∃ f t, LI w0 K w l b f t N s
  ok : LOk s F a
  lid : Lid B s.d

theorem LOk.oks {s : WSt} {F : Int → List Chunk} {a B : Nat} (h : LOk s F a) (hl : Lid B s.d) (ha : a ≤ 1099511627776) (hB : B ≤ 1152921504606846976) : s.Ok := by
  have h1 := h.at'
  have h2 := h.size
  obtain ⟨c, h3, h4⟩ := hl
  have h5 := h3 a
  exact ⟨by omega, by omega, by omega, by omega⟩

theorem nums_len {d : DSt} {F : Int → List Chunk} {n : Nat} (h : DOk d F n) {ns : List Int} (hn : d.Nums ns) : ns.length ≤ n := by
  cases hd : d.dead with
  | true =>
    cases ns with
    | nil => simp
    | cons k r =>
      have := (hn.2 k).1 (by simp)
      unfold DSt.read at this
      rw [hd] at this
      simp at this
  | false =>
    obtain ⟨G, g1, _, _⟩ := h.now
    exact g1.len ⟨hn.1, fun k => by rw [hn.2 k]; unfold DSt.read; rw [hd]; simp⟩

theorem nums_dead {d : DSt} (hd : d.dead = true) {ns : List Int} (hn : d.Nums ns) : ns.length = 0 := by
  cases ns with
  | nil => rfl
  | cons k r =>
    have := (hn.2 k).1 (by simp)
    unfold DSt.read at this
    rw [hd] at this
    simp at this

/-- What a Commit or a Checkpoint comes to: r is told; x was there, y is to be. -/
def WTo (w0 : World) (K : Nat → Prop) (w : World) (l b N : Nat) (s : WSt) (a B : Nat) (x y : List (List UInt8)) (one : Bool) (e : Ending) (w' : World) : Prop :=
  Turn (Outs w0 K) w w' ∧
  ((e = .returned (.int .i64 0) ∧ ∃ s' G a', LW w0 K w' l b N s' G a' B ∧ a' ≤ a + 1 ∧ s'.d.fused = s.d.fused ∧ s'.limit = s.limit ∧ (frun G (a' + 1)).1 = y ∧ (one = true → s'.d.Nums [(a' : Int)] ∧ s.place = a')) ∨
   (e = .returned (.int .i64 14) ∧ s.d.fused = true ∧ ∃ d', DL w0 K w' b N d' ∧ d'.dead = true ∧ Fallen d' (a + 2) x y ∧ Lid B d'))

section
variable {w0 w : World} {K Q : Nat → Prop} {l b N : Nat} {s : WSt} {F : Int → List Chunk} {a B : Nat} {v : Value} {rl : List (Value × List UInt8)}

theorem LW.held (h : LW w0 K w l b N s F a B) : ∀ j, K j → w0.heap.size ≤ j ∧ j < w.heap.size := by
  obtain ⟨f, t, hi⟩ := h.li
  exact hi.held

theorem LW.dl (h : LW w0 K w l b N s F a B) : DL w0 K w b N s.d := by
  obtain ⟨f, t, hi⟩ := h.li
  exact hi.dl.less (fun j hj => .inl hj)

theorem LW.turn (h : LW w0 K w l b N s F a B) : Turn (fun _ => False) w0 w := h.dl.turn

theorem LW.goes {w1 : World} (h : LW w0 K w l b N s F a B) (t : Turn (fun _ => False) w w1) : LW w0 (grow K w w1) w1 l b N s F a B := by
  obtain ⟨f, t', hi⟩ := h.li
  exact ⟨⟨f, t', hi.goes t⟩, h.ok, h.lid⟩

theorem LW.less {K2 : Nat → Prop} (h : LW w0 K w l b N s F a B) (hK : ∀ j, K2 j → K j) : LW w0 K2 w l b N s F a B := by
  obtain ⟨f, t', hi⟩ := h.li
  exact ⟨⟨f, t', hi.less hK⟩, h.ok, h.lid⟩

theorem LW.mono {N' B' : Nat} (h : LW w0 K w l b N s F a B) (hN : N ≤ N') (hB : B ≤ B') : LW w0 K w l b N' s F a B' := by
  obtain ⟨f, t', hi⟩ := h.li
  exact ⟨⟨f, t', hi.mono hN⟩, h.ok, h.lid.mono hB⟩

theorem short_of {rl : List (Value × List UInt8)} (h : ∀ x ∈ rl.map (·.2), x.length ≤ 1000) : ¬ tooLong rl := fun ⟨p, hp, hl⟩ => by
  have := h p.2 (List.mem_map.2 ⟨p, hp, rfl⟩)
  omega

theorem lw_commit (h : LW w0 K w l b N s F a B) (hr : RL Q w v rl) (hQ : ∀ j, Q j → j < w0.heap.size ∨ K j) (h60 : ∀ x ∈ rl.map (·.2), x.length ≤ 1000) (hlen : (laidOf 1 2 (rl.map (·.2))).length ≤ 70000) (hN : N ≤ 1000000) (ha : a ≤ 1000000) (hB : B ≤ 1073741824) :
    Calls Tryz.prog 18 #[.pointer (some ⟨l, 0, none⟩), v] w (WTo w0 K w l b (N + 2) s a (B + 70000) (frun F (a + 1)).1 ((frun F (a + 1)).1 ++ rl.map (·.2)) false) := by
  obtain ⟨f, t, hi⟩ := h.li
  have hnow := h.lid.now s.to.1
  refine (commit_any hi (h.ok.oks h.lid (by omega) (by omega)) hr hQ (short_of h60) (by omega) (by omega)).mono ?_
  rintro e w' ⟨rfl, h1, t1⟩
  refine ⟨t1, ?_⟩
  have hlid := (h.lid.commit (rl.map (·.2))).mono (show _ ≤ B + 70000 by omega)
  rcases commit_out h.ok (rl.map (·.2)) (fun x hx => by have := h60 x hx; omega) with ⟨c1, c2, c3, G, a', c4, c5, c6⟩ | ⟨c1, c2, c3, c4⟩
  · exact .inl ⟨by rw [c1], _, G, a', ⟨⟨f, t, h1⟩, c4, hlid⟩, c5, c3, c2, c6, fun e => by simp at e⟩
  · exact .inr ⟨by rw [c1], c2, _, h1.dl.less (fun j hj => .inl hj), c3, c4, hlid⟩

/-- What Open comes to. -/
def WOp (w0 : World) (K : Nat → Prop) (w : World) (b N : Nat) (n B : Nat) (seg : Int) (F : Int → List Chunk) (e : Ending) (w' : World) : Prop :=
  ∃ l rv rl, ∃ K' : Nat → Prop, ∃ s a, e = .returned (.tuple #[.pointer (some ⟨l, 0, none⟩), rv, .int .i64 0]) ∧ LW w0 K' w' l b N s F a B ∧ RL K' w' rv rl ∧ rl.map (·.2) = (frun F n).1 ∧ (∀ j, K j → K' j) ∧ Turn (Outs w0 K) w w' ∧ a ≤ n ∧ frun F (a + 1) = frun F n ∧ s.d.fused = false ∧ s.limit = seg

theorem lw_open {d : DSt} {n : Nat} (seg : Int) (h : DL w0 K w b N d) (hd : d.dead = false) (hf : d.fused = false) (ho : DOk d F n) (hl : Lid B d) (hs0 : 256 ≤ seg) (hs1 : seg ≤ 1048576) (hN : N ≤ 1000000) (hn : n ≤ 1000) (hB : B ≤ 1073741824) :
    Calls Tryz.prog 12 #[.pointer (some ⟨b, 0, none⟩), .int .i64 seg] w (WOp w0 K w b (N + n) n B seg F) := by
  obtain ⟨G, g1, _, _⟩ := ho.now
  refine (open_any n B h hd hs0 hs1 (fun ns hns => nums_len ho hns) hl.read ?_ (by omega) ?_).mono ?_
  · have : (n + 1) * B ≤ 1001 * B := Nat.mul_le_mul_right B (by omega)
    omega
  · intro k hk
    have h0 : ¬ (k < 0 ∨ (n : Int) ≤ k) := fun e => hk (by unfold DSt.read; rw [hd]; simpa using g1.no k e)
    omega
  · rintro e w' ⟨ns, hns, ht⟩
    obtain ⟨y, a, o1, o2, o3, o4, o5, o6, _⟩ := open_out ho hd hf seg hns
    rw [o1] at ht
    obtain ⟨l, f, t, rv, rl, K', rfl, h1, h2, h3, h4, h5⟩ := ht
    exact ⟨l, rv, rl, K', _, a, rfl, ⟨⟨f, t, h1⟩, o4, Lid.gone _ hl⟩, h2.mono (fun _ e => e.1), h3.trans o2, h4, h5, o3, o5, o6, rfl⟩

/-- Open once more, beside a Log. -/
def WOp2 (w0 : World) (K : Nat → Prop) (w : World) (l b N : Nat) (F : Int → List Chunk) (a B : Nat) (e : Ending) (w' : World) : Prop :=
  ∃ l2 rv rl, ∃ K' : Nat → Prop, ∃ s, e = .returned (.tuple #[.pointer (some ⟨l2, 0, none⟩), rv, .int .i64 0]) ∧ LW w0 K w' l b N s F a B ∧ RL K' w' rv rl ∧ rl.map (·.2) = (frun F (a + 1)).1 ∧ (∀ j, K j → K' j) ∧ Turn (Outs w0 K) w w'

theorem lw_open2 (seg : Int) (h : LW w0 K w l b N s F a B) (hf : s.d.fused = false) (hs0 : 256 ≤ seg) (hs1 : seg ≤ 1048576) (hN : N ≤ 1000000) (hn : a + 1 ≤ 1000) (hB : B ≤ 1073741824) :
    Calls Tryz.prog 12 #[.pointer (some ⟨b, 0, none⟩), .int .i64 seg] w (WOp2 w0 K w l b (N + (a + 1)) F a B) := by
  obtain ⟨f, t, hi⟩ := h.li
  have ho := h.ok.dok
  have hd := h.ok.dead
  obtain ⟨G, g1, _, _⟩ := ho.now
  refine (open_any (a + 1) B hi.dl hd hs0 hs1 (fun ns hns => nums_len ho hns) h.lid.read ?_ (by omega) ?_).mono ?_
  · have : (a + 1 + 1) * B ≤ 1001 * B := Nat.mul_le_mul_right B (by omega)
    omega
  · intro k hk
    have h0 : ¬ (k < 0 ∨ ((a + 1 : Nat) : Int) ≤ k) := fun e => hk (by unfold DSt.read; rw [hd]; simpa using g1.no k e)
    omega
  · rintro e w' ⟨ns, hns, ht⟩
    obtain ⟨y, a2, o1, o2, o3, o4, o5, o6, o7⟩ := open_out ho hd hf seg hns
    rw [o1] at ht
    obtain ⟨l2, f2, t2, rv, rl, K', rfl, h1, h2, h3, h4, h5⟩ := ht
    refine ⟨l2, rv, rl, K', { s with d := s.d.gone (ns.filter (· < y.since)) }, rfl, ⟨⟨f, t, ⟨h1.dl.less (fun j hj => .inl (h4 j hj)), hi.fr.kept h5 (fun e => e.2 (.inr (.inr (.inl rfl)))) (fun e => e.2 (.inr (.inr (.inr rfl)))), hi.at'.kept h5 (fun e => e.2 (.inr (.inl rfl))), hi.nl, hi.nf, hi.nt, hi.lf, hi.lt⟩⟩, ⟨h.ok.down, o4.dead, ⟨?_, ?_⟩, h.ok.at', ?_, ?_⟩, Lid.gone _ h.lid⟩, h2.mono (fun _ e => e.1), h3.trans o2, fun j hj => h4 j (.inl hj), own_less h5⟩
    · show Holds (s.d.gone _).base F (a + 1)
      rw [o7]
      exact ho.holds
    · have := o4.dok.rems
      rw [o5] at this
      exact this
    · show (s.d.gone _).base a = _
      rw [o7]
      exact h.ok.is
    · show s.size = (((s.d.gone _).base a).length : Int)
      rw [o7]
      exact h.ok.size

/-- A new Disk, plainly. -/
theorem dok_zero : DOk DSt.zero (fun _ => []) 0 := ⟨⟨fun _ => whole_nil, fun _ _ => rfl⟩, fun o ho => by simp [DSt.zero] at ho⟩
theorem lid_zero : Lid 0 DSt.zero := ⟨0, fun _ => Nat.le_refl _, Nat.le_refl _⟩

/-- Behind a crash. -/
theorem crash_dok {d : DSt} {G : Int → List Chunk} {n : Nat} {done cut : Int} (h : Holds (d.crash done cut).base G n) : DOk (d.crash done cut) G n := ⟨h, fun o ho => by
  have ho' : o ∈ ([] : List DOp) := ho
  simp at ho'⟩

end

end Go.Proofs.YteomehdkfhjbeaaGreatDoor
