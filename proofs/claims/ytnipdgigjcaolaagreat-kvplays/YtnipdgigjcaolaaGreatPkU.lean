/- What stands below the proof, in one text. -/
import Derived.Test.YtnipdgigjcaolaaGreatPkI
import Derived.Test.YtnipdgigjcaolaaGreatWOpen
import Derived.Test.YtnipdgigjcaolaaGreatPkF
import Derived.Test.YtnipdgigjcaolaaGreatPkT
import Derived.Test.YtnipdgigjcaolaaGreatPkC
import Derived.Maps.AppendAt
/- A Log within a law: its calls, with what a crash leaves of them, within bounds. -/
namespace Go.Proofs.YtnipdgigjcaolaaGreat
open Go.RowKit

def DOp.len : DOp → Nat
  | .lay _ bs => bs.length
  | .rem _ => 0

def laysum : List DOp → Nat
  | [] => 0
  | o :: r => o.len + laysum r

theorem laysum_append (a b : List DOp) : laysum (a ++ b) = laysum a + laysum b := by
  induction a with
  | nil => simp [laysum]
  | cons o r ih => simp [laysum, ih]; omega

theorem laysum_take (l : List DOp) (n : Nat) : laysum (l.take n) ≤ laysum l := by
  conv => rhs; rw [← List.take_append_drop n l, laysum_append]
  omega

theorem laysum_mem {l : List DOp} {o : DOp} (h : o ∈ l) : o.len ≤ laysum l := by
  obtain ⟨p, q, rfl⟩ := List.append_of_mem h
  rw [laysum_append]
  show _ ≤ laysum p + (o.len + laysum q)
  omega

def FsLe (B : Nat) (s : Fs) : Prop := ∀ k, (s k).length ≤ B

theorem fput_le {B C : Nat} {s : Fs} (h : FsLe B s) (hc : B ≤ C) (k : Int) (x : List UInt8) (hx : x.length ≤ C) : FsLe C (fput s k x) := fun i => by
  unfold fput
  split
  · exact hx
  · have := h i; omega

theorem act_le {B : Nat} {s : Fs} (h : FsLe B s) (o : DOp) : FsLe (B + o.len) (act s o) := by
  cases o with
  | lay k bs => exact fput_le h (by omega) k _ (by have := h k; simp [DOp.len]; omega)
  | rem k => exact fput_le h (by omega) k _ (by simp)

theorem acts_le : ∀ {B : Nat} {s : Fs} (l : List DOp), FsLe B s → FsLe (B + laysum l) (acts s l)
  | B, s, [], h => h
  | B, s, o :: r, h => by
    have := acts_le r (act_le h o)
    intro k
    have h2 := this k
    show (acts (act s o) r k).length ≤ B + (o.len + laysum r)
    omega

theorem crashed_le {B : Nat} {s : Fs} (h : FsLe B s) (l : List DOp) (n : Nat) (cut : Int) : FsLe (B + laysum l) (crashed s l n cut) := by
  have ht : FsLe (B + laysum (l.take n)) (acts s (l.take n)) := acts_le _ h
  have hle := laysum_take l n
  have ht2 : FsLe (B + laysum l) (acts s (l.take n)) := fun k => by have := ht k; omega
  unfold crashed
  split
  · rename_i k bs e
    obtain ⟨hlt, e2⟩ := List.getElem?_eq_some_iff.1 e
    have h1 : laysum (l.take (n + 1)) = laysum (l.take n) + bs.length := by
      rw [List.take_succ_eq_append_getElem hlt, e2, laysum_append]
      simp [laysum, DOp.len]
    have h2 := laysum_take l (n + 1)
    unfold partOf
    refine fput_le ht (by omega) k _ ?_
    have := ht k
    simp only [List.length_append, List.length_take]
    omega
  · exact ht2

/-- No file will have more bytes. -/
def Lid (B : Nat) (d : DSt) : Prop := ∃ c, FsLe c d.base ∧ c + laysum d.ops ≤ B

theorem Lid.mono {B C : Nat} {d : DSt} (h : Lid B d) (hc : B ≤ C) : Lid C d := by
  obtain ⟨c, h1, h2⟩ := h
  exact ⟨c, h1, by omega⟩

theorem Lid.now {B : Nat} {d : DSt} (h : Lid B d) (k : Int) : (d.now k).length ≤ B := by
  obtain ⟨c, h1, h2⟩ := h
  have := acts_le d.ops h1 k
  unfold DSt.now
  omega

theorem Lid.read {B : Nat} {d : DSt} (h : Lid B d) (k : Int) : (d.read k).length ≤ B := by
  unfold DSt.read
  split
  · simp
  · exact h.now k

theorem Lid.crash {B : Nat} {d : DSt} (h : Lid B d) (done cut : Int) : Lid B (d.crash done cut) := by
  obtain ⟨c, h1, h2⟩ := h
  exact ⟨c + laysum d.ops, crashed_le h1 d.ops _ cut, by show _ + laysum [] ≤ _; simp [laysum]; omega⟩

theorem Lid.big {B : Nat} {d : DSt} (h : Lid B d) (hB : B ≤ 140737488355328) : ∀ k bs, DOp.lay k bs ∈ d.ops → bs.length ≤ 140737488355328 := fun k bs hm => by
  obtain ⟨c, h1, h2⟩ := h
  have h3 := laysum_mem hm
  have h4 : (DOp.lay k bs).len = bs.length := rfl
  omega

theorem Lid.add {B : Nat} {d : DSt} (h : Lid B d) (f : Int) (bs : List UInt8) : Lid (B + bs.length) (d.add f bs).2 := by
  obtain ⟨c, h1, h2⟩ := h
  unfold DSt.add
  split
  · exact ⟨c, h1, by show c + laysum d.ops ≤ _; omega⟩
  · split
    · exact ⟨c, h1, by show c + laysum d.ops ≤ _; omega⟩
    · show Lid _ (d.lays f bs)
      unfold DSt.lays
      split
      · exact ⟨c, h1, by show c + laysum d.ops ≤ _; omega⟩
      · refine ⟨c, h1, ?_⟩
        show c + laysum (d.ops ++ [.lay f bs]) ≤ _
        rw [laysum_append]
        simp [laysum, DOp.len]
        omega

theorem Lid.rem {B : Nat} {d : DSt} (h : Lid B d) (f : Int) : Lid B (d.rem f).2 := by
  obtain ⟨c, h1, h2⟩ := h
  unfold DSt.rem
  split
  · exact ⟨c, h1, h2⟩
  · split
    · exact ⟨c, h1, h2⟩
    · show Lid _ (d.rems f)
      unfold DSt.rems
      split
      · exact ⟨c, h1, h2⟩
      · refine ⟨c, h1, ?_⟩
        show c + laysum (d.ops ++ [.rem f]) ≤ _
        rw [laysum_append]
        simp [laysum, DOp.len]
        omega

theorem Lid.sync {B : Nat} {d : DSt} (h : Lid B d) : Lid B d.sync.2 := by
  have hn := h.now
  obtain ⟨c, h1, h2⟩ := h
  unfold DSt.sync
  split
  · exact ⟨c, h1, h2⟩
  · exact ⟨B, hn, by show B + laysum [] ≤ B; simp [laysum]⟩

theorem Lid.gone {B : Nat} : ∀ (l : List Int) {d : DSt}, Lid B d → Lid B (d.gone l)
  | [], _, h => h
  | k :: r, d, h => Lid.gone r (d := (d.rem k).2) (h.rem k)

theorem Lid.keep {B : Nat} {s : WSt} (h : Lid B s.d) (a z : Int) (bs : List UInt8) : Lid (B + bs.length) (s.keep a z bs).2.d := by
  unfold WSt.keep
  split
  · exact h.mono (by omega)
  · split
    · exact h.add a bs
    · split
      · exact (h.add a bs).sync
      · exact (h.add a bs).sync

theorem Lid.commit {B : Nat} {s : WSt} (h : Lid B s.d) (l : List (List UInt8)) : Lid (B + (laidOf 1 2 l).length) (s.commit l).2.d := by
  unfold WSt.commit
  split
  · exact h.mono (by omega)
  · exact h.keep _ _ _

theorem Lid.rms {B : Nat} : ∀ (l : List Int) {s : WSt}, Lid B s.d → Lid B (s.rms l).d
  | [], s, h => h
  | k :: r, s, h => by
    refine Lid.rms r (s := s.rm1 k) ?_
    unfold WSt.rm1
    split
    · exact h
    · exact h.rem k

theorem Lid.done {B : Nat} {s : WSt} (h : Lid B s.d) : Lid B s.done.2.d := by
  unfold WSt.done
  split
  · exact h
  · split
    · exact h.sync
    · exact h.sync

theorem Lid.checkpoint {B : Nat} {s : WSt} (h : Lid B s.d) (l : List (List UInt8)) (ns : List Int) : Lid (B + (laidOf 3 4 l).length) (s.checkpoint l ns).2.d := by
  unfold WSt.checkpoint
  split
  · exact (Lid.rms _ (h.keep _ _ _)).done
  · exact h.keep _ _ _

theorem frames_len (k : Int) (c : Nat) : ∀ (l : List (List UInt8)), (∀ x ∈ l, x.length ≤ c) → (frames k l).length ≤ l.length * (9 + c)
  | [], _ => by simp [frames]
  | x :: r, h => by
    have e : frames k (x :: r) = record k x ++ frames k r := by simp [frames]
    rw [e, List.length_append, record_length, List.length_cons, Nat.succ_mul]
    have := frames_len k c r (fun y hy => h y (by simp [hy]))
    have := h x (by simp)
    omega

theorem laidOf_len (k m : Int) (c : Nat) (l : List (List UInt8)) (h : ∀ x ∈ l, x.length ≤ c) : (laidOf k m l).length ≤ l.length * (9 + c) + 9 := by
  unfold laidOf
  rw [List.length_append, record_length]
  have := frames_len k c l h
  simp
  omega

theorem laid_few {k m : Int} {rl : List (Value × List UInt8)} {n : Nat} (h1 : rl.length ≤ n) (hn : n ≤ 1000) (h2 : ∀ x ∈ rl.map (·.2), x.length ≤ 60) : (laidOf k m (rl.map (·.2))).length ≤ 70000 ∧ ∀ x ∈ rl.map (·.2), x.length ≤ 1000 := by
  have := laidOf_len k m 60 (rl.map (·.2)) h2
  rw [List.length_map] at this
  exact ⟨by omega, fun x hx => by have := h2 x hx; omega⟩

/-- A Log within a law, that is not down, in segment a; F is what its files are, B what bounds each. -/
structure LW (w0 : World) (K : Nat → Prop) (w : World) (l b N : Nat) (s : WSt) (F : Int → List Chunk) (a B : Nat) : Prop where
  li : ∃ f t, LI w0 K w l b f t N s
  ok : LOk s F a
  lid : Lid B s.d

theorem LOk.oks {s : WSt} {F : Int → List Chunk} {a B : Nat} (h : LOk s F a) (hl : Lid B s.d) (ha : a ≤ 1099511627776) (hB : B ≤ 1152921504606846976) : s.Ok := by
  have h1 := h.at'
  have h2 := h.size
  obtain ⟨c, h3, h4⟩ := hl
  have h5 := h3 a
  exact ⟨by omega, by omega, by omega, by omega⟩

theorem nums_len {d : DSt} {F : Int → List Chunk} {n : Nat} (h : DOk d F n) {ns : List Int} (hn : d.Nums ns) : ns.length ≤ n := by
  cases hd : d.dead with
  | true =>
    cases ns with
    | nil => simp
    | cons k r =>
      have := (hn.2 k).1 (by simp)
      unfold DSt.read at this
      rw [hd] at this
      simp at this
  | false =>
    obtain ⟨G, g1, _, _⟩ := h.now
    exact g1.len ⟨hn.1, fun k => by rw [hn.2 k]; unfold DSt.read; rw [hd]; simp⟩

theorem nums_dead {d : DSt} (hd : d.dead = true) {ns : List Int} (hn : d.Nums ns) : ns.length = 0 := by
  cases ns with
  | nil => rfl
  | cons k r =>
    have := (hn.2 k).1 (by simp)
    unfold DSt.read at this
    rw [hd] at this
    simp at this

/-- What a Commit or a Checkpoint comes to: r is told; x was there, y is to be. -/
def WTo (w0 : World) (K : Nat → Prop) (w : World) (l b N : Nat) (s : WSt) (a B : Nat) (x y : List (List UInt8)) (one : Bool) (e : Ending) (w' : World) : Prop :=
  Turn (Outs w0 K) w w' ∧
  ((e = .returned (.int .i64 0) ∧ ∃ s' G a', LW w0 K w' l b N s' G a' B ∧ a' ≤ a + 1 ∧ s'.d.fused = s.d.fused ∧ s'.limit = s.limit ∧ (frun G (a' + 1)).1 = y ∧ (one = true → s'.d.Nums [(a' : Int)] ∧ s.place = a')) ∨
   (e = .returned (.int .i64 14) ∧ s.d.fused = true ∧ ∃ d', DL w0 K w' b N d' ∧ d'.dead = true ∧ Fallen d' (a + 2) x y ∧ Lid B d'))

section
variable {w0 w : World} {K Q : Nat → Prop} {l b N : Nat} {s : WSt} {F : Int → List Chunk} {a B : Nat} {v : Value} {rl : List (Value × List UInt8)}

theorem LW.held (h : LW w0 K w l b N s F a B) : ∀ j, K j → w0.heap.size ≤ j ∧ j < w.heap.size := by
  obtain ⟨f, t, hi⟩ := h.li
  exact hi.held

theorem LW.dl (h : LW w0 K w l b N s F a B) : DL w0 K w b N s.d := by
  obtain ⟨f, t, hi⟩ := h.li
  exact hi.dl.less (fun j hj => .inl hj)

theorem LW.turn (h : LW w0 K w l b N s F a B) : Turn (fun _ => False) w0 w := h.dl.turn

theorem LW.goes {w1 : World} (h : LW w0 K w l b N s F a B) (t : Turn (fun _ => False) w w1) : LW w0 (grow K w w1) w1 l b N s F a B := by
  obtain ⟨f, t', hi⟩ := h.li
  exact ⟨⟨f, t', hi.goes t⟩, h.ok, h.lid⟩

theorem LW.less {K2 : Nat → Prop} (h : LW w0 K w l b N s F a B) (hK : ∀ j, K2 j → K j) : LW w0 K2 w l b N s F a B := by
  obtain ⟨f, t', hi⟩ := h.li
  exact ⟨⟨f, t', hi.less hK⟩, h.ok, h.lid⟩

theorem LW.mono {N' B' : Nat} (h : LW w0 K w l b N s F a B) (hN : N ≤ N') (hB : B ≤ B') : LW w0 K w l b N' s F a B' := by
  obtain ⟨f, t', hi⟩ := h.li
  exact ⟨⟨f, t', hi.mono hN⟩, h.ok, h.lid.mono hB⟩

theorem short_of {rl : List (Value × List UInt8)} (h : ∀ x ∈ rl.map (·.2), x.length ≤ 1000) : ¬ tooLong rl := fun ⟨p, hp, hl⟩ => by
  have := h p.2 (List.mem_map.2 ⟨p, hp, rfl⟩)
  omega

theorem lw_commit (h : LW w0 K w l b N s F a B) (hr : RL Q w v rl) (hQ : ∀ j, Q j → j < w0.heap.size ∨ K j) (h60 : ∀ x ∈ rl.map (·.2), x.length ≤ 1000) (hlen : (laidOf 1 2 (rl.map (·.2))).length ≤ 70000) (hN : N ≤ 1000000) (ha : a ≤ 1000000) (hB : B ≤ 1073741824) :
    Calls Tryz.prog 46 #[.pointer (some ⟨l, 0, none⟩), v] w (WTo w0 K w l b (N + 2) s a (B + 70000) (frun F (a + 1)).1 ((frun F (a + 1)).1 ++ rl.map (·.2)) false) := by
  obtain ⟨f, t, hi⟩ := h.li
  have hnow := h.lid.now s.to.1
  refine (commit_any hi (h.ok.oks h.lid (by omega) (by omega)) hr hQ (short_of h60) (by omega) (by omega)).mono ?_
  rintro e w' ⟨rfl, h1, t1⟩
  refine ⟨t1, ?_⟩
  have hlid := (h.lid.commit (rl.map (·.2))).mono (show _ ≤ B + 70000 by omega)
  rcases commit_out h.ok (rl.map (·.2)) (fun x hx => by have := h60 x hx; omega) with ⟨c1, c2, c3, G, a', c4, c5, c6⟩ | ⟨c1, c2, c3, c4⟩
  · exact .inl ⟨by rw [c1], _, G, a', ⟨⟨f, t, h1⟩, c4, hlid⟩, c5, c3, c2, c6, fun e => by simp at e⟩
  · exact .inr ⟨by rw [c1], c2, _, h1.dl.less (fun j hj => .inl hj), c3, c4, hlid⟩

theorem lw_checkpoint (h : LW w0 K w l b N s F a B) (hr : RL Q w v rl) (hQ : ∀ j, Q j → j < w0.heap.size ∨ K j) (h60 : ∀ x ∈ rl.map (·.2), x.length ≤ 1000) (hlen : (laidOf 3 4 (rl.map (·.2))).length ≤ 70000) (hN : N ≤ 1000000) (ha : a ≤ 1000000) (hB : B ≤ 1073741824) :
    Calls Tryz.prog 75 #[.pointer (some ⟨l, 0, none⟩), v] w (WTo w0 K w l b (N + (a + 2) + 3) s a (B + 70000) (frun F (a + 1)).1 (rl.map (·.2)) true) := by
  obtain ⟨f, t, hi⟩ := h.li
  have hnow := h.lid.now s.place
  have hfit : ∀ x ∈ rl.map (·.2), x.length ≤ 1048576 := fun x hx => by have := h60 x hx; omega
  refine (checkpoint_any (a + 2) hi (h.ok.oks h.lid (by omega) (by omega)) hr hQ (short_of h60) (by omega) ?_ (by omega)).mono ?_
  · intro ns hns
    have hc : Chunk.Ok (true, rl.map (·.2)) := ⟨fun e => by simp at e, hfit⟩
    by_cases hz : 0 < s.size
    · obtain ⟨hm, _⟩ := h.ok.next
      have hp : s.place = ((a + 1 : Nat) : Int) := by unfold WSt.place; rw [if_pos hz, h.ok.at']; rfl
      have hk : s.kept (rl.map (·.2)) = s.keep ((a + 1 : Nat) : Int) 0 (Chunk.bytes (true, rl.map (·.2))) := by unfold WSt.kept; rw [hp]; rfl
      rw [hk] at hns
      rcases keep_out h.ok.down hm hc with ⟨_, _, _, _, _, G, h4, _⟩ | ⟨_, _, h3, _⟩
      · exact nums_len h4.dok hns
      · have := nums_dead h3 hns; omega
    · have hp : s.place = (a : Int) := by unfold WSt.place; rw [if_neg hz, h.ok.at']
      have h0 : s.size = 0 := by have := h.ok.size; omega
      have hk : s.kept (rl.map (·.2)) = s.keep (a : Int) s.size (Chunk.bytes (true, rl.map (·.2))) := by unfold WSt.kept; rw [hp, h0]; rfl
      rw [hk] at hns
      rcases keep_out h.ok.down h.ok.mid hc with ⟨_, _, _, _, _, G, h4, _⟩ | ⟨_, _, h3, _⟩
      · have := nums_len h4.dok hns; omega
      · have := nums_dead h3 hns; omega
  rintro e w' ⟨ns, hns, rfl, h1, t1⟩
  refine ⟨t1, ?_⟩
  have hlid := (h.lid.checkpoint (rl.map (·.2)) ns).mono (show _ ≤ B + 70000 by omega)
  rcases checkpoint_out h.ok (rl.map (·.2)) hfit ns hns with ⟨c1, c2, c3, G, a', c4, c5, c6, c7, c9, c8⟩ | ⟨c1, c2, c3, c4⟩
  · refine .inl ⟨by rw [c1], _, G, a', ⟨⟨f, t, h1⟩, c4, hlid⟩, c5, c3, c2, c6, fun _ => ⟨⟨by simp, fun k => ?_⟩, c9⟩⟩
    unfold DSt.read
    rw [c4.dead, if_neg (by simp)]
    unfold DSt.now
    rw [c7, acts_nil, c8 k]
    simp
  · exact .inr ⟨by rw [c1], c2, _, h1.dl.less (fun j hj => .inl hj), c3, c4, hlid⟩

/-- What Open comes to. -/
def WOp (w0 : World) (K : Nat → Prop) (w : World) (b N : Nat) (n B : Nat) (seg : Int) (F : Int → List Chunk) (e : Ending) (w' : World) : Prop :=
  ∃ l rv rl, ∃ K' : Nat → Prop, ∃ s a, e = .returned (.tuple #[.pointer (some ⟨l, 0, none⟩), rv, .int .i64 0]) ∧ LW w0 K' w' l b N s F a B ∧ RL K' w' rv rl ∧ rl.map (·.2) = (frun F n).1 ∧ (∀ j, K j → K' j) ∧ Turn (Outs w0 K) w w' ∧ a ≤ n ∧ frun F (a + 1) = frun F n ∧ s.d.fused = false ∧ s.limit = seg

theorem lw_open {d : DSt} {n : Nat} (seg : Int) (h : DL w0 K w b N d) (hd : d.dead = false) (hf : d.fused = false) (ho : DOk d F n) (hl : Lid B d) (hs0 : 256 ≤ seg) (hs1 : seg ≤ 1048576) (hN : N ≤ 1000000) (hn : n ≤ 1000) (hB : B ≤ 1073741824) :
    Calls Tryz.prog 18 #[.pointer (some ⟨b, 0, none⟩), .int .i64 seg] w (WOp w0 K w b (N + n) n B seg F) := by
  obtain ⟨G, g1, _, _⟩ := ho.now
  refine (open_any n B h hd hs0 hs1 (fun ns hns => nums_len ho hns) hl.read ?_ (by omega) ?_).mono ?_
  · have : (n + 1) * B ≤ 1001 * B := Nat.mul_le_mul_right B (by omega)
    omega
  · intro k hk
    have h0 : ¬ (k < 0 ∨ (n : Int) ≤ k) := fun e => hk (by unfold DSt.read; rw [hd]; simpa using g1.no k e)
    omega
  · rintro e w' ⟨ns, hns, ht⟩
    obtain ⟨y, a, o1, o2, o3, o4, o5, o6, _⟩ := open_out ho hd hf seg hns
    rw [o1] at ht
    obtain ⟨l, f, t, rv, rl, K', rfl, h1, h2, h3, h4, h5⟩ := ht
    exact ⟨l, rv, rl, K', _, a, rfl, ⟨⟨f, t, h1⟩, o4, Lid.gone _ hl⟩, h2.mono (fun _ e => e.1), h3.trans o2, h4, h5, o3, o5, o6, rfl⟩

/-- Open once more, beside a Log. -/
def WOp2 (w0 : World) (K : Nat → Prop) (w : World) (l b N : Nat) (F : Int → List Chunk) (a B : Nat) (e : Ending) (w' : World) : Prop :=
  ∃ l2 rv rl, ∃ K' : Nat → Prop, ∃ s, e = .returned (.tuple #[.pointer (some ⟨l2, 0, none⟩), rv, .int .i64 0]) ∧ LW w0 K w' l b N s F a B ∧ RL K' w' rv rl ∧ rl.map (·.2) = (frun F (a + 1)).1 ∧ (∀ j, K j → K' j) ∧ Turn (Outs w0 K) w w'

theorem lw_open2 (seg : Int) (h : LW w0 K w l b N s F a B) (hf : s.d.fused = false) (hs0 : 256 ≤ seg) (hs1 : seg ≤ 1048576) (hN : N ≤ 1000000) (hn : a + 1 ≤ 1000) (hB : B ≤ 1073741824) :
    Calls Tryz.prog 18 #[.pointer (some ⟨b, 0, none⟩), .int .i64 seg] w (WOp2 w0 K w l b (N + (a + 1)) F a B) := by
  obtain ⟨f, t, hi⟩ := h.li
  have ho := h.ok.dok
  have hd := h.ok.dead
  obtain ⟨G, g1, _, _⟩ := ho.now
  refine (open_any (a + 1) B hi.dl hd hs0 hs1 (fun ns hns => nums_len ho hns) h.lid.read ?_ (by omega) ?_).mono ?_
  · have : (a + 1 + 1) * B ≤ 1001 * B := Nat.mul_le_mul_right B (by omega)
    omega
  · intro k hk
    have h0 : ¬ (k < 0 ∨ ((a + 1 : Nat) : Int) ≤ k) := fun e => hk (by unfold DSt.read; rw [hd]; simpa using g1.no k e)
    omega
  · rintro e w' ⟨ns, hns, ht⟩
    obtain ⟨y, a2, o1, o2, o3, o4, o5, o6, o7⟩ := open_out ho hd hf seg hns
    rw [o1] at ht
    obtain ⟨l2, f2, t2, rv, rl, K', rfl, h1, h2, h3, h4, h5⟩ := ht
    refine ⟨l2, rv, rl, K', { s with d := s.d.gone (ns.filter (· < y.since)) }, rfl, ⟨⟨f, t, ⟨h1.dl.less (fun j hj => .inl (h4 j hj)), hi.fr.kept h5 (fun e => e.2 (.inr (.inr (.inl rfl)))) (fun e => e.2 (.inr (.inr (.inr rfl)))), hi.at'.kept h5 (fun e => e.2 (.inr (.inl rfl))), hi.nl, hi.nf, hi.nt, hi.lf, hi.lt⟩⟩, ⟨h.ok.down, o4.dead, ⟨?_, ?_⟩, h.ok.at', ?_, ?_⟩, Lid.gone _ h.lid⟩, h2.mono (fun _ e => e.1), h3.trans o2, fun j hj => h4 j (.inl hj), own_less h5⟩
    · show Holds (s.d.gone _).base F (a + 1)
      rw [o7]
      exact ho.holds
    · have := o4.dok.rems
      rw [o5] at this
      exact this
    · show (s.d.gone _).base a = _
      rw [o7]
      exact h.ok.is
    · show s.size = (((s.d.gone _).base a).length : Int)
      rw [o7]
      exact h.ok.size

theorem lw_fuse (n : Int) (h : LW w0 K w l b N s F a B) (h0 : -9223372036854775808 ≤ n) (h1 : n ≤ 9223372036854775807) :
    Calls Tryz.prog 28 #[.pointer (some ⟨b, 0, none⟩), .int .i64 n] w fun e w' => e = .returned (.tuple #[]) ∧ LW w0 K w' l b N { s with d := s.d.fuse n } F a B ∧ Turn (Outs w0 K) w w' := by
  obtain ⟨f, t, hi⟩ := h.li
  refine (dl_fuse n hi.dl h0 h1).mono ?_
  rintro e w' ⟨rfl, hd, tn⟩
  exact ⟨rfl, ⟨⟨f, t, hi.disk hd tn⟩, ⟨h.ok.down, h.ok.dead, ⟨h.ok.dok.holds, h.ok.dok.rems⟩, h.ok.at', h.ok.is, h.ok.size⟩, h.lid⟩, own_less tn⟩

/-- A new Disk, plainly. -/
theorem dok_zero : DOk DSt.zero (fun _ => []) 0 := ⟨⟨fun _ => whole_nil, fun _ _ => rfl⟩, fun o ho => by simp [DSt.zero] at ho⟩
theorem lid_zero : Lid 0 DSt.zero := ⟨0, fun _ => Nat.le_refl _, Nat.le_refl _⟩

/-- Behind a crash. -/
theorem crash_dok {d : DSt} {G : Int → List Chunk} {n : Nat} {done cut : Int} (h : Holds (d.crash done cut).base G n) : DOk (d.crash done cut) G n := ⟨h, fun o ho => by
  have ho' : o ∈ ([] : List DOp) := ho
  simp at ho'⟩

end

end Go.Proofs.YtnipdgigjcaolaaGreat

/- Chapter 6's example, and the law WalKnown: their walks. -/
namespace Go.Proofs.YtnipdgigjcaolaaGreat
open Go.RowKit

section
variable {Q : Nat → Prop} {w : World}

theorem RL.lit (w : World) (rl : List (Value × List UInt8)) (T : TypeId) (hm : rl.length ≤ maxLen) (h : ∀ p ∈ rl, Sees w p.1 p.2 ∧ (0 < p.2.length → ∀ j, slab p.1 = some j → Q j)) :
    RL (grow Q w (w.alloc (.cells (rl.map (·.1)).toArray T))) (w.alloc (.cells (rl.map (·.1)).toArray T)) (.slice (some ⟨w.heap.size, 0, none⟩) rl.length rl.length) rl := by
  have ta : Turn (fun _ => False) w (w.alloc (.cells (rl.map (·.1)).toArray T)) := (Turn.refl _ _).alloc _
  refine .inr ⟨w.heap.size, rl.length, rfl, Nat.le_refl _, hm, .inr ⟨Nat.le_refl _, by simp⟩, fun k hk => ?_, fun p hp => ⟨(h p hp).1.kept ta (fun _ _ e => e), fun h0 j hj => .inl ((h p hp).2 h0 j hj)⟩⟩
  rw [cell_of_row _ w.heap.size k _ T (0, 0) (heap_alloc_new w _)]
  simp [hk]

theorem lit_lt {w w1 : World} {bs : List UInt8} {n c : Nat} (hs : Sees w1 (.slice (some ⟨w.heap.size, 0, none⟩) n c) bs) (h0 : 0 < bs.length) : w.heap.size < w1.heap.size := slab_lt hs h0 rfl

end

theorem two_of {rl : List (Value × List UInt8)} {x y : List UInt8} (h : rl.map (·.2) = [x, y]) : ∃ p q, rl = [(p, x), (q, y)] := by
  match rl, h with
  | [(p, _), (q, _)], h =>
    simp at h
    exact ⟨p, q, by rw [h.1, h.2]⟩

theorem one_of6 {rl : List (Value × List UInt8)} {x : List UInt8} (h : rl.map (·.2) = [x]) : ∃ p, rl = [(p, x)] := by
  match rl, h with
  | [(p, _)], h =>
    simp at h
    exact ⟨p, by rw [h]⟩

set_option maxHeartbeats 2000000 in
set_option maxRecDepth 100000 in
theorem known6_any (w : World) : Calls Tryz.prog 9 #[] w fun e w' => e = .returned (.bool true) ∧ Turn (fun _ => False) w w' := by
  go_enter Tryz.func9, Tryz.ntmps9
  go_wp2_with fail
  refine (dl_new (w0 := w) (K := fun _ => False) (fun _ h => h.elim) (Turn.refl _ w)).mono ?_
  rintro e w1 ⟨rfl, h1, _⟩
  obtain ⟨b, hb⟩ : ∃ b, b = w.heap.size := ⟨_, rfl⟩
  rw [← hb] at h1 ⊢
  clear hb
  go_wp2_with fail
  refine (lw_open 256 h1 rfl rfl dok_zero lid_zero (by omega) (by omega) (by omega) (by omega) (by omega)).mono ?_
  rintro e w2 ⟨l, rv, rl, K2, s, a, rfl, h2, hr2, he2, _, _, ha, hfr, hfu, _⟩
  obtain ⟨ro, rc, rfl⟩ := hr2.shape
  clear hr2 he2 h1
  obtain ⟨w3, hcv3, hs3, t3⟩ := run_lit w2 [97] (by simp [maxLen])
  obtain ⟨w4, hcv4, hs4, t4⟩ := run_lit w3 [98] (by simp [maxLen])
  simp [u8s] at hcv3 hcv4
  simp only [List.length_cons, List.length_nil, Nat.zero_add] at hs3 hs4
  have l3 := lit_lt hs3 (by simp)
  have l4 := lit_lt hs4 (by simp)
  have h4 := (h2.goes t3).goes t4
  have hL := RL.lit (Q := grow (grow K2 w2 w3) w3 w4) w4 [(.slice (some ⟨w2.heap.size, 0, none⟩) 1 1, [97]), (.slice (some ⟨w3.heap.size, 0, none⟩) 1 1, [98])] 29 (by simp [maxLen]) (by
    intro p hp
    simp only [List.mem_cons, List.not_mem_nil, or_false] at hp
    rcases hp with rfl | rfl
    · exact ⟨hs3.kept t4 (fun _ _ e => e), fun _ j hj => by simp [slab] at hj; subst hj; exact .inl (.inr ⟨Nat.le_refl _, l3⟩)⟩
    · exact ⟨hs4, fun _ j hj => by simp [slab] at hj; subst hj; exact .inr ⟨Nat.le_refl _, l4⟩⟩)
  simp only [List.map_cons, List.map_nil, List.length_cons, List.length_nil, Nat.zero_add, Nat.reduceAdd] at hL
  have h5 := h4.goes ((Turn.refl (fun _ => False) w4).alloc (.cells #[.slice (some ⟨w2.heap.size, 0, none⟩) 1 1, .slice (some ⟨w3.heap.size, 0, none⟩) 1 1] 29))
  have HC := hide (lw_commit h5 hL (fun j hj => .inr hj) (by simp) (Nat.le_trans (laidOf_len 1 2 1 [[97], [98]] (by simp)) (by decide)) (by omega) (by omega) (by omega))
  have hfr0 : (frun (fun _ => []) (a + 1)).1 = [] := by rw [hfr]; rfl
  simp only [List.map_cons, List.map_nil, hfr0, List.nil_append] at HC
  clear h2 h4 h5 hL hs3 hs4 t3 t4 l3 l4 hfr hfr0
  go_wp2_with fail
  refine (unhide HC).mono ?_
  rintro e w6 ⟨_, ⟨rfl, s6, G, a6, h6, ha6, hfu6, _, he6, _⟩ | ⟨_, hf, _⟩⟩
  · have HO := hide (lw_open 256 h6.dl h6.ok.dead (hfu6.trans hfu) h6.ok.dok h6.lid (by omega) (by omega) (by omega) (by omega) (by omega))
    have H6 := hide h6
    clear HC h6 hcv3 hcv4
    go_wp2_with fail
    refine (unhide HO).mono ?_
    rintro e w7 ⟨l7, rv7, rl7, K7, s7, a7, rfl, h7, hr7, he7, _, _, _, _, _, _⟩
    rw [he6] at he7
    obtain ⟨p, q, rfl⟩ := two_of he7
    obtain ⟨g, cap, po, pn, pc, e7, p1, p2, hc0⟩ := hr7.at 0 (by simp)
    obtain ⟨g', cap', qo, qn, qc, e7', q1, q2, hc1⟩ := hr7.at 1 (by simp)
    have hsp := (hr7.each (p, [97]) (by simp)).1
    have hsq := (hr7.each (q, [98]) (by simp)).1
    simp only [List.getElem_cons_zero, List.getElem_cons_succ] at p1 q1 p2 q2
    simp only at hsp hsq
    rw [p1] at hsp
    rw [q1] at hsq
    have hcvp := run_text_of_sees (P := Tryz.prog) w7 29 9 Tryz.underlying29 Tryz.underlying5 Tryz.underlying9 hsp
    have hcvq := run_text_of_sees (P := Tryz.prog) w7 29 9 Tryz.underlying29 Tryz.underlying5 Tryz.underlying9 hsq
    rw [e7] at e7'
    simp only [Value.slice.injEq, Option.some.injEq, Addr.mk.injEq, and_true, true_and] at e7'
    obtain ⟨rfl, rfl⟩ := e7'
    simp only [List.length_cons, List.length_nil, Nat.zero_add, Nat.reduceAdd] at e7
    subst e7
    clear p1 q1 p2 q2
    have ht := h7.turn
    clear h7 hr7 he7 hsp hsq HO H6
    go_wp2
    go_ret
    exact ⟨rfl, ht⟩
  · rw [hfu] at hf
    simp at hf

theorem made_zeros6 (n : Nat) : (madeCells #[.int .u8 0] n).toList = u8s (List.replicate n 0) := by
  apply List.ext_getElem
  · simp [madeCells, u8s]
  · intro k h1 h2
    simp [madeCells, u8s, Nat.mod_one]

theorem make_any6 (w : World) (n : Nat) (hn : n ≤ 16777216) : ∃ w' bs, (Instr.makeSlice 29 (.int .i64 n) (.int .i64 n)).run Tryz.prog w = .ok (.slice (some ⟨w.heap.size, 0, none⟩) n n) w' ∧ bs.length = n ∧ Sees w' (.slice (some ⟨w.heap.size, 0, none⟩) n n) bs ∧ Turn (fun _ => False) w w' := by
  obtain ⟨i0, hi, hz0, hz1, hz2⟩ := info_parts Tryz.infoU8
  obtain ⟨w', h, ho, hg⟩ := run_makeSlice_full (P := Tryz.prog) (w := w) 0 29 5 i0 (.int .u8 0) 1 Tryz.underlying29 hi hz0 hz1 .i64 .i64 n (by omega) (by rw [hz2]; omega) (by unfold maxLen; omega) (Nat.zero_le _)
  refine ⟨w', List.replicate n 0, h, List.length_replicate, ?_, (Turn.refl _ _).grown hg (fun k hk => by cases hk)⟩
  have e : (madeCells (Value.int .u8 0).cells (n * 1)).toList = u8s (List.replicate n 0) := by rw [Nat.mul_one]; exact made_zeros6 n
  rw [e] at ho
  have ho' : Owns w' (.slice (some ⟨w.heap.size, 0, none⟩) n n) (List.replicate n 0) := by
    unfold Owns
    rw [List.length_replicate]
    exact ho
  exact ho'.sees

/-- A commit on a disk that does not fall. -/
theorem commit_free {s : WSt} (hd : s.down = false) (h1 : s.d.dead = false) (h2 : s.d.fused = false) {l : List (List UInt8)} (hl : l ≠ []) (ha : 0 ≤ s.to.1) : s.commit l = (0, ⟨(s.d.lays s.to.1 (laidOf 1 2 l)).safe, s.limit, s.to.1, s.to.2 + (laidOf 1 2 l).length, false⟩) := by
  have hdn : s.d.down = false := by unfold DSt.down; rw [h1, h2]; rfl
  have hdn2 := lays_down h1 h2 s.to.1 (laidOf 1 2 l)
  unfold WSt.commit WSt.keep
  rw [if_neg hl, if_neg (by simp [hd]), add_down hdn _ ha, if_neg (by simp), sync_down hdn2, if_neg (by simp)]
  rw [← hd]

theorem laid_pos (k m : Int) (l : List (List UInt8)) : 9 ≤ (laidOf k m l).length := by
  unfold laidOf
  rw [List.length_append, record_length]
  omega

/-- What the first two commits of WalKnown come to. -/
theorem known_two (X Y : List (List UInt8)) (hX : X ≠ []) (hY : Y ≠ []) (h256 : 256 ≤ (laidOf 1 2 X).length) :
    ((⟨DSt.zero, 256, 0, 0, false⟩ : WSt).commit X).1 = 0 ∧ ((⟨DSt.zero, 256, 0, 0, false⟩ : WSt).commit X).2.at' = 0 ∧
    (((⟨DSt.zero, 256, 0, 0, false⟩ : WSt).commit X).2.commit Y).1 = 0 ∧ (((⟨DSt.zero, 256, 0, 0, false⟩ : WSt).commit X).2.commit Y).2.at' = 1 ∧ 0 < (((⟨DSt.zero, 256, 0, 0, false⟩ : WSt).commit X).2.commit Y).2.size ∧
    (((⟨DSt.zero, 256, 0, 0, false⟩ : WSt).commit X).2.commit Y).2.d.Nums [0, 1] := by
  have c1 := commit_free (s := ⟨DSt.zero, 256, 0, 0, false⟩) rfl rfl rfl hX (by decide)
  have t1 : (⟨DSt.zero, 256, 0, 0, false⟩ : WSt).to = (0, 0) := by decide
  rw [t1] at c1
  have p1 := laid_pos 1 2 X
  have p2 := laid_pos 1 2 Y
  rw [c1]
  generalize laidOf 1 2 X = bx at *
  have hf1 : ((DSt.zero.lays 0 bx).safe).dead = false ∧ ((DSt.zero.lays 0 bx).safe).fused = false := ⟨(lays_dead DSt.zero 0 bx).1, (lays_dead DSt.zero 0 bx).2⟩
  have hn1 : ((DSt.zero.lays 0 bx).safe).now = fput (fun _ => []) 0 bx := by
    show (DSt.zero.lays 0 bx).now = _
    rw [lays_now]
    rfl
  generalize hd1 : (DSt.zero.lays 0 bx).safe = d1 at *
  have t2 : (⟨d1, 256, 0, 0 + (bx.length : Int), false⟩ : WSt).to = (1, 0) := by
    unfold WSt.to
    rw [if_pos (by show (256 : Int) ≤ 0 + bx.length; omega)]
    rfl
  have c2 := commit_free (s := ⟨d1, 256, 0, 0 + (bx.length : Int), false⟩) rfl hf1.1 hf1.2 hY (by rw [t2]; decide)
  rw [t2] at c2
  refine ⟨rfl, rfl, ?_⟩
  simp only
  rw [c2]
  generalize laidOf 1 2 Y = bY at *
  refine ⟨rfl, rfl, by show (0 : Int) < 0 + bY.length; omega, by simp, fun k => ?_⟩
  have hn2 : (d1.lays 1 bY).safe.read k = fput (fput (fun _ => []) 0 bx) 1 bY k := by
    unfold DSt.read
    have hdd : (d1.lays 1 bY).safe.dead = false := (lays_dead d1 1 bY).1.trans hf1.1
    rw [hdd, if_neg (by simp)]
    show (d1.lays 1 bY).now k = _
    rw [lays_now, hn1]
    rfl
  rw [hn2]
  unfold fput
  have hbx : bx ≠ [] := fun e => by rw [e] at p1; simp at p1
  have hby : bY ≠ [] := fun e => by rw [e] at p2; simp at p2
  by_cases k1 : k = 1
  · simp [k1, hby]
  · by_cases k0 : k = 0
    · simp [k0, hbx]
    · simp [k1, k0]

/-- A commit on a disk that falls at once, and one behind it. -/
theorem commit_falls {s : WSt} (hd : s.down = false) (h1 : s.d.down = true) {l : List (List UInt8)} (hl : l ≠ []) (ha : 0 ≤ s.to.1) : s.commit l = (14, s.fell s.d.fall) := by
  unfold WSt.commit WSt.keep
  have ha' : s.d.add s.to.1 (laidOf 1 2 l) = (14, s.d.fall) := by
    unfold DSt.add
    rw [if_neg (by omega), if_pos h1]
  rw [if_neg hl, if_neg (by simp [hd]), ha', if_pos (by simp)]

theorem commit_downs {s : WSt} (hd : s.down = true) {l : List (List UInt8)} (hl : l ≠ []) : s.commit l = (14, s) := by
  unfold WSt.commit WSt.keep
  rw [if_neg hl, if_pos hd]

theorem laid_one (k m : Int) (x : List UInt8) : (laidOf k m [x]).length = 18 + x.length := by
  unfold laidOf frames
  simp [record_length]
  omega

/-- A Log on a new Disk. -/
abbrev s0K : WSt := ⟨DSt.zero, 256, 0, 0, false⟩

theorem s0K_ok : LOk s0K (fun _ => []) 0 := ⟨rfl, rfl, ⟨⟨fun _ => whole_nil, fun _ _ => rfl⟩, fun o ho => by simp [DSt.zero] at ho⟩, rfl, rfl, rfl⟩

theorem known_one (X : List (List UInt8)) (h0 : (s0K.commit X).2.at' = 0) (hf : ∀ x ∈ X, x.length ≤ 1048576) : ∃ G, LOk (s0K.commit X).2 G 0 ∧ (s0K.commit X).2.d.fused = false ∧ (frun G 1).1 = X := by
  rcases commit_out s0K_ok X hf with ⟨_, _, c3, G, b, c4, _, c6⟩ | ⟨_, c2, _⟩
  · have hb : b = 0 := by have := c4.at'; omega
    subst hb
    exact ⟨G, c4, c3, c6⟩
  · simp [DSt.zero] at c2

theorem known_next {s : WSt} {G : Int → List Chunk} {a b : Nat} (h : LOk s G a) (hfu : s.d.fused = false) (Y : List (List UInt8)) (h1 : (s.commit Y).2.at' = b) (hf : ∀ x ∈ Y, x.length ≤ 1048576) : ∃ G', LOk (s.commit Y).2 G' b ∧ (s.commit Y).2.d.fused = false := by
  rcases commit_out h Y hf with ⟨_, _, c3, G', b', c4, _, c6⟩ | ⟨_, c2, _⟩
  · have hb : b' = b := by have := c4.at'; omega
    subst hb
    exact ⟨G', c4, c3.trans hfu⟩
  · rw [hfu] at c2
    simp at c2

end Go.Proofs.YtnipdgigjcaolaaGreat

/- Chapter 7's example: its walk. -/
namespace Go.Proofs.YtnipdgigjcaolaaGreat
open Go.RowKit

/-- Changes as cells. -/
def cells3 (cl : List (Value × Chg)) : List Value := cl.flatMap fun p => [.string p.2.key, .bool p.2.has, p.1]

theorem cells3_cons (p : Value × Chg) (r : List (Value × Chg)) : cells3 (p :: r) = .string p.2.key :: .bool p.2.has :: p.1 :: cells3 r := rfl

theorem cells3_at : ∀ (cl : List (Value × Chg)) (k : Nat) (hk : k < cl.length), (cells3 cl)[k * 3]? = some (.string cl[k].2.key) ∧ (cells3 cl)[k * 3 + 1]? = some (.bool cl[k].2.has) ∧ (cells3 cl)[k * 3 + 2]? = some cl[k].1
  | [], k, hk => by simp at hk
  | p :: r, 0, _ => ⟨rfl, rfl, rfl⟩
  | p :: r, k + 1, hk => by
    have ih := cells3_at r k (by simpa using hk)
    rw [cells3_cons, show (k + 1) * 3 = k * 3 + 3 by omega]
    exact ih

theorem cells3_append (a b : List (Value × Chg)) : cells3 (a ++ b) = cells3 a ++ cells3 b := by simp [cells3]
theorem cells3_length (a : List (Value × Chg)) : (cells3 a).length = a.length * 3 := by
  induction a with
  | nil => rfl
  | cons p r ih => rw [cells3_cons]; simp [ih]; omega

theorem CLs.lit {Q : Nat → Prop} (w : World) (cl : List (Value × Chg)) (T : TypeId) (hl : cl.length ≤ 1099511627776) (h : ∀ p ∈ cl, Sees w p.1 p.2.val ∧ (0 < p.2.val.length → ∀ j, slab p.1 = some j → Q j) ∧ p.2.key.size ≤ 1099511627776 ∧ p.2.val.length ≤ 140737488355328) :
    CLs (grow Q w (w.alloc (.cells (cells3 cl).toArray T))) (w.alloc (.cells (cells3 cl).toArray T)) (.slice (some ⟨w.heap.size, 0, none⟩) cl.length cl.length) cl := by
  have ta : Turn (fun _ => False) w (w.alloc (.cells (cells3 cl).toArray T)) := (Turn.refl _ _).alloc _
  refine ⟨⟨_, _, rfl, hl⟩, fun k hk => ⟨w.heap.size, cl.length, rfl, .inr ⟨Nat.le_refl _, by simp⟩, ?_⟩⟩
  have hc := cells3_at cl k hk
  have hp := h cl[k] (List.getElem_mem hk)
  have hcell : ∀ i, (w.alloc (.cells (cells3 cl).toArray T)).cell? ⟨w.heap.size, i, none⟩ = (cells3 cl)[i]? := fun i => by
    rw [cell_of_row _ w.heap.size i _ T (0, 0) (heap_alloc_new w _)]
    simp
  exact ⟨(hcell _).trans hc.1, (hcell _).trans hc.2.1, (hcell _).trans hc.2.2, hp.1.kept ta (fun _ _ e => e), fun h0 j hj => .inl (hp.2.1 h0 j hj), hp.2.2.1, hp.2.2.2⟩

theorem nums_zero {ns : List Int} (h : DSt.zero.Nums ns) : ns = [] := by
  cases ns with
  | nil => rfl
  | cons k r =>
    have := (h.2 k).1 (by simp)
    exact absurd rfl this

/-- A Store on a new Disk: nothing is there. -/
theorem kopen_new {w0 w : World} {K : Nat → Prop} {b : Nat} (seg : Int) (h : DL w0 K w b 0 DSt.zero) (hs0 : 256 ≤ seg) (hs1 : seg ≤ 1048576) :
    Calls Tryz.prog 22 #[.pointer (some ⟨b, 0, none⟩), .int .i64 seg] w fun e w' => ∃ sb mb l f t, ∃ K' : Nat → Prop, e = .returned (.tuple #[.pointer (some ⟨sb, 0, none⟩), .int .i64 0]) ∧ KS w0 K' w' sb mb l b f t 0 ⟨DSt.zero, seg, 0, 0, false⟩ [] ∧ (∀ j, K j → K' j) ∧ Turn (Outs w0 K) w w' := by
  refine (kopen_any (seg := seg) 0 0 h rfl hs0 hs1 (fun ns hn => by rw [nums_zero hn]; simp) (fun k => Nat.le_refl _) (by omega) (by omega) (fun k hk => absurd rfl hk) ?_).mono ?_
  · intro ns y hn hy
    rw [nums_zero hn] at hy
    have e : (HSt.zero, (0 : Int)) = y := by injection hy
    rw [← e]
    exact ⟨by simp [HSt.zero], fun x hx => by simp [HSt.zero] at hx⟩
  · rintro e w' ⟨ns, hn, hm⟩
    rw [nums_zero hn] at hm
    obtain ⟨sb, mb, l, f, t, K', h1, h2, h3, h4⟩ := hm
    exact ⟨sb, mb, l, f, t, K', h1, h2, h3, h4.1⟩

end Go.Proofs.YtnipdgigjcaolaaGreat

/- Changes in the making; kv's made. -/
namespace Go.Proofs.YtnipdgigjcaolaaGreat
open Go.RowKit

theorem Tryz.infoChange : (Tryz.prog.info? 51).map (fun i => (i.zero, i.size, i.bytes)) = some (some (.agg #[.string ⟨#[]⟩, .bool false, .slice none 0 0]), 3, 48) := by kernel_rfl

/-- Changes in the making: the row in new memory, each value in Q or in new memory, apart from the row. -/
structure CM (Q : Nat → Prop) (w : World) (v : Value) (cl : List (Value × Chg)) (wr : World) : Prop where
  own : wr.ownsRow 0 51 3 v cl.length (cells3 cl)
  new : ∀ k, v.ownBlock = some k → w.heap.size ≤ k
  each : ∀ p ∈ cl, Sees wr p.1 p.2.val ∧ (0 < p.2.val.length → ∀ j, slab p.1 = some j → (Q j ∨ w.heap.size ≤ j) ∧ j < wr.heap.size ∧ v.ownBlock ≠ some j) ∧ p.2.key.size ≤ 1099511627776 ∧ p.2.val.length ≤ 140737488355328
  turn : Turn (fun _ => False) w wr

section
variable {Q : Nat → Prop} {w wr w2 : World} {v : Value} {cl : List (Value × Chg)}

theorem CM.nil (Q : Nat → Prop) (w : World) : CM Q w (.slice none 0 0) [] w := ⟨World.ownsRow_nil _ _ _ _, fun k hk => by simp [Value.ownBlock] at hk, fun p hp => by simp at hp, Turn.refl _ _⟩

theorem own_turn {S : Nat → Prop} {T : TypeId} {n size : Nat} {xs : List Value} {base : Nat} (h : wr.ownsRow base T size v n xs) (t : Turn S wr w2) (hs : ∀ k, v.ownBlock = some k → ¬ S k) : w2.ownsRow base T size v n xs := by
  refine ⟨h.1, ?_⟩
  rcases h.2 with hn | ⟨g, cap, cur, rfl, hb, hgg, rest⟩
  · exact .inl hn
  · refine .inr ⟨g, cap, cur, rfl, hb, ?_, rest⟩
    rw [t.block g (Array.getElem?_eq_some_iff.1 hgg).1 (hs g rfl)]
    exact hgg

theorem CM.goes (h : CM Q w v cl wr) (t : Turn (fun _ => False) wr w2) : CM Q w v cl w2 :=
  ⟨own_turn h.own t (fun _ _ e => e), h.new, fun p hp => by
    obtain ⟨h1, h2, h3, h4⟩ := h.each p hp
    exact ⟨h1.kept t (fun _ _ e => e), fun h0 j hj => ⟨(h2 h0 j hj).1, Nat.lt_of_lt_of_le (h2 h0 j hj).2.1 t.size, (h2 h0 j hj).2.2⟩, h3, h4⟩, h.turn.trans t⟩

theorem CM.shape (h : CM Q w v cl wr) : ∃ ao cap, v = .slice ao cl.length cap := by
  rcases h.own.2 with ⟨rfl, hn⟩ | ⟨g, cap, cur, rfl, _⟩
  · exact ⟨none, 0, by rw [hn]⟩
  · exact ⟨_, _, rfl⟩

/-- One more. -/
theorem CM.cat (h : CM Q w v cl wr) (p : Value × Chg) (hs : Sees wr p.1 p.2.val) (hm : 0 < p.2.val.length → ∀ j, slab p.1 = some j → (Q j ∨ w.heap.size ≤ j) ∧ j < wr.heap.size ∧ v.ownBlock ≠ some j) (hk : p.2.key.size ≤ 1099511627776) (hb : p.2.val.length ≤ 140737488355328) (hl : cl.length ≤ 1000000) :
    ∃ v2 w2, (Builtin.append_ #[52, 52] 52 #[v, .slice (some ⟨wr.heap.size, 0, none⟩) 1 1]).run Tryz.prog (wr.alloc (.cells #[.string p.2.key, .bool p.2.has, p.1] 51)) = .ok v2 w2 ∧ CM Q w v2 (cl ++ [p]) w2 := by
  obtain ⟨i, hi, hh⟩ := Option.map_eq_some_iff.1 Tryz.infoChange
  simp only [Prod.mk.injEq] at hh
  obtain ⟨po, pc, hpv⟩ := hs.shape
  have ta : Turn (fun _ => False) wr (wr.alloc (.cells #[.string p.2.key, .bool p.2.has, p.1] 51)) := (Turn.refl _ _).alloc _
  have h1 := h.goes ta
  have hone : ∀ u ∈ [Value.string p.2.key, .bool p.2.has, p.1], u.oneCell' = true := by
    intro u hu
    simp only [List.mem_cons, List.not_mem_nil, or_false] at hu
    rcases hu with rfl | rfl | rfl
    · rfl
    · rfl
    · rw [hpv]
      rfl
  obtain ⟨v2, w2, hr, ho, hg, _, hat⟩ := run_append_own_at (P := Tryz.prog) (wr.alloc (.cells #[.string p.2.key, .bool p.2.has, p.1] 51)) 0 52 52 51 i _ 3 48 Tryz.underlying52 hi hh.1 hh.2.1 hh.2.2 rfl (by omega) v cl.length (cells3 cl) h1.own
    ⟨wr.heap.size, 0, none⟩ 1 1 [.string p.2.key, .bool p.2.has, p.1] rfl (fun j u hj => by
      rw [show (⟨wr.heap.size, 0, none⟩ : Addr).add j = ⟨wr.heap.size, j, none⟩ by unfold Addr.add; split <;> simp_all]
      rw [cell_of_row _ wr.heap.size j _ 51 (0, 0) (heap_alloc_new wr _)]
      simpa using hj) hone (by unfold maxLen; omega) (Nat.le_trans (Nat.mul_le_mul_right 48 (show cl.length + 1 ≤ 1000001 by omega)) (by decide)) (Nat.zero_le _)
  have tg : Turn (fun j => v.ownBlock = some j) (wr.alloc (.cells #[.string p.2.key, .bool p.2.has, p.1] 51)) w2 := (Turn.refl _ _).grown hg (fun j hj => .inl hj)
  have hsz := ta.size
  have hwsz := h.turn.size
  refine ⟨v2, w2, hr, ⟨?_, fun k e => ?_, fun q hq => ?_, h1.turn.trans' tg (fun i hi e => by have := h.new i e; omega)⟩⟩
  · rw [cells3_append, List.length_append]
    exact ho
  · rcases hat with hk | hk
    · exact h.new k (hk ▸ e)
    · rw [hk] at e
      injection e with e
      omega
  · have hq' : Sees (wr.alloc (.cells #[.string p.2.key, .bool p.2.has, p.1] 51)) q.1 q.2.val ∧ (0 < q.2.val.length → ∀ j, slab q.1 = some j → (Q j ∨ w.heap.size ≤ j) ∧ j < wr.heap.size ∧ v.ownBlock ≠ some j) ∧ q.2.key.size ≤ 1099511627776 ∧ q.2.val.length ≤ 140737488355328 := by
      rcases List.mem_append.1 hq with hq | hq
      · obtain ⟨a1, a2, a3, a4⟩ := h.each q hq
        exact ⟨a1.kept ta (fun _ _ e => e), a2, a3, a4⟩
      · rw [List.mem_singleton.1 hq]
        exact ⟨hs.kept ta (fun _ _ e => e), hm, hk, hb⟩
    obtain ⟨a1, a2, a3, a4⟩ := hq'
    refine ⟨a1.kept' tg (fun h0 j hj => (a2 h0 j hj).2.2), fun h0 j hj => ?_, a3, a4⟩
    obtain ⟨b1, b2, b3⟩ := a2 h0 j hj
    refine ⟨b1, Nat.lt_of_lt_of_le b2 (Nat.le_trans hsz tg.size), fun e => ?_⟩
    rcases hat with hk | hk
    · exact b3 (hk ▸ e)
    · rw [hk] at e
      injection e with e
      omega

theorem CM.toCLs (h : CM Q w v cl wr) (hl : cl.length ≤ 1099511627776) : CLs (grow Q w wr) wr v cl := by
  obtain ⟨ao, cap, hv⟩ := h.shape
  refine ⟨⟨ao, cap, hv, hl⟩, fun k hk => ?_⟩
  have hc := cells3_at cl k hk
  rcases h.own.2 with ⟨_, hn⟩ | ⟨g, cap, cur, hve, _, hg, _⟩
  · omega
  · have hcell := World.ownsRow.cells h.own (g := g) (by rw [hve]; rfl)
    have hlt : g < wr.heap.size := (Array.getElem?_eq_some_iff.1 hg).1
    have hat : ∀ j u, (cells3 cl)[j]? = some u → wr.cell? ⟨g, j, none⟩ = some u := fun j u hj => by
      have := hcell j u hj
      rw [show (⟨g, 0, none⟩ : Addr).add j = ⟨g, j, none⟩ by unfold Addr.add; split <;> simp_all] at this
      exact this
    obtain ⟨a1, a2, a3, a4⟩ := h.each cl[k] (List.getElem_mem hk)
    refine ⟨g, cap, hve, .inr ⟨h.new g (by rw [hve]; rfl), hlt⟩, ⟨hat _ _ hc.1, hat _ _ hc.2.1, hat _ _ hc.2.2, a1, fun h0 j hj => ?_, a3, a4⟩⟩
    obtain ⟨b1, b2, _⟩ := a2 h0 j hj
    exact b1.imp id (fun e => ⟨e, b2⟩)

end

/-- The changes that make all pairs. -/
def madeC (m : List (List UInt8 × List UInt8)) : List Chg := m.map fun p => ⟨⟨p.1.toArray⟩, true, p.2⟩

theorem made_ok {m : List (List UInt8 × List UInt8)} (h : fitK m) : (madeC m).all Chg.ok = true := by
  rw [List.all_eq_true]
  intro c hc
  obtain ⟨p, hp, rfl⟩ := List.mem_map.1 hc
  have := h p hp
  unfold Chg.ok
  simp [ByteArray.size]
  omega

theorem rising_get {α : Type} {m : List (List UInt8 × α)} (h : risingK m) (n : Nat) (hn : n < m.length) : kget m[n].1 m = some m[n].2 := by
  unfold kget
  have hf : m.find? (fun p => p.1 == m[n].1) = some m[n] := by
    rw [List.find?_eq_some_iff_getElem]
    refine ⟨by simp, n, hn, rfl, fun j hj => ?_⟩
    have := List.pairwise_iff_getElem.1 h j n (by omega) hn hj
    have hlt := before_lt this
    simp only [Bool.not_eq_true', beq_eq_false_iff_ne]
    intro e
    rw [e] at hlt
    exact List.lt_irrefl _ hlt
  rw [hf]
  rfl

section
variable {w0 w w1 : World} {K : Nat → Prop} {sb mb l b f t N : Nat} {s : WSt} {m : List (List UInt8 × List UInt8)}

set_option maxHeartbeats 8000000 in
set_option maxRecDepth 100000 in
theorem kmade_any (h : KS w0 K w sb mb l b f t N s m) (hml : m.length ≤ 100000) :
    Calls Tryz.prog 74 #[.pointer (some ⟨sb, 0, none⟩)] w fun e w' => ∃ v cl, e = .returned v ∧ CM K w v cl w' ∧ cl.map (·.2) = madeC m := by
  have HK := hide (kkeys_any h ⟨#[]⟩ (by omega))
  have H := hide h
  rw [keysOf_all] at HK
  clear h
  go_enter Tryz.func74, Tryz.ntmps74
  go_wp2_with fail
  refine (unhide HK).mono ?_
  rintro e w1 ⟨kv, rfl, hx⟩
  obtain ⟨ko, kc, hke⟩ := hx.own.shape'
  rw [List.length_map, List.length_map] at hke
  have Hx := hide hx
  obtain ⟨len, hlen⟩ : ∃ len, len = m.length := ⟨_, rfl⟩
  have HL := hide hlen
  rw [← hlen] at hke hml
  subst hke
  clear hx HK hlen
  go_wp2_with fail
  go_loopw [3, 5, 9] (fun out _ i wr => ∃ (n : Nat) (cl : List (Value × Chg)), i = .int .i64 n ∧ n ≤ len ∧ CM (grow K w w1) w1 out cl wr ∧ cl.map (·.2) = (madeC m).take n) (fun _ _ i _ => len - (intOf i).toNat)
  case atStart => exact ⟨0, [], rfl, by omega, CM.nil _ _, rfl⟩
  case round =>
    obtain ⟨n, cl, rfl, hnl, hcm, hcl⟩ := hrel
    have tw := (unhide Hx).turn.trans hcm.turn
    have hcll : cl.length = n := by
      have := congrArg List.length hcl
      have h2 := unhide HL
      simp [madeC] at this
      omega
    by_cases hlt : n < len
    · have hnm : n < m.length := by have := unhide HL; omega
      have hks := (unhide H).goes tw
      have c1 : wr.cell? ⟨sb, 1, none⟩ = some (.map (some mb)) := hks.at'.cell 1
      obtain ⟨m', h0, h2⟩ := (unhide H).mp
      have h1 := h0.kept tw (fun _ _ e => e)
      have hfit := (unhide H).fit m[n] (List.getElem_mem hnm)
      have hget := rising_get (unhide H).rising n hnm
      have hmade : (madeC m).take (n + 1) = (madeC m).take n ++ [⟨⟨m[n].1.toArray⟩, true, m[n].2⟩] := by
        rw [List.take_succ_eq_append_getElem (by simpa [madeC] using hnm)]
        simp [madeC]
      have hkrow : (m.map (·.1))[n]? = some m[n].1 := by simp [hnm]
      obtain ⟨⟨key, val⟩, hkv⟩ : ∃ p, p = m[n] := ⟨_, rfl⟩
      rw [← hkv] at hfit hget hmade hkrow
      simp only at hfit hget hmade hkrow
      clear hkv
      have hlk := h1.look1 ⟨key.toArray⟩ (by unfold maxLen; simp [ByteArray.size]; omega)
      rw [show (⟨key.toArray⟩ : ByteArray).data.toList = key by simp] at hlk
      have hget' : (kget key m').map Prod.snd = some val := by
        rw [← hget, ← h2]
        exact (kget_map _ _ _).symm
      obtain ⟨q, hq, hq2⟩ := Option.map_eq_some_iff.1 hget'
      obtain ⟨r, hr, hrq⟩ := Option.map_eq_some_iff.1 hq
      have hrm := h0.each r (List.mem_of_find?_eq_some hr)
      rw [hrq, hq2] at hrm
      have hs := hrm.1.kept tw (fun _ _ e => e)
      rw [hq] at hlk
      simp only [Option.map_some, Option.getD_some] at hlk
      have hcell : ∃ a, ko = some a ∧ wr.cell? (a.add n) = some (encStr key) := by
        have ho := (unhide Hx).own.kept hcm.turn (fun _ _ e => e)
        have hkr : ((m.map (·.1)).map encStr)[n]? = some (encStr key) := by rw [List.getElem?_map, hkrow]; rfl
        rcases ho.sees with ⟨_, h1⟩ | ⟨a, cap', e1, _, _, h4⟩
        · rw [h1] at hkr; simp at hkr
        · injection e1 with e1
          exact ⟨a, e1, h4 n _ hkr⟩
      obtain ⟨a, rfl, hca⟩ := hcell
      obtain ⟨vo, vc, hve⟩ := hs.shape
      have hws := hcm.turn.size
      have hw1 := (unhide Hx).turn.size
      obtain ⟨v2, w2, hrun, hcm2⟩ := hcm.cat (q.1, ⟨⟨key.toArray⟩, true, val⟩) hs (fun h0' j hj => by
        have hKj := (hrm.2 j hj).1
        have hlt := ((unhide H).li.held j hKj).2
        exact ⟨.inl (.inl hKj), by omega, fun e => by have := hcm.new j e; omega⟩) (by simp [ByteArray.size]; omega) (by show val.length ≤ _; omega) (by omega)
      obtain ⟨oo, oc, hoe⟩ := hcm.shape
      obtain ⟨o2, c2, hoe2⟩ := hcm2.shape
      rw [hcll] at hoe
      rw [List.length_append, List.length_singleton, hcll] at hoe2
      have hcl2 : (cl ++ [(q.1, (⟨⟨key.toArray⟩, true, val⟩ : Chg))]).map (·.2) = (madeC m).take (n + 1) := by rw [List.map_append, hcl, hmade]; rfl
      have Hfin := hide (And.intro hcm2 hcl2)
      have q1 : (n : Int) < len := by omega
      obtain ⟨vn, hvn⟩ : ∃ vn, vn = val.length := ⟨_, rfl⟩
      rw [← hvn] at hve
      generalize hqv : q.1 = qv at *
      simp only at hrun
      have Hrun := hide hrun
      clear hcm2 hcl2 hcm hks h0 h1 h2 hfit hget hget' hq hq2 hr hrq hrm hs hws hw1 hmade hkrow hvn hcl tw hqv hrun
      subst hve hoe hoe2
      go_wp2_with (at_builtin; refine wpList_append_run rfl (.tmp 13) (.tmp 22) 52 rfl _ _ _ w2 rfl rfl (unhide Hrun) ?_)
      go_roundw
      case rel => exact ⟨n + 1, _, by go_num, by omega, (unhide Hfin).1, (unhide Hfin).2⟩
      case measure => simp [intOf]; omega
    · obtain rfl : n = len := by omega
      have q1 : ¬ (n : Int) < n := by omega
      have hall : (madeC m).take n = madeC m := List.take_of_length_le (by have := unhide HL; simp [madeC]; omega)
      rw [hall] at hcl
      obtain ⟨oo, oc, hoe⟩ := hcm.shape
      have hw1 := (unhide Hx).turn.size
      have hfin : CM K w u3 cl wr := ⟨hcm.own, fun k hk => Nat.le_trans hw1 (hcm.new k hk), fun p hp => by
        obtain ⟨a1, a2, a3, a4⟩ := hcm.each p hp
        refine ⟨a1, fun h0 j hj => ?_, a3, a4⟩
        obtain ⟨b1, b2, b3⟩ := a2 h0 j hj
        refine ⟨?_, b2, b3⟩
        rcases b1 with (b1 | b1) | b1
        · exact .inl b1
        · exact .inr b1.1
        · exact .inr (Nat.le_trans hw1 b1), tw⟩
      have Hfin := hide (And.intro hfin hcl)
      rw [hcll] at hoe
      clear hcm hcl hall hfin tw
      subst hoe
      go_wp2
      go_ret
      exact ⟨_, rfl, cl, (unhide Hfin).1, (unhide Hfin).2⟩

end

end Go.Proofs.YtnipdgigjcaolaaGreat
