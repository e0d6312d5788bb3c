/- Chapter 6's example, and the law WalKnown: their walks. -/
import Derived.Test.YteomehdkfhjbeaaGreatDoorWLaw
import Derived.Test.YteomehdkfhjbeaaGreatDoorPkF
namespace Go.Proofs.YteomehdkfhjbeaaGreatDoor
open Go.RowKit

section
variable {Q : Nat → Prop} {w : World}

theorem RL.lit (w : World) (rl : List (Value × List UInt8)) (T : TypeId) (hm : rl.length ≤ maxLen) (h : ∀ p ∈ rl, Sees w p.1 p.2 ∧ (0 < p.2.length → ∀ j, slab p.1 = some j → Q j)) :
    RL (grow Q w (w.alloc (.cells (rl.map (·.1)).toArray T))) (w.alloc (.cells (rl.map (·.1)).toArray T)) (.slice (some ⟨w.heap.size, 0, none⟩) rl.length rl.length) rl := by
  have ta : Turn (fun _ => False) w (w.alloc (.cells (rl.map (·.1)).toArray T)) := (Turn.refl _ _).alloc _
  refine .inr ⟨w.heap.size, rl.length, rfl, Nat.le_refl _, hm, .inr ⟨Nat.le_refl _, by simp⟩, fun k hk => ?_, fun p hp => ⟨(h p hp).1.kept ta (fun _ _ e => e), fun h0 j hj => .inl ((h p hp).2 h0 j hj)⟩⟩
  rw [cell_of_row _ w.heap.size k _ T (0, 0) (heap_alloc_new w _)]
  simp [hk]

theorem lit_lt {w w1 : World} {bs : List UInt8} {n c : Nat} (hs : Sees w1 (.slice (some ⟨w.heap.size, 0, none⟩) n c) bs) (h0 : 0 < bs.length) : w.heap.size < w1.heap.size := slab_lt hs h0 rfl

end

theorem two_of {rl : List (Value × List UInt8)} {x y : List UInt8} (h : rl.map (·.2) = [x, y]) : ∃ p q, rl = [(p, x), (q, y)] := by
  match rl, h with
  | [(p, _), (q, _)], h =>
    simp at h
    exact ⟨p, q, by rw [h.1, h.2]⟩

theorem one_of6 {rl : List (Value × List UInt8)} {x : List UInt8} (h : rl.map (·.2) = [x]) : ∃ p, rl = [(p, x)] := by
  match rl, h with
  | [(p, _)], h =>
    simp at h
    exact ⟨p, by rw [h]⟩

theorem made_zeros6 (n : Nat) : (madeCells #[.int .u8 0] n).toList = u8s (List.replicate n 0) := by
  apply List.ext_getElem
  · simp [madeCells, u8s]
  · intro k h1 h2
    simp [madeCells, u8s, Nat.mod_one]

theorem make_any6 (w : World) (n : Nat) (hn : n ≤ 16777216) : ∃ w' bs, (Instr.makeSlice 32 (.int .i64 n) (.int .i64 n)).run Tryz.prog w = .ok (.slice (some ⟨w.heap.size, 0, none⟩) n n) w' ∧ bs.length = n ∧ Sees w' (.slice (some ⟨w.heap.size, 0, none⟩) n n) bs ∧ Turn (fun _ => False) w w' := by
  obtain ⟨i0, hi, hz0, hz1, hz2⟩ := info_parts Tryz.infoU8
  obtain ⟨w', h, ho, hg⟩ := run_makeSlice_full (P := Tryz.prog) (w := w) 0 32 5 i0 (.int .u8 0) 1 Tryz.underlying32 hi hz0 hz1 .i64 .i64 n (by omega) (by rw [hz2]; omega) (by unfold maxLen; omega) (Nat.zero_le _)
  refine ⟨w', List.replicate n 0, h, List.length_replicate, ?_, (Turn.refl _ _).grown hg (fun k hk => by cases hk)⟩
  have e : (madeCells (Value.int .u8 0).cells (n * 1)).toList = u8s (List.replicate n 0) := by rw [Nat.mul_one]; exact made_zeros6 n
  rw [e] at ho
  have ho' : Owns w' (.slice (some ⟨w.heap.size, 0, none⟩) n n) (List.replicate n 0) := by
    unfold Owns
    rw [List.length_replicate]
    exact ho
  exact ho'.sees

/-- A commit on a disk that does not fall. -/
theorem commit_free {s : WSt} (hd : s.down = false) (h1 : s.d.dead = false) (h2 : s.d.fused = false) {l : List (List UInt8)} (hl : l ≠ []) (ha : 0 ≤ s.to.1) : s.commit l = (0, ⟨(s.d.lays s.to.1 (laidOf 1 2 l)).safe, s.limit, s.to.1, s.to.2 + (laidOf 1 2 l).length, false⟩) := by
  have hdn : s.d.down = false := by unfold DSt.down; rw [h1, h2]; rfl
  have hdn2 := lays_down h1 h2 s.to.1 (laidOf 1 2 l)
  unfold WSt.commit WSt.keep
  rw [if_neg hl, if_neg (by simp [hd]), add_down hdn _ ha, if_neg (by simp), sync_down hdn2, if_neg (by simp)]
  rw [← hd]

theorem laid_pos (k m : Int) (l : List (List UInt8)) : 9 ≤ (laidOf k m l).length := by
  unfold laidOf
  rw [List.length_append, record_length]
  omega

/-- What the first two commits of WalKnown come to. -/
theorem known_two (X Y : List (List UInt8)) (hX : X ≠ []) (hY : Y ≠ []) (h256 : 256 ≤ (laidOf 1 2 X).length) :
    ((⟨DSt.zero, 256, 0, 0, false⟩ : WSt).commit X).1 = 0 ∧ ((⟨DSt.zero, 256, 0, 0, false⟩ : WSt).commit X).2.at' = 0 ∧
    (((⟨DSt.zero, 256, 0, 0, false⟩ : WSt).commit X).2.commit Y).1 = 0 ∧ (((⟨DSt.zero, 256, 0, 0, false⟩ : WSt).commit X).2.commit Y).2.at' = 1 ∧ 0 < (((⟨DSt.zero, 256, 0, 0, false⟩ : WSt).commit X).2.commit Y).2.size ∧
    (((⟨DSt.zero, 256, 0, 0, false⟩ : WSt).commit X).2.commit Y).2.d.Nums [0, 1] := by
  have c1 := commit_free (s := ⟨DSt.zero, 256, 0, 0, false⟩) rfl rfl rfl hX (by decide)
  have t1 : (⟨DSt.zero, 256, 0, 0, false⟩ : WSt).to = (0, 0) := by decide
  rw [t1] at c1
  have p1 := laid_pos 1 2 X
  have p2 := laid_pos 1 2 Y
  rw [c1]
  generalize laidOf 1 2 X = bx at *
  have hf1 : ((DSt.zero.lays 0 bx).safe).dead = false ∧ ((DSt.zero.lays 0 bx).safe).fused = false := ⟨(lays_dead DSt.zero 0 bx).1, (lays_dead DSt.zero 0 bx).2⟩
  have hn1 : ((DSt.zero.lays 0 bx).safe).now = fput (fun _ => []) 0 bx := by
    show (DSt.zero.lays 0 bx).now = _
    rw [lays_now]
    rfl
  generalize hd1 : (DSt.zero.lays 0 bx).safe = d1 at *
  have t2 : (⟨d1, 256, 0, 0 + (bx.length : Int), false⟩ : WSt).to = (1, 0) := by
    unfold WSt.to
    rw [if_pos (by show (256 : Int) ≤ 0 + bx.length; omega)]
    rfl
  have c2 := commit_free (s := ⟨d1, 256, 0, 0 + (bx.length : Int), false⟩) rfl hf1.1 hf1.2 hY (by rw [t2]; decide)
  rw [t2] at c2
  refine ⟨rfl, rfl, ?_⟩
  simp only
  rw [c2]
  generalize laidOf 1 2 Y = bY at *
  refine ⟨rfl, rfl, by show (0 : Int) < 0 + bY.length; omega, by simp, fun k => ?_⟩
  have hn2 : (d1.lays 1 bY).safe.read k = fput (fput (fun _ => []) 0 bx) 1 bY k := by
    unfold DSt.read
    have hdd : (d1.lays 1 bY).safe.dead = false := (lays_dead d1 1 bY).1.trans hf1.1
    rw [hdd, if_neg (by simp)]
    show (d1.lays 1 bY).now k = _
    rw [lays_now, hn1]
    rfl
  rw [hn2]
  unfold fput
  have hbx : bx ≠ [] := fun e => by rw [e] at p1; simp at p1
  have hby : bY ≠ [] := fun e => by rw [e] at p2; simp at p2
  by_cases k1 : k = 1
  · simp [k1, hby]
  · by_cases k0 : k = 0
    · simp [k0, hbx]
    · simp [k1, k0]

/-- A commit on a disk that falls at once, and one behind it. -/
theorem commit_falls {s : WSt} (hd : s.down = false) (h1 : s.d.down = true) {l : List (List UInt8)} (hl : l ≠ []) (ha : 0 ≤ s.to.1) : s.commit l = (14, s.fell s.d.fall) := by
  unfold WSt.commit WSt.keep
  have ha' : s.d.add s.to.1 (laidOf 1 2 l) = (14, s.d.fall) := by
    unfold DSt.add
    rw [if_neg (by omega), if_pos h1]
  rw [if_neg hl, if_neg (by simp [hd]), ha', if_pos (by simp)]

theorem commit_downs {s : WSt} (hd : s.down = true) {l : List (List UInt8)} (hl : l ≠ []) : s.commit l = (14, s) := by
  unfold WSt.commit WSt.keep
  rw [if_neg hl, if_pos hd]

theorem laid_one (k m : Int) (x : List UInt8) : (laidOf k m [x]).length = 18 + x.length := by
  unfold laidOf frames
  simp [record_length]
  omega

/-- A Log on a new Disk. -/
abbrev s0K : WSt := ⟨DSt.zero, 256, 0, 0, false⟩

theorem s0K_ok : LOk s0K (fun _ => []) 0 := ⟨rfl, rfl, ⟨⟨fun _ => whole_nil, fun _ _ => rfl⟩, fun o ho => by simp [DSt.zero] at ho⟩, rfl, rfl, rfl⟩

theorem known_one (X : List (List UInt8)) (h0 : (s0K.commit X).2.at' = 0) (hf : ∀ x ∈ X, x.length ≤ 1048576) : ∃ G, LOk (s0K.commit X).2 G 0 ∧ (s0K.commit X).2.d.fused = false ∧ (frun G 1).1 = X := by
  rcases commit_out s0K_ok X hf with ⟨_, _, c3, G, b, c4, _, c6⟩ | ⟨_, c2, _⟩
  · have hb : b = 0 := by have := c4.at'; omega
    subst hb
    exact ⟨G, c4, c3, c6⟩
  · simp [DSt.zero] at c2

theorem known_next {s : WSt} {G : Int → List Chunk} {a b : Nat} (h : LOk s G a) (hfu : s.d.fused = false) (Y : List (List UInt8)) (h1 : (s.commit Y).2.at' = b) (hf : ∀ x ∈ Y, x.length ≤ 1048576) : ∃ G', LOk (s.commit Y).2 G' b ∧ (s.commit Y).2.d.fused = false := by
  rcases commit_out h Y hf with ⟨_, _, c3, G', b', c4, _, c6⟩ | ⟨_, c2, _⟩
  · have hb : b' = b := by have := c4.at'; omega
    subst hb
    exact ⟨G', c4, c3.trans hfu⟩
  · rw [hfu] at c2
    simp at c2

end Go.Proofs.YteomehdkfhjbeaaGreatDoor
