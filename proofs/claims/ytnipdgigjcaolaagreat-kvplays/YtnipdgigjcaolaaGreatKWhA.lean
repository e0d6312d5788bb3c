/- The law KvWhole: its notions: where the loop is, what stands behind the switch. -/
import Derived.Test.YtnipdgigjcaolaaGreatKHold
import Derived.Test.YtnipdgigjcaolaaGreatKLaw
import Derived.Test.YtnipdgigjcaolaaGreatKList
import Derived.Test.YtnipdgigjcaolaaGreatOpenS7
namespace Go.Proofs.YtnipdgigjcaolaaGreat
open Go.RowKit

/-- Pairs of the law's own: short keys, short values. -/
def small7 (m : List (List UInt8 × List UInt8)) : Prop := ∀ p ∈ m, p.1.length ≤ 3 ∧ p.2.length ≤ 30

theorem chg_small (x : RawC) : x.chg.key.size ≤ 3 ∧ x.chg.val.length ≤ 30 := by
  have h1 := tabK_size (x.key % 6).toNat
  unfold RawC.chg
  simp only
  constructor
  · split
    · simp [ByteArray.size]
    · exact h1
  · split
    · simp
      omega
    · simp

theorem small_turn {m : List (List UInt8 × List UInt8)} {c : Chg} (h : small7 m) (hk : c.key.size ≤ 3) (hv : c.val.length ≤ 30) : small7 (turnC m c) := by
  intro p hp
  unfold turnC at hp
  split at hp
  · unfold kput at hp
    rcases (kins_mem _ _ _ _).1 hp with h1 | h1
    · rw [h1]
      exact ⟨by rw [text_length]; exact hk, hv⟩
    · exact h p (List.mem_filter.1 h1).1
  · exact h p (List.mem_filter.1 hp).1

theorem turn_length (m : List (List UInt8 × List UInt8)) (c : Chg) : (turnC m c).length ≤ m.length + 1 := by
  unfold turnC
  split
  · exact kput_length _ _ _
  · have := kdel_length c.key.data.toList m
    omega

theorem small_fold (l : List RawC) (n : Nat) {m : List (List UInt8 × List UInt8)} (h : small7 m) : small7 ((listC l n).foldl turnC m) ∧ ((listC l n).foldl turnC m).length ≤ m.length + (listC l n).length := by
  unfold listC
  generalize l.take n = r
  induction r generalizing m with
  | nil => exact ⟨h, by simp⟩
  | cons x r ih =>
    obtain ⟨h1, h2⟩ := ih (small_turn h (chg_small x).1 (chg_small x).2)
    refine ⟨h1, ?_⟩
    have h3 := turn_length m x.chg
    simp only [List.map_cons, List.foldl_cons, List.length_cons]
    omega

/-- The records that make small pairs are few bytes. -/
theorem small_laid {m : List (List UInt8 × List UInt8)} (h : small7 m) (hl : m.length ≤ 1000) : (laidOf 3 4 (recsOf m)).length ≤ 70000 := by
  have h0 := laidOf_len 3 4 60 (recsOf m) (fun x hx => by
    unfold recsOf madeC at hx
    rw [List.map_map] at hx
    obtain ⟨p, hp, rfl⟩ := List.mem_map.1 hx
    have h1 := h p hp
    show (Chg.laid ⟨⟨p.1.toArray⟩, true, p.2⟩).length ≤ 60
    unfold Chg.laid
    simp [be_length, sh_length]
    omega)
  have h2 : (recsOf m).length = m.length := by simp [recsOf, madeC]
  rw [h2] at h0
  omega

/-- .. and so are the law's changes. -/
theorem list_laid (l : List RawC) (n : Nat) (hn : n ≤ 1000) : (laidOf 1 2 ((listC l n).map Chg.laid)).length ≤ 70000 := by
  have h0 := laidOf_len 1 2 60 ((listC l n).map Chg.laid) (fun x hx => by
    unfold listC at hx
    rw [List.map_map] at hx
    obtain ⟨p, _, rfl⟩ := List.mem_map.1 hx
    exact chg_len p)
  have h2 := listC_ok_len l n
  rw [List.length_map] at h0
  omega

/-- Where the loop is: a Store at sb, its pairs in the map nb. -/
structure Whl7 (w : World) (K : Nat → Prop) (wr : World) (sb b nb : Nat) (n : Nat) : Prop where
  is : ∃ mb l N B R s F a m, N ≤ n * 400 ∧ B ≤ n * 70000 ∧ a ≤ 2 * n ∧ R ≤ 6 * n ∧ KW w K wr sb mb l b N s F a B R m ∧ MSt wr nb m ∧ K nb ∧ nb ≠ sb ∧ nb ≠ mb ∧ small7 m ∧ m.length ≤ R

/-- Behind the switch: whatever a crash leaves, what was there is opened, or what was under way. -/
structure Mid7 (w : World) (K : Nat → Prop) (wx : World) (sb b nb ub : Nat) (xb : Nat) (xc : Array Value) (n : Nat) : Prop where
  box : At 69 wx xb xc
  bk : K xb
  is : ∃ N B R k d m u y, N ≤ n * 400 + 100 ∧ B ≤ n * 70000 + 70000 ∧ k ≤ 2 * n + 2 ∧ R ≤ 6 * n + 6 ∧ DL w K wx b N d ∧ KFallen d k R m y ∧ (y = m ∨ y = u) ∧ Lid B d ∧ MSt wx nb m ∧ MSt wx ub u ∧ K nb ∧ K ub ∧ small7 m ∧ small7 u ∧ m.length ≤ R ∧ u.length ≤ R ∧
    (d.dead = false → ∃ mb l s F a, KW w K wx sb mb l b N s F a B R m ∧ s.d = d ∧ a ≤ 2 * n + 1 ∧ nb ≠ sb ∧ nb ≠ mb)

section
variable {w wx : World} {K : Nat → Prop} {sb mb l b nb ub xb n N B R a : Nat} {xc : Array Value} {s : WSt} {F : Int → List Chunk} {m u : List (List UInt8 × List UInt8)}

/-- Nothing has fallen. -/
theorem Mid7.alive (box : At 69 wx xb xc) (bk : K xb) (hN : N ≤ n * 400 + 100) (hB : B ≤ n * 70000 + 70000) (hR : R ≤ 6 * n + 6) (ha : a ≤ 2 * n + 1) (h : KW w K wx sb mb l b N s F a B R m) (n1 : nb ≠ sb) (n2 : nb ≠ mb) (h1 : MSt wx nb m) (h2 : MSt wx ub u) (k1 : K nb) (k2 : K ub) (s1 : small7 m) (s2 : small7 u) (l1 : m.length ≤ R) (l2 : u.length ≤ R) : Mid7 w K wx sb b nb ub xb xc n :=
  ⟨box, bk, N, B, R, a + 1, s.d, m, u, m, hN, hB, by omega, hR, h.dl, h.fallen m _ h.rep h.few, .inl rfl, h.lid, h1, h2, k1, k2, s1, s2, l1, l2, fun _ => ⟨mb, l, s, F, a, h, rfl, ha, n1, n2⟩⟩

/-- The disk has fallen. -/
theorem Mid7.fell {k : Nat} {d : DSt} (box : At 69 wx xb xc) (bk : K xb) (hN : N ≤ n * 400 + 100) (hB : B ≤ n * 70000 + 70000) (hR : R ≤ 6 * n + 6) (hk : k ≤ 2 * n + 2) (h : DL w K wx b N d) (hd : d.dead = true) (hf : KFallen d k R m u) (hl : Lid B d) (h1 : MSt wx nb m) (h2 : MSt wx ub u) (k1 : K nb) (k2 : K ub) (s1 : small7 m) (s2 : small7 u) (l1 : m.length ≤ R) (l2 : u.length ≤ R) : Mid7 w K wx sb b nb ub xb xc n :=
  ⟨box, bk, N, B, R, k, d, m, u, u, hN, hB, hk, hR, h, hf, .inr rfl, hl, h1, h2, k1, k2, s1, s2, l1, l2, fun e => by rw [hd] at e; cases e⟩

end

theorem KW.sb_lt {w wr : World} {K : Nat → Prop} {sb mb l b N B R a : Nat} {s : WSt} {F : Int → List Chunk} {m : List (List UInt8 × List UInt8)} (h : KW w K wr sb mb l b N s F a B R m) : sb < wr.heap.size := h.kr.at'.lt

theorem KW.mb_lt {w wr : World} {K : Nat → Prop} {sb mb l b N B R a : Nat} {s : WSt} {F : Int → List Chunk} {m : List (List UInt8 × List UInt8)} (h : KW w K wr sb mb l b N s F a B R m) : mb < wr.heap.size := by
  obtain ⟨m', h1, _⟩ := h.kr.mp
  exact h1.lt

theorem KFallen.mono {d : DSt} {n R R' : Nat} {x y : List (List UInt8 × List UInt8)} (h : KFallen d n R x y) (hR : R ≤ R') : KFallen d n R' x y := by
  obtain ⟨rx, ry, h1, h2, h3, h4, h5⟩ := h
  exact ⟨rx, ry, h1, h2, h3, Nat.le_trans h4 hR, Nat.le_trans h5 hR⟩

/-- Behind the crash one of both is opened. -/
theorem KFallen.crash {d : DSt} {n R : Nat} {m u y : List (List UInt8 × List UInt8)} (h : KFallen d n R m y) (hy : y = m ∨ y = u) (done cut : Int) (sm : small7 m) (su : small7 u) (lm : m.length ≤ R) (lu : u.length ≤ R) :
    ∃ G z, DOk (d.crash done cut) G n ∧ replayC (frun G n).1 = some z ∧ (frun G n).1.length ≤ R ∧ (z = m ∨ z = u) ∧ small7 z ∧ z.length ≤ R := by
  obtain ⟨rx, ry, h1, h2, h3, h4, h5⟩ := h
  obtain ⟨G, g1, g2⟩ := h1 done cut
  rcases g2 with g2 | g2
  · exact ⟨G, m, crash_dok g1, by rw [g2]; exact h2, by rw [g2]; exact h4, .inl rfl, sm, lm⟩
  · rcases hy with rfl | rfl
    · exact ⟨G, _, crash_dok g1, by rw [g2]; exact h3, by rw [g2]; exact h5, .inl rfl, sm, lm⟩
    · exact ⟨G, _, crash_dok g1, by rw [g2]; exact h3, by rw [g2]; exact h5, .inr rfl, su, lu⟩

end Go.Proofs.YtnipdgigjcaolaaGreat
