/- Chapter 6's example, and the law WalKnown: their walks. -/
import Derived.Test.YteomehdkfhjbeaaGreatWLaw
import Derived.Test.YteomehdkfhjbeaaGreatPkF
namespace Go.Proofs.YteomehdkfhjbeaaGreat
open Go.RowKit

section
variable {Q : Nat → Prop} {w : World}

theorem RL.lit (w : World) (rl : List (Value × List UInt8)) (T : TypeId) (hm : rl.length ≤ maxLen) (h : ∀ p ∈ rl, Sees w p.1 p.2 ∧ (0 < p.2.length → ∀ j, slab p.1 = some j → Q j)) :
    RL (grow Q w (w.alloc (.cells (rl.map (·.1)).toArray T))) (w.alloc (.cells (rl.map (·.1)).toArray T)) (.slice (some ⟨w.heap.size, 0, none⟩) rl.length rl.length) rl := by
  have ta : Turn (fun _ => False) w (w.alloc (.cells (rl.map (·.1)).toArray T)) := (Turn.refl _ _).alloc _
  refine .inr ⟨w.heap.size, rl.length, rfl, Nat.le_refl _, hm, .inr ⟨Nat.le_refl _, by simp⟩, fun k hk => ?_, fun p hp => ⟨(h p hp).1.kept ta (fun _ _ e => e), fun h0 j hj => .inl ((h p hp).2 h0 j hj)⟩⟩
  rw [cell_of_row _ w.heap.size k _ T (0, 0) (heap_alloc_new w _)]
  simp [hk]

theorem lit_lt {w w1 : World} {bs : List UInt8} {n c : Nat} (hs : Sees w1 (.slice (some ⟨w.heap.size, 0, none⟩) n c) bs) (h0 : 0 < bs.length) : w.heap.size < w1.heap.size := slab_lt hs h0 rfl

end

theorem two_of {rl : List (Value × List UInt8)} {x y : List UInt8} (h : rl.map (·.2) = [x, y]) : ∃ p q, rl = [(p, x), (q, y)] := by
  match rl, h with
  | [(p, _), (q, _)], h =>
    simp at h
    exact ⟨p, q, by rw [h.1, h.2]⟩

theorem one_of6 {rl : List (Value × List UInt8)} {x : List UInt8} (h : rl.map (·.2) = [x]) : ∃ p, rl = [(p, x)] := by
  match rl, h with
  | [(p, _)], h =>
    simp at h
    exact ⟨p, by rw [h]⟩

set_option maxHeartbeats 2000000 in
set_option maxRecDepth 100000 in
theorem known6_any (w : World) : Calls Tryz.prog 9 #[] w fun e w' => e = .returned (.bool true) ∧ Turn (fun _ => False) w w' := by
  go_enter Tryz.func9, Tryz.ntmps9
  go_wp2_with fail
  refine (dl_new (w0 := w) (K := fun _ => False) (fun _ h => h.elim) (Turn.refl _ w)).mono ?_
  rintro e w1 ⟨rfl, h1, _⟩
  obtain ⟨b, hb⟩ : ∃ b, b = w.heap.size := ⟨_, rfl⟩
  rw [← hb] at h1 ⊢
  clear hb
  go_wp2_with fail
  refine (lw_open 256 h1 rfl rfl dok_zero lid_zero (by omega) (by omega) (by omega) (by omega) (by omega)).mono ?_
  rintro e w2 ⟨l, rv, rl, K2, s, a, rfl, h2, hr2, he2, _, _, ha, hfr, hfu, _⟩
  obtain ⟨ro, rc, rfl⟩ := hr2.shape
  clear hr2 he2 h1
  obtain ⟨w3, hcv3, hs3, t3⟩ := run_lit w2 [97] (by simp [maxLen])
  obtain ⟨w4, hcv4, hs4, t4⟩ := run_lit w3 [98] (by simp [maxLen])
  simp [u8s] at hcv3 hcv4
  simp only [List.length_cons, List.length_nil, Nat.zero_add] at hs3 hs4
  have l3 := lit_lt hs3 (by simp)
  have l4 := lit_lt hs4 (by simp)
  have h4 := (h2.goes t3).goes t4
  have hL := RL.lit (Q := grow (grow K2 w2 w3) w3 w4) w4 [(.slice (some ⟨w2.heap.size, 0, none⟩) 1 1, [97]), (.slice (some ⟨w3.heap.size, 0, none⟩) 1 1, [98])] 29 (by simp [maxLen]) (by
    intro p hp
    simp only [List.mem_cons, List.not_mem_nil, or_false] at hp
    rcases hp with rfl | rfl
    · exact ⟨hs3.kept t4 (fun _ _ e => e), fun _ j hj => by simp [slab] at hj; subst hj; exact .inl (.inr ⟨Nat.le_refl _, l3⟩)⟩
    · exact ⟨hs4, fun _ j hj => by simp [slab] at hj; subst hj; exact .inr ⟨Nat.le_refl _, l4⟩⟩)
  simp only [List.map_cons, List.map_nil, List.length_cons, List.length_nil, Nat.zero_add, Nat.reduceAdd] at hL
  have h5 := h4.goes ((Turn.refl (fun _ => False) w4).alloc (.cells #[.slice (some ⟨w2.heap.size, 0, none⟩) 1 1, .slice (some ⟨w3.heap.size, 0, none⟩) 1 1] 29))
  have HC := hide (lw_commit h5 hL (fun j hj => .inr hj) (by simp) (Nat.le_trans (laidOf_len 1 2 1 [[97], [98]] (by simp)) (by decide)) (by omega) (by omega) (by omega))
  have hfr0 : (frun (fun _ => []) (a + 1)).1 = [] := by rw [hfr]; rfl
  simp only [List.map_cons, List.map_nil, hfr0, List.nil_append] at HC
  clear h2 h4 h5 hL hs3 hs4 t3 t4 l3 l4 hfr hfr0
  go_wp2_with fail
  refine (unhide HC).mono ?_
  rintro e w6 ⟨_, ⟨rfl, s6, G, a6, h6, ha6, hfu6, _, he6, _⟩ | ⟨_, hf, _⟩⟩
  · have HO := hide (lw_open 256 h6.dl h6.ok.dead (hfu6.trans hfu) h6.ok.dok h6.lid (by omega) (by omega) (by omega) (by omega) (by omega))
    have H6 := hide h6
    clear HC h6 hcv3 hcv4
    go_wp2_with fail
    refine (unhide HO).mono ?_
    rintro e w7 ⟨l7, rv7, rl7, K7, s7, a7, rfl, h7, hr7, he7, _, _, _, _, _, _⟩
    rw [he6] at he7
    obtain ⟨p, q, rfl⟩ := two_of he7
    obtain ⟨g, cap, po, pn, pc, e7, p1, p2, hc0⟩ := hr7.at 0 (by simp)
    obtain ⟨g', cap', qo, qn, qc, e7', q1, q2, hc1⟩ := hr7.at 1 (by simp)
    have hsp := (hr7.each (p, [97]) (by simp)).1
    have hsq := (hr7.each (q, [98]) (by simp)).1
    simp only [List.getElem_cons_zero, List.getElem_cons_succ] at p1 q1 p2 q2
    simp only at hsp hsq
    rw [p1] at hsp
    rw [q1] at hsq
    have hcvp := run_text_of_sees (P := Tryz.prog) w7 29 9 Tryz.underlying29 Tryz.underlying5 Tryz.underlying9 hsp
    have hcvq := run_text_of_sees (P := Tryz.prog) w7 29 9 Tryz.underlying29 Tryz.underlying5 Tryz.underlying9 hsq
    rw [e7] at e7'
    simp only [Value.slice.injEq, Option.some.injEq, Addr.mk.injEq, and_true, true_and] at e7'
    obtain ⟨rfl, rfl⟩ := e7'
    simp only [List.length_cons, List.length_nil, Nat.zero_add, Nat.reduceAdd] at e7
    subst e7
    clear p1 q1 p2 q2
    have ht := h7.turn
    clear h7 hr7 he7 hsp hsq HO H6
    go_wp2
    go_ret
    exact ⟨rfl, ht⟩
  · rw [hfu] at hf
    simp at hf

theorem made_zeros6 (n : Nat) : (madeCells #[.int .u8 0] n).toList = u8s (List.replicate n 0) := by
  apply List.ext_getElem
  · simp [madeCells, u8s]
  · intro k h1 h2
    simp [madeCells, u8s, Nat.mod_one]

theorem make_any6 (w : World) (n : Nat) (hn : n ≤ 16777216) : ∃ w' bs, (Instr.makeSlice 29 (.int .i64 n) (.int .i64 n)).run Tryz.prog w = .ok (.slice (some ⟨w.heap.size, 0, none⟩) n n) w' ∧ bs.length = n ∧ Sees w' (.slice (some ⟨w.heap.size, 0, none⟩) n n) bs ∧ Turn (fun _ => False) w w' := by
  obtain ⟨i0, hi, hz0, hz1, hz2⟩ := info_parts Tryz.infoU8
  obtain ⟨w', h, ho, hg⟩ := run_makeSlice_full (P := Tryz.prog) (w := w) 0 29 5 i0 (.int .u8 0) 1 Tryz.underlying29 hi hz0 hz1 .i64 .i64 n (by omega) (by rw [hz2]; omega) (by unfold maxLen; omega) (Nat.zero_le _)
  refine ⟨w', List.replicate n 0, h, List.length_replicate, ?_, (Turn.refl _ _).grown hg (fun k hk => by cases hk)⟩
  have e : (madeCells (Value.int .u8 0).cells (n * 1)).toList = u8s (List.replicate n 0) := by rw [Nat.mul_one]; exact made_zeros6 n
  rw [e] at ho
  have ho' : Owns w' (.slice (some ⟨w.heap.size, 0, none⟩) n n) (List.replicate n 0) := by
    unfold Owns
    rw [List.length_replicate]
    exact ho
  exact ho'.sees

/-- A commit on a disk that does not fall. -/
theorem commit_free {s : WSt} (hd : s.down = false) (h1 : s.d.dead = false) (h2 : s.d.fused = false) {l : List (List UInt8)} (hl : l ≠ []) (ha : 0 ≤ s.to.1) : s.commit l = (0, ⟨(s.d.lays s.to.1 (laidOf 1 2 l)).safe, s.limit, s.to.1, s.to.2 + (laidOf 1 2 l).length, false⟩) := by
  have hdn : s.d.down = false := by unfold DSt.down; rw [h1, h2]; rfl
  have hdn2 := lays_down h1 h2 s.to.1 (laidOf 1 2 l)
  unfold WSt.commit WSt.keep
  rw [if_neg hl, if_neg (by simp [hd]), add_down hdn _ ha, if_neg (by simp), sync_down hdn2, if_neg (by simp)]
  rw [← hd]

theorem laid_pos (k m : Int) (l : List (List UInt8)) : 9 ≤ (laidOf k m l).length := by
  unfold laidOf
  rw [List.length_append, record_length]
  omega

/-- What the first two commits of WalKnown come to. -/
theorem known_two (X Y : List (List UInt8)) (hX : X ≠ []) (hY : Y ≠ []) (h256 : 256 ≤ (laidOf 1 2 X).length) :
    ((⟨DSt.zero, 256, 0, 0, false⟩ : WSt).commit X).1 = 0 ∧ ((⟨DSt.zero, 256, 0, 0, false⟩ : WSt).commit X).2.at' = 0 ∧
    (((⟨DSt.zero, 256, 0, 0, false⟩ : WSt).commit X).2.commit Y).1 = 0 ∧ (((⟨DSt.zero, 256, 0, 0, false⟩ : WSt).commit X).2.commit Y).2.at' = 1 ∧ 0 < (((⟨DSt.zero, 256, 0, 0, false⟩ : WSt).commit X).2.commit Y).2.size ∧
    (((⟨DSt.zero, 256, 0, 0, false⟩ : WSt).commit X).2.commit Y).2.d.Nums [0, 1] := by
  have c1 := commit_free (s := ⟨DSt.zero, 256, 0, 0, false⟩) rfl rfl rfl hX (by decide)
  have t1 : (⟨DSt.zero, 256, 0, 0, false⟩ : WSt).to = (0, 0) := by decide
  rw [t1] at c1
  have p1 := laid_pos 1 2 X
  have p2 := laid_pos 1 2 Y
  rw [c1]
  generalize laidOf 1 2 X = bx at *
  have hf1 : ((DSt.zero.lays 0 bx).safe).dead = false ∧ ((DSt.zero.lays 0 bx).safe).fused = false := ⟨(lays_dead DSt.zero 0 bx).1, (lays_dead DSt.zero 0 bx).2⟩
  have hn1 : ((DSt.zero.lays 0 bx).safe).now = fput (fun _ => []) 0 bx := by
    show (DSt.zero.lays 0 bx).now = _
    rw [lays_now]
    rfl
  generalize hd1 : (DSt.zero.lays 0 bx).safe = d1 at *
  have t2 : (⟨d1, 256, 0, 0 + (bx.length : Int), false⟩ : WSt).to = (1, 0) := by
    unfold WSt.to
    rw [if_pos (by show (256 : Int) ≤ 0 + bx.length; omega)]
    rfl
  have c2 := commit_free (s := ⟨d1, 256, 0, 0 + (bx.length : Int), false⟩) rfl hf1.1 hf1.2 hY (by rw [t2]; decide)
  rw [t2] at c2
  refine ⟨rfl, rfl, ?_⟩
  simp only
  rw [c2]
  generalize laidOf 1 2 Y = bY at *
  refine ⟨rfl, rfl, by show (0 : Int) < 0 + bY.length; omega, by simp, fun k => ?_⟩
  have hn2 : (d1.lays 1 bY).safe.read k = fput (fput (fun _ => []) 0 bx) 1 bY k := by
    unfold DSt.read
    have hdd : (d1.lays 1 bY).safe.dead = false := (lays_dead d1 1 bY).1.trans hf1.1
    rw [hdd, if_neg (by simp)]
    show (d1.lays 1 bY).now k = _
    rw [lays_now, hn1]
    rfl
  rw [hn2]
  unfold fput
  have hbx : bx ≠ [] := fun e => by rw [e] at p1; simp at p1
  have hby : bY ≠ [] := fun e => by rw [e] at p2; simp at p2
  by_cases k1 : k = 1
  · simp [k1, hby]
  · by_cases k0 : k = 0
    · simp [k0, hbx]
    · simp [k1, k0]

/-- A commit on a disk that falls at once, and one behind it. -/
theorem commit_falls {s : WSt} (hd : s.down = false) (h1 : s.d.down = true) {l : List (List UInt8)} (hl : l ≠ []) (ha : 0 ≤ s.to.1) : s.commit l = (14, s.fell s.d.fall) := by
  unfold WSt.commit WSt.keep
  have ha' : s.d.add s.to.1 (laidOf 1 2 l) = (14, s.d.fall) := by
    unfold DSt.add
    rw [if_neg (by omega), if_pos h1]
  rw [if_neg hl, if_neg (by simp [hd]), ha', if_pos (by simp)]

theorem commit_downs {s : WSt} (hd : s.down = true) {l : List (List UInt8)} (hl : l ≠ []) : s.commit l = (14, s) := by
  unfold WSt.commit WSt.keep
  rw [if_neg hl, if_pos hd]

theorem laid_one (k m : Int) (x : List UInt8) : (laidOf k m [x]).length = 18 + x.length := by
  unfold laidOf frames
  simp [record_length]
  omega

/-- A Log on a new Disk. -/
abbrev s0K : WSt := ⟨DSt.zero, 256, 0, 0, false⟩

theorem s0K_ok : LOk s0K (fun _ => []) 0 := ⟨rfl, rfl, ⟨⟨fun _ => whole_nil, fun _ _ => rfl⟩, fun o ho => by simp [DSt.zero] at ho⟩, rfl, rfl, rfl⟩

theorem known_one (X : List (List UInt8)) (h0 : (s0K.commit X).2.at' = 0) (hf : ∀ x ∈ X, x.length ≤ 1048576) : ∃ G, LOk (s0K.commit X).2 G 0 ∧ (s0K.commit X).2.d.fused = false ∧ (frun G 1).1 = X := by
  rcases commit_out s0K_ok X hf with ⟨_, _, c3, G, b, c4, _, c6⟩ | ⟨_, c2, _⟩
  · have hb : b = 0 := by have := c4.at'; omega
    subst hb
    exact ⟨G, c4, c3, c6⟩
  · simp [DSt.zero] at c2

theorem known_next {s : WSt} {G : Int → List Chunk} {a b : Nat} (h : LOk s G a) (hfu : s.d.fused = false) (Y : List (List UInt8)) (h1 : (s.commit Y).2.at' = b) (hf : ∀ x ∈ Y, x.length ≤ 1048576) : ∃ G', LOk (s.commit Y).2 G' b ∧ (s.commit Y).2.d.fused = false := by
  rcases commit_out h Y hf with ⟨_, _, c3, G', b', c4, _, c6⟩ | ⟨_, c2, _⟩
  · have hb : b' = b := by have := c4.at'; omega
    subst hb
    exact ⟨G', c4, c3.trans hfu⟩
  · rw [hfu] at c2
    simp at c2

end Go.Proofs.YteomehdkfhjbeaaGreat
