/- A Store within a law: its calls, with what a crash leaves of them, within bounds. -/
import Derived.Test.YtnipdgigjcaolaaGreatKChk
import Derived.Test.YtnipdgigjcaolaaGreatPkT
import Derived.Test.YtnipdgigjcaolaaGreatPkU
namespace Go.Proofs.YtnipdgigjcaolaaGreat
open Go.RowKit

theorem fold_short : ∀ (l : List (List UInt8)) {m m2 : List (List UInt8 × List UInt8)}, l.foldl stepC (some m) = some m2 → ∀ x ∈ l, x.length ≤ 65795
  | [], _, _, _ => fun x hx => by simp at hx
  | y :: r, m, m2, e => by
    rw [List.foldl_cons] at e
    cases hr : readC y with
    | none =>
      rw [show stepC (some m) y = none by simp [stepC, hr], fold_none] at e
      cases e
    | some c =>
      rw [show stepC (some m) y = some (turnC m c) by simp [stepC, hr]] at e
      intro x hx
      rcases List.mem_cons.1 hx with rfl | hx
      · obtain ⟨h1, h2⟩ := readC_some hr
        rw [← h2]
        exact Chg.laid_le c h1
      · exact fold_short r e x hx

theorem replay_short {l : List (List UInt8)} {m : List (List UInt8 × List UInt8)} (h : replayC l = some m) : ∀ x ∈ l, x.length ≤ 65795 := fold_short l h

theorem replay_more {x : List (List UInt8)} {m : List (List UInt8 × List UInt8)} (h : replayC x = some m) {cl : List Chg} (hc : cl.all Chg.ok = true) : replayC (x ++ cl.map Chg.laid) = some (cl.foldl turnC m) := by
  rw [replayC_append, h, fold_laid cl m hc]

/-- A new pair at the end. -/
theorem kput_end {m : List (List UInt8 × List UInt8)} {k v : List UInt8} (h : ∀ p ∈ m, bytesBefore p.1 k = true) : kput k v m = m ++ [(k, v)] := by
  have hne : kdel k m = m := by
    unfold kdel
    rw [List.filter_eq_self]
    intro p hp
    have := before_lt (h p hp)
    simp only [Bool.not_eq_true', beq_eq_false_iff_ne]
    intro e
    rw [e] at this
    exact List.lt_irrefl _ this
  unfold kput
  rw [hne]
  clear hne
  induction m with
  | nil => rfl
  | cons y r ih =>
    rw [kins_cons]
    have hy := before_lt (h y (by simp))
    have : bytesBefore k y.1 = false := by
      cases hb : bytesBefore k y.1 with
      | false => rfl
      | true => exact absurd (List.lt_trans hy (before_lt hb)) (List.lt_irrefl _)
    rw [this]
    simp only [Bool.false_eq_true, if_false]
    rw [ih (fun p hp => h p (by simp [hp]))]
    rfl

theorem made_fold : ∀ (a b : List (List UInt8 × List UInt8)), risingK (a ++ b) → (madeC b).foldl turnC a = a ++ b
  | a, [], _ => by simp [madeC]
  | a, p :: r, h => by
    have e : turnC a ⟨⟨p.1.toArray⟩, true, p.2⟩ = a ++ [p] := by
      unfold turnC
      simp only [if_true]
      refine kput_end (k := p.1) (v := p.2) (fun q hq => ?_)
      unfold risingK at h
      rw [List.pairwise_append] at h
      exact h.2.2 q hq p (by simp)
    show (madeC r).foldl turnC (turnC a ⟨⟨p.1.toArray⟩, true, p.2⟩) = _
    rw [e, made_fold (a ++ [p]) r (by rw [List.append_assoc]; exact h), List.append_assoc]
    rfl

theorem replay_made {m : List (List UInt8 × List UInt8)} (h : risingK m) (hf : fitK m) : replayC (recsOf m) = some m := by
  unfold recsOf replayC
  rw [fold_laid _ _ (made_ok hf), made_fold [] m (by simpa using h)]
  rfl

/-- A Store within a law, that is not dead, its log in segment a; R bounds its records. -/
structure KW (w0 : World) (K : Nat → Prop) (w : World) (sb mb l b N : Nat) (s : WSt) (F : Int → List Chunk) (a B R : Nat) (m : List (List UInt8 × List UInt8)) : Prop where
  ks : ∃ f t, KS w0 K w sb mb l b f t N s m
  ok : LOk s F a
  lid : Lid B s.d
  rep : replayC (frun F (a + 1)).1 = some m
  few : (frun F (a + 1)).1.length ≤ R

/-- What a crash leaves of a Store: x, or y. -/
def KFallen (d : DSt) (n R : Nat) (x y : List (List UInt8 × List UInt8)) : Prop := ∃ rx ry, Fallen d n rx ry ∧ replayC rx = some x ∧ replayC ry = some y ∧ rx.length ≤ R ∧ ry.length ≤ R

section
variable {w0 w w1 : World} {K Q : Nat → Prop} {sb mb l b N : Nat} {s : WSt} {F : Int → List Chunk} {a B R : Nat} {m : List (List UInt8 × List UInt8)}

theorem KW.goes (h : KW w0 K w sb mb l b N s F a B R m) (t : Turn (fun _ => False) w w1) : KW w0 (grow K w w1) w1 sb mb l b N s F a B R m := by
  obtain ⟨f, t', hk⟩ := h.ks
  exact ⟨⟨f, t', hk.goes t⟩, h.ok, h.lid, h.rep, h.few⟩

theorem KW.mono {N' B' R' : Nat} (h : KW w0 K w sb mb l b N s F a B R m) (hN : N ≤ N') (hB : B ≤ B') (hR : R ≤ R') : KW w0 K w sb mb l b N' s F a B' R' m := by
  obtain ⟨f, t', hk⟩ := h.ks
  exact ⟨⟨f, t', hk.mono hN⟩, h.ok, h.lid.mono hB, h.rep, Nat.le_trans h.few hR⟩

theorem KW.kr (h : KW w0 K w sb mb l b N s F a B R m) : KR K w sb mb l m := by
  obtain ⟨f, t, hk⟩ := h.ks
  exact hk.kr

theorem KW.held (h : KW w0 K w sb mb l b N s F a B R m) : ∀ j, K j → w0.heap.size ≤ j ∧ j < w.heap.size := by
  obtain ⟨f, t, hk⟩ := h.ks
  exact hk.li.held

theorem KW.dl (h : KW w0 K w sb mb l b N s F a B R m) : DL w0 K w b N s.d := by
  obtain ⟨f, t, hk⟩ := h.ks
  exact hk.li.dl.less (fun j hj => .inl hj)

theorem KW.turn (h : KW w0 K w sb mb l b N s F a B R m) : Turn (fun _ => False) w0 w := h.dl.turn

theorem KW.rising (h : KW w0 K w sb mb l b N s F a B R m) : risingK m := by
  obtain ⟨f, t, hk⟩ := h.ks
  exact hk.rising

theorem KW.fallen (h : KW w0 K w sb mb l b N s F a B R m) (y : List (List UInt8 × List UInt8)) (ry : List (List UInt8)) (hy : replayC ry = some y) (hl : ry.length ≤ R) : KFallen s.d (a + 1) R m y :=
  ⟨_, ry, h.ok.dok.fallen ry, h.rep, hy, h.few, hl⟩

/-- What Open comes to. -/
def KWOp (w0 : World) (K : Nat → Prop) (w : World) (b N n B R : Nat) (F : Int → List Chunk) (m : List (List UInt8 × List UInt8)) (e : Ending) (w' : World) : Prop :=
  ∃ sb mb l, ∃ K' : Nat → Prop, ∃ s a, e = .returned (.tuple #[.pointer (some ⟨sb, 0, none⟩), .int .i64 0]) ∧ KW w0 K' w' sb mb l b N s F a B R m ∧ (∀ j, K j → K' j) ∧ Turn (Outs w0 K) w w' ∧ a ≤ n ∧ s.d.fused = false

/-- .. and its blocks are new. -/
def KWOpN (w0 : World) (K : Nat → Prop) (w : World) (b N n B R : Nat) (F : Int → List Chunk) (m : List (List UInt8 × List UInt8)) (e : Ending) (w' : World) : Prop :=
  ∃ sb mb l, ∃ K' : Nat → Prop, ∃ s a, e = .returned (.tuple #[.pointer (some ⟨sb, 0, none⟩), .int .i64 0]) ∧ KW w0 K' w' sb mb l b N s F a B R m ∧ (∀ j, K j → K' j) ∧ Turn (Outs w0 K) w w' ∧ a ≤ n ∧ s.d.fused = false ∧ w.heap.size ≤ sb ∧ w.heap.size ≤ mb

theorem kw_open_n {d : DSt} {n : Nat} (seg : Int) (h : DL w0 K w b N d) (hd : d.dead = false) (hf : d.fused = false) (ho : DOk d F n) (hl : Lid B d) (hs0 : 256 ≤ seg) (hs1 : seg ≤ 1048576) (hN : N ≤ 1000000) (hn : n ≤ 1000) (hB : B ≤ 1073741824) (hr : replayC (frun F n).1 = some m) (hR : (frun F n).1.length ≤ R) (hRR : R ≤ 1000000) :
    Calls Tryz.prog 22 #[.pointer (some ⟨b, 0, none⟩), .int .i64 seg] w (KWOpN w0 K w b (N + n) n B R F m) := by
  obtain ⟨G, g1, _, _⟩ := ho.now
  refine (kopen_any (seg := seg) n B h hd hs0 hs1 (fun ns hns => nums_len ho hns) hl.read ?_ (by omega) ?_ ?_).mono ?_
  · have : (n + 1) * B ≤ 1001 * B := Nat.mul_le_mul_right B (by omega)
    omega
  · intro k hk
    have h0 : ¬ (k < 0 ∨ (n : Int) ≤ k) := fun e => hk (by unfold DSt.read; rw [hd]; simpa using g1.no k e)
    omega
  · intro ns y hns hy
    obtain ⟨y2, a2, o1, o2, _⟩ := open_out ho hd hf seg hns
    rw [o1] at hy
    injection hy with hy
    subst hy
    simp only
    rw [o2]
    exact ⟨by omega, fun x hx => by have := replay_short hr x hx; omega⟩
  · rintro e w' ⟨ns, hns, ht⟩
    obtain ⟨y, a, o1, o2, o3, o4, o5, o6, _⟩ := open_out ho hd hf seg hns
    rw [o1] at ht
    simp only [o2, hr] at ht
    obtain ⟨sb, mb, l, f, t, K', rfl, h1, h2, h3, h8, h9⟩ := ht
    exact ⟨sb, mb, l, K', _, a, rfl, ⟨⟨f, t, h1⟩, o4, Lid.gone _ hl, by rw [o5]; exact hr, by rw [o5]; exact hR⟩, h2, h3, o3, o6, h8, h9⟩

theorem kw_open {d : DSt} {n : Nat} (seg : Int) (h : DL w0 K w b N d) (hd : d.dead = false) (hf : d.fused = false) (ho : DOk d F n) (hl : Lid B d) (hs0 : 256 ≤ seg) (hs1 : seg ≤ 1048576) (hN : N ≤ 1000000) (hn : n ≤ 1000) (hB : B ≤ 1073741824) (hr : replayC (frun F n).1 = some m) (hR : (frun F n).1.length ≤ R) (hRR : R ≤ 1000000) :
    Calls Tryz.prog 22 #[.pointer (some ⟨b, 0, none⟩), .int .i64 seg] w (KWOp w0 K w b (N + n) n B R F m) :=
  (kw_open_n seg h hd hf ho hl hs0 hs1 hN hn hB hr hR hRR).mono (fun e w' hh => by
    obtain ⟨sb, mb, l, K', s, a, e1, h1, h2, h3, h4, h5, _, _⟩ := hh
    exact ⟨sb, mb, l, K', s, a, e1, h1, h2, h3, h4, h5⟩)

/-- What a Commit or a Checkpoint comes to: x was there, y is to be. -/
def KWTo (w0 : World) (K : Nat → Prop) (w : World) (sb mb l b N : Nat) (s : WSt) (a B R : Nat) (x y : List (List UInt8 × List UInt8)) (e : Ending) (w' : World) : Prop :=
  Turn (KOuts w0 K sb mb) w w' ∧ ∃ K' : Nat → Prop, (∀ j, K j → K' j) ∧
  ((e = .returned (.int .i64 0) ∧ ∃ s' G a', KW w0 K' w' sb mb l b N s' G a' B R y ∧ a' ≤ a + 1 ∧ s'.d.fused = s.d.fused) ∨
   (e = .returned (.int .i64 14) ∧ s.d.fused = true ∧ ∃ f t s', KD w0 K' w' sb l b f t N s' ∧ s'.d.dead = true ∧ KFallen s'.d (a + 2) R x y ∧ Lid B s'.d))

theorem kw_commit_no {v : Value} {cl : List (Value × Chg)} (h : KW w0 K w sb mb l b N s F a B R m) (hc : CLs Q w v cl) (hQ : ∀ j, Q j → j < w.heap.size) (hQ2 : ∀ j, Q j → ¬ KOuts w0 K sb mb j) (hl : cl.length ≤ 1000) (hN : N ≤ 1000000) (ha : a ≤ 1000000) (hB : B ≤ 1073741824) (hml : m.length ≤ 1000) (hall : (cl.map (·.2)).all Chg.ok = false) (hlen : (laidOf 1 2 ((cl.map (·.2)).map Chg.laid)).length ≤ 70000) :
    Calls Tryz.prog 24 #[.pointer (some ⟨sb, 0, none⟩), v] w fun e w' => e = .returned (.int .i64 1) ∧ Turn (KOuts w0 K sb mb) w w' ∧ ∃ K' : Nat → Prop, (∀ j, K j → K' j) ∧ KW w0 K' w' sb mb l b N s F a B R m := by
  obtain ⟨f, t, hk⟩ := h.ks
  have hnow := h.lid.now s.to.1
  refine (kcommit_any v cl hk hc hQ hQ2 (h.ok.oks h.lid (by omega) (by omega)) (by omega) (by omega) (by omega) (by omega)).mono ?_
  rintro e w' ⟨t1, K', hk', ⟨_, rfl, h1⟩ | ⟨hbad, _⟩ | ⟨hbad, _⟩⟩
  · exact ⟨rfl, t1, K', hk', ⟨⟨f, t, h1⟩, h.ok, h.lid, h.rep, h.few⟩⟩
  · rw [hall] at hbad
    cases hbad
  · rw [hall] at hbad
    cases hbad

theorem kw_commit {v : Value} {cl : List (Value × Chg)} (h : KW w0 K w sb mb l b N s F a B R m) (hc : CLs Q w v cl) (hQ : ∀ j, Q j → j < w.heap.size) (hQ2 : ∀ j, Q j → ¬ KOuts w0 K sb mb j) (hl : cl.length ≤ 1000) (hN : N ≤ 1000000) (ha : a ≤ 1000000) (hB : B ≤ 1073741824) (hml : m.length ≤ 1000) (hall : (cl.map (·.2)).all Chg.ok = true) (hlen : (laidOf 1 2 ((cl.map (·.2)).map Chg.laid)).length ≤ 70000) :
    Calls Tryz.prog 24 #[.pointer (some ⟨sb, 0, none⟩), v] w (KWTo w0 K w sb mb l b (N + 2) s a (B + 70000) (R + cl.length) m ((cl.map (·.2)).foldl turnC m)) := by
  obtain ⟨f, t, hk⟩ := h.ks
  have hnow := h.lid.now s.to.1
  refine (kcommit_any v cl hk hc hQ hQ2 (h.ok.oks h.lid (by omega) (by omega)) (by omega) (by omega) (by omega) (by omega)).mono ?_
  have hfit : ∀ x ∈ (cl.map (·.2)).map Chg.laid, x.length ≤ 1048576 := fun x hx => by
    obtain ⟨c, hcin, rfl⟩ := List.mem_map.1 hx
    have := Chg.laid_le c (List.all_eq_true.1 hall c hcin)
    omega
  have hlid := (h.lid.commit ((cl.map (·.2)).map Chg.laid)).mono (show _ ≤ B + 70000 by omega)
  have hrep := replay_more h.rep hall
  have hfew : ((frun F (a + 1)).1 ++ (cl.map (·.2)).map Chg.laid).length ≤ R + cl.length := by
    have := h.few
    simp only [List.length_append, List.length_map]
    omega
  rintro e w' ⟨t1, K', hk', ⟨hbad, _⟩ | ⟨_, hz, rfl, h1⟩ | ⟨_, hz, rfl, h1⟩⟩
  · rw [hall] at hbad
    cases hbad
  · refine ⟨t1, K', hk', .inr ?_⟩
    rcases commit_out h.ok ((cl.map (·.2)).map Chg.laid) hfit with ⟨c1, _⟩ | ⟨c1, c2, c3, c4⟩
    · exact absurd c1 hz
    · exact ⟨by rw [c1], c2, f, t, _, h1, c3, ⟨_, _, c4, h.rep, hrep, Nat.le_add_right_of_le h.few, hfew⟩, hlid⟩
  · refine ⟨t1, K', hk', .inl ⟨rfl, ?_⟩⟩
    rcases commit_out h.ok ((cl.map (·.2)).map Chg.laid) hfit with ⟨_, _, c3, G, a', c4, c5, c6⟩ | ⟨c1, _⟩
    · exact ⟨_, G, a', ⟨⟨f, t, h1⟩, c4, hlid, by rw [c6]; exact hrep, by rw [c6]; exact hfew⟩, c5, c3⟩
    · rw [c1] at hz
      cases hz

theorem kw_checkpoint (h : KW w0 K w sb mb l b N s F a B R m) (hN : N ≤ 1000000) (ha : a ≤ 1000000) (hB : B ≤ 1073741824) (hml : m.length ≤ 1000) (hlen : (laidOf 3 4 (recsOf m)).length ≤ 70000) (hmR : m.length ≤ R) :
    Calls Tryz.prog 27 #[.pointer (some ⟨sb, 0, none⟩)] w (KWTo w0 K w sb mb l b (N + (a + 2) + 3) s a (B + 70000) R m m) := by
  obtain ⟨f, t, hk⟩ := h.ks
  have hnow := h.lid.now s.place
  have hfit : ∀ x ∈ recsOf m, x.length ≤ 1048576 := fun x hx => by
    obtain ⟨c, hcin, rfl⟩ := List.mem_map.1 hx
    have := Chg.laid_le c (List.all_eq_true.1 (made_ok hk.fit) c hcin)
    omega
  refine (kcheckpoint_any (a + 2) hk (h.ok.oks h.lid (by omega) (by omega)) (by omega) (by omega) ?_ (by omega)).mono ?_
  · intro ns hns
    have hc : Chunk.Ok (true, recsOf m) := ⟨fun e => by simp at e, hfit⟩
    by_cases hz : 0 < s.size
    · obtain ⟨hm, _⟩ := h.ok.next
      have hp : s.place = ((a + 1 : Nat) : Int) := by unfold WSt.place; rw [if_pos hz, h.ok.at']; rfl
      have hkk : s.kept (recsOf m) = s.keep ((a + 1 : Nat) : Int) 0 (Chunk.bytes (true, recsOf m)) := by unfold WSt.kept; rw [hp]; rfl
      rw [hkk] at hns
      rcases keep_out h.ok.down hm hc with ⟨_, _, _, _, _, G, h4, _⟩ | ⟨_, _, h3, _⟩
      · exact nums_len h4.dok hns
      · have := nums_dead h3 hns; omega
    · have hp : s.place = (a : Int) := by unfold WSt.place; rw [if_neg hz, h.ok.at']
      have h0 : s.size = 0 := by have := h.ok.size; omega
      have hkk : s.kept (recsOf m) = s.keep (a : Int) s.size (Chunk.bytes (true, recsOf m)) := by unfold WSt.kept; rw [hp, h0]; rfl
      rw [hkk] at hns
      rcases keep_out h.ok.down h.ok.mid hc with ⟨_, _, _, _, _, G, h4, _⟩ | ⟨_, _, h3, _⟩
      · have := nums_len h4.dok hns; omega
      · have := nums_dead h3 hns; omega
  have hrep := replay_made hk.rising hk.fit
  have hrl : (recsOf m).length ≤ R := by unfold recsOf madeC; simpa using hmR
  rintro e w' ⟨t1, K', hk', ns, hns, hh⟩
  have hlid := (h.lid.checkpoint (recsOf m) ns).mono (show _ ≤ B + 70000 by omega)
  rcases hh with ⟨hz, rfl, h1⟩ | ⟨hz, rfl, h1⟩
  · refine ⟨t1, K', hk', .inr ⟨rfl, ?_⟩⟩
    rcases checkpoint_out h.ok (recsOf m) hfit ns hns with ⟨c1, _⟩ | ⟨c1, c2, c3, c4⟩
    · exact absurd c1 hz
    · exact ⟨c2, f, t, _, h1, c3, ⟨_, _, c4, h.rep, hrep, h.few, hrl⟩, hlid⟩
  · refine ⟨t1, K', hk', .inl ⟨rfl, ?_⟩⟩
    rcases checkpoint_out h.ok (recsOf m) hfit ns hns with ⟨_, _, c3, G, a', c4, c5, c6, _⟩ | ⟨c1, _⟩
    · exact ⟨_, G, a', ⟨⟨f, t, h1⟩, c4, hlid, by rw [c6]; exact hrep, by rw [c6]; exact hrl⟩, c5, c3⟩
    · rw [c1] at hz
      cases hz

theorem kw_fuse (n : Int) (h : KW w0 K w sb mb l b N s F a B R m) (h0 : -9223372036854775808 ≤ n) (h1 : n ≤ 9223372036854775807) :
    Calls Tryz.prog 28 #[.pointer (some ⟨b, 0, none⟩), .int .i64 n] w fun e w' => e = .returned (.tuple #[]) ∧ KW w0 K w' sb mb l b N { s with d := s.d.fuse n } F a B R m ∧ Turn (Outs w0 K) w w' := by
  obtain ⟨f, t, hk⟩ := h.ks
  refine (dl_fuse n hk.li.dl h0 h1).mono ?_
  rintro e w' ⟨rfl, hd, tn⟩
  have hli := hk.li.disk hd tn
  exact ⟨rfl, ⟨⟨f, t, hk.logged hli (own_less tn)⟩, ⟨h.ok.down, h.ok.dead, ⟨h.ok.dok.holds, h.ok.dok.rems⟩, h.ok.at', h.ok.is, h.ok.size⟩, h.lid, h.rep, h.few⟩, own_less tn⟩

/-- Open once more, beside a Store. -/
def KWOp2 (w0 : World) (K : Nat → Prop) (w : World) (sb mb l b N : Nat) (F : Int → List Chunk) (a B R : Nat) (m : List (List UInt8 × List UInt8)) (e : Ending) (w' : World) : Prop :=
  ∃ sb2 mb2 l2, ∃ K' : Nat → Prop, ∃ s, e = .returned (.tuple #[.pointer (some ⟨sb2, 0, none⟩), .int .i64 0]) ∧ KW w0 K w' sb mb l b N s F a B R m ∧ KR K' w' sb2 mb2 l2 m ∧ (∀ j, K j → K' j) ∧ Turn (Outs w0 K) w w' ∧ ∀ j, K' j → j < w'.heap.size

theorem kw_open2 (seg : Int) (h : KW w0 K w sb mb l b N s F a B R m) (hf : s.d.fused = false) (hs0 : 256 ≤ seg) (hs1 : seg ≤ 1048576) (hN : N ≤ 1000000) (hn : a + 1 ≤ 1000) (hB : B ≤ 1073741824) (hRR : R ≤ 1000000) :
    Calls Tryz.prog 22 #[.pointer (some ⟨b, 0, none⟩), .int .i64 seg] w (KWOp2 w0 K w sb mb l b (N + (a + 1)) F a B R m) := by
  obtain ⟨f, t, hk⟩ := h.ks
  have hi := hk.li
  have ho := h.ok.dok
  have hd := h.ok.dead
  obtain ⟨G, g1, _, _⟩ := ho.now
  refine (kopen_any (seg := seg) (a + 1) B hi.dl hd hs0 hs1 (fun ns hns => nums_len ho hns) h.lid.read ?_ (by omega) ?_ ?_).mono ?_
  · have : (a + 1 + 1) * B ≤ 1001 * B := Nat.mul_le_mul_right B (by omega)
    omega
  · intro k hkk
    have h0 : ¬ (k < 0 ∨ ((a + 1 : Nat) : Int) ≤ k) := fun e => hkk (by unfold DSt.read; rw [hd]; simpa using g1.no k e)
    omega
  · intro ns y hns hy
    obtain ⟨y2, a2, o1, o2, _⟩ := open_out ho hd hf seg hns
    rw [o1] at hy
    injection hy with hy
    subst hy
    simp only
    rw [o2]
    have := h.few
    exact ⟨by omega, fun x hx => by have := replay_short h.rep x hx; omega⟩
  · rintro e w' ⟨ns, hns, ht⟩
    obtain ⟨y, a2, o1, o2, o3, o4, o5, o6, o7⟩ := open_out ho hd hf seg hns
    rw [o1] at ht
    simp only [o2, h.rep] at ht
    obtain ⟨sb2, mb2, l2, f2, t2, K', rfl, h1, h4, h5, _, _⟩ := ht
    have hli : LI w0 K w' l b f t (N + (a + 1)) { s with d := s.d.gone (ns.filter (· < y.since)) } := ⟨h1.li.dl.less (fun j hj => .inl (h4 j hj)), hi.fr.kept h5 (fun e => e.2 (.inr (.inr (.inl rfl)))) (fun e => e.2 (.inr (.inr (.inr rfl)))), hi.at'.kept h5 (fun e => e.2 (.inr (.inl rfl))), hi.nl, hi.nf, hi.nt, hi.lf, hi.lt⟩
    refine ⟨sb2, mb2, l2, K', { s with d := s.d.gone (ns.filter (· < y.since)) }, rfl, ⟨⟨f, t, hk.logged hli (own_less h5)⟩, ⟨h.ok.down, o4.dead, ⟨?_, ?_⟩, h.ok.at', ?_, ?_⟩, Lid.gone _ h.lid, h.rep, h.few⟩, h1.kr, fun j hj => h4 j (.inl hj), own_less h5, fun j hj => (h1.li.held j hj).2⟩
    · show Holds (s.d.gone _).base F (a + 1)
      rw [o7]
      exact ho.holds
    · have := o4.dok.rems
      rw [o5] at this
      exact this
    · show (s.d.gone _).base a = _
      rw [o7]
      exact h.ok.is
    · show s.size = (((s.d.gone _).base a).length : Int)
      rw [o7]
      exact h.ok.size

end

end Go.Proofs.YtnipdgigjcaolaaGreat
