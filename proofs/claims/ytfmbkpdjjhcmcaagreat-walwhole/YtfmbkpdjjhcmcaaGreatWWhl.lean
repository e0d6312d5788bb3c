/- The law WalWhole: its walk. -/
import Derived.Test.YtfmbkpdjjhcmcaaGreatWKnw
import Derived.Test.YtfmbkpdjjhcmcaaGreatWFew
import Derived.Test.YtfmbkpdjjhcmcaaGreatStp6
import Derived.Deep.RegionHeldLaw
import Derived.Deep.CutRange
import Derived.Deep.CutBlock
import Derived.Deep.DeepMust
namespace Go.Proofs.YtfmbkpdjjhcmcaaGreat
open Go.RowKit

section
variable {K : Nat → Prop} {w : World} {a : Value} {la : List (Value × List UInt8)}

/-- A copy of records, to be added to. -/
theorem cat_one (ha : RL K w a la) (hK : ∀ j, K j → j < w.heap.size) (hlen : la.length ≤ 1000000) :
    ∃ v1 w1, (Builtin.append_ #[23, 23] 23 #[.slice (some ⟨w.heap.size, 0, none⟩) 0 0, a]).run Tryz.prog (w.alloc (.cells #[] 31)) = .ok v1 w1 ∧ RM K w v1 la w1 := by
  have ta : Turn (fun _ => False) w (w.alloc (.cells #[] 31)) := (Turn.refl _ _).alloc _
  obtain ⟨v1, w1, r1, h1⟩ := (RM.empty K w).cat (ha.kept ta (fun _ _ e => e)) (fun j hj => by
    have := hK j hj
    have := ta.size
    refine ⟨.inl hj, by omega, fun e => ?_⟩
    simp [Value.ownBlock] at e
    omega) (by simp; omega)
  exact ⟨v1, w1, r1, by rw [List.nil_append] at h1; exact h1⟩

/-- .. and a record of one byte behind them. -/
theorem cat_byte (ha : RL K w a la) (hK : ∀ j, K j → j < w.heap.size) (hlen : la.length ≤ 100000) (x : Nat) (hx : x < 256) :
    ∃ v1 w1 v2 w2, (Builtin.append_ #[23, 23] 23 #[.slice (some ⟨w.heap.size, 0, none⟩) 0 0, a]).run Tryz.prog (w.alloc (.cells #[] 31)) = .ok v1 w1 ∧ (∃ ao c, v1 = .slice ao la.length c) ∧
      (Builtin.append_ #[23, 23] 23 #[v1, .slice (some ⟨w1.heap.size + 1, 0, none⟩) 1 1]).run Tryz.prog ((w1.alloc (.cells #[.int .u8 (x : Int)] 5)).alloc (.cells #[.slice (some ⟨w1.heap.size, 0, none⟩) 1 1] 31)) = .ok v2 w2 ∧
      ∃ lb, RM K w v2 (la ++ lb) w2 ∧ lb.map (·.2) = [[UInt8.ofNat x]] := by
  obtain ⟨v1, w1, r1, h1⟩ := cat_one ha hK (by omega)
  have hs := Sees.one w1 (x : Int) 5 (by omega) (by omega)
  rw [Int.toNat_natCast] at hs
  have t2 : Turn (fun _ => False) w1 (w1.alloc (.cells #[.int .u8 (x : Int)] 5)) := (Turn.refl _ _).alloc _
  have hz : (w1.alloc (.cells #[.int .u8 (x : Int)] 5)).heap.size = w1.heap.size + 1 := Array.size_push _
  have hL := RL.lit (Q := fun j => j = w1.heap.size) (w1.alloc (.cells #[.int .u8 (x : Int)] 5)) [(.slice (some ⟨w1.heap.size, 0, none⟩) 1 1, [UInt8.ofNat x])] 31 (by simp [maxLen]) (by
    intro p hp
    simp only [List.mem_singleton] at hp
    subst hp
    exact ⟨hs, fun _ j hj => by simp [slab] at hj; omega⟩)
  simp only [List.map_cons, List.map_nil, List.length_cons, List.length_nil, Nat.zero_add, hz] at hL
  have t3 : Turn (fun _ => False) (w1.alloc (.cells #[.int .u8 (x : Int)] 5)) ((w1.alloc (.cells #[.int .u8 (x : Int)] 5)).alloc (.cells #[.slice (some ⟨w1.heap.size, 0, none⟩) 1 1] 31)) := (Turn.refl _ _).alloc _
  have hz3 : ((w1.alloc (.cells #[.int .u8 (x : Int)] 5)).alloc (.cells #[.slice (some ⟨w1.heap.size, 0, none⟩) 1 1] 31)).heap.size = w1.heap.size + 2 := by
    rw [show w1.heap.size + 2 = w1.heap.size + 1 + 1 from rfl, ← hz]
    exact Array.size_push _
  have s1 := h1.turn.size
  obtain ⟨v2, w2, r2, h2⟩ := (h1.goes (t2.trans t3)).cat hL (fun j hj => by
    have hj2 : w1.heap.size ≤ j ∧ j < w1.heap.size + 2 := by
      rcases hj with hj | hj
      · omega
      · rw [hz, hz3] at hj; omega
    refine ⟨.inr (by omega), by rw [hz3]; exact hj2.2, fun e => ?_⟩
    have := h1.own.lt e
    omega) (by simp; omega)
  exact ⟨v1, w1, v2, w2, r1, h1.shape, r2, _, h2, rfl⟩

end

/-- Where the loop is. -/
structure Whl6 (w : World) (K : Nat → Prop) (wr : World) (l b : Nat) (had : Value) (n : Nat) : Prop where
  is : ∃ N B s F k hl, N ≤ n * 400 ∧ B ≤ n * 70000 ∧ k ≤ 2 * n ∧ LW w K wr l b N s F k B ∧ RL K wr had hl ∧ hl.map (·.2) = (frun F (k + 1)).1 ∧ hl.length ≤ 5 * n ∧ ∀ x ∈ hl.map (·.2), x.length ≤ 60

/-- Behind the switch: whatever a crash leaves, what was there is opened, or what was under way. -/
structure Mid6 (w : World) (K : Nat → Prop) (wx : World) (l b : Nat) (hv uv : Value) (xb : Nat) (xc : Array Value) (n : Nat) : Prop where
  box : At 53 wx xb xc
  bk : K xb
  is : ∃ N B m d hl ul, N ≤ n * 400 + 100 ∧ B ≤ n * 70000 + 70000 ∧ m ≤ 2 * n + 2 ∧ DL w K wx b N d ∧ Fallen d m (hl.map (·.2)) (ul.map (·.2)) ∧ Lid B d ∧ RL K wx hv hl ∧ RL K wx uv ul ∧ hl.length ≤ 5 * n + 5 ∧ ul.length ≤ 5 * n + 5 ∧ (∀ x ∈ hl.map (·.2), x.length ≤ 60) ∧ (∀ x ∈ ul.map (·.2), x.length ≤ 60) ∧
    (d.dead = false → ∃ s F k, LW w K wx l b N s F k B ∧ hl.map (·.2) = (frun F (k + 1)).1 ∧ k ≤ 2 * n + 1)

section
variable {w wx : World} {K : Nat → Prop} {l b xb n : Nat} {hv uv : Value} {xc : Array Value} {N B k : Nat} {s : WSt} {F : Int → List Chunk} {hl ul : List (Value × List UInt8)}

/-- Nothing has fallen. -/
theorem Mid6.alive (box : At 53 wx xb xc) (bk : K xb) (hN : N ≤ n * 400 + 100) (hB : B ≤ n * 70000 + 70000) (hk : k ≤ 2 * n + 1) (h : LW w K wx l b N s F k B) (h1 : RL K wx hv hl) (h2 : RL K wx uv ul) (e : hl.map (·.2) = (frun F (k + 1)).1) (l1 : hl.length ≤ 5 * n + 5) (l2 : ul.length ≤ 5 * n + 5) (s1 : ∀ x ∈ hl.map (·.2), x.length ≤ 60) (s2 : ∀ x ∈ ul.map (·.2), x.length ≤ 60) : Mid6 w K wx l b hv uv xb xc n :=
  ⟨box, bk, N, B, k + 1, s.d, hl, ul, hN, hB, by omega, h.dl, by rw [e]; exact h.ok.dok.fallen _, h.lid, h1, h2, l1, l2, s1, s2, fun _ => ⟨s, F, k, h, e, hk⟩⟩

/-- The disk has fallen. -/
theorem Mid6.fell {d : DSt} (box : At 53 wx xb xc) (bk : K xb) (hN : N ≤ n * 400 + 100) (hB : B ≤ n * 70000 + 70000) (hk : k ≤ 2 * n) (h : DL w K wx b N d) (hd : d.dead = true) (hf : Fallen d (k + 2) (hl.map (·.2)) (ul.map (·.2))) (hl' : Lid B d) (h1 : RL K wx hv hl) (h2 : RL K wx uv ul) (l1 : hl.length ≤ 5 * n + 5) (l2 : ul.length ≤ 5 * n + 5) (s1 : ∀ x ∈ hl.map (·.2), x.length ≤ 60) (s2 : ∀ x ∈ ul.map (·.2), x.length ≤ 60) : Mid6 w K wx l b hv uv xb xc n :=
  ⟨box, bk, N, B, k + 2, d, hl, ul, hN, hB, by omega, h, hf, hl', h1, h2, l1, l2, s1, s2, fun e => by rw [hd] at e; simp at e⟩

end

set_option maxHeartbeats 8000000 in
set_option maxRecDepth 100000 in
theorem walWhole_any (lv : Value) (xs : List Step6) (big : Bool) (w : World) (hx : Steps6Of w w.heap.size lv xs) :
    Calls Tryz.prog 5 #[lv, .bool big] w fun e w' => e = .returned (.bool true) ∧ Turn (fun _ => False) w w' := by
  obtain ⟨lo, lc, rfl, hlm⟩ := hx.shape
  unfold maxLen at hlm
  have Hx := hide hx
  clear hx
  go_enter Tryz.func5, Tryz.ntmps5
  go_wp2_with fail
  refine (dl_new (w0 := w) (K := fun _ => False) (fun _ h => h.elim) (Turn.refl _ w)).mono ?_
  rintro e w1 ⟨rfl, h1, _⟩
  obtain ⟨b, hb⟩ : ∃ b, b = w.heap.size := ⟨_, rfl⟩
  rw [← hb] at h1 ⊢
  clear hb
  go_wp2_with fail
  refine (known6_any w1).mono ?_
  rintro e w2 ⟨rfl, t2⟩
  have h2 := h1.new t2
  clear h1 t2
  generalize grow (fun _ => False) w1 w2 = K at h2
  have H2 := hide h2
  clear h2
  go_upto_if 28 with fail
  go_cut [6] from 28 to 28 (fun sg wx => ∃ seg : Int, sg = .int .i64 seg ∧ 256 ≤ seg ∧ seg ≤ 4096 ∧ wx = w2)
  case first =>
    cases big
    · go_wp2_with fail
      go_meet
      case rel => exact ⟨256, rfl, by omega, by omega, rfl⟩
    · go_wp2_with fail
      go_meet
      case rel => exact ⟨4096, rfl, by omega, by omega, rfl⟩
  case rest =>
    obtain ⟨seg, rfl, hg0, hg1, rfl⟩ := hcut
    go_wp2_with fail
    refine (lw_open seg (unhide H2) rfl rfl dok_zero lid_zero (by omega) (by omega) (by omega) (by omega) (by omega)).mono ?_
    rintro e w3 ⟨l, rv, rl, K3, s, a, rfl, h3, hr3, he3, _, _, ha, hfr, hfu, hlim⟩
    obtain ⟨ro, rc, rfl⟩ := hr3.shape
    have hstart : Whl6 w K3 w3 l b (.slice none 0 0) 0 := ⟨0, 0, s, _, a, [], by omega, by omega, by omega, h3.mono (by omega) (by omega), RL.nil _ _, by rw [hfr]; rfl, by simp, by simp⟩
    have Hs := hide hstart
    clear hstart h3 hr3 he3 H2 ha hfr hfu hlim
    go_wp2_with fail
    go_loopw [7, 10, 11] (fun a had i wr => ∃ (n l : Nat) (K : Nat → Prop), a = .pointer (some ⟨l, 0, none⟩) ∧ i = .int .i64 n ∧ n ≤ 40 ∧ n ≤ xs.length ∧ Whl6 w K wr l b had n) (fun _ _ i _ => (40 - intOf i).toNat)
    case atStart => exact ⟨0, l, K3, rfl, rfl, by omega, by omega, unhide Hs⟩
    case round =>
      clear Hs
      obtain ⟨n, l, K, rfl, rfl, hn40, hnl, ⟨N, B, s, F, k, hl, hN, hB, hk, hL, hr, hrs, hrn, h60⟩⟩ := hrel
      by_cases hlt : n < xs.length ∧ n < 40
      · obtain ⟨ab, off, cap, he, hst⟩ := ((unhide Hx).kept hL.turn (Nat.le_refl _) (fun _ _ h => h)).each n hlt.1
        injection he with he he2 he3
        clear he2 he3
        subst he
        have c0 := hst.c0
        have c1 := hst.c1
        have c2 := hst.c2
        have c3 := hst.c3
        obtain ⟨xo, xc, hxe, hxl⟩ := hst.list.shape
        rw [hxe] at c3
        have hlist := hst.list
        have hB0 := hL.turn.size
        generalize xs[n] = x at *
        have q1 : (n : Int) < xs.length := by omega
        have q2 : (n : Int) < 40 := by omega
        obtain ⟨wa, hwa⟩ : ∃ wa, wa = wr.alloc (.cells #[.int .i64 x.what, .int .i64 x.n, .int .i64 x.cut, .slice xo x.l.length xc] 53) := ⟨_, rfl⟩
        have ta : Turn (fun _ => False) wr wa := by rw [hwa]; exact (Turn.refl _ _).alloc _
        have hA : At 53 wa wr.heap.size #[.int .i64 x.what, .int .i64 x.n, .int .i64 x.cut, .slice xo x.l.length xc] := by rw [hwa]; exact At.new _ _ _
        have hLa := hL.goes ta
        have hka : grow K wr wa wr.heap.size := .inr ⟨Nat.le_refl _, hA.lt⟩
        have hra : RL (grow K wr wa) wa _ hl := (hr.kept ta (fun _ _ e => e)).mono (fun j hj => .inl hj)
        have hlista := hlist.kept ta (by omega) (fun _ _ e => e)
        have hBa : w.heap.size ≤ wa.heap.size := Nat.le_trans hB0 ta.size
        rw [hxe] at hlista
        generalize grow K wr wa = Ka at *
        obtain ⟨xb, hxb⟩ : ∃ xb, xb = wr.heap.size := ⟨_, rfl⟩
        rw [← hxb] at hA hka
        obtain ⟨wo, wc', hwe⟩ := hr.shape
        have Hwa := hide hwa
        have Hxb := hide hxb
        have HA := hide (And.intro hA hka)
        have HL := hide (And.intro hLa (And.intro hlista hBa))
        have HR := hide (And.intro hra (And.intro hrs (And.intro hrn h60)))
        subst hwe
        clear hwa ta hA hLa hka hra hlista hBa hxb hL hr hrs hrn h60 hlist hst hxe hB0
        go_wp2_with fail
        rw [← unhide Hwa, ← unhide Hxb]
        have a0 : wa.cell? ⟨xb, 0, none⟩ = some (.int .i64 x.what) := (unhide HA).1.cell 0
        have a1 : wa.cell? ⟨xb, 1, none⟩ = some (.int .i64 x.n) := (unhide HA).1.cell 1
        have a3 : wa.cell? ⟨xb, 3, none⟩ = some (.slice xo x.l.length xc) := (unhide HA).1.cell 3
        clear Hwa Hxb c0 c1 c2 c3
        refine (pick_any x.what 10 _ (by omega) (by omega)).mono ?_
        rintro e w4 ⟨rfl, rfl⟩
        obtain ⟨q, hq⟩ : ∃ q : Int, q = x.what % 10 := ⟨_, rfl⟩
        have hq1 : 0 ≤ q ∧ q < 10 := by omega
        rw [← hq]
        have Hq := hide hq
        clear hq
        go_upto_block 2 with fail
        go_cut [10, 13] from 60 to 100 (fun hv uv wx => ∃ K', Mid6 w K' wx l b hv uv xb #[.int .i64 x.what, .int .i64 x.n, .int .i64 x.cut, .slice xo x.l.length xc] n)
        case first =>
          have hcase : q = 6 ∨ q = 7 ∨ (q = 8 ∨ q = 9) ∨ q < 6 := by omega
          rcases hcase with rfl | rfl | hq8 | hq6
          · obtain ⟨v1, w1, v2, w2, r1, ⟨o1, p1, e1⟩, r2, lb, hm, hlb⟩ := cat_byte (unhide HR).1 (fun j hj => ((unhide HL).1.held j hj).2) (by have := (unhide HR).2.2.1; omega) n (by omega)
            obtain ⟨o2, p2, e2⟩ := hm.shape
            have hlb1 : lb.length = 1 := by simpa using congrArg List.length hlb
            have hL2 := (unhide HL).1.goes hm.turn
            have hU : RL (grow Ka wa w2) w2 v2 (hl ++ lb) := hm.toRL
            have hH : RL (grow Ka wa w2) w2 _ hl := ((unhide HR).1.kept hm.turn (fun _ _ e => e)).mono (fun j hj => .inl hj)
            have hX := (unhide HA).1.kept hm.turn (fun e => e)
            have hbk : grow Ka wa w2 xb := .inl (unhide HA).2
            have hul : (hl ++ lb).length ≤ 5 * n + 5 := by have := (unhide HR).2.2.1; rw [List.length_append]; omega
            have hu60 : ∀ x ∈ (hl ++ lb).map (·.2), x.length ≤ 60 := fun x hx => by
              rw [List.map_append, List.mem_append, hlb] at hx
              rcases hx with hx | hx
              · exact (unhide HR).2.2.2 x hx
              · simp only [List.mem_singleton] at hx
                subst hx
                simp
            have hlad := laid_few (k := 3) (m := 4) hul (by omega) hu60
            have HC := hide (lw_checkpoint hL2 hU (fun j hj => .inr hj) hlad.2 hlad.1 (by omega) (by omega) (by omega))
            have H5 := hide (And.intro hU (And.intro hH (And.intro hX (And.intro hbk (And.intro hul hu60)))))
            have R1 := hide r1
            have R2 := hide r2
            have Hul : Hid (∀ y, y = hl ++ lb → y.length ≤ 5 * n + 5) := hide (fun y e => by rw [e]; exact hul)
            have Hhl : Hid (∀ y, y = hl → y.length ≤ 5 * n) := hide (fun y e => by rw [e]; exact (unhide HR).2.2.1)
            generalize (hl ++ lb).length = ulen at *
            generalize hl.length = hlen at *
            subst e1 e2
            have qn : IntKind.u8.wrap (n : Int) = n := by rw [IntKind.wrap_u8]; omega
            clear r1 r2 hm hL2 hU hH hX hbk hul hu60 hlad
            go_wp2_with (at_builtin; first | refine wpList_append_run rfl (.tmp 77) (.tmp 78) 23 rfl _ _ _ w1 rfl rfl (unhide R1) ?_ | refine wpList_append_run rfl (.tmp 79) (.tmp 83) 23 rfl _ _ _ w2 rfl rfl (unhide R2) ?_)
            refine (unhide HC).mono ?_
            rintro e w5 ⟨t5, ⟨rfl, s5, G, k5, h5, hk5, _, _, he5, _⟩ | ⟨rfl, _, d5, h5, hd5, hf5, hl5⟩⟩
            · have hfin : Mid6 w (grow Ka wa w2) w5 l b (.slice o2 ulen p2) (.slice o2 ulen p2) xb #[.int .i64 x.what, .int .i64 x.n, .int .i64 x.cut, .slice xo x.l.length xc] n := by
                obtain ⟨a1, a2, a3, a4, a5, a6⟩ := unhide H5
                exact Mid6.alive (a3.kept t5 (fun e => e.2 a4)) a4 (by omega) (Nat.add_le_add_right hB 70000) (by omega) h5 (a1.kept t5 (fun j hj e => e.2 hj)) (a1.kept t5 (fun j hj e => e.2 hj)) he5.symm (unhide Hul _ rfl) (unhide Hul _ rfl) a6 a6
              have Hfin := hide hfin
              clear hfin h5 he5 t5 HC H5 R1 R2
              go_wp2_with fail
              go_meet
              case rel => exact ⟨_, unhide Hfin⟩
            · have hfin : Mid6 w (grow Ka wa w2) w5 l b (.slice wo hlen wc') (.slice o2 ulen p2) xb #[.int .i64 x.what, .int .i64 x.n, .int .i64 x.cut, .slice xo x.l.length xc] n := by
                obtain ⟨a1, a2, a3, a4, a5, a6⟩ := unhide H5
                rw [← (unhide HR).2.1] at hf5
                exact Mid6.fell (a3.kept t5 (fun e => e.2 a4)) a4 (by omega) (Nat.add_le_add_right hB 70000) hk h5 hd5 hf5 hl5 (a2.kept t5 (fun j hj e => e.2 hj)) (a1.kept t5 (fun j hj e => e.2 hj)) (Nat.le_add_right_of_le (unhide Hhl _ rfl)) (unhide Hul _ rfl) (unhide HR).2.2.2 a6
              have Hfin := hide hfin
              clear hfin h5 hf5 t5 HC H5 R1 R2
              go_wp2_with fail
              go_meet
              case rel => exact ⟨_, unhide Hfin⟩
          · have HN := hide (pick_any x.n 9 wa (by omega) (by omega))
            obtain ⟨f, hf⟩ : ∃ f : Int, f = x.n % 9 - 1 := ⟨_, rfl⟩
            have hf1 : -1 ≤ f ∧ f < 8 := by omega
            have hf2 : x.n % 9 = f + 1 := by omega
            rw [hf2] at HN
            have HF := hide (lw_fuse f (unhide HL).1 (by omega) (by omega))
            have qf : f + 1 - 1 = f := by omega
            clear hf hf2
            go_wp2_with fail
            refine (unhide HN).mono ?_
            rintro e w5 ⟨rfl, rfl⟩
            go_wp2_with fail
            refine (unhide HF).mono ?_
            rintro e w5 ⟨rfl, h5, t5⟩
            have H5 : Hid (Mid6 w Ka w5 l b _ _ xb _ n) := hide (Mid6.alive ((unhide HA).1.kept t5 (fun e => e.2 (unhide HA).2)) (unhide HA).2 (by omega) (Nat.le_add_right_of_le hB) (by omega) h5 ((unhide HR).1.kept t5 (fun j hj e => e.2 hj)) ((unhide HR).1.kept t5 (fun j hj e => e.2 hj)) (unhide HR).2.1 (by have := (unhide HR).2.2.1; omega) (by have := (unhide HR).2.2.1; omega) (unhide HR).2.2.2 (unhide HR).2.2.2)
            clear h5 t5 HF HN
            go_wp2_with fail
            go_meet
            case rel => exact ⟨Ka, unhide H5⟩
          · rcases hq8 with rfl | rfl
            all_goals (
              go_wp2_with fail
              go_meet
              case rel => exact ⟨Ka, Mid6.alive (unhide HA).1 (unhide HA).2 (by omega) (Nat.le_add_right_of_le hB) (by omega) (unhide HL).1 (unhide HR).1 (unhide HR).1 (unhide HR).2.1 (by have := (unhide HR).2.2.1; omega) (by have := (unhide HR).2.2.1; omega) (unhide HR).2.2.2 (unhide HR).2.2.2⟩)
          · have z6 : (q == 6) = false := by simp; omega
            have z7 : (q == 7) = false := by simp; omega
            have z8 : (q == 8) = false := by simp; omega
            have z9 : (q == 9) = false := by simp; omega
            have td : Turn (fun _ => False) wa wa.drew := (Turn.refl _ wa).drew
            obtain ⟨v1, w1, r1, hm1⟩ := cat_one (w := wa.drew) ((unhide HR).1.kept td (fun _ _ e => e)) (fun j hj => ((unhide HL).1.held j hj).2) (by have := (unhide HR).2.2.1; omega)
            obtain ⟨o1, p1, e1⟩ := hm1.shape
            have t1 := td.trans hm1.turn
            have HF1 := hide (fewList_any _ _ _ w1 ((unhide HL).2.1.kept t1 (unhide HL).2.2 (fun _ _ e => e)) (Nat.le_trans (unhide HL).2.2 t1.size))
            have k1 : w1.cell? ⟨xb, 3, none⟩ = some (.slice xo x.l.length xc) := ((unhide HA).1.kept t1 (fun e => e)).cell 3
            have R1 := hide r1
            have Hm1 := hide hm1
            have Hhl : Hid (∀ y, y = hl → y.length ≤ 5 * n) := hide (fun y e => by rw [e]; exact (unhide HR).2.2.1)
            generalize hl.length = hlen at *
            subst e1
            clear r1 hm1 td t1 hq6
            go_wp2_with fail
            go_region_held_law (fun w' => w'.cell? ⟨xb, 3, none⟩ = some (.slice xo x.l.length xc)) (first | go_keep | assumption)
              (first
              | (refine step_append_run (by rfl) (.tmp 61) (.tmp 62) 23 (by rfl) _ _ _ w1 (by rfl) (by rfl) (unhide R1) ?_)
              | (go_at_call 27; refine (unhide HF1).mono ?_; rintro e w2 ⟨v2, ql, rfl, hm2, he2⟩; obtain ⟨o2, p2, e2⟩ := hm2.shape; have k2 : w2.cell? ⟨xb, 3, none⟩ = some (.slice xo x.l.length xc) := (hm2.turn.cell (World.block_lt_of_cell? _ _ k1) (fun e => e)).trans k1; obtain ⟨v3, w3, r3, hm3⟩ := ((unhide Hm1).goes hm2.turn).cat (K2 := grow (fun _ => False) w1 w2) hm2.toRL (fun j hj => hj.elim (fun e => e.elim) (fun e => ⟨.inr (Nat.le_trans (unhide Hm1).turn.size e.1), e.2, fun e3 => by have := (unhide Hm1).own.lt e3; omega⟩)) (by have := few_len he2; have := unhide Hhl _ rfl; omega); have R3 := hide r3; have H3 := hide (And.intro hm3 he2); have k3 : w3.cell? ⟨xb, 3, none⟩ = some (.slice xo x.l.length xc) := (hm3.turn.cell (p := ⟨xb, 3, none⟩) (World.block_lt_of_cell? wa _ a3) (fun e => e)).trans a3; clear r3 hm3 he2 hm2; subst e2)
              | (refine step_append_run (by rfl) (.tmp 63) (.tmp 66) 23 (by rfl) _ _ _ w3 (by rfl) (by rfl) (unhide R3) ?_))
            all_goals (
              obtain ⟨o3, p3, e3⟩ := (unhide H3).1.shape
              have t3 : Turn (fun _ => False) wa w3 := ((Turn.refl (fun _ => False) wa).drew).trans (unhide H3).1.turn
              have HF3 := hide (fewList_any _ _ _ w3 ((unhide HL).2.1.kept t3 (unhide HL).2.2 (fun _ _ e => e)) (Nat.le_trans (unhide HL).2.2 t3.size))
              have Hul : Hid (∀ y, y = hl ++ ql → y.length ≤ 5 * n + 5) := hide (fun y e => by
                have h1 := unhide Hhl _ rfl
                have h2 := (few_len (unhide H3).2).1
                rw [e, List.length_append]
                omega)
              have T3 := hide t3
              generalize (hl ++ ql).length = ulen at e3
              subst e3
              clear HF1 R1 R3 Hm1 k1 k2 t3
              go_wp2_with fail
              refine (unhide HF3).mono ?_
              rintro e w4 ⟨v4, ql4, rfl, hm4, he4⟩
              obtain ⟨o4, p4, e4⟩ := hm4.shape
              have t3 := unhide T3
              have hL4 := ((unhide HL).1.goes t3).goes hm4.turn
              have hQ4 : RL (grow (grow Ka wa w3) w3 w4) w4 v4 ql4 := hm4.toRL.mono (fun j hj => hj.elim (fun e => e.elim) .inr)
              have hU0 : RL (grow Ka wa w3) w3 (.slice o3 ulen p3) (hl ++ ql) := (unhide H3).1.toRL
              have hU4 : RL (grow (grow Ka wa w3) w3 w4) w4 (.slice o3 ulen p3) (hl ++ ql) := (hU0.kept hm4.turn (fun _ _ e => e)).mono (fun j hj => .inl hj)
              have hH4 : RL (grow (grow Ka wa w3) w3 w4) w4 _ hl := (((unhide HR).1.kept t3 (fun _ _ e => e)).kept hm4.turn (fun _ _ e => e)).mono (fun j hj => .inl (.inl hj))
              have hX4 := ((unhide HA).1.kept t3 (fun e => e)).kept hm4.turn (fun e => e)
              have hbk4 : grow (grow Ka wa w3) w3 w4 xb := .inl (.inl (unhide HA).2)
              have heq : (hl ++ ql).map (·.2) = (frun F (k + 1)).1 ++ ql4.map (·.2) := by rw [List.map_append, (unhide H3).2, ← he4, (unhide HR).2.1]
              obtain ⟨hql, hq60⟩ := few_len he4
              have hlad := laid_few (k := 1) (m := 2) hql (by omega) hq60
              have hu60 : ∀ x ∈ (hl ++ ql).map (·.2), x.length ≤ 60 := fun x hx => by
                rw [heq, ← (unhide HR).2.1, List.mem_append] at hx
                exact hx.elim ((unhide HR).2.2.2 x) (hq60 x)
              have HC := hide (lw_commit hL4 hQ4 (fun j hj => .inr hj) hlad.2 hlad.1 (by omega) (by omega) (by omega))
              have H5 := hide (And.intro hU4 (And.intro hH4 (And.intro hX4 (And.intro hbk4 (And.intro heq hu60)))))
              generalize ql4.length = qlen at *
              subst e4
              clear hL4 hQ4 hU0 hU4 hH4 hX4 hbk4 heq hq60 hlad hu60 hm4 he4 HF3 t3 k3
              go_wp2_with fail
              refine (unhide HC).mono ?_
              rintro e w5 ⟨t5, ⟨rfl, s5, G, k5, h5, hk5, _, _, he5, _⟩ | ⟨rfl, _, d5, h5, hd5, hf5, hl5⟩⟩
              · have hfin : Mid6 w (grow (grow Ka wa w3) w3 w4) w5 l b (.slice o3 ulen p3) (.slice o3 ulen p3) xb #[.int .i64 x.what, .int .i64 x.n, .int .i64 x.cut, .slice xo x.l.length xc] n := by
                  obtain ⟨a1, a2, a3, a4, a5, a6⟩ := unhide H5
                  exact Mid6.alive (a3.kept t5 (fun e => e.2 a4)) a4 (by omega) (Nat.add_le_add_right hB 70000) (by omega) h5 (a1.kept t5 (fun j hj e => e.2 hj)) (a1.kept t5 (fun j hj e => e.2 hj)) (by rw [he5, a5]) (unhide Hul _ rfl) (unhide Hul _ rfl) a6 a6
                have Hfin := hide hfin
                clear hfin h5 he5 t5 HC H5
                go_wp2_with fail
                go_meet
                case rel => exact ⟨_, unhide Hfin⟩
              · have hfin : Mid6 w (grow (grow Ka wa w3) w3 w4) w5 l b (.slice wo hlen wc') (.slice o3 ulen p3) xb #[.int .i64 x.what, .int .i64 x.n, .int .i64 x.cut, .slice xo x.l.length xc] n := by
                  obtain ⟨a1, a2, a3, a4, a5, a6⟩ := unhide H5
                  rw [← a5, ← (unhide HR).2.1] at hf5
                  exact Mid6.fell (a3.kept t5 (fun e => e.2 a4)) a4 (by omega) (Nat.add_le_add_right hB 70000) hk h5 hd5 hf5 hl5 (a2.kept t5 (fun j hj e => e.2 hj)) (a1.kept t5 (fun j hj e => e.2 hj)) (Nat.le_add_right_of_le (unhide Hhl _ rfl)) (unhide Hul _ rfl) (unhide HR).2.2.2 a6
                have Hfin := hide hfin
                clear hfin h5 hf5 t5 HC H5
                go_wp2_with fail
                go_meet
                case rel => exact ⟨_, unhide Hfin⟩)
        case rest =>
          obtain ⟨K5, hM⟩ := hcut
          generalize wc = w5 at *
          obtain ⟨hbox, hbk, N5, B5, m, d, hl5, ul5, hN5, hB5, hm5, hd5, hf5, hlid5, hr5, hu5, hln5, hun5, h605, hu605, halive⟩ := hM
          obtain ⟨ho5, hc5, hve5⟩ := hr5.shape
          obtain ⟨uo5, uc5, hue5⟩ := hu5.shape
          have b0 : w5.cell? ⟨xb, 0, none⟩ = some (.int .i64 x.what) := hbox.cell 0
          have b1 : w5.cell? ⟨xb, 1, none⟩ = some (.int .i64 x.n) := hbox.cell 1
          have b2 : w5.cell? ⟨xb, 2, none⟩ = some (.int .i64 x.cut) := hbox.cell 2
          have HD := hide (dl_dead hd5)
          have HP := hide (pick_any x.what 10 w5 (by omega) (by omega))
          have hBb : B5 ≤ 2870000 := by
            have : n * 70000 ≤ 40 * 70000 := Nat.mul_le_mul_right 70000 hn40
            omega
          have HCr := hide (dl_crash x.n x.cut hd5 (by omega) (hlid5.big (by omega)))
          have HM := hide (And.intro hf5 (And.intro hlid5 (And.intro hr5 (And.intro hu5 (And.intro hln5 (And.intro hun5 (And.intro h605 hu605)))))))
          have HAl := hide halive
          have HB5 := hide hB5
          generalize hl5.length = hlen5 at hve5
          generalize ul5.length = ulen5 at hue5
          subst hve5 hue5
          have hcase : d.dead = true ∨ (d.dead = false ∧ q = 8) ∨ (d.dead = false ∧ q ≠ 8) := by
            cases d.dead
            · by_cases h8 : q = 8
              · exact .inr (.inl ⟨rfl, h8⟩)
              · exact .inr (.inr ⟨rfl, h8⟩)
            · exact .inl rfl
          rw [← unhide Hq] at HP
          clear HA HL HR a0 a1 a3 hbox hbk hd5 hf5 hlid5 hr5 hu5 hln5 hun5 h605 hu605 halive hB5
          go_wp2_with fail
          refine (unhide HD).mono ?_
          rintro e w6 ⟨rfl, rfl⟩
          rcases hcase with hdd | ⟨hdd, hq8⟩ | ⟨hdd, hq8⟩
          rotate_left 2
          · have z8 : (q == 8) = false := by simpa using hq8
            obtain ⟨s6, F6, k6, h6, e6, hk6⟩ := unhide HAl hdd
            have hfin : Whl6 w K5 w5 l b (.slice ho5 hlen5 hc5) (n + 1) := by
              obtain ⟨a1, a2, a3, a4, a5, a6, a7, a8⟩ := unhide HM
              exact ⟨N5, B5, s6, F6, k6, hl5, by omega, by rw [Nat.succ_mul]; exact unhide HB5, by omega, h6, a3, e6, by omega, a7⟩
            have Hfin := hide hfin
            rw [hdd]
            clear hfin h6 e6 HM HAl HB5 HCr HD hq8 hdd
            go_wp2_with fail
            refine (unhide HP).mono ?_
            rintro e w7 ⟨rfl, rfl⟩
            go_wp2
            go_roundw
            case rel => exact ⟨n + 1, l, _, rfl, by go_num, by omega, by omega, unhide Hfin⟩
            case measure => simp [intOf]; omega
          · rw [hdd]
            clear HAl HP HD hdd
            go_wp2_with fail
            refine (unhide HCr).mono ?_
            rintro e w7 ⟨rfl, h7, t7⟩
            obtain ⟨G, g1, g2⟩ := (unhide HM).1 x.n x.cut
            have hhad7 := (unhide HM).2.2.1.kept t7 (fun j hj e => e.2 hj)
            have hund7 := (unhide HM).2.2.2.1.kept t7 (fun j hj e => e.2 hj)
            have HO := hide (lw_open seg h7 rfl rfl (crash_dok g1) ((unhide HM).2.1.crash x.n x.cut) (by omega) (by omega) (by omega) (by omega) (by omega))
            have H7 := hide (And.intro hhad7 hund7)
            have Hg := hide g2
            clear h7 t7 hhad7 hund7 HCr g1 g2 b0 b1 b2
            go_wp2_with fail
            refine (unhide HO).mono ?_
            rintro e w8 ⟨l8, rv8, rl8, K8, s8, a8, rfl, h8, hr8, he8, hK8, t8, ha8, hfr8, hfu8, _⟩
            obtain ⟨ro8, rc8, hre8⟩ := hr8.shape
            have hhad8 := ((unhide H7).1.kept t8 (fun j hj e => e.2 hj)).mono hK8
            have hund8 := ((unhide H7).2.kept t8 (fun j hj e => e.2 hj)).mono hK8
            have HS1 := hide (same_any w8 _ _ rl8 hl5 hr8 hhad8)
            have hb8 : rl8.length ≤ 5 * n + 5 ∧ ∀ x ∈ rl8.map (·.2), x.length ≤ 60 := by
              obtain ⟨_, _, _, _, b5, b6, b7, b8⟩ := unhide HM
              have hlen : rl8.length = (rl8.map (·.2)).length := (List.length_map _).symm
              rw [hlen, he8]
              rcases unhide Hg with hg | hg
              · rw [hg, List.length_map]
                exact ⟨b5, b7⟩
              · rw [hg, List.length_map]
                exact ⟨b6, b8⟩
            have H8 := hide (And.intro h8 (And.intro hr8 (And.intro he8 (And.intro hfr8 (And.intro hfu8 (And.intro ha8 (And.intro hb8 hund8)))))))
            generalize rl8.length = rlen8 at hre8
            subst hre8
            clear HO h8 hr8 hK8 t8 ha8 hfr8 hfu8 hhad8 hund8 hb8
            have htail : ∀ w9, Turn (fun _ => False) w8 w9 → Hid (Calls Tryz.prog 7 #[.pointer (some ⟨b, 0, none⟩), .int .i64 seg] w9 (WOp2 w (grow K8 w8 w9) w9 l8 b (N5 + m + (a8 + 1)) G a8 B5)) := fun w9 t9 => hide (lw_open2 seg ((unhide H8).1.goes t9) (unhide H8).2.2.2.2.1 (by omega) (by omega) (by omega) (by have := (unhide H8).2.2.2.2.2.1; omega) (by omega))
            by_cases hE : rl8.map (·.2) = hl5.map (·.2)
            · rw [decide_eq_true hE] at HS1
              clear hE he8
              go_wp2_with fail
              refine (unhide HS1).mono ?_
              rintro e w9 ⟨rfl, t9⟩
              have HO2 := htail w9 t9
              have T9 := hide t9
              clear t9 htail HS1
              go_wp2_with fail
              refine (unhide HO2).mono ?_
              rintro e w10 ⟨l10, rv10, rl10, K10, s10, rfl, h10, hr10, he10, hK10, t10⟩
              obtain ⟨ro10, rc10, hre10⟩ := hr10.shape
              have hr8' : RL (grow K8 w8 w9) w9 _ rl8 := ((unhide H8).2.1.kept (unhide T9) (fun _ _ e => e)).mono (fun j hj => .inl hj)
              have hr8'' := hr8'.kept t10 (fun j hj e => e.2 hj)
              have hEq : rl8.map (·.2) = rl10.map (·.2) := by rw [(unhide H8).2.2.1, he10, (unhide H8).2.2.2.1]
              have HS3 := hide (same_any w10 _ _ rl8 rl10 hr8'' hr10)
              rw [decide_eq_true hEq] at HS3
              have H10 := hide (And.intro h10 hr8'')
              generalize rl10.length = rlen10 at hre10
              subst hre10
              clear HO2 h10 hr10 he10 hK10 t10 hr8' hr8'' hEq
              go_wp2_with fail
              refine (unhide HS3).mono ?_
              rintro e w11 ⟨rfl, t11⟩
              have hfin : Whl6 w (grow (grow K8 w8 w9) w10 w11) w11 l8 b (.slice ro8 rlen8 rc8) (n + 1) := by
                obtain ⟨_, _, b3, b4, _, b6, b7, _⟩ := unhide H8
                exact ⟨N5 + m + (a8 + 1), B5, s10, G, a8, rl8, by omega, by rw [Nat.succ_mul]; exact unhide HB5, by omega, (unhide H10).1.goes t11, ((unhide H10).2.kept t11 (fun _ _ e => e)).mono (fun j hj => .inl hj), by rw [b3, b4], by have := b7.1; omega, b7.2⟩
              have Hfin := hide hfin
              clear hfin HS3 H10 t11 T9 H8 H7 HM Hg
              go_wp2
              go_roundw
              case rel => exact ⟨n + 1, l8, _, rfl, by go_num, by omega, by omega, unhide Hfin⟩
              case measure => simp [intOf]; omega
            · have hE2 : rl8.map (·.2) = ul5.map (·.2) := by
                rcases unhide Hg with hg | hg
                · exact absurd (he8.trans hg) hE
                · exact he8.trans hg
              rw [decide_eq_false hE] at HS1
              clear hE he8
              go_wp2_with fail
              refine (unhide HS1).mono ?_
              rintro e w9' ⟨rfl, t9'⟩
              have HS2 := hide (same_any w9' _ _ rl8 ul5 ((unhide H8).2.1.kept t9' (fun _ _ e => e)) ((unhide H8).2.2.2.2.2.2.2.kept t9' (fun _ _ e => e)))
              rw [decide_eq_true hE2] at HS2
              clear hE2
              go_wp2_with fail
              refine (unhide HS2).mono ?_
              rintro e w9 ⟨rfl, t9''⟩
              have t9 := t9'.trans t9''
              clear t9' t9'' HS2
              have HO2 := htail w9 t9
              have T9 := hide t9
              clear t9 htail HS1
              go_wp2_with fail
              refine (unhide HO2).mono ?_
              rintro e w10 ⟨l10, rv10, rl10, K10, s10, rfl, h10, hr10, he10, hK10, t10⟩
              obtain ⟨ro10, rc10, hre10⟩ := hr10.shape
              have hr8' : RL (grow K8 w8 w9) w9 _ rl8 := ((unhide H8).2.1.kept (unhide T9) (fun _ _ e => e)).mono (fun j hj => .inl hj)
              have hr8'' := hr8'.kept t10 (fun j hj e => e.2 hj)
              have hEq : rl8.map (·.2) = rl10.map (·.2) := by rw [(unhide H8).2.2.1, he10, (unhide H8).2.2.2.1]
              have HS3 := hide (same_any w10 _ _ rl8 rl10 hr8'' hr10)
              rw [decide_eq_true hEq] at HS3
              have H10 := hide (And.intro h10 hr8'')
              generalize rl10.length = rlen10 at hre10
              subst hre10
              clear HO2 h10 hr10 he10 hK10 t10 hr8' hr8'' hEq
              go_wp2_with fail
              refine (unhide HS3).mono ?_
              rintro e w11 ⟨rfl, t11⟩
              have hfin : Whl6 w (grow (grow K8 w8 w9) w10 w11) w11 l8 b (.slice ro8 rlen8 rc8) (n + 1) := by
                obtain ⟨_, _, b3, b4, _, b6, b7, _⟩ := unhide H8
                exact ⟨N5 + m + (a8 + 1), B5, s10, G, a8, rl8, by omega, by rw [Nat.succ_mul]; exact unhide HB5, by omega, (unhide H10).1.goes t11, ((unhide H10).2.kept t11 (fun _ _ e => e)).mono (fun j hj => .inl hj), by rw [b3, b4], by have := b7.1; omega, b7.2⟩
              have Hfin := hide hfin
              clear hfin HS3 H10 t11 T9 H8 H7 HM Hg
              go_wp2
              go_roundw
              case rel => exact ⟨n + 1, l8, _, rfl, by go_num, by omega, by omega, unhide Hfin⟩
              case measure => simp [intOf]; omega
          · rw [hdd]
            have z8 : (q == 8) = true := by simp [hq8]
            clear HAl HD hdd hq8
            go_wp2_with fail
            refine (unhide HP).mono ?_
            rintro e w6 ⟨rfl, rfl⟩
            clear HP
            go_wp2_with fail
            refine (unhide HCr).mono ?_
            rintro e w7 ⟨rfl, h7, t7⟩
            obtain ⟨G, g1, g2⟩ := (unhide HM).1 x.n x.cut
            have hhad7 := (unhide HM).2.2.1.kept t7 (fun j hj e => e.2 hj)
            have hund7 := (unhide HM).2.2.2.1.kept t7 (fun j hj e => e.2 hj)
            have HO := hide (lw_open seg h7 rfl rfl (crash_dok g1) ((unhide HM).2.1.crash x.n x.cut) (by omega) (by omega) (by omega) (by omega) (by omega))
            have H7 := hide (And.intro hhad7 hund7)
            have Hg := hide g2
            clear h7 t7 hhad7 hund7 HCr g1 g2 b0 b1 b2
            go_wp2_with fail
            refine (unhide HO).mono ?_
            rintro e w8 ⟨l8, rv8, rl8, K8, s8, a8, rfl, h8, hr8, he8, hK8, t8, ha8, hfr8, hfu8, _⟩
            obtain ⟨ro8, rc8, hre8⟩ := hr8.shape
            have hhad8 := ((unhide H7).1.kept t8 (fun j hj e => e.2 hj)).mono hK8
            have hund8 := ((unhide H7).2.kept t8 (fun j hj e => e.2 hj)).mono hK8
            have HS1 := hide (same_any w8 _ _ rl8 hl5 hr8 hhad8)
            have hb8 : rl8.length ≤ 5 * n + 5 ∧ ∀ x ∈ rl8.map (·.2), x.length ≤ 60 := by
              obtain ⟨_, _, _, _, b5, b6, b7, b8⟩ := unhide HM
              have hlen : rl8.length = (rl8.map (·.2)).length := (List.length_map _).symm
              rw [hlen, he8]
              rcases unhide Hg with hg | hg
              · rw [hg, List.length_map]
                exact ⟨b5, b7⟩
              · rw [hg, List.length_map]
                exact ⟨b6, b8⟩
            have H8 := hide (And.intro h8 (And.intro hr8 (And.intro he8 (And.intro hfr8 (And.intro hfu8 (And.intro ha8 (And.intro hb8 hund8)))))))
            generalize rl8.length = rlen8 at hre8
            subst hre8
            clear HO h8 hr8 hK8 t8 ha8 hfr8 hfu8 hhad8 hund8 hb8
            have htail : ∀ w9, Turn (fun _ => False) w8 w9 → Hid (Calls Tryz.prog 7 #[.pointer (some ⟨b, 0, none⟩), .int .i64 seg] w9 (WOp2 w (grow K8 w8 w9) w9 l8 b (N5 + m + (a8 + 1)) G a8 B5)) := fun w9 t9 => hide (lw_open2 seg ((unhide H8).1.goes t9) (unhide H8).2.2.2.2.1 (by omega) (by omega) (by omega) (by have := (unhide H8).2.2.2.2.2.1; omega) (by omega))
            by_cases hE : rl8.map (·.2) = hl5.map (·.2)
            · rw [decide_eq_true hE] at HS1
              clear hE he8
              go_wp2_with fail
              refine (unhide HS1).mono ?_
              rintro e w9 ⟨rfl, t9⟩
              have HO2 := htail w9 t9
              have T9 := hide t9
              clear t9 htail HS1
              go_wp2_with fail
              refine (unhide HO2).mono ?_
              rintro e w10 ⟨l10, rv10, rl10, K10, s10, rfl, h10, hr10, he10, hK10, t10⟩
              obtain ⟨ro10, rc10, hre10⟩ := hr10.shape
              have hr8' : RL (grow K8 w8 w9) w9 _ rl8 := ((unhide H8).2.1.kept (unhide T9) (fun _ _ e => e)).mono (fun j hj => .inl hj)
              have hr8'' := hr8'.kept t10 (fun j hj e => e.2 hj)
              have hEq : rl8.map (·.2) = rl10.map (·.2) := by rw [(unhide H8).2.2.1, he10, (unhide H8).2.2.2.1]
              have HS3 := hide (same_any w10 _ _ rl8 rl10 hr8'' hr10)
              rw [decide_eq_true hEq] at HS3
              have H10 := hide (And.intro h10 hr8'')
              generalize rl10.length = rlen10 at hre10
              subst hre10
              clear HO2 h10 hr10 he10 hK10 t10 hr8' hr8'' hEq
              go_wp2_with fail
              refine (unhide HS3).mono ?_
              rintro e w11 ⟨rfl, t11⟩
              have hfin : Whl6 w (grow (grow K8 w8 w9) w10 w11) w11 l8 b (.slice ro8 rlen8 rc8) (n + 1) := by
                obtain ⟨_, _, b3, b4, _, b6, b7, _⟩ := unhide H8
                exact ⟨N5 + m + (a8 + 1), B5, s10, G, a8, rl8, by omega, by rw [Nat.succ_mul]; exact unhide HB5, by omega, (unhide H10).1.goes t11, ((unhide H10).2.kept t11 (fun _ _ e => e)).mono (fun j hj => .inl hj), by rw [b3, b4], by have := b7.1; omega, b7.2⟩
              have Hfin := hide hfin
              clear hfin HS3 H10 t11 T9 H8 H7 HM Hg
              go_wp2
              go_roundw
              case rel => exact ⟨n + 1, l8, _, rfl, by go_num, by omega, by omega, unhide Hfin⟩
              case measure => simp [intOf]; omega
            · have hE2 : rl8.map (·.2) = ul5.map (·.2) := by
                rcases unhide Hg with hg | hg
                · exact absurd (he8.trans hg) hE
                · exact he8.trans hg
              rw [decide_eq_false hE] at HS1
              clear hE he8
              go_wp2_with fail
              refine (unhide HS1).mono ?_
              rintro e w9' ⟨rfl, t9'⟩
              have HS2 := hide (same_any w9' _ _ rl8 ul5 ((unhide H8).2.1.kept t9' (fun _ _ e => e)) ((unhide H8).2.2.2.2.2.2.2.kept t9' (fun _ _ e => e)))
              rw [decide_eq_true hE2] at HS2
              clear hE2
              go_wp2_with fail
              refine (unhide HS2).mono ?_
              rintro e w9 ⟨rfl, t9''⟩
              have t9 := t9'.trans t9''
              clear t9' t9'' HS2
              have HO2 := htail w9 t9
              have T9 := hide t9
              clear t9 htail HS1
              go_wp2_with fail
              refine (unhide HO2).mono ?_
              rintro e w10 ⟨l10, rv10, rl10, K10, s10, rfl, h10, hr10, he10, hK10, t10⟩
              obtain ⟨ro10, rc10, hre10⟩ := hr10.shape
              have hr8' : RL (grow K8 w8 w9) w9 _ rl8 := ((unhide H8).2.1.kept (unhide T9) (fun _ _ e => e)).mono (fun j hj => .inl hj)
              have hr8'' := hr8'.kept t10 (fun j hj e => e.2 hj)
              have hEq : rl8.map (·.2) = rl10.map (·.2) := by rw [(unhide H8).2.2.1, he10, (unhide H8).2.2.2.1]
              have HS3 := hide (same_any w10 _ _ rl8 rl10 hr8'' hr10)
              rw [decide_eq_true hEq] at HS3
              have H10 := hide (And.intro h10 hr8'')
              generalize rl10.length = rlen10 at hre10
              subst hre10
              clear HO2 h10 hr10 he10 hK10 t10 hr8' hr8'' hEq
              go_wp2_with fail
              refine (unhide HS3).mono ?_
              rintro e w11 ⟨rfl, t11⟩
              have hfin : Whl6 w (grow (grow K8 w8 w9) w10 w11) w11 l8 b (.slice ro8 rlen8 rc8) (n + 1) := by
                obtain ⟨_, _, b3, b4, _, b6, b7, _⟩ := unhide H8
                exact ⟨N5 + m + (a8 + 1), B5, s10, G, a8, rl8, by omega, by rw [Nat.succ_mul]; exact unhide HB5, by omega, (unhide H10).1.goes t11, ((unhide H10).2.kept t11 (fun _ _ e => e)).mono (fun j hj => .inl hj), by rw [b3, b4], by have := b7.1; omega, b7.2⟩
              have Hfin := hide hfin
              clear hfin HS3 H10 t11 T9 H8 H7 HM Hg
              go_wp2
              go_roundw
              case rel => exact ⟨n + 1, l8, _, rfl, by go_num, by omega, by omega, unhide Hfin⟩
              case measure => simp [intOf]; omega
      · have hexit : ((n : Int) < xs.length ∧ ¬ (n : Int) < 40) ∨ ¬ (n : Int) < xs.length := by omega
        have ht := hL.turn
        obtain ⟨wo, wc, hwe⟩ := hr.shape
        subst hwe
        clear hL hr hrs hlt h60
        rcases hexit with ⟨x1, x2⟩ | x1
        all_goals (
          go_wp2
          go_ret
          exact ⟨rfl, ht⟩)

end Go.Proofs.YtfmbkpdjjhcmcaaGreat
