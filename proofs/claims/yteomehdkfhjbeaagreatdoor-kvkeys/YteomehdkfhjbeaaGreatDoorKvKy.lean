/- The law KvKeys: its walk. -/
import Derived.Test.YteomehdkfhjbeaaGreatDoorKKey0
import Derived.Test.YteomehdkfhjbeaaGreatDoorKKn1
import Derived.Test.YteomehdkfhjbeaaGreatDoorKMade
import Derived.Deep.RegionHeldLaw
import Derived.Deep.CutRange
import Derived.Deep.CutBlock
import Derived.Deep.DeepMust
import Derived.Deep.QuietTactic
import Derived.BigQuiet
namespace Go.Proofs.YteomehdkfhjbeaaGreatDoor
open Go.RowKit

theorem texts_cell {w : World} {g n c j : Nat} {l : List (List UInt8)} {x : List UInt8} (h : OwnsC 9 w (.slice (some ⟨g, 0, none⟩) n c) (l.map encStr)) (hx : l[j]? = some x) : w.cell? ⟨g, j, none⟩ = some (.string ⟨x.toArray⟩) := by
  rcases h.sees with ⟨h0, _⟩ | ⟨a, cap, e, _, _, hc⟩
  · simp at h0
  · simp only [Value.slice.injEq, Option.some.injEq] at e
    have := hc j (encStr x) (by rw [List.getElem?_map, hx]; rfl)
    rwa [← e.1, addr_lit, Nat.zero_add] at this

theorem texts_cell' {w : World} {ao : Option Addr} {n c j : Nat} {l : List (List UInt8)} {x : List UInt8} (h : OwnsC 9 w (.slice ao n c) (l.map encStr)) (hx : l[j]? = some x) : ∃ g, ao = some ⟨g, 0, none⟩ ∧ w.cell? ⟨g, j, none⟩ = some (.string ⟨x.toArray⟩) := by
  rcases h.shape with ⟨h0, h1⟩ | ⟨g, cap', h0, _⟩
  · have : l = [] := by simpa using h1
    rw [this] at hx
    simp at hx
  · injection h0 with e1
    subst e1
    exact ⟨g, rfl, texts_cell h hx⟩

theorem texts_slice {w : World} {v : Value} {l : List (List UInt8)} (h : OwnsC 9 w v (l.map encStr)) : (l = [] ∧ v = .slice none 0 0) ∨ ∃ g c, v = .slice (some ⟨g, 0, none⟩) l.length c := by
  rcases h.shape with ⟨h0, h1⟩ | ⟨g, cap, h0, _⟩
  · exact .inl ⟨by simpa using h1, h0⟩
  · exact .inr ⟨g, cap, by rw [h0]; simp⟩

theorem begins_extract (b p : ByteArray) (h : p.size ≤ b.size) : ((b.extract 0 p.size).toList == p.toList) = begins b.data.toList p.data.toList := by
  have l1 := text_length b
  have l2 := text_length p
  unfold begins
  rw [Lib.toList_data, Lib.toList_data]
  rw [Bool.eq_iff_iff]
  simp [l1, l2, h]

theorem turn_drewN7 {w wr : World} (t : Turn (fun _ => False) w wr) (n : Nat) : Turn (fun _ => False) w (wr.drewN n) := t.trans ⟨rfl, rfl, rfl, Nat.le_refl _, fun _ _ _ => rfl⟩

/-- One change more, its value new. -/
theorem catN {w wr w6 : World} {v v6 : Value} {cl : List (Value × Chg)} {k : ByteArray} {vs : List UInt8} {c : Chg} (h : CM (fun _ => False) w v cl wr) (td : Turn (fun _ => False) wr wr.drew) (hm : Made wr.drew v6 vs w6) (hc : c = ⟨k, true, vs⟩) (hk : k.size ≤ 1099511627776) (hl : cl.length ≤ 1000) (hv : vs.length ≤ 1000) :
    ∃ v2 w2, (Builtin.append_ #[30, 30] 30 #[v, .slice (some ⟨w6.heap.size, 0, none⟩) 1 1]).run Tryz.prog (w6.alloc (.cells #[.string k, .bool true, v6] 37)) = .ok v2 w2 ∧ CM (fun _ => False) w v2 (cl ++ [(v6, c)]) w2 := by
  subst hc
  have hlt := fun k e => h.lt (k := k) e
  exact (h.goes (td.trans hm.2.1)).cat (v6, ⟨k, true, vs⟩) hm.1.sees (fun h0 j hj => by
    rw [hm.1.slab_eq] at hj
    have h1 := hm.2.2 j hj
    have h2 := hm.1.lt hj
    have h3 := h.turn.size
    have h4 := td.size
    exact ⟨.inr (by omega), h2, fun e => by have := hlt j e; omega⟩) hk (by show vs.length ≤ _; omega) (by omega)

set_option maxHeartbeats 8000000 in
set_option maxRecDepth 100000 in
theorem kvKeys_any (lv : Value) (xs : List RawC) (px : Int) (w : World) (hx : RawsOf w w.heap.size lv xs) (hn : Names w) :
    Calls Tryz.prog 3 #[lv, .int .i64 px] w fun e w' => e = .returned (.bool true) ∧ Turn (fun _ => False) w w' := by
  obtain ⟨lo, lc, rfl, hlm⟩ := hx.shape
  unfold maxLen at hlm
  obtain ⟨len, hlen⟩ : ∃ len, len = xs.length := ⟨_, rfl⟩
  have HLn := hide hlen
  have Hx := hide hx
  have Hn := hide hn
  have HW0 : Hid (0 < w.heap.size) := hide (World.block_lt_of_cell? _ _ (hn 0 (by omega)))
  rw [← hlen] at hlm ⊢
  clear hx hn hlen
  go_enter Tryz.func3, Tryz.ntmps3
  go_wp2_with fail
  refine (dl_new (w0 := w) (K := fun _ => False) (fun _ h => h.elim) (Turn.refl _ w)).mono ?_
  rintro e w1 ⟨rfl, h1, _⟩
  obtain ⟨b, hb⟩ : ∃ b, b = w.heap.size := ⟨_, rfl⟩
  rw [← hb] at h1 ⊢
  clear hb
  have HO := hide (kw_open (F := fun _ => []) (n := 0) (B := 0) (R := 0) (m := []) 4096 h1 rfl rfl dok_zero lid_zero (by omega) (by omega) (by omega) (by omega) (by omega) rfl (Nat.le_refl _) (by omega))
  clear h1
  go_wp2_with fail
  refine (unhide HO).mono ?_
  rintro e w2 ⟨sb, mb, l, K2, s2, a2, rfl, h2, _, _, ha2, hf2⟩
  clear HO
  go_wp2_with fail
  refine (known7_any w2).mono ?_
  rintro e w3 ⟨rfl, t3⟩
  have h3 := h2.goes t3
  clear h2 t3
  generalize grow K2 w2 w3 = K at h3
  obtain ⟨N, hN⟩ : ∃ N : Nat, N = 0 + 0 := ⟨_, rfl⟩
  rw [← hN] at h3
  have tw3 := h3.turn
  have hw3 := tw3.size
  have hn3 := (unhide Hn).kept tw3 (fun e => e)
  have hx3 := (unhide Hx).kept tw3 (Nat.le_refl _) (fun _ _ e => e)
  have Hn3 := hide hn3
  have Hx3 := hide hx3
  have H3 := hide (And.intro h3 (And.intro hf2 (And.intro ha2 hN)))
  have HB3 := hide hw3
  clear hn3 hx3 h3 hf2 ha2 hN tw3 hw3 Hn Hx
  go_wp2_with fail
  go_loopw [8, 9] (fun c i wr => ∃ (m : Nat) (cl : List (Value × Chg)), i = .int .i64 m ∧ m ≤ len ∧ m ≤ 30 ∧ CM (fun _ => False) w3 c cl wr ∧ cl.map (·.2) = (xs.take m).map RawC.named) (fun _ i _ => 30 - (intOf i).toNat)
  case atStart => exact ⟨0, [], rfl, by omega, by omega, CM.nil _ _, rfl⟩
  case round =>
    obtain ⟨m, cl, rfl, hml, hm30, hcm, hcl⟩ := hrel
    have hcll : cl.length = m := by
      have h1 := congrArg List.length hcl
      have h2 := unhide HLn
      simp at h1
      omega
    obtain ⟨oo, oc, hoe⟩ := hcm.shape
    rw [hcll] at hoe
    by_cases hlt : m < len ∧ m < 30
    · have q1 : (m : Int) < len := by omega
      have q2 : (m : Int) < 30 := by omega
      have hm' : m < xs.length := by have := unhide HLn; omega
      obtain ⟨ab, off, cap, hve, hr0⟩ := (unhide Hx3).each m hm'
      rw [← unhide HLn] at hve
      injection hve with hlo _ hcap
      subst hlo hcap
      have hr := hr0.kept hcm.turn (unhide HB3) (fun _ _ e => e)
      have hsucc : (xs.take (m + 1)).map RawC.named = (xs.take m).map RawC.named ++ [xs[m].named] := by
        rw [List.take_succ_eq_append_getElem hm', List.map_append]
        rfl
      obtain ⟨x, hx⟩ : ∃ x, x = xs[m] := ⟨_, rfl⟩
      rw [← hx] at hr hsucc
      rw [← hx] at hr0
      clear hx
      obtain ⟨⟨xk, xn, xv, vs⟩, rfl⟩ : ∃ y, y = x := ⟨_, rfl⟩
      have z0 : w3.cell? ⟨ab, off + m * 3, none⟩ = some (.int .i64 xk) := hr0.c0
      have z1 : w3.cell? ⟨ab, off + m * 3 + 1, none⟩ = some (.int .i64 xn) := hr0.c1
      have z2 : w3.cell? ⟨ab, off + m * 3 + 2, none⟩ = some xv := hr0.c2
      clear hr0
      have td : Turn (fun _ => False) wr wr.drew := (Turn.refl _ wr).drew
      have d0 : wr.drew.cell? ⟨ab, off + m * 3, none⟩ = some (.int .i64 xk) := by rw [World.cell?_drew]; exact hr.c0
      have d1 : wr.drew.cell? ⟨ab, off + m * 3 + 1, none⟩ = some (.int .i64 xn) := by rw [World.cell?_drew]; exact hr.c1
      have d2 : wr.drew.cell? ⟨ab, off + m * 3 + 2, none⟩ = some xv := by rw [World.cell?_drew]; exact hr.c2
      have hnd := ((unhide Hn3).kept hcm.turn (fun e => e)).kept td (fun e => e)
      have HN1 := hide (name_any xk wr.drew hnd)
      have HN2 := hide (name_any xn wr.drew hnd)
      obtain ⟨k1, hk1⟩ : ∃ k1, k1 = nam (xk % 6).toNat := ⟨_, rfl⟩
      obtain ⟨k2, hk2⟩ : ∃ k2, k2 = nam (xn % 6).toNat := ⟨_, rfl⟩
      rw [← hk1] at HN1
      rw [← hk2] at HN2
      have s1 : (k1.size : Int) ≤ 8388608 := by have := nam_size (xk % 6).toNat; rw [hk1]; omega
      have s2' : (k2.size : Int) ≤ 8388608 := by have := nam_size (xn % 6).toNat; rw [hk2]; omega
      have hchg : RawC.named ⟨xk, xn, xv, vs⟩ = ⟨k1 ++ k2, true, vs.take 20⟩ := by rw [hk1, hk2]; rfl
      have hks : (k1 ++ k2).size ≤ 1099511627776 := by rw [ByteArray.size_append]; omega
      have HF := hide (few_any xv vs 20 wr.drew (hr.sees.kept td (fun _ _ e => e)) (by have := Nat.min_le_right vs.length 20; omega))
      obtain ⟨xo, xc, hxe⟩ := hr.sees.shape
      have Hcm := hide (And.intro hcm (And.intro hcl (And.intro hsucc (And.intro hchg hks))))
      have hcmlt := hide (fun k e => hcm.lt (k := k) e)
      have Hk1 := hide hk1
      have Hk2 := hide hk2
      have HT := hide td
      generalize vs.length = vl at hxe
      subst hxe
      subst hoe
      clear hr hnd hcm hcl hsucc hchg hks hk1 hk2 td
      go_wp2_with fail
      go_region_held_law (fun w' => w'.cell? ⟨ab, off + m * 3, none⟩ = some (.int .i64 xk) ∧ w'.cell? ⟨ab, off + m * 3 + 1, none⟩ = some (.int .i64 xn) ∧ w'.cell? ⟨ab, off + m * 3 + 2, none⟩ = some (.slice xo vl xc)) (first | go_keep | exact ⟨y0, y1, y2⟩ | exact ⟨g0, g1, g2⟩ | exact ⟨d0, d1, d2⟩)
        (first
        | (go_at_call 7; refine (unhide HN1).mono ?_; rintro e w5 ⟨rfl, rfl⟩)
        | (go_at_call 7; refine (unhide HN2).mono ?_; rintro e w5 ⟨rfl, rfl⟩)
        | (go_at_call 8; refine (unhide HF).mono ?_; rintro e w6 ⟨v6, rfl, hm6⟩; have g0 := (hm6.2.1.cell (p := ⟨ab, off + m * 3, none⟩) (World.block_lt_of_cell? _ _ d0) (fun e => e)).trans d0; have g1 := (hm6.2.1.cell (p := ⟨ab, off + m * 3 + 1, none⟩) (World.block_lt_of_cell? _ _ d1) (fun e => e)).trans d1; have g2 := (hm6.2.1.cell (p := ⟨ab, off + m * 3 + 2, none⟩) (World.block_lt_of_cell? _ _ d2) (fun e => e)).trans d2; obtain ⟨o6, p6, e6⟩ := hm6.1.shape; obtain ⟨v8, w8, r8, hm8⟩ := catN (unhide Hcm).1 (unhide HT) hm6 (unhide Hcm).2.2.2.1 (unhide Hcm).2.2.2.2 (by omega) (by simp; omega); have y0 := (hm8.turn.cell (p := ⟨ab, off + m * 3, none⟩) (World.block_lt_of_cell? _ _ z0) (fun e => e)).trans z0; have y1 := (hm8.turn.cell (p := ⟨ab, off + m * 3 + 1, none⟩) (World.block_lt_of_cell? _ _ z1) (fun e => e)).trans z1; have y2 := (hm8.turn.cell (p := ⟨ab, off + m * 3 + 2, none⟩) (World.block_lt_of_cell? _ _ z2) (fun e => e)).trans z2; have R8 := hide r8; have H8 := hide hm8; generalize (vs.take 20).length = n6 at e6; subst e6; clear r8 hm8 hm6)
        | (refine step_append_run (by rfl) (.tmp 41) (.tmp 62) 30 (by rfl) _ _ _ w8 (by rfl) (by rfl) (unhide R8) ?_)
        | fail)
      all_goals (
        have hfin : ∀ u : Value, ∀ vz wz, CM (fun _ => False) w3 vz (cl ++ [(u, RawC.named ⟨xk, xn, .slice xo vl xc, vs⟩)]) wz → CM (fun _ => False) w3 vz (cl ++ [(u, RawC.named ⟨xk, xn, .slice xo vl xc, vs⟩)]) wz ∧ (cl ++ [(u, RawC.named ⟨xk, xn, .slice xo vl xc, vs⟩)]).map (·.2) = (xs.take (m + 1)).map RawC.named := fun u vz wz hz => ⟨hz, by
          rw [(unhide Hcm).2.2.1, List.map_append, (unhide Hcm).2.1]; rfl⟩
        obtain ⟨o8, c8, e8⟩ := (unhide H8).shape
        rw [List.length_append, List.length_singleton, hcll] at e8
        have Hfin := hide (hfin _ _ _ (unhide H8))
        subst e8
        clear R8 H8 HN1 HN2 HF hfin y0 y1 y2 g0 g1 g2 d0 d1 d2 z0 z1 z2
        go_wp2
        go_roundw
        case rel => exact ⟨m + 1, _, by go_num, by omega, by omega, (unhide Hfin).1, (unhide Hfin).2⟩
        case measure => simp [intOf]; omega)
    · have hexit : ((m : Int) < len ∧ ¬ (m : Int) < 30) ∨ ¬ (m : Int) < len := by omega
      have h4 := (unhide H3).1.goes hcm.turn
      have hC := hcm.toCLs (by omega)
      have hsb : sb < w3.heap.size := (unhide H3).1.kr.at'.lt
      have hmb : mb < w3.heap.size := by
        obtain ⟨m', hm1, _⟩ := (unhide H3).1.kr.mp
        exact hm1.lt
      have hsb2 : w.heap.size ≤ sb := (h4.held sb h4.kr.ks).1
      have hmb2 : w.heap.size ≤ mb := by
        obtain ⟨m', hm1, _⟩ := h4.kr.mp
        exact (h4.held mb hm1.own).1
      have hw0 : 0 < w3.heap.size := World.block_lt_of_cell? _ _ ((unhide Hn3) 0 (by omega))
      have hw00 : 0 < w.heap.size := unhide HW0
      have HC := hide (kw_commit h4 hC (fun j hj => by
          rcases hj with hj | hj
          · exact hj.elim
          · exact hj.2) (fun j hj e => by
          rcases hj with hj | hj
          · exact hj
          · rcases e with e | e | e
            · exact e.2 (.inr hj)
            · omega
            · omega) (by omega) (by have := (unhide H3).2.2.2; omega) (by have := (unhide H3).2.2.1; omega) (by omega) (by simp) (by rw [hcl]; exact named_all _) (by rw [hcl]; exact named_laid _ (by simp; omega)))
      obtain ⟨ps, hps⟩ : ∃ ps, ps = (cl.map (·.2)).foldl turnC [] := ⟨_, rfl⟩
      have hpl : ps.length ≤ m := by
        have h1 := fold_length (cl.map (·.2)) []
        rw [← hps, List.length_map, hcll] at h1
        simpa using h1
      rw [← hps] at HC
      have hnr := (unhide Hn3).kept hcm.turn (fun e => e)
      have H4 := hide (And.intro hnr (And.intro h4.turn (And.intro hsb2 (And.intro hmb2 hpl))))
      have hf2 := hide (unhide H3).2.1
      subst hoe
      clear h4 hC hsb hmb hsb2 hmb2 hw0 hcm hcl hps hpl hnr H3 Hn3 Hx3 HB3 hlt
      rcases hexit with ⟨x1, x2⟩ | x1
      all_goals (
        go_wp2_with fail
        refine (unhide HC).mono ?_
        rintro e w5 ⟨t5, K5, hk5, ⟨rfl, s5, G, a5, h5, ha5, _⟩ | ⟨_, hbad, _⟩⟩
        rotate_left 1
        · rw [unhide hf2] at hbad
          cases hbad
        have hn5 : Names w5 := (unhide H4).1.kept t5 (fun e => by
          obtain ⟨_, _, g1, g2, _⟩ := unhide H4
          rcases e with e | e | e
          · have := e.1; omega
          · omega
          · omega)
        have HN := hide (name_any px w5 hn5)
        have H5 := hide h5
        clear HC h5 t5 hk5 ha5 hn5
        go_wp2_with fail
        refine (unhide HN).mono ?_
        rintro e w6 ⟨rfl, rfl⟩
        obtain ⟨p, hp⟩ : ∃ p, p = nam (px % 6).toNat := ⟨_, rfl⟩
        rw [← hp]
        clear hp HN
        have HK := hide (by obtain ⟨f, t, hk⟩ := (unhide H5).ks; exact kkeys_any hk p (by have := (unhide H4).2.2.2.2; omega))
        go_wp2_with fail
        refine (unhide HK).mono ?_
        rintro e w6 ⟨v6, rfl, tx6⟩
        have h6 := (unhide H5).goes tx6.turn
        have HK2 := hide (by obtain ⟨f, t, hk⟩ := h6.ks; exact kkeys_any hk ⟨#[]⟩ (by have := (unhide H4).2.2.2.2; omega))
        have H6 := hide (And.intro h6 tx6)
        clear HK h6 tx6
        go_wp2_with fail
        refine (unhide HK2).mono ?_
        rintro e w7 ⟨v7, rfl, tx7⟩
        have hall : keysOf ps (⟨#[]⟩ : ByteArray).data.toList = ps.map (·.1) := keysOf_all ps
        rw [hall] at tx7
        have hks : keysOf ps p.data.toList = (ps.map (·.1)).filter fun x => begins x p.data.toList := rfl
        have tx6 := (unhide H6).2
        have ho6 : OwnsC 9 w7 v6 ((keysOf ps p.data.toList).map encStr) := tx6.own.kept tx7.turn (fun _ _ e => e)
        have ho7 := tx7.own
        have h7 := (unhide H6).1.goes tx7.turn
        have hris := h7.rising
        have HCn := hide (fun wz (tz : Turn (fun _ => False) w7 wz) => kcount_any (h7.kr.kept tz (fun _ _ e => e)))
        have hend : ∀ wz, Turn (fun _ => False) w7 wz → Turn (fun _ => False) w wz := fun wz tz => h7.turn.trans tz
        rw [hks] at ho6
        obtain ⟨all, hale⟩ : ∃ all, all = ps.map (·.1) := ⟨_, rfl⟩
        rw [← hale] at ho6 ho7
        obtain ⟨ks, hkse⟩ : ∃ ks, ks = all.filter fun x => begins x p.data.toList := ⟨_, rfl⟩
        rw [← hkse] at ho6
        obtain ⟨al, hall7⟩ : ∃ al, al = all.length := ⟨_, rfl⟩
        obtain ⟨kl, hkl⟩ : ∃ kl, kl = ks.length := ⟨_, rfl⟩
        have hpsl : ps.length = al := by rw [hall7, hale, List.length_map]
        rw [hpsl] at HCn
        have hpm := (unhide H4).2.2.2.2
        rw [hpsl] at hpm
        have HR := hide (And.intro hris (And.intro hale (And.intro hkse (And.intro hall7 hkl))))
        have HE := hide hend
        obtain ⟨o7, p7, e7⟩ := ho7.shape'
        obtain ⟨o6, p6, e6⟩ := ho6.shape'
        rw [List.length_map, ← hall7] at e7
        rw [List.length_map, ← hkl] at e6
        have H7 := hide (And.intro ho6 ho7)
        clear HK2 H5 H6 H4 tx6 tx7 hall hks ho6 ho7 h7 hris hend hale hkse hall7 hkl hpsl hf2
        subst e6 e7
        go_wp2_with fail
        go_loopw [13, 14] (fun nv iv wr => ∃ (i n : Nat), nv = .int .i64 n ∧ iv = .int .i64 i ∧ i ≤ al ∧ n = ((all.take i).filter fun x => begins x p.data.toList).length ∧ Turn (fun _ => False) w7 wr) (fun _ iv _ => al - (intOf iv).toNat)
        case atStart => exact ⟨0, 0, rfl, rfl, by omega, by simp, Turn.refl _ _⟩
        case round =>
          obtain ⟨i, n, rfl, rfl, hil, hn, tz⟩ := hrel
          by_cases hlt2 : i < al
          · have hi' : i < all.length := by have := (unhide HR).2.2.2.1; omega
            obtain ⟨x, hx⟩ : ∃ x, x = all[i] := ⟨_, rfl⟩
            have hxe : all[i]? = some x := by rw [hx]; exact List.getElem?_eq_getElem hi'
            obtain ⟨bi, hbi⟩ : ∃ bi : ByteArray, bi = ⟨x.toArray⟩ := ⟨_, rfl⟩
            have hbd : bi.data.toList = x := by rw [hbi]
            obtain ⟨g7, rfl, c7⟩ := texts_cell' ((unhide H7).2.kept tz (fun _ _ e => e)) hxe
            rw [← hbi] at c7
            have hle : ∀ j, i = j + 1 → ∃ bj, wr.cell? ⟨g7, j, none⟩ = some (.string bj) ∧ (Op.bytesLess bi.toList bj.toList || bi.toList == bj.toList) = false := fun j hj => by
              have hj' : j < all.length := by omega
              obtain ⟨g8, e8, c8⟩ := texts_cell' (j := j) (x := all[j]) ((unhide H7).2.kept tz (fun _ _ e => e)) (List.getElem?_eq_getElem hj')
              injection e8 with e8
              injection e8 with e8
              subst e8
              refine ⟨_, c8, ?_⟩
              obtain ⟨r1, r2, _⟩ := unhide HR
              subst r2
              exact rising_leq r1 i j (by omega) hi' bi _ (by rw [hbd, hx]) rfl
            have hcase : ¬ 0 < i ∨ ∃ j : Nat, 0 < i ∧ (i : Int) - 1 = (j : Int) ∧ ∃ bj, wr.cell? ⟨g7, j, none⟩ = some (.string bj) ∧ (Op.bytesLess bi.toList bj.toList || bi.toList == bj.toList) = false := by
              cases i with
              | zero => exact .inl (by omega)
              | succ j => exact .inr ⟨j, by omega, by omega, hle j rfl⟩
            have q1 : (i : Int) < al := by omega
            clear hle
            have HX := hide (And.intro hx (And.intro hxe (And.intro hbi (And.intro hbd hn))))
            have HTz := hide tz
            clear hx hxe hbi hbd hn tz
            have hbe : bi.data.toList = x := (unhide HX).2.2.2.1
            have hfy : begins x p.data.toList = true → p.size ≤ bi.size ∧ ((bi.extract 0 p.size).toList == p.toList) = true ∧ n < kl ∧ ∃ g6, o6 = some ⟨g6, 0, none⟩ ∧ wr.cell? ⟨g6, n, none⟩ = some (.string bi) := fun hb => by
              have hsz : p.size ≤ bi.size := by
                have l1 := text_length bi
                have l2 := text_length p
                unfold begins at hb
                rw [← hbe] at hb
                simp at hb
                omega
              obtain ⟨_, r2, r3, r4, r5⟩ := unhide HR
              obtain ⟨x1, x2, x3, x4, x5⟩ := unhide HX
              have hfa := filter_at (fun x => begins x p.data.toList) all i hi' (by rw [← x1]; exact hb)
              rw [← x5, ← r3, ← x1] at hfa
              obtain ⟨g6, e6, c6⟩ := texts_cell' ((unhide H7).1.kept (unhide HTz) (fun _ _ e => e)) hfa
              have hnk : n < ks.length := (List.getElem?_eq_some_iff.1 hfa).1
              exact ⟨hsz, by rw [begins_extract bi p hsz, hbe]; exact hb, by omega, g6, e6, by rw [x3]; exact c6⟩
            have hfn : begins x p.data.toList = false → p.size ≤ bi.size → ((bi.extract 0 p.size).toList == p.toList) = false := fun hb hsz => by rw [begins_extract bi p hsz, hbe]; exact hb
            have hny : begins x p.data.toList = true → n + 1 = ((all.take (i + 1)).filter fun x => begins x p.data.toList).length := fun hb => by
              obtain ⟨x1, x2, x3, x4, x5⟩ := unhide HX
              rw [filter_yes (fun x => begins x p.data.toList) all i hi' (by rw [← x1]; exact hb), ← x5]
            have hnn : begins x p.data.toList = false → n = ((all.take (i + 1)).filter fun x => begins x p.data.toList).length := fun hb => by
              obtain ⟨x1, x2, x3, x4, x5⟩ := unhide HX
              rw [filter_no (fun x => begins x p.data.toList) all i hi' (by rw [← x1]; exact hb), ← x5]
            have hni : n ≤ i := by
              rw [(unhide HX).2.2.2.2]
              exact Nat.le_trans (List.length_filter_le _ _) (List.length_take_le _ _)
            have htz := fun k => turn_drewN7 (unhide HTz) k
            clear hbe
            cases hb : begins x p.data.toList with
            | true =>
              obtain ⟨hsz, hx21, hnk, g6, rfl, c6⟩ := hfy hb
              have q3 : (p.size : Int) ≤ bi.size := by omega
              have q4 : ¬ kl ≤ n := by omega
              have HF := hide (And.intro (hny hb) htz)
              clear hfy hfn hny hnn htz hb hnk
              rcases hcase with hip | ⟨j, hip, hj, bj, cj, hlej⟩
              all_goals (
                go_wp2_with fail
                go_quiet ((fail)))
              all_goals (
                go_wp2_with fail
                go_quiet ((fail)))
              all_goals (
                go_wp2
                go_roundw
                case rel => exact ⟨i + 1, n + 1, by go_num, by go_num, by omega, (unhide HF).1, (unhide HF).2 _⟩
                case measure => simp [intOf]; omega)
            | false =>
              have HF := hide (And.intro (hnn hb) htz)
              by_cases hsz : p.size ≤ bi.size
              · have q3 : (p.size : Int) ≤ bi.size := by omega
                have hx21 := hfn hb hsz
                clear hfy hfn hny hnn htz hb
                rcases hcase with hip | ⟨j, hip, hj, bj, cj, hlej⟩
                all_goals (
                  go_wp2_with fail
                  go_quiet ((fail)))
                all_goals (
                  go_wp2
                  go_roundw
                  case rel => exact ⟨i + 1, n, rfl, by go_num, by omega, (unhide HF).1, (unhide HF).2 _⟩
                  case measure => simp [intOf]; omega)
              · have q3 : ¬ (p.size : Int) ≤ bi.size := by omega
                clear hfy hfn hny hnn htz hb
                rcases hcase with hip | ⟨j, hip, hj, bj, cj, hlej⟩
                all_goals (
                  go_wp2_with fail
                  go_quiet ((fail)))
                all_goals (
                  go_wp2
                  go_roundw
                  case rel => exact ⟨i + 1, n, rfl, by go_num, by omega, (unhide HF).1, (unhide HF).2 _⟩
                  case measure => simp [intOf]; omega)
          · have q1 : ¬ (i : Int) < al := by omega
            have hnk : n = kl := by
              obtain ⟨_, r2, r3, r4, r5⟩ := unhide HR
              rw [hn, List.take_of_length_le (by omega), ← r3, r5]
            have HC1 := hide (unhide HCn wr tz)
            have HE2 := hide (unhide HE wr tz)
            subst hnk
            have q2 : (al : Int) ≤ m := by omega
            clear hn tz HCn HE HR H7 hlt2
            go_wp2_with fail
            refine (unhide HC1).mono ?_
            rintro e w8 ⟨rfl, rfl⟩
            go_wp2_with fail
            refine (unhide HC1).mono ?_
            rintro e w8 ⟨rfl, rfl⟩
            go_wp2
            go_ret
            exact ⟨rfl, unhide HE2⟩)

end Go.Proofs.YteomehdkfhjbeaaGreatDoor
