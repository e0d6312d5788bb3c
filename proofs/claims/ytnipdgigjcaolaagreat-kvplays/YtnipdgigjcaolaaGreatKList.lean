/- The law's list: changes out of raw ones. -/
import Derived.Test.YtnipdgigjcaolaaGreatPkU
import Derived.Test.YtnipdgigjcaolaaGreatPkS
namespace Go.Proofs.YtnipdgigjcaolaaGreat
open Go.RowKit

/-- A raw change: two numbers, a slice of bytes and what it shows. -/
structure RawC where
  key : Int
  n : Int
  vv : Value
  val : List UInt8

/-- Its key, by its number. -/
def tabK : Nat → ByteArray
  | 0 => ⟨#[97]⟩
  | 1 => ⟨#[98]⟩
  | 2 => ⟨#[97, 98]⟩
  | 3 => ⟨#[99, 47, 49]⟩
  | 4 => ⟨#[0]⟩
  | _ => ⟨#[122, 122]⟩

theorem tabK_size (r : Nat) : (tabK r).size ≤ 3 := by
  unfold tabK
  split <;> simp [ByteArray.size]

/-- The change that the law makes of it. -/
def RawC.chg (x : RawC) : Chg := ⟨if x.n.tmod 41 = 40 then ⟨#[]⟩ else tabK (x.key % 6).toNat, decide (0 < x.n.tmod 4), if 0 < x.n.tmod 4 then x.val.take 30 else []⟩

/-- One raw change, at its place. -/
structure RawAt (W : World) (B ab off : Nat) (x : RawC) : Prop where
  lt : ab < B
  c0 : W.cell? ⟨ab, off, none⟩ = some (.int .i64 x.key)
  c1 : W.cell? ⟨ab, off + 1, none⟩ = some (.int .i64 x.n)
  c2 : W.cell? ⟨ab, off + 2, none⟩ = some x.vv
  sees : Sees W x.vv x.val
  mem : 0 < x.val.length → ∀ j, slab x.vv = some j → j < B

/-- Raw changes that came in, all of it below B. -/
structure RawsOf (W : World) (B : Nat) (v : Value) (xs : List RawC) : Prop where
  shape : ∃ ao cap, v = .slice ao xs.length cap ∧ xs.length ≤ maxLen
  each : ∀ k (hk : k < xs.length), ∃ ab off cap, v = .slice (some ⟨ab, off, none⟩) xs.length cap ∧ RawAt W B ab (off + k * 3) xs[k]

theorem RawAt.kept {S : Nat → Prop} {w w' : World} {B ab off : Nat} {x : RawC} (h : RawAt w B ab off x) (ht : Turn S w w') (hB : B ≤ w.heap.size) (hS : ∀ k, k < B → ¬ S k) : RawAt w' B ab off x := by
  have hc : ∀ o, w'.cell? ⟨ab, o, none⟩ = w.cell? ⟨ab, o, none⟩ := fun o => ht.cell (p := ⟨ab, o, none⟩) (Nat.lt_of_lt_of_le h.lt hB) (hS ab h.lt)
  exact ⟨h.lt, (hc _).trans h.c0, (hc _).trans h.c1, (hc _).trans h.c2, h.sees.kept' ht (fun h0 j hj => hS j (h.mem h0 j hj)), h.mem⟩

theorem RawsOf.kept {S : Nat → Prop} {w w' : World} {B : Nat} {v : Value} {xs : List RawC} (h : RawsOf w B v xs) (ht : Turn S w w') (hB : B ≤ w.heap.size) (hS : ∀ k, k < B → ¬ S k) : RawsOf w' B v xs :=
  ⟨h.shape, fun k hk => by
    obtain ⟨ab, off, cap, e, hs⟩ := h.each k hk
    exact ⟨ab, off, cap, e, hs.kept ht hB hS⟩⟩

/-- The changes that list makes. -/
def listC (l : List RawC) (n : Nat) : List Chg := (l.take n).map RawC.chg

theorem listC_ok_len (l : List RawC) (n : Nat) : (listC l n).length ≤ n := by
  unfold listC
  simp
  omega

theorem chg_len (x : RawC) : x.chg.laid.length ≤ 60 := by
  have h1 := tabK_size (x.key % 6).toNat
  have h2 := text_length x.chg.key
  have hk : x.chg.key.size ≤ 3 := by
    unfold RawC.chg
    simp only
    split
    · simp [ByteArray.size]
    · exact h1
  have hv : x.chg.val.length ≤ 30 := by
    unfold RawC.chg
    simp only
    split
    · simp; omega
    · simp
  unfold Chg.laid
  split <;> simp [be_length, sh_length] <;> omega

theorem CM.lt {Q : Nat → Prop} {w wr : World} {v : Value} {cl : List (Value × Chg)} (h : CM Q w v cl wr) {k : Nat} (e : v.ownBlock = some k) : k < wr.heap.size := by
  rcases h.own.2 with ⟨rfl, hn⟩ | ⟨g, cap, cur, rfl, _, hg, _⟩
  · simp [Value.ownBlock] at e
  · have h1 : g = k := by simpa [Value.ownBlock] using e
    rw [← h1]
    exact (Array.getElem?_eq_some_iff.1 hg).1

theorem index_tab (r : Nat) (hr : r < 6) (w : World) : Sem.run Tryz.prog (Instr.index 138 (.agg #[.string ⟨#[97]⟩, .string ⟨#[98]⟩, .string ⟨#[97, 98]⟩, .string ⟨#[99, 47, 49]⟩, .string ⟨#[0]⟩, .string ⟨#[122, 122]⟩]) (.int .i64 r)) w = .ok (.string (tabK r)) w := by
  have : r = 0 ∨ r = 1 ∨ r = 2 ∨ r = 3 ∨ r = 4 ∨ r = 5 := by omega
  rcases this with rfl | rfl | rfl | rfl | rfl | rfl <;> simp [Instr.index, run_underlying Tryz.underlying138, asIntOf, part, isAgg, tabK]

set_option maxHeartbeats 8000000 in
set_option maxRecDepth 100000 in
theorem klist_any (v : Value) (l : List RawC) (B n : Nat) (w : World) (h : RawsOf w B v l) (hB : B ≤ w.heap.size) (hn : n ≤ 1000) :
    Calls Tryz.prog 32 #[v, .int .i64 n] w fun e w' => ∃ v' cl, e = .returned v' ∧ CM (fun _ => False) w v' cl w' ∧ cl.map (·.2) = listC l n := by
  obtain ⟨lo, lc, rfl, hlm⟩ := h.shape
  have H := hide h
  clear h
  obtain ⟨len, hlen⟩ : ∃ len, len = l.length := ⟨_, rfl⟩
  have HL := hide hlen
  rw [← hlen] at H hlm ⊢
  unfold maxLen at hlm
  clear hlen
  go_enter Tryz.func32, Tryz.ntmps32
  go_wp2_with fail
  go_loopw [5, 6] (fun out i wr => ∃ (m : Nat) (cl : List (Value × Chg)), i = .int .i64 m ∧ m ≤ len ∧ m ≤ n ∧ CM (fun _ => False) w out cl wr ∧ cl.map (·.2) = (l.take m).map RawC.chg) (fun _ i _ => n - (intOf i).toNat)
  case atStart => exact ⟨0, [], rfl, by omega, by omega, CM.nil _ _, rfl⟩
  case round =>
    obtain ⟨m, cl, rfl, hml, hmn, hcm, hcl⟩ := hrel
    have hcll : cl.length = m := by
      have := congrArg List.length hcl
      have h2 := unhide HL
      simp at this
      omega
    have hend : ∀ u, CM (fun _ => False) w u cl wr → ¬ (m < len ∧ m < n) → ∃ v', Ending.returned u = .returned v' ∧ ∃ cl', CM (fun _ => False) w v' cl' wr ∧ cl'.map (·.2) = listC l n := fun u hu hx => by
      refine ⟨u, rfl, cl, hu, ?_⟩
      rw [hcl]
      unfold listC
      have h2 := unhide HL
      by_cases h3 : m = n
      · rw [h3]
      · rw [List.take_of_length_le (by omega), List.take_of_length_le (by omega)]
    have Hend := hide hend
    obtain ⟨oo, oc, hoe⟩ := hcm.shape
    rw [hcll] at hoe
    clear hend
    by_cases hlt : m < len
    · have q1 : (m : Int) < len := by omega
      by_cases hnt : m < n
      · have q2 : (m : Int) < n := by omega
        have hm' : m < l.length := by have := unhide HL; omega
        obtain ⟨ab, off, cap, hve, hr0⟩ := (unhide H).each m hm'
        rw [← unhide HL] at hve
        injection hve with hlo _ hcap
        subst hlo hcap
        have hr := hr0.kept hcm.turn hB (fun _ _ e => e)
        have hsucc : (l.take (m + 1)).map RawC.chg = (l.take m).map RawC.chg ++ [l[m].chg] := by
          rw [List.take_succ_eq_append_getElem hm', List.map_append]
          rfl
        obtain ⟨x, hx⟩ : ∃ x, x = l[m] := ⟨_, rfl⟩
        rw [← hx] at hr hsucc
        clear hx hr0
        obtain ⟨⟨xk, xn, xv, xs⟩, rfl⟩ : ∃ y, y = x := ⟨_, rfl⟩
        have d0 : wr.cell? ⟨ab, off + m * 3, none⟩ = some (.int .i64 xk) := hr.c0
        have d1 : wr.cell? ⟨ab, off + m * 3 + 1, none⟩ = some (.int .i64 xn) := hr.c1
        have d2 : wr.cell? ⟨ab, off + m * 3 + 2, none⟩ = some xv := hr.c2
        obtain ⟨r, hr6⟩ : ∃ r : Nat, xk % 6 = (r : Int) := ⟨(xk % 6).toNat, by omega⟩
        have hr7 : r < 6 := by omega
        have hpk : ∀ wy, Calls Tryz.prog 11 #[.int .i64 xk, .int .i64 6] wy fun e w' => e = .returned (.int .i64 r) ∧ wy = w' := fun wy => (pick_any xk 6 _ (by omega) (by omega)).mono fun _ _ h => ⟨by rw [h.1, hr6], h.2⟩
        have HP := hide hpk
        obtain ⟨hs, hhs⟩ : ∃ hs, hs = decide (0 < xn.tmod 4) := ⟨_, rfl⟩
        have hchg : RawC.chg ⟨xk, xn, xv, xs⟩ = ⟨if xn.tmod 41 = 40 then ⟨#[]⟩ else tabK r, hs, if 0 < xn.tmod 4 then xs.take 30 else []⟩ := by
          unfold RawC.chg
          simp only [hr6, hhs]
          rfl
        have Hchg := hide hchg
        have Hhs := hide hhs
        have Hr := hide hr
        have Hcm := hide (And.intro hcm (And.intro hcl hsucc))
        clear hpk hchg hhs hr hcm hcl hsucc
        subst hoe
        have e0 : wr.drew.cell? ⟨ab, off + m * 3, none⟩ = some (.int .i64 xk) := by rw [World.cell?_drew]; exact d0
        have e1 : wr.drew.cell? ⟨ab, off + m * 3 + 1, none⟩ = some (.int .i64 xn) := by rw [World.cell?_drew]; exact d1
        go_upto_region 5 with fail
        go_cut [7] from 8 to 55 (fun c wx => c = .pointer (some ⟨wr.heap.size, 0, none⟩) ∧ At 51 wx wr.heap.size #[.string (tabK r), .bool hs, .slice none 0 0] ∧ Turn (fun _ => False) wr wx)
        case first =>
          have k1 := fun w' => index_tab r hr7 w'
          by_cases h4 : 0 < xn.tmod 4
          · obtain rfl : hs = true := by rw [unhide Hhs]; simp [h4]
            go_region_held (fun w' => w'.cell? ⟨ab, off + m * 3, none⟩ = some (.int .i64 xk) ∧ w'.cell? ⟨ab, off + m * 3 + 1, none⟩ = some (.int .i64 xn)) (go_keep) (first | (go_at_call 11; refine (unhide HP _).mono ?_; rintro e w8 ⟨rfl, rfl⟩))
            all_goals (
              go_wp2_with fail
              go_meet
              case rel =>
                first
                | exact ⟨rfl, At.new _ wr.drew _, (Turn.refl _ wr).drew.alloc _⟩
                | exact ⟨rfl, (At.new _ wr _).kept (Turn.refl (fun _ => False) _).drew (fun e => e), ((Turn.refl _ wr).alloc _).drew⟩)
          · obtain rfl : hs = false := by rw [unhide Hhs]; simp [h4]
            go_region_held (fun w' => w'.cell? ⟨ab, off + m * 3, none⟩ = some (.int .i64 xk) ∧ w'.cell? ⟨ab, off + m * 3 + 1, none⟩ = some (.int .i64 xn)) (go_keep) (first | (go_at_call 11; refine (unhide HP _).mono ?_; rintro e w8 ⟨rfl, rfl⟩))
            all_goals (
              go_wp2_with fail
              go_meet
              case rel =>
                first
                | exact ⟨rfl, At.new _ wr.drew _, (Turn.refl _ wr).drew.alloc _⟩
                | exact ⟨rfl, (At.new _ wr _).kept (Turn.refl (fun _ => False) _).drew (fun e => e), ((Turn.refl _ wr).alloc _).drew⟩)
        case rest =>
          obtain ⟨rfl, hA, tA⟩ := hcut
          obtain ⟨hcm, hcl, hsucc⟩ := unhide Hcm
          have hr2 := (unhide Hr).kept tA (Nat.le_trans hB hcm.turn.size) (fun _ _ e => e)
          have hab : ab < wr.heap.size := World.block_lt_of_cell? _ _ d0
          have hcc : wr.heap.size < wc.heap.size := hA.lt
          have hcmlt := fun k e => hcm.lt (k := k) e
          have hl1 : cl.length ≤ 1000 := by omega
          have f1 : wc.cell? ⟨ab, off + m * 3 + 1, none⟩ = some (.int .i64 xn) := hr2.c1
          have f2 : wc.cell? ⟨ab, off + m * 3 + 2, none⟩ = some xv := hr2.c2
          have b0 : wc.cell? ⟨wr.heap.size, 0, none⟩ = some (.string (tabK r)) := hA.cell 0
          have b1 : wc.cell? ⟨wr.heap.size, 1, none⟩ = some (.bool hs) := hA.cell 1
          have b2 : wc.cell? ⟨wr.heap.size, 2, none⟩ = some (.slice none 0 0) := hA.cell 2
          have z0 := hA.frozen 0
          have z2 := hA.frozen 2
          have hts := tabK_size r
          have HF := hide (few_any xv xs 30 wc hr2.sees (by have := Nat.min_le_right xs.length 30; omega))
          obtain ⟨xo, xc, hxe⟩ := hr2.sees.shape
          have HA := hide (And.intro hA tA)
          have HC := hide (And.intro hcm (And.intro hcl (And.intro hsucc hcmlt)))
          clear hr2 hA tA hcm hcl hsucc hcmlt Hcm Hr HP d0 d1 d2 e0 e1
          generalize xs.length = xl at hxe
          subst hxe
          cases hs
          · have h4 : ¬ 0 < xn.tmod 4 := by
              have := unhide Hhs
              simpa using this.symm
            by_cases h41 : xn.tmod 41 = 40
            · have q41 : (xn.tmod 41 == 40) = true := by simp [h41]
              have t8 : Turn (fun i => i = wr.heap.size) wc (wc.setCell ⟨wr.heap.size, 0, none⟩ (.string ⟨#[]⟩)) := (Turn.refl (fun i => i = wr.heap.size) wc).setCell (p := ⟨wr.heap.size, 0, none⟩) (.inl rfl) _
              have tall := (unhide HA).2.trans' t8 (fun i hi e => by omega)
              obtain ⟨v2, w2, hrun, hcm3⟩ := ((unhide HC).1.goes tall).cat (.slice none 0 0, ⟨⟨#[]⟩, false, []⟩) (Sees.nil _) (fun h0 => by simp at h0) (by simp [ByteArray.size]) (by simp) (by omega)
              have hfin : (cl ++ [(Value.slice none 0 0, (⟨⟨#[]⟩, false, []⟩ : Chg))]).map (·.2) = (l.take (m + 1)).map RawC.chg := by
                rw [(unhide HC).2.2.1, List.map_append, (unhide HC).2.1, unhide Hchg, if_pos h41, if_neg h4]; rfl
              have hz : (wc.setCell ⟨wr.heap.size, 0, none⟩ (.string ⟨#[]⟩)).heap.size = wc.heap.size := by simp
              rw [hz] at hrun
              clear hz
              obtain ⟨o2, c2, hoe2⟩ := hcm3.shape
              have Hfin := hide (And.intro hcm3 hfin)
              rw [List.length_append, List.length_singleton, hcll] at hoe2
              simp only at hrun
              have Hrun := hide hrun
              clear hcm3 hfin hrun tall
              try clear t8
              subst hoe2
              go_wp2_with (at_builtin; refine wpList_append_run rfl (.tmp 52) (.tmp 54) 52 rfl _ _ _ w2 rfl rfl (unhide Hrun) ?_)
              go_roundw
              case rel => exact ⟨m + 1, _, by go_num, by omega, by omega, (unhide Hfin).1, (unhide Hfin).2⟩
              case measure => simp [intOf]; omega
            · have q41 : (xn.tmod 41 == 40) = false := by simp [h41]
              have tall := (unhide HA).2
              obtain ⟨v2, w2, hrun, hcm3⟩ := ((unhide HC).1.goes tall).cat (.slice none 0 0, ⟨tabK r, false, []⟩) (Sees.nil _) (fun h0 => by simp at h0) (by show (tabK r).size ≤ _; omega) (by simp) (by omega)
              have hfin : (cl ++ [(Value.slice none 0 0, (⟨tabK r, false, []⟩ : Chg))]).map (·.2) = (l.take (m + 1)).map RawC.chg := by
                rw [(unhide HC).2.2.1, List.map_append, (unhide HC).2.1, unhide Hchg, if_neg h41, if_neg h4]; rfl
              obtain ⟨o2, c2, hoe2⟩ := hcm3.shape
              have Hfin := hide (And.intro hcm3 hfin)
              rw [List.length_append, List.length_singleton, hcll] at hoe2
              simp only at hrun
              have Hrun := hide hrun
              clear hcm3 hfin hrun tall
              try clear t8
              subst hoe2
              go_wp2_with (at_builtin; refine wpList_append_run rfl (.tmp 52) (.tmp 54) 52 rfl _ _ _ w2 rfl rfl (unhide Hrun) ?_)
              go_roundw
              case rel => exact ⟨m + 1, _, by go_num, by omega, by omega, (unhide Hfin).1, (unhide Hfin).2⟩
              case measure => simp [intOf]; omega
          · have h4 : 0 < xn.tmod 4 := by
              have := unhide Hhs
              simpa using this.symm
            go_wp2_with fail
            refine (unhide HF).mono ?_
            rintro e w6 ⟨v6, rfl, hm6⟩
            have hA6 := (unhide HA).1.kept hm6.2.1 (fun e => e)
            have g0 : w6.cell? ⟨wr.heap.size, 0, none⟩ = some (.string (tabK r)) := hA6.cell 0
            have g1 : w6.cell? ⟨wr.heap.size, 1, none⟩ = some (.bool true) := hA6.cell 1
            have g2 : w6.cell? ⟨wr.heap.size, 2, none⟩ = some (.slice none 0 0) := hA6.cell 2
            have y0 := hA6.frozen 0
            have y2 := hA6.frozen 2
            have f6 : w6.cell? ⟨ab, off + m * 3 + 1, none⟩ = some (.int .i64 xn) := (hm6.2.1.cell (p := ⟨ab, off + m * 3 + 1, none⟩) (by have := (unhide HA).2.size; show ab < _; omega) (fun e => e)).trans f1
            obtain ⟨o6, p6, e6⟩ := hm6.1.shape
            have hvl : (xs.take 30).length ≤ 30 := by simp; omega
            have hown : ∀ j, slab v6 = some j → wc.heap.size ≤ j ∧ j < w6.heap.size := fun j hj => by
              rw [hm6.1.slab_eq] at hj
              exact ⟨hm6.2.2 j hj, hm6.1.lt hj⟩
            have Hm6 := hide (And.intro hm6 hown)
            have hw6 := hm6.2.1.size
            clear hA6 hm6 HF b0 b1 b2 z0 z2 f1 f2 hown
            by_cases h41 : xn.tmod 41 = 40
            · have q41 : (xn.tmod 41 == 40) = true := by simp [h41]
              have t8 : Turn (fun i => i = wr.heap.size) w6 ((w6.setCell ⟨wr.heap.size, 2, none⟩ v6).setCell ⟨wr.heap.size, 0, none⟩ (.string ⟨#[]⟩)) := ((Turn.refl (fun i => i = wr.heap.size) w6).setCell (p := ⟨wr.heap.size, 2, none⟩) (.inl rfl) _).setCell (p := ⟨wr.heap.size, 0, none⟩) (.inl rfl) _
              have tall := ((unhide HA).2.trans (unhide Hm6).1.2.1).trans' t8 (fun i hi e => by omega)
              obtain ⟨v2, w2, hrun, hcm3⟩ := ((unhide HC).1.goes tall).cat (v6, ⟨⟨#[]⟩, true, xs.take 30⟩) ((unhide Hm6).1.1.sees.kept t8 (fun j hj e => by have := (unhide Hm6).2 j hj; omega)) (fun h0 j hj => by
                have h1 := (unhide Hm6).2 j hj
                have h2 := (unhide HC).1.turn.size
                have h3 := (unhide HA).2.size
                have h4 := t8.size
                exact ⟨.inr (by omega), by omega, fun e => by have := (unhide HC).2.2.2 j e; omega⟩) (by simp [ByteArray.size]) (by show (xs.take 30).length ≤ _; omega) (by omega)
              have hfin : (cl ++ [(v6, (⟨⟨#[]⟩, true, xs.take 30⟩ : Chg))]).map (·.2) = (l.take (m + 1)).map RawC.chg := by
                rw [(unhide HC).2.2.1, List.map_append, (unhide HC).2.1, unhide Hchg, if_pos h41, if_pos h4]; rfl
              generalize (xs.take 30).length = n6 at e6
              subst e6
              have hz : ((w6.setCell ⟨wr.heap.size, 2, none⟩ (.slice o6 n6 p6)).setCell ⟨wr.heap.size, 0, none⟩ (.string ⟨#[]⟩)).heap.size = w6.heap.size := by simp
              rw [hz] at hrun
              clear hz
              obtain ⟨o2, c2, hoe2⟩ := hcm3.shape
              have Hfin := hide (And.intro hcm3 hfin)
              rw [List.length_append, List.length_singleton, hcll] at hoe2
              simp only at hrun
              have Hrun := hide hrun
              clear hcm3 hfin hrun tall
              try clear t8
              subst hoe2
              go_wp2_with (at_builtin; refine wpList_append_run rfl (.tmp 52) (.tmp 54) 52 rfl _ _ _ w2 rfl rfl (unhide Hrun) ?_)
              go_roundw
              case rel => exact ⟨m + 1, _, by go_num, by omega, by omega, (unhide Hfin).1, (unhide Hfin).2⟩
              case measure => simp [intOf]; omega
            · have q41 : (xn.tmod 41 == 40) = false := by simp [h41]
              have t8 : Turn (fun i => i = wr.heap.size) w6 (w6.setCell ⟨wr.heap.size, 2, none⟩ v6) := (Turn.refl (fun i => i = wr.heap.size) w6).setCell (p := ⟨wr.heap.size, 2, none⟩) (.inl rfl) _
              have tall := ((unhide HA).2.trans (unhide Hm6).1.2.1).trans' t8 (fun i hi e => by omega)
              obtain ⟨v2, w2, hrun, hcm3⟩ := ((unhide HC).1.goes tall).cat (v6, ⟨tabK r, true, xs.take 30⟩) ((unhide Hm6).1.1.sees.kept t8 (fun j hj e => by have := (unhide Hm6).2 j hj; omega)) (fun h0 j hj => by
                have h1 := (unhide Hm6).2 j hj
                have h2 := (unhide HC).1.turn.size
                have h3 := (unhide HA).2.size
                have h4 := t8.size
                exact ⟨.inr (by omega), by omega, fun e => by have := (unhide HC).2.2.2 j e; omega⟩) (by show (tabK r).size ≤ _; omega) (by show (xs.take 30).length ≤ _; omega) (by omega)
              have hfin : (cl ++ [(v6, (⟨tabK r, true, xs.take 30⟩ : Chg))]).map (·.2) = (l.take (m + 1)).map RawC.chg := by
                rw [(unhide HC).2.2.1, List.map_append, (unhide HC).2.1, unhide Hchg, if_neg h41, if_pos h4]; rfl
              generalize (xs.take 30).length = n6 at e6
              subst e6
              have hz : (w6.setCell ⟨wr.heap.size, 2, none⟩ (.slice o6 n6 p6)).heap.size = w6.heap.size := by simp
              rw [hz] at hrun
              clear hz
              obtain ⟨o2, c2, hoe2⟩ := hcm3.shape
              have Hfin := hide (And.intro hcm3 hfin)
              rw [List.length_append, List.length_singleton, hcll] at hoe2
              simp only at hrun
              have Hrun := hide hrun
              clear hcm3 hfin hrun tall
              try clear t8
              subst hoe2
              go_wp2_with (at_builtin; refine wpList_append_run rfl (.tmp 52) (.tmp 54) 52 rfl _ _ _ w2 rfl rfl (unhide Hrun) ?_)
              go_roundw
              case rel => exact ⟨m + 1, _, by go_num, by omega, by omega, (unhide Hfin).1, (unhide Hfin).2⟩
              case measure => simp [intOf]; omega
      · have q2 : ¬ (m : Int) < n := by omega
        have HC := hide hcm
        clear hcm hcl
        subst hoe
        go_wp2
        go_ret
        exact unhide Hend _ (unhide HC) (by omega)
    · have q1 : ¬ (m : Int) < len := by omega
      have HC := hide hcm
      clear hcm hcl
      subst hoe
      go_wp2
      go_ret
      exact unhide Hend _ (unhide HC) (by omega)

end Go.Proofs.YtnipdgigjcaolaaGreat
