/- What is added in any order comes to the same; what is raised leaves the greatest: the law's walk. -/
import Derived.Test.YtdfamclggeaejaaMKnown
import Derived.Test.YtdfamclggeaejaaHand
import Derived.Test.YtdfamclggeaejaaInts
import Derived.Deep.RegionWith
import Derived.Deep.DeepMust
import Derived.Deep.CutRange
import Derived.Deep.CutBlock
namespace Go.Proofs.Ytdfamclggeaejaa
open Go.RowKit

theorem Try.infoInt : (Try.prog.info? 3).map (fun i => (i.zero, i.size, i.bytes)) = some (some (.int .i64 0), 1, 8) := by kernel_rfl

/-- append onto numbers of one's own, of numbers that a slice shows. -/
theorem run_append_ints (w : World) (v : Value) (xs : List Int) (hown : OwnsC 3 w v (i64s xs)) (sv : Value) (ds : List Int) (hsee : SeesC w sv (i64s ds)) (hb : xs.length + ds.length ≤ 1000) :
    ∃ v' w', (Builtin.append_ #[37, 37] 37 #[v, sv]).run Try.prog w = .ok v' w' ∧ OwnsC 3 w' v' (i64s (xs ++ ds)) ∧ w.grownBy w' v.ownBlock ∧ (v'.ownBlock = v.ownBlock ∨ v'.ownBlock = some w.heap.size) := by
  obtain ⟨i, hi, h⟩ := Option.map_eq_some_iff.1 Try.infoInt
  simp only [Prod.mk.injEq] at h
  obtain ⟨hz, hs, hby⟩ := h
  have hx := i64s_length xs
  have hd := i64s_length ds
  rw [i64s_append]
  exact run_append_cells (P := Try.prog) w 37 37 3 i _ 8 Try.underlying37 hi hz hs hby rfl v _ hown sv _ hsee (fun u hu => i64s_one hu) (by unfold maxLen; omega) (by omega)

/-- Two meters, and the numbers that are left. -/
structure Adds (w wr : World) (a b c c' : Nat) (s m : Int) (lv : Value) (ys : List Int) : Prop where
  one : ∃ g : Nat → Int, g c = s ∧ Met wr a g 0 0 0
  two : ∃ (g : Nat → Int) (t : Int), g c = wrap64 t ∧ wrap64 (t + isum ys) = s ∧ g c' = m ∧ Met wr b g 0 0 0
  left : OwnsC 3 wr lv (i64s ys)
  new : ∀ k, lv.ownBlock = some k → b < k
  turn : Turn (fun _ => False) w wr

set_option maxHeartbeats 8000000 in
set_option maxRecDepth 100000 in
theorem meterSums_any (lv ov : Value) (l os : List Int) (kind : Int) (w : World) (hL : IntsAt w w.heap.size lv l) (hO : IntsAt w w.heap.size ov os) :
    Calls Try.prog 6 #[lv, ov, .int .i64 kind] w fun e w' => e = .returned (.bool true) ∧ Turn (fun _ => False) w w' := by
  have hnot : ∀ (x : Bool) (w : World), (Op.unary .not (.bool x)).run Try.prog w = .ok (.bool (!x)) w := fun _ _ => rfl
  obtain ⟨al, lcap, rfl, hlm⟩ := hL.shape
  obtain ⟨ao, ocap, rfl, hom⟩ := hO.shape
  unfold maxLen at hlm hom
  go_enter Try.func6, Try.ntmps6
  go_wp2_with fail
  refine (mnew_any w).mono ?_
  rintro e w1 ⟨rfl, e1⟩
  have t1 : Turn (fun _ => False) w w1 := e1 ▸ (Turn.refl _ _).alloc _
  have h1 : Met w1 w.heap.size (fun _ => 0) 0 0 0 := e1 ▸ met_new w
  clear e1
  go_wp2_with fail
  refine (mnew_any w1).mono ?_
  rintro e w2 ⟨rfl, e2⟩
  have ht2 : Turn (fun _ => False) w1 w2 := e2 ▸ (Turn.refl _ _).alloc _
  have t2 : Turn (fun _ => False) w w2 := t1.trans ht2
  have h20 := h1.kept ht2 (fun h => h)
  have h21 : Met w2 w1.heap.size (fun _ => 0) 0 0 0 := e2 ▸ met_new w1
  have hmo := h1.lt
  clear e2 ht2 t1 h1
  go_wp2_with fail
  refine (mknown_any _).mono ?_
  rintro e w3 ⟨rfl, ht3⟩
  have t3 : Turn (fun _ => False) w w3 := t2.trans ht3
  have h30 := h20.kept ht3 (fun h => h)
  have h31 := h21.kept ht3 (fun h => h)
  have hop := h31.lt
  clear ht3 t2 h20 h21
  go_wp2_with fail
  refine (pick_any kind 5 _ (by omega) (by omega)).mono ?_
  rintro e w4 ⟨rfl, rfl⟩
  have hk0 := Int.emod_nonneg kind (show (5 : Int) ≠ 0 by omega)
  have hk5 := Int.emod_lt_of_pos kind (show (0 : Int) < 5 by omega)
  obtain ⟨c, hc⟩ : ∃ c : Nat, kind % 5 = (c : Int) := ⟨(kind % 5).toNat, by omega⟩
  rw [hc]
  have hc5 : c < 5 := by omega
  clear hk0 hk5 hc
  obtain ⟨c', hc'⟩ : ∃ c' : Nat, c' = (c + 1) % 5 := ⟨_, rfl⟩
  have hc5' : c' < 5 := by omega
  have hcc : c' ≠ c := by omega
  have hcm : ((c : Int) + 1) % 5 = (c' : Int) := by omega
  have Hcm := hide hcm
  clear hcm hc'
  have hB : Adds w w3 w.heap.size w1.heap.size c c' 0 0 (.slice none 0 0) [] := ⟨⟨fun _ => 0, rfl, h30⟩, ⟨fun _ => 0, 0, (by show (0 : Int) = wrap64 0; unfold wrap64; omega), by unfold wrap64 isum; omega, rfl, h31⟩, OwnsC.nil _ _, (fun k hk => by cases hk), t3⟩
  have HD : Hid (w.heap.size < w1.heap.size) := hmo
  clear h30 h31 hmo hop t3
  go_upto_block 0 with fail
  generalize w1.heap.size = b at *
  obtain ⟨a, ha⟩ : ∃ a, a = w.heap.size := ⟨_, rfl⟩
  rw [← ha] at hB ⊢
  have HD : Hid (w.heap.size = a ∧ a < b) := ⟨ha.symm, by have := unhide HD; omega⟩
  clear ha
  go_cut [9, 10, 11, 12] from 29 to 73 (fun s m lf _ wr => ∃ (sv mv : Int) (fv : Value) (ys : List Int), ys.length ≤ 30 ∧ s = .int .i64 sv ∧ m = .int .i64 mv ∧ lf = fv ∧ Adds w wr a b c c' sv mv fv ys)
  case first =>
    go_wp2_with fail
    go_loopw [9, 10, 11, 12] (fun s m lf i wr => ∃ (k : Nat) (sv mv : Int) (fv : Value) (ys : List Int), k ≤ l.length ∧ k ≤ 30 ∧ ys.length = k ∧ s = .int .i64 sv ∧ m = .int .i64 mv ∧ lf = fv ∧ i = .int .i64 k ∧ Adds w wr a b c c' sv mv fv ys) (fun _ _ _ i _ => (30 - intOf i).toNat)
    case atStart => exact ⟨0, 0, 0, _, [], by omega, by omega, rfl, rfl, rfl, rfl, rfl, hB⟩
    case round =>
      obtain ⟨k, sv, mv, fv, ys, hk, hk30, hys, rfl, rfl, rfl, rfl, hr⟩ := hrel
      clear hB
      by_cases hlt : k < l.length ∧ k < 30
      · obtain ⟨hlt, hlt30⟩ := hlt
        have q1 : (k : Int) < l.length := by omega
        have q2 : (k : Int) < 30 := by omega
        obtain ⟨⟨ga, hga, hma⟩, ⟨gb, t, hgb, htot, hgm, hmb⟩, hfl, hnew, ht⟩ := hr
        have hLr := hL.kept ht (Nat.le_refl _) (fun _ _ h => h)
        obtain ⟨ad, rfl, hcl, hadb⟩ := hLr.at k hlt
        clear hLr
        generalize l[k] = x at *
        have Htot := hide htot
        have Hgb := hide hgb
        clear htot hgb
        go_wp2_with fail
        refine (add_in a c hc5 x ga 0 0 0 _ hma).mono ?_
        rintro e w5 ⟨rfl, hma5, t5⟩
        have HD' := unhide HD
        have hcl5 : w5.cell? (ad.add k) = some (.int .i64 x) := (t5.cell (World.block_lt_of_cell? _ _ hcl) (by rw [addr_add_block]; omega)).trans hcl
        have hmb5 := hmb.kept t5 (by omega)
        have hfl5 := hfl.kept t5 (fun k hk e => by have := hnew k hk; omega)
        replace t5 := ht.trans' t5 (fun i hi e => by omega)
        rw [hga] at hma5
        have Ha5 : Hid (∃ g : Nat → Int, g c = wrap64 (sv + x) ∧ Met w5 a g 0 0 0) := ⟨_, upd_same _ _ _, hma5⟩
        clear hma hma5 hmb hfl ht hga ga HD'
        have hcl := hcl5
        clear hcl5
        go_wp2_with fail
        rw [unhide Hcm]
        by_cases hup : mv < x
        · refine (raise_up b c' hc5' x gb (by omega) 0 0 0 _ hmb5).mono ?_
          rintro e w6 ⟨rfl, hmb6, t6⟩
          have HD' := unhide HD
          have hb6 : Hid (∃ (g : Nat → Int) (t : Int), g c = wrap64 t ∧ wrap64 (t + isum ys) = sv ∧ g c' = x ∧ Met w6 b g 0 0 0) := ⟨_, t, by rw [upd_other _ _ _ _ (fun e => hcc e.symm)]; exact unhide Hgb, unhide Htot, upd_same _ _ _, hmb6⟩
          have ha6 : Hid (∃ g : Nat → Int, g c = wrap64 (sv + x) ∧ Met w6 a g 0 0 0) := by obtain ⟨g, hg, hm⟩ := unhide Ha5; exact ⟨g, hg, hm.kept t6 (by omega)⟩
          have hcl6 : w6.cell? (ad.add k) = some (.int .i64 x) := (t6.cell (World.block_lt_of_cell? _ _ hcl) (by rw [addr_add_block]; omega)).trans hcl
          have hfl6 := hfl5.kept t6 (fun k hk e => by have := hnew k hk; omega)
          have hlt6 : Hid (b < w6.heap.size) := hmb6.lt
          replace t6 := t5.trans' t6 (fun i hi e => by omega)
          clear hmb5 hfl5 t5 Ha5 Hgb Htot hgm hmb6 HD' hcl
          have hmax : max mv x = x := by omega
          have e1 : At 3 (w6.alloc (.cells #[.int .i64 x] 3)) w6.heap.size #[.int .i64 x] := At.new _ _ _
          obtain ⟨v7, w7, hap, hfl7, hg7, hat7⟩ := run_append_ints (w6.alloc (.cells #[.int .i64 x] 3)) u11 ys (hfl6.kept (S := fun _ => False) ((Turn.refl _ _).alloc _) (fun _ _ h => h)) (.slice (some ⟨w6.heap.size, 0, none⟩) 1 1) [x] (SeesC.lit w6 [.int .i64 x] 3 (by simp [maxLen])) (by simp; omega)
          have t7 : Turn (fun k => u11.ownBlock = some k) w6 w7 := ((Turn.refl (fun k => u11.ownBlock = some k) w6).alloc _).grown hg7 (fun k hk => .inl hk)
          have hR : Adds w w7 a b c c' (wrap64 (sv + x)) x v7 (ys ++ [x]) := by
            obtain ⟨g, hg, hm⟩ := unhide ha6
            obtain ⟨g2, t2, hg2, ht2, hm2, hmm2⟩ := unhide hb6
            have hl6 := unhide hlt6
            have HD' := unhide HD
            refine ⟨⟨g, hg, hm.kept t7 (fun e => by have := hnew _ e; omega)⟩, ⟨g2, t2, hg2, ?_, hm2, hmm2.kept t7 (fun e => by have := hnew _ e; omega)⟩, hfl7, fun j hj => ?_, t6.trans' t7 (fun i hi e => by have := hnew _ e; omega)⟩
            · rw [isum_append, ← Int.add_assoc, ← wrap64_add (t2 + isum ys), ht2]
              simp [isum]
            · rcases hat7 with h | h
              · exact hnew _ (h ▸ hj)
              · rw [h] at hj
                injection hj with hj
                simp only [World.size_alloc] at hj
                omega
          have hR := hide hR
          have hap := hide hap
          have hyl : (ys ++ [x]).length = k + 1 := by simp; omega
          clear hfl6 hg7 hat7 hfl7 t7 t6 ha6 hb6 hnew e1 hlt6
          generalize ys ++ [x] = ys7 at *
          go_wp2_with (at_builtin; refine wpList_append_run rfl (.tmp 67) (.tmp 72) 37 rfl u11 (.slice (some ⟨w6.heap.size, 0, none⟩) 1 1) v7 w7 rfl rfl (unhide hap) ?_)
          go_wp2
          go_roundw
          case rel => exact ⟨k + 1, _, _, _, ys7, by omega, by omega, hyl, rfl, rfl, rfl, by go_num, unhide hR⟩
          case measure => simp [intOf]; omega
        · refine (raise_not b c' hc5' x gb (by omega) 0 0 0 _ hmb5).mono ?_
          rintro e w6 ⟨rfl, rfl⟩
          have hb6 : Hid (∃ (g : Nat → Int) (t : Int), g c = wrap64 t ∧ wrap64 (t + isum ys) = sv ∧ g c' = mv ∧ Met w5 b g 0 0 0) := ⟨_, t, unhide Hgb, unhide Htot, hgm, hmb5⟩
          have ha6 := Ha5
          have hcl6 := hcl
          have hfl6 := hfl5
          have hlt6 : Hid (b < w5.heap.size) := hmb5.lt
          have t6 := t5
          clear hmb5 hfl5 t5 Ha5 Hgb Htot hgm
          have hmax : max mv x = mv := by omega
          have e1 : At 3 (w5.alloc (.cells #[.int .i64 x] 3)) w5.heap.size #[.int .i64 x] := At.new _ _ _
          obtain ⟨v7, w7, hap, hfl7, hg7, hat7⟩ := run_append_ints (w5.alloc (.cells #[.int .i64 x] 3)) u11 ys (hfl6.kept (S := fun _ => False) ((Turn.refl _ _).alloc _) (fun _ _ h => h)) (.slice (some ⟨w5.heap.size, 0, none⟩) 1 1) [x] (SeesC.lit w5 [.int .i64 x] 3 (by simp [maxLen])) (by simp; omega)
          have t7 : Turn (fun k => u11.ownBlock = some k) w5 w7 := ((Turn.refl (fun k => u11.ownBlock = some k) w5).alloc _).grown hg7 (fun k hk => .inl hk)
          have hR : Adds w w7 a b c c' (wrap64 (sv + x)) mv v7 (ys ++ [x]) := by
            obtain ⟨g, hg, hm⟩ := unhide ha6
            obtain ⟨g2, t2, hg2, ht2, hm2, hmm2⟩ := unhide hb6
            have hl6 := unhide hlt6
            have HD' := unhide HD
            refine ⟨⟨g, hg, hm.kept t7 (fun e => by have := hnew _ e; omega)⟩, ⟨g2, t2, hg2, ?_, hm2, hmm2.kept t7 (fun e => by have := hnew _ e; omega)⟩, hfl7, fun j hj => ?_, t6.trans' t7 (fun i hi e => by have := hnew _ e; omega)⟩
            · rw [isum_append, ← Int.add_assoc, ← wrap64_add (t2 + isum ys), ht2]
              simp [isum]
            · rcases hat7 with h | h
              · exact hnew _ (h ▸ hj)
              · rw [h] at hj
                injection hj with hj
                simp only [World.size_alloc] at hj
                omega
          have hR := hide hR
          have hap := hide hap
          have hyl : (ys ++ [x]).length = k + 1 := by simp; omega
          clear hfl6 hg7 hat7 hfl7 t7 t6 ha6 hb6 hnew e1 hlt6
          generalize ys ++ [x] = ys7 at *
          go_wp2_with (at_builtin; refine wpList_append_run rfl (.tmp 67) (.tmp 72) 37 rfl u11 (.slice (some ⟨w5.heap.size, 0, none⟩) 1 1) v7 w7 rfl rfl (unhide hap) ?_)
          go_wp2
          go_roundw
          case rel => exact ⟨k + 1, _, _, _, ys7, by omega, by omega, hyl, rfl, rfl, rfl, by go_num, unhide hR⟩
          case measure => simp [intOf]; omega
      · by_cases hlt1 : k < l.length
        · have q1 : (k : Int) < l.length := by omega
          have q2 : ¬ (k : Int) < 30 := by omega
          go_wp2_with fail
          go_meet
          case rel => exact ⟨_, _, _, ys, by omega, rfl, rfl, rfl, hr⟩
        · have q1 : ¬ (k : Int) < l.length := by omega
          go_wp2_with fail
          go_meet
          case rel => exact ⟨_, _, _, ys, by omega, rfl, rfl, rfl, hr⟩
  case rest =>
    obtain ⟨sv, mv, fv, ys, hy30, rfl, rfl, rfl, hr0⟩ := hcut
    clear hB
    go_wp2_with fail
    go_loopw [11, 13, 14] (fun lf i _ wr => ∃ (n : Nat) (fv : Value) (zs : List Int), n + zs.length ≤ 30 ∧ lf = fv ∧ i = .int .i64 n ∧ Adds w wr a b c c' sv mv fv zs) (fun _ i _ _ => (31 - intOf i).toNat)
    case atStart => exact ⟨0, _, ys, by omega, rfl, rfl, hr0⟩
    case round =>
      obtain ⟨n, fv, zs, hn, rfl, rfl, hr⟩ := hrel
      clear hr0 hy30 ys
      by_cases hz : zs.length = 0
      · obtain rfl := List.eq_nil_of_length_eq_zero hz
        obtain ⟨⟨ga, hga, hma⟩, ⟨gb, t, hgb, htot, hgm, hmb⟩, hfl, hnew, ht⟩ := hr
        have hgs : gb c = sv := by rw [hgb, ← htot]; simp [isum]
        clear hgb htot
        rcases hfl.shape with ⟨rfl, _⟩ | ⟨g, cap, rfl, _⟩
        all_goals (
          go_wp2_with fail
          refine (value_is a c hc5 sv ga hga 0 0 0 _ hma).mono ?_
          rintro e w7 ⟨rfl, rfl⟩
          go_wp2_with fail
          refine (value_is b c hc5 sv gb hgs 0 0 0 _ hmb).mono ?_
          rintro e w7 ⟨rfl, rfl⟩
          go_wp2_with fail
          rw [unhide Hcm]
          refine (value_is b c' hc5' mv gb hgm 0 0 0 _ hmb).mono ?_
          rintro e w7 ⟨rfl, rfl⟩
          go_wp2
          go_ret
          exact ⟨rfl, ht⟩)
      · have hz0 : (0 : Int) < zs.length := by omega
        obtain ⟨g, cap, hfv, hcap, hcm⟩ : ∃ g cap, u11 = .slice (some ⟨g, 0, none⟩) zs.length cap ∧ zs.length ≤ cap ∧ cap ≤ maxLen := by
          have hl := i64s_length zs
          rcases hr.left.shape with ⟨_, h⟩ | ⟨g, cap, h, h1, h2⟩
          · rw [h] at hl
            simp at hl
            omega
          · exact ⟨g, cap, by rw [h, hl], by omega, h2⟩
        subst hfv
        unfold maxLen at hcm
        go_upto_if 82 with fail
        go_cut [14] from 74 to 106 (fun v wx => (∃ kk : Nat, kk < zs.length ∧ v = .int .i64 kk) ∧ wr = wx)
        case first =>
          by_cases hi : n < os.length
          · have q3 : (n : Int) < os.length := by omega
            have hOr := hO.kept hr.turn (Nat.le_refl _) (fun _ _ h => h)
            obtain ⟨ad, rfl, hc, _⟩ := hOr.at n hi
            generalize os[n] = y at *
            go_wp2_with fail
            refine (pick_any y zs.length _ (by omega) (by omega)).mono ?_
            rintro e w4 ⟨rfl, rfl⟩
            obtain ⟨kk, hkk⟩ : ∃ kk : Nat, y % (zs.length : Int) = (kk : Int) := ⟨(y % (zs.length : Int)).toNat, by have := Int.emod_nonneg y (show (zs.length : Int) ≠ 0 by omega); omega⟩
            have hkl : kk < zs.length := by have := Int.emod_lt_of_pos y hz0; omega
            rw [hkk]
            go_wp2_with fail
            go_meet
            case rel => exact ⟨⟨kk, hkl, rfl⟩, rfl⟩
          · have q3 : ¬ (n : Int) < os.length := by omega
            go_wp2_with fail
            go_meet
            case rel => exact ⟨⟨0, by omega, rfl⟩, rfl⟩
        case rest =>
          obtain ⟨⟨kk, hkk, rfl⟩, rfl⟩ := hcut
          obtain ⟨⟨ga, hga, hma⟩, ⟨gb, t, hgb, htot, hgm, hmb⟩, hfl, hnew, ht⟩ := hr
          have hkk' : (kk : Int) < zs.length := by omega
          have hx : wr.cell? ⟨g, kk, none⟩ = some (.int .i64 zs[kk]) := by
            have := World.ownsRow.cells hfl (g := g) rfl kk (.int .i64 zs[kk]) (by simp [i64s, hkk])
            rw [show (⟨g, 0, none⟩ : Addr).add kk = ⟨g, kk, none⟩ by unfold Addr.add; split <;> simp_all] at this
            exact this
          have Htot : Hid (∀ z, wrap64 (t + isum z + zs[kk]) = wrap64 (t + zs[kk] + isum z)) := fun z => by rw [Int.add_right_comm]
          have Hwo := hide (isum_without zs kk hkk)
          have Hsv := hide htot
          have Hgb := hide hgb
          clear htot hgb
          generalize zs[kk] = x at *
          go_wp2_with fail
          refine (add_in b c hc5 x gb 0 0 0 _ hmb).mono ?_
          rintro e w6 ⟨rfl, hmb6, t6⟩
          have b1 : (0 : Int) ≤ (kk : Int) := by omega
          have b2 : (kk : Int) ≤ (cap : Int) := by omega
          have b3 : (kk : Int) + 1 ≤ (zs.length : Int) := by omega
          have b4 : (zs.length : Int) ≤ (cap : Int) := by omega
          have HD' := unhide HD
          rw [unhide Hgb, wrap64_add] at hmb6
          have hgb := hnew g rfl
          have hzl := i64s_length zs
          have hfl6 : OwnsC 3 w6 (.slice (some ⟨g, 0, none⟩) zs.length cap) (i64s zs) := hfl.kept t6 (fun k hk e => by have := hnew k hk; omega)
          have tA : Turn (fun _ => False) w6 (w6.alloc (.cells #[] 3)).drew := ((Turn.refl _ w6).alloc _).drew
          have hflA := (hfl6.kept tA (fun _ _ h => h)).sees
          rw [← hzl] at hflA
          have hs1 : SeesC (w6.alloc (.cells #[] 3)).drew (.slice (some ⟨g, 0, none⟩) kk cap) (i64s (zs.take kk)) := by rw [i64s_take]; exact hflA.front kk (by omega)
          obtain ⟨v7, w7, hap7, hfl7, hg7, hat7⟩ := run_append_ints (w6.alloc (.cells #[] 3)).drew (.slice (some ⟨w6.heap.size, 0, none⟩) 0 0) [] (OwnsC.empty 3 w6).drew _ (zs.take kk) hs1 (by simp; omega)
          have hglt : g < w6.heap.size := hfl6.lt rfl
          have hob : (Value.slice (some ⟨w6.heap.size, 0, none⟩) 0 0).ownBlock = some w6.heap.size := rfl
          have t7 : Turn (fun _ => False) w6 w7 := tA.grown hg7 (fun k hk => by rw [hob] at hk; injection hk with hk; exact .inr (by omega))
          have hfl7s := (hfl6.kept t7 (fun _ _ h => h)).sees
          rw [← hzl] at hfl7s
          have hv7 : ∀ k, v7.ownBlock = some k → b < k ∧ w6.heap.size ≤ k := by
            intro k hk
            rcases hat7 with h | h
            · rw [h, hob] at hk
              injection hk with hk
              exact ⟨by omega, by omega⟩
            · rw [h] at hk
              injection hk with hk
              have : (w6.alloc (.cells #[] 3)).drew.heap.size = w6.heap.size + 1 := by show (w6.alloc (.cells #[] 3)).heap.size = _; simp
              exact ⟨by omega, by omega⟩
          have hdone : ∀ (sv2 : Value), SeesC w7 sv2 (i64s (zs.drop (kk + 1))) → ∃ v8 w8, Hid ((Builtin.append_ #[37, 37] 37 #[v7, sv2]).run Try.prog w7 = .ok v8 w8) ∧ Adds w w8 a b c c' sv mv v8 (zs.take kk ++ zs.drop (kk + 1)) := by
            intro sv2 hs2
            obtain ⟨v8, w8, hap8, hfl8, hg8, hat8⟩ := run_append_ints w7 v7 (zs.take kk) hfl7 sv2 (zs.drop (kk + 1)) hs2 (by simp; omega)
            have t8 : Turn (fun _ => False) w6 w8 := t7.grown hg8 (fun k hk => .inr (hv7 k hk).2)
            have t68 : Turn (fun j => j = b) wr w8 := t6.trans' t8 (fun _ _ h => h.elim)
            refine ⟨v8, w8, hap8, ⟨ga, hga, hma.kept t68 (by omega)⟩, ⟨_, t + x, upd_same _ _ _, ?_, ?_, hmb6.kept t8 (fun h => h)⟩, hfl8, fun k hk => ?_, ht.trans' t68 (fun i hi e => by omega)⟩
            · rw [← unhide Hsv, ← unhide Hwo]
              congr 1
              omega
            · rw [upd_other _ _ _ _ hcc]
              exact hgm
            · rcases hat8 with h | h
              · exact (hv7 k (h ▸ hk)).1
              · rw [h] at hk
                injection hk with hk
                have := t7.size
                omega
          have hap7 := hide hap7
          have hln : (zs.take kk ++ zs.drop (kk + 1)).length + 1 = zs.length := by simp; omega
          by_cases hend : cap = kk + 1
          · subst hend
            have b5 : (kk : Int) ≤ (kk : Int) + 1 := by omega
            have b6 : ((kk : Int) + 1).toNat = kk + 1 := by omega
            have b7 : (0 : Int) ≤ (kk : Int) + 1 := by omega
            have hwk : IntKind.i64.wrap ((kk : Int) + 1) = (kk : Int) + 1 := by rw [IntKind.wrap_i64]; omega
            clear b2 b4
            have hs2 : SeesC w7 (.slice (some ⟨g, 0, none⟩) 0 0) (i64s (zs.drop (kk + 1))) := by
              have := hfl7s.behind (kk + 1) (by omega) ⟨g, 0, none⟩ (.inr rfl)
              rw [← i64s_drop, hzl, show zs.length - (kk + 1) = 0 by omega, Nat.sub_self] at this
              exact this
            obtain ⟨v8, w8, hap8, hR⟩ := hdone _ hs2
            have hR := hide hR
            clear hdone hs2 hfl7s hv7 hob hfl7 hg7 hat7 t7 hs1 hflA tA hfl6 hfl hnew ht hma hmb hga hgm hmb6 Htot Hwo Hsv Hgb hx t6 HD' hgb hglt
            generalize zs.take kk ++ zs.drop (kk + 1) = zs8 at *
            go_wp2_with fail
            go_region_law (first | (refine step_append_run (by rfl) (.tmp 97) (.tmp 100) 37 (by rfl) (.slice (some ⟨w6.heap.size, 0, none⟩) 0 0) (.slice (some ⟨g, 0, none⟩) kk (kk + 1)) v7 w7 (by rfl) (by rfl) (unhide hap7) ?_) | (refine step_append_run (by rfl) (.tmp 101) (.tmp 105) 37 (by rfl) v7 (.slice (some ⟨g, 0, none⟩) 0 0) v8 w8 (by rfl) (by rfl) (unhide hap8) ?_))
            go_simp
            go_wp2
            go_roundw
            case rel => exact ⟨n + 1, _, zs8, by omega, rfl, by go_num, unhide hR⟩
            case measure => simp [intOf]; omega
          · have b6 : ((kk : Int) + 1).toNat = kk + 1 := by omega
            have b7 : (0 : Int) ≤ (kk : Int) + 1 := by omega
            have hwk : IntKind.i64.wrap ((kk : Int) + 1) = (kk : Int) + 1 := by rw [IntKind.wrap_i64]; omega
            have hs2 : SeesC w7 (.slice (some ⟨g, kk + 1, none⟩) (zs.length - (kk + 1)) (cap - (kk + 1))) (i64s (zs.drop (kk + 1))) := by
              have := hfl7s.behind (kk + 1) (by omega) ⟨g, kk + 1, none⟩ (.inl (by unfold Addr.add; split <;> simp_all))
              rw [← i64s_drop, hzl] at this
              exact this
            obtain ⟨v8, w8, hap8, hR⟩ := hdone _ hs2
            have hR := hide hR
            clear hdone hs2 hfl7s hv7 hob hfl7 hg7 hat7 t7 hs1 hflA tA hfl6 hfl hnew ht hma hmb hga hgm hmb6 Htot Hwo Hsv Hgb hx t6 HD' hgb hglt
            generalize zs.take kk ++ zs.drop (kk + 1) = zs8 at *
            go_wp2_with fail
            go_region_law (first | (refine step_append_run (by rfl) (.tmp 97) (.tmp 100) 37 (by rfl) (.slice (some ⟨w6.heap.size, 0, none⟩) 0 0) (.slice (some ⟨g, 0, none⟩) kk cap) v7 w7 (by rfl) (by rfl) (unhide hap7) ?_) | (refine step_append_run (by rfl) (.tmp 101) (.tmp 105) 37 (by rfl) v7 (.slice (some ⟨g, kk + 1, none⟩) (zs.length - (kk + 1)) (cap - (kk + 1))) v8 w8 (by rfl) (by rfl) (unhide hap8) ?_))
            go_simp
            go_wp2
            go_roundw
            case rel => exact ⟨n + 1, _, zs8, by omega, rfl, by go_num, unhide hR⟩
            case measure => simp [intOf]; omega

end Go.Proofs.Ytdfamclggeaejaa
