/- The law of laying and taking again: its walk. -/
import Derived.Test.YtppgmcgohmppbaaSteps
import Derived.RegionTactic
import Derived.Deep.RegionWith
import Derived.Deep.DeepMust
import Derived.Deep.CutRange
import Derived.Deep.CutBlock
namespace Go.Proofs.Ytppgmcgohmppbaa
open Go.RowKit

/-- What one step lays. -/
def put (x : StepD) : List UInt8 :=
  if x.what % 4 = 0 then be (x.n % 256) 1 else if x.what % 4 = 1 then be (x.n % 65536) 2 else if x.what % 4 = 2 then be x.n 8 else sh (x.bs.take 1000)

theorem put_le (x : StepD) : (put x).length ≤ 1002 := by
  unfold put
  split
  · simp [be_length]
  · split
    · simp [be_length]
    · split
      · simp [be_length]
      · simp [sh_length]; omega

/-- What the first k steps lay. -/
def puts (xs : List StepD) (k : Nat) : List UInt8 := (xs.take k).flatMap put

theorem puts_succ (xs : List StepD) (k : Nat) (hk : k < xs.length) : puts xs (k + 1) = puts xs k ++ put xs[k] := by
  unfold puts
  rw [List.take_succ_eq_append_getElem hk, List.flatMap_append]
  simp only [List.flatMap_cons, List.flatMap_nil, List.append_nil]

theorem puts_le (xs : List StepD) : ∀ k, (puts xs k).length ≤ 1002 * k
  | 0 => by simp [puts]
  | k + 1 => by
    by_cases hk : k < xs.length
    · rw [puts_succ xs k hk, List.length_append]
      have := puts_le xs k
      have := put_le xs[k]
      omega
    · have e : puts xs (k + 1) = puts xs k := by
        unfold puts
        rw [List.take_of_length_le (by omega), List.take_of_length_le (by omega)]
      have := puts_le xs k
      rw [e]
      omega

/-- What is left to take behind the first j of m steps. -/
def rest (xs : List StepD) (m j : Nat) : List UInt8 := ((xs.take m).drop j).flatMap put

theorem rest_zero (xs : List StepD) (m : Nat) : rest xs m 0 = puts xs m := rfl
theorem rest_end (xs : List StepD) (m : Nat) : rest xs m m = [] := by
  unfold rest
  rw [List.drop_of_length_le (by simp; omega)]
  rfl
theorem rest_step (xs : List StepD) (m j : Nat) (hj : j < m) (hx : j < xs.length) : rest xs m j = put xs[j] ++ rest xs m (j + 1) := by
  unfold rest
  rw [List.drop_eq_getElem_cons (show j < (xs.take m).length by simp; omega), List.flatMap_cons, List.getElem_take]

theorem put0 (x : StepD) (h : x.what % 4 = 0) : put x = be (x.n % 256) 1 := if_pos h
theorem put1 (x : StepD) (h : x.what % 4 = 1) : put x = be (x.n % 65536) 2 := by unfold put; rw [if_neg (by omega), if_pos h]
theorem put2 (x : StepD) (h : x.what % 4 = 2) : put x = be x.n 8 := by unfold put; rw [if_neg (by omega), if_neg (by omega), if_pos h]
theorem put3 (x : StepD) (h : x.what % 4 = 3) : put x = sh (x.bs.take 1000) := by unfold put; rw [if_neg (by omega), if_neg (by omega), if_neg (by omega)]

/-- Each call takes what its fellow laid. -/
theorem got0 (n : Int) (R : List UInt8) : (St.mk (be (n % 256) 1 ++ R) false).take 1 = (be (n % 256) 1, ⟨R, false⟩) := St.take_all _ _ _ _ (by simp [be_length])
theorem val0 (n : Int) : num (be (n % 256) 1) = n % 256 := by rw [num_be1]; omega
theorem got1 (n : Int) (R : List UInt8) : (St.mk (be (n % 65536) 2 ++ R) false).take 2 = (be (n % 65536) 2, ⟨R, false⟩) := St.take_all _ _ _ _ (by simp [be_length])
theorem val1 (n : Int) : num (be (n % 65536) 2) = n % 65536 := by rw [num_be2]; omega
theorem got2 (n : Int) (R : List UInt8) : (St.mk (be n 8 ++ R) false).take 8 = (be n 8, ⟨R, false⟩) := St.take_all _ _ _ _ (by simp [be_length])
theorem val2 (n : Int) (h : -9223372036854775808 ≤ n ∧ n ≤ 9223372036854775807) : num (be n 8) = n := by rw [num_be8]; unfold wrap64; omega

theorem back0 (B b : Nat) (n : Int) (R : List UInt8) (w : World) (h : RB 52 B w b ⟨be (n % 256) 1 ++ R, false⟩) (hB : B ≤ w.heap.size) :
    Calls Try.prog 31 #[.pointer (some ⟨b, 0, none⟩)] w fun e w' => e = .returned (.int .i64 (n % 256)) ∧ RBs 52 B w b ⟨R, false⟩ w' := by
  have q := ru8_B B b _ w h hB
  rw [got0, val0] at q
  exact q

theorem back1 (B b : Nat) (n : Int) (R : List UInt8) (w : World) (h : RB 52 B w b ⟨be (n % 65536) 2 ++ R, false⟩) (hB : B ≤ w.heap.size) :
    Calls Try.prog 13 #[.pointer (some ⟨b, 0, none⟩)] w fun e w' => e = .returned (.int .i64 (n % 65536)) ∧ RBs 52 B w b ⟨R, false⟩ w' := by
  have q := ru16_B B b _ w h hB
  rw [got1, val1] at q
  exact q

theorem back2 (B b : Nat) (n : Int) (R : List UInt8) (w : World) (h : RB 52 B w b ⟨be n 8 ++ R, false⟩) (hB : B ≤ w.heap.size) (hn : -9223372036854775808 ≤ n ∧ n ≤ 9223372036854775807) :
    Calls Try.prog 11 #[.pointer (some ⟨b, 0, none⟩)] w fun e w' => e = .returned (.int .i64 n) ∧ RBs 52 B w b ⟨R, false⟩ w' := by
  have q := ru64_B B b _ w h hB
  rw [got2, val2 n hn] at q
  exact q

theorem back3 (B b : Nat) (ys R : List UInt8) (w : World) (h : RB 52 B w b ⟨sh ys ++ R, false⟩) (hB : B ≤ w.heap.size) (hR : R.length ≤ 1000000) (hy : ys.length ≤ 1000) :
    Calls Try.prog 37 #[.pointer (some ⟨b, 0, none⟩)] w fun e w' => ∃ fv, e = .returned fv ∧ (Owns w' fv ys ∧ (∀ k, fv.ownBlock = some k → w.heap.size ≤ k)) ∧ RBs 52 B w b ⟨R, false⟩ w' := by
  have q := rshort_B B b _ w h hB (by simp [sh_length]; omega)
  rw [St.short_all ys R false (by omega)] at q
  exact q

theorem few_ys (v : Value) (bs ys : List UInt8) (n : Nat) (w : World) (hs : Sees w v bs) (hb : min bs.length n ≤ 140737488355328) (hy : ys = bs.take n) :
    Calls Try.prog 30 #[v, .int .i64 n] w fun e w' => ∃ v', e = .returned v' ∧ Made w v' ys w' := by
  rw [hy]
  exact few_any v bs n w hs hb

theorem rest_le (xs : List StepD) (m j : Nat) (hm : m ≤ 40) : (rest xs m j).length ≤ 1002 * 40 := by
  have h1 : ∀ l : List StepD, (l.flatMap put).length ≤ 1002 * l.length := by
    intro l
    induction l with
    | nil => simp
    | cons x l ih =>
      simp only [List.flatMap_cons, List.length_append, List.length_cons]
      have := put_le x
      omega
  have h2 := h1 ((xs.take m).drop j)
  have h3 : ((xs.take m).drop j).length ≤ 40 := by simp; omega
  unfold rest
  omega

set_option maxHeartbeats 8000000 in
set_option maxRecDepth 100000 in
theorem back_any (ab off cap : Nat) (xs : List StepD) (w : World) (h : StepsAt w w.heap.size ab off cap xs) (hl : (xs.length : Int) ≤ 9223372036854775807) :
    Calls Try.prog 6 #[.slice (some ⟨ab, off, none⟩) xs.length cap] w fun e w' => e = .returned (.bool true) ∧ Below w.heap.size w w' := by
  go_enter Try.func6, Try.ntmps6
  go_wp2_with fail
  refine (newWriter_any w).mono ?_
  rintro e w2 ⟨rfl, rfl⟩
  go_wp2_with fail
  refine (known_any _).mono ?_
  rintro e w3 ⟨rfl, ht3⟩
  have hw3 : WB 54 w.heap.size w3 w.heap.size [] := ⟨_, (WAt.new 54 w).kept ht3 (fun h => h) (fun _ _ h => h), Nat.le_refl _, fun k hk => by simp [Value.ownBlock] at hk⟩
  have t3 : Below w.heap.size w w3 := ((Turn.refl (fun _ => False) _).alloc _ |>.trans ht3).below (Nat.le_refl _) (fun _ _ h => h)
  obtain ⟨B, hB⟩ : ∃ B, B = w.heap.size := ⟨_, rfl⟩
  rw [← hB] at hw3 t3 h ⊢
  have HB := hide (Nat.le_of_eq hB)
  have HBe := hide hB
  clear hB ht3
  go_upto_block 0 with fail
  go_cut [4] from 15 to 67 (fun i w1 => ∃ m : Nat, m ≤ xs.length ∧ m ≤ 40 ∧ (m = xs.length ∨ (m = 40 ∧ m < xs.length)) ∧ i = .int .i64 m ∧ WB 54 B w1 B (puts xs m) ∧ Below B w w1)
  case first =>
    go_wp2_with fail
    go_loopw [4] (fun i w1 => ∃ k : Nat, k ≤ xs.length ∧ k ≤ 40 ∧ i = .int .i64 k ∧ WB 54 B w1 B (puts xs k) ∧ Below B w w1) (fun i _ => 40 - (intOf i).toNat)
    case atStart => exact ⟨0, Nat.zero_le _, Nat.zero_le _, rfl, hw3, t3⟩
    case round =>
      obtain ⟨k, hk1, hk2, rfl, hwb, hbl⟩ := hrel
      clear hw3 t3
      by_cases hlt : k < xs.length ∧ k < 40
      · obtain ⟨hlt, hlt2⟩ := hlt
        have hs := h.later hbl
        have c0 := hs.c0 k hlt
        have c1 := hs.c1 k hlt
        have c2 := hs.c2 k hlt
        have hlt3 : (k : Int) < 40 := by omega
        have hpl := puts_le xs k
        obtain ⟨v, hw, _, hvB⟩ := hwb
        have hBr : B ≤ wr.heap.size := Nat.le_trans (unhide HB) hbl.size
        have hsees := hide (hs.sees k hlt)
        have hslab := hide (hs.slabs k hlt)
        have hps := hide (puts_succ xs k hlt)
        clear hs
        generalize xs[k] = x at *
        have h03 : x.what % 4 = 0 ∨ x.what % 4 = 1 ∨ x.what % 4 = 2 ∨ x.what % 4 = 3 := by omega
        go_wp2_with fail
        refine (pick_any x.what 4 wr (by omega) (by omega)).mono ?_
        rintro e w4 ⟨rfl, rfl⟩
        rcases h03 with hm | hm | hm | hm
        · have hpu := hide (put0 x hm)
          rw [hm]
          clear hm c0 c2
          go_wp2_with fail
          refine (pick_any x.n 256 wr (by omega) (by omega)).mono ?_
          rintro e w4 ⟨rfl, rfl⟩
          go_wp2_with fail
          refine (u8_any B v _ (x.n % 256) wr hw (by omega)).mono ?_
          rintro e w5 ⟨rfl, v5, hst⟩
          have hfin := WB.step (Nat.le_refl B) hvB hBr hst
          clear hst hw hvB
          go_wp2
          refine ⟨⟨k + 1, by omega, by omega, by go_num, ?_, hbl.trans hfin.2⟩, by simp [intOf]; omega⟩
          rw [unhide hps, unhide hpu]
          exact hfin.1
        · have hpu := hide (put1 x hm)
          rw [hm]
          clear hm c0 c2
          go_wp2_with fail
          refine (pick_any x.n 65536 wr (by omega) (by omega)).mono ?_
          rintro e w4 ⟨rfl, rfl⟩
          go_wp2_with fail
          refine (u16_any B v _ (x.n % 65536) wr hw (by omega)).mono ?_
          rintro e w5 ⟨rfl, v5, hst⟩
          have hfin := WB.step (Nat.le_refl B) hvB hBr hst
          clear hst hw hvB
          go_wp2
          refine ⟨⟨k + 1, by omega, by omega, by go_num, ?_, hbl.trans hfin.2⟩, by simp [intOf]; omega⟩
          rw [unhide hps, unhide hpu]
          exact hfin.1
        · have hpu := hide (put2 x hm)
          rw [hm]
          clear hm c0 c2
          go_wp2_with fail
          refine (u64_any B v _ x.n wr hw (by omega)).mono ?_
          rintro e w5 ⟨rfl, v5, hst⟩
          have hfin := WB.step (Nat.le_refl B) hvB hBr hst
          clear hst hw hvB
          go_wp2
          refine ⟨⟨k + 1, by omega, by omega, by go_num, ?_, hbl.trans hfin.2⟩, by simp [intOf]; omega⟩
          rw [unhide hps, unhide hpu]
          exact hfin.1
        · have hpu := hide (put3 x hm)
          rw [hm]
          clear hm c0 c1
          obtain ⟨ao, cb, hbv⟩ := (unhide hsees).shape
          rw [hbv] at c2 hsees
          clear hbv
          go_wp2_with fail
          refine (few_any _ x.bs 1000 wr (unhide hsees) (by omega)).mono ?_
          rintro e w4 ⟨fv, rfl, hown, htn, hfr⟩
          have hw4 := hw.kept htn (fun h => h) (fun _ _ h => h)
          have hap : Apart B v fv := fun j hj => by
            rw [hown.slab_eq] at hj
            have h1 := hfr j hj
            have h2 := hw.1.lt
            exact ⟨by omega, fun e => by have := hw.2.1.lt e; omega⟩
          have hsee4 := hown.sees
          have ht4 : Below B wr w4 := htn.below hBr (fun _ _ h => h)
          have hB4 : B ≤ w4.heap.size := Nat.le_trans hBr ht4.size
          clear hown htn hfr hw
          go_wp2_with fail
          refine (short_yes B v fv _ _ w4 hw4 hsee4 (fun _ => hap) (by simp; omega) (by simp; omega)).mono ?_
          rintro e w5 ⟨rfl, v5, hst⟩
          have hfin := WB.step (Nat.le_refl B) hvB hB4 hst
          have hfin2 := ht4.trans hfin.2
          clear hst hw4 hvB hap hsee4
          go_wp2
          refine ⟨⟨k + 1, by omega, by omega, by go_num, ?_, hbl.trans hfin2⟩, by simp [intOf]; omega⟩
          rw [unhide hps, unhide hpu]
          exact hfin.1
      · have hend : k = xs.length ∨ (k = 40 ∧ k < xs.length) := by omega
        have Hend := hide hend
        clear hlt
        have hend' : xs.length ≤ k ∨ (40 ≤ k ∧ k < xs.length) := by omega
        clear hend
        rcases hend' with hd | ⟨hd, hd2⟩
        all_goals
          go_wp2_with fail
          go_meet
          case rel => exact ⟨k, hk1, hk2, unhide Hend, rfl, hwb, hbl⟩
  case rest =>
    obtain ⟨m, hk1, hk2, hend, rfl, hwb, hbl⟩ := hcut
    have Hend := hide hend
    clear hend hw3 t3
    have hpl := puts_le xs m
    obtain ⟨v, hw, _, hvB⟩ := hwb
    have hBr : B ≤ wc.heap.size := Nat.le_trans (unhide HB) hbl.size
    have hstep : Calls Try.prog 17 #[.pointer (some ⟨B, 0, none⟩)] wc fun e w' => ∃ v', e = .returned v' ∧ Sees w' v' (puts xs m) ∧ Below B wc w' ∧ B ≤ w'.heap.size := (bytes_any B v _ wc hw (by omega)).mono (by
      rintro e w' ⟨v', rfl, ho, hg, _⟩
      have htt := (turn_of_grown hg).below hBr (fun _ _ h => h)
      exact ⟨_, rfl, ho.sees, htt, Nat.le_trans hBr htt.size⟩)
    have Hstep := hide hstep
    clear hstep hw hvB
    go_wp2_with fail
    refine (unhide Hstep).mono ?_
    clear Hstep
    rintro e w6 ⟨bv, rfl, hsee, hb6, hB6⟩
    go_wp2_with fail
    refine (newReader_any bv _ w6 hsee (by omega)).mono ?_
    rintro e w7 ⟨rb, rfl, rv, hr7, hrb, _, ht7⟩
    have hR7 : RB 52 B w7 rb ⟨rest xs m 0, false⟩ := ⟨rv, hr7, by omega⟩
    have hb7 : Below B w w7 := (hbl.trans hb6).trans (ht7.below hB6 (fun _ _ h => h))
    clear hr7 ht7 hsee hb6 hB6 hrb hbl hBr
    go_wp2_with fail
    go_loopw [6] (fun i w1 => ∃ j : Nat, j ≤ m ∧ i = .int .i64 j ∧ RB 52 B w1 rb ⟨rest xs m j, false⟩ ∧ Below B w w1) (fun i _ => m - (intOf i).toNat)
    case atStart => exact ⟨0, Nat.zero_le _, rfl, hR7, hb7⟩
    case round =>
      obtain ⟨j, hj, rfl, hR, hbj⟩ := hrel
      clear hR7 hb7
      by_cases hjm : j < m
      · have hjl : j < xs.length := by omega
        have hj40 : (j : Int) < 40 := by omega
        have hs := h.later hbj
        have c0 := hs.c0 j hjl
        have c1 := hs.c1 j hjl
        have c2 := hs.c2 j hjl
        have hab := hs.lt (by omega)
        have hBr : B ≤ wr.heap.size := Nat.le_trans (unhide HB) hbj.size
        have hsees := hide (hs.sees j hjl)
        have hslab := hide (hs.slabs j hjl)
        have hwf := hide (hs.wf j hjl)
        have hre := rest_step xs m j hjm hjl
        have hrl := hide (rest_le xs m (j + 1) hk2)
        clear hs
        generalize xs[j] = x at *
        rw [hre] at hR
        clear hre
        have h03 : x.what % 4 = 0 ∨ x.what % 4 = 1 ∨ x.what % 4 = 2 ∨ x.what % 4 = 3 := by omega
        go_wp2_with fail
        refine (pick_any x.what 4 wr (by omega) (by omega)).mono ?_
        rintro e w8 ⟨rfl, rfl⟩
        rcases h03 with hm | hm | hm | hm
        · rw [put0 x hm] at hR
          have Q := hide (back0 B rb x.n _ wr.drew hR.drew hBr)
          rw [hm]
          clear hm c0 c2
          go_wp2_with fail
          go_region_with (first
            | (go_at_call 31; refine (unhide Q).mono ?_; rintro e w9 ⟨rfl, hR9, hb9, hB9, ht9⟩; have c9 : w9.cell? ⟨ab, off + j * 3 + 1, none⟩ = some (.int .i64 x.n) := (hb9.cell (p := ⟨ab, off + j * 3 + 1, none⟩) hab).trans c1)
            | (go_at_call 18; refine (pick_any x.n 256 _ (by omega) (by omega)).mono ?_; rintro e w9 ⟨rfl, rfl⟩))
          all_goals
            go_wp2
            refine ⟨⟨j + 1, by omega, by go_num, hR9, hbj.drew.trans hb9⟩, by simp [intOf]; omega⟩
        · rw [put1 x hm] at hR
          have Q := hide (back1 B rb x.n _ wr.drew hR.drew hBr)
          rw [hm]
          clear hm c0 c2
          go_wp2_with fail
          go_region_with (first
            | (go_at_call 13; refine (unhide Q).mono ?_; rintro e w9 ⟨rfl, hR9, hb9, hB9, ht9⟩; have c9 : w9.cell? ⟨ab, off + j * 3 + 1, none⟩ = some (.int .i64 x.n) := (hb9.cell (p := ⟨ab, off + j * 3 + 1, none⟩) hab).trans c1)
            | (go_at_call 18; refine (pick_any x.n 65536 _ (by omega) (by omega)).mono ?_; rintro e w9 ⟨rfl, rfl⟩))
          all_goals
            go_wp2
            refine ⟨⟨j + 1, by omega, by go_num, hR9, hbj.drew.trans hb9⟩, by simp [intOf]; omega⟩
        · rw [put2 x hm] at hR
          have Q := hide (back2 B rb x.n _ wr.drew hR.drew hBr (unhide hwf))
          rw [hm]
          clear hm c0 c2
          go_wp2_with fail
          go_region_with ((go_at_call 11; refine (unhide Q).mono ?_; rintro e w9 ⟨rfl, hR9, hb9, hB9, ht9⟩; have c9 : w9.cell? ⟨ab, off + j * 3 + 1, none⟩ = some (.int .i64 x.n) := (hb9.cell (p := ⟨ab, off + j * 3 + 1, none⟩) hab).trans c1))
          all_goals
            go_wp2
            refine ⟨⟨j + 1, by omega, by go_num, hR9, hbj.drew.trans hb9⟩, by simp [intOf]; omega⟩
        · rw [put3 x hm] at hR
          obtain ⟨ys, hys⟩ : ∃ ys, ys = x.bs.take 1000 := ⟨_, rfl⟩
          have hyl : ys.length ≤ 1000 := by rw [hys]; simp; omega
          rw [← hys] at hR
          have Hys := hide hys
          clear hys
          have hR' := hR.drew
          rw [hm]
          clear hm c0 c1
          obtain ⟨ao, cb, hbv⟩ := (unhide hsees).shape
          rw [hbv] at c2 hsees
          have hslab' : 0 < x.bs.length → ∀ i, slab (.slice ao x.bs.length cb) = some i → i < B := hbv ▸ unhide hslab
          have hrb : rb < wr.heap.size := by obtain ⟨_, hv, _⟩ := hR; exact hv.1.lt
          have Hslab := hide hslab'
          clear hbv hslab hslab' hR
          go_wp2_with fail
          go_region_with (first
            | (go_at_call 37
               go_must (
                 refine (back3 B rb ys (rest xs m (j + 1)) _ ?hr ?hB ?h47 hyl).mono ?_
                 case hr => first | exact hRF | exact hR'
                 case hB => first | exact hBF | exact hBr
                 case h47 => exact Nat.le_trans (unhide hrl) (by omega)
                 rintro e wS ⟨sv, rfl, ⟨hoS, hfS⟩, hRS, hbS, hBS, htS⟩
                 have hcvS := run_text_of_sees (P := Try.prog) wS 24 9 Try.underlying24 Try.underlying5 Try.underlying9 hoS.sees
                 first
                   | (have hcvF2 := run_text_of_sees (P := Try.prog) wS 24 9 Try.underlying24 Try.underlying5 Try.underlying9 (hoF.kept htS (fun i hi e => by have := hfF i hi; have : wr.drew.heap.size = wr.heap.size := rfl; omega)).sees
                      have hbfin := hbF.trans hbS
                      have hRfin := hRS)
                   | (have cS : wS.cell? ⟨ab, off + j * 3 + 2, none⟩ = some (.slice ao x.bs.length cb) := (hbS.cell (p := ⟨ab, off + j * 3 + 2, none⟩) hab).trans c2
                      have hseeS : Sees wS (.slice ao x.bs.length cb) x.bs := (unhide hsees).drew.below (unhide Hslab) hbS)
                 obtain ⟨aoS, cpS, rfl⟩ := hoS.shape))
            | (go_at_call 30
               go_must (
                 refine (few_ys (.slice ao x.bs.length cb) x.bs ys 1000 _ ?hs (by omega) (unhide Hys)).mono ?_
                 case hs => first | exact hseeS | exact (unhide hsees).drew
                 rintro e wF ⟨fv, rfl, hoF, htF, hfF⟩
                 have hcvF := run_text_of_sees (P := Try.prog) wF 24 9 Try.underlying24 Try.underlying5 Try.underlying9 hoF.sees
                 first
                   | (have hcvS2 := run_text_of_sees (P := Try.prog) wF 24 9 Try.underlying24 Try.underlying5 Try.underlying9 (hoS.kept htF (fun _ _ h => h)).sees
                      have hbfin := hbS.trans (htF.below hBS (fun _ _ h => h))
                      have hRfin := hRS.kept htF (fun _ h => h))
                   | (have hRF := hR'.kept htF (fun _ h => h)
                      have hbF : Below B wr.drew wF := htF.below hBr (fun _ _ h => h)
                      have hBF : B ≤ wF.heap.size := Nat.le_trans hBr hbF.size)
                 obtain ⟨aoF, cpF, rfl⟩ := hoF.shape)))
          all_goals
            go_wp2
            refine ⟨⟨j + 1, by omega, by go_num, hRfin, hbj.drew.trans hbfin⟩, by simp [intOf]; omega⟩
      · have hend := unhide Hend
        obtain rfl : j = m := by omega
        rw [rest_end] at hR
        obtain ⟨v8, hv8, hb8⟩ := hR
        have hend' : xs.length ≤ j ∨ (40 ≤ j ∧ j < xs.length) := by omega
        clear hend
        rcases hend' with hd | ⟨hd, hd2⟩
        all_goals
          go_wp2_with fail
          refine (left_any rb v8 _ wr hv8).mono ?_
          rintro e w9 ⟨rfl, rfl⟩
          go_wp2_with fail
          refine (lack_any rb v8 _ wr hv8).mono ?_
          rintro e w9 ⟨rfl, rfl⟩
          go_wp2
          go_ret
          exact ⟨rfl, unhide HBe ▸ hbj⟩

end Go.Proofs.Ytppgmcgohmppbaa
