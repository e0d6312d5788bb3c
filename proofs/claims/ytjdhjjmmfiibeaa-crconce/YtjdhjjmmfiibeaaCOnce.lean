/- Two tables know nothing of one another: the law's walk. -/
import Derived.Test.YtjdhjjmmfiibeaaCKnown
import Derived.Test.YtjdhjjmmfiibeaaLists
import Derived.Deep.RegionWith
import Derived.Deep.DeepMust
import Derived.Deep.CutRange
import Derived.BigQuiet
import Derived.Deep.QuietTactic
namespace Go.Proofs.Ytjdhjjmmfiibeaa
open Go.RowKit

/-- How often, of whether. -/
def cnt (u : Bool) : Int := if u then 1 else 0

/-- Two tables, the array that leads to them, and the array of what was counted. -/
structure Both (w wr : World) (b0 b1 bt bm : Nat) (m0 m1 : Bool) : Prop where
  t0 : Tab wr b0 m0
  t1 : Tab wr b1 m1
  arr : At 31 wr bt #[.pointer (some ⟨b0, 0, none⟩), .pointer (some ⟨b1, 0, none⟩)]
  made : At 32 wr bm #[.int .i64 (cnt m0), .int .i64 (cnt m1)]
  turn : Turn (fun _ => False) w wr

theorem Both.used0 {w wr w5 : World} {b0 b1 bt bm : Nat} {m0 m1 : Bool} (h : Both w wr b0 b1 bt bm m0 m1) (hd : w.heap.size = b0 ∧ b0 < b1 ∧ b1 < bt ∧ bt < bm) (h5 : Tab w5 b0 true) (t5 : Turn (fun j => j = b0) wr w5) :
    Both w (w5.setCell ⟨bm, 0, none⟩ (.int .i64 1)) b0 b1 bt bm true m1 := by
  have t6 : Turn (fun j => j = bm) w5 (w5.setCell ⟨bm, 0, none⟩ (.int .i64 1)) := (Turn.refl (fun j => j = bm) w5).setCell (p := ⟨bm, 0, none⟩) (.inl rfl) _
  refine ⟨h5.kept t6 (by omega), (h.t1.kept t5 (by omega)).kept t6 (by omega), (h.arr.kept t5 (by omega)).kept t6 (by omega), ?_, (h.turn.trans' t5 (fun i hi e => by omega)).trans' t6 (fun i hi e => by omega)⟩
  have := (h.made.kept t5 (by omega)).set 0 (.int .i64 1)
  simpa [cnt] using this

theorem Both.used1 {w wr w5 : World} {b0 b1 bt bm : Nat} {m0 m1 : Bool} (h : Both w wr b0 b1 bt bm m0 m1) (hd : w.heap.size = b0 ∧ b0 < b1 ∧ b1 < bt ∧ bt < bm) (h5 : Tab w5 b1 true) (t5 : Turn (fun j => j = b1) wr w5) :
    Both w (w5.setCell ⟨bm, 1, none⟩ (.int .i64 1)) b0 b1 bt bm m0 true := by
  have t6 : Turn (fun j => j = bm) w5 (w5.setCell ⟨bm, 1, none⟩ (.int .i64 1)) := (Turn.refl (fun j => j = bm) w5).setCell (p := ⟨bm, 1, none⟩) (.inl rfl) _
  refine ⟨(h.t0.kept t5 (by omega)).kept t6 (by omega), h5.kept t6 (by omega), (h.arr.kept t5 (by omega)).kept t6 (by omega), ?_, (h.turn.trans' t5 (fun i hi e => by omega)).trans' t6 (fun i hi e => by omega)⟩
  have := (h.made.kept t5 (by omega)).set 1 (.int .i64 1)
  simpa [cnt] using this

theorem turn_drewN (w : World) (n : Nat) : Turn (fun _ => False) w (w.drewN n) := ⟨rfl, rfl, rfl, Nat.le_refl _, fun _ _ _ => rfl⟩
theorem Sees.drewN {w : World} {v : Value} {bs : List UInt8} (h : Sees w v bs) (n : Nat) : Sees (w.drewN n) v bs := h

theorem Tab.drewN {w : World} {b : Nat} {u : Bool} (h : Tab w b u) (n : Nat) : Tab (w.drewN n) b u := h.kept (turn_drewN w n) (fun h => h)

theorem Both.drewN {w wr : World} {b0 b1 bt bm : Nat} {m0 m1 : Bool} (h : Both w wr b0 b1 bt bm m0 m1) (n : Nat) : Both w (wr.drewN n) b0 b1 bt bm m0 m1 :=
  ⟨h.t0.drewN n, h.t1.drewN n, h.arr.kept (turn_drewN wr n) (fun h => h), h.made.kept (turn_drewN wr n) (fun h => h), h.turn.trans (turn_drewN wr n)⟩

theorem made_same (b : Nat) (u : Bool) (w : World) (h : Tab w b u) : Calls Try.prog 10 #[.pointer (some ⟨b, 0, none⟩)] w fun e w' => e = .returned (.int .i64 (cnt u)) ∧ w' = w :=
  (made_any b u w h).mono fun _ _ h => ⟨h.1, h.2.symm⟩

theorem sum_same (b : Nat) (v : Value) (bs : List UInt8) (w : World) (h : Tab w b true) (hs : Sees w v bs) (hsl : 0 < bs.length → slab v ≠ some b) :
    Calls Try.prog 9 #[.pointer (some ⟨b, 0, none⟩), v] w fun e w' => e = .returned (.int .u32 (csum bs)) ∧ w' = w :=
  (sum_again b v bs w h hs hsl).mono fun _ _ h => ⟨h.1, h.2.symm⟩

set_option maxHeartbeats 4000000 in
set_option maxRecDepth 100000 in
theorem crcOnce_any (lv fv : Value) (l : List (Value × List UInt8)) (fl : List Bool) (w : World) (hL : ListAt w w.heap.size lv l) (hF : FlagsAt w w.heap.size fv fl) :
    Calls Try.prog 4 #[lv, fv] w fun e w' => e = .returned (.bool true) ∧ Turn (fun _ => False) w w' := by
  have hnot : ∀ (x : Bool) (w : World), (Op.unary .not (.bool x)).run Try.prog w = .ok (.bool (!x)) w := fun _ _ => rfl
  obtain ⟨al, lcap, rfl, hlm⟩ := hL.shape
  obtain ⟨af, fcap, rfl, hfm⟩ := hF.shape
  unfold maxLen at hlm hfm
  go_enter Try.func4, Try.ntmps4
  go_wp2_with fail
  refine (new_any w).mono ?_
  rintro e w1 ⟨rfl, e1⟩
  have t1 : Turn (fun _ => False) w w1 := e1 ▸ (Turn.refl _ _).alloc _
  have h1 : Tab w1 w.heap.size false := e1 ▸ Tab.new w
  have s1 : w1.heap.size = w.heap.size + 1 := by rw [e1]; simp
  clear e1
  go_wp2_with fail
  refine (new_any w1).mono ?_
  rintro e w2 ⟨rfl, e2⟩
  have ht2 : Turn (fun _ => False) w1 w2 := e2 ▸ (Turn.refl _ _).alloc _
  have t2 : Turn (fun _ => False) w w2 := t1.trans ht2
  have h20 : Tab w2 w.heap.size false := h1.kept ht2 (fun h => h)
  have h21 : Tab w2 w1.heap.size false := e2 ▸ Tab.new w1
  have s2 : w2.heap.size = w1.heap.size + 1 := by rw [e2]; simp
  clear e2 ht2 t1 h1
  go_wp2_with fail
  refine (crcExample_any _).mono ?_
  rintro e w3 ⟨rfl, ht3⟩
  have ht3' : Turn (fun _ => False) w2 w3 := ((Turn.refl (fun _ => False) w2).alloc _).trans ht3
  have t3 : Turn (fun _ => False) w w3 := t2.trans ht3'
  have h30 := h20.kept ht3' (fun h => h)
  have h31 := h21.kept ht3' (fun h => h)
  have h3a := (At.new 31 w2 #[.pointer (some ⟨w.heap.size, 0, none⟩), .pointer (some ⟨w.heap.size + 1, 0, none⟩)]).kept ht3 (fun h => h)
  have hbm : w2.heap.size < w3.heap.size := h3a.lt
  rw [s2, s1] at h3a hbm
  rw [s1] at h31
  clear ht3 ht3' t2 h20 h21 s2 s1
  obtain ⟨b0, hb0⟩ : ∃ b0, b0 = w.heap.size := ⟨_, rfl⟩
  obtain ⟨b1, hb1⟩ : ∃ b1, b1 = b0 + 1 := ⟨_, rfl⟩
  obtain ⟨bt, hbt⟩ : ∃ bt, bt = b1 + 1 := ⟨_, rfl⟩
  rw [← hb0, ← hb1] at h31 h3a hbm ⊢
  rw [← hb0] at h30
  rw [← hbt] at h3a hbm ⊢
  have HD : Hid (w.heap.size = b0 ∧ b0 < b1 ∧ b1 < bt ∧ bt < w3.heap.size) := ⟨by omega, by omega, by omega, hbm⟩
  clear hb0 hb1 hbt hbm
  have c0 : w3.cell? ⟨bt, 0, none⟩ = some (.pointer (some ⟨b0, 0, none⟩)) := by rw [h3a.cell]; rfl
  have c1 : w3.cell? ⟨bt, 1, none⟩ = some (.pointer (some ⟨b1, 0, none⟩)) := by rw [h3a.cell]; rfl
  have hB : Both w (w3.alloc (.cells #[.int .i64 0, .int .i64 0] 32)) b0 b1 bt w3.heap.size false false :=
    have tt : Turn (fun _ => False) w3 (w3.alloc (.cells #[.int .i64 0, .int .i64 0] 32)) := (Turn.refl _ _).alloc _
    ⟨h30.kept tt (fun h => h), h31.kept tt (fun h => h), h3a.kept tt (fun h => h), At.new _ _ _, t3.trans tt⟩
  clear h30 h31 h3a
  go_wp2_with fail
  generalize w3.heap.size = bm at *
  generalize w3.alloc (.cells #[.int .i64 0, .int .i64 0] 32) = w4 at *
  clear c0 c1
  go_loopw [7, 8, 9, 4] (fun i _ _ _ wr => ∃ (k : Nat) (m0 m1 : Bool), k ≤ l.length ∧ k ≤ 12 ∧ i = .int .i64 k ∧ Both w wr b0 b1 bt bm m0 m1) (fun i _ _ _ _ => (12 - intOf i).toNat)
  case atStart => exact ⟨0, false, false, by omega, by omega, rfl, hB⟩
  case round =>
    obtain ⟨k, m0, m1, hk, hk12, rfl, hr⟩ := hrel
    clear hB
    by_cases hlt : k < l.length ∧ k < 12
    · obtain ⟨hlt, hlt12⟩ := hlt
      have q1 : (k : Int) < l.length := by omega
      have q2 : (k : Int) < 12 := by omega
      go_upto_region 9 with fail
      go_cut [44] from 25 to 80 (fun c wx => (∃ f : Bool, c = .bool f) ∧ wr = wx)
      case first =>
        by_cases hf : k < fl.length
        · have q3 : (k : Int) < fl.length := by omega
          have hFr := hF.kept hr.turn (Nat.le_refl _) (fun _ _ h => h)
          obtain ⟨a, rfl, hc⟩ := hFr.at k hf
          go_wp2_with fail
          go_meet
          case rel => exact ⟨⟨_, rfl⟩, rfl⟩
        · have q3 : ¬ (k : Int) < fl.length := by omega
          go_wp2_with fail
          go_meet
          case rel => exact ⟨⟨_, rfl⟩, rfl⟩
      case rest =>
        obtain ⟨⟨f, rfl⟩, rfl⟩ := hcut
        have hLr := hL.kept hr.turn (Nat.le_refl _) (fun _ _ h => h)
        obtain ⟨a, rfl, hc, hsk, hslk, hab⟩ := hLr.at k hlt
        have hcd : wr.drew.cell? (a.add k) = some l[k].1 := hc
        have hsd : Sees wr.drew l[k].1 l[k].2 := hsk
        obtain ⟨ak, capk, ek⟩ := hsk.shape
        rw [ek] at hcd hsd hslk
        clear hLr hc hsk ek
        cases f with
        | false =>

          have hk5 : Hid (¬ a.block = b0 ∧ a.block < wr.heap.size) := ⟨by have := unhide HD; omega, by have := hr.turn.size; omega⟩
          have hslb : 0 < l[k].2.length → slab (.slice ak l[k].2.length capk) ≠ some b0 := fun h0 e => by have := hslk h0 _ e; have := unhide HD; omega
          have cA : wr.drew.cell? ⟨bt, 0, none⟩ = some (.pointer (some ⟨b0, 0, none⟩)) := by show wr.cell? _ = _; rw [hr.arr.cell]; rfl
          have hT : Tab wr.drew b0 m0 := hr.t0.kept (S := fun _ => False) (Turn.refl _ _).drew (fun h => h)
          go_upto_region 11 with fail
          go_cut [9] from 25 to 80 (fun x wx => ∃ sk : Nat, x = .int .u32 (sk : Int) ∧ Hid (csum l[k].2 = sk) ∧ Tab wx b0 true ∧ Turn (fun j => j = b0) wr.drew wx)
          case first =>
            go_region_with (go_at_call 9; go_must (refine (sum_any b0 _ l[k].2 m0 _ hT hsd hslb).mono ?_; rintro e w5 ⟨rfl, h5, t5⟩))
            all_goals (
              go_wp2_with fail
              go_meet
              case rel => exact ⟨_, rfl, rfl, h5, t5⟩)
          case rest =>
            obtain ⟨sk, rfl, hsk, h5, t5⟩ := hcut
            generalize wc = w5 at *
            have t5' : Turn (fun j => j = b0) wr w5 := (Turn.refl (fun j => j = b0) wr).drew.trans t5
            have hB5 : Both w (w5.setCell ⟨bm, 0, none⟩ (.int .i64 1)) b0 b1 bt bm true m1 := hr.used0 (unhide HD) h5 t5'
            have hc5 : w5.cell? (a.add k) = some (.slice ak l[k].2.length capk) := (t5'.cell (by rw [addr_add_block]; exact (unhide hk5).2) (by rw [addr_add_block]; exact (unhide hk5).1)).trans hcd
            have hs5 : Sees w5 (.slice ak l[k].2.length capk) l[k].2 := hsd.kept' t5 (fun h0 j hj e => hslb h0 (e ▸ hj))
            have hcm : w5.cell? ⟨bm, 0, none⟩ = some (.int .i64 (cnt m0)) := by rw [(hr.made.kept t5' (by have := unhide HD; omega)).cell]; rfl
            have hfm : w5.frozen? ⟨bm, 0, none⟩ = false := (hr.made.kept t5' (by have := unhide HD; omega)).frozen _
            have t6 : Turn (fun j => j = bm) w5 (w5.setCell ⟨bm, 0, none⟩ (.int .i64 1)) := (Turn.refl (fun j => j = bm) w5).setCell (p := ⟨bm, 0, none⟩) (.inl rfl) _
            have hc6 : (w5.setCell ⟨bm, 0, none⟩ (.int .i64 1)).cell? (a.add k) = some (.slice ak l[k].2.length capk) := (t6.cell (World.block_lt_of_cell? _ _ hc5) (by rw [addr_add_block]; have := unhide HD; omega)).trans hc5
            have hs6 : Sees (w5.setCell ⟨bm, 0, none⟩ (.int .i64 1)) (.slice ak l[k].2.length capk) l[k].2 := hs5.kept' t6 (fun h0 j hj e => by have := hslk h0 j hj; have := unhide HD; omega)
            clear hc5 hs5 t5 t5' h5 hT cA hsd hcd
            go_upto_region 13 with fail
            generalize w5.setCell ⟨bm, 0, none⟩ (.int .i64 1) = w6 at *
            clear hcm hfm t6
            have d0 : w6.cell? ⟨bt, 0, none⟩ = some (.pointer (some ⟨b0, 0, none⟩)) := by rw [hB5.arr.cell]; rfl
            have d1 : w6.cell? ⟨bt, 1, none⟩ = some (.pointer (some ⟨b1, 0, none⟩)) := by rw [hB5.arr.cell]; rfl
            have d2 : w6.cell? ⟨bm, 0, none⟩ = some (.int .i64 (cnt true)) := by rw [hB5.made.cell]; rfl
            have d3 : w6.cell? ⟨bm, 1, none⟩ = some (.int .i64 (cnt m1)) := by rw [hB5.made.cell]; rfl
            have k0 : ∀ n, Calls Try.prog 10 #[.pointer (some ⟨b0, 0, none⟩)] (w6.drewN n) fun e w' => e = .returned (.int .i64 (cnt true)) ∧ w' = w6.drewN n := fun n => made_same b0 true _ (hB5.t0.drewN n)
            have k1 : ∀ n, Calls Try.prog 10 #[.pointer (some ⟨b1, 0, none⟩)] (w6.drewN n) fun e w' => e = .returned (.int .i64 (cnt m1)) ∧ w' = w6.drewN n := fun n => made_same b1 m1 _ (hB5.t1.drewN n)
            have k2 : ∀ n, Calls Try.prog 9 #[.pointer (some ⟨b0, 0, none⟩), .slice ak l[k].2.length capk] (w6.drewN n) fun e w' => e = .returned (.int .u32 (sk : Int)) ∧ w' = w6.drewN n := fun n => unhide hsk ▸ sum_same b0 _ l[k].2 _ (hB5.t0.drewN n) (hs6.drewN n) hslb
            have k0 := hide k0
            have k1 := hide k1
            have k2 := hide k2
            have hB6 : ∀ n, Both w (w6.drewN n) b0 b1 bt bm true m1 := fun n => hB5.drewN n
            have hB6 := hide hB6
            have e0 : (cnt true != cnt true) = false := bne_self_eq_false _
            have e1 : (cnt m1 != cnt m1) = false := bne_self_eq_false _
            have e2 : ((sk : Int) != (sk : Int)) = false := bne_self_eq_false _
            generalize cnt true = n0 at *
            generalize cnt m1 = n1 at *
            clear hB5 hs6 hslb hslk
            go_quiet ((first
              | (go_at_call 10; first | exact Calls.quiet_of_same (unhide k0 _) | exact Calls.quiet_of_same (unhide k1 _))
              | (go_at_call 9; exact Calls.quiet_of_same (unhide k2 _))))
            go_wp2
            go_roundw
            case rel => exact ⟨k + 1, _, _, by omega, by omega, by go_num, unhide hB6 _⟩
            case measure => simp [intOf]; omega

        | true =>

          have hk5 : Hid (¬ a.block = b1 ∧ a.block < wr.heap.size) := ⟨by have := unhide HD; omega, by have := hr.turn.size; omega⟩
          have hslb : 0 < l[k].2.length → slab (.slice ak l[k].2.length capk) ≠ some b1 := fun h0 e => by have := hslk h0 _ e; have := unhide HD; omega
          have cA : wr.drew.cell? ⟨bt, 1, none⟩ = some (.pointer (some ⟨b1, 0, none⟩)) := by show wr.cell? _ = _; rw [hr.arr.cell]; rfl
          have hT : Tab wr.drew b1 m1 := hr.t1.kept (S := fun _ => False) (Turn.refl _ _).drew (fun h => h)
          go_upto_region 11 with fail
          go_cut [9] from 25 to 80 (fun x wx => ∃ sk : Nat, x = .int .u32 (sk : Int) ∧ Hid (csum l[k].2 = sk) ∧ Tab wx b1 true ∧ Turn (fun j => j = b1) wr.drew wx)
          case first =>
            go_region_with (go_at_call 9; go_must (refine (sum_any b1 _ l[k].2 m1 _ hT hsd hslb).mono ?_; rintro e w5 ⟨rfl, h5, t5⟩))
            all_goals (
              go_wp2_with fail
              go_meet
              case rel => exact ⟨_, rfl, rfl, h5, t5⟩)
          case rest =>
            obtain ⟨sk, rfl, hsk, h5, t5⟩ := hcut
            generalize wc = w5 at *
            have t5' : Turn (fun j => j = b1) wr w5 := (Turn.refl (fun j => j = b1) wr).drew.trans t5
            have hB5 : Both w (w5.setCell ⟨bm, 1, none⟩ (.int .i64 1)) b0 b1 bt bm m0 true := hr.used1 (unhide HD) h5 t5'
            have hc5 : w5.cell? (a.add k) = some (.slice ak l[k].2.length capk) := (t5'.cell (by rw [addr_add_block]; exact (unhide hk5).2) (by rw [addr_add_block]; exact (unhide hk5).1)).trans hcd
            have hs5 : Sees w5 (.slice ak l[k].2.length capk) l[k].2 := hsd.kept' t5 (fun h0 j hj e => hslb h0 (e ▸ hj))
            have hcm : w5.cell? ⟨bm, 1, none⟩ = some (.int .i64 (cnt m1)) := by rw [(hr.made.kept t5' (by have := unhide HD; omega)).cell]; rfl
            have hfm : w5.frozen? ⟨bm, 1, none⟩ = false := (hr.made.kept t5' (by have := unhide HD; omega)).frozen _
            have t6 : Turn (fun j => j = bm) w5 (w5.setCell ⟨bm, 1, none⟩ (.int .i64 1)) := (Turn.refl (fun j => j = bm) w5).setCell (p := ⟨bm, 1, none⟩) (.inl rfl) _
            have hc6 : (w5.setCell ⟨bm, 1, none⟩ (.int .i64 1)).cell? (a.add k) = some (.slice ak l[k].2.length capk) := (t6.cell (World.block_lt_of_cell? _ _ hc5) (by rw [addr_add_block]; have := unhide HD; omega)).trans hc5
            have hs6 : Sees (w5.setCell ⟨bm, 1, none⟩ (.int .i64 1)) (.slice ak l[k].2.length capk) l[k].2 := hs5.kept' t6 (fun h0 j hj e => by have := hslk h0 j hj; have := unhide HD; omega)
            clear hc5 hs5 t5 t5' h5 hT cA hsd hcd
            go_upto_region 13 with fail
            generalize w5.setCell ⟨bm, 1, none⟩ (.int .i64 1) = w6 at *
            clear hcm hfm t6
            have d0 : w6.cell? ⟨bt, 0, none⟩ = some (.pointer (some ⟨b0, 0, none⟩)) := by rw [hB5.arr.cell]; rfl
            have d1 : w6.cell? ⟨bt, 1, none⟩ = some (.pointer (some ⟨b1, 0, none⟩)) := by rw [hB5.arr.cell]; rfl
            have d2 : w6.cell? ⟨bm, 0, none⟩ = some (.int .i64 (cnt m0)) := by rw [hB5.made.cell]; rfl
            have d3 : w6.cell? ⟨bm, 1, none⟩ = some (.int .i64 (cnt true)) := by rw [hB5.made.cell]; rfl
            have k0 : ∀ n, Calls Try.prog 10 #[.pointer (some ⟨b0, 0, none⟩)] (w6.drewN n) fun e w' => e = .returned (.int .i64 (cnt m0)) ∧ w' = w6.drewN n := fun n => made_same b0 m0 _ (hB5.t0.drewN n)
            have k1 : ∀ n, Calls Try.prog 10 #[.pointer (some ⟨b1, 0, none⟩)] (w6.drewN n) fun e w' => e = .returned (.int .i64 (cnt true)) ∧ w' = w6.drewN n := fun n => made_same b1 true _ (hB5.t1.drewN n)
            have k2 : ∀ n, Calls Try.prog 9 #[.pointer (some ⟨b1, 0, none⟩), .slice ak l[k].2.length capk] (w6.drewN n) fun e w' => e = .returned (.int .u32 (sk : Int)) ∧ w' = w6.drewN n := fun n => unhide hsk ▸ sum_same b1 _ l[k].2 _ (hB5.t1.drewN n) (hs6.drewN n) hslb
            have k0 := hide k0
            have k1 := hide k1
            have k2 := hide k2
            have hB6 : ∀ n, Both w (w6.drewN n) b0 b1 bt bm m0 true := fun n => hB5.drewN n
            have hB6 := hide hB6
            have e0 : (cnt m0 != cnt m0) = false := bne_self_eq_false _
            have e1 : (cnt true != cnt true) = false := bne_self_eq_false _
            have e2 : ((sk : Int) != (sk : Int)) = false := bne_self_eq_false _
            generalize cnt m0 = n0 at *
            generalize cnt true = n1 at *
            clear hB5 hs6 hslb hslk
            go_quiet ((first
              | (go_at_call 10; first | exact Calls.quiet_of_same (unhide k0 _) | exact Calls.quiet_of_same (unhide k1 _))
              | (go_at_call 9; exact Calls.quiet_of_same (unhide k2 _))))
            go_wp2
            go_roundw
            case rel => exact ⟨k + 1, _, _, by omega, by omega, by go_num, unhide hB6 _⟩
            case measure => simp [intOf]; omega

    · by_cases hlt1 : k < l.length
      · have q1 : (k : Int) < l.length := by omega
        have q2 : ¬ (k : Int) < 12 := by omega
        go_wp2
        go_ret
        exact ⟨rfl, hr.turn⟩
      · have q1 : ¬ (k : Int) < l.length := by omega
        go_wp2
        go_ret
        exact ⟨rfl, hr.turn⟩

end Go.Proofs.Ytjdhjjmmfiibeaa
