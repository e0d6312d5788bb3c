/- Package event's own told: the walk. -/
import Derived.Test.YthclffafbkeepaaEvK
namespace Go.Proofs.Ythclffafbkeepaa
open Go.RowKit

theorem turn_set9 (wr : World) (b : Nat) (u0 u1 u2 u3 u4 u5 u6 u7 u8 : Value) : Turn (fun i => i = b) wr (((((((((wr.setCell ⟨b, 0, none⟩ u0).setCell ⟨b, 1, none⟩ u1).setCell ⟨b, 2, none⟩ u2).setCell ⟨b, 3, none⟩ u3).setCell ⟨b, 4, none⟩ u4).setCell ⟨b, 5, none⟩ u5).setCell ⟨b, 6, none⟩ u6).setCell ⟨b, 7, none⟩ u7).setCell ⟨b, 8, none⟩ u8) :=
  (((((((((Turn.refl (fun i => i = b) wr).setCell (p := ⟨b, 0, none⟩) (.inl rfl) u0).setCell (p := ⟨b, 1, none⟩) (.inl rfl) u1).setCell (p := ⟨b, 2, none⟩) (.inl rfl) u2).setCell (p := ⟨b, 3, none⟩) (.inl rfl) u3).setCell (p := ⟨b, 4, none⟩) (.inl rfl) u4).setCell (p := ⟨b, 5, none⟩) (.inl rfl) u5).setCell (p := ⟨b, 6, none⟩) (.inl rfl) u6).setCell (p := ⟨b, 7, none⟩) (.inl rfl) u7).setCell (p := ⟨b, 8, none⟩) (.inl rfl) u8

theorem DefsQ.mono {Q Q' : Nat → Prop} {w : World} {v : Value} {ds : List Df} (h : DefsQ Q w v ds) (hq : ∀ j, Q j → Q' j) : DefsQ Q' w v ds := by
  rcases h with h | ⟨g, o, cap, rfl, hm, hc⟩
  · exact .inl h
  · refine .inr ⟨g, o, cap, rfl, hm, fun k hk => ?_⟩
    obtain ⟨h1, nv, c0, c1, c2, h2⟩ := hc k hk
    exact ⟨hq _ h1, nv, c0, c1, c2, h2.mono hq⟩

/-- Where told's loop stands. -/
def TlAt (wa : World) (b c : Nat) (v : Value) (e0 : EvP) (dv : Value) (cnt : Nat) (s2 : St) (n : Nat) (wr : World) : Prop :=
  ∃ (l : List (Value × Df)) (s1 : St) (fv v1 : Value), TlI wa b c v e0 dv l s1 fv v1 wr ∧ l.length = n ∧ toldL cnt s2 = (l.map (·.2) ++ (toldL (cnt - n) s1).1, (toldL (cnt - n) s1).2)

section
variable {w : World} {b : Nat} {v : Value}

set_option maxHeartbeats 8000000 in
set_option maxRecDepth 100000 in
theorem told_any (s : St) (h : RIs 71 w b v s) (hv : ∀ k, slab v = some k → k < w.heap.size) (hb : s.bs.length ≤ 100000000000) :
    Calls Try.prog 29 #[.pointer (some ⟨b, 0, none⟩)] w fun e w' => ∃ dv fv, e = .returned (evV (toldE s).1 dv fv) ∧ EvQ (fun j => w.heap.size ≤ j) w' dv fv (toldE s).1 ∧ Now 71 w b v (toldE s).2 w' := by
  obtain ⟨w0, hw0⟩ : ∃ w0, w0 = w.alloc (.cells #[.int .i64 0, .int .i64 0, .int .i64 0, .int .i64 0, .int .i64 0, .int .i64 0, .string ⟨#[]⟩, .slice none 0 0, .slice none 0 0] 25) := ⟨_, rfl⟩
  have ta : Turn (fun _ => False) w w0 := by rw [hw0]; exact (Turn.refl _ _).alloc _
  have hA : At 25 w0 w.heap.size #[.int .i64 0, .int .i64 0, .int .i64 0, .int .i64 0, .int .i64 0, .int .i64 0, .string ⟨#[]⟩, .slice none 0 0, .slice none 0 0] := by rw [hw0]; exact At.new _ _ _
  have hra : RIs 71 w0 b v s := h.kept ta (fun e => e) (fun _ _ e => e)
  have hbl : b < w.heap.size := h.1.lt
  have hwl : w.heap.size < w0.heap.size := hA.lt
  obtain ⟨v0, hv0⟩ : ∃ v0, v0 = v := ⟨_, rfl⟩
  have Hw0 := hide hw0
  have HA := hide hA
  have TA := hide ta
  have HV := hide (show ∀ k, slab v = some k → k < w0.heap.size from fun k hk => by have := hv k hk; omega)
  have HV0 := hide hv
  have S0 : Hid (RStep 71 b w0 v w0 v0 s.bs s.lack) := hide (by rw [hv0]; exact RStep.refl hra)
  obtain ⟨a0, ha0⟩ : ∃ x, x = s.take 2 := ⟨_, rfl⟩
  obtain ⟨a1, ha1⟩ : ∃ x, x = a0.2.take 8 := ⟨_, rfl⟩
  obtain ⟨a2, ha2⟩ : ∃ x, x = a1.2.take 8 := ⟨_, rfl⟩
  obtain ⟨a3, ha3⟩ : ∃ x, x = a2.2.take 1 := ⟨_, rfl⟩
  obtain ⟨a4, ha4⟩ : ∃ x, x = a3.2.take 1 := ⟨_, rfl⟩
  obtain ⟨a5, ha5⟩ : ∃ x, x = a4.2.take 8 := ⟨_, rfl⟩
  obtain ⟨a6, ha6⟩ : ∃ x, x = a5.2.short := ⟨_, rfl⟩
  obtain ⟨a7, ha7⟩ : ∃ x, x = a6.2.short := ⟨_, rfl⟩
  obtain ⟨a8, ha8⟩ : ∃ x, x = a7.2.take 1 := ⟨_, rfl⟩
  have hhead : headE s = ((⟨num a0.1, num a1.1, num a2.1, num a3.1, num a4.1, num a5.1, ⟨a6.1.toArray⟩, a7.1, []⟩, num a8.1), a8.2) := by
    rw [ha8, ha7, ha6, ha5, ha4, ha3, ha2, ha1, ha0]
    rfl
  have hb6 : a6.2.bs.length ≤ s.bs.length ∧ a6.1.length ≤ s.bs.length ∧ a7.1.length ≤ s.bs.length := by
    have k0 := s.take_rest 2
    have k1 := a0.2.take_rest 8
    have k2 := a1.2.take_rest 8
    have k3 := a2.2.take_rest 1
    have k4 := a3.2.take_rest 1
    have k5 := a4.2.take_rest 8
    rw [← ha0] at k0
    rw [← ha1] at k1
    rw [← ha2] at k2
    rw [← ha3] at k3
    rw [← ha4] at k4
    rw [← ha5] at k5
    have k6 := a5.2.take_rest 2
    have k7 := (a5.2.take 2).2.take_rest (num (a5.2.take 2).1)
    have k8 := (a5.2.take 2).2.take_le (num (a5.2.take 2).1)
    have k9 := a6.2.take_rest 2
    have k10 := (a6.2.take 2).2.take_le (num (a6.2.take 2).1)
    have e6 : a6 = (a5.2.take 2).2.take (num (a5.2.take 2).1) := ha6
    have e7 : a7 = (a6.2.take 2).2.take (num (a6.2.take 2).1) := ha7
    rw [← e6] at k7 k8
    rw [← e7] at k10
    omega
  have q8 := num_take1 a7.2
  rw [← ha8] at q8
  have A0 := hide ha0
  have A1 := hide ha1
  have A2 := hide ha2
  have A3 := hide ha3
  have A4 := hide ha4
  have A5 := hide ha5
  have A6 := hide ha6
  have A7 := hide ha7
  have A8 := hide ha8
  have HH := hide hhead
  have HB6 := hide hb6
  have HB := hide hb
  clear h hw0 ta hA hra hv hv0 ha0 ha1 ha2 ha3 ha4 ha5 ha6 ha7 ha8 hhead hb6
  go_enter Try.func29, Try.ntmps29
  go_wp2_with fail
  rw [← unhide Hw0]
  refine (ru16_any b v0 _ w0 (unhide S0).at').mono ?_
  rintro e w1 ⟨rfl, v1, s1⟩
  rw [← unhide A0] at s1 ⊢
  have S1 := hide ((unhide S0).trans s1)
  clear s1 S0
  go_wp2_with fail
  refine (ru64_any b v1 _ w1 (unhide S1).at').mono ?_
  rintro e w2 ⟨rfl, v2, s2⟩
  rw [← unhide A1] at s2 ⊢
  have S2 := hide ((unhide S1).trans s2)
  clear s2 S1
  go_wp2_with fail
  refine (ru64_any b v2 _ w2 (unhide S2).at').mono ?_
  rintro e w3 ⟨rfl, v3, s3⟩
  rw [← unhide A2] at s3 ⊢
  have S3 := hide ((unhide S2).trans s3)
  clear s3 S2
  go_wp2_with fail
  refine (ru8_any b v3 _ w3 (unhide S3).at').mono ?_
  rintro e w4 ⟨rfl, v4, s4⟩
  rw [← unhide A3] at s4 ⊢
  have S4 := hide ((unhide S3).trans s4)
  clear s4 S3
  go_wp2_with fail
  refine (ru8_any b v4 _ w4 (unhide S4).at').mono ?_
  rintro e w5 ⟨rfl, v5, s5⟩
  rw [← unhide A4] at s5 ⊢
  have S5 := hide ((unhide S4).trans s5)
  clear s5 S4
  go_wp2_with fail
  refine (ru64_any b v5 _ w5 (unhide S5).at').mono ?_
  rintro e w6 ⟨rfl, v6, s6⟩
  rw [← unhide A5] at s6 ⊢
  have S6 := hide ((unhide S5).trans s6)
  clear s6 S5
  go_wp2_with fail
  refine (rtext_any b v6 _ w6 (unhide S6).at').mono ?_
  rintro e w7 ⟨rfl, v7, s7⟩
  rw [← unhide A6] at s7 ⊢
  have S7 := hide ((unhide S6).trans s7)
  clear s7 S6
  go_wp2_with fail
  refine (rshort_any b v7 _ w7 (unhide S7).at' (by have := unhide HB6; omega)).mono ?_
  rintro e w8 ⟨dv, rfl, ho, hnw, v8, s8⟩
  rw [← unhide A7] at s8 ho
  have S8 := hide ((unhide S7).trans s8)
  clear s8

  have hsd := ho.sees
  have hnd : ∀ j, slab dv = some j → w0.heap.size ≤ j ∧ j < w8.heap.size := fun j hj => by
    rw [ho.slab_eq] at hj
    have h1 := hnw j hj
    have h2 := ho.lt hj
    have h3 := (unhide S7).turn.size
    exact ⟨by omega, h2⟩
  obtain ⟨o7, c7, e7⟩ := ho.shape
  generalize a7.1.length = n7 at e7
  subst e7
  obtain ⟨e0, he0⟩ : ∃ e0 : EvP, e0 = ⟨num a0.1, num a1.1, num a2.1, num a3.1, num a4.1, num a5.1, ⟨a6.1.toArray⟩, a7.1, []⟩ := ⟨_, rfl⟩
  have HH2 : Hid (headE s = ((e0, num a8.1), a8.2)) := hide (by rw [he0]; exact unhide HH)
  obtain ⟨wb, hwb⟩ : ∃ wb, wb = w8.alloc (.cells (evC e0 (.slice o7 n7 c7) (.slice none 0 0)) 25) := ⟨_, rfl⟩
  obtain ⟨c, hc⟩ : ∃ c, c = w8.heap.size := ⟨_, rfl⟩
  have tb : Turn (fun _ => False) w8 wb := by rw [hwb]; exact (Turn.refl _ _).alloc _
  have hB : At 25 wb c (evC e0 (.slice o7 n7 c7) (.slice none 0 0)) := by rw [hwb, hc]; exact At.new _ _ _
  have s9 := (unhide S8).grown tb
  have hcs : w0.heap.size ≤ c := by rw [hc]; exact (unhide S8).turn.size
  have hbw := hide (show b < w0.heap.size ∧ (b ≠ c ∧ ∀ k, slab v = some k → k < w0.heap.size) ∧ w0.heap.size ≤ c from ⟨by omega, ⟨by omega, unhide HV⟩, hcs⟩)
  have hti : TlI w0 b c v e0 (.slice o7 n7 c7) [] a7.2 (.slice none 0 0) v8 wb := ⟨s9, hB, DOwn.nil _ _, fun j hj => by simp [Value.ownBlock] at hj, by rw [he0]; exact hsd.kept tb (fun _ _ h => h), fun j hj => ⟨⟨(hnd j hj).1, by have := (hnd j hj).2; have := tb.size; omega⟩, by have := (hnd j hj).2; omega, by simp [Value.ownBlock]⟩⟩
  have hv0' : ∀ j, slab (.slice o7 n7 c7) = some j → w0.heap.size ≤ j := fun j hj => (hnd j hj).1
  have HTI := hide hti
  have S9 := hide s9
  have Hwb : Hid (wb = w8.alloc (.cells #[.int .i64 (num a0.1), .int .i64 (num a1.1), .int .i64 (num a2.1), .int .i64 (num a3.1), .int .i64 (num a4.1), .int .i64 (num a5.1), .string ⟨a6.1.toArray⟩, .slice o7 n7 c7, .slice none 0 0] 25)) := hide (by rw [hwb, he0]; rfl)
  have Hc := hide hc
  have HE0 := hide he0
  clear hsd hnd ho hnw hwb hc tb hB s9 hti S7 S8 he0 hv0'
  go_wp2_with fail
  rw [← unhide Hwb, ← unhide Hc]
  refine (ru8_any b v8 _ wb (unhide S9).at').mono ?_
  rintro e w9 ⟨rfl, v9, s9⟩
  rw [← unhide A8] at s9 ⊢
  obtain ⟨cn, hcn⟩ : ∃ cn : Nat, num a8.1 = cn := ⟨(num a8.1).toNat, by omega⟩
  rw [hcn] at q8 HH2 ⊢
  have hcn2 : cn < 256 := by omega
  have hti9 : TlI w0 b c v e0 (.slice o7 n7 c7) [] a8.2 (.slice none 0 0) v9 w9 := by
    have h := unhide HTI
    have hb' := unhide hbw
    exact ⟨(unhide S9).trans s9, h.at'.kept s9.turn (fun (e : c = b) => hb'.2.1.1 e.symm), DOwn.nil _ _, h.new, h.data.kept s9.turn (fun j hj (e : j = b) => by have := (h.dnew j hj).1.1; omega), fun j hj => ⟨⟨(h.dnew j hj).1.1, by have := (h.dnew j hj).1.2; have := s9.turn.size; omega⟩, (h.dnew j hj).2⟩⟩
  have hst : Hid (TlAt w0 b c v e0 (.slice o7 n7 c7) cn a8.2 0 w9) := hide ⟨[], a8.2, .slice none 0 0, v9, hti9, rfl, by simp⟩
  clear s9 S9 HTI hti9 hcn q8 Hwb Hc
  go_wp2_with fail
  go_loopw [23] (fun i wr => ∃ n : Nat, i = .int .i64 n ∧ n ≤ cn ∧ TlAt w0 b c v e0 (.slice o7 n7 c7) cn a8.2 n wr) (fun i _ => cn - (intOf i).toNat)
  case atStart => exact ⟨0, rfl, by omega, unhide hst⟩
  case round =>
    obtain ⟨n, rfl, hn, l, s1, fv, u1, hti, hll, htl⟩ := hrel
    obtain ⟨fo, fc, hfv⟩ : ∃ fo fc, fv = .slice fo n fc := by
      obtain ⟨x, y, e⟩ := hti.defs.own.shape
      rw [List.length_map, hll] at e
      exact ⟨x, y, e⟩
    subst hfv
    by_cases hlt : n < cn
    · have q4 : (n : Int) < cn := by omega
      obtain ⟨x, hx⟩ : ∃ x, x = toldD s1 := ⟨_, rfl⟩
      have htl2 : toldL cn a8.2 = ((l ++ [((.slice none 0 0 : Value), x.1)]).map (·.2) ++ (toldL (cn - (n + 1)) x.2).1, (toldL (cn - (n + 1)) x.2).2) := by
        rw [htl, show cn - n = (cn - (n + 1)) + 1 by omega, toldL, ← hx]
        simp
      have td : Turn (fun _ => False) wr wr.drew := (Turn.refl _ wr).drew
      have KU := hide (toldDef_any s1 (hti.rd.at'.kept td (fun e => e) (fun _ _ e => e)) (fun k hk => by have := (unhide HV) k (hti.rd.slab k hk); have := hti.rd.turn.size; have := td.size; omega))
      rw [← hx] at KU
      obtain ⟨⟨dx, d1, d2⟩, s5⟩ := x
      unfold dfV at KU
      simp only at KU htl2
      have k0 : wr.cell? ⟨c, 8, none⟩ = some (.slice fo n fc) := hti.at'.cell 8
      have HTI := hide hti
      have HTl := hide htl2
      have HLl := hide hll
      clear hti htl htl2 hll hx td
      go_wp2_with fail
      go_region_law (first
        | (go_simp; go_at_call 47; refine (unhide KU).mono ?_; rintro e w10 ⟨nv, rfl, hd10, u10, hs10⟩; obtain ⟨v11, w11, fo11, fc11, r11, e11, k10, k11, f11, h11⟩ := tl_step (unhide hbw) (unhide HTI) (by omega) (unhide HLl) hs10 (dx, d1, d2) nv hd10; obtain ⟨no, nc, en, -⟩ := hd10.shape; generalize dx.length = dxn at en; have k10a : (w10.alloc (.cells #[nv, .int .i64 d1, .int .i64 d2] 45)).cell? ⟨c, 8, none⟩ = some (.slice fo n fc) := (((Turn.refl (fun _ => False) w10).alloc (.cells #[nv, .int .i64 d1, .int .i64 d2] 45)).cell (p := ⟨c, 8, none⟩) (World.block_lt_of_cell? w10 ⟨c, 8, none⟩ k10) (fun h => h)).trans k10; have R11 := hide r11; have H11 := hide h11; clear r11 h11 hs10 hd10; subst en e11)
        | (refine step_append_run (by rfl) (.tmp 26) (.tmp 29) 23 (by rfl) _ _ _ w11 (by rfl) (by rfl) (unhide R11) ?_)
        | fail)
      all_goals (
        go_wp2_with fail
        go_roundw
        case rel =>
          have h1 := unhide H11 _ rfl
          exact ⟨n + 1, by go_num, by omega, _, s5, _, u10, h1, by rw [List.length_append, unhide HLl]; rfl, by rw [unhide HTl]; simp⟩
        case measure => simp [intOf]; omega)
    · obtain rfl : n = cn := by omega
      have q4 : ¬ (n : Int) < n := by omega
      have hAt : At 25 wr c #[.int .i64 (num a0.1), .int .i64 (num a1.1), .int .i64 (num a2.1), .int .i64 (num a3.1), .int .i64 (num a4.1), .int .i64 (num a5.1), .string ⟨a6.1.toArray⟩, .slice o7 n7 c7, .slice fo n fc] := by
        have h := hti.at'
        rw [unhide HE0] at h
        exact h
      obtain ⟨c0, c1, c2, c3, c4, c5, c6, c7', c8⟩ := at_nine hAt
      have hrA := (unhide HA).kept hti.rd.turn (fun (e : w.heap.size = b) => by omega)
      obtain ⟨g0, g1, g2, g3, g4, g5, g6, g7, g8⟩ := at_nine hrA
      have z0 := hrA.frozen 0
      have z1 := hrA.frozen 1
      have z2 := hrA.frozen 2
      have z3 := hrA.frozen 3
      have z4 := hrA.frozen 4
      have z5 := hrA.frozen 5
      have z6 := hrA.frozen 6
      have z7 := hrA.frozen 7
      have z8 := hrA.frozen 8
      rw [Nat.sub_self, toldL, List.append_nil] at htl
      have hfin : toldE s = ({ e0 with defs := l.map (·.2) }, s1) := by
        unfold toldE
        rw [unhide HH2]
        simp only [Int.toNat_natCast]
        rw [htl]
      have Hf := hide (And.intro hti (And.intro hfin hrA))
      clear hti hfin hrA htl hll hAt HH2 hst
      go_wp2
      obtain ⟨a3', a4', a5⟩ := unhide Hf
      refine bodyPost_ret (results_cell_row rfl _ _ w.heap.size 25 _ (0, 0) _ rfl ((((((((((a5).set 0 _).set 1 _).set 2 _).set 3 _).set 4 _).set 5 _).set 6 _).set 7 _).set 8 _) Try.underlying25 rfl (by kernel_rfl)) rfl ?_
      have tset := turn_set9 wr w.heap.size
      refine ⟨.slice o7 n7 c7, .slice fo n fc, ?_, ?_, ?_⟩
      · rw [a4', unhide HE0]
        rfl
      · rw [a4']
        have hwh := unhide TA
        refine ⟨a3'.data.kept (tset ..) (fun j hj (e : j = w.heap.size) => by have := (a3'.dnew j hj).1.1; omega), fun h0 j hj => by have := (a3'.dnew j hj).1.1; omega, ?_, ?_, ?_⟩
        · refine (a3'.defs.defs (Q' := fun j => w0.heap.size ≤ j) (fun j hj => hj.1) (fun j hj => (a3'.new j hj).1)).kept (tset ..) (fun j hj (e : j = w.heap.size) => by have hj : w0.heap.size ≤ j := hj; omega) |>.mono (fun j hj => by have hj : w0.heap.size ≤ j := hj; omega)
        · rw [unhide HE0]
          have h1 := (unhide HB6).2.1
          have e : (⟨a6.1.toArray⟩ : ByteArray).size = a6.1.length := by simp [ByteArray.size]
          simp only
          rw [e]
          have := unhide HB
          omega
        · rw [unhide HE0]
          have h1 := (unhide HB6).2.2
          have := unhide HB
          simp only
          omega
      · rw [a4']
        refine ⟨_, a3'.rd.at'.kept (tset ..) (fun (e : b = w.heap.size) => by omega) (fun k hk (e : k = w.heap.size) => by have := unhide HV0 k (a3'.rd.slab k hk); omega), ?_, a3'.rd.slab⟩
        exact (((unhide TA).mono (S' := fun k => k = b) (fun _ _ e => e.elim)).trans a3'.rd.turn).trans' (tset ..) (fun i hi (e : i = w.heap.size) => by omega)

end

end Go.Proofs.Ythclffafbkeepaa
