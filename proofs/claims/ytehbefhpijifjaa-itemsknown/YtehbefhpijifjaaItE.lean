/- items' Common. -/
import Derived.Test.YtehbefhpijifjaaItF
import Derived.BigQuiet
namespace Go.Proofs.Ytehbefhpijifjaa
open Go.RowKit

def lenOf : Value → Nat
  | .slice _ n _ => n
  | _ => 0

/-- Where Common stands: what is left of both, in the world that it began in. -/
def CmAt (w : World) (res : It) (a b : Value) (la lb : List It) (c1 c2 : Int) (wr : World) : Prop :=
  ISees w a la ∧ ISees w b lb ∧ Up c1 la ∧ Up c1 lb ∧ la.length ≤ 1000000000 ∧ lb.length ≤ 1000000000 ∧ res = comR c1 (c1, c2) (expd c1 la) (expd c1 lb) ∧
  At 23 wr (w.heap.size + 1) #[.int .i64 c1, .int .i64 c2] ∧ At 23 wr w.heap.size #[.int .i64 0, .int .i64 0] ∧ Turn (fun _ => False) w wr

section
variable {w w0 w1 : World} {v v2 : Value} {l m : List It}

set_option maxHeartbeats 4000000 in
theorem common_any (h : ISees w v l) (k : ISees w v2 m) (hu : Up 0 l) (hv : Up 0 m) (hl : l.length ≤ 1000000000) (hm : m.length ≤ 1000000000) :
    Calls Try.prog 19 #[v, v2] w fun e w' => e = .returned (itV (comR 0 (0, 0) (expd 0 l) (expd 0 m))) ∧ Turn (fun _ => False) w w' := by
  obtain ⟨res, hres⟩ : ∃ r, r = comR 0 (0, 0) (expd 0 l) (expd 0 m) := ⟨_, rfl⟩
  rw [← hres]
  have H := hide (And.intro h (And.intro k (And.intro hu (And.intro hv hres))))
  obtain ⟨ao, cap, rfl⟩ := h.shape
  obtain ⟨ao2, cap2, rfl⟩ := k.shape
  have HL := hide (And.intro hl hm)
  clear h k hu hv hl hm hres
  go_enter Try.func19, Try.ntmps19
  go_wp2_with fail
  have hA : At 23 (w.alloc (.cells #[.int .i64 0, .int .i64 0] 23)) w.heap.size #[.int .i64 0, .int .i64 0] := At.new _ _ _
  have hA2 := hA.kept ((Turn.refl (fun _ => False) _).alloc (.cells #[.int .i64 0, .int .i64 0] 23)) (fun e => e)
  have hB : At 23 ((w.alloc (.cells #[.int .i64 0, .int .i64 0] 23)).alloc (.cells #[.int .i64 0, .int .i64 0] 23)) (w.heap.size + 1) #[.int .i64 0, .int .i64 0] := by
    have := At.new 23 (w.alloc (.cells #[.int .i64 0, .int .i64 0] 23)) #[.int .i64 0, .int .i64 0]
    simpa using this
  have T3 := hide (((Turn.refl (fun _ => False) w).alloc (.cells #[.int .i64 0, .int .i64 0] 23)).alloc (.cells #[.int .i64 0, .int .i64 0] 23))
  have HAB := hide (And.intro hA2 hB)
  clear hA hA2 hB
  generalize (w.alloc (.cells #[.int .i64 0, .int .i64 0] 23)).alloc (.cells #[.int .i64 0, .int .i64 0] 23) = w3 at *
  go_loopw [0, 1] (fun a b wr => ∃ la lb c1 c2, CmAt w res a b la lb c1 c2 wr) (fun a b _ => lenOf a + lenOf b)
  case atStart => exact ⟨l, m, 0, 0, (unhide H).1, (unhide H).2.1, (unhide H).2.2.1, (unhide H).2.2.2.1, (unhide HL).1, (unhide HL).2, (unhide H).2.2.2.2, (unhide HAB).2, (unhide HAB).1, unhide T3⟩
  case round =>
    obtain ⟨la, lb, c1, c2, hc⟩ := hrel
    have C := hide hc
    obtain ⟨ha, hb, -, -, -, -, -, hcm, h0, ht⟩ := hc
    have ha' := ha.kept ht (fun _ _ e => e)
    have hb' := hb.kept ht (fun _ _ e => e)
    obtain ⟨xo, xc, rfl⟩ := ha.shape
    obtain ⟨yo, yc, rfl⟩ := hb.shape
    have x0 : wr.cell? ⟨w.heap.size + 1, 0, none⟩ = some (.int .i64 c1) := hcm.cell 0
    have x1 : wr.cell? ⟨w.heap.size + 1, 1, none⟩ = some (.int .i64 c2) := hcm.cell 1
    have z0 := h0.frozen 0
    have z1 := h0.frozen 1
    have z2 := hcm.frozen 0
    have z3 := hcm.frozen 1
    cases la with
    | nil =>
      have hr : res = (c1, c2) := by
        have := (unhide C).2.2.2.2.2.2.1
        simpa [expd, comR] using this
      clear ha hb ha' hb'
      go_wp2_with fail
      go_quiet ((fail))
      have hcm2 := hcm.kept (turn_drewNI (fun _ => False) wr nq) (fun e => e)
      have h02 := h0.kept (turn_drewNI (fun _ => False) wr nq) (fun e => e)
      have ht2 := ht.trans (turn_drewNI _ wr nq)
      clear hcm h0 ht x0 x1 z0 z1 z2 z3 C
      generalize wr.drewN nq = wq at *
      have y0 : wq.cell? ⟨w.heap.size + 1, 0, none⟩ = some (.int .i64 c1) := hcm2.cell 0
      have y1 : wq.cell? ⟨w.heap.size + 1, 1, none⟩ = some (.int .i64 c2) := hcm2.cell 1
      have y2 : wq.cell? ⟨w.heap.size, 0, none⟩ = some (.int .i64 0) := h02.cell 0
      have y3 : wq.cell? ⟨w.heap.size, 1, none⟩ = some (.int .i64 0) := h02.cell 1
      have z0 := h02.frozen 0
      have z1 := h02.frozen 1
      go_wp2_with fail
      refine bodyPost_ret (results_cell_row rfl _ _ w.heap.size 23 _ (0, 0) _ rfl ((h02.set 0 _).set 1 _) Try.underlying23 rfl (by kernel_rfl)) rfl ?_
      exact ⟨by rw [hr]; rfl, (ht2.setCell (.inr (Nat.le_refl _)) _).setCell (.inr (Nat.le_refl _)) _⟩
    | cons e la =>
      obtain ⟨g, o, rfl, a0, a1⟩ := ha'.at 0 (by simp)
      simp only [Nat.zero_mul, Nat.add_zero, List.getElem_cons_zero] at a0 a1
      have HBe := hide (show ∀ w', Turn (fun _ => False) w w' → ISees w' _ (e :: la) from fun w' t => ha.kept t (fun _ _ e => e))
      cases lb with
      | nil =>
        have hr : res = (c1, c2) := by
          have := (unhide C).2.2.2.2.2.2.1
          simpa [expd, comR_nil] using this
        have q1 : 0 < (e :: la).length := by simp
        generalize (e :: la).length = an at *
        clear ha hb ha' hb' HBe
        go_wp2_with fail
        go_quiet ((fail))
        have hcm2 := hcm.kept (turn_drewNI (fun _ => False) wr nq) (fun e => e)
        have h02 := h0.kept (turn_drewNI (fun _ => False) wr nq) (fun e => e)
        have ht2 := ht.trans (turn_drewNI _ wr nq)
        clear hcm h0 ht x0 x1 z0 z1 z2 z3 C
        generalize wr.drewN nq = wq at *
        have y0 : wq.cell? ⟨w.heap.size + 1, 0, none⟩ = some (.int .i64 c1) := hcm2.cell 0
        have y1 : wq.cell? ⟨w.heap.size + 1, 1, none⟩ = some (.int .i64 c2) := hcm2.cell 1
        have y2 : wq.cell? ⟨w.heap.size, 0, none⟩ = some (.int .i64 0) := h02.cell 0
        have y3 : wq.cell? ⟨w.heap.size, 1, none⟩ = some (.int .i64 0) := h02.cell 1
        have z0 := h02.frozen 0
        have z1 := h02.frozen 1
        go_wp2_with fail
        refine bodyPost_ret (results_cell_row rfl _ _ w.heap.size 23 _ (0, 0) _ rfl ((h02.set 0 _).set 1 _) Try.underlying23 rfl (by kernel_rfl)) rfl ?_
        exact ⟨by rw [hr]; rfl, (ht2.setCell (.inr (Nat.le_refl _)) _).setCell (.inr (Nat.le_refl _)) _⟩
      | cons f lb =>
        obtain ⟨g2, o2, rfl, b0, b1⟩ := hb'.at 0 (by simp)
        simp only [Nat.zero_mul, Nat.add_zero, List.getElem_cons_zero] at b0 b1
        have q1 : 0 < (e :: la).length := by simp
        have q2 : 0 < (f :: lb).length := by simp
        have hup := (unhide C).2.2.1
        have hup2 := (unhide C).2.2.2.1
        by_cases hv : e.2 = f.2
        case neg =>
          have hr : res = (c1, c2) := by
            rw [(unhide C).2.2.2.2.2.2.1]
            exact comR_part _ e f la lb hup.1 hup2.1 hv
          have q3 : (e.2 == f.2) = false := by simpa using hv
          clear ha hb ha' hb' HBe hup hup2 hv
          generalize (e :: la).length = an at *
          generalize (f :: lb).length = bn at *
          go_wp2_with fail
          go_quiet ((fail))
          have hcm2 := hcm.kept (turn_drewNI (fun _ => False) wr nq) (fun e => e)
          have h02 := h0.kept (turn_drewNI (fun _ => False) wr nq) (fun e => e)
          have ht2 := ht.trans (turn_drewNI _ wr nq)
          clear hcm h0 ht x0 x1 z0 z1 z2 z3 C
          generalize wr.drewN nq = wq at *
          have y0 : wq.cell? ⟨w.heap.size + 1, 0, none⟩ = some (.int .i64 c1) := hcm2.cell 0
          have y1 : wq.cell? ⟨w.heap.size + 1, 1, none⟩ = some (.int .i64 c2) := hcm2.cell 1
          have y2 : wq.cell? ⟨w.heap.size, 0, none⟩ = some (.int .i64 0) := h02.cell 0
          have y3 : wq.cell? ⟨w.heap.size, 1, none⟩ = some (.int .i64 0) := h02.cell 1
          have z0 := h02.frozen 0
          have z1 := h02.frozen 1
          go_wp2_with fail
          refine bodyPost_ret (results_cell_row rfl _ _ w.heap.size 23 _ (0, 0) _ rfl ((h02.set 0 _).set 1 _) Try.underlying23 rfl (by kernel_rfl)) rfl ?_
          exact ⟨by rw [hr]; rfl, (ht2.setCell (.inr (Nat.le_refl _)) _).setCell (.inr (Nat.le_refl _)) _⟩
        case pos =>
          have q3 : (e.2 == f.2) = true := by simpa using hv
          obtain ⟨mn, hmn⟩ : ∃ x, x = if f.1 < e.1 then f.1 else e.1 := ⟨_, rfl⟩
          have hm1 : mn ≤ e.1 ∧ mn ≤ f.1 ∧ (mn = e.1 ∨ mn = f.1) := by rw [hmn]; split <;> omega
          obtain ⟨va, hsa, hcalla⟩ := behind_is mn ha (by have := (unhide C).2.2.2.2.1; simp at this; omega)
          obtain ⟨vb, hsb, hcallb⟩ := behind_is mn hb (by have := (unhide C).2.2.2.2.2.1; simp at this; omega)
          obtain ⟨an, han⟩ : ∃ n, n = (e :: la).length := ⟨_, rfl⟩
          obtain ⟨bn, hbn⟩ : ∃ n, n = (f :: lb).length := ⟨_, rfl⟩
          have hmc : c1 < mn := by have := hup.1; have := hup2.1; omega
          have hstep := comR_step (p := c1) (c1, c2) e f la lb hmc hm1.1 hm1.2.1 hv
          rw [← (unhide C).2.2.2.2.2.2.1] at hstep
          have HSt := hide hstep
          have HUp := hide (show Up mn (if e.1 = mn then la else e :: la) ∧ Up mn (if f.1 = mn then lb else f :: lb) from ⟨by
            split
            · next h => rw [← h]; exact hup.2
            · exact ⟨by omega, hup.2⟩, by
            split
            · next h => rw [← h]; exact hup2.2
            · exact ⟨by omega, hup2.2⟩⟩)
          have HLe := hide (show (if e.1 = mn then la else e :: la).length ≤ 1000000000 ∧ (if f.1 = mn then lb else f :: lb).length ≤ 1000000000 from ⟨by
            have := (unhide C).2.2.2.2.1
            simp only [List.length_cons] at this
            split
            · omega
            · simpa using this, by
            have := (unhide C).2.2.2.2.2.1
            simp only [List.length_cons] at this
            split
            · omega
            · simpa using this⟩)
          have HMs := hide (show (if e.1 = mn then la else e :: la).length + (if f.1 = mn then lb else f :: lb).length < an + bn by
            rw [han, hbn]
            rcases hm1.2.2 with h | h
            · rw [if_pos h.symm]
              split <;> (simp only [List.length_cons]; omega)
            · rw [if_pos (c := f.1 = mn) h.symm]
              split <;> (simp only [List.length_cons]; omega))
          have HCa := hide (show ∀ w', Turn (fun _ => False) w w' → _ from fun w' t => hcalla w' (ha.kept t (fun _ _ e => e)))
          have HCb := hide (show ∀ w', Turn (fun _ => False) w w' → _ from fun w' t => hcallb w' (hb.kept t (fun _ _ e => e)))
          obtain ⟨ro, rc, hra⟩ := hsa.shape
          obtain ⟨so, sc, hrb⟩ := hsb.shape
          have HSa := hide hsa
          have HSb := hide hsb
          rw [← han] at q1 HCa C ⊢
          rw [← hbn] at q2 HCb C ⊢
          generalize hla2 : (if e.1 = mn then la else e :: la) = la2 at *
          generalize hlb2 : (if f.1 = mn then lb else f :: lb) = lb2 at *
          obtain ⟨an2, han2⟩ : ∃ n, n = la2.length := ⟨_, rfl⟩
          obtain ⟨bn2, hbn2⟩ : ∃ n, n = lb2.length := ⟨_, rfl⟩
          rw [← han2, ← hbn2] at HMs
          rw [← han2] at hra
          rw [← hbn2] at hrb
          have HMn := hide hmn
          have HNs := hide (And.intro han2 hbn2)
          clear hcalla hcallb ha' hb' ha hb hstep hup hup2 hla2 hlb2 han hbn hm1 hmc hsa hsb HBe hmn han2 hbn2
          subst hra hrb
          go_wp2_with fail
          go_quiet ((fail))
          go_wp2_with fail
          go_region
          rw [← unhide HMn]
          have t4 := ((ht.trans (turn_drewNI _ wr (nq + 1))).setCell (p := ⟨w.heap.size + 1, 0, none⟩) (.inr (Nat.le_succ _)) (.int .i64 mn)).setCell (p := ⟨w.heap.size + 1, 1, none⟩) (.inr (Nat.le_succ _)) (.int .i64 f.2)
          have hcm4 := ((hcm.kept (turn_drewNI (fun _ => False) wr (nq + 1)) (fun e => e)).set 0 (.int .i64 mn)).set 1 (.int .i64 f.2)
          have h04 := h0.kept ((((Turn.refl (fun k => k = w.heap.size + 1) wr).trans (turn_drewNI _ wr (nq + 1))).setCell (p := ⟨w.heap.size + 1, 0, none⟩) (.inl rfl) (.int .i64 mn)).setCell (p := ⟨w.heap.size + 1, 1, none⟩) (.inl rfl) (.int .i64 f.2)) (fun e => by omega)
          generalize ((wr.drewN (nq + 1)).setCell ⟨w.heap.size + 1, 0, none⟩ (.int .i64 mn)).setCell ⟨w.heap.size + 1, 1, none⟩ (.int .i64 f.2) = wq at *
          have hcm5 : At 23 wq (w.heap.size + 1) #[.int .i64 mn, .int .i64 f.2] := hcm4
          have x4 : wq.cell? ⟨w.heap.size + 1, 0, none⟩ = some (.int .i64 mn) := hcm5.cell 0
          have ka := hide (show ∀ n X, X = #[.slice (some ⟨g, o, none⟩) an xc, .int .i64 mn] → Calls Try.prog 37 X (wq.drewN n) fun x w2 => x = .returned (.slice ro an2 rc) ∧ w2 = wq.drewN n from fun n X hX => hX ▸ (unhide HCa (wq.drewN n) (t4.trans (turn_drewNI _ wq n))).mono fun _ _ h => ⟨h.1, h.2.symm⟩)
          have kb := hide (show ∀ n X, X = #[.slice (some ⟨g2, o2, none⟩) bn yc, .int .i64 mn] → Calls Try.prog 37 X (wq.drewN n) fun x w2 => x = .returned (.slice so bn2 sc) ∧ w2 = wq.drewN n from fun n X hX => hX ▸ (unhide HCb (wq.drewN n) (t4.trans (turn_drewNI _ wq n))).mono fun _ _ h => ⟨h.1, h.2.symm⟩)
          have W4 := hide (And.intro t4 (And.intro hcm5 h04))
          clear t4 hcm4 hcm5 h04 hcm h0 ht x0 x1 z0 z1 z2 z3 a0 a1 b0 b1 C
          go_wp2_with fail
          go_quiet ((first | (go_at_call 37; (first | exact Calls.quiet_of_same (unhide ka _ _ (by rfl)) | exact Calls.quiet_of_same (unhide kb _ _ (by rfl))))))
          go_wp2
          go_roundw
          case rel =>
            obtain ⟨t4, h1, h2⟩ := unhide W4
            have tq := turn_drewNI (fun _ => False) wq nq
            refine ⟨la2, lb2, mn, f.2, ?_⟩
            exact ⟨unhide HSa, unhide HSb, (unhide HUp).1, (unhide HUp).2, (unhide HLe).1, (unhide HLe).2, by have := unhide HSt; rw [hv] at this; exact this, h1.kept tq (fun e => e), h2.kept tq (fun e => e), t4.trans tq⟩
          case measure => simp [lenOf]; exact unhide HMs

end

end Go.Proofs.Ytehbefhpijifjaa
