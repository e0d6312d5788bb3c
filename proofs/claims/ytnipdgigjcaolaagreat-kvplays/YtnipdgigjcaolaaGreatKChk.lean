/- kv's Checkpoint. -/
import Derived.Test.YtnipdgigjcaolaaGreatPkU
import Derived.Test.YtnipdgigjcaolaaGreatWRem
namespace Go.Proofs.YtnipdgigjcaolaaGreat
open Go.RowKit

section
variable {w0 w w1 : World} {K Q : Nat → Prop} {sb mb l b f t N : Nat} {s : WSt} {m : List (List UInt8 × List UInt8)}

/-- The records of a checkpoint. -/
def recsOf (m : List (List UInt8 × List UInt8)) : List (List UInt8) := (madeC m).map Chg.laid

/-- What Checkpoint comes to. -/
def KCk (w0 : World) (K : Nat → Prop) (w : World) (sb mb l b f t N M : Nat) (s : WSt) (m : List (List UInt8 × List UInt8)) (e : Ending) (w' : World) : Prop :=
  Turn (KOuts w0 K sb mb) w w' ∧ ∃ K' : Nat → Prop, (∀ j, K j → K' j) ∧ ∃ ns, ((s.kept (recsOf m)).1 = 0 → (s.kept (recsOf m)).2.d.Nums ns) ∧
  (((s.checkpoint (recsOf m) ns).1 ≠ 0 ∧ e = .returned (.int .i64 14) ∧ KD w0 K' w' sb l b f t (N + M + 3) (s.checkpoint (recsOf m) ns).2) ∨
   ((s.checkpoint (recsOf m) ns).1 = 0 ∧ e = .returned (.int .i64 0) ∧ KS w0 K' w' sb mb l b f t (N + M + 3) (s.checkpoint (recsOf m) ns).2 m))

set_option maxHeartbeats 8000000 in
set_option maxRecDepth 100000 in
theorem kcheckpoint_any (M : Nat) (h : KS w0 K w sb mb l b f t N s m) (hok : s.Ok) (hml : m.length ≤ 100000) (hN : N + M ≤ 1073741820) (hM : ∀ ns, (s.kept (recsOf m)).2.d.Nums ns → ns.length ≤ M)
    (hsz : (s.d.now s.place).length + (laidOf 3 4 (recsOf m)).length ≤ 140737488355328) :
    Calls Tryz.prog 27 #[.pointer (some ⟨sb, 0, none⟩)] w (KCk w0 K w sb mb l b f t N M s m) := by
  have c2 : w.cell? ⟨sb, 2, none⟩ = some (.bool false) := h.at'.cell 2
  have HMd := hide (kmade_any h hml)
  have H := hide h
  have Hok := hide hok
  have Hsz := hide hsz
  have HM := hide hM
  clear h hok hsz hM
  go_enter Tryz.func27, Tryz.ntmps27
  go_wp2_with fail
  refine (unhide HMd).mono ?_
  rintro e w1 ⟨v1, cl, rfl, hcm, hcl⟩
  have hcll : cl.length = m.length := by
    have := congrArg List.length hcl
    simpa [madeC] using this
  have hheld : ∀ j, grow K w w1 j → j < w1.heap.size := fun j hj => by
    rcases hj with hj | hj
    · have := ((unhide H).li.held j hj).2
      have := hcm.turn.size
      omega
    · exact hj.2
  have HLy := hide (layC_any v1 cl w1 (hcm.toCLs (by omega)) hheld (by omega))
  rw [hcl] at HLy
  obtain ⟨o1, p1, e1⟩ := hcm.shape
  have T1 := hide hcm.turn
  generalize cl.length = n1 at e1
  subst e1
  clear HMd hcm hcl hcll hheld
  go_wp2_with fail
  refine (unhide HLy).mono ?_
  rintro e w2 (⟨hall, v2, rl, rfl, hrm, hrl⟩ | ⟨hall, _, _⟩)
  rotate_left 1
  · rw [made_ok (unhide H).fit] at hall
    cases hall
  have hks := (unhide H).goes ((unhide T1).trans hrm.turn)
  have c0 : w2.cell? ⟨sb, 0, none⟩ = some (.pointer (some ⟨l, 0, none⟩)) := hks.at'.cell 0
  have hno : ¬ tooLong rl := fun ⟨p, hp, hlong⟩ => by
    have hin : p.2 ∈ (madeC m).map Chg.laid := by rw [← hrl]; exact List.mem_map.2 ⟨p, hp, rfl⟩
    obtain ⟨c, hcin, hce⟩ := List.mem_map.1 hin
    have := Chg.laid_le c (List.all_eq_true.1 hall c hcin)
    rw [hce] at this
    omega
  have hrl' : rl.map (·.2) = recsOf m := hrl
  have hw1 := (unhide T1).size
  have HCk := hide (checkpoint_any M hks.li (unhide Hok) hrm.toRL (fun j hj => .inr (hj.elim (fun e => e.elim) (fun e => .inr ⟨by omega, e.2⟩))) hno hN (by rw [hrl']; exact unhide HM) (by rw [hrl']; exact unhide Hsz))
  rw [hrl'] at HCk
  obtain ⟨o2, p2, e2⟩ := hrm.shape
  have H2 := hide hks
  have T2 := hide ((unhide T1).trans hrm.turn)
  generalize rl.length = n2 at e2
  subst e2
  clear HLy hrm hrl hrl' hno hall hks
  go_wp2_with fail
  refine (unhide HCk).mono ?_
  rintro e w3 ⟨ns, hns, rfl, hli, t3⟩
  have h3 := (unhide H2).logged hli t3
  have T3 : Hid (Turn (KOuts w0 K sb mb) w w3) := hide (((unhide T2).mono (fun _ _ e => e.elim)).trans' t3 (fun i _ e => .inl ⟨e.1, fun hk => e.2 (.inl hk)⟩))
  have Hend : Hid (∀ (K' : Nat → Prop) e w', Turn (KOuts w0 K sb mb) w w' → (∀ j, K j → K' j) → (((s.checkpoint (recsOf m) ns).1 ≠ 0 ∧ e = .returned (.int .i64 14) ∧ KD w0 K' w' sb l b f t (N + M + 3) (s.checkpoint (recsOf m) ns).2) ∨
   ((s.checkpoint (recsOf m) ns).1 = 0 ∧ e = .returned (.int .i64 0) ∧ KS w0 K' w' sb mb l b f t (N + M + 3) (s.checkpoint (recsOf m) ns).2 m)) → KCk w0 K w sb mb l b f t N M s m e w') := hide (fun K' e w' ht hk hh => ⟨ht, K', hk, ns, hns, hh⟩)
  have H3 := hide h3
  clear HCk hli t3 h3 hns H2
  by_cases hz : (s.checkpoint (recsOf m) ns).1 = 0
  · have hz' : ((s.checkpoint (recsOf m) ns).1 != 0) = false := by simpa using hz
    have Hfin := hide (unhide Hend _ _ _ (unhide T3) (fun j hj => .inl hj) (.inr ⟨hz, rfl, unhide H3⟩))
    clear hz H3
    generalize (s.checkpoint (recsOf m) ns).1 = r at *
    go_wp2
    go_ret
    exact unhide Hfin
  · have hz' : ((s.checkpoint (recsOf m) ns).1 != 0) = true := by simpa using hz
    have HFl := hide (fall_any (unhide H3))
    have Hz := hide hz
    clear hz H3
    generalize hr : (s.checkpoint (recsOf m) ns).1 = r at *
    clear hr
    go_wp2_with fail
    refine (unhide HFl).mono ?_
    rintro e w4 ⟨rfl, hkd, t4⟩
    have Hfin := hide (unhide Hend _ _ w4 ((unhide T3).trans' t4 (fun _ _ e => .inr (.inl e))) (fun j hj => .inl (.inl hj)) (.inl ⟨unhide Hz, rfl, hkd⟩))
    clear hkd t4 HFl
    go_wp2
    go_ret
    exact unhide Hfin

end

end Go.Proofs.YtnipdgigjcaolaaGreat
