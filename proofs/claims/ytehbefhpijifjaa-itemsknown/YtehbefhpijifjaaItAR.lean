/- items' Read. -/
import Derived.Test.YtehbefhpijifjaaItA
namespace Go.Proofs.Ytehbefhpijifjaa
open Go.RowKit

section
variable {w : World} {v : Value}

set_option maxHeartbeats 4000000 in
set_option maxRecDepth 100000 in
theorem iread_any {g n cap : Nat} {bs : List UInt8} (hv : v = .slice (some ⟨g, 0, none⟩) n cap) (hn : n = bs.length) (h : Sees w v bs) (hb : n ≤ 1000) (hcap : n ≤ cap) (hcm : cap ≤ maxLen) (hr : rightL (0, 0) (toldI bs ((n - 2) / 10)) = true) : Calls Try.prog 10 #[v] w fun e w' =>
    ((layI (toldI bs ((n - 2) / 10)) = bs ∧ ∃ v', e = .returned (.tuple #[v', .int .i64 0]) ∧ IMade w v' (toldI bs ((n - 2) / 10)) w') ∨ (¬ layI (toldI bs ((n - 2) / 10)) = bs ∧ e = .returned (.tuple #[.slice none 0 0, .int .i64 5]))) ∧ Turn (fun _ => False) w w' := by
  have HT := hide (told_any hv hn h hb hcap hcm)
  have hTl : (toldI bs ((n - 2) / 10)).length ≤ 200 := by rw [toldI_length]; omega
  obtain ⟨T, hT⟩ : ∃ T, T = toldI bs ((n - 2) / 10) := ⟨_, rfl⟩
  rw [← hT] at HT hr hTl ⊢
  clear hT
  have H := hide h
  subst hv
  clear h hn hb hcap hcm
  go_enter Try.func10, Try.ntmps10
  go_wp2_with fail
  refine (unhide HT).mono ?_
  rintro e w1 ⟨v1, rfl, m1⟩
  have HLay := hide (ilay_any m1.1.sees hTl)
  obtain ⟨o1, c1, e1⟩ := m1.shape
  have M1 := hide m1
  obtain ⟨tn, htn⟩ : ∃ k, k = T.length := ⟨_, rfl⟩
  rw [← htn] at e1
  clear m1 HT htn
  subst e1
  go_wp2_with fail
  refine (unhide HLay).mono ?_
  rintro e w2 (⟨-, v2, rfl, m2⟩ | ⟨hno, -⟩)
  rotate_left 1
  · rw [hr] at hno; cases hno
  have hs2 := (unhide H).kept ((unhide M1).2.1.trans m2.2.1) (fun _ _ e => e)
  have HE := hide (iequal_any v2 _ (layI T) bs w2 m2.1.sees hs2)
  have M2 := hide ((unhide M1).goes m2.2.1)
  obtain ⟨o2, c2, e2⟩ := m2.1.shape
  generalize (layI T).length = ln at e2
  clear m2 HLay hs2 M1
  subst e2
  by_cases he : layI T = bs
  · rw [decide_eq_true he] at HE
    go_wp2_with (go_at_call 32; refine (unhide HE).mono ?_; rintro e w3 ⟨rfl, rfl⟩)
    refine bodyPost_ret (results_tmp2 rfl _ _ _) rfl ?_
    exact ⟨.inl ⟨he, _, rfl, unhide M2⟩, (unhide M2).2.1⟩
  · rw [decide_eq_false he] at HE
    go_wp2_with (go_at_call 32; refine (unhide HE).mono ?_; rintro e w3 ⟨rfl, rfl⟩)
    refine bodyPost_ret (results_tmp2 rfl _ _ _) rfl ?_
    exact ⟨.inr ⟨he, rfl⟩, (unhide M2).2.1⟩

end

end Go.Proofs.Ytehbefhpijifjaa
