/- The law of the items of events. -/
import Derived.Test.YtehbefhpijifjaaItU
import Derived.Test.YtehbefhpijifjaaItX
namespace Go.Proofs.Ytehbefhpijifjaa
open Go.RowKit

/-- Where the law's loop stands. -/
def OwAt (w : World) (f : Int) (out : Value) (k : Nat) (wr : World) : Prop :=
  ∃ L, EMade w out L wr ∧ L.length = k ∧ ∀ e, L[0]? = some e → e.1 = f

section
variable {w : World} {vv : Value} {l : List Int}

set_option maxHeartbeats 8000000 in
set_option maxRecDepth 100000 in
theorem itemsOf_any (first : Int) (hL : IntsAt w w.heap.size vv l) : Calls Try.prog 5 #[.int .i64 first, vv] w fun e w' => e = .returned (.bool true) ∧ Turn (fun _ => False) w w' := by
  obtain ⟨al, lc, rfl, hlm⟩ := hL.shape
  unfold maxLen at hlm
  have H := hide hL
  obtain ⟨ln, hln⟩ : ∃ n, n = l.length := ⟨_, rfl⟩
  have HLn := hide hln
  rw [← hln] at hlm ⊢
  clear hL hln
  obtain ⟨f, hf⟩ : ∃ f : Int, f = 1 + first % 20 := ⟨_, rfl⟩
  have hfb : 1 ≤ f ∧ f ≤ 20 := by omega
  have HF := hide hf
  clear hf
  go_enter Try.func5, Try.ntmps5
  go_wp2_with fail
  refine (pick_any first 20 _ (by omega) (by omega)).mono ?_
  rintro e w1 ⟨rfl, rfl⟩
  go_wp2_with fail
  rw [← unhide HF]
  go_loopw [5, 6] (fun out i wr => ∃ k : Nat, i = .int .i64 k ∧ k ≤ 40 ∧ OwAt w f out k wr) (fun _ i _ => 40 - (intOf i).toNat)
  case atStart => exact ⟨0, rfl, by omega, [], EMade.nil _, rfl, by simp⟩
  case round =>
    obtain ⟨k, rfl, hk, L, hm, hLl, hL0⟩ := hrel
    obtain ⟨oo, oc, ho⟩ := hm.shape
    rw [hLl] at ho
    obtain ⟨cb, hcb⟩ : ∃ cb, cb = decide (k < ln ∧ k < 40) := ⟨_, rfl⟩
    have CB := hide hcb
    have M := hide (And.intro hm (And.intro hLl hL0))
    clear hm hLl hL0
    subst ho
    go_upto_region 4 with fail
    go_cut [17] from 10 to 17 (fun c wx => c = .bool cb ∧ wx = wr)
    case first =>
      by_cases h1 : k < ln
      · by_cases h2 : k < 40
        · have hc : cb = true := by rw [hcb, decide_eq_true ⟨h1, h2⟩]
          subst hc
          clear hcb
          have q1 : (k : Int) < ln := by omega
          have q2 : (k : Int) < 40 := by omega
          go_wp2_with fail
          go_meet
          case rel => exact ⟨rfl, rfl⟩
        · have hc : cb = false := by rw [hcb, decide_eq_false (fun h => h2 h.2)]
          subst hc
          clear hcb
          have q1 : (k : Int) < ln := by omega
          have q2 : ¬ (k : Int) < 40 := by omega
          go_wp2_with fail
          go_meet
          case rel => exact ⟨rfl, rfl⟩
      · have hc : cb = false := by rw [hcb, decide_eq_false (fun h => h1 h.1)]
        subst hc
        clear hcb
        have q1 : ¬ (k : Int) < ln := by omega
        go_wp2_with fail
        go_meet
        case rel => exact ⟨rfl, rfl⟩
    case rest =>
      obtain ⟨rfl, rfl⟩ := hcut
      rcases cb with _ | _
      · clear hcb CB
        obtain ⟨hm, hLl, hL0⟩ := unhide M
        have KO := hide (show ∀ w', Turn (fun _ => False) wc w' → _ from fun w' t => of_any w f (hm.goes t) hL0 hfb (by omega))
        have KR := hide (show ∀ w', Turn (fun _ => False) wc w' → _ from fun w' t => refOf_any w f (hm.goes t) hL0 hfb (by omega))
        have Tw := hide hm.2.1
        have hpl : ∀ (vs : List Int) (L : List It) (i : Int), (pushes L i vs).length ≤ L.length + vs.length := by
          intro vs
          induction vs with
          | nil => intro L i; simp [pushes]
          | cons x r ih =>
            intro L i
            have h1 := ih (pushR L (i, x)) (i + 1)
            have h2 := pushR_len' (i, x) L
            simp only [pushes, List.length_cons]
            omega
        have hPl := hpl (L.map (·.2)) [] f
        obtain ⟨P, hP⟩ : ∃ P, P = pushes [] f (L.map (·.2)) := ⟨_, rfl⟩
        rw [← hP] at KO KR hPl
        have hPb : P.length ≤ 40 := by simp at hPl; omega
        have KS := hide (show ∀ w' a b, ISees w' a P → ISees w' b P → Calls Try.prog 22 #[a, b] w' fun e w'' => e = .returned (.bool true) ∧ Turn (fun _ => False) w' w'' from fun w' a b ha hb => by
          have h := same_any ha hb (by omega) (by omega)
          rw [decide_eq_true rfl] at h
          exact h)
        clear hm hLl hL0 hpl hPl hP hPb M
        go_wp2_with fail
        refine (iknown_any wc).mono ?_
        rintro e wb ⟨rfl, tb⟩
        have Tb := hide tb
        clear tb
        go_wp2_with fail
        refine (unhide KO _ (unhide Tb)).mono ?_
        rintro e wd ⟨va, rfl, ma⟩
        obtain ⟨ao, ac, ea⟩ := ma.shape
        have MA := hide ma
        have Td := hide ((unhide Tb).trans ma.2.1)
        obtain ⟨pn, hpn⟩ : ∃ n, n = P.length := ⟨_, rfl⟩
        rw [← hpn] at ea
        have HPn := hide hpn
        clear ma hpn
        subst ea
        go_wp2_with fail
        refine (unhide KR _ (unhide Td)).mono ?_
        rintro e we ⟨vb, rfl, mb⟩
        obtain ⟨bo, bc, eb⟩ := mb.shape
        have MB := hide mb
        rw [← unhide HPn] at eb
        clear mb
        subst eb
        go_wp2_with fail
        refine (unhide KS _ _ _ ((unhide MA).1.sees.kept (unhide MB).2.1 (fun _ _ e => e)) (unhide MB).1.sees).mono ?_
        rintro e wf ⟨rfl, tf⟩
        have Tf := hide ((((unhide Tw).trans (unhide Td)).trans (unhide MB).2.1).trans tf)
        clear tf
        go_wp2
        go_ret
        exact ⟨rfl, unhide Tf⟩
      · obtain ⟨hlt, hlt40⟩ := of_decide_eq_true (unhide CB).symm
        clear hcb CB
        have hkl : k < l.length := by have := unhide HLn; omega
        obtain ⟨hm, hLl, hL0⟩ := unhide M
        obtain ⟨a, rfl, hc0⟩ := ints_at (unhide H) hm.2.1 k hkl
        generalize l[k] = p at *
        obtain ⟨v2, w2, hr2, m2⟩ := hm.cat (f + (k : Int), 1 + p % 3) (by omega)
        have hof : OwAt w f v2 (k + 1) w2 := by
          refine ⟨_, m2, by simp [hLl], fun e he => ?_⟩
          by_cases h0 : k = 0
          · have hl0 : L = [] := List.eq_nil_of_length_eq_zero (by omega)
            subst hl0 h0
            simp at he
            rw [← he]
          · rw [List.getElem?_append_left (by omega)] at he
            exact hL0 e he
        obtain ⟨o2, c2, e2⟩ := m2.shape
        have HO := hide hof
        have R2 := hide hr2
        generalize (L ++ [((f + (k : Int), 1 + p % 3) : It)]).length = n2 at e2
        have q1 : (k : Int) < ln := by omega
        have q2 : (k : Int) < 40 := by omega
        clear hm hLl hL0 m2 hr2 hof M H
        subst e2
        go_wp2_with fail
        refine (pick_any p 3 _ (by omega) (by omega)).mono ?_
        rintro e w3 ⟨rfl, rfl⟩
        go_wp2_with (at_builtin; refine wpList_append_run rfl (.tmp 20) (.tmp 31) 43 rfl _ _ _ w2 rfl rfl (unhide R2) ?_)
        go_roundw
        case rel => exact ⟨k + 1, by go_num, by omega, unhide HO⟩
        case measure => simp [intOf]; omega

end

end Go.Proofs.Ytehbefhpijifjaa
