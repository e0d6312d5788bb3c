/- The reference's items and Of. -/
import Derived.Test.YtehbefhpijifjaaItO
import Derived.BigQuiet
namespace Go.Proofs.Ytehbefhpijifjaa
open Go.RowKit

section
variable {w : World} {v : Value} {vs : List Int}

set_option maxHeartbeats 8000000 in
set_option maxRecDepth 100000 in
theorem refItems_any (w0 : World) (f : Int) (h : NMade w0 v vs w) (hfb : 1 ≤ f ∧ f ≤ 20) (hl : vs.length ≤ 40) : Calls Try.prog 40 #[v, .int .i64 f] w fun e w' => ∃ v', e = .returned v' ∧ IMade w v' (pushes [] f vs) w' := by
  obtain ⟨ao, cap, rfl⟩ := h.shape
  obtain ⟨len, hlen⟩ : ∃ n, n = vs.length := ⟨_, rfl⟩
  obtain ⟨res, hres⟩ : ∃ r, r = pushes [] f vs := ⟨_, rfl⟩
  have H := hide h
  have HL := hide hlen
  have R := hide hres
  rw [← hres, ← hlen]
  rw [← hlen] at hl
  clear h hlen hres
  go_enter Try.func40, Try.ntmps40
  go_wp2_with fail
  go_loopw [5, 6, 7] (fun out i _ wr => ∃ k : Nat, i = .int .i64 k ∧ k ≤ len ∧ OfAt w res f vs out k wr) (fun _ i _ _ => len - (intOf i).toNat)
  case atStart => exact ⟨0, rfl, by omega, [], IMade.nil _, by rw [unhide R]; simp, by simp⟩
  case round =>
    obtain ⟨k, rfl, hk, L, hmd, hpu, hLk⟩ := hrel
    obtain ⟨oo, oc, ho⟩ := hmd.shape
    obtain ⟨ln, hln⟩ : ∃ n, n = L.length := ⟨_, rfl⟩
    rw [← hln] at ho
    by_cases hlt : k < len
    · have hkv : k < vs.length := by have := unhide HL; omega
      have hat := fun (w' : World) (t : Turn (fun _ => False) w w') => ((unhide H).goes t).at k hkv
      obtain ⟨g, rfl, a0⟩ := hat wr hmd.2.1
      have hnx := fun (v2 : Value) (w2 : World) (m : IMade w v2 (pushR L (f + k, vs[k])) w2) => OfAt.next (w := w) (f := f) (v2 := v2) (w2 := w2) hpu hLk hkv m (pushR_len' _ L)
      have hatk := hide (show ∀ w', Turn (fun _ => False) w w' → w'.cell? ⟨g, k, none⟩ = some (.int .i64 vs[k]) from fun w' t => by
        obtain ⟨g2, e, hc⟩ := hat w' t
        injection e with e
        simp only [Addr.mk.injEq, and_true] at e
        subst e
        exact hc)
      obtain ⟨x, hx⟩ : ∃ x, x = vs[k] := ⟨_, rfl⟩
      rw [← hx] at a0 hnx hatk
      have hp := pushR_is (0, 0) (f + (k : Int), x) L
      simp only at hp
      have q1 : (k : Int) < len := by omega
      have NX := hide hnx
      have MD := hide hmd
      have HLk := hide (And.intro hLk hln)
      clear hat hnx hx hpu hkv
      by_cases h0 : 0 < L.length
      case neg =>
        have hl0 : ln = 0 := by omega
        rw [if_neg (fun h => h0 h.1)] at hp
        subst hl0 ho
        have HP := hide hp
        clear hp hmd h0 hln hLk
        go_wp2_with fail
        go_quiet ((fail))
        have m2 := (unhide MD).goes (turn_drewNI _ wr nq)
        have b0 := unhide hatk _ m2.2.1
        obtain ⟨v2, w2, hr2, m3, -⟩ := m2.cat (f + (k : Int), x) (by have := (unhide HLk).1; omega)
        obtain ⟨o3, c3, e3⟩ := m3.shape
        have hof := unhide NX v2 w2 (by rw [unhide HP]; exact m3)
        have HO := hide hof
        have R2 := hide hr2
        generalize (L ++ [((f + (k : Int), x) : It)]).length = n3 at *
        clear m2 hr2 m3 hof a0
        subst e3
        generalize wr.drewN nq = wq at *
        go_wp2_with (at_builtin; refine wpList_append_run rfl (.tmp 39) (.tmp 48) 24 rfl _ _ _ w2 rfl rfl (unhide R2) ?_)
        go_roundw
        case rel => exact ⟨k + 1, by go_num, by omega, unhide HO⟩
        case measure => simp [intOf]; omega
      case pos =>
        have hput := hmd.1.put (L.length - 1) (by omega) (f + (k : Int), x)
        obtain ⟨g3, cap3, ev, -, -, c0, c1, -, -⟩ := hput
        have hlast := lastF_get (0, 0) L h0
        rw [List.getElem?_eq_getElem (by omega)] at hlast
        injection hlast with hlast
        rw [hlast] at c0 c1
        rw [ho] at ev
        injection ev with e1 e2 e3
        subst e1
        obtain ⟨y, hy⟩ : ∃ y, y = (lastF (0, 0) L).2 := ⟨_, rfl⟩
        rw [← hy] at c1 hp
        have hln0 : 0 < ln := by omega
        clear e2 e3
        have e4 : IntKind.i64.wrap ((ln : Int) - 1) = ((ln - 1 : Nat) : Int) := by
          have := hLk
          rw [IntKind.wrap_i64]
          omega
        have e5 : ln - 1 < ln := by omega
        by_cases hyx : y = x
        · rw [if_pos ⟨h0, hyx⟩] at hp
          have q2 : (y == x) = true := by simpa using hyx
          have hyL : (L[L.length - 1]'(by omega)).2 = x := by rw [hlast, ← hy]; exact hyx
          subst ho
          have hput2 := hide (show ∀ w2, Turn (fun _ => False) wr w2 → w2.frozen? ⟨g3, (ln - 1) * 2, none⟩ = false ∧ (∃ u, w2.cell? ⟨g3, (ln - 1) * 2, none⟩ = some u) ∧ IMade w (.slice (some ⟨g3, 0, none⟩) ln oc) (pushR L (f + (k : Int), x)) (w2.setCell ⟨g3, (ln - 1) * 2, none⟩ (.int .i64 (f + (k : Int)))) from fun w2 t => by
            have hg := hmd.goes t
            obtain ⟨g4, cap4, ev4, z0, -, z1, -, -, z3⟩ := hg.1.put (L.length - 1) (by omega) (f + (k : Int), x)
            have ev5 := congrArg slab ev4
            simp only [slab, Option.some.injEq] at ev5
            subst ev5
            subst hln
            refine ⟨z0, ⟨_, z1⟩, ?_⟩
            rw [hp]
            refine ⟨z3 ?_, hg.2.1.setCell (p := ⟨g3, (L.length - 1) * 2, none⟩) (.inr (hg.2.2 g3 rfl)) _, hg.2.2⟩
            exact hyL)
          have hlq := hide hln
          rw [show L.length - 1 = ln - 1 by rw [hln]] at c0 c1
          clear hp hmd hln hLk hlast hy hyL
          go_wp2_with fail
          go_quiet ((fail))
          obtain ⟨z0, ⟨u, z1⟩, hof⟩ := unhide hput2 _ (turn_drewNI _ wr nq)
          have HO := hide (unhide NX _ _ hof)
          clear hof c0 c1 a0
          generalize wr.drewN nq = wq at *
          have hkb : f + (k : Int) ≤ 100 := by omega
          go_wp2_with fail
          go_roundw
          case rel => exact ⟨k + 1, by go_num, by omega, unhide HO⟩
          case measure => simp [intOf]; omega
        · rw [if_neg (fun h => hyx h.2)] at hp
          have q2 : (y == x) = false := by simpa using hyx
          have HP := hide hp
          have hlq := hide hln
          rw [show L.length - 1 = ln - 1 by rw [hln]] at c0 c1
          clear hp hmd hln hLk hlast hy
          subst ho
          go_wp2_with fail
          go_quiet ((fail))
          have m2 := (unhide MD).goes (turn_drewNI _ wr nq)
          have b0 := unhide hatk _ m2.2.1
          obtain ⟨v2, w2, hr2, m3, -⟩ := m2.cat (f + (k : Int), x) (by have := (unhide HLk).1; omega)
          obtain ⟨o3, c3, e3⟩ := m3.shape
          have hof := unhide NX v2 w2 (by rw [unhide HP]; exact m3)
          have HO := hide hof
          have R2 := hide hr2
          generalize (L ++ [((f + (k : Int), x) : It)]).length = n3 at *
          clear m2 hr2 m3 hof a0 c0 c1
          subst e3
          generalize wr.drewN nq = wq at *
          go_wp2_with (at_builtin; refine wpList_append_run rfl (.tmp 39) (.tmp 48) 24 rfl _ _ _ w2 rfl rfl (unhide R2) ?_)
          go_roundw
          case rel => exact ⟨k + 1, by go_num, by omega, unhide HO⟩
          case measure => simp [intOf]; omega
    · obtain rfl : k = len := by omega
      have q1 : ¬ (k : Int) < k := by omega
      rw [List.drop_of_length_le (by have := unhide HL; omega), pushes] at hpu
      subst hpu
      clear hln
      have MD := hide hmd
      clear hmd
      subst ho
      go_wp2_with fail
      go_ret
      exact ⟨_, rfl, unhide MD⟩

set_option maxHeartbeats 8000000 in
set_option maxRecDepth 100000 in
theorem refOf_any {l : List It} (w0 : World) (f : Int) (h : EMade w0 v l w) (hf : ∀ e, l[0]? = some e → e.1 = f) (hfb : 1 ≤ f ∧ f ≤ 20) (hl : l.length ≤ 40) : Calls Try.prog 24 #[v] w fun e w' => ∃ v', e = .returned v' ∧ IMade w v' (pushes [] f (l.map (·.2))) w' := by
  obtain ⟨ao, cap, rfl⟩ := h.shape
  obtain ⟨len, hlen⟩ : ∃ n, n = l.length := ⟨_, rfl⟩
  have H := hide h
  have HL := hide hlen
  have R := hide hf
  rw [← hlen]
  rw [← hlen] at hl
  clear h hlen hf
  go_enter Try.func24, Try.ntmps24
  go_wp2_with fail
  go_loopw [3, 4] (fun out i wr => ∃ k : Nat, i = .int .i64 k ∧ k ≤ len ∧ NMade w out ((l.map (·.2)).take k) wr) (fun _ i _ => len - (intOf i).toNat)
  case atStart => exact ⟨0, rfl, by omega, by simpa using NMade.nil w⟩
  case round =>
    obtain ⟨k, rfl, hk, hm⟩ := hrel
    obtain ⟨oo, oc, ho⟩ := hm.shape
    have hkn : ((l.map (·.2)).take k).length = k := by have := unhide HL; simp; omega
    rw [hkn] at ho
    by_cases hlt : k < len
    · have hkl : k < l.length := by have := unhide HL; omega
      obtain ⟨g, rfl, hc⟩ := ((unhide H).goes hm.2.1).at k hkl
      have a1 := hc 1 _ (by omega) rfl
      obtain ⟨v2, w2, hr2, m2⟩ := hm.cat l[k].2 (by omega)
      have htk : (l.map (·.2)).take (k + 1) = (l.map (·.2)).take k ++ [l[k].2] := by
        rw [List.take_succ_eq_append_getElem (by simpa using hkl)]
        simp
      rw [← htk] at m2
      generalize l[k].2 = x at *
      obtain ⟨o2, c2, e2⟩ := m2.shape
      have M2 := hide m2
      have R2 := hide hr2
      generalize ((l.map (·.2)).take (k + 1)).length = n2 at e2
      have q1 : (k : Int) < len := by omega
      clear hc hm m2 hr2 htk hkn
      subst ho e2
      go_wp2_with (at_builtin; refine wpList_append_run rfl (.tmp 11) (.tmp 17) 38 rfl _ _ _ w2 rfl rfl (unhide R2) ?_)
      go_roundw
      case rel => exact ⟨k + 1, by go_num, by omega, unhide M2⟩
      case measure => simp [intOf]; omega
    · obtain rfl : k = len := by omega
      have q1 : ¬ (k : Int) < k := by omega
      have hall : (l.map (·.2)).take k = l.map (·.2) := List.take_of_length_le (by have := unhide HL; simp; omega)
      rw [hall] at hm
      by_cases h0 : k = 0
      · have hl0 : l = [] := List.eq_nil_of_length_eq_zero (by have := unhide HL; omega)
        subst hl0 h0
        have T := hide hm.2.1
        clear hm
        subst ho
        go_wp2_with fail
        go_ret
        exact ⟨_, rfl, (IMade.nil _).back (unhide T)⟩
      · obtain ⟨g, rfl, hc⟩ := ((unhide H).goes hm.2.1).at 0 (by have := unhide HL; omega)
        have f0 : (l[0]'(by have := unhide HL; omega)).1 = f := (unhide R) _ (List.getElem?_eq_getElem (by have := unhide HL; omega))
        have d0 := hc 0 _ (by omega) rfl
        simp only [Nat.zero_mul, Nat.zero_add] at d0
        rw [f0] at d0
        have HI := hide (refItems_any w f hm hfb (by have := unhide HL; simp; omega))
        have T := hide hm.2.1
        have q2 : ((k : Int) == 0) = false := by rw [beq_eq_false_iff_ne]; omega
        have hml : (l.map (·.2)).length = k := by have := unhide HL; simp; omega
        clear hm hc f0 hall hkn
        subst ho
        go_wp2_with fail
        refine (unhide HI).mono ?_
        rintro e w5 ⟨v5, rfl, m5⟩
        obtain ⟨o5, c5, e5⟩ := m5.shape
        have M5 := hide (m5.back (unhide T))
        generalize (pushes [] f (l.map (·.2))).length = n5 at e5
        clear m5
        subst e5
        go_wp2
        go_ret
        exact ⟨_, rfl, unhide M5⟩

end

end Go.Proofs.Ytehbefhpijifjaa
