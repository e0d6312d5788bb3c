/- The law's lists of raw numbers; its known. -/
import Derived.Test.YtehbefhpijifjaaItK
import Derived.Test.YtehbefhpijifjaaItN
import Derived.Deep.RegionHeld
import Derived.Deep.CutRange
import Derived.BigQuiet
import Derived.Deep.CutBlock
namespace Go.Proofs.Ytehbefhpijifjaa
open Go.RowKit

/-- Where the law's list stands. -/
def LsAt (w : World) (out : Value) (k : Nat) (d u : Int) (wr : World) : Prop :=
  ∃ L : List It, IMade w out L wr ∧ Up 0 L ∧ Vp 0 L ∧ L.length = k ∧ lastF (0, 0) L = (d, u) ∧ 0 ≤ d ∧ d ≤ 5 * k ∧ 0 ≤ u ∧ u ≤ 40 * k

theorem wrap64_small {t : Int} (h0 : -1000000 ≤ t) (h1 : t ≤ 1000000) : wrap64 t = t := by
  unfold wrap64
  omega

section
variable {w : World} {lv : Value} {l : List Int}

theorem ints_at {w w' : World} {ao : Option Addr} {n cap : Nat} {l : List Int} (h : IntsAt w w.heap.size (.slice ao n cap) l) (t : Turn (fun _ => False) w w') (k : Nat) (hk : k < l.length) : ∃ a, ao = some a ∧ w'.cell? (a.add k) = some (.int .i64 l[k]) := by
  obtain ⟨a, e, hc, _⟩ := (h.kept t (Nat.le_refl _) (fun _ _ e => e)).at k hk
  exact ⟨a, e, hc⟩

set_option maxHeartbeats 8000000 in
set_option maxRecDepth 100000 in
theorem list_any (h : IntsAt w w.heap.size lv l) : Calls Try.prog 17 #[lv, .bool false] w fun e w' => ∃ v' L, e = .returned v' ∧ IMade w v' L w' ∧ Up 0 L ∧ Vp 0 L ∧ L.length ≤ 6 ∧ (expd 0 L).length ≤ 30 := by
  obtain ⟨ao, cap, rfl, hm⟩ := h.shape
  unfold maxLen at hm
  obtain ⟨len, hlen⟩ : ∃ n, n = l.length := ⟨_, rfl⟩
  have H := hide h
  have HL := hide hlen
  rw [← hlen]
  rw [← hlen] at hm
  clear h hlen
  go_enter Try.func17, Try.ntmps17
  go_wp2_with fail
  go_loopw [5, 6, 7, 8] (fun out d u i wr => ∃ (k : Nat) (x y : Int), i = .int .i64 (2 * k) ∧ d = .int .i64 x ∧ u = .int .i64 y ∧ k ≤ 6 ∧ LsAt w out k x y wr) (fun _ _ _ i _ => 14 - (intOf i).toNat)
  case atStart => exact ⟨0, 0, 0, rfl, rfl, rfl, by omega, [], IMade.nil _, trivial, trivial, rfl, rfl, by omega, by omega, by omega, by omega⟩
  case round =>
    obtain ⟨k, x, y, rfl, rfl, rfl, hk, hls⟩ := hrel
    have hls' := hls
    obtain ⟨L, hmd, hup, hvp, hLl, hlast, hx0, hx5, hy0, hy40⟩ := hls'
    have ht := hmd.2.1
    obtain ⟨oo, oc, ho⟩ := hmd.shape
    rw [hLl] at ho
    by_cases hlt : 2 * (k : Int) + 1 < len ∧ 2 * (k : Int) < 12
    · obtain ⟨hlt, hlt2⟩ := hlt
      have hk1 : 2 * k < l.length := by have := unhide HL; omega
      have hk2 : 2 * k + 1 < l.length := by have := unhide HL; omega
      obtain ⟨a, rfl, hc0⟩ := ints_at (unhide H) ht (2 * k) hk1
      obtain ⟨a', ea, hc1⟩ := ints_at (unhide H) ht (2 * k + 1) hk2
      injection ea with ea
      subst ea
      generalize l[2 * k] = p at *
      generalize l[2 * k + 1] = q at *
      have HS := hide hls
      have T := hide ht
      clear hls hmd hup hvp hlast ht
      subst ho
      go_wp2_with fail
      refine (pick_any p 5 _ (by omega) (by omega)).mono ?_
      rintro e w1 ⟨rfl, rfl⟩
      go_wp2_with fail
      have kp2 := hide (show ∀ n X a, X = #[.int .i64 a, .int .i64 2] → Calls Try.prog 18 X (wr.drewN n) fun e w2 => e = .returned (.int .i64 (a % 2)) ∧ w2 = wr.drewN n from fun n X a hX => hX ▸ ((pick_any a 2 _ (by omega) (by omega)).mono fun _ _ h => ⟨h.1, h.2.symm⟩))
      have kp3 := hide (show ∀ n X a, X = #[.int .i64 a, .int .i64 3] → Calls Try.prog 18 X (wr.drewN n) fun e w2 => e = .returned (.int .i64 (a % 3)) ∧ w2 = wr.drewN n from fun n X a hX => hX ▸ ((pick_any a 3 _ (by omega) (by omega)).mono fun _ _ h => ⟨h.1, h.2.symm⟩))
      have kv := hide (show ∀ n X a b, X = #[.int .i64 a, .int .i64 b] → 1 ≤ a → a ≤ 1099511627776 → Calls Try.prog 25 X (wr.drewN n) fun e w2 => e = .returned (.int .i64 (hverF a (b % 3))) ∧ w2 = wr.drewN n from fun n X a b hX h1 h2 => hX ▸ ((hver_any a b _ h1 h2).mono fun _ _ h => ⟨h.1, h.2.symm⟩))
      go_cut [7] from 28 to 47 (fun u wx => ∃ y' : Int, u = .int .i64 y' ∧ y < y' ∧ y' ≤ y + 40 ∧ Turn (fun _ => False) wr wx)
      case first =>
        have hyc : y = 0 ∨ 1 ≤ y := by omega
        have hyb : y ≤ 240 := by omega
        have hc2 : wr.cell? ⟨a.block, a.off + (2 * k + 1), none⟩ = some (.int .i64 q) := by
          have h := hc1
          unfold Addr.add at h
          rw [if_neg (by omega)] at h
          exact h
        have e1 : IntKind.i64.wrap (2 * (k : Int) + 1) = 2 * (k : Int) + 1 := by rw [IntKind.wrap_i64]; omega
        have e2 : (2 * (k : Int) + 1).toNat = 2 * k + 1 := by omega
        have e3 : 0 ≤ 2 * (k : Int) + 1 := by omega
        have e4 : IntKind.i64.wrap (1 + q % 2) = 1 + q % 2 := by rw [IntKind.wrap_i64]; omega
        have e5 : 1 ≤ y → (if y < 1 then (1 : Int) else y) = y := fun h => if_neg (by omega)
        have e6 : 1 ≤ y → (if 1099511627776 < y then (1099511627776 : Int) else y) = y := fun h => if_neg (by omega)
        rcases hyc with rfl | hyc
        all_goals first | (replace e5 := e5 hyc; replace e6 := e6 hyc) | clear e5 e6
        all_goals (
          go_quiet ((first
            | (go_at_call 18; first | exact Calls.quiet_of_same (unhide kp2 _ _ _ (by rfl)) | exact Calls.quiet_of_same (unhide kp3 _ _ _ (by rfl)))
            | (go_at_call 25; exact Calls.quiet_of_same (unhide kv _ _ _ _ (by rfl) (by first | omega | (split <;> omega)) (by first | omega | (split <;> omega))))))
          go_wp2_with fail
          go_meet
          case rel =>
            have b1 := hverF_is 1 ((1 + q % 2) % 3)
            have b2 := b1.2.2.1 (by omega)
            try have b3 := hverF_is y ((1 + q % 2) % 3)
            try have b4 := b3.2.2.1 (by omega)
            obtain ⟨z, hz⟩ : ∃ z, z = wrap64 (q.tdiv 4) := ⟨_, rfl⟩
            rw [← hz]
            have hz3 : 0 ≤ z % 3 ∧ z % 3 ≤ 2 := by omega
            generalize z % 3 = z3 at *
            clear hz
            rw [wrap64_small (by omega) (by omega)]
            exact ⟨_, rfl, by omega, by omega, turn_drewNI _ _ _⟩)
      case rest =>
        obtain ⟨y', rfl, hy1, hy2, t⟩ := hcut
        obtain ⟨L', hmd, hup, hvp, hLl', hlast, -⟩ := unhide HS
        have hx : (lastF (0, 0) L').1 = x := by rw [hlast]
        have hy : (lastF (0, 0) L').2 = y := by rw [hlast]
        have hmd' := hmd.goes t
        obtain ⟨v2, w2, hr, hm2, -⟩ := hmd'.cat (x + 1 + p % 5, y') (by omega)
        obtain ⟨o2, c2, ev⟩ := hm2.shape
        have Hr := hide hr
        have hfin : LsAt w v2 (k + 1) (x + 1 + p % 5) y' w2 := ⟨L' ++ [(x + 1 + p % 5, y')], hm2, up_snoc (c := (0, 0)) hup (by rw [hx]; show x < x + 1 + p % 5; omega), vp_snoc (c := (0, 0)) hvp (by rw [hy]; exact hy1), by simp [hLl'], lastF_snoc _ _ _, by omega, by omega, by omega, by omega⟩
        have Hf := hide hfin
        generalize (L' ++ [((x + 1 + p % 5, y') : It)]).length = n2 at ev
        clear hr hm2 hmd hmd' hup hvp hlast hx hy hfin kp2 kp3 kv hc0 hc1 HS H hLl' hLl
        subst ev
        go_wp2_with (at_builtin; refine wpList_append_run rfl (.tmp 76) (.tmp 80) 24 rfl _ _ _ w2 rfl rfl (unhide Hr) ?_)
        go_roundw
        case rel => exact ⟨k + 1, _, _, by go_num, rfl, rfl, by omega, unhide Hf⟩
        case measure => simp [intOf]; omega
    · have hexp : (expd 0 L).length ≤ 30 := by
        have := lastF_len ((0, 0) : It) L hup
        rw [hlast] at this
        simp only at this
        omega
      have Hf := hide (And.intro hmd (And.intro hup (And.intro hvp hexp)))
      have hL6 : L.length ≤ 6 := by omega
      clear hmd hup hvp hexp hls hlast ht hLl H
      subst ho
      by_cases h1 : 2 * (k : Int) + 1 < len
      · have h2 : ¬ 2 * (k : Int) < 12 := fun h => hlt ⟨h1, h⟩
        clear hlt
        go_wp2_with fail
        go_ret
        exact ⟨_, rfl, L, (unhide Hf).1, (unhide Hf).2.1, (unhide Hf).2.2.1, hL6, (unhide Hf).2.2.2⟩
      · clear hlt
        go_wp2_with fail
        go_ret
        exact ⟨_, rfl, L, (unhide Hf).1, (unhide Hf).2.1, (unhide Hf).2.2.1, hL6, (unhide Hf).2.2.2⟩

end

end Go.Proofs.Ytehbefhpijifjaa
