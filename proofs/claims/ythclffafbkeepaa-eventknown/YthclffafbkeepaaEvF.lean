/- Package event's own rightForType. -/
import Derived.Test.YthclffafbkeepaaEvC
import Derived.Test.YthclffafbkeepaaEvE
import Derived.Test.YthclffafbkeepaaEvR
namespace Go.Proofs.Ythclffafbkeepaa
open Go.RowKit

/-- Whether an event has what its type names, and that alone. -/
def typeB (x : EvP) : Bool :=
  if x.kind = 1 then defsB x.defs && onlyB x { zeroE with defs := x.defs }
  else if x.kind = 2 ∨ x.kind = 4 then (inB x.node 0 7 && inB x.n 1 5) && onlyB x { zeroE with node := x.node, n := x.n }
  else if x.kind = 3 then (inB x.node 0 7 && inB x.n 1 5) && (decide (x.data.length ≤ 40) && onlyB x { zeroE with node := x.node, n := x.n, data := x.data })
  else if x.kind = 5 then nameB x.name && (inB x.n 1 1048576 && onlyB x { zeroE with name := x.name, n := x.n })
  else if x.kind = 6 then nameB x.name && onlyB x { zeroE with name := x.name }
  else if x.kind = 7 then nameB x.name && (decide (x.data.length ≤ 40) && onlyB x { zeroE with name := x.name, data := x.data })
  else if 8 ≤ x.kind ∧ x.kind ≤ 12 then onlyB x zeroE
  else false

theorem onlyB_is (x m : EvP) : onlyB x m = (decide (x.node = m.node) && decide (x.n = m.n) && (x.name.toList == m.name.toList) && decide (x.data = m.data) && decide (x.defs = m.defs)) := by
  unfold onlyB sameE onlyV
  simp

theorem nil_length {α : Type} (l : List α) : (l = []) ↔ l.length = 0 := by
  cases l <;> simp

theorem toList_nil (xs : ByteArray) : (xs.toList == (⟨#[]⟩ : ByteArray).toList) = decide (xs.size = 0) := by
  by_cases h : xs.size = 0
  · rw [decide_eq_true h, (size_zero xs).1 h]
    simp
  · rw [decide_eq_false h]
    have h2 := some_bytes (fun e => h ((size_zero xs).2 e))
    rw [show (⟨#[]⟩ : ByteArray).toList = [] by rw [Lib.toList_data]]
    cases hl : xs.toList with
    | nil => rw [hl] at h2; exact absurd h2 (by decide)
    | cons a b => rfl

theorem at_nine {T : TypeId} {w : World} {b : Nat} {v0 v1 v2 v3 v4 v5 v6 v7 v8 : Value} (h : At T w b #[v0, v1, v2, v3, v4, v5, v6, v7, v8]) :
    w.cell? ⟨b, 0, none⟩ = some v0 ∧ w.cell? ⟨b, 1, none⟩ = some v1 ∧ w.cell? ⟨b, 2, none⟩ = some v2 ∧ w.cell? ⟨b, 3, none⟩ = some v3 ∧ w.cell? ⟨b, 4, none⟩ = some v4 ∧ w.cell? ⟨b, 5, none⟩ = some v5 ∧ w.cell? ⟨b, 6, none⟩ = some v6 ∧ w.cell? ⟨b, 7, none⟩ = some v7 ∧ w.cell? ⟨b, 8, none⟩ = some v8 :=
  ⟨h.cell 0, h.cell 1, h.cell 2, h.cell 3, h.cell 4, h.cell 5, h.cell 6, h.cell 7, h.cell 8⟩

theorem rightE_is (x : EvP) : rightE x = (inB x.id 1 200 && (rightB x.ver && (inB x.time 0 1099511627776 && typeB x))) := by
  unfold rightE baseB typeB
  simp only [onlyB_is]
  unfold zeroE
  simp only [toList_nil, nil_length]
  unfold defsP nodeP numP nameP dataP nodeK nameK dataK inB
  obtain ⟨xi, xv, xt, xk, xd, xn, xs, xb, xf⟩ := x
  simp only
  generalize nameB xs = nb
  generalize defsB xf = fb
  generalize xb.length = bl
  generalize xf.length = fl
  generalize xs.size = sl
  generalize rightB xv = rv
  by_cases c : 1 ≤ xk ∧ xk ≤ 12
  · obtain ⟨c1, c2⟩ := c
    have : xk = 1 ∨ xk = 2 ∨ xk = 3 ∨ xk = 4 ∨ xk = 5 ∨ xk = 6 ∨ xk = 7 ∨ xk = 8 ∨ xk = 9 ∨ xk = 10 ∨ xk = 11 ∨ xk = 12 := by omega
    rcases this with rfl | rfl | rfl | rfl | rfl | rfl | rfl | rfl | rfl | rfl | rfl | rfl
    all_goals (
      rcases rv with _ | _
      all_goals (
        rcases nb with _ | _
        all_goals (
          rcases fb with _ | _
          all_goals (
            rw [Bool.eq_iff_iff]
            simp
            try omega))))
  · have h1 : ¬ xk = 1 := by omega
    have h2 : ¬ (xk = 2 ∨ xk = 4) := by omega
    have h3 : ¬ xk = 3 := by omega
    have h5 : ¬ xk = 5 := by omega
    have h6 : ¬ xk = 6 := by omega
    have h7 : ¬ xk = 7 := by omega
    have h8 : ¬ (8 ≤ xk ∧ xk ≤ 12) := by omega
    simp only [if_neg h1, if_neg h2, if_neg h3, if_neg h5, if_neg h6, if_neg h7, if_neg h8]
    rw [Bool.eq_iff_iff]
    simp
    intros
    omega

section
variable {Q : Nat → Prop} {w : World} {dv fv : Value}

set_option maxHeartbeats 8000000 in
set_option maxRecDepth 100000 in
theorem rightForType_any {x : EvP} (hx : EvQ Q w dv fv x) : Calls Try.prog 38 #[evV x dv fv] w fun e w' => e = .returned (.bool (typeB x)) ∧ Turn (fun _ => False) w w' := by
  obtain ⟨res, hres⟩ : ∃ r, r = typeB x := ⟨_, rfl⟩
  rw [← hres]
  have hshD := hx.data.shape
  have hshF := hx.defs.shape
  have tz : Turn (fun _ => False) w (w.alloc (.cells (evC x dv fv) 25)) := (Turn.refl _ _).alloc _
  have hA : At 25 (w.alloc (.cells (evC x dv fv) 25)) w.heap.size (evC x dv fv) := At.new _ _ _
  have TZ := hide tz
  have HA := hide hA
  have KN := hide (show ∀ w', Calls Try.prog 13 #[.string x.name] w' fun e w2 => e = .returned (.bool (nameB x.name)) ∧ w' = w2 from fun w' => isName_any x.name hx.name)
  have KD := hide (show ∀ w', Turn (fun _ => False) w w' → Calls Try.prog 51 #[fv] w' fun e w2 => e = .returned (.bool (defsB x.defs)) ∧ Turn (fun _ => False) w' w2 from fun w' t => rightDefs_any ((hx.kept t (fun _ _ h => h)).defs))
  have KT := hide (show ∀ w', Turn (fun _ => False) w w' → Calls Try.prog 53 #[evV x dv fv] w' fun e w2 => e = .returned (.bool (inB x.node 0 7 && inB x.n 1 5)) ∧ Turn (fun _ => False) w' w2 from fun w' t => rightTry_any (hx.kept t (fun _ _ h => h)))
  have KA := hide (show ∀ w', Turn (fun _ => False) w w' → Calls Try.prog 54 #[evV x dv fv] w' fun e w2 => e = .returned (.bool (decide (x.data.length ≤ 40))) ∧ Turn (fun _ => False) w' w2 from fun w' t => rightData_any (hx.kept t (fun _ _ h => h)))
  have KH := hide (show ∀ (y : EvP) (dv2 fv2 : Value), EvQ Q w dv2 fv2 y → ∀ w', Turn (fun _ => False) w w' → Calls Try.prog 52 #[evV x dv fv, evV y dv2 fv2] w' fun e w2 => e = .returned (.bool (onlyB x y)) ∧ Turn (fun _ => False) w' w2 from fun y dv2 fv2 hy w' t => hasOnly_any (hx.kept t (fun _ _ h => h)) (hy.kept t (fun _ _ h => h)))
  have hn0 : (⟨#[]⟩ : ByteArray).size ≤ 140737488355328 := by decide
  have hs0 : Sees w (.slice none 0 0) [] := .inl ⟨rfl, rfl⟩
  have hd0 : DefsQ Q w (.slice none 0 0) [] := .inl ⟨rfl, rfl⟩
  have E0 : EvQ Q w (.slice none 0 0) (.slice none 0 0) zeroE := ⟨hs0, fun h => absurd h (by simp [zeroE]), hd0, hn0, by simp [zeroE]⟩
  have G1 := hide (unhide KH { zeroE with defs := x.defs } (.slice none 0 0) fv ⟨hs0, fun h => absurd h (by simp [zeroE]), hx.defs, hn0, by simp [zeroE]⟩)
  have G2 := hide (unhide KH { zeroE with node := x.node, n := x.n } (.slice none 0 0) (.slice none 0 0) ⟨hs0, fun h => absurd h (by simp [zeroE]), hd0, hn0, by simp [zeroE]⟩)
  have G3 := hide (unhide KH { zeroE with node := x.node, n := x.n, data := x.data } dv (.slice none 0 0) ⟨hx.data, hx.mem, hd0, hn0, hx.long⟩)
  have G5 := hide (unhide KH { zeroE with name := x.name, n := x.n } (.slice none 0 0) (.slice none 0 0) ⟨hs0, fun h => absurd h (by simp [zeroE]), hd0, hx.name, by simp [zeroE]⟩)
  have G6 := hide (unhide KH { zeroE with name := x.name } (.slice none 0 0) (.slice none 0 0) ⟨hs0, fun h => absurd h (by simp [zeroE]), hd0, hx.name, by simp [zeroE]⟩)
  have G7 := hide (unhide KH { zeroE with name := x.name, data := x.data } dv (.slice none 0 0) ⟨hx.data, hx.mem, hd0, hx.name, hx.long⟩)
  have G8 := hide (unhide KH zeroE (.slice none 0 0) (.slice none 0 0) E0)
  unfold typeB at hres
  generalize onlyB x { zeroE with defs := x.defs } = o1 at *
  generalize onlyB x { zeroE with node := x.node, n := x.n } = o2 at *
  generalize onlyB x { zeroE with node := x.node, n := x.n, data := x.data } = o3 at *
  generalize onlyB x { zeroE with name := x.name, n := x.n } = o5 at *
  generalize onlyB x { zeroE with name := x.name } = o6 at *
  generalize onlyB x { zeroE with name := x.name, data := x.data } = o7 at *
  generalize onlyB x zeroE = o8 at *
  generalize defsB x.defs = b1 at *
  generalize nameB x.name = bn at *
  generalize (inB x.node 0 7 && inB x.n 1 5) = bt at *
  generalize decide (x.data.length ≤ 40) = bd at *
  have KSp := hide (show ∀ w', Calls Try.prog 55 #[.int .i64 x.n] w' fun e w2 => e = .returned (.bool (inB x.n 1 1048576)) ∧ w' = w2 from fun w' => rightSpan_any _ _)
  generalize inB x.n 1 1048576 = bs at *
  unfold evV at KT KA G1 G2 G3 G5 G6 G7 G8
  unfold evV
  unfold evC at HA TZ
  unfold zeroE at G1 G2 G3 G5 G6 G7 G8
  obtain ⟨xi, xv, xt, xk, xd, xn, xs, xb, xf⟩ := x
  simp only at *
  obtain ⟨do1, dc1, rfl⟩ := hshD
  obtain ⟨fo1, fc1, rfl, -⟩ := hshF
  generalize xb.length = xbn at *
  generalize xf.length = xfn at *
  have RR := hide hres
  clear KH hx tz hA hres E0 hs0 hd0 hn0
  obtain ⟨wz, hwz⟩ : ∃ wz, wz = w.alloc (.cells #[.int .i64 xi, .int .i64 xv, .int .i64 xt, .int .i64 xk, .int .i64 xd, .int .i64 xn, .string xs, .slice do1 xbn dc1, .slice fo1 xfn fc1] 25) := ⟨_, rfl⟩
  go_enter Try.func38, Try.ntmps38
  go_upto_region 1 with fail
  generalize w.alloc (.cells #[.int .i64 xi, .int .i64 xv, .int .i64 xt, .int .i64 xk, .int .i64 xd, .int .i64 xn, .string xs, .slice do1 xbn dc1, .slice fo1 xfn fc1] 25) = wy at *
  obtain rfl := hwz
  obtain ⟨c0, c1, c2, c3, c4, c5, c6, c7, c8⟩ := at_nine (unhide HA)
  by_cases k1 : xk = 1
  case pos =>
    subst k1
    have hr : res = (b1 && o1) := by rw [unhide RR]; simp
    clear RR
    rcases b1 with _ | _
    · have hr0 : res = false := by rw [hr]; rfl
      clear hr
      subst hr0
      go_wp2_with (first | (go_at_call 51; refine (unhide KD _ (unhide TZ)).mono ?_; rintro e w2 ⟨rfl, t2⟩; have T2 := hide ((unhide TZ).trans t2); have HA2 := hide ((unhide HA).kept t2 (fun h => h)); obtain ⟨c0, c1, c2, c3, c4, c5, c6, c7, c8⟩ := at_nine (unhide HA2)))
      go_ret
      exact ⟨rfl, unhide T2⟩
    have hr0 : res = o1 := by rw [hr]; rfl
    clear hr
    subst hr0
    go_wp2_with (first | (go_at_call 51; refine (unhide KD _ (unhide TZ)).mono ?_; rintro e w2 ⟨rfl, t2⟩; have T2 := hide ((unhide TZ).trans t2); have HA2 := hide ((unhide HA).kept t2 (fun h => h)); obtain ⟨c0, c1, c2, c3, c4, c5, c6, c7, c8⟩ := at_nine (unhide HA2)) | (go_at_call 52; refine (unhide G1 _ (unhide T2)).mono ?_; rintro e w3 ⟨rfl, t3⟩; have T3 := hide ((unhide T2).trans t3)))
    go_ret
    exact ⟨rfl, unhide T3⟩
  by_cases k2 : xk = 2
  case pos =>
    subst k2
    have hr : res = (bt && o2) := by rw [unhide RR]; simp
    clear RR
    rcases bt with _ | _
    · have hr0 : res = false := by rw [hr]; rfl
      clear hr
      subst hr0
      go_wp2_with (first | (go_at_call 53; refine (unhide KT _ (unhide TZ)).mono ?_; rintro e w2 ⟨rfl, t2⟩; have T2 := hide ((unhide TZ).trans t2); have HA2 := hide ((unhide HA).kept t2 (fun h => h)); obtain ⟨c0, c1, c2, c3, c4, c5, c6, c7, c8⟩ := at_nine (unhide HA2)))
      go_ret
      exact ⟨rfl, unhide T2⟩
    have hr0 : res = o2 := by rw [hr]; rfl
    clear hr
    subst hr0
    go_wp2_with (first | (go_at_call 53; refine (unhide KT _ (unhide TZ)).mono ?_; rintro e w2 ⟨rfl, t2⟩; have T2 := hide ((unhide TZ).trans t2); have HA2 := hide ((unhide HA).kept t2 (fun h => h)); obtain ⟨c0, c1, c2, c3, c4, c5, c6, c7, c8⟩ := at_nine (unhide HA2)) | (go_at_call 52; refine (unhide G2 _ (unhide T2)).mono ?_; rintro e w3 ⟨rfl, t3⟩; have T3 := hide ((unhide T2).trans t3)))
    go_ret
    exact ⟨rfl, unhide T3⟩
  by_cases k3 : xk = 3
  case pos =>
    subst k3
    have hr : res = (bt && (bd && o3)) := by rw [unhide RR]; simp
    clear RR
    rcases bt with _ | _
    · have hr0 : res = false := by rw [hr]; rfl
      clear hr
      subst hr0
      go_wp2_with (first | (go_at_call 53; refine (unhide KT _ (unhide TZ)).mono ?_; rintro e w2 ⟨rfl, t2⟩; have T2 := hide ((unhide TZ).trans t2); have HA2 := hide ((unhide HA).kept t2 (fun h => h)); obtain ⟨c0, c1, c2, c3, c4, c5, c6, c7, c8⟩ := at_nine (unhide HA2)))
      go_ret
      exact ⟨rfl, unhide T2⟩
    rcases bd with _ | _
    · have hr0 : res = false := by rw [hr]; simp
      clear hr
      subst hr0
      go_wp2_with (first | (go_at_call 53; refine (unhide KT _ (unhide TZ)).mono ?_; rintro e w2 ⟨rfl, t2⟩; have T2 := hide ((unhide TZ).trans t2); have HA2 := hide ((unhide HA).kept t2 (fun h => h)); obtain ⟨c0, c1, c2, c3, c4, c5, c6, c7, c8⟩ := at_nine (unhide HA2)) | (go_at_call 54; refine (unhide KA _ (unhide T2)).mono ?_; rintro e w3 ⟨rfl, t3⟩; have T3 := hide ((unhide T2).trans t3); have HA3 := hide ((unhide HA2).kept t3 (fun h => h)); obtain ⟨c0, c1, c2, c3, c4, c5, c6, c7, c8⟩ := at_nine (unhide HA3)))
      go_ret
      exact ⟨rfl, unhide T3⟩
    have hr0 : res = o3 := by rw [hr]; rfl
    clear hr
    subst hr0
    go_wp2_with (first | (go_at_call 53; refine (unhide KT _ (unhide TZ)).mono ?_; rintro e w2 ⟨rfl, t2⟩; have T2 := hide ((unhide TZ).trans t2); have HA2 := hide ((unhide HA).kept t2 (fun h => h)); obtain ⟨c0, c1, c2, c3, c4, c5, c6, c7, c8⟩ := at_nine (unhide HA2)) | (go_at_call 54; refine (unhide KA _ (unhide T2)).mono ?_; rintro e w3 ⟨rfl, t3⟩; have T3 := hide ((unhide T2).trans t3); have HA3 := hide ((unhide HA2).kept t3 (fun h => h)); obtain ⟨c0, c1, c2, c3, c4, c5, c6, c7, c8⟩ := at_nine (unhide HA3)) | (go_at_call 52; refine (unhide G3 _ (unhide T3)).mono ?_; rintro e w4 ⟨rfl, t4⟩; have T4 := hide ((unhide T3).trans t4)))
    go_ret
    exact ⟨rfl, unhide T4⟩
  by_cases k4 : xk = 4
  case pos =>
    subst k4
    have hr : res = (bt && o2) := by rw [unhide RR]; simp
    clear RR
    rcases bt with _ | _
    · have hr0 : res = false := by rw [hr]; rfl
      clear hr
      subst hr0
      go_wp2_with (first | (go_at_call 53; refine (unhide KT _ (unhide TZ)).mono ?_; rintro e w2 ⟨rfl, t2⟩; have T2 := hide ((unhide TZ).trans t2); have HA2 := hide ((unhide HA).kept t2 (fun h => h)); obtain ⟨c0, c1, c2, c3, c4, c5, c6, c7, c8⟩ := at_nine (unhide HA2)))
      go_ret
      exact ⟨rfl, unhide T2⟩
    have hr0 : res = o2 := by rw [hr]; rfl
    clear hr
    subst hr0
    go_wp2_with (first | (go_at_call 53; refine (unhide KT _ (unhide TZ)).mono ?_; rintro e w2 ⟨rfl, t2⟩; have T2 := hide ((unhide TZ).trans t2); have HA2 := hide ((unhide HA).kept t2 (fun h => h)); obtain ⟨c0, c1, c2, c3, c4, c5, c6, c7, c8⟩ := at_nine (unhide HA2)) | (go_at_call 52; refine (unhide G2 _ (unhide T2)).mono ?_; rintro e w3 ⟨rfl, t3⟩; have T3 := hide ((unhide T2).trans t3)))
    go_ret
    exact ⟨rfl, unhide T3⟩
  by_cases k5 : xk = 5
  case pos =>
    subst k5
    have hr : res = (bn && (bs && o5)) := by rw [unhide RR]; simp
    clear RR
    rcases bn with _ | _
    · have hr0 : res = false := by rw [hr]; rfl
      clear hr
      subst hr0
      go_wp2_with (first | (go_at_call 13; refine (unhide KN _).mono ?_; rintro e w2 ⟨rfl, rfl⟩))
      go_ret
      exact ⟨rfl, unhide TZ⟩
    rcases bs with _ | _
    · have hr0 : res = false := by rw [hr]; simp
      clear hr
      subst hr0
      go_wp2_with (first | (go_at_call 13; refine (unhide KN _).mono ?_; rintro e w2 ⟨rfl, rfl⟩) | (go_at_call 55; refine (unhide KSp _).mono ?_; rintro e w2 ⟨rfl, rfl⟩))
      go_ret
      exact ⟨rfl, unhide TZ⟩
    have hr0 : res = o5 := by rw [hr]; rfl
    clear hr
    subst hr0
    go_wp2_with (first | (go_at_call 13; refine (unhide KN _).mono ?_; rintro e w2 ⟨rfl, rfl⟩) | (go_at_call 55; refine (unhide KSp _).mono ?_; rintro e w2 ⟨rfl, rfl⟩) | (go_at_call 52; refine (unhide G5 _ (unhide TZ)).mono ?_; rintro e w2 ⟨rfl, t2⟩; have T2 := hide ((unhide TZ).trans t2)))
    go_ret
    exact ⟨rfl, unhide T2⟩
  by_cases k6 : xk = 6
  case pos =>
    subst k6
    have hr : res = (bn && o6) := by rw [unhide RR]; simp
    clear RR
    rcases bn with _ | _
    · have hr0 : res = false := by rw [hr]; rfl
      clear hr
      subst hr0
      go_wp2_with (first | (go_at_call 13; refine (unhide KN _).mono ?_; rintro e w2 ⟨rfl, rfl⟩))
      go_ret
      exact ⟨rfl, unhide TZ⟩
    have hr0 : res = o6 := by rw [hr]; rfl
    clear hr
    subst hr0
    go_wp2_with (first | (go_at_call 13; refine (unhide KN _).mono ?_; rintro e w2 ⟨rfl, rfl⟩) | (go_at_call 52; refine (unhide G6 _ (unhide TZ)).mono ?_; rintro e w2 ⟨rfl, t2⟩; have T2 := hide ((unhide TZ).trans t2)))
    go_ret
    exact ⟨rfl, unhide T2⟩
  by_cases k7 : xk = 7
  case pos =>
    subst k7
    have hr : res = (bn && (bd && o7)) := by rw [unhide RR]; simp
    clear RR
    rcases bn with _ | _
    · have hr0 : res = false := by rw [hr]; rfl
      clear hr
      subst hr0
      go_wp2_with (first | (go_at_call 13; refine (unhide KN _).mono ?_; rintro e w2 ⟨rfl, rfl⟩))
      go_ret
      exact ⟨rfl, unhide TZ⟩
    rcases bd with _ | _
    · have hr0 : res = false := by rw [hr]; simp
      clear hr
      subst hr0
      go_wp2_with (first | (go_at_call 13; refine (unhide KN _).mono ?_; rintro e w2 ⟨rfl, rfl⟩) | (go_at_call 54; refine (unhide KA _ (unhide TZ)).mono ?_; rintro e w2 ⟨rfl, t2⟩; have T2 := hide ((unhide TZ).trans t2); have HA2 := hide ((unhide HA).kept t2 (fun h => h)); obtain ⟨c0, c1, c2, c3, c4, c5, c6, c7, c8⟩ := at_nine (unhide HA2)))
      go_ret
      exact ⟨rfl, unhide T2⟩
    have hr0 : res = o7 := by rw [hr]; rfl
    clear hr
    subst hr0
    go_wp2_with (first | (go_at_call 13; refine (unhide KN _).mono ?_; rintro e w2 ⟨rfl, rfl⟩) | (go_at_call 54; refine (unhide KA _ (unhide TZ)).mono ?_; rintro e w2 ⟨rfl, t2⟩; have T2 := hide ((unhide TZ).trans t2); have HA2 := hide ((unhide HA).kept t2 (fun h => h)); obtain ⟨c0, c1, c2, c3, c4, c5, c6, c7, c8⟩ := at_nine (unhide HA2)) | (go_at_call 52; refine (unhide G7 _ (unhide T2)).mono ?_; rintro e w3 ⟨rfl, t3⟩; have T3 := hide ((unhide T2).trans t3)))
    go_ret
    exact ⟨rfl, unhide T3⟩
  by_cases k8 : xk = 8
  case pos =>
    subst k8
    have hr : res = o8 := by rw [unhide RR]; simp
    clear RR
    have hr0 : res = o8 := hr
    clear hr
    subst hr0
    go_wp2_with (first | (go_at_call 52; refine (unhide G8 _ (unhide TZ)).mono ?_; rintro e w2 ⟨rfl, t2⟩; have T2 := hide ((unhide TZ).trans t2)))
    go_ret
    exact ⟨rfl, unhide T2⟩
  by_cases k9 : xk = 9
  case pos =>
    subst k9
    have hr : res = o8 := by rw [unhide RR]; simp
    clear RR
    have hr0 : res = o8 := hr
    clear hr
    subst hr0
    go_wp2_with (first | (go_at_call 52; refine (unhide G8 _ (unhide TZ)).mono ?_; rintro e w2 ⟨rfl, t2⟩; have T2 := hide ((unhide TZ).trans t2)))
    go_ret
    exact ⟨rfl, unhide T2⟩
  by_cases k10 : xk = 10
  case pos =>
    subst k10
    have hr : res = o8 := by rw [unhide RR]; simp
    clear RR
    have hr0 : res = o8 := hr
    clear hr
    subst hr0
    go_wp2_with (first | (go_at_call 52; refine (unhide G8 _ (unhide TZ)).mono ?_; rintro e w2 ⟨rfl, t2⟩; have T2 := hide ((unhide TZ).trans t2)))
    go_ret
    exact ⟨rfl, unhide T2⟩
  by_cases k11 : xk = 11
  case pos =>
    subst k11
    have hr : res = o8 := by rw [unhide RR]; simp
    clear RR
    have hr0 : res = o8 := hr
    clear hr
    subst hr0
    go_wp2_with (first | (go_at_call 52; refine (unhide G8 _ (unhide TZ)).mono ?_; rintro e w2 ⟨rfl, t2⟩; have T2 := hide ((unhide TZ).trans t2)))
    go_ret
    exact ⟨rfl, unhide T2⟩
  by_cases k12 : xk = 12
  case pos =>
    subst k12
    have hr : res = o8 := by rw [unhide RR]; simp
    clear RR
    have hr0 : res = o8 := hr
    clear hr
    subst hr0
    go_wp2_with (first | (go_at_call 52; refine (unhide G8 _ (unhide TZ)).mono ?_; rintro e w2 ⟨rfl, t2⟩; have T2 := hide ((unhide TZ).trans t2)))
    go_ret
    exact ⟨rfl, unhide T2⟩
  have hr : res = false := by
    have h8 : ¬ (8 ≤ xk ∧ xk ≤ 12) := by omega
    rw [unhide RR]
    simp [k1, k2, k3, k4, k5, k6, k7, h8]
  clear RR
  subst hr
  have q1 : (xk == 1) = false := by simpa using k1
  have q2 : (xk == 2) = false := by simpa using k2
  have q3 : (xk == 3) = false := by simpa using k3
  have q4 : (xk == 4) = false := by simpa using k4
  have q5 : (xk == 5) = false := by simpa using k5
  have q6 : (xk == 6) = false := by simpa using k6
  have q7 : (xk == 7) = false := by simpa using k7
  have q8 : (xk == 8) = false := by simpa using k8
  have q9 : (xk == 9) = false := by simpa using k9
  have q10 : (xk == 10) = false := by simpa using k10
  have q11 : (xk == 11) = false := by simpa using k11
  have q12 : (xk == 12) = false := by simpa using k12
  go_wp2_with fail
  go_ret
  exact ⟨rfl, unhide TZ⟩

set_option maxHeartbeats 4000000 in
theorem evRight_any {x : EvP} (hx : EvQ Q w dv fv x) : Calls Try.prog 20 #[evV x dv fv] w fun e w' => e = .returned (.bool (rightE x)) ∧ Turn (fun _ => False) w w' := by
  rw [rightE_is]
  have hshD := hx.data.shape
  have hshF := hx.defs.shape
  have KT := hide (show ∀ w', Turn (fun _ => False) w w' → Calls Try.prog 38 #[evV x dv fv] w' fun e w2 => e = .returned (.bool (typeB x)) ∧ Turn (fun _ => False) w' w2 from fun w' t => rightForType_any (hx.kept t (fun _ _ h => h)))
  generalize typeB x = tb at *
  unfold evV at KT
  unfold evV
  obtain ⟨xi, xv, xt, xk, xd, xn, xs, xb, xf⟩ := x
  simp only at *
  obtain ⟨do1, dc1, rfl⟩ := hshD
  obtain ⟨fo1, fc1, rfl, -⟩ := hshF
  generalize xb.length = xbn at *
  generalize xf.length = xfn at *
  have tz : Turn (fun _ => False) w (w.alloc (.cells #[.int .i64 xi, .int .i64 xv, .int .i64 xt, .int .i64 xk, .int .i64 xd, .int .i64 xn, .string xs, .slice do1 xbn dc1, .slice fo1 xfn fc1] 25)) := (Turn.refl _ _).alloc _
  have hA : At 25 (w.alloc (.cells #[.int .i64 xi, .int .i64 xv, .int .i64 xt, .int .i64 xk, .int .i64 xd, .int .i64 xn, .string xs, .slice do1 xbn dc1, .slice fo1 xfn fc1] 25)) w.heap.size #[.int .i64 xi, .int .i64 xv, .int .i64 xt, .int .i64 xk, .int .i64 xd, .int .i64 xn, .string xs, .slice do1 xbn dc1, .slice fo1 xfn fc1] := At.new _ _ _
  have TZ := hide tz
  obtain ⟨c0, c1, c2, c3, c4, c5, c6, c7, c8⟩ := at_nine hA
  clear hx tz hA
  rcases h1 : inB xi 1 200 with _ | _
  · go_enter Try.func20, Try.ntmps20
    go_wp2_with (go_at_call 33; refine (within_any _ _ _ _).mono ?_; rw [h1]; rintro e w' ⟨rfl, rfl⟩)
    go_ret
    exact ⟨rfl, unhide TZ⟩
  rcases h2 : rightB xv with _ | _
  · go_enter Try.func20, Try.ntmps20
    go_wp2_with (first | (go_at_call 33; refine (within_any _ _ _ _).mono ?_; rw [h1]; rintro e w' ⟨rfl, rfl⟩) | (go_at_call 37; refine (right_any _ _).mono ?_; rw [h2]; rintro e w' ⟨rfl, rfl⟩))
    go_ret
    exact ⟨rfl, unhide TZ⟩
  rcases h3 : inB xt 0 1099511627776 with _ | _
  · go_enter Try.func20, Try.ntmps20
    go_wp2_with (first | (go_at_call 33; refine (within_any _ _ _ _).mono ?_; (first | rw [h1] | rw [h3]); rintro e w' ⟨rfl, rfl⟩) | (go_at_call 37; refine (right_any _ _).mono ?_; rw [h2]; rintro e w' ⟨rfl, rfl⟩))
    go_ret
    exact ⟨rfl, unhide TZ⟩
  go_enter Try.func20, Try.ntmps20
  go_wp2_with (first | (go_at_call 33; refine (within_any _ _ _ _).mono ?_; (first | rw [h1] | rw [h3]); rintro e w' ⟨rfl, rfl⟩) | (go_at_call 37; refine (right_any _ _).mono ?_; rw [h2]; rintro e w' ⟨rfl, rfl⟩) | (go_at_call 38; refine (unhide KT _ (unhide TZ)).mono ?_; rintro e w2 ⟨rfl, t2⟩))
  go_ret
  exact ⟨rfl, (unhide TZ).trans t2⟩

end

end Go.Proofs.Ythclffafbkeepaa
