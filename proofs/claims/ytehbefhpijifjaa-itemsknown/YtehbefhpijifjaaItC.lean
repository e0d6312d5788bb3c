/- cmp's Compare and Or; items' Compare; its Right. -/
import Derived.Test.YtehbefhpijifjaaItF
import Derived.Deep.RegionHeld
namespace Go.Proofs.Ytehbefhpijifjaa
open Go.RowKit

def cmpI (x y : Int) : Int := if x < y then -1 else if y < x then 1 else 0

/-- The first that is not 0. -/
def orI : List Int → Int
  | [] => 0
  | x :: r => if x = 0 then orI r else x

theorem orI_cmp (x y : It) : orI [cmpI x.2 y.2, cmpI x.1 y.1] = cmpP x y := by
  unfold cmpP
  simp only [orI, cmpI]
  repeat' split
  all_goals omega

theorem isNaN_any (x : Int) (w : World) : Calls Try.prog 44 #[.int .i64 x] w fun e w' => e = .returned (.bool false) ∧ w = w' := by
  have q : (x != x) = false := by simp
  go_enter Try.func44, Try.ntmps44
  go_wp2
  go_ret
  exact ⟨rfl, rfl⟩

theorem cmpI_any (x y : Int) (w : World) : Calls Try.prog 35 #[.int .i64 x, .int .i64 y] w fun e w' => e = .returned (.int .i64 (cmpI x y)) ∧ w = w' := by
  unfold cmpI
  by_cases h1 : x < y
  · rw [if_pos h1]
    go_enter Try.func35, Try.ntmps35
    go_wp2_with (go_at_call 44; refine (isNaN_any _ _).mono ?_; rintro e w' ⟨rfl, rfl⟩)
    go_ret
    exact ⟨rfl, rfl⟩
  · rw [if_neg h1]
    by_cases h2 : y < x
    · rw [if_pos h2]
      go_enter Try.func35, Try.ntmps35
      go_wp2_with (go_at_call 44; refine (isNaN_any _ _).mono ?_; rintro e w' ⟨rfl, rfl⟩)
      go_ret
      exact ⟨rfl, rfl⟩
    · rw [if_neg h2]
      go_enter Try.func35, Try.ntmps35
      go_wp2_with (go_at_call 44; refine (isNaN_any _ _).mono ?_; rintro e w' ⟨rfl, rfl⟩)
      go_ret
      exact ⟨rfl, rfl⟩

set_option maxHeartbeats 1000000 in
theorem orI_any (g : Nat) (x y : Int) (w : World) (c0 : w.cell? ⟨g, 0, none⟩ = some (.int .i64 x)) (c1 : w.cell? ⟨g, 1, none⟩ = some (.int .i64 y)) :
    Calls Try.prog 34 #[.slice (some ⟨g, 0, none⟩) 2 2] w fun e w' => e = .returned (.int .i64 (orI [x, y])) ∧ w = w' := by
  have C := hide (And.intro c0 c1)
  clear c0 c1
  obtain ⟨res, hres⟩ : ∃ r, r = orI [x, y] := ⟨_, rfl⟩
  rw [← hres]
  simp only [orI] at hres
  have R := hide hres
  clear hres
  go_enter Try.func34, Try.ntmps34
  go_wp2_with fail
  go_loopw [5, 8] (fun _ i wr => ∃ n : Nat, i = .int .i64 n ∧ n ≤ 2 ∧ (0 < n → x = 0) ∧ (1 < n → y = 0) ∧ w = wr) (fun _ i _ => 2 - (intOf i).toNat)
  case atStart => exact ⟨0, rfl, by omega, by omega, by omega, rfl⟩
  case round =>
    obtain ⟨n, rfl, hn, hx, hy, rfl⟩ := hrel
    have hcase : n = 0 ∨ n = 1 ∨ n = 2 := by omega
    obtain ⟨c0, c1⟩ := unhide C
    rcases hcase with rfl | rfl | rfl
    · by_cases h0 : x = 0
      · have X := hide h0
        subst h0
        clear hx hy
        go_wp2_with fail
        go_roundw
        case rel => exact ⟨1, by go_num, by omega, fun _ => by trivial, fun h => absurd h (by omega), by trivial⟩
        case measure => simp [intOf]
      · have q : (x != 0) = true := by simpa using h0
        clear hx hy
        go_wp2_with fail
        go_ret
        exact ⟨ret_int (by rw [unhide R]; simp [h0]), rfl⟩
    · have hx0 := hx (by omega)
      subst hx0
      by_cases h0 : y = 0
      · subst h0
        clear hx hy
        go_wp2_with fail
        go_roundw
        case rel => exact ⟨2, by go_num, by omega, fun _ => by trivial, fun _ => by trivial, by trivial⟩
        case measure => simp [intOf]
      · have q : (y != 0) = true := by simpa using h0
        clear hx hy
        go_wp2_with fail
        go_ret
        exact ⟨ret_int (by rw [unhide R]; simp [h0]), rfl⟩
    · have hx0 := hx (by omega)
      have hy0 := hy (by omega)
      subst hx0 hy0
      go_wp2_with fail
      go_ret
      exact ⟨ret_int (by rw [unhide R]; simp), rfl⟩

section
variable {w : World} {v v2 : Value} {l m : List It}

set_option maxHeartbeats 2000000 in
theorem compare_any (h : ISees w v l) (k : ISees w v2 m) (hl : l.length ≤ 1000000000) (hm : m.length ≤ 1000000000) :
    Calls Try.prog 14 #[v, v2] w fun e w' => e = .returned (.int .i64 (cmpP (lastF (0, 0) l) (lastF (0, 0) m))) ∧ Turn (fun _ => False) w w' := by
  obtain ⟨ao, cap, rfl⟩ := h.shape
  obtain ⟨ao2, cap2, rfl⟩ := k.shape
  have H := hide (And.intro h (And.intro k (And.intro hl hm)))
  obtain ⟨res, hres⟩ : ∃ r, r = cmpP (lastF (0, 0) l) (lastF (0, 0) m) := ⟨_, rfl⟩
  rw [← hres]
  rw [← orI_cmp] at hres
  have R := hide hres
  clear h k hl hm hres
  go_enter Try.func14, Try.ntmps14
  go_wp2_with fail
  refine (last_any (unhide H).1 (unhide H).2.2.1).mono ?_
  rintro e w1 ⟨rfl, t1⟩
  have HK := hide ((unhide H).2.1.kept t1 (fun _ _ e => e))
  have T1 := hide t1
  obtain ⟨x, hx⟩ : ∃ x, x = lastF (0, 0) l := ⟨_, rfl⟩
  rw [← hx] at R ⊢
  obtain ⟨x1, x2⟩ := x
  rw [show itV (x1, x2) = .agg #[.int .i64 x1, .int .i64 x2] from rfl]
  clear t1 hx
  go_wp2_with fail
  refine (last_any (unhide HK) (unhide H).2.2.2).mono ?_
  rintro e w2 ⟨rfl, t2⟩
  have T2 := hide ((unhide T1).trans t2)
  obtain ⟨y, hy⟩ : ∃ y, y = lastF (0, 0) m := ⟨_, rfl⟩
  rw [← hy] at R ⊢
  obtain ⟨y1, y2⟩ := y
  rw [show itV (y1, y2) = .agg #[.int .i64 y1, .int .i64 y2] from rfl]
  clear t2 hy
  go_wp2_with fail
  have hA : At 23 (w2.alloc (.cells #[.int .i64 x1, .int .i64 x2] 23)) w2.heap.size #[.int .i64 x1, .int .i64 x2] := At.new _ _ _
  have hA2 := hA.kept ((Turn.refl (fun _ => False) _).alloc (.cells #[.int .i64 y1, .int .i64 y2] 23)) (fun e => e)
  have hB : At 23 ((w2.alloc (.cells #[.int .i64 x1, .int .i64 x2] 23)).alloc (.cells #[.int .i64 y1, .int .i64 y2] 23)) (w2.heap.size + 1) #[.int .i64 y1, .int .i64 y2] := by
    have := At.new 23 (w2.alloc (.cells #[.int .i64 x1, .int .i64 x2] 23)) #[.int .i64 y1, .int .i64 y2]
    simpa using this
  have T3 := hide (((unhide T2).alloc (.cells #[.int .i64 x1, .int .i64 x2] 23)).alloc (.cells #[.int .i64 y1, .int .i64 y2] 23))
  generalize (w2.alloc (.cells #[.int .i64 x1, .int .i64 x2] 23)).alloc (.cells #[.int .i64 y1, .int .i64 y2] 23) = w3 at *
  have b0 : w3.cell? ⟨w2.heap.size, 0, none⟩ = some (.int .i64 x1) := hA2.cell 0
  have b1 : w3.cell? ⟨w2.heap.size, 1, none⟩ = some (.int .i64 x2) := hA2.cell 1
  have b2 : w3.cell? ⟨w2.heap.size + 1, 0, none⟩ = some (.int .i64 y1) := hB.cell 0
  have b3 : w3.cell? ⟨w2.heap.size + 1, 1, none⟩ = some (.int .i64 y2) := hB.cell 1
  clear hA hA2 hB
  go_region_held (fun w' => w'.cell? ⟨w2.heap.size, 0, none⟩ = some (.int .i64 x1) ∧ w'.cell? ⟨w2.heap.size, 1, none⟩ = some (.int .i64 x2) ∧ w'.cell? ⟨w2.heap.size + 1, 0, none⟩ = some (.int .i64 y1) ∧ w'.cell? ⟨w2.heap.size + 1, 1, none⟩ = some (.int .i64 y2)) (first | go_keep | exact ⟨b0, b1, b2, b3⟩) (first
    | (go_at_call 35; refine (cmpI_any _ _ _).mono ?_; rintro e w' ⟨rfl, rfl⟩)
    | (go_at_call 34; go_must (refine (orI_any w3.heap.size (cmpI x2 y2) (cmpI x1 y1) _ (by exact (At.new 3 w3 #[.int .i64 (cmpI x2 y2), .int .i64 (cmpI x1 y1)]).cell 0) (by exact (At.new 3 w3 #[.int .i64 (cmpI x2 y2), .int .i64 (cmpI x1 y1)]).cell 1)).mono ?_; rintro e w' ⟨rfl, rfl⟩)))
  go_wp2
  go_ret
  exact ⟨ret_int (unhide R).symm, ((unhide T3).alloc _).drew⟩

end

end Go.Proofs.Ytehbefhpijifjaa
