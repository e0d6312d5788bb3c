/- Both stores side by side in memory, dead or not. -/
import Derived.Test.YtnipdgigjcaolaaGreatKPlO
namespace Go.Proofs.YtnipdgigjcaolaaGreat
open Go.RowKit

section
variable {w0 w w1 : World} {K Q Z : Nat → Prop} {sb mb l b f t N tb l' rb i xb : Nat} {seg now x1 x2 x3 : Int} {xv : Value} {s : WSt} {d : DSt} {r : RSt} {m : List (List UInt8 × List UInt8)}

theorem kcommit_dead (v : Value) (h : KD w0 K w sb l b f t N s) : Calls Tryz.prog 24 #[.pointer (some ⟨sb, 0, none⟩), v] w fun e w' => e = .returned (.int .i64 14) ∧ w = w' := by
  have c2 : w.cell? ⟨sb, 2, none⟩ = some (.bool true) := h.at'.cell 2
  clear h
  go_enter Tryz.func24, Tryz.ntmps24
  go_wp2
  go_ret
  exact ⟨rfl, rfl⟩

theorem kcheck_dead (h : KD w0 K w sb l b f t N s) : Calls Tryz.prog 27 #[.pointer (some ⟨sb, 0, none⟩)] w fun e w' => e = .returned (.int .i64 14) ∧ w = w' := by
  have c2 : w.cell? ⟨sb, 2, none⟩ = some (.bool true) := h.at'.cell 2
  clear h
  go_enter Tryz.func27, Tryz.ntmps27
  go_wp2
  go_ret
  exact ⟨rfl, rfl⟩

theorem rcommit_dead (v : Value) (h : RSd Q w tb rb r) : Calls Tryz.prog 41 #[.pointer (some ⟨tb, 0, none⟩), v] w fun e w' => e = .returned (.int .i64 14) ∧ w = w' := by
  obtain ⟨l', hA⟩ := h.at'
  have c2 : w.cell? ⟨tb, 2, none⟩ = some (.bool true) := hA.cell 2
  clear h hA
  go_enter Tryz.func41, Tryz.ntmps41
  go_wp2
  go_ret
  exact ⟨rfl, rfl⟩

theorem rcheck_dead (h : RSd Q w tb rb r) : Calls Tryz.prog 36 #[.pointer (some ⟨tb, 0, none⟩)] w fun e w' => e = .returned (.int .i64 14) ∧ w = w' := by
  obtain ⟨l', hA⟩ := h.at'
  have c2 : w.cell? ⟨tb, 2, none⟩ = some (.bool true) := hA.cell 2
  clear h hA
  go_enter Tryz.func36, Tryz.ntmps36
  go_wp2
  go_ret
  exact ⟨rfl, rfl⟩

theorem PlD.up (h : PlD w0 w K b rb sb tb i) : PlD w0 w K b rb sb tb (i + 1) := by
  obtain ⟨l, f, t, s, r, Q, hk, hr, hD, hap⟩ := h.is
  exact ⟨l, f, t, s, r, Q, hk.mono (by omega), hr, hD.up, hap⟩

theorem PlX.up (h : PlX w0 w K b rb sb tb seg i) : PlX w0 w K b rb sb tb seg (i + 1) := by
  rcases h with h | h
  · obtain ⟨mb, l, f, t, l', s, m, r, Q, Z, hk, hr, hA, hap⟩ := h.is
    exact .inl ⟨mb, l, f, t, l', s, m, r, Q, Z, hk.mono (by omega), hr, hA.up, hap⟩
  · exact .inr h.up

theorem PlD.goes (h : PlD w0 w K b rb sb tb i) (tn : Turn (fun _ => False) w w1) : PlD w0 w1 (grow K w w1) b rb sb tb i := by
  obtain ⟨l, f, t, s, r, Q, hk, hr, hD, hap⟩ := h.is
  exact ⟨l, f, t, s, r, Q, hk.goes tn, hr.kept tn (fun _ _ e => e), hD, fun j hj => ⟨.inl (hap j hj).1, (hap j hj).2⟩⟩

/-- The program has committed, or is dead. -/
def HalfX (w0 w : World) (K : Nat → Prop) (b rb sb tb : Nat) (seg : Int) (i : Nat) (xs : List RawC) (k : Int) : Prop :=
  HalfC w0 w K b rb sb tb seg i xs k ∨ (k = 14 ∧ PlD w0 w K b rb sb tb i)

theorem HalfX.above {xs : List RawC} {k : Int} (h : HalfX w0 w K b rb sb tb seg i xs k) : ∀ j, K j → w0.heap.size ≤ j := by
  rcases h with ⟨l', m, r, now, Q, Z, hr, hF, hml, hcase⟩ | ⟨_, h⟩
  · rcases hcase with ⟨_, _, mb, l, f, t, s, hk, _⟩ | ⟨_, _, _, l, f, t, s, hk, _⟩ | ⟨_, _, _, mb, l, f, t, s, hk, _⟩
    · exact fun j hj => ((hk.li.dl.less (K2 := K) (fun j hj => .inl hj)).held j hj).1
    · exact fun j hj => ((hk.li.dl.less (K2 := K) (fun j hj => .inl hj)).held j hj).1
    · exact fun j hj => ((hk.li.dl.less (K2 := K) (fun j hj => .inl hj)).held j hj).1
  · exact fun j hj => (PlX.above (seg := 0) (.inr h) j hj).1

theorem plx_commit_s {w4 w5 : World} {v : Value} {cl : List (Value × Chg)} (xs : List RawC) (h : PlX w0 w4 K b rb sb tb seg i) (hi : i ≤ 41) (hcm : CM (fun _ => False) w4 v cl w5) (hcl : cl.map (·.2) = listC xs 6) :
    Calls Tryz.prog 24 #[.pointer (some ⟨sb, 0, none⟩), v] w5 fun e w6 => ∃ k K', e = .returned (.int .i64 k) ∧ HalfX w0 w6 K' b rb sb tb seg i xs k ∧ (∀ xb x1 x2 x3 xv, BxK K w4 xb x1 x2 x3 xv → BxK K' w6 xb x1 x2 x3 xv) ∧ Turn (fun j => w0.heap.size ≤ j) w5 w6 := by
  rcases h with h | h
  · refine (pl_commit_s xs h hi hcm hcl).mono ?_
    rintro e w6 ⟨k, K', rfl, h1, h2, h3⟩
    exact ⟨k, K', rfl, .inl h1, h2, h3⟩
  · have h5 := h.goes hcm.turn
    obtain ⟨l, f, t, s, r, Q, hk, hr, hD, hap⟩ := h5.is
    refine (kcommit_dead v hk).mono ?_
    rintro e w6 ⟨rfl, rfl⟩
    exact ⟨14, _, rfl, .inr ⟨rfl, h5⟩, fun xb x1 x2 x3 xv hb => hb.goes hcm.turn (fun j hj => .inl hj), Turn.refl _ _⟩

theorem plx_commit_t {w7 w8 : World} {v : Value} {cl : List (Value × Chg)} {xs : List RawC} {k : Int} (h : HalfX w0 w7 K b rb sb tb seg i xs k) (hcm : CM (fun _ => False) w7 v cl w8) (hcl : cl.map (·.2) = listC xs 6) :
    Calls Tryz.prog 41 #[.pointer (some ⟨tb, 0, none⟩), v] w8 fun e w9 => e = .returned (.int .i64 k) ∧ ∃ K', PlX w0 w9 K' b rb sb tb seg (i + 1) ∧ Turn (fun j => w0.heap.size ≤ j) w8 w9 ∧ ∀ xb x1 x2 x3 xv, At 69 w8 xb #[.int .i64 x1, .int .i64 x2, .int .i64 x3, xv] → At 69 w9 xb #[.int .i64 x1, .int .i64 x2, .int .i64 x3, xv] := by
  have hab := h.above
  rcases h with h | ⟨rfl, h⟩
  · exact pl_commit_t h hcm hcl hab
  · have h8 := h.goes hcm.turn
    obtain ⟨l, f, t, s, r, Q, hk, hr, hD, hap⟩ := h8.is
    refine (rcommit_dead v hr).mono ?_
    rintro e w9 ⟨rfl, rfl⟩
    exact ⟨rfl, _, .inr h8.up, Turn.refl _ _, fun _ _ _ _ _ hb => hb⟩

theorem plx_check_s (h : PlX w0 w K b rb sb tb seg i) (hi : i ≤ 41) :
    Calls Tryz.prog 27 #[.pointer (some ⟨sb, 0, none⟩)] w fun e w6 => ∃ k K', e = .returned (.int .i64 k) ∧ ((HalfK w0 w6 K' b rb sb tb seg i k ∧ ∀ j, K' j → w0.heap.size ≤ j) ∨ (k = 14 ∧ PlD w0 w6 K' b rb sb tb i)) := by
  rcases h with h | h
  · refine (pl_check_s h hi).mono ?_
    rintro e w6 ⟨k, K', rfl, h1, h2, h3⟩
    exact ⟨k, K', rfl, .inl ⟨h1, h2⟩⟩
  · obtain ⟨l, f, t, s, r, Q, hk, hr, hD, hap⟩ := h.is
    refine (kcheck_dead hk).mono ?_
    rintro e w6 ⟨rfl, rfl⟩
    exact ⟨14, K, rfl, .inr ⟨rfl, h⟩⟩

theorem plx_check_t {k : Int} (h : (HalfK w0 w K b rb sb tb seg i k ∧ ∀ j, K j → w0.heap.size ≤ j) ∨ (k = 14 ∧ PlD w0 w K b rb sb tb i)) :
    Calls Tryz.prog 36 #[.pointer (some ⟨tb, 0, none⟩)] w fun e w9 => e = .returned (.int .i64 k) ∧ ∃ K', PlX w0 w9 K' b rb sb tb seg (i + 1) := by
  rcases h with ⟨h, h2⟩ | ⟨rfl, h⟩
  · refine (pl_check_t h h2).mono ?_
    rintro e w9 ⟨rfl, K', h3, _⟩
    exact ⟨rfl, K', h3⟩
  · obtain ⟨l, f, t, s, r, Q, hk, hr, hD, hap⟩ := h.is
    refine (rcheck_dead hr).mono ?_
    rintro e w9 ⟨rfl, rfl⟩
    exact ⟨rfl, K, .inr h.up⟩

end

end Go.Proofs.YtnipdgigjcaolaaGreat
