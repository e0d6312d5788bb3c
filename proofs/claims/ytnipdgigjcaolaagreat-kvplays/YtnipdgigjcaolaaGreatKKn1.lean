/- Chapter 7's example: its walk. -/
import Derived.Test.YtnipdgigjcaolaaGreatPkU
namespace Go.Proofs.YtnipdgigjcaolaaGreat
open Go.RowKit

def cA : Chg := ⟨⟨#[97]⟩, true, [120]⟩
def cB : Chg := ⟨⟨#[98]⟩, true, []⟩

theorem ab_ok : [cA, cB].all Chg.ok = true := by decide
theorem ab_b : kget [98] ([cA, cB].foldl turnC []) = some [] := by decide
theorem ab_a : kget [97] ([cA, cB].foldl turnC []) = some [120] := by decide

theorem laid_all (cl : List Chg) (h : cl.all Chg.ok = true) (k m : Int) : (laidOf k m (cl.map Chg.laid)).length ≤ cl.length * 65804 + 9 := by
  have := laidOf_len k m 65795 (cl.map Chg.laid) (fun x hx => by
    obtain ⟨c, hc, rfl⟩ := List.mem_map.1 hx
    exact Chg.laid_le c (List.all_eq_true.1 h c hc))
  rw [List.length_map] at this
  omega

set_option maxHeartbeats 4000000 in
set_option maxRecDepth 100000 in
theorem known7_any (w : World) : Calls Tryz.prog 23 #[] w fun e w' => e = .returned (.bool true) ∧ Turn (fun _ => False) w w' := by
  go_enter Tryz.func23, Tryz.ntmps23
  go_wp2_with fail
  refine (dl_new (w0 := w) (K := fun _ => False) (fun _ h => h.elim) (Turn.refl _ w)).mono ?_
  rintro e w1 ⟨rfl, h1, _⟩
  obtain ⟨b, hb⟩ : ∃ b, b = w.heap.size := ⟨_, rfl⟩
  rw [← hb] at h1 ⊢
  clear hb
  go_wp2_with fail
  refine (kopen_new 256 h1 (by omega) (by omega)).mono ?_
  rintro e w2 ⟨sb, mb, l, f, t, K2, rfl, h2, _, _⟩
  clear h1
  obtain ⟨w3, hcv3, hs3, t3⟩ := run_lit w2 [120] (by simp [maxLen])
  simp [u8s] at hcv3
  simp only [List.length_cons, List.length_nil, Nat.zero_add] at hs3
  have l3 := lit_lt hs3 (by simp)
  have h3 := h2.goes t3
  have hC := CLs.lit (Q := fun j => j = w2.heap.size) w3 [(.slice (some ⟨w2.heap.size, 0, none⟩) 1 1, cA), (.slice none 0 0, cB)] 51 (by simp) (by
    intro p hp
    simp only [List.mem_cons, List.not_mem_nil, or_false] at hp
    rcases hp with rfl | rfl
    · exact ⟨hs3, fun _ j hj => by simp [slab] at hj; exact hj.symm, by simp [cA, ByteArray.size], by simp [cA]⟩
    · exact ⟨Sees.nil _, fun h0 => by simp [cB] at h0, by simp [cB, ByteArray.size], by simp [cB]⟩)
  simp only [cells3, cA, cB, List.flatMap_cons, List.flatMap_nil, List.append_nil, List.cons_append, List.nil_append, List.length_cons, List.length_nil, Nat.zero_add, Nat.reduceAdd] at hC
  have t4 : Turn (fun _ => False) w3 (w3.alloc (.cells #[.string ⟨#[97]⟩, .bool true, .slice (some ⟨w2.heap.size, 0, none⟩) 1 1, .string ⟨#[98]⟩, .bool true, .slice none 0 0] 51)) := (Turn.refl _ _).alloc _
  have h4 := h3.goes t4
  have hsb := h2.at'.lt
  have hmb : mb < w2.heap.size := by
    obtain ⟨m', hm1, _⟩ := h2.mp
    exact hm1.lt
  have hz4 := t4.size
  have hz3 := t3.size
  have hlo : ∀ (cl : List Chg), cl.all Chg.ok = true → ((DSt.zero.now (⟨DSt.zero, 256, 0, 0, false⟩ : WSt).to.1).length + (laidOf 1 2 (cl.map Chg.laid)).length ≤ 140737488355328) → True := fun _ _ _ => trivial
  have hlen := laid_all [cA, cB] ab_ok 1 2
  have HC := hide (kcommit_any _ _ h4 hC (fun j hj => by
      rcases hj with hj | hj
      · subst hj; omega
      · exact hj.2) (fun j hj e => by
      have hk : grow (grow K2 w2 w3) w3 (w3.alloc (.cells #[.string ⟨#[97]⟩, .bool true, .slice (some ⟨w2.heap.size, 0, none⟩) 1 1, .string ⟨#[98]⟩, .bool true, .slice none 0 0] 51)) j ∧ w2.heap.size ≤ j := by
        rcases hj with hj | hj
        · subst hj
          exact ⟨.inl (.inr ⟨Nat.le_refl _, l3⟩), Nat.le_refl _⟩
        · exact ⟨.inr hj, by omega⟩
      rcases e with e | e | e
      · exact e.2 hk.1
      · omega
      · omega) ⟨by decide, by decide, by decide, by decide⟩ (by simp) (by omega) (Nat.le_trans (Nat.add_le_add (Nat.le_refl 0) hlen) (by decide)) (by simp))
  have hcf := commit_free (s := ⟨DSt.zero, 256, 0, 0, false⟩) rfl rfl rfl (l := [cA, cB].map Chg.laid) (by simp) (by decide)
  have Hcf := hide hcf
  clear hlo hlen hcf h2 h3 h4 hC t3 t4 hs3 hsb hmb hz4 hz3
  go_wp2_with fail
  refine (unhide HC).mono ?_
  rintro e w5 ⟨_, K5, _, hr⟩
  have hr3 : e = .returned (.int .i64 0) ∧ ∃ (N : Nat) (s5 : WSt), KS w K5 w5 sb mb l b f t N s5 ([cA, cB].foldl turnC []) := by
    rcases hr with ⟨h0, _⟩ | ⟨_, h0, _⟩ | ⟨_, _, h1, h2⟩
    · exact absurd (show [cA, cB].all Chg.ok = false from h0) (by rw [ab_ok]; simp)
    · exact absurd (congrArg Prod.fst (unhide Hcf)) h0
    · exact ⟨h1, _, _, h2⟩
  clear hr HC Hcf
  obtain ⟨rfl, N5, s5, h5⟩ := hr3
  have HG := hide (kget_any h5.kr ⟨#[98]⟩ (by decide))
  rw [ab_b] at HG
  have H5 := hide h5
  clear h5 hcv3
  go_wp2_with fail
  refine (unhide HG).mono ?_
  rintro e w6 ⟨v6, rfl, hm6⟩
  have h6 := (unhide H5).goes hm6.2.1
  have HG2 := hide (kget_any h6.kr ⟨#[97]⟩ (by decide))
  rw [ab_a] at HG2
  obtain ⟨o6, c6, e6⟩ := hm6.1.shape
  have H6 := hide h6
  simp only [Option.getD_some, List.length_nil] at e6
  subst e6
  clear hm6 h6 HG H5
  go_wp2_with fail
  refine (unhide HG2).mono ?_
  rintro e w7 ⟨v7, rfl, hm7⟩
  have hcv := run_text_of_sees (P := Tryz.prog) w7 29 9 Tryz.underlying29 Tryz.underlying5 Tryz.underlying9 hm7.1.sees
  obtain ⟨o7, c7, e7⟩ := hm7.1.shape
  have ht := ((unhide H6).goes hm7.2.1).li.dl.turn
  simp only [Option.getD_some] at hcv
  simp only [Option.getD_some, List.length_cons, List.length_nil, Nat.zero_add] at e7
  subst e7
  clear hm7 HG2 H6
  go_wp2
  go_ret
  exact ⟨rfl, ht⟩

end Go.Proofs.YtnipdgigjcaolaaGreat
