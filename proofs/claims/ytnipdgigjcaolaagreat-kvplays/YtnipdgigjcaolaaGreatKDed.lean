/- A dead Store's keys; the reference's. -/
import Derived.Test.YtnipdgigjcaolaaGreatRStY
import Derived.Test.YtnipdgigjcaolaaGreatPkT
import Derived.Laws.IdiomRangeMap
namespace Go.Proofs.YtnipdgigjcaolaaGreat
open Go.RowKit

section
variable {w0 w : World} {K : Nat → Prop} {sb l b f t N : Nat} {s : WSt}

set_option maxHeartbeats 4000000 in
set_option maxRecDepth 100000 in
theorem kkeys_dead (p : ByteArray) (h : KD w0 K w sb l b f t N s) :
    Calls Tryz.prog 25 #[.pointer (some ⟨sb, 0, none⟩), .string p] w fun e w' => ∃ v, e = .returned v ∧ Texts w v [] w' := by
  have c1 : w.cell? ⟨sb, 1, none⟩ = some (.map none) := h.at'.cell 1
  have hrg := run_range_nilMap (P := Tryz.prog) w 115 9 29 Tryz.underlying115
  have hnx : ∀ ty, (Instr.next (.pointer (some ⟨w.heap.size, 0, none⟩)) false ty).run Tryz.prog (w.alloc (.mapIter none 0 #[] 0)) = _ := fun ty => run_next_nilMap w ty 0 0 #[]
  have ta : Turn (fun _ => False) w (w.alloc (.mapIter none 0 #[] 0)) := (Turn.refl _ _).alloc _
  have HS := hide (sort_any (.slice none 0 0) [] (w.alloc (.mapIter none 0 #[] 0)) (OwnsC.nil _ _) (by simp))
  have HT := hide ta
  clear h ta
  go_enter Tryz.func25, Tryz.ntmps25
  go_wp2_with fail
  refine wp_loop_rounds 1 ?_
  rw [rounds_succ]
  go_wp2_with fail
  refine (unhide HS).mono ?_
  rintro e w1 ⟨rfl, ho, t1⟩
  have hfin : Texts w (.slice none 0 0) [] w1 := ⟨by simpa [sorted] using ho, (unhide HT).trans' t1 (fun i hi e => by cases e), fun k hk => by cases hk⟩
  have Hfin := hide hfin
  clear ho t1 hfin HS
  go_wp2
  go_ret
  exact ⟨_, rfl, unhide Hfin⟩

end

end Go.Proofs.YtnipdgigjcaolaaGreat
