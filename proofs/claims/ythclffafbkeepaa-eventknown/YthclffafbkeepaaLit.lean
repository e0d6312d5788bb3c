/- Bytes of a constant text, in new memory. -/
import Derived.Test.YthclffafbkeepaaRows
import Derived.Test.YthclffafbkeepaaBase
namespace Go.Proofs.Ythclffafbkeepaa
open Go.RowKit

theorem heap_freeze_same (w : World) (g k : Nat) (cs : Array Value) (T : TypeId) (h : w.heap[g]? = some (.cells cs T (0, 0))) : ∃ fr, (w.freeze ⟨g, k, none⟩ 1).heap[g]? = some (.cells cs T fr) := by
  unfold World.freeze
  rw [if_neg (by decide)]
  refine ⟨?_, ?_⟩
  rotate_left
  · show (w.heap.modify g _)[g]? = _
    rw [Array.getElem?_modify, if_pos rfl, h]
    rfl

theorem heap_freeze_other (w : World) (g k j : Nat) (h : j ≠ g) : (w.freeze ⟨g, k, none⟩ 1).heap[j]? = w.heap[j]? := by
  unfold World.freeze
  rw [if_neg (by decide)]
  show (w.heap.modify g _)[j]? = _
  rw [Array.getElem?_modify, if_neg (fun e => h e.symm)]

theorem run_lit (w : World) (bs : List UInt8) (h : bs.length ≤ maxLen) :
    ∃ w', (convert 22 22 (.slice (some ⟨w.heap.size, 0, none⟩) bs.length bs.length)).run Try.prog (w.alloc (.cells (u8s bs).toArray 5)) = .ok (.slice (some ⟨w.heap.size, 0, none⟩) bs.length bs.length) w' ∧
      Sees w' (.slice (some ⟨w.heap.size, 0, none⟩) bs.length bs.length) bs ∧ Turn (fun _ => False) w w' := by
  have hnew : (w.alloc (.cells (u8s bs).toArray 5)).heap[w.heap.size]? = some (.cells (u8s bs).toArray 5 (0, 0)) := heap_alloc_new w _
  have hsh : (w.alloc (.cells (u8s bs).toArray 5)).shape? w.heap.size = some (5, (u8s bs).toArray.size) := by
    unfold World.shape?
    rw [hnew]
  obtain ⟨fr, hfr⟩ := heap_freeze_same _ w.heap.size (u8s bs).toArray.size _ _ hnew
  refine ⟨(w.alloc (.cells (u8s bs).toArray 5)).freeze ⟨w.heap.size, (u8s bs).toArray.size, none⟩ 1, ?_, ?_, ?_⟩
  · simp [convert, run_underlying Try.underlying22, run_underlying Try.underlying5, markStringish, hsh]
  · refine .inr ⟨_, _, rfl, Nat.le_refl _, h, fun j u hj => ?_⟩
    rw [show (⟨w.heap.size, 0, none⟩ : Addr).add j = ⟨w.heap.size, j, none⟩ by unfold Addr.add; split <;> simp_all]
    rw [cell_of_row _ w.heap.size j _ _ fr hfr]
    simpa using hj
  · refine ⟨rfl, rfl, rfl, ?_, fun k hk _ => ?_⟩
    · unfold World.freeze
      rw [if_neg (by decide)]
      simp
    · rw [heap_freeze_other _ _ _ _ (by omega)]
      exact Below.heap_alloc _ _ _ hk

end Go.Proofs.Ythclffafbkeepaa
