/- What an argument that is a slice of bytes, of slices of bytes, or of flags, shows of memory. -/
import Derived.Test.YthclffafbkeepaaInfo
import Derived.ProofKit
import Derived.OpenShut
import Derived.Deep.Slices
import Derived.Deep.Strs
namespace Go.Proofs.Ythclffafbkeepaa
open Go.ChangeShapes Go.WideShapes Go.ChangeAt Go.RowKit Go.Deep

theorem Try.cellsU8 : Try.prog.cellsOf 5 = 1 := by kernel_rfl

section
variable {H : Type}

theorem bulk_one (d : DataW H) : 1 ≤ Rows.uptoBulk d := by
  cases d with
  | lit l => cases l <;> simp [Rows.uptoBulk]
  | nil => simp [Rows.uptoBulk]
  | ptr d => simp [Rows.uptoBulk]
  | slice elems spare => simp [Rows.uptoBulk]
  | agg parts => simp [Rows.uptoBulk]
  | iface t d => simp [Rows.uptoBulk]
  | map entries => simp [Rows.uptoBulk]
  | held h => simp [Rows.uptoBulk]

theorem bulk_length : ∀ l : List (DataW H), l.length ≤ Rows.uptoBulkAll l
  | [] => by simp [Rows.uptoBulkAll]
  | x :: r => by
    have h1 := bulk_one x
    have h2 := bulk_length r
    simp only [Rows.uptoBulkAll, List.length_cons]
    omega

theorem bulk_part {d : DataW H} : ∀ {l : List (DataW H)}, d ∈ l → Rows.uptoBulk d ≤ Rows.uptoBulkAll l
  | x :: r, h => by
    simp only [Rows.uptoBulkAll]
    rcases List.mem_cons.1 h with e | e
    · subst e; omega
    · have := bulk_part e; omega

/-- A datum that is a slice of so many elements, or nil. -/
def Long (d : DataW H) (n : Nat) : Prop := (d = .nil ∧ n = 0) ∨ ∃ elems spare, d = .slice elems spare ∧ elems.length = n

theorem Long.bulk {d : DataW H} {n : Nat} (h : Long d n) : n ≤ Rows.uptoBulk d := by
  rcases h with ⟨rfl, rfl⟩ | ⟨elems, spare, rfl, rfl⟩
  · omega
  · have := bulk_length elems
    simp only [Rows.uptoBulk]
    omega

end

section
variable {H : Type} {enc : TypeId × Value → H} {W : World}

theorem byte_wf {n : Int} (h : (Lit.int .u8 n).wf = true) : ((UInt8.ofNat n.toNat).toNat : Int) = n := by
  have hb := bounds_u8 h
  rw [UInt8.toNat_ofNat']
  omega

/-- A slice of bytes that is read as data: what it shows, and that its bytes lie below the world's end. -/
theorem open_bytes {fuel : Nat} {c : Value} {x : DataW H × List MemPlace} (h : DataW.trod enc Try.prog W 0 (fun _ => true) true fuel 22 [c] = some x) :
    ∃ bs : List UInt8, Sees W c bs ∧ (0 < bs.length → ∀ k, slab c = some k → k < W.heap.size) ∧ Long x.1 bs.length := by
  rcases open_ints Try.underlying22 Try.underlying5 Try.cellsU8 h with ⟨hcs, hx⟩ | ⟨a, len, cap, zs, hcs, _, hl, hm, hz, hx, hcell, hwz⟩
  · injection hcs with hcs
    subst hcs
    exact ⟨[], Sees.nil W, fun h => by simp at h, .inl ⟨by rw [hx], rfl⟩⟩
  · injection hcs with hcs
    subst hcs
    simp only [if_true] at hz
    refine ⟨(zs.take len).map (fun n => UInt8.ofNat n.toNat), ?_, ?_, .inr ⟨_, _, by rw [hx], by simp [lits]⟩⟩
    · refine .inr ⟨a, cap, by simp; omega, by simp; omega, hm, fun j u hj => ?_⟩
      have hjl : j < len := by
        have := (List.getElem?_eq_some_iff.1 hj).1
        simp [u8s] at this
        omega
      rw [hcell j (by omega)]
      rw [← hj]
      have hzj : zs[j]? = some (zs.getD j 0) := by
        rw [List.getD_eq_getElem?_getD, List.getElem?_eq_getElem (show j < zs.length by omega)]
        rfl
      have hmem : zs.getD j 0 ∈ zs := List.mem_of_getElem? hzj
      simp only [u8s, List.map_map, List.getElem?_map, List.getElem?_take, hjl, if_true, hzj, Option.map_some, Function.comp]
      rw [byte_wf (hwz _ hmem)]
    · intro h0 k hk
      simp only [slab, Option.some.injEq] at hk
      subst hk
      have h1 : 0 < zs.length := by simp at h0; omega
      have := World.block_lt_of_cell? _ _ (hcell 0 h1)
      rwa [addr_add_block] at this

theorem list_of {α : Type} {p : Nat → α → Prop} : ∀ n : Nat, (∀ i, i < n → ∃ x, p i x) → ∃ xs : List α, xs.length = n ∧ ∀ i (h : i < xs.length), p i xs[i]
  | 0, _ => ⟨[], rfl, fun i h => by simp at h⟩
  | n + 1, h => by
    obtain ⟨xs, hl, hx⟩ := list_of n (fun i hi => h i (by omega))
    obtain ⟨y, hy⟩ := h n (by omega)
    refine ⟨xs ++ [y], by simp [hl], fun i hi => ?_⟩
    by_cases hi' : i < xs.length
    · rw [List.getElem_append_left hi']
      exact hx i hi'
    · have e : i = xs.length := by simp at hi; omega
      subst e
      simp only [List.getElem_concat_length]
      rw [hl]
      exact hy

end

end Go.Proofs.Ythclffafbkeepaa
