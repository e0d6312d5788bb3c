/- A store's pairs: a sorted list, plainly, and a map of byte slices in memory. -/
import Derived.Test.YteomehdkfhjbeaaGreatDoorKRead
import Derived.Test.YteomehdkfhjbeaaGreatDoorKStr
import Derived.Test.YteomehdkfhjbeaaGreatDoorPkB
import Derived.Maps.OwnSet
namespace Go.Proofs.YteomehdkfhjbeaaGreatDoor
open Go.RowKit

/-- A pair is laid at its place. -/
def kins {α : Type} (k : List UInt8) (v : α) : List (List UInt8 × α) → List (List UInt8 × α)
  | [] => [(k, v)]
  | y :: r => if bytesBefore k y.1 then (k, v) :: y :: r else y :: kins k v r

theorem kins_cons {α : Type} (k : List UInt8) (v : α) (y : List UInt8 × α) (r : List (List UInt8 × α)) : kins k v (y :: r) = if bytesBefore k y.1 then (k, v) :: y :: r else y :: kins k v r := rfl

def kdel {α : Type} (k : List UInt8) (m : List (List UInt8 × α)) : List (List UInt8 × α) := m.filter fun p => !(p.1 == k)
def kput {α : Type} (k : List UInt8) (v : α) (m : List (List UInt8 × α)) : List (List UInt8 × α) := kins k v (kdel k m)
def kget {α : Type} (k : List UInt8) (m : List (List UInt8 × α)) : Option α := (m.find? fun p => p.1 == k).map (·.2)

section
variable {α β : Type} (f : α → β)

/-- A pair's second limb turned. -/
def snd1 (p : List UInt8 × α) : List UInt8 × β := (p.1, f p.2)

theorem kins_map (k : List UInt8) (v : α) : ∀ m : List (List UInt8 × α), (kins k v m).map (snd1 f) = kins k (f v) (m.map (snd1 f))
  | [] => rfl
  | y :: r => by
    rw [kins_cons, List.map_cons, kins_cons]
    show _ = if bytesBefore k y.1 = true then _ else _
    split
    · rfl
    · rw [List.map_cons, kins_map k v r]

theorem kdel_map (k : List UInt8) (m : List (List UInt8 × α)) : (kdel k m).map (snd1 f) = kdel k (m.map (snd1 f)) := by
  unfold kdel
  rw [List.filter_map]
  rfl

theorem kput_map (k : List UInt8) (v : α) (m : List (List UInt8 × α)) : (kput k v m).map (snd1 f) = kput k (f v) (m.map (snd1 f)) := by
  unfold kput
  rw [kins_map, kdel_map]

theorem kget_map (k : List UInt8) : ∀ m : List (List UInt8 × α), kget k (m.map (snd1 f)) = (kget k m).map f
  | [] => rfl
  | y :: r => by
    have ih := kget_map k r
    unfold kget at *
    simp only [List.map_cons, List.find?_cons]
    show Option.map _ (match y.1 == k with | true => _ | false => _) = _
    cases y.1 == k
    · exact ih
    · rfl

theorem kins_mem (k : List UInt8) (v : α) (p : List UInt8 × α) : ∀ m : List (List UInt8 × α), p ∈ kins k v m ↔ p = (k, v) ∨ p ∈ m
  | [] => by simp [kins]
  | y :: r => by
    unfold kins
    split
    · simp
    · rw [List.mem_cons, kins_mem k v p r, List.mem_cons]
      constructor
      · rintro (h | h | h)
        · exact .inr (.inl h)
        · exact .inl h
        · exact .inr (.inr h)
      · rintro (h | h | h)
        · exact .inr (.inl h)
        · exact .inl h
        · exact .inr (.inr h)

theorem kins_length (k : List UInt8) (v : α) : ∀ m : List (List UInt8 × α), (kins k v m).length = m.length + 1
  | [] => rfl
  | y :: r => by
    unfold kins
    split
    · rfl
    · simp [kins_length k v r]

theorem kdel_length (k : List UInt8) (m : List (List UInt8 × α)) : (kdel k m).length ≤ m.length := List.length_filter_le _ _
theorem kput_length (k : List UInt8) (v : α) (m : List (List UInt8 × α)) : (kput k v m).length ≤ m.length + 1 := by
  unfold kput
  rw [kins_length]
  have := kdel_length k m
  omega

end

/-- How a value of the map reads: as itself. -/
def heldV (v : Value) : Option (DataW Value × List MemPlace) := some (.held v, [])

/-- Pairs as a map's entries. -/
def datM (m : List (List UInt8 × Value)) : List (Lit × DataW Value) := m.map fun p => (.string p.1, .held p.2)

theorem datM_ins (k : List UInt8) (v : Value) : ∀ m : List (List UInt8 × Value), DataW.insert (.string k, .held v) (datM m) = datM (kins k v m)
  | [] => rfl
  | y :: r => by
    unfold kins
    show DataW.insert _ ((Lit.string y.1, DataW.held y.2) :: datM r) = _
    unfold DataW.insert
    show (if bytesBefore k y.1 = true then _ else _) = _
    split
    · rfl
    · rw [datM_ins k v r]
      rfl

theorem datM_del (k : List UInt8) (m : List (List UInt8 × Value)) : (datM m).filter (fun p => !p.1.sameKey (.string k)) = datM (kdel k m) := by
  unfold datM kdel
  rw [List.filter_map]
  rfl

theorem datM_put (k : List UInt8) (v : Value) (m : List (List UInt8 × Value)) : (DataW.map (datM m)).put (.string k) (.held v) = .map (datM (kput k v m)) := by
  show DataW.map (DataW.insert _ _) = _
  rw [datM_del, datM_ins]
  rfl

theorem datM_drop (k : List UInt8) (m : List (List UInt8 × Value)) : (DataW.map (datM m)).del (.string k) = .map (datM (kdel k m)) := by
  show DataW.map _ = _
  rw [datM_del]

theorem datM_find (k : List UInt8) : ∀ m : List (List UInt8 × Value), (datM m).find? (fun p => p.1.sameKey (.string k)) = (m.find? fun p => p.1 == k).map fun p => (Lit.string p.1, DataW.held p.2)
  | [] => rfl
  | y :: r => by
    show List.find? _ ((Lit.string y.1, DataW.held y.2) :: datM r) = _
    simp only [List.find?_cons]
    show (match y.1 == k with | true => _ | false => _) = _
    cases y.1 == k
    · exact datM_find k r
    · rfl

theorem datM_at (k : List UInt8) (z : Value) (m : List (List UInt8 × Value)) : (DataW.map (datM m)).atKey (.string k) (.held z) = .held ((kget k m).getD z) := by
  unfold DataW.atKey kget
  simp only [datM_find]
  cases m.find? fun p => p.1 == k <;> rfl

theorem datM_has (k : List UInt8) : ∀ m : List (List UInt8 × Value), Maps.has (DataW.map (datM m)) (.string k) = (kget k m).isSome
  | [] => rfl
  | y :: r => by
    have ih := datM_has k r
    rw [Maps.has_eq] at *
    unfold kget at *
    show List.any ((Lit.string y.1, DataW.held y.2) :: datM r) _ = _
    simp only [List.any_cons, List.find?_cons]
    show ((y.1 == k) || _) = _
    cases y.1 == k
    · exact ih
    · rfl

end Go.Proofs.YteomehdkfhjbeaaGreatDoor
