/- Pairs, plainly: when two lists are the same; a map of texts in memory. -/
import Derived.Test.YtnipdgigjcaolaaGreatPkU
namespace Go.Proofs.YtnipdgigjcaolaaGreat
open Go.RowKit Go.Maps

theorem before_irrefl (a : List UInt8) : bytesBefore a a = false := by
  cases h : bytesBefore a a with
  | false => rfl
  | true => exact absurd (before_lt h) (List.lt_irrefl _)

section
variable {α : Type}

/-- Rising lists: what holds each pair of a list holds it in its order. -/
theorem rising_sub : ∀ {m n : List (List UInt8 × α)}, risingK m → risingK n → (∀ p ∈ n, p ∈ m) → n.Sublist m
  | [], n, _, _, h => by
    cases n with
    | nil => exact List.Sublist.refl _
    | cons p r => exact absurd (h p (by simp)) (by simp)
  | q :: s, [], _, _, _ => List.nil_sublist _
  | q :: s, p :: r, hm, hn, h => by
    unfold risingK at hm hn
    have hm' := List.pairwise_cons.1 hm
    have hn' := List.pairwise_cons.1 hn
    by_cases e : p ∈ s
    · have hqp := hm'.1 p e
      refine List.Sublist.cons _ (rising_sub hm'.2 hn (fun x hx => ?_))
      rcases List.mem_cons.1 (h x hx) with h1 | h1
      · exfalso
        subst h1
        rcases List.mem_cons.1 hx with h2 | h2
        · rw [h2, before_irrefl] at hqp
          cases hqp
        · exact absurd (List.lt_trans (before_lt hqp) (before_lt (hn'.1 _ h2))) (List.lt_irrefl _)
      · exact h1
    · have hpq : p = q := by
        rcases List.mem_cons.1 (h p (by simp)) with h1 | h1
        · exact h1
        · exact absurd h1 e
      subst hpq
      refine List.Sublist.cons_cons _ (rising_sub hm'.2 hn'.2 (fun x hx => ?_))
      rcases List.mem_cons.1 (h x (by simp [hx])) with h1 | h1
      · exfalso
        have h2 := hn'.1 x hx
        rw [h1, before_irrefl] at h2
        cases h2
      · exact h1

theorem kget_mem {k : List UInt8} {v : α} {m : List (List UInt8 × α)} (h : kget k m = some v) : (k, v) ∈ m := by
  unfold kget at h
  obtain ⟨p, hp, rfl⟩ := Option.map_eq_some_iff.1 h
  have h1 := List.mem_of_find?_eq_some hp
  have h2 := List.find?_some hp
  have h3 : p.1 = k := by simpa using h2
  rw [← h3]
  exact h1

theorem rising_mem {m : List (List UInt8 × α)} (h : risingK m) {p : List UInt8 × α} (hp : p ∈ m) : kget p.1 m = some p.2 := by
  obtain ⟨n, hn, rfl⟩ := List.getElem_of_mem hp
  exact rising_get h n hn

/-- As many pairs, and each of them: the same. -/
theorem rising_same {m n : List (List UInt8 × α)} (hm : risingK m) (hn : risingK n) (hl : m.length = n.length) (h : ∀ p ∈ n, kget p.1 m = some p.2) : m = n :=
  ((rising_sub hm hn (fun p hp => kget_mem (h p hp))).eq_of_length hl.symm).symm

theorem rising_ext {m n : List (List UInt8 × α)} (hm : risingK m) (hn : risingK n) (h : ∀ k, kget k m = kget k n) : m = n := by
  have h1 := rising_sub hm hn (fun p hp => kget_mem ((h p.1).trans (rising_mem hn hp)))
  have h2 := rising_sub hn hm (fun p hp => kget_mem ((h p.1).symm.trans (rising_mem hm hp)))
  exact h2.eq_of_length (Nat.le_antisymm h2.length_le h1.length_le)

theorem kget_cons (k : List UInt8) (p : List UInt8 × α) (m : List (List UInt8 × α)) : kget k (p :: m) = if p.1 = k then some p.2 else kget k m := by
  unfold kget
  rw [List.find?_cons]
  by_cases h : p.1 = k
  · have : (p.1 == k) = true := by simp [h]
    rw [this, if_pos h]
    rfl
  · have : (p.1 == k) = false := by simp [h]
    rw [this, if_neg h]

theorem kget_kdel (j k : List UInt8) : ∀ m : List (List UInt8 × α), kget j (kdel k m) = if j = k then none else kget j m
  | [] => by simp [kget, kdel]
  | p :: m => by
    have ih := kget_kdel j k m
    have e : kdel k (p :: m) = if p.1 = k then kdel k m else p :: kdel k m := by
      unfold kdel
      rw [List.filter_cons]
      by_cases h : p.1 = k <;> simp [h]
    rw [e, kget_cons]
    by_cases h : p.1 = k
    · rw [if_pos h, ih]
      by_cases hj : j = k
      · simp [hj]
      · rw [if_neg hj, if_neg hj, if_neg (by rw [h]; exact fun e => hj e.symm)]
    · rw [if_neg h, kget_cons, ih]
      by_cases hj : j = k
      · rw [if_pos hj, if_pos hj, if_neg (by rw [hj]; exact h)]
      · rw [if_neg hj, if_neg hj]

theorem kget_kins (j k : List UInt8) (v : α) : ∀ m : List (List UInt8 × α), kget k m = none → kget j (kins k v m) = if j = k then some v else kget j m
  | [], _ => by
    show kget j [(k, v)] = _
    rw [kget_cons]
    by_cases hj : j = k
    · simp [hj]
    · rw [if_neg (fun e => hj e.symm), if_neg hj]
  | p :: m, h => by
    rw [kget_cons] at h
    have hp : ¬ p.1 = k := fun e => by rw [if_pos e] at h; cases h
    rw [if_neg hp] at h
    have ih := kget_kins j k v m h
    rw [kins_cons]
    split
    · rw [kget_cons]
      by_cases hj : j = k
      · simp [hj]
      · rw [if_neg (fun e => hj e.symm), if_neg hj]
    · rw [kget_cons, kget_cons, ih]
      by_cases hj : j = k
      · rw [if_pos hj, if_pos hj, if_neg (by rw [hj]; exact hp)]
      · rw [if_neg hj, if_neg hj]

theorem kget_kput (j k : List UInt8) (v : α) (m : List (List UInt8 × α)) : kget j (kput k v m) = if j = k then some v else kget j m := by
  unfold kput
  rw [kget_kins j k v _ (by rw [kget_kdel, if_pos rfl]), kget_kdel]
  by_cases hj : j = k
  · rw [if_pos hj, if_pos hj]
  · rw [if_neg hj, if_neg hj, if_neg hj]

end

/-- Pairs laid anew, by their keys. -/
def copyK (m : List (List UInt8 × List UInt8)) (ss : List (List UInt8)) : List (List UInt8 × List UInt8) := ss.foldl (fun o x => kput x ((kget x m).getD []) o) []

theorem copyK_snoc (m : List (List UInt8 × List UInt8)) (ss : List (List UInt8)) (x : List UInt8) : copyK m (ss ++ [x]) = kput x ((kget x m).getD []) (copyK m ss) := by simp [copyK]

theorem copyK_get (m : List (List UInt8 × List UInt8)) (j : List UInt8) (ss : List (List UInt8)) : ∀ o, kget j (ss.foldl (fun o x => kput x ((kget x m).getD []) o) o) = if j ∈ ss then some ((kget j m).getD []) else kget j o := by
  induction ss with
  | nil => intro o; simp
  | cons x r ih =>
    intro o
    rw [List.foldl_cons, ih, kget_kput]
    by_cases h1 : j ∈ r
    · simp [h1]
    · rw [if_neg h1]
      by_cases h2 : j = x
      · subst h2; simp
      · rw [if_neg h2, if_neg (by simp [h1, h2])]

theorem copyK_all {m : List (List UInt8 × List UInt8)} {ss : List (List UInt8)} (hm : risingK m) (hc : risingK (copyK m ss)) (h : ss.Perm (m.map (·.1))) : copyK m ss = m := by
  refine rising_ext hc hm (fun k => ?_)
  unfold copyK
  rw [copyK_get]
  by_cases hk : k ∈ ss
  · rw [if_pos hk]
    obtain ⟨p, hp, rfl⟩ := List.mem_map.1 (h.mem_iff.1 hk)
    rw [rising_mem hm hp]
    rfl
  · rw [if_neg hk]
    cases hg : kget k m with
    | none => rfl
    | some v =>
      exact absurd (h.mem_iff.2 (List.mem_map.2 ⟨(k, v), kget_mem hg, rfl⟩)) hk

/-- A map of texts in block b. -/
structure MSt (w : World) (b : Nat) (m : List (List UInt8 × List UInt8)) : Prop where
  map : w.ownsMap Tryz.prog 9 heldV b m.length (.map (datM (m.map (snd1 encStr))))

section
variable {w w' : World} {b : Nat} {m : List (List UInt8 × List UInt8)}

theorem MSt.kept {S : Nat → Prop} (h : MSt w b m) (t : Turn S w w') (hb : ¬ S b) : MSt w' b m := ⟨ownsMap_turn h.map t hb⟩

theorem MSt.lt (h : MSt w b m) : b < w.heap.size := h.map.lt

theorem MSt.rising (h : MSt w b m) : risingK m := by
  obtain ⟨es, clock, hb, F, _, hD⟩ := h.map
  have hs := sorted_sorted keyedS.one (es.toList.map (Go.WideElems.rg Tryz.prog 9 heldV)) (fit_keys F) (fit_apart keyedS F)
  injection hD with hD
  rw [← hD] at hs
  unfold datM at hs
  rw [List.map_map, List.pairwise_map] at hs
  exact hs

/-- 'm[k] = x'. -/
theorem MSt.put (h : MSt w b m) (hm : m.length ≤ 1099511627776) (k : ByteArray) (hk : k.size ≤ maxLen) (x : List UInt8) :
    ∃ w', (Instr.mapUpdate 76 (.map (some b)) (.string k) (encStr x)).run Tryz.prog w = .ok () w' ∧ MSt w' b (kput k.data.toList x m) ∧ Turn (fun j => j = b) w w' ∧ w.grownBy w' (some b) := by
  obtain ⟨w', r1, r2, r3⟩ := h.map.update (e := 9) keyedS Tryz.underlying76 (by unfold maxLen; omega) (Go.WideMaps.keyOf_string_mk Tryz.underlying9 hk) (show heldV (encStr x) = some (.held (encStr x), []) from rfl)
  have tg : Turn (fun j => j = b) w w' := (Turn.refl _ _).grown r3 (fun j hj => by injection hj with hj; exact .inl hj.symm)
  refine ⟨w', r1, ⟨?_⟩, tg, r3⟩
  rw [datM_put, ← kput_map encStr k.data.toList x] at r2
  have := ownsMap_tight r2
  rw [datM_length, List.length_map] at this
  exact this

/-- 'delete(m, k)'. -/
theorem MSt.drop (h : MSt w b m) (k : ByteArray) (hk : k.size ≤ maxLen) (ty : TypeId) :
    ∃ w', (Builtin.delete_ #[76, 9] ty #[.map (some b), .string k]).run Tryz.prog w = .ok (.tuple #[]) w' ∧ MSt w' b (kdel k.data.toList m) ∧ Turn (fun j => j = b) w w' := by
  obtain ⟨w', r1, r2, r3⟩ := h.map.drop (e := 9) keyedS Tryz.underlying76 (Go.WideMaps.keyOf_string_mk Tryz.underlying9 hk) ty
  have tg : Turn (fun j => j = b) w w' := (Turn.refl _ _).grown r3.grown (fun j hj => by injection hj with hj; exact .inl hj.symm)
  refine ⟨w', r1, ⟨?_⟩, tg⟩
  rw [datM_drop, ← kdel_map encStr k.data.toList] at r2
  have := ownsMap_tight r2
  rw [datM_length, List.length_map] at this
  exact this

/-- 'len(m)'. -/
theorem MSt.len (h : MSt w b m) (ty : TypeId) : (Builtin.len_ #[76] ty #[.map (some b)]).run Tryz.prog w = .ok (.int .i64 m.length) w := by
  rw [h.map.len Tryz.underlying76 ty, Maps.size_eq, datM_length, List.length_map]

/-- 'make(map)'. -/
theorem MSt.made (w : World) : MSt (w.alloc (.map #[] 0)) w.heap.size [] := ⟨World.ownsMap_made w _ _ _⟩

end

end Go.Proofs.YtnipdgigjcaolaaGreat
