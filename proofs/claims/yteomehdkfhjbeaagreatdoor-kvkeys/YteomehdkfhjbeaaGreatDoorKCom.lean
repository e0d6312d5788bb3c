/- kv's Commit, Get, Count and Dead. -/
import Derived.Test.YteomehdkfhjbeaaGreatDoorKOpen
import Derived.Test.YteomehdkfhjbeaaGreatDoorKAll
import Derived.Test.YteomehdkfhjbeaaGreatDoorPkH
import Derived.Deep.QuietTactic
import Derived.BigQuiet
namespace Go.Proofs.YteomehdkfhjbeaaGreatDoor
open Go.RowKit

/-- A Store that is dead. -/
structure KD (w0 : World) (K : Nat → Prop) (w : World) (sb l b f t N : Nat) (s : WSt) : Prop where
  li : LI w0 K w l b f t N s
  at' : At 56 w sb #[.pointer (some ⟨l, 0, none⟩), .map none, .bool true]
  ks : K sb

/-- A Store as it is read. -/
structure KR (K : Nat → Prop) (w : World) (sb mb l : Nat) (m : List (List UInt8 × List UInt8)) : Prop where
  at' : At 56 w sb #[.pointer (some ⟨l, 0, none⟩), .map (some mb), .bool false]
  ks : K sb
  mp : ∃ m', MPs K w mb m' ∧ plain m' = m
  fit : fitK m

section
variable {w0 w w1 : World} {K : Nat → Prop} {sb mb l b f t N : Nat} {s : WSt} {m : List (List UInt8 × List UInt8)}

theorem KS.kr (h : KS w0 K w sb mb l b f t N s m) : KR K w sb mb l m := ⟨h.at', h.ks, h.mp, h.fit⟩

theorem KR.kept {S : Nat → Prop} (h : KR K w sb mb l m) (tn : Turn S w w1) (hS : ∀ j, K j → ¬ S j) : KR K w1 sb mb l m := by
  obtain ⟨m', h1, h2⟩ := h.mp
  exact ⟨h.at'.kept tn (hS sb h.ks), h.ks, ⟨m', h1.kept tn hS, h2⟩, h.fit⟩

theorem KS.goes (h : KS w0 K w sb mb l b f t N s m) (tn : Turn (fun _ => False) w w1) : KS w0 (grow K w w1) w1 sb mb l b f t N s m := by
  obtain ⟨m', h1, h2⟩ := h.mp
  exact ⟨h.li.goes tn, h.at'.kept tn (fun e => e), .inl h.ks, h.ne, ⟨m', (h1.kept tn (fun _ _ e => e)).mono (fun j hj => .inl hj), h2⟩, h.fit⟩

theorem KD.goes (h : KD w0 K w sb l b f t N s) (tn : Turn (fun _ => False) w w1) : KD w0 (grow K w w1) w1 sb l b f t N s := ⟨h.li.goes tn, h.at'.kept tn (fun e => e), .inl h.ks⟩

theorem KS.mono {N' : Nat} (h : KS w0 K w sb mb l b f t N s m) (hN : N ≤ N') : KS w0 K w sb mb l b f t N' s m := ⟨h.li.mono hN, h.at', h.ks, h.ne, h.mp, h.fit⟩
theorem KD.mono {N' : Nat} (h : KD w0 K w sb l b f t N s) (hN : N ≤ N') : KD w0 K w sb l b f t N' s := ⟨h.li.mono hN, h.at', h.ks⟩

set_option maxHeartbeats 2000000 in
set_option maxRecDepth 100000 in
theorem kcount_any (h : KR K w sb mb l m) : Calls Tryz.prog 11 #[.pointer (some ⟨sb, 0, none⟩)] w fun e w' => e = .returned (.int .i64 m.length) ∧ w = w' := by
  have c1 : w.cell? ⟨sb, 1, none⟩ = some (.map (some mb)) := h.at'.cell 1
  obtain ⟨m', h1, h2⟩ := h.mp
  have hl : m.length = m'.length := by rw [← h2, plain_length]
  have hlen := h1.len
  rw [← hl] at hlen
  clear h h1 h2 hl
  go_enter Tryz.func11, Tryz.ntmps11
  go_wp2
  go_ret
  exact ⟨rfl, rfl⟩

set_option maxHeartbeats 2000000 in
set_option maxRecDepth 100000 in
theorem kcount_dead (h : KD w0 K w sb l b f t N s) : Calls Tryz.prog 11 #[.pointer (some ⟨sb, 0, none⟩)] w fun e w' => e = .returned (.int .i64 0) ∧ w = w' := by
  have c1 : w.cell? ⟨sb, 1, none⟩ = some (.map none) := h.at'.cell 1
  have hlen := fun ty => Maps.len_nil (P := Tryz.prog) (w := w) Tryz.underlying52 ty
  clear h
  go_enter Tryz.func11, Tryz.ntmps11
  go_wp2
  go_ret
  exact ⟨rfl, rfl⟩

set_option maxHeartbeats 2000000 in
set_option maxRecDepth 100000 in
theorem kget_any (h : KR K w sb mb l m) (k : ByteArray) (hk : k.size ≤ 1099511627776) :
    Calls Tryz.prog 15 #[.pointer (some ⟨sb, 0, none⟩), .string k] w fun e w' => ∃ v, e = .returned (.tuple #[v, .bool (kget k.data.toList m).isSome]) ∧ Made w v ((kget k.data.toList m).getD []) w' := by
  have c1 : w.cell? ⟨sb, 1, none⟩ = some (.map (some mb)) := h.at'.cell 1
  obtain ⟨m', h1, h2⟩ := h.mp
  have hl := h1.look k (by unfold maxLen; omega)
  have hm : kget k.data.toList m = (kget k.data.toList m').map Prod.snd := by rw [← h2]; exact kget_map _ _ _
  have hsee : Sees w (((kget k.data.toList m').map Prod.fst).getD (.slice none 0 0)) ((kget k.data.toList m).getD []) := by
    rw [hm]
    cases hg : kget k.data.toList m' with
    | none => exact Sees.nil w
    | some p =>
      obtain ⟨q, hq, e⟩ := Option.map_eq_some_iff.1 hg
      have := (h1.each q (List.mem_of_find?_eq_some hq)).1
      rw [e] at this
      exact this
  have hb : ((kget k.data.toList m).getD []).length ≤ 65535 := by
    cases hg : kget k.data.toList m with
    | none => simp
    | some x =>
      obtain ⟨q, hq, e⟩ := Option.map_eq_some_iff.1 hg
      have := (h.fit q (List.mem_of_find?_eq_some hq)).2.2
      rw [e] at this
      exact this
  have his : (kget k.data.toList m').isSome = (kget k.data.toList m).isSome := by rw [hm, Option.isSome_map]
  rw [his] at hl
  obtain ⟨vo, vc, hv⟩ := hsee.shape
  have HC := hide (clone_any _ _ w hsee (by omega))
  rw [hv] at hl HC
  clear h h1 h2 hm hsee hb his hv
  generalize (kget k.data.toList m).isSome = is at *
  generalize (kget k.data.toList m).getD [] = bs at *
  generalize hn : bs.length = n at *
  have Hn := hide hn
  clear hn
  go_enter Tryz.func15, Tryz.ntmps15
  go_wp2_with fail
  refine (unhide HC).mono ?_
  rintro e w1 ⟨v1, rfl, hm⟩
  obtain ⟨o1, p1, e1⟩ := hm.1.shape
  have Hm := hide hm
  rw [unhide Hn] at e1
  subst e1
  clear hm hl
  go_wp2
  go_ret2
  exact ⟨_, rfl, unhide Hm⟩

set_option maxHeartbeats 2000000 in
set_option maxRecDepth 100000 in
theorem kget_dead (h : KD w0 K w sb l b f t N s) (k : ByteArray) (hk : k.size ≤ 1099511627776) :
    Calls Tryz.prog 15 #[.pointer (some ⟨sb, 0, none⟩), .string k] w fun e w' => ∃ v, e = .returned (.tuple #[v, .bool false]) ∧ Made w v [] w' := by
  have c1 : w.cell? ⟨sb, 1, none⟩ = some (.map none) := h.at'.cell 1
  have hz : (zeroValue 32).run Tryz.prog w = .ok (.slice none 0 0) w := by kernel_rfl
  have hl := Maps.look_nil (P := Tryz.prog) (w := w) true keyedS Tryz.underlying52 hz (Go.WideMaps.keyOf_string_mk Tryz.underlying9 (show k.size ≤ maxLen by unfold maxLen; omega))
  have HC := hide (clone_any _ _ w (Sees.nil w) (by simp))
  clear h hz
  simp only [if_true] at hl
  go_enter Tryz.func15, Tryz.ntmps15
  go_wp2_with fail
  refine (unhide HC).mono ?_
  rintro e w1 ⟨v1, rfl, hm⟩
  obtain ⟨o1, p1, e1⟩ := hm.1.shape
  have Hm := hide hm
  subst e1
  clear hm hl
  go_wp2
  go_ret2
  exact ⟨_, rfl, unhide Hm⟩

set_option maxHeartbeats 2000000 in
set_option maxRecDepth 100000 in
theorem fall_any (h : KS w0 K w sb mb l b f t N s m) : Calls Tryz.prog 19 #[.pointer (some ⟨sb, 0, none⟩)] w fun e w' => e = .returned (.tuple #[]) ∧ KD w0 (grow K w w') w' sb l b f t N s ∧ Turn (fun j => j = sb) w w' := by
  have c1 : w.cell? ⟨sb, 1, none⟩ = some (.map (some mb)) := h.at'.cell 1
  have c2 : w.cell? ⟨sb, 2, none⟩ = some (.bool false) := h.at'.cell 2
  have f1 := h.at'.frozen 1
  have f2 := h.at'.frozen 2
  have tt : Turn (fun j => j = sb) w ((w.setCell ⟨sb, 2, none⟩ (.bool true)).setCell ⟨sb, 1, none⟩ (.map none)) := ((Turn.refl (fun j => j = sb) w).setCell (p := ⟨sb, 2, none⟩) (.inl rfl) _).setCell (p := ⟨sb, 1, none⟩) (.inl rfl) _
  have hA := (h.at'.set 2 (.bool true)).set 1 (.map none)
  have hks := h.ks
  have Hfin := hide (And.intro ((⟨h.li.hold (tt.mono (fun j _ e => e ▸ hks)), by simpa using hA, .inl hks⟩ : KD w0 (grow K w _) _ sb l b f t N s)) tt)
  clear h tt hA hks
  go_enter Tryz.func19, Tryz.ntmps19
  go_wp2
  go_end0
  exact ⟨rfl, (unhide Hfin).1, (unhide Hfin).2⟩

end

end Go.Proofs.YteomehdkfhjbeaaGreatDoor
