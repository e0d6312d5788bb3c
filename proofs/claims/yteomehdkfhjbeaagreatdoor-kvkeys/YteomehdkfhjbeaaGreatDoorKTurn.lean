/- A map of pairs in memory, and kv's turn. -/
import Derived.Test.YteomehdkfhjbeaaGreatDoorKMap
import Derived.Deep.RegionHeldLaw
namespace Go.Proofs.YteomehdkfhjbeaaGreatDoor
open Go.RowKit Go.Maps

/-- A map in block b with these pairs: a key, the value as it lies, its bytes. -/
structure MPs (Q : Nat → Prop) (w : World) (b : Nat) (m : List (List UInt8 × (Value × List UInt8))) : Prop where
  map : w.ownsMap Tryz.prog 9 heldV b m.length (.map (datM (m.map (snd1 Prod.fst))))
  each : ∀ p ∈ m, Sees w p.2.1 p.2.2 ∧ ∀ j, slab p.2.1 = some j → Q j ∧ j ≠ b
  own : Q b

/-- The pairs, plainly. -/
def plain (m : List (List UInt8 × (Value × List UInt8))) : List (List UInt8 × List UInt8) := m.map (snd1 Prod.snd)

theorem keyedS : Keyed Tryz.prog 9 := string_keyed Tryz.underlying9

section
variable {Q : Nat → Prop} {w w' : World} {b n : Nat} {m : List (List UInt8 × (Value × List UInt8))}

theorem ownsMap_turn {S : Nat → Prop} {D : DataW Value} (h : w.ownsMap Tryz.prog 9 heldV b n D) (t : Turn S w w') (hb : ¬ S b) : w'.ownsMap Tryz.prog 9 heldV b n D := by
  have hlt := h.lt
  obtain ⟨es, clock, h1, h2⟩ := h
  exact ⟨es, clock, (t.block b hlt hb).trans h1, h2⟩

/-- As many as there are. -/
theorem ownsMap_tight {l : List (Lit × DataW Value)} (h : w.ownsMap Tryz.prog 9 heldV b n (.map l)) : w.ownsMap Tryz.prog 9 heldV b l.length (.map l) := by
  obtain ⟨es, clock, h1, h2, h3, h4⟩ := h
  refine ⟨es, clock, h1, h2, ?_, h4⟩
  injection h4 with h4
  rw [h4, length_read]
  exact Nat.le_refl _

theorem datM_length (l : List (List UInt8 × Value)) : (datM l).length = l.length := by simp [datM]

theorem MPs.kept {S : Nat → Prop} (h : MPs Q w b m) (t : Turn S w w') (hS : ∀ j, Q j → ¬ S j) : MPs Q w' b m :=
  ⟨ownsMap_turn h.map t (hS b h.own), fun p hp => ⟨(h.each p hp).1.kept t (fun j hj => hS j ((h.each p hp).2 j hj).1), (h.each p hp).2⟩, h.own⟩

theorem MPs.mono {Q' : Nat → Prop} (h : MPs Q w b m) (hQ : ∀ j, Q j → Q' j) : MPs Q' w b m :=
  ⟨h.map, fun p hp => ⟨(h.each p hp).1, fun j hj => ⟨hQ j ((h.each p hp).2 j hj).1, ((h.each p hp).2 j hj).2⟩⟩, hQ b h.own⟩

theorem MPs.lt (h : MPs Q w b m) : b < w.heap.size := h.map.lt

/-- 'm[k] = v'. -/
theorem MPs.put {v : Value} {bs : List UInt8} (h : MPs Q w b m) (hm : m.length ≤ 1099511627776) (k : ByteArray) (hk : k.size ≤ maxLen) (hv : Sees w v bs) (hQ : ∀ j, slab v = some j → Q j ∧ j ≠ b) :
    ∃ w', (Instr.mapUpdate 52 (.map (some b)) (.string k) v).run Tryz.prog w = .ok () w' ∧ MPs Q w' b (kput k.data.toList (v, bs) m) ∧ Turn (fun j => j = b) w w' := by
  obtain ⟨w', r1, r2, r3⟩ := h.map.update (e := 32) keyedS Tryz.underlying52 (by unfold maxLen; omega) (Go.WideMaps.keyOf_string_mk Tryz.underlying9 hk) (show heldV v = some (.held v, []) from rfl)
  have tg : Turn (fun j => j = b) w w' := (Turn.refl _ _).grown r3 (fun j hj => by injection hj with hj; exact .inl hj.symm)
  refine ⟨w', r1, ⟨?_, fun p hp => ?_, h.own⟩, tg⟩
  · rw [datM_put, ← kput_map Prod.fst k.data.toList (v, bs)] at r2
    have := ownsMap_tight r2
    rw [datM_length, List.length_map] at this
    exact this
  · have hp' : p = (k.data.toList, (v, bs)) ∨ p ∈ m := by
      unfold kput at hp
      rcases (kins_mem _ _ _ _).1 hp with h1 | h1
      · exact .inl h1
      · exact .inr (List.mem_filter.1 h1).1
    rcases hp' with rfl | hp'
    · exact ⟨hv.kept tg (fun j hj e => (hQ j hj).2 e), hQ⟩
    · exact ⟨(h.each p hp').1.kept tg (fun j hj e => ((h.each p hp').2 j hj).2 e), (h.each p hp').2⟩

/-- 'delete(m, k)'. -/
theorem MPs.drop (h : MPs Q w b m) (k : ByteArray) (hk : k.size ≤ maxLen) (ty : TypeId) :
    ∃ w', (Builtin.delete_ #[52, 9] ty #[.map (some b), .string k]).run Tryz.prog w = .ok (.tuple #[]) w' ∧ MPs Q w' b (kdel k.data.toList m) ∧ Turn (fun j => j = b) w w' := by
  obtain ⟨w', r1, r2, r3⟩ := h.map.drop (e := 32) keyedS Tryz.underlying52 (Go.WideMaps.keyOf_string_mk Tryz.underlying9 hk) ty
  have tg : Turn (fun j => j = b) w w' := (Turn.refl _ _).grown r3.grown (fun j hj => by injection hj with hj; exact .inl hj.symm)
  refine ⟨w', r1, ⟨?_, fun p hp => ?_, h.own⟩, tg⟩
  · rw [datM_drop, ← kdel_map Prod.fst k.data.toList] at r2
    have := ownsMap_tight r2
    rw [datM_length, List.length_map] at this
    exact this
  · have hp' := (List.mem_filter.1 hp).1
    exact ⟨(h.each p hp').1.kept tg (fun j hj e => ((h.each p hp').2 j hj).2 e), (h.each p hp').2⟩

/-- 'v, ok := m[k]'. -/
theorem MPs.look (h : MPs Q w b m) (k : ByteArray) (hk : k.size ≤ maxLen) :
    (Instr.lookup 52 (.map (some b)) (.string k) true).run Tryz.prog w = .ok (.tuple #[((kget k.data.toList m).map Prod.fst).getD (.slice none 0 0), .bool (kget k.data.toList m).isSome]) w := by
  have hz : (zeroValue 32).run Tryz.prog w = .ok (.slice none 0 0) w := by kernel_rfl
  obtain ⟨v, ps, r1, r2⟩ := h.map.look_ok (e := 32) keyedS Tryz.underlying52 hz (show heldV (.slice none 0 0) = some (.held (.slice none 0 0), []) from rfl) (Go.WideMaps.keyOf_string_mk Tryz.underlying9 hk)
  rw [r1, datM_has, kget_map]
  rw [datM_at, kget_map] at r2
  unfold heldV at r2
  simp only [Option.some.injEq, Prod.mk.injEq, DataW.held.injEq] at r2
  rw [r2.1, Option.isSome_map]

/-- 'm[k]'. -/
theorem MPs.look1 (h : MPs Q w b m) (k : ByteArray) (hk : k.size ≤ maxLen) :
    (Instr.lookup 52 (.map (some b)) (.string k) false).run Tryz.prog w = .ok (((kget k.data.toList m).map Prod.fst).getD (.slice none 0 0)) w := by
  have hz : (zeroValue 32).run Tryz.prog w = .ok (.slice none 0 0) w := by kernel_rfl
  obtain ⟨v, ps, r1, r2⟩ := h.map.lookup (e := 32) keyedS Tryz.underlying52 hz (show heldV (.slice none 0 0) = some (.held (.slice none 0 0), []) from rfl) (Go.WideMaps.keyOf_string_mk Tryz.underlying9 hk)
  rw [r1]
  rw [datM_at, kget_map] at r2
  unfold heldV at r2
  simp only [Option.some.injEq, Prod.mk.injEq, DataW.held.injEq] at r2
  rw [r2.1]

/-- 'len(m)'. -/
theorem MPs.len (h : MPs Q w b m) (ty : TypeId) : (Builtin.len_ #[52] ty #[.map (some b)]).run Tryz.prog w = .ok (.int .i64 m.length) w := by
  rw [h.map.len Tryz.underlying52 ty, Maps.size_eq, datM_length, List.length_map]

/-- 'make(map)'. -/
theorem MPs.made (w : World) (Q : Nat → Prop) (hQ : Q w.heap.size) : MPs Q (w.alloc (.map #[] 0)) w.heap.size [] := ⟨World.ownsMap_made w _ _ _, fun p hp => by simp at hp, hQ⟩

/-- What turn comes to. -/
def TrnTo (Q : Nat → Prop) (w : World) (b : Nat) (m : List (List UInt8 × (Value × List UInt8))) (k : List UInt8) (has : Bool) (bs : List UInt8) (e : Ending) (w' : World) : Prop :=
  e = .returned (.tuple #[]) ∧ Turn (fun j => j = b) w w' ∧ ∃ m', MPs (grow Q w w') w' b m' ∧ plain m' = (if has then kput k bs (plain m) else kdel k (plain m))

set_option maxHeartbeats 4000000 in
set_option maxRecDepth 100000 in
theorem turn_drop (k : ByteArray) (v : Value) (bs : List UInt8) (h : MPs Q w b m) (hk : k.size ≤ maxLen) :
    Calls Tryz.prog 20 #[.map (some b), .agg #[.string k, .bool false, v]] w (TrnTo Q w b m k.data.toList false bs) := by
  have ta : Turn (fun _ => False) w (w.alloc (.cells #[.string k, .bool false, v] 37)) := (Turn.refl _ _).alloc _
  have h1 := h.kept ta (fun _ _ e => e)
  obtain ⟨w1, r1, r2, r3⟩ := h1.drop k hk 0
  have Hfin : Hid (TrnTo Q w b m k.data.toList false bs (.returned (.tuple #[])) w1) := hide ⟨rfl, (ta.mono (fun _ _ e => e.elim)).trans' r3 (fun _ _ e => e), _, r2.mono (fun j hj => .inl hj), by unfold plain; rw [kdel_map]; rfl⟩
  clear r2 r3 h1 ta h hk
  go_enter Tryz.func20, Tryz.ntmps20
  go_wp2
  go_end0
  exact unhide Hfin

theorem put_step {k : ByteArray} {bs : List UInt8} {v3 : Value} {w2 w3 : World} (h : MPs Q w b m) (t2 : Turn (fun _ => False) w w2) (hm3 : Made w2 v3 bs w3) (hm : m.length ≤ 1099511627776) (hk : k.size ≤ maxLen) :
    ∃ w4, (Instr.mapUpdate 52 (.map (some b)) (.string k) v3).run Tryz.prog w3 = .ok () w4 ∧ TrnTo Q w b m k.data.toList true bs (.returned (.tuple #[])) w4 ∧ ∀ j, w.heap.size < w3.heap.size → w4.cell? ⟨w.heap.size, j, none⟩ = w3.cell? ⟨w.heap.size, j, none⟩ := by
  have hbl := h.lt
  have t3 := t2.trans hm3.2.1
  obtain ⟨w4, r4, p4, t4⟩ := MPs.put ((h.kept t3 (fun _ _ e => e)).mono (Q' := grow Q w w3) (fun _ e => .inl e)) hm k hk hm3.1.sees (fun j hj => by
    have hl := Nat.le_trans t2.size ((made_lt hm3 j hj).1)
    exact ⟨.inr ⟨hl, (made_lt hm3 j hj).2⟩, fun e => by omega⟩)
  exact ⟨w4, r4, ⟨rfl, (t3.mono (fun _ _ e => e.elim)).trans' t4 (fun _ _ e => e), _, p4.mono (fun j hj => hj.imp id (fun e => ⟨e.1, Nat.lt_of_lt_of_le e.2 t4.size⟩)), by unfold plain; rw [kput_map]; rfl⟩, fun j hj => t4.cell (p := ⟨w.heap.size, j, none⟩) hj (fun e => by
    have e' : w.heap.size = b := e
    omega)⟩

set_option maxHeartbeats 4000000 in
set_option maxRecDepth 100000 in
theorem turn_put (k : ByteArray) (v : Value) (bs : List UInt8) (h : MPs Q w b m) (hm : m.length ≤ 1099511627776) (hk : k.size ≤ 1099511627776) (hv : Sees w v bs) (hb : bs.length ≤ 140737488355328) :
    Calls Tryz.prog 20 #[.map (some b), .agg #[.string k, .bool true, v]] w (TrnTo Q w b m k.data.toList true bs) := by
  obtain ⟨vo, vc, rfl⟩ := hv.shape
  have ta : Turn (fun _ => False) w (w.alloc (.cells #[.string k, .bool true, .slice vo bs.length vc] 37)) := (Turn.refl _ _).alloc _
  have hA : At 37 (w.alloc (.cells #[.string k, .bool true, .slice vo bs.length vc] 37)) w.heap.size #[.string k, .bool true, .slice vo bs.length vc] := At.new _ _ _
  have hbl := h.lt
  have hal := hA.lt
  have k0 : (w.alloc (.cells #[.string k, .bool true, .slice vo bs.length vc] 37)).drew.cell? ⟨w.heap.size, 0, none⟩ = some (.string k) := hA.cell 0
  have k2 : (w.alloc (.cells #[.string k, .bool true, .slice vo bs.length vc] 37)).drew.cell? ⟨w.heap.size, 2, none⟩ = some (.slice vo bs.length vc) := hA.cell 2
  have HH := hide (And.intro h hv)
  have HT := hide ta.drew
  have Hal := hide hal
  have Hb : Hid (∀ y, y = bs → y.length ≤ 140737488355328) := hide (fun y e => by rw [e]; exact hb)
  have Hm := hide hm
  have K0 := hide k0
  have K2 := hide k2
  generalize bs.length = n at *
  have hkk : k.size ≤ maxLen := by unfold maxLen; omega
  clear ta hA h hv hal hm hb k0 k2
  go_enter Tryz.func20, Tryz.ntmps20
  go_wp2_with fail
  have k0 := unhide K0
  have k2 := unhide K2
  go_region_held_law (fun w' => w'.cell? ⟨w.heap.size, 0, none⟩ = some (.string k) ∧ w'.cell? ⟨w.heap.size, 2, none⟩ = some (.slice vo n vc)) (first | go_keep | (constructor <;> assumption))
    (first
    | (go_at_call 37; refine (sclone_any k _ hk).mono ?_; rintro e w2 ⟨rfl, t2⟩; have j0 := (t2.cell (p := ⟨w.heap.size, 0, none⟩) (unhide Hal) (fun e => e)).trans k0; have j2 := (t2.cell (p := ⟨w.heap.size, 2, none⟩) (unhide Hal) (fun e => e)).trans k2; have T2 := hide ((unhide HT).trans t2); have L2 := hide (Nat.lt_of_lt_of_le (unhide Hal) t2.size); clear t2)
    | (go_at_call 32; refine (clone_any _ bs w2 ((unhide HH).2.kept (unhide T2) (fun _ _ e => e)) (unhide Hb _ rfl)).mono ?_; rintro e w3 ⟨v3, rfl, hm3⟩; have i0 := (hm3.2.1.cell (p := ⟨w.heap.size, 0, none⟩) (unhide L2) (fun e => e)).trans j0; have i2 := (hm3.2.1.cell (p := ⟨w.heap.size, 2, none⟩) (unhide L2) (fun e => e)).trans j2; have hq3 := Nat.lt_of_lt_of_le (unhide L2) hm3.2.1.size; obtain ⟨w4, r4, p4, t4⟩ := put_step (unhide HH).1 (unhide T2) hm3 (unhide Hm) hkk; have e0 := (t4 0 hq3).trans i0; have e2 := (t4 2 hq3).trans i2; have H4 := hide p4; clear hm3 p4 t4 hq3)
    | fail)
  all_goals (
    go_wp2
    go_end0
    exact unhide H4)

end

end Go.Proofs.YteomehdkfhjbeaaGreatDoor
