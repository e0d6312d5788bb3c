/- Changes in the making; kv's made. -/
import Derived.Test.YteomehdkfhjbeaaGreatKKeys
import Derived.Test.YteomehdkfhjbeaaGreatKKn0
import Derived.Maps.AppendAt
namespace Go.Proofs.YteomehdkfhjbeaaGreat
open Go.RowKit

theorem Tryz.infoChange : (Tryz.prog.info? 51).map (fun i => (i.zero, i.size, i.bytes)) = some (some (.agg #[.string ⟨#[]⟩, .bool false, .slice none 0 0]), 3, 48) := by kernel_rfl

/-- Changes in the making: the row in new memory, each value in Q or in new memory, apart from the row. -/
structure CM (Q : Nat → Prop) (w : World) (v : Value) (cl : List (Value × Chg)) (wr : World) : Prop where
  own : wr.ownsRow 0 51 3 v cl.length (cells3 cl)
  new : ∀ k, v.ownBlock = some k → w.heap.size ≤ k
  each : ∀ p ∈ cl, Sees wr p.1 p.2.val ∧ (0 < p.2.val.length → ∀ j, slab p.1 = some j → (Q j ∨ w.heap.size ≤ j) ∧ j < wr.heap.size ∧ v.ownBlock ≠ some j) ∧ p.2.key.size ≤ 1099511627776 ∧ p.2.val.length ≤ 140737488355328
  turn : Turn (fun _ => False) w wr

section
variable {Q : Nat → Prop} {w wr w2 : World} {v : Value} {cl : List (Value × Chg)}

theorem CM.nil (Q : Nat → Prop) (w : World) : CM Q w (.slice none 0 0) [] w := ⟨World.ownsRow_nil _ _ _ _, fun k hk => by simp [Value.ownBlock] at hk, fun p hp => by simp at hp, Turn.refl _ _⟩

theorem own_turn {S : Nat → Prop} {T : TypeId} {n size : Nat} {xs : List Value} {base : Nat} (h : wr.ownsRow base T size v n xs) (t : Turn S wr w2) (hs : ∀ k, v.ownBlock = some k → ¬ S k) : w2.ownsRow base T size v n xs := by
  refine ⟨h.1, ?_⟩
  rcases h.2 with hn | ⟨g, cap, cur, rfl, hb, hgg, rest⟩
  · exact .inl hn
  · refine .inr ⟨g, cap, cur, rfl, hb, ?_, rest⟩
    rw [t.block g (Array.getElem?_eq_some_iff.1 hgg).1 (hs g rfl)]
    exact hgg

theorem CM.goes (h : CM Q w v cl wr) (t : Turn (fun _ => False) wr w2) : CM Q w v cl w2 :=
  ⟨own_turn h.own t (fun _ _ e => e), h.new, fun p hp => by
    obtain ⟨h1, h2, h3, h4⟩ := h.each p hp
    exact ⟨h1.kept t (fun _ _ e => e), fun h0 j hj => ⟨(h2 h0 j hj).1, Nat.lt_of_lt_of_le (h2 h0 j hj).2.1 t.size, (h2 h0 j hj).2.2⟩, h3, h4⟩, h.turn.trans t⟩

theorem CM.shape (h : CM Q w v cl wr) : ∃ ao cap, v = .slice ao cl.length cap := by
  rcases h.own.2 with ⟨rfl, hn⟩ | ⟨g, cap, cur, rfl, _⟩
  · exact ⟨none, 0, by rw [hn]⟩
  · exact ⟨_, _, rfl⟩

/-- One more. -/
theorem CM.cat (h : CM Q w v cl wr) (p : Value × Chg) (hs : Sees wr p.1 p.2.val) (hm : 0 < p.2.val.length → ∀ j, slab p.1 = some j → (Q j ∨ w.heap.size ≤ j) ∧ j < wr.heap.size ∧ v.ownBlock ≠ some j) (hk : p.2.key.size ≤ 1099511627776) (hb : p.2.val.length ≤ 140737488355328) (hl : cl.length ≤ 1000000) :
    ∃ v2 w2, (Builtin.append_ #[52, 52] 52 #[v, .slice (some ⟨wr.heap.size, 0, none⟩) 1 1]).run Tryz.prog (wr.alloc (.cells #[.string p.2.key, .bool p.2.has, p.1] 51)) = .ok v2 w2 ∧ CM Q w v2 (cl ++ [p]) w2 := by
  obtain ⟨i, hi, hh⟩ := Option.map_eq_some_iff.1 Tryz.infoChange
  simp only [Prod.mk.injEq] at hh
  obtain ⟨po, pc, hpv⟩ := hs.shape
  have ta : Turn (fun _ => False) wr (wr.alloc (.cells #[.string p.2.key, .bool p.2.has, p.1] 51)) := (Turn.refl _ _).alloc _
  have h1 := h.goes ta
  have hone : ∀ u ∈ [Value.string p.2.key, .bool p.2.has, p.1], u.oneCell' = true := by
    intro u hu
    simp only [List.mem_cons, List.not_mem_nil, or_false] at hu
    rcases hu with rfl | rfl | rfl
    · rfl
    · rfl
    · rw [hpv]
      rfl
  obtain ⟨v2, w2, hr, ho, hg, _, hat⟩ := run_append_own_at (P := Tryz.prog) (wr.alloc (.cells #[.string p.2.key, .bool p.2.has, p.1] 51)) 0 52 52 51 i _ 3 48 Tryz.underlying52 hi hh.1 hh.2.1 hh.2.2 rfl (by omega) v cl.length (cells3 cl) h1.own
    ⟨wr.heap.size, 0, none⟩ 1 1 [.string p.2.key, .bool p.2.has, p.1] rfl (fun j u hj => by
      rw [show (⟨wr.heap.size, 0, none⟩ : Addr).add j = ⟨wr.heap.size, j, none⟩ by unfold Addr.add; split <;> simp_all]
      rw [cell_of_row _ wr.heap.size j _ 51 (0, 0) (heap_alloc_new wr _)]
      simpa using hj) hone (by unfold maxLen; omega) (Nat.le_trans (Nat.mul_le_mul_right 48 (show cl.length + 1 ≤ 1000001 by omega)) (by decide)) (Nat.zero_le _)
  have tg : Turn (fun j => v.ownBlock = some j) (wr.alloc (.cells #[.string p.2.key, .bool p.2.has, p.1] 51)) w2 := (Turn.refl _ _).grown hg (fun j hj => .inl hj)
  have hsz := ta.size
  have hwsz := h.turn.size
  refine ⟨v2, w2, hr, ⟨?_, fun k e => ?_, fun q hq => ?_, h1.turn.trans' tg (fun i hi e => by have := h.new i e; omega)⟩⟩
  · rw [cells3_append, List.length_append]
    exact ho
  · rcases hat with hk | hk
    · exact h.new k (hk ▸ e)
    · rw [hk] at e
      injection e with e
      omega
  · have hq' : Sees (wr.alloc (.cells #[.string p.2.key, .bool p.2.has, p.1] 51)) q.1 q.2.val ∧ (0 < q.2.val.length → ∀ j, slab q.1 = some j → (Q j ∨ w.heap.size ≤ j) ∧ j < wr.heap.size ∧ v.ownBlock ≠ some j) ∧ q.2.key.size ≤ 1099511627776 ∧ q.2.val.length ≤ 140737488355328 := by
      rcases List.mem_append.1 hq with hq | hq
      · obtain ⟨a1, a2, a3, a4⟩ := h.each q hq
        exact ⟨a1.kept ta (fun _ _ e => e), a2, a3, a4⟩
      · rw [List.mem_singleton.1 hq]
        exact ⟨hs.kept ta (fun _ _ e => e), hm, hk, hb⟩
    obtain ⟨a1, a2, a3, a4⟩ := hq'
    refine ⟨a1.kept' tg (fun h0 j hj => (a2 h0 j hj).2.2), fun h0 j hj => ?_, a3, a4⟩
    obtain ⟨b1, b2, b3⟩ := a2 h0 j hj
    refine ⟨b1, Nat.lt_of_lt_of_le b2 (Nat.le_trans hsz tg.size), fun e => ?_⟩
    rcases hat with hk | hk
    · exact b3 (hk ▸ e)
    · rw [hk] at e
      injection e with e
      omega

theorem CM.toCLs (h : CM Q w v cl wr) (hl : cl.length ≤ 1099511627776) : CLs (grow Q w wr) wr v cl := by
  obtain ⟨ao, cap, hv⟩ := h.shape
  refine ⟨⟨ao, cap, hv, hl⟩, fun k hk => ?_⟩
  have hc := cells3_at cl k hk
  rcases h.own.2 with ⟨_, hn⟩ | ⟨g, cap, cur, hve, _, hg, _⟩
  · omega
  · have hcell := World.ownsRow.cells h.own (g := g) (by rw [hve]; rfl)
    have hlt : g < wr.heap.size := (Array.getElem?_eq_some_iff.1 hg).1
    have hat : ∀ j u, (cells3 cl)[j]? = some u → wr.cell? ⟨g, j, none⟩ = some u := fun j u hj => by
      have := hcell j u hj
      rw [show (⟨g, 0, none⟩ : Addr).add j = ⟨g, j, none⟩ by unfold Addr.add; split <;> simp_all] at this
      exact this
    obtain ⟨a1, a2, a3, a4⟩ := h.each cl[k] (List.getElem_mem hk)
    refine ⟨g, cap, hve, .inr ⟨h.new g (by rw [hve]; rfl), hlt⟩, ⟨hat _ _ hc.1, hat _ _ hc.2.1, hat _ _ hc.2.2, a1, fun h0 j hj => ?_, a3, a4⟩⟩
    obtain ⟨b1, b2, _⟩ := a2 h0 j hj
    exact b1.imp id (fun e => ⟨e, b2⟩)

end

/-- The changes that make all pairs. -/
def madeC (m : List (List UInt8 × List UInt8)) : List Chg := m.map fun p => ⟨⟨p.1.toArray⟩, true, p.2⟩

theorem made_ok {m : List (List UInt8 × List UInt8)} (h : fitK m) : (madeC m).all Chg.ok = true := by
  rw [List.all_eq_true]
  intro c hc
  obtain ⟨p, hp, rfl⟩ := List.mem_map.1 hc
  have := h p hp
  unfold Chg.ok
  simp [ByteArray.size]
  omega

theorem rising_get {α : Type} {m : List (List UInt8 × α)} (h : risingK m) (n : Nat) (hn : n < m.length) : kget m[n].1 m = some m[n].2 := by
  unfold kget
  have hf : m.find? (fun p => p.1 == m[n].1) = some m[n] := by
    rw [List.find?_eq_some_iff_getElem]
    refine ⟨by simp, n, hn, rfl, fun j hj => ?_⟩
    have := List.pairwise_iff_getElem.1 h j n (by omega) hn hj
    have hlt := before_lt this
    simp only [Bool.not_eq_true', beq_eq_false_iff_ne]
    intro e
    rw [e] at hlt
    exact List.lt_irrefl _ hlt
  rw [hf]
  rfl

section
variable {w0 w w1 : World} {K : Nat → Prop} {sb mb l b f t N : Nat} {s : WSt} {m : List (List UInt8 × List UInt8)}

set_option maxHeartbeats 8000000 in
set_option maxRecDepth 100000 in
theorem kmade_any (h : KS w0 K w sb mb l b f t N s m) (hml : m.length ≤ 100000) :
    Calls Tryz.prog 74 #[.pointer (some ⟨sb, 0, none⟩)] w fun e w' => ∃ v cl, e = .returned v ∧ CM K w v cl w' ∧ cl.map (·.2) = madeC m := by
  have HK := hide (kkeys_any h ⟨#[]⟩ (by omega))
  have H := hide h
  rw [keysOf_all] at HK
  clear h
  go_enter Tryz.func74, Tryz.ntmps74
  go_wp2_with fail
  refine (unhide HK).mono ?_
  rintro e w1 ⟨kv, rfl, hx⟩
  obtain ⟨ko, kc, hke⟩ := hx.own.shape'
  rw [List.length_map, List.length_map] at hke
  have Hx := hide hx
  obtain ⟨len, hlen⟩ : ∃ len, len = m.length := ⟨_, rfl⟩
  have HL := hide hlen
  rw [← hlen] at hke hml
  subst hke
  clear hx HK hlen
  go_wp2_with fail
  go_loopw [3, 5, 9] (fun out _ i wr => ∃ (n : Nat) (cl : List (Value × Chg)), i = .int .i64 n ∧ n ≤ len ∧ CM (grow K w w1) w1 out cl wr ∧ cl.map (·.2) = (madeC m).take n) (fun _ _ i _ => len - (intOf i).toNat)
  case atStart => exact ⟨0, [], rfl, by omega, CM.nil _ _, rfl⟩
  case round =>
    obtain ⟨n, cl, rfl, hnl, hcm, hcl⟩ := hrel
    have tw := (unhide Hx).turn.trans hcm.turn
    have hcll : cl.length = n := by
      have := congrArg List.length hcl
      have h2 := unhide HL
      simp [madeC] at this
      omega
    by_cases hlt : n < len
    · have hnm : n < m.length := by have := unhide HL; omega
      have hks := (unhide H).goes tw
      have c1 : wr.cell? ⟨sb, 1, none⟩ = some (.map (some mb)) := hks.at'.cell 1
      obtain ⟨m', h0, h2⟩ := (unhide H).mp
      have h1 := h0.kept tw (fun _ _ e => e)
      have hfit := (unhide H).fit m[n] (List.getElem_mem hnm)
      have hget := rising_get (unhide H).rising n hnm
      have hmade : (madeC m).take (n + 1) = (madeC m).take n ++ [⟨⟨m[n].1.toArray⟩, true, m[n].2⟩] := by
        rw [List.take_succ_eq_append_getElem (by simpa [madeC] using hnm)]
        simp [madeC]
      have hkrow : (m.map (·.1))[n]? = some m[n].1 := by simp [hnm]
      obtain ⟨⟨key, val⟩, hkv⟩ : ∃ p, p = m[n] := ⟨_, rfl⟩
      rw [← hkv] at hfit hget hmade hkrow
      simp only at hfit hget hmade hkrow
      clear hkv
      have hlk := h1.look1 ⟨key.toArray⟩ (by unfold maxLen; simp [ByteArray.size]; omega)
      rw [show (⟨key.toArray⟩ : ByteArray).data.toList = key by simp] at hlk
      have hget' : (kget key m').map Prod.snd = some val := by
        rw [← hget, ← h2]
        exact (kget_map _ _ _).symm
      obtain ⟨q, hq, hq2⟩ := Option.map_eq_some_iff.1 hget'
      obtain ⟨r, hr, hrq⟩ := Option.map_eq_some_iff.1 hq
      have hrm := h0.each r (List.mem_of_find?_eq_some hr)
      rw [hrq, hq2] at hrm
      have hs := hrm.1.kept tw (fun _ _ e => e)
      rw [hq] at hlk
      simp only [Option.map_some, Option.getD_some] at hlk
      have hcell : ∃ a, ko = some a ∧ wr.cell? (a.add n) = some (encStr key) := by
        have ho := (unhide Hx).own.kept hcm.turn (fun _ _ e => e)
        have hkr : ((m.map (·.1)).map encStr)[n]? = some (encStr key) := by rw [List.getElem?_map, hkrow]; rfl
        rcases ho.sees with ⟨_, h1⟩ | ⟨a, cap', e1, _, _, h4⟩
        · rw [h1] at hkr; simp at hkr
        · injection e1 with e1
          exact ⟨a, e1, h4 n _ hkr⟩
      obtain ⟨a, rfl, hca⟩ := hcell
      obtain ⟨vo, vc, hve⟩ := hs.shape
      have hws := hcm.turn.size
      have hw1 := (unhide Hx).turn.size
      obtain ⟨v2, w2, hrun, hcm2⟩ := hcm.cat (q.1, ⟨⟨key.toArray⟩, true, val⟩) hs (fun h0' j hj => by
        have hKj := (hrm.2 j hj).1
        have hlt := ((unhide H).li.held j hKj).2
        exact ⟨.inl (.inl hKj), by omega, fun e => by have := hcm.new j e; omega⟩) (by simp [ByteArray.size]; omega) (by show val.length ≤ _; omega) (by omega)
      obtain ⟨oo, oc, hoe⟩ := hcm.shape
      obtain ⟨o2, c2, hoe2⟩ := hcm2.shape
      rw [hcll] at hoe
      rw [List.length_append, List.length_singleton, hcll] at hoe2
      have hcl2 : (cl ++ [(q.1, (⟨⟨key.toArray⟩, true, val⟩ : Chg))]).map (·.2) = (madeC m).take (n + 1) := by rw [List.map_append, hcl, hmade]; rfl
      have Hfin := hide (And.intro hcm2 hcl2)
      have q1 : (n : Int) < len := by omega
      obtain ⟨vn, hvn⟩ : ∃ vn, vn = val.length := ⟨_, rfl⟩
      rw [← hvn] at hve
      generalize hqv : q.1 = qv at *
      simp only at hrun
      have Hrun := hide hrun
      clear hcm2 hcl2 hcm hks h0 h1 h2 hfit hget hget' hq hq2 hr hrq hrm hs hws hw1 hmade hkrow hvn hcl tw hqv hrun
      subst hve hoe hoe2
      go_wp2_with (at_builtin; refine wpList_append_run rfl (.tmp 13) (.tmp 22) 52 rfl _ _ _ w2 rfl rfl (unhide Hrun) ?_)
      go_roundw
      case rel => exact ⟨n + 1, _, by go_num, by omega, (unhide Hfin).1, (unhide Hfin).2⟩
      case measure => simp [intOf]; omega
    · obtain rfl : n = len := by omega
      have q1 : ¬ (n : Int) < n := by omega
      have hall : (madeC m).take n = madeC m := List.take_of_length_le (by have := unhide HL; simp [madeC]; omega)
      rw [hall] at hcl
      obtain ⟨oo, oc, hoe⟩ := hcm.shape
      have hw1 := (unhide Hx).turn.size
      have hfin : CM K w u3 cl wr := ⟨hcm.own, fun k hk => Nat.le_trans hw1 (hcm.new k hk), fun p hp => by
        obtain ⟨a1, a2, a3, a4⟩ := hcm.each p hp
        refine ⟨a1, fun h0 j hj => ?_, a3, a4⟩
        obtain ⟨b1, b2, b3⟩ := a2 h0 j hj
        refine ⟨?_, b2, b3⟩
        rcases b1 with (b1 | b1) | b1
        · exact .inl b1
        · exact .inr b1.1
        · exact .inr (Nat.le_trans hw1 b1), tw⟩
      have Hfin := hide (And.intro hfin hcl)
      rw [hcll] at hoe
      clear hcm hcl hall hfin tw
      subst hoe
      go_wp2
      go_ret
      exact ⟨_, rfl, cl, (unhide Hfin).1, (unhide Hfin).2⟩

end

end Go.Proofs.YteomehdkfhjbeaaGreat
