/- What stands below the proof, in one text. -/
import Derived.Test.YtnipdgigjcaolaaGreatPkA
import Derived.Test.YtnipdgigjcaolaaGreatPkC
import Derived.Test.YtnipdgigjcaolaaGreatPkB
import Derived.Deep.QuietTactic
import Derived.BigQuiet
import Derived.Test.YtnipdgigjcaolaaGreatPkF
/- A history in memory: it begins a record, counts a mark. -/
namespace Go.Proofs.YtnipdgigjcaolaaGreat
open Go.RowKit

/-- A history in block hb, with its fields and lists; all its memory lies in H. -/
structure HIs (w : World) (hb : Nat) (H : Nat → Prop) (h : HSt) (rv bv : Value) (rl bl : List (Value × List UInt8)) : Prop where
  at' : At 104 w hb #[rv, .int .i64 h.since, bv, .int .i64 h.kind]
  r : OwnsC 29 w rv (rl.map (·.1))
  b : OwnsC 29 w bv (bl.map (·.1))
  recs : rl.map (·.2) = h.recs
  begun : bl.map (·.2) = h.begun
  inr : ∀ j, rv.ownBlock = some j → H j ∧ j ≠ hb
  inb : ∀ j, bv.ownBlock = some j → H j ∧ j ≠ hb ∧ rv.ownBlock ≠ some j
  each : ∀ p, p ∈ rl ∨ p ∈ bl → Sees w p.1 p.2 ∧ (0 < p.2.length → ∀ j, slab p.1 = some j → H j ∧ j ≠ hb ∧ rv.ownBlock ≠ some j ∧ bv.ownBlock ≠ some j)
  hb : H hb
  lt : ∀ j, H j → j < w.heap.size

def HAt (w : World) (hb : Nat) (H : Nat → Prop) (h : HSt) : Prop := ∃ rv bv rl bl, HIs w hb H h rv bv rl bl

section
variable {w w' : World} {hb : Nat} {H H' S : Nat → Prop} {h : HSt} {rv bv : Value} {rl bl : List (Value × List UInt8)}

theorem HIs.kept (hh : HIs w hb H h rv bv rl bl) (t : Turn S w w') (hS : ∀ j, H j → ¬ S j) : HIs w' hb H h rv bv rl bl :=
  ⟨hh.at'.kept t (hS _ hh.hb), hh.r.kept t (fun k hk => hS k (hh.inr k hk).1), hh.b.kept t (fun k hk => hS k (hh.inb k hk).1), hh.recs, hh.begun, hh.inr, hh.inb,
    fun p hp => ⟨(hh.each p hp).1.kept' t (fun h0 j hj => hS j ((hh.each p hp).2 h0 j hj).1), (hh.each p hp).2⟩, hh.hb, fun j hj => Nat.lt_of_lt_of_le (hh.lt j hj) t.size⟩

theorem HIs.mono (hh : HIs w hb H h rv bv rl bl) (hH : ∀ j, H j → H' j) (hl : ∀ j, H' j → j < w.heap.size) : HIs w hb H' h rv bv rl bl :=
  ⟨hh.at', hh.r, hh.b, hh.recs, hh.begun, fun j hj => ⟨hH j (hh.inr j hj).1, (hh.inr j hj).2⟩, fun j hj => ⟨hH j (hh.inb j hj).1, (hh.inb j hj).2⟩,
    fun p hp => ⟨(hh.each p hp).1, fun h0 j hj => ⟨hH j ((hh.each p hp).2 h0 j hj).1, ((hh.each p hp).2 h0 j hj).2⟩⟩, hH _ hh.hb, hl⟩

theorem HAt.kept (hh : HAt w hb H h) (t : Turn S w w') (hS : ∀ j, H j → ¬ S j) : HAt w' hb H h := by
  obtain ⟨rv, bv, rl, bl, hh⟩ := hh
  exact ⟨rv, bv, rl, bl, hh.kept t hS⟩

theorem HAt.mono (hh : HAt w hb H h) (hH : ∀ j, H j → H' j) (hl : ∀ j, H' j → j < w.heap.size) : HAt w hb H' h := by
  obtain ⟨rv, bv, rl, bl, hh⟩ := hh
  exact ⟨rv, bv, rl, bl, hh.mono hH hl⟩

theorem HAt.lt (hh : HAt w hb H h) : ∀ j, H j → j < w.heap.size := by
  obtain ⟨rv, bv, rl, bl, hh⟩ := hh
  exact hh.lt

theorem HIs.lenb (hh : HIs w hb H h rv bv rl bl) : bl.length = h.begun.length := by rw [← hh.begun, List.length_map]
theorem HIs.lenr (hh : HIs w hb H h rv bv rl bl) : rl.length = h.recs.length := by rw [← hh.recs, List.length_map]

theorem OwnsC.shape' {T : TypeId} {w : World} {v : Value} {cs : List Value} (h : OwnsC T w v cs) : ∃ ao cap, v = .slice ao cs.length cap := by
  rcases h.shape with ⟨rfl, h0⟩ | ⟨g, cap, rfl, _⟩
  · exact ⟨none, 0, by rw [h0]; rfl⟩
  · exact ⟨_, _, rfl⟩

set_option maxHeartbeats 400000 in
theorem fits_yes (k : Int) (hh : HAt w hb H h) (hf : h.fits k) : Calls Tryz.prog 143 #[.pointer (some ⟨hb, 0, none⟩), .int .i64 k] w fun e w' => e = .returned (.bool true) ∧ w = w' := by
  obtain ⟨rv, bv, rl, bl, hh⟩ := hh
  obtain ⟨ao, cap, hv⟩ := hh.b.shape'
  have c2 : w.cell? ⟨hb, 2, none⟩ = some bv := hh.at'.cell 2
  have c3 : w.cell? ⟨hb, 3, none⟩ = some (.int .i64 h.kind) := hh.at'.cell 3
  rw [hv, List.length_map, hh.lenb] at c2
  by_cases h0 : h.begun.length = 0
  · rw [h0] at c2
    clear hh hv hf
    go_enter Tryz.func143, Tryz.ntmps143
    go_wp2
    go_ret
    exact ⟨rfl, rfl⟩
  · have hk : h.kind = k := hf.resolve_left (fun e => h0 (by rw [e]; rfl))
    subst hk
    have q0 : ((h.begun.length : Int) == 0) = false := by simp; intro e; exact h0 (by rw [e]; rfl)
    have q1 : (h.kind == h.kind) = true := by simp
    generalize h.begun.length = n at *
    generalize h.kind = k at *
    clear hh hv hf
    go_enter Tryz.func143, Tryz.ntmps143
    go_wp2
    go_ret
    exact ⟨rfl, rfl⟩

set_option maxHeartbeats 400000 in
theorem fits_no (k : Int) (hh : HAt w hb H h) (hf : ¬ h.fits k) : Calls Tryz.prog 143 #[.pointer (some ⟨hb, 0, none⟩), .int .i64 k] w fun e w' => e = .returned (.bool false) ∧ w = w' := by
  obtain ⟨rv, bv, rl, bl, hh⟩ := hh
  obtain ⟨ao, cap, hv⟩ := hh.b.shape'
  have c2 : w.cell? ⟨hb, 2, none⟩ = some bv := hh.at'.cell 2
  have c3 : w.cell? ⟨hb, 3, none⟩ = some (.int .i64 h.kind) := hh.at'.cell 3
  rw [hv, List.length_map, hh.lenb] at c2
  have h0 : ¬ h.begun.length = 0 := fun e => hf (.inl (List.eq_nil_of_length_eq_zero e))
  have hk : ¬ h.kind = k := fun e => hf (.inr e)
  have q0 : ((h.begun.length : Int) == 0) = false := by simp; intro e; exact h0 (by rw [e]; rfl)
  have q1 : (h.kind == k) = false := by simpa using hk
  generalize h.begun.length = n at *
  generalize h.kind = k at *
  clear hh hv hf h0 hk
  go_enter Tryz.func143, Tryz.ntmps143
  go_wp2
  go_ret
  exact ⟨rfl, rfl⟩

end

/-- Behind a call that took a body v: the history alone has turned. -/
def HTo (w : World) (hb : Nat) (H : Nat → Prop) (v : Value) (s : HSt) (w' : World) : Prop :=
  HAt w' hb (fun j => H j ∨ (slab v = some j ∧ j < w.heap.size) ∨ (w.heap.size ≤ j ∧ j < w'.heap.size)) s ∧ Turn H w w'

section
variable {w : World} {hb : Nat} {H : Nat → Prop} {h : HSt}

/-- The history's field begun is stored anew, and its kind. -/
theorem HIs.begins {rv bv v2 v : Value} {rl bl : List (Value × List UInt8)} {bs : List UInt8} {wa w2 : World} {k : Int} (hh : HIs w hb H h rv bv rl bl) (hs : Sees w v bs) (hn : 0 < bs.length → ∀ j, slab v = some j → ¬ H j ∧ j < w.heap.size)
    (ta : Turn (fun _ => False) w wa) (ho : OwnsC 29 w2 v2 (bl.map (·.1) ++ [v])) (hg : wa.grownBy w2 bv.ownBlock) (hk : v2.ownBlock = bv.ownBlock ∨ v2.ownBlock = some wa.heap.size) :
    HTo w hb H v (h.begin' k bs) ((w2.setCell ⟨hb, 2, none⟩ v2).setCell ⟨hb, 3, none⟩ (.int .i64 k)) := by
  have hbl := hh.lt _ hh.hb
  have hsz := ta.size
  have tg : Turn (fun j => bv.ownBlock = some j) wa w2 := (Turn.refl _ _).grown hg (fun j hj => .inl hj)
  have t2 : Turn (fun j => bv.ownBlock = some j) w w2 := (ta.mono (fun _ _ h => h.elim)).trans tg
  have hA : At 104 w2 hb #[rv, .int .i64 h.since, bv, .int .i64 h.kind] := hh.at'.kept t2 (fun e => (hh.inb _ e).2.1 rfl)
  have hA2 : At 104 ((w2.setCell ⟨hb, 2, none⟩ v2).setCell ⟨hb, 3, none⟩ (.int .i64 k)) hb #[rv, .int .i64 h.since, v2, .int .i64 k] := by
    have := (hA.set 2 v2).set 3 (.int .i64 k)
    simpa using this
  have ts : Turn (fun j => j = hb) w2 ((w2.setCell ⟨hb, 2, none⟩ v2).setCell ⟨hb, 3, none⟩ (.int .i64 k)) := ((Turn.refl (fun j => j = hb) w2).setCell (p := ⟨hb, 2, none⟩) (.inl rfl) _).setCell (p := ⟨hb, 3, none⟩) (.inl rfl) _
  have hv2 : ∀ j, v2.ownBlock = some j → (bv.ownBlock = some j ∨ (w.heap.size ≤ j ∧ j < w2.heap.size)) := by
    intro j hj
    rcases hk with e | e
    · exact .inl (e ▸ hj)
    · exact .inr ⟨by rw [e] at hj; injection hj with hj; omega, ho.lt hj⟩
  have hv2n : ∀ j, v2.ownBlock = some j → j ≠ hb ∧ rv.ownBlock ≠ some j := by
    intro j hj
    rcases hv2 j hj with e | e
    · exact (hh.inb j e).2
    · exact ⟨by omega, fun e2 => by have := hh.lt j (hh.inr j e2).1; omega⟩
  have tall : Turn H w ((w2.setCell ⟨hb, 2, none⟩ v2).setCell ⟨hb, 3, none⟩ (.int .i64 k)) := (t2.mono (fun j _ e => (hh.inb j e).1)).trans' ts (fun j _ e => e ▸ hh.hb)
  refine ⟨⟨rv, v2, rl, bl ++ [(v, bs)], hA2, (hh.r.kept t2 (fun j hj e => (hh.inb j e).2.2 hj)).kept ts (fun j hj e => (hh.inr j hj).2 e), ?_, hh.recs, ?_, fun j hj => ⟨.inl (hh.inr j hj).1, (hh.inr j hj).2⟩, ?_, ?_, .inl hh.hb, ?_⟩, tall⟩
  · rw [List.map_append]
    exact ho.kept ts (fun j hj e => (hv2n j hj).1 e)
  · rw [List.map_append, hh.begun]
    rfl
  · intro j hj
    refine ⟨?_, hv2n j hj⟩
    rcases hv2 j hj with e | e
    · exact .inl (hh.inb j e).1
    · exact .inr (.inr ⟨e.1, Nat.lt_of_lt_of_le e.2 ts.size⟩)
  · intro p hp
    have hp' : (p ∈ rl ∨ p ∈ bl) ∨ p = (v, bs) := by
      rcases hp with hp | hp
      · exact .inl (.inl hp)
      · rcases List.mem_append.1 hp with hp | hp
        · exact .inl (.inr hp)
        · exact .inr (by simpa using hp)
    rcases hp' with hp | rfl
    · obtain ⟨h1, h2⟩ := hh.each p hp
      refine ⟨(h1.kept' t2 (fun h0 j hj e => (h2 h0 j hj).2.2.2 e)).kept' ts (fun h0 j hj e => (h2 h0 j hj).2.1 e), fun h0 j hj => ?_⟩
      obtain ⟨a1, a2, a3, a4⟩ := h2 h0 j hj
      refine ⟨.inl a1, a2, a3, fun e => ?_⟩
      rcases hv2 j e with e | e
      · exact a4 e
      · have := hh.lt j a1
        omega
    · refine ⟨(hs.kept' t2 (fun h0 j hj e => (hn h0 j hj).1 (hh.inb j e).1)).kept' ts (fun h0 j hj e => (hn h0 j hj).1 (e ▸ hh.hb)), fun h0 j hj => ?_⟩
      obtain ⟨a1, a2⟩ := hn h0 j hj
      refine ⟨.inr (.inl ⟨hj, a2⟩), fun e => a1 (e ▸ hh.hb), fun e => a1 (hh.inr j e).1, fun e => ?_⟩
      rcases hv2 j e with e | e
      · exact a1 (hh.inb j e).1
      · omega
  · intro j hj
    have := tall.size
    rcases hj with hj | hj | hj
    · have := hh.lt j hj
      omega
    · omega
    · exact hj.2

set_option maxHeartbeats 1000000 in
set_option maxRecDepth 100000 in
theorem begin_yes (k : Int) (v : Value) (bs : List UInt8) (hh : HAt w hb H h) (hf : h.fits k) (hs : Sees w v bs) (hn : 0 < bs.length → ∀ j, slab v = some j → ¬ H j ∧ j < w.heap.size) (hlen : h.begun.length + 1 ≤ 1099511627776) :
    Calls Tryz.prog 142 #[.pointer (some ⟨hb, 0, none⟩), .int .i64 k, v] w fun e w' => e = .returned (.bool true) ∧ HTo w hb H v (h.begin' k bs) w' := by
  have HF := hide (fits_yes k hh hf)
  obtain ⟨rv, bv, rl, bl, hh⟩ := hh
  obtain ⟨vo, vc, hve⟩ := hs.shape
  have ta : Turn (fun _ => False) w (w.alloc (.cells #[v] 29)) := (Turn.refl _ _).alloc _
  have hlit := SeesC.lit w [v] 29 (by simp [maxLen])
  obtain ⟨v2, w2, hr, ho, hg, hk⟩ := append_lists _ bv (bl.map (·.1)) (hh.b.kept ta (fun _ _ h => h)) _ [v] hlit (by intro u hu; simp at hu; rw [hu, hve]; rfl) (by rw [List.length_map, hh.lenb]; simpa using hlen)
  have HFin := hide (hh.begins (k := k) hs hn ta ho hg hk)
  have hA2 : At 104 w2 hb #[rv, .int .i64 h.since, bv, .int .i64 h.kind] := (hh.at'.kept ta (fun h => h)).kept ((Turn.refl (fun j => bv.ownBlock = some j) _).grown hg (fun j hj => .inl hj)) (fun e => (hh.inb _ e).2.1 rfl)
  obtain ⟨ao, cap, hv⟩ := hh.b.shape'
  have c2 : w.cell? ⟨hb, 2, none⟩ = some bv := hh.at'.cell 2
  have f2 : w2.frozen? ⟨hb, 2, none⟩ = false := hA2.frozen 2
  have f3 : w2.frozen? ⟨hb, 3, none⟩ = false := hA2.frozen 3
  have d2 : w2.cell? ⟨hb, 2, none⟩ = some bv := hA2.cell 2
  have d3 : w2.cell? ⟨hb, 3, none⟩ = some (.int .i64 h.kind) := hA2.cell 3
  simp only [List.length_cons, List.length_nil, Nat.zero_add] at hr
  obtain ⟨ao2, cap2, hv2⟩ := ho.shape'
  simp only [List.length_append, List.length_map, List.length_cons, List.length_nil, Nat.zero_add] at hv2
  rw [List.length_map] at hv
  generalize bl.length = n at *
  have Hr := hide hr
  subst hve hv hv2
  clear hr ho hg hk hlit ta hA2 hh hf hs hn
  go_enter Tryz.func142, Tryz.ntmps142
  go_wp2_with fail
  refine (unhide HF).mono ?_
  rintro e w1 ⟨rfl, rfl⟩
  clear HF
  go_wp2_with (at_builtin; refine wpList_append_run rfl (.tmp 16) (.tmp 18) 22 rfl _ _ _ w2 rfl rfl (unhide Hr) ?_)
  go_ret
  exact ⟨rfl, unhide HFin⟩

set_option maxHeartbeats 400000 in
theorem begin_no (k : Int) (ao : Option Addr) (n c : Nat) (hh : HAt w hb H h) (hf : ¬ h.fits k) :
    Calls Tryz.prog 142 #[.pointer (some ⟨hb, 0, none⟩), .int .i64 k, .slice ao n c] w fun e w' => e = .returned (.bool false) ∧ w = w' := by
  have HF := hide (fits_no k hh hf)
  clear hh hf
  go_enter Tryz.func142, Tryz.ntmps142
  go_wp2_with fail
  refine (unhide HF).mono ?_
  rintro e w1 ⟨rfl, rfl⟩
  go_wp2
  go_ret
  exact ⟨rfl, rfl⟩

end

end Go.Proofs.YtnipdgigjcaolaaGreat

/- Lists of records in new memory: few of what came in, and whether two lists are the same. -/
namespace Go.Proofs.YtnipdgigjcaolaaGreat
open Go.RowKit

/-- Records in the making: the row in new memory, each record in Q or in new memory, apart from the row. -/
structure RM (Q : Nat → Prop) (w : World) (v : Value) (rl : List (Value × List UInt8)) (wr : World) : Prop where
  own : OwnsC 29 wr v (rl.map (·.1))
  new : ∀ k, v.ownBlock = some k → w.heap.size ≤ k
  each : ∀ p ∈ rl, Sees wr p.1 p.2 ∧ (0 < p.2.length → ∀ j, slab p.1 = some j → (Q j ∨ w.heap.size ≤ j) ∧ j < wr.heap.size ∧ v.ownBlock ≠ some j)
  turn : Turn (fun _ => False) w wr

section
variable {Q : Nat → Prop} {w wr w2 : World} {v v2 : Value} {rl qs : List (Value × List UInt8)}

theorem RM.nil (Q : Nat → Prop) (w : World) : RM Q w (.slice none 0 0) [] w := ⟨OwnsC.nil _ _, fun k hk => by simp [Value.ownBlock] at hk, fun p hp => by simp at hp, Turn.refl _ _⟩

theorem RM.empty (Q : Nat → Prop) (w : World) : RM Q w (.slice (some ⟨w.heap.size, 0, none⟩) 0 0) [] (w.alloc (.cells #[] 29)) := ⟨OwnsC.empty _ _, fun k hk => by simp [Value.ownBlock] at hk; omega, fun p hp => by simp at hp, (Turn.refl _ _).alloc _⟩

theorem RM.goes (h : RM Q w v rl wr) (t : Turn (fun _ => False) wr w2) : RM Q w v rl w2 :=
  ⟨h.own.kept t (fun _ _ e => e), h.new, fun p hp => ⟨(h.each p hp).1.kept t (fun _ _ e => e), fun h0 j hj => by
    have h1 := (h.each p hp).2 h0 j hj
    exact ⟨h1.1, Nat.lt_of_lt_of_le h1.2.1 t.size, h1.2.2⟩⟩, h.turn.trans t⟩

theorem RM.more (h : RM Q w v rl wr) (hq : ∀ p ∈ qs, Sees wr p.1 p.2 ∧ (0 < p.2.length → ∀ j, slab p.1 = some j → (Q j ∨ w.heap.size ≤ j) ∧ j < wr.heap.size ∧ v.ownBlock ≠ some j))
    (ho : OwnsC 29 w2 v2 (rl.map (·.1) ++ qs.map (·.1))) (hg : wr.grownBy w2 v.ownBlock) (hk : v2.ownBlock = v.ownBlock ∨ v2.ownBlock = some wr.heap.size) : RM Q w v2 (rl ++ qs) w2 := by
  have tg : Turn (fun j => v.ownBlock = some j) wr w2 := (Turn.refl _ _).grown hg (fun j hj => .inl hj)
  refine ⟨by rw [List.map_append]; exact ho, fun k e => ?_, fun p hp => ?_, h.turn.trans' tg (fun j hj e => by have := h.new j e; omega)⟩
  · rcases hk with hk | hk
    · exact h.new k (hk ▸ e)
    · rw [hk] at e
      injection e with e
      have := h.turn.size
      omega
  · have hp' : Sees wr p.1 p.2 ∧ (0 < p.2.length → ∀ j, slab p.1 = some j → (Q j ∨ w.heap.size ≤ j) ∧ j < wr.heap.size ∧ v.ownBlock ≠ some j) := (List.mem_append.1 hp).elim (h.each p) (hq p)
    refine ⟨hp'.1.kept' tg (fun h0 j hj => (hp'.2 h0 j hj).2.2), fun h0 j hj => ?_⟩
    obtain ⟨h1, h2, h3⟩ := hp'.2 h0 j hj
    refine ⟨h1, Nat.lt_of_lt_of_le h2 tg.size, fun e => ?_⟩
    rcases hk with hk | hk
    · exact h3 (hk ▸ e)
    · rw [hk] at e
      injection e with e
      omega

theorem RM.toRL (h : RM Q w v rl wr) : RL (grow Q w wr) wr v rl :=
  RL.of h.own (fun g hg => .inr ⟨h.new g hg, h.own.lt hg⟩) (fun p hp => ⟨(h.each p hp).1, fun h0 j hj => by
    obtain ⟨h1, h2, _⟩ := (h.each p hp).2 h0 j hj
    exact h1.imp id (fun e => ⟨e, h2⟩)⟩)

theorem RM.shape (h : RM Q w v rl wr) : ∃ ao cap, v = .slice ao rl.length cap := by
  obtain ⟨ao, cap, e⟩ := h.own.shape'
  rw [List.length_map] at e
  exact ⟨ao, cap, e⟩

end

def fewOf (l : List (List UInt8)) : List (List UInt8) := (l.take 4).map (List.take 60)

theorem fewOf_len (l : List (List UInt8)) : (fewOf l).length ≤ 4 := by unfold fewOf; simp; omega
theorem fewOf_each (l : List (List UInt8)) : ∀ x ∈ fewOf l, x.length ≤ 60 := by
  intro x hx
  obtain ⟨y, _, rfl⟩ := List.mem_map.1 hx
  simp
  omega

section
variable {Q Q' : Nat → Prop} {w : World} {a b : Value} {la lb : List (Value × List UInt8)}

theorem turn_drewN6 (w : World) (n : Nat) : Turn (fun _ => False) w (w.drewN n) := ⟨rfl, rfl, rfl, Nat.le_refl _, fun _ _ _ => rfl⟩

set_option maxHeartbeats 2000000 in
set_option maxRecDepth 100000 in
theorem same_any (w : World) (a b : Value) (la lb : List (Value × List UInt8)) (ha : RL Q w a la) (hb : RL Q' w b lb) :
    Calls Tryz.prog 20 #[a, b] w fun e w' => e = .returned (.bool (decide (la.map (·.2) = lb.map (·.2)))) ∧ Turn (fun _ => False) w w' := by
  obtain ⟨ao, ac, rfl⟩ := ha.shape
  obtain ⟨bo, bc, rfl⟩ := hb.shape
  have hla := ha.len
  have hlb := hb.len
  unfold maxLen at hla hlb
  by_cases hne : la.length = lb.length
  · have HA := hide ha
    have HB := hide hb
    obtain ⟨len, hlen⟩ : ∃ len, len = la.length := ⟨_, rfl⟩
    rw [← hne, ← hlen] at HB
    rw [← hlen] at HA
    rw [← hne, ← hlen] at hlb ⊢
    have HL := hide hlen
    have HL2 := hide hne
    clear hne hlen ha hb hla
    have q0 : ((len : Int) != (len : Int)) = false := by simp
    go_enter Tryz.func20, Tryz.ntmps20
    go_wp2
    go_loopw [5] (fun i wr => ∃ n : Nat, i = .int .i64 n ∧ n ≤ len ∧ (la.map (·.2)).take n = (lb.map (·.2)).take n ∧ Turn (fun _ => False) w wr) (fun i _ => len - (intOf i).toNat)
    case atStart => exact ⟨0, rfl, by omega, rfl, Turn.refl _ _⟩
    case round =>
      obtain ⟨n, rfl, hn, heq, tn⟩ := hrel
      by_cases hlt : n < len
      · have h1 := unhide HL
        have h2 := unhide HL2
        obtain ⟨ga, ca, ax, an, axc, ea, ea1, ea2, hca⟩ := ((unhide HA).kept tn (fun _ _ e => e)).at n (by omega)
        obtain ⟨gb, cb, bx, bn, bxc, eb, eb1, eb2, hcb⟩ := ((unhide HB).kept tn (fun _ _ e => e)).at n (by omega)
        have hsa := (((unhide HA).kept tn (fun _ _ e => e)).each (la[n]'(by omega)) (List.getElem_mem _)).1
        have hsb := (((unhide HB).kept tn (fun _ _ e => e)).each (lb[n]'(by omega)) (List.getElem_mem _)).1
        rw [ea1] at hsa
        rw [eb1] at hsb
        have hcvA := fun k => run_text_of_sees (P := Tryz.prog) (wr.drewN k) 29 9 Tryz.underlying29 Tryz.underlying5 Tryz.underlying9 (show Sees (wr.drewN k) _ _ from hsa)
        have hcvB := fun k => run_text_of_sees (P := Tryz.prog) (wr.drewN k) 29 9 Tryz.underlying29 Tryz.underlying5 Tryz.underlying9 (show Sees (wr.drewN k) _ _ from hsb)
        have htk : la.map (·.2) = lb.map (·.2) → (la[n]'(by omega)).2 = (lb[n]'(by omega)).2 := fun e => by
          have e1 := congrArg (fun l => l[n]?) e
          simp only [List.getElem?_map, List.getElem?_eq_getElem (show n < la.length by omega), List.getElem?_eq_getElem (show n < lb.length by omega), Option.map_some, Option.some.injEq] at e1
          exact e1
        have hnx : (la[n]'(by omega)).2 = (lb[n]'(by omega)).2 → (la.map (·.2)).take (n + 1) = (lb.map (·.2)).take (n + 1) := fun e => by
          rw [List.take_succ_eq_append_getElem (by simp; omega), List.take_succ_eq_append_getElem (by simp; omega), heq]
          simp [e]
        have Htk := hide htk
        have Hnx := hide hnx
        have Heq := hide heq
        clear htk hnx heq hsa hsb ea1 eb1 ea2 eb2
        generalize (la[n]'(by omega)).2 = x at *
        generalize (lb[n]'(by omega)).2 = y at *
        injection ea with ea ea2 ea3
        injection eb with eb eb2 eb3
        clear ea2 ea3 eb2 eb3
        subst ea eb
        have q1 : (n : Int) < len := by omega
        clear h1 h2
        by_cases hxy : x = y
        · subst hxy
          go_wp2_with fail
          go_quiet ((fail))
          go_wp2
          exact ⟨⟨n + 1, by go_num, by omega, unhide Hnx trivial, tn.trans (turn_drewN6 _ nq)⟩, by simp [intOf]; omega⟩
        · have q2 : (x == y) = false := by simpa using hxy
          have Hd := hide (decide_eq_false (fun e => hxy (unhide Htk e)))
          clear hxy
          go_wp2_with fail
          go_quiet ((fail))
          go_wp2
          go_ret
          rw [unhide Hd]
          exact ⟨rfl, tn.trans (turn_drewN6 _ nq)⟩
      · obtain rfl : n = len := by omega
        have q1 : ¬ (n : Int) < n := by omega
        have h1 := unhide HL
        have h2 := unhide HL2
        rw [List.take_of_length_le (by rw [List.length_map]; omega), List.take_of_length_le (by rw [List.length_map]; omega)] at heq
        have Hd := hide (decide_eq_true heq)
        clear heq h1 h2
        go_wp2
        go_ret
        rw [unhide Hd]
        exact ⟨rfl, tn⟩
  · have hd : decide (la.map (·.2) = lb.map (·.2)) = false := decide_eq_false (fun e => hne (by simpa using congrArg List.length e))
    rw [hd]
    have q0 : ((la.length : Int) != (lb.length : Int)) = true := by simp; omega
    clear ha hb hd
    generalize la.length = n at *
    generalize lb.length = m at *
    go_enter Tryz.func20, Tryz.ntmps20
    go_wp2
    go_ret
    exact ⟨rfl, Turn.refl _ _⟩

end

section
variable {K K2 : Nat → Prop} {w wr : World} {v a b : Value} {la lb : List (Value × List UInt8)}

theorem RL.one (h : RL K w a la) : ∀ u ∈ la.map (·.1), u.oneCell' = true := by
  intro u hu
  obtain ⟨p, hp, rfl⟩ := List.mem_map.1 hu
  obtain ⟨ao, c, e⟩ := (h.each p hp).1.shape
  rw [e]
  rfl

/-- Records behind records in the making. -/
theorem RM.cat (h : RM K w v la wr) (hb : RL K2 wr b lb) (hq : ∀ j, K2 j → (K j ∨ w.heap.size ≤ j) ∧ j < wr.heap.size ∧ v.ownBlock ≠ some j) (hlen : la.length + lb.length ≤ 1000000) :
    ∃ v2 w2, (Builtin.append_ #[22, 22] 22 #[v, b]).run Tryz.prog wr = .ok v2 w2 ∧ RM K w v2 (la ++ lb) w2 := by
  obtain ⟨v2, w2, hr, ho, hg, hk⟩ := append_lists wr v (la.map (·.1)) h.own b (lb.map (·.1)) hb.sees hb.one (by simp; omega)
  exact ⟨v2, w2, hr, h.more (fun p hp => ⟨(hb.each p hp).1, fun h0 j hj => hq j ((hb.each p hp).2 h0 j hj)⟩) ho hg hk⟩

/-- A copy of records, and others behind them. -/
theorem cat_two (ha : RL K w a la) (hb : RL K w b lb) (hK : ∀ j, K j → j < w.heap.size) (hlen : la.length + lb.length ≤ 1000000) :
    ∃ v1 w1 v2 w2, (Builtin.append_ #[22, 22] 22 #[.slice (some ⟨w.heap.size, 0, none⟩) 0 0, a]).run Tryz.prog (w.alloc (.cells #[] 29)) = .ok v1 w1 ∧ (∃ ao c, v1 = .slice ao la.length c) ∧
      (Builtin.append_ #[22, 22] 22 #[v1, b]).run Tryz.prog w1 = .ok v2 w2 ∧ RM K w v2 (la ++ lb) w2 := by
  have h0 := RM.empty K w
  have ta : Turn (fun _ => False) w (w.alloc (.cells #[] 29)) := (Turn.refl _ _).alloc _
  obtain ⟨v1, w1, r1, h1⟩ := h0.cat (ha.kept ta (fun _ _ e => e)) (fun j hj => by
    have := hK j hj
    have := ta.size
    refine ⟨.inl hj, by omega, fun e => ?_⟩
    simp [Value.ownBlock] at e
    omega) (by simp; omega)
  rw [List.nil_append] at h1
  obtain ⟨v2, w2, r2, h2⟩ := h1.cat (hb.kept h1.turn (fun _ _ e => e)) (fun j hj => by
    have := hK j hj
    have := h1.turn.size
    refine ⟨.inl hj, by omega, fun e => ?_⟩
    have := h1.new j e
    omega) hlen
  exact ⟨v1, w1, v2, w2, r1, h1.shape, r2, h2⟩

end

theorem few_len {rl : List (Value × List UInt8)} {l : List (List UInt8)} (h : rl.map (·.2) = fewOf l) : rl.length ≤ 4 ∧ ∀ x ∈ rl.map (·.2), x.length ≤ 60 := by
  have h1 := congrArg List.length h
  rw [List.length_map] at h1
  have := fewOf_len l
  exact ⟨by omega, by rw [h]; exact fewOf_each l⟩

end Go.Proofs.YtnipdgigjcaolaaGreat

/- A history in memory takes a frame. -/
namespace Go.Proofs.YtnipdgigjcaolaaGreat
open Go.RowKit

section
variable {w : World} {hb : Nat} {H : Nat → Prop} {h : HSt}

theorem HTo.of {w' : World} {s : HSt} {v : Value} (hh : HAt w' hb (fun j => H j ∨ (w.heap.size ≤ j ∧ j < w'.heap.size)) s) (hl : ∀ j, H j → j < w.heap.size) (t : Turn H w w') : HTo w hb H v s w' :=
  ⟨hh.mono (fun j hj => hj.imp id .inr) (fun j hj => by
    have := t.size
    rcases hj with hj | hj | hj
    · have := hl j hj; omega
    · omega
    · exact hj.2), t⟩

/-- What was begun counts: it stands behind the records. -/
theorem HIs.counts {rv bv v2 : Value} {rl bl : List (Value × List UInt8)} {w2 : World} (hh : HIs w hb H h rv bv rl bl) (ho : OwnsC 29 w2 v2 (rl.map (·.1) ++ bl.map (·.1))) (hg : w.drew.grownBy w2 rv.ownBlock) (hk : v2.ownBlock = rv.ownBlock ∨ v2.ownBlock = some w.drew.heap.size) (v : Value) :
    HTo w hb H v h.commits ((w2.setCell ⟨hb, 0, none⟩ v2).setCell ⟨hb, 2, none⟩ (.slice none 0 0)) := by
  have hbl := hh.lt _ hh.hb
  have hsz : w.drew.heap.size = w.heap.size := rfl
  have t2 : Turn (fun j => rv.ownBlock = some j) w w2 := ((Turn.refl _ w).drew).grown hg (fun j hj => .inl hj)
  have hA : At 104 w2 hb #[rv, .int .i64 h.since, bv, .int .i64 h.kind] := hh.at'.kept t2 (fun e => (hh.inr _ e).2 rfl)
  have hA2 : At 104 ((w2.setCell ⟨hb, 0, none⟩ v2).setCell ⟨hb, 2, none⟩ (.slice none 0 0)) hb #[v2, .int .i64 h.since, .slice none 0 0, .int .i64 h.kind] := by
    have := (hA.set 0 v2).set 2 (.slice none 0 0)
    simpa using this
  have ts : Turn (fun j => j = hb) w2 ((w2.setCell ⟨hb, 0, none⟩ v2).setCell ⟨hb, 2, none⟩ (.slice none 0 0)) := ((Turn.refl (fun j => j = hb) w2).setCell (p := ⟨hb, 0, none⟩) (.inl rfl) _).setCell (p := ⟨hb, 2, none⟩) (.inl rfl) _
  have hv2 : ∀ j, v2.ownBlock = some j → (rv.ownBlock = some j ∨ (w.heap.size ≤ j ∧ j < w2.heap.size)) := by
    intro j hj
    rcases hk with e | e
    · exact .inl (e ▸ hj)
    · exact .inr ⟨by rw [e] at hj; injection hj with hj; omega, ho.lt hj⟩
  have hv2n : ∀ j, v2.ownBlock = some j → j ≠ hb := by
    intro j hj
    rcases hv2 j hj with e | e
    · exact (hh.inr j e).2
    · omega
  have tall : Turn H w ((w2.setCell ⟨hb, 0, none⟩ v2).setCell ⟨hb, 2, none⟩ (.slice none 0 0)) := (t2.mono (fun j _ e => (hh.inr j e).1)).trans' ts (fun j _ e => e ▸ hh.hb)
  refine HTo.of ⟨v2, .slice none 0 0, rl ++ bl, [], hA2, ?_, OwnsC.nil _ _, ?_, rfl, ?_, fun j hj => by simp [Value.ownBlock] at hj, ?_, .inl hh.hb, ?_⟩ hh.lt tall
  · rw [List.map_append]
    exact ho.kept ts (fun j hj e => hv2n j hj e)
  · rw [List.map_append, hh.recs, hh.begun]
    rfl
  · intro j hj
    refine ⟨?_, hv2n j hj⟩
    rcases hv2 j hj with e | e
    · exact .inl (hh.inr j e).1
    · exact .inr ⟨e.1, Nat.lt_of_lt_of_le e.2 ts.size⟩
  · intro p hp
    have hp' : p ∈ rl ∨ p ∈ bl := by
      rcases hp with hp | hp
      · exact List.mem_append.1 hp
      · simp at hp
    obtain ⟨h1, h2⟩ := hh.each p hp'
    refine ⟨(h1.kept' t2 (fun h0 j hj e => (h2 h0 j hj).2.2.1 e)).kept' ts (fun h0 j hj e => (h2 h0 j hj).2.1 e), fun h0 j hj => ?_⟩
    obtain ⟨a1, a2, a3, a4⟩ := h2 h0 j hj
    refine ⟨.inl a1, a2, fun e => ?_, by simp [Value.ownBlock]⟩
    rcases hv2 j e with e | e
    · exact a3 e
    · have := hh.lt j a1
      omega
  · intro j hj
    have := tall.size
    rcases hj with hj | hj
    · have := hh.lt j hj
      omega
    · exact hj.2

/-- What was begun counts in the place of the records. -/
theorem HIs.anew {rv bv : Value} {rl bl : List (Value × List UInt8)} {file : Int} (hh : HIs w hb H h rv bv rl bl) (v : Value) :
    HTo w hb H v (h.anew file) (((w.setCell ⟨hb, 0, none⟩ bv).setCell ⟨hb, 1, none⟩ (.int .i64 file)).setCell ⟨hb, 2, none⟩ (.slice none 0 0)) := by
  have hA2 : At 104 (((w.setCell ⟨hb, 0, none⟩ bv).setCell ⟨hb, 1, none⟩ (.int .i64 file)).setCell ⟨hb, 2, none⟩ (.slice none 0 0)) hb #[bv, .int .i64 file, .slice none 0 0, .int .i64 h.kind] := by
    have := ((hh.at'.set 0 bv).set 1 (.int .i64 file)).set 2 (.slice none 0 0)
    simpa using this
  have ts : Turn (fun j => j = hb) w (((w.setCell ⟨hb, 0, none⟩ bv).setCell ⟨hb, 1, none⟩ (.int .i64 file)).setCell ⟨hb, 2, none⟩ (.slice none 0 0)) := (((Turn.refl (fun j => j = hb) w).setCell (p := ⟨hb, 0, none⟩) (.inl rfl) _).setCell (p := ⟨hb, 1, none⟩) (.inl rfl) _).setCell (p := ⟨hb, 2, none⟩) (.inl rfl) _
  refine HTo.of ⟨bv, .slice none 0 0, bl, [], hA2, hh.b.kept ts (fun j hj e => (hh.inb j hj).2.1 e), OwnsC.nil _ _, hh.begun, rfl, fun j hj => ⟨.inl (hh.inb j hj).1, (hh.inb j hj).2.1⟩, fun j hj => by simp [Value.ownBlock] at hj, ?_, .inl hh.hb, ?_⟩ hh.lt (ts.mono (fun j _ e => e ▸ hh.hb))
  · intro p hp
    have hp' : p ∈ bl := by simpa using hp
    obtain ⟨h1, h2⟩ := hh.each p (.inr hp')
    refine ⟨h1.kept' ts (fun h0 j hj e => (h2 h0 j hj).2.1 e), fun h0 j hj => ?_⟩
    obtain ⟨a1, a2, a3, a4⟩ := h2 h0 j hj
    exact ⟨.inl a1, a2, a4, by simp [Value.ownBlock]⟩
  · intro j hj
    have := ts.size
    rcases hj with hj | hj
    · have := hh.lt j hj
      omega
    · exact hj.2

theorem HTo.refl (hh : HAt w hb H h) (v : Value) : HTo w hb H v h w := HTo.of (hh.mono (fun _ hj => .inl hj) (fun j hj => hj.elim (hh.lt j) (fun h => h.2))) hh.lt (Turn.refl _ _)

set_option maxHeartbeats 1000000 in
set_option maxRecDepth 100000 in
theorem take_rec_yes (file k : Int) (v : Value) (bs : List UInt8) (hk : k = 1 ∨ k = 3) (hh : HAt w hb H h) (hf : h.fits k) (hs : Sees w v bs) (hn : 0 < bs.length → ∀ j, slab v = some j → ¬ H j ∧ j < w.heap.size) (hlen : h.begun.length + 1 ≤ 1099511627776) :
    Calls Tryz.prog 109 #[.pointer (some ⟨hb, 0, none⟩), .int .i64 file, .int .i64 k, v] w fun e w' => e = .returned (.bool true) ∧ HTo w hb H v (h.begin' k bs) w' := by
  have HB := hide (begin_yes k v bs hh hf hs hn hlen)
  obtain ⟨vo, vc, rfl⟩ := hs.shape
  clear hh hf hs hn
  rcases hk with rfl | rfl
  all_goals (
    go_enter Tryz.func109, Tryz.ntmps109
    go_wp2_with fail
    refine (unhide HB).mono ?_
    rintro e w1 ⟨rfl, h1⟩
    go_wp2
    go_ret
    exact ⟨rfl, h1⟩)

set_option maxHeartbeats 1000000 in
set_option maxRecDepth 100000 in
theorem take_rec_no (file k : Int) (ao : Option Addr) (n c : Nat) (hk : k = 1 ∨ k = 3) (hh : HAt w hb H h) (hf : ¬ h.fits k) :
    Calls Tryz.prog 109 #[.pointer (some ⟨hb, 0, none⟩), .int .i64 file, .int .i64 k, .slice ao n c] w fun e w' => e = .returned (.bool false) ∧ w = w' := by
  have HB := hide (begin_no k ao n c hh hf)
  clear hh hf
  rcases hk with rfl | rfl
  all_goals (
    go_enter Tryz.func109, Tryz.ntmps109
    go_wp2_with fail
    refine (unhide HB).mono ?_
    rintro e w1 ⟨rfl, rfl⟩
    go_wp2
    go_ret
    exact ⟨rfl, rfl⟩)

set_option maxHeartbeats 1000000 in
set_option maxRecDepth 100000 in
theorem take_other (file k : Int) (ao : Option Addr) (n c : Nat) (h1 : k ≠ 1) (h2 : k ≠ 2) (h3 : k ≠ 3) (h4 : k ≠ 4) :
    Calls Tryz.prog 109 #[.pointer (some ⟨hb, 0, none⟩), .int .i64 file, .int .i64 k, .slice ao n c] w fun e w' => e = .returned (.bool false) ∧ w = w' := by
  have q1 : (k == 1) = false := by simpa using h1
  have q2 : (k == 2) = false := by simpa using h2
  have q3 : (k == 3) = false := by simpa using h3
  have q4 : (k == 4) = false := by simpa using h4
  go_enter Tryz.func109, Tryz.ntmps109
  go_wp2
  go_ret
  exact ⟨rfl, rfl⟩

set_option maxHeartbeats 1000000 in
set_option maxRecDepth 100000 in
theorem take_commit_no (file : Int) (ao : Option Addr) (n c : Nat) (hh : HAt w hb H h) (hf : 0 < n ∨ h.begun = [] ∨ ¬ h.fits 1) :
    Calls Tryz.prog 109 #[.pointer (some ⟨hb, 0, none⟩), .int .i64 file, .int .i64 2, .slice ao n c] w fun e w' => e = .returned (.bool false) ∧ w = w' := by
  by_cases hn : 0 < n
  · have q1 : (0 : Int) < n := by omega
    clear hh hf
    go_enter Tryz.func109, Tryz.ntmps109
    go_wp2
    go_ret
    exact ⟨rfl, rfl⟩
  obtain rfl : n = 0 := by omega
  have HN := fun hx => hide (fits_no (w := w) (hb := hb) (H := H) (h := h) 1 hh hx)
  obtain ⟨rv, bv, rl, bl, hi⟩ := hh
  obtain ⟨bo, cap, hv⟩ := hi.b.shape'
  have c2 : w.cell? ⟨hb, 2, none⟩ = some bv := hi.at'.cell 2
  rw [hv, List.length_map, hi.lenb] at c2
  clear hi hv
  by_cases h0 : h.begun = []
  · rw [h0] at c2
    simp only [List.length_nil] at c2
    clear hf HN
    go_enter Tryz.func109, Tryz.ntmps109
    go_wp2
    go_ret
    exact ⟨rfl, rfl⟩
  · have hx : ¬ h.fits 1 := by
      rcases hf with hf | hf | hf
      · omega
      · exact absurd hf h0
      · exact hf
    have HF := HN hx
    have q0 : ((h.begun.length : Int) == 0) = false := by simp; exact h0
    generalize h.begun.length = n at *
    clear hf hx HN h0
    go_enter Tryz.func109, Tryz.ntmps109
    go_wp2_with fail
    refine (unhide HF).mono ?_
    rintro e w1 ⟨rfl, rfl⟩
    go_wp2
    go_ret
    exact ⟨rfl, rfl⟩

set_option maxHeartbeats 1000000 in
set_option maxRecDepth 100000 in
theorem take_check_no (file : Int) (ao : Option Addr) (n c : Nat) (hh : HAt w hb H h) (hf : 0 < n ∨ ¬ h.fits 3) :
    Calls Tryz.prog 109 #[.pointer (some ⟨hb, 0, none⟩), .int .i64 file, .int .i64 4, .slice ao n c] w fun e w' => e = .returned (.bool false) ∧ w = w' := by
  by_cases hn : 0 < n
  · have q1 : (0 : Int) < n := by omega
    clear hh hf
    go_enter Tryz.func109, Tryz.ntmps109
    go_wp2
    go_ret
    exact ⟨rfl, rfl⟩
  obtain rfl : n = 0 := by omega
  have HF := hide (fits_no (w := w) (hb := hb) (H := H) (h := h) 3 hh (hf.resolve_left hn))
  clear hh hf
  go_enter Tryz.func109, Tryz.ntmps109
  go_wp2_with fail
  refine (unhide HF).mono ?_
  rintro e w1 ⟨rfl, rfl⟩
  go_wp2
  go_ret
  exact ⟨rfl, rfl⟩

set_option maxHeartbeats 1000000 in
set_option maxRecDepth 100000 in
theorem take_check_yes (file : Int) (ao : Option Addr) (c : Nat) (hh : HAt w hb H h) (hf : h.fits 3) :
    Calls Tryz.prog 109 #[.pointer (some ⟨hb, 0, none⟩), .int .i64 file, .int .i64 4, .slice ao 0 c] w fun e w' => e = .returned (.bool true) ∧ HTo w hb H (.slice ao 0 c) (h.anew file) w' := by
  have HF := hide (fits_yes (w := w) (hb := hb) (H := H) (h := h) 3 hh hf)
  obtain ⟨rv, bv, rl, bl, hi⟩ := hh
  have HT := hide (hi.anew (file := file) (.slice ao 0 c))
  obtain ⟨bo, cap, hv⟩ := hi.b.shape'
  have c0 : w.cell? ⟨hb, 0, none⟩ = some rv := hi.at'.cell 0
  have c1 : w.cell? ⟨hb, 1, none⟩ = some (.int .i64 h.since) := hi.at'.cell 1
  have c2 : w.cell? ⟨hb, 2, none⟩ = some bv := hi.at'.cell 2
  have f0 : w.frozen? ⟨hb, 0, none⟩ = false := hi.at'.frozen 0
  have f1 : w.frozen? ⟨hb, 1, none⟩ = false := hi.at'.frozen 1
  have f2 : w.frozen? ⟨hb, 2, none⟩ = false := hi.at'.frozen 2
  obtain ⟨ro, rc, hrv⟩ := hi.r.shape'
  generalize (bl.map (·.1)).length = n at *
  generalize (rl.map (·.1)).length = n' at *
  subst hv hrv
  clear hi hf
  go_enter Tryz.func109, Tryz.ntmps109
  go_wp2_with fail
  refine (unhide HF).mono ?_
  rintro e w1 ⟨rfl, rfl⟩
  clear HF
  go_wp2
  go_ret
  exact ⟨rfl, unhide HT⟩

set_option maxHeartbeats 1000000 in
set_option maxRecDepth 100000 in
theorem take_commit_yes (file : Int) (ao : Option Addr) (c : Nat) (hh : HAt w hb H h) (hf : h.fits 1) (h0 : h.begun ≠ []) (hlen : h.recs.length + h.begun.length ≤ 1099511627776) :
    Calls Tryz.prog 109 #[.pointer (some ⟨hb, 0, none⟩), .int .i64 file, .int .i64 2, .slice ao 0 c] w fun e w' => e = .returned (.bool true) ∧ HTo w hb H (.slice ao 0 c) h.commits w' := by
  have HF := hide (fits_yes (w := w) (hb := hb) (H := H) (h := h) 1 hh hf)
  obtain ⟨rv, bv, rl, bl, hi⟩ := hh
  have hone : ∀ u ∈ bl.map (·.1), u.oneCell' = true := by
    intro u hu
    obtain ⟨p, hp, rfl⟩ := List.mem_map.1 hu
    obtain ⟨_, _, e⟩ := (hi.each p (.inr hp)).1.shape
    rw [e]
    rfl
  obtain ⟨v2, w2, hr, ho, hg, hk⟩ := append_lists w.drew rv (rl.map (·.1)) hi.r.drew bv (bl.map (·.1)) hi.b.drew.sees hone (by rw [List.length_map, List.length_map, hi.lenb, hi.lenr]; exact hlen)
  have HT := hide (hi.counts ho hg hk (.slice ao 0 c))
  have hA2 : At 104 w2 hb #[rv, .int .i64 h.since, bv, .int .i64 h.kind] := hi.at'.kept (((Turn.refl (fun j => rv.ownBlock = some j) w).drew).grown hg (fun j hj => .inl hj)) (fun e => (hi.inr _ e).2 rfl)
  obtain ⟨bo, cap, hv⟩ := hi.b.shape'
  obtain ⟨ro, rc, hrv⟩ := hi.r.shape'
  obtain ⟨o2, cp2, hv2⟩ := ho.shape'
  have c0 : w.cell? ⟨hb, 0, none⟩ = some rv := hi.at'.cell 0
  have c2 : w.cell? ⟨hb, 2, none⟩ = some bv := hi.at'.cell 2
  have d0 : w2.cell? ⟨hb, 0, none⟩ = some rv := hA2.cell 0
  have d2 : w2.cell? ⟨hb, 2, none⟩ = some bv := hA2.cell 2
  have f0 : w2.frozen? ⟨hb, 0, none⟩ = false := hA2.frozen 0
  have f2 : w2.frozen? ⟨hb, 2, none⟩ = false := hA2.frozen 2
  rw [List.length_map] at hv
  have q0 : ((bl.length : Int) == 0) = false := by
    have := hi.lenb
    simp
    intro e
    rw [e] at this
    exact h0 (List.eq_nil_of_length_eq_zero this.symm)
  generalize bl.length = n at *
  generalize (rl.map (·.1)).length = n' at *
  generalize (rl.map (·.1) ++ bl.map (·.1)).length = n2 at *
  have Hr := hide hr
  subst hv hrv hv2
  clear hr ho hg hk hA2 hi hf hone h0 hlen
  go_enter Tryz.func109, Tryz.ntmps109
  go_wp2_with fail
  refine (unhide HF).mono ?_
  rintro e w1 ⟨rfl, rfl⟩
  clear HF
  go_wp2_with fail
  go_region_law (refine step_append_run (by rfl) (.tmp 39) (.tmp 43) 22 (by rfl) _ _ _ w2 (by rfl) (by rfl) (unhide Hr) ?_)
  all_goals (
    go_wp2
    go_ret
    exact ⟨rfl, unhide HT⟩)

end

end Go.Proofs.YtnipdgigjcaolaaGreat

/- A history in memory reads a file. -/
namespace Go.Proofs.YtnipdgigjcaolaaGreat
open Go.RowKit

section
variable {w : World} {hb : Nat} {H : Nat → Prop} {h : HSt}

theorem take_some {file k : Int} {v : Value} {bs : List UInt8} {h' : HSt} (hh : HAt w hb H h) (ht : h.take file k bs = some h') (hs : Sees w v bs) (hn : 0 < bs.length → ∀ j, slab v = some j → ¬ H j ∧ j < w.heap.size) (hlen : h.recs.length + h.begun.length + 1 ≤ 1099511627776) :
    Calls Tryz.prog 109 #[.pointer (some ⟨hb, 0, none⟩), .int .i64 file, .int .i64 k, v] w fun e w' => e = .returned (.bool true) ∧ HTo w hb H v h' w' := by
  unfold HSt.take at ht
  split at ht
  · rename_i hk
    split at ht
    · rename_i hf
      injection ht with ht
      subst ht
      exact take_rec_yes file k v bs hk hh hf hs hn (by omega)
    · cases ht
  · split at ht
    · rename_i hk
      subst hk
      split at ht
      · cases ht
      · rename_i hc
        injection ht with ht
        subst ht
        have h0 : bs = [] := Decidable.byContradiction fun e => hc (.inl e)
        subst h0
        obtain ⟨ao, c, rfl⟩ := hs.shape
        exact take_commit_yes file ao c hh (Decidable.byContradiction fun e => hc (.inr (.inr e))) (fun e => hc (.inr (.inl e))) (by omega)
    · split at ht
      · rename_i hk
        subst hk
        split at ht
        · cases ht
        · rename_i hc
          injection ht with ht
          subst ht
          have h0 : bs = [] := Decidable.byContradiction fun e => hc (.inl e)
          subst h0
          obtain ⟨ao, c, rfl⟩ := hs.shape
          exact take_check_yes file ao c hh (Decidable.byContradiction fun e => hc (.inr e))
      · cases ht

theorem take_none {file k : Int} {v : Value} {bs : List UInt8} (hh : HAt w hb H h) (ht : h.take file k bs = none) (hs : Sees w v bs) :
    Calls Tryz.prog 109 #[.pointer (some ⟨hb, 0, none⟩), .int .i64 file, .int .i64 k, v] w fun e w' => e = .returned (.bool false) ∧ w = w' := by
  obtain ⟨ao, c, rfl⟩ := hs.shape
  have hpos : bs ≠ [] → 0 < bs.length := fun e => List.length_pos_iff.2 e
  unfold HSt.take at ht
  split at ht
  · rename_i hk
    split at ht
    · cases ht
    · rename_i hf
      exact take_rec_no file k _ _ _ hk hh hf
  · rename_i h13
    split at ht
    · rename_i hk
      subst hk
      split at ht
      · rename_i hc
        exact take_commit_no file _ _ _ hh (hc.imp hpos id)
      · cases ht
    · rename_i h2
      split at ht
      · rename_i hk
        subst hk
        split at ht
        · rename_i hc
          exact take_check_no file _ _ _ hh (hc.imp hpos id)
        · cases ht
      · rename_i h4
        exact take_other file k _ _ _ (fun e => h13 (.inl e)) h2 (fun e => h13 (.inr e)) h4

theorem take_bound {file k : Int} {bs : List UInt8} {h' : HSt} (ht : h.take file k bs = some h') : h'.recs.length + h'.begun.length ≤ h.recs.length + h.begun.length + 1 := by
  unfold HSt.take at ht
  split at ht
  · split at ht
    · injection ht with ht
      subst ht
      simp [HSt.begin']
      omega
    · cases ht
  · split at ht
    · split at ht
      · cases ht
      · injection ht with ht
        subst ht
        simp [HSt.commits]
    · split at ht
      · split at ht
        · cases ht
        · injection ht with ht
          subst ht
          simp [HSt.anew]
          omega
      · cases ht

end

/-- How long a slice is. -/
def slen : Value → Nat
  | .slice _ n _ => n
  | _ => 0

/-- What reading a file comes to. -/
def ReadTo (w : World) (hb : Nat) (H : Nat → Prop) (f t : Nat) (r : Option HSt) (e : Ending) (w' : World) : Prop :=
  match r with
  | none => e = .returned (.bool false) ∧ Turn (fun j => H j ∨ j = t) w w'
  | some h => e = .returned (.bool true) ∧ HAt w' hb (grow H w w') h ∧ Fr w' f t ∧ Turn (fun j => H j ∨ j = t) w w'

/-- The history within the reading. -/
structure Reading (w : World) (hb : Nat) (H : Nat → Prop) (f t : Nat) (file : Int) (r : Option HSt) (b : Value) (wr : World) (bs : List UInt8) (h : HSt) : Prop where
  sees : Sees wr b bs
  lie : 0 < bs.length → ∀ j, slab b = some j → j < w.heap.size ∧ ¬ H j ∧ j ≠ t
  at' : HAt wr hb (grow H w wr) h
  fr : Fr wr f t
  turn : Turn (fun j => H j ∨ j = t) w wr
  goes : HSt.takes file (frs bs) h = r
  fit : h.recs.length + h.begun.length + bs.length ≤ 1099511627776

theorem Reading.takes {w wr w1 w2 : World} {hb f t : Nat} {H : Nat → Prop} {file : Int} {r : Option HSt} {b b2 vb : Value} {bs bs2 : List UInt8} {h h2 : HSt} (hR : Reading w hb H f t file r b wr bs h) (hlt : t < w.heap.size) (hlf : f < w.heap.size) (hHf : ¬ H f) (hHt : ¬ H t)
    (hF1 : Fr w1 f t) (t1 : Turn (fun k => k = t) wr w1) (hnew : ∀ k, vb.ownBlock = some k → wr.heap.size ≤ k) (hsl : slab vb = vb.ownBlock) (ht : HTo w1 hb (grow H w wr) vb h2 w2)
    (hs2 : Sees wr b2 bs2) (hb2 : ∀ j, slab b2 = some j → slab b = some j) (hle : 0 < bs2.length → 0 < bs.length) (hg : HSt.takes file (frs bs2) h2 = r) (hfit : h2.recs.length + h2.begun.length + bs2.length ≤ 1099511627776) :
    Reading w hb H f t file r b2 w2 bs2 h2 := by
  have s1 := hR.turn.size
  have s2 := t1.size
  have s3 := ht.2.size
  have lie2 : 0 < bs2.length → ∀ j, slab b2 = some j → j < w.heap.size ∧ ¬ H j ∧ j ≠ t := fun h0 j hj => hR.lie (hle h0) j (hb2 j hj)
  have hng : ∀ j, j < w.heap.size → ¬ H j → ¬ grow H w wr j := fun j h1 h2 hj => hj.elim h2 (fun h => by omega)
  refine ⟨?_, lie2, ?_, hF1.kept ht.2 (hng f hlf hHf) (hng t hlt hHt), ?_, hg, hfit⟩
  · exact (hs2.kept' t1 (fun h0 j hj e => (lie2 h0 j hj).2.2 e)).kept' ht.2 (fun h0 j hj => hng j (lie2 h0 j hj).1 (lie2 h0 j hj).2.1)
  · refine ht.1.mono (fun j hj => ?_) (fun j hj => ?_)
    · rcases hj with hj | hj | hj
      · rcases hj with hj | hj
        · exact .inl hj
        · exact .inr ⟨hj.1, by omega⟩
      · rw [hsl] at hj
        exact .inr ⟨by have := hnew j hj.1; omega, by omega⟩
      · exact .inr ⟨by omega, hj.2⟩
    · rcases hj with hj | hj
      · have := hR.at'.lt j (.inl hj)
        omega
      · exact hj.2
  · refine (hR.turn.trans' t1 (fun j _ e => .inr e)).trans' ht.2 (fun j hj e => ?_)
    rcases e with e | e
    · exact .inl e
    · omega

theorem Reading.at1 {w wr w1 : World} {hb f t : Nat} {H : Nat → Prop} {file : Int} {r : Option HSt} {b : Value} {bs : List UInt8} {h : HSt} (hR : Reading w hb H f t file r b wr bs h) (hlt : t < w.heap.size) (hHt : ¬ H t) (t1 : Turn (fun k => k = t) wr w1) : HAt w1 hb (grow H w wr) h :=
  hR.at'.kept t1 (fun j hj e => by
    subst e
    rcases hj with hj | hj
    · exact hHt hj
    · omega)

set_option maxHeartbeats 2000000 in
set_option maxRecDepth 100000 in
theorem read_file {w : World} {hb f t : Nat} {H : Nat → Prop} {h : HSt} (file : Int) (v : Value) (bs : List UInt8) (hh : HAt w hb H h) (hF : Fr w f t) (hHf : ¬ H f) (hHt : ¬ H t) (hs : Sees w v bs) (hv : 0 < bs.length → ∀ j, slab v = some j → ¬ H j ∧ j ≠ t) (hfit : h.recs.length + bs.length ≤ 1099511627776) :
    Calls Tryz.prog 58 #[.pointer (some ⟨hb, 0, none⟩), .pointer (some ⟨f, 0, none⟩), .int .i64 file, v] w (ReadTo w hb H f t (h.file file bs)) := by
  have hlt := hF.ltt
  have hlf := hF.ltf
  obtain ⟨rv, bv, rl, bl, hi⟩ := hh
  have f2 : w.frozen? ⟨hb, 2, none⟩ = false := hi.at'.frozen 2
  have c2 : w.cell? ⟨hb, 2, none⟩ = some bv := hi.at'.cell 2
  have ts : Turn (fun j => j = hb) w (w.setCell ⟨hb, 2, none⟩ (.slice none 0 0)) := (Turn.refl (fun j => j = hb) w).setCell (p := ⟨hb, 2, none⟩) (.inl rfl) _
  have tsz := ts.size
  have hsz : (w.setCell ⟨hb, 2, none⟩ (.slice none 0 0)).heap.size = w.heap.size := by simp [World.setCell]
  have hi2 : HAt (w.setCell ⟨hb, 2, none⟩ (.slice none 0 0)) hb (grow H w (w.setCell ⟨hb, 2, none⟩ (.slice none 0 0))) h.fresh := by
    refine ⟨rv, .slice none 0 0, rl, [], by simpa [HSt.fresh] using hi.at'.set 2 (.slice none 0 0), hi.r.kept ts (fun j hj e => (hi.inr j hj).2 e), OwnsC.nil _ _, hi.recs, rfl, fun j hj => ⟨.inl (hi.inr j hj).1, (hi.inr j hj).2⟩, fun j hj => by simp [Value.ownBlock] at hj, fun p hp => ?_, .inl hi.hb, fun j hj => ?_⟩
    · have hp' : p ∈ rl := by simpa using hp
      obtain ⟨h1, h2⟩ := hi.each p (.inl hp')
      refine ⟨h1.kept' ts (fun h0 j hj e => (h2 h0 j hj).2.1 e), fun h0 j hj => ?_⟩
      obtain ⟨a1, a2, a3, a4⟩ := h2 h0 j hj
      exact ⟨.inl a1, a2, a3, by simp [Value.ownBlock]⟩
    · rcases hj with hj | hj
      · have := hi.lt j hj
        omega
      · exact hj.2
  have hne1 : ¬ f = hb := fun e => hHf (e ▸ hi.hb)
  have hne2 : ¬ t = hb := fun e => hHt (e ▸ hi.hb)
  have hR : Reading w hb H f t file (h.file file bs) v (w.setCell ⟨hb, 2, none⟩ (.slice none 0 0)) bs h.fresh :=
    ⟨hs.kept' ts (fun h0 j hj e => (hv h0 j hj).1 (e ▸ hi.hb)), fun h0 j hj => ⟨slab_lt hs h0 hj, hv h0 j hj⟩, hi2, hF.kept ts hne1 hne2, ts.mono (fun j _ e => .inl (e ▸ hi.hb)), rfl, by simpa [HSt.fresh] using hfit⟩
  obtain ⟨vo, vc, hve⟩ := hs.shape
  obtain ⟨bo, bc, hbe⟩ := hi.b.shape'
  generalize (bl.map (·.1)).length = n at *
  generalize h.file file bs = r at *
  have hst := And.intro (show bs.length ≤ maxLen from hs.len) hR
  have Hst := hide hst
  clear hst hR hi2 hi ts tsz hsz hs hv hfit hF
  subst hve hbe
  go_enter Tryz.func58, Tryz.ntmps58
  go_wp2
  go_loopw [3, 9, 10, 11, 12] (fun b _ _ _ _ wr => ∃ bs h, Reading w hb H f t file r b wr bs h) (fun b _ _ _ _ _ => slen b)
  case atStart => exact ⟨bs, _, (unhide Hst).2⟩
  case round =>
    clear Hst f2 c2
    obtain ⟨bs, h, hR⟩ := hrel
    obtain ⟨bo, bc, hbe⟩ := hR.sees.shape
    subst hbe
    have hm := hR.sees.len
    unfold maxLen at hm
    go_wp2_with fail
    refine (next_any f t _ bs wr hR.fr hR.sees).mono ?_
    rintro e w1 ⟨vb, rfl, ho, hF1, t1, hnew⟩
    unfold toldValue
    have hat1 := hR.at1 hlt hHt t1
    obtain ⟨ko, kc, hke⟩ := ho.shape
    have hsl := ho.slab_eq
    by_cases he : (tell bs).err = 0
    · obtain ⟨z1, z2, z3, z4⟩ := tell_ok he
      have hfr := frs_yes he
      rw [he]
      have hgoes := hR.goes
      rw [hfr, HSt.takes] at hgoes
      have hnb : 0 < (tell bs).body.length → ∀ j, slab vb = some j → ¬ grow H w wr j ∧ j < w1.heap.size := fun h0 j hj => by
        have h1 := hnew j (hsl ▸ hj)
        refine ⟨fun hg => ?_, slab_lt ho.sees h0 hj⟩
        have := hR.at'.lt j hg
        omega
      cases htk : h.take file (tell bs).kind (tell bs).body with
      | none =>
        rw [htk] at hgoes
        simp only at hgoes
        have HT := hide (take_none hat1 htk ho.sees)
        have hfin := hide (hR.turn.trans' t1 (fun j _ e => Or.inr e))
        subst hke hgoes
        generalize (tell bs).body.length = nb at *
        generalize (tell bs).kind = k at *
        generalize (tell bs).size = sz at *
        clear hat1 hR ho t1 hF1 hnb hfr htk hnew
        go_wp2_with fail
        refine (unhide HT).mono ?_
        rintro e w2 ⟨rfl, rfl⟩
        go_wp2
        go_ret
        exact ⟨rfl, unhide hfin⟩
      | some h2 =>
        rw [htk] at hgoes
        simp only at hgoes
        have hbd := take_bound htk
        have hfit := hR.fit
        have HT := hide (take_some hat1 htk ho.sees hnb (by omega))
        obtain ⟨a, hae⟩ : ∃ a, bo = some a := by
          rcases hR.sees with ⟨_, e⟩ | ⟨a, cap, e, _⟩
          · have h0 : bs.length = 0 := by rw [e]; rfl
            omega
          · injection e with e1
            exact ⟨a, e1⟩
        subst hae
        have hcap : bs.length ≤ bc ∧ bc ≤ maxLen := by
          rcases hR.sees with ⟨e, _⟩ | ⟨a, cap, e, h1, h2, _⟩
          · simp at e
          · injection e with e1 e2 e3
            subst e3
            exact ⟨h1, h2⟩
        obtain ⟨hcap, hcm⟩ := hcap
        unfold maxLen at hcm
        obtain ⟨sz, hsze⟩ : ∃ sz : Nat, (tell bs).size = (sz : Int) := ⟨_, (Int.toNat_of_nonneg z3).symm⟩
        have hszn : (tell bs).size.toNat = sz := by omega
        rw [hszn] at z1 z2 hgoes
        have hdl : (bs.drop sz).length = bs.length - sz := List.length_drop
        have HStep := hide (fun (a2 : Addr) (ha : a2 = a.add sz ∨ (sz = bc ∧ a2 = a)) (w2 : World) (ht : HTo w1 hb (grow H w wr) vb h2 w2) => hR.takes (b2 := .slice (some a2) (bs.length - sz) (bc - sz)) (bs2 := bs.drop sz) hlt hlf hHf hHt hF1 t1 hnew hsl ht (hR.sees.behind sz z2 a2 (ha.imp id (fun h => h.1)))
          (fun j hj => by
            simp only [slab, Option.some.injEq] at hj ⊢
            rcases ha with ha | ha
            · rw [← hj, ha, addr_add_block]
            · rw [← hj, ha.2])
          (fun h0 => by omega) hgoes (by omega))
        rw [hsze]
        subst hke
        generalize (tell bs).body.length = nb at *
        generalize (tell bs).kind = k at *
        generalize hle : bs.length = len at *
        have HL := hide hle
        clear hle
        have q1 : (sz : Int) ≤ len := by omega
        have q2 : (len : Int) ≤ bc := by omega
        have q3 : sz ≤ bc := by omega
        clear hat1 hR ho t1 hF1 hnb hfr htk hnew hgoes hfit hbd hszn hsze hdl he z3
        go_wp2_with fail
        refine (unhide HT).mono ?_
        rintro e w2 ⟨rfl, hto⟩
        clear HT
        by_cases hc : bc = sz
        · subst hc
          have hst := unhide HStep a (.inr ⟨rfl, rfl⟩) w2 hto
          rw [Nat.sub_self, show len - bc = 0 by omega] at hst
          have Hst := hide hst
          clear hst hto HStep
          go_wp2
          go_roundw
          case rel => exact ⟨_, _, unhide Hst⟩
          case measure => have := unhide HL; simp [slen]; omega
        · have hst := unhide HStep (a.add sz) (.inl rfl) w2 hto
          have Hst := hide hst
          clear hst hto HStep
          go_wp2
          go_roundw
          case rel => exact ⟨_, _, unhide Hst⟩
          case measure => have := unhide HL; simp [slen]; omega
    · have hfr := frs_no he
      have hgoes := hR.goes
      rw [hfr, HSt.takes] at hgoes
      subst hgoes
      have q0 : ((tell bs).err != 0) = true := by simpa using he
      have hfin : ReadTo w hb H f t (some h) (.returned (.bool true)) w1 := by
        refine ⟨rfl, hat1.mono (fun j hj => ?_) (fun j hj => ?_), hF1, hR.turn.trans' t1 (fun j _ e => Or.inr e)⟩
        · rcases hj with hj | hj
          · exact .inl hj
          · have := t1.size
            exact .inr ⟨hj.1, by omega⟩
        · rcases hj with hj | hj
          · exact hat1.lt j (.inl hj)
          · exact hj.2
      have Hfin := hide hfin
      subst hke
      generalize (tell bs).body.length = nb at *
      generalize (tell bs).kind = k at *
      generalize (tell bs).size = sz at *
      generalize (tell bs).err = er at *
      clear hfin hat1 hR ho t1 hF1 hfr hnew he
      go_wp2
      go_ret
      exact unhide Hfin

end Go.Proofs.YtnipdgigjcaolaaGreat
