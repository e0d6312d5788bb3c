/- A history in memory: it begins a record, counts a mark. -/
import Derived.Test.YtfmbkpdjjhcmcaaGreatPkA
import Derived.Test.YtfmbkpdjjhcmcaaGreatR5
namespace Go.Proofs.YtfmbkpdjjhcmcaaGreat
open Go.RowKit

/-- A history in block hb, with its fields and lists; all its memory lies in H. -/
structure HIs (w : World) (hb : Nat) (H : Nat → Prop) (h : HSt) (rv bv : Value) (rl bl : List (Value × List UInt8)) : Prop where
  at' : At 62 w hb #[rv, .int .i64 h.since, bv, .int .i64 h.kind]
  r : OwnsC 31 w rv (rl.map (·.1))
  b : OwnsC 31 w bv (bl.map (·.1))
  recs : rl.map (·.2) = h.recs
  begun : bl.map (·.2) = h.begun
  inr : ∀ j, rv.ownBlock = some j → H j ∧ j ≠ hb
  inb : ∀ j, bv.ownBlock = some j → H j ∧ j ≠ hb ∧ rv.ownBlock ≠ some j
  each : ∀ p, p ∈ rl ∨ p ∈ bl → Sees w p.1 p.2 ∧ (0 < p.2.length → ∀ j, slab p.1 = some j → H j ∧ j ≠ hb ∧ rv.ownBlock ≠ some j ∧ bv.ownBlock ≠ some j)
  hb : H hb
  lt : ∀ j, H j → j < w.heap.size

def HAt (w : World) (hb : Nat) (H : Nat → Prop) (h : HSt) : Prop := ∃ rv bv rl bl, HIs w hb H h rv bv rl bl

section
variable {w w' : World} {hb : Nat} {H H' S : Nat → Prop} {h : HSt} {rv bv : Value} {rl bl : List (Value × List UInt8)}

theorem HIs.kept (hh : HIs w hb H h rv bv rl bl) (t : Turn S w w') (hS : ∀ j, H j → ¬ S j) : HIs w' hb H h rv bv rl bl :=
  ⟨hh.at'.kept t (hS _ hh.hb), hh.r.kept t (fun k hk => hS k (hh.inr k hk).1), hh.b.kept t (fun k hk => hS k (hh.inb k hk).1), hh.recs, hh.begun, hh.inr, hh.inb,
    fun p hp => ⟨(hh.each p hp).1.kept' t (fun h0 j hj => hS j ((hh.each p hp).2 h0 j hj).1), (hh.each p hp).2⟩, hh.hb, fun j hj => Nat.lt_of_lt_of_le (hh.lt j hj) t.size⟩

theorem HIs.mono (hh : HIs w hb H h rv bv rl bl) (hH : ∀ j, H j → H' j) (hl : ∀ j, H' j → j < w.heap.size) : HIs w hb H' h rv bv rl bl :=
  ⟨hh.at', hh.r, hh.b, hh.recs, hh.begun, fun j hj => ⟨hH j (hh.inr j hj).1, (hh.inr j hj).2⟩, fun j hj => ⟨hH j (hh.inb j hj).1, (hh.inb j hj).2⟩,
    fun p hp => ⟨(hh.each p hp).1, fun h0 j hj => ⟨hH j ((hh.each p hp).2 h0 j hj).1, ((hh.each p hp).2 h0 j hj).2⟩⟩, hH _ hh.hb, hl⟩

theorem HAt.kept (hh : HAt w hb H h) (t : Turn S w w') (hS : ∀ j, H j → ¬ S j) : HAt w' hb H h := by
  obtain ⟨rv, bv, rl, bl, hh⟩ := hh
  exact ⟨rv, bv, rl, bl, hh.kept t hS⟩

theorem HAt.mono (hh : HAt w hb H h) (hH : ∀ j, H j → H' j) (hl : ∀ j, H' j → j < w.heap.size) : HAt w hb H' h := by
  obtain ⟨rv, bv, rl, bl, hh⟩ := hh
  exact ⟨rv, bv, rl, bl, hh.mono hH hl⟩

theorem HAt.lt (hh : HAt w hb H h) : ∀ j, H j → j < w.heap.size := by
  obtain ⟨rv, bv, rl, bl, hh⟩ := hh
  exact hh.lt

theorem HIs.lenb (hh : HIs w hb H h rv bv rl bl) : bl.length = h.begun.length := by rw [← hh.begun, List.length_map]
theorem HIs.lenr (hh : HIs w hb H h rv bv rl bl) : rl.length = h.recs.length := by rw [← hh.recs, List.length_map]

theorem OwnsC.shape' {T : TypeId} {w : World} {v : Value} {cs : List Value} (h : OwnsC T w v cs) : ∃ ao cap, v = .slice ao cs.length cap := by
  rcases h.shape with ⟨rfl, h0⟩ | ⟨g, cap, rfl, _⟩
  · exact ⟨none, 0, by rw [h0]; rfl⟩
  · exact ⟨_, _, rfl⟩

set_option maxHeartbeats 400000 in
theorem fits_yes (k : Int) (hh : HAt w hb H h) (hf : h.fits k) : Calls Tryz.prog 74 #[.pointer (some ⟨hb, 0, none⟩), .int .i64 k] w fun e w' => e = .returned (.bool true) ∧ w = w' := by
  obtain ⟨rv, bv, rl, bl, hh⟩ := hh
  obtain ⟨ao, cap, hv⟩ := hh.b.shape'
  have c2 : w.cell? ⟨hb, 2, none⟩ = some bv := hh.at'.cell 2
  have c3 : w.cell? ⟨hb, 3, none⟩ = some (.int .i64 h.kind) := hh.at'.cell 3
  rw [hv, List.length_map, hh.lenb] at c2
  by_cases h0 : h.begun.length = 0
  · rw [h0] at c2
    clear hh hv hf
    go_enter Tryz.func74, Tryz.ntmps74
    go_wp2
    go_ret
    exact ⟨rfl, rfl⟩
  · have hk : h.kind = k := hf.resolve_left (fun e => h0 (by rw [e]; rfl))
    subst hk
    have q0 : ((h.begun.length : Int) == 0) = false := by simp; intro e; exact h0 (by rw [e]; rfl)
    have q1 : (h.kind == h.kind) = true := by simp
    generalize h.begun.length = n at *
    generalize h.kind = k at *
    clear hh hv hf
    go_enter Tryz.func74, Tryz.ntmps74
    go_wp2
    go_ret
    exact ⟨rfl, rfl⟩

set_option maxHeartbeats 400000 in
theorem fits_no (k : Int) (hh : HAt w hb H h) (hf : ¬ h.fits k) : Calls Tryz.prog 74 #[.pointer (some ⟨hb, 0, none⟩), .int .i64 k] w fun e w' => e = .returned (.bool false) ∧ w = w' := by
  obtain ⟨rv, bv, rl, bl, hh⟩ := hh
  obtain ⟨ao, cap, hv⟩ := hh.b.shape'
  have c2 : w.cell? ⟨hb, 2, none⟩ = some bv := hh.at'.cell 2
  have c3 : w.cell? ⟨hb, 3, none⟩ = some (.int .i64 h.kind) := hh.at'.cell 3
  rw [hv, List.length_map, hh.lenb] at c2
  have h0 : ¬ h.begun.length = 0 := fun e => hf (.inl (List.eq_nil_of_length_eq_zero e))
  have hk : ¬ h.kind = k := fun e => hf (.inr e)
  have q0 : ((h.begun.length : Int) == 0) = false := by simp; intro e; exact h0 (by rw [e]; rfl)
  have q1 : (h.kind == k) = false := by simpa using hk
  generalize h.begun.length = n at *
  generalize h.kind = k at *
  clear hh hv hf h0 hk
  go_enter Tryz.func74, Tryz.ntmps74
  go_wp2
  go_ret
  exact ⟨rfl, rfl⟩

end

/-- Behind a call that took a body v: the history alone has turned. -/
def HTo (w : World) (hb : Nat) (H : Nat → Prop) (v : Value) (s : HSt) (w' : World) : Prop :=
  HAt w' hb (fun j => H j ∨ (slab v = some j ∧ j < w.heap.size) ∨ (w.heap.size ≤ j ∧ j < w'.heap.size)) s ∧ Turn H w w'

section
variable {w : World} {hb : Nat} {H : Nat → Prop} {h : HSt}

/-- The history's field begun is stored anew, and its kind. -/
theorem HIs.begins {rv bv v2 v : Value} {rl bl : List (Value × List UInt8)} {bs : List UInt8} {wa w2 : World} {k : Int} (hh : HIs w hb H h rv bv rl bl) (hs : Sees w v bs) (hn : 0 < bs.length → ∀ j, slab v = some j → ¬ H j ∧ j < w.heap.size)
    (ta : Turn (fun _ => False) w wa) (ho : OwnsC 31 w2 v2 (bl.map (·.1) ++ [v])) (hg : wa.grownBy w2 bv.ownBlock) (hk : v2.ownBlock = bv.ownBlock ∨ v2.ownBlock = some wa.heap.size) :
    HTo w hb H v (h.begin' k bs) ((w2.setCell ⟨hb, 2, none⟩ v2).setCell ⟨hb, 3, none⟩ (.int .i64 k)) := by
  have hbl := hh.lt _ hh.hb
  have hsz := ta.size
  have tg : Turn (fun j => bv.ownBlock = some j) wa w2 := (Turn.refl _ _).grown hg (fun j hj => .inl hj)
  have t2 : Turn (fun j => bv.ownBlock = some j) w w2 := (ta.mono (fun _ _ h => h.elim)).trans tg
  have hA : At 62 w2 hb #[rv, .int .i64 h.since, bv, .int .i64 h.kind] := hh.at'.kept t2 (fun e => (hh.inb _ e).2.1 rfl)
  have hA2 : At 62 ((w2.setCell ⟨hb, 2, none⟩ v2).setCell ⟨hb, 3, none⟩ (.int .i64 k)) hb #[rv, .int .i64 h.since, v2, .int .i64 k] := by
    have := (hA.set 2 v2).set 3 (.int .i64 k)
    simpa using this
  have ts : Turn (fun j => j = hb) w2 ((w2.setCell ⟨hb, 2, none⟩ v2).setCell ⟨hb, 3, none⟩ (.int .i64 k)) := ((Turn.refl (fun j => j = hb) w2).setCell (p := ⟨hb, 2, none⟩) (.inl rfl) _).setCell (p := ⟨hb, 3, none⟩) (.inl rfl) _
  have hv2 : ∀ j, v2.ownBlock = some j → (bv.ownBlock = some j ∨ (w.heap.size ≤ j ∧ j < w2.heap.size)) := by
    intro j hj
    rcases hk with e | e
    · exact .inl (e ▸ hj)
    · exact .inr ⟨by rw [e] at hj; injection hj with hj; omega, ho.lt hj⟩
  have hv2n : ∀ j, v2.ownBlock = some j → j ≠ hb ∧ rv.ownBlock ≠ some j := by
    intro j hj
    rcases hv2 j hj with e | e
    · exact (hh.inb j e).2
    · exact ⟨by omega, fun e2 => by have := hh.lt j (hh.inr j e2).1; omega⟩
  have tall : Turn H w ((w2.setCell ⟨hb, 2, none⟩ v2).setCell ⟨hb, 3, none⟩ (.int .i64 k)) := (t2.mono (fun j _ e => (hh.inb j e).1)).trans' ts (fun j _ e => e ▸ hh.hb)
  refine ⟨⟨rv, v2, rl, bl ++ [(v, bs)], hA2, (hh.r.kept t2 (fun j hj e => (hh.inb j e).2.2 hj)).kept ts (fun j hj e => (hh.inr j hj).2 e), ?_, hh.recs, ?_, fun j hj => ⟨.inl (hh.inr j hj).1, (hh.inr j hj).2⟩, ?_, ?_, .inl hh.hb, ?_⟩, tall⟩
  · rw [List.map_append]
    exact ho.kept ts (fun j hj e => (hv2n j hj).1 e)
  · rw [List.map_append, hh.begun]
    rfl
  · intro j hj
    refine ⟨?_, hv2n j hj⟩
    rcases hv2 j hj with e | e
    · exact .inl (hh.inb j e).1
    · exact .inr (.inr ⟨e.1, Nat.lt_of_lt_of_le e.2 ts.size⟩)
  · intro p hp
    have hp' : (p ∈ rl ∨ p ∈ bl) ∨ p = (v, bs) := by
      rcases hp with hp | hp
      · exact .inl (.inl hp)
      · rcases List.mem_append.1 hp with hp | hp
        · exact .inl (.inr hp)
        · exact .inr (by simpa using hp)
    rcases hp' with hp | rfl
    · obtain ⟨h1, h2⟩ := hh.each p hp
      refine ⟨(h1.kept' t2 (fun h0 j hj e => (h2 h0 j hj).2.2.2 e)).kept' ts (fun h0 j hj e => (h2 h0 j hj).2.1 e), fun h0 j hj => ?_⟩
      obtain ⟨a1, a2, a3, a4⟩ := h2 h0 j hj
      refine ⟨.inl a1, a2, a3, fun e => ?_⟩
      rcases hv2 j e with e | e
      · exact a4 e
      · have := hh.lt j a1
        omega
    · refine ⟨(hs.kept' t2 (fun h0 j hj e => (hn h0 j hj).1 (hh.inb j e).1)).kept' ts (fun h0 j hj e => (hn h0 j hj).1 (e ▸ hh.hb)), fun h0 j hj => ?_⟩
      obtain ⟨a1, a2⟩ := hn h0 j hj
      refine ⟨.inr (.inl ⟨hj, a2⟩), fun e => a1 (e ▸ hh.hb), fun e => a1 (hh.inr j e).1, fun e => ?_⟩
      rcases hv2 j e with e | e
      · exact a1 (hh.inb j e).1
      · omega
  · intro j hj
    have := tall.size
    rcases hj with hj | hj | hj
    · have := hh.lt j hj
      omega
    · omega
    · exact hj.2

set_option maxHeartbeats 1000000 in
set_option maxRecDepth 100000 in
theorem begin_yes (k : Int) (v : Value) (bs : List UInt8) (hh : HAt w hb H h) (hf : h.fits k) (hs : Sees w v bs) (hn : 0 < bs.length → ∀ j, slab v = some j → ¬ H j ∧ j < w.heap.size) (hlen : h.begun.length + 1 ≤ 1099511627776) :
    Calls Tryz.prog 73 #[.pointer (some ⟨hb, 0, none⟩), .int .i64 k, v] w fun e w' => e = .returned (.bool true) ∧ HTo w hb H v (h.begin' k bs) w' := by
  have HF := hide (fits_yes k hh hf)
  obtain ⟨rv, bv, rl, bl, hh⟩ := hh
  obtain ⟨vo, vc, hve⟩ := hs.shape
  have ta : Turn (fun _ => False) w (w.alloc (.cells #[v] 31)) := (Turn.refl _ _).alloc _
  have hlit := SeesC.lit w [v] 31 (by simp [maxLen])
  obtain ⟨v2, w2, hr, ho, hg, hk⟩ := append_lists _ bv (bl.map (·.1)) (hh.b.kept ta (fun _ _ h => h)) _ [v] hlit (by intro u hu; simp at hu; rw [hu, hve]; rfl) (by rw [List.length_map, hh.lenb]; simpa using hlen)
  have HFin := hide (hh.begins (k := k) hs hn ta ho hg hk)
  have hA2 : At 62 w2 hb #[rv, .int .i64 h.since, bv, .int .i64 h.kind] := (hh.at'.kept ta (fun h => h)).kept ((Turn.refl (fun j => bv.ownBlock = some j) _).grown hg (fun j hj => .inl hj)) (fun e => (hh.inb _ e).2.1 rfl)
  obtain ⟨ao, cap, hv⟩ := hh.b.shape'
  have c2 : w.cell? ⟨hb, 2, none⟩ = some bv := hh.at'.cell 2
  have f2 : w2.frozen? ⟨hb, 2, none⟩ = false := hA2.frozen 2
  have f3 : w2.frozen? ⟨hb, 3, none⟩ = false := hA2.frozen 3
  have d2 : w2.cell? ⟨hb, 2, none⟩ = some bv := hA2.cell 2
  have d3 : w2.cell? ⟨hb, 3, none⟩ = some (.int .i64 h.kind) := hA2.cell 3
  simp only [List.length_cons, List.length_nil, Nat.zero_add] at hr
  obtain ⟨ao2, cap2, hv2⟩ := ho.shape'
  simp only [List.length_append, List.length_map, List.length_cons, List.length_nil, Nat.zero_add] at hv2
  rw [List.length_map] at hv
  generalize bl.length = n at *
  have Hr := hide hr
  subst hve hv hv2
  clear hr ho hg hk hlit ta hA2 hh hf hs hn
  go_enter Tryz.func73, Tryz.ntmps73
  go_wp2_with fail
  refine (unhide HF).mono ?_
  rintro e w1 ⟨rfl, rfl⟩
  clear HF
  go_wp2_with (at_builtin; refine wpList_append_run rfl (.tmp 16) (.tmp 18) 23 rfl _ _ _ w2 rfl rfl (unhide Hr) ?_)
  go_ret
  exact ⟨rfl, unhide HFin⟩

set_option maxHeartbeats 400000 in
theorem begin_no (k : Int) (ao : Option Addr) (n c : Nat) (hh : HAt w hb H h) (hf : ¬ h.fits k) :
    Calls Tryz.prog 73 #[.pointer (some ⟨hb, 0, none⟩), .int .i64 k, .slice ao n c] w fun e w' => e = .returned (.bool false) ∧ w = w' := by
  have HF := hide (fits_no k hh hf)
  clear hh hf
  go_enter Tryz.func73, Tryz.ntmps73
  go_wp2_with fail
  refine (unhide HF).mono ?_
  rintro e w1 ⟨rfl, rfl⟩
  go_wp2
  go_ret
  exact ⟨rfl, rfl⟩

end

end Go.Proofs.YtfmbkpdjjhcmcaaGreat
