/- Package event's own told. -/
import Derived.Test.YthclffafbkeepaaEvO
namespace Go.Proofs.Ythclffafbkeepaa
open Go.RowKit

theorem Try.infoDefE : (Try.prog.info? 45).map (fun i => (i.zero, i.size, i.bytes)) = some (some (.agg #[.slice none 0 0, .int .i64 0, .int .i64 0]), 3, 40) := by kernel_rfl

theorem IntsQ.andLt {Q : Nat → Prop} {w : World} {v : Value} {xs : List Int} (h : IntsQ Q w v xs) : IntsQ (fun j => Q j ∧ j < w.heap.size) w v xs := by
  rcases h with h | ⟨a, cap, rfl, hm, hc⟩
  · exact .inl h
  · refine .inr ⟨a, cap, rfl, hm, fun k hk => ⟨⟨(hc k hk).1, ?_⟩, (hc k hk).2⟩⟩
    have := World.block_lt_of_cell? _ _ (hc k hk).2
    rwa [addr_add_block] at this

/-- A node's cells. -/
def row3 (p : Value × Df) : List Value := [p.1, .int .i64 p.2.2.1, .int .i64 p.2.2.2]

theorem row3_all (l : List (Value × Df)) : ∀ r ∈ l.map row3, r.length = 3 := fun r hr => by
  obtain ⟨p, _, rfl⟩ := List.mem_map.1 hr
  rfl

/-- Nodes of the calls' own. -/
structure DOwn (Q : Nat → Prop) (w : World) (fv : Value) (l : List (Value × Df)) : Prop where
  own : RowOwns 45 3 w fv (l.map row3)
  ints : ∀ p ∈ l, IntsQ (fun j => Q j ∧ fv.ownBlock ≠ some j) w p.1 p.2.1

theorem DOwn.nil (Q : Nat → Prop) (w : World) : DOwn Q w (.slice none 0 0) [] := ⟨RowOwns.nil _ _ _, by simp⟩

theorem DOwn.defs {Q Q' : Nat → Prop} {w : World} {fv : Value} {l : List (Value × Df)} (h : DOwn Q w fv l) (hq : ∀ j, Q j → Q' j) (hf : ∀ j, fv.ownBlock = some j → Q' j) : DefsQ Q' w fv (l.map (·.2)) := by
  rcases h.own.cells with ⟨rfl, hn⟩ | ⟨g, cap, rfl, hc, hm, hg, hcell⟩
  · have := congrArg List.length hn
    rw [List.length_map] at this
    have : l = [] := List.eq_nil_of_length_eq_zero this
    subst this
    exact .inl ⟨rfl, rfl⟩
  · rw [List.length_map] at hc ⊢
    refine .inr ⟨g, 0, cap, by simp, by simp; omega, fun k hk => ⟨hf g hg, l[k]'(by simpa using hk) |>.1, ?_, ?_, ?_, ?_⟩⟩
    · have hk' : k < l.length := by simpa using hk
      exact hcell k (by simpa using hk') 0 _ (by simp [row3])
    · have hk' : k < l.length := by simpa using hk
      exact hcell k (by simpa using hk') 1 _ (by simp [row3])
    · have hk' : k < l.length := by simpa using hk
      exact hcell k (by simpa using hk') 2 _ (by simp [row3])
    · have hk' : k < l.length := by simpa using hk
      have := h.ints _ (List.getElem_mem hk')
      simpa using this.mono (fun j hj => hq j hj.1)

/-- What told's loop holds of an event, its nodes so far. -/
structure TlI (wa : World) (b c : Nat) (v : Value) (e0 : EvP) (dv : Value) (l : List (Value × Df)) (s1 : St) (fv v1 : Value) (wr : World) : Prop where
  rd : RStep 71 b wa v wr v1 s1.bs s1.lack
  at' : At 25 wr c (evC e0 dv fv)
  defs : DOwn (fun j => wa.heap.size ≤ j ∧ j ≠ c) wr fv l
  new : ∀ j, fv.ownBlock = some j → wa.heap.size ≤ j ∧ j ≠ c
  data : Sees wr dv e0.data
  dnew : ∀ j, slab dv = some j → (wa.heap.size ≤ j ∧ j < wr.heap.size) ∧ j ≠ c ∧ fv.ownBlock ≠ some j

/-- One round of it. -/
theorem tl_step {wa wr w5 : World} {b c n : Nat} {v u1 u5 : Value} {e0 : EvP} {dv : Value} {l : List (Value × Df)} {s1 s5 : St} {fo : Option Addr} {fc : Nat} (hbw : b < wa.heap.size ∧ (b ≠ c ∧ ∀ k, slab v = some k → k < wa.heap.size) ∧ wa.heap.size ≤ c)
    (h : TlI wa b c v e0 dv l s1 (.slice fo n fc) u1 wr) (hn : n < 256) (hl : l.length = n)
    (hs5 : RStep 71 b wr.drew u1 w5 u5 s5.bs s5.lack) (d : Df) (nv : Value) (hd : IntsQ (fun j => wr.drew.heap.size ≤ j) w5 nv d.1) :
    ∃ v6 w6 fo6 fc6, (Builtin.append_ #[23, 23] 23 #[.slice fo n fc, .slice (some ⟨w5.heap.size, 0, none⟩) 1 1]).run Try.prog (w5.alloc (.cells #[nv, .int .i64 d.2.1, .int .i64 d.2.2] 45)) = .ok v6 w6 ∧ v6 = .slice fo6 (n + 1) fc6 ∧
      w5.cell? ⟨c, 8, none⟩ = some (.slice fo n fc) ∧ w6.cell? ⟨c, 8, none⟩ = some (.slice fo n fc) ∧ w6.frozen? ⟨c, 8, none⟩ = false ∧
      (∀ w7, w7 = w6.setCell ⟨c, 8, none⟩ v6 → TlI wa b c v e0 dv (l ++ [(nv, d)]) s5 v6 u5 w7) := by
  obtain ⟨i, hi, hz, hsz, hby⟩ := info_parts Try.infoDefE
  have t5 : Turn (fun k => k = b) wr w5 := ((Turn.refl _ wr).drew).trans hs5.turn
  have hsz5 := t5.size
  have hAt5 := h.at'.kept t5 (fun e => hbw.2.1.1 e.symm)
  have hnb : ∀ j, (Value.slice fo n fc).ownBlock = some j → j ≠ b := fun j hj => by have := (h.new j hj).1; have := hbw.1; omega
  have hown5 := h.defs.own.kept t5 (fun j hj (e : j = b) => hnb j hj e)
  have hlen : (l.map row3).length = n := by rw [List.length_map, hl]
  have hd2 := hd.andLt
  obtain ⟨no, nc, hnv, -⟩ := hd.shape
  obtain ⟨v6, w6, r6, ho6, t6, hm6⟩ := hown5.cat Try.underlying23 hi hz hsz hby rfl (by omega) (row3 (nv, d)) rfl (fun u hu => by
    simp only [row3, List.mem_cons, List.not_mem_nil, or_false] at hu
    rcases hu with rfl | rfl | rfl
    · rw [hnv]; rfl
    · rfl
    · rfl) (by omega) (by omega)
  have hAt6 := hAt5.kept t6 (fun e => (h.new c e).2 rfl)
  obtain ⟨fo6, fc6, e6⟩ : ∃ fo6 fc6, v6 = .slice fo6 (n + 1) fc6 := by
    obtain ⟨a, b, e⟩ := ho6.shape
    rw [List.length_append, hlen] at e
    exact ⟨a, b, e⟩
  have hcl5 := hAt5.lt
  have hn6 : ∀ j, v6.ownBlock = some j → wa.heap.size ≤ j ∧ j ≠ c := fun j hj => by
    rcases hm6 with e | e
    · exact h.new j (e ▸ hj)
    · have h1 := e j hj
      have h3 := h.rd.turn.size
      exact ⟨by omega, by omega⟩
  refine ⟨v6, w6, fo6, fc6, r6, e6, hAt5.cell 8, hAt6.cell 8, hAt6.frozen 8, fun w7 e7 => ?_⟩
  have t7 : Turn (fun k => k = c) w6 w7 := by rw [e7]; exact (Turn.refl (fun k => k = c) w6).setCell (p := ⟨c, 8, none⟩) (.inl rfl) _
  have hv : ∀ k, slab v = some k → k < wa.heap.size := hbw.2.1.2
  have h1 : RStep 71 b wa v w5 u5 s5.bs s5.lack := (h.rd.grown ((Turn.refl _ wr).drew)).trans hs5
  have h2 := rstep_other h1 t6 (fun k hk => (h.new k hk).1) hbw.1 hv
  have hsz0 := h.rd.turn.size
  refine ⟨rstep_other h2 t7 (fun k (hk : k = c) => by have := hbw.2.2; omega) hbw.1 hv, by rw [e7]; exact hAt6.set 8 v6, ⟨?_, fun p hp => ?_⟩, hn6, ?_, fun j hj => ?_⟩
  · rw [List.map_append]
    exact ho6.kept t7 (fun j hj (e : j = c) => (hn6 j hj).2 e)
  · rcases List.mem_append.1 hp with hp | hp
    · have h3 := ((h.defs.ints p hp).andLt.kept t5 (fun j hj (e : j = b) => by have := hj.1.1.1; have := hbw.1; omega)).kept t6 (fun j hj e => hj.1.2 e)
      have h4 := h3.kept t7 (fun j hj (e : j = c) => hj.1.1.2 e)
      refine h4.mono (fun j hj => ⟨hj.1.1, fun e => ?_⟩)
      rcases hm6 with e' | e'
      · exact hj.1.2 (e' ▸ e)
      · have := e' j e
        have := hj.2
        omega
    · rw [List.mem_singleton.1 hp]
      have hcr := h.at'.lt
      have hq : ∀ j, ((fun j => wr.drew.heap.size ≤ j) j ∧ j < w5.heap.size) → (Value.slice fo n fc).ownBlock ≠ some j ∧ j ≠ c ∧ wa.heap.size ≤ j ∧ j < w5.heap.size := fun j hj => by
        have h0 : wr.heap.size ≤ j := hj.1
        exact ⟨fun e => by have := h.defs.own.lt e; omega, by omega, by omega, hj.2⟩
      have h3 := (hd2.mono hq).kept t6 (fun j hj e => hj.1 e)
      have h4 := h3.kept t7 (fun j hj (e : j = c) => hj.2.1 e)
      refine h4.mono (fun j hj => ⟨⟨hj.2.2.1, hj.2.1⟩, fun e => ?_⟩)
      rcases hm6 with e' | e'
      · exact hj.1 (e' ▸ e)
      · have := e' j e
        have := hj.2.2.2
        omega
  · exact ((h.data.kept t5 (fun j hj (e : j = b) => by have := (h.dnew j hj).1.1; have := hbw.1; omega)).kept t6 (fun j hj e => (h.dnew j hj).2.2 e)).kept t7 (fun j hj (e : j = c) => (h.dnew j hj).2.1 e)
  · obtain ⟨⟨g1, g2⟩, g3, g4⟩ := h.dnew j hj
    have := t6.size
    have := t7.size
    refine ⟨⟨g1, by omega⟩, g3, fun e => ?_⟩
    rcases hm6 with e' | e'
    · exact g4 (e' ▸ e)
    · have := e' j e
      omega

end Go.Proofs.Ythclffafbkeepaa
