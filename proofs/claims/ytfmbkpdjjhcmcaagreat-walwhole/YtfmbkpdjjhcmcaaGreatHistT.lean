/- A history in memory takes a frame. -/
import Derived.Test.YtfmbkpdjjhcmcaaGreatHist
namespace Go.Proofs.YtfmbkpdjjhcmcaaGreat
open Go.RowKit

section
variable {w : World} {hb : Nat} {H : Nat → Prop} {h : HSt}

theorem HTo.of {w' : World} {s : HSt} {v : Value} (hh : HAt w' hb (fun j => H j ∨ (w.heap.size ≤ j ∧ j < w'.heap.size)) s) (hl : ∀ j, H j → j < w.heap.size) (t : Turn H w w') : HTo w hb H v s w' :=
  ⟨hh.mono (fun j hj => hj.imp id .inr) (fun j hj => by
    have := t.size
    rcases hj with hj | hj | hj
    · have := hl j hj; omega
    · omega
    · exact hj.2), t⟩

/-- What was begun counts: it stands behind the records. -/
theorem HIs.counts {rv bv v2 : Value} {rl bl : List (Value × List UInt8)} {w2 : World} (hh : HIs w hb H h rv bv rl bl) (ho : OwnsC 31 w2 v2 (rl.map (·.1) ++ bl.map (·.1))) (hg : w.drew.grownBy w2 rv.ownBlock) (hk : v2.ownBlock = rv.ownBlock ∨ v2.ownBlock = some w.drew.heap.size) (v : Value) :
    HTo w hb H v h.commits ((w2.setCell ⟨hb, 0, none⟩ v2).setCell ⟨hb, 2, none⟩ (.slice none 0 0)) := by
  have hbl := hh.lt _ hh.hb
  have hsz : w.drew.heap.size = w.heap.size := rfl
  have t2 : Turn (fun j => rv.ownBlock = some j) w w2 := ((Turn.refl _ w).drew).grown hg (fun j hj => .inl hj)
  have hA : At 62 w2 hb #[rv, .int .i64 h.since, bv, .int .i64 h.kind] := hh.at'.kept t2 (fun e => (hh.inr _ e).2 rfl)
  have hA2 : At 62 ((w2.setCell ⟨hb, 0, none⟩ v2).setCell ⟨hb, 2, none⟩ (.slice none 0 0)) hb #[v2, .int .i64 h.since, .slice none 0 0, .int .i64 h.kind] := by
    have := (hA.set 0 v2).set 2 (.slice none 0 0)
    simpa using this
  have ts : Turn (fun j => j = hb) w2 ((w2.setCell ⟨hb, 0, none⟩ v2).setCell ⟨hb, 2, none⟩ (.slice none 0 0)) := ((Turn.refl (fun j => j = hb) w2).setCell (p := ⟨hb, 0, none⟩) (.inl rfl) _).setCell (p := ⟨hb, 2, none⟩) (.inl rfl) _
  have hv2 : ∀ j, v2.ownBlock = some j → (rv.ownBlock = some j ∨ (w.heap.size ≤ j ∧ j < w2.heap.size)) := by
    intro j hj
    rcases hk with e | e
    · exact .inl (e ▸ hj)
    · exact .inr ⟨by rw [e] at hj; injection hj with hj; omega, ho.lt hj⟩
  have hv2n : ∀ j, v2.ownBlock = some j → j ≠ hb := by
    intro j hj
    rcases hv2 j hj with e | e
    · exact (hh.inr j e).2
    · omega
  have tall : Turn H w ((w2.setCell ⟨hb, 0, none⟩ v2).setCell ⟨hb, 2, none⟩ (.slice none 0 0)) := (t2.mono (fun j _ e => (hh.inr j e).1)).trans' ts (fun j _ e => e ▸ hh.hb)
  refine HTo.of ⟨v2, .slice none 0 0, rl ++ bl, [], hA2, ?_, OwnsC.nil _ _, ?_, rfl, ?_, fun j hj => by simp [Value.ownBlock] at hj, ?_, .inl hh.hb, ?_⟩ hh.lt tall
  · rw [List.map_append]
    exact ho.kept ts (fun j hj e => hv2n j hj e)
  · rw [List.map_append, hh.recs, hh.begun]
    rfl
  · intro j hj
    refine ⟨?_, hv2n j hj⟩
    rcases hv2 j hj with e | e
    · exact .inl (hh.inr j e).1
    · exact .inr ⟨e.1, Nat.lt_of_lt_of_le e.2 ts.size⟩
  · intro p hp
    have hp' : p ∈ rl ∨ p ∈ bl := by
      rcases hp with hp | hp
      · exact List.mem_append.1 hp
      · simp at hp
    obtain ⟨h1, h2⟩ := hh.each p hp'
    refine ⟨(h1.kept' t2 (fun h0 j hj e => (h2 h0 j hj).2.2.1 e)).kept' ts (fun h0 j hj e => (h2 h0 j hj).2.1 e), fun h0 j hj => ?_⟩
    obtain ⟨a1, a2, a3, a4⟩ := h2 h0 j hj
    refine ⟨.inl a1, a2, fun e => ?_, by simp [Value.ownBlock]⟩
    rcases hv2 j e with e | e
    · exact a3 e
    · have := hh.lt j a1
      omega
  · intro j hj
    have := tall.size
    rcases hj with hj | hj
    · have := hh.lt j hj
      omega
    · exact hj.2

/-- What was begun counts in the place of the records. -/
theorem HIs.anew {rv bv : Value} {rl bl : List (Value × List UInt8)} {file : Int} (hh : HIs w hb H h rv bv rl bl) (v : Value) :
    HTo w hb H v (h.anew file) (((w.setCell ⟨hb, 0, none⟩ bv).setCell ⟨hb, 1, none⟩ (.int .i64 file)).setCell ⟨hb, 2, none⟩ (.slice none 0 0)) := by
  have hA2 : At 62 (((w.setCell ⟨hb, 0, none⟩ bv).setCell ⟨hb, 1, none⟩ (.int .i64 file)).setCell ⟨hb, 2, none⟩ (.slice none 0 0)) hb #[bv, .int .i64 file, .slice none 0 0, .int .i64 h.kind] := by
    have := ((hh.at'.set 0 bv).set 1 (.int .i64 file)).set 2 (.slice none 0 0)
    simpa using this
  have ts : Turn (fun j => j = hb) w (((w.setCell ⟨hb, 0, none⟩ bv).setCell ⟨hb, 1, none⟩ (.int .i64 file)).setCell ⟨hb, 2, none⟩ (.slice none 0 0)) := (((Turn.refl (fun j => j = hb) w).setCell (p := ⟨hb, 0, none⟩) (.inl rfl) _).setCell (p := ⟨hb, 1, none⟩) (.inl rfl) _).setCell (p := ⟨hb, 2, none⟩) (.inl rfl) _
  refine HTo.of ⟨bv, .slice none 0 0, bl, [], hA2, hh.b.kept ts (fun j hj e => (hh.inb j hj).2.1 e), OwnsC.nil _ _, hh.begun, rfl, fun j hj => ⟨.inl (hh.inb j hj).1, (hh.inb j hj).2.1⟩, fun j hj => by simp [Value.ownBlock] at hj, ?_, .inl hh.hb, ?_⟩ hh.lt (ts.mono (fun j _ e => e ▸ hh.hb))
  · intro p hp
    have hp' : p ∈ bl := by simpa using hp
    obtain ⟨h1, h2⟩ := hh.each p (.inr hp')
    refine ⟨h1.kept' ts (fun h0 j hj e => (h2 h0 j hj).2.1 e), fun h0 j hj => ?_⟩
    obtain ⟨a1, a2, a3, a4⟩ := h2 h0 j hj
    exact ⟨.inl a1, a2, a4, by simp [Value.ownBlock]⟩
  · intro j hj
    have := ts.size
    rcases hj with hj | hj
    · have := hh.lt j hj
      omega
    · exact hj.2

theorem HTo.refl (hh : HAt w hb H h) (v : Value) : HTo w hb H v h w := HTo.of (hh.mono (fun _ hj => .inl hj) (fun j hj => hj.elim (hh.lt j) (fun h => h.2))) hh.lt (Turn.refl _ _)

set_option maxHeartbeats 1000000 in
set_option maxRecDepth 100000 in
theorem take_rec_yes (file k : Int) (v : Value) (bs : List UInt8) (hk : k = 1 ∨ k = 3) (hh : HAt w hb H h) (hf : h.fits k) (hs : Sees w v bs) (hn : 0 < bs.length → ∀ j, slab v = some j → ¬ H j ∧ j < w.heap.size) (hlen : h.begun.length + 1 ≤ 1099511627776) :
    Calls Tryz.prog 56 #[.pointer (some ⟨hb, 0, none⟩), .int .i64 file, .int .i64 k, v] w fun e w' => e = .returned (.bool true) ∧ HTo w hb H v (h.begin' k bs) w' := by
  have HB := hide (begin_yes k v bs hh hf hs hn hlen)
  obtain ⟨vo, vc, rfl⟩ := hs.shape
  clear hh hf hs hn
  rcases hk with rfl | rfl
  all_goals (
    go_enter Tryz.func56, Tryz.ntmps56
    go_wp2_with fail
    refine (unhide HB).mono ?_
    rintro e w1 ⟨rfl, h1⟩
    go_wp2
    go_ret
    exact ⟨rfl, h1⟩)

set_option maxHeartbeats 1000000 in
set_option maxRecDepth 100000 in
theorem take_rec_no (file k : Int) (ao : Option Addr) (n c : Nat) (hk : k = 1 ∨ k = 3) (hh : HAt w hb H h) (hf : ¬ h.fits k) :
    Calls Tryz.prog 56 #[.pointer (some ⟨hb, 0, none⟩), .int .i64 file, .int .i64 k, .slice ao n c] w fun e w' => e = .returned (.bool false) ∧ w = w' := by
  have HB := hide (begin_no k ao n c hh hf)
  clear hh hf
  rcases hk with rfl | rfl
  all_goals (
    go_enter Tryz.func56, Tryz.ntmps56
    go_wp2_with fail
    refine (unhide HB).mono ?_
    rintro e w1 ⟨rfl, rfl⟩
    go_wp2
    go_ret
    exact ⟨rfl, rfl⟩)

set_option maxHeartbeats 1000000 in
set_option maxRecDepth 100000 in
theorem take_other (file k : Int) (ao : Option Addr) (n c : Nat) (h1 : k ≠ 1) (h2 : k ≠ 2) (h3 : k ≠ 3) (h4 : k ≠ 4) :
    Calls Tryz.prog 56 #[.pointer (some ⟨hb, 0, none⟩), .int .i64 file, .int .i64 k, .slice ao n c] w fun e w' => e = .returned (.bool false) ∧ w = w' := by
  have q1 : (k == 1) = false := by simpa using h1
  have q2 : (k == 2) = false := by simpa using h2
  have q3 : (k == 3) = false := by simpa using h3
  have q4 : (k == 4) = false := by simpa using h4
  go_enter Tryz.func56, Tryz.ntmps56
  go_wp2
  go_ret
  exact ⟨rfl, rfl⟩

set_option maxHeartbeats 1000000 in
set_option maxRecDepth 100000 in
theorem take_commit_no (file : Int) (ao : Option Addr) (n c : Nat) (hh : HAt w hb H h) (hf : 0 < n ∨ h.begun = [] ∨ ¬ h.fits 1) :
    Calls Tryz.prog 56 #[.pointer (some ⟨hb, 0, none⟩), .int .i64 file, .int .i64 2, .slice ao n c] w fun e w' => e = .returned (.bool false) ∧ w = w' := by
  by_cases hn : 0 < n
  · have q1 : (0 : Int) < n := by omega
    clear hh hf
    go_enter Tryz.func56, Tryz.ntmps56
    go_wp2
    go_ret
    exact ⟨rfl, rfl⟩
  obtain rfl : n = 0 := by omega
  have HN := fun hx => hide (fits_no (w := w) (hb := hb) (H := H) (h := h) 1 hh hx)
  obtain ⟨rv, bv, rl, bl, hi⟩ := hh
  obtain ⟨bo, cap, hv⟩ := hi.b.shape'
  have c2 : w.cell? ⟨hb, 2, none⟩ = some bv := hi.at'.cell 2
  rw [hv, List.length_map, hi.lenb] at c2
  clear hi hv
  by_cases h0 : h.begun = []
  · rw [h0] at c2
    simp only [List.length_nil] at c2
    clear hf HN
    go_enter Tryz.func56, Tryz.ntmps56
    go_wp2
    go_ret
    exact ⟨rfl, rfl⟩
  · have hx : ¬ h.fits 1 := by
      rcases hf with hf | hf | hf
      · omega
      · exact absurd hf h0
      · exact hf
    have HF := HN hx
    have q0 : ((h.begun.length : Int) == 0) = false := by simp; exact h0
    generalize h.begun.length = n at *
    clear hf hx HN h0
    go_enter Tryz.func56, Tryz.ntmps56
    go_wp2_with fail
    refine (unhide HF).mono ?_
    rintro e w1 ⟨rfl, rfl⟩
    go_wp2
    go_ret
    exact ⟨rfl, rfl⟩

set_option maxHeartbeats 1000000 in
set_option maxRecDepth 100000 in
theorem take_check_no (file : Int) (ao : Option Addr) (n c : Nat) (hh : HAt w hb H h) (hf : 0 < n ∨ ¬ h.fits 3) :
    Calls Tryz.prog 56 #[.pointer (some ⟨hb, 0, none⟩), .int .i64 file, .int .i64 4, .slice ao n c] w fun e w' => e = .returned (.bool false) ∧ w = w' := by
  by_cases hn : 0 < n
  · have q1 : (0 : Int) < n := by omega
    clear hh hf
    go_enter Tryz.func56, Tryz.ntmps56
    go_wp2
    go_ret
    exact ⟨rfl, rfl⟩
  obtain rfl : n = 0 := by omega
  have HF := hide (fits_no (w := w) (hb := hb) (H := H) (h := h) 3 hh (hf.resolve_left hn))
  clear hh hf
  go_enter Tryz.func56, Tryz.ntmps56
  go_wp2_with fail
  refine (unhide HF).mono ?_
  rintro e w1 ⟨rfl, rfl⟩
  go_wp2
  go_ret
  exact ⟨rfl, rfl⟩

set_option maxHeartbeats 1000000 in
set_option maxRecDepth 100000 in
theorem take_check_yes (file : Int) (ao : Option Addr) (c : Nat) (hh : HAt w hb H h) (hf : h.fits 3) :
    Calls Tryz.prog 56 #[.pointer (some ⟨hb, 0, none⟩), .int .i64 file, .int .i64 4, .slice ao 0 c] w fun e w' => e = .returned (.bool true) ∧ HTo w hb H (.slice ao 0 c) (h.anew file) w' := by
  have HF := hide (fits_yes (w := w) (hb := hb) (H := H) (h := h) 3 hh hf)
  obtain ⟨rv, bv, rl, bl, hi⟩ := hh
  have HT := hide (hi.anew (file := file) (.slice ao 0 c))
  obtain ⟨bo, cap, hv⟩ := hi.b.shape'
  have c0 : w.cell? ⟨hb, 0, none⟩ = some rv := hi.at'.cell 0
  have c1 : w.cell? ⟨hb, 1, none⟩ = some (.int .i64 h.since) := hi.at'.cell 1
  have c2 : w.cell? ⟨hb, 2, none⟩ = some bv := hi.at'.cell 2
  have f0 : w.frozen? ⟨hb, 0, none⟩ = false := hi.at'.frozen 0
  have f1 : w.frozen? ⟨hb, 1, none⟩ = false := hi.at'.frozen 1
  have f2 : w.frozen? ⟨hb, 2, none⟩ = false := hi.at'.frozen 2
  obtain ⟨ro, rc, hrv⟩ := hi.r.shape'
  generalize (bl.map (·.1)).length = n at *
  generalize (rl.map (·.1)).length = n' at *
  subst hv hrv
  clear hi hf
  go_enter Tryz.func56, Tryz.ntmps56
  go_wp2_with fail
  refine (unhide HF).mono ?_
  rintro e w1 ⟨rfl, rfl⟩
  clear HF
  go_wp2
  go_ret
  exact ⟨rfl, unhide HT⟩

set_option maxHeartbeats 1000000 in
set_option maxRecDepth 100000 in
theorem take_commit_yes (file : Int) (ao : Option Addr) (c : Nat) (hh : HAt w hb H h) (hf : h.fits 1) (h0 : h.begun ≠ []) (hlen : h.recs.length + h.begun.length ≤ 1099511627776) :
    Calls Tryz.prog 56 #[.pointer (some ⟨hb, 0, none⟩), .int .i64 file, .int .i64 2, .slice ao 0 c] w fun e w' => e = .returned (.bool true) ∧ HTo w hb H (.slice ao 0 c) h.commits w' := by
  have HF := hide (fits_yes (w := w) (hb := hb) (H := H) (h := h) 1 hh hf)
  obtain ⟨rv, bv, rl, bl, hi⟩ := hh
  have hone : ∀ u ∈ bl.map (·.1), u.oneCell' = true := by
    intro u hu
    obtain ⟨p, hp, rfl⟩ := List.mem_map.1 hu
    obtain ⟨_, _, e⟩ := (hi.each p (.inr hp)).1.shape
    rw [e]
    rfl
  obtain ⟨v2, w2, hr, ho, hg, hk⟩ := append_lists w.drew rv (rl.map (·.1)) hi.r.drew bv (bl.map (·.1)) hi.b.drew.sees hone (by rw [List.length_map, List.length_map, hi.lenb, hi.lenr]; exact hlen)
  have HT := hide (hi.counts ho hg hk (.slice ao 0 c))
  have hA2 : At 62 w2 hb #[rv, .int .i64 h.since, bv, .int .i64 h.kind] := hi.at'.kept (((Turn.refl (fun j => rv.ownBlock = some j) w).drew).grown hg (fun j hj => .inl hj)) (fun e => (hi.inr _ e).2 rfl)
  obtain ⟨bo, cap, hv⟩ := hi.b.shape'
  obtain ⟨ro, rc, hrv⟩ := hi.r.shape'
  obtain ⟨o2, cp2, hv2⟩ := ho.shape'
  have c0 : w.cell? ⟨hb, 0, none⟩ = some rv := hi.at'.cell 0
  have c2 : w.cell? ⟨hb, 2, none⟩ = some bv := hi.at'.cell 2
  have d0 : w2.cell? ⟨hb, 0, none⟩ = some rv := hA2.cell 0
  have d2 : w2.cell? ⟨hb, 2, none⟩ = some bv := hA2.cell 2
  have f0 : w2.frozen? ⟨hb, 0, none⟩ = false := hA2.frozen 0
  have f2 : w2.frozen? ⟨hb, 2, none⟩ = false := hA2.frozen 2
  rw [List.length_map] at hv
  have q0 : ((bl.length : Int) == 0) = false := by
    have := hi.lenb
    simp
    intro e
    rw [e] at this
    exact h0 (List.eq_nil_of_length_eq_zero this.symm)
  generalize bl.length = n at *
  generalize (rl.map (·.1)).length = n' at *
  generalize (rl.map (·.1) ++ bl.map (·.1)).length = n2 at *
  have Hr := hide hr
  subst hv hrv hv2
  clear hr ho hg hk hA2 hi hf hone h0 hlen
  go_enter Tryz.func56, Tryz.ntmps56
  go_wp2_with fail
  refine (unhide HF).mono ?_
  rintro e w1 ⟨rfl, rfl⟩
  clear HF
  go_wp2_with fail
  go_region_law (refine step_append_run (by rfl) (.tmp 39) (.tmp 43) 23 (by rfl) _ _ _ w2 (by rfl) (by rfl) (unhide Hr) ?_)
  all_goals (
    go_wp2
    go_ret
    exact ⟨rfl, unhide HT⟩)

end

end Go.Proofs.YtfmbkpdjjhcmcaaGreat
