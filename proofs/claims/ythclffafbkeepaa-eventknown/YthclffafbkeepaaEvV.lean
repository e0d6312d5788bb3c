/- Rows stored into; slices.Clone of bytes, numbers, nodes. -/
import Derived.Test.YthclffafbkeepaaEvK
namespace Go.Proofs.Ythclffafbkeepaa
open Go.RowKit

section
variable {T : TypeId} {m : Nat} {w w1 : World} {v : Value} {rows : List (List Value)}

theorem RowOwns.empty (T : TypeId) (m : Nat) (w : World) : RowOwns T m (w.alloc (.cells #[] T)) (.slice (some ⟨w.heap.size, 0, none⟩) 0 0) [] :=
  ⟨by simp, World.ownsRow_made w #[] 0 (Nat.zero_le _) (Nat.zero_le _) (by simp)⟩

theorem flatten_set {α : Type} (m : Nat) : ∀ (rows : List (List α)), (∀ r ∈ rows, r.length = m) → ∀ (k j : Nat) (hk : k < rows.length) (u : α), j < m → rows.flatten.set (k * m + j) u = (rows.set k (rows[k].set j u)).flatten
  | [], _, k, j, hk, _, _ => by simp at hk
  | r :: l, h, 0, j, hk, u, hj => by
    have hr := h r (List.mem_cons_self ..)
    rw [List.flatten_cons, Nat.zero_mul, Nat.zero_add, List.set_append_left _ _ (by omega)]
    simp
  | r :: l, h, k + 1, j, hk, u, hj => by
    have hr := h r (List.mem_cons_self ..)
    rw [List.flatten_cons, List.set_append_right _ _ (by rw [hr, Nat.succ_mul]; omega), hr, Nat.succ_mul, show k * m + m + j - m = k * m + j by omega]
    rw [flatten_set m l (fun x hx => h x (List.mem_cons_of_mem _ hx)) k j (by simpa using hk) u hj]
    simp

/-- One cell stored. -/
theorem RowOwns.put {g cap n : Nat} (h : RowOwns T m w (.slice (some ⟨g, 0, none⟩) n cap) rows) (k j : Nat) (hk : k < rows.length) (hj : j < m) (u : Value) :
    RowOwns T m (w.setCell ⟨g, 0 + k * m + j, none⟩ u) (.slice (some ⟨g, 0, none⟩) n cap) (rows.set k (rows[k].set j u)) := by
  have hn : n = rows.length := by
    obtain ⟨o, c, e⟩ := h.shape
    injection e
  have h2 := h.2
  rw [← hn] at h2
  refine ⟨fun r hr => ?_, ?_⟩
  · rcases List.mem_or_eq_of_mem_set hr with hr | hr
    · exact h.1 r hr
    · rw [hr, List.length_set]
      exact h.1 _ (List.getElem_mem hk)
  · rw [List.length_set, ← flatten_set m rows h.1 k j hk u hj, show 0 + k * m + j = k * m + j by omega, ← hn]
    exact (World.ownsRow.stored h2 (k * m + j) u).1

theorem RowOwns.frozen {g cap n : Nat} (h : RowOwns T m w (.slice (some ⟨g, 0, none⟩) n cap) rows) (j : Nat) : w.frozen? ⟨g, j, none⟩ = false := by
  have hn : n = rows.length := by
    obtain ⟨o, c, e⟩ := h.shape
    injection e
  have h2 := h.2
  rw [← hn] at h2
  exact World.ownsRow.frozenAt h2 j

/-- Rows more, of what another slice shows. -/
theorem RowOwns.cats {P : Program} {tS : TypeId} {i : TypeInfo} {z : Value} {bytes : Nat} (hu : P.underlying tS = some (.slice T)) (hi : P.info? T = some i) (hz : i.zero = some z) (hsz : i.size = m) (hby : i.bytes = bytes) (hzs : z.cells.size = m) (hm0 : 0 < m)
    (h : RowOwns T m w1 v rows) (rs : List (List Value)) (hr : ∀ r ∈ rs, r.length = m) (hone : ∀ r ∈ rs, ∀ u ∈ r, u.oneCell' = true) (g o cap : Nat)
    (hcell : ∀ k (hk : k < rs.length) j u, rs[k][j]? = some u → w1.cell? ⟨g, o + k * m + j, none⟩ = some u) (hb : rows.length + rs.length ≤ 1000000) (hb2 : bytes ≤ 1000) :
    ∃ v2 w2, (Builtin.append_ #[tS, tS] tS #[v, .slice (some ⟨g, o, none⟩) rs.length cap]).run P w1 = .ok v2 w2 ∧ RowOwns T m w2 v2 (rows ++ rs) ∧ Turn (fun j => v.ownBlock = some j) w1 w2 ∧ (v2.ownBlock = v.ownBlock ∨ ∀ j, v2.ownBlock = some j → w1.heap.size ≤ j) := by
  obtain ⟨v2, w2, hrun, ho, hg, _, hat⟩ := run_append_own_at (P := P) w1 0 tS tS T i z m bytes hu hi hz hsz hby hzs hm0 v rows.length rows.flatten h.2 ⟨g, o, none⟩ rs.length cap rs.flatten (by rw [flatten_length m rs hr])
    (fun j u hj => by
      have hjl := (List.getElem?_eq_some_iff.1 hj).1
      rw [flatten_length m rs hr] at hjl
      have hk : j / m < rs.length := Nat.div_lt_of_lt_mul (by rwa [Nat.mul_comm] at hjl)
      have hlt := Nat.mod_lt j hm0
      have hjj : j = j / m * m + j % m := by have := Nat.div_add_mod j m; rw [Nat.mul_comm] at this; omega
      rw [hjj, flatten_at m rs hr (j / m) (j % m) hk hlt] at hj
      rw [Addr.add_lit, show o + j = o + j / m * m + j % m by omega]
      exact hcell _ hk _ _ hj)
    (fun u hu => by
      obtain ⟨r, h1, h2⟩ := List.mem_flatten.1 hu
      exact hone r h1 u h2) (by unfold maxLen; omega) (by
        have h1 : (rows.length + rs.length) * bytes ≤ 1000000 * 1000 := Nat.mul_le_mul (by omega) hb2
        omega) (Nat.zero_le _)
  refine ⟨v2, w2, hrun, ⟨fun x hx => ?_, ?_⟩, (Turn.refl _ _).grown hg (fun j hj => .inl hj), ?_⟩
  · rcases List.mem_append.1 hx with hx | hx
    · exact h.1 x hx
    · exact hr x hx
  · rw [List.length_append, List.flatten_append]
    exact ho
  · rcases hat with e | e
    · exact .inl e
    · refine .inr fun j hj => ?_
      rw [e] at hj
      injection hj with hj
      omega

end

/-- A graph with its values. -/
theorem DefsQ.rows {Q : Nat → Prop} {w : World} {v : Value} {ds : List Df} (h : DefsQ Q w v ds) : (v = .slice none 0 0 ∧ ds = []) ∨ ∃ (g o cap : Nat) (l : List (Value × Df)), v = .slice (some ⟨g, o, none⟩) l.length cap ∧ l.map (·.2) = ds ∧ l.length ≤ maxLen ∧
    (∀ k (hk : k < l.length), Q g ∧ w.cell? ⟨g, o + k * 3, none⟩ = some l[k].1 ∧ w.cell? ⟨g, o + k * 3 + 1, none⟩ = some (.int .i64 l[k].2.2.1) ∧ w.cell? ⟨g, o + k * 3 + 2, none⟩ = some (.int .i64 l[k].2.2.2) ∧ IntsQ Q w l[k].1 l[k].2.1) := by
  rcases h with h | ⟨g, o, cap, rfl, hm, hc⟩
  · exact .inl h
  · have hs : ∀ k : Nat, ∃ nv : Value, ∀ hk : k < ds.length, Q g ∧ w.cell? ⟨g, o + k * 3, none⟩ = some nv ∧ w.cell? ⟨g, o + k * 3 + 1, none⟩ = some (.int .i64 ds[k].2.1) ∧ w.cell? ⟨g, o + k * 3 + 2, none⟩ = some (.int .i64 ds[k].2.2) ∧ IntsQ Q w nv ds[k].1 := fun k => by
      by_cases hk : k < ds.length
      · obtain ⟨h1, nv, h2⟩ := hc k hk
        exact ⟨nv, fun _ => ⟨h1, h2⟩⟩
      · exact ⟨undef, fun h => absurd h hk⟩
    obtain ⟨f, hf⟩ := Classical.skolem.1 hs
    have hlen : (ds.mapIdx fun k d => (f k, d)).length = ds.length := by simp
    refine .inr ⟨g, o, cap, ds.mapIdx fun k d => (f k, d), by rw [hlen], ?_, by rw [hlen]; exact hm, fun k hk => ?_⟩
    · apply List.ext_getElem
      · simp
      · intro i h1 h2
        simp
    · have hk2 : k < ds.length := by simpa using hk
      have := hf k hk2
      simpa using this

section
variable {Q : Nat → Prop} {w : World} {v : Value}

set_option maxHeartbeats 400000 in
set_option maxRecDepth 100000 in
theorem bclone_any (v : Value) (bs : List UInt8) (w : World) (hs : Sees w v bs) (hb : bs.length ≤ 140737488355328) :
    Calls Try.prog 16 #[v] w fun e w' => ∃ v', e = .returned v' ∧ Made w v' bs w' := by
  obtain ⟨i0, hi, hz0, hz1, hz2⟩ := info_parts Try.infoU8
  have qT : ∀ (w : World) (a : Option Addr) (n c n' c' : Nat), (binOp .eql 22 (.slice a n c) (.slice none n' c')).run Try.prog w = .ok (.bool a.isNone) w := fun w a n c n' c' => Lib.run_eql_slice_nil w _ _ a n c n' c' Try.underlying22
  have hsee := (hs.kept ((Turn.refl (fun _ => False) w).alloc (.cells #[] 5)) (fun _ _ h => h))
  rcases hs with ⟨rfl, rfl⟩ | ⟨a, cap, rfl, hc, hm, hcell⟩
  · go_enter Try.func16, Try.ntmps16
    go_wp2
    go_ret
    exact ⟨_, rfl, Owns.nil _, Turn.refl _ _, fun k hk => by simp [Value.ownBlock] at hk⟩
  · clear hcell
    go_enter Try.func16, Try.ntmps16
    go_wp2_with (at_builtin; refine wpList_append_sees _ rfl (.tmp 5) (.tmp 6) 22 rfl i0 Try.underlying22 hi hz0 hz1 hz2 _ [] rfl (owns_empty w) _ bs rfl hsee (by simp only [List.length_nil]; omega) ?_)
    intro v' w' ho hg hk
    have hmade := Made.append ho hg hk
    obtain ⟨ao, c, rfl⟩ := ho.shape
    clear ho hg hk
    go_wp2
    go_ret
    exact ⟨_, rfl, hmade⟩

theorem nclone_any {xs : List Int} (h : IntsQ Q w v xs) (hl : xs.length ≤ 1000000000) : Calls Try.prog 18 #[v] w fun e w' => ∃ v', e = .returned v' ∧ OwnsC 3 w' v' (i64s xs) ∧ Turn (fun _ => False) w w' ∧ ∀ j, v'.ownBlock = some j → w.heap.size ≤ j := by
  have qT : ∀ (w : World) (a : Option Addr) (n c n' c' : Nat), (binOp .eql 37 (.slice a n c) (.slice none n' c')).run Try.prog w = .ok (.bool a.isNone) w := fun w a n c n' c' => Lib.run_eql_slice_nil w _ _ a n c n' c' Try.underlying37
  obtain ⟨i, hi, hz, hsz, hby⟩ := info_parts Try.infoIntE
  have ta : Turn (fun _ => False) w (w.alloc (.cells #[] 3)) := (Turn.refl _ _).alloc _
  have hk := h.kept ta (fun _ _ e => e)
  rcases h with ⟨rfl, rfl⟩ | ⟨a, cap, rfl, hm, -⟩
  · go_enter Try.func18, Try.ntmps18
    go_wp2_with fail
    go_ret
    exact ⟨_, rfl, OwnsC.nil _ _, Turn.refl _ _, fun k hk => by simp [Value.ownBlock] at hk⟩
  · have hs : ∀ j u, (i64s xs)[j]? = some u → (w.alloc (.cells #[] 3)).cell? (a.add j) = some u := fun j u hj => by
      have hjl := (List.getElem?_eq_some_iff.1 hj).1
      rw [i64s_length] at hjl
      obtain ⟨a', e, hc⟩ := hk.at j hjl
      injection e with e
      subst e
      rw [hc, ← hj]
      unfold i64s
      rw [List.getElem?_map, List.getElem?_eq_getElem hjl]
      rfl
    obtain ⟨v2, w2, hr, ho, hg, _, hat⟩ := run_append_own_at (P := Try.prog) (w.alloc (.cells #[] 3)) 0 37 37 3 i _ 1 8 Try.underlying37 hi hz hsz hby rfl (by omega) (.slice (some ⟨w.heap.size, 0, none⟩) 0 0) 0 [] (OwnsC.empty 3 w) a xs.length cap (i64s xs) (by rw [i64s_length]; omega) hs (fun u hu => i64s_one hu) (by unfold maxLen; omega) (by omega) (Nat.zero_le _)
    have ho2 : OwnsC 3 w2 v2 (i64s xs) := by
      unfold OwnsC
      rw [i64s_length]
      simpa using ho
    have hfin : OwnsC 3 w2 v2 (i64s xs) ∧ Turn (fun _ => False) w w2 ∧ ∀ j, v2.ownBlock = some j → w.heap.size ≤ j := by
      refine ⟨ho2, ta.trans' ((Turn.refl (fun j => (Value.slice (some ⟨w.heap.size, 0, none⟩) 0 0).ownBlock = some j) _).grown hg (fun j hj => .inl hj)) (fun i hi e => ?_), fun j hj => ?_⟩
      · injection e with e
        have e : w.heap.size = i := e
        omega
      · rcases hat with e | e
        · rw [e] at hj
          injection hj with hj
          have hj : w.heap.size = j := hj
          omega
        · rw [e] at hj
          injection hj with hj
          have := ta.size
          omega
    obtain ⟨o2, c2, e2⟩ := ints_shape ho2 rfl
    have Hf := hide hfin
    have Hr := hide hr
    generalize xs.length = len at *
    clear hr ho ho2 hg hat hfin hs hk
    subst e2
    go_enter Try.func18, Try.ntmps18
    go_wp2_with (at_builtin; refine wpList_append_run rfl (.tmp 5) (.tmp 6) 37 rfl _ _ _ w2 rfl rfl (unhide Hr) ?_)
    go_ret
    exact ⟨_, rfl, unhide Hf⟩

theorem dclone_any {ds : List Df} (h : DefsQ Q w v ds) (hl : ds.length ≤ 1000000) : Calls Try.prog 17 #[v] w fun e w' => ∃ (v' : Value) (l : List (Value × Df)), e = .returned v' ∧ RowOwns 45 3 w' v' (l.map row3) ∧ l.map (·.2) = ds ∧ (∀ p ∈ l, IntsQ Q w p.1 p.2.1) ∧ Turn (fun _ => False) w w' ∧ ∀ j, v'.ownBlock = some j → w.heap.size ≤ j := by
  have qT : ∀ (w : World) (a : Option Addr) (n c n' c' : Nat), (binOp .eql 23 (.slice a n c) (.slice none n' c')).run Try.prog w = .ok (.bool a.isNone) w := fun w a n c n' c' => Lib.run_eql_slice_nil w _ _ a n c n' c' Try.underlying23
  obtain ⟨i, hi, hz, hsz, hby⟩ := info_parts Try.infoDefE
  have ta : Turn (fun _ => False) w (w.alloc (.cells #[] 45)) := (Turn.refl _ _).alloc _
  rcases h.rows with ⟨rfl, rfl⟩ | ⟨g, o, cap, l, rfl, hl2, hm, hc⟩
  · go_enter Try.func17, Try.ntmps17
    go_wp2_with fail
    go_ret
    exact ⟨_, [], rfl, RowOwns.nil _ _ _, rfl, by simp, Turn.refl _ _, fun k hk => by simp [Value.ownBlock] at hk⟩
  · have hll : l.length ≤ 1000000 := by
      have := congrArg List.length hl2
      rw [List.length_map] at this
      omega
    obtain ⟨v2, w2, hr, ho, hg, hat⟩ := (RowOwns.empty 45 3 w).cats (P := Try.prog) Try.underlying23 hi hz hsz hby rfl (by omega) (l.map row3) (row3_all l) (fun r hr u hu => by
        obtain ⟨p, hp, rfl⟩ := List.mem_map.1 hr
        obtain ⟨k, hk, rfl⟩ := List.getElem_of_mem hp
        obtain ⟨_, _, _, _, hin⟩ := hc k hk
        obtain ⟨no, nc, e, _⟩ := hin.shape
        simp only [row3, List.mem_cons, List.not_mem_nil, or_false] at hu
        rcases hu with rfl | rfl | rfl
        · rw [e]; rfl
        · rfl
        · rfl) g o cap (fun k hk j u hj => by
        have hk2 : k < l.length := by simpa using hk
        obtain ⟨_, b0, b1, b2, _⟩ := hc k hk2
        have hlt : g < w.heap.size := World.block_lt_of_cell? w ⟨g, o + k * 3 + 1, none⟩ b1
        have hj2 := (List.getElem?_eq_some_iff.1 hj).1
        simp only [List.getElem_map, row3, List.length_cons, List.length_nil] at hj2
        rw [ta.cell (p := ⟨g, o + k * 3 + j, none⟩) hlt (fun e => e)]
        match j, hj2, hj with
        | 0, _, hj => simp [row3] at hj; rw [← hj]; exact b0
        | 1, _, hj => simp [row3] at hj; rw [← hj]; exact b1
        | 2, _, hj => simp [row3] at hj; rw [← hj]; exact b2) (by simpa using hll) (by omega)
    have hfin : RowOwns 45 3 w2 v2 (l.map row3) ∧ l.map (·.2) = ds ∧ (∀ p ∈ l, IntsQ Q w p.1 p.2.1) ∧ Turn (fun _ => False) w w2 ∧ ∀ j, v2.ownBlock = some j → w.heap.size ≤ j := by
      refine ⟨by simpa using ho, hl2, fun p hp => ?_, ta.trans' hg (fun i hi e => ?_), fun j hj => ?_⟩
      · obtain ⟨k, hk, rfl⟩ := List.getElem_of_mem hp
        exact (hc k hk).2.2.2.2
      · injection e with e
        have e : w.heap.size = i := e
        omega
      · rcases hat with e | e
        · rw [e] at hj
          injection hj with hj
          have hj : w.heap.size = j := hj
          omega
        · have := e j hj
          have := ta.size
          omega
    obtain ⟨o2, c2, e2⟩ := ho.shape
    have Hf := hide hfin
    have Hr := hide hr
    rw [List.nil_append, List.length_map] at e2
    rw [List.length_map] at Hr
    clear hr ho hg hat hfin h hc hl2
    generalize l.length = len at *
    subst e2
    go_enter Try.func17, Try.ntmps17
    go_wp2_with (at_builtin; refine wpList_append_run rfl (.tmp 5) (.tmp 6) 23 rfl _ _ _ w2 rfl rfl (unhide Hr) ?_)
    go_ret
    exact ⟨_, l, rfl, unhide Hf⟩

end

end Go.Proofs.Ythclffafbkeepaa
