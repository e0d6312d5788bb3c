/- The method Files. -/
import Derived.Test.YtfmbkpdjjhcmcaaGreatDCrash
import Derived.Test.YtfmbkpdjjhcmcaaGreatInts
namespace Go.Proofs.YtfmbkpdjjhcmcaaGreat
open Go.RowKit

theorem Tryz.infoInt5 : (Tryz.prog.info? 3).map (fun i => (i.zero, i.size, i.bytes)) = some (some (.int .i64 0), 1, 8) := by kernel_rfl

theorem append_one (w : World) (v : Value) (xs : List Int) (x : Int) (vb : Nat) (hown : OwnsC 3 w v (i64s xs)) (hx : At 3 w vb #[.int .i64 x]) (hb : xs.length ≤ 1099511627776) :
    ∃ v' w', (Builtin.append_ #[33, 33] 33 #[v, .slice (some ⟨vb, 0, none⟩) 1 1]).run Tryz.prog w = .ok v' w' ∧ OwnsC 3 w' v' (i64s (xs ++ [x])) ∧ w.grownBy w' v.ownBlock ∧ (v'.ownBlock = v.ownBlock ∨ v'.ownBlock = some w.heap.size) := by
  obtain ⟨i, hi, h⟩ := Option.map_eq_some_iff.1 Tryz.infoInt5
  simp only [Prod.mk.injEq] at h
  rw [i64s_append]
  refine run_append_cells (P := Tryz.prog) w 33 33 3 i _ 8 Tryz.underlying33 hi h.1 h.2.1 h.2.2 rfl v _ hown _ (i64s [x]) (.inr ⟨⟨vb, 0, none⟩, 1, rfl, Nat.le_refl _, by simp [maxLen], fun j u hj => ?_⟩) (fun u hu => i64s_one hu) (by rw [i64s_length, i64s_length]; unfold maxLen; simp; omega) (by rw [i64s_length, i64s_length]; simp; omega)
  rw [addr_lit, Nat.zero_add, hx.cell j]
  simpa [i64s] using hj

/-- Numbers of one's own, in new memory; nothing else has turned. -/
def MadeI (w : World) (v : Value) (l : List Int) (w' : World) : Prop := OwnsC 3 w' v (i64s l) ∧ Turn (fun _ => False) w w' ∧ ∀ k, v.ownBlock = some k → w.heap.size ≤ k

theorem MadeI.nil (w : World) : MadeI w (.slice none 0 0) [] w := ⟨OwnsC.nil _ _, Turn.refl _ _, fun k hk => by simp [Value.ownBlock] at hk⟩

theorem MadeI.more {w w1 w2 wa : World} {v1 v2 : Value} {l l' : List Int} (h : MadeI w v1 l w1) (ta : Turn (fun _ => False) w1 wa) (ho : OwnsC 3 w2 v2 (i64s l')) (hg : wa.grownBy w2 v1.ownBlock) (hk : v2.ownBlock = v1.ownBlock ∨ v2.ownBlock = some wa.heap.size) : MadeI w v2 l' w2 := by
  refine ⟨ho, (h.2.1.trans ta).grown hg (fun k hk => .inr (h.2.2 k hk)), fun k e => ?_⟩
  rcases hk with hk | hk
  · exact h.2.2 k (hk ▸ e)
  · rw [hk] at e
    injection e with e
    have := (h.2.1.trans ta).size
    omega

theorem MadeI.shape {w w' : World} {v : Value} {l : List Int} (h : MadeI w v l w') : ∃ ao c, v = .slice ao l.length c := by
  rcases h.1.shape with ⟨rfl, h0⟩ | ⟨g, cap, rfl, _⟩
  · have : l.length = 0 := by rw [← i64s_length, h0]; rfl
    exact ⟨none, 0, by rw [this]⟩
  · exact ⟨_, _, by rw [i64s_length]⟩

/-- The files that are there, rising. -/
def DSt.Nums (s : DSt) (l : List Int) : Prop := l.Pairwise (· < ·) ∧ ∀ k, k ∈ l ↔ s.read k ≠ []

section
variable {w : World} {b : Nat} {S : Nat → Prop} {N : Nat} {s : DSt}

set_option maxHeartbeats 2000000 in
set_option maxRecDepth 100000 in
theorem files_any (h : Dk w b S N s) (hN : N ≤ 1073741824) :
    Calls Tryz.prog 30 #[.pointer (some ⟨b, 0, none⟩)] w fun e w' => ∃ v l, e = .returned v ∧ MadeI w v l w' ∧ s.Nums l ∧ l.length ≤ N := by
  obtain ⟨own, fv, pv, fs, us, h⟩ := h
  have hfl := h.many.1
  have c5 : w.cell? ⟨b, 5, none⟩ = some (.bool s.dead) := h.f.head.cell 5
  by_cases hd : s.dead = true
  · have hnums : s.Nums [] := ⟨List.Pairwise.nil, fun k => by unfold DSt.read; rw [if_pos hd]; simp⟩
    rw [hd] at c5
    go_enter Tryz.func30, Tryz.ntmps30
    go_wp2
    go_ret
    exact ⟨_, [], rfl, MadeI.nil w, hnums, Nat.zero_le _⟩
  · have hd' : s.dead = false := by simpa using hd
    have hnums : s.Nums (fs.map (·.num)) := by
      refine ⟨List.pairwise_map.2 (show fs.Pairwise (fun a b => a.num < b.num) from h.f.rise), fun k => ?_⟩
      rw [nums_iff h.f.rise (fun e he => (h.f.file e he).2.1) k, h.now]
      unfold DSt.read
      rw [if_neg hd]
    rw [hd'] at c5
    have c0 : w.cell? ⟨b, 0, none⟩ = some fv := h.f.head.cell 0
    have hfiles := h.f.files
    obtain ⟨ao, c, rfl⟩ := h.f.shape
    have Hnums := hide hnums
    have Hf := hide hfiles
    clear hnums h hfiles hd
    go_enter Tryz.func30, Tryz.ntmps30
    go_wp2_with fail
    go_loopw [3, 5, 19] (fun l _ i wr => ∃ k : Nat, k ≤ fs.length ∧ i = .int .i64 k ∧ MadeI w l ((fs.take k).map (·.num)) wr) (fun _ _ i _ => (fs.length - intOf i).toNat)
    case atStart => exact ⟨0, by omega, rfl, MadeI.nil w⟩
    case round =>
      obtain ⟨k, hk, rfl, hmd⟩ := hrel
      by_cases hlt : k < fs.length
      · obtain ⟨e, he⟩ : ∃ e, fs[k]? = some e := ⟨_, List.getElem?_eq_getElem hlt⟩
        have hf1 := (unhide Hf).kept hmd.2.1 (fun _ _ h => h)
        obtain ⟨g, hao⟩ : ∃ g, ao = some ⟨g, 0, none⟩ := by
          rcases row_shape hf1.row with ⟨_, h0⟩ | ⟨g, cap, e, _⟩
          · omega
          · injection e with e1
            exact ⟨g, e1⟩
        subst hao
        obtain ⟨eo, en, ec, hev, r0, r1⟩ := hf1.cells k e he
        obtain ⟨lo, lc, hl⟩ := hmd.shape
        subst hl
        have q1 : (k : Int) < fs.length := by omega
        have ta : Turn (fun _ => False) wr ((wr.alloc (.cells #[.int .i64 e.num, .slice eo en ec] 101)).alloc (.cells #[.int .i64 e.num] 3)) := ((Turn.refl _ _).alloc _).alloc _
        have hA : At 3 ((wr.alloc (.cells #[.int .i64 e.num, .slice eo en ec] 101)).alloc (.cells #[.int .i64 e.num] 3)) (wr.heap.size + 1) #[.int .i64 e.num] := by
          have := At.new 3 (wr.alloc (.cells #[.int .i64 e.num, .slice eo en ec] 101)) #[.int .i64 e.num]
          rwa [show (wr.alloc (.cells #[.int .i64 e.num, .slice eo en ec] 101)).heap.size = wr.heap.size + 1 by simp] at this
        have hl2 : ((fs.take k).map (·.num)).length = k := by rw [List.length_map, List.length_take]; omega
        obtain ⟨v2, w2, hr, ho, hg, hkk⟩ := append_one _ _ _ e.num _ (hmd.1.kept ta (fun _ _ h => h)) hA (by rw [hl2]; omega)
        have hmd2 := hmd.more ta ho hg hkk
        have e3 : (fs.take k).map (·.num) ++ [e.num] = (fs.take (k + 1)).map (·.num) := by
          rw [List.take_succ_eq_append_getElem hlt, List.map_append]
          obtain ⟨_, h2⟩ := List.getElem?_eq_some_iff.1 he
          rw [h2]
          rfl
        rw [e3] at hmd2
        obtain ⟨vo, vc, hv⟩ := hmd2.shape
        have hl3 : ((fs.take (k + 1)).map (·.num)).length = k + 1 := by rw [List.length_map, List.length_take]; omega
        rw [hl3] at hv
        subst hv
        rw [hl2] at hr
        have Hr := hide hr
        have H2 := hide hmd2
        rw [hl2]
        clear hr hmd2 e3 ho hg hkk hmd hA ta he hf1 hev hl2 hl3
        go_wp2_with (at_builtin; refine wpList_append_run rfl (.tmp 23) (.tmp 26) 33 rfl _ _ _ w2 rfl rfl (unhide Hr) ?_)
        go_roundw
        case rel => exact ⟨k + 1, by omega, by go_num, unhide H2⟩
        case measure => simp [intOf]; omega
      · obtain rfl : k = fs.length := by omega
        rw [List.take_length] at hmd
        obtain ⟨lo, lc, hl⟩ := hmd.shape
        subst hl
        have Hm := hide hmd
        clear hmd
        go_wp2
        go_ret
        exact ⟨_, _, rfl, unhide Hm, unhide Hnums, by simpa using hfl⟩

end

end Go.Proofs.YtfmbkpdjjhcmcaaGreat
