/- The reference's Append, Remove and Sync. -/
import Derived.Test.YtnojedjdnecagaaR5E
namespace Go.Proofs.Ytnojedjdnecagaa
open Go.RowKit

section
variable {Q : Nat → Prop} {w : World} {rb : Nat} {s : RSt} {M B : Nat}

/-- One more pends: the row, and the op's own bytes. -/
theorem RD.pushed {kv pv : Value} {kl : List (Value × List UInt8)} {pl : List (DOp × Value)} {w1 w2 : World} {v2 : Value} {o : DOp} {ov : Value} (h : RD Q w rb s kv pv kl pl) (hm : MadeR w v2 (pl.length + 1) (rcells pl ++ [.int .i64 o.key, .bool o.isRem, ov]) w2) (hw : w1 = w2.setCell ⟨rb, 1, none⟩ v2) (hok : ROk (grow Q w w2) w2 (o, ov)) : RTo Q w rb (s.push o) w1 := by
  subst hw
  have hrl := h.head.lt
  have hQr : ¬ grow Q w w2 rb := fun hq => hq.elim h.out (fun hq => by omega)
  have t1 := Turn.at rb 1 v2 w2
  have tt : Turn (fun j => j = rb) w (w2.setCell ⟨rb, 1, none⟩ v2) := (hm.2.1.mono (fun _ _ h => h.elim)).trans t1
  have hsz : ∀ j, grow Q w w2 j → grow Q w (w2.setCell ⟨rb, 1, none⟩ v2) j := fun j hj => hj.imp id (fun h => ⟨h.1, Nat.lt_of_lt_of_le h.2 t1.size⟩)
  have hv2 : v2.ownBlock ≠ some rb := fun e => by have := hm.2.2 rb e; omega
  refine ⟨⟨kv, v2, kl, pl ++ [(o, ov)], ?_, ?_, h.kis, ?_, ?_, fun hq => ?_, fun j hj => ?_⟩, tt⟩
  · exact (h.head.kept hm.2.1 (fun h => h)).set 1 v2
  · exact (h.kept.kept tt (fun j hj e => h.out (e ▸ hj))).mono (fun _ h => .inl h)
  · have hr : RP (grow Q w w2) w2 v2 (pl ++ [(o, ov)]) := by
      refine RP.of ?_ (fun g hg => .inr ⟨hm.2.2 g hg, (World.ownsRow.lt hm.1 g hg).2⟩) ?_
      · rw [rcells_snoc, List.length_append]
        exact hm.1
      · intro p hp
        rcases List.mem_append.1 hp with hp | hp
        · exact ((h.pend.each p hp).kept hm.2.1 (fun _ _ h => h)).mono (fun _ h => .inl h)
        · simp only [List.mem_singleton] at hp
          subst hp
          exact hok
    exact (hr.kept t1 (fun j hj e => hQr (e ▸ hj))).mono hsz
  · show _ = s.pend ++ [o]
    rw [List.map_append, h.pis]
    rfl
  · rcases hq with hq | hq
    · exact h.out hq
    · omega
  · rcases hj with hj | hj
    · exact Nat.lt_of_lt_of_le (h.lt j hj) tt.size
    · exact hj.2

set_option maxHeartbeats 2000000 in
set_option maxRecDepth 100000 in
theorem radd_any (f : Int) (v : Value) (bs : List UInt8) (h : RDk Q w rb s) (hf : RFit M B s) (hs : Sees w v bs) (hsl : 0 < bs.length → slab v ≠ some rb) (hb : bs.length ≤ 140737488355328) :
    Calls Try.prog 26 #[.pointer (some ⟨rb, 0, none⟩), .int .i64 f, v] w fun e w' => e = .returned (.int .i64 (s.add f bs).1) ∧ RTo Q w rb (s.add f bs).2 w' := by
  obtain ⟨i0, hi, hz0, hz1, hz2⟩ := info_parts Try.infoU8
  have hlt : ∀ j, Q j → j < w.heap.size := by obtain ⟨_, _, _, _, h⟩ := h; exact h.lt
  have hrl : rb < w.heap.size := by obtain ⟨_, _, _, _, h⟩ := h; exact h.head.lt
  obtain ⟨vo, vc, hve⟩ := hs.shape
  have hbm := hs.len
  unfold maxLen at hbm
  subst hve
  by_cases hf0 : f < 0
  · have e1 : s.add f bs = (1, s) := if_pos hf0
    rw [e1]
    have Hto := hide (RTo.of h hlt hrl (Turn.refl _ w))
    clear e1 h
    go_enter Try.func26, Try.ntmps26
    go_wp2
    go_ret
    exact ⟨rfl, unhide Hto⟩
  · have hf0' : 0 ≤ f := by omega
    by_cases hd : s.down = true
    · have e1 : s.add f bs = (14, s.fall) := by unfold RSt.add; rw [if_neg hf0, if_pos hd]
      rw [e1]
      have hcall := rworks_down h hd
      have Hcall := hide hcall
      clear e1 h hcall
      go_enter Try.func26, Try.ntmps26
      go_wp2_with fail
      refine (unhide Hcall).mono ?_
      rintro e w1 ⟨rfl, h1, t1⟩
      have Hto := hide (RTo.of h1 hlt hrl t1)
      clear h1 t1 Hcall
      go_wp2
      go_ret
      exact ⟨rfl, unhide Hto⟩
    · have hd' : s.down = false := by simpa using hd
      have hcall := rworks_ok h hd' hf
      have hmany := hf.many
      by_cases hb0 : bs = []
      · have e1 : s.add f bs = (0, s.worked) := by unfold RSt.add; rw [if_neg hf0, if_neg hd, if_pos hb0]
        rw [e1]
        subst hb0
        have Hcall := hide hcall
        clear e1 h hcall
        go_enter Try.func26, Try.ntmps26
        go_wp2_with fail
        refine (unhide Hcall).mono ?_
        rintro e w1 ⟨rfl, h1, t1⟩
        have Hto := hide (RTo.of h1 hlt hrl t1)
        clear h1 t1 Hcall
        go_wp2
        go_ret
        exact ⟨rfl, unhide Hto⟩
      · have e1 : s.add f bs = (0, s.worked.push (.lay f bs)) := by unfold RSt.add; rw [if_neg hf0, if_neg hd, if_neg hb0]
        rw [e1]
        have hbl : 0 < bs.length := Nat.pos_of_ne_zero fun e => hb0 (List.eq_nil_of_length_eq_zero e)
        have q1 : (0 : Int) < bs.length := by omega
        have Hcall := hide hcall
        have Hs := hide hs
        clear e1 h hcall hs
        go_enter Try.func26, Try.ntmps26
        go_wp2_with fail
        refine (unhide Hcall).mono ?_
        rintro e w1 ⟨rfl, h1, t1⟩
        obtain ⟨kv, pv, kl, pl, h1⟩ := h1
        have c1 : w1.cell? ⟨rb, 1, none⟩ = some pv := h1.head.cell 1
        obtain ⟨po, pc, hpv⟩ := h1.pend.shape
        have hpl : pl.length = s.pend.length := by have := congrArg List.length h1.pis; rw [List.length_map] at this; exact this
        obtain ⟨v2, w2, hr2, hm2⟩ := h1.pend.push (by omega)
        have hs1 := (unhide Hs).kept t1 (fun j hj e => hsl hbl (e ▸ hj))
        have ta : Turn (fun _ => False) w2 (w2.alloc (.cells #[] 5)) := (Turn.refl _ _).alloc _
        have hs2 := (hs1.kept hm2.2.1 (fun _ _ h => h)).kept ta (fun _ _ h => h)
        obtain ⟨v3, w3, hr3, ho3, hg3, hk3⟩ := run_append_sees (P := Try.prog) _ 27 27 i0 Try.underlying27 hi hz0 hz1 hz2 _ [] (owns_empty w2) _ bs hs2 (by simp; omega)
        have hk3' : v3.ownBlock = some w2.heap.size ∨ v3.ownBlock = some (w2.heap.size + 1) := by
          rcases hk3 with e | e
          · exact .inl e
          · right; rw [e]; simp
        have hmd3 : Made w2 v3 bs w3 := Made.append ho3 hg3 hk3'
        obtain ⟨o3, c3, hv3⟩ := hmd3.1.shape
        subst hv3
        have tb : Turn (fun _ => False) w3 (w3.alloc (.cells #[.int .i64 f, .bool false, .slice o3 bs.length c3] 63)) := (Turn.refl _ _).alloc _
        have hA := At.new 63 w3 #[.int .i64 f, .bool false, .slice o3 bs.length c3]
        have hrow3 := row_kept (row_kept hm2.1 hmd3.2.1 (fun _ _ h => h)) tb (fun _ _ h => h)
        obtain ⟨v5, w5, hr5, ho5, hg5, hk5⟩ := append_ops _ v2 pl.length (rcells pl) hrow3 ⟨w3.heap.size, 0, none⟩ 1 1 [.int .i64 f, .bool false, .slice o3 bs.length c3] rfl (fun j u hj => by rw [addr_lit, Nat.zero_add, hA.cell j]; simpa using hj) (fun u hu => by simp only [List.mem_cons, List.not_mem_nil, or_false] at hu; rcases hu with rfl | rfl | rfl <;> rfl) (by omega)
        have hm5 := hm2.more (hmd3.2.1.trans tb) ho5 hg5 hk5
        have t5 : Turn (fun j => v2.ownBlock = some j) (w3.alloc (.cells #[.int .i64 f, .bool false, .slice o3 bs.length c3] 63)) w5 := (Turn.refl _ _).grown hg5 (fun k hk => .inl hk)
        have hs5 : Sees w5 (.slice o3 bs.length c3) bs := ((hmd3.1.sees.kept tb (fun _ _ h => h)).kept t5 (fun j hj e => by
          have h1 : (Value.slice o3 bs.length c3).ownBlock = some j := by rw [← hmd3.1.slab_eq]; exact hj
          have h2 := hmd3.2.2 j h1
          have h3 := (World.ownsRow.lt hm2.1 j e).2
          omega))
        have hok : ROk (grow Q w1 w5) w5 (.lay f bs, .slice o3 bs.length c3) := ⟨hs5, fun _ j hj => by
          have h1 : (Value.slice o3 bs.length c3).ownBlock = some j := by rw [← hmd3.1.slab_eq]; exact hj
          have h2 := hmd3.2.2 j h1
          have h3 := hmd3.1.lt h1
          have h4 := tb.size
          have h5 := t5.size
          have h6 := hm2.2.1.size
          exact .inr ⟨by omega, by omega⟩⟩
        have hto1 := h1.pushed (o := .lay f bs) hm5 rfl hok
        have hto : RTo Q w rb (s.worked.push (.lay f bs)) (w5.setCell ⟨rb, 1, none⟩ v5) := by
          refine ⟨?_, t1.trans hto1.2⟩
          obtain ⟨kv', pv', kl', pl', h9⟩ := hto1.1
          have hgr : ∀ j, grow Q w1 (w5.setCell ⟨rb, 1, none⟩ v5) j → grow Q w (w5.setCell ⟨rb, 1, none⟩ v5) j := fun j hj => hj.imp id (fun h => ⟨Nat.le_trans t1.size h.1, h.2⟩)
          refine ⟨kv', pv', kl', pl', h9.head, h9.kept.mono hgr, h9.kis, h9.pend.mono hgr, h9.pis, fun hq => ?_, fun j hj => ?_⟩
          · rcases hq with hq | hq
            · exact h1.out hq
            · omega
          · rcases hj with hj | hj
            · exact Nat.lt_of_lt_of_le (hlt j hj) (t1.trans hto1.2).size
            · exact hj.2
        have hd5 := ((h1.head.kept hm5.2.1 (fun h => h)))
        have c1a : (w1.alloc (.cells #[] 63)).cell? ⟨rb, 1, none⟩ = some pv := (h1.head.kept (S := fun _ => False) ((Turn.refl _ _).alloc _) (fun h => h)).cell 1
        have c5 : w5.cell? ⟨rb, 1, none⟩ = some pv := hd5.cell 1
        have f5 : w5.frozen? ⟨rb, 1, none⟩ = false := hd5.frozen 1
        obtain ⟨o2, c2, hv2⟩ : ∃ ao c, v2 = .slice ao pl.length c := by
          rcases row_shape hm2.1 with ⟨rfl, h0⟩ | ⟨g, cap, rfl, _⟩
          · exact ⟨none, 0, by rw [h0]⟩
          · exact ⟨_, _, rfl⟩
        obtain ⟨o5, c5', hv5⟩ : ∃ ao c, v5 = .slice ao (pl.length + 1) c := by
          rcases row_shape hm5.1 with ⟨rfl, h0⟩ | ⟨g, cap, rfl, _⟩
          · omega
          · exact ⟨_, _, rfl⟩
        subst hpv hv2 hv5
        have Hto := hide hto
        have Hr2 := hide hr2
        have Hr3 := hide hr3
        have Hr5 := hide hr5
        clear hto hr2 hr3 hr5 hto1 hok hs5 t5 hm5 ho5 hg5 hk5 hrow3 hA tb hmd3 hk3' hk3 hg3 ho3 hs2 ta hs1 hm2 hpl h1 Hcall hd5 t1
        go_wp2_with (first
          | (at_builtin; refine wpList_append_run rfl (.tmp 16) (.tmp 20) 43 rfl _ _ _ w2 rfl rfl (unhide Hr2) ?_)
          | (at_builtin; refine wpList_append_run rfl (.tmp 23) (.tmp 24) 27 rfl _ _ _ w3 rfl rfl (unhide Hr3) ?_)
          | (at_builtin; refine wpList_append_run rfl (.tmp 21) (.tmp 27) 43 rfl _ _ _ w5 rfl rfl (unhide Hr5) ?_))
        go_ret
        exact ⟨rfl, unhide Hto⟩

theorem RFit.worked (h : RFit M B s) (hw : s.works ≤ 1073741822) : RFit M B s.worked :=
  ⟨h.many, by show s.works + 1 ≤ _; omega, h.len, h.max, h.lo, h.hi, h.big, h.file, h.more, by have := h.fz; show -1 ≤ if 0 < s.fuse then s.fuse - 1 else s.fuse; split <;> omega, by have := h.fu; show (if 0 < s.fuse then s.fuse - 1 else s.fuse) ≤ _; split <;> omega⟩

theorem RTo.widen {w1 w2 : World} {s' : RSt} (t : Turn (fun j => j = rb) w w1) (hlt : ∀ j, Q j → j < w.heap.size) (hrl : rb < w.heap.size) (h : RTo Q w1 rb s' w2) : RTo Q w rb s' w2 := by
  refine ⟨?_, t.trans h.2⟩
  obtain ⟨kv', pv', kl', pl', h9⟩ := h.1
  have hgr : ∀ j, grow Q w1 w2 j → grow Q w w2 j := fun j hj => hj.imp id (fun h => ⟨Nat.le_trans t.size h.1, h.2⟩)
  refine ⟨kv', pv', kl', pl', h9.head, h9.kept.mono hgr, h9.kis, h9.pend.mono hgr, h9.pis, fun hq => ?_, fun j hj => ?_⟩
  · rcases hq with hq | hq
    · exact h9.out (.inl hq)
    · omega
  · rcases hj with hj | hj
    · exact Nat.lt_of_lt_of_le (hlt j hj) (t.trans h.2).size
    · exact hj.2

set_option maxHeartbeats 2000000 in
set_option maxRecDepth 100000 in
theorem rrem_any (f : Int) (h : RDk Q w rb s) (hf : RFit M B s) (hw : s.works ≤ 1073741822) :
    Calls Try.prog 22 #[.pointer (some ⟨rb, 0, none⟩), .int .i64 f] w fun e w' => e = .returned (.int .i64 (s.rem f).1) ∧ RTo Q w rb (s.rem f).2 w' := by
  have hlt : ∀ j, Q j → j < w.heap.size := by obtain ⟨_, _, _, _, h⟩ := h; exact h.lt
  have hrl : rb < w.heap.size := by obtain ⟨_, _, _, _, h⟩ := h; exact h.head.lt
  by_cases hf0 : f < 0
  · have e1 : s.rem f = (1, s) := if_pos hf0
    rw [e1]
    have Hto := hide (RTo.of h hlt hrl (Turn.refl _ w))
    clear e1 h
    go_enter Try.func22, Try.ntmps22
    go_wp2
    go_ret
    exact ⟨rfl, unhide Hto⟩
  · have hf0' : 0 ≤ f := by omega
    by_cases hd : s.down = true
    · have e1 : s.rem f = (14, s.fall) := by unfold RSt.rem; rw [if_neg hf0, if_pos hd]
      rw [e1]
      have hcall := rworks_down h hd
      have Hcall := hide hcall
      clear e1 h hcall
      go_enter Try.func22, Try.ntmps22
      go_wp2_with fail
      refine (unhide Hcall).mono ?_
      rintro e w1 ⟨rfl, h1, t1⟩
      have Hto := hide (RTo.of h1 hlt hrl t1)
      clear h1 t1 Hcall
      go_wp2
      go_ret
      exact ⟨rfl, unhide Hto⟩
    · have hd' : s.down = false := by simpa using hd
      have hdd : s.dead = false := by
        cases hdd : s.dead with
        | false => rfl
        | true => unfold RSt.down at hd'; rw [hdd] at hd'; simp at hd'
      have hcall := rworks_ok h hd' hf
      have hmany := hf.many
      have hfw := hf.worked hw
      have hrd : s.worked.read f = fil5 s.now f := by unfold RSt.read; rw [show s.worked.dead = s.dead from rfl, hdd]; rfl
      have e1 : s.rem f = (0, if fil5 s.now f = [] then s.worked else s.worked.push (.rem f)) := by unfold RSt.rem; rw [if_neg hf0, if_neg hd]
      rw [e1]
      have Hcall := hide hcall
      clear e1 h hcall
      go_enter Try.func22, Try.ntmps22
      go_wp2_with fail
      refine (unhide Hcall).mono ?_
      rintro e w1 ⟨rfl, h1, t1⟩
      have H1 := hide (And.intro h1 t1)
      clear h1 t1 Hcall
      go_wp2_with fail
      refine (rread_any f (unhide H1).1 hfw).mono ?_
      rintro e w1b ⟨v, rfl, hsv, _, tr⟩
      rw [hrd] at hsv
      have hkb := (unhide H1).1.keeps tr (fun _ _ h => h) (fun h => h)
      have t1b : Turn (fun j => j = rb) w w1b := (unhide H1).2.trans (tr.mono (fun _ _ h => h.elim))
      obtain ⟨vo, vc, hve⟩ := hsv.shape
      have hvm := hsv.len
      unfold maxLen at hvm
      subst hve
      by_cases hb0 : fil5 s.now f = []
      · have Hto := hide (RTo.of hkb hlt hrl t1b)
        rw [hb0]
        clear hsv hkb t1b H1 tr hrd
        go_wp2
        go_ret
        exact ⟨rfl, unhide Hto⟩
      · have hbl : 0 < (fil5 s.now f).length := Nat.pos_of_ne_zero fun e => hb0 (List.eq_nil_of_length_eq_zero e)
        have q1 : (0 : Int) < (fil5 s.now f).length := by omega
        obtain ⟨kv, pv, kl, pl, h1⟩ := hkb
        have c1 : w1b.cell? ⟨rb, 1, none⟩ = some pv := h1.head.cell 1
        have c1a : (w1b.alloc (.cells #[] 63)).cell? ⟨rb, 1, none⟩ = some pv := (h1.head.kept (S := fun _ => False) ((Turn.refl _ _).alloc _) (fun h => h)).cell 1
        obtain ⟨po, pc, hpv⟩ := h1.pend.shape
        have hpl : pl.length = s.pend.length := by have := congrArg List.length h1.pis; rw [List.length_map] at this; exact this
        obtain ⟨v2, w2, hr2, hm2⟩ := h1.pend.push (by omega)
        have tb : Turn (fun _ => False) w2 (w2.alloc (.cells #[.int .i64 f, .bool true, .slice none 0 0] 63)) := (Turn.refl _ _).alloc _
        have hA := At.new 63 w2 #[.int .i64 f, .bool true, .slice none 0 0]
        obtain ⟨v5, w5, hr5, ho5, hg5, hk5⟩ := append_ops _ v2 pl.length (rcells pl) (row_kept hm2.1 tb (fun _ _ h => h)) ⟨w2.heap.size, 0, none⟩ 1 1 [.int .i64 f, .bool true, .slice none 0 0] rfl (fun j u hj => by rw [addr_lit, Nat.zero_add, hA.cell j]; simpa using hj) (fun u hu => by simp only [List.mem_cons, List.not_mem_nil, or_false] at hu; rcases hu with rfl | rfl | rfl <;> rfl) (by omega)
        have hm5 := hm2.more tb ho5 hg5 hk5
        have hto := RTo.widen t1b hlt hrl (h1.pushed (o := .rem f) hm5 rfl (show ROk _ _ (DOp.rem f, Value.slice none 0 0) from rfl))
        have hd5 := (h1.head.kept hm5.2.1 (fun h => h))
        have c5 : w5.cell? ⟨rb, 1, none⟩ = some pv := hd5.cell 1
        have f5 : w5.frozen? ⟨rb, 1, none⟩ = false := hd5.frozen 1
        obtain ⟨o2, c2, hv2⟩ : ∃ ao c, v2 = .slice ao pl.length c := by
          rcases row_shape hm2.1 with ⟨rfl, h0⟩ | ⟨g, cap, rfl, _⟩
          · exact ⟨none, 0, by rw [h0]⟩
          · exact ⟨_, _, rfl⟩
        obtain ⟨o5, c5', hv5⟩ : ∃ ao c, v5 = .slice ao (pl.length + 1) c := by
          rcases row_shape hm5.1 with ⟨rfl, h0⟩ | ⟨g, cap, rfl, _⟩
          · omega
          · exact ⟨_, _, rfl⟩
        subst hpv hv2 hv5
        have Hto := hide hto
        have Hr2 := hide hr2
        have Hr5 := hide hr5
        clear hto hr2 hr5 hm5 ho5 hg5 hk5 hA tb hm2 hpl h1 hd5 hsv t1b H1 tr hrd
        go_wp2_with (first
          | (at_builtin; refine wpList_append_run rfl (.tmp 16) (.tmp 20) 43 rfl _ _ _ w2 rfl rfl (unhide Hr2) ?_)
          | (at_builtin; refine wpList_append_run rfl (.tmp 21) (.tmp 24) 43 rfl _ _ _ w5 rfl rfl (unhide Hr5) ?_))
        go_ret
        exact ⟨rfl, unhide Hto⟩

set_option maxHeartbeats 1000000 in
theorem rsync_any (h : RDk Q w rb s) (hf : RFit M B s) (hw : s.works ≤ 1073741822) :
    Calls Try.prog 23 #[.pointer (some ⟨rb, 0, none⟩)] w fun e w' => e = .returned (.int .i64 s.sync.1) ∧ RTo Q w rb s.sync.2 w' := by
  have hlt : ∀ j, Q j → j < w.heap.size := by obtain ⟨_, _, _, _, h⟩ := h; exact h.lt
  have hrl : rb < w.heap.size := by obtain ⟨_, _, _, _, h⟩ := h; exact h.head.lt
  by_cases hd : s.down = true
  · have e1 : s.sync = (14, s.fall) := if_pos hd
    rw [e1]
    have hcall := rworks_down h hd
    have Hcall := hide hcall
    clear e1 h hcall
    go_enter Try.func23, Try.ntmps23
    go_wp2_with fail
    refine (unhide Hcall).mono ?_
    rintro e w1 ⟨rfl, h1, t1⟩
    have Hto := hide (RTo.of h1 hlt hrl t1)
    clear h1 t1 Hcall
    go_wp2
    go_ret
    exact ⟨rfl, unhide Hto⟩
  · have hd' : s.down = false := by simpa using hd
    have e1 : s.sync = (0, { s.worked with kept := s.now, pend := [] }) := if_neg hd
    rw [e1]
    have hcall := rworks_ok h hd' hf
    have hfw := hf.worked hw
    have Hcall := hide hcall
    clear e1 h hcall
    go_enter Try.func23, Try.ntmps23
    go_wp2_with fail
    refine (unhide Hcall).mono ?_
    rintro e w1 ⟨rfl, h1, t1⟩
    have H1 := hide (And.intro h1 t1)
    clear h1 t1 Hcall
    go_wp2_with fail
    refine (rnow_any (unhide H1).1 hfw).mono ?_
    rintro e w2 ⟨v2, l2, rfl, hl2, hm2, t2⟩
    obtain ⟨kv, pv, kl, pl, h1⟩ := (unhide H1).1
    have hh := h1.head.kept t2 (fun h => h)
    obtain ⟨ko, kc, hkv⟩ := h1.kept.shape
    obtain ⟨po, pc, hpv⟩ := h1.pend.shape
    obtain ⟨vo, vc, hv2⟩ := hl2.shape
    have c0 : w2.cell? ⟨rb, 0, none⟩ = some kv := hh.cell 0
    have f0 : w2.frozen? ⟨rb, 0, none⟩ = false := hh.frozen 0
    have hh0 := hh.set 0 v2
    have c1 : (w2.setCell ⟨rb, 0, none⟩ v2).cell? ⟨rb, 1, none⟩ = some pv := hh0.cell 1
    have f1 : (w2.setCell ⟨rb, 0, none⟩ v2).frozen? ⟨rb, 1, none⟩ = false := hh0.frozen 1
    have hh1 := hh0.set 1 (.slice none 0 0)
    have tw : Turn (fun j => j = rb) w2 ((w2.setCell ⟨rb, 0, none⟩ v2).setCell ⟨rb, 1, none⟩ (.slice none 0 0)) := (Turn.at rb 0 _ w2).trans (Turn.at rb 1 _ _)
    have t12 : Turn (fun j => j = rb) w w2 := (unhide H1).2.trans (t2.mono (fun _ _ h => h.elim))
    have hQr : ¬ grow Q w1 w2 rb := fun hq => hq.elim h1.out (fun hq => by have := (unhide H1).2.size; omega)
    have hto : RTo Q w rb { s.worked with kept := s.now, pend := [] } ((w2.setCell ⟨rb, 0, none⟩ v2).setCell ⟨rb, 1, none⟩ (.slice none 0 0)) := by
      refine ⟨⟨v2, .slice none 0 0, l2, [], hh1, ?_, hm2, .inl ⟨rfl, rfl⟩, rfl, fun hq => ?_, fun j hj => ?_⟩, t12.trans tw⟩
      · refine (hl2.kept tw (fun j hj e => hQr (e ▸ hj))).mono (fun j hj => ?_)
        rcases hj with hj | hj
        · exact .inl hj
        · exact .inr ⟨Nat.le_trans (unhide H1).2.size hj.1, Nat.lt_of_lt_of_le hj.2 tw.size⟩
      · rcases hq with hq | hq
        · exact h1.out hq
        · omega
      · rcases hj with hj | hj
        · exact Nat.lt_of_lt_of_le (hlt j hj) (t12.trans tw).size
        · exact hj.2
    subst hkv hpv hv2
    have Hto := hide hto
    clear hto hh hh0 hh1 tw t12 hQr h1 hl2 hm2 t2 H1
    go_wp2
    go_ret
    exact ⟨rfl, unhide Hto⟩

end

end Go.Proofs.Ytnojedjdnecagaa
