/- The reference's Disk: what each call leaves. -/
import Derived.Test.YtnojedjdnecagaaR5D
namespace Go.Proofs.Ytnojedjdnecagaa
open Go.RowKit

namespace RSt
def zero : RSt := ⟨[], [], -1, false, 0⟩
def now (s : RSt) : List (List UInt8) := nowL s.kept s.pend
def down (s : RSt) : Bool := s.dead || s.fuse == 0
def fall (s : RSt) : RSt := { s with dead := true }
def worked (s : RSt) : RSt := { s with fuse := if 0 < s.fuse then s.fuse - 1 else s.fuse, works := s.works + 1 }
def push (s : RSt) (o : DOp) : RSt := { s with pend := s.pend ++ [o] }
def read (s : RSt) (k : Int) : List UInt8 := if s.dead then [] else fil5 s.now k
def add (s : RSt) (f : Int) (bs : List UInt8) : Int × RSt := if f < 0 then (1, s) else if s.down then (14, s.fall) else (0, if bs = [] then s.worked else s.worked.push (.lay f bs))
def rem (s : RSt) (f : Int) : Int × RSt := if f < 0 then (1, s) else if s.down then (14, s.fall) else (0, if fil5 s.now f = [] then s.worked else s.worked.push (.rem f))
def sync (s : RSt) : Int × RSt := if s.down then (14, s.fall) else (0, { s.worked with kept := s.now, pend := [] })
def setFuse (s : RSt) (n : Int) : RSt := { s with fuse := if -1 < n then n else -1 }
end RSt

/-- A call has turned the reference's Disk alone. -/
def RTo (Q : Nat → Prop) (w : World) (rb : Nat) (s : RSt) (w' : World) : Prop := RDk (grow Q w w') w' rb s ∧ Turn (fun j => j = rb) w w'

section
variable {Q : Nat → Prop} {w : World} {rb : Nat} {s : RSt} {M B : Nat}

theorem RD.rehead {kv pv : Value} {kl : List (Value × List UInt8)} {pl : List (DOp × Value)} {w' : World} {s' : RSt} (h : RD Q w rb s kv pv kl pl) (t : Turn (fun j => j = rb) w w') (hat : At 45 w' rb #[kv, pv, .int .i64 s'.fuse, .bool s'.dead, .int .i64 s'.works]) (hk : s'.kept = s.kept) (hp : s'.pend = s.pend) : RD Q w' rb s' kv pv kl pl :=
  ⟨hat, h.kept.kept t (fun j hj e => h.out (e ▸ hj)), by rw [hk, h.kis], h.pend.kept t (fun j hj e => h.out (e ▸ hj)), by rw [hp, h.pis], h.out, fun j hj => Nat.lt_of_lt_of_le (h.lt j hj) t.size⟩

theorem RTo.of {w' : World} {s' : RSt} (h : RDk Q w' rb s') (hl : ∀ j, Q j → j < w.heap.size) (hrb : rb < w.heap.size) (t : Turn (fun j => j = rb) w w') : RTo Q w rb s' w' := by
  obtain ⟨kv, pv, kl, pl, h⟩ := h
  refine ⟨⟨kv, pv, kl, pl, h.head, h.kept.mono (fun _ h => .inl h), h.kis, h.pend.mono (fun _ h => .inl h), h.pis, fun hq => ?_, fun j hj => hj.elim (fun h => Nat.lt_of_lt_of_le (hl j h) t.size) (fun h => h.2)⟩, t⟩
  rcases hq with hq | hq
  · exact h.out hq
  · omega

set_option maxHeartbeats 400000 in
theorem rnew_any (w : World) : Calls Try.prog 20 #[] w fun e w' => e = .returned (.pointer (some ⟨w.heap.size, 0, none⟩)) ∧ RDk (fun _ => False) w' w.heap.size RSt.zero ∧ w' = w.alloc (.cells #[.slice none 0 0, .slice none 0 0, .int .i64 (-1), .bool false, .int .i64 0] 45) := by
  go_enter Try.func20, Try.ntmps20
  go_wp2
  go_ret
  exact ⟨rfl, ⟨.slice none 0 0, .slice none 0 0, [], [], At.new _ _ _, RL.nil _ _, rfl, .inl ⟨rfl, rfl⟩, rfl, fun h => h, fun _ h => h.elim⟩, rfl⟩

set_option maxHeartbeats 400000 in
theorem rfuse_any (n : Int) (h : RDk Q w rb s) : Calls Try.prog 25 #[.pointer (some ⟨rb, 0, none⟩), .int .i64 n] w fun e w' => e = .returned (.tuple #[]) ∧ RDk Q w' rb (s.setFuse n) ∧ Turn (fun j => j = rb) w w' := by
  obtain ⟨kv, pv, kl, pl, h⟩ := h
  have c2 : w.cell? ⟨rb, 2, none⟩ = some (.int .i64 s.fuse) := h.head.cell 2
  have f2 : w.frozen? ⟨rb, 2, none⟩ = false := h.head.frozen 2
  by_cases hn : -1 < n
  · have hs := h.head.set 2 (.int .i64 n)
    have hfin : RDk Q (w.setCell ⟨rb, 2, none⟩ (.int .i64 n)) rb (s.setFuse n) := ⟨kv, pv, kl, pl, h.rehead (Turn.at rb 2 _ w) (by have e : (s.setFuse n).fuse = n := if_pos hn; rw [e]; exact hs) rfl rfl⟩
    have Hfin := hide hfin
    clear h hs hfin
    go_enter Try.func25, Try.ntmps25
    go_wp2
    go_end0
    exact ⟨rfl, unhide Hfin, Turn.at rb 2 _ w⟩
  · have hn' : n ≤ -1 := by omega
    have hs := h.head.set 2 (.int .i64 (-1))
    have hfin : RDk Q (w.setCell ⟨rb, 2, none⟩ (.int .i64 (-1))) rb (s.setFuse n) := ⟨kv, pv, kl, pl, h.rehead (Turn.at rb 2 _ w) (by have e : (s.setFuse n).fuse = -1 := if_neg hn; rw [e]; exact hs) rfl rfl⟩
    have Hfin := hide hfin
    clear h hs hfin
    go_enter Try.func25, Try.ntmps25
    go_wp2
    go_end0
    exact ⟨rfl, unhide Hfin, Turn.at rb 2 _ w⟩

set_option maxHeartbeats 1000000 in
theorem rworks_down (h : RDk Q w rb s) (hd : s.down = true) : Calls Try.prog 36 #[.pointer (some ⟨rb, 0, none⟩)] w fun e w' => e = .returned (.bool false) ∧ RDk Q w' rb s.fall ∧ Turn (fun j => j = rb) w w' := by
  obtain ⟨kv, pv, kl, pl, h⟩ := h
  have c2 : w.cell? ⟨rb, 2, none⟩ = some (.int .i64 s.fuse) := h.head.cell 2
  have c3 : w.cell? ⟨rb, 3, none⟩ = some (.bool s.dead) := h.head.cell 3
  have f3 : w.frozen? ⟨rb, 3, none⟩ = false := h.head.frozen 3
  have hs := h.head.set 3 (.bool true)
  by_cases hdd : s.dead = true
  · have hfin : RDk Q w rb s.fall := ⟨kv, pv, kl, pl, h.rehead (Turn.refl _ w) (by have := h.head; rw [hdd] at this; exact this) rfl rfl⟩
    rw [hdd] at c3
    have Hfin := hide hfin
    clear h hs hfin
    go_enter Try.func36, Try.ntmps36
    go_wp2
    go_ret
    exact ⟨rfl, unhide Hfin, Turn.refl _ _⟩
  · have hdf : s.dead = false := by simpa using hdd
    have h0 : s.fuse = 0 := by
      unfold RSt.down at hd
      rw [hdf] at hd
      simpa using hd
    rw [hdf] at c3
    rw [h0] at c2
    have hfin : RDk Q (w.setCell ⟨rb, 3, none⟩ (.bool true)) rb s.fall := ⟨kv, pv, kl, pl, h.rehead (Turn.at rb 3 _ w) hs rfl rfl⟩
    have Hfin := hide hfin
    clear h hs hfin
    go_enter Try.func36, Try.ntmps36
    go_wp2
    go_ret
    exact ⟨rfl, unhide Hfin, Turn.at rb 3 _ w⟩

set_option maxHeartbeats 1000000 in
theorem rworks_ok (h : RDk Q w rb s) (hd : s.down = false) (hf : RFit M B s) : Calls Try.prog 36 #[.pointer (some ⟨rb, 0, none⟩)] w fun e w' => e = .returned (.bool true) ∧ RDk Q w' rb s.worked ∧ Turn (fun j => j = rb) w w' := by
  obtain ⟨kv, pv, kl, pl, h⟩ := h
  have c2 : w.cell? ⟨rb, 2, none⟩ = some (.int .i64 s.fuse) := h.head.cell 2
  have c3 : w.cell? ⟨rb, 3, none⟩ = some (.bool s.dead) := h.head.cell 3
  have c4 : w.cell? ⟨rb, 4, none⟩ = some (.int .i64 s.works) := h.head.cell 4
  have f2 : w.frozen? ⟨rb, 2, none⟩ = false := h.head.frozen 2
  have f4 : w.frozen? ⟨rb, 4, none⟩ = false := h.head.frozen 4
  have hdf : s.dead = false := by
    cases hdd : s.dead with
    | false => rfl
    | true => unfold RSt.down at hd; rw [hdd] at hd; simp at hd
  have h0 : ¬ s.fuse = 0 := by
    intro e
    unfold RSt.down at hd
    rw [e] at hd
    simp at hd
  have h0' : (s.fuse == 0) = false := by simpa using h0
  have hfz := hf.fz
  have hfu := hf.fu
  have hwk := hf.works
  have hw' : ((s.works + 1 : Nat) : Int) = (s.works : Int) + 1 := by omega
  rw [hdf] at c3
  by_cases hp : 0 < s.fuse
  · have hs2 := h.head.set 2 (.int .i64 (s.fuse - 1))
    have c4' : (w.setCell ⟨rb, 2, none⟩ (.int .i64 (s.fuse - 1))).cell? ⟨rb, 4, none⟩ = some (.int .i64 s.works) := hs2.cell 4
    have f4' : (w.setCell ⟨rb, 2, none⟩ (.int .i64 (s.fuse - 1))).frozen? ⟨rb, 4, none⟩ = false := hs2.frozen 4
    have hs := hs2.set 4 (.int .i64 ((s.works + 1 : Nat) : Int))
    have hfin : RDk Q ((w.setCell ⟨rb, 2, none⟩ (.int .i64 (s.fuse - 1))).setCell ⟨rb, 4, none⟩ (.int .i64 ((s.works : Int) + 1))) rb s.worked := by
      rw [← hw']
      refine ⟨kv, pv, kl, pl, h.rehead ((Turn.at rb 2 _ w).trans (Turn.at rb 4 _ _)) ?_ rfl rfl⟩
      have e1 : s.worked.fuse = s.fuse - 1 := if_pos hp
      rw [e1]
      exact hs
    have Hfin := hide hfin
    clear h hs hs2 hfin hw'
    go_enter Try.func36, Try.ntmps36
    go_wp2
    go_ret
    exact ⟨rfl, unhide Hfin, (Turn.at rb 2 _ w).trans (Turn.at rb 4 _ _)⟩
  · have hs := h.head.set 4 (.int .i64 ((s.works + 1 : Nat) : Int))
    have hfin : RDk Q (w.setCell ⟨rb, 4, none⟩ (.int .i64 ((s.works : Int) + 1))) rb s.worked := by
      rw [← hw']
      refine ⟨kv, pv, kl, pl, h.rehead (Turn.at rb 4 _ w) ?_ rfl rfl⟩
      have e1 : s.worked.fuse = s.fuse := if_neg hp
      rw [e1]
      exact hs
    have Hfin := hide hfin
    clear h hs hfin hw'
    go_enter Try.func36, Try.ntmps36
    go_wp2
    go_ret
    exact ⟨rfl, unhide Hfin, Turn.at rb 4 _ w⟩

set_option maxHeartbeats 1000000 in
theorem rread_any (k : Int) (h : RDk Q w rb s) (hf : RFit M B s) : Calls Try.prog 29 #[.pointer (some ⟨rb, 0, none⟩), .int .i64 k] w fun e w' => ∃ v, e = .returned v ∧ Sees w' v (s.read k) ∧ (0 < (s.read k).length → ∀ j, slab v = some j → grow Q w w' j) ∧ Turn (fun _ => False) w w' := by
  have hcall := rnow_any h hf
  obtain ⟨kv, pv, kl, pl, h⟩ := h
  have c3 : w.cell? ⟨rb, 3, none⟩ = some (.bool s.dead) := h.head.cell 3
  have hrl := h.head.lt
  have Hcall := hide hcall
  clear hcall h
  go_enter Try.func29, Try.ntmps29
  go_wp2_with fail
  refine (unhide Hcall).mono ?_
  rintro e w1 ⟨v1, l1, rfl, hl1, hm1, t1⟩
  have d3 : w1.cell? ⟨rb, 3, none⟩ = some (.bool s.dead) := (t1.cell (p := ⟨rb, 3, none⟩) hrl (fun h => h)).trans c3
  obtain ⟨vo, vc, hv1⟩ := hl1.shape
  have hlen := hl1.len
  unfold maxLen at hlen
  clear Hcall
  by_cases hd : s.dead = true
  · have e1 : s.read k = [] := if_pos hd
    rw [hd] at d3
    have E1 := hide e1
    clear e1
    subst hv1
    go_wp2
    go_ret
    exact ⟨_, rfl, by rw [unhide E1]; exact Sees.nil _, fun h => by rw [unhide E1] at h; simp at h, t1⟩
  · have hd' : s.dead = false := by simpa using hd
    have e1 : s.read k = fil5 s.now k := if_neg hd
    rw [hd'] at d3
    have hnone : ∀ k' : Int, (k' < 0 ∨ (l1.length : Int) ≤ k') → fil5 s.now k' = [] := by
      intro k' hk'
      unfold fil5
      split
      · have : (nowL s.kept s.pend).length = l1.length := by rw [← hm1]; simp
        rw [List.getD_eq_getElem?_getD, List.getElem?_eq_none (by show (nowL s.kept s.pend).length ≤ _; omega)]
        rfl
      · rfl
    by_cases hk0 : k < 0
    · have E1 := hide (e1.trans (hnone k (.inl hk0)))
      clear e1 hnone
      subst hv1
      go_wp2
      go_ret
      exact ⟨_, rfl, by rw [unhide E1]; exact Sees.nil _, fun h => by rw [unhide E1] at h; simp at h, t1⟩
    · have hk0' : 0 ≤ k := by omega
      by_cases hkl : (l1.length : Int) ≤ k
      · have E1 := hide (e1.trans (hnone k (.inr hkl)))
        clear e1 hnone
        subst hv1
        go_wp2
        go_ret
        exact ⟨_, rfl, by rw [unhide E1]; exact Sees.nil _, fun h => by rw [unhide E1] at h; simp at h, t1⟩
      · obtain ⟨n, rfl⟩ : ∃ n : Nat, k = (n : Int) := ⟨k.toNat, by omega⟩
        have hn : n < l1.length := by omega
        have hkl' : (n : Int) < l1.length := by omega
        obtain ⟨g, cap, ao, m, c, hv, hv2, hmm, hc⟩ := hl1.at n hn
        rw [hv] at hv1
        injection hv1 with e2 e3 e4
        subst hv
        obtain ⟨hs, hsl⟩ := hl1.each l1[n] (List.getElem_mem hn)
        have e5 : fil5 s.now n = l1[n].2 := by
          unfold fil5
          rw [if_pos (by omega), Int.toNat_natCast]
          show (nowL s.kept s.pend).getD n [] = _
          rw [← hm1, List.getD_eq_getElem?_getD, List.getElem?_map, List.getElem?_eq_getElem hn]
          rfl
        have hcap : cap ≤ 9223372036854775807 ∧ l1.length ≤ cap := by
          rcases hl1 with ⟨h0, _⟩ | ⟨g', cap', h0, h1, h2, _⟩
          · simp at h0
          · injection h0 with a1 a2 a3; subst a3; exact ⟨h2, h1⟩
        rw [hv2, ← e5, ← e1] at hs hsl
        have Hs := hide (And.intro hs hsl)
        clear hs hsl e5 hv2 hm1 hl1 hnone e1 e2 e4 e3 hmm
        go_wp2
        go_ret
        exact ⟨_, rfl, (unhide Hs).1, (unhide Hs).2, t1⟩

end

end Go.Proofs.Ytnojedjdnecagaa
