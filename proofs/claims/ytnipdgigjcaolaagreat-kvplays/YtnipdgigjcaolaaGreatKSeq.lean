/- Both stores side by side, plainly: from call to call. -/
import Derived.Test.YtnipdgigjcaolaaGreatKSem
namespace Go.Proofs.YtnipdgigjcaolaaGreat
open Go.RowKit

/-- Both live, or their disks alone are dead. -/
structure CplA (i : Nat) (limit : Int) (s : WSt) (r : RSt) (m : List (List UInt8 × List UInt8)) : Prop where
  ps : PSg 100 (110 * i + 110) s.d r
  lim : s.limit = limit
  down : s.down = false
  sem : ∃ F a, a ≤ 2 * i + 1 ∧ s.at' = (a : Nat) ∧ DOk s.d F (a + 1) ∧ (s.d.dead = false → LOk s F a) ∧ replayC (frun F (a + 1)).1 = some m ∧ (frun F (a + 1)).1.length ≤ 6 * i
  lid : Lid (70000 * i) s.d
  size : 0 ≤ s.size ∧ s.size ≤ 1152921504606846976
  small : small7 m
  few : m.length ≤ 6 * i

/-- Both are dead. -/
structure CplD (i : Nat) (d : DSt) (r : RSt) : Prop where
  ps : PSg 100 (110 * i + 110) d r
  dead : d.dead = true
  fal : ∃ k m u, k ≤ 2 * i + 2 ∧ KFallen d k (6 * i) m u ∧ small7 m ∧ small7 u ∧ m.length ≤ 6 * i ∧ u.length ≤ 6 * i
  lid : Lid (70000 * i) d

/-- Both disks may be opened. -/
structure CplO (i : Nat) (d : DSt) (r : RSt) : Prop where
  ps : PSg 100 (110 * i + 110) d r
  live : d.dead = false
  sem : ∃ F n m, n ≤ 2 * i + 2 ∧ DOk d F n ∧ replayC (frun F n).1 = some m ∧ (frun F n).1.length ≤ 6 * i ∧ small7 m ∧ m.length ≤ 6 * i
  lid : Lid (70000 * i) d

section
variable {i : Nat} {limit : Int} {s : WSt} {d : DSt} {r : RSt} {m : List (List UInt8 × List UInt8)}

theorem CplA.up (h : CplA i limit s r m) : CplA (i + 1) limit s r m := by
  obtain ⟨F, a, h1, h2, h3, h4, h5, h6⟩ := h.sem
  exact ⟨h.ps.le (by omega), h.lim, h.down, ⟨F, a, by omega, h2, h3, h4, h5, by omega⟩, h.lid.mono (by omega), h.size, h.small, by have := h.few; omega⟩

theorem CplD.up (h : CplD i d r) : CplD (i + 1) d r := by
  obtain ⟨k, m, u, h1, h2, h3, h4, h5, h6⟩ := h.fal
  exact ⟨h.ps.le (by omega), h.dead, ⟨k, m, u, by omega, h2.mono (by omega), h3, h4, by omega, by omega⟩, h.lid.mono (by omega)⟩

theorem CplA.live (h : CplA i limit s r m) (hd : s.d.dead = false) : CplO i s.d r := by
  obtain ⟨F, a, h1, h2, h3, h4, h5, h6⟩ := h.sem
  exact ⟨h.ps, hd, ⟨F, a + 1, m, by omega, h3, h5, h6, h.small, h.few⟩, h.lid⟩

theorem CplA.crash (h : CplA i limit s r m) (done cut : Int) : CplO i (s.d.crash done cut) (r.crash done cut) := by
  obtain ⟨F, a, h1, h2, h3, h4, h5, h6⟩ := h.sem
  obtain ⟨G, g1, g2⟩ := h3.crash done cut
  exact ⟨h.ps.crash done cut, rfl, ⟨G, a + 1, m, by omega, crash_dok g1, by rw [g2]; exact h5, by rw [g2]; exact h6, h.small, h.few⟩, h.lid.crash done cut⟩

theorem CplD.crash (h : CplD i d r) (done cut : Int) : CplO i (d.crash done cut) (r.crash done cut) := by
  obtain ⟨k, m, u, h1, h2, h3, h4, h5, h6⟩ := h.fal
  obtain ⟨G, z, g1, g2, g3, _, g5, g6⟩ := h2.crash (.inr rfl) done cut h3 h4 h5 h6
  exact ⟨h.ps.crash done cut, rfl, ⟨G, k, z, h1, g1, g2, g3, g5, g6⟩, h.lid.crash done cut⟩

theorem CplA.fuse (h : CplA i limit s r m) (n : Int) (hn : n ≤ 100) : CplA i limit { s with d := s.d.fuse n } (r.setFuse n) m := by
  obtain ⟨F, a, h1, h2, h3, h4, h5, h6⟩ := h.sem
  refine ⟨h.ps.setFuse n hn, h.lim, h.down, ⟨F, a, h1, h2, ⟨h3.holds, h3.rems⟩, fun e => ?_, h5, h6⟩, h.lid, h.size, h.small, h.few⟩
  have h7 := h4 e
  exact ⟨h7.down, h7.dead, ⟨h7.dok.holds, h7.dok.rems⟩, h7.at', h7.is, h7.size⟩

theorem CplD.fuse (h : CplD i d r) (n : Int) (hn : n ≤ 100) : CplD i (d.fuse n) (r.setFuse n) := by
  obtain ⟨k, m, u, h1, h2, h3, h4, h5, h6⟩ := h.fal
  obtain ⟨rx, ry, f1, f2⟩ := h2
  exact ⟨h.ps.setFuse n hn, h.dead, ⟨k, m, u, h1, ⟨rx, ry, f1, f2⟩, h3, h4, h5, h6⟩, h.lid⟩

/-- On a dead disk. -/
theorem CplA.falls (h : CplA i limit s r m) (hd : s.d.dead = true) (f g z : Int) (hf : 0 ≤ f) (hg : 0 ≤ g) (bs : List UInt8) :
    s.keep f z bs = (14, s.fell s.d.fall) ∧ r.keepR g bs = (14, r.fall) ∧ CplD (i + 1) (s.fell s.d.fall).d r.fall := by
  have hdn : s.d.down = true := by unfold DSt.down; rw [hd]; rfl
  have hrn : r.down = true := by rw [h.ps.down]; exact hdn
  refine ⟨?_, ?_, ?_⟩
  · have ha : s.d.add f bs = (14, s.d.fall) := by unfold DSt.add; rw [if_neg (by omega), if_pos hdn]
    unfold WSt.keep
    rw [if_neg (by simp [h.down]), ha, if_pos (by simp)]
  · have ha : r.add g bs = (14, r.fall) := by unfold RSt.add; rw [if_neg (by omega), if_pos hrn]
    unfold RSt.keepR
    rw [ha, if_pos (by simp)]
  · obtain ⟨F, a, h1, h2, h3, h4, h5, h6⟩ := h.sem
    have h7 : DOk s.d.fall F (a + 1) := ⟨h3.holds, h3.rems⟩
    exact ⟨h.ps.fall.le (by omega), rfl, ⟨a + 1, m, m, by omega, ⟨_, _, h7.fallen (frun F (a + 1)).1, h5, h5, by omega, by omega⟩, h.small, h.small, by have := h.few; omega, by have := h.few; omega⟩, h.lid.mono (by omega)⟩

theorem CplA.commit (h : CplA i limit s r m) (hi : i ≤ 45) (xs : List RawC) (hok : (listC xs 6).all Chg.ok = true) :
    (s.commit ((listC xs 6).map Chg.laid)).1 = (r.comR s.at' limit ((listC xs 6).map Chg.laid)).1 ∧
    ((s.commit ((listC xs 6).map Chg.laid)).1 = 0 → CplA (i + 1) limit (s.commit ((listC xs 6).map Chg.laid)).2 (r.comR s.at' limit ((listC xs 6).map Chg.laid)).2.2 ((listC xs 6).foldl turnC m) ∧ (s.commit ((listC xs 6).map Chg.laid)).2.at' = (r.comR s.at' limit ((listC xs 6).map Chg.laid)).2.1) ∧
    ((s.commit ((listC xs 6).map Chg.laid)).1 ≠ 0 → (s.commit ((listC xs 6).map Chg.laid)).1 = 14 ∧ CplD (i + 1) (s.commit ((listC xs 6).map Chg.laid)).2.d (r.comR s.at' limit ((listC xs 6).map Chg.laid)).2.2) := by
  have hlen := listC_ok_len xs 6
  have hlaid := list_laid xs 6 (by omega)
  have hsm := small_fold xs 6 h.small
  have hfit : ∀ x ∈ (listC xs 6).map Chg.laid, x.length ≤ 1048576 := fun x hx => by
    obtain ⟨c, hcin, rfl⟩ := List.mem_map.1 hx
    have := Chg.laid_le c (List.all_eq_true.1 hok c hcin)
    omega
  have hfew := h.few
  by_cases h0 : (listC xs 6).map Chg.laid = []
  · have h00 : listC xs 6 = [] := by simpa using h0
    have e1 : s.commit ((listC xs 6).map Chg.laid) = (0, s) := by unfold WSt.commit; rw [if_pos h0]
    have e2 : r.comR s.at' limit ((listC xs 6).map Chg.laid) = (0, s.at', r) := by unfold RSt.comR; rw [if_pos h0]
    rw [e1, e2, h00]
    exact ⟨rfl, fun _ => ⟨h.up, rfl⟩, fun e => absurd rfl e⟩
  · have e1 : s.commit ((listC xs 6).map Chg.laid) = s.keep s.to.1 s.to.2 (laidOf 1 2 ((listC xs 6).map Chg.laid)) := by unfold WSt.commit; rw [if_neg h0]
    have e2 : r.comR s.at' limit ((listC xs 6).map Chg.laid) = ((r.keepR (r.rto s.at' limit) (laidOf 1 2 ((listC xs 6).map Chg.laid))).1, r.rto s.at' limit, (r.keepR (r.rto s.at' limit) (laidOf 1 2 ((listC xs 6).map Chg.laid))).2) := by unfold RSt.comR; rw [if_neg h0]
    obtain ⟨F, a, h1, h2, h3, h4, h5, h6⟩ := h.sem
    have hto0 : 0 ≤ s.to.1 ∧ s.to.1 ≤ a + 1 := by unfold WSt.to; split <;> simp only [h2] <;> omega
    have hrt0 : 0 ≤ r.rto s.at' limit := by unfold RSt.rto; split <;> omega
    have hlid := (h.lid.commit ((listC xs 6).map Chg.laid)).mono (show _ ≤ 70000 * (i + 1) by omega)
    cases hd : s.d.dead with
    | true =>
      obtain ⟨k1, k2, k3⟩ := h.falls hd s.to.1 (r.rto s.at' limit) s.to.2 hto0.1 hrt0 (laidOf 1 2 ((listC xs 6).map Chg.laid))
      rw [e1, e2, k1, k2]
      exact ⟨rfl, fun e => (by simp at e), fun _ => ⟨rfl, k3⟩⟩
    | false =>
      have hL := h4 hd
      obtain ⟨t1, _⟩ := hL.tos h.ps
      rw [h.lim, ← h2] at t1
      obtain ⟨p1, p2, p3⟩ := h.ps.keep h.down s.to.1 (by omega) s.to.2 (laidOf 1 2 ((listC xs 6).map Chg.laid)) (by omega)
      rw [t1] at p1 p2 p3
      have hout := commit_out hL ((listC xs 6).map Chg.laid) hfit
      have hrep := replay_more h5 hok
      rw [e1, t1] at hout hlid
      rw [e1, e2, t1]
      refine ⟨p1, fun hz => ?_, fun hz => ?_⟩
      · rcases hout with ⟨_, c2, c3, G, b, c4, c5, c6⟩ | ⟨c1, _⟩
        · obtain ⟨q1, q2, q3⟩ := p3 hz
          refine ⟨⟨p2.le (by omega), by rw [q3]; exact h.lim, q1, ⟨G, b, by omega, c4.at', c4.dok, fun _ => c4, by rw [c6]; exact hrep, ?_⟩, hlid, ?_, hsm.1, by omega⟩, q2⟩
          · rw [c6, List.length_append, List.length_map]
            omega
          · have hk := c4.oks hlid (by omega) (by omega)
            exact ⟨hk.size0, hk.size1⟩
        · rw [c1] at hz
          cases hz
      · rcases hout with ⟨c1, _⟩ | ⟨c1, c2, c3, c4⟩
        · exact absurd c1 hz
        · refine ⟨c1, p2.le (by omega), c3, ⟨a + 2, m, (listC xs 6).foldl turnC m, by omega, ⟨_, _, c4, h5, hrep, by omega, ?_⟩, h.small, hsm.1, by omega, by omega⟩, hlid⟩
          rw [List.length_append, List.length_map]
          omega

theorem CplA.checkpoint (h : CplA i limit s r m) (hi : i ≤ 45) (hris : risingK m) (hfk : fitK m) (ns ns' : List Int) (hns : (s.kept (recsOf m)).1 = 0 → (s.kept (recsOf m)).2.d.Nums ns) (hns' : (r.keepR (r.rplace s.at') (laidOf 3 4 (recsOf m))).1 = 0 → (r.keepR (r.rplace s.at') (laidOf 3 4 (recsOf m))).2.Nums ns') :
    (s.checkpoint (recsOf m) ns).1 = (r.ckR (r.rplace s.at') (recsOf m) ns').1 ∧
    ((s.checkpoint (recsOf m) ns).1 = 0 → CplA (i + 1) limit (s.checkpoint (recsOf m) ns).2 (r.ckR (r.rplace s.at') (recsOf m) ns').2 m ∧ (s.checkpoint (recsOf m) ns).2.at' = r.rplace s.at') ∧
    ((s.checkpoint (recsOf m) ns).1 ≠ 0 → (s.checkpoint (recsOf m) ns).1 = 14 ∧ CplD (i + 1) (s.checkpoint (recsOf m) ns).2.d (r.ckR (r.rplace s.at') (recsOf m) ns').2) := by
  have hfew := h.few
  have hlaid := small_laid h.small (by omega)
  have hfit : ∀ x ∈ recsOf m, x.length ≤ 1048576 := fun x hx => by
    obtain ⟨c, hcin, rfl⟩ := List.mem_map.1 hx
    have := Chg.laid_le c (List.all_eq_true.1 (made_ok hfk) c hcin)
    omega
  obtain ⟨F, a, h1, h2, h3, h4, h5, h6⟩ := h.sem
  have hpl0 : 0 ≤ s.place ∧ s.place ≤ a + 1 := by unfold WSt.place; split <;> simp only [h2] <;> omega
  have hrp0 : 0 ≤ r.rplace s.at' := by unfold RSt.rplace; split <;> omega
  have hlid := (h.lid.checkpoint (recsOf m) ns).mono (show _ ≤ 70000 * (i + 1) by omega)
  cases hd : s.d.dead with
  | true =>
    obtain ⟨k1, k2, k3⟩ := h.falls hd s.place (r.rplace s.at') 0 hpl0.1 hrp0 (laidOf 3 4 (recsOf m))
    have e1 : s.checkpoint (recsOf m) ns = (14, s.fell s.d.fall) := by
      unfold WSt.checkpoint WSt.kept
      rw [k1, if_neg (by simp)]
    have e2 : r.ckR (r.rplace s.at') (recsOf m) ns' = (14, r.fall) := by
      unfold RSt.ckR
      rw [k2, if_neg (by simp)]
    rw [e1, e2]
    exact ⟨rfl, fun e => (by simp at e), fun _ => ⟨rfl, k3⟩⟩
  | false =>
    have hL := h4 hd
    obtain ⟨_, t1⟩ := hL.tos h.ps
    rw [← h2] at t1
    obtain ⟨p1, p2, p3⟩ := h.ps.keep h.down s.place (by omega) 0 (laidOf 3 4 (recsOf m)) (by omega)
    have hout := checkpoint_out hL (recsOf m) hfit ns hns
    have hrep := replay_made hris hfk
    have hrl : (recsOf m).length = m.length := by unfold recsOf madeC; simp
    rw [← t1] at hns' ⊢
    have key : (s.checkpoint (recsOf m) ns).1 = (r.ckR s.place (recsOf m) ns').1 ∧ PSg 100 (110 * (i + 1) + 110) (s.checkpoint (recsOf m) ns).2.d (r.ckR s.place (recsOf m) ns').2 ∧ ((s.checkpoint (recsOf m) ns).1 = 0 → (s.checkpoint (recsOf m) ns).2.down = false ∧ (s.checkpoint (recsOf m) ns).2.at' = s.place ∧ (s.checkpoint (recsOf m) ns).2.limit = s.limit) := by
      have ek : s.kept (recsOf m) = s.keep s.place 0 (laidOf 3 4 (recsOf m)) := rfl
      unfold WSt.checkpoint RSt.ckR
      rw [ek] at hns ⊢
      by_cases hz : (s.keep s.place 0 (laidOf 3 4 (recsOf m))).1 = 0
      · rw [if_pos hz, if_pos (by rw [← p1]; exact hz)]
        obtain ⟨q1, q2, q3⟩ := p3 hz
        have hn1 := hns hz
        have hn2 := hns' (by rw [← p1]; exact hz)
        obtain rfl := p2.same hn1 hn2
        have hb : ∀ k ∈ ns, k < ((100 : Nat) : Int) := fun k hk => (p2.few k ((hn1.2 k).1 hk)).2
        obtain ⟨c1, c2⟩ := p2.clears q1 ns hb (p2.nums hn1)
        rw [q2] at c1 c2
        refine ⟨c1, c2.le (by omega), fun hz2 => ?_⟩
        unfold WSt.clears WSt.done at hz2 ⊢
        have hra := WSt.rms_at (s.keep s.place 0 (laidOf 3 4 (recsOf m))).2 (ns.filter (· < (s.keep s.place 0 (laidOf 3 4 (recsOf m))).2.at'))
        by_cases hx : ((s.keep s.place 0 (laidOf 3 4 (recsOf m))).2.rms (ns.filter (· < (s.keep s.place 0 (laidOf 3 4 (recsOf m))).2.at'))).down = true
        · rw [if_pos hx] at hz2
          cases hz2
        · rw [if_neg hx] at hz2 ⊢
          by_cases hy : ((s.keep s.place 0 (laidOf 3 4 (recsOf m))).2.rms (ns.filter (· < (s.keep s.place 0 (laidOf 3 4 (recsOf m))).2.at'))).d.sync.1 ≠ 0
          · rw [if_pos hy] at hz2
            cases hz2
          · rw [if_neg hy]
            exact ⟨by simpa using hx, hra.1.trans q2, hra.2.1.trans q3⟩
      · rw [if_neg hz, if_neg (by rw [← p1]; exact hz)]
        exact ⟨p1, p2.le (by omega), fun e => absurd e hz⟩
    obtain ⟨k1, k2, k3⟩ := key
    refine ⟨k1, fun hz => ?_, fun hz => ?_⟩
    · obtain ⟨q1, q2, q3⟩ := k3 hz
      rcases hout with ⟨_, c2, c3, G, b, c4, c5, c6, _, _, _⟩ | ⟨c1, _⟩
      · have hk := c4.oks hlid (by omega) (by omega)
        exact ⟨⟨k2, by rw [q3]; exact h.lim, q1, ⟨G, b, by omega, c4.at', c4.dok, fun _ => c4, by rw [c6]; exact hrep, by rw [c6, hrl]; omega⟩, hlid, ⟨hk.size0, hk.size1⟩, h.small, by omega⟩, q2⟩
      · rw [c1] at hz
        cases hz
    · rcases hout with ⟨c1, _⟩ | ⟨c1, c2, c3, c4⟩
      · exact absurd c1 hz
      · exact ⟨c1, k2, c3, ⟨a + 2, m, m, by omega, ⟨_, _, c4, h5, hrep, by omega, by omega⟩, h.small, h.small, by omega, by omega⟩, hlid⟩

theorem CplO.opened (h : CplO i d r) (limit : Int) {ns ns' : List Int} (hn : d.Nums ns) (hn' : r.Nums ns') :
    ∃ y q m, openN d.read ns (HSt.zero, 0) = some y ∧ openR r.read ns' ⟨[], -1, 0⟩ = some q ∧ replayC y.1.recs = some m ∧ replayC q.out = some m ∧ q.next = y.2 ∧ y.1.recs.length ≤ 6 * i ∧ y.1.recs = q.out ∧
      CplA (i + 1) limit ⟨d.gone (ns.filter (· < y.1.since)), limit, y.2, 0, false⟩ (r.goneR (ns'.filter (· < q.since))) m := by
  obtain rfl := h.ps.same hn hn'
  obtain ⟨F, n, m, h1, h2, h3, h4, h5, h6⟩ := h.sem
  obtain ⟨y, a, o1, o2, o3, o4, o5, o6⟩ := open_any_out h2 h.live limit hn
  rcases h.ps.opens ns with ⟨e1, _⟩ | ⟨y', q, e1, e2, e3, e4, e5⟩
  · rw [o1] at e1
    cases e1
  · rw [o1] at e1
    injection e1 with e1
    subst e1
    have hpos : ∀ k ∈ ns, 0 ≤ k ∧ k < ((100 : Nat) : Int) := fun k hk => h.ps.few k ((hn.2 k).1 hk)
    have hfl := e5 (fun k hk => (hpos k hk).1)
    have hlen : (ns.filter (· < y.since)).length ≤ 100 := Nat.le_trans (List.length_filter_le _ _) (h.ps.nums hn)
    have hps := (h.ps.gone (ns.filter (· < y.since)) (fun k hk => (hpos k (List.mem_filter.1 hk).1).2)).le (show _ ≤ 110 * (i + 1) + 110 by omega)
    refine ⟨(y, (a : Int)), q, m, o1, e2, by rw [o2]; exact h3, by rw [← e3, o2]; exact h3, e4.symm, by rw [o2]; exact h4, e3, ?_⟩
    rw [← hfl]
    exact ⟨hps, rfl, rfl, ⟨F, a, by omega, rfl, o5, o6, by rw [o4]; exact h3, by rw [o4]; omega⟩, (Lid.gone _ h.lid).mono (by omega), by simp, h5, by omega⟩

end

end Go.Proofs.YtnipdgigjcaolaaGreat
