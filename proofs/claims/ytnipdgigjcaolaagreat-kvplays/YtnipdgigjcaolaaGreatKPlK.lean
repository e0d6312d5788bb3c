/- Both stores side by side in memory: Checkpoint, Fuse. -/
import Derived.Test.YtnipdgigjcaolaaGreatKPl
namespace Go.Proofs.YtnipdgigjcaolaaGreat
open Go.RowKit

section
variable {M N : Nat} {s : DSt} {r : RSt}

theorem PSg.rem_far (h : PSg M N s r) (f : Int) : PSg M (N + 1) (s.rem f).2 (r.rem f).2 := by
  by_cases hf : f < (M : Int)
  · exact (h.rem f hf).2
  · have hn : s.now f = [] := by
      rw [← h.now]
      unfold fil5
      rw [if_pos (by omega)]
      have hl := h.nlen r.pend.length
      rw [List.take_length] at hl
      have hle : (RSt.now r).length ≤ f.toNat := by unfold RSt.now; omega
      simp [List.getD, List.getElem?_eq_none hle]
    unfold RSt.rem DSt.rem
    have h0 : ¬ f < 0 := by omega
    rw [h.down, h.now, if_neg h0, if_neg h0]
    by_cases hd : s.down = true
    · rw [if_pos hd, if_pos hd]; exact h.fall
    · rw [if_neg hd, if_neg hd]
      unfold DSt.rems
      rw [if_pos hn, if_pos hn]
      exact h.worked (by simpa using hd)

theorem PSg.gone_far (h : PSg M N s r) (l : List Int) : PSg M (N + l.length) (s.gone l) (r.goneR l) := by
  induction l generalizing N s r with
  | nil => exact h
  | cons k q ih =>
    have h2 := ih (h.rem_far k)
    rw [List.length_cons, show N + (q.length + 1) = N + 1 + q.length by omega]
    exact h2

end

section
variable {w0 w w1 : World} {K Q Z : Nat → Prop} {sb mb l b f t N tb l' rb i xb : Nat} {seg now x1 x2 x3 : Int} {xv : Value} {s : WSt} {r : RSt} {m : List (List UInt8 × List UInt8)}

/-- Bounds under which the reference's Checkpoint ends. -/
structure FitK7 (r : RSt) (now : Int) (recs : List (List UInt8)) : Prop where
  hf : RFit 100 10485760000 r
  hf2 : RFit 100 10485760000 (r.add (r.rplace now) (laidOf 3 4 recs)).2
  hw : (r.add (r.rplace now) (laidOf 3 4 recs)).2.works ≤ 1073741822
  hn0 : 0 ≤ now
  hn1 : now ≤ 1099511627776
  hrm : ∀ L : List Int, L.length ≤ 100 → RFit 100 10485760000 ((r.keepR (r.rplace now) (laidOf 3 4 recs)).2.goneR L) ∧ ((r.keepR (r.rplace now) (laidOf 3 4 recs)).2.goneR L).works ≤ 1073741822

theorem CplA.fitK (h : CplA i seg s r m) (hi : i ≤ 41) (recs : List (List UInt8)) (hlen : (laidOf 3 4 recs).length ≤ 70000) : FitK7 r s.at' recs := by
  obtain ⟨n0, n1⟩ := h.now_bounds
  have hrt : r.rplace s.at' < ((100 : Nat) : Int) := by unfold RSt.rplace; split <;> omega
  obtain ⟨f1, f2⟩ := h.ps.fits (by omega) (by omega)
  obtain ⟨g1, g2⟩ := ((h.ps.add (r.rplace s.at') hrt (laidOf 3 4 recs) (by omega)).2).fits (by omega) (by omega)
  refine ⟨f1, g1, g2, n0, by omega, fun L hL => ?_⟩
  have hk := (h.ps.keep h.down (r.rplace s.at') hrt 0 (laidOf 3 4 recs) (by omega)).2.1
  exact (hk.gone_far L).fits (by omega) (by omega)

/-- The program has made its checkpoint, the reference not yet. -/
def HalfK (w0 w : World) (K : Nat → Prop) (b rb sb tb : Nat) (seg : Int) (i : Nat) (k : Int) : Prop :=
  ∃ l' m r now, ∃ Q Z : Nat → Prop, RSr Q Z w tb l' rb seg now r m ∧ FitK7 r now (recsOf m) ∧ fitK m ∧ m.length ≤ 1000 ∧ (laidOf 3 4 (recsOf m)).length ≤ 70000 ∧
  ((k = 14 ∧ ∃ l f t s, KD w0 K w sb l b f t (110 * (i + 1) + 110) s ∧ (∀ ns', ((r.keepR (r.rplace now) (laidOf 3 4 (recsOf m))).1 = 0 → (r.keepR (r.rplace now) (laidOf 3 4 (recsOf m))).2.Nums ns') → (r.ckR (r.rplace now) (recsOf m) ns').1 = 14 ∧ CplD (i + 1) s.d (r.ckR (r.rplace now) (recsOf m) ns').2) ∧ ∀ j, (Q j ∨ Z j ∨ j = rb ∨ j = l' ∨ j = tb) → K j ∧ j ≠ sb) ∨
   (k = 0 ∧ ∃ mb l f t s, KS w0 K w sb mb l b f t (110 * (i + 1) + 110) s m ∧ s.at' = r.rplace now ∧ (∀ ns', ((r.keepR (r.rplace now) (laidOf 3 4 (recsOf m))).1 = 0 → (r.keepR (r.rplace now) (laidOf 3 4 (recsOf m))).2.Nums ns') → (r.ckR (r.rplace now) (recsOf m) ns').1 = 0 ∧ CplA (i + 1) seg s (r.ckR (r.rplace now) (recsOf m) ns').2 m) ∧ ∀ j, (Q j ∨ Z j ∨ j = rb ∨ j = l' ∨ j = tb) → K j ∧ j ≠ sb ∧ j ≠ mb))

theorem pl_check_s (h : PlA w0 w K b rb sb tb seg i) (hi : i ≤ 41) :
    Calls Tryz.prog 27 #[.pointer (some ⟨sb, 0, none⟩)] w fun e w6 => ∃ k K', e = .returned (.int .i64 k) ∧ HalfK w0 w6 K' b rb sb tb seg i k ∧ (∀ j, K' j → w0.heap.size ≤ j) ∧ Turn (fun j => w0.heap.size ≤ j) w w6 := by
  obtain ⟨mb, l, f, t, l', s, m, r, Q, Z, hk, hr, hA, hap⟩ := h.is
  have hnow := hA.lid.now s.place
  have hf := hA.few
  have hlaid := small_laid hA.small (by omega)
  have hok : s.Ok := by
    obtain ⟨n0, n1⟩ := hA.now_bounds
    exact ⟨n0, by omega, hA.size.1, hA.size.2⟩
  have hris := hk.rising
  have hfit := hk.fit
  have hM : ∀ ns, (s.kept (recsOf m)).2.d.Nums ns → ns.length ≤ 100 := fun ns hns => by
    have hpl : s.place < ((100 : Nat) : Int) := by
      obtain ⟨n0, n1⟩ := hA.now_bounds
      unfold WSt.place; split <;> omega
    have hps := (hA.ps.keep hA.down s.place hpl 0 (laidOf 3 4 (recsOf m)) (by omega)).2.1
    exact hps.nums hns
  refine (kcheckpoint_any 100 hk hok (by omega) (by omega) hM (by omega)).mono ?_
  rintro e w6 ⟨tn, K', hkk, ns, hns, hh⟩
  have hr6 := hr.kept tn (fun j hj e => by
    have h1 := hap j hj
    rcases e with e | e | e
    · exact e.2 h1.1
    · exact h1.2.1 e
    · exact h1.2.2 e)
  have hap6 : ∀ j, (Q j ∨ Z j ∨ j = rb ∨ j = l' ∨ j = tb) → K' j ∧ j ≠ sb ∧ j ≠ mb := fun j hj => ⟨hkk j (hap j hj).1, (hap j hj).2⟩
  have hw0 : ∀ j, K j → w0.heap.size ≤ j := fun j hj => ((hk.li.dl.less (K2 := K) (fun j hj => .inl hj)).held j hj).1
  have hmbK : K mb := by obtain ⟨m', h1, _⟩ := hk.mp; exact h1.own
  have htn : Turn (fun j => w0.heap.size ≤ j) w w6 := tn.mono (fun j _ e => by
    rcases e with e | e | e
    · exact e.1
    · rw [e]; exact hw0 _ hk.ks
    · rw [e]; exact hw0 _ hmbK)
  have hfc := hA.fitK hi (recsOf m) hlaid
  have hcp := fun ns' hns' => hA.checkpoint (by omega) hris hfit ns ns' hns hns'
  rcases hh with ⟨hz, rfl, h1⟩ | ⟨hz, rfl, h1⟩
  · refine ⟨14, K', rfl, ⟨l', m, r, s.at', Q, Z, hr6, hfc, hfit, by omega, hlaid, .inl ⟨rfl, l, f, t, _, h1.mono (by omega), fun ns' hns' => ?_, fun j hj => ⟨(hap6 j hj).1, (hap6 j hj).2.1⟩⟩⟩, fun j hj => ((h1.li.dl.less (K2 := K') (fun j hj => .inl hj)).held j hj).1, htn⟩
    obtain ⟨p1, _, p3⟩ := hcp ns' hns'
    obtain ⟨q1, q2⟩ := p3 hz
    exact ⟨by rw [← p1]; exact q1, q2⟩
  · refine ⟨0, K', rfl, ⟨l', m, r, s.at', Q, Z, hr6, hfc, hfit, by omega, hlaid, .inr ⟨rfl, mb, l, f, t, _, h1.mono (by omega), ?_, fun ns' hns' => ?_, hap6⟩⟩, fun j hj => ((h1.li.dl.less (K2 := K') (fun j hj => .inl hj)).held j hj).1, htn⟩
    · by_cases hkz : (s.kept (recsOf m)).1 = 0
      · have hpl : s.place < ((100 : Nat) : Int) := by
          obtain ⟨n0, n1⟩ := hA.now_bounds
          unfold WSt.place; split <;> omega
        have hn1 := hns hkz
        cases hd : s.d.dead with
        | true =>
          have hpl0 : 0 ≤ s.place := by
            obtain ⟨n0, n1⟩ := hA.now_bounds
            unfold WSt.place; split <;> omega
          have := (hA.falls hd s.place 0 0 hpl0 (by omega) (laidOf 3 4 (recsOf m))).1
          unfold WSt.kept at hkz
          rw [this] at hkz
          cases hkz
        | false =>
          obtain ⟨F, a, h1', h2, h3, h4, h5, h6⟩ := hA.sem
          obtain ⟨_, t1⟩ := (h4 hd).tos hA.ps
          rw [← h2] at t1
          obtain ⟨p1, p2, p3⟩ := hA.ps.keep hA.down s.place hpl 0 (laidOf 3 4 (recsOf m)) (by omega)
          have hns' : (r.keepR (r.rplace s.at') (laidOf 3 4 (recsOf m))).1 = 0 → (r.keepR (r.rplace s.at') (laidOf 3 4 (recsOf m))).2.Nums ns := fun _ => by
            rw [← t1]
            exact ⟨hn1.1, fun k => by rw [p2.reads]; exact hn1.2 k⟩
          exact ((hcp ns hns').2.1 hz).2
      · exfalso
        unfold WSt.checkpoint at hz
        rw [if_neg hkz] at hz
        exact hkz hz
    · obtain ⟨p1, p2, _⟩ := hcp ns' hns'
      exact ⟨by rw [← p1]; exact hz, (p2 hz).1⟩

theorem pl_check_t {k : Int} (h : HalfK w0 w K b rb sb tb seg i k) (hKw : ∀ j, K j → w0.heap.size ≤ j) :
    Calls Tryz.prog 36 #[.pointer (some ⟨tb, 0, none⟩)] w fun e w9 => e = .returned (.int .i64 k) ∧ ∃ K', PlX w0 w9 K' b rb sb tb seg (i + 1) ∧ Turn (fun j => w0.heap.size ≤ j) w w9 := by
  obtain ⟨l', m, r, now, Q, Z, hr, hF, hfit, hml, hlaid, hcase⟩ := h
  have hlt : l' < w.heap.size ∧ rb < w.heap.size ∧ tb < w.heap.size := ⟨hr.lg.at'.lt, hr.lg.rlt, hr.tlt⟩
  refine (rscheckpoint_any hr hfit hF.hf (by omega) hF.hn0 hF.hn1 (by omega) hF.hf2 hF.hw hF.hrm).mono ?_
  rintro e w9 ⟨tn, Q', ns, hq, hns, hh⟩
  have hno := hr.noBs
  have ht9 := tn.size
  have hX : ∀ j, (j = rb ∨ j = l' ∨ j = tb) → (Q j ∨ Z j ∨ j = rb ∨ j = l' ∨ j = tb) := fun j e => .inr (.inr e)
  have htn : (∀ j, (Q j ∨ Z j ∨ j = rb ∨ j = l' ∨ j = tb) → K j) → Turn (fun j => w0.heap.size ≤ j) w w9 := fun hk => tn.mono (fun j _ e => hKw j (hk j (hX j e)))
  have hgr : ∀ {T : Nat → Prop}, (∀ j, (Q j ∨ Z j ∨ j = rb ∨ j = l' ∨ j = tb) → K j ∧ T j) → (∀ j, w.heap.size ≤ j → T j) → ∀ j, ((Q' j ∨ Z j ∨ j = rb ∨ j = l' ∨ j = tb) ∧ j < w9.heap.size) → grow K w w9 j ∧ T j := fun {T} h1 h2 j hj => by
    obtain ⟨hj, hj9⟩ := hj
    have hold : (Q j ∨ Z j ∨ j = rb ∨ j = l' ∨ j = tb) → grow K w w9 j ∧ T j := fun e => ⟨.inl (h1 j e).1, (h1 j e).2⟩
    rcases hj with hj | hj
    · exact (hq j hj).elim (fun e => hold (.inl e)) (fun e => ⟨.inr ⟨e, hj9⟩, h2 j e⟩)
    · exact hold (.inr hj)
  rcases hcase with ⟨rfl, l, f, t, s, hk, hck, hap⟩ | ⟨rfl, mb, l, f, t, s, hk, hat, hck, hap⟩
  · obtain ⟨c1, c2⟩ := hck ns hns
    rcases hh with ⟨_, rfl, h1⟩ | ⟨hz, _⟩
    · have hsb := hk.at'.lt
      have hk9 := hk.xturn tn (fun j e => ⟨(hap j (hX j e)).1, (hap j (hX j e)).2⟩)
      refine ⟨rfl, _, .inr ⟨l, f, t, s, _, Q', hk9, h1, c2, fun j hj => ?_⟩, htn (fun j hj => (hap j hj).1)⟩
      have hj' : Q' j ∨ Z j ∨ j = rb ∨ j = l' ∨ j = tb := by
        rcases hj with hj | hj | hj
        · exact .inl hj
        · exact .inr (.inr (.inl hj))
        · exact .inr (.inr (.inr (.inr hj)))
      refine hgr (T := fun j => j ≠ sb) hap (fun j e => by omega) j ⟨hj', ?_⟩
      rcases hj with hj | hj | hj
      · exact (h1.rd.lt).1 j hj
      · omega
      · omega
    · rw [c1] at hz
      cases hz
  · obtain ⟨c1, c2⟩ := hck ns hns
    rcases hh with ⟨hz, _⟩ | ⟨_, rfl, h1⟩
    · exact absurd c1 hz
    · have hmb : mb < w.heap.size := by obtain ⟨m', h1, _⟩ := hk.mp; exact h1.lt
      have hsb := hk.at'.lt
      have hk9 := hk.xturn tn (fun j e => ⟨(hap j (hX j e)).1, hno j e, (hap j (hX j e)).2.1⟩)
      rw [← hat] at h1 c2
      refine ⟨rfl, _, .inl ⟨mb, l, f, t, l', s, m, _, Q', Z, hk9, h1, c2, fun j hj => ?_⟩, htn (fun j hj => (hap j hj).1)⟩
      refine hgr (T := fun j => j ≠ sb ∧ j ≠ mb) hap (fun j e => ⟨by omega, by omega⟩) j ⟨hj, ?_⟩
      rcases hj with hj | hj | hj | hj | hj
      · exact h1.lg.lt j hj
      · exact h1.zlt j hj
      · omega
      · omega
      · omega

end

end Go.Proofs.YtnipdgigjcaolaaGreat
