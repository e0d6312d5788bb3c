/- Both stores side by side in memory: Commit. -/
import Derived.Test.YtnipdgigjcaolaaGreatKApt
namespace Go.Proofs.YtnipdgigjcaolaaGreat
open Go.RowKit

/-- Both live, the reference's memory held besides. -/
structure PlA (w0 w : World) (K : Nat → Prop) (b rb sb tb : Nat) (seg : Int) (i : Nat) : Prop where
  is : ∃ mb l f t l' s m r, ∃ Q Z : Nat → Prop, KS w0 K w sb mb l b f t (110 * i + 110) s m ∧ RSr Q Z w tb l' rb seg s.at' r m ∧ CplA i seg s r m ∧ ∀ j, (Q j ∨ Z j ∨ j = rb ∨ j = l' ∨ j = tb) → K j ∧ j ≠ sb ∧ j ≠ mb

/-- Both dead. -/
structure PlD (w0 w : World) (K : Nat → Prop) (b rb sb tb : Nat) (i : Nat) : Prop where
  is : ∃ l f t s r, ∃ Q : Nat → Prop, KD w0 K w sb l b f t (110 * i + 110) s ∧ RSd Q w tb rb r ∧ CplD i s.d r ∧ ∀ j, (Q j ∨ j = rb ∨ j = tb) → K j ∧ j ≠ sb

def PlX (w0 w : World) (K : Nat → Prop) (b rb sb tb : Nat) (seg : Int) (i : Nat) : Prop := PlA w0 w K b rb sb tb seg i ∨ PlD w0 w K b rb sb tb i

/-- The law's own step. -/
def BxK (K : Nat → Prop) (w : World) (xb : Nat) (a b c : Int) (v : Value) : Prop := At 69 w xb #[.int .i64 a, .int .i64 b, .int .i64 c, v] ∧ K xb

theorem first_ne {T T' : TypeId} {w : World} {j j' : Nat} {cs cs' : Array Value} (h : At T w j cs) (h' : At T' w j' cs') (hne : cs[0]? ≠ cs'[0]?) : j ≠ j' := fun e => by
  subst e
  exact hne (by rw [h.inj h'])

section
variable {w0 w w1 : World} {K Q Z : Nat → Prop} {sb mb l b f t N tb l' rb i xb : Nat} {seg now x1 x2 x3 : Int} {xv : Value} {s : WSt} {r : RSt} {m : List (List UInt8 × List UInt8)}

theorem BxK.keptK (h : BxK K w xb x1 x2 x3 xv) (hs : KS w0 K w sb mb l b f t N s m) (tn : Turn (KOuts w0 K sb mb) w w1) {K' : Nat → Prop} (hk : ∀ j, K j → K' j) : BxK K' w1 xb x1 x2 x3 xv := by
  refine ⟨h.1.kept tn (fun e => ?_), hk _ h.2⟩
  rcases e with e | e | e
  · exact e.2 h.2
  · exact first_ne h.1 hs.at' (by simp) e
  · obtain ⟨m', hm, _⟩ := hs.mp
    obtain ⟨es, clock, hb, _⟩ := hm.map
    have hA := h.1
    unfold At at hA
    rw [e, hb] at hA
    injection hA with hA
    cases hA

theorem BxK.goes (h : BxK K w xb x1 x2 x3 xv) (tn : Turn (fun _ => False) w w1) {K' : Nat → Prop} (hk : ∀ j, K j → K' j) : BxK K' w1 xb x1 x2 x3 xv := ⟨h.1.kept tn (fun e => e), hk _ h.2⟩

/-- Bounds under which the reference's Commit ends. -/
structure FitC (r : RSt) (now seg : Int) (recs : List (List UInt8)) : Prop where
  hf : RFit 100 10485760000 r
  hf2 : RFit 100 10485760000 (r.add (r.rto now seg) (laidOf 1 2 recs)).2
  hw : (r.add (r.rto now seg) (laidOf 1 2 recs)).2.works ≤ 1073741822
  hn0 : 0 ≤ now
  hn1 : now ≤ 1099511627776

theorem RFit.monoB {M B B' : Nat} {s : RSt} (h : RFit M B s) (hB : B ≤ B') (hb : B' ≤ 140737488355328) : RFit M B' s :=
  ⟨h.many, h.works, h.len, h.max, h.lo, h.hi, hb, fun k i => Nat.le_trans (h.file k i) hB, fun i hi => Nat.le_trans (h.more i hi) hB, h.fz, h.fu⟩

theorem PSg.fits {M N : Nat} {s : DSt} {r : RSt} (h : PSg M N s r) (hM : M ≤ 1073741824) (hN : N ≤ 5000) : RFit M 10485760000 r ∧ r.works ≤ 1073741822 := by
  refine ⟨(h.fit hM hN).monoB ?_ (by omega), ?_⟩
  · exact Nat.le_trans (Nat.mul_le_mul_right 2097152 hN) (by decide)
  · have := h.works
    have := h.wk
    omega

theorem CplA.now_bounds (h : CplA i seg s r m) : 0 ≤ s.at' ∧ s.at' ≤ 2 * i + 1 := by
  obtain ⟨F, a, h1, h2, _⟩ := h.sem
  omega

theorem CplA.fitC (h : CplA i seg s r m) (hi : i ≤ 42) (recs : List (List UInt8)) (hlen : (laidOf 1 2 recs).length ≤ 70000) : FitC r s.at' seg recs := by
  obtain ⟨n0, n1⟩ := h.now_bounds
  have hrt : r.rto s.at' seg < ((100 : Nat) : Int) := by unfold RSt.rto; split <;> omega
  obtain ⟨f1, f2⟩ := h.ps.fits (by omega) (by omega)
  obtain ⟨g1, g2⟩ := ((h.ps.add (r.rto s.at' seg) hrt (laidOf 1 2 recs) (by omega)).2).fits (by omega) (by omega)
  exact ⟨f1, g1, g2, n0, by omega⟩

/-- The program has committed, the reference not yet. -/
def HalfC (w0 w : World) (K : Nat → Prop) (b rb sb tb : Nat) (seg : Int) (i : Nat) (xs : List RawC) (k : Int) : Prop :=
  ∃ l' m r now, ∃ Q Z : Nat → Prop, RSr Q Z w tb l' rb seg now r m ∧ FitC r now seg ((listC xs 6).map Chg.laid) ∧ m.length ≤ 1000 ∧
  (((listC xs 6).all Chg.ok = false ∧ k = 1 ∧ ∃ mb l f t s, KS w0 K w sb mb l b f t (110 * i + 110) s m ∧ now = s.at' ∧ CplA i seg s r m ∧ ∀ j, (Q j ∨ Z j ∨ j = rb ∨ j = l' ∨ j = tb) → K j ∧ j ≠ sb ∧ j ≠ mb) ∨
   ((listC xs 6).all Chg.ok = true ∧ k = 14 ∧ (r.comR now seg ((listC xs 6).map Chg.laid)).1 = 14 ∧ ∃ l f t s, KD w0 K w sb l b f t (110 * (i + 1) + 110) s ∧ CplD (i + 1) s.d (r.comR now seg ((listC xs 6).map Chg.laid)).2.2 ∧ ∀ j, (Q j ∨ Z j ∨ j = rb ∨ j = l' ∨ j = tb) → K j ∧ j ≠ sb) ∨
   ((listC xs 6).all Chg.ok = true ∧ k = 0 ∧ (r.comR now seg ((listC xs 6).map Chg.laid)).1 = 0 ∧ ∃ mb l f t s, KS w0 K w sb mb l b f t (110 * (i + 1) + 110) s ((listC xs 6).foldl turnC m) ∧ s.at' = (r.comR now seg ((listC xs 6).map Chg.laid)).2.1 ∧ CplA (i + 1) seg s (r.comR now seg ((listC xs 6).map Chg.laid)).2.2 ((listC xs 6).foldl turnC m) ∧ ∀ j, (Q j ∨ Z j ∨ j = rb ∨ j = l' ∨ j = tb) → K j ∧ j ≠ sb ∧ j ≠ mb))

theorem pl_commit_s {w4 w5 : World} {v : Value} {cl : List (Value × Chg)} (xs : List RawC) (h : PlA w0 w4 K b rb sb tb seg i) (hi : i ≤ 41) (hcm : CM (fun _ => False) w4 v cl w5) (hcl : cl.map (·.2) = listC xs 6) :
    Calls Tryz.prog 24 #[.pointer (some ⟨sb, 0, none⟩), v] w5 fun e w6 => ∃ k K', e = .returned (.int .i64 k) ∧ HalfC w0 w6 K' b rb sb tb seg i xs k ∧ (∀ xb x1 x2 x3 xv, BxK K w4 xb x1 x2 x3 xv → BxK K' w6 xb x1 x2 x3 xv) ∧ Turn (fun j => w0.heap.size ≤ j) w5 w6 := by
  obtain ⟨mb, l, f, t, l', s, m, r, Q, Z, hk, hr, hA, hap⟩ := h.is
  have hcn : cl.length ≤ 6 := by
    have h1 := congrArg List.length hcl
    rw [List.length_map] at h1
    have h2 := listC_ok_len xs 6
    omega
  have hC := hcm.toCLs (by omega)
  have hk5 := hk.goes hcm.turn
  have hsb := hk.at'.lt
  have hmb : mb < w4.heap.size := by obtain ⟨m', h1, _⟩ := hk.mp; exact h1.lt
  have hnow := hA.lid.now s.to.1
  have hlen := list_laid xs 6 (by omega)
  have hlc : cl.length = (listC xs 6).length := by rw [← hcl, List.length_map]
  have hok : s.Ok := by
    obtain ⟨n0, n1⟩ := hA.now_bounds
    exact ⟨n0, by omega, hA.size.1, hA.size.2⟩
  have hf := hA.few
  refine (kcommit_any v cl hk5 hC (fun j hj => hj.elim (fun e => e.elim) (fun e => e.2)) (fun j hj e => ?_) hok (by omega) (by omega) (by rw [hcl]; omega) (by omega)).mono ?_
  · rcases hj with hj | hj
    · exact hj
    · rcases e with e | e | e
      · exact e.2 (.inr hj)
      · omega
      · omega
  rw [hcl]
  rintro e w6 ⟨tn, K', hkk, hh⟩
  have hr5 := hr.goes hcm.turn
  have hap5 : ∀ j, (Q j ∨ Z j ∨ j = rb ∨ j = l' ∨ j = tb) → grow K w4 w5 j ∧ j ≠ sb ∧ j ≠ mb := fun j hj => ⟨.inl (hap j hj).1, (hap j hj).2⟩
  have hr6 := hr5.kept tn (fun j hj e => by
    have h1 := hap5 j hj
    rcases e with e | e | e
    · exact e.2 h1.1
    · exact h1.2.1 e
    · exact h1.2.2 e)
  have hap6 : ∀ j, (Q j ∨ Z j ∨ j = rb ∨ j = l' ∨ j = tb) → K' j ∧ j ≠ sb ∧ j ≠ mb := fun j hj => ⟨hkk j (hap5 j hj).1, (hap5 j hj).2⟩
  have hbx : ∀ xb x1 x2 x3 xv, BxK K w4 xb x1 x2 x3 xv → BxK K' w6 xb x1 x2 x3 xv := fun xb x1 x2 x3 xv hb => (hb.goes hcm.turn (K' := grow K w4 w5) (fun j hj => .inl hj)).keptK hk5 tn hkk
  have hw0 : ∀ j, grow K w4 w5 j → w0.heap.size ≤ j := fun j hj => by
    rcases hj with hj | hj
    · exact ((hk.li.dl.less (K2 := K) (fun j hj => .inl hj)).held j hj).1
    · have := hk.li.dl.turn.size
      omega
  have hmbK : grow K w4 w5 mb := by obtain ⟨m', h1, _⟩ := hk5.mp; exact h1.own
  have htn : Turn (fun j => w0.heap.size ≤ j) w5 w6 := tn.mono (fun j _ e => by
    rcases e with e | e | e
    · exact e.1
    · rw [e]; exact hw0 _ hk5.ks
    · rw [e]; exact hw0 _ hmbK)
  have hfc := hA.fitC (by omega) ((listC xs 6).map Chg.laid) hlen
  rcases hh with ⟨hno, rfl, h1⟩ | ⟨hyes, hz, rfl, h1⟩ | ⟨hyes, hz, rfl, h1⟩
  · exact ⟨1, K', rfl, ⟨l', m, r, s.at', Q, Z, hr6, hfc, by omega, .inl ⟨hno, rfl, mb, l, f, t, s, h1, rfl, hA, hap6⟩⟩, hbx, htn⟩
  · obtain ⟨p1, _, p3⟩ := hA.commit (by omega) xs hyes
    obtain ⟨q1, q2⟩ := p3 hz
    rw [q1]
    rw [q1] at p1
    exact ⟨14, K', rfl, ⟨l', m, r, s.at', Q, Z, hr6, hfc, by omega, .inr (.inl ⟨hyes, rfl, p1.symm, l, f, t, _, h1.mono (by omega), q2, fun j hj => ⟨(hap6 j hj).1, (hap6 j hj).2.1⟩⟩)⟩, hbx, htn⟩
  · obtain ⟨p1, p2, _⟩ := hA.commit (by omega) xs hyes
    obtain ⟨q1, q2⟩ := p2 hz
    rw [hz] at p1
    exact ⟨0, K', rfl, ⟨l', m, r, s.at', Q, Z, hr6, hfc, by omega, .inr (.inr ⟨hyes, rfl, p1.symm, mb, l, f, t, _, h1.mono (by omega), q2, q1, hap6⟩)⟩, hbx, htn⟩

theorem RSr.step_ne (h : RSr Q Z w tb l' rb seg now r m) (hb : At 69 w xb #[.int .i64 x1, .int .i64 x2, .int .i64 x3, xv]) : ∀ j, (j = rb ∨ j = l' ∨ j = tb) → j ≠ xb := fun j hj => by
  rcases hj with rfl | rfl | rfl
  · obtain ⟨kv, pv, kl, pl, h1⟩ := h.lg.rd
    obtain ⟨o, n, c, rfl⟩ := h1.kept.slice
    exact first_ne h1.head hb (by simp)
  · exact first_ne h.lg.at' hb (by simp)
  · obtain ⟨pv, pl, hA, _⟩ := h.ps
    exact first_ne hA hb (by simp)

theorem pl_commit_t {w7 w8 : World} {v : Value} {cl : List (Value × Chg)} {xs : List RawC} {k : Int} (h : HalfC w0 w7 K b rb sb tb seg i xs k) (hcm : CM (fun _ => False) w7 v cl w8) (hcl : cl.map (·.2) = listC xs 6) (hKw : ∀ j, K j → w0.heap.size ≤ j) :
    Calls Tryz.prog 41 #[.pointer (some ⟨tb, 0, none⟩), v] w8 fun e w9 => e = .returned (.int .i64 k) ∧ ∃ K', PlX w0 w9 K' b rb sb tb seg (i + 1) ∧ Turn (fun j => w0.heap.size ≤ j) w8 w9 ∧ ∀ xb x1 x2 x3 xv, At 69 w8 xb #[.int .i64 x1, .int .i64 x2, .int .i64 x3, xv] → At 69 w9 xb #[.int .i64 x1, .int .i64 x2, .int .i64 x3, xv] := by
  obtain ⟨l', m, r, now, Q, Z, hr, hF, hml, hcase⟩ := h
  have hcn : cl.length ≤ 6 := by
    have h1 := congrArg List.length hcl
    rw [List.length_map] at h1
    have h2 := listC_ok_len xs 6
    omega
  have hC := hcm.toCLs (by omega)
  have hr8 := hr.goes hcm.turn
  have hlen := list_laid xs 6 (by omega)
  have hlt : l' < w7.heap.size ∧ rb < w7.heap.size ∧ tb < w7.heap.size := ⟨hr.lg.at'.lt, hr.lg.rlt, hr.tlt⟩
  refine (rscommit_any v cl hr8 hF.hf hC (fun j hj => hj.elim (fun e => e.elim) (fun e => e.2)) (fun j hj => ?_) (by omega) (by omega) hF.hn0 hF.hn1 (by rw [hcl]; omega) (by rw [hcl]; exact hF.hf2) (by rw [hcl]; exact hF.hw)).mono ?_
  · rcases hj with hj | hj
    · exact hj.elim
    · exact ⟨by omega, by omega, by omega⟩
  rw [hcl]
  rintro e w9 ⟨tn, Q', Z', hq, hz, hh⟩
  have hno := hr8.noBs
  have hbx : ∀ xb x1 x2 x3 xv, At 69 w8 xb #[.int .i64 x1, .int .i64 x2, .int .i64 x3, xv] → At 69 w9 xb #[.int .i64 x1, .int .i64 x2, .int .i64 x3, xv] := fun xb x1 x2 x3 xv hb => hb.kept tn (fun e => hr8.step_ne hb xb e rfl)
  have hgr : ∀ {T : Nat → Prop}, (∀ j, (Q j ∨ Z j ∨ j = rb ∨ j = l' ∨ j = tb) → K j ∧ T j) → (∀ j, w8.heap.size ≤ j → T j) → ∀ j, ((Q' j ∨ Z' j ∨ j = rb ∨ j = l' ∨ j = tb) ∧ j < w9.heap.size) → grow (grow K w7 w8) w8 w9 j ∧ T j := fun {T} h1 h2 j hj => by
    obtain ⟨hj, hj9⟩ := hj
    have hold : (Q j ∨ Z j ∨ j = rb ∨ j = l' ∨ j = tb) → grow (grow K w7 w8) w8 w9 j ∧ T j := fun e => ⟨.inl (.inl (h1 j e).1), (h1 j e).2⟩
    have hnew : w8.heap.size ≤ j → grow (grow K w7 w8) w8 w9 j ∧ T j := fun e => ⟨.inr ⟨e, hj9⟩, h2 j e⟩
    rcases hj with hj | hj | hj
    · exact (hq j hj).elim (fun e => hold (.inl e)) hnew
    · exact (hz j hj).elim (fun e => hold (.inr (.inl e))) hnew
    · exact hold (.inr (.inr hj))
  have ht9 := tn.size
  have hrs9 : rb < w9.heap.size ∧ l' < w9.heap.size ∧ tb < w9.heap.size := by
    have := hcm.turn.size
    omega
  have htn : (∀ j, (Q j ∨ Z j ∨ j = rb ∨ j = l' ∨ j = tb) → K j) → Turn (fun j => w0.heap.size ≤ j) w8 w9 := fun hk => tn.mono (fun j _ e => hKw j (hk j (by
    rcases e with e | e | e
    · exact .inr (.inr (.inl e))
    · exact .inr (.inr (.inr (.inl e)))
    · exact .inr (.inr (.inr (.inr e))))))
  have hX : ∀ j, (j = rb ∨ j = l' ∨ j = tb) → (Q j ∨ Z j ∨ j = rb ∨ j = l' ∨ j = tb) := fun j e => .inr (.inr e)
  rcases hcase with ⟨hall, rfl, mb, l, f, t, s, hk, rfl, hA, hap⟩ | ⟨hall, rfl, hcr, l, f, t, s, hk, hD, hap⟩ | ⟨hall, rfl, hcr, mb, l, f, t, s, hk, hat, hA, hap⟩
  · rcases hh with ⟨_, rfl, h1⟩ | ⟨hbad, _⟩ | ⟨hbad, _⟩
    · have hmb : mb < w7.heap.size := by obtain ⟨m', h1, _⟩ := hk.mp; exact h1.lt
      have hsb := hk.at'.lt
      have hs8 := hcm.turn.size
      have hk9 := (hk.goes hcm.turn).xturn tn (fun j e => ⟨.inl (hap j (hX j e)).1, hno j e, (hap j (hX j e)).2.1⟩)
      refine ⟨rfl, _, .inl ⟨mb, l, f, t, l', s, m, r, Q', Z', hk9.mono (by omega), h1, hA.up, fun j hj => ?_⟩, htn (fun j hj => (hap j hj).1), hbx⟩
      refine hgr (T := fun j => j ≠ sb ∧ j ≠ mb) hap (fun j e => ⟨by omega, by omega⟩) j ⟨hj, ?_⟩
      rcases hj with hj | hj | hj | hj | hj
      · exact h1.lg.lt j hj
      · exact h1.zlt j hj
      · omega
      · omega
      · omega
    · rw [hall] at hbad
      cases hbad
    · rw [hall] at hbad
      cases hbad
  · rcases hh with ⟨hbad, _⟩ | ⟨_, hz14, rfl, h1⟩ | ⟨_, hz0, _⟩
    · rw [hall] at hbad
      cases hbad
    · have hsb := hk.at'.lt
      have hs8 := hcm.turn.size
      have hk9 := (hk.goes hcm.turn).xturn tn (fun j e => ⟨.inl (hap j (hX j e)).1, (hap j (hX j e)).2⟩)
      refine ⟨rfl, _, .inr ⟨l, f, t, s, _, Q', hk9, h1, hD, fun j hj => ?_⟩, htn (fun j hj => (hap j hj).1), hbx⟩
      have hj' : Q' j ∨ Z' j ∨ j = rb ∨ j = l' ∨ j = tb := by
        rcases hj with hj | hj | hj
        · exact .inl hj
        · exact .inr (.inr (.inl hj))
        · exact .inr (.inr (.inr (.inr hj)))
      refine hgr (T := fun j => j ≠ sb) hap (fun j e => by omega) j ⟨hj', ?_⟩
      rcases hj with hj | hj | hj
      · exact (h1.rd.lt).1 j hj
      · omega
      · omega
    · rw [hcr] at hz0
      cases hz0
  · rcases hh with ⟨hbad, _⟩ | ⟨_, hz14, _⟩ | ⟨_, _, rfl, h1⟩
    · rw [hall] at hbad
      cases hbad
    · exact absurd hcr hz14
    · have hmb : mb < w7.heap.size := by obtain ⟨m', h1, _⟩ := hk.mp; exact h1.lt
      have hsb := hk.at'.lt
      have hs8 := hcm.turn.size
      have hk9 := (hk.goes hcm.turn).xturn tn (fun j e => ⟨.inl (hap j (hX j e)).1, hno j e, (hap j (hX j e)).2.1⟩)
      rw [← hat] at h1
      refine ⟨rfl, _, .inl ⟨mb, l, f, t, l', s, _, _, Q', Z', hk9, h1, hA, fun j hj => ?_⟩, htn (fun j hj => (hap j hj).1), hbx⟩
      refine hgr (T := fun j => j ≠ sb ∧ j ≠ mb) hap (fun j e => ⟨by omega, by omega⟩) j ⟨hj, ?_⟩
      rcases hj with hj | hj | hj | hj | hj
      · exact h1.lg.lt j hj
      · exact h1.zlt j hj
      · omega
      · omega
      · omega

end

end Go.Proofs.YtnipdgigjcaolaaGreat
