/- Both stores side by side in memory: Fuse, Crash, Open, is. -/
import Derived.Test.YtnipdgigjcaolaaGreatKPlK
namespace Go.Proofs.YtnipdgigjcaolaaGreat
open Go.RowKit

/-- Both disks. -/
def CplB (i : Nat) (d : DSt) (r : RSt) : Prop := PSg 100 (110 * i + 110) d r ∧ Lid (70000 * i) d ∧ (∀ done cut, CplO i (d.crash done cut) (r.crash done cut)) ∧ (d.dead = false → CplO i d r)

theorem CplA.b {i : Nat} {seg : Int} {s : WSt} {r : RSt} {m : List (List UInt8 × List UInt8)} (h : CplA i seg s r m) : CplB i s.d r := ⟨h.ps, h.lid, fun a c => h.crash a c, fun e => h.live e⟩
theorem CplD.b {i : Nat} {d : DSt} {r : RSt} (h : CplD i d r) : CplB i d r := ⟨h.ps, h.lid, fun a c => h.crash a c, fun e => by have := h.dead; rw [e] at this; cases this⟩

/-- Both disks in memory. -/
structure PlB (w0 w : World) (K : Nat → Prop) (b rb : Nat) (i : Nat) (d : DSt) (r : RSt) : Prop where
  dl : DL w0 K w b (110 * i + 110) d
  rd : ∃ Q : Nat → Prop, RDk Q w rb r ∧ ∀ j, (Q j ∨ j = rb) → K j

section
variable {w0 w w1 : World} {K Q Z : Nat → Prop} {sb mb l b f t N tb l' rb i xb : Nat} {seg now x1 x2 x3 : Int} {xv : Value} {s : WSt} {d : DSt} {r : RSt} {m : List (List UInt8 × List UInt8)}

theorem PlX.disks (h : PlX w0 w K b rb sb tb seg i) : ∃ d r, PlB w0 w K b rb i d r ∧ CplB i d r := by
  rcases h with ⟨mb, l, f, t, l', s, m, r, Q, Z, hk, hr, hA, hap⟩ | ⟨l, f, t, s, r, Q, hk, hr, hD, hap⟩
  · exact ⟨s.d, r, ⟨hk.li.dl.less (fun j hj => .inl hj), Q, hr.lg.rd, fun j hj => (hap j (hj.elim .inl (fun e => .inr (.inr (.inl e))))).1⟩, hA.b⟩
  · exact ⟨s.d, r, ⟨hk.li.dl.less (fun j hj => .inl hj), Q, hr.rd, fun j hj => (hap j (hj.elim .inl (fun e => .inr (.inl e)))).1⟩, hD.b⟩

theorem PlX.above (h : PlX w0 w K b rb sb tb seg i) : ∀ j, K j → w0.heap.size ≤ j ∧ j < w.heap.size := by
  obtain ⟨d, r, hB, _⟩ := h.disks
  exact hB.dl.held

theorem PlX.turn (h : PlX w0 w K b rb sb tb seg i) : Turn (fun _ => False) w0 w := by
  obtain ⟨d, r, hB, _⟩ := h.disks
  exact hB.dl.turn

theorem PlX.goes (h : PlX w0 w K b rb sb tb seg i) (tn : Turn (fun _ => False) w w1) : PlX w0 w1 (grow K w w1) b rb sb tb seg i := by
  rcases h with ⟨mb, l, f, t, l', s, m, r, Q, Z, hk, hr, hA, hap⟩ | ⟨l, f, t, s, r, Q, hk, hr, hD, hap⟩
  · exact .inl ⟨mb, l, f, t, l', s, m, r, Q, Z, hk.goes tn, hr.goes tn, hA, fun j hj => ⟨.inl (hap j hj).1, (hap j hj).2⟩⟩
  · exact .inr ⟨l, f, t, s, r, Q, hk.goes tn, hr.kept tn (fun _ _ e => e), hD, fun j hj => ⟨.inl (hap j hj).1, (hap j hj).2⟩⟩

theorem pl_is (h : PlX w0 w K b rb sb tb seg i) (hi : i ≤ 45) :
    Calls Tryz.prog 42 #[.pointer (some ⟨sb, 0, none⟩), .pointer (some ⟨tb, 0, none⟩)] w fun e w' => e = .returned (.bool true) ∧ Turn (fun _ => False) w w' := by
  rcases h with ⟨mb, l, f, t, l', s, m, r, Q, Z, hk, hr, hA, hap⟩ | ⟨l, f, t, s, r, Q, hk, hr, hD, hap⟩
  · exact is_alive hk hr hA.small (by have := hA.few; omega)
  · exact is_dead hk hr

/-- The program's fuse burns, the reference's not yet. -/
def HalfF (w0 w : World) (K : Nat → Prop) (b rb sb tb : Nat) (seg : Int) (i : Nat) (n : Int) : Prop :=
  (∃ mb l f t l', ∃ s : WSt, ∃ m r, ∃ Q Z : Nat → Prop, KS w0 K w sb mb l b f t (110 * i + 110) { s with d := s.d.fuse n } m ∧ RSr Q Z w tb l' rb seg s.at' r m ∧ CplA i seg s r m ∧ ∀ j, (Q j ∨ Z j ∨ j = rb ∨ j = l' ∨ j = tb) → K j ∧ j ≠ sb ∧ j ≠ mb) ∨
  (∃ l f t, ∃ s : WSt, ∃ r, ∃ Q : Nat → Prop, KD w0 K w sb l b f t (110 * i + 110) { s with d := s.d.fuse n } ∧ RSd Q w tb rb r ∧ CplD i s.d r ∧ ∀ j, (Q j ∨ j = rb ∨ j = tb) → K j ∧ j ≠ sb)

theorem pl_fuse_s (n : Int) (h : PlX w0 w K b rb sb tb seg i) (h0 : -9223372036854775808 ≤ n) (h1 : n ≤ 9223372036854775807) :
    Calls Tryz.prog 28 #[.pointer (some ⟨b, 0, none⟩), .int .i64 n] w fun e w' => e = .returned (.tuple #[]) ∧ HalfF w0 w' K b rb sb tb seg i n ∧ Turn (fun j => w0.heap.size ≤ j) w w' := by
  rcases h with ⟨mb, l, f, t, l', s, m, r, Q, Z, hk, hr, hA, hap⟩ | ⟨l, f, t, s, r, Q, hk, hr, hD, hap⟩
  · refine (dl_fuse n hk.li.dl h0 h1).mono ?_
    rintro e w' ⟨rfl, hd, tn⟩
    have hli := hk.li.disk hd tn
    have tk := own_less tn
    exact ⟨rfl, .inl ⟨mb, l, f, t, l', s, m, r, Q, Z, hk.logged hli tk, hr.kept tk (fun j hj e => e.2 (hap j hj).1), hA, hap⟩, tk.mono (fun j _ e => e.1)⟩
  · refine (dl_fuse n hk.li.dl h0 h1).mono ?_
    rintro e w' ⟨rfl, hd, tn⟩
    have hli := hk.li.disk hd tn
    have tk := own_less tn
    exact ⟨rfl, .inr ⟨l, f, t, s, r, Q, ⟨hli, hk.at'.kept tk (fun e => e.2 hk.ks), hk.ks⟩, hr.kept tk (fun j hj e => e.2 (hap j hj).1), hD, hap⟩, tk.mono (fun j _ e => e.1)⟩

theorem pl_fuse_t (n : Int) (hn : n ≤ 100) (h : HalfF w0 w K b rb sb tb seg i n) (hKw : ∀ j, K j → w0.heap.size ≤ j) :
    Calls Tryz.prog 37 #[.pointer (some ⟨rb, 0, none⟩), .int .i64 n] w fun e w' => e = .returned (.tuple #[]) ∧ ∃ K', PlX w0 w' K' b rb sb tb seg i ∧ Turn (fun j => w0.heap.size ≤ j) w w' := by
  rcases h with ⟨mb, l, f, t, l', s, m, r, Q, Z, hk, hr, hA, hap⟩ | ⟨l, f, t, s, r, Q, hk, hr, hD, hap⟩
  · refine (rfuse_any n hr.lg.rd).mono ?_
    rintro e w' ⟨rfl, hrd, tn⟩
    have hX : Q rb ∨ Z rb ∨ rb = rb ∨ rb = l' ∨ rb = tb := .inr (.inr (.inl rfl))
    have hk2 := hk.xturn tn (fun j e => by subst e; exact ⟨(hap _ hX).1, hr.lg.rd.noB, (hap _ hX).2.1⟩)
    obtain ⟨pv, pl, a, b', c⟩ := hr.ps
    have hr2 : RSr Q Z w' tb l' rb seg s.at' (r.setFuse n) m := ⟨⟨hrd, hr.lg.at'.kept tn hr.lg.ne, hr.lg.ne, hr.lg.out⟩, ⟨pv, pl, a.kept tn hr.ne.2, b'.kept tn (fun j hj => (hr.zout j hj).2.2), c⟩, hr.ne, hr.out, hr.zout, fun j hj => Nat.lt_of_lt_of_le (hr.zlt j hj) tn.size⟩
    exact ⟨rfl, _, .inl ⟨mb, l, f, t, l', _, m, _, Q, Z, hk2, hr2, hA.fuse n hn, fun j hj => ⟨.inl (hap j hj).1, (hap j hj).2⟩⟩, tn.mono (fun j _ e => by rw [e]; exact hKw _ (hap _ hX).1)⟩
  · refine (rfuse_any n hr.rd).mono ?_
    rintro e w' ⟨rfl, hrd, tn⟩
    have hX : Q rb ∨ rb = rb ∨ rb = tb := .inr (.inl rfl)
    have hk2 := hk.xturn tn (fun j e => by subst e; exact ⟨(hap _ hX).1, (hap _ hX).2⟩)
    obtain ⟨l', hA⟩ := hr.at'
    exact ⟨rfl, _, .inr ⟨l, f, t, _, _, Q, hk2, ⟨hrd, ⟨l', hA.kept tn hr.ne⟩, hr.ne, hr.out⟩, hD.fuse n hn, fun j hj => ⟨.inl (hap j hj).1, (hap j hj).2⟩⟩, tn.mono (fun j _ e => by rw [e]; exact hKw _ (hap _ hX).1)⟩

theorem pl_crash_s (done cut : Int) (h : PlB w0 w K b rb i d r) (hc : CplB i d r) (hi : i ≤ 45) :
    Calls Tryz.prog 39 #[.pointer (some ⟨b, 0, none⟩), .int .i64 done, .int .i64 cut] w fun e w' => e = .returned (.tuple #[]) ∧ DL w0 K w' b (110 * i + 110) (d.crash done cut) ∧ (∃ Q : Nat → Prop, RDk Q w' rb r ∧ ∀ j, (Q j ∨ j = rb) → K j) ∧ Turn (Outs w0 K) w w' := by
  refine (dl_crash done cut h.dl (by omega) (hc.2.1.big (by omega))).mono ?_
  rintro e w' ⟨rfl, hd, tn⟩
  obtain ⟨Q, hrd, hq⟩ := h.rd
  exact ⟨rfl, hd, ⟨Q, hrd.keeps tn (fun j hj e => e.2 (hq j (.inl hj))) (fun e => e.2 (hq rb (.inr rfl))), hq⟩, tn⟩

theorem pl_crash_t (done cut : Int) (hd : DL w0 K w b (110 * i + 110) (d.crash done cut)) (hr : ∃ Q : Nat → Prop, RDk Q w rb r ∧ ∀ j, (Q j ∨ j = rb) → K j) (hc : CplB i d r) (hi : i ≤ 44) :
    Calls Tryz.prog 40 #[.pointer (some ⟨rb, 0, none⟩), .int .i64 done, .int .i64 cut] w fun e w' => e = .returned (.tuple #[]) ∧ PlB w0 w' (grow K w w') b rb i (d.crash done cut) (r.crash done cut) ∧ Turn (fun j => j = rb) w w' ∧ K rb := by
  obtain ⟨Q, hrd, hq⟩ := hr
  obtain ⟨f1, f2⟩ := hc.1.fits (by omega) (by omega)
  refine (rcrash_any done cut hrd f1 (fun k bs hm => (hc.1.lays k bs (by rw [← hc.1.pend]; exact hm)).1)).mono ?_
  rintro e w' ⟨rfl, h1, tn⟩
  have hrK := hq rb (.inr rfl)
  refine ⟨rfl, ⟨hd.hold (tn.mono (fun j _ e => by rw [e]; exact hrK)), grow Q w w', h1, fun j hj => ?_⟩, tn, hrK⟩
  rcases hj with (hj | hj) | hj
  · exact .inl (hq j (.inl hj))
  · exact .inr hj
  · exact .inl (hq j (.inr hj))

/-- The program is opened, the reference not yet. -/
def HalfO (w0 w : World) (K : Nat → Prop) (b rb sb : Nat) (seg : Int) (i : Nat) : Prop :=
  ∃ d r ns y m mb l f t, ∃ Q : Nat → Prop, KS w0 K w sb mb l b f t (110 * (i + 1) + 110) ⟨d.gone (ns.filter (· < y.1.since)), seg, y.2, 0, false⟩ m ∧ RDk Q w rb r ∧ CplO i d r ∧ d.Nums ns ∧ openN d.read ns (HSt.zero, 0) = some y ∧ replayC y.1.recs = some m ∧ ∀ j, (Q j ∨ j = rb) → K j ∧ j ≠ sb ∧ j ≠ mb

theorem pl_open_s (h : PlB w0 w K b rb i d r) (hc : CplO i d r) (hi : i ≤ 41) (hs0 : 256 ≤ seg) (hs1 : seg ≤ 1048576) :
    Calls Tryz.prog 22 #[.pointer (some ⟨b, 0, none⟩), .int .i64 seg] w fun e w' => ∃ sb K', e = .returned (.tuple #[.pointer (some ⟨sb, 0, none⟩), .int .i64 0]) ∧ HalfO w0 w' K' b rb sb seg i ∧ (∀ j, K j → K' j) ∧ Turn (Outs w0 K) w w' := by
  obtain ⟨Q, hrd, hq⟩ := h.rd
  have hfew := fun k hk => hc.ps.few k hk
  have hopen : ∀ ns, d.Nums ns → ∃ y q m, openN d.read ns (HSt.zero, 0) = some y ∧ openR r.read ns ⟨[], -1, 0⟩ = some q ∧ replayC y.1.recs = some m ∧ replayC q.out = some m ∧ q.next = y.2 ∧ y.1.recs.length ≤ 6 * i ∧ y.1.recs = q.out ∧
      CplA (i + 1) seg ⟨d.gone (ns.filter (· < y.1.since)), seg, y.2, 0, false⟩ (r.goneR (ns.filter (· < q.since))) m := fun ns hns => hc.opened seg hns ⟨hns.1, fun k => by rw [hc.ps.reads]; exact hns.2 k⟩
  refine (kopen_any (seg := seg) 100 2940000 h.dl hc.live hs0 hs1 (fun ns hns => hc.ps.nums hns) (fun k => ?_) (by omega) (by omega) (fun k hk => by have := hfew k hk; omega) (fun ns y hns hy => ?_)).mono ?_
  · have := hc.lid.read k
    omega
  · obtain ⟨y2, q, m, o1, _, o3, _, _, o6, _⟩ := hopen ns hns
    rw [o1] at hy
    injection hy with hy
    subst hy
    exact ⟨by omega, fun x hx => by have := replay_short o3 x hx; omega⟩
  · rintro e w' ⟨ns, hns, hh⟩
    obtain ⟨y, q, m, o1, _, o3, _⟩ := hopen ns hns
    rw [o1] at hh
    simp only [o3] at hh
    obtain ⟨sb, mb, l, f, t, K', rfl, hks, hkk, tn, hsb, hmb⟩ := hh
    have hrl := hrd.lt
    exact ⟨sb, K', rfl, ⟨d, r, ns, y, m, mb, l, f, t, Q, hks.mono (by omega), hrd.keeps tn (fun j hj e => e.2 (hq j (.inl hj))) (fun e => e.2 (hq rb (.inr rfl))), hc, hns, o1, o3, fun j hj => ⟨hkk j (hq j hj), by
      have : j < w.heap.size := by
        rcases hj with hj | hj
        · exact hrl.1 j hj
        · rw [hj]; exact hrl.2
      omega, by
      have : j < w.heap.size := by
        rcases hj with hj | hj
        · exact hrl.1 j hj
        · rw [hj]; exact hrl.2
      omega⟩⟩, hkk, tn⟩

theorem pl_open_t (h : HalfO w0 w K b rb sb seg i) (hi : i ≤ 41) (hs0 : 256 ≤ seg) (hs1 : seg ≤ 1048576) :
    Calls Tryz.prog 35 #[.pointer (some ⟨rb, 0, none⟩), .int .i64 seg] w fun e w' => ∃ tb K', e = .returned (.tuple #[.pointer (some ⟨tb, 0, none⟩), .int .i64 0]) ∧ PlA w0 w' K' b rb sb tb seg (i + 1) ∧ Turn (fun j => j = rb) w w' ∧ K rb := by
  obtain ⟨d, r, ns, y, m, mb, l, f, t, Q, hks, hrd, hc, hns, ho, hrep, hap⟩ := h
  obtain ⟨f1, f2⟩ := hc.ps.fits (by omega) (by omega)
  have hfew : ∀ k, r.read k ≠ [] → 0 ≤ k ∧ k < ((100 : Nat) : Int) := fun k hk => hc.ps.few k (by rw [← hc.ps.reads]; exact hk)
  have hopen := fun ns' hns' => hc.opened seg (ns' := ns') hns hns'
  have hdead : r.dead = false := by rw [hc.ps.dead]; exact hc.live
  refine (ropenStore_any seg hrd f1 hdead hs0 hs1 (by omega) (fun L hL hLl => ?_) (fun k hk => by have := hfew k hk; omega) (fun ns' o hns' ho' => ?_)).mono ?_
  · exact (hc.ps.gone_far L).fits (by omega) (by omega)
  · obtain ⟨y2, q, m2, o1, o2, o3, o4, _, o6, o7, _⟩ := hopen ns' hns'
    rw [o2] at ho'
    injection ho' with ho'
    subst ho'
    exact ⟨by rw [← o7]; omega, fun x hx => by have := replay_short o4 x hx; omega⟩
  · rintro e w' ⟨ns', hns', hh⟩
    obtain ⟨y2, q, m2, o1, o2, o3, o4, o5, o6, o7, hA⟩ := hopen ns' hns'
    rw [ho] at o1
    injection o1 with o1
    subst o1
    rw [hrep] at o3
    injection o3 with o3
    subst o3
    rw [o2] at hh
    simp only [o4] at hh
    obtain ⟨tb, l', Q', Z, rfl, hr, hq', hz, tn, htb, hl'⟩ := hh
    have hX := hap rb (.inr rfl)
    have hmb : mb < w.heap.size := by obtain ⟨m', h1, _⟩ := hks.mp; exact h1.lt
    have hsb := hks.at'.lt
    have hk2 := hks.xturn tn (fun j e => by subst e; exact ⟨hX.1, hrd.noB, hX.2.1⟩)
    rw [o5] at hr
    have hlr := hr.lg.rlt
    have hll := hr.lg.at'.lt
    have htl := hr.tlt
    refine ⟨tb, _, rfl, ⟨mb, l, f, t, l', _, m, _, Q', Z, hk2, hr, hA, fun j hj => ?_⟩, tn, hX.1⟩
    have hnew : w.heap.size ≤ j → j < w'.heap.size → grow K w w' j ∧ j ≠ sb ∧ j ≠ mb := fun e1 e2 => ⟨.inr ⟨e1, e2⟩, by omega, by omega⟩
    rcases hj with hj | hj | hj | hj | hj
    · rcases hq' j hj with e | e
      · exact ⟨.inl (hap j (.inl e)).1, (hap j (.inl e)).2⟩
      · exact hnew e (hr.lg.lt j hj)
    · exact hnew (hz j hj) (hr.zlt j hj)
    · rw [hj]; exact ⟨.inl hX.1, hX.2⟩
    · exact hnew (by omega) (by omega)
    · exact hnew (by omega) (by omega)

end

end Go.Proofs.YtnipdgigjcaolaaGreat
