/- A Log within a law: it keeps frames, and commits. -/
import Derived.Test.YtfmbkpdjjhcmcaaGreatWLog
namespace Go.Proofs.YtfmbkpdjjhcmcaaGreat
open Go.RowKit

/-- What a law holds, and a Log's own blocks. -/
def KL (K : Nat → Prop) (l f t : Nat) : Nat → Prop := fun j => K j ∨ j = l ∨ j = f ∨ j = t

/-- A Log in block l, its Disk in b, its Framer in f, its Table in t; K is what the law holds besides. -/
structure LI (w0 : World) (K : Nat → Prop) (w : World) (l b f t N : Nat) (s : WSt) : Prop where
  dl : DL w0 (KL K l f t) w b N s.d
  fr : Fr w f t
  at' : At 60 w l (lcells b f s.limit s.at' s.size s.down)
  nl : ¬ K l
  nf : ¬ K f
  nt : ¬ K t
  lf : l ≠ f
  lt : l ≠ t

def LL (w0 : World) (K : Nat → Prop) (w : World) (l b N : Nat) (s : WSt) : Prop := ∃ f t, LI w0 K w l b f t N s

/-- What a call on a Log may turn. -/
abbrev Outs (w0 : World) (K : Nat → Prop) : Nat → Prop := fun j => w0.heap.size ≤ j ∧ ¬ K j

section
variable {w0 w w' : World} {K : Nat → Prop} {l b f t N : Nat} {s : WSt}

theorem LI.held (h : LI w0 K w l b f t N s) : ∀ j, K j → w0.heap.size ≤ j ∧ j < w.heap.size := fun j hj => h.dl.held j (.inl hj)

/-- The Disk has turned, the Log has not. -/
theorem LI.disk {N' : Nat} {d : DSt} (h : LI w0 K w l b f t N s) (hd : DL w0 (KL K l f t) w' b N' d) (tn : Turn (Outs w0 (KL K l f t)) w w') : LI w0 K w' l b f t N' { s with d := d } :=
  ⟨hd, h.fr.kept tn (fun e => e.2 (.inr (.inr (.inl rfl)))) (fun e => e.2 (.inr (.inr (.inr rfl)))), h.at'.kept tn (fun e => e.2 (.inr (.inl rfl))), h.nl, h.nf, h.nt, h.lf, h.lt⟩

theorem own_less (tn : Turn (Outs w0 (KL K l f t)) w w') : Turn (Outs w0 K) w w' := tn.mono (fun _ _ e => ⟨e.1, fun hk => e.2 (.inl hk)⟩)

/-- A field of the Log is stored anew. -/
theorem LI.set {s' : WSt} {j : Nat} {u : Value} (h : LI w0 K w l b f t N s) (hd : s'.d = s.d) (hc : (lcells b f s.limit s.at' s.size s.down).setIfInBounds j u = lcells b f s'.limit s'.at' s'.size s'.down) : LI w0 K (w.setCell ⟨l, j, none⟩ u) l b f t N s' ∧ Turn (Outs w0 K) w (w.setCell ⟨l, j, none⟩ u) := by
  have ts : Turn (fun i => i = l) w (w.setCell ⟨l, j, none⟩ u) := (Turn.refl (fun i => i = l) w).setCell (p := ⟨l, j, none⟩) (.inl rfl) _
  have hl0 := (h.dl.held l (.inr (.inl rfl))).1
  have hsz : (w.setCell ⟨l, j, none⟩ u).heap.size = w.heap.size := by simp [World.setCell]
  have hdl := h.dl.hold (ts.mono (fun i _ e => .inr (.inl e)))
  refine ⟨⟨?_, h.fr.kept ts (fun e => h.lf e.symm) (fun e => h.lt e.symm), by rw [← hc]; exact h.at'.set j u, h.nl, h.nf, h.nt, h.lf, h.lt⟩, ts.mono (fun i _ e => by subst e; exact ⟨hl0, h.nl⟩)⟩
  rw [hd]
  exact hdl.less (fun i hi => .inl hi)

end

namespace WSt

def fell (s : WSt) (d : DSt) : WSt := { s with d := d, down := true }

def keep (s : WSt) (at' size : Int) (bs : List UInt8) : Int × WSt :=
  if s.down then (14, s)
  else if (s.d.add at' bs).1 ≠ 0 then (14, s.fell (s.d.add at' bs).2)
  else if (s.d.add at' bs).2.sync.1 ≠ 0 then (14, s.fell (s.d.add at' bs).2.sync.2)
  else (0, { s with d := (s.d.add at' bs).2.sync.2, at' := at', size := size + bs.length })

def to (s : WSt) : Int × Int := if s.limit ≤ s.size then (s.at' + 1, 0) else (s.at', s.size)

def commit (s : WSt) (l : List (List UInt8)) : Int × WSt := if l = [] then (0, s) else s.keep s.to.1 s.to.2 (laidOf 1 2 l)

end WSt

section
variable {w0 w : World} {K : Nat → Prop} {l b f t N : Nat} {s : WSt}

/-- What a call on a Log comes to. -/
def LTo (w0 : World) (K : Nat → Prop) (w : World) (l b f t N : Nat) (r : Int × WSt) (e : Ending) (w' : World) : Prop := e = .returned (.int .i64 r.1) ∧ LI w0 K w' l b f t N r.2 ∧ Turn (Outs w0 K) w w'

theorem LI.mono {N' : Nat} (h : LI w0 K w l b f t N s) (hN : N ≤ N') : LI w0 K w l b f t N' s := ⟨h.dl.mono hN, h.fr, h.at', h.nl, h.nf, h.nt, h.lf, h.lt⟩

set_option maxHeartbeats 2000000 in
set_option maxRecDepth 100000 in
theorem keep_any (at' size : Int) (v : Value) (bs : List UInt8) (h : LI w0 K w l b f t N s) (hs : Sees w v bs) (hv : 0 < bs.length → ∀ k, slab v = some k → k < w0.heap.size ∨ K k) (hN : N ≤ 1073741822) (hsz : (s.d.now at').length + bs.length ≤ 140737488355328) (hz0 : 0 ≤ size) (hz1 : size ≤ 4611686018427387904) :
    Calls Tryz.prog 36 #[.pointer (some ⟨l, 0, none⟩), .int .i64 at', .int .i64 size, v] w (LTo w0 K w l b f t (N + 2) (s.keep at' size bs)) := by
  obtain ⟨vo, vc, rfl⟩ := hs.shape
  have hlen : bs.length ≤ 140737488355328 := by omega
  have c0 : w.cell? ⟨l, 0, none⟩ = some (.pointer (some ⟨b, 0, none⟩)) := h.at'.cell 0
  have c5 : w.cell? ⟨l, 5, none⟩ = some (.bool s.down) := h.at'.cell 5
  have f5 : w.frozen? ⟨l, 5, none⟩ = false := h.at'.frozen 5
  by_cases hd : s.down = true
  · have hk : s.keep at' size bs = (14, s) := by unfold WSt.keep; rw [if_pos hd]
    obtain ⟨h2, t2⟩ := h.set (s' := s) (j := 5) (u := .bool true) rfl (by rw [hd]; rfl)
    rw [hk]
    have Hfin : Hid (LTo w0 K w l b f t (N + 2) (14, s) (.returned (.int .i64 14)) (w.setCell ⟨l, 5, none⟩ (.bool true))) := hide ⟨rfl, h2.mono (by omega), t2⟩
    rw [hd] at c5
    clear h h2 t2 hk hs hv
    go_enter Tryz.func36, Tryz.ntmps36
    go_wp2
    go_ret
    exact unhide Hfin
  rw [Bool.not_eq_true] at hd
  rw [hd] at c5
  have HA := hide (dl_append (w0 := w0) (K := KL K l f t) at' (.slice vo bs.length vc) bs h.dl hs (fun h0 k hk => (hv h0 k hk).imp id .inl) (by omega) hsz)
  clear hs hv hsz
  by_cases ha : (s.d.add at' bs).1 = 0
  · by_cases hy : (s.d.add at' bs).2.sync.1 = 0
    · have hk : s.keep at' size bs = (0, { s with d := (s.d.add at' bs).2.sync.2, at' := at', size := size + bs.length }) := by
        unfold WSt.keep
        rw [if_neg (by simp [hd]), if_neg (by simp [ha]), if_neg (by simp [hy])]
      rw [hk]
      generalize bs.length = len at *
      go_enter Tryz.func36, Tryz.ntmps36
      go_wp2_with fail
      refine (unhide HA).mono ?_
      rintro e w1 ⟨rfl, hd1, t1⟩
      rw [ha]
      have h1 := h.disk hd1 t1
      have c0' : w1.cell? ⟨l, 0, none⟩ = some (.pointer (some ⟨b, 0, none⟩)) := h1.at'.cell 0
      clear HA c0 c5 f5
      go_wp2_with fail
      refine (dl_sync h1.dl (by omega)).mono ?_
      rintro e w2 ⟨rfl, hd2, t2⟩
      have hy' : ({ s with d := (s.d.add at' bs).2 } : WSt).d.sync.1 = 0 := hy
      rw [hy']
      have h2 := h1.disk hd2 t2
      obtain ⟨h3, t3⟩ := h2.set (s' := { s with d := (s.d.add at' bs).2.sync.2 }) (j := 5) (u := .bool false) rfl (by simp [hd]; rfl)
      obtain ⟨h4, t4⟩ := h3.set (s' := { s with d := (s.d.add at' bs).2.sync.2, at' := at' }) (j := 3) (u := .int .i64 at') rfl rfl
      obtain ⟨h5, t5⟩ := h4.set (s' := { s with d := (s.d.add at' bs).2.sync.2, at' := at', size := size + len }) (j := 4) (u := .int .i64 (size + len)) rfl rfl
      have hfin := And.intro h5 ((((own_less t1).trans (own_less t2)).trans t3).trans (t4.trans t5))
      have Hfin := hide hfin
      have d3 : w2.cell? ⟨l, 3, none⟩ = some (.int .i64 s.at') := h2.at'.cell 3
      have d4 : w2.cell? ⟨l, 4, none⟩ = some (.int .i64 s.size) := h2.at'.cell 4
      have d5 : w2.cell? ⟨l, 5, none⟩ = some (.bool s.down) := h2.at'.cell 5
      have g3 : w2.frozen? ⟨l, 3, none⟩ = false := h2.at'.frozen 3
      have g4 : w2.frozen? ⟨l, 4, none⟩ = false := h2.at'.frozen 4
      have g5 : w2.frozen? ⟨l, 5, none⟩ = false := h2.at'.frozen 5
      have q1 : size + (len : Int) ≤ 9223372036854775807 := by omega
      clear hfin h h1 h2 h3 h4 h5 t1 t2 t3 t4 t5 hd1 hd2 c0' hy' hk
      go_wp2
      go_ret
      exact ⟨rfl, (unhide Hfin).1, (unhide Hfin).2⟩
    · have hk : s.keep at' size bs = (14, s.fell (s.d.add at' bs).2.sync.2) := by
        unfold WSt.keep
        rw [if_neg (by simp [hd]), if_neg (by simp [ha]), if_pos (by simpa using hy)]
      rw [hk]
      generalize bs.length = len at *
      go_enter Tryz.func36, Tryz.ntmps36
      go_wp2_with fail
      refine (unhide HA).mono ?_
      rintro e w1 ⟨rfl, hd1, t1⟩
      rw [ha]
      have h1 := h.disk hd1 t1
      have c0' : w1.cell? ⟨l, 0, none⟩ = some (.pointer (some ⟨b, 0, none⟩)) := h1.at'.cell 0
      clear HA c0 c5 f5
      go_wp2_with fail
      refine (dl_sync h1.dl (by omega)).mono ?_
      rintro e w2 ⟨rfl, hd2, t2⟩
      have hy' : (({ s with d := (s.d.add at' bs).2 } : WSt).d.sync.1 != 0) = true := by simpa using hy
      have h2 := h1.disk hd2 t2
      obtain ⟨h3, t3⟩ := h2.set (s' := s.fell (s.d.add at' bs).2.sync.2) (j := 5) (u := .bool true) rfl rfl
      have hfin := And.intro h3 (((own_less t1).trans (own_less t2)).trans t3)
      have Hfin := hide hfin
      have d5 : w2.cell? ⟨l, 5, none⟩ = some (.bool s.down) := h2.at'.cell 5
      have g5 : w2.frozen? ⟨l, 5, none⟩ = false := h2.at'.frozen 5
      clear hfin h h1 h2 h3 t1 t2 t3 hd1 hd2 c0' hk
      generalize ({ s with d := (s.d.add at' bs).2 } : WSt).d.sync.1 = y at *
      go_wp2
      go_ret
      exact ⟨rfl, (unhide Hfin).1, (unhide Hfin).2⟩
  · have hk : s.keep at' size bs = (14, s.fell (s.d.add at' bs).2) := by
      unfold WSt.keep
      rw [if_neg (by simp [hd]), if_pos (by simpa using ha)]
    rw [hk]
    have ha' : ((s.d.add at' bs).1 != 0) = true := by simpa using ha
    generalize bs.length = len at *
    go_enter Tryz.func36, Tryz.ntmps36
    go_wp2_with fail
    refine (unhide HA).mono ?_
    rintro e w1 ⟨rfl, hd1, t1⟩
    have h1 := h.disk hd1 t1
    obtain ⟨h3, t3⟩ := h1.set (s' := s.fell (s.d.add at' bs).2) (j := 5) (u := .bool true) rfl rfl
    have hfin := And.intro (h3.mono (show N + 1 ≤ N + 2 by omega)) ((own_less t1).trans t3)
    have Hfin := hide hfin
    have d5 : w1.cell? ⟨l, 5, none⟩ = some (.bool s.down) := h1.at'.cell 5
    have g5 : w1.frozen? ⟨l, 5, none⟩ = false := h1.at'.frozen 5
    clear hfin HA c0 c5 f5 h h1 h3 t1 t3 hd1 hk ha
    generalize (s.d.add at' bs).1 = y at *
    go_wp2
    go_ret
    exact ⟨rfl, (unhide Hfin).1, (unhide Hfin).2⟩

end

end Go.Proofs.YtfmbkpdjjhcmcaaGreat
