/- What stands below the proof, in one text. -/
import Derived.Test.YtnipdgigjcaolaaGreatKRep
import Derived.Test.YtnipdgigjcaolaaGreatKCop
import Derived.Test.YtnipdgigjcaolaaGreatWOpen
import Derived.Test.YtnipdgigjcaolaaGreatPkS
import Derived.Test.YtnipdgigjcaolaaGreatPkG
import Derived.Test.YtnipdgigjcaolaaGreatPkH
import Derived.Deep.QuietTactic
import Derived.BigQuiet
import Derived.Shelf.Sort.Plain
import Derived.Shelf.Slices.In.SortNone
import Derived.Sort.OwnSorted
import Derived.Test.YtnipdgigjcaolaaGreatPkA
import Derived.Maps.RangeWalk
import Derived.Sort.KeysCollected
import Derived.OwnWalk
import Derived.Deep.RegionHeld
/- A store in memory, and kv's Open. -/
namespace Go.Proofs.YtnipdgigjcaolaaGreat
open Go.RowKit

/-- Pairs as a store has them. -/
def fitK (m : List (List UInt8 × List UInt8)) : Prop := ∀ p ∈ m, 0 < p.1.length ∧ p.1.length ≤ 255 ∧ p.2.length ≤ 65535

theorem fit_turn {m : List (List UInt8 × List UInt8)} (h : fitK m) {c : Chg} (hc : c.ok = true) : fitK (turnC m c) := by
  intro p hp
  unfold turnC at hp
  split at hp
  · unfold kput at hp
    rcases (kins_mem _ _ _ _).1 hp with rfl | h1
    · have h2 := ok_bounds hc
      have h3 := text_length c.key
      unfold Chg.ok at hc
      simp only [Bool.and_eq_true, decide_eq_true_eq] at hc
      exact ⟨by show 0 < c.key.data.toList.length; omega, by show c.key.data.toList.length ≤ 255; omega, h2.2⟩
    · exact h p (List.mem_filter.1 h1).1
  · exact h p (List.mem_filter.1 hp).1

theorem fit_fold : ∀ (l : List (List UInt8)) {m m2 : List (List UInt8 × List UInt8)}, fitK m → l.foldl stepC (some m) = some m2 → fitK m2
  | [], m, m2, h, e => by
    injection e with e
    exact e ▸ h
  | x :: r, m, m2, h, e => by
    rw [List.foldl_cons] at e
    cases hr : readC x with
    | none =>
      rw [show stepC (some m) x = none by simp [stepC, hr], fold_none] at e
      cases e
    | some c =>
      rw [show stepC (some m) x = some (turnC m c) by simp [stepC, hr]] at e
      exact fit_fold r (fit_turn h (readC_some hr).1) e

theorem fit_replay {l : List (List UInt8)} {m : List (List UInt8 × List UInt8)} (h : replayC l = some m) : fitK m := fit_fold l (fun p hp => by simp at hp) h

/-- A Store in block sb: its log in l (its Framer in f, its Table in t), its Disk in b, its map in mb. -/
structure KS (w0 : World) (K : Nat → Prop) (w : World) (sb mb l b f t N : Nat) (s : WSt) (m : List (List UInt8 × List UInt8)) : Prop where
  li : LI w0 K w l b f t N s
  at' : At 119 w sb #[.pointer (some ⟨l, 0, none⟩), .map (some mb), .bool false]
  ks : K sb
  ne : sb ≠ mb
  mp : ∃ m', MPs K w mb m' ∧ plain m' = m
  fit : fitK m

/-- What Open comes to. -/
def KOp (w0 : World) (K : Nat → Prop) (w : World) (b N M : Nat) (d : DSt) (seg : Int) (e : Ending) (w' : World) : Prop :=
  ∃ ns, d.Nums ns ∧ match openN d.read ns (HSt.zero, 0) with
  | none => e = .returned (.tuple #[.pointer none, .int .i64 5]) ∧ Turn (fun _ => False) w w'
  | some y => match replayC y.1.recs with
    | none => e = .returned (.tuple #[.pointer none, .int .i64 5]) ∧ Turn (fun _ => False) w w'
    | some m => ∃ sb mb l f t, ∃ K' : Nat → Prop, e = .returned (.tuple #[.pointer (some ⟨sb, 0, none⟩), .int .i64 0]) ∧ KS w0 K' w' sb mb l b f t (N + M) ⟨d.gone (ns.filter (· < y.1.since)), seg, y.2, 0, false⟩ m ∧ (∀ j, K j → K' j) ∧ Turn (Outs w0 K) w w' ∧ w.heap.size ≤ sb ∧ w.heap.size ≤ mb

section
variable {w0 w : World} {K : Nat → Prop} {b N : Nat} {d : DSt} {seg : Int}

theorem nums_same {d d2 : DSt} (h : d2.read = d.read) {ns : List Int} (hn : d2.Nums ns) : d.Nums ns := ⟨hn.1, fun k => by rw [← h]; exact hn.2 k⟩

set_option maxHeartbeats 8000000 in
set_option maxRecDepth 100000 in
theorem kopen_any (M B : Nat) (h : DL w0 K w b N d) (hd : d.dead = false) (hs0 : 256 ≤ seg) (hs1 : seg ≤ 1048576) (hM : ∀ ns, d.Nums ns → ns.length ≤ M) (hB : ∀ k, (d.read k).length ≤ B) (hMB : (M + 1) * B ≤ 1099511627776) (hN : N + (M + M) ≤ 1073741822) (hk : ∀ k, d.read k ≠ [] → 0 ≤ k ∧ k ≤ 1099511627776)
    (hR : ∀ ns y, d.Nums ns → openN d.read ns (HSt.zero, 0) = some y → y.1.recs.length ≤ 1000000 ∧ ∀ x ∈ y.1.recs, x.length ≤ 1099511627776) :
    Calls Tryz.prog 22 #[.pointer (some ⟨b, 0, none⟩), .int .i64 seg] w (KOp w0 K w b N M d seg) := by
  have hBB : B ≤ 1099511627776 := by
    have : 1 * B ≤ (M + 1) * B := Nat.mul_le_mul_right B (by omega)
    omega
  have hnow : ∀ k, (d.now k).length ≤ B := fun k => by
    have := hB k
    unfold DSt.read at this
    rw [hd] at this
    simpa using this
  have HC := hide (copied2_any B h (by omega) hnow hBB (fun k hk' => (hk k hk').1))
  have H := hide h
  have HM := hide hM
  have HB := hide hB
  have HMB := hide hMB
  have HK := hide hk
  have HR := hide hR
  clear h hM hB hk hR hnow
  go_enter Tryz.func22, Tryz.ntmps22
  go_wp2_with fail
  refine (unhide HC).mono ?_
  rintro e w1 ⟨c, ns, Kc, rfl, hns, hdc, t1⟩
  obtain ⟨cd, _, cr⟩ := copyOf_read hns (fun k hk => (unhide HK k ((hns.2 k).1 hk)).1)
  have HO := hide (open_any (seg := seg) M B hdc cd hs0 hs1 (fun l hl => unhide HM l (nums_same cr hl)) (fun k => by rw [cr]; exact unhide HB k) (unhide HMB) (by have := unhide HM ns hns; omega) (fun k hk => unhide HK k (by rw [← cr]; exact hk)))
  have Hns := hide hns
  have Hcr := hide cr
  have T1 := hide t1
  clear HC hns hdc cd cr t1
  go_wp2_with fail
  refine (unhide HO).mono ?_
  rintro e w2 ⟨ns2, hns2, ho⟩
  obtain rfl : ns2 = ns := rise_same hns2.1 (unhide Hns).1 (fun k => by rw [hns2.2 k, (unhide Hns).2 k, unhide Hcr])
  rw [unhide Hcr] at ho
  have hend : ∀ e w', (match openN d.read ns2 (HSt.zero, 0) with
  | none => e = .returned (.tuple #[.pointer none, .int .i64 5]) ∧ Turn (fun _ => False) w w'
  | some y => match replayC y.1.recs with
    | none => e = .returned (.tuple #[.pointer none, .int .i64 5]) ∧ Turn (fun _ => False) w w'
    | some m => ∃ sb mb l f t, ∃ K' : Nat → Prop, e = .returned (.tuple #[.pointer (some ⟨sb, 0, none⟩), .int .i64 0]) ∧ KS w0 K' w' sb mb l b f t (N + M) ⟨d.gone (ns2.filter (· < y.1.since)), seg, y.2, 0, false⟩ m ∧ (∀ j, K j → K' j) ∧ Turn (Outs w0 K) w w' ∧ w.heap.size ≤ sb ∧ w.heap.size ≤ mb) → KOp w0 K w b N M d seg e w' := fun e w' h => ⟨ns2, unhide Hns, h⟩
  have Hend := hide hend
  clear HO hend hns2
  cases hop : openN d.read ns2 (HSt.zero, 0) with
  | none =>
    rw [hop] at ho Hend
    obtain ⟨rfl, t2⟩ := ho
    have Hfin := hide ((unhide T1).trans t2)
    clear hop t2
    go_wp2
    go_ret2
    exact unhide Hend _ _ ⟨rfl, unhide Hfin⟩
  | some y =>
    rw [hop] at ho Hend
    obtain ⟨lc, fc, tc, rv, rl, K2, rfl, hli, hrl, hrecs, _, t2⟩ := ho
    have hRR := unhide HR ns2 y (unhide Hns) hop
    obtain ⟨ro, rc, hre⟩ := hrl.shape
    have T2 := hide ((unhide T1).trans' t2 (fun i hi e => by have := e.1; omega))
    have hrll : rl.length = y.1.recs.length := by rw [← hrecs, List.length_map]
    have HRp := hide (replay_any rv rl w2 hrl (fun j hj => (hli.held j hj.1).2) (by rw [hrll]; exact hRR.1) (fun p hp => hRR.2 _ (by rw [← hrecs]; exact List.mem_map.2 ⟨p, hp, rfl⟩)))
    rw [hrecs] at HRp
    generalize rl.length = rn at hre
    have Hop := hide hop
    subst hre
    clear hli hrl hrecs t2 hRR hrll hop
    go_wp2_with fail
    refine (unhide HRp).mono ?_
    rintro e w3 ⟨t3, hr⟩
    cases hrep : replayC y.1.recs with
    | none =>
      rw [hrep] at hr
      simp only [hrep] at Hend
      simp only at hr
      subst hr
      have Hfin := hide ((unhide T2).trans t3)
      clear hrep HRp t3
      go_wp2
      go_ret2
      exact unhide Hend _ _ ⟨rfl, unhide Hfin⟩
    | some m =>
      rw [hrep] at hr
      simp only [hrep] at Hend
      obtain ⟨mb, m', rfl, hmp, hpl⟩ := hr
      have hfit := fit_replay hrep
      have T3 := hide ((unhide T2).trans t3)
      have HO2 := hide (open_any (seg := seg) M B ((unhide H).new (unhide T3)) hd hs0 hs1 (unhide HM) (unhide HB) (unhide HMB) (by omega) (unhide HK))
      have hw2 := (unhide T2).size
      have Hmb : Hid (w.heap.size ≤ mb) := hide (hmp.own.elim (fun e => e.elim) (fun e => by have := e.1; omega))
      have Hmp := hide (And.intro (hmp.mono (Q' := grow K w w3) (fun j hj => hj.elim (fun e => e.elim) (fun e => .inr ⟨by omega, e.2⟩))) (And.intro hpl hfit))
      clear hrep HRp t3 hmp hpl hfit
      go_wp2_with fail
      refine (unhide HO2).mono ?_
      rintro e w4 ⟨ns4, hns4, ho4⟩
      obtain rfl : ns4 = ns2 := rise_same hns4.1 (unhide Hns).1 (fun k => by rw [hns4.2 k, (unhide Hns).2 k])
      rw [unhide Hop] at ho4
      obtain ⟨l, f, t, rv4, rl4, K4, rfl, hli, hrl4, _, hK4, t4⟩ := ho4
      obtain ⟨ro4, rc4, hre4⟩ := hrl4.shape
      obtain ⟨ha1, ha2, ha3⟩ := unhide Hmp
      have hmp4 := (ha1.kept t4 (fun j hj e => e.2 hj)).mono hK4
      have ta : Turn (fun _ => False) w4 (w4.alloc (.cells #[.pointer (some ⟨l, 0, none⟩), .map (some mb), .bool false] 119)) := (Turn.refl _ _).alloc _
      have hA : At 119 (w4.alloc (.cells #[.pointer (some ⟨l, 0, none⟩), .map (some mb), .bool false] 119)) w4.heap.size #[.pointer (some ⟨l, 0, none⟩), .map (some mb), .bool false] := At.new _ _ _
      have hks : KS w0 (grow K4 w4 (w4.alloc (.cells #[.pointer (some ⟨l, 0, none⟩), .map (some mb), .bool false] 119))) (w4.alloc (.cells #[.pointer (some ⟨l, 0, none⟩), .map (some mb), .bool false] 119)) w4.heap.size mb l b f t (N + M) ⟨d.gone (ns4.filter (· < y.1.since)), seg, y.2, 0, false⟩ m :=
        ⟨hli.goes ta, hA, .inr ⟨Nat.le_refl _, hA.lt⟩, fun e => by have := hmp4.lt; omega, ⟨m', (hmp4.kept ta (fun _ _ e => e)).mono (fun j hj => .inl hj), ha2⟩, ha3⟩
      have htt : Turn (Outs w0 K) w (w4.alloc (.cells #[.pointer (some ⟨l, 0, none⟩), .map (some mb), .bool false] 119)) := (((unhide T3).mono (fun _ _ e => e.elim)).trans' t4 (fun i hi e => ⟨e.1, fun hk => e.2 (.inl hk)⟩)).trans' ta (fun _ _ e => e.elim)
      have hs4 : w.heap.size ≤ w4.heap.size := by
        have h1 := (unhide T3).size
        have h2 := t4.size
        omega
      have Hfin := hide (And.intro hks (And.intro htt (And.intro hs4 (unhide Hmb))))
      have HK4 : Hid (∀ j, K j → K4 j) := hide (fun j hj => hK4 j (.inl hj))
      generalize rl4.length = rn4 at hre4
      subst hre4
      clear HO2 hns4 hli hrl4 hK4 t4 hmp4 ta hA hks htt hs4 ha1 ha2 ha3
      go_wp2
      go_ret2
      exact unhide Hend _ _ ⟨_, mb, l, f, t, _, rfl, (unhide Hfin).1, fun j hj => .inl (unhide HK4 j hj), (unhide Hfin).2⟩

end

end Go.Proofs.YtnipdgigjcaolaaGreat

/- Changes in memory: kv's layAll. -/
namespace Go.Proofs.YtnipdgigjcaolaaGreat
open Go.RowKit

/-- One change, at its place. -/
structure ChAt (Q : Nat → Prop) (w : World) (g o : Nat) (p : Value × Chg) : Prop where
  c0 : w.cell? ⟨g, o, none⟩ = some (.string p.2.key)
  c1 : w.cell? ⟨g, o + 1, none⟩ = some (.bool p.2.has)
  c2 : w.cell? ⟨g, o + 2, none⟩ = some p.1
  sees : Sees w p.1 p.2.val
  mem : 0 < p.2.val.length → ∀ j, slab p.1 = some j → Q j
  key : p.2.key.size ≤ 1099511627776
  len : p.2.val.length ≤ 140737488355328

/-- Changes in memory, all of it in Q. -/
structure CLs (Q : Nat → Prop) (w : World) (v : Value) (l : List (Value × Chg)) : Prop where
  shape : ∃ ao cap, v = .slice ao l.length cap ∧ l.length ≤ 1099511627776
  each : ∀ k (hk : k < l.length), ∃ g cap, v = .slice (some ⟨g, 0, none⟩) l.length cap ∧ Q g ∧ ChAt Q w g (k * 3) l[k]

section
variable {Q Q' : Nat → Prop} {w w' : World} {g o : Nat} {p : Value × Chg} {v : Value} {l : List (Value × Chg)}

theorem ChAt.kept {S : Nat → Prop} (h : ChAt Q w g o p) (hg : Q g) (t : Turn S w w') (hS : ∀ j, Q j → ¬ S j) : ChAt Q w' g o p := by
  have hlt := World.block_lt_of_cell? _ _ h.c0
  have hc : ∀ i, w'.cell? ⟨g, i, none⟩ = w.cell? ⟨g, i, none⟩ := fun i => t.cell (p := ⟨g, i, none⟩) hlt (hS g hg)
  exact ⟨(hc _).trans h.c0, (hc _).trans h.c1, (hc _).trans h.c2, h.sees.kept' t (fun h0 j hj => hS j (h.mem h0 j hj)), h.mem, h.key, h.len⟩

theorem CLs.kept {S : Nat → Prop} (h : CLs Q w v l) (t : Turn S w w') (hS : ∀ j, Q j → ¬ S j) : CLs Q w' v l :=
  ⟨h.shape, fun k hk => by
    obtain ⟨g, cap, e, hg, hc⟩ := h.each k hk
    exact ⟨g, cap, e, hg, hc.kept hg t hS⟩⟩

theorem CLs.mono (h : CLs Q w v l) (hQ : ∀ j, Q j → Q' j) : CLs Q' w v l :=
  ⟨h.shape, fun k hk => by
    obtain ⟨g, cap, e, hg, hc⟩ := h.each k hk
    exact ⟨g, cap, e, hQ g hg, hc.c0, hc.c1, hc.c2, hc.sees, fun h0 j hj => hQ j (hc.mem h0 j hj), hc.key, hc.len⟩⟩

theorem CLs.nil (Q : Nat → Prop) (w : World) : CLs Q w (.slice none 0 0) [] := ⟨⟨none, 0, rfl, by simp⟩, fun k hk => by simp at hk⟩

end

/-- What layAll comes to. -/
def LAll (w : World) (l : List Chg) (e : Ending) (w' : World) : Prop :=
  ((l.all Chg.ok) = true ∧ ∃ v rl, e = .returned (.tuple #[v, .int .i64 0]) ∧ RM (fun _ => False) w v rl w' ∧ rl.map (·.2) = l.map Chg.laid) ∨
  ((l.all Chg.ok) = false ∧ e = .returned (.tuple #[.slice none 0 0, .int .i64 1]) ∧ Turn (fun _ => False) w w')

set_option maxHeartbeats 4000000 in
set_option maxRecDepth 100000 in
theorem layC_any {Q : Nat → Prop} (v : Value) (l : List (Value × Chg)) (w : World) (h : CLs Q w v l) (hQ : ∀ j, Q j → j < w.heap.size) (hl : l.length ≤ 1000000) :
    Calls Tryz.prog 69 #[v] w (LAll w (l.map (·.2))) := by
  obtain ⟨lo, lc, rfl, _⟩ := h.shape
  have H := hide h
  clear h
  obtain ⟨len, hlen⟩ : ∃ len, len = l.length := ⟨_, rfl⟩
  have HL := hide hlen
  have HQ := hide hQ
  rw [← hlen] at H hl ⊢
  clear hlen hQ
  go_enter Tryz.func69, Tryz.ntmps69
  go_wp2_with fail
  go_loopw [4, 6, 7, 8, 11] (fun out _ _ _ i wr => ∃ (n : Nat) (rl : List (Value × List UInt8)), i = .int .i64 n ∧ n ≤ len ∧ RM (fun _ => False) w out rl wr ∧ rl.map (·.2) = ((l.map (·.2)).take n).map Chg.laid ∧ ((l.map (·.2)).take n).all Chg.ok = true) (fun _ _ _ _ i _ => len - (intOf i).toNat)
  case atStart => exact ⟨0, [], rfl, by omega, RM.nil _ _, rfl, rfl⟩
  case round =>
    obtain ⟨n, rl, rfl, hnl, hm, he, hok⟩ := hrel
    have hrl : rl.length = n := by
      have := congrArg List.length he
      have h2 := unhide HL
      simp at this
      omega
    by_cases hlt : n < len
    · have hkl : n < l.length := by have := unhide HL; omega
      obtain ⟨g, cap, e, hg, hc⟩ := ((unhide H).kept hm.turn (fun _ _ e => e)).each n hkl
      have hp : l[n] = (l[n].1, ⟨l[n].2.key, l[n].2.has, l[n].2.val⟩) := rfl
      obtain ⟨pv, ⟨key, has, val⟩, hpe⟩ : ∃ pv c, (pv, c) = l[n] := ⟨l[n].1, l[n].2, rfl⟩
      rw [← hpe] at hc
      have hnx : (l.map (·.2)).take (n + 1) = (l.map (·.2)).take n ++ [⟨key, has, val⟩] := by
        rw [List.take_succ_eq_append_getElem (by simpa using hkl)]
        simp [← hpe]
      injection e with e1 e2 e3
      have k0 := hc.c0
      have k1 := hc.c1
      have k2 := hc.c2
      simp only at k0 k1 k2
      have hvs := hc.sees
      obtain ⟨po, pc, hpv⟩ := hvs.shape
      simp only at hpv
      have Hm := hide hm
      have He := hide he
      have Hok := hide hok
      have Hnx := hide hnx
      have Hc := hide hc
      have q1 : (n : Int) < len := by omega
      obtain ⟨oo, oc, hoe⟩ := hm.shape
      rw [hrl] at hoe
      obtain ⟨vn, hvn⟩ : ∃ vn, vn = val.length := ⟨_, rfl⟩
      rw [← hvn] at hpv
      have Hvn := hide hvn
      subst hpv hoe e1
      clear e2 e3 hp hpe hm he hok hnx hc hvs hvn
      obtain ⟨wa, hwa⟩ : ∃ wa, wa = wr.alloc (.cells #[.string key, .bool has, .slice po vn pc] 51) := ⟨_, rfl⟩
      have ta : Turn (fun _ => False) wr wa := by rw [hwa]; exact (Turn.refl _ _).alloc _
      have hca := (unhide Hc).kept hg ta (fun _ _ e => e)
      have hwr := (unhide Hm).turn.size
      have hta := ta.size
      have hlt2 : 0 < val.length → ∀ j, slab (.slice po vn pc) = some j → j < wa.heap.size := fun h0 j hj => by
        have := unhide HQ j (hca.mem h0 j hj)
        omega
      have Hma := hide ((unhide Hm).goes ta)
      have Hwa := hide hwa
      have hkm : key.size ≤ maxLen := by have := hca.key; unfold maxLen; simp only at this; omega
      have hsee := hca.sees
      clear hwa ta
      go_wp2_with fail
      rw [← unhide Hwa]
      by_cases hco : Chg.ok ⟨key, has, val⟩ = true
      · refine (klay_yes key has _ val wa hsee hkm hlt2 hco).mono ?_
        rintro e w1 ⟨v1, rfl, m1⟩
        obtain ⟨o1, c1, hv1⟩ := m1.1.shape
        have hm1 := (unhide Hma).goes m1.2.1
        have ta : Turn (fun _ => False) w1 (w1.alloc (.cells #[v1] 29)) := (Turn.refl _ _).alloc _
        have hlit := SeesC.lit w1 [v1] 29 (by simp [maxLen])
        have hm2 := hm1.goes ta
        obtain ⟨v2, w2, hr, ho, hg2, hk⟩ := append_lists _ _ (rl.map (·.1)) hm2.own _ [v1] hlit (by intro u hu; simp at hu; rw [hu, hv1]; rfl) (by rw [List.length_map, hrl]; simp; omega)
        have hfin := hm2.more (qs := [(v1, Chg.laid ⟨key, has, val⟩)]) (by
          intro p hp
          simp only [List.mem_singleton] at hp
          subst hp
          refine ⟨m1.1.sees.kept ta (fun _ _ e => e), fun h0 j hj => ?_⟩
          have hj' : v1.ownBlock = some j := by rw [← m1.1.slab_eq]; exact hj
          have h1 := m1.2.2 j hj'
          have h2 := m1.1.lt hj'
          have h3 := (unhide Hma).turn.size
          have h4 := ta.size
          refine ⟨.inr (by omega), by omega, fun e => ?_⟩
          have := (unhide Hma).own.lt e
          omega) ho hg2 hk
        obtain ⟨o2, c2, hv2⟩ := ho.shape'
        simp only [List.length_append, List.length_map, List.length_cons, List.length_nil, Nat.zero_add] at hv2
        rw [hrl] at hv2
        simp only [List.length_cons, List.length_nil, Nat.zero_add] at hr
        have Hr := hide hr
        have Hfin := hide hfin
        have hall : ((l.map (·.2)).take (n + 1)).all Chg.ok = true := by rw [unhide Hnx, List.all_append, unhide Hok]; simp [hco]
        have hlaid : (rl ++ [(v1, Chg.laid ⟨key, has, val⟩)]).map (·.2) = ((l.map (·.2)).take (n + 1)).map Chg.laid := by rw [List.map_append, unhide He, unhide Hnx]; simp
        have Hend := hide (And.intro hlaid hall)
        clear hfin hr hk hg2 ho hm2 hlit ta hm1 m1 hall hlaid hca hsee hlt2 hco
        generalize (Chg.laid ⟨key, has, val⟩).length = n1 at hv1
        subst hv1 hv2
        go_wp2_with (at_builtin; refine wpList_append_run rfl (.tmp 23) (.tmp 25) 22 rfl _ _ _ w2 rfl rfl (unhide Hr) ?_)
        go_roundw
        case rel => exact ⟨n + 1, _, by go_num, by omega, unhide Hfin, (unhide Hend).1, (unhide Hend).2⟩
        case measure => simp [intOf]; omega
      · have hco' : Chg.ok ⟨key, has, val⟩ = false := by simpa using hco
        refine (klay_no key has _ val wa hsee hkm hco').mono ?_
        rintro e w1 ⟨rfl, t1⟩
        have hbad : (l.map (·.2)).all Chg.ok = false := by
          rw [List.all_eq_false]
          refine ⟨⟨key, has, val⟩, ?_, by simp [hco']⟩
          have hin : (⟨key, has, val⟩ : Chg) ∈ (l.map (·.2)).take (n + 1) := by rw [unhide Hnx]; simp
          exact List.mem_of_mem_take hin
        have Hfin := hide (And.intro hbad ((unhide Hma).turn.trans t1))
        clear hca hsee hlt2 t1 hbad hco hco'
        go_wp2
        go_ret2
        exact .inr ⟨(unhide Hfin).1, rfl, (unhide Hfin).2⟩
    · obtain rfl : n = len := by omega
      have q1 : ¬ (n : Int) < n := by omega
      have hall : (l.map (·.2)).take n = l.map (·.2) := List.take_of_length_le (by rw [List.length_map, ← unhide HL]; exact Nat.le_refl _)
      rw [hall] at he hok
      obtain ⟨oo, oc, hoe⟩ := hm.shape
      have Hfin := hide (And.intro hok (And.intro hm he))
      rw [hrl] at hoe
      subst hoe
      clear hm he hok hall
      go_wp2
      go_ret2
      exact .inl ⟨(unhide Hfin).1, _, rl, rfl, (unhide Hfin).2.1, (unhide Hfin).2.2⟩

end Go.Proofs.YtnipdgigjcaolaaGreat

/- kv's Commit, Get, Count and Dead. -/
namespace Go.Proofs.YtnipdgigjcaolaaGreat
open Go.RowKit

/-- A Store that is dead. -/
structure KD (w0 : World) (K : Nat → Prop) (w : World) (sb l b f t N : Nat) (s : WSt) : Prop where
  li : LI w0 K w l b f t N s
  at' : At 119 w sb #[.pointer (some ⟨l, 0, none⟩), .map none, .bool true]
  ks : K sb

/-- A Store as it is read. -/
structure KR (K : Nat → Prop) (w : World) (sb mb l : Nat) (m : List (List UInt8 × List UInt8)) : Prop where
  at' : At 119 w sb #[.pointer (some ⟨l, 0, none⟩), .map (some mb), .bool false]
  ks : K sb
  mp : ∃ m', MPs K w mb m' ∧ plain m' = m
  fit : fitK m

section
variable {w0 w w1 : World} {K : Nat → Prop} {sb mb l b f t N : Nat} {s : WSt} {m : List (List UInt8 × List UInt8)}

theorem KS.kr (h : KS w0 K w sb mb l b f t N s m) : KR K w sb mb l m := ⟨h.at', h.ks, h.mp, h.fit⟩

theorem KR.kept {S : Nat → Prop} (h : KR K w sb mb l m) (tn : Turn S w w1) (hS : ∀ j, K j → ¬ S j) : KR K w1 sb mb l m := by
  obtain ⟨m', h1, h2⟩ := h.mp
  exact ⟨h.at'.kept tn (hS sb h.ks), h.ks, ⟨m', h1.kept tn hS, h2⟩, h.fit⟩

theorem KS.goes (h : KS w0 K w sb mb l b f t N s m) (tn : Turn (fun _ => False) w w1) : KS w0 (grow K w w1) w1 sb mb l b f t N s m := by
  obtain ⟨m', h1, h2⟩ := h.mp
  exact ⟨h.li.goes tn, h.at'.kept tn (fun e => e), .inl h.ks, h.ne, ⟨m', (h1.kept tn (fun _ _ e => e)).mono (fun j hj => .inl hj), h2⟩, h.fit⟩

theorem KD.goes (h : KD w0 K w sb l b f t N s) (tn : Turn (fun _ => False) w w1) : KD w0 (grow K w w1) w1 sb l b f t N s := ⟨h.li.goes tn, h.at'.kept tn (fun e => e), .inl h.ks⟩

theorem KS.mono {N' : Nat} (h : KS w0 K w sb mb l b f t N s m) (hN : N ≤ N') : KS w0 K w sb mb l b f t N' s m := ⟨h.li.mono hN, h.at', h.ks, h.ne, h.mp, h.fit⟩
theorem KD.mono {N' : Nat} (h : KD w0 K w sb l b f t N s) (hN : N ≤ N') : KD w0 K w sb l b f t N' s := ⟨h.li.mono hN, h.at', h.ks⟩

set_option maxHeartbeats 2000000 in
set_option maxRecDepth 100000 in
theorem kdead_no (h : KS w0 K w sb mb l b f t N s m) : Calls Tryz.prog 31 #[.pointer (some ⟨sb, 0, none⟩)] w fun e w' => e = .returned (.bool false) ∧ w = w' := by
  have c2 : w.cell? ⟨sb, 2, none⟩ = some (.bool false) := h.at'.cell 2
  clear h
  go_enter Tryz.func31, Tryz.ntmps31
  go_wp2
  go_ret
  exact ⟨rfl, rfl⟩

set_option maxHeartbeats 2000000 in
set_option maxRecDepth 100000 in
theorem kdead_yes (h : KD w0 K w sb l b f t N s) : Calls Tryz.prog 31 #[.pointer (some ⟨sb, 0, none⟩)] w fun e w' => e = .returned (.bool true) ∧ w = w' := by
  have c2 : w.cell? ⟨sb, 2, none⟩ = some (.bool true) := h.at'.cell 2
  clear h
  go_enter Tryz.func31, Tryz.ntmps31
  go_wp2
  go_ret
  exact ⟨rfl, rfl⟩

set_option maxHeartbeats 2000000 in
set_option maxRecDepth 100000 in
theorem kcount_any (h : KR K w sb mb l m) : Calls Tryz.prog 26 #[.pointer (some ⟨sb, 0, none⟩)] w fun e w' => e = .returned (.int .i64 m.length) ∧ w = w' := by
  have c1 : w.cell? ⟨sb, 1, none⟩ = some (.map (some mb)) := h.at'.cell 1
  obtain ⟨m', h1, h2⟩ := h.mp
  have hl : m.length = m'.length := by rw [← h2, plain_length]
  have hlen := h1.len
  rw [← hl] at hlen
  clear h h1 h2 hl
  go_enter Tryz.func26, Tryz.ntmps26
  go_wp2
  go_ret
  exact ⟨rfl, rfl⟩

set_option maxHeartbeats 2000000 in
set_option maxRecDepth 100000 in
theorem kcount_dead (h : KD w0 K w sb l b f t N s) : Calls Tryz.prog 26 #[.pointer (some ⟨sb, 0, none⟩)] w fun e w' => e = .returned (.int .i64 0) ∧ w = w' := by
  have c1 : w.cell? ⟨sb, 1, none⟩ = some (.map none) := h.at'.cell 1
  have hlen := fun ty => Maps.len_nil (P := Tryz.prog) (w := w) Tryz.underlying115 ty
  clear h
  go_enter Tryz.func26, Tryz.ntmps26
  go_wp2
  go_ret
  exact ⟨rfl, rfl⟩

set_option maxHeartbeats 2000000 in
set_option maxRecDepth 100000 in
theorem kget_any (h : KR K w sb mb l m) (k : ByteArray) (hk : k.size ≤ 1099511627776) :
    Calls Tryz.prog 68 #[.pointer (some ⟨sb, 0, none⟩), .string k] w fun e w' => ∃ v, e = .returned (.tuple #[v, .bool (kget k.data.toList m).isSome]) ∧ Made w v ((kget k.data.toList m).getD []) w' := by
  have c1 : w.cell? ⟨sb, 1, none⟩ = some (.map (some mb)) := h.at'.cell 1
  obtain ⟨m', h1, h2⟩ := h.mp
  have hl := h1.look k (by unfold maxLen; omega)
  have hm : kget k.data.toList m = (kget k.data.toList m').map Prod.snd := by rw [← h2]; exact kget_map _ _ _
  have hsee : Sees w (((kget k.data.toList m').map Prod.fst).getD (.slice none 0 0)) ((kget k.data.toList m).getD []) := by
    rw [hm]
    cases hg : kget k.data.toList m' with
    | none => exact Sees.nil w
    | some p =>
      obtain ⟨q, hq, e⟩ := Option.map_eq_some_iff.1 hg
      have := (h1.each q (List.mem_of_find?_eq_some hq)).1
      rw [e] at this
      exact this
  have hb : ((kget k.data.toList m).getD []).length ≤ 65535 := by
    cases hg : kget k.data.toList m with
    | none => simp
    | some x =>
      obtain ⟨q, hq, e⟩ := Option.map_eq_some_iff.1 hg
      have := (h.fit q (List.mem_of_find?_eq_some hq)).2.2
      rw [e] at this
      exact this
  have his : (kget k.data.toList m').isSome = (kget k.data.toList m).isSome := by rw [hm, Option.isSome_map]
  rw [his] at hl
  obtain ⟨vo, vc, hv⟩ := hsee.shape
  have HC := hide (clone_any _ _ w hsee (by omega))
  rw [hv] at hl HC
  clear h h1 h2 hm hsee hb his hv
  generalize (kget k.data.toList m).isSome = is at *
  generalize (kget k.data.toList m).getD [] = bs at *
  generalize hn : bs.length = n at *
  have Hn := hide hn
  clear hn
  go_enter Tryz.func68, Tryz.ntmps68
  go_wp2_with fail
  refine (unhide HC).mono ?_
  rintro e w1 ⟨v1, rfl, hm⟩
  obtain ⟨o1, p1, e1⟩ := hm.1.shape
  have Hm := hide hm
  rw [unhide Hn] at e1
  subst e1
  clear hm hl
  go_wp2
  go_ret2
  exact ⟨_, rfl, unhide Hm⟩

set_option maxHeartbeats 2000000 in
set_option maxRecDepth 100000 in
theorem kget_dead (h : KD w0 K w sb l b f t N s) (k : ByteArray) (hk : k.size ≤ 1099511627776) :
    Calls Tryz.prog 68 #[.pointer (some ⟨sb, 0, none⟩), .string k] w fun e w' => ∃ v, e = .returned (.tuple #[v, .bool false]) ∧ Made w v [] w' := by
  have c1 : w.cell? ⟨sb, 1, none⟩ = some (.map none) := h.at'.cell 1
  have hz : (zeroValue 29).run Tryz.prog w = .ok (.slice none 0 0) w := by kernel_rfl
  have hl := Maps.look_nil (P := Tryz.prog) (w := w) true keyedS Tryz.underlying115 hz (Go.WideMaps.keyOf_string_mk Tryz.underlying9 (show k.size ≤ maxLen by unfold maxLen; omega))
  have HC := hide (clone_any _ _ w (Sees.nil w) (by simp))
  clear h hz
  simp only [if_true] at hl
  go_enter Tryz.func68, Tryz.ntmps68
  go_wp2_with fail
  refine (unhide HC).mono ?_
  rintro e w1 ⟨v1, rfl, hm⟩
  obtain ⟨o1, p1, e1⟩ := hm.1.shape
  have Hm := hide hm
  subst e1
  clear hm hl
  go_wp2
  go_ret2
  exact ⟨_, rfl, unhide Hm⟩

set_option maxHeartbeats 2000000 in
set_option maxRecDepth 100000 in
theorem fall_any (h : KS w0 K w sb mb l b f t N s m) : Calls Tryz.prog 70 #[.pointer (some ⟨sb, 0, none⟩)] w fun e w' => e = .returned (.tuple #[]) ∧ KD w0 (grow K w w') w' sb l b f t N s ∧ Turn (fun j => j = sb) w w' := by
  have c1 : w.cell? ⟨sb, 1, none⟩ = some (.map (some mb)) := h.at'.cell 1
  have c2 : w.cell? ⟨sb, 2, none⟩ = some (.bool false) := h.at'.cell 2
  have f1 := h.at'.frozen 1
  have f2 := h.at'.frozen 2
  have tt : Turn (fun j => j = sb) w ((w.setCell ⟨sb, 2, none⟩ (.bool true)).setCell ⟨sb, 1, none⟩ (.map none)) := ((Turn.refl (fun j => j = sb) w).setCell (p := ⟨sb, 2, none⟩) (.inl rfl) _).setCell (p := ⟨sb, 1, none⟩) (.inl rfl) _
  have hA := (h.at'.set 2 (.bool true)).set 1 (.map none)
  have hks := h.ks
  have Hfin := hide (And.intro ((⟨h.li.hold (tt.mono (fun j _ e => e ▸ hks)), by simpa using hA, .inl hks⟩ : KD w0 (grow K w _) _ sb l b f t N s)) tt)
  clear h tt hA hks
  go_enter Tryz.func70, Tryz.ntmps70
  go_wp2
  go_end0
  exact ⟨rfl, (unhide Hfin).1, (unhide Hfin).2⟩

end

end Go.Proofs.YtnipdgigjcaolaaGreat

/- slices.Sort at texts: the library's contract, laid at this program; in our words. -/
namespace Go.Proofs.YtnipdgigjcaolaaGreat
open Go.RowKit

def sort_ren : Go.Shelf.Ren := ⟨fun | 190 => 73 | 125 => 116 | 258 => 115 | 128 => 157 | 129 => 158 | 302 => 148 | 303 => 149 | 304 => 150 | 305 => 151 | 306 => 152 | 307 => 153 | 308 => 154 | 309 => 155 | 310 => 156 | 333 => 165 | 329 => 166 | 330 => 167 | 334 => 168 | 335 => 169 | 336 => 170 | 344 => 175 | n => n, fun | 31 => 53 | 9 => 9 | 3 => 3 | 46 => 157 | 0 => 0 | 51 => 88 | 53 => 156 | 4 => 4 | 183 => 215 | 182 => 214 | 131 => 158 | 5 => 5 | 218 => 226 | 222 => 230 | 228 => 234 | 229 => 235 | n => n, fun | n => n⟩

theorem sort_lays : Go.Proofs.Lays.n190 Tryz.prog sort_ren := {
  mixed := by kernel_rfl
  f125 := Tryz.func116.trans (congrArg some (by kernel_rfl))
  f128 := Tryz.func157.trans (congrArg some (by kernel_rfl))
  f129 := Tryz.func158.trans (congrArg some (by kernel_rfl))
  f190 := Tryz.func73.trans (congrArg some (by kernel_rfl))
  f258 := Tryz.func115.trans (congrArg some (by kernel_rfl))
  f302 := Tryz.func148.trans (congrArg some (by kernel_rfl))
  f303 := Tryz.func149.trans (congrArg some (by kernel_rfl))
  f304 := Tryz.func150.trans (congrArg some (by kernel_rfl))
  f305 := Tryz.func151.trans (congrArg some (by kernel_rfl))
  f306 := Tryz.func152.trans (congrArg some (by kernel_rfl))
  f307 := Tryz.func153.trans (congrArg some (by kernel_rfl))
  f308 := Tryz.func154.trans (congrArg some (by kernel_rfl))
  f309 := Tryz.func155.trans (congrArg some (by kernel_rfl))
  f310 := Tryz.func156.trans (congrArg some (by kernel_rfl))
  f329 := Tryz.func166.trans (congrArg some (by kernel_rfl))
  f330 := Tryz.func167.trans (congrArg some (by kernel_rfl))
  f333 := Tryz.func165.trans (congrArg some (by kernel_rfl))
  f334 := Tryz.func168.trans (congrArg some (by kernel_rfl))
  f335 := Tryz.func169.trans (congrArg some (by kernel_rfl))
  f336 := Tryz.func170.trans (congrArg some (by kernel_rfl))
  f344 := Tryz.func175.trans (congrArg some (by kernel_rfl))
  t0 := Tryz.underlying0
  a0 := Tryz.isAgg0
  z0 := Tryz.sizeOf0
  v0 := Tryz.zeroValue0
  t3 := Tryz.underlying3
  a3 := Tryz.isAgg3
  z3 := Tryz.sizeOf3
  v3 := Tryz.zeroValue3
  t4 := Tryz.underlying4
  a4 := Tryz.isAgg4
  z4 := Tryz.sizeOf4
  v4 := Tryz.zeroValue4
  t5 := Tryz.underlying5
  a5 := Tryz.isAgg5
  z5 := Tryz.sizeOf5
  v5 := Tryz.zeroValue5
  t9 := Tryz.underlying9
  a9 := Tryz.isAgg9
  z9 := Tryz.sizeOf9
  v9 := Tryz.zeroValue9
  t31 := Tryz.underlying53
  a31 := Tryz.isAgg53
  z31 := Tryz.sizeOf53
  v31 := Tryz.zeroValue53
  t46 := Tryz.underlying157
  a46 := Tryz.isAgg157
  z46 := Tryz.sizeOf157
  v46 := Tryz.zeroValue157
  t51 := Tryz.underlying88
  a51 := Tryz.isAgg88
  z51 := Tryz.sizeOf88
  v51 := Tryz.zeroValue88
  t53 := Tryz.underlying156
  a53 := Tryz.isAgg156
  z53 := Tryz.sizeOf156
  v53 := Tryz.zeroValue156
  t131 := Tryz.underlying158
  a131 := Tryz.isAgg158
  z131 := Tryz.sizeOf158
  v131 := Tryz.zeroValue158
  t182 := Tryz.underlying214
  a182 := Tryz.isAgg214
  z182 := Tryz.sizeOf214
  v182 := Tryz.zeroValue214
  t183 := Tryz.underlying215
  a183 := Tryz.isAgg215
  z183 := Tryz.sizeOf215
  v183 := Tryz.zeroValue215
  t218 := Tryz.underlying226
  a218 := Tryz.isAgg226
  z218 := Tryz.sizeOf226
  v218 := Tryz.zeroValue226
  t222 := Tryz.underlying230
  a222 := Tryz.isAgg230
  z222 := Tryz.sizeOf230
  v222 := Tryz.zeroValue230
  t228 := Tryz.underlying234
  a228 := Tryz.isAgg234
  z228 := Tryz.sizeOf234
  v228 := Tryz.zeroValue234
  t229 := Tryz.underlying235
  a229 := Tryz.isAgg235
  z229 := Tryz.sizeOf235
  v229 := Tryz.zeroValue235 }

/-- Texts, sorted. -/
def sorted (ss : List (List UInt8)) : List (List UInt8) := ss.mergeSort fun x y => decide (x ≤ y)

theorem sorted_length (ss : List (List UInt8)) : (sorted ss).length = ss.length := by simp [sorted]

theorem sort_any (v : Value) (ss : List (List UInt8)) (w : World) (h : OwnsC 9 w v (ss.map encStr)) (hl : ss.length ≤ 1099511627776) :
    Calls Tryz.prog 73 #[v] w fun e w' => e = .returned (.tuple #[]) ∧ OwnsC 9 w' v ((sorted ss).map encStr) ∧ Turn (fun j => v.ownBlock = some j) w w' := by
  have hml : (ss.map encStr).length = ss.length := List.length_map _
  rcases h.2 with ⟨rfl, hn⟩ | ⟨g, cap, cur, rfl, hb0, hb, h1, h2, h3, h4⟩
  · have h0 : ss = [] := List.eq_nil_of_length_eq_zero (by omega)
    subst h0
    refine (Any.slices_Sort_string_none sort_lays none 0 w).mono ?_
    rintro e w' ⟨rfl, rfl⟩
    exact ⟨rfl, by simpa [sorted] using OwnsC.nil 9 w', Turn.refl _ _⟩
  · rw [hml] at h1 h4
    have hc := Any.slices_Sort_string sort_lays g 0 cap ss w (holds_of_block hb (by simpa using h4)) (Array.getElem?_eq_some_iff.1 hb).1 (by omega)
    rw [hml]
    refine hc.mono ?_
    rintro e w' ⟨rfl, n, os, rfl⟩
    refine ⟨rfl, ?_, (Turn.refl _ _).grown (grownBy_sorted _) (fun k hk => .inl (by injection hk with hk; rw [hk]; rfl))⟩
    have hr := ownsRow_sorted (n := n) (os := os) (ts := sorted ss) (by simp [sorted]) hb0 hb h1 h2 h3
    unfold OwnsC
    rw [List.length_map, sorted_length]
    exact hr

end Go.Proofs.YtnipdgigjcaolaaGreat

/- kv's Keys: the keys that begin so, rising. -/
namespace Go.Proofs.YtnipdgigjcaolaaGreat
open Go.RowKit Go.Maps

theorem Tryz.infoStr : (Tryz.prog.info? 9).map (fun i => (i.zero, i.size, i.bytes)) = some (some (.string ⟨#[]⟩), 1, 16) := by kernel_rfl

theorem before_lt : ∀ {a b : List UInt8}, bytesBefore a b = true → a < b
  | [], [], h => by simp [bytesBefore] at h
  | [], y :: s, _ => List.nil_lt_cons y s
  | x :: r, [], h => by simp [bytesBefore] at h
  | x :: r, y :: s, h => by
    simp only [bytesBefore, Bool.or_eq_true, decide_eq_true_eq, Bool.and_eq_true, beq_iff_eq] at h
    rw [List.cons_lt_cons_iff]
    rcases h with h | ⟨rfl, h⟩
    · exact .inl h
    · exact .inr ⟨rfl, before_lt h⟩

/-- Keys rise. -/
def risingK {α : Type} (m : List (List UInt8 × α)) : Prop := m.Pairwise fun p q => bytesBefore p.1 q.1 = true

theorem sorted_rising {l : List (List UInt8)} (h : l.Pairwise fun p q => bytesBefore p q = true) : sorted l = l := by
  unfold sorted
  refine List.mergeSort_of_pairwise (h.imp fun {a b} hab => ?_)
  have := before_lt hab
  exact decide_eq_true (List.le_of_lt this)

/-- The keys that begin so. -/
def keysOf {α : Type} (m : List (List UInt8 × α)) (p : List UInt8) : List (List UInt8) := (m.map (·.1)).filter fun x => begins x p

theorem keysOf_all {α : Type} (m : List (List UInt8 × α)) : keysOf m [] = m.map (·.1) := by
  unfold keysOf
  rw [List.filter_eq_self]
  intro x _
  simp [begins]

section
variable {Q : Nat → Prop} {w : World} {b : Nat} {m : List (List UInt8 × (Value × List UInt8))}

theorem MPs.rising (h : MPs Q w b m) : risingK m := by
  obtain ⟨es, clock, hb, F, _, hD⟩ := h.map
  have hs := sorted_sorted keyedS.one (es.toList.map (Go.WideElems.rg Tryz.prog 9 heldV)) (fit_keys F) (fit_apart keyedS F)
  injection hD with hD
  rw [← hD] at hs
  unfold datM at hs
  rw [List.map_map, List.pairwise_map] at hs
  exact hs

end

section
variable {w0 w w1 : World} {K : Nat → Prop} {sb mb l b f t N : Nat} {s : WSt} {m : List (List UInt8 × List UInt8)}

theorem KS.rising (h : KS w0 K w sb mb l b f t N s m) : risingK m := by
  obtain ⟨m', h1, rfl⟩ := h.mp
  have := h1.rising
  unfold plain risingK
  rw [List.pairwise_map]
  exact this

/-- Texts of a call's own. -/
structure Texts (w : World) (v : Value) (ss : List (List UInt8)) (w' : World) : Prop where
  own : OwnsC 9 w' v (ss.map encStr)
  turn : Turn (fun _ => False) w w'
  new : ∀ k, v.ownBlock = some k → w.heap.size ≤ k

/-- Where the loop is. -/
structure Kys (w wr : World) (mb r : Nat) (n : Nat) (D0 : DataW Value) (p : List UInt8) (v : Value) (left : Lit → Bool) (cnt : Nat) (ss : List (List UInt8)) : Prop where
  rg : wr.ranges Tryz.prog 9 heldV mb r n D0 left cnt
  cs : ss.length + cnt ≤ n
  tx : Texts w v (ss.filter fun x => begins x p) wr
  col : Collected D0 left ss
  rw : w.heap.size ≤ r
  lt : r < wr.heap.size
  ne : v.ownBlock ≠ some r
  le : ∀ x ∈ ss, x.length ≤ maxLen

set_option maxHeartbeats 8000000 in
set_option maxRecDepth 100000 in
theorem kkeys_any (h : KS w0 K w sb mb l b f t N s m) (p : ByteArray) (hml : m.length ≤ 1000000) :
    Calls Tryz.prog 25 #[.pointer (some ⟨sb, 0, none⟩), .string p] w fun e w' => ∃ v, e = .returned v ∧ Texts w v (keysOf m p.data.toList) w' := by
  have c1 : w.cell? ⟨sb, 1, none⟩ = some (.map (some mb)) := h.at'.cell 1
  have hris := h.rising
  obtain ⟨m', hmp, hpl⟩ := h.mp
  obtain ⟨i0, hi, hz0, hz1, hz2⟩ := info_parts Tryz.infoStr
  have hlen : m'.length ≤ 1000000 := by rw [← plain_length, hpl]; exact hml
  have hmbl := hmp.lt
  obtain ⟨D0, hD0⟩ : ∃ D0, D0 = DataW.map (datM (m'.map (snd1 Prod.fst))) := ⟨_, rfl⟩
  have hown := hmp.map
  rw [← hD0] at hown
  have hsz : Maps.size D0 = m'.length := by rw [hD0, Maps.size_eq, datM_length, List.length_map]
  have hkeys : strKeys D0 = m.map (·.1) := by
    rw [hD0, ← hpl]
    show (datM _).map _ = _
    unfold datM plain
    simp [List.map_map, Function.comp_def, snd1, strOf]
  have Hown := hide hown
  have Hris := hide hris
  have Hkeys := hide hkeys
  generalize m'.length = n at *
  clear h hmp hpl hml hris hD0 hkeys hown
  go_enter Tryz.func25, Tryz.ntmps25
  go_wp2_with (first
    | (at_range; refine wpList_range_own _ rfl _ 115 rfl 9 29 keyedS Tryz.underlying115 _ mb n _ rfl (unhide Hown) ?_; intro w1 hrg1 hg1 hs1)
    | go_in)
  go_frame
  have hw1 : Turn (fun _ => False) w w1 := (Turn.refl _ _).grown hg1 (fun k hk => by cases hk)
  have hstart : Kys w w1 mb w.heap.size n D0 p.data.toList (.slice none 0 0) (Maps.has D0) (Maps.size D0) [] := ⟨hrg1, by rw [hsz]; simp, ⟨OwnsC.nil _ _, hw1, fun k hk => by simp [Value.ownBlock] at hk⟩, Collected.start D0, Nat.le_refl _, by omega, by simp [Value.ownBlock], by simp⟩
  have Hs := hide hstart
  clear hw1 hrg1 hg1 hs1 hstart c1
  go_loopw [5, 6] (fun v _ wr => ∃ (left : Lit → Bool) (cnt : Nat) (ss : List (List UInt8)), Kys w wr mb w.heap.size n D0 p.data.toList v left cnt ss) (fun _ _ wr => wr.rangeLeft mb w.heap.size)
  case atStart => exact ⟨_, _, [], unhide Hs⟩
  case round =>
    clear Hs
    obtain ⟨left, cnt, ss, hk⟩ := hrel
    have hrg := hk.rg
    have Hk := hide hk
    obtain ⟨vo, vc, hve⟩ := hk.tx.own.shape'
    rw [List.length_map] at hve
    obtain ⟨vn, hvn⟩ : ∃ vn, vn = (ss.filter fun x => begins x p.data.toList).length := ⟨_, rfl⟩
    rw [← hvn] at hve
    have Hvn := hide hvn
    subst hve
    clear hk hvn
    go_wp2_with (first
      | (at_next; refine wpList_next_ranges _ rfl _ rfl 9 keyedS heldV encStr (fun v : Value => v) (fun key kl hk => by obtain ⟨x, hx, _⟩ := Maps.keyOf_str Tryz.underlying9 hk; exact ⟨x, hx⟩) (fun v y _ => ⟨v, rfl⟩) mb w.heap.size n _ _ _ rfl hrg ?_ ?_)
      | go_in)
    · intro hc0 hl0
      have hperm : ss.Perm (m.map (·.1)) := by
        rw [← unhide Hkeys]
        exact (unhide Hk).col.perm hrg.owns keyedS Tryz.underlying9 hl0
      have hsort : sorted (ss.filter fun x => begins x p.data.toList) = keysOf m p.data.toList := by
        have h1 : sorted (ss.filter fun x => begins x p.data.toList) = sorted (keysOf m p.data.toList) := mergeSort_of_perm (hperm.filter _)
        rw [h1]
        refine sorted_rising ?_
        unfold keysOf
        refine List.Pairwise.filter _ ?_
        rw [List.pairwise_map]
        exact unhide Hris
      have hnl : (ss.filter fun x => begins x p.data.toList).length ≤ 1099511627776 := Nat.le_trans (List.length_filter_le _ _) (by have := (unhide Hk).cs; omega)
      have HS := hide (sort_any _ _ wr (unhide Hk).tx.own hnl)
      have Hsort := hide hsort
      clear hperm hsort hnl hrg hl0
      go_wp2_with fail
      refine (unhide HS).mono ?_
      rintro e w2 ⟨rfl, ho2, t2⟩
      have hfin : Texts w (.slice vo vn vc) (keysOf m p.data.toList) w2 := by
        rw [← unhide Hsort]
        exact ⟨ho2, (unhide Hk).tx.turn.trans' t2 (fun i hi e => by have := (unhide Hk).tx.new i e; omega), (unhide Hk).tx.new⟩
      have Hfin := hide hfin
      clear ho2 t2 hfin HS
      go_wp2
      go_ret
      exact ⟨_, rfl, unhide Hfin⟩
    · intro x c kl yd yp w2 cnt2 hkey hlk hv hat hrg2 hlt hg2 hs2 hen
      obtain ⟨x', ex, rfl, hxl⟩ := Maps.keyOf_str Tryz.underlying9 hkey
      obtain rfl : x = x' := encStr_inj ex
      have hk := unhide Hk
      have t2 : Turn (fun j => j = w.heap.size) wr w2 := (Turn.refl _ _).grown hg2 (fun j hj => by injection hj with hj; exact .inl hj.symm)
      have hcol := hk.col.step hlk hat
      have hcs : (ss ++ [x]).length + cnt2 ≤ n := by
        have := hk.cs
        rw [List.length_append, List.length_singleton]
        omega
      have hle : ∀ y ∈ ss ++ [x], y.length ≤ maxLen := fun y hy => by
        rcases List.mem_append.1 hy with hy | hy
        · exact hk.le y hy
        · rw [List.mem_singleton.1 hy]; exact hxl
      have htx : Texts w (.slice vo vn vc) (ss.filter fun y => begins y p.data.toList) w2 := ⟨hk.tx.own.kept t2 (fun j hj e => hk.ne (e ▸ hj)), hk.tx.turn.trans' t2 (fun i hi e => by omega), hk.tx.new⟩
      have hlt2 : w.heap.size < w2.heap.size := Nat.lt_of_lt_of_le hk.lt t2.size
      have Hm := hide (And.intro hcol (And.intro hcs (And.intro hle (And.intro htx (And.intro hrg2 (And.intro hrg hlt2))))))
      have Hne := hide hk.ne
      have hxs : (⟨x.toArray⟩ : ByteArray).data.toList = x := by simp
      have HP := hide (hasPrefix_any ⟨x.toArray⟩ p w2)
      rw [hxs] at HP
      have hmeas : ∀ wz : World, wz.ranges Tryz.prog 9 heldV mb w.heap.size n D0 (fun z => left z && !z.sameKey (.string x)) cnt2 → wz.rangeLeft mb w.heap.size < wr.rangeLeft mb w.heap.size := fun wz hz => by
        rw [hz.left_eq, hrg.left_eq]
        exact hlt
      have Hmeas := hide hmeas
      cases hb : begins x p.data.toList
      · rw [hb] at HP
        have hfl : (ss ++ [x]).filter (fun y => begins y p.data.toList) = ss.filter (fun y => begins y p.data.toList) := by simp [hb]
        have hfin : Kys w w2 mb w.heap.size n D0 p.data.toList (.slice vo vn vc) (fun z => left z && !z.sameKey (.string x)) cnt2 (ss ++ [x]) := ⟨hrg2, hcs, by rw [hfl]; exact htx, hcol, Nat.le_refl _, hlt2, hk.ne, hle⟩
        have Hfin := hide hfin
        clear hs2 hrg hrg2 hat hlk hkey ex hv hg2 t2 hcol hcs hle htx hlt2 hk hmeas hfl hfin hb hxl hxs
        go_wp2_with fail
        refine (unhide HP).mono ?_
        rintro e w3 ⟨rfl, rfl⟩
        go_wp2
        go_roundw
        case rel => exact ⟨_, cnt2, _, unhide Hfin⟩
        case measure => exact unhide Hmeas _ (unhide Hm).2.2.2.2.1
      · rw [hb] at HP
        have ta : Turn (fun _ => False) w2 (w2.alloc (.cells #[encStr x] 9)) := (Turn.refl _ _).alloc _
        have hlit := SeesC.lit w2 [encStr x] 9 (by simp [maxLen])
        have hfl0 : (ss.filter fun y => begins y p.data.toList).length ≤ n := Nat.le_trans (List.length_filter_le _ _) (by have := hk.cs; omega)
        obtain ⟨v', w4, hr, ho, hg4, hloc⟩ := run_append_cells (P := Tryz.prog) (w2.alloc (.cells #[encStr x] 9)) 53 53 9 i0 _ 16 Tryz.underlying53 hi hz0 hz1 hz2 rfl _ _ (htx.own.kept ta (fun _ _ e => e)) _ [encStr x] hlit (by intro u hu; simp at hu; rw [hu]; rfl) (by unfold maxLen; rw [List.length_map]; simp; omega) (by rw [List.length_map]; simp; omega)
        obtain ⟨o4, c4, e4⟩ := ho.shape'
        simp only [List.length_append, List.length_map, List.length_cons, List.length_nil, Nat.zero_add] at e4
        rw [← unhide Hvn] at e4
        simp only [List.length_cons, List.length_nil, Nat.zero_add] at hr
        have t4 : Turn (fun j => (Value.slice vo vn vc).ownBlock = some j) (w2.alloc (.cells #[encStr x] 9)) w4 := (Turn.refl _ _).grown hg4 (fun j hj => .inl hj)
        have hfl : (ss ++ [x]).filter (fun y => begins y p.data.toList) = (ss.filter fun y => begins y p.data.toList) ++ [x] := by simp [hb]
        have hasz := ta.size
        have hnew4 : ∀ j, v'.ownBlock = some j → w.heap.size ≤ j ∧ j ≠ w.heap.size := fun j hj => by
          rcases hloc with h1 | h1
          · rw [h1] at hj
            exact ⟨hk.tx.new j hj, fun e => hk.ne (e ▸ hj)⟩
          · rw [h1] at hj
            injection hj with hj
            exact ⟨by omega, by omega⟩
        have hrg4 : w4.ranges Tryz.prog 9 heldV mb w.heap.size n D0 (fun z => left z && !z.sameKey (.string x)) cnt2 := (hrg2.alloc _).kept hg4 (fun e => by
            have := hk.tx.new mb e.symm
            omega) (fun e => hk.ne e.symm)
        have hfin : Kys w w4 mb w.heap.size n D0 p.data.toList v' (fun z => left z && !z.sameKey (.string x)) cnt2 (ss ++ [x]) := ⟨hrg4, hcs, by
            rw [hfl]
            refine ⟨by rw [List.map_append]; exact ho, (htx.turn.trans ta).trans' t4 (fun i hi e => by have := hk.tx.new i e; omega), fun j hj => (hnew4 j hj).1⟩, hcol, Nat.le_refl _, Nat.lt_of_lt_of_le hlt2 (Nat.le_trans hasz t4.size), fun e => (hnew4 _ e).2 rfl, hle⟩
        have Hfin := hide (And.intro hfin hrg4)
        have Hr := hide hr
        clear hs2 hrg hrg2 hat hlk hkey ex hv hg2 t2 hcol hcs hle htx hlt2 hk hmeas hfl hfin hb hxl hxs ta hlit hfl0 hr ho hg4 hloc t4 hasz hnew4 hrg4
        subst e4
        go_wp2_with fail
        refine (unhide HP).mono ?_
        rintro e w3 ⟨rfl, rfl⟩
        go_wp2_with (at_builtin; refine wpList_append_run rfl (.tmp 21) (.tmp 23) 53 rfl _ _ _ w4 rfl rfl (unhide Hr) ?_)
        go_roundw
        case rel => exact ⟨_, cnt2, _, (unhide Hfin).1⟩
        case measure => exact unhide Hmeas _ (unhide Hfin).2

end

end Go.Proofs.YtnipdgigjcaolaaGreat

/- kv's Commit. -/
namespace Go.Proofs.YtnipdgigjcaolaaGreat
open Go.RowKit

section
variable {w0 w w1 : World} {K Q : Nat → Prop} {sb mb l b f t N : Nat} {s : WSt} {m : List (List UInt8 × List UInt8)}

theorem KS.turns (h : KS w0 K w sb mb l b f t N s m) {m' : List (List UInt8 × (Value × List UInt8))} (h1 : MPs K w mb m') (h2 : plain m' = m) {c : Chg} (hc : c.ok = true) {e : Ending} {w' : World} (ht : TrnTo K w mb m' c.key.data.toList c.has c.val e w') :
    KS w0 (grow K w w') w' sb mb l b f t N s (turnC m c) := by
  obtain ⟨_, t1, m2, p1, p2⟩ := ht
  refine ⟨h.li.hold (t1.mono (fun j _ e => e ▸ h1.own)), h.at'.kept t1 h.ne, .inl h.ks, h.ne, ⟨m2, p1, ?_⟩, fit_turn h.fit hc⟩
  rw [p2, h2]
  rfl

/-- The log has done its part. -/
theorem KS.logged (h : KS w0 K w sb mb l b f t N s m) {N2 : Nat} {s2 : WSt} {w' : World} (hl : LI w0 K w' l b f t N2 s2) (tn : Turn (Outs w0 K) w w') : KS w0 K w' sb mb l b f t N2 s2 m := by
  obtain ⟨m', h1, h2⟩ := h.mp
  exact ⟨hl, h.at'.kept tn (fun e => e.2 h.ks), h.ks, h.ne, ⟨m', h1.kept tn (fun j hj e => e.2 hj), h2⟩, h.fit⟩

theorem fold_length : ∀ (l : List Chg) (m : List (List UInt8 × List UInt8)), (l.foldl turnC m).length ≤ m.length + l.length
  | [], m => Nat.le_refl _
  | c :: r, m => by
    rw [List.foldl_cons, List.length_cons]
    have h1 := fold_length r (turnC m c)
    have h2 := turnC_length m c
    omega

/-- What a call on a Store may turn. -/
abbrev KOuts (w0 : World) (K : Nat → Prop) (sb mb : Nat) : Nat → Prop := fun j => Outs w0 K j ∨ j = sb ∨ j = mb

/-- What Commit comes to. -/
def KCm (w0 : World) (K : Nat → Prop) (w : World) (sb mb l b f t N : Nat) (s : WSt) (m : List (List UInt8 × List UInt8)) (cl : List Chg) (e : Ending) (w' : World) : Prop :=
  Turn (KOuts w0 K sb mb) w w' ∧ ∃ K' : Nat → Prop, (∀ j, K j → K' j) ∧
  ((cl.all Chg.ok = false ∧ e = .returned (.int .i64 1) ∧ KS w0 K' w' sb mb l b f t N s m) ∨
   (cl.all Chg.ok = true ∧ (s.commit (cl.map Chg.laid)).1 ≠ 0 ∧ e = .returned (.int .i64 (s.commit (cl.map Chg.laid)).1) ∧ KD w0 K' w' sb l b f t (N + 2) (s.commit (cl.map Chg.laid)).2) ∨
   (cl.all Chg.ok = true ∧ (s.commit (cl.map Chg.laid)).1 = 0 ∧ e = .returned (.int .i64 0) ∧ KS w0 K' w' sb mb l b f t (N + 2) (s.commit (cl.map Chg.laid)).2 (cl.foldl turnC m)))

set_option maxHeartbeats 8000000 in
set_option maxRecDepth 100000 in
theorem kcommit_any (v : Value) (cl : List (Value × Chg)) (h : KS w0 K w sb mb l b f t N s m) (hc : CLs Q w v cl) (hQ : ∀ j, Q j → j < w.heap.size) (hQ2 : ∀ j, Q j → ¬ KOuts w0 K sb mb j) (hok : s.Ok) (hl : cl.length ≤ 100000) (hN : N ≤ 1073741822)
    (hsz : (s.d.now s.to.1).length + (laidOf 1 2 ((cl.map (·.2)).map Chg.laid)).length ≤ 140737488355328) (hml : m.length ≤ 1000000) :
    Calls Tryz.prog 24 #[.pointer (some ⟨sb, 0, none⟩), v] w (KCm w0 K w sb mb l b f t N s m (cl.map (·.2))) := by
  have c2 : w.cell? ⟨sb, 2, none⟩ = some (.bool false) := h.at'.cell 2
  have HLay := hide (layC_any v cl w hc hQ (by omega))
  have H := hide h
  have HC := hide hc
  have HQ2 := hide hQ2
  have Hok := hide hok
  have Hsz := hide hsz
  obtain ⟨lo, lc, rfl, _⟩ := hc.shape
  obtain ⟨len, hlen⟩ : ∃ len, len = cl.length := ⟨_, rfl⟩
  have HL := hide hlen
  rw [← hlen] at HC HLay hl ⊢
  clear h hc hQ hQ2 hok hsz hlen
  go_enter Tryz.func24, Tryz.ntmps24
  go_wp2_with fail
  refine (unhide HLay).mono ?_
  rintro e w1 (⟨hall, v1, rl, rfl, hrm, hrl⟩ | ⟨hall, rfl, t1⟩)
  · obtain ⟨o1, p1, e1⟩ := hrm.shape
    have h1 := (unhide H).goes hrm.turn
    have c0 : w1.cell? ⟨sb, 0, none⟩ = some (.pointer (some ⟨l, 0, none⟩)) := h1.at'.cell 0
    have hno : ¬ tooLong rl := fun ⟨p, hp, hlong⟩ => by
      have hin : p.2 ∈ (cl.map (·.2)).map Chg.laid := by rw [← hrl]; exact List.mem_map.2 ⟨p, hp, rfl⟩
      obtain ⟨c, hcin, hce⟩ := List.mem_map.1 hin
      have := Chg.laid_le c (List.all_eq_true.1 hall c hcin)
      rw [hce] at this
      omega
    have HCm := hide (commit_any h1.li (unhide Hok) hrm.toRL (fun j hj => .inr (hj.elim (fun e => e.elim) (fun e => .inr e))) hno hN (by rw [hrl]; exact unhide Hsz))
    rw [hrl] at HCm
    have H1 := hide h1
    have T1 := hide hrm.turn
    have Hall := hide hall
    generalize rl.length = rn at e1
    subst e1
    clear h1 hrm hrl hno hall HLay
    go_wp2_with fail
    refine (unhide HCm).mono ?_
    rintro e w2 ⟨rfl, hli, t2⟩
    have h2 := (unhide H1).logged hli t2
    have T2 : Hid (Turn (KOuts w0 K sb mb) w w2) := hide (((unhide T1).mono (fun _ _ e => e.elim)).trans' t2 (fun i _ e => .inl ⟨e.1, fun hk => e.2 (.inl hk)⟩))
    have H2 := hide h2
    clear HCm hli t2 h2 H1 c0
    by_cases hz : (s.commit ((cl.map (·.2)).map Chg.laid)).1 = 0
    · have hz' : ((s.commit ((cl.map (·.2)).map Chg.laid)).1 != 0) = false := by simpa using hz
      have hend : ∀ (K' : Nat → Prop) w', (∀ j, K j → K' j) → Turn (KOuts w0 K sb mb) w w' → KS w0 K' w' sb mb l b f t (N + 2) (s.commit ((cl.map (·.2)).map Chg.laid)).2 ((cl.map (·.2)).foldl turnC m) → KCm w0 K w sb mb l b f t N s m (cl.map (·.2)) (.returned (.int .i64 0)) w' := fun K' w' hk ht hs => ⟨ht, K', hk, .inr (.inr ⟨unhide Hall, hz, rfl, hs⟩)⟩
      have Hend := hide hend
      clear hend hz
      generalize (s.commit ((cl.map (·.2)).map Chg.laid)) = r at *
      have Hz := hide hz'
      clear hz'
      have hz0 := unhide Hz
      go_wp2_with fail
      go_loopw [9, 37] (fun _ i wr => ∃ (n : Nat) (Kr : Nat → Prop), i = .int .i64 n ∧ n ≤ len ∧ KS w0 Kr wr sb mb l b f t (N + 2) r.2 (((cl.map (·.2)).take n).foldl turnC m) ∧ (∀ j, K j → Kr j) ∧ Turn (KOuts w0 K sb mb) w wr) (fun _ i _ => len - (intOf i).toNat)
      case atStart => exact ⟨0, grow K w w1, rfl, by omega, unhide H2, fun j hj => .inl hj, unhide T2⟩
      case round =>
        clear H2 T2
        obtain ⟨n, Kr, rfl, hnl, hks, hkr, tr⟩ := hrel
        by_cases hlt : n < len
        · have hkl : n < cl.length := by have := unhide HL; omega
          obtain ⟨g, cap, e, hg, hcc⟩ := ((unhide HC).kept tr (unhide HQ2)).each n hkl
          obtain ⟨pv, ⟨key, has, val⟩, hpe⟩ : ∃ pv c, (pv, c) = cl[n] := ⟨cl[n].1, cl[n].2, rfl⟩
          rw [← hpe] at hcc
          have hnx : (cl.map (·.2)).take (n + 1) = (cl.map (·.2)).take n ++ [⟨key, has, val⟩] := by
            rw [List.take_succ_eq_append_getElem (by simpa using hkl)]
            simp [← hpe]
          have hcok : Chg.ok ⟨key, has, val⟩ = true := List.all_eq_true.1 (unhide Hall) _ (by
            have hin : (⟨key, has, val⟩ : Chg) ∈ (cl.map (·.2)).take (n + 1) := by rw [hnx]; simp
            exact List.mem_of_mem_take hin)
          injection e with e1 e2 e3
          have k0 := hcc.c0
          have k1 := hcc.c1
          have k2 := hcc.c2
          simp only at k0 k1 k2
          obtain ⟨po, pc, hpv⟩ := hcc.sees.shape
          simp only at hpv
          obtain ⟨vn, hvn⟩ : ∃ vn, vn = val.length := ⟨_, rfl⟩
          rw [← hvn] at hpv
          have hml2 : (((cl.map (·.2)).take n).foldl turnC m).length ≤ 1099511627776 := by
            have := fold_length ((cl.map (·.2)).take n) m
            have h3 : ((cl.map (·.2)).take n).length ≤ n := by simp; omega
            omega
          obtain ⟨wa, hwa⟩ : ∃ wa, wa = wr.alloc (.cells #[.string key, .bool has, pv] 51) := ⟨_, rfl⟩
          have ta : Turn (fun _ => False) wr wa := by rw [hwa]; exact (Turn.refl _ _).alloc _
          have hA : At 51 wa wr.heap.size #[.string key, .bool has, pv] := by rw [hwa]; exact At.new _ _ _
          have hkd := hks.goes ta.drew
          have hcell : ∀ w3, Turn (fun j => j = mb) wa.drew w3 → ∀ j, w3.cell? ⟨wr.heap.size, j, none⟩ = wa.cell? ⟨wr.heap.size, j, none⟩ := fun w3 t3 j => by
            obtain ⟨m', h1, _⟩ := hks.mp
            have hmb := h1.lt
            exact t3.cell (p := ⟨wr.heap.size, j, none⟩) hA.lt (fun e => by
              have e' : wr.heap.size = mb := e
              omega)
          have hbk := ok_bounds hcok
          have HT : Hid (Calls Tryz.prog 71 #[.map (some mb), .agg #[.string key, .bool has, pv]] wa.drew fun e w3 => e = .returned (.tuple #[]) ∧
              (w3.cell? ⟨sb, 1, none⟩ = some (.map (some mb)) ∧ w3.cell? ⟨wr.heap.size, 0, none⟩ = some (.string key) ∧ w3.cell? ⟨wr.heap.size, 1, none⟩ = some (.bool has) ∧ w3.cell? ⟨wr.heap.size, 2, none⟩ = some pv) ∧
              ∃ K3 : Nat → Prop, KS w0 K3 w3 sb mb l b f t (N + 2) r.2 (((cl.map (·.2)).take (n + 1)).foldl turnC m) ∧ (∀ j, K j → K3 j) ∧ Turn (KOuts w0 K sb mb) w w3) := hide (by
            obtain ⟨m', h1, h2⟩ := hkd.mp
            have hml3 : m'.length ≤ 1099511627776 := by rw [← plain_length, h2]; exact hml2
            have hcall : Calls Tryz.prog 71 #[.map (some mb), .agg #[.string key, .bool has, pv]] wa.drew (TrnTo (grow Kr wr wa.drew) wa.drew mb m' key.data.toList has val) := by
              have hsv : Sees wa.drew pv val := hcc.sees.kept ta.drew (fun _ _ e => e)
              cases has
              · exact turn_drop key pv val h1 (by have := hbk.1; simp only at this; unfold maxLen; omega)
              · exact turn_put key pv val h1 hml3 (by have := hbk.1; simp only at this; omega) hsv (by have := hbk.2; simp only at this; omega)
            refine hcall.mono ?_
            intro e w3 ht
            have hk3 := hkd.turns h1 h2 (c := ⟨key, has, val⟩) hcok ht
            obtain ⟨rfl, t3, _⟩ := ht
            refine ⟨rfl, ⟨hk3.at'.cell 1, (hcell w3 t3 0).trans (hA.cell 0), (hcell w3 t3 1).trans (hA.cell 1), (hcell w3 t3 2).trans (hA.cell 2)⟩, grow (grow Kr wr wa.drew) wa.drew w3, ?_, fun j hj => .inl (.inl (hkr j hj)), (tr.trans' ta.drew (fun _ _ e => e.elim)).trans' t3 (fun _ _ e => .inr (.inr e))⟩
            rw [hnx, List.foldl_append]
            exact hk3)
          have d1 : wa.drew.cell? ⟨sb, 1, none⟩ = some (.map (some mb)) := hkd.at'.cell 1
          have d2 : wa.drew.cell? ⟨wr.heap.size, 0, none⟩ = some (.string key) := hA.cell 0
          have d3 : wa.drew.cell? ⟨wr.heap.size, 1, none⟩ = some (.bool has) := hA.cell 1
          have d4 : wa.drew.cell? ⟨wr.heap.size, 2, none⟩ = some pv := hA.cell 2
          have hlta := hA.lt
          have q1 : (n : Int) < len := by omega
          have HD := hide (And.intro d1 (And.intro d2 (And.intro d3 d4)))
          have Hwa := hide hwa
          clear hwa ta hA hkd hcell hbk hcc hks tr hkr hpe hnx hcok hml2 d1 d2 d3 d4 hg e2 e3 hlta hvn
          subst hpv e1
          go_upto_region 15 with fail
          have hD := unhide HD
          rw [unhide Hwa] at HT hD
          obtain ⟨d1, d2, d3, d4⟩ := hD
          go_region_held (fun w' => w'.cell? ⟨sb, 1, none⟩ = some (.map (some mb)) ∧ w'.cell? ⟨wr.heap.size, 0, none⟩ = some (.string key) ∧ w'.cell? ⟨wr.heap.size, 1, none⟩ = some (.bool has) ∧ w'.cell? ⟨wr.heap.size, 2, none⟩ = some (.slice po vn pc)) (first | exact ⟨d1, d2, d3, d4⟩ | go_keep | exact hd5)
            (first
            | (go_at_call 71; refine (unhide HT).mono ?_; rintro e w3 ⟨rfl, hd5, K3, h3, hk3, t3⟩; have H3 := hide (And.intro h3 (And.intro hk3 t3)); clear h3 hk3 t3))
          all_goals (
            go_wp2
            go_roundw
            case rel => exact ⟨n + 1, K3, by go_num, by omega, (unhide H3).1, (unhide H3).2.1, (unhide H3).2.2⟩
            case measure => simp [intOf]; omega)
        · obtain rfl : n = len := by omega
          have q1 : ¬ (n : Int) < n := by omega
          have hall : (cl.map (·.2)).take n = cl.map (·.2) := List.take_of_length_le (by rw [List.length_map, ← unhide HL]; exact Nat.le_refl _)
          rw [hall] at hks
          have Hfin := hide (unhide Hend Kr wr hkr tr hks)
          clear hks tr hkr hall
          go_wp2
          go_ret
          exact unhide Hfin
    · have hz' : ((s.commit ((cl.map (·.2)).map Chg.laid)).1 != 0) = true := by simpa using hz
      have HFl := hide (fall_any (unhide H2))
      have hend : ∀ (K' : Nat → Prop) w', (∀ j, K j → K' j) → Turn (KOuts w0 K sb mb) w w' → KD w0 K' w' sb l b f t (N + 2) (s.commit ((cl.map (·.2)).map Chg.laid)).2 → KCm w0 K w sb mb l b f t N s m (cl.map (·.2)) (.returned (.int .i64 (s.commit ((cl.map (·.2)).map Chg.laid)).1)) w' := fun K' w' hk ht hs => ⟨ht, K', hk, .inr (.inl ⟨unhide Hall, hz, rfl, hs⟩)⟩
      have Hend := hide hend
      clear hend hz H2
      generalize (s.commit ((cl.map (·.2)).map Chg.laid)) = r at *
      go_wp2_with fail
      refine (unhide HFl).mono ?_
      rintro e w3 ⟨rfl, hkd, t3⟩
      have Hfin := hide (unhide Hend _ w3 (fun j hj => .inl (.inl hj)) ((unhide T2).trans' t3 (fun _ _ e => .inr (.inl e))) hkd)
      clear hkd t3 HFl
      go_wp2
      go_ret
      exact unhide Hfin
  · have Hfin : Hid (KCm w0 K w sb mb l b f t N s m (cl.map (·.2)) (.returned (.int .i64 1)) w1) := hide ⟨t1.mono (fun _ _ e => e.elim), _, fun j hj => .inl hj, .inl ⟨hall, rfl, (unhide H).goes t1⟩⟩
    clear t1 hall HLay
    go_wp2
    go_ret
    exact unhide Hfin

end

end Go.Proofs.YtnipdgigjcaolaaGreat
