/- A store in memory, and kv's Open. -/
import Derived.Test.YteomehdkfhjbeaaGreatDoorKRep
import Derived.Test.YteomehdkfhjbeaaGreatDoorKCop
import Derived.Test.YteomehdkfhjbeaaGreatDoorWOpen
namespace Go.Proofs.YteomehdkfhjbeaaGreatDoor
open Go.RowKit

/-- Pairs as a store has them. -/
def fitK (m : List (List UInt8 × List UInt8)) : Prop := ∀ p ∈ m, 0 < p.1.length ∧ p.1.length ≤ 255 ∧ p.2.length ≤ 65535

theorem fit_turn {m : List (List UInt8 × List UInt8)} (h : fitK m) {c : Chg} (hc : c.ok = true) : fitK (turnC m c) := by
  intro p hp
  unfold turnC at hp
  split at hp
  · unfold kput at hp
    rcases (kins_mem _ _ _ _).1 hp with rfl | h1
    · have h2 := ok_bounds hc
      have h3 := text_length c.key
      unfold Chg.ok at hc
      simp only [Bool.and_eq_true, decide_eq_true_eq] at hc
      exact ⟨by show 0 < c.key.data.toList.length; omega, by show c.key.data.toList.length ≤ 255; omega, h2.2⟩
    · exact h p (List.mem_filter.1 h1).1
  · exact h p (List.mem_filter.1 hp).1

theorem fit_fold : ∀ (l : List (List UInt8)) {m m2 : List (List UInt8 × List UInt8)}, fitK m → l.foldl stepC (some m) = some m2 → fitK m2
  | [], m, m2, h, e => by
    injection e with e
    exact e ▸ h
  | x :: r, m, m2, h, e => by
    rw [List.foldl_cons] at e
    cases hr : readC x with
    | none =>
      rw [show stepC (some m) x = none by simp [stepC, hr], fold_none] at e
      cases e
    | some c =>
      rw [show stepC (some m) x = some (turnC m c) by simp [stepC, hr]] at e
      exact fit_fold r (fit_turn h (readC_some hr).1) e

theorem fit_replay {l : List (List UInt8)} {m : List (List UInt8 × List UInt8)} (h : replayC l = some m) : fitK m := fit_fold l (fun p hp => by simp at hp) h

/-- A Store in block sb: its log in l (its Framer in f, its Table in t), its Disk in b, its map in mb. -/
structure KS (w0 : World) (K : Nat → Prop) (w : World) (sb mb l b f t N : Nat) (s : WSt) (m : List (List UInt8 × List UInt8)) : Prop where
  li : LI w0 K w l b f t N s
  at' : At 56 w sb #[.pointer (some ⟨l, 0, none⟩), .map (some mb), .bool false]
  ks : K sb
  ne : sb ≠ mb
  mp : ∃ m', MPs K w mb m' ∧ plain m' = m
  fit : fitK m

/-- What Open comes to. -/
def KOp (w0 : World) (K : Nat → Prop) (w : World) (b N M : Nat) (d : DSt) (seg : Int) (e : Ending) (w' : World) : Prop :=
  ∃ ns, d.Nums ns ∧ match openN d.read ns (HSt.zero, 0) with
  | none => e = .returned (.tuple #[.pointer none, .int .i64 5]) ∧ Turn (fun _ => False) w w'
  | some y => match replayC y.1.recs with
    | none => e = .returned (.tuple #[.pointer none, .int .i64 5]) ∧ Turn (fun _ => False) w w'
    | some m => ∃ sb mb l f t, ∃ K' : Nat → Prop, e = .returned (.tuple #[.pointer (some ⟨sb, 0, none⟩), .int .i64 0]) ∧ KS w0 K' w' sb mb l b f t (N + M) ⟨d.gone (ns.filter (· < y.1.since)), seg, y.2, 0, false⟩ m ∧ (∀ j, K j → K' j) ∧ Turn (Outs w0 K) w w' ∧ w.heap.size ≤ sb ∧ w.heap.size ≤ mb

section
variable {w0 w : World} {K : Nat → Prop} {b N : Nat} {d : DSt} {seg : Int}

theorem nums_same {d d2 : DSt} (h : d2.read = d.read) {ns : List Int} (hn : d2.Nums ns) : d.Nums ns := ⟨hn.1, fun k => by rw [← h]; exact hn.2 k⟩

set_option maxHeartbeats 8000000 in
set_option maxRecDepth 100000 in
theorem kopen_any (M B : Nat) (h : DL w0 K w b N d) (hd : d.dead = false) (hs0 : 256 ≤ seg) (hs1 : seg ≤ 1048576) (hM : ∀ ns, d.Nums ns → ns.length ≤ M) (hB : ∀ k, (d.read k).length ≤ B) (hMB : (M + 1) * B ≤ 1099511627776) (hN : N + (M + M) ≤ 1073741822) (hk : ∀ k, d.read k ≠ [] → 0 ≤ k ∧ k ≤ 1099511627776)
    (hR : ∀ ns y, d.Nums ns → openN d.read ns (HSt.zero, 0) = some y → y.1.recs.length ≤ 1000000 ∧ ∀ x ∈ y.1.recs, x.length ≤ 1099511627776) :
    Calls Tryz.prog 5 #[.pointer (some ⟨b, 0, none⟩), .int .i64 seg] w (KOp w0 K w b N M d seg) := by
  have hBB : B ≤ 1099511627776 := by
    have : 1 * B ≤ (M + 1) * B := Nat.mul_le_mul_right B (by omega)
    omega
  have hnow : ∀ k, (d.now k).length ≤ B := fun k => by
    have := hB k
    unfold DSt.read at this
    rw [hd] at this
    simpa using this
  have HC := hide (copied2_any B h (by omega) hnow hBB (fun k hk' => (hk k hk').1))
  have H := hide h
  have HM := hide hM
  have HB := hide hB
  have HMB := hide hMB
  have HK := hide hk
  have HR := hide hR
  clear h hM hB hk hR hnow
  go_enter Tryz.func5, Tryz.ntmps5
  go_wp2_with fail
  refine (unhide HC).mono ?_
  rintro e w1 ⟨c, ns, Kc, rfl, hns, hdc, t1⟩
  obtain ⟨cd, _, cr⟩ := copyOf_read hns (fun k hk => (unhide HK k ((hns.2 k).1 hk)).1)
  have HO := hide (open_any (seg := seg) M B hdc cd hs0 hs1 (fun l hl => unhide HM l (nums_same cr hl)) (fun k => by rw [cr]; exact unhide HB k) (unhide HMB) (by have := unhide HM ns hns; omega) (fun k hk => unhide HK k (by rw [← cr]; exact hk)))
  have Hns := hide hns
  have Hcr := hide cr
  have T1 := hide t1
  clear HC hns hdc cd cr t1
  go_wp2_with fail
  refine (unhide HO).mono ?_
  rintro e w2 ⟨ns2, hns2, ho⟩
  obtain rfl : ns2 = ns := rise_same hns2.1 (unhide Hns).1 (fun k => by rw [hns2.2 k, (unhide Hns).2 k, unhide Hcr])
  rw [unhide Hcr] at ho
  have hend : ∀ e w', (match openN d.read ns2 (HSt.zero, 0) with
  | none => e = .returned (.tuple #[.pointer none, .int .i64 5]) ∧ Turn (fun _ => False) w w'
  | some y => match replayC y.1.recs with
    | none => e = .returned (.tuple #[.pointer none, .int .i64 5]) ∧ Turn (fun _ => False) w w'
    | some m => ∃ sb mb l f t, ∃ K' : Nat → Prop, e = .returned (.tuple #[.pointer (some ⟨sb, 0, none⟩), .int .i64 0]) ∧ KS w0 K' w' sb mb l b f t (N + M) ⟨d.gone (ns2.filter (· < y.1.since)), seg, y.2, 0, false⟩ m ∧ (∀ j, K j → K' j) ∧ Turn (Outs w0 K) w w' ∧ w.heap.size ≤ sb ∧ w.heap.size ≤ mb) → KOp w0 K w b N M d seg e w' := fun e w' h => ⟨ns2, unhide Hns, h⟩
  have Hend := hide hend
  clear HO hend hns2
  cases hop : openN d.read ns2 (HSt.zero, 0) with
  | none =>
    rw [hop] at ho Hend
    obtain ⟨rfl, t2⟩ := ho
    have Hfin := hide ((unhide T1).trans t2)
    clear hop t2
    go_wp2
    go_ret2
    exact unhide Hend _ _ ⟨rfl, unhide Hfin⟩
  | some y =>
    rw [hop] at ho Hend
    obtain ⟨lc, fc, tc, rv, rl, K2, rfl, hli, hrl, hrecs, _, t2⟩ := ho
    have hRR := unhide HR ns2 y (unhide Hns) hop
    obtain ⟨ro, rc, hre⟩ := hrl.shape
    have T2 := hide ((unhide T1).trans' t2 (fun i hi e => by have := e.1; omega))
    have hrll : rl.length = y.1.recs.length := by rw [← hrecs, List.length_map]
    have HRp := hide (replay_any rv rl w2 hrl (fun j hj => (hli.held j hj.1).2) (by rw [hrll]; exact hRR.1) (fun p hp => hRR.2 _ (by rw [← hrecs]; exact List.mem_map.2 ⟨p, hp, rfl⟩)))
    rw [hrecs] at HRp
    generalize rl.length = rn at hre
    have Hop := hide hop
    subst hre
    clear hli hrl hrecs t2 hRR hrll hop
    go_wp2_with fail
    refine (unhide HRp).mono ?_
    rintro e w3 ⟨t3, hr⟩
    cases hrep : replayC y.1.recs with
    | none =>
      rw [hrep] at hr
      simp only [hrep] at Hend
      simp only at hr
      subst hr
      have Hfin := hide ((unhide T2).trans t3)
      clear hrep HRp t3
      go_wp2
      go_ret2
      exact unhide Hend _ _ ⟨rfl, unhide Hfin⟩
    | some m =>
      rw [hrep] at hr
      simp only [hrep] at Hend
      obtain ⟨mb, m', rfl, hmp, hpl⟩ := hr
      have hfit := fit_replay hrep
      have T3 := hide ((unhide T2).trans t3)
      have HO2 := hide (open_any (seg := seg) M B ((unhide H).new (unhide T3)) hd hs0 hs1 (unhide HM) (unhide HB) (unhide HMB) (by omega) (unhide HK))
      have hw2 := (unhide T2).size
      have Hmb : Hid (w.heap.size ≤ mb) := hide (hmp.own.elim (fun e => e.elim) (fun e => by have := e.1; omega))
      have Hmp := hide (And.intro (hmp.mono (Q' := grow K w w3) (fun j hj => hj.elim (fun e => e.elim) (fun e => .inr ⟨by omega, e.2⟩))) (And.intro hpl hfit))
      clear hrep HRp t3 hmp hpl hfit
      go_wp2_with fail
      refine (unhide HO2).mono ?_
      rintro e w4 ⟨ns4, hns4, ho4⟩
      obtain rfl : ns4 = ns2 := rise_same hns4.1 (unhide Hns).1 (fun k => by rw [hns4.2 k, (unhide Hns).2 k])
      rw [unhide Hop] at ho4
      obtain ⟨l, f, t, rv4, rl4, K4, rfl, hli, hrl4, _, hK4, t4⟩ := ho4
      obtain ⟨ro4, rc4, hre4⟩ := hrl4.shape
      obtain ⟨ha1, ha2, ha3⟩ := unhide Hmp
      have hmp4 := (ha1.kept t4 (fun j hj e => e.2 hj)).mono hK4
      have ta : Turn (fun _ => False) w4 (w4.alloc (.cells #[.pointer (some ⟨l, 0, none⟩), .map (some mb), .bool false] 56)) := (Turn.refl _ _).alloc _
      have hA : At 56 (w4.alloc (.cells #[.pointer (some ⟨l, 0, none⟩), .map (some mb), .bool false] 56)) w4.heap.size #[.pointer (some ⟨l, 0, none⟩), .map (some mb), .bool false] := At.new _ _ _
      have hks : KS w0 (grow K4 w4 (w4.alloc (.cells #[.pointer (some ⟨l, 0, none⟩), .map (some mb), .bool false] 56))) (w4.alloc (.cells #[.pointer (some ⟨l, 0, none⟩), .map (some mb), .bool false] 56)) w4.heap.size mb l b f t (N + M) ⟨d.gone (ns4.filter (· < y.1.since)), seg, y.2, 0, false⟩ m :=
        ⟨hli.goes ta, hA, .inr ⟨Nat.le_refl _, hA.lt⟩, fun e => by have := hmp4.lt; omega, ⟨m', (hmp4.kept ta (fun _ _ e => e)).mono (fun j hj => .inl hj), ha2⟩, ha3⟩
      have htt : Turn (Outs w0 K) w (w4.alloc (.cells #[.pointer (some ⟨l, 0, none⟩), .map (some mb), .bool false] 56)) := (((unhide T3).mono (fun _ _ e => e.elim)).trans' t4 (fun i hi e => ⟨e.1, fun hk => e.2 (.inl hk)⟩)).trans' ta (fun _ _ e => e.elim)
      have hs4 : w.heap.size ≤ w4.heap.size := by
        have h1 := (unhide T3).size
        have h2 := t4.size
        omega
      have Hfin := hide (And.intro hks (And.intro htt (And.intro hs4 (unhide Hmb))))
      have HK4 : Hid (∀ j, K j → K4 j) := hide (fun j hj => hK4 j (.inl hj))
      generalize rl4.length = rn4 at hre4
      subst hre4
      clear HO2 hns4 hli hrl4 hK4 t4 hmp4 ta hA hks htt hs4 ha1 ha2 ha3
      go_wp2
      go_ret2
      exact unhide Hend _ _ ⟨_, mb, l, f, t, _, rfl, (unhide Hfin).1, fun j hj => .inl (unhide HK4 j hj), (unhide Hfin).2⟩

end

end Go.Proofs.YteomehdkfhjbeaaGreatDoor
