/- kv's Commit. -/
import Derived.Test.YteomehdkfhjbeaaGreatDoorKCom
import Derived.Deep.RegionHeld
namespace Go.Proofs.YteomehdkfhjbeaaGreatDoor
open Go.RowKit

section
variable {w0 w w1 : World} {K Q : Nat → Prop} {sb mb l b f t N : Nat} {s : WSt} {m : List (List UInt8 × List UInt8)}

theorem KS.turns (h : KS w0 K w sb mb l b f t N s m) {m' : List (List UInt8 × (Value × List UInt8))} (h1 : MPs K w mb m') (h2 : plain m' = m) {c : Chg} (hc : c.ok = true) {e : Ending} {w' : World} (ht : TrnTo K w mb m' c.key.data.toList c.has c.val e w') :
    KS w0 (grow K w w') w' sb mb l b f t N s (turnC m c) := by
  obtain ⟨_, t1, m2, p1, p2⟩ := ht
  refine ⟨h.li.hold (t1.mono (fun j _ e => e ▸ h1.own)), h.at'.kept t1 h.ne, .inl h.ks, h.ne, ⟨m2, p1, ?_⟩, fit_turn h.fit hc⟩
  rw [p2, h2]
  rfl

/-- The log has done its part. -/
theorem KS.logged (h : KS w0 K w sb mb l b f t N s m) {N2 : Nat} {s2 : WSt} {w' : World} (hl : LI w0 K w' l b f t N2 s2) (tn : Turn (Outs w0 K) w w') : KS w0 K w' sb mb l b f t N2 s2 m := by
  obtain ⟨m', h1, h2⟩ := h.mp
  exact ⟨hl, h.at'.kept tn (fun e => e.2 h.ks), h.ks, h.ne, ⟨m', h1.kept tn (fun j hj e => e.2 hj), h2⟩, h.fit⟩

theorem fold_length : ∀ (l : List Chg) (m : List (List UInt8 × List UInt8)), (l.foldl turnC m).length ≤ m.length + l.length
  | [], m => Nat.le_refl _
  | c :: r, m => by
    rw [List.foldl_cons, List.length_cons]
    have h1 := fold_length r (turnC m c)
    have h2 := turnC_length m c
    omega

/-- What a call on a Store may turn. -/
abbrev KOuts (w0 : World) (K : Nat → Prop) (sb mb : Nat) : Nat → Prop := fun j => Outs w0 K j ∨ j = sb ∨ j = mb

/-- What Commit comes to. -/
def KCm (w0 : World) (K : Nat → Prop) (w : World) (sb mb l b f t N : Nat) (s : WSt) (m : List (List UInt8 × List UInt8)) (cl : List Chg) (e : Ending) (w' : World) : Prop :=
  Turn (KOuts w0 K sb mb) w w' ∧ ∃ K' : Nat → Prop, (∀ j, K j → K' j) ∧
  ((cl.all Chg.ok = false ∧ e = .returned (.int .i64 1) ∧ KS w0 K' w' sb mb l b f t N s m) ∨
   (cl.all Chg.ok = true ∧ (s.commit (cl.map Chg.laid)).1 ≠ 0 ∧ e = .returned (.int .i64 (s.commit (cl.map Chg.laid)).1) ∧ KD w0 K' w' sb l b f t (N + 2) (s.commit (cl.map Chg.laid)).2) ∨
   (cl.all Chg.ok = true ∧ (s.commit (cl.map Chg.laid)).1 = 0 ∧ e = .returned (.int .i64 0) ∧ KS w0 K' w' sb mb l b f t (N + 2) (s.commit (cl.map Chg.laid)).2 (cl.foldl turnC m)))

set_option maxHeartbeats 8000000 in
set_option maxRecDepth 100000 in
theorem kcommit_any (v : Value) (cl : List (Value × Chg)) (h : KS w0 K w sb mb l b f t N s m) (hc : CLs Q w v cl) (hQ : ∀ j, Q j → j < w.heap.size) (hQ2 : ∀ j, Q j → ¬ KOuts w0 K sb mb j) (hok : s.Ok) (hl : cl.length ≤ 100000) (hN : N ≤ 1073741822)
    (hsz : (s.d.now s.to.1).length + (laidOf 1 2 ((cl.map (·.2)).map Chg.laid)).length ≤ 140737488355328) (hml : m.length ≤ 1000000) :
    Calls Tryz.prog 9 #[.pointer (some ⟨sb, 0, none⟩), v] w (KCm w0 K w sb mb l b f t N s m (cl.map (·.2))) := by
  have c2 : w.cell? ⟨sb, 2, none⟩ = some (.bool false) := h.at'.cell 2
  have HLay := hide (layC_any v cl w hc hQ (by omega))
  have H := hide h
  have HC := hide hc
  have HQ2 := hide hQ2
  have Hok := hide hok
  have Hsz := hide hsz
  obtain ⟨lo, lc, rfl, _⟩ := hc.shape
  obtain ⟨len, hlen⟩ : ∃ len, len = cl.length := ⟨_, rfl⟩
  have HL := hide hlen
  rw [← hlen] at HC HLay hl ⊢
  clear h hc hQ hQ2 hok hsz hlen
  go_enter Tryz.func9, Tryz.ntmps9
  go_wp2_with fail
  refine (unhide HLay).mono ?_
  rintro e w1 (⟨hall, v1, rl, rfl, hrm, hrl⟩ | ⟨hall, rfl, t1⟩)
  · obtain ⟨o1, p1, e1⟩ := hrm.shape
    have h1 := (unhide H).goes hrm.turn
    have c0 : w1.cell? ⟨sb, 0, none⟩ = some (.pointer (some ⟨l, 0, none⟩)) := h1.at'.cell 0
    have hno : ¬ tooLong rl := fun ⟨p, hp, hlong⟩ => by
      have hin : p.2 ∈ (cl.map (·.2)).map Chg.laid := by rw [← hrl]; exact List.mem_map.2 ⟨p, hp, rfl⟩
      obtain ⟨c, hcin, hce⟩ := List.mem_map.1 hin
      have := Chg.laid_le c (List.all_eq_true.1 hall c hcin)
      rw [hce] at this
      omega
    have HCm := hide (commit_any h1.li (unhide Hok) hrm.toRL (fun j hj => .inr (hj.elim (fun e => e.elim) (fun e => .inr e))) hno hN (by rw [hrl]; exact unhide Hsz))
    rw [hrl] at HCm
    have H1 := hide h1
    have T1 := hide hrm.turn
    have Hall := hide hall
    generalize rl.length = rn at e1
    subst e1
    clear h1 hrm hrl hno hall HLay
    go_wp2_with fail
    refine (unhide HCm).mono ?_
    rintro e w2 ⟨rfl, hli, t2⟩
    have h2 := (unhide H1).logged hli t2
    have T2 : Hid (Turn (KOuts w0 K sb mb) w w2) := hide (((unhide T1).mono (fun _ _ e => e.elim)).trans' t2 (fun i _ e => .inl ⟨e.1, fun hk => e.2 (.inl hk)⟩))
    have H2 := hide h2
    clear HCm hli t2 h2 H1 c0
    by_cases hz : (s.commit ((cl.map (·.2)).map Chg.laid)).1 = 0
    · have hz' : ((s.commit ((cl.map (·.2)).map Chg.laid)).1 != 0) = false := by simpa using hz
      have hend : ∀ (K' : Nat → Prop) w', (∀ j, K j → K' j) → Turn (KOuts w0 K sb mb) w w' → KS w0 K' w' sb mb l b f t (N + 2) (s.commit ((cl.map (·.2)).map Chg.laid)).2 ((cl.map (·.2)).foldl turnC m) → KCm w0 K w sb mb l b f t N s m (cl.map (·.2)) (.returned (.int .i64 0)) w' := fun K' w' hk ht hs => ⟨ht, K', hk, .inr (.inr ⟨unhide Hall, hz, rfl, hs⟩)⟩
      have Hend := hide hend
      clear hend hz
      generalize (s.commit ((cl.map (·.2)).map Chg.laid)) = r at *
      have Hz := hide hz'
      clear hz'
      have hz0 := unhide Hz
      go_wp2_with fail
      go_loopw [9, 37] (fun _ i wr => ∃ (n : Nat) (Kr : Nat → Prop), i = .int .i64 n ∧ n ≤ len ∧ KS w0 Kr wr sb mb l b f t (N + 2) r.2 (((cl.map (·.2)).take n).foldl turnC m) ∧ (∀ j, K j → Kr j) ∧ Turn (KOuts w0 K sb mb) w wr) (fun _ i _ => len - (intOf i).toNat)
      case atStart => exact ⟨0, grow K w w1, rfl, by omega, unhide H2, fun j hj => .inl hj, unhide T2⟩
      case round =>
        clear H2 T2
        obtain ⟨n, Kr, rfl, hnl, hks, hkr, tr⟩ := hrel
        by_cases hlt : n < len
        · have hkl : n < cl.length := by have := unhide HL; omega
          obtain ⟨g, cap, e, hg, hcc⟩ := ((unhide HC).kept tr (unhide HQ2)).each n hkl
          obtain ⟨pv, ⟨key, has, val⟩, hpe⟩ : ∃ pv c, (pv, c) = cl[n] := ⟨cl[n].1, cl[n].2, rfl⟩
          rw [← hpe] at hcc
          have hnx : (cl.map (·.2)).take (n + 1) = (cl.map (·.2)).take n ++ [⟨key, has, val⟩] := by
            rw [List.take_succ_eq_append_getElem (by simpa using hkl)]
            simp [← hpe]
          have hcok : Chg.ok ⟨key, has, val⟩ = true := List.all_eq_true.1 (unhide Hall) _ (by
            have hin : (⟨key, has, val⟩ : Chg) ∈ (cl.map (·.2)).take (n + 1) := by rw [hnx]; simp
            exact List.mem_of_mem_take hin)
          injection e with e1 e2 e3
          have k0 := hcc.c0
          have k1 := hcc.c1
          have k2 := hcc.c2
          simp only at k0 k1 k2
          obtain ⟨po, pc, hpv⟩ := hcc.sees.shape
          simp only at hpv
          obtain ⟨vn, hvn⟩ : ∃ vn, vn = val.length := ⟨_, rfl⟩
          rw [← hvn] at hpv
          have hml2 : (((cl.map (·.2)).take n).foldl turnC m).length ≤ 1099511627776 := by
            have := fold_length ((cl.map (·.2)).take n) m
            have h3 : ((cl.map (·.2)).take n).length ≤ n := by simp; omega
            omega
          obtain ⟨wa, hwa⟩ : ∃ wa, wa = wr.alloc (.cells #[.string key, .bool has, pv] 37) := ⟨_, rfl⟩
          have ta : Turn (fun _ => False) wr wa := by rw [hwa]; exact (Turn.refl _ _).alloc _
          have hA : At 37 wa wr.heap.size #[.string key, .bool has, pv] := by rw [hwa]; exact At.new _ _ _
          have hkd := hks.goes ta.drew
          have hcell : ∀ w3, Turn (fun j => j = mb) wa.drew w3 → ∀ j, w3.cell? ⟨wr.heap.size, j, none⟩ = wa.cell? ⟨wr.heap.size, j, none⟩ := fun w3 t3 j => by
            obtain ⟨m', h1, _⟩ := hks.mp
            have hmb := h1.lt
            exact t3.cell (p := ⟨wr.heap.size, j, none⟩) hA.lt (fun e => by
              have e' : wr.heap.size = mb := e
              omega)
          have hbk := ok_bounds hcok
          have HT : Hid (Calls Tryz.prog 20 #[.map (some mb), .agg #[.string key, .bool has, pv]] wa.drew fun e w3 => e = .returned (.tuple #[]) ∧
              (w3.cell? ⟨sb, 1, none⟩ = some (.map (some mb)) ∧ w3.cell? ⟨wr.heap.size, 0, none⟩ = some (.string key) ∧ w3.cell? ⟨wr.heap.size, 1, none⟩ = some (.bool has) ∧ w3.cell? ⟨wr.heap.size, 2, none⟩ = some pv) ∧
              ∃ K3 : Nat → Prop, KS w0 K3 w3 sb mb l b f t (N + 2) r.2 (((cl.map (·.2)).take (n + 1)).foldl turnC m) ∧ (∀ j, K j → K3 j) ∧ Turn (KOuts w0 K sb mb) w w3) := hide (by
            obtain ⟨m', h1, h2⟩ := hkd.mp
            have hml3 : m'.length ≤ 1099511627776 := by rw [← plain_length, h2]; exact hml2
            have hcall : Calls Tryz.prog 20 #[.map (some mb), .agg #[.string key, .bool has, pv]] wa.drew (TrnTo (grow Kr wr wa.drew) wa.drew mb m' key.data.toList has val) := by
              have hsv : Sees wa.drew pv val := hcc.sees.kept ta.drew (fun _ _ e => e)
              cases has
              · exact turn_drop key pv val h1 (by have := hbk.1; simp only at this; unfold maxLen; omega)
              · exact turn_put key pv val h1 hml3 (by have := hbk.1; simp only at this; omega) hsv (by have := hbk.2; simp only at this; omega)
            refine hcall.mono ?_
            intro e w3 ht
            have hk3 := hkd.turns h1 h2 (c := ⟨key, has, val⟩) hcok ht
            obtain ⟨rfl, t3, _⟩ := ht
            refine ⟨rfl, ⟨hk3.at'.cell 1, (hcell w3 t3 0).trans (hA.cell 0), (hcell w3 t3 1).trans (hA.cell 1), (hcell w3 t3 2).trans (hA.cell 2)⟩, grow (grow Kr wr wa.drew) wa.drew w3, ?_, fun j hj => .inl (.inl (hkr j hj)), (tr.trans' ta.drew (fun _ _ e => e.elim)).trans' t3 (fun _ _ e => .inr (.inr e))⟩
            rw [hnx, List.foldl_append]
            exact hk3)
          have d1 : wa.drew.cell? ⟨sb, 1, none⟩ = some (.map (some mb)) := hkd.at'.cell 1
          have d2 : wa.drew.cell? ⟨wr.heap.size, 0, none⟩ = some (.string key) := hA.cell 0
          have d3 : wa.drew.cell? ⟨wr.heap.size, 1, none⟩ = some (.bool has) := hA.cell 1
          have d4 : wa.drew.cell? ⟨wr.heap.size, 2, none⟩ = some pv := hA.cell 2
          have hlta := hA.lt
          have q1 : (n : Int) < len := by omega
          have HD := hide (And.intro d1 (And.intro d2 (And.intro d3 d4)))
          have Hwa := hide hwa
          clear hwa ta hA hkd hcell hbk hcc hks tr hkr hpe hnx hcok hml2 d1 d2 d3 d4 hg e2 e3 hlta hvn
          subst hpv e1
          go_upto_region 15 with fail
          have hD := unhide HD
          rw [unhide Hwa] at HT hD
          obtain ⟨d1, d2, d3, d4⟩ := hD
          go_region_held (fun w' => w'.cell? ⟨sb, 1, none⟩ = some (.map (some mb)) ∧ w'.cell? ⟨wr.heap.size, 0, none⟩ = some (.string key) ∧ w'.cell? ⟨wr.heap.size, 1, none⟩ = some (.bool has) ∧ w'.cell? ⟨wr.heap.size, 2, none⟩ = some (.slice po vn pc)) (first | exact ⟨d1, d2, d3, d4⟩ | go_keep | exact hd5)
            (first
            | (go_at_call 20; refine (unhide HT).mono ?_; rintro e w3 ⟨rfl, hd5, K3, h3, hk3, t3⟩; have H3 := hide (And.intro h3 (And.intro hk3 t3)); clear h3 hk3 t3))
          all_goals (
            go_wp2
            go_roundw
            case rel => exact ⟨n + 1, K3, by go_num, by omega, (unhide H3).1, (unhide H3).2.1, (unhide H3).2.2⟩
            case measure => simp [intOf]; omega)
        · obtain rfl : n = len := by omega
          have q1 : ¬ (n : Int) < n := by omega
          have hall : (cl.map (·.2)).take n = cl.map (·.2) := List.take_of_length_le (by rw [List.length_map, ← unhide HL]; exact Nat.le_refl _)
          rw [hall] at hks
          have Hfin := hide (unhide Hend Kr wr hkr tr hks)
          clear hks tr hkr hall
          go_wp2
          go_ret
          exact unhide Hfin
    · have hz' : ((s.commit ((cl.map (·.2)).map Chg.laid)).1 != 0) = true := by simpa using hz
      have HFl := hide (fall_any (unhide H2))
      have hend : ∀ (K' : Nat → Prop) w', (∀ j, K j → K' j) → Turn (KOuts w0 K sb mb) w w' → KD w0 K' w' sb l b f t (N + 2) (s.commit ((cl.map (·.2)).map Chg.laid)).2 → KCm w0 K w sb mb l b f t N s m (cl.map (·.2)) (.returned (.int .i64 (s.commit ((cl.map (·.2)).map Chg.laid)).1)) w' := fun K' w' hk ht hs => ⟨ht, K', hk, .inr (.inl ⟨unhide Hall, hz, rfl, hs⟩)⟩
      have Hend := hide hend
      clear hend hz H2
      generalize (s.commit ((cl.map (·.2)).map Chg.laid)) = r at *
      go_wp2_with fail
      refine (unhide HFl).mono ?_
      rintro e w3 ⟨rfl, hkd, t3⟩
      have Hfin := hide (unhide Hend _ w3 (fun j hj => .inl (.inl hj)) ((unhide T2).trans' t3 (fun _ _ e => .inr (.inl e))) hkd)
      clear hkd t3 HFl
      go_wp2
      go_ret
      exact unhide Hfin
  · have Hfin : Hid (KCm w0 K w sb mb l b f t N s m (cl.map (·.2)) (.returned (.int .i64 1)) w1) := hide ⟨t1.mono (fun _ _ e => e.elim), _, fun j hj => .inl hj, .inl ⟨hall, rfl, (unhide H).goes t1⟩⟩
    clear t1 hall HLay
    go_wp2
    go_ret
    exact unhide Hfin

end

end Go.Proofs.YteomehdkfhjbeaaGreatDoor
