/- Changes in memory: kv's layAll. -/
import Derived.Test.YteomehdkfhjbeaaGreatDoorKTurn
import Derived.Test.YteomehdkfhjbeaaGreatDoorPkG
namespace Go.Proofs.YteomehdkfhjbeaaGreatDoor
open Go.RowKit

/-- One change, at its place. -/
structure ChAt (Q : Nat → Prop) (w : World) (g o : Nat) (p : Value × Chg) : Prop where
  c0 : w.cell? ⟨g, o, none⟩ = some (.string p.2.key)
  c1 : w.cell? ⟨g, o + 1, none⟩ = some (.bool p.2.has)
  c2 : w.cell? ⟨g, o + 2, none⟩ = some p.1
  sees : Sees w p.1 p.2.val
  mem : 0 < p.2.val.length → ∀ j, slab p.1 = some j → Q j
  key : p.2.key.size ≤ 1099511627776
  len : p.2.val.length ≤ 140737488355328

/-- Changes in memory, all of it in Q. -/
structure CLs (Q : Nat → Prop) (w : World) (v : Value) (l : List (Value × Chg)) : Prop where
  shape : ∃ ao cap, v = .slice ao l.length cap ∧ l.length ≤ 1099511627776
  each : ∀ k (hk : k < l.length), ∃ g cap, v = .slice (some ⟨g, 0, none⟩) l.length cap ∧ Q g ∧ ChAt Q w g (k * 3) l[k]

section
variable {Q Q' : Nat → Prop} {w w' : World} {g o : Nat} {p : Value × Chg} {v : Value} {l : List (Value × Chg)}

theorem ChAt.kept {S : Nat → Prop} (h : ChAt Q w g o p) (hg : Q g) (t : Turn S w w') (hS : ∀ j, Q j → ¬ S j) : ChAt Q w' g o p := by
  have hlt := World.block_lt_of_cell? _ _ h.c0
  have hc : ∀ i, w'.cell? ⟨g, i, none⟩ = w.cell? ⟨g, i, none⟩ := fun i => t.cell (p := ⟨g, i, none⟩) hlt (hS g hg)
  exact ⟨(hc _).trans h.c0, (hc _).trans h.c1, (hc _).trans h.c2, h.sees.kept' t (fun h0 j hj => hS j (h.mem h0 j hj)), h.mem, h.key, h.len⟩

theorem CLs.kept {S : Nat → Prop} (h : CLs Q w v l) (t : Turn S w w') (hS : ∀ j, Q j → ¬ S j) : CLs Q w' v l :=
  ⟨h.shape, fun k hk => by
    obtain ⟨g, cap, e, hg, hc⟩ := h.each k hk
    exact ⟨g, cap, e, hg, hc.kept hg t hS⟩⟩

theorem CLs.mono (h : CLs Q w v l) (hQ : ∀ j, Q j → Q' j) : CLs Q' w v l :=
  ⟨h.shape, fun k hk => by
    obtain ⟨g, cap, e, hg, hc⟩ := h.each k hk
    exact ⟨g, cap, e, hQ g hg, hc.c0, hc.c1, hc.c2, hc.sees, fun h0 j hj => hQ j (hc.mem h0 j hj), hc.key, hc.len⟩⟩

theorem CLs.nil (Q : Nat → Prop) (w : World) : CLs Q w (.slice none 0 0) [] := ⟨⟨none, 0, rfl, by simp⟩, fun k hk => by simp at hk⟩

end

/-- What layAll comes to. -/
def LAll (w : World) (l : List Chg) (e : Ending) (w' : World) : Prop :=
  ((l.all Chg.ok) = true ∧ ∃ v rl, e = .returned (.tuple #[v, .int .i64 0]) ∧ RM (fun _ => False) w v rl w' ∧ rl.map (·.2) = l.map Chg.laid) ∨
  ((l.all Chg.ok) = false ∧ e = .returned (.tuple #[.slice none 0 0, .int .i64 1]) ∧ Turn (fun _ => False) w w')

set_option maxHeartbeats 4000000 in
set_option maxRecDepth 100000 in
theorem layC_any {Q : Nat → Prop} (v : Value) (l : List (Value × Chg)) (w : World) (h : CLs Q w v l) (hQ : ∀ j, Q j → j < w.heap.size) (hl : l.length ≤ 1000000) :
    Calls Tryz.prog 17 #[v] w (LAll w (l.map (·.2))) := by
  obtain ⟨lo, lc, rfl, _⟩ := h.shape
  have H := hide h
  clear h
  obtain ⟨len, hlen⟩ : ∃ len, len = l.length := ⟨_, rfl⟩
  have HL := hide hlen
  have HQ := hide hQ
  rw [← hlen] at H hl ⊢
  clear hlen hQ
  go_enter Tryz.func17, Tryz.ntmps17
  go_wp2_with fail
  go_loopw [4, 6, 7, 8, 11] (fun out _ _ _ i wr => ∃ (n : Nat) (rl : List (Value × List UInt8)), i = .int .i64 n ∧ n ≤ len ∧ RM (fun _ => False) w out rl wr ∧ rl.map (·.2) = ((l.map (·.2)).take n).map Chg.laid ∧ ((l.map (·.2)).take n).all Chg.ok = true) (fun _ _ _ _ i _ => len - (intOf i).toNat)
  case atStart => exact ⟨0, [], rfl, by omega, RM.nil _ _, rfl, rfl⟩
  case round =>
    obtain ⟨n, rl, rfl, hnl, hm, he, hok⟩ := hrel
    have hrl : rl.length = n := by
      have := congrArg List.length he
      have h2 := unhide HL
      simp at this
      omega
    by_cases hlt : n < len
    · have hkl : n < l.length := by have := unhide HL; omega
      obtain ⟨g, cap, e, hg, hc⟩ := ((unhide H).kept hm.turn (fun _ _ e => e)).each n hkl
      have hp : l[n] = (l[n].1, ⟨l[n].2.key, l[n].2.has, l[n].2.val⟩) := rfl
      obtain ⟨pv, ⟨key, has, val⟩, hpe⟩ : ∃ pv c, (pv, c) = l[n] := ⟨l[n].1, l[n].2, rfl⟩
      rw [← hpe] at hc
      have hnx : (l.map (·.2)).take (n + 1) = (l.map (·.2)).take n ++ [⟨key, has, val⟩] := by
        rw [List.take_succ_eq_append_getElem (by simpa using hkl)]
        simp [← hpe]
      injection e with e1 e2 e3
      have k0 := hc.c0
      have k1 := hc.c1
      have k2 := hc.c2
      simp only at k0 k1 k2
      have hvs := hc.sees
      obtain ⟨po, pc, hpv⟩ := hvs.shape
      simp only at hpv
      have Hm := hide hm
      have He := hide he
      have Hok := hide hok
      have Hnx := hide hnx
      have Hc := hide hc
      have q1 : (n : Int) < len := by omega
      obtain ⟨oo, oc, hoe⟩ := hm.shape
      rw [hrl] at hoe
      obtain ⟨vn, hvn⟩ : ∃ vn, vn = val.length := ⟨_, rfl⟩
      rw [← hvn] at hpv
      have Hvn := hide hvn
      subst hpv hoe e1
      clear e2 e3 hp hpe hm he hok hnx hc hvs hvn
      obtain ⟨wa, hwa⟩ : ∃ wa, wa = wr.alloc (.cells #[.string key, .bool has, .slice po vn pc] 37) := ⟨_, rfl⟩
      have ta : Turn (fun _ => False) wr wa := by rw [hwa]; exact (Turn.refl _ _).alloc _
      have hca := (unhide Hc).kept hg ta (fun _ _ e => e)
      have hwr := (unhide Hm).turn.size
      have hta := ta.size
      have hlt2 : 0 < val.length → ∀ j, slab (.slice po vn pc) = some j → j < wa.heap.size := fun h0 j hj => by
        have := unhide HQ j (hca.mem h0 j hj)
        omega
      have Hma := hide ((unhide Hm).goes ta)
      have Hwa := hide hwa
      have hkm : key.size ≤ maxLen := by have := hca.key; unfold maxLen; simp only at this; omega
      have hsee := hca.sees
      clear hwa ta
      go_wp2_with fail
      rw [← unhide Hwa]
      by_cases hco : Chg.ok ⟨key, has, val⟩ = true
      · refine (klay_yes key has _ val wa hsee hkm hlt2 hco).mono ?_
        rintro e w1 ⟨v1, rfl, m1⟩
        obtain ⟨o1, c1, hv1⟩ := m1.1.shape
        have hm1 := (unhide Hma).goes m1.2.1
        have ta : Turn (fun _ => False) w1 (w1.alloc (.cells #[v1] 32)) := (Turn.refl _ _).alloc _
        have hlit := SeesC.lit w1 [v1] 32 (by simp [maxLen])
        have hm2 := hm1.goes ta
        obtain ⟨v2, w2, hr, ho, hg2, hk⟩ := append_lists _ _ (rl.map (·.1)) hm2.own _ [v1] hlit (by intro u hu; simp at hu; rw [hu, hv1]; rfl) (by rw [List.length_map, hrl]; simp; omega)
        have hfin := hm2.more (qs := [(v1, Chg.laid ⟨key, has, val⟩)]) (by
          intro p hp
          simp only [List.mem_singleton] at hp
          subst hp
          refine ⟨m1.1.sees.kept ta (fun _ _ e => e), fun h0 j hj => ?_⟩
          have hj' : v1.ownBlock = some j := by rw [← m1.1.slab_eq]; exact hj
          have h1 := m1.2.2 j hj'
          have h2 := m1.1.lt hj'
          have h3 := (unhide Hma).turn.size
          have h4 := ta.size
          refine ⟨.inr (by omega), by omega, fun e => ?_⟩
          have := (unhide Hma).own.lt e
          omega) ho hg2 hk
        obtain ⟨o2, c2, hv2⟩ := ho.shape'
        simp only [List.length_append, List.length_map, List.length_cons, List.length_nil, Nat.zero_add] at hv2
        rw [hrl] at hv2
        simp only [List.length_cons, List.length_nil, Nat.zero_add] at hr
        have Hr := hide hr
        have Hfin := hide hfin
        have hall : ((l.map (·.2)).take (n + 1)).all Chg.ok = true := by rw [unhide Hnx, List.all_append, unhide Hok]; simp [hco]
        have hlaid : (rl ++ [(v1, Chg.laid ⟨key, has, val⟩)]).map (·.2) = ((l.map (·.2)).take (n + 1)).map Chg.laid := by rw [List.map_append, unhide He, unhide Hnx]; simp
        have Hend := hide (And.intro hlaid hall)
        clear hfin hr hk hg2 ho hm2 hlit ta hm1 m1 hall hlaid hca hsee hlt2 hco
        generalize (Chg.laid ⟨key, has, val⟩).length = n1 at hv1
        subst hv1 hv2
        go_wp2_with (at_builtin; refine wpList_append_run rfl (.tmp 23) (.tmp 25) 48 rfl _ _ _ w2 rfl rfl (unhide Hr) ?_)
        go_roundw
        case rel => exact ⟨n + 1, _, by go_num, by omega, unhide Hfin, (unhide Hend).1, (unhide Hend).2⟩
        case measure => simp [intOf]; omega
      · have hco' : Chg.ok ⟨key, has, val⟩ = false := by simpa using hco
        refine (klay_no key has _ val wa hsee hkm hco').mono ?_
        rintro e w1 ⟨rfl, t1⟩
        have hbad : (l.map (·.2)).all Chg.ok = false := by
          rw [List.all_eq_false]
          refine ⟨⟨key, has, val⟩, ?_, by simp [hco']⟩
          have hin : (⟨key, has, val⟩ : Chg) ∈ (l.map (·.2)).take (n + 1) := by rw [unhide Hnx]; simp
          exact List.mem_of_mem_take hin
        have Hfin := hide (And.intro hbad ((unhide Hma).turn.trans t1))
        clear hca hsee hlt2 t1 hbad hco hco'
        go_wp2
        go_ret2
        exact .inr ⟨(unhide Hfin).1, rfl, (unhide Hfin).2⟩
    · obtain rfl : n = len := by omega
      have q1 : ¬ (n : Int) < n := by omega
      have hall : (l.map (·.2)).take n = l.map (·.2) := List.take_of_length_le (by rw [List.length_map, ← unhide HL]; exact Nat.le_refl _)
      rw [hall] at he hok
      obtain ⟨oo, oc, hoe⟩ := hm.shape
      have Hfin := hide (And.intro hok (And.intro hm he))
      rw [hrl] at hoe
      subst hoe
      clear hm he hok hall
      go_wp2
      go_ret2
      exact .inl ⟨(unhide Hfin).1, _, rl, rfl, (unhide Hfin).2.1, (unhide Hfin).2.2⟩

end Go.Proofs.YteomehdkfhjbeaaGreatDoor
