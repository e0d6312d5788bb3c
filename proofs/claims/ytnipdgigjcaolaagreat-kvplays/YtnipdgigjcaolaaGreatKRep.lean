/- What records make: kv's replay. -/
import Derived.Test.YtnipdgigjcaolaaGreatPkS
import Derived.Test.YtnipdgigjcaolaaGreatPkC
import Derived.Carry
namespace Go.Proofs.YtnipdgigjcaolaaGreat
open Go.RowKit

/-- A change does its part. -/
def turnC (m : List (List UInt8 × List UInt8)) (c : Chg) : List (List UInt8 × List UInt8) := if c.has then kput c.key.data.toList c.val m else kdel c.key.data.toList m

def stepC (o : Option (List (List UInt8 × List UInt8))) (x : List UInt8) : Option (List (List UInt8 × List UInt8)) := o.bind fun m => (readC x).map (turnC m)

/-- What records make from none. -/
def replayC (l : List (List UInt8)) : Option (List (List UInt8 × List UInt8)) := l.foldl stepC (some [])

theorem fold_none : ∀ l : List (List UInt8), l.foldl stepC none = none
  | [] => rfl
  | _ :: r => fold_none r

theorem replayC_snoc (l : List (List UInt8)) (x : List UInt8) : replayC (l ++ [x]) = stepC (replayC l) x := by simp [replayC]

theorem replayC_append (a b : List (List UInt8)) : replayC (a ++ b) = b.foldl stepC (replayC a) := by simp [replayC]

theorem fold_laid : ∀ (l : List Chg) (m : List (List UInt8 × List UInt8)), l.all Chg.ok = true → (l.map Chg.laid).foldl stepC (some m) = some (l.foldl turnC m)
  | [], _, _ => rfl
  | c :: r, m, h => by
    simp only [List.all_cons, Bool.and_eq_true] at h
    rw [List.map_cons, List.foldl_cons, List.foldl_cons, ← fold_laid r _ h.2]
    congr 1
    simp [stepC, readC_laid c h.1]

theorem ok_bounds {c : Chg} (h : c.ok = true) : c.key.size ≤ 255 ∧ c.val.length ≤ 65535 := by
  unfold Chg.ok at h
  simp only [Bool.and_eq_true, decide_eq_true_eq] at h
  refine ⟨h.1.2, ?_⟩
  have h3 := h.2
  split at h3
  · simpa using h3
  · have : c.val.length = 0 := by simpa using h3
    omega

/-- What replay comes to. -/
def RplTo (w : World) (r : Option (List (List UInt8 × List UInt8))) (e : Ending) (w' : World) : Prop :=
  Turn (fun _ => False) w w' ∧ match r with
  | none => e = .returned (.tuple #[.map none, .int .i64 5])
  | some m => ∃ b m', e = .returned (.tuple #[.map (some b), .int .i64 0]) ∧ MPs (grow (fun _ => False) w w') w' b m' ∧ plain m' = m

theorem plain_length (m : List (List UInt8 × (Value × List UInt8))) : (plain m).length = m.length := by simp [plain]

theorem turnC_length (m : List (List UInt8 × List UInt8)) (c : Chg) : (turnC m c).length ≤ m.length + 1 := by
  unfold turnC
  split
  · exact kput_length _ _ _
  · have := kdel_length c.key.data.toList m
    omega

set_option maxHeartbeats 4000000 in
set_option maxRecDepth 100000 in
theorem replay_any {Q : Nat → Prop} (v : Value) (rl : List (Value × List UInt8)) (w : World) (h : RL Q w v rl) (hQ : ∀ j, Q j → j < w.heap.size) (hl : rl.length ≤ 1000000) (hb : ∀ p ∈ rl, p.2.length ≤ 1099511627776) :
    Calls Tryz.prog 67 #[v] w (RplTo w (replayC (rl.map (·.2)))) := by
  obtain ⟨lo, lc, rfl⟩ := h.shape
  have H := hide h
  obtain ⟨len, hlen⟩ : ∃ len, len = rl.length := ⟨_, rfl⟩
  have HL := hide hlen
  have HQ := hide hQ
  have HB := hide hb
  rw [← hlen] at H hl ⊢
  clear hlen hQ h hb
  go_enter Tryz.func67, Tryz.ntmps67
  have hmm := @run_makeMap Tryz.prog
  have tb : Turn (fun _ => False) w (w.alloc (.map #[] 0)) := (Turn.refl _ _).alloc _
  have hm0 := MPs.made w (grow (fun _ => False) w (w.alloc (.map #[] 0))) (.inr ⟨Nat.le_refl _, by simp⟩)
  have Hs := hide (And.intro hm0 tb)
  clear hm0 tb
  go_wp2_with fail
  go_loopw [6, 7, 8, 12] (fun _ _ _ i wr => ∃ (n : Nat) (m : List (List UInt8 × (Value × List UInt8))), i = .int .i64 n ∧ n ≤ len ∧ MPs (grow (fun _ => False) w wr) wr w.heap.size m ∧ Turn (fun _ => False) w wr ∧ m.length ≤ n ∧ replayC ((rl.map (·.2)).take n) = some (plain m)) (fun _ _ _ i _ => len - (intOf i).toNat)
  case atStart => exact ⟨0, [], rfl, by omega, (unhide Hs).1, (unhide Hs).2, by simp, rfl⟩
  case round =>
    obtain ⟨n, m, rfl, hnl, hm, tn, hml, hre⟩ := hrel
    clear hmm Hs
    by_cases hlt : n < len
    · have hkl : n < rl.length := by have := unhide HL; omega
      obtain ⟨g, cap, ao, na, c, e, e1, e2, hc⟩ := ((unhide H).kept tn (fun _ _ e => e)).at n hkl
      obtain ⟨hs, hmem⟩ := ((unhide H).kept tn (fun _ _ e => e)).each rl[n] (List.getElem_mem hkl)
      have hnx : (rl.map (·.2)).take (n + 1) = (rl.map (·.2)).take n ++ [rl[n].2] := by
        rw [List.take_succ_eq_append_getElem (by simpa using hkl)]
        simp
      have hbd := unhide HB _ (List.getElem_mem hkl)
      have hrest : rl.map (·.2) = (rl.map (·.2)).take (n + 1) ++ (rl.map (·.2)).drop (n + 1) := (List.take_append_drop _ _).symm
      rw [e1] at hs hmem
      generalize rl[n].2 = x at *
      have hrd := kread_any _ x wr hs (Nat.le_trans hbd (by decide)) (fun h0 j hj => Nat.lt_of_lt_of_le (unhide HQ j (hmem h0 j hj)) tn.size)
      have hnext : replayC ((rl.map (·.2)).take (n + 1)) = (readC x).map (turnC (plain m)) := by
        rw [hnx, replayC_snoc, hre]
        rfl
      have Hrd := hide hrd
      have Hm := hide hm
      have Tn := hide tn
      have Hnext := hide hnext
      have Hrest := hide hrest
      injection e with e3 e4 e5
      have q1 : (n : Int) < len := by omega
      subst e3
      clear hs hmem e1 e2 e4 e5 hrd hm hnext hrest hnx hre hbd tn
      go_wp2_with fail
      refine (unhide Hrd).mono ?_
      rintro e w1 ⟨t1, hr⟩
      have Hm1 := hide ((unhide Hm).kept t1 (fun _ _ e => e))
      have T1 := hide ((unhide Tn).trans t1)
      have hnn := (unhide Tn).size
      have hwm := (unhide Hm).lt
      cases hrd : readC x with
      | none =>
        rw [hrd] at hr
        simp only at hr
        subst hr
        have hfin : replayC (rl.map (·.2)) = none := by
          rw [unhide Hrest, replayC_append, unhide Hnext, hrd]
          exact fold_none _
        have Hfin := hide hfin
        clear hrd hfin t1 Hrd
        go_wp2
        go_ret2
        refine ⟨(unhide T1).alloc _, ?_⟩
        rw [unhide Hfin]
        rfl
      | some c =>
        rw [hrd] at hr
        obtain ⟨cv, rfl, hcs, hcl⟩ := hr
        obtain ⟨hok, _⟩ := readC_some hrd
        obtain ⟨hkb, hvb⟩ := ok_bounds hok
        have hnext : replayC ((rl.map (·.2)).take (n + 1)) = some (turnC (plain m) c) := by rw [unhide Hnext, hrd]; rfl
        have Hnx := hide hnext
        obtain ⟨key, has, val⟩ := c
        simp only at hcs hkb hvb
        obtain ⟨co, cc, hcv⟩ := hcs.shape
        have ta : Turn (fun _ => False) w1 (w1.alloc (.cells #[.string key, .bool has, cv] 51)) := (Turn.refl _ _).alloc _
        have hm2 := (unhide Hm1).kept ta (fun _ _ e => e)
        have hs2 := hcs.kept ta (fun _ _ e => e)
        have ht2 := (unhide T1).trans ta
        have HT : Hid (Calls Tryz.prog 71 #[.map (some w.heap.size), .agg #[.string key, .bool has, cv]] (w1.alloc (.cells #[.string key, .bool has, cv] 51)) (TrnTo (grow (fun _ => False) w wr) (w1.alloc (.cells #[.string key, .bool has, cv] 51)) w.heap.size m key.data.toList has val)) := hide (by
          cases has
          · exact turn_drop key _ val hm2 (by unfold maxLen; omega)
          · exact turn_put key _ val hm2 (by omega) (by omega) hs2 (by omega))
        have HT2 := hide ht2
        have Hw12 := hide (Nat.le_trans t1.size ta.size)
        obtain ⟨vn, hvn⟩ : ∃ vn, vn = val.length := ⟨_, rfl⟩
        rw [← hvn] at hcv
        clear hrd hnext t1 Hrd hcs hcl hok hkb hvb ta hm2 hs2 ht2 hvn Hnext
        subst hcv
        go_wp2_with fail
        refine (unhide HT).mono ?_
        rintro e w2 ⟨rfl, t2, m2, hm2, hp2⟩
        have hfin : MPs (grow (fun _ => False) w w2) w2 w.heap.size m2 := hm2.mono (fun j hj => by
          have h1 := unhide HT2
          have h2 := h1.size
          have h3 := t2.size
          rcases hj with (hj | hj) | hj
          · exact hj.elim
          · have := unhide Hw12
            exact .inr ⟨hj.1, by omega⟩
          · exact .inr ⟨by omega, hj.2⟩)
        have htf : Turn (fun _ => False) w w2 := (unhide HT2).trans' t2 (fun i hi e => by omega)
        have hlen : m2.length ≤ n + 1 := by
          have h1 := plain_length m2
          have h2 := turnC_length (plain m) ⟨key, has, val⟩
          have h3 := plain_length m
          have h4 : plain m2 = turnC (plain m) ⟨key, has, val⟩ := hp2
          rw [← h4] at h2
          omega
        have hrp : replayC ((rl.map (·.2)).take (n + 1)) = some (plain m2) := by rw [unhide Hnx, hp2]; rfl
        have Hfin := hide (And.intro hfin (And.intro htf (And.intro hlen hrp)))
        clear HT hm2 hp2 t2 hfin htf hlen hrp Hnx HT2
        go_wp2
        go_roundw
        case rel => exact ⟨n + 1, m2, by go_num, by omega, (unhide Hfin).1, (unhide Hfin).2.1, (unhide Hfin).2.2.1, (unhide Hfin).2.2.2⟩
        case measure => simp [intOf]; omega
    · obtain rfl : n = len := by omega
      have q1 : ¬ (n : Int) < n := by omega
      have hall : (rl.map (·.2)).take n = rl.map (·.2) := List.take_of_length_le (by rw [List.length_map, ← unhide HL]; exact Nat.le_refl _)
      rw [hall] at hre
      have Hfin := hide (And.intro hm (And.intro tn hre))
      clear hm tn hre hall
      go_wp2
      go_ret2
      refine ⟨(unhide Hfin).2.1, ?_⟩
      rw [(unhide Hfin).2.2]
      exact ⟨_, m, rfl, (unhide Hfin).1, rfl⟩

end Go.Proofs.YtnipdgigjcaolaaGreat
