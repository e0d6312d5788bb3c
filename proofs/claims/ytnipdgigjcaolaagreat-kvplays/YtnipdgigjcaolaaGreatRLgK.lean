/- The reference's Log: Checkpoint. -/
import Derived.Test.YtnipdgigjcaolaaGreatPkV
import Derived.Deep.RegionWith
import Derived.Deep.RegionHeldLaw
import Derived.Deep.CutRange
import Derived.Deep.CutBlock
namespace Go.Proofs.YtnipdgigjcaolaaGreat
open Go.RowKit

namespace RSt

/-- The segment that a checkpoint goes to. -/
def rplace (s : RSt) (now : Int) : Int := if 0 < (s.read now).length then now + 1 else now

/-- A file is removed, if none before it was refused. -/
def rm1R (x : Bool × RSt) (k : Int) : Bool × RSt := if x.1 = true then x else (decide ((x.2.rem k).1 ≠ 0), (x.2.rem k).2)

def rmsR (s : RSt) (l : List Int) : Bool × RSt := l.foldl rm1R (false, s)

def clearsR (s : RSt) (nw : Int) (ns : List Int) : Int × RSt :=
  if (s.rmsR (ns.filter (· < nw))).1 = true then (14, (s.rmsR (ns.filter (· < nw))).2)
  else if (s.rmsR (ns.filter (· < nw))).2.sync.1 ≠ 0 then (14, (s.rmsR (ns.filter (· < nw))).2.sync.2) else (0, (s.rmsR (ns.filter (· < nw))).2.sync.2)

def ckR (s : RSt) (nw : Int) (l : List (List UInt8)) (ns : List Int) : Int × RSt :=
  if (s.keepR nw (laidOf 3 4 l)).1 = 0 then (s.keepR nw (laidOf 3 4 l)).2.clearsR nw ns else s.keepR nw (laidOf 3 4 l)

theorem rm1R_stuck (l : List Int) (x : RSt) : l.foldl rm1R (true, x) = (true, x) := by
  induction l with
  | nil => rfl
  | cons k r ih => exact ih

theorem rmsR_snoc (s : RSt) (l : List Int) (k : Int) : s.rmsR (l ++ [k]) = rm1R (s.rmsR l) k := by simp [rmsR]

theorem rmsR_append (s : RSt) (l r : List Int) : s.rmsR (l ++ r) = r.foldl rm1R (s.rmsR l) := by simp [rmsR]

/-- Where none was refused they are gone. -/
theorem rmsR_gone (s : RSt) (l : List Int) : (s.rmsR l).1 = false → (s.rmsR l).2 = s.goneR l := by
  unfold rmsR goneR
  generalize s = s0
  suffices h : ∀ (l : List Int) (x : RSt), (l.foldl rm1R (false, x)).1 = false → (l.foldl rm1R (false, x)).2 = l.foldl (fun s k => (s.rem k).2) x from h l s0
  intro l
  induction l with
  | nil => intro x _; rfl
  | cons k r ih =>
    intro x hx
    have e : rm1R (false, x) k = (decide ((x.rem k).1 ≠ 0), (x.rem k).2) := rfl
    rw [List.foldl_cons, e] at hx ⊢
    rw [List.foldl_cons]
    by_cases hk : (x.rem k).1 ≠ 0
    · rw [decide_eq_true hk, rm1R_stuck] at hx
      cases hx
    · rw [decide_eq_false hk] at hx ⊢
      exact ih _ hx

theorem rms_yes {s : RSt} {nw k : Int} {ns : List Int} {m : Nat} (hk : ns[m]? = some k) (hlt : k < nw) : s.rmsR ((ns.take (m + 1)).filter (· < nw)) = rm1R (s.rmsR ((ns.take m).filter (· < nw))) k := by
  obtain ⟨h1, h2⟩ := List.getElem?_eq_some_iff.1 hk
  have h3 : ns.take (m + 1) = ns.take m ++ [k] := by rw [List.take_succ_eq_append_getElem h1, h2]
  rw [h3, List.filter_append, ← rmsR_snoc]
  simp [hlt]

theorem rms_no {s : RSt} {nw k : Int} {ns : List Int} {m : Nat} (hk : ns[m]? = some k) (hlt : ¬ k < nw) : s.rmsR ((ns.take (m + 1)).filter (· < nw)) = s.rmsR ((ns.take m).filter (· < nw)) := by
  obtain ⟨h1, h2⟩ := List.getElem?_eq_some_iff.1 hk
  have h3 : ns.take (m + 1) = ns.take m ++ [k] := by rw [List.take_succ_eq_append_getElem h1, h2]
  rw [h3, List.filter_append]
  simp [hlt]

theorem rms_fail {s : RSt} {nw k : Int} {ns : List Int} {m : Nat} (hk : ns[m]? = some k) (hlt : k < nw) (h0 : (s.rmsR ((ns.take m).filter (· < nw))).1 = false) (h1 : (((s.rmsR ((ns.take m).filter (· < nw))).2).rem k).1 ≠ 0) : s.clearsR nw ns = (14, (((s.rmsR ((ns.take m).filter (· < nw))).2).rem k).2) := by
  have h2 := rms_yes (s := s) hk hlt
  have h3 : rm1R (s.rmsR ((ns.take m).filter (· < nw))) k = (true, (((s.rmsR ((ns.take m).filter (· < nw))).2).rem k).2) := by
    unfold rm1R
    rw [if_neg (by simp [h0]), decide_eq_true h1]
  rw [h3] at h2
  have h4 : s.rmsR (ns.filter (· < nw)) = (true, (((s.rmsR ((ns.take m).filter (· < nw))).2).rem k).2) := by
    conv => lhs; rw [← List.take_append_drop (m + 1) ns]
    rw [List.filter_append, rmsR_append, h2, rm1R_stuck]
  unfold clearsR
  rw [h4]
  rfl

end RSt

section
variable {Q K : Nat → Prop} {w w1 : World} {l rb M B M2 B2 : Nat} {seg now : Int} {down : Bool} {s : RSt} {v : Value} {rl : List (Value × List UInt8)}

theorem RLTo.same {s' : RSt} {now' : Int} {down' : Bool} (h : RLTo Q w l rb seg now down s w1) (h2 : ∀ Q', RLg Q' w1 l rb seg now down s → RLg Q' w1 l rb seg now' down' s') : RLTo Q w l rb seg now' down' s' w1 := by
  obtain ⟨Q', a, b, c⟩ := h
  exact ⟨Q', h2 Q' a, b, c⟩

theorem RLTo.goes {w2 : World} (h : RLTo Q w l rb seg now down s w1) (t : Turn (fun _ => False) w1 w2) : RLTo Q w l rb seg now down s w2 := by
  obtain ⟨Q', a, b, c⟩ := h
  exact ⟨Q', a.goes t, b, c.trans (t.mono (fun _ _ e => e.elim))⟩

/-- The segment's number is set. -/
theorem RLg.renow (h : RLg Q w l rb seg now down s) (now' : Int) : RLg Q (w.setCell ⟨l, 2, none⟩ (.int .i64 now')) l rb seg now' down s ∧ Turn (fun j => j = l) w (w.setCell ⟨l, 2, none⟩ (.int .i64 now')) := by
  have t6 : Turn (fun j => j = l) w (w.setCell ⟨l, 2, none⟩ (.int .i64 now')) := (Turn.refl (fun j => j = l) w).setCell (p := ⟨l, 2, none⟩) (.inl rfl) _
  exact ⟨⟨h.rd.keeps t6 (fun j hj e => h.out (e ▸ hj)) (fun e => h.ne e.symm), by simpa using h.at'.set 2 (.int .i64 now'), h.ne, h.out⟩, t6⟩

theorem RLTo.up4 {Q1 : Nat → Prop} {w7 w8 w9 w' : World} (hq : ∀ j, Q1 j → Q j ∨ w.heap.size ≤ j) (h : RLg (grow (grow Q1 w7 w8) w8 w9) w' l rb seg now down s) (z : w.heap.size ≤ w7.heap.size) (z8 : w.heap.size ≤ w8.heap.size) (t : Turn (fun j => j = rb ∨ j = l) w w') : RLTo Q w l rb seg now down s w' :=
  ⟨_, h, fun j hj => by
    rcases hj with (hj | hj) | hj
    · exact hq j hj
    · exact .inr (by omega)
    · exact .inr (by omega), t⟩

theorem RLTo.up5 {Q1 : Nat → Prop} {w7 w8 w' : World} (hq : ∀ j, Q1 j → Q j ∨ w.heap.size ≤ j) (h : RLg (grow Q1 w7 w8) w' l rb seg now down s) (z : w.heap.size ≤ w7.heap.size) (t : Turn (fun j => j = rb ∨ j = l) w w') : RLTo Q w l rb seg now down s w' :=
  ⟨_, h, fun j hj => by
    rcases hj with hj | hj
    · exact hq j hj
    · exact .inr (by omega), t⟩

/-- What Checkpoint comes to. -/
def RCk (Q : Nat → Prop) (w : World) (l rb : Nat) (seg nw : Int) (s : RSt) (recs : List (List UInt8)) (e : Ending) (w' : World) : Prop :=
  ∃ ns, ((s.keepR nw (laidOf 3 4 recs)).1 = 0 → (s.keepR nw (laidOf 3 4 recs)).2.Nums ns) ∧ e = .returned (.int .i64 (s.ckR nw recs ns).1) ∧ RLTo Q w l rb seg nw (decide ((s.ckR nw recs ns).1 ≠ 0)) (s.ckR nw recs ns).2 w'

set_option maxHeartbeats 8000000 in
set_option maxRecDepth 100000 in
theorem rlcheckpoint_any (h : RLg Q w l rb seg now false s) (hf : RFit M B s) (hr : RL K w v rl) (hno : ¬ tooLong rl) (hsz : (laidOf 3 4 (rl.map (·.2))).length ≤ 1099511627776) (hn0 : 0 ≤ now) (hn1 : now ≤ 1099511627776)
    (hf2 : RFit M2 B2 (s.add (s.rplace now) (laidOf 3 4 (rl.map (·.2)))).2) (hw : (s.add (s.rplace now) (laidOf 3 4 (rl.map (·.2)))).2.works ≤ 1073741822) (hK : ∀ j, K j → j ≠ l ∧ j ≠ rb)
    (hrm : ∀ L : List Int, L.length ≤ M2 → RFit M2 B2 ((s.keepR (s.rplace now) (laidOf 3 4 (rl.map (·.2)))).2.goneR L) ∧ ((s.keepR (s.rplace now) (laidOf 3 4 (rl.map (·.2)))).2.goneR L).works ≤ 1073741822) :
    Calls Tryz.prog 93 #[.pointer (some ⟨l, 0, none⟩), v] w (RCk Q w l rb seg (s.rplace now) s (rl.map (·.2))) := by
  obtain ⟨vo, vc, hve⟩ := hr.shape
  have hlen := hr.len
  unfold maxLen at hlen
  have HAt := hide hr.at
  have HNo := hide hno
  have HR := hide hr
  obtain ⟨recs, hrecs⟩ : ∃ recs, recs = rl.map (·.2) := ⟨_, rfl⟩
  obtain ⟨nw, hnw⟩ : ∃ nw, nw = s.rplace now := ⟨_, rfl⟩
  have Hrecs := hide hrecs
  have Hnw := hide hnw
  rw [← hrecs, ← hnw] at hf2 hw hrm ⊢
  rw [← hrecs] at hsz
  obtain ⟨len, hlenE⟩ : ∃ len, len = rl.length := ⟨_, rfl⟩
  have HL := hide hlenE
  rw [← hlenE] at hve hlen
  subst hve
  have c3 : w.cell? ⟨l, 3, none⟩ = some (.bool false) := h.at'.cell 3
  have H := hide h
  have HF := hide (And.intro hf (And.intro hf2 (And.intro hw (And.intro hsz (And.intro hK hrm)))))
  obtain ⟨rn, hrn⟩ : ∃ rn, rn = (s.read now).length := ⟨_, rfl⟩
  have Hrn := hide hrn
  have hrnb : rn ≤ 1152921504606846976 := by
    have h1 := rread_len hf now
    have h2 := hf.big
    omega
  have hcase : (rn = 0 ∧ nw = now) ∨ (0 < rn ∧ nw = now + 1) := by
    rw [hnw, hrn]
    unfold RSt.rplace
    by_cases hh : 0 < (s.read now).length
    · rw [if_pos hh]; exact .inr ⟨hh, rfl⟩
    · rw [if_neg hh]; exact .inl ⟨by omega, rfl⟩
  have Hcase := hide hcase
  have hq0 : 0 ≤ nw ∧ nw ≤ 1099511627777 := by omega
  clear h hf hr hno hsz hf2 hw hrecs hnw hlenE hK hrm hrn hcase
  go_enter Tryz.func93, Tryz.ntmps93
  go_wp2_with fail
  go_loop [5] (fun i => ∃ n : Nat, i = .int .i64 n ∧ n ≤ len) (fun i => len - (intOf i).toNat)
  case atStart => exact ⟨0, rfl, by omega⟩
  case round =>
    obtain ⟨n, rfl, hn⟩ := hrel
    by_cases hlt : n < len
    · have hnl : n < rl.length := by have := unhide HL; omega
      obtain ⟨g, cap', ao, nb, c, e, e1, e2, hc⟩ := unhide HAt n hnl
      injection e with ea eb ec
      have hb1 : nb ≤ 1048576 := by
        rw [e2]
        exact Nat.le_of_not_lt (fun h => unhide HNo ⟨rl[n]'hnl, List.getElem_mem hnl, h⟩)
      have q2 : ¬ (1048576 : Int) < nb := by omega
      have q1 : (n : Int) < len := by omega
      subst ea
      clear e1 e2 eb ec
      go_wp2
      go_round
      case rel => exact ⟨n + 1, by go_num, by omega⟩
      case measure => simp [intOf]; omega
    · have q1 : ¬ (n : Int) < len := by omega
      go_upto_region 8 with fail
      go_cut [34] from 20 (fun cv wx => cv = .bool (decide (0 < rn)) ∧ RLTo Q w l rb seg now false s wx)
      case first =>
        have td : Turn (fun _ => False) w w.drew := (Turn.refl _ w).drew
        have HRd := hide (rread_any now ((unhide H).goes td).rd (unhide HF).1)
        have d0 : w.drew.cell? ⟨l, 0, none⟩ = some (.pointer (some ⟨rb, 0, none⟩)) := (unhide H).at'.cell 0
        have d2 : w.drew.cell? ⟨l, 2, none⟩ = some (.int .i64 now) := (unhide H).at'.cell 2
        clear td
        go_region_held_law (fun w' => w'.cell? ⟨l, 0, none⟩ = some (.pointer (some ⟨rb, 0, none⟩)) ∧ w'.cell? ⟨l, 2, none⟩ = some (.int .i64 now)) (first | go_keep | exact ⟨e0, e2⟩ | exact ⟨d0, d2⟩)
          (first
          | (go_at_call 64; refine (unhide HRd).mono ?_; rintro e w5 ⟨v5, rfl, hs5, _, t5⟩; obtain ⟨o5, p5, e5⟩ := hs5.shape; rw [← unhide Hrn] at e5; have hL5 := ((unhide H).goes ((Turn.refl _ w).drew)).goes t5; have e0 : w5.cell? ⟨l, 0, none⟩ = some (.pointer (some ⟨rb, 0, none⟩)) := hL5.at'.cell 0; have e2 : w5.cell? ⟨l, 2, none⟩ = some (.int .i64 now) := hL5.at'.cell 2; have HL5 := hide (And.intro hL5 (((Turn.refl (fun _ => False) w).drew).trans t5)); clear hL5 hs5 t5 HRd; subst e5)
          | fail)
        all_goals (
          go_wp2_with fail
          go_meet
          case rel => exact ⟨by simp, (RLTo.refl (unhide H)).goes (unhide HL5).2⟩)
      case rest =>
      obtain ⟨rfl, hT⟩ := hcut
      go_upto_if 34 with fail
      go_cut [35] from 34 (fun _ wx => RLTo Q w l rb seg nw false s wx)
      case first =>
        rcases unhide Hcase with ⟨hq, hnn⟩ | ⟨hq, hnn⟩
        · have q2 : ¬ 0 < rn := by omega
          rw [← hnn] at hT
          have HT := hide hT
          clear hT hnn hq
          go_wp2_with fail
          go_meet
          case rel => exact unhide HT
        · have hT2 : RLTo Q w l rb seg nw false s (wc.setCell ⟨l, 2, none⟩ (.int .i64 nw)) := by
            rw [hnn]
            obtain ⟨Q', a, b, c⟩ := hT
            obtain ⟨a2, t2⟩ := a.renow (now + 1)
            exact ⟨Q', a2, b, c.trans (t2.mono (fun _ _ e => .inr e))⟩
          have HT2 := hide hT2
          obtain ⟨Q', hL, _, _⟩ := hT
          have k2 : wc.cell? ⟨l, 2, none⟩ = some (.int .i64 now) := hL.at'.cell 2
          have g2 := hL.at'.frozen 2
          have q3 : now + 1 ≤ 9223372036854775807 := by omega
          have Hnn := hide hnn
          clear hT2 hL hnn
          go_wp2_with fail
          go_meet
          case rel => rw [← unhide Hnn]; exact unhide HT2
      case rest =>
      clear hT
      have hT := hcut
      clear hcut
      obtain ⟨kr, hkr⟩ : ∃ kr, kr = s.keepR nw (laidOf 3 4 recs) := ⟨_, rfl⟩
      have Hkr := hide hkr
      have HT := hide hT
      clear hkr hT
      go_upto_region 10 with fail
      go_cut [61] from 42 (fun cv wx => cv = .bool (decide (kr.1 ≠ 0)) ∧ RLTo Q w l rb seg nw false kr.2 wx)
      case first =>
        obtain ⟨Q1, hL6, hq6, t6⟩ := unhide HT
        obtain ⟨w6, hw6⟩ : ∃ w6, w6 = wc := ⟨_, rfl⟩
        rw [← hw6] at hL6 t6
        have HL6 := hide hL6
        have T6 := hide t6
        have HQ6 := hide hq6
        clear hL6 t6 hq6 HT
        rw [← hw6]
        clear hw6
        obtain ⟨bs, hbs⟩ : ∃ bs, bs = laidOf 3 4 recs := ⟨_, rfl⟩
        have Hbs := hide hbs
        have hR6 := (unhide HR).kept (unhide T6) (fun j hj e => by
          have h1 := (unhide HF).2.2.2.2.1 j hj
          rcases e with e | e
          · exact h1.2 e
          · exact h1.1 e)
        have td6 : Turn (fun _ => False) w6 w6.drew := (Turn.refl _ w6).drew
        have HFm : Hid (Calls Tryz.prog 129 #[.slice vo len vc, .int .i64 3] w6.drew fun e w' => ∃ v', e = .returned v' ∧ Made w6.drew v' bs w') := hide (by rw [unhide Hbs, unhide Hrecs]; exact rframes_any 3 (by omega) (by omega) (hR6.kept td6 (fun _ _ e => e)) (by show (laidOf 3 4 (rl.map (·.2))).length ≤ _; rw [← unhide Hrecs]; exact (unhide HF).2.2.2.1))
        have k0 : w6.drew.cell? ⟨l, 0, none⟩ = some (.pointer (some ⟨rb, 0, none⟩)) := (unhide HL6).at'.cell 0
        have k2 : w6.drew.cell? ⟨l, 2, none⟩ = some (.int .i64 nw) := (unhide HL6).at'.cell 2
        have T6' := hide ((unhide T6).trans (td6.mono (fun _ _ e => e.elim)))
        have HL6' := hide ((unhide HL6).goes td6)
        have Z6 : Hid (w6.drew.heap.size = w6.heap.size) := hide rfl
        obtain ⟨x, hx⟩ : ∃ x, x = (s.add nw bs).2 := ⟨_, rfl⟩
        have hkc := s.keepR_cases nw hq0.1 bs
        have hbl : bs.length ≤ 140737488355328 := by have := (unhide HF).2.2.2.1; rw [hbs]; omega
        have hf2 : RFit M2 B2 x ∧ x.works ≤ 1073741822 := by rw [hx, hbs]; exact ⟨(unhide HF).2.1, (unhide HF).2.2.1⟩
        have HF2 := hide hf2
        have hkr2 : kr = s.keepR nw bs := by rw [hbs]; exact unhide Hkr
        rw [← hx, ← hkr2] at hkc
        have Hx := hide hx
        have Hbl := hide hbl
        clear hR6 td6 hbs hx hbl hf2 hkr2
        rcases hkc with ⟨ha, hke⟩ | ⟨ha, hsy, hke⟩ | ⟨ha, hsy, hke⟩
        · have Ha := hide ha
          have Hke := hide hke
          clear ha hke
          first | (go_region_with
            (first
            | (go_at_call 129; refine (unhide HFm).mono ?_; rintro e w7 ⟨v7, rfl, hm7⟩; obtain ⟨o7, p7, e7⟩ := hm7.1.shape; have hL7 := (unhide HL6').goes hm7.2.1; have T7 := hide ((unhide T6').trans (hm7.2.1.mono (fun _ _ e => e.elim))); have r0 : w7.cell? ⟨l, 0, none⟩ = some (.pointer (some ⟨rb, 0, none⟩)) := hL7.at'.cell 0; have r2 : w7.cell? ⟨l, 2, none⟩ = some (.int .i64 nw) := hL7.at'.cell 2; have HAd := hide (radd_any nw v7 bs hL7.rd (unhide HF).1 hm7.1.sees (fun _ e => by rw [hm7.1.slab_eq] at e; have h1 := hm7.2.2 _ e; have h2 := (unhide HL6).rlt; have h3 := unhide Z6; omega) (unhide Hbl)); rw [unhide Ha, ← unhide Hx] at HAd; clear hm7; subst e7)
            | (go_at_call 15; refine (unhide HAd).mono ?_; rintro e w8 ⟨rfl, hto8⟩; have hL8 := hL7.turns hto8; have T8 := hide ((unhide T7).trans (hto8.2.mono (fun _ _ e => .inl e))); have s0 : w8.cell? ⟨l, 0, none⟩ = some (.pointer (some ⟨rb, 0, none⟩)) := hL8.at'.cell 0; have s2 : w8.cell? ⟨l, 2, none⟩ = some (.int .i64 nw) := hL8.at'.cell 2)
            | fail)) | fail
          all_goals (
            have Hend := hide (RLTo.up5 (unhide HQ6) hL8 (unhide T7).size (unhide T8))
            go_wp2_with fail
            go_meet
            case rel => rw [unhide Hke]; exact ⟨rfl, unhide Hend⟩)
        · have Ha := hide ha
          have Hsy := hide hsy
          have Hke := hide hke
          clear ha hsy hke
          go_region_held_law (fun w' => w'.cell? ⟨l, 0, none⟩ = some (.pointer (some ⟨rb, 0, none⟩)) ∧ w'.cell? ⟨l, 2, none⟩ = some (.int .i64 nw)) (first | go_keep | exact ⟨u0, u2⟩ | exact ⟨s0, s2⟩ | exact ⟨r0, r2⟩ | exact ⟨k0, k2⟩)
            (first
            | (go_at_call 129; refine (unhide HFm).mono ?_; rintro e w7 ⟨v7, rfl, hm7⟩; obtain ⟨o7, p7, e7⟩ := hm7.1.shape; have hL7 := (unhide HL6').goes hm7.2.1; have T7 := hide ((unhide T6').trans (hm7.2.1.mono (fun _ _ e => e.elim))); have r0 : w7.cell? ⟨l, 0, none⟩ = some (.pointer (some ⟨rb, 0, none⟩)) := hL7.at'.cell 0; have r2 : w7.cell? ⟨l, 2, none⟩ = some (.int .i64 nw) := hL7.at'.cell 2; have HAd := hide (radd_any nw v7 bs hL7.rd (unhide HF).1 hm7.1.sees (fun _ e => by rw [hm7.1.slab_eq] at e; have h1 := hm7.2.2 _ e; have h2 := (unhide HL6).rlt; have h3 := unhide Z6; omega) (unhide Hbl)); rw [unhide Ha, ← unhide Hx] at HAd; clear hm7; subst e7)
            | (go_at_call 15; refine (unhide HAd).mono ?_; rintro e w8 ⟨rfl, hto8⟩; have hL8 := hL7.turns hto8; have T8 := hide ((unhide T7).trans (hto8.2.mono (fun _ _ e => .inl e))); have s0 : w8.cell? ⟨l, 0, none⟩ = some (.pointer (some ⟨rb, 0, none⟩)) := hL8.at'.cell 0; have s2 : w8.cell? ⟨l, 2, none⟩ = some (.int .i64 nw) := hL8.at'.cell 2; have HSy := hide (rsync_any hL8.rd (unhide HF2).1 (unhide HF2).2); rw [unhide Hsy] at HSy)
            | (go_at_call 17; refine (unhide HSy).mono ?_; rintro e w9 ⟨rfl, hto9⟩; have hL9 := hL8.turns hto9; have T9 := hide ((unhide T8).trans (hto9.2.mono (fun _ _ e => .inl e))); have u0 : w9.cell? ⟨l, 0, none⟩ = some (.pointer (some ⟨rb, 0, none⟩)) := hL9.at'.cell 0; have u2 : w9.cell? ⟨l, 2, none⟩ = some (.int .i64 nw) := hL9.at'.cell 2)
            | fail)
          all_goals (
            have Hend := hide (RLTo.up4 (unhide HQ6) hL9 (unhide T7).size (unhide T8).size (unhide T9))
            go_wp2_with fail
            go_meet
            case rel => rw [unhide Hke]; exact ⟨rfl, unhide Hend⟩)
        · have Ha := hide ha
          have Hsy := hide hsy
          have Hke := hide hke
          clear ha hsy hke
          go_region_held_law (fun w' => w'.cell? ⟨l, 0, none⟩ = some (.pointer (some ⟨rb, 0, none⟩)) ∧ w'.cell? ⟨l, 2, none⟩ = some (.int .i64 nw)) (first | go_keep | exact ⟨u0, u2⟩ | exact ⟨s0, s2⟩ | exact ⟨r0, r2⟩ | exact ⟨k0, k2⟩)
            (first
            | (go_at_call 129; refine (unhide HFm).mono ?_; rintro e w7 ⟨v7, rfl, hm7⟩; obtain ⟨o7, p7, e7⟩ := hm7.1.shape; have hL7 := (unhide HL6').goes hm7.2.1; have T7 := hide ((unhide T6').trans (hm7.2.1.mono (fun _ _ e => e.elim))); have r0 : w7.cell? ⟨l, 0, none⟩ = some (.pointer (some ⟨rb, 0, none⟩)) := hL7.at'.cell 0; have r2 : w7.cell? ⟨l, 2, none⟩ = some (.int .i64 nw) := hL7.at'.cell 2; have HAd := hide (radd_any nw v7 bs hL7.rd (unhide HF).1 hm7.1.sees (fun _ e => by rw [hm7.1.slab_eq] at e; have h1 := hm7.2.2 _ e; have h2 := (unhide HL6).rlt; have h3 := unhide Z6; omega) (unhide Hbl)); rw [unhide Ha, ← unhide Hx] at HAd; clear hm7; subst e7)
            | (go_at_call 15; refine (unhide HAd).mono ?_; rintro e w8 ⟨rfl, hto8⟩; have hL8 := hL7.turns hto8; have T8 := hide ((unhide T7).trans (hto8.2.mono (fun _ _ e => .inl e))); have s0 : w8.cell? ⟨l, 0, none⟩ = some (.pointer (some ⟨rb, 0, none⟩)) := hL8.at'.cell 0; have s2 : w8.cell? ⟨l, 2, none⟩ = some (.int .i64 nw) := hL8.at'.cell 2; have HSy := hide (rsync_any hL8.rd (unhide HF2).1 (unhide HF2).2); rw [unhide Hsy] at HSy)
            | (go_at_call 17; refine (unhide HSy).mono ?_; rintro e w9 ⟨rfl, hto9⟩; have hL9 := hL8.turns hto9; have T9 := hide ((unhide T8).trans (hto9.2.mono (fun _ _ e => .inl e))); have u0 : w9.cell? ⟨l, 0, none⟩ = some (.pointer (some ⟨rb, 0, none⟩)) := hL9.at'.cell 0; have u2 : w9.cell? ⟨l, 2, none⟩ = some (.int .i64 nw) := hL9.at'.cell 2)
            | fail)
          all_goals (
            have Hend := hide (RLTo.up4 (unhide HQ6) hL9 (unhide T7).size (unhide T8).size (unhide T9))
            go_wp2_with fail
            go_meet
            case rel => rw [unhide Hke]; exact ⟨rfl, unhide Hend⟩)
      case rest =>
      obtain ⟨rfl, hT⟩ := hcut
      have Htl := hide hT
      have HT0 := hide (unhide HT)
      clear hT HT
      by_cases hk0 : kr.1 = 0
      · have b0 : decide (kr.1 ≠ 0) = false := by simp [hk0]
        rw [b0]
        obtain ⟨Q2, hL, hq2, t2⟩ := unhide Htl
        have k0 : wc.cell? ⟨l, 0, none⟩ = some (.pointer (some ⟨rb, 0, none⟩)) := hL.at'.cell 0
        have hfk : ∀ L : List Int, L.length ≤ M2 → RFit M2 B2 (kr.2.goneR L) ∧ (kr.2.goneR L).works ≤ 1073741822 := by rw [unhide Hkr]; exact (unhide HF).2.2.2.2.2
        have HFl := hide (rfiles_any hL.rd (hfk [] (by simp)).1)
        have HL2 := hide hL
        have HT2 := hide (And.intro hq2 t2)
        have HFk := hide hfk
        have hM2b : M2 ≤ 1073741824 := (hfk [] (by simp)).1.max
        clear hL hq2 t2 hfk
        go_wp2_with fail
        refine (unhide HFl).mono ?_
        rintro e w3 ⟨fv, ns, rfl, hm, hns, hnM⟩
        obtain ⟨fo, fc, rfl⟩ := hm.shape
        have hL3 := (unhide HL2).goes hm.2.1
        have hfb : ∀ j, (Value.slice fo ns.length fc).ownBlock = some j → j ≠ rb ∧ j ≠ l := fun j hj => by
          have h1 := hm.2.2 j hj
          have h2 := (unhide HL2).rlt
          have h3 := (unhide HL2).at'.lt
          omega
        have Hm := hide (And.intro hm.1 hfb)
        have HL3 := hide hL3
        have HT3 := hide (And.intro (unhide HT2).1 ((unhide HT2).2.trans (hm.2.1.mono (fun _ _ e => e.elim))))
        have Hns := hide hns
        clear hL3 hm hns hfb HFl
        go_wp2_with fail
        go_loopw [7] (fun i wr => ∃ (m : Nat) (Q' : Nat → Prop), i = .int .i64 m ∧ m ≤ ns.length ∧ (kr.2.rmsR ((ns.take m).filter (· < nw))).1 = false ∧ RLg Q' wr l rb seg nw false (kr.2.rmsR ((ns.take m).filter (· < nw))).2 ∧ Turn (fun j => j = rb ∨ j = l) w3 wr ∧ ∀ j, Q' j → Q j ∨ w.heap.size ≤ j) (fun i _ => ns.length - (intOf i).toNat)
        case atStart => exact ⟨0, Q2, rfl, by omega, rfl, unhide HL3, Turn.refl _ _, (unhide HT3).1⟩
        case round =>
          obtain ⟨m, Q', rfl, hml, hok, hL, tx, hQ'⟩ := hrel
          have hck : s.ckR nw recs ns = kr.2.clearsR nw ns := by unfold RSt.ckR; rw [← unhide Hkr]; exact if_pos hk0
          have Hck := hide hck
          by_cases hlt2 : m < ns.length
          · obtain ⟨k, hk⟩ : ∃ k, ns[m]? = some k := ⟨_, List.getElem?_eq_getElem hlt2⟩
            have hcl := i64s_get6 ns m k hk
            have hfo2 := (unhide Hm).1.kept tx (fun j hj e => by
              have := (unhide Hm).2 j hj
              rcases e with e | e
              · exact this.1 e
              · exact this.2 e)
            obtain ⟨g, hfo⟩ : ∃ g, fo = some ⟨g, 0, none⟩ := by
              rcases hfo2.shape with ⟨h0, h1⟩ | ⟨g, cap', h0, _⟩
              · rw [h1] at hcl; simp at hcl
              · injection h0 with e1; exact ⟨g, e1⟩
            subst hfo
            have x1 : wr.cell? ⟨g, m, none⟩ = some (.int .i64 k) := by
              rcases hfo2.sees with ⟨h0, _⟩ | ⟨a, cap, e, _, _, hc⟩
              · simp at h0
              · simp only [Value.slice.injEq, Option.some.injEq] at e
                have := hc m _ hcl
                rwa [← e.1, addr_lit, Nat.zero_add] at this
            obtain ⟨x, hx⟩ : ∃ x, x = (kr.2.rmsR ((ns.take m).filter (· < nw))).2 := ⟨_, rfl⟩
            rw [← hx] at hL
            have hxg : x = kr.2.goneR ((ns.take m).filter (· < nw)) := by rw [hx]; exact RSt.rmsR_gone _ _ hok
            have hfx := unhide HFk ((ns.take m).filter (· < nw)) (Nat.le_trans (List.length_filter_le _ _) (by rw [List.length_take]; omega))
            rw [← hxg] at hfx
            have td : Turn (fun _ => False) wr wr.drew := (Turn.refl _ wr).drew
            have td2 : Turn (fun _ => False) wr wr.drew.drew := td.drew
            have d1 : wr.drew.cell? ⟨g, m, none⟩ = some (.int .i64 k) := x1
            have d2 : wr.drew.cell? ⟨l, 2, none⟩ = some (.int .i64 nw) := hL.at'.cell 2
            have dd0 : wr.drew.drew.cell? ⟨l, 0, none⟩ = some (.pointer (some ⟨rb, 0, none⟩)) := hL.at'.cell 0
            have dd1 : wr.drew.drew.cell? ⟨g, m, none⟩ = some (.int .i64 k) := x1
            have y0 : (m : Int) < ns.length := by omega
            have HRm := hide (rrem_any k (hL.goes td2).rd hfx.1 hfx.2)
            have HL4 := hide (hL.goes td2)
            have HL4' := hide (hL.goes td)
            have HX := hide (And.intro hx (And.intro hok hk))
            have HT4 := hide (And.intro (tx.trans (td.mono (fun _ _ e => e.elim))) (And.intro (tx.trans (td2.mono (fun _ _ e => e.elim))) hQ'))
            have hgr : ⟨g, m, none⟩ ≠ (⟨rb, 0, none⟩ : Addr) ∧ g ≠ rb := by
              have := (unhide Hm).2 g rfl
              exact ⟨fun e => this.1 (by injection e), this.1⟩
            have Hgr := hide hgr
            clear hcl hfo2 hx hok hk hxg hfx td td2 hL tx hQ' hgr x1 hck
            go_wp2_with fail
            go_region_held_law (fun w' => w'.cell? ⟨g, m, none⟩ = some (.int .i64 k) ∧ w'.cell? ⟨l, 2, none⟩ = some (.int .i64 nw)) (first | go_keep | exact ⟨d1, d2⟩) (fail)
            by_cases hks : k < nw
            · have hge : decide (nw ≤ k) = false := by simp; omega
              by_cases hr0 : (x.rem k).1 = 0
              · have hnx : kr.2.rmsR ((ns.take (m + 1)).filter (· < nw)) = (false, (x.rem k).2) := by
                  rw [RSt.rms_yes (unhide HX).2.2 hks]
                  unfold RSt.rm1R
                  rw [if_neg (by simp [(unhide HX).2.1]), ← (unhide HX).1]
                  simp [hr0]
                have Hnx := hide hnx
                clear hnx
                rw [hr0] at HRm
                have Hr0 := hide hr0
                clear hr0
                go_wp2_with fail
                go_region_held_law (fun w' => w'.cell? ⟨l, 0, none⟩ = some (.pointer (some ⟨rb, 0, none⟩)) ∧ w'.cell? ⟨g, m, none⟩ = some (.int .i64 k)) (first | go_keep | exact ⟨u0, u1⟩ | exact ⟨dd0, dd1⟩)
                  (first
                  | (go_at_call 65; refine (unhide HRm).mono ?_; rintro e w5 ⟨rfl, hto⟩; have hL5 := (unhide HL4).turns hto; have T5 := hide hto.2; have u0 : w5.cell? ⟨l, 0, none⟩ = some (.pointer (some ⟨rb, 0, none⟩)) := hL5.at'.cell 0; have u1 : w5.cell? ⟨g, m, none⟩ = some (.int .i64 k) := (hto.2.cell (p := ⟨g, m, none⟩) (World.block_lt_of_cell? _ _ dd1) (unhide Hgr).2).trans dd1)
                  | fail)
                all_goals (
                  have Hend := hide hL5
                  clear hL5 hto HRm
                  go_wp2
                  go_roundw
                  case rel => exact ⟨m + 1, _, by go_num, by omega, by rw [unhide Hnx], by rw [unhide Hnx]; exact unhide Hend, (unhide HT4).2.1.trans ((unhide T5).mono (fun _ _ e => .inl e)), fun j hj => by
                    rcases hj with hj | hj
                    · exact (unhide HT4).2.2 j hj
                    · have h1 := (unhide HT4).2.1.size
                      have h2 := (unhide HT3).2.size
                      exact .inr (by omega)⟩
                  case measure => simp [intOf]; omega)
              · have hcs := RSt.rms_fail (unhide HX).2.2 hks (unhide HX).2.1 (by rw [← (unhide HX).1]; exact hr0)
                rw [← (unhide HX).1] at hcs
                have Hcs := hide hcs
                have hr14 : (x.rem k).1 = 14 ∨ (x.rem k).1 = 1 := by
                  unfold RSt.rem at hr0 ⊢
                  split
                  · exact .inr rfl
                  · rename_i hh
                    rw [if_neg hh] at hr0
                    split at hr0
                    · rename_i h2; rw [if_pos h2]; exact .inl rfl
                    · exact absurd rfl hr0
                have Hr0 := hide hr0
                have b14 : ((x.rem k).1 != 0) = true := by simp [hr0]
                generalize (x.rem k).1 = z at *
                clear hcs
                have HE := hide hr14
                clear hr0 hr14
                go_wp2_with fail
                go_region_held_law (fun w' => w'.cell? ⟨l, 0, none⟩ = some (.pointer (some ⟨rb, 0, none⟩)) ∧ w'.cell? ⟨g, m, none⟩ = some (.int .i64 k)) (first | go_keep | exact ⟨u0, u1⟩ | exact ⟨dd0, dd1⟩)
                  (first
                  | (go_at_call 65; refine (unhide HRm).mono ?_; rintro e w5 ⟨rfl, hto⟩; have hL5 := (unhide HL4).turns hto; have T5 := hide hto.2; have u0 : w5.cell? ⟨l, 0, none⟩ = some (.pointer (some ⟨rb, 0, none⟩)) := hL5.at'.cell 0; have u1 : w5.cell? ⟨g, m, none⟩ = some (.int .i64 k) := (hto.2.cell (p := ⟨g, m, none⟩) (World.block_lt_of_cell? _ _ dd1) (unhide Hgr).2).trans dd1)
                  | fail)
                all_goals (
                  have HDn := hide (rdone_no hL5)
                  have Hq5 : Hid (∀ j, grow Q' wr.drew.drew w5 j → Q j ∨ w.heap.size ≤ j) := hide (fun j hj => by
                    rcases hj with hj | hj
                    · exact (unhide HT4).2.2 j hj
                    · have h1 := (unhide HT4).2.1.size
                      have h2 := (unhide HT3).2.size
                      exact .inr (by omega))
                  clear hL5 hto HRm
                  go_wp2_with fail
                  refine (unhide HDn).mono ?_
                  rintro e w6 ⟨rfl, hL6, t6⟩
                  have Hend : Hid (RCk Q w l rb seg nw s recs (.returned (.int .i64 14)) w6) := hide ⟨ns, fun _ => by rw [← unhide Hkr]; exact unhide Hns, by rw [unhide Hck, unhide Hcs], by rw [unhide Hck, unhide Hcs]; exact ⟨_, hL6, unhide Hq5, (unhide HT3).2.trans ((unhide HT4).2.1.trans (((unhide T5).mono (fun _ _ e => .inl e)).trans (t6.mono (fun _ _ e => .inr e))))⟩⟩
                  clear hL6 t6 HDn
                  go_wp2
                  go_ret
                  exact unhide Hend)
            · have hge : decide (nw ≤ k) = true := by simp; omega
              have Hno := hide (RSt.rms_no (s := kr.2) (unhide HX).2.2 hks)
              clear HRm
              go_wp2
              go_roundw
              case rel => exact ⟨m + 1, Q', by go_num, by omega, by rw [unhide Hno]; exact (unhide HX).2.1, by rw [unhide Hno, ← (unhide HX).1]; exact unhide HL4', (unhide HT4).1, (unhide HT4).2.2⟩
              case measure => simp [intOf]; omega
          · obtain rfl : m = ns.length := by omega
            have y0 : ¬ (ns.length : Int) < ns.length := by omega
            rw [List.take_length] at hok hL
            obtain ⟨x, hx⟩ : ∃ x, x = (kr.2.rmsR (ns.filter (· < nw))).2 := ⟨_, rfl⟩
            rw [← hx] at hL
            have hxg : x = kr.2.goneR (ns.filter (· < nw)) := by rw [hx]; exact RSt.rmsR_gone _ _ hok
            have hfx := unhide HFk (ns.filter (· < nw)) (Nat.le_trans (List.length_filter_le _ _) hnM)
            rw [← hxg] at hfx
            have HSy := hide (rsync_any hL.rd hfx.1 hfx.2)
            have dd0 : wr.cell? ⟨l, 0, none⟩ = some (.pointer (some ⟨rb, 0, none⟩)) := hL.at'.cell 0
            have HX := hide (And.intro hx hok)
            have HL4 := hide hL
            have HT4 := hide (And.intro tx hQ')
            have hcs : (x.sync.1 = 14 ∧ kr.2.clearsR nw ns = (14, x.sync.2)) ∨ (x.sync.1 = 0 ∧ kr.2.clearsR nw ns = (0, x.sync.2)) := by
              unfold RSt.clearsR
              rw [if_neg (by simp [hok]), ← hx]
              have : x.sync.1 = 14 ∨ x.sync.1 = 0 := by
                unfold RSt.sync
                split
                · exact .inl rfl
                · exact .inr rfl
              rcases this with h1 | h1
              · exact .inl ⟨h1, if_pos (by rw [h1]; decide)⟩
              · exact .inr ⟨h1, if_neg (by simp [h1])⟩
            clear hx hok hxg hfx hL tx hQ' hck hlt2
            rcases hcs with ⟨hs1, hcl⟩ | ⟨hs1, hcl⟩
            all_goals (
              rw [hs1] at HSy
              have Hcl := hide hcl
              clear hcl hs1
              go_wp2_with fail
              refine (unhide HSy).mono ?_
              rintro e w5 ⟨rfl, hto⟩
              have hL5 := (unhide HL4).turns hto
              have Hq5 : Hid (∀ j, grow Q' wr w5 j → Q j ∨ w.heap.size ≤ j) := hide (fun j hj => by
                rcases hj with hj | hj
                · exact (unhide HT4).2 j hj
                · have h1 := (unhide HT4).1.size
                  have h2 := (unhide HT3).2.size
                  exact .inr (by omega))
              have T5 := hide ((unhide HT3).2.trans ((unhide HT4).1.trans (hto.2.mono (fun _ _ e => .inl e))))
              have HL5 := hide hL5
              clear hL5 hto HSy
              go_wp2_with fail)
            · refine (rdone_no (unhide HL5)).mono ?_
              rintro e w6 ⟨rfl, hL6, t6⟩
              have Hend : Hid (RCk Q w l rb seg nw s recs (.returned (.int .i64 14)) w6) := hide ⟨ns, fun _ => by rw [← unhide Hkr]; exact unhide Hns, by rw [unhide Hck, unhide Hcl], by rw [unhide Hck, unhide Hcl]; exact ⟨_, hL6, unhide Hq5, (unhide T5).trans (t6.mono (fun _ _ e => .inr e))⟩⟩
              clear hL6 t6
              go_wp2
              go_ret
              exact unhide Hend
            · refine (rdone_ok _ _).mono ?_
              rintro e w6 ⟨rfl, rfl⟩
              have Hend : Hid (RCk Q w l rb seg nw s recs (.returned (.int .i64 0)) w5) := hide ⟨ns, fun _ => by rw [← unhide Hkr]; exact unhide Hns, by rw [unhide Hck, unhide Hcl], by rw [unhide Hck, unhide Hcl]; exact ⟨_, unhide HL5, unhide Hq5, unhide T5⟩⟩
              go_wp2
              go_ret
              exact unhide Hend
      · have b0 : decide (kr.1 ≠ 0) = true := by simp [hk0]
        rw [b0]
        obtain ⟨Q2, hL, hq2, t2⟩ := unhide Htl
        have hck : s.ckR nw recs [] = kr := by unfold RSt.ckR; rw [← unhide Hkr]; exact if_neg hk0
        have h14 : kr.1 = 14 := by
          have hkc := s.keepR_cases nw hq0.1 (laidOf 3 4 recs)
          rw [← unhide Hkr] at hkc
          rcases hkc with ⟨_, h⟩ | ⟨_, _, h⟩ | ⟨_, _, h⟩
          · rw [h]
          · rw [h]
          · rw [h] at hk0; exact absurd rfl hk0
        have HDn := hide (rdone_no hL)
        have HT2 := hide (And.intro hq2 t2)
        have Hck := hide (And.intro hck (And.intro h14 hk0))
        clear hL hq2 t2 hck h14 hk0
        go_wp2_with fail
        refine (unhide HDn).mono ?_
        rintro e w6 ⟨rfl, hL6, t6⟩
        have Hend : Hid (RCk Q w l rb seg nw s recs (.returned (.int .i64 14)) w6) := hide ⟨[], fun e => by rw [← unhide Hkr] at e; exact absurd e (unhide Hck).2.2, by rw [(unhide Hck).1, (unhide Hck).2.1], by rw [(unhide Hck).1, (unhide Hck).2.1]; exact ⟨_, hL6, (unhide HT2).1, (unhide HT2).2.trans (t6.mono (fun _ _ e => .inr e))⟩⟩
        clear hL6 t6 HDn
        go_wp2
        go_ret
        exact unhide Hend

end

end Go.Proofs.YtnipdgigjcaolaaGreat
