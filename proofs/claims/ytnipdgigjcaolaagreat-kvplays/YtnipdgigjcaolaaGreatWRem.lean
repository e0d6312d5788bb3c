/- A Log within a law: segments ahead go; Checkpoint. -/
import Derived.Test.YtnipdgigjcaolaaGreatPkH
import Derived.Deep.RegionHeld
import Derived.Deep.RegionWith
import Derived.Deep.DeepMust
import Derived.Deep.CutRange
namespace Go.Proofs.YtnipdgigjcaolaaGreat
open Go.RowKit

namespace WSt

/-- One segment goes. -/
def rm1 (s : WSt) (k : Int) : WSt := if s.down then s else { s with d := (s.d.rem k).2, down := (s.d.rem k).1 != 0 }

def rms (s : WSt) (l : List Int) : WSt := l.foldl rm1 s

/-- The last Sync. -/
def done (s : WSt) : Int × WSt :=
  if s.down then (14, s)
  else if s.d.sync.1 ≠ 0 then (14, s.fell s.d.sync.2)
  else (0, { s with d := s.d.sync.2 })

def clears (s : WSt) (l : List Int) : Int × WSt := (s.rms (l.filter (· < s.at'))).done

theorem rms_snoc (s : WSt) (l : List Int) (k : Int) : s.rms (l ++ [k]) = (s.rms l).rm1 k := by simp [rms]

theorem rm1_at (s : WSt) (k : Int) : (s.rm1 k).at' = s.at' ∧ (s.rm1 k).limit = s.limit ∧ (s.rm1 k).size = s.size := by
  unfold rm1
  split <;> exact ⟨rfl, rfl, rfl⟩

theorem rms_at (s : WSt) (l : List Int) : (s.rms l).at' = s.at' ∧ (s.rms l).limit = s.limit ∧ (s.rms l).size = s.size := by
  induction l generalizing s with
  | nil => exact ⟨rfl, rfl, rfl⟩
  | cons k r ih =>
    have h1 := ih (s.rm1 k)
    have h2 := rm1_at s k
    exact ⟨h1.1.trans h2.1, h1.2.1.trans h2.2.1, h1.2.2.trans h2.2.2⟩

end WSt

section
variable {w0 w : World} {K : Nat → Prop} {l b f t N : Nat} {s : WSt}

/-- What removeAhead comes to. -/
def RTo6 (w0 : World) (K : Nat → Prop) (w : World) (l b f t N M : Nat) (s : WSt) (e : Ending) (w' : World) : Prop := ∃ ns, s.d.Nums ns ∧ LTo w0 K w l b f t (N + M + 1) (s.clears ns) e w'

/-- Within the loop: some are gone. -/
structure Rms (w0 : World) (K : Nat → Prop) (w w1 : World) (l b f t N : Nat) (s : WSt) (v : Value) (ks : List Int) (n : Nat) (wr : World) : Prop where
  li : LI w0 (grow K w w1) wr l b f t (N + n) (s.rms (ks.take n))
  see : SeesC wr v (i64s ks)
  turn : Turn (Outs w0 K) w wr

theorem i64s_get (ks : List Int) (n : Nat) (k : Int) (h : ks[n]? = some k) : (i64s ks)[n]? = some (.int .i64 k) := by simp [i64s, h]

theorem seesI_shape {w : World} {v : Value} {ks : List Int} (h : SeesC w v (i64s ks)) : ∃ ao cap, v = .slice ao ks.length cap := by
  have hil := i64s_length ks
  rcases h.shape with ⟨rfl, hn⟩ | ⟨g, cap, rfl, hnc, hcm⟩
  · exact ⟨none, 0, by rw [hn] at hil; rw [← hil]; rfl⟩
  · exact ⟨_, cap, by rw [hil]⟩

theorem Rms.shape {w1 wr : World} {v : Value} {ks : List Int} {n : Nat} (h : Rms w0 K w w1 l b f t N s v ks n wr) : ∃ ao cap, v = .slice ao ks.length cap := by
  exact seesI_shape h.see

/-- What the loop begins with. -/
def Begun6 (w0 : World) (K : Nat → Prop) (w : World) (l b f t N : Nat) (s : WSt) (v ln i : Value) (wx : World) : Prop := ∃ ns, s.d.Nums ns ∧ Rms w0 K w wx l b f t N s v (ns.filter (· < s.at')) 0 wx ∧ (∀ j, slab v = some j → grow K w wx j) ∧ ln = .int .i64 (ns.filter (· < s.at')).length ∧ i = .int .i64 0

theorem LI.drew1 (h : LI w0 K w l b f t N s) : LI w0 K w.drew l b f t N s := (h.goes (Turn.refl _ w).drew).less (fun _ hj => .inl hj)

set_option maxHeartbeats 4000000 in
set_option maxRecDepth 100000 in
theorem removeAhead_any (M : Nat) (h : LI w0 K w l b f t N s) (hN : N + M ≤ 1073741822) (hM : ∀ ns, s.d.Nums ns → ns.length ≤ M) :
    Calls Tryz.prog 117 #[.pointer (some ⟨l, 0, none⟩)] w (RTo6 w0 K w l b f t N M s) := by
  have c0 : w.cell? ⟨l, 0, none⟩ = some (.pointer (some ⟨b, 0, none⟩)) := h.at'.cell 0
  have c3 : w.cell? ⟨l, 3, none⟩ = some (.int .i64 s.at') := h.at'.cell 3
  have HF := hide (dl_files h.drew1.dl (by omega))
  have HI := hide h
  have HM := hide hM
  have hsz0 := h.dl.turn.size
  clear hM h
  go_enter Tryz.func117, Tryz.ntmps117
  go_upto_region 1 with fail
  go_cut [14, 15, 16] from 5 to 17 (fun v ln i wx => Begun6 w0 K w l b f t N s v ln i wx)
  case first =>
    go_region_held (fun w' => w'.cell? ⟨l, 0, none⟩ = some (.pointer (some ⟨b, 0, none⟩)) ∧ w'.cell? ⟨l, 3, none⟩ = some (.int .i64 s.at')) (go_keep)
      (first
      | (go_at_call 57; refine (unhide HF).mono ?_; rintro e w1 ⟨v1, ns, rfl, hm, hn, hnl, hd1⟩; have k0 : w1.cell? ⟨l, 0, none⟩ = some (.pointer (some ⟨b, 0, none⟩)) := (((unhide HI).drew1.goes hm.2.1).at'.cell 0); have k3 : w1.cell? ⟨l, 3, none⟩ = some (.int .i64 s.at') := (((unhide HI).drew1.goes hm.2.1).at'.cell 3); have Hm := hide hm; have Hn := hide hn; clear hm hn hd1)
      | (go_at_call 60; refine (ahead_any v1 ns s.at' w1 (unhide Hm).1.sees (unhide Hn).1 (by omega)).mono ?_; rintro e w2 ⟨v2, rfl, hs2, hb2, rfl⟩; have hv2 : ∃ ao cap, v2 = .slice ao (ns.filter (· < s.at')).length cap := seesI_shape hs2; obtain ⟨ao2, cap2, rfl⟩ := hv2))
    all_goals (
      go_wp2_with fail
      go_meet
      case rel =>
        have hI1 := (unhide HI).drew1.goes (unhide Hm).2.1
        refine ⟨ns, unhide Hn, ⟨?_, hs2, ?_⟩, ?_, rfl, rfl⟩
        · exact hI1
        · exact (Turn.refl _ w).drew.trans ((unhide Hm).2.1.mono (fun _ _ e => e.elim))
        · intro j hj
          have h3 := hb2 j hj
          rw [(unhide Hm).1.slab_eq] at h3
          exact .inr ⟨(unhide Hm).2.2 j h3, (unhide Hm).1.lt h3⟩)
  case rest =>
    obtain ⟨ns, hn, hR, hsl, rfl, rfl⟩ := hcut
    generalize wc = w1 at *
    obtain ⟨ks, hks⟩ : ∃ ks, ks = ns.filter (· < s.at') := ⟨_, rfl⟩
    have hkl : ks.length ≤ M := by rw [hks]; exact Nat.le_trans (List.length_filter_le _ _) (unhide HM ns hn)
    have Hres : Hid (∀ e w', LTo w0 K w l b f t (N + M + 1) (s.rms ks).done e w' → RTo6 w0 K w l b f t N M s e w') := hide (fun e w' h => ⟨ns, hn, by rw [hks] at h; exact h⟩)
    rw [← hks] at hR ⊢
    clear hn HM HF c0 c3 hks
    obtain ⟨ao, cap, rfl⟩ := hR.shape
    have hll := i64s_length ks
    go_wp2_with fail
    go_loopw [4, 16] (fun _ i wr => ∃ n : Nat, i = .int .i64 n ∧ n ≤ ks.length ∧ Rms w0 K w w1 l b f t N s (.slice ao ks.length cap) ks n wr) (fun _ i _ => ks.length - (intOf i).toNat)
    case atStart => exact ⟨0, rfl, by omega, hR⟩
    case round =>
      clear hR
      obtain ⟨n, rfl, hnl, hr⟩ := hrel
      have d0 : wr.cell? ⟨l, 0, none⟩ = some (.pointer (some ⟨b, 0, none⟩)) := hr.li.at'.cell 0
      have d5 : wr.cell? ⟨l, 5, none⟩ = some (.bool (s.rms (ks.take n)).down) := hr.li.at'.cell 5
      have g5 : wr.frozen? ⟨l, 5, none⟩ = false := hr.li.at'.frozen 5
      by_cases hlt : n < ks.length
      · obtain ⟨k, hk⟩ : ∃ k, ks[n]? = some k := ⟨_, List.getElem?_eq_getElem hlt⟩
        have hnext : s.rms (ks.take (n + 1)) = (s.rms (ks.take n)).rm1 k := by
          obtain ⟨h1, h2⟩ := List.getElem?_eq_some_iff.1 hk
          rw [List.take_succ_eq_append_getElem h1, h2, WSt.rms_snoc]
        have hcl := i64s_get ks n k hk
        obtain ⟨a, rfl⟩ : ∃ a, ao = some a := by
          rcases hr.see.shape with ⟨h0, h1⟩ | ⟨a, cap', h0, _⟩
          · rw [h1] at hcl; simp at hcl
          · injection h0 with e1; exact ⟨a, e1⟩
        have x1 := hr.see.cellAt n _ hcl
        have x4 : (n : Int) < ks.length := by omega
        have Hr := hide hr
        have Hnext := hide hnext
        generalize hs1 : s.rms (ks.take n) = s1 at *
        clear hr hnext hk hcl
        have Hfin : ∀ wr', LI w0 (grow K w w1) wr' l b f t (N + n + 1) (s1.rm1 k) → Turn (Outs w0 (grow K w w1)) wr wr' → Rms w0 K w w1 l b f t N s (.slice (some a) ks.length cap) ks (n + 1) wr' := fun wr' h1 h2 => ⟨by rw [unhide Hnext]; exact h1, (unhide Hr).see.kept h2 (fun j hj e => e.2 (hsl j hj)), (unhide Hr).turn.trans (h2.mono (fun _ _ e => ⟨e.1, fun hk => e.2 (.inl hk)⟩))⟩
        by_cases hd : s1.down = true
        · have hk1 : s1.rm1 k = s1 := by unfold WSt.rm1; rw [if_pos hd]
          obtain ⟨h2, t2⟩ := (hs1 ▸ (unhide Hr).li : LI w0 (grow K w w1) wr l b f t (N + n) s1).set (s' := s1) (j := 5) (u := .bool true) rfl (by rw [hd]; rfl)
          have H3 := hide (Hfin _ (by rw [hk1]; exact h2.mono (by omega)) t2)
          rw [hd] at d5
          clear h2 t2 Hfin
          go_wp2
          exact ⟨⟨n + 1, by go_num, by omega, unhide H3⟩, by simp [intOf]; omega⟩
        · rw [Bool.not_eq_true] at hd
          rw [hd] at d5
          have hli : LI w0 (grow K w w1) wr l b f t (N + n) s1 := hs1 ▸ (unhide Hr).li
          have hk1 : s1.rm1 k = { s1 with d := (s1.d.rem k).2, down := (s1.d.rem k).1 != 0 } := by unfold WSt.rm1; rw [hd]; rfl
          rw [hk1] at Hfin
          have HRm := hide (dl_remove k hli.dl (by omega))
          have Hli := hide hli
          clear hli
          go_wp2_with fail
          refine (unhide HRm).mono ?_
          rintro e w3 ⟨rfl, hd3, t3⟩
          have h3 := (unhide Hli).disk hd3 t3
          obtain ⟨h4, t4⟩ := h3.set (s' := { s1 with d := (s1.d.rem k).2, down := (s1.d.rem k).1 != 0 }) (j := 5) (u := .bool ((s1.d.rem k).1 != 0)) rfl rfl
          have H4 := hide (Hfin _ h4 ((own_less t3).trans t4))
          have d5' : w3.cell? ⟨l, 5, none⟩ = some (.bool s1.down) := h3.at'.cell 5
          have g5' : w3.frozen? ⟨l, 5, none⟩ = false := h3.at'.frozen 5
          clear h3 h4 t3 t4 hd3 Hfin HRm d0 d5 g5 x1
          go_wp2
          exact ⟨⟨n + 1, by go_num, by omega, unhide H4⟩, by simp [intOf]; omega⟩
      · obtain rfl : n = ks.length := by omega
        have x4 : ¬ (ks.length : Int) < ks.length := by omega
        have hli := hr.li
        have htr := hr.turn
        rw [List.take_length] at hli d5
        have Hli := hide hli
        have Htr := hide htr
        generalize s.rms ks = s1 at *
        clear hr hli htr hsl
        have Hfin : Hid (∀ e w' (r : Int × WSt), s1.done = r → e = .returned (.int .i64 r.1) → LI w0 (grow K w w1) w' l b f t (N + M + 1) r.2 → Turn (Outs w0 (grow K w w1)) wr w' → RTo6 w0 K w l b f t N M s e w') := hide (fun e w' r h0 h1 h2 h3 => unhide Hres e w' (by rw [h0]; exact ⟨h1, h2.less (fun _ hj => .inl hj), (unhide Htr).trans (h3.mono (fun _ _ e => ⟨e.1, fun hk => e.2 (.inl hk)⟩))⟩))
        by_cases hd : s1.down = true
        · have hk1 : s1.done = (14, s1) := by unfold WSt.done; rw [if_pos hd]
          obtain ⟨h2, t2⟩ := (unhide Hli).set (s' := s1) (j := 5) (u := .bool true) rfl (by rw [hd]; rfl)
          have H3 := hide (unhide Hfin (.returned (.int .i64 14)) _ _ hk1 rfl (h2.mono (by omega)) t2)
          rw [hd] at d5
          clear h2 t2
          go_wp2
          go_ret
          exact unhide H3
        · rw [Bool.not_eq_true] at hd
          rw [hd] at d5
          have HRm := hide (dl_sync (unhide Hli).dl (by omega))
          go_wp2_with fail
          refine (unhide HRm).mono ?_
          rintro e w3 ⟨rfl, hd3, t3⟩
          have h3 := (unhide Hli).disk hd3 t3
          by_cases hy : s1.d.sync.1 = 0
          · have hk1 : s1.done = (0, { s1 with d := s1.d.sync.2 }) := by unfold WSt.done; rw [if_neg (by simp [hd]), if_neg (by simp [hy])]
            obtain ⟨h4, t4⟩ := h3.set (s' := { s1 with d := s1.d.sync.2 }) (j := 5) (u := .bool false) rfl (by simp [hd]; rfl)
            have H3 := hide (unhide Hfin (.returned (.int .i64 0)) _ _ hk1 rfl (h4.mono (by omega)) ((own_less t3).trans t4))
            have d5' : w3.cell? ⟨l, 5, none⟩ = some (.bool s1.down) := h3.at'.cell 5
            have g5' : w3.frozen? ⟨l, 5, none⟩ = false := h3.at'.frozen 5
            clear h3 h4 t3 t4 hd3 HRm d0 d5 g5 hk1
            rw [hy]
            go_wp2
            go_ret
            exact unhide H3
          · have hk1 : s1.done = (14, s1.fell s1.d.sync.2) := by unfold WSt.done; rw [if_neg (by simp [hd]), if_pos (by simpa using hy)]
            obtain ⟨h4, t4⟩ := h3.set (s' := s1.fell s1.d.sync.2) (j := 5) (u := .bool true) rfl rfl
            have H3 := hide (unhide Hfin (.returned (.int .i64 14)) _ _ hk1 rfl (h4.mono (by omega)) ((own_less t3).trans t4))
            have d5' : w3.cell? ⟨l, 5, none⟩ = some (.bool s1.down) := h3.at'.cell 5
            have g5' : w3.frozen? ⟨l, 5, none⟩ = false := h3.at'.frozen 5
            have hy' : (s1.d.sync.1 != 0) = true := by simpa using hy
            clear h3 h4 t3 t4 hd3 HRm d0 d5 g5 hk1 hy
            generalize s1.d.sync.1 = y at *
            go_wp2
            go_ret
            exact unhide H3

/-- Where a checkpoint is laid. -/
def WSt.place (s : WSt) : Int := if 0 < s.size then s.at' + 1 else s.at'

def WSt.kept (s : WSt) (l : List (List UInt8)) : Int × WSt := s.keep s.place 0 (laidOf 3 4 l)

def WSt.checkpoint (s : WSt) (l : List (List UInt8)) (ns : List Int) : Int × WSt := if (s.kept l).1 = 0 then (s.kept l).2.clears ns else s.kept l

def CTo6 (w0 : World) (K : Nat → Prop) (w : World) (l b f t N M : Nat) (s : WSt) (x : List (List UInt8)) (e : Ending) (w' : World) : Prop := ∃ ns, ((s.kept x).1 = 0 → (s.kept x).2.d.Nums ns) ∧ LTo w0 K w l b f t (N + M + 3) (s.checkpoint x ns) e w'

theorem LTo.trans {r r2 : Int × WSt} {N1 N2 : Nat} {e e2 : Ending} {w1 w2 : World} (h : LTo w0 K w l b f t N1 r e w1) (h2 : LTo w0 K w1 l b f t N2 r2 e2 w2) : LTo w0 K w l b f t N2 r2 e2 w2 := ⟨h2.1, h2.2.1, h.2.2.trans h2.2.2⟩

set_option maxHeartbeats 2000000 in
set_option maxRecDepth 100000 in
theorem checkpoint_any {Q : Nat → Prop} {v : Value} {rl : List (Value × List UInt8)} (M : Nat) (h : LI w0 K w l b f t N s) (hok : s.Ok) (hr : RL Q w v rl) (hQ : ∀ j, Q j → j < w0.heap.size ∨ K j) (hno : ¬ tooLong rl) (hN : N + M ≤ 1073741820) (hM : ∀ ns, (s.kept (rl.map (·.2))).2.d.Nums ns → ns.length ≤ M) (hsz : (s.d.now s.place).length + (laidOf 3 4 (rl.map (·.2))).length ≤ 140737488355328) :
    Calls Tryz.prog 75 #[.pointer (some ⟨l, 0, none⟩), v] w (CTo6 w0 K w l b f t N M s (rl.map (·.2))) := by
  have HT := hide (tooLong_no hr hno)
  have hnew := h.new
  have hQt : ¬ Q t := fun e => (hQ t e).elim (fun h1 => by omega) h.nt
  have HL := hide (layAll_any 3 4 (by omega) (by omega) (by omega) (by omega) h.at' h.fr h.lt hr hQt hno (by omega))
  obtain ⟨vo, vc, rfl⟩ := hr.shape
  have hlen := hr.len
  unfold maxLen at hlen
  have c3 : w.cell? ⟨l, 3, none⟩ = some (.int .i64 s.at') := h.at'.cell 3
  have c4 : w.cell? ⟨l, 4, none⟩ = some (.int .i64 s.size) := h.at'.cell 4
  have HI := hide h
  have hz1 := hok.at1
  have hz0 := hok.at0
  generalize hxs : rl.map (·.2) = xs at *
  have HK : Hid (∀ v1 w1, Laid w f t (laidOf 3 4 xs) v1 w1 → Calls Tryz.prog 101 #[.pointer (some ⟨l, 0, none⟩), .int .i64 s.place, .int .i64 0, v1] w1 (LTo w0 K w l b f t (N + 2) (s.kept xs))) := hide (fun v1 w1 hl => keep_laid _ _ h hl (by omega) hsz (by omega) (by omega))
  have HR : Hid (∀ e w2, (s.kept xs).1 = 0 → LTo w0 K w l b f t (N + 2) (s.kept xs) e w2 → Calls Tryz.prog 117 #[.pointer (some ⟨l, 0, none⟩)] w2 (CTo6 w0 K w l b f t N M s xs)) := hide (fun e w2 h0 h2 => (removeAhead_any M h2.2.1 (by omega) hM).mono (fun e' w3 ⟨ns, hn, h3⟩ => ⟨ns, fun _ => hn, by
    unfold WSt.checkpoint
    rw [if_pos h0]
    have h4 := h2.trans h3
    exact ⟨h4.1, h4.2.1.mono (by omega), h4.2.2⟩⟩))
  have HE : Hid (∀ e w2, (s.kept xs).1 ≠ 0 → LTo w0 K w l b f t (N + 2) (s.kept xs) e w2 → CTo6 w0 K w l b f t N M s xs e w2) := hide (fun e w2 h0 h2 => ⟨[], fun h1 => absurd h1 h0, by
    unfold WSt.checkpoint
    rw [if_neg h0]
    exact ⟨h2.1, h2.2.1.mono (by omega), h2.2.2⟩⟩)
  generalize rl.length = n at *
  clear h hr hok hsz hM hQ hQt hno hxs
  by_cases hs : 0 < s.size
  · have hp : s.place = s.at' + 1 := if_pos hs
    rw [hp] at HK
    have q1 : s.at' + 1 ≤ 9223372036854775807 := by omega
    by_cases h0 : (s.kept xs).1 = 0
    · go_enter Tryz.func75, Tryz.ntmps75
      go_wp2_with fail
      refine (unhide HT).mono ?_
      rintro e w1 ⟨rfl, rfl⟩
      go_wp2_with fail
      refine (unhide HL).mono ?_
      rintro e w1 ⟨v1, rfl, hl1⟩
      go_wp2_with fail
      refine (unhide HK v1 w1 hl1).mono ?_
      rintro e w2 ⟨rfl, h2⟩
      have HR2 := hide (unhide HR _ w2 h0 ⟨rfl, h2⟩)
      clear h2 HR HE hl1 HL HT HK
      rw [h0]
      go_wp2_with fail
      refine (unhide HR2).mono ?_
      rintro e w3 h3
      obtain ⟨ns, hn, rfl, h3⟩ := h3
      have H3 := hide h3
      clear h3
      go_wp2
      go_ret
      exact ⟨ns, hn, rfl, unhide H3⟩
    · have q2 : ((s.kept xs).1 != 0) = true := by simpa using h0
      go_enter Tryz.func75, Tryz.ntmps75
      go_wp2_with fail
      refine (unhide HT).mono ?_
      rintro e w1 ⟨rfl, rfl⟩
      go_wp2_with fail
      refine (unhide HL).mono ?_
      rintro e w1 ⟨v1, rfl, hl1⟩
      go_wp2_with fail
      refine (unhide HK v1 w1 hl1).mono ?_
      rintro e w2 ⟨rfl, h2⟩
      have HE2 := hide (unhide HE _ w2 h0 ⟨rfl, h2⟩)
      clear h2 HR HE hl1 HL HT HK h0
      generalize (s.kept xs).1 = y at *
      go_wp2
      go_ret
      exact unhide HE2
  · have hp : s.place = s.at' := if_neg hs
    rw [hp] at HK
    have q1 : decide (0 < s.size) = false := by simpa using hs
    by_cases h0 : (s.kept xs).1 = 0
    · go_enter Tryz.func75, Tryz.ntmps75
      go_wp2_with fail
      refine (unhide HT).mono ?_
      rintro e w1 ⟨rfl, rfl⟩
      go_wp2_with fail
      refine (unhide HL).mono ?_
      rintro e w1 ⟨v1, rfl, hl1⟩
      go_wp2_with fail
      refine (unhide HK v1 w1 hl1).mono ?_
      rintro e w2 ⟨rfl, h2⟩
      have HR2 := hide (unhide HR _ w2 h0 ⟨rfl, h2⟩)
      clear h2 HR HE hl1 HL HT HK
      rw [h0]
      go_wp2_with fail
      refine (unhide HR2).mono ?_
      rintro e w3 h3
      obtain ⟨ns, hn, rfl, h3⟩ := h3
      have H3 := hide h3
      clear h3
      go_wp2
      go_ret
      exact ⟨ns, hn, rfl, unhide H3⟩
    · have q2 : ((s.kept xs).1 != 0) = true := by simpa using h0
      go_enter Tryz.func75, Tryz.ntmps75
      go_wp2_with fail
      refine (unhide HT).mono ?_
      rintro e w1 ⟨rfl, rfl⟩
      go_wp2_with fail
      refine (unhide HL).mono ?_
      rintro e w1 ⟨v1, rfl, hl1⟩
      go_wp2_with fail
      refine (unhide HK v1 w1 hl1).mono ?_
      rintro e w2 ⟨rfl, h2⟩
      have HE2 := hide (unhide HE _ w2 h0 ⟨rfl, h2⟩)
      clear h2 HR HE hl1 HL HT HK h0
      generalize (s.kept xs).1 = y at *
      go_wp2
      go_ret
      exact unhide HE2

end

end Go.Proofs.YtnipdgigjcaolaaGreat
