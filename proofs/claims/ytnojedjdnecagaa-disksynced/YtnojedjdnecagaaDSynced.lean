/- The law DiskSynced. -/
import Derived.Test.YtnojedjdnecagaaDKnown
import Derived.Deep.RegionWith
import Derived.Deep.DeepMust
import Derived.Deep.CutRange
import Derived.BigQuiet
import Derived.Deep.QuietTactic
namespace Go.Proofs.Ytnojedjdnecagaa
open Go.RowKit

/-- Two files that are safe, and nothing else. -/
structure Sy (a b : List UInt8) (s : DSt) : Prop where
  ops : s.ops = []
  fused : s.fused = false
  dead : s.dead = false
  one : s.base 0 = a
  two : s.base 1 = b
  three : s.base 2 = []

theorem Sy.now {a b : List UInt8} {s : DSt} (h : Sy a b s) : s.now = s.base := by unfold DSt.now; rw [h.ops]; rfl

theorem Sy.read {a b : List UInt8} {s : DSt} (h : Sy a b s) (k : Int) : s.read k = s.base k := by unfold DSt.read; rw [h.dead, h.now]; rfl

theorem Sy.down {a b : List UInt8} {s : DSt} (h : Sy a b s) : s.down = false := by unfold DSt.down; rw [h.dead, h.fused]; rfl

theorem add_down {s : DSt} (h : s.down = false) (f : Int) (hf : 0 ≤ f) (bs : List UInt8) : s.add f bs = (0, s.lays f bs) := by
  unfold DSt.add
  rw [if_neg (by omega), h, if_neg (by simp)]

theorem rem_down {s : DSt} (h : s.down = false) (f : Int) (hf : 0 ≤ f) : s.rem f = (0, s.rems f) := by
  unfold DSt.rem
  rw [if_neg (by omega), h, if_neg (by simp)]

theorem sync_down {s : DSt} (h : s.down = false) : s.sync = (0, s.safe) := by
  unfold DSt.sync
  rw [h, if_neg (by simp)]

theorem lays_now (s : DSt) (f : Int) (bs : List UInt8) : (s.lays f bs).now = fput s.now f (s.now f ++ bs) := by
  unfold DSt.lays
  split
  · subst_vars
    show s.now = _
    rw [List.append_nil, fput_same]
  · rw [acts_push]
    rfl

theorem rems_now (s : DSt) (f : Int) : (s.rems f).now = fput s.now f [] := by
  unfold DSt.rems
  split
  · rename_i h
    show s.now = _
    rw [← h, fput_same]
  · rw [acts_push]
    rfl

theorem lays_dead (s : DSt) (f : Int) (bs : List UInt8) : (s.lays f bs).dead = s.dead ∧ (s.lays f bs).fused = s.fused := by
  unfold DSt.lays
  split <;> exact ⟨rfl, rfl⟩

theorem rems_dead (s : DSt) (f : Int) : (s.rems f).dead = s.dead ∧ (s.rems f).fused = s.fused := by
  unfold DSt.rems
  split <;> exact ⟨rfl, rfl⟩

theorem lays_down {s : DSt} (hd : s.dead = false) (hf : s.fused = false) (f : Int) (bs : List UInt8) : (s.lays f bs).down = false := by
  unfold DSt.down
  rw [(lays_dead s f bs).1, (lays_dead s f bs).2, hd, hf]
  rfl

theorem Sy.start (a b : List UInt8) : (DSt.zero.add 0 a).1 = 0 ∧ ((DSt.zero.add 0 a).2.add 1 b).1 = 0 ∧ ((DSt.zero.add 0 a).2.add 1 b).2.sync.1 = 0 ∧ Sy a b ((DSt.zero.add 0 a).2.add 1 b).2.sync.2 ∧ (DSt.zero.add 0 a).2.now 1 = [] := by
  have d0 : DSt.zero.down = false := rfl
  have d1 := lays_down (s := DSt.zero) rfl rfl 0 a
  have d2 := lays_down (s := DSt.zero.lays 0 a) (by rw [(lays_dead _ _ _).1]; rfl) (by rw [(lays_dead _ _ _).2]; rfl) 1 b
  rw [add_down d0 0 (by omega) a]
  show _ ∧ ((DSt.zero.lays 0 a).add 1 b).1 = 0 ∧ ((DSt.zero.lays 0 a).add 1 b).2.sync.1 = 0 ∧ Sy a b ((DSt.zero.lays 0 a).add 1 b).2.sync.2 ∧ (DSt.zero.lays 0 a).now 1 = []
  rw [add_down d1 1 (by omega) b]
  show _ ∧ _ ∧ ((DSt.zero.lays 0 a).lays 1 b).sync.1 = 0 ∧ Sy a b ((DSt.zero.lays 0 a).lays 1 b).sync.2 ∧ _
  rw [sync_down d2]
  have hn : (DSt.zero.lays 0 a).now = fput (fun _ => []) 0 a := by
    rw [lays_now]
    rfl
  have hb : ((DSt.zero.lays 0 a).lays 1 b).now = fput (fput (fun _ => []) 0 a) 1 b := by
    rw [lays_now, hn]
    rfl
  refine ⟨rfl, rfl, rfl, ⟨rfl, ?_, ?_, ?_, ?_, ?_⟩, ?_⟩
  · show ((DSt.zero.lays 0 a).lays 1 b).fused = _
    rw [(lays_dead _ _ _).2, (lays_dead _ _ _).2]; rfl
  · show ((DSt.zero.lays 0 a).lays 1 b).dead = _
    rw [(lays_dead _ _ _).1, (lays_dead _ _ _).1]; rfl
  · show ((DSt.zero.lays 0 a).lays 1 b).now 0 = _
    rw [hb]; rfl
  · show ((DSt.zero.lays 0 a).lays 1 b).now 1 = _
    rw [hb]; rfl
  · show ((DSt.zero.lays 0 a).lays 1 b).now 2 = _
    rw [hb]; rfl
  · rw [hn]; rfl

/-- A Crash that leaves nothing of what pends. -/
theorem crash_none (s : DSt) (o : DOp) (h : s.ops = [o]) : (s.crash 0 0).base = s.base := by
  unfold DSt.crash
  show crashed s.base s.ops _ 0 = _
  rw [h, Int.zero_emod]
  cases o with
  | lay k bs =>
    unfold crashed
    simp [acts, partOf, fput_same]
  | rem k => rfl

theorem crash_nil (s : DSt) (h : s.ops = []) : (s.crash 0 0).base = s.base := by
  unfold DSt.crash
  show crashed s.base s.ops _ 0 = _
  rw [h]
  rfl

theorem Sy.laid {a b : List UInt8} {s : DSt} (h : Sy a b s) (x : UInt8) : Sy a b ((s.add 2 [x]).2.crash 0 0) ∧ ∀ k bs, DOp.lay k bs ∈ (s.add 2 [x]).2.ops → bs.length ≤ 140737488355328 := by
  rw [add_down h.down 2 (by omega)]
  show Sy a b ((s.lays 2 [x]).crash 0 0) ∧ ∀ k bs, DOp.lay k bs ∈ (s.lays 2 [x]).ops → _
  have e : s.lays 2 [x] = s.worked.push (.lay 2 [x]) := if_neg (by simp)
  have ho : (s.worked.push (.lay 2 [x])).ops = [.lay 2 [x]] := by show s.ops ++ _ = _; rw [h.ops]; rfl
  rw [e]
  have hb := crash_none _ _ ho
  refine ⟨⟨rfl, rfl, rfl, by rw [hb]; exact h.one, by rw [hb]; exact h.two, by rw [hb]; exact h.three⟩, fun k bs hk => ?_⟩
  rw [ho] at hk
  simp at hk
  rw [hk.2]
  simp

theorem Sy.gone {a b : List UInt8} {s : DSt} (h : Sy a b s) : Sy a b ((s.rem 0).2.crash 0 0) ∧ ∀ k bs, DOp.lay k bs ∈ (s.rem 0).2.ops → bs.length ≤ 140737488355328 := by
  rw [rem_down h.down 0 (by omega)]
  show Sy a b ((s.rems 0).crash 0 0) ∧ ∀ k bs, DOp.lay k bs ∈ (s.rems 0).ops → _
  by_cases e0 : s.now 0 = []
  · have e : s.rems 0 = s.worked := if_pos e0
    have ho : s.worked.ops = [] := h.ops
    rw [e]
    have hb := crash_nil _ ho
    refine ⟨⟨rfl, rfl, rfl, by rw [hb]; exact h.one, by rw [hb]; exact h.two, by rw [hb]; exact h.three⟩, fun k bs hk => ?_⟩
    rw [ho] at hk
    simp at hk
  · have e : s.rems 0 = s.worked.push (.rem 0) := if_neg e0
    have ho : (s.worked.push (.rem 0)).ops = [.rem 0] := by show s.ops ++ _ = _; rw [h.ops]; rfl
    rw [e]
    have hb := crash_none _ _ ho
    refine ⟨⟨rfl, rfl, rfl, by rw [hb]; exact h.one, by rw [hb]; exact h.two, by rw [hb]; exact h.three⟩, fun k bs hk => ?_⟩
    rw [ho] at hk
    simp at hk

set_option maxHeartbeats 8000000 in
set_option maxRecDepth 100000 in
theorem diskSynced_any (av bv cv : Value) (a b' : List UInt8) (l : List Int) (w : World) (ha : Sees w av a) (has : 0 < a.length → ∀ k, slab av = some k → k < w.heap.size) (hb : Sees w bv b') (hbs : 0 < b'.length → ∀ k, slab bv = some k → k < w.heap.size) (hl : IntsAt w w.heap.size cv l) (hal : a.length ≤ 140737488355328) (hbl : b'.length ≤ 140737488355328) :
    Calls Try.prog 6 #[av, bv, cv] w fun e w' => e = .returned (.bool true) ∧ Turn (fun _ => False) w w' := by
  have qA : ∀ w', Turn (fun _ => False) w w' → (convert 27 9 av).run Try.prog w' = .ok (.string ⟨a.toArray⟩) w' := fun w' t => run_text_of_sees w' _ _ Try.underlying27 Try.underlying5 Try.underlying9 (ha.kept t (fun _ _ h => h))
  have qB : ∀ w', Turn (fun _ => False) w w' → (convert 27 9 bv).run Try.prog w' = .ok (.string ⟨b'.toArray⟩) w' := fun w' t => run_text_of_sees w' _ _ Try.underlying27 Try.underlying5 Try.underlying9 (hb.kept t (fun _ _ h => h))
  have qT : ∀ (w : World) {v : Value} {bs : List UInt8}, Sees w v bs → (convert 27 9 v).run Try.prog w = .ok (.string ⟨bs.toArray⟩) w := fun w _ _ h => run_text_of_sees w _ _ Try.underlying27 Try.underlying5 Try.underlying9 h
  obtain ⟨ao, ac, hav⟩ := ha.shape
  obtain ⟨bo, bc, hbv⟩ := hb.shape
  obtain ⟨lo, lc, hlv, hlm⟩ := hl.shape
  unfold maxLen at hlm
  subst hav hbv hlv
  have HA := hide (And.intro ha has)
  have HB := hide (And.intro hb hbs)
  have Hl := hide hl
  have QA := hide qA
  have QB := hide qB
  have QT := hide qT
  obtain ⟨e1, e2, e3, hsy, hn1⟩ := Sy.start a b'
  have E1 := hide (And.intro e1 (And.intro e2 (And.intro e3 (And.intro hsy hn1))))
  clear hl ha has hb hbs qA qB qT e1 e2 e3 hsy hn1
  go_enter Try.func6, Try.ntmps6
  go_wp2_with fail
  refine (dl_new (w0 := w) (K := fun _ => False) (fun _ h => h.elim) (Turn.refl _ w)).mono ?_
  rintro e w1 ⟨rfl, h1, _⟩
  obtain ⟨b, hb⟩ : ∃ b, b = w.heap.size := ⟨_, rfl⟩
  rw [← hb] at h1 ⊢
  clear hb
  go_wp2_with fail
  refine (known_any w1).mono ?_
  rintro e w2 ⟨rfl, t2⟩
  have h2 := h1.new t2
  clear h1 t2
  generalize grow (fun _ => False) w1 w2 = K at h2
  go_wp2_with fail
  refine (dl_append 0 _ a h2 ((unhide HA).1.kept h2.turn (fun _ _ h => h)) (fun h k hk => .inl ((unhide HA).2 h k hk)) (by omega) (by show 0 + a.length ≤ _; omega)).mono ?_
  rintro e w3 ⟨rfl, h3, _⟩
  rw [(unhide E1).1]
  go_wp2_with fail
  refine (dl_append 1 _ b' h3 ((unhide HB).1.kept h3.turn (fun _ _ h => h)) (fun h k hk => .inl ((unhide HB).2 h k hk)) (by omega) (by rw [(unhide E1).2.2.2.2]; show 0 + b'.length ≤ _; omega)).mono ?_
  rintro e w4 ⟨rfl, h4, _⟩
  rw [(unhide E1).2.1]
  go_wp2_with fail
  refine (dl_sync h4 (by omega)).mono ?_
  rintro e w5 ⟨rfl, h5, _⟩
  rw [(unhide E1).2.2.1]
  have hsy := (unhide E1).2.2.2.1
  generalize ((DSt.zero.add 0 a).2.add 1 b').2.sync.2 = s0 at h5 hsy
  have H5 := hide h5
  have Hsy := hide hsy
  clear h2 h3 h4 h5 E1 hsy
  go_wp2_with fail
  go_loopw [8] (fun i wr => ∃ (k : Nat) (K : Nat → Prop) (s : DSt), k ≤ 10 ∧ k ≤ l.length ∧ i = .int .i64 k ∧ DL w K wr b (3 + 2 * k) s ∧ Sy a b' s) (fun i _ => (20 - intOf i).toNat)
  case atStart => exact ⟨0, K, _, by omega, by omega, rfl, unhide H5, unhide Hsy⟩
  case round =>
    clear H5 Hsy
    obtain ⟨i, K, s, hi, hil, rfl, hd, hz⟩ := hrel
    by_cases hlt : i < l.length ∧ i < 10
    · obtain ⟨la, rfl, hcell⟩ : ∃ a, lo = some a ∧ wr.cell? (a.add i) = some (.int .i64 l[i]) := by
        obtain ⟨a, h1, h2, _⟩ := ((unhide Hl).kept hd.turn (Nat.le_refl _) (fun _ _ h => h)).at i hlt.1
        exact ⟨a, h1, h2⟩
      have q1 : (i : Int) < l.length := by omega
      have q2 : (i : Int) < 10 := by omega
      have hsee := Sees.one wr (i : Int) 5 (by omega) (by omega)
      have t4 : Turn (fun _ => False) wr (wr.alloc (.cells #[.int .u8 (i : Int)] 5)) := (Turn.refl _ _).alloc _
      have h4 := hd.new t4
      have m4 : grow K wr (wr.alloc (.cells #[.int .u8 (i : Int)] 5)) wr.heap.size := .inr ⟨Nat.le_refl _, by simp⟩
      obtain ⟨z1, hbig⟩ := hz.laid (UInt8.ofNat (i : Int).toNat)
      have hcall := dl_append 2 _ [UInt8.ofNat (i : Int).toNat] h4 hsee (fun _ k hk => .inr (by simp [slab] at hk; exact hk ▸ m4)) (by omega) (by rw [hz.now, hz.three]; simp)
      have Hcall := hide hcall
      have Hz := hide (And.intro z1 hbig)
      generalize grow K wr (wr.alloc (.cells #[.int .u8 (i : Int)] 5)) = K4 at *
      clear hsee t4 h4 m4 z1 hbig hcall hcell
      go_wp2_with fail
      refine (unhide Hcall).mono ?_
      rintro e w5 ⟨rfl, h5, _⟩
      have H5 := hide h5
      clear h5 Hcall
      go_wp2_with fail
      refine (dl_crash 0 0 (unhide H5) (by omega) (unhide Hz).2).mono ?_
      rintro e w6 ⟨rfl, h6, _⟩
      have hz6 := (unhide Hz).1
      generalize (s.add 2 [UInt8.ofNat (i : Int).toNat]).2.crash 0 0 = s6 at h6 hz6
      clear H5 Hz hd hz
      have h6d := h6.new ((Turn.refl _ w6).drew)
      generalize grow K4 w6 w6.drew = K6 at h6d
      have r0 := hz6.read 0
      have r1 := hz6.read 1
      have r2 := hz6.read 2
      rw [hz6.one] at r0
      rw [hz6.two] at r1
      rw [hz6.three] at r2
      have n0 : s6.now 0 = a := by rw [hz6.now]; exact hz6.one
      have n1 : s6.now 1 = b' := by rw [hz6.now]; exact hz6.two
      have n2 : s6.now 2 = [] := by rw [hz6.now]; exact hz6.three
      have R := hide (And.intro r0 (And.intro r1 (And.intro r2 (And.intro n0 (And.intro n1 n2)))))
      have ca := unhide QA w6.drew h6d.turn
      have H6 := hide h6
      have H6d := hide h6d
      have Hz6 := hide hz6
      clear r0 r1 r2 n0 n1 n2 h6 h6d hz6
      go_upto_region 9 with fail
      go_cut [69] from 50 to 69 (fun x wx => x = .bool false ∧ ∃ K', DL w K' wx b (3 + 2 * i + 1) s6)
      case first =>
        go_region_with (first
          | (go_at_call 18; refine (dl_read 2 h9 (by omega) (by rw [(unhide R).2.2.2.2.2]; simp)).mono ?_; rintro e w10 ⟨v10, rfl, m10, h10⟩; rw [(unhide R).2.2.1] at m10; obtain ⟨o10, c10, rfl⟩ := m10.1.shape)
          | (go_at_call 18; refine (dl_read 1 h8 (by omega) (by rw [(unhide R).2.2.2.2.1]; omega)).mono ?_; rintro e w9 ⟨v9, rfl, m9, h9⟩; rw [(unhide R).2.1] at m9; have cv9 := unhide QT _ m9.1.sees; obtain ⟨o9, c9, rfl⟩ := m9.1.shape; have cb9 := unhide QB w9 h9.turn)
          | (go_at_call 18; refine (dl_read 0 (unhide H6d) (by omega) (by rw [(unhide R).2.2.2.1]; omega)).mono ?_; rintro e w8 ⟨v8, rfl, m8, h8⟩; rw [(unhide R).1] at m8; have cv8 := unhide QT _ m8.1.sees; obtain ⟨o8, c8, rfl⟩ := m8.1.shape; have ca8 := unhide QA w8 h8.turn; have cb8 := unhide QB w8 h8.turn))
        all_goals (
          go_wp2_with fail
          go_meet
          case rel => exact ⟨rfl, _, h10⟩)
      case rest =>
        obtain ⟨rfl, K', h7⟩ := hcut
        generalize wc = w7 at *
        obtain ⟨z7, hbig7⟩ := (unhide Hz6).gone
        have hcall := dl_remove 0 h7 (by omega)
        have c7 : w7.cell? (la.add i) = some (.int .i64 l[i]) := by
          obtain ⟨a', h1, h2, _⟩ := ((unhide Hl).kept h7.turn (Nat.le_refl _) (fun _ _ h => h)).at i hlt.1
          injection h1 with h1
          rw [h1]
          exact h2
        have Hcall := hide hcall
        have Hz7 := hide (And.intro z7 hbig7)
        clear h7 hcall z7 hbig7 H6 H6d R ca c7
        go_wp2_with fail
        refine (unhide Hcall).mono ?_
        rintro e w9 ⟨rfl, h9, _⟩
        have c9 : w9.cell? (la.add i) = some (.int .i64 l[i]) := by
          obtain ⟨a', h1, h2, _⟩ := ((unhide Hl).kept h9.turn (Nat.le_refl _) (fun _ _ h => h)).at i hlt.1
          injection h1 with h1
          rw [h1]
          exact h2
        have H9 := hide h9
        clear h9 Hcall
        go_wp2_with fail
        refine (pick_any l[i] 1 _ (by omega) (by omega)).mono ?_
        rintro e w0 ⟨rfl, rfl⟩
        rw [Int.emod_one]
        go_wp2_with fail
        refine (dl_crash 0 0 (unhide H9) (by omega) (unhide Hz7).2).mono ?_
        rintro e w10 ⟨rfl, h10, _⟩
        have hz10 := (unhide Hz7).1
        generalize (s6.rem 0).2.crash 0 0 = s10 at h10 hz10
        have h10d := h10.new ((Turn.refl _ w10).drew)
        generalize grow K' w10 w10.drew = K10 at h10d
        have r0 := hz10.read 0
        rw [hz10.one] at r0
        have n0 : s10.now 0 = a := by rw [hz10.now]; exact hz10.one
        have R := hide (And.intro r0 n0)
        have ca := unhide QA w10.drew h10d.turn
        have H10d := hide h10d
        have Hz10 := hide hz10
        clear r0 n0 h10 h10d hz10 Hz7 H9 c9 Hz6
        go_wp2_with fail
        go_region_with (go_at_call 18; refine (dl_read 0 (unhide H10d) (by omega) (by rw [(unhide R).2]; omega)).mono ?_; rintro e w8 ⟨v8, rfl, m8, h8⟩; rw [(unhide R).1] at m8; have cv8 := unhide QT _ m8.1.sees; obtain ⟨o8, c8, rfl⟩ := m8.1.shape; have ca8 := unhide QA w8 h8.turn)
        all_goals (
          have H8 := hide h8
          clear h8
          go_wp2
          exact ⟨⟨i + 1, _, s10, by omega, by omega, by go_num, unhide H8, unhide Hz10⟩, by simp [intOf]; omega⟩)
    · by_cases hil2 : i < l.length
      · obtain rfl : i = 10 := by omega
        have q1 : ((10 : Nat) : Int) < l.length := by omega
        have Hd := hide hd
        clear hd
        go_wp2
        go_ret
        exact ⟨rfl, (unhide Hd).turn⟩
      · obtain rfl : i = l.length := by omega
        have Hd := hide hd
        clear hd
        go_wp2
        go_ret
        exact ⟨rfl, (unhide Hd).turn⟩

end Go.Proofs.Ytnojedjdnecagaa
