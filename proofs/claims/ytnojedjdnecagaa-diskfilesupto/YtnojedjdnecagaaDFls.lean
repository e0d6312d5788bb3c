/- The law DiskFiles. -/
import Derived.Test.YtnojedjdnecagaaDMore
import Derived.Test.YtnojedjdnecagaaStp5
import Derived.RegionTactic
import Derived.Deep.RegionWith
import Derived.Deep.DeepMust
import Derived.Deep.CutRange
import Derived.BigQuiet
import Derived.Deep.QuietTactic
namespace Go.Proofs.Ytnojedjdnecagaa
open Go.RowKit

/-- A text of bytes. -/
def str (bs : List UInt8) : Value := .string ⟨bs.toArray⟩

/-- Five texts. -/
def wcells (f : Fs) : Array Value := #[str (f 0), str (f 1), str (f 2), str (f 3), str (f 4)]

theorem five (k : Nat) (h : k < 5) : k = 0 ∨ k = 1 ∨ k = 2 ∨ k = 3 ∨ k = 4 := by omega

theorem wcells_at (f : Fs) (k : Nat) (h : k < 5) : (wcells f)[k]? = some (str (f k)) := by
  rcases five k h with rfl | rfl | rfl | rfl | rfl <;> rfl

theorem wcells_set (f : Fs) (k : Nat) (h : k < 5) (x : List UInt8) : (wcells f).setIfInBounds k (str x) = wcells (fput f k x) := by
  rcases five k h with rfl | rfl | rfl | rfl | rfl <;> simp [wcells, fput]

/-- The files below m that are there. -/
def fil (f : Fs) (m : Nat) : List Int := ((List.range m).filter fun (j : Nat) => !(f (j : Int)).isEmpty).map fun (j : Nat) => (j : Int)

theorem fil_yes (f : Fs) (m : Nat) (h : f m ≠ []) : fil f (m + 1) = fil f m ++ [(m : Int)] := by
  unfold fil
  rw [List.range_succ, List.filter_append, List.map_append]
  simp [h]

theorem fil_no (f : Fs) (m : Nat) (h : f m = []) : fil f (m + 1) = fil f m := by
  unfold fil
  rw [List.range_succ, List.filter_append, List.map_append]
  simp [h]

theorem fil_lt (f : Fs) (m : Nat) : ∀ k ∈ fil f m, k < m ∧ 0 ≤ k ∧ f k ≠ [] := by
  intro k hk
  unfold fil at hk
  obtain ⟨j, hj, rfl⟩ := List.mem_map.1 hk
  obtain ⟨h1, h2⟩ := List.mem_filter.1 hj
  have := List.mem_range.1 h1
  exact ⟨by omega, by omega, by simpa using h2⟩

theorem fil_rise (f : Fs) : ∀ m, (fil f m).Pairwise (· < ·)
  | 0 => by simp [fil]
  | m + 1 => by
    by_cases h : f m = []
    · rw [fil_no f m h]; exact fil_rise f m
    · rw [fil_yes f m h]
      refine List.pairwise_append.2 ⟨fil_rise f m, by simp, fun a ha b hb => ?_⟩
      simp at hb
      have := (fil_lt f m a ha).1
      omega

theorem fil_mem (f : Fs) (m : Nat) (k : Nat) (hk : k < m) (h : f k ≠ []) : (k : Int) ∈ fil f m := by
  unfold fil
  exact List.mem_map.2 ⟨k, List.mem_filter.2 ⟨List.mem_range.2 hk, by simpa using h⟩, rfl⟩

theorem fil_le (f : Fs) (m : Nat) : (fil f m).length ≤ m := by
  unfold fil
  rw [List.length_map]
  exact Nat.le_trans (List.length_filter_le _ _) (by simp)

theorem fil_at (f : Fs) (j : Nat) (h : f j ≠ []) : ∀ m, j < m → (fil f m)[(fil f j).length]? = some (j : Int) ∧ (fil f j).length < (fil f m).length
  | 0, hm => by omega
  | m + 1, hm => by
    by_cases hj : j = m
    · subst hj
      rw [fil_yes f j h]
      simp
    · obtain ⟨h1, h2⟩ := fil_at f j h m (by omega)
      by_cases hf : f m = []
      · rw [fil_no f m hf]; exact ⟨h1, h2⟩
      · rw [fil_yes f m hf, List.getElem?_append_left h2, List.length_append]
        exact ⟨h1, by omega⟩

/-- A Disk of five files and what they are to be. -/
structure Ws (w : World) (K : Nat → Prop) (wx : World) (b p N : Nat) (s : DSt) : Prop where
  dl : DL w K wx b N s
  arr : At 50 wx p (wcells s.now)
  kp : K p
  keys : ∀ k, s.now k ≠ [] → 0 ≤ k ∧ k < 5
  dead : s.dead = false
  fused : s.fused = false
  size : ∀ k, (s.now k).length ≤ N * 1048576

theorem Ws.down {w wx : World} {K : Nat → Prop} {b p N : Nat} {s : DSt} (h : Ws w K wx b p N s) : s.down = false := by unfold DSt.down; rw [h.dead, h.fused]; rfl

theorem Ws.nums {w wx : World} {K : Nat → Prop} {b p N : Nat} {s : DSt} (h : Ws w K wx b p N s) {l : List Int} (hl : s.Nums l) : l = fil s.now 5 := by
  refine hl.eq (fil_rise _ _) (fun k => ?_)
  have hr : s.read k = s.now k := by unfold DSt.read; rw [h.dead]; rfl
  rw [hr]
  constructor
  · intro hk
    exact (fil_lt _ _ k hk).2.2
  · intro hk
    obtain ⟨h1, h2⟩ := h.keys k hk
    obtain ⟨j, rfl⟩ : ∃ j : Nat, k = (j : Int) := ⟨k.toNat, by omega⟩
    exact fil_mem _ _ j (by omega) hk

/-- One file has been told its new bytes, and so has the row. -/
theorem Ws.put {w wx w2 : World} {K : Nat → Prop} {b p N : Nat} {s s' : DSt} (h : Ws w K wx b p N s) (k : Nat) (hk : k < 5) (x : List UInt8) (hd : DL w K w2 b (N + 1) s') (t : Turn (fun j => w.heap.size ≤ j ∧ ¬ K j) wx w2)
    (hn : s'.now = fput s.now k x) (hdd : s'.dead = s.dead) (hff : s'.fused = s.fused) (hx : x.length ≤ (N + 1) * 1048576) : At 50 w2 p (wcells s.now) ∧ ∃ K', Ws w K' (w2.setCell ⟨p, k, none⟩ (str x)) b p (N + 1) s' := by
  have h1 : At 50 w2 p (wcells s.now) := h.arr.kept t (fun e => e.2 h.kp)
  have tp : Turn (fun j => j = p) w2 (w2.setCell ⟨p, k, none⟩ (str x)) := Turn.at p k _ w2
  refine ⟨h1, _, hd.hold (tp.mono (fun j _ e => e ▸ h.kp)), ?_, .inl h.kp, fun i hi => ?_, by rw [hdd, h.dead], by rw [hff, h.fused], fun i => ?_⟩
  · have := h1.set k (str x)
    rw [wcells_set _ _ hk] at this
    rw [hn]
    exact this
  · rw [hn] at hi
    by_cases e : i = (k : Int)
    · omega
    · have e2 : fput s.now k x i = s.now i := if_neg e
      rw [e2] at hi
      exact h.keys i hi
  · rw [hn]
    by_cases e : i = (k : Int)
    · have e2 : fput s.now k x i = x := if_pos e
      rw [e2]
      exact hx
    · have e2 : fput s.now k x i = s.now i := if_neg e
      rw [e2]
      refine Nat.le_trans (h.size i) ?_
      rw [Nat.succ_mul]
      exact Nat.le_add_right _ _

theorem Ws.removed {w wx w2 : World} {K : Nat → Prop} {b p N : Nat} {s : DSt} (h : Ws w K wx b p N s) (k : Nat) (hk : k < 5) (hd : DL w K w2 b (N + 1) (s.rem k).2) (t : Turn (fun j => w.heap.size ≤ j ∧ ¬ K j) wx w2) :
    At 50 w2 p (wcells s.now) ∧ ∃ K', Ws w K' (w2.setCell ⟨p, k, none⟩ (str [])) b p (N + 1) (s.rem k).2 := by
  have e : s.rem k = (0, s.rems k) := rem_down h.down k (by omega)
  rw [e] at hd ⊢
  exact h.put k hk [] hd t (rems_now s k) (rems_dead s k).1 (rems_dead s k).2 (by simp)

theorem Ws.added {w wx w2 : World} {K : Nat → Prop} {b p N : Nat} {s : DSt} (h : Ws w K wx b p N s) (k : Nat) (hk : k < 5) (bs : List UInt8) (hb : bs.length ≤ 1048576) (hd : DL w K w2 b (N + 1) (s.add k bs).2) (t : Turn (fun j => w.heap.size ≤ j ∧ ¬ K j) wx w2) :
    At 50 w2 p (wcells s.now) ∧ ∃ K', Ws w K' (w2.setCell ⟨p, k, none⟩ (str (s.now k ++ bs))) b p (N + 1) (s.add k bs).2 := by
  have e : s.add k bs = (0, s.lays k bs) := add_down h.down k (by omega) bs
  rw [e] at hd ⊢
  refine h.put k hk (s.now k ++ bs) hd t (lays_now s k bs) (lays_dead s k bs).1 (lays_dead s k bs).2 ?_
  rw [List.length_append, Nat.succ_mul]
  exact Nat.add_le_add (h.size k) hb

theorem Ws.synced {w wx w2 : World} {K : Nat → Prop} {b p N : Nat} {s : DSt} (h : Ws w K wx b p N s) (hd : DL w K w2 b (N + 1) s.sync.2) (t : Turn (fun j => w.heap.size ≤ j ∧ ¬ K j) wx w2) : Ws w K w2 b p (N + 1) s.sync.2 := by
  rw [sync_down h.down] at hd ⊢
  have hn : s.safe.now = s.now := rfl
  refine ⟨hd, by rw [hn]; exact h.arr.kept t (fun e => e.2 h.kp), h.kp, by rw [hn]; exact h.keys, h.dead, h.fused, fun k => ?_⟩
  rw [hn, Nat.succ_mul]
  exact Nat.le_trans (h.size k) (Nat.le_add_right _ _)

theorem Ws.mono {w wx : World} {K : Nat → Prop} {b p N : Nat} {s : DSt} (h : Ws w K wx b p N s) : Ws w K wx b p (N + 1) s :=
  ⟨h.dl.mono (Nat.le_succ _), h.arr, h.kp, h.keys, h.dead, h.fused, fun k => by rw [Nat.succ_mul]; exact Nat.le_trans (h.size k) (Nat.le_add_right _ _)⟩

theorem Ws.new {w wx w2 : World} {K : Nat → Prop} {b p N : Nat} {s : DSt} (h : Ws w K wx b p N s) (t : Turn (fun _ => False) wx w2) : Ws w (grow K wx w2) w2 b p N s :=
  ⟨h.dl.new t, h.arr.kept t (fun h => h), .inl h.kp, h.keys, h.dead, h.fused, h.size⟩

theorem Ws.start {w w1 : World} {K : Nat → Prop} {b N : Nat} (h : DL w K w1 b N DSt.zero) : Ws w (grow K w1 (w1.alloc (.cells (wcells (fun _ => [])) 50))) (w1.alloc (.cells (wcells (fun _ => [])) 50)) b w1.heap.size N DSt.zero :=
  ⟨h.new ((Turn.refl _ _).alloc _), At.new _ _ _, .inr ⟨Nat.le_refl _, by simp⟩, fun k hk => absurd rfl hk, rfl, rfl, fun k => Nat.zero_le _⟩

theorem HeldI.cell {K : Nat → Prop} {w : World} {g n c j : Nat} {l : List Int} {x : Int} (h : HeldI K w (.slice (some ⟨g, 0, none⟩) n c) l) (hx : l[j]? = some x) : w.cell? ⟨g, j, none⟩ = some (.int .i64 x) := by
  rcases h.own.sees with ⟨h0, _⟩ | ⟨a, cap, e, _, _, hc⟩
  · simp at h0
  · simp only [Value.slice.injEq, Option.some.injEq] at e
    have := hc j (.int .i64 x) (by rw [i64s, List.getElem?_map, hx]; rfl)
    rw [← e.1, addr_lit, Nat.zero_add] at this
    exact this

/-- What came in stays, from one world of the law to a later one. -/
theorem _root_.Go.Proofs.Ytnojedjdnecagaa.StepAt.kept' {w w1 w2 : World} {ab off : Nat} {x : StepE} (h : StepAt w1 w.heap.size ab off x) (t1 : Turn (fun _ => False) w w1) (t2 : Turn (fun _ => False) w w2) : StepAt w2 w.heap.size ab off x := by
  have hc : ∀ o, w2.cell? ⟨ab, o, none⟩ = w1.cell? ⟨ab, o, none⟩ := fun o => (t2.cell (p := ⟨ab, o, none⟩) h.lt (fun h => h)).trans (t1.cell (p := ⟨ab, o, none⟩) h.lt (fun h => h)).symm
  refine ⟨h.lt, (hc _).trans h.c0, (hc _).trans h.c1, (hc _).trans h.c2, (hc _).trans h.c3, (hc _).trans h.c4, ?_, h.slabs⟩
  rcases h.sees with h0 | ⟨a, cap, e, hc', hm, hcell⟩
  · exact .inl h0
  · refine .inr ⟨a, cap, e, hc', hm, fun j u hj => ?_⟩
    have hpos : 0 < x.bs.length := by
      have := (List.getElem?_eq_some_iff.1 hj).1
      rw [u8s_length] at this
      omega
    have hb : (a.add j).block < w.heap.size := by rw [addr_add_block]; exact h.slabs hpos _ (by rw [e]; rfl)
    rw [t2.cell hb (fun h => h), ← t1.cell hb (fun h => h)]
    exact hcell j u hj

set_option maxHeartbeats 8000000 in
set_option maxRecDepth 100000 in
theorem diskFiles_any (lv : Value) (l : List StepE) (w : World) (hl : StepsOf w w.heap.size lv l) (hbig : ∀ k (hk : k < l.length), l[k].bs.length ≤ 1048576) :
    Calls Try.prog 8 #[lv] w fun e w' => e = .returned (.bool true) ∧ Turn (fun _ => False) w w' := by
  have qT : ∀ (w : World) {v : Value} {bs : List UInt8}, Sees w v bs → (convert 27 9 v).run Try.prog w = .ok (.string ⟨bs.toArray⟩) w := fun w _ _ h => run_text_of_sees w _ _ Try.underlying27 Try.underlying5 Try.underlying9 h
  have QT := hide qT
  clear qT
  obtain ⟨lo, lc, hlv, hlm⟩ := hl.shape
  unfold maxLen at hlm
  subst hlv
  have Hl := hide hl
  have Hbig := hide hbig
  clear hl hbig
  go_enter Try.func8, Try.ntmps8
  go_wp2_with fail
  refine (dl_new (w0 := w) (K := fun _ => False) (fun _ h => h.elim) (Turn.refl _ w)).mono ?_
  rintro e w1 ⟨rfl, h1, _⟩
  obtain ⟨b, hb⟩ : ∃ b, b = w.heap.size := ⟨_, rfl⟩
  rw [← hb] at h1 ⊢
  clear hb
  go_wp2_with fail
  refine (known_any w1).mono ?_
  rintro e w2 ⟨rfl, t2⟩
  have h2 := h1.new t2
  clear h1 t2
  have h3 := Ws.start h2
  obtain ⟨p, hp⟩ : ∃ p, p = w2.heap.size := ⟨_, rfl⟩
  rw [← hp] at h3
  have H3 := hide h3
  clear h2 h3
  go_wp2_with fail
  rw [← hp]
  clear hp
  go_loopw [5, 6, 7, 8, 9] (fun i _ _ _ _ wr => ∃ (m : Nat) (K : Nat → Prop) (s : DSt), m ≤ 50 ∧ m ≤ l.length ∧ i = .int .i64 m ∧ Ws w K wr b p (2 * m) s) (fun i _ _ _ _ _ => (50 - intOf i).toNat)
  case atStart => exact ⟨0, _, _, by omega, by omega, rfl, unhide H3⟩
  case round =>
    clear H3
    obtain ⟨m, K, s, hm, hml, rfl, hs⟩ := hrel
    by_cases hlt : m < l.length ∧ m < 50
    · obtain ⟨ab, off, cap, hv, hst⟩ := ((unhide Hl).kept hs.dl.turn (Nat.le_refl _) (fun _ _ h => h)).each m hlt.1
      injection hv with hv1 hv2 hv3
      subst hv1 hv3
      have hbm := unhide Hbig m hlt.1
      generalize l[m] = x at *
      have q1 : (m : Int) < l.length := by omega
      have q2 : (m : Int) < 50 := by omega
      obtain ⟨k, hk⟩ : ∃ k : Nat, (k : Int) = x.file % 5 := ⟨(x.file % 5).toNat, by omega⟩
      have hk5 : k < 5 := by omega
      have c0 := hst.c0
      have c1 := hst.c1
      have c2 := hst.c2
      have c4 := hst.c4
      obtain ⟨bo, bc, hbv⟩ := hst.sees.shape
      rw [hbv] at c4
      have Hst := hide hst
      have Hs := hide hs
      have Hbv := hide hbv
      have Hk := hide hk
      clear hst hs hbv hk
      go_wp2_with fail
      refine (pick_any x.file 5 _ (by omega) (by omega)).mono ?_
      rintro e w4 ⟨rfl, rfl⟩
      rw [← unhide Hk]
      go_upto_if 39 with (go_at_call 21; refine (pick_any x.what 5 _ (by omega) (by omega)).mono ?_; rintro e w4 ⟨rfl, rfl⟩)
      go_cut [] from 33 to 64 (fun wx => ∃ K' s', Ws w K' wx b p (2 * m + 1) s')
      case first =>
        have hs := unhide Hs
        by_cases hw : x.what % 5 = 0
        · have hcall := dl_remove k hs.dl (by omega)
          have Hcall := hide hcall
          clear hcall hs
          go_wp2_with fail
          refine (unhide Hcall).mono ?_
          rintro e w5 ⟨rfl, h5, t5⟩
          obtain ⟨ha, K', h6⟩ := (unhide Hs).removed k hk5 h5 t5
          have hcell : w5.cell? ⟨p, k, none⟩ = some (.string ⟨(s.now k).toArray⟩) := by rw [ha.cell k]; exact wcells_at _ _ hk5
          have hfro : w5.frozen? ⟨p, k, none⟩ = false := ha.frozen k
          have H6 := hide h6
          clear h5 t5 ha h6
          go_wp2_with fail
          go_meet
          case rel => exact ⟨_, _, unhide H6⟩
        · have hw2 : (x.what % 5 == 0) = false := by simpa using hw
          have hsz := hs.size k
          have hsz2 : (s.now k).length ≤ 104857600 := by
            refine Nat.le_trans hsz ?_
            refine Nat.le_trans (Nat.mul_le_mul_right 1048576 (show 2 * m ≤ 100 by omega)) ?_
            decide
          have hcall := dl_append k _ x.bs hs.dl (unhide Hst).sees (fun h0 j hj => .inl ((unhide Hst).slabs h0 j hj)) (by omega) (by omega)
          rw [unhide Hbv] at hcall
          have Hcall := hide hcall
          clear hcall hs
          go_wp2_with fail
          refine (unhide Hcall).mono ?_
          rintro e w5 ⟨rfl, h5, t5⟩
          obtain ⟨ha, K', h6⟩ := (unhide Hs).added k hk5 x.bs hbm h5 t5
          have hst5 := (unhide Hst).kept' (unhide Hs).dl.turn h5.turn
          have hcell : w5.drew.cell? ⟨p, k, none⟩ = some (.string ⟨(s.now k).toArray⟩) := (ha.cell k).trans (wcells_at _ _ hk5)
          have hfro : w5.drew.frozen? ⟨p, k, none⟩ = false := ha.frozen k
          have c45 : w5.drew.cell? ⟨ab, off + m * 5 + 4, none⟩ = some (.slice bo x.bs.length bc) := by rw [← unhide Hbv]; exact hst5.c4
          have hcv : (convert 27 9 (.slice bo x.bs.length bc)).run Try.prog w5.drew = .ok (.string ⟨x.bs.toArray⟩) w5.drew := unhide QT _ (by rw [← unhide Hbv]; exact hst5.sees)
          have hct : (⟨(s.now k).toArray⟩ : ByteArray) ++ ⟨x.bs.toArray⟩ = ⟨(s.now k ++ x.bs).toArray⟩ := by
            apply ByteArray.ext
            simp
          have hz1 : (ByteArray.mk (s.now k).toArray).size = (s.now k).length := by simp [ByteArray.size]
          have hz2 : (ByteArray.mk x.bs.toArray).size = x.bs.length := by simp [ByteArray.size]
          have H6 := hide h6
          clear h5 t5 ha h6 hst5 hsz Hcall
          generalize s.now k = nk at *
          go_wp2_with fail
          go_region
          all_goals (
            go_wp2_with fail
            go_meet
            case rel => exact ⟨_, _, (unhide H6).new ((Turn.refl _ _).drew)⟩)
      case rest =>
        obtain ⟨K5, s5, h5⟩ := hcut
        generalize wc = w5 at *
        have hst5 := (unhide Hst).kept' (unhide Hs).dl.turn h5.dl.turn
        have c25 : w5.cell? ⟨ab, off + m * 5 + 2, none⟩ = some (.int .i64 x.n) := hst5.c2
        have H5 := hide h5
        clear hst5 h5 Hs Hst c0 c1 c2 c4 Hbv
        go_upto_if 71 with fail
        go_cut [] from 65 to 73 (fun wx => ∃ K' s', Ws w K' wx b p (2 * m + 2) s')
        case first =>
          by_cases hn3 : x.n.tmod 3 = 0
          · have hcall := dl_sync (unhide H5).dl (by omega)
            have Hcall := hide hcall
            clear hcall
            go_wp2_with fail
            refine (unhide Hcall).mono ?_
            rintro e w6 ⟨rfl, h6, t6⟩
            have H6 := hide ((unhide H5).synced h6 t6)
            clear h6 t6
            go_wp2_with fail
            go_meet
            case rel => exact ⟨_, _, unhide H6⟩
          · have hn4 : (x.n.tmod 3 == 0) = false := by simpa using hn3
            go_wp2_with fail
            go_meet
            case rel => exact ⟨_, _, (unhide H5).mono⟩
        case rest =>
          obtain ⟨K6, s6, h6⟩ := hcut
          generalize wc = w6 at *
          clear H5 c25
          have Hw := hide h6
          have hcall := dl_files h6.dl (by omega)
          have Hcall := hide hcall
          clear hcall h6
          go_wp2_with fail
          refine (unhide Hcall).mono ?_
          rintro e w7 ⟨fv, fl, rfl, hmk, hnums, _, h7⟩
          have hfl := (unhide Hw).nums hnums
          subst hfl
          have hw7 := (unhide Hw).new hmk.2.1
          have hf7 := hmk.held (K := K6)
          obtain ⟨fo, fc, rfl⟩ := hmk.shape
          have hfl5 := fil_le s6.now 5
          have H7 := hide (And.intro hw7 hf7)
          clear hmk hnums h7 hw7 hf7 Hw
          go_wp2_with fail
          go_loopw [7, 9] (fun n j wr => ∃ (q : Nat) (K : Nat → Prop), q ≤ 5 ∧ j = .int .i64 q ∧ n = .int .i64 (fil s6.now q).length ∧ Ws w K wr b p (2 * m + 2) s6 ∧ HeldI K wr (.slice fo (fil s6.now 5).length fc) (fil s6.now 5)) (fun _ j _ => (5 - intOf j).toNat)
          case atStart => exact ⟨0, _, by omega, rfl, rfl, unhide H7⟩
          case round =>
            clear H7
            obtain ⟨q, K, hq, rfl, rfl, hw, hf⟩ := hrel
            by_cases hq5 : q < 5
            · have hrd : s6.read q = s6.now q := by unfold DSt.read; rw [hw.dead]; rfl
              have hsz : (s6.now q).length ≤ 140737488355328 := by
                refine Nat.le_trans (hw.size q) ?_
                refine Nat.le_trans (Nat.mul_le_mul_right 1048576 (show 2 * m + 2 ≤ 102 by omega)) ?_
                decide
              have ca : wr.drew.cell? ⟨p, q, none⟩ = some (.string ⟨(s6.now q).toArray⟩) := (hw.arr.cell q).trans (wcells_at _ _ hq5)
              have hwd := hw.new ((Turn.refl _ wr).drew)
              have hfd := hf.new ((Turn.refl _ wr).drew)
              have hcall := dl_read q hwd.dl (by omega) hsz
              rw [hrd] at hcall
              have hq5' : (q : Int) < 5 := by omega
              have Hcall := hide hcall
              have HWd := hide (And.intro hwd hfd)
              clear hcall hrd hsz hw hf hwd hfd
              have hkind : s6.now q = [] ∨ s6.now q ≠ [] := by
                by_cases h : s6.now q = []
                · exact .inl h
                · exact .inr h
              have Hkind := hide hkind
              clear hkind
              generalize hnq : s6.now q = nq at *
              have Hnq := hide hnq
              clear hnq
              go_upto_region 21 with fail
              go_cut [87] from 80 to 87 (fun x wx => x = .bool false ∧ ∃ K', Ws w K' wx b p (2 * m + 2) s6 ∧ HeldI K' wx (.slice fo (fil s6.now 5).length fc) (fil s6.now 5))
              case first =>
                go_region_with (go_at_call 18; refine (unhide Hcall).mono ?_; rintro e w8 ⟨v8, rfl, m8, h8⟩; have cv8 := unhide QT _ m8.1.sees; have ca8 := (m8.2.1.cell (p := ⟨p, q, none⟩) (World.block_lt_of_cell? _ _ ca) (fun h => h)).trans ca; have hw8 := (unhide HWd).1.new m8.2.1; have hf8 := (unhide HWd).2.new m8.2.1; obtain ⟨o8, c8, rfl⟩ := m8.1.shape)
                all_goals (
                  go_wp2_with fail
                  go_meet
                  case rel => exact ⟨rfl, _, hw8, hf8⟩)
              case rest =>
                obtain ⟨rfl, K8, hw8, hf8⟩ := hcut
                generalize wc = w8 at *
                have ca8 : w8.cell? ⟨p, q, none⟩ = some (.string ⟨nq.toArray⟩) := by rw [← unhide Hnq]; exact (hw8.arr.cell q).trans (wcells_at _ _ hq5)
                have H8 := hide (And.intro hw8 hf8)
                clear hw8 hf8 ca HWd Hcall
                rcases unhide Hkind with rfl | hne
                · have hno := fil_no s6.now q (unhide Hnq)
                  have Hno := hide hno
                  clear hno
                  go_wp2
                  exact ⟨⟨q + 1, K8, by omega, by go_num, by rw [unhide Hno], unhide H8⟩, by simp [intOf]; omega⟩
                · have hnq := unhide Hnq
                  have hne' : s6.now q ≠ [] := by rw [hnq]; exact hne
                  have hyes := fil_yes s6.now q hne'
                  obtain ⟨hat, hlt2⟩ := fil_at s6.now q hne' 5 hq5
                  have hne2 : ¬ nq.length = 0 := fun e => hne (List.eq_nil_of_length_eq_zero e)
                  obtain ⟨g, hg⟩ : ∃ g, fo = some ⟨g, 0, none⟩ := by
                    rcases (unhide H8).2.own.shape with ⟨h0, _⟩ | ⟨g, cap, h0, _⟩
                    · injection h0 with _ e2
                      omega
                    · simp at h0; exact ⟨g, h0.1⟩
                  subst hg
                  have cf := (unhide H8).2.cell hat
                  have hlen : (fil s6.now (q + 1)).length = (fil s6.now q).length + 1 := by rw [hyes]; simp
                  have Hlen := hide hlen
                  have hle5 := fil_le s6.now q
                  clear hlen hyes hat hnq hne'
                  generalize (fil s6.now q).length = nf at *
                  have hne3 : nq.isEmpty = false := by simpa using hne
                  have hlt3 : ¬ (fil s6.now 5).length ≤ nf := by omega
                  have hqq : ((q : Int) != (q : Int)) = false := by simp
                  go_wp2
                  exact ⟨⟨q + 1, K8, by omega, by go_num, by rw [unhide Hlen]; go_num, unhide H8⟩, by simp [intOf]; omega⟩
            · obtain rfl : q = 5 := by omega
              have hnn : (((fil s6.now 5).length : Int) != ((fil s6.now 5).length : Int)) = false := by simp
              have Hw := hide hw
              clear hw hf
              generalize (fil s6.now 5).length = n5 at *
              go_wp2
              exact ⟨⟨m + 1, _, s6, by omega, by omega, by go_num, unhide Hw⟩, by simp [intOf]; omega⟩
    · by_cases hil2 : m < l.length
      · obtain rfl : m = 50 := by omega
        have q1 : ((50 : Nat) : Int) < l.length := by omega
        have Hs := hide hs
        clear hs
        go_wp2
        go_ret
        exact ⟨rfl, (unhide Hs).dl.turn⟩
      · obtain rfl : m = l.length := by omega
        have Hs := hide hs
        clear hs
        go_wp2
        go_ret
        exact ⟨rfl, (unhide Hs).dl.turn⟩

end Go.Proofs.Ytnojedjdnecagaa
