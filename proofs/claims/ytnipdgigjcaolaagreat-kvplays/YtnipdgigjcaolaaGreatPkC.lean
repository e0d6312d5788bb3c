/- What stands below the proof, in one text. -/
import Derived.Test.YtnipdgigjcaolaaGreatPkA
import Derived.Test.YtnipdgigjcaolaaGreatPkB
import Derived.Test.YtnipdgigjcaolaaGreatRows
import Derived.ProofKit
import Derived.OpenShut
import Derived.Deep.Slices
import Derived.Deep.Strs
import Derived.RegionTactic
import Derived.Deep.RegionLaw
/- Lists of numbers: those that came in, those of the calls' own; their sum. -/
namespace Go.Proofs.YtnipdgigjcaolaaGreat
open Go.RowKit

/-- Numbers as cells. -/
def i64s (xs : List Int) : List Value := xs.map fun x => Value.int .i64 x

theorem i64s_length (xs : List Int) : (i64s xs).length = xs.length := by simp [i64s]
theorem i64s_one {u : Value} {xs : List Int} (h : u ∈ i64s xs) : u.oneCell' = true := by
  obtain ⟨b, _, rfl⟩ := List.mem_map.1 h
  rfl
theorem i64s_append (a b : List Int) : i64s (a ++ b) = i64s a ++ i64s b := by simp [i64s]
theorem i64s_take (a : List Int) (n : Nat) : i64s (a.take n) = (i64s a).take n := by simp [i64s]
theorem i64s_drop (a : List Int) (n : Nat) : i64s (a.drop n) = (i64s a).drop n := by simp [i64s]

/-- The sum of numbers. -/
def isum : List Int → Int
  | [] => 0
  | x :: xs => x + isum xs

theorem isum_append (a b : List Int) : isum (a ++ b) = isum a + isum b := by
  induction a with
  | nil => simp [isum]
  | cons x xs ih => simp [isum, ih]; omega

theorem isum_without (a : List Int) (k : Nat) (hk : k < a.length) : isum (a.take k ++ a.drop (k + 1)) + a[k] = isum a := by
  have h : a = a.take k ++ (a[k] :: a.drop (k + 1)) := by
    rw [List.getElem_cons_drop]
    simp
  have h2 : isum a = isum (a.take k) + (a[k] + isum (a.drop (k + 1))) := by
    conv => lhs; rw [h, isum_append]
    rfl
  rw [isum_append, h2]
  omega

theorem wrap64_add (x y : Int) : wrap64 (wrap64 x + y) = wrap64 (x + y) := by
  unfold wrap64
  omega

/-- A list of numbers that came in, below B. -/
def IntsAt (w : World) (B : Nat) (v : Value) (l : List Int) : Prop :=
  (v = .slice none 0 0 ∧ l = []) ∨
  ∃ a cap, v = .slice (some a) l.length cap ∧ l.length ≤ maxLen ∧ ∀ k (hk : k < l.length), a.block < B ∧ w.cell? (a.add k) = some (.int .i64 l[k])

theorem IntsAt.kept {S : Nat → Prop} {w w' : World} {B : Nat} {v : Value} {l : List Int} (h : IntsAt w B v l) (ht : Turn S w w') (hB : B ≤ w.heap.size) (hS : ∀ k, k < B → ¬ S k) : IntsAt w' B v l := by
  rcases h with h | ⟨a, cap, rfl, hm, hc⟩
  · exact .inl h
  · refine .inr ⟨a, cap, rfl, hm, fun k hk => ?_⟩
    obtain ⟨h1, h2⟩ := hc k hk
    refine ⟨h1, ?_⟩
    rw [ht.cell (by rw [addr_add_block]; omega) (by rw [addr_add_block]; exact hS _ h1)]
    exact h2

theorem IntsAt.shape {w : World} {B : Nat} {v : Value} {l : List Int} (h : IntsAt w B v l) : ∃ ao cap, v = .slice ao l.length cap ∧ l.length ≤ maxLen := by
  rcases h with ⟨rfl, rfl⟩ | ⟨a, cap, rfl, hm, _⟩
  · exact ⟨none, 0, rfl, by simp⟩
  · exact ⟨_, _, rfl, hm⟩

theorem IntsAt.at {w : World} {B : Nat} {ao : Option Addr} {n cap : Nat} {l : List Int} (h : IntsAt w B (.slice ao n cap) l) (k : Nat) (hk : k < l.length) :
    ∃ a, ao = some a ∧ w.cell? (a.add k) = some (.int .i64 l[k]) ∧ a.block < B := by
  rcases h with ⟨_, rfl⟩ | ⟨a, cap, e, hm, hc⟩
  · simp at hk
  · simp only [Value.slice.injEq] at e
    exact ⟨a, e.1, (hc k hk).2, (hc k hk).1⟩

end Go.Proofs.YtnipdgigjcaolaaGreat

/- The method Files. -/
namespace Go.Proofs.YtnipdgigjcaolaaGreat
open Go.RowKit

theorem Tryz.infoInt5 : (Tryz.prog.info? 3).map (fun i => (i.zero, i.size, i.bytes)) = some (some (.int .i64 0), 1, 8) := by kernel_rfl

theorem append_one (w : World) (v : Value) (xs : List Int) (x : Int) (vb : Nat) (hown : OwnsC 3 w v (i64s xs)) (hx : At 3 w vb #[.int .i64 x]) (hb : xs.length ≤ 1099511627776) :
    ∃ v' w', (Builtin.append_ #[23, 23] 23 #[v, .slice (some ⟨vb, 0, none⟩) 1 1]).run Tryz.prog w = .ok v' w' ∧ OwnsC 3 w' v' (i64s (xs ++ [x])) ∧ w.grownBy w' v.ownBlock ∧ (v'.ownBlock = v.ownBlock ∨ v'.ownBlock = some w.heap.size) := by
  obtain ⟨i, hi, h⟩ := Option.map_eq_some_iff.1 Tryz.infoInt5
  simp only [Prod.mk.injEq] at h
  rw [i64s_append]
  refine run_append_cells (P := Tryz.prog) w 23 23 3 i _ 8 Tryz.underlying23 hi h.1 h.2.1 h.2.2 rfl v _ hown _ (i64s [x]) (.inr ⟨⟨vb, 0, none⟩, 1, rfl, Nat.le_refl _, by simp [maxLen], fun j u hj => ?_⟩) (fun u hu => i64s_one hu) (by rw [i64s_length, i64s_length]; unfold maxLen; simp; omega) (by rw [i64s_length, i64s_length]; simp; omega)
  rw [addr_lit, Nat.zero_add, hx.cell j]
  simpa [i64s] using hj

/-- Numbers of one's own, in new memory; nothing else has turned. -/
def MadeI (w : World) (v : Value) (l : List Int) (w' : World) : Prop := OwnsC 3 w' v (i64s l) ∧ Turn (fun _ => False) w w' ∧ ∀ k, v.ownBlock = some k → w.heap.size ≤ k

theorem MadeI.nil (w : World) : MadeI w (.slice none 0 0) [] w := ⟨OwnsC.nil _ _, Turn.refl _ _, fun k hk => by simp [Value.ownBlock] at hk⟩

theorem MadeI.more {w w1 w2 wa : World} {v1 v2 : Value} {l l' : List Int} (h : MadeI w v1 l w1) (ta : Turn (fun _ => False) w1 wa) (ho : OwnsC 3 w2 v2 (i64s l')) (hg : wa.grownBy w2 v1.ownBlock) (hk : v2.ownBlock = v1.ownBlock ∨ v2.ownBlock = some wa.heap.size) : MadeI w v2 l' w2 := by
  refine ⟨ho, (h.2.1.trans ta).grown hg (fun k hk => .inr (h.2.2 k hk)), fun k e => ?_⟩
  rcases hk with hk | hk
  · exact h.2.2 k (hk ▸ e)
  · rw [hk] at e
    injection e with e
    have := (h.2.1.trans ta).size
    omega

theorem MadeI.shape {w w' : World} {v : Value} {l : List Int} (h : MadeI w v l w') : ∃ ao c, v = .slice ao l.length c := by
  rcases h.1.shape with ⟨rfl, h0⟩ | ⟨g, cap, rfl, _⟩
  · have : l.length = 0 := by rw [← i64s_length, h0]; rfl
    exact ⟨none, 0, by rw [this]⟩
  · exact ⟨_, _, by rw [i64s_length]⟩

/-- The files that are there, rising. -/
def DSt.Nums (s : DSt) (l : List Int) : Prop := l.Pairwise (· < ·) ∧ ∀ k, k ∈ l ↔ s.read k ≠ []

section
variable {w : World} {b : Nat} {S : Nat → Prop} {N : Nat} {s : DSt}

set_option maxHeartbeats 2000000 in
set_option maxRecDepth 100000 in
theorem files_any (h : Dk w b S N s) (hN : N ≤ 1073741824) :
    Calls Tryz.prog 57 #[.pointer (some ⟨b, 0, none⟩)] w fun e w' => ∃ v l, e = .returned v ∧ MadeI w v l w' ∧ s.Nums l ∧ l.length ≤ N := by
  obtain ⟨own, fv, pv, fs, us, h⟩ := h
  have hfl := h.many.1
  have c5 : w.cell? ⟨b, 5, none⟩ = some (.bool s.dead) := h.f.head.cell 5
  by_cases hd : s.dead = true
  · have hnums : s.Nums [] := ⟨List.Pairwise.nil, fun k => by unfold DSt.read; rw [if_pos hd]; simp⟩
    rw [hd] at c5
    go_enter Tryz.func57, Tryz.ntmps57
    go_wp2
    go_ret
    exact ⟨_, [], rfl, MadeI.nil w, hnums, Nat.zero_le _⟩
  · have hd' : s.dead = false := by simpa using hd
    have hnums : s.Nums (fs.map (·.num)) := by
      refine ⟨List.pairwise_map.2 (show fs.Pairwise (fun a b => a.num < b.num) from h.f.rise), fun k => ?_⟩
      rw [nums_iff h.f.rise (fun e he => (h.f.file e he).2.1) k, h.now]
      unfold DSt.read
      rw [if_neg hd]
    rw [hd'] at c5
    have c0 : w.cell? ⟨b, 0, none⟩ = some fv := h.f.head.cell 0
    have hfiles := h.f.files
    obtain ⟨ao, c, rfl⟩ := h.f.shape
    have Hnums := hide hnums
    have Hf := hide hfiles
    clear hnums h hfiles hd
    go_enter Tryz.func57, Tryz.ntmps57
    go_wp2_with fail
    go_loopw [3, 5, 19] (fun l _ i wr => ∃ k : Nat, k ≤ fs.length ∧ i = .int .i64 k ∧ MadeI w l ((fs.take k).map (·.num)) wr) (fun _ _ i _ => (fs.length - intOf i).toNat)
    case atStart => exact ⟨0, by omega, rfl, MadeI.nil w⟩
    case round =>
      obtain ⟨k, hk, rfl, hmd⟩ := hrel
      by_cases hlt : k < fs.length
      · obtain ⟨e, he⟩ : ∃ e, fs[k]? = some e := ⟨_, List.getElem?_eq_getElem hlt⟩
        have hf1 := (unhide Hf).kept hmd.2.1 (fun _ _ h => h)
        obtain ⟨g, hao⟩ : ∃ g, ao = some ⟨g, 0, none⟩ := by
          rcases row_shape hf1.row with ⟨_, h0⟩ | ⟨g, cap, e, _⟩
          · omega
          · injection e with e1
            exact ⟨g, e1⟩
        subst hao
        obtain ⟨eo, en, ec, hev, r0, r1⟩ := hf1.cells k e he
        obtain ⟨lo, lc, hl⟩ := hmd.shape
        subst hl
        have q1 : (k : Int) < fs.length := by omega
        have ta : Turn (fun _ => False) wr ((wr.alloc (.cells #[.int .i64 e.num, .slice eo en ec] 162)).alloc (.cells #[.int .i64 e.num] 3)) := ((Turn.refl _ _).alloc _).alloc _
        have hA : At 3 ((wr.alloc (.cells #[.int .i64 e.num, .slice eo en ec] 162)).alloc (.cells #[.int .i64 e.num] 3)) (wr.heap.size + 1) #[.int .i64 e.num] := by
          have := At.new 3 (wr.alloc (.cells #[.int .i64 e.num, .slice eo en ec] 162)) #[.int .i64 e.num]
          rwa [show (wr.alloc (.cells #[.int .i64 e.num, .slice eo en ec] 162)).heap.size = wr.heap.size + 1 by simp] at this
        have hl2 : ((fs.take k).map (·.num)).length = k := by rw [List.length_map, List.length_take]; omega
        obtain ⟨v2, w2, hr, ho, hg, hkk⟩ := append_one _ _ _ e.num _ (hmd.1.kept ta (fun _ _ h => h)) hA (by rw [hl2]; omega)
        have hmd2 := hmd.more ta ho hg hkk
        have e3 : (fs.take k).map (·.num) ++ [e.num] = (fs.take (k + 1)).map (·.num) := by
          rw [List.take_succ_eq_append_getElem hlt, List.map_append]
          obtain ⟨_, h2⟩ := List.getElem?_eq_some_iff.1 he
          rw [h2]
          rfl
        rw [e3] at hmd2
        obtain ⟨vo, vc, hv⟩ := hmd2.shape
        have hl3 : ((fs.take (k + 1)).map (·.num)).length = k + 1 := by rw [List.length_map, List.length_take]; omega
        rw [hl3] at hv
        subst hv
        rw [hl2] at hr
        have Hr := hide hr
        have H2 := hide hmd2
        rw [hl2]
        clear hr hmd2 e3 ho hg hkk hmd hA ta he hf1 hev hl2 hl3
        go_wp2_with (at_builtin; refine wpList_append_run rfl (.tmp 23) (.tmp 26) 23 rfl _ _ _ w2 rfl rfl (unhide Hr) ?_)
        go_roundw
        case rel => exact ⟨k + 1, by omega, by go_num, unhide H2⟩
        case measure => simp [intOf]; omega
      · obtain rfl : k = fs.length := by omega
        rw [List.take_length] at hmd
        obtain ⟨lo, lc, hl⟩ := hmd.shape
        subst hl
        have Hm := hide hmd
        clear hmd
        go_wp2
        go_ret
        exact ⟨_, _, rfl, unhide Hm, unhide Hnums, by simpa using hfl⟩

end

end Go.Proofs.YtnipdgigjcaolaaGreat

/- Bytes of a constant text, in new memory. -/
namespace Go.Proofs.YtnipdgigjcaolaaGreat
open Go.RowKit

theorem heap_freeze_same (w : World) (g k : Nat) (cs : Array Value) (T : TypeId) (h : w.heap[g]? = some (.cells cs T (0, 0))) : ∃ fr, (w.freeze ⟨g, k, none⟩ 1).heap[g]? = some (.cells cs T fr) := by
  unfold World.freeze
  rw [if_neg (by decide)]
  refine ⟨?_, ?_⟩
  rotate_left
  · show (w.heap.modify g _)[g]? = _
    rw [Array.getElem?_modify, if_pos rfl, h]
    rfl

theorem heap_freeze_other (w : World) (g k j : Nat) (h : j ≠ g) : (w.freeze ⟨g, k, none⟩ 1).heap[j]? = w.heap[j]? := by
  unfold World.freeze
  rw [if_neg (by decide)]
  show (w.heap.modify g _)[j]? = _
  rw [Array.getElem?_modify, if_neg (fun e => h e.symm)]

theorem run_lit (w : World) (bs : List UInt8) (h : bs.length ≤ maxLen) :
    ∃ w', (convert 29 29 (.slice (some ⟨w.heap.size, 0, none⟩) bs.length bs.length)).run Tryz.prog (w.alloc (.cells (u8s bs).toArray 5)) = .ok (.slice (some ⟨w.heap.size, 0, none⟩) bs.length bs.length) w' ∧
      Sees w' (.slice (some ⟨w.heap.size, 0, none⟩) bs.length bs.length) bs ∧ Turn (fun _ => False) w w' := by
  have hnew : (w.alloc (.cells (u8s bs).toArray 5)).heap[w.heap.size]? = some (.cells (u8s bs).toArray 5 (0, 0)) := heap_alloc_new w _
  have hsh : (w.alloc (.cells (u8s bs).toArray 5)).shape? w.heap.size = some (5, (u8s bs).toArray.size) := by
    unfold World.shape?
    rw [hnew]
  obtain ⟨fr, hfr⟩ := heap_freeze_same _ w.heap.size (u8s bs).toArray.size _ _ hnew
  refine ⟨(w.alloc (.cells (u8s bs).toArray 5)).freeze ⟨w.heap.size, (u8s bs).toArray.size, none⟩ 1, ?_, ?_, ?_⟩
  · simp [convert, run_underlying Tryz.underlying29, run_underlying Tryz.underlying5, markStringish, hsh]
  · refine .inr ⟨_, _, rfl, Nat.le_refl _, h, fun j u hj => ?_⟩
    rw [show (⟨w.heap.size, 0, none⟩ : Addr).add j = ⟨w.heap.size, j, none⟩ by unfold Addr.add; split <;> simp_all]
    rw [cell_of_row _ w.heap.size j _ _ fr hfr]
    simpa using hj
  · refine ⟨rfl, rfl, rfl, ?_, fun k hk _ => ?_⟩
    · unfold World.freeze
      rw [if_neg (by decide)]
      simp
    · rw [heap_freeze_other _ _ _ _ (by omega)]
      exact Below.heap_alloc _ _ _ hk

end Go.Proofs.YtnipdgigjcaolaaGreat

/- A Disk within a law: all its memory is new, and apart from what the law keeps besides. -/
namespace Go.Proofs.YtnipdgigjcaolaaGreat
open Go.RowKit

/-- A Disk in state s in block b; what has come since w0 is its own, or in K. -/
structure DL (w0 : World) (K : Nat → Prop) (w : World) (b : Nat) (N : Nat) (s : DSt) : Prop where
  dk : ∃ S, Dk w b S N s ∧ ∀ j, S j → w0.heap.size ≤ j ∧ ¬ K j
  held : ∀ j, K j → w0.heap.size ≤ j ∧ j < w.heap.size
  turn : Turn (fun _ => False) w0 w

section
variable {w0 w w' : World} {K : Nat → Prop} {b N : Nat} {s : DSt}

theorem DL.hold (h : DL w0 K w b N s) (t : Turn K w w') : DL w0 (grow K w w') w' b N s := by
  obtain ⟨S, hd, hS⟩ := h.dk
  refine ⟨⟨S, hd.kept t (fun j hj => (hS j hj).2), fun j hj => ⟨(hS j hj).1, fun hk => ?_⟩⟩, fun j hj => ?_, h.turn.trans' t (fun i hi hk => by have := (h.held i hk).1; omega)⟩
  · rcases hk with hk | ⟨hk, _⟩
    · exact (hS j hj).2 hk
    · have := hd.lt j hj
      omega
  · rcases hj with hk | ⟨h1, h2⟩
    · have h3 := h.held j hk
      have h4 := t.size
      exact ⟨h3.1, by omega⟩
    · have := h.turn.size
      exact ⟨by omega, h2⟩

theorem DL.new (h : DL w0 K w b N s) (t : Turn (fun _ => False) w w') : DL w0 (grow K w w') w' b N s := h.hold (t.mono (fun _ _ h => h.elim))

theorem DL.mono {N' : Nat} (h : DL w0 K w b N s) (hN : N ≤ N') : DL w0 K w b N' s := by
  obtain ⟨S, hd, hS⟩ := h.dk
  exact ⟨⟨S, hd.mono (fun _ h => h) hd.lt hN, hS⟩, h.held, h.turn⟩

end

section
variable {w0 w : World} {K : Nat → Prop} {b N : Nat} {s : DSt}

theorem dl_new (hK : ∀ j, K j → w0.heap.size ≤ j ∧ j < w.heap.size) (t : Turn (fun _ => False) w0 w) : Calls Tryz.prog 8 #[] w fun e w' => e = .returned (.pointer (some ⟨w.heap.size, 0, none⟩)) ∧ DL w0 K w' w.heap.size 0 DSt.zero ∧ Turn (fun _ => False) w w' := by
  refine (dskNew_any w).mono ?_
  rintro e w' ⟨rfl, hd, t2⟩
  refine ⟨rfl, ⟨⟨_, hd, fun j hj => ?_⟩, fun j hj => ⟨(hK j hj).1, Nat.lt_of_lt_of_le (hK j hj).2 t2.size⟩, t.trans t2⟩, t2⟩
  subst hj
  exact ⟨t.size, fun hk => by have := (hK _ hk).2; omega⟩

theorem dl_append (f : Int) (v : Value) (bs : List UInt8) (h : DL w0 K w b N s) (hs : Sees w v bs) (hv : 0 < bs.length → ∀ k, slab v = some k → k < w0.heap.size ∨ K k) (hN : N ≤ 1073741823) (hsz : (s.now f).length + bs.length ≤ 140737488355328) :
    Calls Tryz.prog 14 #[.pointer (some ⟨b, 0, none⟩), .int .i64 f, v] w fun e w' => e = .returned (.int .i64 (s.add f bs).1) ∧ DL w0 K w' b (N + 1) (s.add f bs).2 ∧ Turn (fun j => w0.heap.size ≤ j ∧ ¬ K j) w w' := by
  obtain ⟨S, hd, hS⟩ := h.dk
  refine (append_any f v bs hd hs (fun h0 k hk hSk => by
    rcases hv h0 k hk with h1 | h1
    · have := (hS k hSk).1; omega
    · exact (hS k hSk).2 h1) hN hsz).mono ?_
  rintro e w' ⟨rfl, h1⟩
  refine ⟨rfl, ?_⟩
  have tS := h1.2
  refine ⟨⟨⟨_, h1.1, fun j hj => ?_⟩, fun j hj => ⟨(h.held j hj).1, Nat.lt_of_lt_of_le (h.held j hj).2 tS.size⟩, h.turn.trans' tS (fun i hi hk => by have := (hS i hk).1; omega)⟩, tS.mono (fun i _ hi => hS i hi)⟩
  rcases hj with hj | ⟨hj, _⟩
  · exact hS j hj
  · have := h.turn.size
    exact ⟨by omega, fun hk => by have := (h.held j hk).2; omega⟩

theorem dl_of (fn : FuncId) (args : Array Value) (r : Value) (s' : DSt) (N' : Nat) (h : DL w0 K w b N s) (hc : ∀ S, Dk w b S N s → Calls Tryz.prog fn args w fun e w' => e = .returned r ∧ (DkTo w b S N' s' w' ∨ (Dk w' b S N' s' ∧ Turn S w w'))) :
    Calls Tryz.prog fn args w fun e w' => e = .returned r ∧ DL w0 K w' b N' s' ∧ Turn (fun j => w0.heap.size ≤ j ∧ ¬ K j) w w' := by
  obtain ⟨S, hd, hS⟩ := h.dk
  refine (hc S hd).mono ?_
  rintro e w' ⟨rfl, h1⟩
  refine ⟨rfl, ?_⟩
  have tS : Turn S w w' := h1.elim (fun h => h.2) (fun h => h.2)
  have hsub : ∃ S', Dk w' b S' N' s' ∧ ∀ j, S' j → S j ∨ w.heap.size ≤ j := h1.elim (fun h => ⟨_, h.1, fun j hj => hj.imp id (fun h => h.1)⟩) (fun h => ⟨S, h.1, fun j hj => .inl hj⟩)
  obtain ⟨S', hd', hS'⟩ := hsub
  refine ⟨⟨⟨S', hd', fun j hj => ?_⟩, fun j hj => ⟨(h.held j hj).1, Nat.lt_of_lt_of_le (h.held j hj).2 tS.size⟩, h.turn.trans' tS (fun i hi hk => by have := (hS i hk).1; omega)⟩, tS.mono (fun i _ hi => hS i hi)⟩
  rcases hS' j hj with hj | hj
  · exact hS j hj
  · have := h.turn.size
    exact ⟨by omega, fun hk => by have := (h.held j hk).2; omega⟩

theorem dl_remove (f : Int) (h : DL w0 K w b N s) (hN : N ≤ 1073741823) :
    Calls Tryz.prog 61 #[.pointer (some ⟨b, 0, none⟩), .int .i64 f] w fun e w' => e = .returned (.int .i64 (s.rem f).1) ∧ DL w0 K w' b (N + 1) (s.rem f).2 ∧ Turn (fun j => w0.heap.size ≤ j ∧ ¬ K j) w w' :=
  dl_of _ _ _ _ _ h (fun _ hd => (remove_any f hd hN).mono (fun _ _ h => ⟨h.1, .inl h.2⟩))

theorem dl_sync (h : DL w0 K w b N s) (hN : N ≤ 1073741823) :
    Calls Tryz.prog 16 #[.pointer (some ⟨b, 0, none⟩)] w fun e w' => e = .returned (.int .i64 s.sync.1) ∧ DL w0 K w' b (N + 1) s.sync.2 ∧ Turn (fun j => w0.heap.size ≤ j ∧ ¬ K j) w w' :=
  dl_of _ _ _ _ _ h (fun _ hd => (sync_any hd (by omega)).mono (fun _ _ h => ⟨h.1, .inr h.2⟩))

theorem dl_fuse (n : Int) (h : DL w0 K w b N s) (h0 : -9223372036854775808 ≤ n) (h1 : n ≤ 9223372036854775807) :
    Calls Tryz.prog 28 #[.pointer (some ⟨b, 0, none⟩), .int .i64 n] w fun e w' => e = .returned (.tuple #[]) ∧ DL w0 K w' b N (s.fuse n) ∧ Turn (fun j => w0.heap.size ≤ j ∧ ¬ K j) w w' :=
  dl_of _ _ _ _ _ h (fun _ hd => (fuse_any n hd h0 h1).mono (fun _ _ h => ⟨h.1, .inr h.2⟩))

theorem dl_crash (done cut : Int) (h : DL w0 K w b N s) (hN : N ≤ 1073741823) (hbig : ∀ k bs, DOp.lay k bs ∈ s.ops → bs.length ≤ 140737488355328) :
    Calls Tryz.prog 39 #[.pointer (some ⟨b, 0, none⟩), .int .i64 done, .int .i64 cut] w fun e w' => e = .returned (.tuple #[]) ∧ DL w0 K w' b N (s.crash done cut) ∧ Turn (fun j => w0.heap.size ≤ j ∧ ¬ K j) w w' :=
  dl_of _ _ _ _ _ h (fun _ hd => (crash_any done cut hd hN hbig).mono (fun _ _ h => ⟨h.1, .inl h.2⟩))

theorem dl_dead (h : DL w0 K w b N s) : Calls Tryz.prog 38 #[.pointer (some ⟨b, 0, none⟩)] w fun e w' => e = .returned (.bool s.dead) ∧ w = w' := by
  obtain ⟨S, hd, _⟩ := h.dk
  exact dead_any hd

theorem dl_works (h : DL w0 K w b N s) : Calls Tryz.prog 43 #[.pointer (some ⟨b, 0, none⟩)] w fun e w' => e = .returned (.int .i64 s.works) ∧ w = w' := by
  obtain ⟨S, hd, _⟩ := h.dk
  exact works_any hd

theorem dl_read (k : Int) (h : DL w0 K w b N s) (hN : N ≤ 1073741823) (hk : (s.now k).length ≤ 140737488355328) :
    Calls Tryz.prog 59 #[.pointer (some ⟨b, 0, none⟩), .int .i64 k] w fun e w' => ∃ v, e = .returned v ∧ Made w v (s.read k) w' ∧ DL w0 (grow K w w') w' b N s := by
  obtain ⟨S, hd, _⟩ := h.dk
  refine (read_any k hd (by omega) hk).mono ?_
  rintro e w' ⟨v, rfl, hm⟩
  exact ⟨v, rfl, hm, h.new hm.2.1⟩

theorem dl_files (h : DL w0 K w b N s) (hN : N ≤ 1073741823) :
    Calls Tryz.prog 57 #[.pointer (some ⟨b, 0, none⟩)] w fun e w' => ∃ v l, e = .returned v ∧ MadeI w v l w' ∧ s.Nums l ∧ l.length ≤ N ∧ DL w0 (grow K w w') w' b N s := by
  obtain ⟨S, hd, _⟩ := h.dk
  refine (files_any hd (by omega)).mono ?_
  rintro e w' ⟨v, l, rfl, hm, hn, hl⟩
  exact ⟨v, l, rfl, hm, hn, hl, h.new hm.2.1⟩

/-- Bytes of a constant text, for a Disk's law. -/
theorem dl_lit (bs : List UInt8) (h : DL w0 K w b N s) (hb : 0 < bs.length) (hl : bs.length ≤ maxLen) :
    ∃ w', (convert 29 29 (.slice (some ⟨w.heap.size, 0, none⟩) bs.length bs.length)).run Tryz.prog (w.alloc (.cells (u8s bs).toArray 5)) = .ok (.slice (some ⟨w.heap.size, 0, none⟩) bs.length bs.length) w' ∧
      Sees w' (.slice (some ⟨w.heap.size, 0, none⟩) bs.length bs.length) bs ∧ Turn (fun _ => False) w w' ∧ DL w0 (grow K w w') w' b N s ∧ grow K w w' w.heap.size := by
  obtain ⟨w', hcv, hs, t⟩ := run_lit w bs hl
  refine ⟨w', hcv, hs, t, h.new t, .inr ⟨Nat.le_refl _, ?_⟩⟩
  rcases hs with ⟨h0, _⟩ | ⟨a, cap, e, _, _, hc⟩
  · simp at h0
  · have := World.block_lt_of_cell? _ _ (hc 0 ((u8s bs)[0]'(by rw [u8s_length]; exact hb)) (List.getElem?_eq_getElem _))
    rw [addr_add_block] at this
    injection e with e1
    injection e1 with e1
    rw [← e1] at this
    exact this

/-- Numbers that the law holds. -/
structure HeldI (K : Nat → Prop) (w : World) (v : Value) (l : List Int) : Prop where
  own : OwnsC 3 w v (i64s l)
  mem : ∀ k, v.ownBlock = some k → K k

theorem HeldI.disk {w' : World} {v : Value} {l : List Int} (h : HeldI K w v l) (t : Turn (fun j => w0.heap.size ≤ j ∧ ¬ K j) w w') : HeldI K w' v l := ⟨h.own.kept t (fun k hk e => e.2 (h.mem k hk)), h.mem⟩

theorem HeldI.new {w' : World} {v : Value} {l : List Int} (h : HeldI K w v l) (t : Turn (fun _ => False) w w') : HeldI (grow K w w') w' v l := ⟨h.own.kept t (fun _ _ h => h), fun k hk => .inl (h.mem k hk)⟩

theorem MadeI.held {w' : World} {v : Value} {l : List Int} (h : MadeI w v l w') : HeldI (grow K w w') w' v l := ⟨h.1, fun k hk => .inr ⟨h.2.2 k hk, h.1.lt hk⟩⟩

/-- Two rising lists with the same members are the same. -/
theorem rise_same : ∀ {a b : List Int}, a.Pairwise (· < ·) → b.Pairwise (· < ·) → (∀ k, k ∈ a ↔ k ∈ b) → a = b
  | [], [], _, _, _ => rfl
  | [], y :: r, _, _, h => by have := (h y).2 (by simp); simp at this
  | x :: r, [], _, _, h => by have := (h x).1 (by simp); simp at this
  | x :: r, y :: q, ha, hb, h => by
    rw [List.pairwise_cons] at ha hb
    have hxy : x = y := by
      have h1 : x ∈ y :: q := (h x).1 (by simp)
      have h2 : y ∈ x :: r := (h y).2 (by simp)
      rcases List.mem_cons.1 h1 with h1 | h1
      · exact h1
      · rcases List.mem_cons.1 h2 with h2 | h2
        · exact h2.symm
        · have := ha.1 y h2
          have := hb.1 x h1
          omega
    subst hxy
    congr 1
    refine rise_same ha.2 hb.2 (fun k => ⟨fun hk => ?_, fun hk => ?_⟩)
    · have h1 := (h k).1 (by simp [hk])
      rcases List.mem_cons.1 h1 with h1 | h1
      · have := ha.1 k hk; omega
      · exact h1
    · have h1 := (h k).2 (by simp [hk])
      rcases List.mem_cons.1 h1 with h1 | h1
      · have := hb.1 k hk; omega
      · exact h1

theorem DSt.Nums.eq {l l' : List Int} (h : s.Nums l) (hp : l'.Pairwise (· < ·)) (hm : ∀ k, k ∈ l' ↔ s.read k ≠ []) : l = l' := rise_same h.1 hp (fun k => by rw [h.2 k, hm k])

end

end Go.Proofs.YtnipdgigjcaolaaGreat

/- Chapter 5's example, and the law DiskKnown. -/
namespace Go.Proofs.YtnipdgigjcaolaaGreat
open Go.RowKit

namespace kn
def k1 : DSt := (DSt.zero.add (-1) []).2
def k2 : DSt := (k1.add 1 [120]).2
def k3 : DSt := (k2.add 0 [121]).2
def k4 : DSt := k3.sync.2
def k5 : DSt := (k4.rem 1).2
def k6 : DSt := k5.crash 0 0
def k7 : DSt := k6.fuse 1
def k8 : DSt := (k7.add 2 [122]).2
def k9 : DSt := k8.sync.2
def k10 : DSt := (k9.add 2 []).2
def k11 : DSt := k10.crash 1 0
def k12 : DSt := k11.sync.2

theorem read3 (k : Int) : k3.read k = if k = 0 then [121] else if k = 1 then [120] else [] := rfl
theorem read5 (k : Int) : k5.read k = if k = 1 then [] else if k = 0 then [121] else if k = 1 then [120] else [] := rfl
theorem read6 (k : Int) : k6.read k = if k = 0 then [121] else if k = 1 then [120] else [] := rfl

theorem nums3 {l : List Int} (h : k3.Nums l) : l = [0, 1] := h.eq (by simp) (fun k => by
  rw [read3]
  by_cases h0 : k = 0
  · subst h0; simp
  · by_cases h1 : k = 1
    · subst h1; simp
    · simp [h0, h1])

theorem nums5 {l : List Int} (h : k5.Nums l) : l = [0] := h.eq (by simp) (fun k => by
  rw [read5]
  by_cases h0 : k = 0
  · subst h0; simp
  · by_cases h1 : k = 1
    · subst h1; simp
    · simp [h0, h1])

theorem nums6 {l : List Int} (h : k6.Nums l) : l = [0, 1] := h.eq (by simp) (fun k => by
  rw [read6]
  by_cases h0 : k = 0
  · subst h0; simp
  · by_cases h1 : k = 1
    · subst h1; simp
    · simp [h0, h1])
end kn

end Go.Proofs.YtnipdgigjcaolaaGreat

/- What the plain calls make of a state that is not down. -/
namespace Go.Proofs.YtnipdgigjcaolaaGreat

theorem add_down {s : DSt} (h : s.down = false) (f : Int) (hf : 0 ≤ f) (bs : List UInt8) : s.add f bs = (0, s.lays f bs) := by
  unfold DSt.add
  rw [if_neg (by omega), h, if_neg (by simp)]

theorem rem_down {s : DSt} (h : s.down = false) (f : Int) (hf : 0 ≤ f) : s.rem f = (0, s.rems f) := by
  unfold DSt.rem
  rw [if_neg (by omega), h, if_neg (by simp)]

theorem sync_down {s : DSt} (h : s.down = false) : s.sync = (0, s.safe) := by
  unfold DSt.sync
  rw [h, if_neg (by simp)]

theorem lays_now (s : DSt) (f : Int) (bs : List UInt8) : (s.lays f bs).now = fput s.now f (s.now f ++ bs) := by
  unfold DSt.lays
  split
  · subst_vars
    show s.now = _
    rw [List.append_nil, fput_same]
  · rw [acts_push]
    rfl

theorem rems_now (s : DSt) (f : Int) : (s.rems f).now = fput s.now f [] := by
  unfold DSt.rems
  split
  · rename_i h
    show s.now = _
    rw [← h, fput_same]
  · rw [acts_push]
    rfl

theorem lays_dead (s : DSt) (f : Int) (bs : List UInt8) : (s.lays f bs).dead = s.dead ∧ (s.lays f bs).fused = s.fused := by
  unfold DSt.lays
  split <;> exact ⟨rfl, rfl⟩

theorem rems_dead (s : DSt) (f : Int) : (s.rems f).dead = s.dead ∧ (s.rems f).fused = s.fused := by
  unfold DSt.rems
  split <;> exact ⟨rfl, rfl⟩

theorem lays_down {s : DSt} (hd : s.dead = false) (hf : s.fused = false) (f : Int) (bs : List UInt8) : (s.lays f bs).down = false := by
  unfold DSt.down
  rw [(lays_dead s f bs).1, (lays_dead s f bs).2, hd, hf]
  rfl

/-- A Crash that leaves nothing of what pends. -/
theorem crash_none (s : DSt) (o : DOp) (h : s.ops = [o]) : (s.crash 0 0).base = s.base := by
  unfold DSt.crash
  show crashed s.base s.ops _ 0 = _
  rw [h, Int.zero_emod]
  cases o with
  | lay k bs =>
    unfold crashed
    simp [acts, partOf, fput_same]
  | rem k => rfl

theorem crash_nil (s : DSt) (h : s.ops = []) : (s.crash 0 0).base = s.base := by
  unfold DSt.crash
  show crashed s.base s.ops _ 0 = _
  rw [h]
  rfl

end Go.Proofs.YtnipdgigjcaolaaGreat

/- Lists of bytes, and of flags, that came in: what they show, and that it stays. -/
namespace Go.Proofs.YtnipdgigjcaolaaGreat
open Go.RowKit

/-- A list of slices of bytes that came in, all of it below B. -/
def ListAt (w : World) (B : Nat) (v : Value) (l : List (Value × List UInt8)) : Prop :=
  (v = .slice none 0 0 ∧ l = []) ∨
  ∃ a cap, v = .slice (some a) l.length cap ∧ l.length ≤ maxLen ∧ ∀ k (hk : k < l.length), a.block < B ∧ w.cell? (a.add k) = some l[k].1 ∧ Sees w l[k].1 l[k].2 ∧ (0 < l[k].2.length → ∀ j, slab l[k].1 = some j → j < B)

theorem ListAt.kept {S : Nat → Prop} {w w' : World} {B : Nat} {v : Value} {l : List (Value × List UInt8)} (h : ListAt w B v l) (ht : Turn S w w') (hB : B ≤ w.heap.size) (hS : ∀ k, k < B → ¬ S k) : ListAt w' B v l := by
  rcases h with h | ⟨a, cap, rfl, hm, hc⟩
  · exact .inl h
  · refine .inr ⟨a, cap, rfl, hm, fun k hk => ?_⟩
    obtain ⟨h1, h2, h3, h4⟩ := hc k hk
    refine ⟨h1, ?_, h3.kept' ht (fun h0 j hj => hS j (h4 h0 j hj)), h4⟩
    rw [ht.cell (by rw [addr_add_block]; omega) (by rw [addr_add_block]; exact hS _ h1)]
    exact h2

theorem ListAt.shape {w : World} {B : Nat} {v : Value} {l : List (Value × List UInt8)} (h : ListAt w B v l) : ∃ ao cap, v = .slice ao l.length cap ∧ l.length ≤ maxLen := by
  rcases h with ⟨rfl, rfl⟩ | ⟨a, cap, rfl, hm, _⟩
  · exact ⟨none, 0, rfl, by simp⟩
  · exact ⟨_, _, rfl, hm⟩

theorem ListAt.at {w : World} {B : Nat} {ao : Option Addr} {n cap : Nat} {l : List (Value × List UInt8)} (h : ListAt w B (.slice ao n cap) l) (k : Nat) (hk : k < l.length) :
    ∃ a, ao = some a ∧ w.cell? (a.add k) = some l[k].1 ∧ Sees w l[k].1 l[k].2 ∧ (0 < l[k].2.length → ∀ j, slab l[k].1 = some j → j < B) ∧ a.block < B := by
  rcases h with ⟨_, rfl⟩ | ⟨a, cap, e, hm, hc⟩
  · simp at hk
  · simp only [Value.slice.injEq] at e
    obtain ⟨h1, h2, h3, h4⟩ := hc k hk
    exact ⟨a, e.1, h2, h3, h4, h1⟩

/-- A list of flags that came in, below B. -/
def FlagsAt (w : World) (B : Nat) (v : Value) (l : List Bool) : Prop :=
  (v = .slice none 0 0 ∧ l = []) ∨
  ∃ a cap, v = .slice (some a) l.length cap ∧ l.length ≤ maxLen ∧ ∀ k (hk : k < l.length), a.block < B ∧ w.cell? (a.add k) = some (.bool l[k])

theorem FlagsAt.kept {S : Nat → Prop} {w w' : World} {B : Nat} {v : Value} {l : List Bool} (h : FlagsAt w B v l) (ht : Turn S w w') (hB : B ≤ w.heap.size) (hS : ∀ k, k < B → ¬ S k) : FlagsAt w' B v l := by
  rcases h with h | ⟨a, cap, rfl, hm, hc⟩
  · exact .inl h
  · refine .inr ⟨a, cap, rfl, hm, fun k hk => ?_⟩
    obtain ⟨h1, h2⟩ := hc k hk
    refine ⟨h1, ?_⟩
    rw [ht.cell (by rw [addr_add_block]; omega) (by rw [addr_add_block]; exact hS _ h1)]
    exact h2

theorem FlagsAt.shape {w : World} {B : Nat} {v : Value} {l : List Bool} (h : FlagsAt w B v l) : ∃ ao cap, v = .slice ao l.length cap ∧ l.length ≤ maxLen := by
  rcases h with ⟨rfl, rfl⟩ | ⟨a, cap, rfl, hm, _⟩
  · exact ⟨none, 0, rfl, by simp⟩
  · exact ⟨_, _, rfl, hm⟩

theorem FlagsAt.at {w : World} {B : Nat} {ao : Option Addr} {n cap : Nat} {l : List Bool} (h : FlagsAt w B (.slice ao n cap) l) (k : Nat) (hk : k < l.length) :
    ∃ a, ao = some a ∧ w.cell? (a.add k) = some (.bool l[k]) := by
  rcases h with ⟨_, rfl⟩ | ⟨a, cap, e, hm, hc⟩
  · simp at hk
  · simp only [Value.slice.injEq] at e
    exact ⟨a, e.1, (hc k hk).2⟩

end Go.Proofs.YtnipdgigjcaolaaGreat

/- What an argument that is a slice of bytes, of slices of bytes, or of flags, shows of memory. -/
namespace Go.Proofs.YtnipdgigjcaolaaGreat
open Go.ChangeShapes Go.WideShapes Go.ChangeAt Go.RowKit Go.Deep

theorem Tryz.cellsU8 : Tryz.prog.cellsOf 5 = 1 := by kernel_rfl

section
variable {H : Type}

theorem bulk_one (d : DataW H) : 1 ≤ Rows.uptoBulk d := by
  cases d with
  | lit l => cases l <;> simp [Rows.uptoBulk]
  | nil => simp [Rows.uptoBulk]
  | ptr d => simp [Rows.uptoBulk]
  | slice elems spare => simp [Rows.uptoBulk]
  | agg parts => simp [Rows.uptoBulk]
  | iface t d => simp [Rows.uptoBulk]
  | map entries => simp [Rows.uptoBulk]
  | held h => simp [Rows.uptoBulk]

theorem bulk_length : ∀ l : List (DataW H), l.length ≤ Rows.uptoBulkAll l
  | [] => by simp [Rows.uptoBulkAll]
  | x :: r => by
    have h1 := bulk_one x
    have h2 := bulk_length r
    simp only [Rows.uptoBulkAll, List.length_cons]
    omega

theorem bulk_part {d : DataW H} : ∀ {l : List (DataW H)}, d ∈ l → Rows.uptoBulk d ≤ Rows.uptoBulkAll l
  | x :: r, h => by
    simp only [Rows.uptoBulkAll]
    rcases List.mem_cons.1 h with e | e
    · subst e; omega
    · have := bulk_part e; omega

/-- A datum that is a slice of so many elements, or nil. -/
def Long (d : DataW H) (n : Nat) : Prop := (d = .nil ∧ n = 0) ∨ ∃ elems spare, d = .slice elems spare ∧ elems.length = n

theorem Long.bulk {d : DataW H} {n : Nat} (h : Long d n) : n ≤ Rows.uptoBulk d := by
  rcases h with ⟨rfl, rfl⟩ | ⟨elems, spare, rfl, rfl⟩
  · omega
  · have := bulk_length elems
    simp only [Rows.uptoBulk]
    omega

end

section
variable {H : Type} {enc : TypeId × Value → H} {W : World}

theorem byte_wf {n : Int} (h : (Lit.int .u8 n).wf = true) : ((UInt8.ofNat n.toNat).toNat : Int) = n := by
  have hb := bounds_u8 h
  rw [UInt8.toNat_ofNat']
  omega

/-- A slice of bytes that is read as data: what it shows, and that its bytes lie below the world's end. -/
theorem open_bytes {fuel : Nat} {c : Value} {x : DataW H × List MemPlace} (h : DataW.trod enc Tryz.prog W 0 (fun _ => true) true fuel 29 [c] = some x) :
    ∃ bs : List UInt8, Sees W c bs ∧ (0 < bs.length → ∀ k, slab c = some k → k < W.heap.size) ∧ Long x.1 bs.length := by
  rcases open_ints Tryz.underlying29 Tryz.underlying5 Tryz.cellsU8 h with ⟨hcs, hx⟩ | ⟨a, len, cap, zs, hcs, _, hl, hm, hz, hx, hcell, hwz⟩
  · injection hcs with hcs
    subst hcs
    exact ⟨[], Sees.nil W, fun h => by simp at h, .inl ⟨by rw [hx], rfl⟩⟩
  · injection hcs with hcs
    subst hcs
    simp only [if_true] at hz
    refine ⟨(zs.take len).map (fun n => UInt8.ofNat n.toNat), ?_, ?_, .inr ⟨_, _, by rw [hx], by simp [lits]⟩⟩
    · refine .inr ⟨a, cap, by simp; omega, by simp; omega, hm, fun j u hj => ?_⟩
      have hjl : j < len := by
        have := (List.getElem?_eq_some_iff.1 hj).1
        simp [u8s] at this
        omega
      rw [hcell j (by omega)]
      rw [← hj]
      have hzj : zs[j]? = some (zs.getD j 0) := by
        rw [List.getD_eq_getElem?_getD, List.getElem?_eq_getElem (show j < zs.length by omega)]
        rfl
      have hmem : zs.getD j 0 ∈ zs := List.mem_of_getElem? hzj
      simp only [u8s, List.map_map, List.getElem?_map, List.getElem?_take, hjl, if_true, hzj, Option.map_some, Function.comp]
      rw [byte_wf (hwz _ hmem)]
    · intro h0 k hk
      simp only [slab, Option.some.injEq] at hk
      subst hk
      have h1 : 0 < zs.length := by simp at h0; omega
      have := World.block_lt_of_cell? _ _ (hcell 0 h1)
      rwa [addr_add_block] at this

theorem list_of {α : Type} {p : Nat → α → Prop} : ∀ n : Nat, (∀ i, i < n → ∃ x, p i x) → ∃ xs : List α, xs.length = n ∧ ∀ i (h : i < xs.length), p i xs[i]
  | 0, _ => ⟨[], rfl, fun i h => by simp at h⟩
  | n + 1, h => by
    obtain ⟨xs, hl, hx⟩ := list_of n (fun i hi => h i (by omega))
    obtain ⟨y, hy⟩ := h n (by omega)
    refine ⟨xs ++ [y], by simp [hl], fun i hi => ?_⟩
    by_cases hi' : i < xs.length
    · rw [List.getElem_append_left hi']
      exact hx i hi'
    · have e : i = xs.length := by simp at hi; omega
      subst e
      simp only [List.getElem_concat_length]
      rw [hl]
      exact hy

end

end Go.Proofs.YtnipdgigjcaolaaGreat

/- What an argument that is a list of slices of bytes, or of flags, shows of memory. -/
namespace Go.Proofs.YtnipdgigjcaolaaGreat
open Go.ChangeShapes Go.WideShapes Go.ChangeAt Go.RowKit Go.Deep

theorem Tryz.cellsBytes1 : Tryz.prog.cellsOf 29 = 1 := by kernel_rfl

section
variable {H : Type} {enc : TypeId × Value → H} {W : World}

/-- A list of slices of bytes that is read as data. -/
theorem open_list {fuel : Nat} {c : Value} {x : DataW H × List MemPlace} (h : DataW.trod enc Tryz.prog W 0 (fun _ => true) true fuel 22 [c] = some x) : ∃ l, ListAt W W.heap.size c l := by
  rcases open_slice1 Tryz.underlying22 Tryz.cellsBytes1 h with ⟨hcs, _⟩ | ⟨a, len, cap, m, n, V, D, Pl, hcs, _, hl, hm, hmm, _, hel⟩
  · injection hcs with hcs
    subst hcs
    exact ⟨[], .inl ⟨rfl, rfl⟩⟩
  · injection hcs with hcs
    subst hcs
    simp only [if_true] at hmm
    subst hmm
    have each : ∀ i, i < len → ∃ p : Value × List UInt8, a.block < W.heap.size ∧ W.cell? (a.add i) = some p.1 ∧ Sees W p.1 p.2 ∧ (0 < p.2.length → ∀ j, slab p.1 = some j → j < W.heap.size) := by
      intro i hi
      obtain ⟨hc, ht⟩ := hel i (by omega)
      obtain ⟨bs, hsee, hslab, _⟩ := open_bytes ht
      have := World.block_lt_of_cell? _ _ hc
      rw [addr_add_block] at this
      exact ⟨(V i, bs), this, hc, hsee, hslab⟩
    obtain ⟨xs, hxl, hxs⟩ := list_of len each
    subst hxl
    exact ⟨xs, .inr ⟨a, _, rfl, by omega, fun k hk => hxs k hk⟩⟩

/-- A list of slices of bytes that is read as data: none of them is longer than what is read. -/
theorem open_list_bulk {fuel : Nat} {c : Value} {x : DataW H × List MemPlace} (h : DataW.trod enc Tryz.prog W 0 (fun _ => true) true fuel 22 [c] = some x) : ∃ l, ListAt W W.heap.size c l ∧ ∀ k (hk : k < l.length), l[k].2.length ≤ Rows.uptoBulk x.1 := by
  rcases open_slice1 Tryz.underlying22 Tryz.cellsBytes1 h with ⟨hcs, _⟩ | ⟨a, len, cap, m, n, V, D, Pl, hcs, _, hl, hm, hmm, hx, hel⟩
  · injection hcs with hcs
    subst hcs
    exact ⟨[], .inl ⟨rfl, rfl⟩, fun k hk => by simp at hk⟩
  · injection hcs with hcs
    subst hcs
    simp only [if_true] at hmm
    subst hmm
    have each : ∀ i, i < len → ∃ p : Value × List UInt8, (a.block < W.heap.size ∧ W.cell? (a.add i) = some p.1 ∧ Sees W p.1 p.2 ∧ (0 < p.2.length → ∀ j, slab p.1 = some j → j < W.heap.size)) ∧ p.2.length ≤ Rows.uptoBulk x.1 := by
      intro i hi
      obtain ⟨hc, ht⟩ := hel i (by omega)
      obtain ⟨bs, hsee, hslab, hlong⟩ := open_bytes ht
      have := World.block_lt_of_cell? _ _ hc
      rw [addr_add_block] at this
      refine ⟨(V i, bs), ⟨this, hc, hsee, hslab⟩, ?_⟩
      have h3 := hlong.bulk
      have h6 := bulk_part (d := D i) (l := (List.range len).map D) (List.mem_map.2 ⟨i, List.mem_range.2 hi, rfl⟩)
      rw [hx]
      simp only [Rows.uptoBulk]
      simp only at h3
      omega
    obtain ⟨xs, hxl, hxs⟩ := list_of len each
    subst hxl
    exact ⟨xs, .inr ⟨a, _, rfl, by omega, fun k hk => (hxs k hk).1⟩, fun k hk => (hxs k hk).2⟩

end

end Go.Proofs.YtnipdgigjcaolaaGreat

/- What an argument that is a list of numbers shows of memory. -/
namespace Go.Proofs.YtnipdgigjcaolaaGreat
open Go.ChangeShapes Go.WideShapes Go.ChangeAt Go.RowKit Go.Deep

theorem Tryz.cellsInt2 : Tryz.prog.cellsOf 3 = 1 := by kernel_rfl

section
variable {H : Type} {enc : TypeId × Value → H} {W : World}

/-- A list of numbers that is read as data. -/
theorem open_ints {fuel : Nat} {c : Value} {x : DataW H × List MemPlace} (h : DataW.trod enc Tryz.prog W 0 (fun _ => true) true fuel 23 [c] = some x) : ∃ l, IntsAt W W.heap.size c l := by
  rcases open_slice1 Tryz.underlying23 Tryz.cellsInt2 h with ⟨hcs, _⟩ | ⟨a, len, cap, m, n, V, D, Pl, hcs, _, hl, hm, hmm, _, hel⟩
  · injection hcs with hcs
    subst hcs
    exact ⟨[], .inl ⟨rfl, rfl⟩⟩
  · injection hcs with hcs
    subst hcs
    simp only [if_true] at hmm
    subst hmm
    have each : ∀ i, i < len → ∃ p : Int, a.block < W.heap.size ∧ W.cell? (a.add i) = some (.int .i64 p) := by
      intro i hi
      obtain ⟨hc, ht⟩ := hel i (by omega)
      obtain ⟨f, hf, _⟩ := DataW.trod_int Tryz.underlying3 ht
      injection hf with hf
      have := World.block_lt_of_cell? _ _ hc
      rw [addr_add_block] at this
      exact ⟨f, this, by rw [hc, hf]⟩
    obtain ⟨xs, hxl, hxs⟩ := list_of len each
    subst hxl
    exact ⟨xs, .inr ⟨a, _, rfl, by omega, fun k hk => hxs k hk⟩⟩

end

end Go.Proofs.YtnipdgigjcaolaaGreat

/- Raw steps in memory: a slice of structs of four numbers and a slice of bytes. -/
namespace Go.Proofs.YtnipdgigjcaolaaGreat
open Go.RowKit

/-- One step: four numbers, a slice of bytes and what it shows. -/
structure StepE where
  what : Int
  file : Int
  n : Int
  cut : Int
  bv : Value
  bs : List UInt8

/-- One step, at its place. -/
structure StepAt (W : World) (B ab off : Nat) (x : StepE) : Prop where
  lt : ab < B
  c0 : W.cell? ⟨ab, off, none⟩ = some (.int .i64 x.what)
  c1 : W.cell? ⟨ab, off + 1, none⟩ = some (.int .i64 x.file)
  c2 : W.cell? ⟨ab, off + 2, none⟩ = some (.int .i64 x.n)
  c3 : W.cell? ⟨ab, off + 3, none⟩ = some (.int .i64 x.cut)
  c4 : W.cell? ⟨ab, off + 4, none⟩ = some x.bv
  sees : Sees W x.bv x.bs
  slabs : 0 < x.bs.length → ∀ j, slab x.bv = some j → j < B

/-- A slice of steps that came in, all of it below B. -/
structure StepsOf (W : World) (B : Nat) (v : Value) (xs : List StepE) : Prop where
  shape : ∃ ao cap, v = .slice ao xs.length cap ∧ xs.length ≤ maxLen
  each : ∀ k (hk : k < xs.length), ∃ ab off cap, v = .slice (some ⟨ab, off, none⟩) xs.length cap ∧ StepAt W B ab (off + k * 5) xs[k]

theorem StepAt.kept {S : Nat → Prop} {w w' : World} {B ab off : Nat} {x : StepE} (h : StepAt w B ab off x) (ht : Turn S w w') (hB : B ≤ w.heap.size) (hS : ∀ k, k < B → ¬ S k) : StepAt w' B ab off x := by
  have hc : ∀ o, w'.cell? ⟨ab, o, none⟩ = w.cell? ⟨ab, o, none⟩ := fun o => ht.cell (p := ⟨ab, o, none⟩) (Nat.lt_of_lt_of_le h.lt hB) (hS ab h.lt)
  exact ⟨h.lt, (hc _).trans h.c0, (hc _).trans h.c1, (hc _).trans h.c2, (hc _).trans h.c3, (hc _).trans h.c4, h.sees.kept' ht (fun h0 j hj => hS j (h.slabs h0 j hj)), h.slabs⟩

theorem StepsOf.kept {S : Nat → Prop} {w w' : World} {B : Nat} {v : Value} {xs : List StepE} (h : StepsOf w B v xs) (ht : Turn S w w') (hB : B ≤ w.heap.size) (hS : ∀ k, k < B → ¬ S k) : StepsOf w' B v xs :=
  ⟨h.shape, fun k hk => by
    obtain ⟨ab, off, cap, e, hs⟩ := h.each k hk
    exact ⟨ab, off, cap, e, hs.kept ht hB hS⟩⟩

end Go.Proofs.YtnipdgigjcaolaaGreat

/- The reference's Disk in memory: lists that are never written to again; its turn. -/
namespace Go.Proofs.YtnipdgigjcaolaaGreat
open Go.RowKit

/-- A list of slices of bytes, all of it in Q. -/
def RL (Q : Nat → Prop) (w : World) (v : Value) (l : List (Value × List UInt8)) : Prop :=
  (v = .slice none 0 0 ∧ l = []) ∨
  ∃ g cap, v = .slice (some ⟨g, 0, none⟩) l.length cap ∧ l.length ≤ cap ∧ cap ≤ maxLen ∧ Q g ∧ (∀ k (hk : k < l.length), w.cell? ⟨g, k, none⟩ = some l[k].1) ∧ ∀ p ∈ l, Sees w p.1 p.2 ∧ (0 < p.2.length → ∀ j, slab p.1 = some j → Q j)

section
variable {Q Q' : Nat → Prop} {w w' : World} {v : Value} {l : List (Value × List UInt8)}

theorem RL.nil (Q : Nat → Prop) (w : World) : RL Q w (.slice none 0 0) [] := .inl ⟨rfl, rfl⟩

theorem RL.kept {S : Nat → Prop} (h : RL Q w v l) (t : Turn S w w') (hS : ∀ j, Q j → ¬ S j) : RL Q w' v l := by
  rcases h with h | ⟨g, cap, rfl, h1, h2, h3, h4, h5⟩
  · exact .inl h
  · refine .inr ⟨g, cap, rfl, h1, h2, h3, fun k hk => ?_, fun p hp => ⟨(h5 p hp).1.kept' t (fun h0 j hj => hS j ((h5 p hp).2 h0 j hj)), (h5 p hp).2⟩⟩
    rw [t.cell (p := ⟨g, k, none⟩) (World.block_lt_of_cell? _ _ (h4 k hk)) (hS g h3)]
    exact h4 k hk

theorem RL.mono (h : RL Q w v l) (hQ : ∀ j, Q j → Q' j) : RL Q' w v l := by
  rcases h with h | ⟨g, cap, rfl, h1, h2, h3, h4, h5⟩
  · exact .inl h
  · exact .inr ⟨g, cap, rfl, h1, h2, hQ g h3, h4, fun p hp => ⟨(h5 p hp).1, fun h0 j hj => hQ j ((h5 p hp).2 h0 j hj)⟩⟩

theorem RL.shape (h : RL Q w v l) : ∃ ao cap, v = .slice ao l.length cap := by
  rcases h with ⟨rfl, rfl⟩ | ⟨g, cap, rfl, _⟩
  · exact ⟨none, 0, rfl⟩
  · exact ⟨_, _, rfl⟩

theorem RL.len (h : RL Q w v l) : l.length ≤ maxLen := by
  rcases h with ⟨rfl, rfl⟩ | ⟨g, cap, rfl, h1, h2, _⟩
  · simp [maxLen]
  · omega

theorem RL.sees (h : RL Q w v l) : SeesC w v (l.map (·.1)) := by
  rcases h with ⟨rfl, rfl⟩ | ⟨g, cap, rfl, h1, h2, h3, h4, h5⟩
  · exact .inl ⟨rfl, rfl⟩
  · refine .inr ⟨⟨g, 0, none⟩, cap, by rw [List.length_map], by rw [List.length_map]; exact h1, h2, fun j u hj => ?_⟩
    rw [List.getElem?_map] at hj
    obtain ⟨p, hp, rfl⟩ := Option.map_eq_some_iff.1 hj
    obtain ⟨hlt, e⟩ := List.getElem?_eq_some_iff.1 hp
    rw [addr_lit, Nat.zero_add, h4 j hlt, e]

theorem RL.each (h : RL Q w v l) : ∀ p ∈ l, Sees w p.1 p.2 ∧ (0 < p.2.length → ∀ j, slab p.1 = some j → Q j) := by
  rcases h with ⟨_, rfl⟩ | ⟨g, cap, rfl, h1, h2, h3, h4, h5⟩
  · intro p hp; simp at hp
  · exact h5

theorem RL.at (h : RL Q w v l) (k : Nat) (hk : k < l.length) : ∃ g cap ao n c, v = .slice (some ⟨g, 0, none⟩) l.length cap ∧ l[k].1 = .slice ao n c ∧ n = l[k].2.length ∧ w.cell? ⟨g, k, none⟩ = some (.slice ao n c) := by
  rcases h with ⟨_, rfl⟩ | ⟨g, cap, rfl, h1, h2, h3, h4, h5⟩
  · simp at hk
  · obtain ⟨ao, c, e⟩ := (h5 l[k] (List.getElem_mem hk)).1.shape
    exact ⟨g, cap, ao, _, c, rfl, e, rfl, by rw [h4 k hk, e]⟩

/-- A row of one's own is such a list. -/
theorem RL.of (ho : OwnsC 29 w v (l.map (·.1))) (hg : ∀ g, v.ownBlock = some g → Q g) (h5 : ∀ p ∈ l, Sees w p.1 p.2 ∧ (0 < p.2.length → ∀ j, slab p.1 = some j → Q j)) : RL Q w v l := by
  rcases ho.shape with ⟨rfl, h0⟩ | ⟨g, cap, rfl, h1, h2⟩
  · exact .inl ⟨rfl, by simpa using h0⟩
  · rw [List.length_map] at *
    refine .inr ⟨g, cap, rfl, h1, h2, hg g rfl, fun k hk => ?_, h5⟩
    have := ho.sees
    rcases this with ⟨h0, _⟩ | ⟨a, cap', e, _, _, hc⟩
    · simp at h0
    · simp only [Value.slice.injEq, Option.some.injEq] at e
      have hh := hc k l[k].1 (by rw [List.getElem?_map, List.getElem?_eq_getElem hk]; rfl)
      rwa [← e.1, addr_lit, Nat.zero_add] at hh

end

/-- Is it a removal? -/
def DOp.isRem : DOp → Bool
  | .lay _ _ => false
  | .rem _ => true

/-- One that pends, with its bytes, all of it in Q. -/
def ROk (Q : Nat → Prop) (w : World) (p : DOp × Value) : Prop :=
  match p.1 with
  | .lay _ bs => Sees w p.2 bs ∧ (0 < bs.length → ∀ j, slab p.2 = some j → Q j)
  | .rem _ => p.2 = .slice none 0 0

theorem ROk.kept {S Q : Nat → Prop} {w w' : World} {p : DOp × Value} (h : ROk Q w p) (t : Turn S w w') (hS : ∀ j, Q j → ¬ S j) : ROk Q w' p := by
  unfold ROk at *
  split
  · rename_i k bs e
    rw [e] at h
    exact ⟨h.1.kept' t (fun h0 j hj => hS j (h.2 h0 j hj)), h.2⟩
  · rename_i k e
    rw [e] at h
    exact h

theorem ROk.mono {Q Q' : Nat → Prop} {w : World} {p : DOp × Value} (h : ROk Q w p) (hQ : ∀ j, Q j → Q' j) : ROk Q' w p := by
  unfold ROk at *
  split
  · rename_i k bs e
    rw [e] at h
    exact ⟨h.1, fun h0 j hj => hQ j (h.2 h0 j hj)⟩
  · rename_i k e
    rw [e] at h
    exact h

theorem ROk.shape {Q : Nat → Prop} {w : World} {p : DOp × Value} (h : ROk Q w p) : ∃ ao n c, p.2 = .slice ao n c ∧ n ≤ maxLen := by
  unfold ROk at h
  split at h
  · obtain ⟨ao, c, e⟩ := h.1.shape
    exact ⟨_, _, _, e, h.1.len⟩
  · exact ⟨_, _, _, h, by simp⟩

/-- Files behind one that pends. -/
def tl (l : List (List UInt8)) (o : DOp) : List (List UInt8) :=
  let p := l ++ List.replicate (o.key.toNat + 1 - l.length) []
  match o with
  | .lay k bs => p.set k.toNat (p.getD k.toNat [] ++ bs)
  | .rem k => p.set k.toNat []

/-- The bytes of a file, by its number. -/
def fil5 (l : List (List UInt8)) : Fs := fun k => if 0 ≤ k then l.getD k.toNat [] else []

theorem getD_pad (l : List (List UInt8)) (n i : Nat) : (l ++ List.replicate n []).getD i [] = l.getD i [] := by
  simp only [List.getD_eq_getElem?_getD]
  by_cases h : i < l.length
  · rw [List.getElem?_append_left h]
  · rw [List.getElem?_append_right (by omega), List.getElem?_eq_none (l := l) (by omega), List.getElem?_replicate]
    split <;> rfl

theorem fil5_set (l : List (List UInt8)) (n : Nat) (k : Int) (hk : 0 ≤ k) (hn : k.toNat < l.length + n) (x : List UInt8) : fil5 ((l ++ List.replicate n []).set k.toNat x) = fput (fil5 l) k x := by
  funext i
  unfold fil5 fput
  by_cases hi : 0 ≤ i
  · rw [if_pos hi]
    by_cases e : i = k
    · subst e
      rw [if_pos rfl, List.getD_eq_getElem?_getD, List.getElem?_set_self (by simpa using hn)]
      rfl
    · rw [if_neg e]
      show _ = if 0 ≤ i then l.getD i.toNat [] else []
      rw [if_pos hi, List.getD_eq_getElem?_getD, List.getElem?_set_ne (by omega), ← List.getD_eq_getElem?_getD, getD_pad]
  · rw [if_neg hi, if_neg (by omega)]
    show _ = if 0 ≤ i then l.getD i.toNat [] else []
    rw [if_neg hi]

theorem fil5_tl (l : List (List UInt8)) (o : DOp) (hk : 0 ≤ o.key) : fil5 (tl l o) = act (fil5 l) o := by
  cases o with
  | lay k bs =>
    have hk' : 0 ≤ k := hk
    show fil5 ((l ++ List.replicate (k.toNat + 1 - l.length) []).set k.toNat ((l ++ List.replicate (k.toNat + 1 - l.length) []).getD k.toNat [] ++ bs)) = fput (fil5 l) k (fil5 l k ++ bs)
    rw [fil5_set _ _ _ hk' (by omega), getD_pad]
    congr 2
    unfold fil5
    rw [if_pos hk']
  | rem k =>
    have hk' : 0 ≤ k := hk
    show fil5 ((l ++ List.replicate (k.toNat + 1 - l.length) []).set k.toNat []) = fput (fil5 l) k []
    rw [fil5_set _ _ _ hk' (by omega)]

theorem tl_length (l : List (List UInt8)) (o : DOp) : (tl l o).length = max l.length (o.key.toNat + 1) := by
  cases o with
  | lay k bs => simp [tl, DOp.key]; omega
  | rem k => simp [tl, DOp.key]; omega

theorem Tryz.infoBytes : (Tryz.prog.info? 29).map (fun i => (i.zero, i.size, i.bytes)) = some (some (.slice none 0 0), 1, 24) := by kernel_rfl

theorem append_lists (w : World) (v : Value) (xs : List Value) (hown : OwnsC 29 w v xs) (sv : Value) (ds : List Value) (hsee : SeesC w sv ds) (hone : ∀ u ∈ ds, u.oneCell' = true) (hb : xs.length + ds.length ≤ 1099511627776) :
    ∃ v' w', (Builtin.append_ #[22, 22] 22 #[v, sv]).run Tryz.prog w = .ok v' w' ∧ OwnsC 29 w' v' (xs ++ ds) ∧ w.grownBy w' v.ownBlock ∧ (v'.ownBlock = v.ownBlock ∨ v'.ownBlock = some w.heap.size) := by
  obtain ⟨i, hi, h⟩ := Option.map_eq_some_iff.1 Tryz.infoBytes
  simp only [Prod.mk.injEq] at h
  exact run_append_cells (P := Tryz.prog) w 22 22 29 i _ 24 Tryz.underlying22 hi h.1 h.2.1 h.2.2 rfl v _ hown sv ds hsee hone (by unfold maxLen; omega) (by omega)

/-- A row of lists of one's own, in new memory. -/
def MadeL (w : World) (v : Value) (cs : List Value) (w' : World) : Prop := OwnsC 29 w' v cs ∧ Turn (fun _ => False) w w' ∧ ∀ k, v.ownBlock = some k → w.heap.size ≤ k

theorem MadeL.more {w w1 w2 wa : World} {v1 v2 : Value} {l l' : List Value} (h : MadeL w v1 l w1) (ta : Turn (fun _ => False) w1 wa) (ho : OwnsC 29 w2 v2 l') (hg : wa.grownBy w2 v1.ownBlock) (hk : v2.ownBlock = v1.ownBlock ∨ v2.ownBlock = some wa.heap.size) : MadeL w v2 l' w2 := by
  refine ⟨ho, (h.2.1.trans ta).grown hg (fun k hk => .inr (h.2.2 k hk)), fun k e => ?_⟩
  rcases hk with hk | hk
  · exact h.2.2 k (hk ▸ e)
  · rw [hk] at e
    injection e with e
    have := (h.2.1.trans ta).size
    omega

theorem MadeL.shape {w w' : World} {v : Value} {l : List Value} (h : MadeL w v l w') : ∃ ao c, v = .slice ao l.length c := by
  rcases h.1.shape with ⟨rfl, h0⟩ | ⟨g, cap, rfl, _⟩
  · exact ⟨none, 0, by rw [h0]; rfl⟩
  · exact ⟨_, _, rfl⟩

end Go.Proofs.YtnipdgigjcaolaaGreat
