/- What stands below the proof, in one text. -/
import Derived.Test.YtnipdgigjcaolaaGreatR5T
import Derived.Deep.RegionWith
import Derived.Deep.DeepMust
import Derived.Test.YtnipdgigjcaolaaGreatPkC
/- The reference's Disk: its methods. -/
namespace Go.Proofs.YtnipdgigjcaolaaGreat
open Go.RowKit

/-- The reference's Disk, plainly. -/
structure RSt where
  kept : List (List UInt8)
  pend : List DOp
  fuse : Int
  dead : Bool
  works : Nat

/-- What pends, in memory. -/
def RP (Q : Nat → Prop) (w : World) (v : Value) (l : List (DOp × Value)) : Prop :=
  (v = .slice none 0 0 ∧ l = []) ∨
  ∃ g cap, v = .slice (some ⟨g, 0, none⟩) l.length cap ∧ l.length ≤ cap ∧ cap ≤ maxLen ∧ Q g ∧
    (∀ k (hk : k < l.length), w.cell? ⟨g, k * 3, none⟩ = some (.int .i64 l[k].1.key) ∧ w.cell? ⟨g, k * 3 + 1, none⟩ = some (.bool l[k].1.isRem) ∧ w.cell? ⟨g, k * 3 + 2, none⟩ = some l[k].2) ∧ ∀ p ∈ l, ROk Q w p

section
variable {Q Q' : Nat → Prop} {w w' : World} {v : Value} {l : List (DOp × Value)}

theorem RP.kept {S : Nat → Prop} (h : RP Q w v l) (t : Turn S w w') (hS : ∀ j, Q j → ¬ S j) : RP Q w' v l := by
  rcases h with h | ⟨g, cap, rfl, h1, h2, h3, h4, h5⟩
  · exact .inl h
  · have hc : ∀ o u, w.cell? ⟨g, o, none⟩ = some u → w'.cell? ⟨g, o, none⟩ = some u := fun o u hu => by
      rw [t.cell (p := ⟨g, o, none⟩) (World.block_lt_of_cell? _ _ hu) (hS g h3)]
      exact hu
    exact .inr ⟨g, cap, rfl, h1, h2, h3, fun k hk => ⟨hc _ _ (h4 k hk).1, hc _ _ (h4 k hk).2.1, hc _ _ (h4 k hk).2.2⟩, fun p hp => (h5 p hp).kept t hS⟩

theorem RP.mono (h : RP Q w v l) (hQ : ∀ j, Q j → Q' j) : RP Q' w v l := by
  rcases h with h | ⟨g, cap, rfl, h1, h2, h3, h4, h5⟩
  · exact .inl h
  · exact .inr ⟨g, cap, rfl, h1, h2, hQ g h3, h4, fun p hp => (h5 p hp).mono hQ⟩

theorem RP.shape (h : RP Q w v l) : ∃ ao cap, v = .slice ao l.length cap := by
  rcases h with ⟨rfl, rfl⟩ | ⟨g, cap, rfl, _⟩
  · exact ⟨none, 0, rfl⟩
  · exact ⟨_, _, rfl⟩

theorem RP.each (h : RP Q w v l) : ∀ p ∈ l, ROk Q w p := by
  rcases h with ⟨_, rfl⟩ | ⟨g, cap, rfl, h1, h2, h3, h4, h5⟩
  · intro p hp; simp at hp
  · exact h5

theorem RP.at (h : RP Q w v l) (k : Nat) (hk : k < l.length) : ∃ g cap ao n c, v = .slice (some ⟨g, 0, none⟩) l.length cap ∧ l[k].2 = .slice ao n c ∧ w.cell? ⟨g, k * 3, none⟩ = some (.int .i64 l[k].1.key) ∧ w.cell? ⟨g, k * 3 + 1, none⟩ = some (.bool l[k].1.isRem) ∧ w.cell? ⟨g, k * 3 + 2, none⟩ = some (.slice ao n c) := by
  rcases h with ⟨_, rfl⟩ | ⟨g, cap, rfl, h1, h2, h3, h4, h5⟩
  · simp at hk
  · obtain ⟨ao, n, c, e, _⟩ := (h5 l[k] (List.getElem_mem hk)).shape
    obtain ⟨a0, a1, a2⟩ := h4 k hk
    exact ⟨g, cap, ao, n, c, rfl, e, a0, a1, by rw [a2, e]⟩

end

/-- The cells of what pends. -/
def rcells : List (DOp × Value) → List Value
  | [] => []
  | p :: r => .int .i64 p.1.key :: .bool p.1.isRem :: p.2 :: rcells r

theorem rcells_length (l : List (DOp × Value)) : (rcells l).length = l.length * 3 := by
  induction l with
  | nil => rfl
  | cons p r ih => simp [rcells, ih]; omega

theorem rcells_snoc (l : List (DOp × Value)) (p : DOp × Value) : rcells (l ++ [p]) = rcells l ++ [.int .i64 p.1.key, .bool p.1.isRem, p.2] := by
  induction l with
  | nil => rfl
  | cons x r ih => simp [rcells, ih]

theorem rcells_at : ∀ (l : List (DOp × Value)) (n : Nat) (p : DOp × Value), l[n]? = some p → (rcells l)[n * 3]? = some (.int .i64 p.1.key) ∧ (rcells l)[n * 3 + 1]? = some (.bool p.1.isRem) ∧ (rcells l)[n * 3 + 2]? = some p.2
  | [], n, p, h => by simp at h
  | x :: r, 0, p, h => by simp at h; subst h; exact ⟨rfl, rfl, rfl⟩
  | x :: r, n + 1, p, h => by
    have := rcells_at r n p (by simpa using h)
    rw [show (n + 1) * 3 = n * 3 + 3 by omega, show n * 3 + 3 + 1 = (n * 3 + 1) + 3 by omega, show n * 3 + 3 + 2 = (n * 3 + 2) + 3 by omega, rcells]
    simpa using this

theorem rcells_one {Q : Nat → Prop} {w : World} {l : List (DOp × Value)} (h : ∀ p ∈ l, ROk Q w p) : ∀ u ∈ rcells l, u.oneCell' = true := by
  induction l with
  | nil => intro u hu; simp [rcells] at hu
  | cons p r ih =>
    intro u hu
    simp only [rcells, List.mem_cons] at hu
    rcases hu with rfl | rfl | rfl | hu
    · rfl
    · rfl
    · obtain ⟨ao, n, c, e, _⟩ := (h p (by simp)).shape
      rw [e]; rfl
    · exact ih (fun x hx => h x (by simp [hx])) u hu

theorem Tryz.infoOp : (Tryz.prog.info? 96).map (fun i => (i.zero, i.size, i.bytes)) = some (some (.agg #[.int .i64 0, .bool false, .slice none 0 0]), 3, 40) := by kernel_rfl

/-- append of some that pend onto such a row of one's own. -/
theorem append_ops (w : World) (v : Value) (n : Nat) (xs : List Value) (hown : w.ownsRow 0 96 3 v n xs) (a : Addr) (m c : Nat) (ds : List Value) (hd : ds.length = m * 3) (hsee : ∀ j u, ds[j]? = some u → w.cell? (a.add j) = some u) (hone : ∀ u ∈ ds, u.oneCell' = true) (hb : n + m ≤ 1073741824) :
    ∃ v' w', (Builtin.append_ #[72, 72] 72 #[v, .slice (some a) m c]).run Tryz.prog w = .ok v' w' ∧ w'.ownsRow 0 96 3 v' (n + m) (xs ++ ds) ∧ w.grownBy w' v.ownBlock ∧ (v'.ownBlock = v.ownBlock ∨ v'.ownBlock = some w.heap.size) := by
  obtain ⟨i, hi, h⟩ := Option.map_eq_some_iff.1 Tryz.infoOp
  simp only [Prod.mk.injEq] at h
  obtain ⟨v', w', hr, ho, hg, _, hat⟩ := run_append_own_at (P := Tryz.prog) w 0 72 72 96 i _ 3 40 Tryz.underlying72 hi h.1 h.2.1 h.2.2 rfl (by omega) v n xs hown a m c ds hd hsee hone (by unfold maxLen; omega) (by omega) (Nat.zero_le _)
  exact ⟨v', w', hr, ho, hg, hat⟩

theorem append_ops_nil (w : World) (v : Value) (n : Nat) (xs : List Value) (hown : w.ownsRow 0 96 3 v n xs) : (Builtin.append_ #[72, 72] 72 #[v, .slice none 0 0]).run Tryz.prog w = .ok v w := by
  obtain ⟨i, hi, _⟩ := Option.map_eq_some_iff.1 Tryz.infoOp
  exact run_append_owned_none w 0 72 72 96 i 3 Tryz.underlying72 hi v _ _ hown

/-- A row of such, of one's own, in new memory. -/
def MadeR (w : World) (v : Value) (n : Nat) (cs : List Value) (w' : World) : Prop := w'.ownsRow 0 96 3 v n cs ∧ Turn (fun _ => False) w w' ∧ ∀ k, v.ownBlock = some k → w.heap.size ≤ k

theorem MadeR.more {w w1 w2 wa : World} {v1 v2 : Value} {n n' : Nat} {l l' : List Value} (h : MadeR w v1 n l w1) (ta : Turn (fun _ => False) w1 wa) (ho : w2.ownsRow 0 96 3 v2 n' l') (hg : wa.grownBy w2 v1.ownBlock) (hk : v2.ownBlock = v1.ownBlock ∨ v2.ownBlock = some wa.heap.size) : MadeR w v2 n' l' w2 := by
  refine ⟨ho, (h.2.1.trans ta).grown hg (fun k hk => .inr (h.2.2 k hk)), fun k e => ?_⟩
  rcases hk with hk | hk
  · exact h.2.2 k (hk ▸ e)
  · rw [hk] at e
    injection e with e
    have := (h.2.1.trans ta).size
    omega

/-- append(append([]Op{}, l...), one): what it comes to. -/
theorem RP.push {Q : Nat → Prop} {w : World} {v : Value} {l : List (DOp × Value)} (h : RP Q w v l) (hl : l.length ≤ 1073741823) :
    ∃ v1 w1, (Builtin.append_ #[72, 72] 72 #[.slice (some ⟨w.heap.size, 0, none⟩) 0 0, v]).run Tryz.prog (w.alloc (.cells #[] 96)) = .ok v1 w1 ∧ MadeR w v1 l.length (rcells l) w1 := by
  have he : (w.alloc (.cells #[] 96)).ownsRow 0 96 3 (.slice (some ⟨w.heap.size, 0, none⟩) 0 0) 0 [] := World.ownsRow_made w #[] 0 (Nat.zero_le _) (Nat.zero_le _) rfl
  have ta : Turn (fun _ => False) w (w.alloc (.cells #[] 96)) := (Turn.refl _ _).alloc _
  have hm0 : MadeR w (.slice (some ⟨w.heap.size, 0, none⟩) 0 0) 0 [] (w.alloc (.cells #[] 96)) := ⟨he, ta, fun k hk => by simp [Value.ownBlock] at hk; omega⟩
  rcases h with ⟨rfl, rfl⟩ | ⟨g, cap, rfl, h1, h2, h3, h4, h5⟩
  · exact ⟨_, _, append_ops_nil _ _ _ _ he, hm0⟩
  · have hsee : ∀ j u, (rcells l)[j]? = some u → (w.alloc (.cells #[] 96)).cell? ((⟨g, 0, none⟩ : Addr).add j) = some u := by
      intro j u hj
      have hjl := (List.getElem?_eq_some_iff.1 hj).1
      rw [rcells_length] at hjl
      have hk : j / 3 < l.length := by omega
      obtain ⟨a0, a1, a2⟩ := h4 (j / 3) hk
      obtain ⟨b0, b1, b2⟩ := rcells_at l (j / 3) l[j / 3] (List.getElem?_eq_getElem hk)
      have hc : ∀ o u, w.cell? ⟨g, o, none⟩ = some u → (w.alloc (.cells #[] 96)).cell? ⟨g, o, none⟩ = some u := fun o u hu => by
        rw [ta.cell (p := ⟨g, o, none⟩) (World.block_lt_of_cell? _ _ hu) (fun h => h)]
        exact hu
      rw [addr_lit, Nat.zero_add]
      have h3 : j = j / 3 * 3 ∨ j = j / 3 * 3 + 1 ∨ j = j / 3 * 3 + 2 := by omega
      rcases h3 with e | e | e
      · rw [e] at hj ⊢
        rw [b0] at hj
        rw [← hj]
        exact hc _ _ a0
      · rw [e] at hj ⊢
        rw [b1] at hj
        rw [← hj]
        exact hc _ _ a1
      · rw [e] at hj ⊢
        rw [b2] at hj
        rw [← hj]
        exact hc _ _ a2
    obtain ⟨v1, w1, hr, ho, hg, hk⟩ := append_ops _ _ 0 [] he ⟨g, 0, none⟩ l.length cap (rcells l) (rcells_length l) hsee (rcells_one h5) (by omega)
    rw [Nat.zero_add, List.nil_append] at ho
    exact ⟨v1, w1, hr, hm0.more (Turn.refl _ _) ho hg hk⟩

/-- A row of one's own is what pends. -/
theorem RP.of {Q : Nat → Prop} {w : World} {v : Value} {l : List (DOp × Value)} (ho : w.ownsRow 0 96 3 v l.length (rcells l)) (hg : ∀ g, v.ownBlock = some g → Q g) (h5 : ∀ p ∈ l, ROk Q w p) : RP Q w v l := by
  rcases row_shape ho with ⟨rfl, h0⟩ | ⟨g, cap, rfl, h1, h2, _⟩
  · exact .inl ⟨rfl, List.eq_nil_of_length_eq_zero h0⟩
  · refine .inr ⟨g, cap, rfl, h1, h2, hg g rfl, fun k hk => ?_, h5⟩
    obtain ⟨b0, b1, b2⟩ := rcells_at l k l[k] (List.getElem?_eq_getElem hk)
    exact ⟨by rw [World.ownsRow.cellAt ho (k * 3) (by omega), b0], by rw [World.ownsRow.cellAt ho (k * 3 + 1) (by omega), b1], by rw [World.ownsRow.cellAt ho (k * 3 + 2) (by omega), b2]⟩

/-- The reference's Disk in block rb; all else of it is in Q. -/
structure RD (Q : Nat → Prop) (w : World) (rb : Nat) (s : RSt) (kv pv : Value) (kl : List (Value × List UInt8)) (pl : List (DOp × Value)) : Prop where
  head : At 74 w rb #[kv, pv, .int .i64 s.fuse, .bool s.dead, .int .i64 s.works]
  kept : RL Q w kv kl
  kis : kl.map (·.2) = s.kept
  pend : RP Q w pv pl
  pis : pl.map (·.1) = s.pend
  out : ¬ Q rb
  lt : ∀ j, Q j → j < w.heap.size

def RDk (Q : Nat → Prop) (w : World) (rb : Nat) (s : RSt) : Prop := ∃ kv pv kl pl, RD Q w rb s kv pv kl pl

theorem RDk.keeps {Q S : Nat → Prop} {w w' : World} {rb : Nat} {s : RSt} (h : RDk Q w rb s) (t : Turn S w w') (hS : ∀ j, Q j → ¬ S j) (hr : ¬ S rb) : RDk Q w' rb s := by
  obtain ⟨kv, pv, kl, pl, h⟩ := h
  exact ⟨kv, pv, kl, pl, h.head.kept t hr, h.kept.kept t hS, h.kis, h.pend.kept t hS, h.pis, h.out, fun j hj => Nat.lt_of_lt_of_le (h.lt j hj) t.size⟩

end Go.Proofs.YtnipdgigjcaolaaGreat

/- The reference's Disk: Now, Read, Files, works, Append, Remove, Sync, Crash, SetFuse. -/
namespace Go.Proofs.YtnipdgigjcaolaaGreat
open Go.RowKit

/-- Files with some that pend, done one behind the other. -/
def nowL (l : List (List UInt8)) (ops : List DOp) : List (List UInt8) := ops.foldl tl l

theorem nowL_take (l : List (List UInt8)) (ops : List DOp) (k : Nat) (hk : k < ops.length) : nowL l (ops.take (k + 1)) = tl (nowL l (ops.take k)) ops[k] := by
  unfold nowL
  rw [List.take_succ_eq_append_getElem hk, List.foldl_append]
  rfl

theorem fil5_now (l : List (List UInt8)) (ops : List DOp) (hk : ∀ o ∈ ops, 0 ≤ o.key) : fil5 (nowL l ops) = acts (fil5 l) ops := by
  induction ops generalizing l with
  | nil => rfl
  | cons o r ih =>
    show fil5 (nowL (tl l o) r) = acts (act (fil5 l) o) r
    rw [ih _ (fun x hx => hk x (by simp [hx])), fil5_tl l o (hk o (by simp))]

theorem nowL_length (l : List (List UInt8)) (ops : List DOp) (M : Nat) (hl : l.length ≤ M) (hk : ∀ o ∈ ops, 0 ≤ o.key ∧ o.key < M) : (nowL l ops).length ≤ M := by
  induction ops generalizing l with
  | nil => exact hl
  | cons o r ih =>
    refine ih (tl l o) ?_ (fun x hx => hk x (by simp [hx]))
    rw [tl_length]
    have := hk o (by simp)
    omega

/-- Bounds under which the reference's calls end. -/
structure RFit (M B : Nat) (s : RSt) : Prop where
  many : s.pend.length ≤ 1073741823
  works : s.works ≤ 1073741823
  len : s.kept.length ≤ M
  max : M ≤ 1073741824
  lo : ∀ o ∈ s.pend, 0 ≤ o.key
  hi : ∀ o ∈ s.pend, o.key < M
  big : B ≤ 140737488355328
  file : ∀ (k : Nat) (i : Nat), ((nowL s.kept (s.pend.take i)).getD k []).length ≤ B
  more : ∀ (i : Nat) (hi : i < s.pend.length), ((nowL s.kept (s.pend.take i)).getD s.pend[i].key.toNat []).length + s.pend[i].bytes.length ≤ B
  fz : -1 ≤ s.fuse
  fu : s.fuse ≤ 1073741824

section
variable {Q : Nat → Prop} {w : World} {rb : Nat} {s : RSt} {M B : Nat}

set_option maxHeartbeats 2000000 in
set_option maxRecDepth 100000 in
theorem rnow_any (h : RDk Q w rb s) (hf : RFit M B s) : Calls Tryz.prog 55 #[.pointer (some ⟨rb, 0, none⟩)] w (Turned Q w (nowL s.kept s.pend)) := by
  obtain ⟨kv, pv, kl, pl, h⟩ := h
  have c0 : w.cell? ⟨rb, 0, none⟩ = some kv := h.head.cell 0
  have c1 : w.cell? ⟨rb, 1, none⟩ = some pv := h.head.cell 1
  obtain ⟨ko, kc, hkv⟩ := h.kept.shape
  obtain ⟨po, pc, hpv⟩ := h.pend.shape
  have hpl : pl.length = s.pend.length := by rw [← h.pis]; simp
  have hkl : kl.length = s.kept.length := by rw [← h.kis]; simp
  have hmany := hf.many
  have hlenM := hf.len
  have hmaxM := hf.max
  have hpm : pl.length ≤ 1073741823 := by omega
  subst hkv hpv
  have hstart : RL (grow Q w w) w (.slice ko kl.length kc) kl := h.kept.mono (fun _ h => .inl h)
  have Hstart := hide hstart
  have Hh := hide h
  have Hpl := hide hpl
  have Hf := hide hf
  clear h hpl hf hstart hmany hkl
  go_enter Tryz.func55, Tryz.ntmps55
  go_wp2_with fail
  go_loopw [3, 4] (fun f i wr => ∃ (k : Nat) (l : List (Value × List UInt8)), k ≤ pl.length ∧ i = .int .i64 k ∧ RL (grow Q w wr) wr f l ∧ l.map (·.2) = nowL s.kept (s.pend.take k) ∧ Turn (fun _ => False) w wr) (fun _ i _ => (pl.length - intOf i).toNat)
  case atStart => exact ⟨0, kl, by omega, rfl, unhide Hstart, (unhide Hh).kis, Turn.refl _ _⟩
  case round =>
    clear Hstart
    obtain ⟨k, l, hk, rfl, hl, hle, t⟩ := hrel
    have hr := unhide Hh
    have hrc : wr.cell? ⟨rb, 1, none⟩ = some (.slice po pl.length pc) := (t.cell (p := ⟨rb, 1, none⟩) hr.head.lt (fun h => h)).trans c1
    by_cases hlt : k < pl.length
    · have hpk : k < s.pend.length := by rw [← unhide Hpl]; exact hlt
      obtain ⟨g, cap, ao, n, c, hv, hv2, d0, d1, d2⟩ := (hr.pend.kept t (fun _ _ h => h)).at k hlt
      injection hv with hv1 hv3 hv4
      subst hv1
      have hop : pl[k].1 = s.pend[k] := by
        have := congrArg (fun z => z[k]?) hr.pis
        simp only [List.getElem?_map, List.getElem?_eq_getElem hlt, List.getElem?_eq_getElem hpk, Option.map_some, Option.some.injEq] at this
        exact this
      have hrok : ROk (grow Q w wr) wr pl[k] := (((hr.pend.each pl[k] (List.getElem_mem hlt)).kept t (fun _ _ h => h))).mono (fun _ h => .inl h)
      have hmem : s.pend[k] ∈ s.pend := List.getElem_mem hpk
      have hf := unhide Hf
      have hll : l.length ≤ 1073741824 := by
        have h1 : l.length = (nowL s.kept (s.pend.take k)).length := by rw [← hle]; simp
        have h2 := nowL_length s.kept (s.pend.take k) M hf.len (fun o ho => ⟨hf.lo o (List.mem_of_mem_take ho), hf.hi o (List.mem_of_mem_take ho)⟩)
        omega
      have hb := hf.big
      have hmr := hf.more k hpk
      obtain ⟨fo, fc, hfv⟩ := hl.shape
      have hcall := turn_any (Q := grow Q w wr) (w := wr) s.pend[k] pl[k].2 hl (by rw [← hop]; exact hrok) (hf.lo _ hmem) (by have := hf.hi _ hmem; omega) hll (by rw [hle]; omega)
      rw [hv2, ← hop] at hcall
      subst hfv
      have hnx := nowL_take s.kept s.pend k hpk
      have Hcall := hide hcall
      have Hnx := hide (And.intro hnx (And.intro hop (And.intro hle t)))
      have p1 : (k : Int) < pl.length := by omega
      clear hcall hnx hop hle hrok hmem hmr hl hv2 hf hr
      go_wp2_with fail
      refine (unhide Hcall).mono ?_
      rintro e w2 ⟨v2, l2, rfl, hl2, hm2, t2⟩
      obtain ⟨hnx, hop, hle, t⟩ := unhide Hnx
      have hg2 : ∀ j, grow (grow Q w wr) wr w2 j → grow Q w w2 j := fun j hj => by
        rcases hj with (hj | hj) | hj
        · exact .inl hj
        · exact .inr ⟨hj.1, Nat.lt_of_lt_of_le hj.2 t2.size⟩
        · exact .inr ⟨Nat.le_trans t.size hj.1, hj.2⟩
      have hfin : RL (grow Q w w2) w2 v2 l2 ∧ l2.map (·.2) = nowL s.kept (s.pend.take (k + 1)) ∧ Turn (fun _ => False) w w2 := ⟨hl2.mono hg2, by rw [hm2, hop, hle, hnx], t.trans t2⟩
      obtain ⟨vo2, vc2, hv2⟩ := hl2.shape
      subst hv2
      have Hfin := hide hfin
      clear hfin hl2 hm2 t2 hg2 hnx hop hle t
      go_wp2
      exact ⟨⟨k + 1, l2, by omega, by go_num, unhide Hfin⟩, by simp [intOf]; omega⟩
    · obtain rfl : k = pl.length := by omega
      have p1 : ¬ (pl.length : Int) < pl.length := by omega
      have hfin : Turned Q w (nowL s.kept s.pend) (.returned u3) wr := ⟨_, l, rfl, hl, by rw [hle, unhide Hpl, List.take_length], t⟩
      obtain ⟨fo, fc, hfv⟩ := hl.shape
      subst hfv
      have Hfin := hide hfin
      clear hfin hl hle t hr
      go_wp2
      go_ret
      exact unhide Hfin

end

end Go.Proofs.YtnipdgigjcaolaaGreat

/- The reference's Disk: what each call leaves. -/
namespace Go.Proofs.YtnipdgigjcaolaaGreat
open Go.RowKit

namespace RSt
def zero : RSt := ⟨[], [], -1, false, 0⟩
def now (s : RSt) : List (List UInt8) := nowL s.kept s.pend
def down (s : RSt) : Bool := s.dead || s.fuse == 0
def fall (s : RSt) : RSt := { s with dead := true }
def worked (s : RSt) : RSt := { s with fuse := if 0 < s.fuse then s.fuse - 1 else s.fuse, works := s.works + 1 }
def push (s : RSt) (o : DOp) : RSt := { s with pend := s.pend ++ [o] }
def read (s : RSt) (k : Int) : List UInt8 := if s.dead then [] else fil5 s.now k
def add (s : RSt) (f : Int) (bs : List UInt8) : Int × RSt := if f < 0 then (1, s) else if s.down then (14, s.fall) else (0, if bs = [] then s.worked else s.worked.push (.lay f bs))
def rem (s : RSt) (f : Int) : Int × RSt := if f < 0 then (1, s) else if s.down then (14, s.fall) else (0, if fil5 s.now f = [] then s.worked else s.worked.push (.rem f))
def sync (s : RSt) : Int × RSt := if s.down then (14, s.fall) else (0, { s.worked with kept := s.now, pend := [] })
def setFuse (s : RSt) (n : Int) : RSt := { s with fuse := if -1 < n then n else -1 }
end RSt

/-- A call has turned the reference's Disk alone. -/
def RTo (Q : Nat → Prop) (w : World) (rb : Nat) (s : RSt) (w' : World) : Prop := RDk (grow Q w w') w' rb s ∧ Turn (fun j => j = rb) w w'

section
variable {Q : Nat → Prop} {w : World} {rb : Nat} {s : RSt} {M B : Nat}

theorem RD.rehead {kv pv : Value} {kl : List (Value × List UInt8)} {pl : List (DOp × Value)} {w' : World} {s' : RSt} (h : RD Q w rb s kv pv kl pl) (t : Turn (fun j => j = rb) w w') (hat : At 74 w' rb #[kv, pv, .int .i64 s'.fuse, .bool s'.dead, .int .i64 s'.works]) (hk : s'.kept = s.kept) (hp : s'.pend = s.pend) : RD Q w' rb s' kv pv kl pl :=
  ⟨hat, h.kept.kept t (fun j hj e => h.out (e ▸ hj)), by rw [hk, h.kis], h.pend.kept t (fun j hj e => h.out (e ▸ hj)), by rw [hp, h.pis], h.out, fun j hj => Nat.lt_of_lt_of_le (h.lt j hj) t.size⟩

theorem RTo.of {w' : World} {s' : RSt} (h : RDk Q w' rb s') (hl : ∀ j, Q j → j < w.heap.size) (hrb : rb < w.heap.size) (t : Turn (fun j => j = rb) w w') : RTo Q w rb s' w' := by
  obtain ⟨kv, pv, kl, pl, h⟩ := h
  refine ⟨⟨kv, pv, kl, pl, h.head, h.kept.mono (fun _ h => .inl h), h.kis, h.pend.mono (fun _ h => .inl h), h.pis, fun hq => ?_, fun j hj => hj.elim (fun h => Nat.lt_of_lt_of_le (hl j h) t.size) (fun h => h.2)⟩, t⟩
  rcases hq with hq | hq
  · exact h.out hq
  · omega

set_option maxHeartbeats 400000 in
theorem rnew_any (w : World) : Calls Tryz.prog 10 #[] w fun e w' => e = .returned (.pointer (some ⟨w.heap.size, 0, none⟩)) ∧ RDk (fun _ => False) w' w.heap.size RSt.zero ∧ w' = w.alloc (.cells #[.slice none 0 0, .slice none 0 0, .int .i64 (-1), .bool false, .int .i64 0] 74) := by
  go_enter Tryz.func10, Tryz.ntmps10
  go_wp2
  go_ret
  exact ⟨rfl, ⟨.slice none 0 0, .slice none 0 0, [], [], At.new _ _ _, RL.nil _ _, rfl, .inl ⟨rfl, rfl⟩, rfl, fun h => h, fun _ h => h.elim⟩, rfl⟩

set_option maxHeartbeats 400000 in
theorem rfuse_any (n : Int) (h : RDk Q w rb s) : Calls Tryz.prog 37 #[.pointer (some ⟨rb, 0, none⟩), .int .i64 n] w fun e w' => e = .returned (.tuple #[]) ∧ RDk Q w' rb (s.setFuse n) ∧ Turn (fun j => j = rb) w w' := by
  obtain ⟨kv, pv, kl, pl, h⟩ := h
  have c2 : w.cell? ⟨rb, 2, none⟩ = some (.int .i64 s.fuse) := h.head.cell 2
  have f2 : w.frozen? ⟨rb, 2, none⟩ = false := h.head.frozen 2
  by_cases hn : -1 < n
  · have hs := h.head.set 2 (.int .i64 n)
    have hfin : RDk Q (w.setCell ⟨rb, 2, none⟩ (.int .i64 n)) rb (s.setFuse n) := ⟨kv, pv, kl, pl, h.rehead (Turn.at rb 2 _ w) (by have e : (s.setFuse n).fuse = n := if_pos hn; rw [e]; exact hs) rfl rfl⟩
    have Hfin := hide hfin
    clear h hs hfin
    go_enter Tryz.func37, Tryz.ntmps37
    go_wp2
    go_end0
    exact ⟨rfl, unhide Hfin, Turn.at rb 2 _ w⟩
  · have hn' : n ≤ -1 := by omega
    have hs := h.head.set 2 (.int .i64 (-1))
    have hfin : RDk Q (w.setCell ⟨rb, 2, none⟩ (.int .i64 (-1))) rb (s.setFuse n) := ⟨kv, pv, kl, pl, h.rehead (Turn.at rb 2 _ w) (by have e : (s.setFuse n).fuse = -1 := if_neg hn; rw [e]; exact hs) rfl rfl⟩
    have Hfin := hide hfin
    clear h hs hfin
    go_enter Tryz.func37, Tryz.ntmps37
    go_wp2
    go_end0
    exact ⟨rfl, unhide Hfin, Turn.at rb 2 _ w⟩

set_option maxHeartbeats 1000000 in
theorem rworks_down (h : RDk Q w rb s) (hd : s.down = true) : Calls Tryz.prog 54 #[.pointer (some ⟨rb, 0, none⟩)] w fun e w' => e = .returned (.bool false) ∧ RDk Q w' rb s.fall ∧ Turn (fun j => j = rb) w w' := by
  obtain ⟨kv, pv, kl, pl, h⟩ := h
  have c2 : w.cell? ⟨rb, 2, none⟩ = some (.int .i64 s.fuse) := h.head.cell 2
  have c3 : w.cell? ⟨rb, 3, none⟩ = some (.bool s.dead) := h.head.cell 3
  have f3 : w.frozen? ⟨rb, 3, none⟩ = false := h.head.frozen 3
  have hs := h.head.set 3 (.bool true)
  by_cases hdd : s.dead = true
  · have hfin : RDk Q w rb s.fall := ⟨kv, pv, kl, pl, h.rehead (Turn.refl _ w) (by have := h.head; rw [hdd] at this; exact this) rfl rfl⟩
    rw [hdd] at c3
    have Hfin := hide hfin
    clear h hs hfin
    go_enter Tryz.func54, Tryz.ntmps54
    go_wp2
    go_ret
    exact ⟨rfl, unhide Hfin, Turn.refl _ _⟩
  · have hdf : s.dead = false := by simpa using hdd
    have h0 : s.fuse = 0 := by
      unfold RSt.down at hd
      rw [hdf] at hd
      simpa using hd
    rw [hdf] at c3
    rw [h0] at c2
    have hfin : RDk Q (w.setCell ⟨rb, 3, none⟩ (.bool true)) rb s.fall := ⟨kv, pv, kl, pl, h.rehead (Turn.at rb 3 _ w) hs rfl rfl⟩
    have Hfin := hide hfin
    clear h hs hfin
    go_enter Tryz.func54, Tryz.ntmps54
    go_wp2
    go_ret
    exact ⟨rfl, unhide Hfin, Turn.at rb 3 _ w⟩

set_option maxHeartbeats 1000000 in
theorem rworks_ok (h : RDk Q w rb s) (hd : s.down = false) (hf : RFit M B s) : Calls Tryz.prog 54 #[.pointer (some ⟨rb, 0, none⟩)] w fun e w' => e = .returned (.bool true) ∧ RDk Q w' rb s.worked ∧ Turn (fun j => j = rb) w w' := by
  obtain ⟨kv, pv, kl, pl, h⟩ := h
  have c2 : w.cell? ⟨rb, 2, none⟩ = some (.int .i64 s.fuse) := h.head.cell 2
  have c3 : w.cell? ⟨rb, 3, none⟩ = some (.bool s.dead) := h.head.cell 3
  have c4 : w.cell? ⟨rb, 4, none⟩ = some (.int .i64 s.works) := h.head.cell 4
  have f2 : w.frozen? ⟨rb, 2, none⟩ = false := h.head.frozen 2
  have f4 : w.frozen? ⟨rb, 4, none⟩ = false := h.head.frozen 4
  have hdf : s.dead = false := by
    cases hdd : s.dead with
    | false => rfl
    | true => unfold RSt.down at hd; rw [hdd] at hd; simp at hd
  have h0 : ¬ s.fuse = 0 := by
    intro e
    unfold RSt.down at hd
    rw [e] at hd
    simp at hd
  have h0' : (s.fuse == 0) = false := by simpa using h0
  have hfz := hf.fz
  have hfu := hf.fu
  have hwk := hf.works
  have hw' : ((s.works + 1 : Nat) : Int) = (s.works : Int) + 1 := by omega
  rw [hdf] at c3
  by_cases hp : 0 < s.fuse
  · have hs2 := h.head.set 2 (.int .i64 (s.fuse - 1))
    have c4' : (w.setCell ⟨rb, 2, none⟩ (.int .i64 (s.fuse - 1))).cell? ⟨rb, 4, none⟩ = some (.int .i64 s.works) := hs2.cell 4
    have f4' : (w.setCell ⟨rb, 2, none⟩ (.int .i64 (s.fuse - 1))).frozen? ⟨rb, 4, none⟩ = false := hs2.frozen 4
    have hs := hs2.set 4 (.int .i64 ((s.works + 1 : Nat) : Int))
    have hfin : RDk Q ((w.setCell ⟨rb, 2, none⟩ (.int .i64 (s.fuse - 1))).setCell ⟨rb, 4, none⟩ (.int .i64 ((s.works : Int) + 1))) rb s.worked := by
      rw [← hw']
      refine ⟨kv, pv, kl, pl, h.rehead ((Turn.at rb 2 _ w).trans (Turn.at rb 4 _ _)) ?_ rfl rfl⟩
      have e1 : s.worked.fuse = s.fuse - 1 := if_pos hp
      rw [e1]
      exact hs
    have Hfin := hide hfin
    clear h hs hs2 hfin hw'
    go_enter Tryz.func54, Tryz.ntmps54
    go_wp2
    go_ret
    exact ⟨rfl, unhide Hfin, (Turn.at rb 2 _ w).trans (Turn.at rb 4 _ _)⟩
  · have hs := h.head.set 4 (.int .i64 ((s.works + 1 : Nat) : Int))
    have hfin : RDk Q (w.setCell ⟨rb, 4, none⟩ (.int .i64 ((s.works : Int) + 1))) rb s.worked := by
      rw [← hw']
      refine ⟨kv, pv, kl, pl, h.rehead (Turn.at rb 4 _ w) ?_ rfl rfl⟩
      have e1 : s.worked.fuse = s.fuse := if_neg hp
      rw [e1]
      exact hs
    have Hfin := hide hfin
    clear h hs hfin hw'
    go_enter Tryz.func54, Tryz.ntmps54
    go_wp2
    go_ret
    exact ⟨rfl, unhide Hfin, Turn.at rb 4 _ w⟩

set_option maxHeartbeats 1000000 in
theorem rread_any (k : Int) (h : RDk Q w rb s) (hf : RFit M B s) : Calls Tryz.prog 64 #[.pointer (some ⟨rb, 0, none⟩), .int .i64 k] w fun e w' => ∃ v, e = .returned v ∧ Sees w' v (s.read k) ∧ (0 < (s.read k).length → ∀ j, slab v = some j → grow Q w w' j) ∧ Turn (fun _ => False) w w' := by
  have hcall := rnow_any h hf
  obtain ⟨kv, pv, kl, pl, h⟩ := h
  have c3 : w.cell? ⟨rb, 3, none⟩ = some (.bool s.dead) := h.head.cell 3
  have hrl := h.head.lt
  have Hcall := hide hcall
  clear hcall h
  go_enter Tryz.func64, Tryz.ntmps64
  go_wp2_with fail
  refine (unhide Hcall).mono ?_
  rintro e w1 ⟨v1, l1, rfl, hl1, hm1, t1⟩
  have d3 : w1.cell? ⟨rb, 3, none⟩ = some (.bool s.dead) := (t1.cell (p := ⟨rb, 3, none⟩) hrl (fun h => h)).trans c3
  obtain ⟨vo, vc, hv1⟩ := hl1.shape
  have hlen := hl1.len
  unfold maxLen at hlen
  clear Hcall
  by_cases hd : s.dead = true
  · have e1 : s.read k = [] := if_pos hd
    rw [hd] at d3
    have E1 := hide e1
    clear e1
    subst hv1
    go_wp2
    go_ret
    exact ⟨_, rfl, by rw [unhide E1]; exact Sees.nil _, fun h => by rw [unhide E1] at h; simp at h, t1⟩
  · have hd' : s.dead = false := by simpa using hd
    have e1 : s.read k = fil5 s.now k := if_neg hd
    rw [hd'] at d3
    have hnone : ∀ k' : Int, (k' < 0 ∨ (l1.length : Int) ≤ k') → fil5 s.now k' = [] := by
      intro k' hk'
      unfold fil5
      split
      · have : (nowL s.kept s.pend).length = l1.length := by rw [← hm1]; simp
        rw [List.getD_eq_getElem?_getD, List.getElem?_eq_none (by show (nowL s.kept s.pend).length ≤ _; omega)]
        rfl
      · rfl
    by_cases hk0 : k < 0
    · have E1 := hide (e1.trans (hnone k (.inl hk0)))
      clear e1 hnone
      subst hv1
      go_wp2
      go_ret
      exact ⟨_, rfl, by rw [unhide E1]; exact Sees.nil _, fun h => by rw [unhide E1] at h; simp at h, t1⟩
    · have hk0' : 0 ≤ k := by omega
      by_cases hkl : (l1.length : Int) ≤ k
      · have E1 := hide (e1.trans (hnone k (.inr hkl)))
        clear e1 hnone
        subst hv1
        go_wp2
        go_ret
        exact ⟨_, rfl, by rw [unhide E1]; exact Sees.nil _, fun h => by rw [unhide E1] at h; simp at h, t1⟩
      · obtain ⟨n, rfl⟩ : ∃ n : Nat, k = (n : Int) := ⟨k.toNat, by omega⟩
        have hn : n < l1.length := by omega
        have hkl' : (n : Int) < l1.length := by omega
        obtain ⟨g, cap, ao, m, c, hv, hv2, hmm, hc⟩ := hl1.at n hn
        rw [hv] at hv1
        injection hv1 with e2 e3 e4
        subst hv
        obtain ⟨hs, hsl⟩ := hl1.each l1[n] (List.getElem_mem hn)
        have e5 : fil5 s.now n = l1[n].2 := by
          unfold fil5
          rw [if_pos (by omega), Int.toNat_natCast]
          show (nowL s.kept s.pend).getD n [] = _
          rw [← hm1, List.getD_eq_getElem?_getD, List.getElem?_map, List.getElem?_eq_getElem hn]
          rfl
        have hcap : cap ≤ 9223372036854775807 ∧ l1.length ≤ cap := by
          rcases hl1 with ⟨h0, _⟩ | ⟨g', cap', h0, h1, h2, _⟩
          · simp at h0
          · injection h0 with a1 a2 a3; subst a3; exact ⟨h2, h1⟩
        rw [hv2, ← e5, ← e1] at hs hsl
        have Hs := hide (And.intro hs hsl)
        clear hs hsl e5 hv2 hm1 hl1 hnone e1 e2 e4 e3 hmm
        go_wp2
        go_ret
        exact ⟨_, rfl, (unhide Hs).1, (unhide Hs).2, t1⟩

end

end Go.Proofs.YtnipdgigjcaolaaGreat

/- The reference's Append, Remove and Sync. -/
namespace Go.Proofs.YtnipdgigjcaolaaGreat
open Go.RowKit

section
variable {Q : Nat → Prop} {w : World} {rb : Nat} {s : RSt} {M B : Nat}

/-- One more pends: the row, and the op's own bytes. -/
theorem RD.pushed {kv pv : Value} {kl : List (Value × List UInt8)} {pl : List (DOp × Value)} {w1 w2 : World} {v2 : Value} {o : DOp} {ov : Value} (h : RD Q w rb s kv pv kl pl) (hm : MadeR w v2 (pl.length + 1) (rcells pl ++ [.int .i64 o.key, .bool o.isRem, ov]) w2) (hw : w1 = w2.setCell ⟨rb, 1, none⟩ v2) (hok : ROk (grow Q w w2) w2 (o, ov)) : RTo Q w rb (s.push o) w1 := by
  subst hw
  have hrl := h.head.lt
  have hQr : ¬ grow Q w w2 rb := fun hq => hq.elim h.out (fun hq => by omega)
  have t1 := Turn.at rb 1 v2 w2
  have tt : Turn (fun j => j = rb) w (w2.setCell ⟨rb, 1, none⟩ v2) := (hm.2.1.mono (fun _ _ h => h.elim)).trans t1
  have hsz : ∀ j, grow Q w w2 j → grow Q w (w2.setCell ⟨rb, 1, none⟩ v2) j := fun j hj => hj.imp id (fun h => ⟨h.1, Nat.lt_of_lt_of_le h.2 t1.size⟩)
  have hv2 : v2.ownBlock ≠ some rb := fun e => by have := hm.2.2 rb e; omega
  refine ⟨⟨kv, v2, kl, pl ++ [(o, ov)], ?_, ?_, h.kis, ?_, ?_, fun hq => ?_, fun j hj => ?_⟩, tt⟩
  · exact (h.head.kept hm.2.1 (fun h => h)).set 1 v2
  · exact (h.kept.kept tt (fun j hj e => h.out (e ▸ hj))).mono (fun _ h => .inl h)
  · have hr : RP (grow Q w w2) w2 v2 (pl ++ [(o, ov)]) := by
      refine RP.of ?_ (fun g hg => .inr ⟨hm.2.2 g hg, (World.ownsRow.lt hm.1 g hg).2⟩) ?_
      · rw [rcells_snoc, List.length_append]
        exact hm.1
      · intro p hp
        rcases List.mem_append.1 hp with hp | hp
        · exact ((h.pend.each p hp).kept hm.2.1 (fun _ _ h => h)).mono (fun _ h => .inl h)
        · simp only [List.mem_singleton] at hp
          subst hp
          exact hok
    exact (hr.kept t1 (fun j hj e => hQr (e ▸ hj))).mono hsz
  · show _ = s.pend ++ [o]
    rw [List.map_append, h.pis]
    rfl
  · rcases hq with hq | hq
    · exact h.out hq
    · omega
  · rcases hj with hj | hj
    · exact Nat.lt_of_lt_of_le (h.lt j hj) tt.size
    · exact hj.2

set_option maxHeartbeats 2000000 in
set_option maxRecDepth 100000 in
theorem radd_any (f : Int) (v : Value) (bs : List UInt8) (h : RDk Q w rb s) (hf : RFit M B s) (hs : Sees w v bs) (hsl : 0 < bs.length → slab v ≠ some rb) (hb : bs.length ≤ 140737488355328) :
    Calls Tryz.prog 15 #[.pointer (some ⟨rb, 0, none⟩), .int .i64 f, v] w fun e w' => e = .returned (.int .i64 (s.add f bs).1) ∧ RTo Q w rb (s.add f bs).2 w' := by
  obtain ⟨i0, hi, hz0, hz1, hz2⟩ := info_parts Tryz.infoU8
  have hlt : ∀ j, Q j → j < w.heap.size := by obtain ⟨_, _, _, _, h⟩ := h; exact h.lt
  have hrl : rb < w.heap.size := by obtain ⟨_, _, _, _, h⟩ := h; exact h.head.lt
  obtain ⟨vo, vc, hve⟩ := hs.shape
  have hbm := hs.len
  unfold maxLen at hbm
  subst hve
  by_cases hf0 : f < 0
  · have e1 : s.add f bs = (1, s) := if_pos hf0
    rw [e1]
    have Hto := hide (RTo.of h hlt hrl (Turn.refl _ w))
    clear e1 h
    go_enter Tryz.func15, Tryz.ntmps15
    go_wp2
    go_ret
    exact ⟨rfl, unhide Hto⟩
  · have hf0' : 0 ≤ f := by omega
    by_cases hd : s.down = true
    · have e1 : s.add f bs = (14, s.fall) := by unfold RSt.add; rw [if_neg hf0, if_pos hd]
      rw [e1]
      have hcall := rworks_down h hd
      have Hcall := hide hcall
      clear e1 h hcall
      go_enter Tryz.func15, Tryz.ntmps15
      go_wp2_with fail
      refine (unhide Hcall).mono ?_
      rintro e w1 ⟨rfl, h1, t1⟩
      have Hto := hide (RTo.of h1 hlt hrl t1)
      clear h1 t1 Hcall
      go_wp2
      go_ret
      exact ⟨rfl, unhide Hto⟩
    · have hd' : s.down = false := by simpa using hd
      have hcall := rworks_ok h hd' hf
      have hmany := hf.many
      by_cases hb0 : bs = []
      · have e1 : s.add f bs = (0, s.worked) := by unfold RSt.add; rw [if_neg hf0, if_neg hd, if_pos hb0]
        rw [e1]
        subst hb0
        have Hcall := hide hcall
        clear e1 h hcall
        go_enter Tryz.func15, Tryz.ntmps15
        go_wp2_with fail
        refine (unhide Hcall).mono ?_
        rintro e w1 ⟨rfl, h1, t1⟩
        have Hto := hide (RTo.of h1 hlt hrl t1)
        clear h1 t1 Hcall
        go_wp2
        go_ret
        exact ⟨rfl, unhide Hto⟩
      · have e1 : s.add f bs = (0, s.worked.push (.lay f bs)) := by unfold RSt.add; rw [if_neg hf0, if_neg hd, if_neg hb0]
        rw [e1]
        have hbl : 0 < bs.length := Nat.pos_of_ne_zero fun e => hb0 (List.eq_nil_of_length_eq_zero e)
        have q1 : (0 : Int) < bs.length := by omega
        have Hcall := hide hcall
        have Hs := hide hs
        clear e1 h hcall hs
        go_enter Tryz.func15, Tryz.ntmps15
        go_wp2_with fail
        refine (unhide Hcall).mono ?_
        rintro e w1 ⟨rfl, h1, t1⟩
        obtain ⟨kv, pv, kl, pl, h1⟩ := h1
        have c1 : w1.cell? ⟨rb, 1, none⟩ = some pv := h1.head.cell 1
        obtain ⟨po, pc, hpv⟩ := h1.pend.shape
        have hpl : pl.length = s.pend.length := by have := congrArg List.length h1.pis; rw [List.length_map] at this; exact this
        obtain ⟨v2, w2, hr2, hm2⟩ := h1.pend.push (by omega)
        have hs1 := (unhide Hs).kept t1 (fun j hj e => hsl hbl (e ▸ hj))
        have ta : Turn (fun _ => False) w2 (w2.alloc (.cells #[] 5)) := (Turn.refl _ _).alloc _
        have hs2 := (hs1.kept hm2.2.1 (fun _ _ h => h)).kept ta (fun _ _ h => h)
        obtain ⟨v3, w3, hr3, ho3, hg3, hk3⟩ := run_append_sees (P := Tryz.prog) _ 29 29 i0 Tryz.underlying29 hi hz0 hz1 hz2 _ [] (owns_empty w2) _ bs hs2 (by simp; omega)
        have hk3' : v3.ownBlock = some w2.heap.size ∨ v3.ownBlock = some (w2.heap.size + 1) := by
          rcases hk3 with e | e
          · exact .inl e
          · right; rw [e]; simp
        have hmd3 : Made w2 v3 bs w3 := Made.append ho3 hg3 hk3'
        obtain ⟨o3, c3, hv3⟩ := hmd3.1.shape
        subst hv3
        have tb : Turn (fun _ => False) w3 (w3.alloc (.cells #[.int .i64 f, .bool false, .slice o3 bs.length c3] 96)) := (Turn.refl _ _).alloc _
        have hA := At.new 96 w3 #[.int .i64 f, .bool false, .slice o3 bs.length c3]
        have hrow3 := row_kept (row_kept hm2.1 hmd3.2.1 (fun _ _ h => h)) tb (fun _ _ h => h)
        obtain ⟨v5, w5, hr5, ho5, hg5, hk5⟩ := append_ops _ v2 pl.length (rcells pl) hrow3 ⟨w3.heap.size, 0, none⟩ 1 1 [.int .i64 f, .bool false, .slice o3 bs.length c3] rfl (fun j u hj => by rw [addr_lit, Nat.zero_add, hA.cell j]; simpa using hj) (fun u hu => by simp only [List.mem_cons, List.not_mem_nil, or_false] at hu; rcases hu with rfl | rfl | rfl <;> rfl) (by omega)
        have hm5 := hm2.more (hmd3.2.1.trans tb) ho5 hg5 hk5
        have t5 : Turn (fun j => v2.ownBlock = some j) (w3.alloc (.cells #[.int .i64 f, .bool false, .slice o3 bs.length c3] 96)) w5 := (Turn.refl _ _).grown hg5 (fun k hk => .inl hk)
        have hs5 : Sees w5 (.slice o3 bs.length c3) bs := ((hmd3.1.sees.kept tb (fun _ _ h => h)).kept t5 (fun j hj e => by
          have h1 : (Value.slice o3 bs.length c3).ownBlock = some j := by rw [← hmd3.1.slab_eq]; exact hj
          have h2 := hmd3.2.2 j h1
          have h3 := (World.ownsRow.lt hm2.1 j e).2
          omega))
        have hok : ROk (grow Q w1 w5) w5 (.lay f bs, .slice o3 bs.length c3) := ⟨hs5, fun _ j hj => by
          have h1 : (Value.slice o3 bs.length c3).ownBlock = some j := by rw [← hmd3.1.slab_eq]; exact hj
          have h2 := hmd3.2.2 j h1
          have h3 := hmd3.1.lt h1
          have h4 := tb.size
          have h5 := t5.size
          have h6 := hm2.2.1.size
          exact .inr ⟨by omega, by omega⟩⟩
        have hto1 := h1.pushed (o := .lay f bs) hm5 rfl hok
        have hto : RTo Q w rb (s.worked.push (.lay f bs)) (w5.setCell ⟨rb, 1, none⟩ v5) := by
          refine ⟨?_, t1.trans hto1.2⟩
          obtain ⟨kv', pv', kl', pl', h9⟩ := hto1.1
          have hgr : ∀ j, grow Q w1 (w5.setCell ⟨rb, 1, none⟩ v5) j → grow Q w (w5.setCell ⟨rb, 1, none⟩ v5) j := fun j hj => hj.imp id (fun h => ⟨Nat.le_trans t1.size h.1, h.2⟩)
          refine ⟨kv', pv', kl', pl', h9.head, h9.kept.mono hgr, h9.kis, h9.pend.mono hgr, h9.pis, fun hq => ?_, fun j hj => ?_⟩
          · rcases hq with hq | hq
            · exact h1.out hq
            · omega
          · rcases hj with hj | hj
            · exact Nat.lt_of_lt_of_le (hlt j hj) (t1.trans hto1.2).size
            · exact hj.2
        have hd5 := ((h1.head.kept hm5.2.1 (fun h => h)))
        have c1a : (w1.alloc (.cells #[] 96)).cell? ⟨rb, 1, none⟩ = some pv := (h1.head.kept (S := fun _ => False) ((Turn.refl _ _).alloc _) (fun h => h)).cell 1
        have c5 : w5.cell? ⟨rb, 1, none⟩ = some pv := hd5.cell 1
        have f5 : w5.frozen? ⟨rb, 1, none⟩ = false := hd5.frozen 1
        obtain ⟨o2, c2, hv2⟩ : ∃ ao c, v2 = .slice ao pl.length c := by
          rcases row_shape hm2.1 with ⟨rfl, h0⟩ | ⟨g, cap, rfl, _⟩
          · exact ⟨none, 0, by rw [h0]⟩
          · exact ⟨_, _, rfl⟩
        obtain ⟨o5, c5', hv5⟩ : ∃ ao c, v5 = .slice ao (pl.length + 1) c := by
          rcases row_shape hm5.1 with ⟨rfl, h0⟩ | ⟨g, cap, rfl, _⟩
          · omega
          · exact ⟨_, _, rfl⟩
        subst hpv hv2 hv5
        have Hto := hide hto
        have Hr2 := hide hr2
        have Hr3 := hide hr3
        have Hr5 := hide hr5
        clear hto hr2 hr3 hr5 hto1 hok hs5 t5 hm5 ho5 hg5 hk5 hrow3 hA tb hmd3 hk3' hk3 hg3 ho3 hs2 ta hs1 hm2 hpl h1 Hcall hd5 t1
        go_wp2_with (first
          | (at_builtin; refine wpList_append_run rfl (.tmp 16) (.tmp 20) 72 rfl _ _ _ w2 rfl rfl (unhide Hr2) ?_)
          | (at_builtin; refine wpList_append_run rfl (.tmp 23) (.tmp 24) 29 rfl _ _ _ w3 rfl rfl (unhide Hr3) ?_)
          | (at_builtin; refine wpList_append_run rfl (.tmp 21) (.tmp 27) 72 rfl _ _ _ w5 rfl rfl (unhide Hr5) ?_))
        go_ret
        exact ⟨rfl, unhide Hto⟩

theorem RFit.worked (h : RFit M B s) (hw : s.works ≤ 1073741822) : RFit M B s.worked :=
  ⟨h.many, by show s.works + 1 ≤ _; omega, h.len, h.max, h.lo, h.hi, h.big, h.file, h.more, by have := h.fz; show -1 ≤ if 0 < s.fuse then s.fuse - 1 else s.fuse; split <;> omega, by have := h.fu; show (if 0 < s.fuse then s.fuse - 1 else s.fuse) ≤ _; split <;> omega⟩

theorem RTo.widen {w1 w2 : World} {s' : RSt} (t : Turn (fun j => j = rb) w w1) (hlt : ∀ j, Q j → j < w.heap.size) (hrl : rb < w.heap.size) (h : RTo Q w1 rb s' w2) : RTo Q w rb s' w2 := by
  refine ⟨?_, t.trans h.2⟩
  obtain ⟨kv', pv', kl', pl', h9⟩ := h.1
  have hgr : ∀ j, grow Q w1 w2 j → grow Q w w2 j := fun j hj => hj.imp id (fun h => ⟨Nat.le_trans t.size h.1, h.2⟩)
  refine ⟨kv', pv', kl', pl', h9.head, h9.kept.mono hgr, h9.kis, h9.pend.mono hgr, h9.pis, fun hq => ?_, fun j hj => ?_⟩
  · rcases hq with hq | hq
    · exact h9.out (.inl hq)
    · omega
  · rcases hj with hj | hj
    · exact Nat.lt_of_lt_of_le (hlt j hj) (t.trans h.2).size
    · exact hj.2

set_option maxHeartbeats 2000000 in
set_option maxRecDepth 100000 in
theorem rrem_any (f : Int) (h : RDk Q w rb s) (hf : RFit M B s) (hw : s.works ≤ 1073741822) :
    Calls Tryz.prog 65 #[.pointer (some ⟨rb, 0, none⟩), .int .i64 f] w fun e w' => e = .returned (.int .i64 (s.rem f).1) ∧ RTo Q w rb (s.rem f).2 w' := by
  have hlt : ∀ j, Q j → j < w.heap.size := by obtain ⟨_, _, _, _, h⟩ := h; exact h.lt
  have hrl : rb < w.heap.size := by obtain ⟨_, _, _, _, h⟩ := h; exact h.head.lt
  by_cases hf0 : f < 0
  · have e1 : s.rem f = (1, s) := if_pos hf0
    rw [e1]
    have Hto := hide (RTo.of h hlt hrl (Turn.refl _ w))
    clear e1 h
    go_enter Tryz.func65, Tryz.ntmps65
    go_wp2
    go_ret
    exact ⟨rfl, unhide Hto⟩
  · have hf0' : 0 ≤ f := by omega
    by_cases hd : s.down = true
    · have e1 : s.rem f = (14, s.fall) := by unfold RSt.rem; rw [if_neg hf0, if_pos hd]
      rw [e1]
      have hcall := rworks_down h hd
      have Hcall := hide hcall
      clear e1 h hcall
      go_enter Tryz.func65, Tryz.ntmps65
      go_wp2_with fail
      refine (unhide Hcall).mono ?_
      rintro e w1 ⟨rfl, h1, t1⟩
      have Hto := hide (RTo.of h1 hlt hrl t1)
      clear h1 t1 Hcall
      go_wp2
      go_ret
      exact ⟨rfl, unhide Hto⟩
    · have hd' : s.down = false := by simpa using hd
      have hdd : s.dead = false := by
        cases hdd : s.dead with
        | false => rfl
        | true => unfold RSt.down at hd'; rw [hdd] at hd'; simp at hd'
      have hcall := rworks_ok h hd' hf
      have hmany := hf.many
      have hfw := hf.worked hw
      have hrd : s.worked.read f = fil5 s.now f := by unfold RSt.read; rw [show s.worked.dead = s.dead from rfl, hdd]; rfl
      have e1 : s.rem f = (0, if fil5 s.now f = [] then s.worked else s.worked.push (.rem f)) := by unfold RSt.rem; rw [if_neg hf0, if_neg hd]
      rw [e1]
      have Hcall := hide hcall
      clear e1 h hcall
      go_enter Tryz.func65, Tryz.ntmps65
      go_wp2_with fail
      refine (unhide Hcall).mono ?_
      rintro e w1 ⟨rfl, h1, t1⟩
      have H1 := hide (And.intro h1 t1)
      clear h1 t1 Hcall
      go_wp2_with fail
      refine (rread_any f (unhide H1).1 hfw).mono ?_
      rintro e w1b ⟨v, rfl, hsv, _, tr⟩
      rw [hrd] at hsv
      have hkb := (unhide H1).1.keeps tr (fun _ _ h => h) (fun h => h)
      have t1b : Turn (fun j => j = rb) w w1b := (unhide H1).2.trans (tr.mono (fun _ _ h => h.elim))
      obtain ⟨vo, vc, hve⟩ := hsv.shape
      have hvm := hsv.len
      unfold maxLen at hvm
      subst hve
      by_cases hb0 : fil5 s.now f = []
      · have Hto := hide (RTo.of hkb hlt hrl t1b)
        rw [hb0]
        clear hsv hkb t1b H1 tr hrd
        go_wp2
        go_ret
        exact ⟨rfl, unhide Hto⟩
      · have hbl : 0 < (fil5 s.now f).length := Nat.pos_of_ne_zero fun e => hb0 (List.eq_nil_of_length_eq_zero e)
        have q1 : (0 : Int) < (fil5 s.now f).length := by omega
        obtain ⟨kv, pv, kl, pl, h1⟩ := hkb
        have c1 : w1b.cell? ⟨rb, 1, none⟩ = some pv := h1.head.cell 1
        have c1a : (w1b.alloc (.cells #[] 96)).cell? ⟨rb, 1, none⟩ = some pv := (h1.head.kept (S := fun _ => False) ((Turn.refl _ _).alloc _) (fun h => h)).cell 1
        obtain ⟨po, pc, hpv⟩ := h1.pend.shape
        have hpl : pl.length = s.pend.length := by have := congrArg List.length h1.pis; rw [List.length_map] at this; exact this
        obtain ⟨v2, w2, hr2, hm2⟩ := h1.pend.push (by omega)
        have tb : Turn (fun _ => False) w2 (w2.alloc (.cells #[.int .i64 f, .bool true, .slice none 0 0] 96)) := (Turn.refl _ _).alloc _
        have hA := At.new 96 w2 #[.int .i64 f, .bool true, .slice none 0 0]
        obtain ⟨v5, w5, hr5, ho5, hg5, hk5⟩ := append_ops _ v2 pl.length (rcells pl) (row_kept hm2.1 tb (fun _ _ h => h)) ⟨w2.heap.size, 0, none⟩ 1 1 [.int .i64 f, .bool true, .slice none 0 0] rfl (fun j u hj => by rw [addr_lit, Nat.zero_add, hA.cell j]; simpa using hj) (fun u hu => by simp only [List.mem_cons, List.not_mem_nil, or_false] at hu; rcases hu with rfl | rfl | rfl <;> rfl) (by omega)
        have hm5 := hm2.more tb ho5 hg5 hk5
        have hto := RTo.widen t1b hlt hrl (h1.pushed (o := .rem f) hm5 rfl (show ROk _ _ (DOp.rem f, Value.slice none 0 0) from rfl))
        have hd5 := (h1.head.kept hm5.2.1 (fun h => h))
        have c5 : w5.cell? ⟨rb, 1, none⟩ = some pv := hd5.cell 1
        have f5 : w5.frozen? ⟨rb, 1, none⟩ = false := hd5.frozen 1
        obtain ⟨o2, c2, hv2⟩ : ∃ ao c, v2 = .slice ao pl.length c := by
          rcases row_shape hm2.1 with ⟨rfl, h0⟩ | ⟨g, cap, rfl, _⟩
          · exact ⟨none, 0, by rw [h0]⟩
          · exact ⟨_, _, rfl⟩
        obtain ⟨o5, c5', hv5⟩ : ∃ ao c, v5 = .slice ao (pl.length + 1) c := by
          rcases row_shape hm5.1 with ⟨rfl, h0⟩ | ⟨g, cap, rfl, _⟩
          · omega
          · exact ⟨_, _, rfl⟩
        subst hpv hv2 hv5
        have Hto := hide hto
        have Hr2 := hide hr2
        have Hr5 := hide hr5
        clear hto hr2 hr5 hm5 ho5 hg5 hk5 hA tb hm2 hpl h1 hd5 hsv t1b H1 tr hrd
        go_wp2_with (first
          | (at_builtin; refine wpList_append_run rfl (.tmp 16) (.tmp 20) 72 rfl _ _ _ w2 rfl rfl (unhide Hr2) ?_)
          | (at_builtin; refine wpList_append_run rfl (.tmp 21) (.tmp 24) 72 rfl _ _ _ w5 rfl rfl (unhide Hr5) ?_))
        go_ret
        exact ⟨rfl, unhide Hto⟩

set_option maxHeartbeats 1000000 in
theorem rsync_any (h : RDk Q w rb s) (hf : RFit M B s) (hw : s.works ≤ 1073741822) :
    Calls Tryz.prog 17 #[.pointer (some ⟨rb, 0, none⟩)] w fun e w' => e = .returned (.int .i64 s.sync.1) ∧ RTo Q w rb s.sync.2 w' := by
  have hlt : ∀ j, Q j → j < w.heap.size := by obtain ⟨_, _, _, _, h⟩ := h; exact h.lt
  have hrl : rb < w.heap.size := by obtain ⟨_, _, _, _, h⟩ := h; exact h.head.lt
  by_cases hd : s.down = true
  · have e1 : s.sync = (14, s.fall) := if_pos hd
    rw [e1]
    have hcall := rworks_down h hd
    have Hcall := hide hcall
    clear e1 h hcall
    go_enter Tryz.func17, Tryz.ntmps17
    go_wp2_with fail
    refine (unhide Hcall).mono ?_
    rintro e w1 ⟨rfl, h1, t1⟩
    have Hto := hide (RTo.of h1 hlt hrl t1)
    clear h1 t1 Hcall
    go_wp2
    go_ret
    exact ⟨rfl, unhide Hto⟩
  · have hd' : s.down = false := by simpa using hd
    have e1 : s.sync = (0, { s.worked with kept := s.now, pend := [] }) := if_neg hd
    rw [e1]
    have hcall := rworks_ok h hd' hf
    have hfw := hf.worked hw
    have Hcall := hide hcall
    clear e1 h hcall
    go_enter Tryz.func17, Tryz.ntmps17
    go_wp2_with fail
    refine (unhide Hcall).mono ?_
    rintro e w1 ⟨rfl, h1, t1⟩
    have H1 := hide (And.intro h1 t1)
    clear h1 t1 Hcall
    go_wp2_with fail
    refine (rnow_any (unhide H1).1 hfw).mono ?_
    rintro e w2 ⟨v2, l2, rfl, hl2, hm2, t2⟩
    obtain ⟨kv, pv, kl, pl, h1⟩ := (unhide H1).1
    have hh := h1.head.kept t2 (fun h => h)
    obtain ⟨ko, kc, hkv⟩ := h1.kept.shape
    obtain ⟨po, pc, hpv⟩ := h1.pend.shape
    obtain ⟨vo, vc, hv2⟩ := hl2.shape
    have c0 : w2.cell? ⟨rb, 0, none⟩ = some kv := hh.cell 0
    have f0 : w2.frozen? ⟨rb, 0, none⟩ = false := hh.frozen 0
    have hh0 := hh.set 0 v2
    have c1 : (w2.setCell ⟨rb, 0, none⟩ v2).cell? ⟨rb, 1, none⟩ = some pv := hh0.cell 1
    have f1 : (w2.setCell ⟨rb, 0, none⟩ v2).frozen? ⟨rb, 1, none⟩ = false := hh0.frozen 1
    have hh1 := hh0.set 1 (.slice none 0 0)
    have tw : Turn (fun j => j = rb) w2 ((w2.setCell ⟨rb, 0, none⟩ v2).setCell ⟨rb, 1, none⟩ (.slice none 0 0)) := (Turn.at rb 0 _ w2).trans (Turn.at rb 1 _ _)
    have t12 : Turn (fun j => j = rb) w w2 := (unhide H1).2.trans (t2.mono (fun _ _ h => h.elim))
    have hQr : ¬ grow Q w1 w2 rb := fun hq => hq.elim h1.out (fun hq => by have := (unhide H1).2.size; omega)
    have hto : RTo Q w rb { s.worked with kept := s.now, pend := [] } ((w2.setCell ⟨rb, 0, none⟩ v2).setCell ⟨rb, 1, none⟩ (.slice none 0 0)) := by
      refine ⟨⟨v2, .slice none 0 0, l2, [], hh1, ?_, hm2, .inl ⟨rfl, rfl⟩, rfl, fun hq => ?_, fun j hj => ?_⟩, t12.trans tw⟩
      · refine (hl2.kept tw (fun j hj e => hQr (e ▸ hj))).mono (fun j hj => ?_)
        rcases hj with hj | hj
        · exact .inl hj
        · exact .inr ⟨Nat.le_trans (unhide H1).2.size hj.1, Nat.lt_of_lt_of_le hj.2 tw.size⟩
      · rcases hq with hq | hq
        · exact h1.out hq
        · omega
      · rcases hj with hj | hj
        · exact Nat.lt_of_lt_of_le (hlt j hj) (t12.trans tw).size
        · exact hj.2
    subst hkv hpv hv2
    have Hto := hide hto
    clear hto hh hh0 hh1 tw t12 hQr h1 hl2 hm2 t2 H1
    go_wp2
    go_ret
    exact ⟨rfl, unhide Hto⟩

end

end Go.Proofs.YtnipdgigjcaolaaGreat

/- The files below a number that are there; what a law holds, read again. -/
namespace Go.Proofs.YtnipdgigjcaolaaGreat
open Go.RowKit

/-- The files below m that are there. -/
def fil (f : Fs) (m : Nat) : List Int := ((List.range m).filter fun (j : Nat) => !(f (j : Int)).isEmpty).map fun (j : Nat) => (j : Int)

theorem fil_yes (f : Fs) (m : Nat) (h : f m ≠ []) : fil f (m + 1) = fil f m ++ [(m : Int)] := by
  unfold fil
  rw [List.range_succ, List.filter_append, List.map_append]
  simp [h]

theorem fil_no (f : Fs) (m : Nat) (h : f m = []) : fil f (m + 1) = fil f m := by
  unfold fil
  rw [List.range_succ, List.filter_append, List.map_append]
  simp [h]

theorem fil_lt (f : Fs) (m : Nat) : ∀ k ∈ fil f m, k < m ∧ 0 ≤ k ∧ f k ≠ [] := by
  intro k hk
  unfold fil at hk
  obtain ⟨j, hj, rfl⟩ := List.mem_map.1 hk
  obtain ⟨h1, h2⟩ := List.mem_filter.1 hj
  have := List.mem_range.1 h1
  exact ⟨by omega, by omega, by simpa using h2⟩

theorem fil_rise (f : Fs) : ∀ m, (fil f m).Pairwise (· < ·)
  | 0 => by simp [fil]
  | m + 1 => by
    by_cases h : f m = []
    · rw [fil_no f m h]; exact fil_rise f m
    · rw [fil_yes f m h]
      refine List.pairwise_append.2 ⟨fil_rise f m, by simp, fun a ha b hb => ?_⟩
      simp at hb
      have := (fil_lt f m a ha).1
      omega

theorem fil_mem (f : Fs) (m : Nat) (k : Nat) (hk : k < m) (h : f k ≠ []) : (k : Int) ∈ fil f m := by
  unfold fil
  exact List.mem_map.2 ⟨k, List.mem_filter.2 ⟨List.mem_range.2 hk, by simpa using h⟩, rfl⟩

theorem fil_le (f : Fs) (m : Nat) : (fil f m).length ≤ m := by
  unfold fil
  rw [List.length_map]
  exact Nat.le_trans (List.length_filter_le _ _) (by simp)

theorem fil_at (f : Fs) (j : Nat) (h : f j ≠ []) : ∀ m, j < m → (fil f m)[(fil f j).length]? = some (j : Int) ∧ (fil f j).length < (fil f m).length
  | 0, hm => by omega
  | m + 1, hm => by
    by_cases hj : j = m
    · subst hj
      rw [fil_yes f j h]
      simp
    · obtain ⟨h1, h2⟩ := fil_at f j h m (by omega)
      by_cases hf : f m = []
      · rw [fil_no f m hf]; exact ⟨h1, h2⟩
      · rw [fil_yes f m hf, List.getElem?_append_left h2, List.length_append]
        exact ⟨h1, by omega⟩

theorem HeldI.cell {K : Nat → Prop} {w : World} {g n c j : Nat} {l : List Int} {x : Int} (h : HeldI K w (.slice (some ⟨g, 0, none⟩) n c) l) (hx : l[j]? = some x) : w.cell? ⟨g, j, none⟩ = some (.int .i64 x) := by
  rcases h.own.sees with ⟨h0, _⟩ | ⟨a, cap, e, _, _, hc⟩
  · simp at h0
  · simp only [Value.slice.injEq, Option.some.injEq] at e
    have := hc j (.int .i64 x) (by rw [i64s, List.getElem?_map, hx]; rfl)
    rw [← e.1, addr_lit, Nat.zero_add] at this
    exact this

/-- What came in stays, from one world of the law to a later one. -/
theorem _root_.Go.Proofs.YtnipdgigjcaolaaGreat.StepAt.kept' {w w1 w2 : World} {ab off : Nat} {x : StepE} (h : StepAt w1 w.heap.size ab off x) (t1 : Turn (fun _ => False) w w1) (t2 : Turn (fun _ => False) w w2) : StepAt w2 w.heap.size ab off x := by
  have hc : ∀ o, w2.cell? ⟨ab, o, none⟩ = w1.cell? ⟨ab, o, none⟩ := fun o => (t2.cell (p := ⟨ab, o, none⟩) h.lt (fun h => h)).trans (t1.cell (p := ⟨ab, o, none⟩) h.lt (fun h => h)).symm
  refine ⟨h.lt, (hc _).trans h.c0, (hc _).trans h.c1, (hc _).trans h.c2, (hc _).trans h.c3, (hc _).trans h.c4, ?_, h.slabs⟩
  rcases h.sees with h0 | ⟨a, cap, e, hc', hm, hcell⟩
  · exact .inl h0
  · refine .inr ⟨a, cap, e, hc', hm, fun j u hj => ?_⟩
    have hpos : 0 < x.bs.length := by
      have := (List.getElem?_eq_some_iff.1 hj).1
      rw [u8s_length] at this
      omega
    have hb : (a.add j).block < w.heap.size := by rw [addr_add_block]; exact h.slabs hpos _ (by rw [e]; rfl)
    rw [t2.cell hb (fun h => h), ← t1.cell hb (fun h => h)]
    exact hcell j u hj

end Go.Proofs.YtnipdgigjcaolaaGreat

/- The reference's Files and Crash. -/
namespace Go.Proofs.YtnipdgigjcaolaaGreat
open Go.RowKit

theorem fil_all (bs : List (List UInt8)) (k : Int) : k ∈ fil (fil5 bs) bs.length ↔ fil5 bs k ≠ [] := by
  constructor
  · intro h
    exact (fil_lt _ _ k h).2.2
  · intro h
    have h0 : 0 ≤ k := Classical.byContradiction fun hn => h (by unfold fil5; rw [if_neg hn])
    obtain ⟨n, rfl⟩ : ∃ n : Nat, k = (n : Int) := ⟨k.toNat, by omega⟩
    refine fil_mem _ _ n (Classical.byContradiction fun hn => h ?_) h
    unfold fil5
    rw [if_pos h0, Int.toNat_natCast, List.getD_eq_getElem?_getD, List.getElem?_eq_none (by omega)]
    rfl

/-- The files that are there, rising. -/
def RSt.Nums (s : RSt) (l : List Int) : Prop := l.Pairwise (· < ·) ∧ ∀ k, k ∈ l ↔ s.read k ≠ []

section
variable {Q : Nat → Prop} {w : World} {rb : Nat} {s : RSt} {M B : Nat}

set_option maxHeartbeats 2000000 in
set_option maxRecDepth 100000 in
theorem rfiles_any (h : RDk Q w rb s) (hf : RFit M B s) : Calls Tryz.prog 62 #[.pointer (some ⟨rb, 0, none⟩)] w fun e w' => ∃ v l, e = .returned v ∧ MadeI w v l w' ∧ s.Nums l ∧ l.length ≤ M := by
  have hcall := rnow_any h hf
  have hnl : (nowL s.kept s.pend).length ≤ M := nowL_length _ _ M hf.len (fun o ho => ⟨hf.lo o ho, hf.hi o ho⟩)
  have hmax := hf.max
  obtain ⟨kv, pv, kl, pl, h⟩ := h
  have c3 : w.cell? ⟨rb, 3, none⟩ = some (.bool s.dead) := h.head.cell 3
  have hrl := h.head.lt
  have Hcall := hide hcall
  clear hcall h
  go_enter Tryz.func62, Tryz.ntmps62
  go_wp2_with fail
  refine (unhide Hcall).mono ?_
  rintro e w1 ⟨v1, l1, rfl, hl1, hm1, t1⟩
  have d3 : w1.cell? ⟨rb, 3, none⟩ = some (.bool s.dead) := (t1.cell (p := ⟨rb, 3, none⟩) hrl (fun h => h)).trans c3
  obtain ⟨vo, vc, hv1⟩ := hl1.shape
  have hl1n : l1.length = (nowL s.kept s.pend).length := by rw [← hm1]; simp
  have hlm : l1.length ≤ M := by omega
  clear Hcall
  by_cases hd : s.dead = true
  · have hnums : s.Nums [] := ⟨List.Pairwise.nil, fun k => by unfold RSt.read; rw [if_pos hd]; simp⟩
    rw [hd] at d3
    subst hv1
    have Hn := hide hnums
    have hmi : MadeI w (.slice none 0 0) [] w1 := ⟨OwnsC.nil _ _, t1, fun k hk => by simp [Value.ownBlock] at hk⟩
    clear hnums hl1n
    go_wp2_with fail
    go_loopw [3, 5] (fun out i wr => out = .slice none 0 0 ∧ i = .int .i64 0 ∧ wr = w1) (fun _ _ _ => 0)
    case atStart => exact ⟨rfl, rfl, rfl⟩
    case round =>
      obtain ⟨rfl, rfl, rfl⟩ := hrel
      by_cases h0 : 0 < l1.length
      · go_wp2
        go_ret
        exact ⟨_, [], rfl, hmi, unhide Hn, Nat.zero_le _⟩
      · have h0' : l1.length = 0 := by omega
        rw [h0']
        go_wp2
        go_ret
        exact ⟨_, [], rfl, hmi, unhide Hn, Nat.zero_le _⟩
  · have hd' : s.dead = false := by simpa using hd
    rw [hd'] at d3
    have hnums : s.Nums (fil (fil5 s.now) l1.length) := by
      refine ⟨fil_rise _ _, fun k => ?_⟩
      have e1 : s.read k = fil5 s.now k := if_neg hd
      rw [e1, hl1n]
      exact fil_all s.now k
    have hget : ∀ k (hk : k < l1.length), fil5 s.now (k : Int) = l1[k].2 := by
      intro k hk
      unfold fil5
      rw [if_pos (by omega), Int.toNat_natCast]
      show (nowL s.kept s.pend).getD k [] = _
      rw [← hm1, List.getD_eq_getElem?_getD, List.getElem?_map, List.getElem?_eq_getElem hk]
      rfl
    have hmi : MadeI w1 (.slice none 0 0) [] w1 := MadeI.nil w1
    subst hv1
    have Hn := hide hnums
    have Hg := hide hget
    have Hl := hide hl1
    have Hm := hide hmi
    clear hnums hget hl1 hmi hm1 hl1n
    go_wp2_with fail
    go_loopw [3, 5] (fun out i wr => ∃ k : Nat, k ≤ l1.length ∧ i = .int .i64 k ∧ MadeI w1 out (fil (fil5 s.now) k) wr) (fun _ i _ => (l1.length - intOf i).toNat)
    case atStart => exact ⟨0, by omega, rfl, unhide Hm⟩
    case round =>
      obtain ⟨k, hk, rfl, hmd⟩ := hrel
      have t2 := hmd.2.1
      have d3' : wr.cell? ⟨rb, 3, none⟩ = some (.bool false) := (t2.cell (p := ⟨rb, 3, none⟩) (Nat.lt_of_lt_of_le hrl t1.size) (fun h => h)).trans d3
      obtain ⟨oo, oc, hov⟩ := hmd.shape
      subst hov
      have hfl := fil_le (fil5 s.now) k
      by_cases hlt : k < l1.length
      · obtain ⟨g, cap, ao, n, c, hv, hv2, hnn, hc⟩ := ((unhide Hl).kept t2 (fun _ _ h => h)).at k hlt
        injection hv with e1 e2 e3
        subst e1 e3
        have hcap : vc ≤ 9223372036854775807 ∧ l1.length ≤ vc := by
          rcases unhide Hl with ⟨h0, _⟩ | ⟨g', cap', h0, h1, h2, _⟩
          · simp at h0
          · injection h0 with a1 a2 a3; subst a3; exact ⟨h2, h1⟩
        have hgk := unhide Hg k hlt
        have hnm : n ≤ 9223372036854775807 := by
          have := ((unhide Hl).each l1[k] (List.getElem_mem hlt)).1.len
          unfold maxLen at this
          omega
        have q1 : (k : Int) < l1.length := by omega
        by_cases hn0 : n = 0
        · have hno := fil_no (fil5 s.now) k (by rw [hgk]; exact List.eq_nil_of_length_eq_zero (by omega))
          subst hn0
          have Hno := hide hno
          have Hmd := hide hmd
          clear hno hmd t2 hv2 hnn hgk
          go_wp2
          exact ⟨⟨k + 1, by omega, by go_num, by rw [unhide Hno]; exact unhide Hmd⟩, by simp [intOf]; omega⟩
        · have hyes := fil_yes (fil5 s.now) k (by rw [hgk]; intro e; rw [e] at hnn; exact hn0 hnn)
          have q2 : (0 : Int) < n := by omega
          have ta : Turn (fun _ => False) wr (wr.alloc (.cells #[.int .i64 (k : Int)] 3)) := (Turn.refl _ _).alloc _
          have hA := At.new 3 wr #[.int .i64 (k : Int)]
          obtain ⟨v9, w9, hr, ho, hg, hkk⟩ := append_one _ _ _ (k : Int) _ (hmd.1.kept ta (fun _ _ h => h)) hA (by omega)
          have hm9 := hmd.more ta ho hg hkk
          rw [← hyes] at hm9
          obtain ⟨o9, c9, hv9⟩ := hm9.shape
          have hl9 : (fil (fil5 s.now) (k + 1)).length = (fil (fil5 s.now) k).length + 1 := by rw [hyes]; simp
          rw [hl9] at hv9
          subst hv9
          have Hr := hide hr
          have H9 := hide hm9
          clear hr hm9 ho hg hkk hA ta hyes hl9 hmd t2 hv2 hnn hgk
          generalize (fil (fil5 s.now) k).length = nf at *
          go_wp2_with (at_builtin; refine wpList_append_run rfl (.tmp 27) (.tmp 29) 23 rfl _ _ _ w9 rfl rfl (unhide Hr) ?_)
          exact ⟨⟨k + 1, by omega, by go_num, unhide H9⟩, by simp [intOf]; omega⟩
      · obtain rfl : k = l1.length := by omega
        have hfin : MadeI w (.slice oo (fil (fil5 s.now) l1.length).length oc) (fil (fil5 s.now) l1.length) wr := ⟨hmd.1, t1.trans hmd.2.1, fun j hj => Nat.le_trans t1.size (hmd.2.2 j hj)⟩
        have Hfin := hide hfin
        have hfl2 : (fil (fil5 s.now) l1.length).length ≤ M := by omega
        clear hfin hmd t2
        go_wp2
        go_ret
        exact ⟨_, _, rfl, unhide Hfin, unhide Hn, hfl2⟩

set_option maxHeartbeats 400000 in
theorem rpick_any (n m : Int) (w : World) (hm : 0 < m) (hm2 : m ≤ 4611686018427387904) :
    Calls Tryz.prog 96 #[.int .i64 n, .int .i64 m] w fun e w' => e = .returned (.int .i64 (n % m)) ∧ w = w' := by
  go_enter Tryz.func96, Tryz.ntmps96
  go_wp2
  · go_ret
    exact ⟨ret_int (tmod_neg n m hm hm2 ‹_›), rfl⟩
  · go_ret
    exact ⟨ret_int (tmod_pos n m hm ‹_›), rfl⟩

end

end Go.Proofs.YtnipdgigjcaolaaGreat

/- A Disk and the reference's, plainly: what each call makes of both is the same. -/
namespace Go.Proofs.YtnipdgigjcaolaaGreat
open Go.RowKit

/-- Both say the same; N bounds all of it. -/
structure PSam6 (N : Nat) (s : DSt) (r : RSt) : Prop where
  pend : r.pend = s.ops
  kept : fil5 r.kept = s.base
  dead : r.dead = s.dead
  works : r.works = s.works
  fuse : (s.fused = true ∧ r.fuse = s.left ∧ 0 ≤ s.left ∧ s.left ≤ 100) ∨ (s.fused = false ∧ r.fuse = -1)
  keys : ∀ o ∈ s.ops, 0 ≤ o.key ∧ o.key < 5
  len : r.kept.length ≤ 5
  lays : ∀ k bs, DOp.lay k bs ∈ s.ops → bs ≠ [] ∧ bs.length ≤ 2097152
  size : ∀ i k, (acts s.base (s.ops.take i) k).length ≤ N * 2097152
  many : s.ops.length ≤ N
  wk : s.works ≤ N

section
variable {N : Nat} {s : DSt} {r : RSt}

theorem PSam6.now (h : PSam6 N s r) : fil5 r.now = s.now := by
  unfold RSt.now DSt.now
  rw [fil5_now _ _ (fun o ho => (h.keys o (h.pend ▸ ho)).1), h.kept, h.pend]

theorem PSam6.down (h : PSam6 N s r) : r.down = s.down := by
  unfold RSt.down DSt.down
  rw [h.dead]
  rcases h.fuse with ⟨h1, h2, _⟩ | ⟨h1, h2⟩
  · rw [h1, h2]; simp
  · rw [h1, h2]; simp

theorem PSam6.read (h : PSam6 N s r) (k : Int) : r.read k = s.read k := by
  unfold RSt.read DSt.read
  rw [h.dead, h.now]

theorem PSam6.zero : PSam6 0 DSt.zero RSt.zero := ⟨rfl, by funext k; unfold fil5 RSt.zero DSt.zero; simp, rfl, rfl, .inr ⟨rfl, rfl⟩, by simp [DSt.zero], by simp [RSt.zero], by simp [DSt.zero], fun i k => by simp [DSt.zero, acts], by simp [DSt.zero], by simp [DSt.zero]⟩

theorem PSam6.up (h : PSam6 N s r) : PSam6 (N + 1) s r :=
  ⟨h.pend, h.kept, h.dead, h.works, h.fuse, h.keys, h.len, h.lays, fun i k => by rw [Nat.succ_mul]; exact Nat.le_trans (h.size i k) (Nat.le_add_right _ _), Nat.le_succ_of_le h.many, Nat.le_succ_of_le h.wk⟩

theorem PSam6.fall (h : PSam6 N s r) : PSam6 (N + 1) s.fall r.fall :=
  ⟨h.pend, h.kept, rfl, h.works, h.fuse, h.keys, h.len, h.lays, h.up.size, h.up.many, h.up.wk⟩

theorem PSam6.worked (h : PSam6 N s r) (hd : s.down = false) : PSam6 (N + 1) s.worked r.worked := by
  refine ⟨h.pend, h.kept, h.dead, ?_, ?_, h.keys, h.len, h.lays, h.up.size, h.up.many, ?_⟩
  · show r.works + 1 = s.works + 1
    rw [h.works]
  · rcases h.fuse with ⟨h1, h2, h3, h4⟩ | ⟨h1, h2⟩
    · left
      have h0 : s.left ≠ 0 := by
        intro e
        unfold DSt.down at hd
        rw [h1, e] at hd
        simp at hd
      refine ⟨h1, ?_, ?_, ?_⟩
      · show (if 0 < r.fuse then r.fuse - 1 else r.fuse) = if s.fused = true then s.left - 1 else s.left
        rw [if_pos (by omega), if_pos h1, h2]
      · show 0 ≤ if s.fused = true then s.left - 1 else s.left
        rw [if_pos h1]; omega
      · show (if s.fused = true then s.left - 1 else s.left) ≤ 100
        rw [if_pos h1]; omega
    · right
      refine ⟨h1, ?_⟩
      show (if 0 < r.fuse then r.fuse - 1 else r.fuse) = -1
      rw [if_neg (by omega), h2]
  · show s.works + 1 ≤ N + 1
    have := h.wk
    omega

theorem PSam6.push (h : PSam6 N s r) (hd : s.down = false) (o : DOp) (hk : 0 ≤ o.key ∧ o.key < 5) (hl : ∀ k bs, o = .lay k bs → bs ≠ [] ∧ bs.length ≤ 2097152) : PSam6 (N + 1) (s.worked.push o) (r.worked.push o) := by
  have hw := h.worked hd
  refine ⟨by show r.pend ++ [o] = s.ops ++ [o]; rw [h.pend], hw.kept, hw.dead, hw.works, hw.fuse, ?_, hw.len, ?_, ?_, ?_, hw.wk⟩
  · intro x hx
    have hx' : x ∈ s.ops ++ [o] := hx
    rcases List.mem_append.1 hx' with hx | hx
    · exact h.keys x hx
    · simp only [List.mem_singleton] at hx
      subst hx
      exact hk
  · intro k bs hx
    have hx' : DOp.lay k bs ∈ s.ops ++ [o] := hx
    rcases List.mem_append.1 hx' with hx | hx
    · exact h.lays k bs hx
    · simp only [List.mem_singleton] at hx
      exact hl k bs hx.symm
  · intro i k
    show (acts s.base ((s.ops ++ [o]).take i) k).length ≤ _
    by_cases hi : i ≤ s.ops.length
    · rw [List.take_append_of_le_length hi]
      exact h.up.size i k
    · rw [List.take_of_length_le (by simp; omega), acts_snoc]
      have hn := h.size s.ops.length
      rw [List.take_length] at hn
      rw [Nat.succ_mul]
      cases o with
      | lay f bs =>
        by_cases e : k = f
        · have e2 : act (acts s.base s.ops) (.lay f bs) k = acts s.base s.ops f ++ bs := if_pos e
          rw [e2, List.length_append]
          exact Nat.add_le_add (hn f) (hl f bs rfl).2
        · have e2 : act (acts s.base s.ops) (.lay f bs) k = acts s.base s.ops k := if_neg e
          rw [e2]
          exact Nat.le_trans (hn k) (Nat.le_add_right _ _)
      | rem f =>
        by_cases e : k = f
        · have e2 : act (acts s.base s.ops) (.rem f) k = [] := if_pos e
          rw [e2]
          exact Nat.zero_le _
        · have e2 : act (acts s.base s.ops) (.rem f) k = acts s.base s.ops k := if_neg e
          rw [e2]
          exact Nat.le_trans (hn k) (Nat.le_add_right _ _)
  · show (s.ops ++ [o]).length ≤ _
    have := h.many
    simp
    omega

theorem PSam6.add (h : PSam6 N s r) (f : Int) (hf : f < 5) (bs : List UInt8) (hb : bs.length ≤ 2097152) : (r.add f bs).1 = (s.add f bs).1 ∧ PSam6 (N + 1) (s.add f bs).2 (r.add f bs).2 := by
  unfold RSt.add DSt.add
  rw [h.down]
  by_cases h0 : f < 0
  · rw [if_pos h0, if_pos h0]; exact ⟨rfl, h.up⟩
  · rw [if_neg h0, if_neg h0]
    by_cases hd : s.down = true
    · rw [if_pos hd, if_pos hd]; exact ⟨rfl, h.fall⟩
    · rw [if_neg hd, if_neg hd]
      refine ⟨rfl, ?_⟩
      unfold DSt.lays
      by_cases hb0 : bs = []
      · rw [if_pos hb0, if_pos hb0]; exact h.worked (by simpa using hd)
      · rw [if_neg hb0, if_neg hb0]
        exact h.push (by simpa using hd) _ ⟨by show 0 ≤ f; omega, hf⟩ (fun k bs' e => by injection e with e1 e2; subst e2; exact ⟨hb0, hb⟩)

theorem PSam6.rem (h : PSam6 N s r) (f : Int) (hf : f < 5) : (r.rem f).1 = (s.rem f).1 ∧ PSam6 (N + 1) (s.rem f).2 (r.rem f).2 := by
  unfold RSt.rem DSt.rem
  rw [h.down, h.now]
  by_cases h0 : f < 0
  · rw [if_pos h0, if_pos h0]; exact ⟨rfl, h.up⟩
  · rw [if_neg h0, if_neg h0]
    by_cases hd : s.down = true
    · rw [if_pos hd, if_pos hd]; exact ⟨rfl, h.fall⟩
    · rw [if_neg hd, if_neg hd]
      refine ⟨rfl, ?_⟩
      unfold DSt.rems
      by_cases hb0 : s.now f = []
      · rw [if_pos hb0, if_pos hb0]; exact h.worked (by simpa using hd)
      · rw [if_neg hb0, if_neg hb0]
        exact h.push (by simpa using hd) _ ⟨by show 0 ≤ f; omega, hf⟩ (fun k bs' e => by cases e)

theorem PSam6.nlen (h : PSam6 N s r) (i : Nat) : (nowL r.kept (r.pend.take i)).length ≤ 5 :=
  nowL_length _ _ 5 h.len (fun o ho => by have := h.keys o (h.pend ▸ List.mem_of_mem_take ho); exact ⟨this.1, by omega⟩)

theorem PSam6.sync (h : PSam6 N s r) : r.sync.1 = s.sync.1 ∧ PSam6 (N + 1) s.sync.2 r.sync.2 := by
  unfold RSt.sync DSt.sync
  rw [h.down]
  by_cases hd : s.down = true
  · rw [if_pos hd, if_pos hd]; exact ⟨rfl, h.fall⟩
  · rw [if_neg hd, if_neg hd]
    have hw := h.worked (by simpa using hd)
    have hn := h.nlen r.pend.length
    rw [List.take_length] at hn
    refine ⟨rfl, rfl, h.now, hw.dead, hw.works, hw.fuse, by simp [DSt.safe], hn, by simp [DSt.safe], fun i k => ?_, by simp [DSt.safe], hw.wk⟩
    show (acts s.now (([] : List DOp).take i) k).length ≤ _
    have hs := h.up.size s.ops.length k
    rw [List.take_length] at hs
    simpa [acts, DSt.now] using hs

theorem PSam6.setFuse (h : PSam6 N s r) (n : Int) (hn : n ≤ 100) : PSam6 N (s.fuse n) (r.setFuse n) := by
  refine ⟨h.pend, h.kept, h.dead, h.works, ?_, h.keys, h.len, h.lays, h.size, h.many, h.wk⟩
  by_cases h0 : 0 ≤ n
  · exact .inl ⟨by show decide (0 ≤ n) = true; simpa using h0, by show (if -1 < n then n else -1) = n; rw [if_pos (by omega)], h0, hn⟩
  · exact .inr ⟨by show decide (0 ≤ n) = false; simpa using h0, by show (if -1 < n then n else -1) = -1; rw [if_neg (by omega)]⟩

theorem PSam6.fit (h : PSam6 N s r) (hN : N ≤ 200) : RFit 5 (N * 2097152) r := by
  have hs : ∀ i k, ((nowL r.kept (r.pend.take i)).getD k []).length ≤ N * 2097152 := fun i k => by
    have h1 := h.size i (k : Int)
    rw [← h.kept, ← h.pend, ← fil5_now _ _ (fun o ho => (h.keys o (h.pend ▸ List.mem_of_mem_take ho)).1)] at h1
    unfold fil5 at h1
    rw [if_pos (by omega), Int.toNat_natCast] at h1
    exact h1
  have hm := h.many
  have hw := h.wk
  have hk : ∀ o ∈ r.pend, 0 ≤ o.key ∧ o.key < 5 := fun o ho => h.keys o (h.pend ▸ ho)
  refine ⟨by rw [h.pend]; omega, by rw [h.works]; omega, h.len, by omega, fun o ho => (hk o ho).1, fun o ho => by have := (hk o ho).2; omega, ?_, fun k i => hs i k, fun i hi => ?_, ?_, ?_⟩
  · exact Nat.le_trans (Nat.mul_le_mul_right 2097152 hN) (by decide)
  · have h1 := hs (i + 1) r.pend[i].key.toNat
    rw [nowL_take _ _ _ hi] at h1
    have h4 := fun k => hs i k
    generalize nowL r.kept (r.pend.take i) = L at *
    have hki := hk r.pend[i] (List.getElem_mem hi)
    generalize r.pend[i] = o at *
    cases o with
    | lay f bs =>
      have hf : 0 ≤ f := hki.1
      have e1 : (tl L (.lay f bs)).getD f.toNat [] = L.getD f.toNat [] ++ bs := by
        have h2 := congrFun (fil5_tl L (.lay f bs) hki.1) f
        unfold fil5 at h2
        rw [if_pos hf] at h2
        rw [h2]
        simp [act, fput, hf]
      have h3 : ((tl L (.lay f bs)).getD f.toNat []).length ≤ N * 2097152 := h1
      rw [e1, List.length_append] at h3
      exact h3
    | rem f =>
      exact h4 f.toNat
  · rcases h.fuse with ⟨_, h2, h3, _⟩ | ⟨_, h2⟩ <;> omega
  · rcases h.fuse with ⟨_, h2, _, h4⟩ | ⟨_, h2⟩ <;> omega

end

end Go.Proofs.YtnipdgigjcaolaaGreat
