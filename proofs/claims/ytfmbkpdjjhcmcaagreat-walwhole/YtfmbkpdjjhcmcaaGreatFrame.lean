/- What the calls of package frame do to memory. -/
import Derived.Test.YtfmbkpdjjhcmcaaGreatOctR
import Derived.Test.YtfmbkpdjjhcmcaaGreatCKnown
import Derived.Test.YtfmbkpdjjhcmcaaGreatCat
import Derived.Test.YtfmbkpdjjhcmcaaGreatPkA
namespace Go.Proofs.YtfmbkpdjjhcmcaaGreat
open Go.RowKit

/-- A Framer in block f, its Table in block t. -/
structure Fr (w : World) (f t : Nat) : Prop where
  at' : At 99 w f #[.pointer (some ⟨t, 0, none⟩)]
  tab : ∃ u, Tab w t u
  ne : f ≠ t

theorem Fr.kept {S : Nat → Prop} {w w' : World} {f t : Nat} (h : Fr w f t) (ht : Turn S w w') (h1 : ¬ S f) (h2 : ¬ S t) : Fr w' f t := by
  obtain ⟨u, hu⟩ := h.tab
  exact ⟨h.at'.kept ht h1, ⟨u, hu.kept ht h2⟩, h.ne⟩

theorem Fr.goes {w w' : World} {f t : Nat} (h : Fr w f t) (ht : Turn (fun _ => False) w w') : Fr w' f t := h.kept ht (fun h => h) (fun h => h)

theorem Fr.sum {w w' : World} {f t : Nat} (h : Fr w f t) (ht : Turn (fun k => k = t) w w') (h2 : Tab w' t true) : Fr w' f t := ⟨h.at'.kept ht h.ne, ⟨true, h2⟩, h.ne⟩

theorem Fr.ltf {w : World} {f t : Nat} (h : Fr w f t) : f < w.heap.size := h.at'.lt
theorem Fr.ltt {w : World} {f t : Nat} (h : Fr w f t) : t < w.heap.size := by
  obtain ⟨u, hu⟩ := h.tab
  exact hu.lt

theorem Fr.cell {w : World} {f t : Nat} (h : Fr w f t) : w.cell? ⟨f, 0, none⟩ = some (.pointer (some ⟨t, 0, none⟩)) := by rw [h.at'.cell]; rfl

theorem fresh_ne {w w1 w2 : World} {v : Value} {bs : List UInt8} {t : Nat} (h : Made w1 v bs w2) (ht : Turn (fun _ => False) w w1) (hlt : t < w.heap.size) : ∀ k, slab v = some k → t ≠ k := by
  intro k hk e
  rw [h.1.slab_eq] at hk
  have := h.2.2 k hk
  have := ht.size
  omega

/-- A new Framer, nothing else turned. -/
def FrNew (w : World) (f : Nat) (w' : World) : Prop := ∃ t, Fr w' f t ∧ w.heap.size ≤ f ∧ w.heap.size ≤ t ∧ Turn (fun _ => False) w w'

set_option maxHeartbeats 400000 in
set_option maxRecDepth 100000 in
theorem frameNew_any (w : World) : Calls Tryz.prog 29 #[] w fun e w' => ∃ f, e = .returned (.pointer (some ⟨f, 0, none⟩)) ∧ FrNew w f w' := by
  go_enter Tryz.func29, Tryz.ntmps29
  go_wp2_with fail
  refine (new_any w).mono ?_
  rintro e w1 ⟨rfl, e1⟩
  have h1 : Own w w1 w.heap.size false := e1 ▸ Own.start w
  generalize w.heap.size = t at h1 ⊢
  clear e1
  have hlt := h1.tab.lt
  have hn : FrNew w w1.heap.size (w1.alloc (.cells #[.pointer (some ⟨t, 0, none⟩)] 99)) := by
    refine ⟨t, ⟨At.new _ _ _, ⟨false, h1.tab.kept ((Turn.refl (fun _ => False) w1).alloc _) (fun h => h)⟩, by omega⟩, h1.turn.size, h1.new, h1.turn.alloc _⟩
  clear h1
  go_wp2
  go_ret
  exact ⟨_, rfl, hn⟩

set_option maxHeartbeats 400000 in
set_option maxRecDepth 100000 in
theorem size_any (n : Int) (w : World) : Calls Tryz.prog 71 #[.int .i64 n] w fun e w' => e = .returned (.int .i64 (wrap64 (9 + n))) ∧ w = w' := by
  go_enter Tryz.func71, Tryz.ntmps71
  go_wp2
  go_ret
  exact ⟨rfl, rfl⟩

set_option maxHeartbeats 400000 in
set_option maxRecDepth 100000 in
theorem layFour_any (b : Nat) (v : Value) (bs : List UInt8) (n : Int) (w : World) (h : WAt 161 w b v bs) (hb : bs.length + 4 ≤ 140737488355328) :
    Calls Tryz.prog 80 #[.pointer (some ⟨b, 0, none⟩), .int .i64 n] w fun e w' => e = .returned (.tuple #[]) ∧ ∃ v', WStep 161 b w v w' v' (bs ++ be n 4) := by
  have hq := hide (u16_any b v bs (n / 65536) w h (by omega))
  go_enter Tryz.func80, Tryz.ntmps80
  go_wp2_with fail
  refine (unhide hq).mono ?_
  rintro e w1 ⟨rfl, v1, hst⟩
  go_wp2_with fail
  refine (u16_any b v1 (bs ++ be (n / 65536) 2) n w1 hst.at' (by simp [be_length]; omega)).mono ?_
  rintro e w2 ⟨rfl, v2, hst2⟩
  have hst3 := hst.trans hst2
  rw [List.append_assoc, ← be_four] at hst3
  go_wp2
  go_end0
  exact ⟨rfl, v2, hst3⟩

set_option maxHeartbeats 400000 in
set_option maxRecDepth 100000 in
theorem takeFour_any (b : Nat) (v : Value) (P Y : List UInt8) (l : Bool) (w : World) (h : RIs 158 w b v ⟨P ++ Y, l⟩) (hP : P.length = 4) :
    Calls Tryz.prog 70 #[.pointer (some ⟨b, 0, none⟩)] w fun e w' => e = .returned (.int .i64 (num P)) ∧ Now 158 w b v ⟨Y, l⟩ w' := by
  obtain ⟨x0, x1, x2, x3, rfl⟩ := four_of hP
  have q1 := ru16_any b v _ w h
  have e1 : (St.mk ([x0, x1, x2, x3] ++ Y) l).take 2 = ([x0, x1], ⟨[x2, x3] ++ Y, l⟩) := St.take_all [x0, x1] ([x2, x3] ++ Y) l 2 rfl
  rw [e1] at q1
  have hq := hide q1
  have hj := hide (join_four x0 x1 x2 x3)
  clear q1 e1 hP
  generalize num [x0, x1, x2, x3] = n4 at *
  generalize num [x0, x1] = n01 at *
  go_enter Tryz.func70, Tryz.ntmps70
  go_wp2_with fail
  refine (unhide hq).mono ?_
  clear hq
  rintro e w1 ⟨rfl, v1, hr⟩
  have q2 := ru16_any b v1 ⟨[x2, x3] ++ Y, l⟩ w1 hr.at'
  have e2 : (St.mk ([x2, x3] ++ Y) l).take 2 = ([x2, x3], ⟨Y, l⟩) := St.take_all [x2, x3] Y l 2 rfl
  rw [e2] at q2
  have hq := hide q2
  clear q2 e2
  generalize num [x2, x3] = n23 at *
  go_wp2_with fail
  refine (unhide hq).mono ?_
  clear hq
  rintro e w2 ⟨rfl, v2, hr2⟩
  have hr3 := hr.trans hr2
  go_wp2
  go_ret
  exact ⟨ret_int (unhide hj), v2, hr3⟩

theorem pair_cells (w : World) (va vb : Value) (xs ys : List UInt8) (T : TypeId) (ha : Sees w va xs) (hb : Sees w vb ys) :
    ∀ k (hk : k < [(va, xs), (vb, ys)].length), (w.drew.alloc (.cells #[va, vb] T)).cell? ((⟨w.heap.size, 0, none⟩ : Addr).add k) = some [(va, xs), (vb, ys)][k].1 ∧ Sees (w.drew.alloc (.cells #[va, vb] T)) [(va, xs), (vb, ys)][k].1 [(va, xs), (vb, ys)][k].2 := by
  have ht : Turn (fun _ => False) w (w.drew.alloc (.cells #[va, vb] T)) := (Turn.refl _ _).drew.alloc _
  intro k hk
  match k, hk with
  | 0, _ => exact ⟨(At.new T w.drew #[va, vb]).cell 0, ha.kept ht (fun _ _ h => h)⟩
  | 1, _ => exact ⟨(At.new T w.drew #[va, vb]).cell 1, hb.kept ht (fun _ _ h => h)⟩

theorem cat_pair (va vb : Value) (xs ys : List UInt8) : cat [(va, xs), (vb, ys)] = xs ++ ys := by simp [cat]

set_option maxHeartbeats 1000000 in
set_option maxRecDepth 100000 in
theorem fsum_any (f t : Nat) (va vb : Value) (xs ys : List UInt8) (w : World) (h : Fr w f t) (ha : Sees w va xs) (hb : Sees w vb ys) (hn : xs.length + ys.length ≤ 140737488355328) :
    Calls Tryz.prog 72 #[.pointer (some ⟨f, 0, none⟩), va, vb] w fun e w' => e = .returned (.int .i64 (csum (xs ++ ys))) ∧ Fr w' f t ∧ Turn (fun k => k = t) w w' := by
  have hpc := hide (pair_cells w va vb xs ys 31 ha hb)
  have hcat := hide (cat_pair va vb xs ys)
  have hlt := csum_lt (xs ++ ys)
  have hlf := h.ltf
  have hlt' := h.ltt
  have hA : Turn (fun _ => False) w (w.drew.alloc (.cells #[va, vb] 31)) := (Turn.refl _ _).drew.alloc _
  have cw : w.cell? ⟨f, 0, none⟩ = some (.pointer (some ⟨t, 0, none⟩)) := h.cell
  have c0 : w.drew.cell? ⟨f, 0, none⟩ = some (.pointer (some ⟨t, 0, none⟩)) := by show w.cell? _ = _; rw [h.at'.cell]; rfl
  have c1 : (w.drew.alloc (.cells #[va, vb] 31)).cell? ⟨f, 0, none⟩ = some (.pointer (some ⟨t, 0, none⟩)) := by rw [(h.goes hA).at'.cell]; rfl
  obtain ⟨aa, ca, ea⟩ := ha.shape
  obtain ⟨ab, cb, eb⟩ := hb.shape
  subst ea
  subst eb
  have hq := hide (concat_any ⟨w.heap.size, 0, none⟩ 2 _ _ (by simp [maxLen]) (unhide hpc) (by rw [unhide hcat, List.length_append]; exact hn))
  rw [unhide hcat] at hq
  clear ha hb hpc hcat
  generalize hcs : csum (xs ++ ys) = cs at *
  have Hcs := hide hcs
  clear hcs
  go_enter Tryz.func72, Tryz.ntmps72
  go_wp2_with fail
  go_region_with (first
    | (go_at_call 94; go_must (refine (unhide hq).mono ?_; rintro e w2 ⟨v2, rfl, h2⟩; have hw2 := (h.goes hA).goes h2.2.1; have hs2 := h2.1.sees; have hnew : ∀ k, slab v2 = some k → t ≠ k := fresh_ne h2 hA hlt'; have ht2 := hA.trans h2.2.1; have c2 : w2.cell? ⟨f, 0, none⟩ = some (.pointer (some ⟨t, 0, none⟩)) := hw2.cell; obtain ⟨u, htab⟩ := hw2.tab; clear h2))
    | (go_at_call 93; go_must (refine (sum_any t _ (xs ++ ys) u _ htab hs2 (fun _ e => hnew t e rfl)).mono ?_; rintro e w3 ⟨rfl, h3, t3⟩; rw [unhide Hcs]; have hw3 := hw2.sum t3 h3; have ht3 := (ht2.mono (fun _ _ h => h.elim)).trans t3; have c3 : w3.cell? ⟨f, 0, none⟩ = some (.pointer (some ⟨t, 0, none⟩)) := hw3.cell)))
  all_goals (
    go_wp2
    go_ret
    exact ⟨ret_int (by rw [IntKind.wrap_i64]; omega), hw3, ht3⟩)

/-- A Writer of the call's own, in new memory; beside it only S has turned. -/
structure WNew (S : Nat → Prop) (T : TypeId) (w w1 : World) (b : Nat) (v : Value) (bs : List UInt8) : Prop where
  at' : WAt T w1 b v bs
  turn : Turn S w w1
  new : w.heap.size ≤ b
  newv : ∀ k, v.ownBlock = some k → w.heap.size ≤ k

theorem WNew.start (S : Nat → Prop) (T : TypeId) (w : World) : WNew S T w (w.alloc (.cells #[.slice none 0 0] T)) w.heap.size (.slice none 0 0) [] :=
  ⟨WAt.new T w, (Turn.refl _ _).alloc _, Nat.le_refl _, fun k hk => by simp [Value.ownBlock] at hk⟩

theorem WNew.step {S : Nat → Prop} {T : TypeId} {w w1 w2 : World} {b : Nat} {v v2 : Value} {bs bs2 : List UInt8} (h : WNew S T w w1 b v bs) (hst : WStep T b w1 v w2 v2 bs2) : WNew S T w w2 b v2 bs2 := by
  refine ⟨hst.at', h.turn.trans' hst.turn (fun i hi hS => ?_), h.new, fun k hk => ?_⟩
  · have hb := h.new
    rcases hS with hS | hS
    · omega
    · have := h.newv i hS
      omega
  · rcases hst.moved with hm | ⟨j, hj, hle⟩
    · exact h.newv k (hm ▸ hk)
    · rw [hj] at hk
      injection hk with hk
      have := h.turn.size
      omega

theorem WNew.other {S S' : Nat → Prop} {T : TypeId} {w w1 w2 : World} {b : Nat} {v : Value} {bs : List UInt8} (h : WNew S T w w1 b v bs) (ht : Turn S' w1 w2) (hS : ∀ k, S' k → S k ∧ k < w.heap.size) : WNew S T w w2 b v bs := by
  refine ⟨h.at'.kept ht (fun h' => ?_) (fun k hk h' => ?_), h.turn.trans' ht (fun i _ h' => (hS i h').1), h.new, h.newv⟩
  · have := (hS _ h').2
    have := h.new
    omega
  · have := (hS _ h').2
    have := h.newv k hk
    omega

theorem WNew.nots {S : Nat → Prop} {T : TypeId} {w w1 : World} {b : Nat} {v : Value} {bs : List UInt8} (h : WNew S T w w1 b v bs) {j : Nat} (hj : j < w.heap.size) : ¬ (j = b ∨ v.ownBlock = some j) := by
  rintro (e | e)
  · have := h.new
    omega
  · have := h.newv j e
    omega

theorem WNew.apart {S : Nat → Prop} {T : TypeId} {w w1 : World} {b : Nat} {v : Value} {bs : List UInt8} (h : WNew S T w w1 b v bs) {s : Value} {p : Prop} (hj : p → ∀ j, slab s = some j → j < w.heap.size) : p → ∀ j, slab s = some j → ¬ (j = b ∨ v.ownBlock = some j) :=
  fun hp j e => h.nots (hj hp j e)

/-- What Lay answers: bytes of one's own, in new memory; the Table alone has turned. -/
def Laid (w : World) (f t : Nat) (bs : List UInt8) (v : Value) (w' : World) : Prop :=
  Owns w' v bs ∧ (∀ k, v.ownBlock = some k → w.heap.size ≤ k) ∧ Fr w' f t ∧ Turn (fun k => k = t) w w'

set_option maxHeartbeats 400000 in
set_option maxRecDepth 100000 in
theorem lay_no (f : Nat) (k : Int) (ao : Option Addr) (n cap : Nat) (w : World) (h : k < 1 ∨ 255 < k ∨ 1048576 < n) :
    Calls Tryz.prog 61 #[.pointer (some ⟨f, 0, none⟩), .int .i64 k, .slice ao n cap] w fun e w' => e = .returned (.tuple #[.slice none 0 0, .int .i64 1]) ∧ w = w' := by
  by_cases h1 : k < 1
  · go_enter Tryz.func61, Tryz.ntmps61
    go_wp2
    go_ret2
    exact ⟨rfl, rfl⟩
  · by_cases h2 : 255 < k
    · go_enter Tryz.func61, Tryz.ntmps61
      go_wp2
      go_ret2
      exact ⟨rfl, rfl⟩
    · have h3 : (1048576 : Int) < (n : Int) := by omega
      clear h
      go_enter Tryz.func61, Tryz.ntmps61
      go_wp2
      go_ret2
      exact ⟨rfl, rfl⟩

set_option maxHeartbeats 1000000 in
set_option maxRecDepth 100000 in
theorem lay_yes (f t : Nat) (k : Int) (s : Value) (bs : List UInt8) (w : World) (h : Fr w f t) (h1 : 1 ≤ k) (h2 : k ≤ 255) (hs : Sees w s bs) (h3 : bs.length ≤ 1048576) (hsl : 0 < bs.length → slab s ≠ some t) (hsb : 0 < bs.length → ∀ j, slab s = some j → j < w.heap.size) :
    Calls Tryz.prog 61 #[.pointer (some ⟨f, 0, none⟩), .int .i64 k, s] w fun e w' => ∃ v, e = .returned (.tuple #[v, .int .i64 0]) ∧ Laid w f t (record k bs) v w' := by
  obtain ⟨ao, cap, rfl⟩ := hs.shape
  have q1 : ¬ k < 1 := by omega
  have q2 : ¬ (255 : Int) < k := by omega
  have q3 : ¬ (1048576 : Int) < (bs.length : Int) := by omega
  have hlf := h.ltf
  have hlt := h.ltt
  clear h1 h2
  go_enter Tryz.func61, Tryz.ntmps61
  go_wp2_with fail
  refine (newWriter_any w).mono ?_
  rintro e w1 ⟨rfl, e1⟩
  have n1 : WNew (fun j => j = t) 161 w w1 w.heap.size (.slice none 0 0) [] := e1 ▸ WNew.start _ _ w
  have hS1 : Sees w1 (.slice ao bs.length cap) bs := by rw [e1]; exact hs.kept ((Turn.refl (fun _ => False) w).alloc _) (fun _ _ h => h)
  have f1 : Fr w1 f t := by rw [e1]; exact h.goes ((Turn.refl _ _).alloc _)
  clear e1
  generalize w.heap.size = b at n1 ⊢
  go_wp2_with fail
  refine (u8_any b _ [] k w1 n1.at' (by simp)).mono ?_
  rintro e w2 ⟨rfl, v2, st2⟩
  have n2 := n1.step st2
  rw [List.nil_append] at n2
  have hS2 : Sees w2 (.slice ao bs.length cap) bs := hS1.kept' st2.turn (n1.apart hsb)
  have f2 := f1.kept st2.turn (n1.nots hlf) (n1.nots hlt)
  clear n1 st2 hS1 f1
  go_wp2_with fail
  refine (layFour_any b v2 (be k 1) bs.length w2 n2.at' (by simp [be_length])).mono ?_
  rintro e w3 ⟨rfl, v3, st3⟩
  have n3 : WNew (fun j => j = t) 161 w w3 b v3 (front k bs.length) := n2.step st3
  have hS3 : Sees w3 (.slice ao bs.length cap) bs := hS2.kept' st3.turn (n2.apart hsb)
  have f3 := f2.kept st3.turn (n2.nots hlf) (n2.nots hlt)
  clear n2 st3 hS2 f2
  have hfl := front_length k bs.length
  go_wp2_with fail
  refine (bytes_any b v3 (front k bs.length) w3 n3.at' (by omega)).mono ?_
  rintro e w4 ⟨v4, rfl, ho4, hg4, hk4⟩
  have n4 := n3.other (turn_of_grown hg4) (fun _ h => h.elim)
  have hS4 : Sees w4 (.slice ao bs.length cap) bs := hS3.kept' (turn_of_grown hg4) (fun _ _ _ h => h)
  have f4 := f3.goes (turn_of_grown hg4)
  obtain ⟨ao4, cap4, e4⟩ := ho4.shape
  subst e4
  have hs4 := ho4.sees
  clear n3 hS3 f3 ho4 hg4 hk4
  go_wp2_with fail
  refine (fsum_any f t _ _ (front k bs.length) bs w4 f4 hs4 hS4 (by omega)).mono ?_
  rintro e w5 ⟨rfl, f5, t5⟩
  have n5 := n4.other t5 (fun j hj => ⟨hj, by omega⟩)
  have hS5 : Sees w5 (.slice ao bs.length cap) bs := hS4.kept' t5 (fun h0 j hj e => hsl h0 (e ▸ hj))
  clear n4 hS4 f4 hs4 t5
  go_wp2_with fail
  refine (layFour_any b v3 (front k bs.length) (csum (front k bs.length ++ bs)) w5 n5.at' (by omega)).mono ?_
  rintro e w6 ⟨rfl, v6, st6⟩
  have n6 := n5.step st6
  have hS6 : Sees w6 (.slice ao bs.length cap) bs := hS5.kept' st6.turn (n5.apart hsb)
  have f6 := f5.kept st6.turn (n5.nots hlf) (n5.nots hlt)
  clear n5 st6 hS5 f5
  go_wp2_with fail
  refine (raw_any b v6 _ (front k bs.length ++ be (csum (front k bs.length ++ bs)) 4) bs w6 n6.at' hS6 (by simp [be_length]; omega)).mono ?_
  rintro e w7 ⟨rfl, v7, st7⟩
  have n7 : WNew (fun j => j = t) 161 w w7 b v7 (record k bs) := n6.step st7
  have f7 := f6.kept st7.turn (n6.nots hlf) (n6.nots hlt)
  clear n6 st7 hS6 f6
  have hrl := record_length k bs
  go_wp2_with fail
  refine (bytes_any b v7 (record k bs) w7 n7.at' (by omega)).mono ?_
  clear hrl
  rintro e w8 ⟨v8, rfl, ho8, hg8, hk8⟩
  have hl : Laid w f t (record k bs) v8 w8 := by
    refine ⟨ho8, fun j hj => ?_, f7.goes (turn_of_grown hg8), n7.turn.trans' (turn_of_grown hg8) (fun _ _ h => h.elim)⟩
    rcases hk8 with hk | hk
    · rw [hk] at hj; cases hj
    · rw [hk] at hj; injection hj with hj; have := n7.turn.size; omega
  obtain ⟨ao8, cap8, e8⟩ := ho8.shape
  subst e8
  clear n7 f7 ho8 hg8 hk8
  go_wp2
  go_ret2
  exact ⟨_, rfl, hl⟩

end Go.Proofs.YtfmbkpdjjhcmcaaGreat
