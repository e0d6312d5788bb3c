/- What stands below the proof, in one text. -/
import Derived.Test.YtnipdgigjcaolaaGreatPkD
import Derived.Test.YtnipdgigjcaolaaGreatPkE
import Derived.Test.YtnipdgigjcaolaaGreatPkB
import Derived.Test.YtnipdgigjcaolaaGreatPkA
/- What the calls of package frame do to memory. -/
namespace Go.Proofs.YtnipdgigjcaolaaGreat
open Go.RowKit

/-- A Framer in block f, its Table in block t. -/
structure Fr (w : World) (f t : Nat) : Prop where
  at' : At 167 w f #[.pointer (some ⟨t, 0, none⟩)]
  tab : ∃ u, Tab w t u
  ne : f ≠ t

theorem Fr.kept {S : Nat → Prop} {w w' : World} {f t : Nat} (h : Fr w f t) (ht : Turn S w w') (h1 : ¬ S f) (h2 : ¬ S t) : Fr w' f t := by
  obtain ⟨u, hu⟩ := h.tab
  exact ⟨h.at'.kept ht h1, ⟨u, hu.kept ht h2⟩, h.ne⟩

theorem Fr.goes {w w' : World} {f t : Nat} (h : Fr w f t) (ht : Turn (fun _ => False) w w') : Fr w' f t := h.kept ht (fun h => h) (fun h => h)

theorem Fr.sum {w w' : World} {f t : Nat} (h : Fr w f t) (ht : Turn (fun k => k = t) w w') (h2 : Tab w' t true) : Fr w' f t := ⟨h.at'.kept ht h.ne, ⟨true, h2⟩, h.ne⟩

theorem Fr.ltf {w : World} {f t : Nat} (h : Fr w f t) : f < w.heap.size := h.at'.lt
theorem Fr.ltt {w : World} {f t : Nat} (h : Fr w f t) : t < w.heap.size := by
  obtain ⟨u, hu⟩ := h.tab
  exact hu.lt

theorem Fr.cell {w : World} {f t : Nat} (h : Fr w f t) : w.cell? ⟨f, 0, none⟩ = some (.pointer (some ⟨t, 0, none⟩)) := by rw [h.at'.cell]; rfl

theorem fresh_ne {w w1 w2 : World} {v : Value} {bs : List UInt8} {t : Nat} (h : Made w1 v bs w2) (ht : Turn (fun _ => False) w w1) (hlt : t < w.heap.size) : ∀ k, slab v = some k → t ≠ k := by
  intro k hk e
  rw [h.1.slab_eq] at hk
  have := h.2.2 k hk
  have := ht.size
  omega

/-- A new Framer, nothing else turned. -/
def FrNew (w : World) (f : Nat) (w' : World) : Prop := ∃ t, Fr w' f t ∧ w.heap.size ≤ f ∧ w.heap.size ≤ t ∧ Turn (fun _ => False) w w'

set_option maxHeartbeats 400000 in
set_option maxRecDepth 100000 in
theorem frameNew_any (w : World) : Calls Tryz.prog 56 #[] w fun e w' => ∃ f, e = .returned (.pointer (some ⟨f, 0, none⟩)) ∧ FrNew w f w' := by
  go_enter Tryz.func56, Tryz.ntmps56
  go_wp2_with fail
  refine (new_any w).mono ?_
  rintro e w1 ⟨rfl, e1⟩
  have h1 : Own w w1 w.heap.size false := e1 ▸ Own.start w
  generalize w.heap.size = t at h1 ⊢
  clear e1
  have hlt := h1.tab.lt
  have hn : FrNew w w1.heap.size (w1.alloc (.cells #[.pointer (some ⟨t, 0, none⟩)] 167)) := by
    refine ⟨t, ⟨At.new _ _ _, ⟨false, h1.tab.kept ((Turn.refl (fun _ => False) w1).alloc _) (fun h => h)⟩, by omega⟩, h1.turn.size, h1.new, h1.turn.alloc _⟩
  clear h1
  go_wp2
  go_ret
  exact ⟨_, rfl, hn⟩

set_option maxHeartbeats 400000 in
set_option maxRecDepth 100000 in
theorem size_any (n : Int) (w : World) : Calls Tryz.prog 140 #[.int .i64 n] w fun e w' => e = .returned (.int .i64 (wrap64 (9 + n))) ∧ w = w' := by
  go_enter Tryz.func140, Tryz.ntmps140
  go_wp2
  go_ret
  exact ⟨rfl, rfl⟩

set_option maxHeartbeats 400000 in
set_option maxRecDepth 100000 in
theorem layFour_any (b : Nat) (v : Value) (bs : List UInt8) (n : Int) (w : World) (h : WAt 178 w b v bs) (hb : bs.length + 4 ≤ 140737488355328) :
    Calls Tryz.prog 160 #[.pointer (some ⟨b, 0, none⟩), .int .i64 n] w fun e w' => e = .returned (.tuple #[]) ∧ ∃ v', WStep 178 b w v w' v' (bs ++ be n 4) := by
  have hq := hide (u16_any b v bs (n / 65536) w h (by omega))
  go_enter Tryz.func160, Tryz.ntmps160
  go_wp2_with fail
  refine (unhide hq).mono ?_
  rintro e w1 ⟨rfl, v1, hst⟩
  go_wp2_with fail
  refine (u16_any b v1 (bs ++ be (n / 65536) 2) n w1 hst.at' (by simp [be_length]; omega)).mono ?_
  rintro e w2 ⟨rfl, v2, hst2⟩
  have hst3 := hst.trans hst2
  rw [List.append_assoc, ← be_four] at hst3
  go_wp2
  go_end0
  exact ⟨rfl, v2, hst3⟩

set_option maxHeartbeats 400000 in
set_option maxRecDepth 100000 in
theorem takeFour_any (b : Nat) (v : Value) (P Y : List UInt8) (l : Bool) (w : World) (h : RIs 180 w b v ⟨P ++ Y, l⟩) (hP : P.length = 4) :
    Calls Tryz.prog 139 #[.pointer (some ⟨b, 0, none⟩)] w fun e w' => e = .returned (.int .i64 (num P)) ∧ Now 180 w b v ⟨Y, l⟩ w' := by
  obtain ⟨x0, x1, x2, x3, rfl⟩ := four_of hP
  have q1 := ru16_any b v _ w h
  have e1 : (St.mk ([x0, x1, x2, x3] ++ Y) l).take 2 = ([x0, x1], ⟨[x2, x3] ++ Y, l⟩) := St.take_all [x0, x1] ([x2, x3] ++ Y) l 2 rfl
  rw [e1] at q1
  have hq := hide q1
  have hj := hide (join_four x0 x1 x2 x3)
  clear q1 e1 hP
  generalize num [x0, x1, x2, x3] = n4 at *
  generalize num [x0, x1] = n01 at *
  go_enter Tryz.func139, Tryz.ntmps139
  go_wp2_with fail
  refine (unhide hq).mono ?_
  clear hq
  rintro e w1 ⟨rfl, v1, hr⟩
  have q2 := ru16_any b v1 ⟨[x2, x3] ++ Y, l⟩ w1 hr.at'
  have e2 : (St.mk ([x2, x3] ++ Y) l).take 2 = ([x2, x3], ⟨Y, l⟩) := St.take_all [x2, x3] Y l 2 rfl
  rw [e2] at q2
  have hq := hide q2
  clear q2 e2
  generalize num [x2, x3] = n23 at *
  go_wp2_with fail
  refine (unhide hq).mono ?_
  clear hq
  rintro e w2 ⟨rfl, v2, hr2⟩
  have hr3 := hr.trans hr2
  go_wp2
  go_ret
  exact ⟨ret_int (unhide hj), v2, hr3⟩

theorem pair_cells (w : World) (va vb : Value) (xs ys : List UInt8) (T : TypeId) (ha : Sees w va xs) (hb : Sees w vb ys) :
    ∀ k (hk : k < [(va, xs), (vb, ys)].length), (w.drew.alloc (.cells #[va, vb] T)).cell? ((⟨w.heap.size, 0, none⟩ : Addr).add k) = some [(va, xs), (vb, ys)][k].1 ∧ Sees (w.drew.alloc (.cells #[va, vb] T)) [(va, xs), (vb, ys)][k].1 [(va, xs), (vb, ys)][k].2 := by
  have ht : Turn (fun _ => False) w (w.drew.alloc (.cells #[va, vb] T)) := (Turn.refl _ _).drew.alloc _
  intro k hk
  match k, hk with
  | 0, _ => exact ⟨(At.new T w.drew #[va, vb]).cell 0, ha.kept ht (fun _ _ h => h)⟩
  | 1, _ => exact ⟨(At.new T w.drew #[va, vb]).cell 1, hb.kept ht (fun _ _ h => h)⟩

theorem cat_pair (va vb : Value) (xs ys : List UInt8) : cat [(va, xs), (vb, ys)] = xs ++ ys := by simp [cat]

set_option maxHeartbeats 1000000 in
set_option maxRecDepth 100000 in
theorem fsum_any (f t : Nat) (va vb : Value) (xs ys : List UInt8) (w : World) (h : Fr w f t) (ha : Sees w va xs) (hb : Sees w vb ys) (hn : xs.length + ys.length ≤ 140737488355328) :
    Calls Tryz.prog 141 #[.pointer (some ⟨f, 0, none⟩), va, vb] w fun e w' => e = .returned (.int .i64 (csum (xs ++ ys))) ∧ Fr w' f t ∧ Turn (fun k => k = t) w w' := by
  have hpc := hide (pair_cells w va vb xs ys 29 ha hb)
  have hcat := hide (cat_pair va vb xs ys)
  have hlt := csum_lt (xs ++ ys)
  have hlf := h.ltf
  have hlt' := h.ltt
  have hA : Turn (fun _ => False) w (w.drew.alloc (.cells #[va, vb] 29)) := (Turn.refl _ _).drew.alloc _
  have cw : w.cell? ⟨f, 0, none⟩ = some (.pointer (some ⟨t, 0, none⟩)) := h.cell
  have c0 : w.drew.cell? ⟨f, 0, none⟩ = some (.pointer (some ⟨t, 0, none⟩)) := by show w.cell? _ = _; rw [h.at'.cell]; rfl
  have c1 : (w.drew.alloc (.cells #[va, vb] 29)).cell? ⟨f, 0, none⟩ = some (.pointer (some ⟨t, 0, none⟩)) := by rw [(h.goes hA).at'.cell]; rfl
  obtain ⟨aa, ca, ea⟩ := ha.shape
  obtain ⟨ab, cb, eb⟩ := hb.shape
  subst ea
  subst eb
  have hq := hide (concat_any ⟨w.heap.size, 0, none⟩ 2 _ _ (by simp [maxLen]) (unhide hpc) (by rw [unhide hcat, List.length_append]; exact hn))
  rw [unhide hcat] at hq
  clear ha hb hpc hcat
  generalize hcs : csum (xs ++ ys) = cs at *
  have Hcs := hide hcs
  clear hcs
  go_enter Tryz.func141, Tryz.ntmps141
  go_wp2_with fail
  go_region_with (first
    | (go_at_call 164; go_must (refine (unhide hq).mono ?_; rintro e w2 ⟨v2, rfl, h2⟩; have hw2 := (h.goes hA).goes h2.2.1; have hs2 := h2.1.sees; have hnew : ∀ k, slab v2 = some k → t ≠ k := fresh_ne h2 hA hlt'; have ht2 := hA.trans h2.2.1; have c2 : w2.cell? ⟨f, 0, none⟩ = some (.pointer (some ⟨t, 0, none⟩)) := hw2.cell; obtain ⟨u, htab⟩ := hw2.tab; clear h2))
    | (go_at_call 163; go_must (refine (sum_any t _ (xs ++ ys) u _ htab hs2 (fun _ e => hnew t e rfl)).mono ?_; rintro e w3 ⟨rfl, h3, t3⟩; rw [unhide Hcs]; have hw3 := hw2.sum t3 h3; have ht3 := (ht2.mono (fun _ _ h => h.elim)).trans t3; have c3 : w3.cell? ⟨f, 0, none⟩ = some (.pointer (some ⟨t, 0, none⟩)) := hw3.cell)))
  all_goals (
    go_wp2
    go_ret
    exact ⟨ret_int (by rw [IntKind.wrap_i64]; omega), hw3, ht3⟩)

/-- A Writer of the call's own, in new memory; beside it only S has turned. -/
structure WNew (S : Nat → Prop) (T : TypeId) (w w1 : World) (b : Nat) (v : Value) (bs : List UInt8) : Prop where
  at' : WAt T w1 b v bs
  turn : Turn S w w1
  new : w.heap.size ≤ b
  newv : ∀ k, v.ownBlock = some k → w.heap.size ≤ k

theorem WNew.start (S : Nat → Prop) (T : TypeId) (w : World) : WNew S T w (w.alloc (.cells #[.slice none 0 0] T)) w.heap.size (.slice none 0 0) [] :=
  ⟨WAt.new T w, (Turn.refl _ _).alloc _, Nat.le_refl _, fun k hk => by simp [Value.ownBlock] at hk⟩

theorem WNew.step {S : Nat → Prop} {T : TypeId} {w w1 w2 : World} {b : Nat} {v v2 : Value} {bs bs2 : List UInt8} (h : WNew S T w w1 b v bs) (hst : WStep T b w1 v w2 v2 bs2) : WNew S T w w2 b v2 bs2 := by
  refine ⟨hst.at', h.turn.trans' hst.turn (fun i hi hS => ?_), h.new, fun k hk => ?_⟩
  · have hb := h.new
    rcases hS with hS | hS
    · omega
    · have := h.newv i hS
      omega
  · rcases hst.moved with hm | ⟨j, hj, hle⟩
    · exact h.newv k (hm ▸ hk)
    · rw [hj] at hk
      injection hk with hk
      have := h.turn.size
      omega

theorem WNew.other {S S' : Nat → Prop} {T : TypeId} {w w1 w2 : World} {b : Nat} {v : Value} {bs : List UInt8} (h : WNew S T w w1 b v bs) (ht : Turn S' w1 w2) (hS : ∀ k, S' k → S k ∧ k < w.heap.size) : WNew S T w w2 b v bs := by
  refine ⟨h.at'.kept ht (fun h' => ?_) (fun k hk h' => ?_), h.turn.trans' ht (fun i _ h' => (hS i h').1), h.new, h.newv⟩
  · have := (hS _ h').2
    have := h.new
    omega
  · have := (hS _ h').2
    have := h.newv k hk
    omega

theorem WNew.nots {S : Nat → Prop} {T : TypeId} {w w1 : World} {b : Nat} {v : Value} {bs : List UInt8} (h : WNew S T w w1 b v bs) {j : Nat} (hj : j < w.heap.size) : ¬ (j = b ∨ v.ownBlock = some j) := by
  rintro (e | e)
  · have := h.new
    omega
  · have := h.newv j e
    omega

theorem WNew.apart {S : Nat → Prop} {T : TypeId} {w w1 : World} {b : Nat} {v : Value} {bs : List UInt8} (h : WNew S T w w1 b v bs) {s : Value} {p : Prop} (hj : p → ∀ j, slab s = some j → j < w.heap.size) : p → ∀ j, slab s = some j → ¬ (j = b ∨ v.ownBlock = some j) :=
  fun hp j e => h.nots (hj hp j e)

/-- What Lay answers: bytes of one's own, in new memory; the Table alone has turned. -/
def Laid (w : World) (f t : Nat) (bs : List UInt8) (v : Value) (w' : World) : Prop :=
  Owns w' v bs ∧ (∀ k, v.ownBlock = some k → w.heap.size ≤ k) ∧ Fr w' f t ∧ Turn (fun k => k = t) w w'

set_option maxHeartbeats 400000 in
set_option maxRecDepth 100000 in
theorem lay_no (f : Nat) (k : Int) (ao : Option Addr) (n cap : Nat) (w : World) (h : k < 1 ∨ 255 < k ∨ 1048576 < n) :
    Calls Tryz.prog 133 #[.pointer (some ⟨f, 0, none⟩), .int .i64 k, .slice ao n cap] w fun e w' => e = .returned (.tuple #[.slice none 0 0, .int .i64 1]) ∧ w = w' := by
  by_cases h1 : k < 1
  · go_enter Tryz.func133, Tryz.ntmps133
    go_wp2
    go_ret2
    exact ⟨rfl, rfl⟩
  · by_cases h2 : 255 < k
    · go_enter Tryz.func133, Tryz.ntmps133
      go_wp2
      go_ret2
      exact ⟨rfl, rfl⟩
    · have h3 : (1048576 : Int) < (n : Int) := by omega
      clear h
      go_enter Tryz.func133, Tryz.ntmps133
      go_wp2
      go_ret2
      exact ⟨rfl, rfl⟩

set_option maxHeartbeats 1000000 in
set_option maxRecDepth 100000 in
theorem lay_yes (f t : Nat) (k : Int) (s : Value) (bs : List UInt8) (w : World) (h : Fr w f t) (h1 : 1 ≤ k) (h2 : k ≤ 255) (hs : Sees w s bs) (h3 : bs.length ≤ 1048576) (hsl : 0 < bs.length → slab s ≠ some t) (hsb : 0 < bs.length → ∀ j, slab s = some j → j < w.heap.size) :
    Calls Tryz.prog 133 #[.pointer (some ⟨f, 0, none⟩), .int .i64 k, s] w fun e w' => ∃ v, e = .returned (.tuple #[v, .int .i64 0]) ∧ Laid w f t (record k bs) v w' := by
  obtain ⟨ao, cap, rfl⟩ := hs.shape
  have q1 : ¬ k < 1 := by omega
  have q2 : ¬ (255 : Int) < k := by omega
  have q3 : ¬ (1048576 : Int) < (bs.length : Int) := by omega
  have hlf := h.ltf
  have hlt := h.ltt
  clear h1 h2
  go_enter Tryz.func133, Tryz.ntmps133
  go_wp2_with fail
  refine (newWriter_any w).mono ?_
  rintro e w1 ⟨rfl, e1⟩
  have n1 : WNew (fun j => j = t) 178 w w1 w.heap.size (.slice none 0 0) [] := e1 ▸ WNew.start _ _ w
  have hS1 : Sees w1 (.slice ao bs.length cap) bs := by rw [e1]; exact hs.kept ((Turn.refl (fun _ => False) w).alloc _) (fun _ _ h => h)
  have f1 : Fr w1 f t := by rw [e1]; exact h.goes ((Turn.refl _ _).alloc _)
  clear e1
  generalize w.heap.size = b at n1 ⊢
  go_wp2_with fail
  refine (u8_any b _ [] k w1 n1.at' (by simp)).mono ?_
  rintro e w2 ⟨rfl, v2, st2⟩
  have n2 := n1.step st2
  rw [List.nil_append] at n2
  have hS2 : Sees w2 (.slice ao bs.length cap) bs := hS1.kept' st2.turn (n1.apart hsb)
  have f2 := f1.kept st2.turn (n1.nots hlf) (n1.nots hlt)
  clear n1 st2 hS1 f1
  go_wp2_with fail
  refine (layFour_any b v2 (be k 1) bs.length w2 n2.at' (by simp [be_length])).mono ?_
  rintro e w3 ⟨rfl, v3, st3⟩
  have n3 : WNew (fun j => j = t) 178 w w3 b v3 (front k bs.length) := n2.step st3
  have hS3 : Sees w3 (.slice ao bs.length cap) bs := hS2.kept' st3.turn (n2.apart hsb)
  have f3 := f2.kept st3.turn (n2.nots hlf) (n2.nots hlt)
  clear n2 st3 hS2 f2
  have hfl := front_length k bs.length
  go_wp2_with fail
  refine (bytes_any b v3 (front k bs.length) w3 n3.at' (by omega)).mono ?_
  rintro e w4 ⟨v4, rfl, ho4, hg4, hk4⟩
  have n4 := n3.other (turn_of_grown hg4) (fun _ h => h.elim)
  have hS4 : Sees w4 (.slice ao bs.length cap) bs := hS3.kept' (turn_of_grown hg4) (fun _ _ _ h => h)
  have f4 := f3.goes (turn_of_grown hg4)
  obtain ⟨ao4, cap4, e4⟩ := ho4.shape
  subst e4
  have hs4 := ho4.sees
  clear n3 hS3 f3 ho4 hg4 hk4
  go_wp2_with fail
  refine (fsum_any f t _ _ (front k bs.length) bs w4 f4 hs4 hS4 (by omega)).mono ?_
  rintro e w5 ⟨rfl, f5, t5⟩
  have n5 := n4.other t5 (fun j hj => ⟨hj, by omega⟩)
  have hS5 : Sees w5 (.slice ao bs.length cap) bs := hS4.kept' t5 (fun h0 j hj e => hsl h0 (e ▸ hj))
  clear n4 hS4 f4 hs4 t5
  go_wp2_with fail
  refine (layFour_any b v3 (front k bs.length) (csum (front k bs.length ++ bs)) w5 n5.at' (by omega)).mono ?_
  rintro e w6 ⟨rfl, v6, st6⟩
  have n6 := n5.step st6
  have hS6 : Sees w6 (.slice ao bs.length cap) bs := hS5.kept' st6.turn (n5.apart hsb)
  have f6 := f5.kept st6.turn (n5.nots hlf) (n5.nots hlt)
  clear n5 st6 hS5 f5
  go_wp2_with fail
  refine (raw_any b v6 _ (front k bs.length ++ be (csum (front k bs.length ++ bs)) 4) bs w6 n6.at' hS6 (by simp [be_length]; omega)).mono ?_
  rintro e w7 ⟨rfl, v7, st7⟩
  have n7 : WNew (fun j => j = t) 178 w w7 b v7 (record k bs) := n6.step st7
  have f7 := f6.kept st7.turn (n6.nots hlf) (n6.nots hlt)
  clear n6 st7 hS6 f6
  have hrl := record_length k bs
  go_wp2_with fail
  refine (bytes_any b v7 (record k bs) w7 n7.at' (by omega)).mono ?_
  clear hrl
  rintro e w8 ⟨v8, rfl, ho8, hg8, hk8⟩
  have hl : Laid w f t (record k bs) v8 w8 := by
    refine ⟨ho8, fun j hj => ?_, f7.goes (turn_of_grown hg8), n7.turn.trans' (turn_of_grown hg8) (fun _ _ h => h.elim)⟩
    rcases hk8 with hk | hk
    · rw [hk] at hj; cases hj
    · rw [hk] at hj; injection hj with hj; have := n7.turn.size; omega
  obtain ⟨ao8, cap8, e8⟩ := ho8.shape
  subst e8
  clear n7 f7 ho8 hg8 hk8
  go_wp2
  go_ret2
  exact ⟨_, rfl, hl⟩

end Go.Proofs.YtnipdgigjcaolaaGreat

/- What Next of package frame tells of any bytes. -/
namespace Go.Proofs.YtnipdgigjcaolaaGreat
open Go.RowKit

theorem results_tmp4 {fn : Func} {t u v x : Tmp} (h : fn.results = #[.tmp t, .tmp u, .tmp v, .tmp x]) (tmps : Array Value) (P : Program) (w : World) :
    (results fn tmps).run P w = .ok (.tuple #[tmps.getD t undef, tmps.getD u undef, tmps.getD v undef, tmps.getD x undef]) w := by
  simp [results, h]

/-- A Reader of the call's own, in new memory; nothing else has turned. -/
structure RNew (T : TypeId) (w w1 : World) (b : Nat) (v : Value) (s : St) : Prop where
  at' : RIs T w1 b v s
  turn : Turn (fun _ => False) w w1
  new : w.heap.size ≤ b
  newv : ∀ k, slab v = some k → w.heap.size ≤ k

theorem RNew.step {T : TypeId} {w w1 w2 : World} {b : Nat} {v : Value} {s s2 : St} (h : RNew T w w1 b v s) (hn : Now T w1 b v s2 w2) : ∃ v2, RNew T w w2 b v2 s2 := by
  obtain ⟨v2, hst⟩ := hn
  exact ⟨v2, hst.at', h.turn.trans' hst.turn (fun i hi e => by have := h.new; omega), h.new, fun k hk => h.newv k (hst.slab k hk)⟩

theorem RNew.goes {T : TypeId} {w w1 w2 : World} {b : Nat} {v : Value} {s : St} (h : RNew T w w1 b v s) (ht : Turn (fun _ => False) w1 w2) : RNew T w w2 b v s :=
  ⟨h.at'.kept ht (fun h => h) (fun _ _ h => h), h.turn.trans ht, h.new, h.newv⟩

theorem Fresh.rnew {T : TypeId} {w w' : World} {bs : List UInt8} {b : Nat} (h : Fresh T w bs b w') : ∃ v, RNew T w w' b v ⟨bs, false⟩ := by
  obtain ⟨v, h1, h2, h3, h4⟩ := h
  exact ⟨v, h1, h4, h2, fun k hk => (h3 k hk).1⟩

set_option maxHeartbeats 400000 in
set_option maxRecDepth 100000 in
theorem size_small (n : Int) (w : World) (h0 : 0 ≤ n) (h1 : n ≤ 1048576) : Calls Tryz.prog 140 #[.int .i64 n] w fun e w' => e = .returned (.int .i64 (9 + n)) ∧ w = w' := by
  have e : wrap64 (9 + n) = 9 + n := by unfold wrap64; omega
  have h := size_any n w
  rw [e] at h
  exact h

/-- What Next answers. -/
def toldValue (r : Told) (v : Value) : Value := .tuple #[.int .i64 r.kind, v, .int .i64 r.size, .int .i64 r.err]

/-- Behind Next: the body in memory of one's own; the Table alone has turned. -/
def NextIs (w : World) (f t : Nat) (r : Told) (v : Value) (w' : World) : Prop := Owns w' v r.body ∧ Fr w' f t ∧ Turn (fun k => k = t) w w' ∧ ∀ k, v.ownBlock = some k → w.heap.size ≤ k

theorem NextIs.none {w w' : World} {f t : Nat} (h : Fr w f t) (ht : Turn (fun _ => False) w w') (k s e : Int) : NextIs w f t ⟨k, [], s, e⟩ (.slice none 0 0) w' := ⟨Owns.nil _, h.goes ht, ht.mono (fun _ _ h => h.elim), fun k hk => by simp [Value.ownBlock] at hk⟩

set_option maxHeartbeats 400000 in
set_option maxRecDepth 100000 in
theorem next_short (f t : Nat) (v : Value) (bs : List UInt8) (w : World) (h : Fr w f t) (hs : Sees w v bs) (hl : bs.length < 9) :
    Calls Tryz.prog 108 #[.pointer (some ⟨f, 0, none⟩), v] w fun e w' => ∃ v', e = .returned (toldValue (tell bs) v') ∧ NextIs w f t (tell bs) v' w' := by
  rw [tell_short bs hl]
  obtain ⟨ao, cap, rfl⟩ := hs.shape
  have hl' : (bs.length : Int) < 9 := by omega
  go_enter Tryz.func108, Tryz.ntmps108
  go_wp2
  (try simp only [Exit.inBlock, Exit.then])
  refine bodyPost_ret (results_tmp4 rfl _ _ _) rfl ?_
  exact ⟨_, rfl, NextIs.none h (Turn.refl _ _) _ _ _⟩

theorem take9 {A L S R : List UInt8} (h1 : A.length = 1) (h2 : L.length = 4) (h3 : S.length = 4) : (A ++ (L ++ (S ++ R))).take 9 = A ++ (L ++ S) := by
  rw [show A ++ (L ++ (S ++ R)) = (A ++ (L ++ S)) ++ R by simp, List.take_left' (by simp; omega)]
theorem take5 {A L S R : List UInt8} (h1 : A.length = 1) (h2 : L.length = 4) : (A ++ (L ++ (S ++ R))).take 5 = A ++ L := by
  rw [show A ++ (L ++ (S ++ R)) = (A ++ L) ++ (S ++ R) by simp, List.take_left' (by simp; omega)]
theorem drop9 {A L S R : List UInt8} (h1 : A.length = 1) (h2 : L.length = 4) (h3 : S.length = 4) : (A ++ (L ++ (S ++ R))).drop 9 = R := by
  rw [show A ++ (L ++ (S ++ R)) = (A ++ (L ++ S)) ++ R by simp, List.drop_left' (by simp; omega)]

theorem slab_lt {w : World} {v : Value} {bs : List UInt8} (h : Sees w v bs) (h0 : 0 < bs.length) {k : Nat} (hk : slab v = some k) : k < w.heap.size := by
  rcases h with ⟨_, e⟩ | ⟨a, cap, rfl, _, _, hc⟩
  · rw [e] at h0
    simp at h0
  · simp only [slab, Option.some.injEq] at hk
    subst hk
    have := World.block_lt_of_cell? _ _ (hc 0 _ (by simp only [u8s, List.getElem?_map, List.getElem?_eq_getElem h0, Option.map_some]; rfl))
    rwa [addr_add_block] at this

/-- A middle part of a slice. -/
theorem Sees.mid {w : World} {a : Addr} {cap : Nat} {bs : List UInt8} (h : Sees w (.slice (some a) bs.length cap) bs) (lo n : Nat) (hn : lo + n ≤ bs.length) (a2 : Addr) (h2 : a2 = a.add lo ∨ lo = cap) : Sees w (.slice (some a2) n (cap - lo)) ((bs.drop lo).take n) := by
  have h1 := h.behind lo (by omega) a2 h2
  have e : bs.length - lo = (bs.drop lo).length := by simp
  rw [e] at h1
  exact h1.front n (by simp; omega)

end Go.Proofs.YtnipdgigjcaolaaGreat

/- What Next of package frame tells of nine bytes and more. -/
namespace Go.Proofs.YtnipdgigjcaolaaGreat
open Go.RowKit

theorem now_turn {T : TypeId} {w w' : World} {b : Nat} {v : Value} {s : St} (h : Now T w b v s w') : Turn (fun k => k = b) w w' := by
  obtain ⟨_, hst⟩ := h
  exact hst.turn

set_option maxHeartbeats 2000000 in
set_option maxRecDepth 100000 in
theorem next_long (f t : Nat) (v : Value) (bs A L S R : List UInt8) (w : World) (hF : Fr w f t) (hs : Sees w v bs) (h1 : A.length = 1) (h2 : L.length = 4) (h3 : S.length = 4) (hbs : bs = A ++ (L ++ (S ++ R))) :
    Calls Tryz.prog 108 #[.pointer (some ⟨f, 0, none⟩), v] w fun e w' => ∃ v', e = .returned (toldValue (told A L S R) v') ∧ NextIs w f t (told A L S R) v' w' := by
  have hlen := congrArg List.length hbs
  simp only [List.length_append, h1, h2, h3] at hlen
  have hm := hs.len
  unfold maxLen at hm
  have t9 : bs.take 9 = A ++ (L ++ S) := hbs ▸ take9 h1 h2 h3
  have t5 : bs.take 5 = A ++ L := hbs ▸ take5 h1 h2
  have d9 : bs.drop 9 = R := hbs ▸ drop9 h1 h2 h3
  have hA := num_one
  have bL := num4_lt h2
  have hAn : 0 ≤ num A := by obtain ⟨a, rfl⟩ := one_of h1; rw [num_one]; omega
  obtain ⟨a, cap, rfl, hcap, hcapm⟩ : ∃ a cap, v = .slice (some a) bs.length cap ∧ bs.length ≤ cap ∧ cap ≤ maxLen := by
    rcases hs with ⟨_, e⟩ | ⟨a, cap, e, hc, hm', _⟩
    · rw [e] at hlen
      simp at hlen
      omega
    · exact ⟨a, cap, e, hc, hm'⟩
  unfold maxLen at hcapm
  have hlf := hF.ltf
  have hlt := hF.ltt
  have s9 : Sees w (.slice (some a) 9 cap) (A ++ (L ++ S)) := t9 ▸ hs.front 9 (by omega)
  have s5 : Sees w (.slice (some a) 5 cap) (A ++ L) := t5 ▸ hs.front 5 (by omega)
  have sm := hide (fun n (hn : 9 + n ≤ bs.length) a2 h2 => d9 ▸ hs.mid 9 n hn a2 h2)
  have q1 := ru8_any (s := ⟨A ++ (L ++ S), false⟩)
  simp only [St.take_all A (L ++ S) false 1 (by omega)] at q1
  have Q1 := hide q1
  clear hbs t9 t5 d9 hs q1 hA
  generalize bs.length = len at *
  have HL := hide hlen
  have hl9' : 9 ≤ len := by omega
  clear hlen
  have hl9 : ¬ (len : Int) < 9 := by omega
  have tf := hide (told_form A L S R)
  have ts := hide (told_short A L S R)
  have tq := hide (told_sum A L S R)
  have tw := hide (told_well A L S R)
  generalize told A L S R = r at *
  have Q2 := hide (fun b v w (h : RIs 180 w b v ⟨L ++ S, false⟩) => takeFour_any b v L S false w h h2)
  have Q3 := hide (fun b v w (h : RIs 180 w b v ⟨S ++ [], false⟩) => takeFour_any b v S [] false w h h3)
  generalize num A = ka at *
  generalize num L = nl at *
  generalize num S = ns at *
  go_enter Tryz.func108, Tryz.ntmps108
  go_wp2_with fail
  refine (newReader_any _ (A ++ (L ++ S)) w s9 (by simp; omega)).mono ?_
  rintro e w1 ⟨b, rfl, hfr⟩
  obtain ⟨v1, n1⟩ := hfr.rnew
  clear hfr s9
  go_wp2_with fail
  refine (unhide Q1 b v1 w1 n1.at').mono ?_
  rintro e w2 ⟨rfl, hn2⟩
  obtain ⟨v2, n2⟩ := n1.step hn2
  clear hn2 n1 Q1
  go_wp2_with fail
  refine (unhide Q2 b v2 w2 n2.at').mono ?_
  rintro e w3 ⟨rfl, hn3⟩
  obtain ⟨v3, n3⟩ := n2.step hn3
  clear hn3 n2 Q2
  by_cases c1 : ka = 0
  · subst c1
    have hx := NextIs.none hF n3.turn 0 0 5
    clear n3
    go_wp2
    (try simp only [Exit.inBlock, Exit.then])
    refine bodyPost_ret (results_tmp4 rfl _ _ _) rfl ?_
    rw [unhide tf (by simp)]
    exact ⟨_, rfl, hx⟩
  have kb : (ka == 0) = false := by simpa using c1
  by_cases c2 : 1048576 < nl
  · have hx := NextIs.none hF n3.turn 0 0 5
    clear n3
    go_wp2
    (try simp only [Exit.inBlock, Exit.then])
    refine bodyPost_ret (results_tmp4 rfl _ _ _) rfl ?_
    rw [unhide tf (.inr c2)]
    exact ⟨_, rfl, hx⟩
  have C12 : Hid (¬ (ka = 0 ∨ 1048576 < nl)) := hide (by omega)
  obtain ⟨n, rfl⟩ := Int.eq_ofNat_of_zero_le bL.1
  by_cases c3 : (R.length : Int) < n
  · have hx := NextIs.none hF n3.turn 0 0 7
    have c3' : (len : Int) < 9 + n := by have := unhide HL; omega
    clear n3
    go_wp2_with fail
    refine (size_small n w3 (by omega) (by omega)).mono ?_
    rintro e w4 ⟨rfl, rfl⟩
    go_wp2
    (try simp only [Exit.inBlock, Exit.then])
    refine bodyPost_ret (results_tmp4 rfl _ _ _) rfl ?_
    rw [unhide ts (unhide C12) c3]
    exact ⟨_, rfl, hx⟩
  have c3' : ¬ (len : Int) < 9 + n := by have := unhide HL; omega
  go_wp2_with fail
  refine (size_small n w3 (by omega) (by omega)).mono ?_
  rintro e w4 ⟨rfl, rfl⟩
  have sR : ∀ a2, (a2 = a.add 9 ∨ 9 = cap) → Sees w3 (.slice (some a2) n (cap - 9)) (R.take n) := fun a2 h2 => (unhide sm n (by omega) a2 h2).kept n3.turn (fun _ _ h => h)
  clear sm
  go_wp2_with fail
  · obtain rfl := ‹cap = 9›
    have s0 : Sees w3 (.slice (some a) n 0) (R.take n) := sR a (.inr rfl)
    refine (clone_any _ (R.take n) w3 s0 (by simp; omega)).mono ?_
    clear s0
    rintro e w5 ⟨v5, rfl, m5⟩
    have n5 : RNew 180 w w5.drew b v3 ⟨S ++ [], false⟩ := by
      have := n3.goes (m5.2.1.drew)
      rwa [← List.append_nil S] at this
    have o5 : Owns w5.drew v5 (R.take n) := m5.1.drew
    have k5 : ∀ k, v5.ownBlock = some k → w.heap.size ≤ k := fun k hk => Nat.le_trans n3.turn.size (m5.2.2 k hk)
    have k5b : ∀ k, v5.ownBlock = some k → ¬ k = b := fun k hk e => by have := m5.2.2 k hk; have := n3.at'.1.lt; omega
    clear m5 n3 sR
    have hB : (R.take n).length ≤ n := List.length_take_le _ _
    have hal : (A ++ L).length = 5 := by rw [List.length_append]; omega
    simp only [Int.toNat_natCast] at tq tw
    generalize hcs : csum (A ++ L ++ R.take n) = cs at *
    have Hcs := hide hcs
    clear hcs
    generalize R.take n = B at *
    obtain ⟨ao5, cap5, e5⟩ := o5.shape
    subst e5
    by_cases c4 : ns = cs
    · have e4 : (ns != (cs : Int)) = false := by simpa using c4
      have H4 := hide c4
      have C3 := hide c3
      clear c4 c3
      go_wp2_with fail
      go_region_with (first
        | (go_at_call 139; go_must (refine (unhide Q3 b v3 _ n5.at').mono ?_; rintro e w6 ⟨rfl, hn6⟩; obtain ⟨v6, n6⟩ := n5.step hn6; have f6 := hF.goes n6.turn; have s6 := s5.kept n6.turn (fun _ _ h => h); have o6 := o5.kept (now_turn hn6) k5b; clear hn6))
        | (go_at_call 141; go_must (refine (fsum_any f t _ _ (A ++ L) B _ f6 s6 o6.sees (by omega)).mono ?_; rintro e w7 ⟨rfl, f7, t7⟩; rw [unhide Hcs])))
      all_goals (
        go_wp2
        (try simp only [Exit.inBlock, Exit.then])
        refine bodyPost_ret (results_tmp4 rfl _ _ _) rfl ?_
        rw [unhide tw (unhide C12) (unhide C3) (unhide H4)]
        exact ⟨_, rfl, o6.kept t7 (fun k hk e => by have := k5 k hk; omega), f7, (n6.turn.mono (fun _ _ h => h.elim)).trans t7, k5⟩)
    · have e4 : (ns != (cs : Int)) = true := by simpa using c4
      have H4 := hide c4
      have C3 := hide c3
      clear c4 c3
      go_wp2_with fail
      go_region_with (first
        | (go_at_call 139; go_must (refine (unhide Q3 b v3 _ n5.at').mono ?_; rintro e w6 ⟨rfl, hn6⟩; obtain ⟨v6, n6⟩ := n5.step hn6; have f6 := hF.goes n6.turn; have s6 := s5.kept n6.turn (fun _ _ h => h); have o6 := o5.kept (now_turn hn6) k5b; clear hn6))
        | (go_at_call 141; go_must (refine (fsum_any f t _ _ (A ++ L) B _ f6 s6 o6.sees (by omega)).mono ?_; rintro e w7 ⟨rfl, f7, t7⟩; rw [unhide Hcs])))
      all_goals (
        go_wp2
        (try simp only [Exit.inBlock, Exit.then])
        refine bodyPost_ret (results_tmp4 rfl _ _ _) rfl ?_
        rw [unhide tq (unhide C12) (unhide C3) (unhide H4)]
        exact ⟨_, rfl, Owns.nil _, f7, (n6.turn.mono (fun _ _ h => h.elim)).trans t7, fun k hk => by simp [Value.ownBlock] at hk⟩)
  · have s0 : Sees w3 (.slice (some (a.add 9)) n (cap - 9)) (R.take n) := sR _ (.inl rfl)
    refine (clone_any _ (R.take n) w3 s0 (by simp; omega)).mono ?_
    clear s0
    rintro e w5 ⟨v5, rfl, m5⟩
    have n5 : RNew 180 w w5.drew b v3 ⟨S ++ [], false⟩ := by
      have := n3.goes (m5.2.1.drew)
      rwa [← List.append_nil S] at this
    have o5 : Owns w5.drew v5 (R.take n) := m5.1.drew
    have k5 : ∀ k, v5.ownBlock = some k → w.heap.size ≤ k := fun k hk => Nat.le_trans n3.turn.size (m5.2.2 k hk)
    have k5b : ∀ k, v5.ownBlock = some k → ¬ k = b := fun k hk e => by have := m5.2.2 k hk; have := n3.at'.1.lt; omega
    clear m5 n3 sR
    have hB : (R.take n).length ≤ n := List.length_take_le _ _
    have hal : (A ++ L).length = 5 := by rw [List.length_append]; omega
    simp only [Int.toNat_natCast] at tq tw
    generalize hcs : csum (A ++ L ++ R.take n) = cs at *
    have Hcs := hide hcs
    clear hcs
    generalize R.take n = B at *
    obtain ⟨ao5, cap5, e5⟩ := o5.shape
    subst e5
    by_cases c4 : ns = cs
    · have e4 : (ns != (cs : Int)) = false := by simpa using c4
      have H4 := hide c4
      have C3 := hide c3
      clear c4 c3
      go_wp2_with fail
      go_region_with (first
        | (go_at_call 139; go_must (refine (unhide Q3 b v3 _ n5.at').mono ?_; rintro e w6 ⟨rfl, hn6⟩; obtain ⟨v6, n6⟩ := n5.step hn6; have f6 := hF.goes n6.turn; have s6 := s5.kept n6.turn (fun _ _ h => h); have o6 := o5.kept (now_turn hn6) k5b; clear hn6))
        | (go_at_call 141; go_must (refine (fsum_any f t _ _ (A ++ L) B _ f6 s6 o6.sees (by omega)).mono ?_; rintro e w7 ⟨rfl, f7, t7⟩; rw [unhide Hcs])))
      all_goals (
        go_wp2
        (try simp only [Exit.inBlock, Exit.then])
        refine bodyPost_ret (results_tmp4 rfl _ _ _) rfl ?_
        rw [unhide tw (unhide C12) (unhide C3) (unhide H4)]
        exact ⟨_, rfl, o6.kept t7 (fun k hk e => by have := k5 k hk; omega), f7, (n6.turn.mono (fun _ _ h => h.elim)).trans t7, k5⟩)
    · have e4 : (ns != (cs : Int)) = true := by simpa using c4
      have H4 := hide c4
      have C3 := hide c3
      clear c4 c3
      go_wp2_with fail
      go_region_with (first
        | (go_at_call 139; go_must (refine (unhide Q3 b v3 _ n5.at').mono ?_; rintro e w6 ⟨rfl, hn6⟩; obtain ⟨v6, n6⟩ := n5.step hn6; have f6 := hF.goes n6.turn; have s6 := s5.kept n6.turn (fun _ _ h => h); have o6 := o5.kept (now_turn hn6) k5b; clear hn6))
        | (go_at_call 141; go_must (refine (fsum_any f t _ _ (A ++ L) B _ f6 s6 o6.sees (by omega)).mono ?_; rintro e w7 ⟨rfl, f7, t7⟩; rw [unhide Hcs])))
      all_goals (
        go_wp2
        (try simp only [Exit.inBlock, Exit.then])
        refine bodyPost_ret (results_tmp4 rfl _ _ _) rfl ?_
        rw [unhide tq (unhide C12) (unhide C3) (unhide H4)]
        exact ⟨_, rfl, Owns.nil _, f7, (n6.turn.mono (fun _ _ h => h.elim)).trans t7, fun k hk => by simp [Value.ownBlock] at hk⟩)

end Go.Proofs.YtnipdgigjcaolaaGreat

/- One byte of a slice of one's own, read and stored. -/
namespace Go.Proofs.YtnipdgigjcaolaaGreat
open Go.RowKit

theorem Owns.at {w : World} {g cap : Nat} {bs : List UInt8} (h : Owns w (.slice (some ⟨g, 0, none⟩) bs.length cap) bs) (j : Nat) (hj : j < bs.length) : w.cell? ⟨g, j, none⟩ = some (.int .u8 (bs[j].toNat : Int)) := by
  rw [World.ownsRow.cellAt h j (by omega)]
  simp [u8s, hj]

theorem Owns.frozenAt {w : World} {g cap : Nat} {bs : List UInt8} (h : Owns w (.slice (some ⟨g, 0, none⟩) bs.length cap) bs) (j : Nat) : w.frozen? ⟨g, j, none⟩ = false := World.ownsRow.frozenAt h j

theorem u8s_set (bs : List UInt8) (j : Nat) (y : UInt8) : u8s (bs.set j y) = (u8s bs).set j (.int .u8 (y.toNat : Int)) := by simp [u8s, List.map_set]

theorem Owns.put {w : World} {g cap : Nat} {bs : List UInt8} (h : Owns w (.slice (some ⟨g, 0, none⟩) bs.length cap) bs) (j : Nat) (y : UInt8) : Owns (w.setCell ⟨g, j, none⟩ (.int .u8 (y.toNat : Int))) (.slice (some ⟨g, 0, none⟩) (bs.set j y).length cap) (bs.set j y) := by
  unfold Owns
  rw [u8s_set, List.length_set]
  exact (World.ownsRow.stored h j _).1

end Go.Proofs.YtnipdgigjcaolaaGreat

/- The closed sentence of chapter 3: its walk. -/
namespace Go.Proofs.YtnipdgigjcaolaaGreat
open Go.RowKit

theorem next_any (f t : Nat) (v : Value) (bs : List UInt8) (w : World) (h : Fr w f t) (hs : Sees w v bs) :
    Calls Tryz.prog 108 #[.pointer (some ⟨f, 0, none⟩), v] w fun e w' => ∃ v', e = .returned (toldValue (tell bs) v') ∧ NextIs w f t (tell bs) v' w' := by
  by_cases hl : bs.length < 9
  · exact next_short f t v bs w h hs hl
  · obtain ⟨A, L, S, R, h1, h2, h3, h4, h5⟩ := parts bs (by omega)
    rw [h5]
    exact next_long f t v bs A L S R w h hs h1 h2 h3 h4

/-- A Framer of the law's own, in new memory; nothing else has turned. -/
structure FOwn (w w' : World) (f t : Nat) : Prop where
  fr : Fr w' f t
  turn : Turn (fun _ => False) w w'
  newf : w.heap.size ≤ f
  newt : w.heap.size ≤ t

theorem FOwn.of {w w' : World} {f : Nat} (h : FrNew w f w') : ∃ t, FOwn w w' f t := by
  obtain ⟨t, h1, h2, h3, h4⟩ := h
  exact ⟨t, h1, h4, h2, h3⟩

theorem FOwn.goes {w w1 w2 : World} {f t : Nat} (h : FOwn w w1 f t) (ht : Turn (fun _ => False) w1 w2) : FOwn w w2 f t := ⟨h.fr.goes ht, h.turn.trans ht, h.newf, h.newt⟩

theorem FOwn.turned {w w1 w2 : World} {f t : Nat} (h : FOwn w w1 f t) (h2 : Fr w2 f t) (ht : Turn (fun k => k = t) w1 w2) : FOwn w w2 f t := ⟨h2, h.turn.trans' ht (fun i hi e => by have := h.newt; omega), h.newf, h.newt⟩

theorem FOwn.next {w w1 w2 : World} {f t : Nat} {r : Told} {v : Value} (h : FOwn w w1 f t) (hn : NextIs w1 f t r v w2) : FOwn w w2 f t := h.turned hn.2.1 hn.2.2.1

theorem FOwn.laid {w w1 w2 : World} {f t : Nat} {bs : List UInt8} {v : Value} (h : FOwn w w1 f t) (hn : Laid w1 f t bs v w2) : FOwn w w2 f t := h.turned hn.2.2.1 hn.2.2.2

theorem make_great (w : World) : ∃ w', (Instr.makeSlice 29 (.int .i64 1048577) (.int .i64 1048577)).run Tryz.prog w = .ok (.slice (some ⟨w.heap.size, 0, none⟩) 1048577 1048577) w' ∧ Turn (fun _ => False) w w' := by
  obtain ⟨i0, hi, hz0, hz1, hz2⟩ := info_parts Tryz.infoU8
  have h := run_makeSlice (P := Tryz.prog) w 29 5 i0 (.int .u8 0) Tryz.underlying29 hi hz0 .i64 .i64 1048577 1048577 (by omega) (by omega) (by rw [hz1]; decide) (by rw [hz2]; decide) (by omega)
  exact ⟨_, h, (Turn.refl _ _).alloc _⟩

end Go.Proofs.YtnipdgigjcaolaaGreat

/- What the reference's Frame does to memory. -/
namespace Go.Proofs.YtnipdgigjcaolaaGreat
open Go.RowKit

theorem record_def (k : Int) (bs : List UInt8) : record k bs = front k bs.length ++ be (csum (front k bs.length ++ bs)) 4 ++ bs := by rw [record]

set_option maxHeartbeats 400000 in
set_option maxRecDepth 100000 in
theorem refFrame_any (k : Int) (s : Value) (bs : List UInt8) (w : World) (hs : Sees w s bs) (hb : bs.length + 9 ≤ 140737488355328) :
    Calls Tryz.prog 13 #[.int .i64 k, s] w fun e w' => ∃ v, e = .returned v ∧ Made w v (record k bs) w' := by
  obtain ⟨i0, hi, hz0, hz1, hz2⟩ := info_parts Tryz.infoU8
  have hsb : 0 < bs.length → ∀ j, slab s = some j → j < w.heap.size := fun h0 j e => slab_lt hs h0 e
  obtain ⟨ao, cap, rfl⟩ := hs.shape
  have n1 := WNew.start (fun _ => False) 87 w
  have hS1 : Sees (w.alloc (.cells #[.slice none 0 0] 87)) (.slice ao bs.length cap) bs := hs.kept ((Turn.refl (fun _ => False) w).alloc _) (fun _ _ h => h)
  go_enter Tryz.func13, Tryz.ntmps13
  go_wp2_with fail
  refine (rw_u8 w.heap.size _ [] k _ n1.at' (by simp)).mono ?_
  rintro e w2 ⟨rfl, v2, st2⟩
  have n2 := n1.step st2
  rw [List.nil_append] at n2
  have hS2 : Sees w2 (.slice ao bs.length cap) bs := hS1.kept' st2.turn (n1.apart hsb)
  clear n1 st2 hS1
  obtain ⟨b, hb0⟩ : ∃ b, b = w.heap.size := ⟨_, rfl⟩
  rw [← hb0] at n2
  have hb1 : w.heap.size = b := hb0.symm
  simp only [hb1]
  clear hb0 hb1
  go_wp2_with fail
  refine (rw_u32 b v2 (be k 1) bs.length w2 n2.at' (by simp [be_length])).mono ?_
  rintro e w3 ⟨rfl, v3, st3⟩
  have n3 : WNew (fun _ => False) 87 w w3 b v3 (front k bs.length) := n2.step st3
  have hS3 : Sees w3 (.slice ao bs.length cap) bs := hS2.kept' st3.turn (n2.apart hsb)
  clear n2 st3 hS2
  have hfl := front_length k bs.length
  have hcs := csum_lt (front k bs.length ++ bs)
  have hrec := hide (record_def k bs)
  generalize front k bs.length = F at *
  generalize hcsn : csum (F ++ bs) = cs at *
  have Hcs := hide hcsn
  have Hfl := hide hfl
  clear hcsn hfl
  have hwr : IntKind.i64.wrap (cs : Int) = cs := by rw [IntKind.wrap_i64]; omega
  obtain ⟨ao3, cap3, e3⟩ := n3.at'.2.1.shape
  subst e3
  have c3 : w3.cell? ⟨b, 0, none⟩ = some (.slice ao3 F.length cap3) := by rw [n3.at'.1.cell]; rfl
  have hblt := n3.at'.1.lt
  have sF := n3.at'.2.1.sees.kept ((Turn.refl (fun _ => False) w3).alloc (.cells #[] 5)) (fun _ _ h => h)
  have hF5 : F.length ≤ 5 := by have := unhide Hfl; omega
  go_wp2_with (at_builtin; refine wpList_append_sees _ rfl (.tmp 16) (.tmp 20) 29 rfl i0 Tryz.underlying29 hi hz0 hz1 hz2 _ [] rfl (owns_empty w3) _ F rfl sF (by simp only [List.length_nil]; omega) ?_)
  intro v4 w4 ho hg hk
  have m4 := Made.append ho hg hk
  have hS4 := hS3.kept m4.2.1 (fun _ _ h => h)
  clear ho hg hk sF hS3 c3
  obtain ⟨ao4, cap4, e4⟩ := m4.1.shape
  subst e4
  go_wp2_with (at_builtin; refine wpList_append_sees _ rfl (.tmp 21) (.tmp 22) 29 rfl i0 Tryz.underlying29 hi hz0 hz1 hz2 _ F rfl m4.1 _ bs rfl hS4 (by omega) ?_)
  intro v5 w5 ho hg hk
  have m5 := m4.more ho hg hk
  have t45 : Turn (fun k => w3.heap.size ≤ k) w4 w5 := (Turn.refl _ _).grown hg (fun k hk => .inl (m4.2.2 k hk))
  have hS5 : Sees w5 (.slice ao bs.length cap) bs := hs.kept (n3.turn.trans m5.2.1) (fun _ _ h => h)
  have n5 := n3.other m5.2.1 (fun _ h => h.elim)
  clear ho hg hk hS4 m4 t45 n3
  obtain ⟨ao5, cap5, e5⟩ := m5.1.shape
  subst e5
  have s5 := m5.1.sees
  rw [List.length_append] at s5
  go_wp2_with fail
  refine (refSum_any (.slice ao5 (F.length + bs.length) cap5) (F ++ bs) w5 s5).mono ?_
  rintro e w6 ⟨rfl, rfl⟩
  rw [unhide Hcs]
  clear m5 s5
  go_wp2_with fail
  refine (rw_u32 b _ F cs w5 n5.at' (by omega)).mono ?_
  rintro e w6 ⟨rfl, v6, st6⟩
  have n6 := n5.step st6
  have hS6 : Sees w6 (.slice ao bs.length cap) bs := hS5.kept' st6.turn (n5.apart hsb)
  clear n5 st6 hS5
  go_wp2_with fail
  refine (rw_raw b v6 _ (F ++ be cs 4) bs w6 n6.at' hS6 (by simp [be_length]; omega)).mono ?_
  rintro e w7 ⟨rfl, v7, st7⟩
  have n7 := n6.step st7
  rw [← unhide hrec] at n7
  clear n6 st7 hS6
  have hm : Made w v7 (record k bs) w7 := ⟨n7.at'.2.1, n7.turn, n7.newv⟩
  obtain ⟨ao7, cap7, e7⟩ := n7.at'.2.1.shape
  subst e7
  have c7 : w7.cell? ⟨b, 0, none⟩ = some (.slice ao7 (record k bs).length cap7) := by rw [n7.at'.1.cell]; rfl
  clear n7
  go_wp2
  go_ret
  exact ⟨_, rfl, hm⟩

end Go.Proofs.YtnipdgigjcaolaaGreat

/- What the reference's Next tells of any bytes. -/
namespace Go.Proofs.YtnipdgigjcaolaaGreat
open Go.RowKit

/-- A Reader in new memory, over bytes that came in; nothing else has turned. -/
structure RRef (T : TypeId) (w w1 : World) (b : Nat) (v : Value) (s : St) : Prop where
  at' : RIs T w1 b v s
  turn : Turn (fun _ => False) w w1
  new : w.heap.size ≤ b

theorem RRef.step {T : TypeId} {w w1 w2 : World} {b : Nat} {v : Value} {s s2 : St} (h : RRef T w w1 b v s) (hn : Now T w1 b v s2 w2) : ∃ v2, RRef T w w2 b v2 s2 := by
  obtain ⟨v2, hst⟩ := hn
  exact ⟨v2, hst.at', h.turn.trans' hst.turn (fun i hi e => by have := h.new; omega), h.new⟩

theorem RRef.start (T : TypeId) (w : World) (v : Value) (bs : List UInt8) (hs : Sees w v bs) (h0 : 0 < bs.length) : RRef T w (w.alloc (.cells #[v, .bool false] T)) w.heap.size v ⟨bs, false⟩ :=
  ⟨⟨At.new _ _ _, hs.kept ((Turn.refl (fun _ => False) w).alloc _) (fun _ _ h => h), fun e => by have := slab_lt hs h0 e; omega⟩, (Turn.refl _ _).alloc _, Nat.le_refl _⟩

/-- Behind the reference's Next: the body; nothing has turned. -/
def RefIs (w : World) (r : Told) (v : Value) (w' : World) : Prop := Owns w' v r.body ∧ Turn (fun _ => False) w w' ∧ ∀ k, v.ownBlock = some k → w.heap.size ≤ k

theorem RefIs.none {w w' : World} (ht : Turn (fun _ => False) w w') (k s e : Int) : RefIs w ⟨k, [], s, e⟩ (.slice none 0 0) w' := ⟨Owns.nil _, ht, fun k hk => by simp [Value.ownBlock] at hk⟩

set_option maxHeartbeats 400000 in
set_option maxRecDepth 100000 in
theorem refNext_short (v : Value) (bs : List UInt8) (w : World) (hs : Sees w v bs) (hl : bs.length < 9) :
    Calls Tryz.prog 112 #[v] w fun e w' => ∃ v', e = .returned (toldValue (tell bs) v') ∧ RefIs w (tell bs) v' w' := by
  rw [tell_short bs hl]
  obtain ⟨ao, cap, rfl⟩ := hs.shape
  have hl' : (bs.length : Int) < 9 := by omega
  go_enter Tryz.func112, Tryz.ntmps112
  go_wp2
  (try simp only [Exit.inBlock, Exit.then])
  refine bodyPost_ret (results_tmp4 rfl _ _ _) rfl ?_
  exact ⟨_, rfl, RefIs.none (Turn.refl _ _) _ _ _⟩

theorem St.ok_no (bs : List UInt8) : (St.mk bs false).ok := fun h => by cases h

set_option maxHeartbeats 2000000 in
set_option maxRecDepth 100000 in
theorem refNext_long (v : Value) (bs A L S R : List UInt8) (w : World) (hs : Sees w v bs) (hb : bs.length ≤ 140737488355328) (h1 : A.length = 1) (h2 : L.length = 4) (h3 : S.length = 4) (hbs : bs = A ++ (L ++ (S ++ R))) :
    Calls Tryz.prog 112 #[v] w fun e w' => ∃ v', e = .returned (toldValue (told A L S R) v') ∧ RefIs w (told A L S R) v' w' := by
  obtain ⟨i0, hi, hz0, hz1, hz2⟩ := info_parts Tryz.infoU8
  have hlen := congrArg List.length hbs
  simp only [List.length_append, h1, h2, h3] at hlen
  have t5 : bs.take 5 = A ++ L := hbs ▸ take5 h1 h2
  have d9 : bs.drop 9 = R := hbs ▸ drop9 h1 h2 h3
  have bL := num4_lt h2
  have bS := num4_lt h3
  obtain ⟨a, cap, rfl, hcap, hcapm⟩ : ∃ a cap, v = .slice (some a) bs.length cap ∧ bs.length ≤ cap ∧ cap ≤ maxLen := by
    rcases hs with ⟨_, e⟩ | ⟨a, cap, e, hc, hm', _⟩
    · rw [e] at hlen
      simp at hlen
      omega
    · exact ⟨a, cap, e, hc, hm'⟩
  unfold maxLen at hcapm
  have s5 : Sees w (.slice (some a) 5 cap) (A ++ L) := t5 ▸ hs.front 5 (by omega)
  have sm := hide (fun n (hn : 9 + n ≤ bs.length) a2 h2 => d9 ▸ hs.mid 9 n hn a2 h2)
  have n1 := RRef.start 143 w _ bs hs (by omega)
  have Q1 := hide (fun b v w (h : RIs 143 w b v ⟨A ++ (L ++ (S ++ R)), false⟩) => rr_u8 b v _ w h (St.ok_no _) (by simp only [List.length_append]; omega))
  have Q2 := hide (fun b v w (h : RIs 143 w b v ⟨L ++ (S ++ R), false⟩) => rr_u32 b v _ w h (St.ok_no _) (by simp only [List.length_append]; omega))
  have Q3 := hide (fun b v w (h : RIs 143 w b v ⟨S ++ R, false⟩) => rr_u32 b v _ w h (St.ok_no _) (by simp only [List.length_append]; omega))
  simp only [St.take_all A (L ++ (S ++ R)) false 1 (by omega)] at Q1
  simp only [St.take_all L (S ++ R) false 4 (by omega)] at Q2
  simp only [St.take_all S R false 4 (by omega)] at Q3
  have n1' : RRef 143 w (w.alloc (.cells #[.slice (some a) bs.length cap, .bool false] 143)) w.heap.size (.slice (some a) bs.length cap) ⟨A ++ (L ++ (S ++ R)), false⟩ := ⟨by have := n1.at'; rw [RIs] at this ⊢; rw [← hbs]; exact this, n1.turn, n1.new⟩
  clear hbs t5 d9 hs n1
  generalize bs.length = len at *
  have HL := hide hlen
  have hl9' : 9 ≤ len := by omega
  clear hlen
  have hl9 : ¬ (len : Int) < 9 := by omega
  have tf := hide (told_form A L S R)
  have ts := hide (told_short A L S R)
  have tq := hide (told_sum A L S R)
  have tw := hide (told_well A L S R)
  generalize told A L S R = r at *
  generalize num A = ka at *
  generalize num L = nl at *
  generalize num S = ns at *
  go_enter Tryz.func112, Tryz.ntmps112
  go_wp2_with fail
  refine (unhide Q1 w.heap.size _ _ n1'.at').mono ?_
  rintro e w2 ⟨rfl, hn2⟩
  obtain ⟨v2, n2⟩ := n1'.step hn2
  clear hn2 n1' Q1
  obtain ⟨b, hb0⟩ : ∃ b, b = w.heap.size := ⟨_, rfl⟩
  rw [← hb0] at n2
  have hb1 : w.heap.size = b := hb0.symm
  simp only [hb1]
  clear hb0 hb1
  go_wp2_with fail
  refine (unhide Q2 b v2 w2 n2.at').mono ?_
  rintro e w3 ⟨rfl, hn3⟩
  obtain ⟨v3, n3⟩ := n2.step hn3
  clear hn3 n2 Q2
  go_wp2_with fail
  refine (unhide Q3 b v3 w3 n3.at').mono ?_
  rintro e w4 ⟨rfl, hn4⟩
  obtain ⟨v4, n4⟩ := n3.step hn4
  have tt := n4.turn
  clear hn4 n3 Q3 n4
  obtain ⟨m, rfl⟩ := Int.eq_ofNat_of_zero_le bS.1
  have hmm : (m : Int) % 4294967296 = m := by omega
  have hmw : IntKind.u32.wrap (m : Int) = m := by rw [IntKind.wrap_u32']; omega
  by_cases c1 : ka = 0
  · subst c1
    have hx := RefIs.none tt 0 0 5
    clear tt
    go_wp2
    (try simp only [Exit.inBlock, Exit.then])
    refine bodyPost_ret (results_tmp4 rfl _ _ _) rfl ?_
    rw [unhide tf (by simp)]
    exact ⟨_, rfl, hx⟩
  have kb : (ka == 0) = false := by simpa using c1
  by_cases c2 : 1048576 < nl
  · have hx := RefIs.none tt 0 0 5
    clear tt
    go_wp2
    (try simp only [Exit.inBlock, Exit.then])
    refine bodyPost_ret (results_tmp4 rfl _ _ _) rfl ?_
    rw [unhide tf (.inr c2)]
    exact ⟨_, rfl, hx⟩
  have C12 : Hid (¬ (ka = 0 ∨ 1048576 < nl)) := hide (by omega)
  obtain ⟨n, rfl⟩ := Int.eq_ofNat_of_zero_le bL.1
  by_cases c3 : (R.length : Int) < n
  · have hx := RefIs.none tt 0 0 7
    have c3' : (len : Int) - 9 < n := by have := unhide HL; omega
    have C3 := hide c3
    clear tt c3
    go_wp2
    (try simp only [Exit.inBlock, Exit.then])
    refine bodyPost_ret (results_tmp4 rfl _ _ _) rfl ?_
    rw [unhide ts (unhide C12) (unhide C3)]
    exact ⟨_, rfl, hx⟩
  have c3' : ¬ (len : Int) - 9 < n := by have := unhide HL; omega
  have c3'' : (9 : Int) + n ≤ len := by omega
  have hRn : n ≤ R.length := by omega
  have C3 := hide c3
  clear c3
  have sR : ∀ a2, (a2 = a.add 9 ∨ 9 = cap) → Sees (w4.alloc (.cells #[] 5)) (.slice (some a2) n (cap - 9)) (R.take n) := fun a2 h2 => (unhide sm n (by omega) a2 h2).kept (tt.alloc _) (fun _ _ h => h)
  have hB : (R.take n).length = n := by rw [List.length_take]; omega
  have hal : (A ++ L).length = 5 := by rw [List.length_append]; omega
  simp only [Int.toNat_natCast] at tq tw
  generalize hcs : csum (A ++ L ++ R.take n) = cs at *
  have Hcs := hide hcs
  clear hcs sm
  generalize R.take n = B at *
  have HB := hide hB
  have hBn : B.length ≤ n := by omega
  clear hB
  by_cases hc9 : cap = 9
  · subst hc9
    have s0 : Sees (w4.alloc (.cells #[] 5)) (.slice (some a) (9 + n - 9) 0) B := by rw [Nat.add_sub_cancel_left]; exact sR a (.inr rfl)
    clear sR
    go_wp2_with (at_builtin; refine wpList_append_sees _ rfl (.tmp 35) (.tmp 39) 29 rfl i0 Tryz.underlying29 hi hz0 hz1 hz2 _ [] rfl (owns_empty w4) _ B rfl s0 (by simp only [List.length_nil]; omega) ?_)
    intro v5 w5 ho hg hk
    have m5 := Made.append ho hg hk
    obtain ⟨ao5, cap5, e5⟩ := m5.1.shape
    subst e5
    have t5 := tt.trans m5.2.1
    have Hn5 := hide (fun k hk => Nat.le_trans tt.size (m5.2.2 k hk))
    clear ho hg hk s0
    have s55 : Sees (w5.alloc (.cells #[] 5)) (.slice (some a) 5 9) (A ++ L) := s5.kept (t5.alloc _) (fun _ _ h => h)
    have hal5 : (A ++ L).length ≤ 5 := by omega
    have HA := hide hal
    clear hal
    generalize A ++ L = F at *
    go_wp2_with (at_builtin; refine wpList_append_sees _ rfl (.tmp 41) (.tmp 43) 29 rfl i0 Tryz.underlying29 hi hz0 hz1 hz2 _ [] rfl (owns_empty w5) _ F rfl s55 (by simp only [List.length_nil]; omega) ?_)
    intro v6 w6 ho hg hk
    have m6 := Made.append ho hg hk
    obtain ⟨ao6, cap6, e6⟩ := m6.1.shape
    subst e6
    clear ho hg hk s55
    have o6 := m5.1.kept m6.2.1 (fun _ _ h => h)
    go_wp2_with (at_builtin; refine wpList_append_sees _ rfl (.tmp 44) (.tmp 45) 29 rfl i0 Tryz.underlying29 hi hz0 hz1 hz2 _ F rfl m6.1 _ B rfl o6.sees (by omega) ?_)
    intro v7 w7 ho hg hk
    have m7 := m6.more ho hg hk
    have o7 := m5.1.kept m7.2.1 (fun _ _ h => h)
    have t7 := t5.trans m7.2.1
    clear ho hg hk m6 o6 t5 tt
    obtain ⟨ao7, cap7, e7⟩ := m7.1.shape
    subst e7
    have s7 := m7.1.sees
    rw [List.length_append] at s7
    go_wp2_with fail
    refine (refSum_any (.slice ao7 (F.length + B.length) cap7) (F ++ B) w7 s7).mono ?_
    rintro e w8 ⟨rfl, rfl⟩
    rw [unhide Hcs]
    clear m7 s7 m5
    by_cases c4 : (m : Int) = cs
    · have c4n : m = cs := by omega
      have H4 := hide c4
      clear c4
      subst c4n
      have e4 : ((m : Int) != (m : Int)) = false := by simp
      go_wp2
      (try simp only [Exit.inBlock, Exit.then])
      refine bodyPost_ret (results_tmp4 rfl _ _ _) rfl ?_
      rw [unhide tw (unhide C12) (unhide C3) (unhide H4)]
      exact ⟨_, rfl, o7, t7, unhide Hn5⟩
    · have e4 : ((cs : Int) != (m : Int)) = true := by simp; omega
      have H4 := hide c4
      clear c4
      go_wp2
      (try simp only [Exit.inBlock, Exit.then])
      refine bodyPost_ret (results_tmp4 rfl _ _ _) rfl ?_
      rw [unhide tq (unhide C12) (unhide C3) (unhide H4)]
      exact ⟨_, rfl, Owns.nil _, t7, fun k hk => by simp [Value.ownBlock] at hk⟩
  · have s0 : Sees (w4.alloc (.cells #[] 5)) (.slice (some (a.add 9)) (9 + n - 9) (cap - 9)) B := by rw [Nat.add_sub_cancel_left]; exact sR _ (.inl rfl)
    clear sR
    go_wp2_with (at_builtin; refine wpList_append_sees _ rfl (.tmp 35) (.tmp 39) 29 rfl i0 Tryz.underlying29 hi hz0 hz1 hz2 _ [] rfl (owns_empty w4) _ B rfl s0 (by simp only [List.length_nil]; omega) ?_)
    intro v5 w5 ho hg hk
    have m5 := Made.append ho hg hk
    obtain ⟨ao5, cap5, e5⟩ := m5.1.shape
    subst e5
    have t5 := tt.trans m5.2.1
    have Hn5 := hide (fun k hk => Nat.le_trans tt.size (m5.2.2 k hk))
    clear ho hg hk s0
    have s55 : Sees (w5.alloc (.cells #[] 5)) (.slice (some a) 5 cap) (A ++ L) := s5.kept (t5.alloc _) (fun _ _ h => h)
    have hal5 : (A ++ L).length ≤ 5 := by omega
    have HA := hide hal
    clear hal
    generalize A ++ L = F at *
    go_wp2_with (at_builtin; refine wpList_append_sees _ rfl (.tmp 41) (.tmp 43) 29 rfl i0 Tryz.underlying29 hi hz0 hz1 hz2 _ [] rfl (owns_empty w5) _ F rfl s55 (by simp only [List.length_nil]; omega) ?_)
    intro v6 w6 ho hg hk
    have m6 := Made.append ho hg hk
    obtain ⟨ao6, cap6, e6⟩ := m6.1.shape
    subst e6
    clear ho hg hk s55
    have o6 := m5.1.kept m6.2.1 (fun _ _ h => h)
    go_wp2_with (at_builtin; refine wpList_append_sees _ rfl (.tmp 44) (.tmp 45) 29 rfl i0 Tryz.underlying29 hi hz0 hz1 hz2 _ F rfl m6.1 _ B rfl o6.sees (by omega) ?_)
    intro v7 w7 ho hg hk
    have m7 := m6.more ho hg hk
    have o7 := m5.1.kept m7.2.1 (fun _ _ h => h)
    have t7 := t5.trans m7.2.1
    clear ho hg hk m6 o6 t5 tt
    obtain ⟨ao7, cap7, e7⟩ := m7.1.shape
    subst e7
    have s7 := m7.1.sees
    rw [List.length_append] at s7
    go_wp2_with fail
    refine (refSum_any (.slice ao7 (F.length + B.length) cap7) (F ++ B) w7 s7).mono ?_
    rintro e w8 ⟨rfl, rfl⟩
    rw [unhide Hcs]
    clear m7 s7 m5
    by_cases c4 : (m : Int) = cs
    · have c4n : m = cs := by omega
      have H4 := hide c4
      clear c4
      subst c4n
      have e4 : ((m : Int) != (m : Int)) = false := by simp
      go_wp2
      (try simp only [Exit.inBlock, Exit.then])
      refine bodyPost_ret (results_tmp4 rfl _ _ _) rfl ?_
      rw [unhide tw (unhide C12) (unhide C3) (unhide H4)]
      exact ⟨_, rfl, o7, t7, unhide Hn5⟩
    · have e4 : ((cs : Int) != (m : Int)) = true := by simp; omega
      have H4 := hide c4
      clear c4
      go_wp2
      (try simp only [Exit.inBlock, Exit.then])
      refine bodyPost_ret (results_tmp4 rfl _ _ _) rfl ?_
      rw [unhide tq (unhide C12) (unhide C3) (unhide H4)]
      exact ⟨_, rfl, Owns.nil _, t7, fun k hk => by simp [Value.ownBlock] at hk⟩

end Go.Proofs.YtnipdgigjcaolaaGreat
