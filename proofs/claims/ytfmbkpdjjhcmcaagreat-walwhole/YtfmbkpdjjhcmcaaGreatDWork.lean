/- A Disk's small methods: New, work, Fuse, Dead, Pending, Works, Sync, Read. -/
import Derived.Test.YtfmbkpdjjhcmcaaGreatDStt
import Derived.Test.YtfmbkpdjjhcmcaaGreatCat
namespace Go.Proofs.YtfmbkpdjjhcmcaaGreat
open Go.RowKit

theorem Turn.at (b j : Nat) (v : Value) (w : World) : Turn (fun k => k = b) w (w.setCell ⟨b, j, none⟩ v) := (Turn.refl (fun k => k = b) w).setCell (p := ⟨b, j, none⟩) (.inl rfl) _

set_option maxHeartbeats 400000 in
theorem dskNew_any (w : World) : Calls Tryz.prog 8 #[] w fun e w' => e = .returned (.pointer (some ⟨w.heap.size, 0, none⟩)) ∧ Dk w' w.heap.size (fun j => j = w.heap.size) 0 DSt.zero ∧ Turn (fun _ => False) w w' := by
  go_enter Tryz.func8, Tryz.ntmps8
  go_wp2
  go_ret
  refine ⟨rfl, ⟨fun j => if j = w.heap.size then some .disk else none, .slice none 0 0, .slice none 0 0, [], [], ⟨At.new _ _ _, if_pos rfl, World.ownsRow_nil _ 0 _ _, fun g hg => by simp [Value.ownBlock] at hg, List.Pairwise.nil, fun e he => by simp at he⟩, PAt.none _ _, ?_, rfl, ?_, ?_, DSt.Fit.zero⟩, (Turn.refl _ _).alloc _⟩
  · funext k
    rfl
  · intro j hj
    by_cases e : j = w.heap.size
    · exact e
    · simp [e] at hj
  · rintro j rfl
    simp

section
variable {w : World} {b : Nat} {fv pv : Value} {wk : Nat} {fu : Bool} {lf : Int} {de : Bool}

set_option maxHeartbeats 1000000 in
theorem work_down (h : At 70 w b (dcells fv pv wk fu lf de)) (hd : (de || (fu && lf == 0)) = true) :
    Calls Tryz.prog 45 #[.pointer (some ⟨b, 0, none⟩)] w fun e w' => e = .returned (.int .i64 14) ∧ At 70 w' b (dcells fv pv wk fu lf true) ∧ Turn (fun j => j = b) w w' := by
  have c3 : w.cell? ⟨b, 3, none⟩ = some (.bool fu) := h.cell 3
  have c4 : w.cell? ⟨b, 4, none⟩ = some (.int .i64 lf) := h.cell 4
  have c5 : w.cell? ⟨b, 5, none⟩ = some (.bool de) := h.cell 5
  have f5 : w.frozen? ⟨b, 5, none⟩ = false := h.frozen 5
  have hs := h.set 5 (.bool true)
  have c5' : (w.setCell ⟨b, 5, none⟩ (.bool true)).cell? ⟨b, 5, none⟩ = some (.bool true) := hs.cell 5
  have Hh := hide h
  have Hs := hide hs
  clear h hs
  cases fu with
  | false =>
    obtain rfl : de = true := by simpa using hd
    go_enter Tryz.func45, Tryz.ntmps45
    go_wp2
    go_ret
    exact ⟨rfl, unhide Hh, Turn.refl _ _⟩
  | true =>
    by_cases h0 : lf = 0
    · subst h0
      go_enter Tryz.func45, Tryz.ntmps45
      go_wp2
      go_ret
      exact ⟨rfl, unhide Hs, Turn.at b 5 _ w⟩
    · obtain rfl : de = true := by simpa [h0] using hd
      have h0' : (lf == 0) = false := by simpa using h0
      go_enter Tryz.func45, Tryz.ntmps45
      go_wp2
      go_ret
      exact ⟨rfl, unhide Hh, Turn.refl _ _⟩

set_option maxHeartbeats 1000000 in
theorem work_ok (h : At 70 w b (dcells fv pv wk fu lf de)) (hd : (de || (fu && lf == 0)) = false) (hw : wk ≤ 1073741824) (hl : fu = true → 0 ≤ lf) (hh : lf ≤ 9223372036854775807) :
    Calls Tryz.prog 45 #[.pointer (some ⟨b, 0, none⟩)] w fun e w' => e = .returned (.int .i64 0) ∧ At 70 w' b (dcells fv pv (wk + 1) fu (if fu then lf - 1 else lf) de) ∧ Turn (fun j => j = b) w w' := by
  have c2 : w.cell? ⟨b, 2, none⟩ = some (.int .i64 wk) := h.cell 2
  have c3 : w.cell? ⟨b, 3, none⟩ = some (.bool fu) := h.cell 3
  have c4 : w.cell? ⟨b, 4, none⟩ = some (.int .i64 lf) := h.cell 4
  have c5 : w.cell? ⟨b, 5, none⟩ = some (.bool de) := h.cell 5
  have f2 : w.frozen? ⟨b, 2, none⟩ = false := h.frozen 2
  have f4 : w.frozen? ⟨b, 4, none⟩ = false := h.frozen 4
  have hw' : ((wk + 1 : Nat) : Int) = (wk : Int) + 1 := by omega
  have hde : de = false := by
    cases de with
    | false => rfl
    | true => simp at hd
  subst hde
  cases fu with
  | false =>
    have hs := h.set 2 (.int .i64 ((wk + 1 : Nat) : Int))
    rw [hw'] at hs
    have Hs := hide hs
    clear h hs
    go_enter Tryz.func45, Tryz.ntmps45
    go_wp2
    go_ret
    refine ⟨rfl, ?_, Turn.at b 2 _ w⟩
    exact unhide Hs
  | true =>
    have h0 : ¬ lf = 0 := by
      rintro rfl
      simp at hd
    have hl' := hl rfl
    have h0' : (lf == 0) = false := by simpa using h0
    have hs4 := h.set 4 (.int .i64 (lf - 1))
    have c2' : (w.setCell ⟨b, 4, none⟩ (.int .i64 (lf - 1))).cell? ⟨b, 2, none⟩ = some (.int .i64 wk) := hs4.cell 2
    have f2' : (w.setCell ⟨b, 4, none⟩ (.int .i64 (lf - 1))).frozen? ⟨b, 2, none⟩ = false := hs4.frozen 2
    have hs := hs4.set 2 (.int .i64 ((wk + 1 : Nat) : Int))
    rw [hw'] at hs
    have Hs := hide hs
    clear h hs hs4
    go_enter Tryz.func45, Tryz.ntmps45
    go_wp2
    go_ret
    refine ⟨rfl, ?_, (Turn.at b 4 _ w).trans (Turn.at b 2 _ _)⟩
    exact unhide Hs

set_option maxHeartbeats 1000000 in
theorem fuse_at (n : Int) (h : At 70 w b (dcells fv pv wk fu lf de)) :
    Calls Tryz.prog 14 #[.pointer (some ⟨b, 0, none⟩), .int .i64 n] w fun e w' => e = .returned (.tuple #[]) ∧ At 70 w' b (dcells fv pv wk (decide (0 ≤ n)) n de) ∧ Turn (fun j => j = b) w w' := by
  have c3 : w.cell? ⟨b, 3, none⟩ = some (.bool fu) := h.cell 3
  have f3 : w.frozen? ⟨b, 3, none⟩ = false := h.frozen 3
  have hs3 := h.set 3 (.bool (decide (0 ≤ n)))
  have c4 : (w.setCell ⟨b, 3, none⟩ (.bool (decide (0 ≤ n)))).cell? ⟨b, 4, none⟩ = some (.int .i64 lf) := hs3.cell 4
  have f4 : (w.setCell ⟨b, 3, none⟩ (.bool (decide (0 ≤ n)))).frozen? ⟨b, 4, none⟩ = false := hs3.frozen 4
  have hs := hs3.set 4 (.int .i64 n)
  have Hs := hide hs
  clear h hs hs3
  go_enter Tryz.func14, Tryz.ntmps14
  go_wp2
  go_end0
  exact ⟨rfl, unhide Hs, (Turn.at b 3 _ w).trans (Turn.at b 4 _ _)⟩

end

section
variable {w : World} {b : Nat} {S : Nat → Prop} {N : Nat} {s : DSt}

/-- The head alone has turned. -/
theorem DkIs.rehead {own : Nat → Option Tag} {fv pv : Value} {fs : List Ent} {us : List U} {w' : World} {s' : DSt} {M : Nat} (h : DkIs w b S N s own fv pv fs us) (ht : Turn (fun j => j = b) w w') (hat : At 70 w' b (dcells fv pv s'.works s'.fused s'.left s'.dead))
    (hb : s'.base = s.base) (ho : s'.ops = s.ops) (hf : s'.Fit M) : DkIs w' b S M s' own fv pv fs us :=
  ⟨h.f.rehead ht hat, h.p.kept ht (fun k hk => by rw [hk, h.f.hb]; simp), by rw [h.now]; unfold DSt.now; rw [hb, ho], by rw [h.und, hb, ho], h.sub, fun j hj => Nat.lt_of_lt_of_le (h.lt j hj) ht.size, hf⟩

theorem DkTo.of {own : Nat → Option Tag} {fv pv : Value} {fs : List Ent} {us : List U} {w' : World} {s' : DSt} {M : Nat} (h : DkIs w' b S M s' own fv pv fs us) (hb : S b) (ht : Turn (fun j => j = b) w w') : DkTo w b S M s' w' := by
  refine ⟨?_, ht.mono (fun j _ e => e ▸ hb)⟩
  have h' : Dk w' b S M s' := ⟨own, fv, pv, fs, us, h⟩
  exact h'.mono (fun _ h => .inl h) (fun j hj => hj.elim (h'.lt j) (fun h => h.2)) (Nat.le_refl _)

theorem fuse_any (n : Int) (h : Dk w b S N s) (h0 : -9223372036854775808 ≤ n) (h1 : n ≤ 9223372036854775807) :
    Calls Tryz.prog 14 #[.pointer (some ⟨b, 0, none⟩), .int .i64 n] w fun e w' => e = .returned (.tuple #[]) ∧ Dk w' b S N (s.fuse n) ∧ Turn S w w' := by
  have hm := h.mem
  obtain ⟨own, fv, pv, fs, us, h⟩ := h
  refine (fuse_at n h.f.head).mono ?_
  rintro e w' ⟨rfl, hat, ht⟩
  exact ⟨rfl, ⟨own, fv, pv, fs, us, h.rehead ht hat rfl rfl (h.fit.fuse n h0 h1)⟩, ht.mono (fun j _ e => e ▸ hm)⟩

set_option maxHeartbeats 400000 in
theorem dead_any (h : Dk w b S N s) : Calls Tryz.prog 28 #[.pointer (some ⟨b, 0, none⟩)] w fun e w' => e = .returned (.bool s.dead) ∧ w = w' := by
  obtain ⟨own, fv, pv, fs, us, h⟩ := h
  have c5 : w.cell? ⟨b, 5, none⟩ = some (.bool s.dead) := h.f.head.cell 5
  go_enter Tryz.func28, Tryz.ntmps28
  go_wp2
  go_ret
  exact ⟨rfl, rfl⟩

set_option maxHeartbeats 400000 in
theorem works_any (h : Dk w b S N s) : Calls Tryz.prog 11 #[.pointer (some ⟨b, 0, none⟩)] w fun e w' => e = .returned (.int .i64 s.works) ∧ w = w' := by
  obtain ⟨own, fv, pv, fs, us, h⟩ := h
  have c2 : w.cell? ⟨b, 2, none⟩ = some (.int .i64 s.works) := h.f.head.cell 2
  go_enter Tryz.func11, Tryz.ntmps11
  go_wp2
  go_ret
  exact ⟨rfl, rfl⟩

set_option maxHeartbeats 1000000 in
theorem sync_any (h : Dk w b S N s) (hN : N ≤ 1073741824) :
    Calls Tryz.prog 22 #[.pointer (some ⟨b, 0, none⟩)] w fun e w' => e = .returned (.int .i64 s.sync.1) ∧ Dk w' b S (N + 1) s.sync.2 ∧ Turn S w w' := by
  have hm := h.mem
  obtain ⟨own, fv, pv, fs, us, h⟩ := h
  have hfit := h.fit
  have hwk := hfit.works
  by_cases hd : s.down = true
  · have e1 : s.sync = (14, s.fall) := by unfold DSt.sync; rw [if_pos hd]
    rw [e1]
    go_enter Tryz.func22, Tryz.ntmps22
    go_wp2_with fail
    refine (work_down h.f.head hd).mono ?_
    rintro e w1 ⟨rfl, hat, ht⟩
    have h1 : DkIs w1 b S N s.fall own fv pv fs us := h.rehead ht hat rfl rfl hfit.fall
    have H1 := hide h1
    clear h1 h hat
    go_wp2
    go_ret
    exact ⟨rfl, Dk.mono ⟨own, fv, pv, fs, us, unhide H1⟩ (fun _ h => h) (unhide H1).lt (by omega), ht.mono (fun j _ e => e ▸ hm)⟩
  · have hd' : s.down = false := by simpa using hd
    have e1 : s.sync = (0, s.safe) := by unfold DSt.sync; rw [if_neg hd]
    rw [e1]
    go_enter Tryz.func22, Tryz.ntmps22
    go_wp2_with fail
    refine (work_ok h.f.head hd' (by omega) hfit.left hfit.hi).mono ?_
    rintro e w1 ⟨rfl, hat, ht⟩
    have h1 : DkIs w1 b S (N + 1) s.worked own fv pv fs us := h.rehead ht hat rfl rfl (hfit.worked hd')
    have c1 : w1.cell? ⟨b, 1, none⟩ = some pv := hat.cell 1
    have f1 : w1.frozen? ⟨b, 1, none⟩ = false := hat.frozen 1
    obtain ⟨ao, c, rfl⟩ := h.p.shape
    have H1 := hide h1
    have Hat := hide hat
    clear h1 h hat
    go_wp2
    go_ret
    have h1 := unhide H1
    have t2 := Turn.at b 1 (.slice none 0 0) w1
    refine ⟨rfl, ⟨own, fv, .slice none 0 0, fs, [], h1.f.rehead t2 ((unhide Hat).set 1 _), PAt.none _ _, h1.now, rfl, h1.sub, fun j hj => Nat.lt_of_lt_of_le (h1.lt j hj) t2.size, hfit.safe hd'⟩, (ht.trans t2).mono (fun j _ e => e ▸ hm)⟩

set_option maxHeartbeats 1000000 in
theorem read_any (k : Int) (h : Dk w b S N s) (hN : N ≤ 1073741824) (hk : (s.now k).length ≤ 140737488355328) :
    Calls Tryz.prog 32 #[.pointer (some ⟨b, 0, none⟩), .int .i64 k] w fun e w' => ∃ v, e = .returned v ∧ Made w v (s.read k) w' := by
  obtain ⟨own, fv, pv, fs, us, h⟩ := h
  have hmany := h.many
  have c5 : w.cell? ⟨b, 5, none⟩ = some (.bool s.dead) := h.f.head.cell 5
  by_cases hd : s.dead = true
  · have e1 : s.read k = [] := if_pos hd
    rw [e1]
    rw [hd] at c5
    go_enter Tryz.func32, Tryz.ntmps32
    go_wp2
    go_ret
    exact ⟨_, rfl, Made.nil w⟩
  · have e1 : s.read k = s.now k := if_neg hd
    rw [e1]
    have hd' : s.dead = false := by simpa using hd
    rw [hd'] at c5
    go_enter Tryz.func32, Tryz.ntmps32
    go_wp2_with fail
    refine (bytesOf_any k h.f (by omega)).mono ?_
    rintro e w1 ⟨v, rfl, ho, _, _, t1⟩
    rw [h.now] at ho
    obtain ⟨ao, c, rfl⟩ := ho.shape
    go_wp2_with fail
    refine (clone_any _ _ _ ho.sees hk).mono ?_
    rintro e w2 ⟨v2, rfl, hm2⟩
    have hm3 : Made w v2 (s.now k) w2 := ⟨hm2.1, t1.trans hm2.2.1, fun j hj => Nat.le_trans t1.size (hm2.2.2 j hj)⟩
    obtain ⟨ao2, c2, rfl⟩ := hm2.1.shape
    have H3 := hide hm3
    clear hm2 hm3
    go_wp2
    go_ret
    exact ⟨_, rfl, unhide H3⟩

end

end Go.Proofs.YtfmbkpdjjhcmcaaGreat
