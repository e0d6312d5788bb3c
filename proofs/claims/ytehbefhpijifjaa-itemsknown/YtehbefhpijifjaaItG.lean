/- slices.Clone of items; items' lengthen, Add, Cut. -/
import Derived.Test.YtehbefhpijifjaaItD
import Derived.Deep.RegionHeld
namespace Go.Proofs.Ytehbefhpijifjaa
open Go.RowKit

section
variable {w w0 w1 : World} {v v2 : Value} {l m : List It}

theorem iclone_any (h : ISees w v l) (hl : l.length ≤ 1000000000) : Calls Try.prog 29 #[v] w fun e w' => ∃ v', e = .returned v' ∧ IMade w v' l w' := by
  have qT : ∀ (w : World) (a : Option Addr) (n c n' c' : Nat), (binOp .eql 24 (.slice a n c) (.slice none n' c')).run Try.prog w = .ok (.bool a.isNone) w := fun w a n c n' c' => Lib.run_eql_slice_nil w _ _ a n c n' c' Try.underlying24
  have hs := h
  rcases hs with ⟨rfl, rfl⟩ | ⟨g, o, cap, rfl, -⟩
  · go_enter Try.func29, Try.ntmps29
    go_wp2_with fail
    go_ret
    exact ⟨_, rfl, IMade.nil _⟩
  · have ta : Turn (fun _ => False) w (w.alloc (.cells #[] 23)) := (Turn.refl _ _).alloc _
    obtain ⟨v2, w2, hr, ho, hg, hat⟩ := (IOwns.empty w).cat _ l (h.kept ta (fun _ _ e => e)) (by simp; omega)
    have Hr := hide hr
    have hfin : IMade w v2 l w2 := by
      refine ⟨by simpa using ho, ta.trans' ((Turn.refl (fun j => (Value.slice (some ⟨w.heap.size, 0, none⟩) 0 0).ownBlock = some j) _).grown hg (fun j hj => .inl hj)) (fun i hi e => ?_), fun k hk => ?_⟩
      · injection e with e
        have e : w.heap.size = i := e
        omega
      · rcases hat with e | e
        · rw [e] at hk
          injection hk with hk
          have hk : w.heap.size = k := hk
          omega
        · rw [e] at hk
          injection hk with hk
          have := ta.size
          omega
    obtain ⟨o2, c2, e2⟩ := hfin.shape
    have Hf := hide hfin
    generalize l.length = len at *
    clear hr ho hg hat hfin h
    subst e2
    go_enter Try.func29, Try.ntmps29
    go_wp2_with (at_builtin; refine wpList_append_run rfl (.tmp 5) (.tmp 6) 24 rfl _ _ _ w2 rfl rfl (unhide Hr) ?_)
    go_ret
    exact ⟨_, rfl, unhide Hf⟩

set_option maxHeartbeats 4000000 in
theorem lengthen_any (e : It) (h : IMade w0 v l w) (hl : l.length ≤ 100000000) : Calls Try.prog 28 #[v, itV e] w fun x w' => ∃ v', x = .returned v' ∧ IMade w0 v' (pushR l e) w' := by
  obtain ⟨ao, cap, rfl⟩ := h.shape
  have hp := pushR_is (0, 0) e l
  obtain ⟨res, hres⟩ : ∃ r, r = pushR l e := ⟨_, rfl⟩
  rw [← hres] at hp ⊢
  clear hres
  obtain ⟨e1, e2⟩ := e
  rw [show itV (e1, e2) = .agg #[.int .i64 e1, .int .i64 e2] from rfl]
  have ta : Turn (fun _ => False) w (w.alloc (.cells #[.int .i64 e1, .int .i64 e2] 23)) := (Turn.refl _ _).alloc _
  have hB : At 23 (w.alloc (.cells #[.int .i64 e1, .int .i64 e2] 23)) w.heap.size #[.int .i64 e1, .int .i64 e2] := At.new _ _ _
  have hm1 := h.goes ta
  have hlst : ∀ w3, Turn (fun _ => False) (w.alloc (.cells #[.int .i64 e1, .int .i64 e2] 23)) w3 → _ := fun w3 t3 => last_any (hm1.goes t3).1.sees (by omega)
  have HLast := hide hlst
  clear hlst
  obtain ⟨x, hx⟩ : ∃ x, x = lastF (0, 0) l := ⟨_, rfl⟩
  rw [← hx] at hp HLast
  have X := hide hx
  have H := hide hm1
  have HB := hide hB
  have d0 : (w.alloc (.cells #[.int .i64 e1, .int .i64 e2] 23)).cell? ⟨w.heap.size, 0, none⟩ = some (.int .i64 e1) := hB.cell 0
  have d1 : (w.alloc (.cells #[.int .i64 e1, .int .i64 e2] 23)).cell? ⟨w.heap.size, 1, none⟩ = some (.int .i64 e2) := hB.cell 1
  have hcat : ∀ w2, Turn (fun _ => False) (w.alloc (.cells #[.int .i64 e1, .int .i64 e2] 23)) w2 → _ := fun w2 t2 => (hm1.goes t2).cat (e1, e2) (by omega)
  have HC := hide hcat
  obtain ⟨x1, x2⟩ := x
  rw [show itV (x1, x2) = .agg #[.int .i64 x1, .int .i64 x2] from rfl] at HLast
  simp only at hp
  by_cases h0 : 0 < l.length
  case neg =>
    have hl0 : l = [] := List.eq_nil_of_length_eq_zero (by omega)
    rw [if_neg (by omega)] at hp
    have Hp := hide hp
    subst hl0
    clear hp h hm1 hB hcat ta hx HLast X
    go_enter Try.func28, Try.ntmps28
    go_wp2_with fail
    go_quiet ((fail))
    have e0 := ((turn_drewNI (fun _ => False) (w.alloc (.cells #[.int .i64 e1, .int .i64 e2] 23)) nq).cell (p := ⟨w.heap.size, 0, none⟩) (World.block_lt_of_cell? _ _ d0) (fun e => e)).trans d0
    have e1' := ((turn_drewNI (fun _ => False) (w.alloc (.cells #[.int .i64 e1, .int .i64 e2] 23)) nq).cell (p := ⟨w.heap.size, 1, none⟩) (World.block_lt_of_cell? _ _ d1) (fun e => e)).trans d1
    obtain ⟨v2, w2, hr, hm2, t2⟩ := unhide HC _ (turn_drewNI _ _ nq)
    obtain ⟨o2, c2, ev⟩ := hm2.shape
    have Hr := hide hr
    have Hm := hide hm2
    generalize ([] ++ [((e1, e2) : It)]).length = n2 at ev
    clear hr hm2 t2
    subst ev
    generalize (w.alloc (.cells #[.int .i64 e1, .int .i64 e2] 23)).drewN nq = wq at *
    go_wp2_with (at_builtin; refine wpList_append_run rfl (.tmp 23) (.tmp 25) 24 rfl _ _ _ w2 rfl rfl (unhide Hr) ?_)
    go_ret
    exact ⟨_, rfl, by rw [unhide Hp]; exact unhide Hm⟩
  · have h0' : (l.length : Int) > 0 := by omega
    by_cases he : x2 = e2
    · rw [if_pos ⟨h0, he⟩] at hp
      have q1 : (x2 == e2) = true := by simpa using he
      have Hp := hide hp
      have he' : (lastF (0, 0) l).2 = e2 := by rw [← unhide X]; exact he
      have hlast := lastF_get (0, 0) l h0
      rw [List.getElem?_eq_getElem (by omega)] at hlast
      injection hlast with hlast
      have hput : ∀ w2, Turn (fun _ => False) (w.alloc (.cells #[.int .i64 e1, .int .i64 e2] 23)) w2 → _ := fun w2 t2 => (hm1.goes t2).1.put (l.length - 1) (by omega) (e1, e2)
      have HP := hide hput
      clear hp hput hcat HC he he' hx h ta hB hm1 hlast
      go_enter Try.func28, Try.ntmps28
      go_wp2_with fail
      have c0 : (w.alloc (.cells #[.int .i64 e1, .int .i64 e2] 23)).drew.cell? ⟨w.heap.size, 0, none⟩ = some (.int .i64 e1) := by rw [World.cell?_drew]; exact d0
      have c1 : (w.alloc (.cells #[.int .i64 e1, .int .i64 e2] 23)).drew.cell? ⟨w.heap.size, 1, none⟩ = some (.int .i64 e2) := by rw [World.cell?_drew]; exact d1
      have qf := fun w' => item_ver x1 x2 w'
      go_region_held (fun w' => w'.cell? ⟨w.heap.size, 0, none⟩ = some (.int .i64 e1) ∧ w'.cell? ⟨w.heap.size, 1, none⟩ = some (.int .i64 e2)) (first | go_keep | exact ⟨d0, d1⟩ | exact ⟨c0, c1⟩ | exact ⟨y0, y1⟩) (first | (go_at_call 16; refine (unhide HLast _ (Turn.refl _ _).drew).mono ?_; rintro e w2 ⟨rfl, t2⟩; have y0 := (t2.cell (p := ⟨w.heap.size, 0, none⟩) (World.block_lt_of_cell? _ _ c0) (fun e => e)).trans c0; have y1 := (t2.cell (p := ⟨w.heap.size, 1, none⟩) (World.block_lt_of_cell? _ _ c1) (fun e => e)).trans c1; have T2 := hide ((Turn.refl _ _).drew.trans t2); clear t2))
      obtain ⟨g, cap', ev, f0, f1, b0, b1, hown, -⟩ := unhide HP w2 (unhide T2)
      injection ev with ev _ ecap
      subst ev ecap
      have hnew := (unhide H).goes (unhide T2)
      have hgn := hnew.2.2 g rfl
      have Hfin := hide (show IMade w0 (.slice (some ⟨g, 0, none⟩) l.length cap) (l.set (l.length - 1) (e1, e2)) _ from ⟨hown, (hnew.2.1.setCell (p := ⟨g, (l.length - 1) * 2, none⟩) (.inr hgn) (.int .i64 e1)).setCell (p := ⟨g, (l.length - 1) * 2 + 1, none⟩) (.inr hgn) (.int .i64 e2), fun k hk => hnew.2.2 k hk⟩)
      clear hown hnew hgn HP H
      generalize l[l.length - 1] = la at *
      generalize l.length = len at *
      go_wp2_with fail
      go_ret
      exact ⟨_, rfl, by rw [unhide Hp]; exact unhide Hfin⟩
    · rw [if_neg (fun h => he h.2)] at hp
      have q1 : (x2 == e2) = false := by simpa using he
      have Hp := hide hp
      clear hp hcat he hx h ta hB hm1
      go_enter Try.func28, Try.ntmps28
      go_wp2_with fail
      have c0 : (w.alloc (.cells #[.int .i64 e1, .int .i64 e2] 23)).drew.cell? ⟨w.heap.size, 0, none⟩ = some (.int .i64 e1) := by rw [World.cell?_drew]; exact d0
      have c1 : (w.alloc (.cells #[.int .i64 e1, .int .i64 e2] 23)).drew.cell? ⟨w.heap.size, 1, none⟩ = some (.int .i64 e2) := by rw [World.cell?_drew]; exact d1
      have qf := fun w' => item_ver x1 x2 w'
      go_region_held (fun w' => w'.cell? ⟨w.heap.size, 0, none⟩ = some (.int .i64 e1) ∧ w'.cell? ⟨w.heap.size, 1, none⟩ = some (.int .i64 e2)) (first | go_keep | exact ⟨d0, d1⟩ | exact ⟨c0, c1⟩ | exact ⟨y0, y1⟩) (first | (go_at_call 16; refine (unhide HLast _ (Turn.refl _ _).drew).mono ?_; rintro e w2 ⟨rfl, t2⟩; have y0 := (t2.cell (p := ⟨w.heap.size, 0, none⟩) (World.block_lt_of_cell? _ _ c0) (fun e => e)).trans c0; have y1 := (t2.cell (p := ⟨w.heap.size, 1, none⟩) (World.block_lt_of_cell? _ _ c1) (fun e => e)).trans c1; have T2 := hide ((Turn.refl _ _).drew.trans t2); clear t2))
      obtain ⟨v2, w3, hr, hm2, t2⟩ := unhide HC w2 (unhide T2)
      obtain ⟨o2, c2, ev⟩ := hm2.shape
      have Hr := hide hr
      have Hm := hide hm2
      generalize (l ++ [((e1, e2) : It)]).length = n2 at ev
      clear hr hm2 t2
      subst ev
      go_wp2_with (at_builtin; refine wpList_append_run rfl (.tmp 23) (.tmp 25) 24 rfl _ _ _ w3 rfl rfl (unhide Hr) ?_)
      go_ret
      exact ⟨_, rfl, by rw [unhide Hp]; exact unhide Hm⟩

end

end Go.Proofs.Ytehbefhpijifjaa
