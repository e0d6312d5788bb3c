/- Chapter 9's closed law. -/
import Derived.Test.YtehbefhpijifjaaItX
import Derived.Test.YtehbefhpijifjaaItH
import Derived.Test.YtehbefhpijifjaaItAR
import Derived.Test.YtehbefhpijifjaaItAK
namespace Go.Proofs.Ytehbefhpijifjaa
open Go.RowKit

def lK : List It := [(3, 1), (5, 12)]
def aK : List It := [(3, 1), (6, 12)]
def bK : List It := [(3, 1), (5, 12), (6, 13)]

theorem pk1 : addP lK (6, 12) := ⟨by decide, by decide, by decide, by decide, by decide⟩
theorem pk2 : addP lK (6, 13) := ⟨by decide, by decide, by decide, by decide, by decide⟩
theorem pk3 : ¬ addP lK (7, 13) := fun h => absurd h.2.1 (by decide)
theorem pk4 : ¬ addP lK (6, 11) := fun h => absurd h.2.2.2.2 (by decide)
theorem pk5 : addP [] (1, 4) := ⟨by decide, by decide, by decide, by decide, by decide⟩

section
variable {w : World} {v : Value} {l : List It}

theorem add_yes (e1 e2 : Int) (h : ISees w v l) (hl : l.length ≤ 100000000) (hp : addP l (e1, e2)) : Calls Try.prog 8 #[v, .int .i64 e1, .int .i64 e2] w fun x w' => ∃ v', x = .returned (.tuple #[v', .int .i64 0]) ∧ IMade w v' (pushR l (e1, e2)) w' :=
  (add_any e1 e2 h hl).mono fun _ _ h => h.elim (fun h => h.2) (fun h => absurd hp h.1)

theorem add_no (e1 e2 : Int) (h : ISees w v l) (hl : l.length ≤ 100000000) (hp : ¬ addP l (e1, e2)) : Calls Try.prog 8 #[v, .int .i64 e1, .int .i64 e2] w fun x w' => x = .returned (.tuple #[.slice none 0 0, .int .i64 1]) ∧ Turn (fun _ => False) w w' :=
  (add_any e1 e2 h hl).mono fun _ _ h => h.elim (fun h => absurd h.1 hp) (fun h => h.2)

/-- The head of one's own list. -/
theorem IMade.head {w1 : World} (h : IMade w v l w1) (h0 : 0 < l.length) : ∃ g cap, v = .slice (some ⟨g, 0, none⟩) l.length cap := by
  rcases h.1.2 with ⟨_, hn⟩ | ⟨g, cap, cur, e, _⟩
  · omega
  · exact ⟨g, cap, e⟩

theorem made_head {w1 : World} {bs : List UInt8} (h : Made w v bs w1) (h0 : 0 < bs.length) : ∃ g cap, v = .slice (some ⟨g, 0, none⟩) bs.length cap ∧ bs.length ≤ cap ∧ cap ≤ maxLen := by
  rcases h.1.2 with ⟨_, hn⟩ | ⟨g, cap, cur, e, _, _, h1, h2, _⟩
  · omega
  · exact ⟨g, cap, e, h1, h2⟩

end

set_option maxHeartbeats 8000000 in
set_option maxRecDepth 100000 in
theorem itemsKnown_any (w : World) : Calls Try.prog 3 #[] w fun e w' => e = .returned (.bool true) ∧ Turn (fun _ => False) w w' := by
  go_enter Try.func3, Try.ntmps3
  go_wp2_with fail
  have t1 : Turn (fun _ => False) w (w.alloc (.cells #[.int .i64 3, .int .i64 1, .int .i64 5, .int .i64 12] 23)) := (Turn.refl _ _).alloc _
  have s1 : ISees (w.alloc (.cells #[.int .i64 3, .int .i64 1, .int .i64 5, .int .i64 12] 23)) (.slice (some ⟨w.heap.size, 0, none⟩) 2 2) lK := ISees.lit w lK (by decide)
  generalize w.alloc (.cells #[.int .i64 3, .int .i64 1, .int .i64 5, .int .i64 12] 23) = w1 at *
  have T1 := hide t1
  have S1 := hide (show ∀ w', Turn (fun _ => False) w1 w' → ISees w' (.slice (some ⟨w.heap.size, 0, none⟩) 2 2) lK from fun w' t => s1.kept t (fun _ _ e => e))
  have U1 := hide (Turn.refl (fun _ => False) w1)
  clear t1 s1
  refine (add_yes 6 12 (unhide S1 _ (unhide U1)) (by decide) pk1).mono ?_
  rintro e w2 ⟨v2, rfl, m2⟩
  rw [show pushR lK (6, 12) = aK from by decide] at m2
  obtain ⟨g2, c2, e2⟩ := m2.head (by decide)
  have M2 := hide m2
  have U2 := hide ((unhide U1).trans m2.2.1)
  clear m2
  rw [show aK.length = 2 from rfl] at e2
  subst e2
  go_wp2_with fail
  refine (add_yes 6 13 (unhide S1 _ (unhide U2)) (by decide) pk2).mono ?_
  rintro e w3 ⟨v3, rfl, m3⟩
  rw [show pushR lK (6, 13) = bK from by decide] at m3
  obtain ⟨g3, c3, e3⟩ := m3.head (by decide)
  have M3 := hide m3
  have U3 := hide ((unhide U2).trans m3.2.1)
  clear m3
  rw [show bK.length = 3 from rfl] at e3
  subst e3
  go_wp2_with fail
  refine (add_no 7 13 (unhide S1 _ (unhide U3)) (by decide) pk3).mono ?_
  rintro e w4 ⟨rfl, t4⟩
  have U4 := hide ((unhide U3).trans t4)
  have V4 := hide t4
  clear t4
  go_wp2_with fail
  refine (add_no 6 11 (unhide S1 _ (unhide U4)) (by decide) pk4).mono ?_
  rintro e w5 ⟨rfl, t5⟩
  have U5 := hide ((unhide U4).trans t5)
  have V5 := hide ((unhide V4).trans t5)
  clear t5
  go_wp2_with fail
  refine (add_yes 1 4 (ISees.nil w5) (by decide) pk5).mono ?_
  rintro e w6 ⟨v6, rfl, m6⟩
  obtain ⟨o6, c6, e6⟩ := m6.shape
  rw [show (pushR [] ((1, 4) : It)).length = 1 from rfl] at e6
  have U6 := hide ((unhide U5).trans m6.2.1)
  have A6 := hide ((unhide M2).goes (((unhide M3).2.1.trans (unhide V5)).trans m6.2.1))
  have B6 := hide ((unhide M3).goes ((unhide V5).trans m6.2.1))
  clear m6
  subst e6
  go_wp2_with fail
  refine (ilay_any (unhide S1 _ (unhide U6)) (by decide)).mono ?_
  rintro e w7 (⟨-, v7, rfl, m7⟩ | ⟨hno, -⟩)
  rotate_left 1
  · exact absurd hno (by decide)
  have hl7 : (layI lK).length = 22 := rk2
  obtain ⟨g7, c7, e7, h7, h7m⟩ := made_head m7 (by omega)
  rw [hl7] at e7 h7
  have M7 := hide m7
  have HR7 := hide (iread_any (bs := layI lK) e7 hl7.symm m7.1.sees (by omega) h7 h7m (by rw [show toldI (layI lK) ((22 - 2) / 10) = lK from rk1]; decide))
  clear m7 hl7
  subst e7
  go_wp2_with fail
  refine (unhide HR7).mono ?_
  rintro e w8 ⟨⟨-, v8, rfl, m8⟩ | ⟨hno, -⟩, t8⟩
  rotate_left 1
  · exact absurd (by rw [show toldI (layI lK) ((22 - 2) / 10) = lK from rk1]) hno
  rw [show toldI (layI lK) ((22 - 2) / 10) = lK from rk1] at m8
  obtain ⟨o8, c8, e8⟩ := m8.shape
  rw [show lK.length = 2 from rfl] at e8
  have T8 := hide t8
  clear m8 t8 HR7
  subst e8
  obtain ⟨v9, w9, r9, m9, -, -⟩ := made_cat (made_goes (unhide M7) (unhide T8)) 0 (by decide) (by decide) (by rw [show (layI lK).length = 22 from rk2]; decide)
  rw [show [UInt8.ofNat (0 : Int).toNat] = ([0] : List UInt8) from rfl] at m9
  have hl9 : (layI lK ++ [0]).length = 23 := by rw [List.length_append, show (layI lK).length = 22 from rk2]; rfl
  obtain ⟨g9, c9, e9, h9, h9m⟩ := made_head m9 (by omega)
  rw [hl9] at e9 h9
  have HR9 := hide (iread_any (bs := layI lK ++ [0]) e9 hl9.symm m9.1.sees (by omega) h9 h9m (by rw [show toldI (layI lK ++ [0]) ((23 - 2) / 10) = lK from rk3]; decide))
  have T9 := hide m9.2.1
  have R9 := hide r9
  clear m9 r9 h9 h9m h7 h7m
  subst e9
  go_wp2_with (at_builtin; refine wpList_append_run rfl (.tmp 56) (.tmp 57) 28 rfl _ _ _ w9 rfl rfl (unhide R9) ?_)
  refine (unhide HR9).mono ?_
  rintro e w10 ⟨⟨hyes, -⟩ | ⟨-, rfl⟩, t10⟩
  · rw [show toldI (layI lK ++ [0]) ((23 - 2) / 10) = lK from rk3] at hyes
    have := congrArg List.length hyes
    rw [hl9, show (layI lK).length = 22 from rk2] at this
    omega
  have T10 := hide ((unhide T9).trans t10)
  clear t10 hl9 HR9 R9
  have SL := hide (show ∀ w', Turn (fun _ => False) w10 w' → ISees w' (.slice (some ⟨w.heap.size, 0, none⟩) 2 2) lK from fun w' t => unhide S1 _ (((unhide U6).trans (unhide T10)).trans t))
  have SA := hide (show ∀ w', Turn (fun _ => False) w10 w' → ISees w' (.slice (some ⟨g2, 0, none⟩) 2 c2) aK from fun w' t => ((unhide A6).goes ((unhide T10).trans t)).1.sees)
  have SB := hide (show ∀ w', Turn (fun _ => False) w10 w' → ISees w' (.slice (some ⟨g3, 0, none⟩) 3 c3) bK from fun w' t => ((unhide B6).goes ((unhide T10).trans t)).1.sees)
  have TT := hide (((unhide T1).trans (unhide U6)).trans (unhide T10))
  clear S1 U1 M2 U2 M3 U3 U4 V4 U5 V5 U6 A6 B6 M7 T8 T9 T10 T1
  go_wp2_with fail
  refine (iknown_any w10).mono ?_
  rintro e w11 ⟨rfl, t11⟩
  have X0 := hide t11
  clear t11
  have ca : w11.cell? ⟨g2, 2, none⟩ = some (.int .i64 6) := by
    obtain ⟨g, o, e, h, -⟩ := (unhide SA _ (unhide X0)).at 1 (by decide)
    injection e with e
    simp only [Addr.mk.injEq, and_true] at e
    obtain ⟨rfl, rfl⟩ := e
    exact h
  have cb : w11.cell? ⟨g3, 4, none⟩ = some (.int .i64 6) ∧ w11.cell? ⟨g3, 5, none⟩ = some (.int .i64 13) := by
    obtain ⟨g, o, e, h, h2⟩ := (unhide SB _ (unhide X0)).at 2 (by decide)
    injection e with e
    simp only [Addr.mk.injEq, and_true] at e
    obtain ⟨rfl, rfl⟩ := e
    exact ⟨h, h2⟩
  obtain ⟨cb0, cb1⟩ := cb
  go_wp2_with fail
  have hv1 := version_any 4 (unhide SL _ (unhide X0)) (by decide)
  rw [show (findP lK 4).1 = 12 from by decide] at hv1
  refine hv1.mono ?_
  clear hv1
  rintro e x1 ⟨rfl, rfl⟩
  have X1 := X0
  go_wp2_with fail
  have hv2 := version_any 6 (unhide SL _ (unhide X1)) (by decide)
  rw [show (findP lK 6).1 = 0 from by decide] at hv2
  refine hv2.mono ?_
  clear hv2
  rintro e x2 ⟨rfl, rfl⟩
  have X2 := X1
  go_wp2_with fail
  have hv3 := has_any (3, 1) (unhide SL _ (unhide X2)) (by decide)
  rw [show hasP lK (3, 1) = true from by decide] at hv3
  refine hv3.mono ?_
  clear hv3
  rintro e x3 ⟨rfl, tn⟩
  have X3 := hide ((unhide X2).trans tn)
  clear tn
  go_wp2_with fail
  have hv4 := has_any (3, 12) (unhide SL _ (unhide X3)) (by decide)
  rw [show hasP lK (3, 12) = false from by decide] at hv4
  refine hv4.mono ?_
  clear hv4
  rintro e x4 ⟨rfl, tn⟩
  have X4 := hide ((unhide X3).trans tn)
  clear tn
  go_wp2_with fail
  have hv5 := has_any (0, 0) (ISees.nil x4) (by decide)
  rw [show hasP [] (0, 0) = true from by decide] at hv5
  refine hv5.mono ?_
  clear hv5
  rintro e x5 ⟨rfl, tn⟩
  have X5 := hide ((unhide X4).trans tn)
  clear tn
  go_wp2_with fail
  have hv6 := compare_any (unhide SL _ (unhide X5)) (unhide SA _ (unhide X5)) (by decide) (by decide)
  rw [show cmpP (lastF (0, 0) lK) (lastF (0, 0) aK) = -1 from by decide] at hv6
  refine hv6.mono ?_
  clear hv6
  rintro e x6 ⟨rfl, tn⟩
  have X6 := hide ((unhide X5).trans tn)
  clear tn
  go_wp2_with fail
  have hv7 := compare_any (unhide SB _ (unhide X6)) (unhide SA _ (unhide X6)) (by decide) (by decide)
  rw [show cmpP (lastF (0, 0) bK) (lastF (0, 0) aK) = 1 from by decide] at hv7
  refine hv7.mono ?_
  clear hv7
  rintro e x7 ⟨rfl, tn⟩
  have X7 := hide ((unhide X6).trans tn)
  clear tn
  go_wp2_with fail
  have hv8 := compare_any (unhide SL _ (unhide X7)) (unhide SL _ (unhide X7)) (by decide) (by decide)
  rw [show cmpP (lastF (0, 0) lK) (lastF (0, 0) lK) = 0 from by decide] at hv8
  refine hv8.mono ?_
  clear hv8
  rintro e x8 ⟨rfl, tn⟩
  have X8 := hide ((unhide X7).trans tn)
  clear tn
  go_wp2_with fail
  refine (cut_any 4 (unhide SL _ (unhide X8)) (by decide)).mono ?_
  rintro e x9 ⟨vc, rfl, mc⟩
  obtain ⟨oc, cc, ec⟩ := mc.shape
  rw [show (if (4 : Int) < 1 then [] else cutR 4 lK).length = 2 from by decide] at ec
  have X9 := hide ((unhide X8).trans mc.2.1)
  clear mc
  subst ec
  go_wp2_with fail
  refine (cut_any 3 (unhide SL _ (unhide X9)) (by decide)).mono ?_
  rintro e x10 ⟨vc, rfl, mc⟩
  obtain ⟨oc, cc, ec⟩ := mc.shape
  rw [show (if (3 : Int) < 1 then [] else cutR 3 lK).length = 1 from by decide] at ec
  have X10 := hide ((unhide X9).trans mc.2.1)
  clear mc
  subst ec
  go_wp2_with fail
  refine (cut_any 0 (unhide SL _ (unhide X10)) (by decide)).mono ?_
  rintro e x11 ⟨vc, rfl, mc⟩
  obtain ⟨oc, cc, ec⟩ := mc.shape
  rw [show (if (0 : Int) < 1 then [] else cutR 0 lK).length = 0 from by decide] at ec
  have X11 := hide ((unhide X10).trans mc.2.1)
  clear mc
  subst ec
  go_wp2_with fail
  refine (last_any (ISees.nil x11) (by decide)).mono ?_
  rintro e x12 ⟨rfl, tn⟩
  have X12 := hide ((unhide X11).trans tn)
  clear tn
  rw [show itV (lastF (0, 0) []) = .agg #[.int .i64 0, .int .i64 0] from rfl]
  go_wp2
  go_ret
  exact ⟨rfl, (unhide TT).trans (unhide X12)⟩

end Go.Proofs.Ytehbefhpijifjaa
