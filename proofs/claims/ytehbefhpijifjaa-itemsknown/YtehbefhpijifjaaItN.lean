/- Numbers of one's own, in new memory; what the reference's Versions makes of items. -/
import Derived.Test.YtehbefhpijifjaaItM
namespace Go.Proofs.Ytehbefhpijifjaa
open Go.RowKit

/-- Numbers of one's own, in new memory; nothing else has turned. -/
def NMade (w : World) (v : Value) (xs : List Int) (w' : World) : Prop := OwnsC 3 w' v (i64s xs) ∧ Turn (fun _ => False) w w' ∧ ∀ k, v.ownBlock = some k → w.heap.size ≤ k

section
variable {w w1 w2 : World} {v : Value} {xs : List Int}

theorem NMade.nil (w : World) : NMade w (.slice none 0 0) [] w := ⟨OwnsC.nil _ w, Turn.refl _ _, fun k hk => by cases hk⟩

theorem NMade.goes (h : NMade w v xs w1) (t : Turn (fun _ => False) w1 w2) : NMade w v xs w2 :=
  ⟨h.1.kept t (fun _ _ e => e), h.2.1.trans t, h.2.2⟩

theorem NMade.back {w0 : World} (h : NMade w v xs w1) (t : Turn (fun _ => False) w0 w) : NMade w0 v xs w1 :=
  ⟨h.1, t.trans h.2.1, fun k hk => Nat.le_trans t.size (h.2.2 k hk)⟩

theorem NMade.shape (h : NMade w v xs w1) : ∃ ao cap, v = .slice ao xs.length cap := by
  rcases h.1.shape with ⟨rfl, e⟩ | ⟨g, cap, e, _⟩
  · have : xs = [] := by simpa [i64s] using e
    subst this
    exact ⟨none, 0, rfl⟩
  · rw [i64s_length] at e
    exact ⟨_, _, e⟩

theorem NMade.at {ao : Option Addr} {n cap : Nat} (h : NMade w (.slice ao n cap) xs w1) (k : Nat) (hk : k < xs.length) : ∃ g, ao = some ⟨g, 0, none⟩ ∧ w1.cell? ⟨g, k, none⟩ = some (.int .i64 xs[k]) := by
  have hs := h.1.sees
  rcases h.1.shape with ⟨_, e⟩ | ⟨g, cap', e, _⟩
  · have : xs = [] := by simpa [i64s] using e
    subst this
    simp at hk
  · injection e with e1 e2 e3
    refine ⟨g, e1, ?_⟩
    have hj : (i64s xs)[k]? = some (.int .i64 xs[k]) := by simp [i64s, List.getElem?_map, List.getElem?_eq_getElem hk]
    rcases hs with ⟨h0, _⟩ | ⟨a, c', e', _, _, hcell⟩
    · rw [e1] at h0; cases h0
    · injection e' with e4 _ _
      rw [e1] at e4
      injection e4 with e4
      subst e4
      have := hcell k _ hj
      rwa [Addr.add_lit, Nat.zero_add] at this

theorem NMade.ints (h : NMade w v xs w1) : IntsAt w1 w1.heap.size v xs := by
  obtain ⟨ao, cap, rfl⟩ := h.shape
  rcases h.1.shape with ⟨e, e2⟩ | ⟨g, cap', e, e2, e3⟩
  · have : xs = [] := by simpa [i64s] using e2
    subst this
    exact .inl ⟨e, rfl⟩
  · injection e with e1 e4 e5
    subst e1
    refine .inr ⟨_, _, rfl, by rw [i64s_length] at e2; omega, fun k hk => ?_⟩
    obtain ⟨g', e6, hc⟩ := h.at k hk
    injection e6 with e6
    simp only [Addr.mk.injEq, and_true] at e6
    subst e6
    rw [Addr.add_lit, Nat.zero_add]
    exact ⟨World.block_lt_of_cell? w1 ⟨g, k, none⟩ hc, hc⟩

/-- One more. -/
theorem NMade.cat (h : NMade w v xs w1) (x : Int) (hb : xs.length ≤ 1000000000) :
    ∃ v2 w2, (Builtin.append_ #[38, 38] 38 #[v, .slice (some ⟨w1.heap.size, 0, none⟩) 1 1]).run Try.prog (w1.alloc (.cells #[.int .i64 x] 3)) = .ok v2 w2 ∧ NMade w v2 (xs ++ [x]) w2 := by
  obtain ⟨i, hi, hz, hsz, hby⟩ := info_parts Try.infoInt
  have ta : Turn (fun _ => False) w1 (w1.alloc (.cells #[.int .i64 x] 3)) := (Turn.refl _ _).alloc _
  obtain ⟨v2, w2, hr, ho, hg, hat⟩ := run_append_cells (P := Try.prog) (w1.alloc (.cells #[.int .i64 x] 3)) 38 38 3 i _ 8 Try.underlying38 hi hz hsz hby rfl v (i64s xs) (h.1.kept ta (fun _ _ e => e)) _ [.int .i64 x] (SeesC.lit w1 [.int .i64 x] _ (by simp [maxLen])) (by intro u hu; rw [List.mem_singleton.1 hu]; rfl) (by rw [i64s_length]; simp [maxLen]; omega) (by rw [i64s_length]; simp; omega)
  have tg : Turn (fun j => v.ownBlock = some j) (w1.alloc (.cells #[.int .i64 x] 3)) w2 := (Turn.refl _ _).grown hg (fun j hj => .inl hj)
  have hs1 := h.2.1.size
  have hs2 := ta.size
  refine ⟨v2, w2, hr, ⟨by rw [i64s_append]; exact ho, (h.2.1.trans ta).trans' tg (fun i hi e => by have := h.2.2 i e; omega), fun k hk => ?_⟩⟩
  rcases hat with e | e
  · exact h.2.2 k (e ▸ hk)
  · rw [e] at hk
    injection hk with hk
    omega

end

section
variable {w : World} {v : Value} {l : List It}

set_option maxHeartbeats 4000000 in
theorem versions_any (h : ISees w v l) (hu : Up 0 l) (hl : l.length ≤ 100000000) (hn : (expd 0 l).length ≤ 100000000) : Calls Try.prog 38 #[v] w fun e w' => ∃ v', e = .returned v' ∧ NMade w v' (expd 0 l) w' := by
  obtain ⟨ao, cap, rfl⟩ := h.shape
  obtain ⟨len, hlen⟩ : ∃ n, n = l.length := ⟨_, rfl⟩
  obtain ⟨res, hres⟩ : ∃ r, r = expd 0 l := ⟨_, rfl⟩
  have H := hide h
  have HL := hide (And.intro hlen (And.intro hl hn))
  have R := hide (And.intro hres hu)
  rw [← hres, ← hlen]
  rw [← hlen] at hl
  rw [← hres] at hn
  have HN := hide hn
  clear h hlen hres hu hn
  go_enter Try.func38, Try.ntmps38
  go_wp2_with fail
  go_loopw [3, 4] (fun out i wr => ∃ (n : Nat) (xs : List Int), i = .int .i64 n ∧ n ≤ len ∧ NMade w out xs wr ∧ Hid (res = xs ++ expd xs.length (l.drop n) ∧ Up xs.length (l.drop n))) (fun _ i _ => len - (intOf i).toNat)
  case atStart => exact ⟨0, [], rfl, by omega, NMade.nil _, hide ⟨by rw [(unhide R).1]; simp, by simpa using (unhide R).2⟩⟩
  case round =>
    obtain ⟨n, xs, rfl, hn, hm, hr⟩ := hrel
    by_cases hlt : n < len
    · have hnl : n < l.length := by have := unhide HL; omega
      rw [List.drop_eq_getElem_cons hnl] at hr
      have hat := fun (w' : World) (t : Turn (fun _ => False) w w') => ((unhide H).kept t (fun _ _ e => e)).at n hnl
      have hlq := (unhide HL).1
      obtain ⟨e, he⟩ : ∃ e, e = l[n] := ⟨_, rfl⟩
      rw [← he] at hr hat
      obtain ⟨e1, e2⟩ := e
      obtain ⟨r, hrd⟩ : ∃ r, r = l.drop (n + 1) := ⟨_, rfl⟩
      rw [← hrd] at hr
      have q1 : (n : Int) < len := by omega
      have HAt := hide hat
      have HRd := hide hrd
      obtain ⟨g, o, rfl, -, -⟩ := unhide HAt wr hm.2.1
      have hr1 := (unhide hr)
      have hup := hr1.2
      have hbd : e1 ≤ 100000000 := by
        have h1 := lastF_len (xs.length, (0 : Int)) (((e1, e2) : It) :: r) hup
        have h2 := congrArg List.length hr1.1
        rw [List.length_append] at h2
        have h3 := unhide HN
        have h4 := lastF_len (((e1, e2) : It)) r hup.2
        simp only [expd, List.length_append, List.length_replicate] at h2
        have := hup.1
        simp only at this h2
        omega
      have Hup := hide hup
      have hin : Hid (res = xs ++ List.replicate (e1 - xs.length).toNat e2 ++ expd e1 r ∧ (xs.length : Int) ≤ e1) := hide ⟨by rw [hr1.1]; simp [expd, List.append_assoc], by have := hup.1; simp only at this; omega⟩
      obtain ⟨oo, oc, hoe⟩ := hm.shape
      clear hat hr hr1 hup he hrd
      subst hoe
      go_wp2_with fail
      go_loopw [3] (fun out wi => ∃ ys : List Int, NMade w out ys wi ∧ Hid (res = ys ++ List.replicate (e1 - ys.length).toNat e2 ++ expd e1 r ∧ (ys.length : Int) ≤ e1)) (fun out _ => (e1 - (match out with | .slice _ k _ => (k : Int) | _ => 0)).toNat)
      case atStart => exact ⟨xs, hm, hin⟩
      case round =>
        obtain ⟨ys, hmy, hiny⟩ := hrel
        obtain ⟨g', o', eg, c0, c1⟩ := unhide HAt _ hmy.2.1
        injection eg with eg
        simp only [Addr.mk.injEq, and_true] at eg
        obtain ⟨rfl, rfl⟩ := eg
        obtain ⟨ao2, ac2, ev⟩ := hmy.shape
        obtain ⟨yn, hyn⟩ : ∃ k, k = ys.length := ⟨_, rfl⟩
        have hyl : ys.length ≤ 100000000 := by have := (unhide hiny).2; omega
        obtain ⟨v2, w2, hrun, hm2⟩ := hmy.cat e2 (by omega)
        have HMy := hide hmy
        have HYn := hide hyn
        rw [← hyn] at ev hyl
        subst ev
        by_cases hlt2 : (yn : Int) < e1
        · obtain ⟨ao3, ac3, ev3⟩ := hm2.shape
          rw [List.length_append, List.length_singleton, ← hyn] at ev3
          have HR := hide hrun
          have hnx : Hid (res = (ys ++ [e2]) ++ List.replicate (e1 - (ys ++ [e2]).length).toNat e2 ++ expd e1 r ∧ ((ys ++ [e2]).length : Int) ≤ e1) := by
            refine hide ⟨?_, ?_⟩
            · rw [(unhide hiny).1, List.length_append, List.length_singleton]
              have hk : (e1 - (ys.length : Int)).toNat = (e1 - ((ys.length + 1 : Nat) : Int)).toNat + 1 := by omega
              rw [hk, List.replicate_succ]
              simp [List.append_assoc]
            · rw [List.length_append, List.length_singleton]
              omega
          have HM2 := hide hm2
          clear hmy hiny hin hm2 hrun hyn
          subst ev3
          go_wp2_with (at_builtin; refine wpList_append_run rfl (.tmp 19) (.tmp 25) 38 rfl _ _ _ w2 rfl rfl (unhide HR) ?_)
          go_roundw
          case rel => exact ⟨_, unhide HM2, hnx⟩
          case measure => simp; omega
        · have heq : (yn : Int) = e1 := by have := (unhide hiny).2; omega
          have hnx : Hid (res = ys ++ expd ys.length (l.drop (n + 1)) ∧ Up ys.length (l.drop (n + 1))) := by
            have he1 : e1 = (ys.length : Int) := by omega
            refine hide ⟨?_, ?_⟩
            · rw [(unhide hiny).1, ← unhide HRd, he1]
              simp
            · rw [← unhide HRd, ← he1]
              exact (unhide Hup).2
          clear hmy hiny hin hm2 hrun hyn
          go_wp2_with fail
          go_roundw
          case rel => exact ⟨n + 1, by go_num, by omega, ys, unhide HMy, hnx⟩
          case measure => simp [intOf]; omega
    · obtain rfl : n = len := by omega
      have q1 : ¬ (n : Int) < n := by omega
      have hr1 := (unhide hr).1
      rw [List.drop_of_length_le (by have := unhide HL; omega)] at hr1
      simp only [expd, List.append_nil] at hr1
      subst hr1
      obtain ⟨oo, oc, hoe⟩ := hm.shape
      have HM := hide hm
      generalize res.length = rn at *
      clear hm
      subst hoe
      go_wp2_with fail
      go_ret
      exact ⟨_, rfl, unhide HM⟩

end

end Go.Proofs.Ytehbefhpijifjaa
