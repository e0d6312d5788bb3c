/- The law DiskOrder. -/
import Derived.Test.YtnojedjdnecagaaDMore
import Derived.Deep.RegionWith
import Derived.Deep.DeepMust
import Derived.Deep.CutRange
import Derived.BigQuiet
import Derived.Deep.QuietTactic
import Derived.Test.YtnojedjdnecagaaLists
namespace Go.Proofs.Ytnojedjdnecagaa
open Go.RowKit

/-- Where each of some bytes ends, one behind the other. -/
def endsOf (ls : List (List UInt8)) : List Int := (List.range ls.length).map fun j => ((ls.take (j + 1)).flatten.length : Int)

theorem endsOf_length (ls : List (List UInt8)) : (endsOf ls).length = ls.length := by simp [endsOf]

theorem endsOf_at (ls : List (List UInt8)) (j : Nat) (hj : j < ls.length) : (endsOf ls)[j]? = some ((ls.take (j + 1)).flatten.length : Int) := by
  unfold endsOf
  rw [List.getElem?_map, List.getElem?_range hj]
  rfl

theorem endsOf_snoc (ls : List (List UInt8)) (x : List UInt8) : endsOf (ls ++ [x]) = endsOf ls ++ [((ls ++ [x]).flatten.length : Int)] := by
  unfold endsOf
  rw [List.length_append, List.length_singleton, List.range_succ, List.map_append]
  congr 1
  · refine List.map_congr_left fun j hj => ?_
    rw [List.take_append_of_le_length (by have := List.mem_range.1 hj; omega)]
  · rw [List.map_singleton, List.take_of_length_le (by simp)]

/-- Bytes that were laid in file 0, one behind the other, and pend. -/
structure Og (ls : List (List UInt8)) (s : DSt) : Prop where
  base : s.base = fun _ => []
  ops : s.ops = ls.map (DOp.lay 0)
  fused : s.fused = false
  dead : s.dead = false

theorem acts_lays (ls : List (List UInt8)) : ∀ s : Fs, acts s (ls.map (DOp.lay 0)) = fput s 0 (s 0 ++ ls.flatten) := by
  induction ls with
  | nil => intro s; simp [acts, fput_same]
  | cons x r ih =>
    intro s
    show acts (act s (.lay 0 x)) (r.map (DOp.lay 0)) = _
    rw [ih]
    have e : act s (.lay 0 x) 0 = s 0 ++ x := by simp [act, fput]
    rw [e]
    show fput (fput s 0 (s 0 ++ x)) 0 _ = _
    rw [fput_fput]
    simp

theorem Og.now {ls : List (List UInt8)} {s : DSt} (h : Og ls s) : s.now 0 = ls.flatten := by
  unfold DSt.now
  rw [h.ops, h.base, acts_lays]
  simp [fput]

theorem Og.down {ls : List (List UInt8)} {s : DSt} (h : Og ls s) : s.down = false := by unfold DSt.down; rw [h.dead, h.fused]; rfl

theorem Og.start : Og [] DSt.zero := ⟨rfl, rfl, rfl, rfl⟩

theorem Og.more {ls : List (List UInt8)} {s : DSt} (h : Og ls s) (x : List UInt8) (hx : x ≠ []) : Og (ls ++ [x]) (s.add 0 x).2 := by
  rw [add_down h.down 0 (by omega)]
  show Og _ (s.lays 0 x)
  have e : s.lays 0 x = s.worked.push (.lay 0 x) := if_neg hx
  rw [e]
  exact ⟨h.base, by show s.ops ++ _ = _; rw [h.ops]; simp, h.fused, h.dead⟩

/-- What is left of laid bytes behind a crash. -/
def leftOf (ls : List (List UInt8)) (d : Nat) (cut : Int) : List UInt8 :=
  (ls.take d).flatten ++ (ls.getD d []).take (cut % (((ls.getD d []).length : Int) + 1)).toNat

theorem Og.crash {ls : List (List UInt8)} {s : DSt} (h : Og ls s) (d : Nat) (hd : d ≤ ls.length) (cut : Int) : (s.crash d cut).read 0 = leftOf ls d cut ∧ (s.crash d cut).now 0 = leftOf ls d cut := by
  have hl : s.ops.length = ls.length := by rw [h.ops]; simp
  have e : (s.crash d cut).base 0 = leftOf ls d cut := by
    unfold DSt.crash
    show crashed s.base s.ops _ cut 0 = _
    rw [hl, Int.emod_eq_of_lt (by omega) (by omega), Int.toNat_natCast, h.ops]
    unfold crashed leftOf
    rw [← List.map_take, acts_lays, h.base]
    by_cases hdl : d < ls.length
    · rw [List.getElem?_map, List.getElem?_eq_getElem hdl]
      simp [partOf, fput, List.getD_eq_getElem?_getD, List.getElem?_eq_getElem hdl]
    · obtain rfl : d = ls.length := by omega
      rw [List.getElem?_eq_none (by simp)]
      simp [fput, List.getD_eq_getElem?_getD]
  exact ⟨e, e⟩

theorem leftOf_prefix (ls : List (List UInt8)) (d : Nat) (cut : Int) : ∃ r, ls.flatten = leftOf ls d cut ++ r := by
  unfold leftOf
  by_cases hdl : d < ls.length
  · refine ⟨ls[d].drop (cut % ((ls[d].length : Int) + 1)).toNat ++ (ls.drop (d + 1)).flatten, ?_⟩
    have e : ls = ls.take d ++ (ls[d] :: ls.drop (d + 1)) := by rw [List.getElem_cons_drop]; simp
    have e2 : ls.flatten = (ls.take d).flatten ++ (ls[d] ++ (ls.drop (d + 1)).flatten) := by
      have e3 := congrArg List.flatten e
      rw [List.flatten_append, List.flatten_cons] at e3
      exact e3
    rw [e2, List.getD_eq_getElem?_getD, List.getElem?_eq_getElem hdl, Option.getD_some, List.append_assoc, ← List.append_assoc (List.take _ _), List.take_append_drop]
  · refine ⟨[], ?_⟩
    rw [List.take_of_length_le (by omega), List.getD_eq_getElem?_getD, List.getElem?_eq_none (by omega)]
    simp

theorem leftOf_le (ls : List (List UInt8)) (d : Nat) (cut : Int) : (ls.take d).flatten.length ≤ (leftOf ls d cut).length ∧ (leftOf ls d cut).length ≤ (ls.take (d + 1)).flatten.length ∧ (leftOf ls d cut).length ≤ ls.flatten.length := by
  obtain ⟨r, hr⟩ := leftOf_prefix ls d cut
  refine ⟨?_, ?_, ?_⟩
  · unfold leftOf
    rw [List.length_append]
    omega
  · by_cases hdl : d < ls.length
    · unfold leftOf
      rw [List.take_succ_eq_append_getElem hdl, List.flatten_append, List.length_append, List.length_append, List.getD_eq_getElem?_getD, List.getElem?_eq_getElem hdl, Option.getD_some, List.length_take]
      simp
      omega
    · rw [List.take_of_length_le (l := ls) (by omega), hr, List.length_append]
      omega
  · rw [hr, List.length_append]
    omega

theorem text_cat (a b : List UInt8) : (⟨a.toArray⟩ : ByteArray) ++ ⟨b.toArray⟩ = ⟨(a ++ b).toArray⟩ := by
  apply ByteArray.ext
  simp

theorem text_front (a b : List UInt8) : (ByteArray.mk (a ++ b).toArray).extract 0 a.length = ⟨a.toArray⟩ := by
  apply ByteArray.ext
  simp

theorem HeldI.cell {K : Nat → Prop} {w : World} {g n c j : Nat} {l : List Int} {x : Int} (h : HeldI K w (.slice (some ⟨g, 0, none⟩) n c) l) (hx : l[j]? = some x) : w.cell? ⟨g, j, none⟩ = some (.int .i64 x) := by
  rcases h.own.sees with ⟨h0, _⟩ | ⟨a, cap, e, _, _, hc⟩
  · simp at h0
  · simp only [Value.slice.injEq, Option.some.injEq] at e
    have := hc j (.int .i64 x) (by rw [i64s, List.getElem?_map, hx]; rfl)
    rw [← e.1, addr_lit, Nat.zero_add] at this
    exact this

/-- The bytes that some arguments lay. -/
def laidOf (l : List (Value × List UInt8)) (k : Nat) : List (List UInt8) := ((l.take k).map (·.2)).filter (fun x => !x.isEmpty)

theorem laidOf_skip (l : List (Value × List UInt8)) (k : Nat) (hk : k < l.length) (h : l[k].2 = []) : laidOf l (k + 1) = laidOf l k := by
  unfold laidOf
  rw [List.take_succ_eq_append_getElem hk, List.map_append, List.filter_append]
  simp [h]

theorem laidOf_more (l : List (Value × List UInt8)) (k : Nat) (hk : k < l.length) (h : l[k].2 ≠ []) : laidOf l (k + 1) = laidOf l k ++ [l[k].2] := by
  unfold laidOf
  rw [List.take_succ_eq_append_getElem hk, List.map_append, List.filter_append]
  simp [h]

theorem laidOf_le (l : List (Value × List UInt8)) (k : Nat) : (laidOf l k).length ≤ k := by
  unfold laidOf
  refine Nat.le_trans (List.length_filter_le _ _) ?_
  simp
  omega

theorem laidOf_sum (l : List (Value × List UInt8)) (hl : ∀ k (hk : k < l.length), l[k].2.length ≤ 1048576) : ∀ k, k ≤ l.length → (laidOf l k).flatten.length ≤ k * 1048576
  | 0, _ => by simp [laidOf]
  | k + 1, hk => by
    have ih := laidOf_sum l hl k (Nat.le_of_succ_le hk)
    have h2 := hl k hk
    rw [Nat.succ_mul]
    by_cases hx : l[k].2 = []
    · rw [laidOf_skip l k hk hx]
      exact Nat.le_trans ih (Nat.le_add_right _ _)
    · rw [laidOf_more l k hk hx, List.flatten_append, List.length_append, List.flatten_cons, List.flatten_nil, List.append_nil]
      exact Nat.add_le_add ih h2

/-- Where the loop is. -/
structure At5 (w : World) (K : Nat → Prop) (wr : World) (b k : Nat) (l : List (Value × List UInt8)) (s : DSt) (ev : Value) : Prop where
  dl : DL w K wr b k s
  og : Og (laidOf l k) s
  ends : HeldI K wr ev (endsOf (laidOf l k))

set_option maxHeartbeats 8000000 in
set_option maxRecDepth 100000 in
theorem diskOrder_any (lv : Value) (l : List (Value × List UInt8)) (d0 cut : Int) (w : World) (hl : ListAt w w.heap.size lv l) (hbig : ∀ k (hk : k < l.length), l[k].2.length ≤ 1048576) :
    Calls Try.prog 5 #[lv, .int .i64 d0, .int .i64 cut] w fun e w' => e = .returned (.bool true) ∧ Turn (fun _ => False) w w' := by
  have qT : ∀ (w : World) {v : Value} {bs : List UInt8}, Sees w v bs → (convert 27 9 v).run Try.prog w = .ok (.string ⟨bs.toArray⟩) w := fun w _ _ h => run_text_of_sees w _ _ Try.underlying27 Try.underlying5 Try.underlying9 h
  have QT := hide qT
  clear qT
  obtain ⟨lo, lc, hlv, hlm⟩ := hl.shape
  unfold maxLen at hlm
  subst hlv
  have Hl := hide hl
  clear hl
  go_enter Try.func5, Try.ntmps5
  go_wp2_with fail
  refine (dl_new (w0 := w) (K := fun _ => False) (fun _ h => h.elim) (Turn.refl _ w)).mono ?_
  rintro e w1 ⟨rfl, h1, _⟩
  obtain ⟨b, hb⟩ : ∃ b, b = w.heap.size := ⟨_, rfl⟩
  rw [← hb] at h1 ⊢
  clear hb
  go_wp2_with fail
  refine (known_any w1).mono ?_
  rintro e w2 ⟨rfl, t2⟩
  have h2 := h1.new t2
  clear h1 t2
  generalize grow (fun _ => False) w1 w2 = K at h2
  have H2 := hide h2
  clear h2
  go_wp2_with fail
  go_loopw [8, 9, 10, 11] (fun all n ends i wr => ∃ (k : Nat) (K : Nat → Prop) (s : DSt), k ≤ 20 ∧ k ≤ l.length ∧ i = .int .i64 k ∧ n = .int .i64 (laidOf l k).length ∧ all = .string ⟨(laidOf l k).flatten.toArray⟩ ∧ At5 w K wr b k l s ends) (fun _ _ _ i _ => (20 - intOf i).toNat)
  case atStart => exact ⟨0, K, _, by omega, by omega, rfl, rfl, rfl, unhide H2, Og.start, ⟨OwnsC.nil _ _, fun k hk => by simp [Value.ownBlock] at hk⟩⟩
  case round =>
    clear H2
    obtain ⟨k, K, s, hk, hkl, rfl, rfl, rfl, h5⟩ := hrel
    by_cases hlt : k < l.length ∧ k < 20
    · obtain ⟨la, rfl, hcell, hsee, hsl, _⟩ := ((unhide Hl).kept h5.dl.turn (Nat.le_refl _) (fun _ _ h => h)).at k hlt.1
      obtain ⟨xo, xc, hxe⟩ := hsee.shape
      rw [hxe] at hcell hsee hsl
      have hxm := hsee.len
      unfold maxLen at hxm
      have q1 : (k : Int) < l.length := by omega
      have q2 : (k : Int) < 20 := by omega
      by_cases hx : l[k].2 = []
      · have hsk := laidOf_skip l k hlt.1 hx
        rw [hx] at hcell
        have H5 := hide h5
        have Hsk := hide hsk
        clear h5 hsk hx hsee hsl hxe hxm
        go_wp2
        refine ⟨⟨k + 1, K, s, by omega, by omega, by go_num, by rw [unhide Hsk], by rw [unhide Hsk], (unhide H5).dl.mono (by omega), ?_, ?_⟩, by simp [intOf]; omega⟩
        · rw [unhide Hsk]; exact (unhide H5).og
        · rw [unhide Hsk]; exact (unhide H5).ends
      · have hx0 : 0 < l[k].2.length := Nat.pos_of_ne_zero fun e => hx (List.eq_nil_of_length_eq_zero e)
        have hx1 : ¬ (l[k].2.length : Int) = 0 := by omega
        have hx2 : ((l[k].2.length : Int) == 0) = false := by simpa using hx1
        have hmr := laidOf_more l k hlt.1 hx
        have hsum := laidOf_sum l hbig (k + 1) (by omega)
        have hln := laidOf_le l k
        rw [hmr, List.flatten_append, List.length_append, List.flatten_cons, List.flatten_nil, List.append_nil] at hsum
        have hog := h5.og.more l[k].2 hx
        rw [← hmr] at hog
        have hnow := h5.og.now
        have hfl2 : (laidOf l (k + 1)).flatten = (laidOf l k).flatten ++ l[k].2 := by rw [hmr]; simp
        have hen2 : endsOf (laidOf l (k + 1)) = endsOf (laidOf l k) ++ [((laidOf l k).flatten.length + l[k].2.length : Int)] := by rw [hmr, endsOf_snoc, ← hmr, hfl2, List.length_append]; simp
        have hln2 : (laidOf l (k + 1)).length = (laidOf l k).length + 1 := by rw [hmr]; simp
        generalize hfl : (laidOf l k).flatten = fl at *
        have hs2 : fl.length + l[k].2.length ≤ 1073741824 := by omega
        have hcall := dl_append 0 _ l[k].2 h5.dl hsee (fun h0 j hj => .inl (hsl h0 j hj)) (by omega) (by rw [hnow]; omega)
        have Hcall := hide hcall
        have Hog := hide (And.intro hog (And.intro hfl2 (And.intro hen2 hln2)))
        have Hends := hide h5.ends
        have hel : (endsOf (laidOf l k)).length = (laidOf l k).length := endsOf_length _
        generalize (laidOf l k).length = n at *
        generalize endsOf (laidOf l k) = es at *
        clear hcall hog hmr hsum h5 hx hfl hnow hfl2 hen2 hln2 hsee hsl
        go_wp2_with fail
        refine (unhide Hcall).mono ?_
        rintro e w5 ⟨rfl, h6, t6⟩
        have hends := (unhide Hends).disk t6
        obtain ⟨la', hla, hcell6, hsee6, _, _⟩ := ((unhide Hl).kept h6.turn (Nat.le_refl _) (fun _ _ h => h)).at k hlt.1
        injection hla with hla
        subst hla
        rw [hxe] at hcell6 hsee6
        have hcv := unhide QT _ hsee6
        have hsz : (ByteArray.mk fl.toArray).size = fl.length := by simp [ByteArray.size]
        have hsz1 : (ByteArray.mk l[k].2.toArray).size = l[k].2.length := by simp [ByteArray.size]
        have hsz2 : (ByteArray.mk (fl ++ l[k].2).toArray).size = fl.length + l[k].2.length := by simp [ByteArray.size]
        have hct := text_cat fl l[k].2
        have hevs : ∃ eo ec, u10 = .slice eo n ec := by
          rcases hends.own.shape with ⟨h0, h1⟩ | ⟨g, cap, h0, _⟩
          · have : n = 0 := by rw [← hel, ← i64s_length, h1]; rfl
            exact ⟨none, 0, by rw [h0, this]⟩
          · exact ⟨_, _, by rw [h0, i64s_length, hel]⟩
        obtain ⟨eo, ec, hev⟩ := hevs
        have ta : Turn (fun _ => False) w5 (w5.alloc (.cells #[.int .i64 ((fl.length : Int) + l[k].2.length)] 3)) := (Turn.refl _ _).alloc _
        have hA := At.new 3 w5 #[.int .i64 ((fl.length : Int) + l[k].2.length)]
        obtain ⟨v9, w9, hr, ho, hg, hkk⟩ := append_one _ _ _ ((fl.length : Int) + l[k].2.length) _ (hends.own.kept ta (fun _ _ h => h)) hA (by omega)
        have h7 := h6.new ta
        have h9 := h7.hold (((Turn.refl (grow K w5 (w5.alloc (.cells #[.int .i64 ((fl.length : Int) + l[k].2.length)] 3))) _).grown hg (fun j hj => .inl (.inl (hends.mem j hj)))))
        have hheld : HeldI (grow (grow K w5 (w5.alloc (.cells #[.int .i64 ((fl.length : Int) + l[k].2.length)] 3))) (w5.alloc (.cells #[.int .i64 ((fl.length : Int) + l[k].2.length)] 3)) w9) w9 v9 (es ++ [(fl.length : Int) + l[k].2.length]) := ⟨ho, fun j hj => by
          rcases hkk with hkk | hkk
          · rw [hkk] at hj
            exact .inl (.inl (hends.mem j hj))
          · have := ho.lt hj
            rw [hkk] at hj
            injection hj with hj
            exact .inr ⟨by omega, this⟩⟩
        have hv9 : ∃ eo ec, v9 = .slice eo (n + 1) ec := by
          rcases ho.shape with ⟨h0, h1⟩ | ⟨g, cap, h0, _⟩
          · have := congrArg List.length h1
            rw [i64s_length] at this
            simp at this
          · exact ⟨_, _, by rw [h0, i64s_length, List.length_append, hel]; rfl⟩
        obtain ⟨eo9, ec9, hv9⟩ := hv9
        subst hev hv9
        have hfin : At5 w _ w9 b (k + 1) l _ _ := ⟨h9, (unhide Hog).1, by rw [(unhide Hog).2.2.1]; exact hheld⟩
        have Hfin := hide hfin
        have Hr := hide hr
        clear hfin hr hheld ho hg hkk h9 h7 hA ta hends h6 t6 hsee6 Hcall Hends hel
        go_wp2_with (at_builtin; refine wpList_append_run rfl (.tmp 53) (.tmp 56) 28 rfl _ _ _ w9 rfl rfl (unhide Hr) ?_)
        exact ⟨⟨k + 1, _, _, by omega, by omega, by go_num, by rw [(unhide Hog).2.2.2]; go_num, by rw [(unhide Hog).2.1], unhide Hfin⟩, by simp [intOf]; omega⟩
    · have hln := laidOf_le l k
      have hsum := laidOf_sum l hbig k (by omega)
      have hog := h5.og
      have hol : s.ops.length = (laidOf l k).length := by rw [hog.ops]; simp
      have hel : (endsOf (laidOf l k)).length = (laidOf l k).length := endsOf_length _
      have hevs : ∃ eo ec, u10 = .slice eo (laidOf l k).length ec := by
        rcases h5.ends.own.shape with ⟨h0, h1⟩ | ⟨g, cap, h0, _⟩
        · have : (laidOf l k).length = 0 := by rw [← hel, ← i64s_length, h1]; rfl
          exact ⟨none, 0, by rw [h0, this]⟩
        · exact ⟨_, _, by rw [h0, i64s_length, hel]⟩
      obtain ⟨eo, ec, hev⟩ := hevs
      subst hev
      obtain ⟨d, hd⟩ : ∃ d : Nat, (d : Int) = d0 % (((laidOf l k).length : Int) + 1) := ⟨(d0 % (((laidOf l k).length : Int) + 1)).toNat, by have := Int.emod_nonneg d0 (show ((laidOf l k).length : Int) + 1 ≠ 0 by omega); omega⟩
      have hdn : d ≤ (laidOf l k).length := by have := Int.emod_lt_of_pos d0 (show 0 < ((laidOf l k).length : Int) + 1 by omega); omega
      obtain ⟨hrd, hnw⟩ := hog.crash d hdn cut
      obtain ⟨rr, hpre⟩ := leftOf_prefix (laidOf l k) d cut
      obtain ⟨le1, le2, le3⟩ := leftOf_le (laidOf l k) d cut
      have hlb : ∀ k' bs, DOp.lay k' bs ∈ s.ops → bs.length ≤ 140737488355328 := by
        intro k' bs hm
        rw [hog.ops] at hm
        obtain ⟨x, hx, e⟩ := List.mem_map.1 hm
        injection e with e1 e2
        subst e2
        have : x.length ≤ (laidOf l k).flatten.length := by
          obtain ⟨p, q, hpq⟩ := List.append_of_mem hx
          rw [hpq, List.flatten_append, List.flatten_cons, List.length_append, List.length_append]
          omega
        omega
      have hcrash := dl_crash d cut h5.dl (by omega) hlb
      have hpend := dl_pending h5.dl
      rw [hol] at hpend
      have hend1 : ∀ j, j < (laidOf l k).length → (endsOf (laidOf l k))[j]? = some (((laidOf l k).take (j + 1)).flatten.length : Int) := endsOf_at _
      have ends0 := h5.ends
      have hpop : (s.crash d cut).ops.length = 0 := rfl
      generalize s.crash d cut = s5 at *
      generalize leftOf (laidOf l k) d cut = lf at *
      generalize hfl : (laidOf l k).flatten = fl at *
      have hg1 : ∀ j, j ≤ (laidOf l k).length → ∃ m : Nat, ((laidOf l k).take j).flatten.length = m := fun j _ => ⟨_, rfl⟩
      obtain ⟨m0, hm0⟩ := hg1 d hdn
      obtain ⟨m1, hm1⟩ : ∃ m : Nat, ((laidOf l k).take (d + 1)).flatten.length = m := ⟨_, rfl⟩
      rw [hm0] at le1
      rw [hm1] at le2
      have hE1 : d < (laidOf l k).length → (endsOf (laidOf l k))[d]? = some (m1 : Int) := fun h => by rw [hend1 d h, hm1]
      have hE0 : 0 < d → (endsOf (laidOf l k))[d - 1]? = some (m0 : Int) := fun h => by rw [hend1 (d - 1) (by omega), Nat.sub_add_cancel h, hm0]
      have hz0 : d = 0 → m0 = 0 := fun h => by rw [← hm0, h]; simp
      have hz1 : ¬ d < (laidOf l k).length → m1 = fl.length := fun h => by rw [← hm1, ← hfl, List.take_of_length_le (by omega)]
      generalize laidOf l k = ls at *
      have HD := hide hd
      have HR := hide (And.intro hrd hnw)
      have HC := hide hcrash
      have HP := hide hpend
      have HE := hide (And.intro ends0 (And.intro hE1 hE0))
      have Hpre := hide hpre
      have Hz := hide (And.intro hz0 hz1)
      have Hpop := hide hpop
      clear hd hrd hnw hcrash hpend ends0 hE1 hE0 hpre hz0 hz1 hend1 h5 hog hol hel hg1 hm0 hm1 hfl hlb hpop
      have hfs : fl.length ≤ 1073741824 := by omega
      have hsz : (ByteArray.mk fl.toArray).size = fl.length := by simp [ByteArray.size]
      have hsz1 : (ByteArray.mk lf.toArray).size = lf.length := by simp [ByteArray.size]
      generalize ls.length = n at *
      have hext : (ByteArray.mk fl.toArray).extract 0 lf.length = ⟨lf.toArray⟩ := by rw [unhide Hpre]; exact text_front lf rr
      have hnl : ¬ fl.length < lf.length := by omega
      have hnn : ((n : Int) != (n : Int)) = false := by simp
      have hcase : (d = 0 ∧ n = 0) ∨ (d = 0 ∧ 0 < n) ∨ (∃ e, d = e + 1 ∧ e + 1 < n) ∨ (∃ e, d = e + 1 ∧ n = e + 1) := by
        rcases Nat.eq_zero_or_pos d with h0 | h0
        · rcases Nat.eq_zero_or_pos n with h1 | h1
          · exact .inl ⟨h0, h1⟩
          · exact .inr (.inl ⟨h0, h1⟩)
        · by_cases h1 : d < n
          · exact .inr (.inr (.inl ⟨d - 1, by omega, by omega⟩))
          · exact .inr (.inr (.inr ⟨d - 1, by omega, by omega⟩))
      have hexit : ((k : Int) < l.length ∧ ¬ (k : Int) < 20) ∨ ¬ (k : Int) < l.length := by omega
      have Hcase := hide hcase
      clear hcase hlt hsum
      rcases hexit with ⟨x1, x2⟩ | x1
      all_goals (
        go_wp2_with fail
        refine (unhide HP).mono ?_
        rintro e w6 ⟨rfl, rfl⟩
        go_wp2_with fail
        refine (pick_any d0 ((n : Int) + 1) _ (by omega) (by omega)).mono ?_
        rintro e w6 ⟨rfl, rfl⟩
        rw [← unhide HD]
        go_wp2_with fail
        refine (unhide HC).mono ?_
        rintro e w6 ⟨rfl, h6, t6⟩
        have ends6 := (unhide HE).1.disk t6
        have H6 := hide h6
        have HE6 := hide ends6
        clear h6 ends6 t6
        go_wp2_with fail
        refine (dl_read 0 (unhide H6) (by omega) (by rw [(unhide HR).2]; omega)).mono ?_
        rintro e w7 ⟨v7, rfl, m7, h7⟩
        rw [(unhide HR).1] at m7
        have ends7 := (unhide HE6).new m7.2.1
        have hcv := unhide QT _ m7.1.sees
        obtain ⟨o7, c7, rfl⟩ := m7.1.shape
        have H7 := hide h7
        have HE7 := hide ends7
        have hE := (unhide HE).2
        have hZ := unhide Hz
        have hfs1 : lf.length ≤ 1073741824 := by omega
        clear m7 h7 ends7
        rcases unhide Hcase with ⟨rfl, rfl⟩ | ⟨rfl, hn0⟩ | ⟨e, rfl, hn0⟩ | ⟨e, rfl, rfl⟩
        · have z0 := hZ.1 rfl
          have z1 := hZ.2 (by omega)
          subst z0 z1
          clear hE hZ
          go_wp2_with fail
          refine (dl_pending (unhide H7)).mono ?_
          rintro e w8 ⟨rfl, rfl⟩
          rw [unhide Hpop]
          go_wp2
          go_ret
          exact ⟨rfl, (unhide H7).turn⟩
        · have z0 := hZ.1 rfl
          have e1 := hE.1 hn0
          subst z0
          obtain ⟨g, hg⟩ : ∃ g, eo = some ⟨g, 0, none⟩ := by
            rcases (unhide HE7).own.shape with ⟨h0, _⟩ | ⟨g, cap, h0, _⟩
            · simp at h0; omega
            · simp at h0; exact ⟨g, h0.1⟩
          subst hg
          have r1 : w7.cell? ⟨g, 0, none⟩ = some (.int .i64 m1) := (unhide HE7).cell e1
          clear hE hZ e1
          go_wp2_with fail
          refine (dl_pending (unhide H7)).mono ?_
          rintro e w8 ⟨rfl, rfl⟩
          rw [unhide Hpop]
          go_wp2
          go_ret
          exact ⟨rfl, (unhide H7).turn⟩
        · have e0 := hE.2 (by omega)
          have e1 := hE.1 hn0
          obtain ⟨g, hg⟩ : ∃ g, eo = some ⟨g, 0, none⟩ := by
            rcases (unhide HE7).own.shape with ⟨h0, _⟩ | ⟨g, cap, h0, _⟩
            · simp at h0; omega
            · simp at h0; exact ⟨g, h0.1⟩
          subst hg
          have r1 : w7.cell? ⟨g, e + 1, none⟩ = some (.int .i64 m1) := (unhide HE7).cell e1
          have r0 : w7.cell? ⟨g, e, none⟩ = some (.int .i64 m0) := (unhide HE7).cell (show (endsOf ls)[e]? = some (m0 : Int) from e0)
          have x3 : (e : Int) + 1 < n := by omega
          clear hE hZ e0 e1
          go_wp2_with fail
          refine (dl_pending (unhide H7)).mono ?_
          rintro e w8 ⟨rfl, rfl⟩
          rw [unhide Hpop]
          go_wp2
          go_ret
          exact ⟨rfl, (unhide H7).turn⟩
        · have e0 := hE.2 (by omega)
          have z1 := hZ.2 (by omega)
          subst z1
          obtain ⟨g, hg⟩ : ∃ g, eo = some ⟨g, 0, none⟩ := by
            rcases (unhide HE7).own.shape with ⟨h0, _⟩ | ⟨g, cap, h0, _⟩
            · simp at h0
            · simp at h0; exact ⟨g, h0.1⟩
          subst hg
          have r0 : w7.cell? ⟨g, e, none⟩ = some (.int .i64 m0) := (unhide HE7).cell (show (endsOf ls)[e]? = some (m0 : Int) from e0)
          clear hE hZ e0
          go_wp2_with fail
          refine (dl_pending (unhide H7)).mono ?_
          rintro e w8 ⟨rfl, rfl⟩
          rw [unhide Hpop]
          go_wp2
          go_ret
          exact ⟨rfl, (unhide H7).turn⟩)

end Go.Proofs.Ytnojedjdnecagaa
