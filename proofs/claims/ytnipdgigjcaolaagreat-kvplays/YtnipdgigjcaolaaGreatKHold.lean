/- The law's holds: has a Store just these pairs? -/
import Derived.Test.YtnipdgigjcaolaaGreatKWith
import Derived.Test.YtnipdgigjcaolaaGreatPkT
namespace Go.Proofs.YtnipdgigjcaolaaGreat
open Go.RowKit Go.Maps

theorem ranges_turn {S : Nat → Prop} {w w' : World} {b r n : Nat} {D : DataW Value} {left : Lit → Bool} {cnt : Nat} (h : w.ranges Tryz.prog 9 heldV b r n D left cnt) (t : Turn S w w') (hb' : ¬ S b) (hr' : ¬ S r) : w'.ranges Tryz.prog 9 heldV b r n D left cnt := by
  have h1 := h.owns.lt
  have h2 := h.lt
  obtain ⟨es, clock, since, seen, c0, hb, F, hs, hD, hr, rest⟩ := h
  exact ⟨es, clock, since, seen, c0, (t.block b h1 hb').trans hb, F, hs, hD, (t.block r h2 hr').trans hr, rest⟩

/-- Where the look stands. -/
structure Hld (w wr : World) (nb r n : Nat) (m now : List (List UInt8 × List UInt8)) (D0 : DataW Value) (left : Lit → Bool) (cnt : Nat) (ss : List (List UInt8)) : Prop where
  rg : wr.ranges Tryz.prog 9 heldV nb r n D0 left cnt
  turn : Turn (fun _ => False) w wr
  col : Collected D0 left ss
  rl : w.heap.size ≤ r
  lt : r < wr.heap.size
  eqs : ∀ x ∈ ss, kget x m = kget x now

/-- What holds comes to. -/
def HoldTo (w : World) (m now : List (List UInt8 × List UInt8)) (e : Ending) (w' : World) : Prop := ∃ b : Bool, e = .returned (.bool b) ∧ (b = true ↔ m = now) ∧ Turn (fun _ => False) w w'

set_option maxHeartbeats 8000000 in
set_option maxRecDepth 100000 in
theorem holds_any {K : Nat → Prop} {w : World} {sb mb l nb : Nat} {m now : List (List UInt8 × List UInt8)} (h : KR K w sb mb l m) (hris : risingK m) (h2 : MSt w nb now) (hk : ∀ p ∈ now, p.1.length ≤ 1099511627776) :
    Calls Tryz.prog 45 #[.pointer (some ⟨sb, 0, none⟩), .map (some nb)] w (HoldTo w m now) := by
  have hris2 := h2.rising
  obtain ⟨D0, hD0⟩ : ∃ D0, D0 = DataW.map (datM (now.map (snd1 encStr))) := ⟨_, rfl⟩
  have hown := h2.map
  rw [← hD0] at hown
  have hsz : Maps.size D0 = now.length := by rw [hD0, Maps.size_eq, datM_length, List.length_map]
  have hkeys : strKeys D0 = now.map (·.1) := by
    rw [hD0]
    show (datM _).map _ = _
    unfold datM
    simp [List.map_map, Function.comp_def, snd1, strOf]
  have hlen := h2.len
  have H := hide h
  have Hris := hide hris
  have Hris2 := hide hris2
  have Hk := hide hk
  have Hkeys := hide hkeys
  have HD0 := hide hD0
  have Hown := hide hown
  have HC := hide (kcount_any h)
  obtain ⟨n, hn⟩ : ∃ n, n = now.length := ⟨_, rfl⟩
  obtain ⟨ml, hmle⟩ : ∃ ml, ml = m.length := ⟨_, rfl⟩
  rw [← hn] at Hown hsz hlen
  rw [← hmle] at HC
  have Hn := hide hn
  have Hm := hide hmle
  have Hsz := hide hsz
  clear h hris h2 hk hris2 hD0 hown hsz hkeys hn hmle
  by_cases hq : ml = n
  · have q1 : ((ml : Int) != (n : Int)) = false := by simp [hq]
    go_enter Tryz.func45, Tryz.ntmps45
    go_wp2_with fail
    refine (unhide HC).mono ?_
    rintro e w1 ⟨rfl, rfl⟩
    clear HC
    go_wp2_with (first
      | (at_range; refine wpList_range_own _ rfl _ 76 rfl 9 9 keyedS Tryz.underlying76 _ nb n _ rfl (unhide Hown) ?_; intro w2 hrg2 hg2 hs2)
      | go_in)
    go_frame
    clear hlen
    have t2 : Turn (fun _ => False) w w2 := (Turn.refl _ _).grown hg2 (fun k hk => by cases hk)
    have Hs : Hid (Hld w w2 nb w.heap.size n m now D0 (Maps.has D0) (Maps.size D0) []) := hide ⟨hrg2, t2, Collected.start D0, Nat.le_refl _, by omega, by simp⟩
    clear t2 hrg2 hg2 hs2
    go_loopw [5, 6] (fun _ _ wr => ∃ (left : Lit → Bool) (cnt : Nat) (ss : List (List UInt8)), Hld w wr nb w.heap.size n m now D0 left cnt ss) (fun _ _ wr => wr.rangeLeft nb w.heap.size)
    case atStart => exact ⟨_, _, [], unhide Hs⟩
    case round =>
      clear Hs
      obtain ⟨left, cnt, ss, hk⟩ := hrel
      have hrg := hk.rg
      have HK := hide hk
      clear hk
      go_wp2_with (first
        | (at_next; refine wpList_next_ranges _ rfl _ rfl 9 keyedS heldV encStr (fun v : Value => v) (fun key kl hk => by obtain ⟨x, hx, _⟩ := Maps.keyOf_str Tryz.underlying9 hk; exact ⟨x, hx⟩) (fun v y _ => ⟨v, rfl⟩) nb w.heap.size n _ _ _ rfl hrg ?_ ?_)
        | go_in)
      · intro hc0 hl0
        have hperm : ss.Perm (now.map (·.1)) := by
          rw [← unhide Hkeys]
          exact (unhide HK).col.perm hrg.owns keyedS Tryz.underlying9 hl0
        have hmn : m = now := rising_same (unhide Hris) (unhide Hris2) (by have := unhide Hn; have := unhide Hm; omega) (fun p hp => by
          rw [(unhide HK).eqs p.1 (hperm.mem_iff.2 (List.mem_map.2 ⟨p, hp, rfl⟩))]
          exact rising_mem (unhide Hris2) hp)
        have Hfin := hide (And.intro hmn (unhide HK).turn)
        clear hperm hmn hrg hl0 HK
        go_wp2
        go_ret
        exact ⟨true, rfl, by simp [(unhide Hfin).1], (unhide Hfin).2⟩
      · intro x c kl yd yp w2 cnt2 hkey hlk hv hat hrg2 hlt hg2 hs2 hen
        obtain ⟨x', ex, rfl, hxl⟩ := Maps.keyOf_str Tryz.underlying9 hkey
        obtain rfl : x = x' := encStr_inj ex
        have hce := enc_val (unhide HD0) hv hat
        have hk := unhide HK
        have t2 : Turn (fun j => j = w.heap.size) wr w2 := (Turn.refl _ _).grown hg2 (fun j hj => by injection hj with hj; exact .inl hj.symm)
        have tw : Turn (fun _ => False) w w2 := hk.turn.trans' t2 (fun i hi e => by omega)
        have hcol := hk.col.step hlk hat
        have hin : ∃ val, kget x now = some val := by
          have h1 := ((hcol.2 x).1 (by simp)).1
          rw [unhide HD0, datM_has, kget_map] at h1
          cases hg : kget x now with
          | none => rw [hg] at h1; cases h1
          | some v => exact ⟨v, rfl⟩
        obtain ⟨val, hval⟩ := hin
        rw [hval] at hce
        simp only [Option.getD_some] at hce
        have hxs : (⟨x.toArray⟩ : ByteArray).data.toList = x := by simp
        have hxk : x.length ≤ 1099511627776 := unhide Hk _ (kget_mem hval)
        have HG := hide (kget_any ((unhide H).kept tw (fun _ _ e => e)) ⟨x.toArray⟩ (by simpa [ByteArray.size] using hxk))
        rw [hxs] at HG
        have hmeas : ∀ wz : World, wz.ranges Tryz.prog 9 heldV nb w.heap.size n D0 (fun z => left z && !z.sameKey (.string x)) cnt2 → wz.rangeLeft nb w.heap.size < wr.rangeLeft nb w.heap.size := fun wz hz => by
          rw [hz.left_eq, hrg.left_eq]
          exact hlt
        have Hmeas := hide hmeas
        have Hgo : Hid (kget x m = some val → ∀ w3, Turn (fun _ => False) w2 w3 → Hld w w3 nb w.heap.size n m now D0 (fun z => left z && !z.sameKey (.string x)) cnt2 (ss ++ [x])) := hide (fun he w3 t3 => ⟨ranges_turn hrg2 t3 (fun e => e) (fun e => e), tw.trans t3, hcol, Nat.le_refl _, by have := hk.lt; have := t2.size; have := t3.size; omega, fun y hy => by
          rcases List.mem_append.1 hy with hy | hy
          · exact hk.eqs y hy
          · rw [List.mem_singleton.1 hy, he, hval]⟩)
        have Hno : Hid (kget x m ≠ some val → ¬ m = now) := hide (fun hne e => hne (by rw [e]; exact hval))
        have Tw := hide tw
        subst hce
        clear hs2 hrg hrg2 hat hlk hkey ex hv hg2 t2 hk tw hcol hmeas hlt hxl hxk hval HK
        cases hg : kget x m with
        | none =>
          rw [hg] at HG
          have hm := unhide Hno (by rw [hg]; simp)
          clear hg
          go_wp2_with fail
          refine (unhide HG).mono ?_
          rintro e w3 ⟨v3, rfl, hm3⟩
          obtain ⟨o3, c3, e3⟩ := hm3.1.shape
          simp only [Option.getD_none, List.length_nil] at e3
          have T3 := hide ((unhide Tw).trans hm3.2.1)
          subst e3
          clear hm3 HG
          go_wp2
          go_ret
          exact ⟨false, rfl, by simp [hm], unhide T3⟩
        | some u =>
          rw [hg] at HG
          simp only [Option.getD_some] at HG
          by_cases huv : u = val
          · subst huv
            have hgo := unhide Hgo hg
            have Hg := hide hgo
            clear hg hgo
            have q2 : (u == u) = true := by simp
            go_wp2_with fail
            refine (unhide HG).mono ?_
            rintro e w3 ⟨v3, rfl, hm3⟩
            have cv := run_text_of_sees (P := Tryz.prog) w3 29 9 Tryz.underlying29 Tryz.underlying5 Tryz.underlying9 hm3.1.sees
            obtain ⟨o3, c3, e3⟩ := hm3.1.shape
            have H3 := hide (unhide Hg w3 hm3.2.1)
            generalize u.length = ul at *
            subst e3
            clear hm3 HG
            go_wp2
            go_roundw
            case rel => exact ⟨_, cnt2, _, unhide H3⟩
            case measure => exact unhide Hmeas _ (unhide H3).rg
          · have hm := unhide Hno (by rw [hg]; simpa using huv)
            have q2 : (u == val) = false := by simp [huv]
            clear hg
            go_wp2_with fail
            refine (unhide HG).mono ?_
            rintro e w3 ⟨v3, rfl, hm3⟩
            have cv := run_text_of_sees (P := Tryz.prog) w3 29 9 Tryz.underlying29 Tryz.underlying5 Tryz.underlying9 hm3.1.sees
            obtain ⟨o3, c3, e3⟩ := hm3.1.shape
            have T3 := hide ((unhide Tw).trans hm3.2.1)
            generalize u.length = ul at *
            subst e3
            clear hm3 HG
            go_wp2
            go_ret
            exact ⟨false, rfl, by simp [hm], unhide T3⟩
  · have q1 : ((ml : Int) != (n : Int)) = true := by simp; omega
    have hne : ¬ m = now := fun e => hq (by rw [unhide Hn, unhide Hm, e])
    go_enter Tryz.func45, Tryz.ntmps45
    go_wp2_with fail
    refine (unhide HC).mono ?_
    rintro e w1 ⟨rfl, rfl⟩
    go_wp2
    go_ret
    exact ⟨false, rfl, by simp [hne], Turn.refl _ _⟩

end Go.Proofs.YtnipdgigjcaolaaGreat
