/- The law's with: a map laid anew, with changes made. -/
import Derived.Test.YtnipdgigjcaolaaGreatKSet
namespace Go.Proofs.YtnipdgigjcaolaaGreat
open Go.RowKit Go.Maps

/-- Where the copying stands. -/
structure Wth (w wr : World) (nb ob r n : Nat) (m : List (List UInt8 × List UInt8)) (D0 : DataW Value) (left : Lit → Bool) (cnt : Nat) (ss : List (List UInt8)) : Prop where
  rg : wr.ranges Tryz.prog 9 heldV nb r n D0 left cnt
  cs : ss.length + cnt ≤ n
  out : MSt wr ob (copyK m ss)
  len : (copyK m ss).length ≤ ss.length
  turn : Turn (fun _ => False) w wr
  col : Collected D0 left ss
  ol : w.heap.size ≤ ob
  rl : w.heap.size ≤ r
  ne : ob ≠ r
  le : ∀ x ∈ ss, x.length ≤ maxLen

theorem enc_val {m : List (List UInt8 × List UInt8)} {D0 : DataW Value} (hD : D0 = DataW.map (datM (m.map (snd1 encStr)))) {x : List UInt8} {c : Value} {y : DataW Value × List MemPlace} (hv : heldV c = some y) (hat : ∀ zd, D0.atKey (.string x) zd = y.1) : c = encStr ((kget x m).getD []) := by
  have h1 := hat (.held (encStr []))
  rw [hD, datM_at, kget_map] at h1
  unfold heldV at hv
  injection hv with hv
  rw [← hv] at h1
  injection h1 with h1
  rw [← h1]
  cases kget x m <;> rfl

set_option maxHeartbeats 8000000 in
set_option maxRecDepth 100000 in
theorem with_any {Q : Nat → Prop} {w : World} {nb : Nat} {m : List (List UInt8 × List UInt8)} (lv : Value) (cl : List (Value × Chg)) (h : MSt w nb m) (hl : CLs Q w lv cl) (hQ : ∀ j, Q j → j < w.heap.size) (hm : m.length ≤ 100000) (hc : cl.length ≤ 1000) :
    Calls Tryz.prog 44 #[.map (some nb), lv] w fun e w' => ∃ ob, e = .returned (.map (some ob)) ∧ MSt w' ob ((cl.map (·.2)).foldl turnC m) ∧ Turn (fun _ => False) w w' ∧ w.heap.size ≤ ob := by
  obtain ⟨lo, lc, hle, _⟩ := hl.shape
  have Hl := hide hl
  have Hnb := hide h.lt
  have Hle := hide hle
  have hris := h.rising
  obtain ⟨D0, hD0⟩ : ∃ D0, D0 = DataW.map (datM (m.map (snd1 encStr))) := ⟨_, rfl⟩
  obtain ⟨w1, hw1⟩ : ∃ w1, w1 = w.alloc (.map #[] 0) := ⟨_, rfl⟩
  have t1 : Turn (fun _ => False) w w1 := by rw [hw1]; exact (Turn.refl _ _).alloc _
  have ho1 : MSt w1 w.heap.size [] := by rw [hw1]; exact MSt.made w
  have h1 := h.kept t1 (fun e => e)
  have hown := h1.map
  rw [← hD0] at hown
  have hsz : Maps.size D0 = m.length := by rw [hD0, Maps.size_eq, datM_length, List.length_map]
  have hkeys : strKeys D0 = m.map (·.1) := by
    rw [hD0]
    show (datM _).map _ = _
    unfold datM
    simp [List.map_map, Function.comp_def, snd1, strOf]
  have Hris := hide hris
  have Hkeys := hide hkeys
  have HD0 := hide hD0
  have Hown := hide hown
  have H0 := hide (And.intro ho1 t1)
  have Hw1 := hide hw1
  have HQ := hide hQ
  have hwl : w.heap.size + 1 = w1.heap.size := by rw [hw1]; simp
  have Hwl := hide hwl
  have Hlen := hide hm
  obtain ⟨n, hn⟩ : ∃ n, n = m.length := ⟨_, rfl⟩
  rw [← hn] at Hown hsz Hlen
  have Hn := hide hn
  have Hsz := hide hsz
  obtain ⟨len, hlen⟩ : ∃ len, len = cl.length := ⟨_, rfl⟩
  have HLn := hide hlen
  rw [← hlen] at hle hc
  clear hl Hle h hris hkeys hD0 hown ho1 t1 hw1 hQ hwl hm hn h1 hsz hlen
  subst hle
  have hmm := run_makeMap (P := Tryz.prog) 76 w
  rw [← unhide Hw1] at hmm
  go_enter Tryz.func44, Tryz.ntmps44
  go_wp2_with (first
    | (at_range; refine wpList_range_own _ rfl _ 76 rfl 9 9 keyedS Tryz.underlying76 _ nb n _ rfl (unhide Hown) ?_; intro w2 hrg2 hg2 hs2)
    | go_in)
  go_frame
  clear hmm
  have t2 : Turn (fun _ => False) w1 w2 := (Turn.refl _ _).grown hg2 (fun k hk => by cases hk)
  have hstart : Wth w w2 nb w.heap.size w1.heap.size n m D0 (Maps.has D0) (Maps.size D0) [] := ⟨hrg2, by rw [unhide Hsz]; simp, (unhide H0).1.kept t2 (fun e => e), by simp [copyK], (unhide H0).2.trans t2, Collected.start D0, Nat.le_refl _, by have := unhide Hwl; omega, by have := unhide Hwl; omega, by simp⟩
  have Hs := hide hstart
  clear t2 hrg2 hg2 hs2 hstart
  go_loopw [6, 7] (fun _ _ wr => ∃ (left : Lit → Bool) (cnt : Nat) (ss : List (List UInt8)), Wth w wr nb w.heap.size w1.heap.size n m D0 left cnt ss) (fun _ _ wr => wr.rangeLeft nb w1.heap.size)
  case atStart => exact ⟨_, _, [], unhide Hs⟩
  case round =>
    clear Hs
    obtain ⟨left, cnt, ss, hk⟩ := hrel
    have hrg := hk.rg
    have Hk := hide hk
    clear hk
    go_wp2_with (first
      | (at_next; refine wpList_next_ranges _ rfl _ rfl 9 keyedS heldV encStr (fun v : Value => v) (fun key kl hk => by obtain ⟨x, hx, _⟩ := Maps.keyOf_str Tryz.underlying9 hk; exact ⟨x, hx⟩) (fun v y _ => ⟨v, rfl⟩) nb w1.heap.size n _ _ _ rfl hrg ?_ ?_)
      | go_in)
    · intro hc0 hl0
      have hperm : ss.Perm (m.map (·.1)) := by
        rw [← unhide Hkeys]
        exact (unhide Hk).col.perm hrg.owns keyedS Tryz.underlying9 hl0
      have hcopy : copyK m ss = m := copyK_all (unhide Hris) (unhide Hk).out.rising hperm
      have hout := (unhide Hk).out
      rw [hcopy] at hout
      have Hout := hide (And.intro hout (And.intro (unhide Hk).turn (unhide Hk).ol))
      clear hperm hcopy hout hrg hl0 Hk
      go_wp2_with fail
      go_loopw [8] (fun i wx => ∃ k : Nat, i = .int .i64 k ∧ k ≤ len ∧ MSt wx w.heap.size (((cl.take k).map (·.2)).foldl turnC m) ∧ (((cl.take k).map (·.2)).foldl turnC m).length ≤ n + k ∧ Turn (fun _ => False) w wx) (fun i _ => len - (intOf i).toNat)
      case atStart => exact ⟨0, rfl, by omega, (unhide Hout).1, by have := unhide Hn; simp; omega, (unhide Hout).2.1⟩
      case round =>
        obtain ⟨k, rfl, hkl, hmp, hln2, tx⟩ := hrel
        by_cases hlt : k < len
        · have q1 : (k : Int) < len := by omega
          have hk' : k < cl.length := by have := unhide HLn; omega
          obtain ⟨g, cap, hve, hqg, hch0⟩ := (unhide Hl).each k hk'
          have hch := hch0.kept hqg tx (fun _ _ e => e)
          rw [← unhide HLn] at hve
          injection hve with hlo _ hcap
          have hfold : ((cl.take (k + 1)).map (·.2)).foldl turnC m = turnC (((cl.take k).map (·.2)).foldl turnC m) cl[k].2 := by
            rw [List.take_succ_eq_append_getElem hk', List.map_append, List.foldl_append]
            rfl
          obtain ⟨p, hp⟩ : ∃ p, p = cl[k] := ⟨_, rfl⟩
          rw [← hp] at hch hfold
          obtain ⟨mk, hmk⟩ : ∃ mk, mk = ((cl.take k).map (·.2)).foldl turnC m := ⟨_, rfl⟩
          rw [← hmk] at hmp hln2 hfold
          obtain ⟨pv, ⟨pk, ph, pb⟩⟩ := p
          have Hmp := hide (And.intro hmp (And.intro hfold (And.intro hln2 tx)))
          have Hlt := hide hlt
          have hN := unhide Hlen
          have hkm : pk.size ≤ maxLen := by have h0 : pk.size ≤ 1099511627776 := hch.key; unfold maxLen; omega
          have hHch := hide hch
          subst hlo hcap
          have c0 := (unhide hHch).c0
          have c1 := (unhide hHch).c1
          have c2 := (unhide hHch).c2
          simp only at c0 c1 c2
          clear hp hmk hch hch0 hmp hfold hln2 tx hlt
          cases ph
          · obtain ⟨w4, r4, o4, t4⟩ := (unhide Hmp).1.drop pk hkm 0
            have Hfin : Hid (MSt w4 w.heap.size (((cl.take (k + 1)).map (·.2)).foldl turnC m) ∧ (((cl.take (k + 1)).map (·.2)).foldl turnC m).length ≤ n + (k + 1) ∧ Turn (fun _ => False) w w4) := hide (by
              rw [(unhide Hmp).2.1]
              refine ⟨o4, ?_, (unhide Hmp).2.2.2.trans' t4 (fun i hi e => by omega)⟩
              have h1 := kdel_length pk.data.toList mk
              have h2 := (unhide Hmp).2.2.1
              show (kdel pk.data.toList mk).length ≤ _
              omega)
            clear o4 t4
            go_wp2
            go_roundw
            case rel => exact ⟨k + 1, by go_num, by have := unhide Hlt; omega, (unhide Hfin).1, (unhide Hfin).2.1, (unhide Hfin).2.2⟩
            case measure => have := unhide Hlt; simp [intOf]; omega
          · have td : Turn (fun _ => False) wr wr.drew := (Turn.refl _ wr).drew
            obtain ⟨w4, r4, o4, t4, _⟩ := ((unhide Hmp).1.kept td (fun e => e)).put (by have := (unhide Hmp).2.2.1; omega) pk hkm pb
            have hsv := (unhide hHch).sees.kept td (fun _ _ e => e)
            obtain ⟨po, pc, hpe⟩ := hsv.shape
            simp only at hsv hpe
            have cv := run_text_of_sees (P := Tryz.prog) wr.drew 29 9 Tryz.underlying29 Tryz.underlying5 Tryz.underlying9 hsv
            have Hfin : Hid (MSt w4 w.heap.size (((cl.take (k + 1)).map (·.2)).foldl turnC m) ∧ (((cl.take (k + 1)).map (·.2)).foldl turnC m).length ≤ n + (k + 1) ∧ Turn (fun _ => False) w w4) := hide (by
              rw [(unhide Hmp).2.1]
              refine ⟨o4, ?_, ((unhide Hmp).2.2.2.trans td).trans' t4 (fun i hi e => by omega)⟩
              have h1 := kput_length pk.data.toList pb mk
              have h2 := (unhide Hmp).2.2.1
              show (kput pk.data.toList pb mk).length ≤ _
              omega)
            have hgw : g ≠ w.heap.size := by have := unhide HQ g hqg; omega
            have hgl := World.block_lt_of_cell? _ _ c0
            have K4 : Hid (∀ o, w4.cell? ⟨g, o, none⟩ = wr.drew.cell? ⟨g, o, none⟩) := hide (fun o => t4.cell (p := ⟨g, o, none⟩) hgl hgw)
            unfold encStr at r4
            generalize pb.length = pl at hpe
            subst hpe
            clear o4 t4 td hsv
            have e0 : wr.drew.cell? ⟨g, k * 3, none⟩ = some (.string pk) := by rw [World.cell?_drew]; exact c0
            have e2 : wr.drew.cell? ⟨g, k * 3 + 2, none⟩ = some (.slice po pl pc) := by rw [World.cell?_drew]; exact c2
            have k0 := (unhide K4 _).trans e0
            have k2 := (unhide K4 _).trans e2
            go_wp2_with fail
            go_region_held (fun w' => w'.cell? ⟨g, k * 3, none⟩ = some (.string pk) ∧ w'.cell? ⟨g, k * 3 + 2, none⟩ = some (.slice po pl pc)) (first | go_keep | exact ⟨k0, k2⟩) (fail)
            all_goals (
              go_wp2
              go_roundw
              case rel => exact ⟨k + 1, by go_num, by have := unhide Hlt; omega, (unhide Hfin).1, (unhide Hfin).2.1, (unhide Hfin).2.2⟩
              case measure => have := unhide Hlt; simp [intOf]; omega)
        · obtain rfl : k = len := by omega
          have q1 : ¬ (k : Int) < k := by omega
          have hall : cl.take k = cl := List.take_of_length_le (by have := unhide HLn; omega)
          rw [hall] at hmp
          have Hfin := hide (And.intro hmp tx)
          clear hmp tx hall hln2
          go_wp2
          go_ret
          exact ⟨_, rfl, (unhide Hfin).1, (unhide Hfin).2, Nat.le_refl _⟩
    · intro x c kl yd yp w2 cnt2 hkey hlk hv hat hrg2 hlt hg2 hs2 hen
      obtain ⟨x', ex, rfl, hxl⟩ := Maps.keyOf_str Tryz.underlying9 hkey
      obtain rfl : x = x' := encStr_inj ex
      have hce := enc_val (unhide HD0) hv hat
      have hk := unhide Hk
      have t2 : Turn (fun j => j = w1.heap.size) wr w2 := (Turn.refl _ _).grown hg2 (fun j hj => by injection hj with hj; exact .inl hj.symm)
      have hout2 := hk.out.kept t2 hk.ne
      obtain ⟨w3, r3, o3, t3, g3⟩ := hout2.put (by have := hk.len; have := hk.cs; have := unhide Hlen; omega) ⟨x.toArray⟩ (by simpa [ByteArray.size] using hxl) ((kget x m).getD [])
      have hfin : Wth w w3 nb w.heap.size w1.heap.size n m D0 (fun z => left z && !z.sameKey (.string x)) cnt2 (ss ++ [x]) := ⟨hrg2.kept g3 (fun e => by
          injection e with e
          have := unhide Hnb
          omega) (fun e => by
          injection e with e
          have := unhide Hwl
          omega), by
          have := hk.cs
          rw [List.length_append, List.length_singleton]
          omega, by rw [copyK_snoc]; simpa using o3, by
          rw [copyK_snoc, List.length_append, List.length_singleton]
          exact Nat.le_trans (kput_length _ _ _) (Nat.add_le_add_right hk.len 1), (hk.turn.trans' t2 (fun i hi e => by have := unhide Hwl; omega)).trans' t3 (fun i hi e => by omega), hk.col.step hlk hat, hk.ol, hk.rl, hk.ne, fun y hy => by
          rcases List.mem_append.1 hy with hy | hy
          · exact hk.le y hy
          · rw [List.mem_singleton.1 hy]; exact hxl⟩
      have hmeas : w3.rangeLeft nb w1.heap.size < wr.rangeLeft nb w1.heap.size := by
        rw [hfin.rg.left_eq, hrg.left_eq]
        exact hlt
      have Hfin := hide (And.intro hfin hmeas)
      subst hce
      unfold encStr at r3
      clear hs2 hrg hrg2 hat hlk hkey ex hv hg2 t2 hk hout2 o3 t3 g3 hfin hmeas hlt hxl Hk
      go_wp2
      go_roundw
      case rel => exact ⟨_, cnt2, _, (unhide Hfin).1⟩
      case measure => exact (unhide Hfin).2

end Go.Proofs.YtnipdgigjcaolaaGreat
