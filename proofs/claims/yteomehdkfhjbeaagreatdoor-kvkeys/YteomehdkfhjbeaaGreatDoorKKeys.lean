/- kv's Keys: the keys that begin so, rising. -/
import Derived.Test.YteomehdkfhjbeaaGreatDoorKCom
import Derived.Test.YteomehdkfhjbeaaGreatDoorKSort
import Derived.Maps.RangeWalk
import Derived.Sort.KeysCollected
import Derived.OwnWalk
namespace Go.Proofs.YteomehdkfhjbeaaGreatDoor
open Go.RowKit Go.Maps

theorem Tryz.infoStr : (Tryz.prog.info? 9).map (fun i => (i.zero, i.size, i.bytes)) = some (some (.string ⟨#[]⟩), 1, 16) := by kernel_rfl

theorem before_lt : ∀ {a b : List UInt8}, bytesBefore a b = true → a < b
  | [], [], h => by simp [bytesBefore] at h
  | [], y :: s, _ => List.nil_lt_cons y s
  | x :: r, [], h => by simp [bytesBefore] at h
  | x :: r, y :: s, h => by
    simp only [bytesBefore, Bool.or_eq_true, decide_eq_true_eq, Bool.and_eq_true, beq_iff_eq] at h
    rw [List.cons_lt_cons_iff]
    rcases h with h | ⟨rfl, h⟩
    · exact .inl h
    · exact .inr ⟨rfl, before_lt h⟩

/-- Keys rise. -/
def risingK {α : Type} (m : List (List UInt8 × α)) : Prop := m.Pairwise fun p q => bytesBefore p.1 q.1 = true

theorem sorted_rising {l : List (List UInt8)} (h : l.Pairwise fun p q => bytesBefore p q = true) : sorted l = l := by
  unfold sorted
  refine List.mergeSort_of_pairwise (h.imp fun {a b} hab => ?_)
  have := before_lt hab
  exact decide_eq_true (List.le_of_lt this)

/-- The keys that begin so. -/
def keysOf {α : Type} (m : List (List UInt8 × α)) (p : List UInt8) : List (List UInt8) := (m.map (·.1)).filter fun x => begins x p

theorem keysOf_all {α : Type} (m : List (List UInt8 × α)) : keysOf m [] = m.map (·.1) := by
  unfold keysOf
  rw [List.filter_eq_self]
  intro x _
  simp [begins]

section
variable {Q : Nat → Prop} {w : World} {b : Nat} {m : List (List UInt8 × (Value × List UInt8))}

theorem MPs.rising (h : MPs Q w b m) : risingK m := by
  obtain ⟨es, clock, hb, F, _, hD⟩ := h.map
  have hs := sorted_sorted keyedS.one (es.toList.map (Go.WideElems.rg Tryz.prog 9 heldV)) (fit_keys F) (fit_apart keyedS F)
  injection hD with hD
  rw [← hD] at hs
  unfold datM at hs
  rw [List.map_map, List.pairwise_map] at hs
  exact hs

end

section
variable {w0 w w1 : World} {K : Nat → Prop} {sb mb l b f t N : Nat} {s : WSt} {m : List (List UInt8 × List UInt8)}

theorem KS.rising (h : KS w0 K w sb mb l b f t N s m) : risingK m := by
  obtain ⟨m', h1, rfl⟩ := h.mp
  have := h1.rising
  unfold plain risingK
  rw [List.pairwise_map]
  exact this

/-- Texts of a call's own. -/
structure Texts (w : World) (v : Value) (ss : List (List UInt8)) (w' : World) : Prop where
  own : OwnsC 9 w' v (ss.map encStr)
  turn : Turn (fun _ => False) w w'
  new : ∀ k, v.ownBlock = some k → w.heap.size ≤ k

/-- Where the loop is. -/
structure Kys (w wr : World) (mb r : Nat) (n : Nat) (D0 : DataW Value) (p : List UInt8) (v : Value) (left : Lit → Bool) (cnt : Nat) (ss : List (List UInt8)) : Prop where
  rg : wr.ranges Tryz.prog 9 heldV mb r n D0 left cnt
  cs : ss.length + cnt ≤ n
  tx : Texts w v (ss.filter fun x => begins x p) wr
  col : Collected D0 left ss
  rw : w.heap.size ≤ r
  lt : r < wr.heap.size
  ne : v.ownBlock ≠ some r
  le : ∀ x ∈ ss, x.length ≤ maxLen

set_option maxHeartbeats 8000000 in
set_option maxRecDepth 100000 in
theorem kkeys_any (h : KS w0 K w sb mb l b f t N s m) (p : ByteArray) (hml : m.length ≤ 1000000) :
    Calls Tryz.prog 10 #[.pointer (some ⟨sb, 0, none⟩), .string p] w fun e w' => ∃ v, e = .returned v ∧ Texts w v (keysOf m p.data.toList) w' := by
  have c1 : w.cell? ⟨sb, 1, none⟩ = some (.map (some mb)) := h.at'.cell 1
  have hris := h.rising
  obtain ⟨m', hmp, hpl⟩ := h.mp
  obtain ⟨i0, hi, hz0, hz1, hz2⟩ := info_parts Tryz.infoStr
  have hlen : m'.length ≤ 1000000 := by rw [← plain_length, hpl]; exact hml
  have hmbl := hmp.lt
  obtain ⟨D0, hD0⟩ : ∃ D0, D0 = DataW.map (datM (m'.map (snd1 Prod.fst))) := ⟨_, rfl⟩
  have hown := hmp.map
  rw [← hD0] at hown
  have hsz : Maps.size D0 = m'.length := by rw [hD0, Maps.size_eq, datM_length, List.length_map]
  have hkeys : strKeys D0 = m.map (·.1) := by
    rw [hD0, ← hpl]
    show (datM _).map _ = _
    unfold datM plain
    simp [List.map_map, Function.comp_def, snd1, strOf]
  have Hown := hide hown
  have Hris := hide hris
  have Hkeys := hide hkeys
  generalize m'.length = n at *
  clear h hmp hpl hml hris hD0 hkeys hown
  go_enter Tryz.func10, Tryz.ntmps10
  go_wp2_with (first
    | (at_range; refine wpList_range_own _ rfl _ 52 rfl 9 32 keyedS Tryz.underlying52 _ mb n _ rfl (unhide Hown) ?_; intro w1 hrg1 hg1 hs1)
    | go_in)
  go_frame
  have hw1 : Turn (fun _ => False) w w1 := (Turn.refl _ _).grown hg1 (fun k hk => by cases hk)
  have hstart : Kys w w1 mb w.heap.size n D0 p.data.toList (.slice none 0 0) (Maps.has D0) (Maps.size D0) [] := ⟨hrg1, by rw [hsz]; simp, ⟨OwnsC.nil _ _, hw1, fun k hk => by simp [Value.ownBlock] at hk⟩, Collected.start D0, Nat.le_refl _, by omega, by simp [Value.ownBlock], by simp⟩
  have Hs := hide hstart
  clear hw1 hrg1 hg1 hs1 hstart c1
  go_loopw [5, 6] (fun v _ wr => ∃ (left : Lit → Bool) (cnt : Nat) (ss : List (List UInt8)), Kys w wr mb w.heap.size n D0 p.data.toList v left cnt ss) (fun _ _ wr => wr.rangeLeft mb w.heap.size)
  case atStart => exact ⟨_, _, [], unhide Hs⟩
  case round =>
    clear Hs
    obtain ⟨left, cnt, ss, hk⟩ := hrel
    have hrg := hk.rg
    have Hk := hide hk
    obtain ⟨vo, vc, hve⟩ := hk.tx.own.shape'
    rw [List.length_map] at hve
    obtain ⟨vn, hvn⟩ : ∃ vn, vn = (ss.filter fun x => begins x p.data.toList).length := ⟨_, rfl⟩
    rw [← hvn] at hve
    have Hvn := hide hvn
    subst hve
    clear hk hvn
    go_wp2_with (first
      | (at_next; refine wpList_next_ranges _ rfl _ rfl 9 keyedS heldV encStr (fun v : Value => v) (fun key kl hk => by obtain ⟨x, hx, _⟩ := Maps.keyOf_str Tryz.underlying9 hk; exact ⟨x, hx⟩) (fun v y _ => ⟨v, rfl⟩) mb w.heap.size n _ _ _ rfl hrg ?_ ?_)
      | go_in)
    · intro hc0 hl0
      have hperm : ss.Perm (m.map (·.1)) := by
        rw [← unhide Hkeys]
        exact (unhide Hk).col.perm hrg.owns keyedS Tryz.underlying9 hl0
      have hsort : sorted (ss.filter fun x => begins x p.data.toList) = keysOf m p.data.toList := by
        have h1 : sorted (ss.filter fun x => begins x p.data.toList) = sorted (keysOf m p.data.toList) := mergeSort_of_perm (hperm.filter _)
        rw [h1]
        refine sorted_rising ?_
        unfold keysOf
        refine List.Pairwise.filter _ ?_
        rw [List.pairwise_map]
        exact unhide Hris
      have hnl : (ss.filter fun x => begins x p.data.toList).length ≤ 1099511627776 := Nat.le_trans (List.length_filter_le _ _) (by have := (unhide Hk).cs; omega)
      have HS := hide (sort_any _ _ wr (unhide Hk).tx.own hnl)
      have Hsort := hide hsort
      clear hperm hsort hnl hrg hl0
      go_wp2_with fail
      refine (unhide HS).mono ?_
      rintro e w2 ⟨rfl, ho2, t2⟩
      have hfin : Texts w (.slice vo vn vc) (keysOf m p.data.toList) w2 := by
        rw [← unhide Hsort]
        exact ⟨ho2, (unhide Hk).tx.turn.trans' t2 (fun i hi e => by have := (unhide Hk).tx.new i e; omega), (unhide Hk).tx.new⟩
      have Hfin := hide hfin
      clear ho2 t2 hfin HS
      go_wp2
      go_ret
      exact ⟨_, rfl, unhide Hfin⟩
    · intro x c kl yd yp w2 cnt2 hkey hlk hv hat hrg2 hlt hg2 hs2 hen
      obtain ⟨x', ex, rfl, hxl⟩ := Maps.keyOf_str Tryz.underlying9 hkey
      obtain rfl : x = x' := encStr_inj ex
      have hk := unhide Hk
      have t2 : Turn (fun j => j = w.heap.size) wr w2 := (Turn.refl _ _).grown hg2 (fun j hj => by injection hj with hj; exact .inl hj.symm)
      have hcol := hk.col.step hlk hat
      have hcs : (ss ++ [x]).length + cnt2 ≤ n := by
        have := hk.cs
        rw [List.length_append, List.length_singleton]
        omega
      have hle : ∀ y ∈ ss ++ [x], y.length ≤ maxLen := fun y hy => by
        rcases List.mem_append.1 hy with hy | hy
        · exact hk.le y hy
        · rw [List.mem_singleton.1 hy]; exact hxl
      have htx : Texts w (.slice vo vn vc) (ss.filter fun y => begins y p.data.toList) w2 := ⟨hk.tx.own.kept t2 (fun j hj e => hk.ne (e ▸ hj)), hk.tx.turn.trans' t2 (fun i hi e => by omega), hk.tx.new⟩
      have hlt2 : w.heap.size < w2.heap.size := Nat.lt_of_lt_of_le hk.lt t2.size
      have Hm := hide (And.intro hcol (And.intro hcs (And.intro hle (And.intro htx (And.intro hrg2 (And.intro hrg hlt2))))))
      have Hne := hide hk.ne
      have hxs : (⟨x.toArray⟩ : ByteArray).data.toList = x := by simp
      have HP := hide (hasPrefix_any ⟨x.toArray⟩ p w2)
      rw [hxs] at HP
      have hmeas : ∀ wz : World, wz.ranges Tryz.prog 9 heldV mb w.heap.size n D0 (fun z => left z && !z.sameKey (.string x)) cnt2 → wz.rangeLeft mb w.heap.size < wr.rangeLeft mb w.heap.size := fun wz hz => by
        rw [hz.left_eq, hrg.left_eq]
        exact hlt
      have Hmeas := hide hmeas
      cases hb : begins x p.data.toList
      · rw [hb] at HP
        have hfl : (ss ++ [x]).filter (fun y => begins y p.data.toList) = ss.filter (fun y => begins y p.data.toList) := by simp [hb]
        have hfin : Kys w w2 mb w.heap.size n D0 p.data.toList (.slice vo vn vc) (fun z => left z && !z.sameKey (.string x)) cnt2 (ss ++ [x]) := ⟨hrg2, hcs, by rw [hfl]; exact htx, hcol, Nat.le_refl _, hlt2, hk.ne, hle⟩
        have Hfin := hide hfin
        clear hs2 hrg hrg2 hat hlk hkey ex hv hg2 t2 hcol hcs hle htx hlt2 hk hmeas hfl hfin hb hxl hxs
        go_wp2_with fail
        refine (unhide HP).mono ?_
        rintro e w3 ⟨rfl, rfl⟩
        go_wp2
        go_roundw
        case rel => exact ⟨_, cnt2, _, unhide Hfin⟩
        case measure => exact unhide Hmeas _ (unhide Hm).2.2.2.2.1
      · rw [hb] at HP
        have ta : Turn (fun _ => False) w2 (w2.alloc (.cells #[encStr x] 9)) := (Turn.refl _ _).alloc _
        have hlit := SeesC.lit w2 [encStr x] 9 (by simp [maxLen])
        have hfl0 : (ss.filter fun y => begins y p.data.toList).length ≤ n := Nat.le_trans (List.length_filter_le _ _) (by have := hk.cs; omega)
        obtain ⟨v', w4, hr, ho, hg4, hloc⟩ := run_append_cells (P := Tryz.prog) (w2.alloc (.cells #[encStr x] 9)) 39 39 9 i0 _ 16 Tryz.underlying39 hi hz0 hz1 hz2 rfl _ _ (htx.own.kept ta (fun _ _ e => e)) _ [encStr x] hlit (by intro u hu; simp at hu; rw [hu]; rfl) (by unfold maxLen; rw [List.length_map]; simp; omega) (by rw [List.length_map]; simp; omega)
        obtain ⟨o4, c4, e4⟩ := ho.shape'
        simp only [List.length_append, List.length_map, List.length_cons, List.length_nil, Nat.zero_add] at e4
        rw [← unhide Hvn] at e4
        simp only [List.length_cons, List.length_nil, Nat.zero_add] at hr
        have t4 : Turn (fun j => (Value.slice vo vn vc).ownBlock = some j) (w2.alloc (.cells #[encStr x] 9)) w4 := (Turn.refl _ _).grown hg4 (fun j hj => .inl hj)
        have hfl : (ss ++ [x]).filter (fun y => begins y p.data.toList) = (ss.filter fun y => begins y p.data.toList) ++ [x] := by simp [hb]
        have hasz := ta.size
        have hnew4 : ∀ j, v'.ownBlock = some j → w.heap.size ≤ j ∧ j ≠ w.heap.size := fun j hj => by
          rcases hloc with h1 | h1
          · rw [h1] at hj
            exact ⟨hk.tx.new j hj, fun e => hk.ne (e ▸ hj)⟩
          · rw [h1] at hj
            injection hj with hj
            exact ⟨by omega, by omega⟩
        have hrg4 : w4.ranges Tryz.prog 9 heldV mb w.heap.size n D0 (fun z => left z && !z.sameKey (.string x)) cnt2 := (hrg2.alloc _).kept hg4 (fun e => by
            have := hk.tx.new mb e.symm
            omega) (fun e => hk.ne e.symm)
        have hfin : Kys w w4 mb w.heap.size n D0 p.data.toList v' (fun z => left z && !z.sameKey (.string x)) cnt2 (ss ++ [x]) := ⟨hrg4, hcs, by
            rw [hfl]
            refine ⟨by rw [List.map_append]; exact ho, (htx.turn.trans ta).trans' t4 (fun i hi e => by have := hk.tx.new i e; omega), fun j hj => (hnew4 j hj).1⟩, hcol, Nat.le_refl _, Nat.lt_of_lt_of_le hlt2 (Nat.le_trans hasz t4.size), fun e => (hnew4 _ e).2 rfl, hle⟩
        have Hfin := hide (And.intro hfin hrg4)
        have Hr := hide hr
        clear hs2 hrg hrg2 hat hlk hkey ex hv hg2 t2 hcol hcs hle htx hlt2 hk hmeas hfl hfin hb hxl hxs ta hlit hfl0 hr ho hg4 hloc t4 hasz hnew4 hrg4
        subst e4
        go_wp2_with fail
        refine (unhide HP).mono ?_
        rintro e w3 ⟨rfl, rfl⟩
        go_wp2_with (at_builtin; refine wpList_append_run rfl (.tmp 21) (.tmp 23) 39 rfl _ _ _ w4 rfl rfl (unhide Hr) ?_)
        go_roundw
        case rel => exact ⟨_, cnt2, _, (unhide Hfin).1⟩
        case measure => exact unhide Hmeas _ (unhide Hfin).2

end

end Go.Proofs.YteomehdkfhjbeaaGreatDoor
