/- A disk with the files of another: kv's copied. -/
import Derived.Test.YtnipdgigjcaolaaGreatPkC
namespace Go.Proofs.YtnipdgigjcaolaaGreat
open Go.RowKit

/-- Files laid anew, one behind the other. -/
def copyOf (s d : DSt) (ns : List Int) : DSt := ns.foldl (fun d k => (d.add k (s.read k)).2) d

theorem copyOf_snoc (s d : DSt) (ns : List Int) (k : Int) : copyOf s d (ns ++ [k]) = ((copyOf s d ns).add k (s.read k)).2 := by simp [copyOf]

theorem copyOf_now (s : DSt) : ∀ (ns : List Int) (d : DSt), d.dead = false → d.fused = false → (∀ k ∈ ns, 0 ≤ k ∧ d.now k = []) → ns.Pairwise (· < ·) →
    (copyOf s d ns).dead = false ∧ (copyOf s d ns).fused = false ∧ ∀ k, (copyOf s d ns).now k = if k ∈ ns then s.read k else d.now k
  | [], d, h1, h2, _, _ => ⟨h1, h2, fun k => by simp [copyOf]⟩
  | x :: r, d, h1, h2, h3, h4 => by
    rw [List.pairwise_cons] at h4
    have hx := h3 x (by simp)
    have hdn : d.down = false := by unfold DSt.down; rw [h1, h2]; rfl
    have e : (d.add x (s.read x)).2 = d.lays x (s.read x) := by rw [add_down hdn x hx.1]
    have hd := lays_dead d x (s.read x)
    have hnow : (d.lays x (s.read x)).now = fput d.now x (s.read x) := by rw [lays_now, hx.2, List.nil_append]
    have ih := copyOf_now s r (d.lays x (s.read x)) (hd.1.trans h1) (hd.2.trans h2) (fun k hk => ⟨(h3 k (by simp [hk])).1, by
      rw [hnow]
      unfold fput
      rw [if_neg (by have := h4.1 k hk; omega)]
      exact (h3 k (by simp [hk])).2⟩) h4.2
    have ec : copyOf s d (x :: r) = copyOf s (d.lays x (s.read x)) r := by
      show r.foldl _ (d.add x (s.read x)).2 = _
      rw [e]
      rfl
    rw [ec]
    refine ⟨ih.1, ih.2.1, fun k => ?_⟩
    rw [ih.2.2 k, hnow]
    unfold fput
    by_cases hk : k ∈ r
    · rw [if_pos hk, if_pos (by simp [hk])]
    · rw [if_neg hk]
      by_cases hkx : k = x
      · rw [if_pos hkx, if_pos (by simp [hkx]), hkx]
      · rw [if_neg hkx, if_neg (by simp [hk, hkx])]

/-- A copy reads as what was copied. -/
theorem copyOf_read {s : DSt} {ns : List Int} (hn : s.Nums ns) (h0 : ∀ k ∈ ns, 0 ≤ k) : (copyOf s DSt.zero ns).dead = false ∧ (copyOf s DSt.zero ns).fused = false ∧ (copyOf s DSt.zero ns).read = s.read := by
  obtain ⟨h1, h2, h3⟩ := copyOf_now s ns DSt.zero rfl rfl (fun k hk => ⟨h0 k hk, rfl⟩) hn.1
  refine ⟨h1, h2, ?_⟩
  funext k
  unfold DSt.read at *
  rw [h1]
  show (copyOf s DSt.zero ns).now k = _
  rw [h3 k]
  split
  · rfl
  · rename_i hk
    have := mt (hn.2 k).2 hk
    simp only [ne_eq, Decidable.not_not] at this
    unfold DSt.read at this
    rw [this]
    rfl

theorem i64s_atK (ks : List Int) (n : Nat) (k : Int) (h : ks[n]? = some k) : (i64s ks)[n]? = some (.int .i64 k) := by simp [i64s, h]

theorem made_ltK {w w' : World} {v : Value} {bs : List UInt8} (h : Made w v bs w') : ∀ j, slab v = some j → w.heap.size ≤ j ∧ j < w'.heap.size := fun j hj => by
  have h1 : v.ownBlock = some j := by rw [← h.1.slab_eq]; exact hj
  exact ⟨h.2.2 j h1, h.1.lt h1⟩

/-- What copied comes to. -/
def CopTo (w : World) (s : DSt) (e : Ending) (w' : World) : Prop :=
  ∃ b ns, ∃ K : Nat → Prop, e = .returned (.pointer (some ⟨b, 0, none⟩)) ∧ s.Nums ns ∧ DL w K w' b ns.length (copyOf s DSt.zero ns) ∧ Turn (fun _ => False) w w'

section
variable {w0 w : World} {K : Nat → Prop} {b N : Nat} {s : DSt}

set_option maxHeartbeats 4000000 in
set_option maxRecDepth 100000 in
theorem copied2_any (B : Nat) (h : DL w0 K w b N s) (hN : N ≤ 1073741822) (hB : ∀ k, (s.now k).length ≤ B) (hB2 : B ≤ 1099511627776) (h0 : ∀ k, s.read k ≠ [] → 0 ≤ k) :
    Calls Tryz.prog 66 #[.pointer (some ⟨b, 0, none⟩)] w (CopTo w s) := by
  have H := hide h
  have HB := hide hB
  have H0 := hide h0
  clear hB h0
  go_enter Tryz.func66, Tryz.ntmps66
  go_wp2_with fail
  refine (dl_new (w0 := w) (K := fun _ => False) (fun _ h => h.elim) (Turn.refl _ w)).mono ?_
  rintro e w1 ⟨rfl, h1, t1⟩
  obtain ⟨c, hc⟩ : ∃ c, c = w.heap.size := ⟨_, rfl⟩
  rw [← hc] at h1 ⊢
  have H1 := hide h1
  have T1 := hide t1
  have HF := hide (dl_files (h.new t1) (by omega))
  clear h hc h1 t1
  go_wp2_with fail
  refine (unhide HF).mono ?_
  rintro e w2 ⟨v, ns, rfl, hm, hn, hnl, _⟩
  obtain ⟨ao, cap, hve⟩ := hm.shape
  have hll := i64s_length ns
  have hstart : DL w (grow (fun _ => False) w1 w2) w2 c 0 DSt.zero := (unhide H1).new hm.2.1
  have hI2 : HeldI (grow (fun _ => False) w1 w2) w2 v ns := hm.held
  have Hs := hide (And.intro hstart hI2)
  have Hn := hide hn
  have Hpos : Hid (∀ k ∈ ns, 0 ≤ k) := hide (fun k hk => unhide H0 k ((hn.2 k).1 hk))
  subst hve
  clear HF H1 T1 hm hn hstart hI2
  go_wp2_with fail
  go_loopw [5, 10] (fun _ i wr => ∃ (n : Nat) (K2 : Nat → Prop), i = .int .i64 n ∧ n ≤ ns.length ∧ DL w K2 wr c n (copyOf s DSt.zero (ns.take n)) ∧ HeldI K2 wr (.slice ao ns.length cap) ns) (fun _ i _ => ns.length - (intOf i).toNat)
  case atStart => exact ⟨0, _, rfl, by omega, (unhide Hs).1, (unhide Hs).2⟩
  case round =>
    clear Hs
    obtain ⟨n, K2, rfl, hnl2, hd2, hI⟩ := hrel
    by_cases hlt : n < ns.length
    · obtain ⟨k, hk⟩ : ∃ k, ns[n]? = some k := ⟨_, List.getElem?_eq_getElem hlt⟩
      have hcl := i64s_atK ns n k hk
      have hcell : ∃ a, ao = some a ∧ wr.cell? (a.add n) = some (.int .i64 k) := by
        rcases hI.own.sees with ⟨_, h1⟩ | ⟨a, cap', h1, _, _, h4⟩
        · rw [h1] at hcl; simp at hcl
        · injection h1 with h1
          exact ⟨a, h1, h4 n _ hcl⟩
      obtain ⟨a, rfl, hca⟩ := hcell
      have hnx : ns.take (n + 1) = ns.take n ++ [k] := by
        obtain ⟨h1, h2⟩ := List.getElem?_eq_some_iff.1 hk
        rw [List.take_succ_eq_append_getElem h1, h2]
      have hkm : k ∈ ns := List.mem_of_getElem? hk
      have hnow0 : (copyOf s DSt.zero (ns.take n)).now k = [] := by
        have hp : (ns.take n).Pairwise (· < ·) := (unhide Hn).1.sublist (List.take_sublist _ _)
        obtain ⟨_, _, h3⟩ := copyOf_now s (ns.take n) DSt.zero rfl rfl (fun j hj => ⟨unhide Hpos j (List.mem_of_mem_take hj), rfl⟩) hp
        rw [h3 k, if_neg]
        · rfl
        · intro hin
          have hp2 := (unhide Hn).1
          rw [← List.take_append_drop (n + 1) ns, hnx, List.append_assoc, List.pairwise_append] at hp2
          have := hp2.2.2 k hin k (by simp)
          omega
      have hRd := dl_read k ((unhide H).new hd2.turn) (by omega) (Nat.le_trans (unhide HB k) (by omega))
      have hrl : (s.read k).length ≤ B := by
        unfold DSt.read
        split
        · simp
        · exact unhide HB k
      have hfin : Hid (∀ v' w1, Made wr v' (s.read k) w1 → Calls Tryz.prog 14 #[.pointer (some ⟨c, 0, none⟩), .int .i64 k, v'] w1 fun e w2 => (∃ z, e = .returned z) ∧ ∃ K3 : Nat → Prop, DL w K3 w2 c (n + 1) (copyOf s DSt.zero (ns.take (n + 1))) ∧ HeldI K3 w2 (.slice (some a) ns.length cap) ns) := hide (fun v' w1 hm => by
        have hdn := hd2.new hm.2.1
        have hIn := hI.new hm.2.1
        refine (dl_append k v' (s.read k) hdn hm.1.sees (fun h0 j hj => .inr (.inr ⟨(made_ltK hm j hj).1, (made_ltK hm j hj).2⟩)) (by omega) (by rw [hnow0]; simp; omega)).mono ?_
        rintro e w2 ⟨rfl, hd3, t3⟩
        refine ⟨⟨_, rfl⟩, _, ?_, hIn.disk t3⟩
        rw [hnx, copyOf_snoc]
        exact hd3)
      have HRd := hide hRd
      have q1 : (n : Int) < ns.length := by omega
      clear hRd hd2 hI hnow0 hrl hnx hcl
      go_wp2_with fail
      refine (unhide HRd).mono ?_
      rintro e w3 ⟨v3, rfl, m3, _⟩
      have HA := unhide hfin v3 w3 m3
      clear m3 HRd hfin
      go_wp2_with fail
      refine HA.mono ?_
      rintro e w4 ⟨⟨z, rfl⟩, K3, h4, i4⟩
      have H4 := hide (And.intro h4 i4)
      clear h4 i4 HA
      go_wp2
      go_roundw
      case rel => exact ⟨n + 1, K3, by go_num, by omega, (unhide H4).1, (unhide H4).2⟩
      case measure => simp [intOf]; omega
    · obtain rfl : n = ns.length := by omega
      have q1 : ¬ (ns.length : Int) < ns.length := by omega
      rw [List.take_length] at hd2
      have Hfin := hide hd2
      clear hd2 hI
      go_wp2
      go_ret
      exact ⟨c, ns, K2, rfl, unhide Hn, unhide Hfin, (unhide Hfin).turn⟩

end

end Go.Proofs.YtnipdgigjcaolaaGreat
