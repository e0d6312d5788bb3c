/- One byte that is turned makes another sum: the law's walk. -/
import Derived.Test.YtjdhjjmmfiibeaaCKnown
import Derived.Test.YtjdhjjmmfiibeaaHand
namespace Go.Proofs.Ytjdhjjmmfiibeaa
open Go.RowKit

theorem Owns.at {w : World} {g cap : Nat} {bs : List UInt8} (h : Owns w (.slice (some ⟨g, 0, none⟩) bs.length cap) bs) (j : Nat) (hj : j < bs.length) : w.cell? ⟨g, j, none⟩ = some (.int .u8 (bs[j].toNat : Int)) := by
  rw [World.ownsRow.cellAt h j (by omega)]
  simp [u8s, hj]

theorem Owns.frozenAt {w : World} {g cap : Nat} {bs : List UInt8} (h : Owns w (.slice (some ⟨g, 0, none⟩) bs.length cap) bs) (j : Nat) : w.frozen? ⟨g, j, none⟩ = false := World.ownsRow.frozenAt h j

theorem u8s_set (bs : List UInt8) (j : Nat) (y : UInt8) : u8s (bs.set j y) = (u8s bs).set j (.int .u8 (y.toNat : Int)) := by simp [u8s, List.map_set]

theorem Owns.put {w : World} {g cap : Nat} {bs : List UInt8} (h : Owns w (.slice (some ⟨g, 0, none⟩) bs.length cap) bs) (j : Nat) (y : UInt8) : Owns (w.setCell ⟨g, j, none⟩ (.int .u8 (y.toNat : Int))) (.slice (some ⟨g, 0, none⟩) (bs.set j y).length cap) (bs.set j y) := by
  unfold Owns
  rw [u8s_set, List.length_set]
  exact (World.ownsRow.stored h j _).1

/-- A byte that is turned by another one, as the walk spells it. -/
theorem turned_byte (x : UInt8) (y : Nat) (hy : y < 256) (h0 : ¬ y = 0) : ∃ z : UInt8, z ≠ x ∧ bits .xor .u8 (x.toNat : Int) (y : Int) = (z.toNat : Int) := by
  have hx := byte_lt x
  have hz : x.toNat ^^^ y < 256 := Nat.xor_lt_two_pow (n := 8) hx hy
  have hn : (UInt8.ofNat (x.toNat ^^^ y)).toNat = x.toNat ^^^ y := by rw [UInt8.toNat_ofNat']; omega
  refine ⟨UInt8.ofNat (x.toNat ^^^ y), fun e => h0 ?_, ?_⟩
  · rw [e] at hn
    have e2 : y ^^^ x.toNat = 0 ^^^ x.toNat := by rw [Nat.zero_xor, Nat.xor_comm]; exact hn.symm
    exact xor_right_inj e2
  · rw [hn]
    exact u8_xor_nat _ _ hx hy

set_option maxHeartbeats 2000000 in
set_option maxRecDepth 100000 in
theorem crcTurns_any (v : Value) (bs : List UInt8) (at' : Int) (by' : Nat) (hby : by' < 256) (w : World) (hs : Sees w v bs) (hl : bs.length ≤ 140737488355328) (hsl : 0 < bs.length → ∀ k, slab v = some k → k < w.heap.size) :
    Calls Try.prog 6 #[v, .int .i64 at', .int .u8 by'] w fun e w' => e = .returned (.bool true) ∧ Turn (fun _ => False) w w' := by
  have hnot : ∀ (x : Bool) (w : World), (Op.unary .not (.bool x)).run Try.prog w = .ok (.bool (!x)) w := fun _ _ => rfl
  obtain ⟨ao, cap, rfl⟩ := hs.shape
  go_enter Try.func6, Try.ntmps6
  go_wp2_with fail
  refine (new_any w).mono ?_
  rintro e w1 ⟨rfl, e1⟩
  have h1 : Own w w1 w.heap.size false := e1 ▸ Own.start w
  have hsl1 : 0 < bs.length → slab (.slice ao bs.length cap) ≠ some w.heap.size := fun h0 e => by have := hsl h0 _ e; omega
  generalize w.heap.size = b at h1 hsl1 ⊢
  clear e1
  go_wp2_with fail
  refine (crcExample_any w1).mono ?_
  rintro e w2 ⟨rfl, t2⟩
  have h2 := h1.goes t2
  have hs2 := hs.kept h2.turn (fun _ _ h => h)
  clear h1 t2
  by_cases h0 : bs.length = 0
  · have q0 : ((bs.length : Int) == 0) = true := by simp [h0]
    go_wp2
    go_ret
    exact ⟨rfl, h2.turn⟩
  have q0 : ((bs.length : Int) == 0) = false := by rw [beq_eq_false_iff_ne]; omega
  by_cases hb0 : by' = 0
  · subst hb0
    go_wp2
    go_ret
    exact ⟨rfl, h2.turn⟩
  have q1 : ((by' : Int) == 0) = false := by rw [beq_eq_false_iff_ne]; omega
  have hq := few_any _ bs bs.length w2 hs2 (by omega)
  rw [List.take_length] at hq
  have hq := hide hq
  go_wp2_with fail
  refine (unhide hq).mono ?_
  clear hq
  rintro e w3 ⟨v3, rfl, ho3, t3, hn3⟩
  obtain ⟨g, cap3, rfl⟩ := ho3.solid (by omega)
  have h3 := h2.goes t3
  have hg3 : b < g := by
    have := hn3 g rfl
    have := h2.tab.lt
    omega
  have hgw : w.heap.size ≤ g := by have := h2.new; omega
  have hs3 := hs2.kept t3 (fun _ _ h => h)
  have hgl : g < w3.heap.size := ho3.lt rfl
  clear h2 t3 hn3 hs2
  go_wp2_with fail
  refine (pick_any at' bs.length w3 (by omega) (by omega)).mono ?_
  rintro e w4 ⟨rfl, rfl⟩
  have hi0 := Int.emod_nonneg at' (show (bs.length : Int) ≠ 0 by omega)
  have hi1 := Int.emod_lt_of_pos at' (show (0 : Int) < bs.length by omega)
  obtain ⟨i, hi⟩ : ∃ i : Nat, at' % (bs.length : Int) = i := ⟨(at' % (bs.length : Int)).toNat, by omega⟩
  rw [hi] at hi0 hi1 ⊢
  clear hi hi0
  have hil : i < bs.length := by omega
  clear hi1
  obtain ⟨z, hz, ez⟩ := turned_byte bs[i] by' hby hb0
  have c0 := ho3.at i hil
  have f0 := ho3.frozenAt i
  have ho5 := ho3.put i z
  have hdiff := csum_turned bs i hil z hz
  have t5 : Turn (fun k => k = g) w3 (w3.setCell ⟨g, i, none⟩ (.int .u8 (z.toNat : Int))) := (Turn.refl (fun k => k = g) w3).setCell (p := ⟨g, i, none⟩) (.inl rfl) _
  have h5 : Own w (w3.setCell ⟨g, i, none⟩ (.int .u8 (z.toNat : Int))) b false := ⟨h3.tab.kept t5 (by omega), h3.turn.trans' t5 (fun j hj e => by omega), h3.new⟩
  have hs5 : Sees (w3.setCell ⟨g, i, none⟩ (.int .u8 (z.toNat : Int))) (.slice ao bs.length cap) bs := hs3.kept' t5 (fun h0 k hk e => by have := hsl h0 k hk; omega)
  clear t5 h3 hs3 ho3
  rw [List.length_set] at ho5
  go_wp2_with fail
  refine (sum_any b _ _ false _ h5.tab ho5.sees (fun _ e => by simp [slab] at e; omega)).mono ?_
  rintro e w6 ⟨rfl, h6, t6⟩
  have h6 := h5.sum h6 t6
  have hs6 := hs5.kept' t6 (fun h0 k hk e => hsl1 h0 (e ▸ hk))
  clear h5 hs5 t6 ho5 c0 f0 ez
  generalize csum (bs.set i z) = s1 at *
  go_wp2_with fail
  refine (sum_any b _ _ true _ h6.tab hs6 hsl1).mono ?_
  rintro e w7 ⟨rfl, h7, t7⟩
  have h7 := h6.sum h7 t7
  clear h6 hs6 t7
  generalize csum bs = s2 at *
  have hne : ((s1 : Int) != (s2 : Int)) = true := by rw [bne_iff_ne]; omega
  go_wp2
  go_ret
  exact ⟨rfl, h7.turn⟩

end Go.Proofs.Ytjdhjjmmfiibeaa
