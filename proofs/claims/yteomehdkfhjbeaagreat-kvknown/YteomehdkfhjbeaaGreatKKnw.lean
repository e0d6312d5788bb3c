/- The law KvKnown: its walk. -/
import Derived.Test.YteomehdkfhjbeaaGreatKLaw
import Derived.Test.YteomehdkfhjbeaaGreatKKn1
namespace Go.Proofs.YteomehdkfhjbeaaGreat
open Go.RowKit

section
variable {w0 w : World} {K : Nat → Prop} {sb l b f t N : Nat} {s : WSt}

set_option maxHeartbeats 400000 in
theorem kopen_nil (seg : Int) (w : World) : Calls Tryz.prog 22 #[.pointer none, .int .i64 seg] w fun e w' => e = .returned (.tuple #[.pointer none, .int .i64 1]) ∧ w = w' := by
  go_enter Tryz.func22, Tryz.ntmps22
  go_wp2
  go_ret2
  exact ⟨rfl, rfl⟩

set_option maxHeartbeats 400000 in
theorem kchk_dead (h : KD w0 K w sb l b f t N s) : Calls Tryz.prog 27 #[.pointer (some ⟨sb, 0, none⟩)] w fun e w' => e = .returned (.int .i64 14) ∧ w = w' := by
  have c2 : w.cell? ⟨sb, 2, none⟩ = some (.bool true) := h.at'.cell 2
  clear h
  go_enter Tryz.func27, Tryz.ntmps27
  go_wp2
  go_ret
  exact ⟨rfl, rfl⟩

set_option maxHeartbeats 400000 in
theorem kcom_dead (h : KD w0 K w sb l b f t N s) (v : Value) : Calls Tryz.prog 24 #[.pointer (some ⟨sb, 0, none⟩), v] w fun e w' => e = .returned (.int .i64 14) ∧ w = w' := by
  have c2 : w.cell? ⟨sb, 2, none⟩ = some (.bool true) := h.at'.cell 2
  clear h
  go_enter Tryz.func24, Tryz.ntmps24
  go_wp2
  go_ret
  exact ⟨rfl, rfl⟩

end

/-- A text of a call's own, at its place. -/
theorem Texts.at {w w' : World} {v : Value} {ss : List (List UInt8)} (h : Texts w v ss w') (n : Nat) (x : List UInt8) (hn : ss[n]? = some x) : ∃ g cap, v = .slice (some ⟨g, 0, none⟩) ss.length cap ∧ w'.cell? ⟨g, n, none⟩ = some (.string ⟨x.toArray⟩) ∧ w.heap.size ≤ g ∧ g < w'.heap.size := by
  have hkr : (ss.map encStr)[n]? = some (encStr x) := by rw [List.getElem?_map, hn]; rfl
  have hml : (ss.map encStr).length = ss.length := List.length_map _
  rcases h.own.2 with ⟨_, hn0⟩ | ⟨g, cap, cur, e1, _, hg, _⟩
  · rw [hml] at hn0
    have := (List.getElem?_eq_some_iff.1 hn).1
    omega
  · have hc := World.ownsRow.cells h.own (g := g) (by rw [e1]; rfl) n _ hkr
    rw [show (⟨g, 0, none⟩ : Addr).add n = ⟨g, n, none⟩ by unfold Addr.add; split <;> simp_all] at hc
    exact ⟨g, cap, by rw [e1, hml], hc, h.new g (by rw [e1]; rfl), (Array.getElem?_eq_some_iff.1 hg).1⟩

/-- A text in memory that a law holds. -/
structure TextAt (K : Nat → Prop) (w : World) (g n : Nat) (x : ByteArray) : Prop where
  cell : w.cell? ⟨g, n, none⟩ = some (.string x)
  mem : K g

theorem TextAt.kept {K S : Nat → Prop} {w w' : World} {g n : Nat} {x : ByteArray} (h : TextAt K w g n x) (t : Turn S w w') (hS : ¬ S g) : TextAt K w' g n x :=
  ⟨(t.cell (p := ⟨g, n, none⟩) (World.block_lt_of_cell? _ _ h.cell) hS).trans h.cell, h.mem⟩

theorem TextAt.mono {K K' : Nat → Prop} {w : World} {g n : Nat} {x : ByteArray} (h : TextAt K w g n x) (hK : ∀ j, K j → K' j) : TextAt K' w g n x := ⟨h.cell, hK g h.mem⟩

/-- It lies in no block of a Store's. -/
theorem TextAt.apart {w0 w : World} {K : Nat → Prop} {sb mb l : Nat} {m : List (List UInt8 × List UInt8)} {g n : Nat} {x : ByteArray} (h : TextAt K w g n x) (hk : KR K w sb mb l m) : ¬ KOuts w0 K sb mb g := by
  rintro (e | rfl | rfl)
  · exact e.2 h.mem
  · have h1 := h.cell
    rw [hk.at'.cell n] at h1
    match n, h1 with
    | 0, h1 => simp at h1
    | 1, h1 => simp at h1
    | 2, h1 => simp at h1
    | k + 3, h1 => simp at h1
  · obtain ⟨m', hm, _⟩ := hk.mp
    obtain ⟨es, clock, hb, _⟩ := hm.map
    have h1 := h.cell
    simp [World.cell?, hb] at h1

def k1 : Chg := ⟨⟨#[97]⟩, true, [49]⟩
def k2 : Chg := ⟨⟨#[97, 98]⟩, true, []⟩
def k3 : Chg := ⟨⟨#[97]⟩, false, []⟩
def k4 : Chg := ⟨⟨#[98]⟩, true, []⟩
def k5 : Chg := ⟨⟨#[122]⟩, true, []⟩
def k6 : Chg := ⟨⟨#[]⟩, false, []⟩
def k7 : Chg := ⟨⟨#[113]⟩, true, []⟩

def mK : List (List UInt8 × List UInt8) := [([97, 98], []), ([98], [])]

theorem k_ok : [k1, k2, k3, k4].all Chg.ok = true := by decide
theorem k_m : [k1, k2, k3, k4].foldl turnC [] = mK := by decide
theorem k_no : [k5, k6].all Chg.ok = false := by decide
theorem k7_ok : [k7].all Chg.ok = true := by decide
theorem k_a : keysOf mK [97] = [[97, 98]] := by decide
theorem k_all : keysOf mK [] = [[97, 98], [98]] := by decide
theorem k_len1 : [k1, k2, k3, k4].all (fun c => decide (c.laid.length ≤ 60)) = true := by decide
theorem k_len2 : [k5, k6].all (fun c => decide (c.laid.length ≤ 60)) = true := by decide
theorem k_len3 : (madeC mK).all (fun c => decide (c.laid.length ≤ 60)) = true := by decide
theorem k_len4 : [k7].all (fun c => decide (c.laid.length ≤ 60)) = true := by decide
theorem k_read : readC [0] = none := by
  have e : ((St.mk [0] false).take 1).2 = ⟨[], false⟩ := rfl
  have e2 : (St.mk [] false).short.1 = [] := rfl
  unfold readC
  rw [if_neg]
  rintro ⟨h, _⟩
  unfold takenC Chg.ok at h
  rw [e, e2] at h
  split at h <;> simp [ByteArray.size] at h

/-- A literal of changes, for a Store's Commit. -/
theorem kw_lit {w0 w w4 : World} {K : Nat → Prop} {sb mb l b N : Nat} {s : WSt} {F : Int → List Chunk} {a B R : Nat} {m : List (List UInt8 × List UInt8)} (h : KW w0 K w sb mb l b N s F a B R m) (t : Turn (fun _ => False) w w4) (cl : List (Value × Chg)) (hl : cl.length ≤ 1000)
    (hp : ∀ p ∈ cl, Sees w4 p.1 p.2.val ∧ (0 < p.2.val.length → ∀ j, slab p.1 = some j → w.heap.size ≤ j ∧ j < w4.heap.size) ∧ p.2.key.size ≤ 1099511627776 ∧ p.2.val.length ≤ 140737488355328) (cs : Array Value) (hcs : cs = (cells3 cl).toArray) (n : Nat) (hn : n = cl.length) :
    ∃ K5 Q : Nat → Prop, KW w0 K5 (w4.alloc (.cells cs 51)) sb mb l b N s F a B R m ∧ CLs Q (w4.alloc (.cells cs 51)) (.slice (some ⟨w4.heap.size, 0, none⟩) n n) cl ∧ (∀ j, Q j → j < (w4.alloc (.cells cs 51)).heap.size) ∧ (∀ j, Q j → ¬ KOuts w0 K5 sb mb j) ∧ ∀ j, K j → K5 j := by
  subst hcs
  subst hn
  have hC := CLs.lit (Q := fun j => w.heap.size ≤ j ∧ j < w4.heap.size) w4 cl 51 (by omega) hp
  have ta : Turn (fun _ => False) w4 (w4.alloc (.cells (cells3 cl).toArray 51)) := (Turn.refl _ _).alloc _
  have h5 := (h.goes t).goes ta
  have hs := ta.size
  have ht := t.size
  have hsb : sb < w.heap.size := h.kr.at'.lt
  have hmb : mb < w.heap.size := by
    obtain ⟨m', hm1, _⟩ := h.kr.mp
    exact hm1.lt
  refine ⟨_, _, h5, hC, fun j hj => ?_, fun j hj e => ?_, fun j hj => .inl (.inl hj)⟩
  · rcases hj with hj | hj
    · omega
    · exact hj.2
  · have hk : grow (grow K w w4) w4 (w4.alloc (.cells (cells3 cl).toArray 51)) j ∧ w.heap.size ≤ j := by
      rcases hj with hj | hj
      · exact ⟨.inl (.inr hj), hj.1⟩
      · exact ⟨.inr hj, by omega⟩
    rcases e with e | e | e
    · exact e.2 hk.1
    · omega
    · omega

theorem laid_ok70 (cl : List Chg) (k m : Int) (h : cl.all (fun c => decide (c.laid.length ≤ 60)) = true) (hn : cl.length ≤ 1000) : (laidOf k m (cl.map Chg.laid)).length ≤ 70000 := by
  have := laidOf_len k m 60 (cl.map Chg.laid) (fun x hx => by
    obtain ⟨c, hc, rfl⟩ := List.mem_map.1 hx
    simpa using List.all_eq_true.1 h c hc)
  rw [List.length_map] at this
  omega

set_option maxHeartbeats 8000000 in
set_option maxRecDepth 100000 in
theorem kvKnown_any (w : World) : Calls Tryz.prog 4 #[] w fun e w' => e = .returned (.bool true) ∧ Turn (fun _ => False) w w' := by
  go_enter Tryz.func4, Tryz.ntmps4
  go_wp2_with fail
  refine (dl_new (w0 := w) (K := fun _ => False) (fun _ h => h.elim) (Turn.refl _ w)).mono ?_
  rintro e w1 ⟨rfl, h1, _⟩
  obtain ⟨b, hb⟩ : ∃ b, b = w.heap.size := ⟨_, rfl⟩
  rw [← hb] at h1 ⊢
  clear hb
  have HO := hide (kw_open (F := fun _ => []) (n := 0) (B := 0) (R := 0) (m := []) 256 h1 rfl rfl dok_zero lid_zero (by omega) (by omega) (by omega) (by omega) (by omega) rfl (Nat.le_refl _) (by omega))
  clear h1
  go_wp2_with fail
  refine (unhide HO).mono ?_
  rintro e w2 ⟨sb, mb, l, K2, s2, a2, rfl, h2, _, _, ha2, hf2⟩
  have H2 := hide (And.intro h2 (And.intro ha2 hf2))
  clear HO h2 ha2 hf2
  go_wp2_with fail
  refine (kopen_nil 256 w2).mono ?_
  rintro e w3 ⟨rfl, rfl⟩
  go_wp2_with fail
  refine (known7_any w2).mono ?_
  rintro e w3 ⟨rfl, t3⟩
  have h3 := (unhide H2).1.goes t3
  generalize grow K2 w2 w3 = K3 at h3
  obtain ⟨w4, hcv4, hs4, t4⟩ := run_lit w3 [49] (by simp [maxLen])
  simp [u8s] at hcv4
  simp only [List.length_cons, List.length_nil, Nat.zero_add] at hs4
  have l4 := lit_lt hs4 (by simp)
  obtain ⟨K5, Q5, h5, hC5, hq5, hr5, _⟩ := kw_lit h3 t4 [(.slice (some ⟨w3.heap.size, 0, none⟩) 1 1, k1), (.slice none 0 0, k2), (.slice none 0 0, k3), (.slice none 0 0, k4)] (by simp) (by
    intro p hp
    simp only [List.mem_cons, List.not_mem_nil, or_false] at hp
    rcases hp with rfl | rfl | rfl | rfl
    · exact ⟨hs4, fun _ j hj => by simp [slab] at hj; omega, by simp [k1, ByteArray.size], by simp [k1]⟩
    · exact ⟨Sees.nil _, fun h0 => by simp [k2] at h0, by simp [k2, ByteArray.size], by simp [k2]⟩
    · exact ⟨Sees.nil _, fun h0 => by simp [k3] at h0, by simp [k3, ByteArray.size], by simp [k3]⟩
    · exact ⟨Sees.nil _, fun h0 => by simp [k4] at h0, by simp [k4, ByteArray.size], by simp [k4]⟩)
    #[.string ⟨#[97]⟩, .bool true, .slice (some ⟨w3.heap.size, 0, none⟩) 1 1, .string ⟨#[97, 98]⟩, .bool true, .slice none 0 0, .string ⟨#[97]⟩, .bool false, .slice none 0 0, .string ⟨#[98]⟩, .bool true, .slice none 0 0] rfl 4 rfl
  have HC := hide (kw_commit h5 hC5 hq5 hr5 (by simp) (by omega) (by have := (unhide H2).2.1; omega) (by omega) (by simp) k_ok (laid_ok70 [k1, k2, k3, k4] 1 2 k_len1 (by simp)))
  have hft := (unhide H2).2.2
  have Hft := hide (And.intro (unhide H2).2.1 hft)
  clear h3 t3 t4 hs4 h5 hC5 hq5 hr5 hft H2 l4
  go_wp2_with fail
  refine (unhide HC).mono ?_
  rintro e w6 ⟨_, K6, _, ⟨rfl, s6, G6, a6, h6, ha6, hf6⟩ | ⟨_, hfu, _⟩⟩
  rotate_left 1
  · rw [(unhide Hft).2] at hfu
    cases hfu
  have h6' : KW w K6 w6 sb mb l b (0 + 0 + 2) s6 G6 a6 (0 + 70000) (0 + 4) mK := by
    rw [← k_m]
    exact h6
  clear h6
  have h6 := h6'
  clear h6'
  have hA6 : a6 ≤ 1 := by have := (unhide Hft).1; omega
  have H6 := hide (And.intro h6 (And.intro ha6 hf6))
  obtain ⟨K7, Q7, h7, hC7, hq7, hr7, _⟩ := kw_lit h6 (Turn.refl _ w6) [(.slice none 0 0, k5), (.slice none 0 0, k6)] (by simp) (by
    intro p hp
    simp only [List.mem_cons, List.not_mem_nil, or_false] at hp
    rcases hp with rfl | rfl
    · exact ⟨Sees.nil _, fun h0 => by simp [k5] at h0, by simp [k5, ByteArray.size], by simp [k5]⟩
    · exact ⟨Sees.nil _, fun h0 => by simp [k6] at h0, by simp [k6, ByteArray.size], by simp [k6]⟩)
    #[.string ⟨#[122]⟩, .bool true, .slice none 0 0, .string ⟨#[]⟩, .bool false, .slice none 0 0] rfl 2 rfl
  have HC7 := hide (kw_commit_no h7 hC7 hq7 hr7 (by simp) (by omega) (by have := (unhide Hft).1; omega) (by omega) (by simp [mK]) k_no (laid_ok70 [k5, k6] 1 2 k_len2 (by simp)))
  clear HC h6 ha6 hf6 hcv4 h7 hC7 hq7 hr7
  go_wp2_with fail
  refine (unhide HC7).mono ?_
  rintro e w8 ⟨rfl, _, K8, _, h8⟩
  have HKy := hide (by obtain ⟨f, t, hk⟩ := h8.ks; exact kkeys_any hk ⟨#[97]⟩ (by simp [mK]))
  have H8 := hide h8
  clear HC7 h8
  go_wp2_with fail
  refine (unhide HKy).mono ?_
  rintro e w9 ⟨v9, rfl, hx9⟩
  have h9 := (unhide H8).goes hx9.turn
  have hka : keysOf mK (⟨#[97]⟩ : ByteArray).data.toList = [[97, 98]] := k_a
  rw [hka] at hx9
  have HCt := hide (kcount_any h9.kr)
  have H9 := hide h9
  obtain ⟨ka, kc, hve, hc9, hn9, hl9⟩ := hx9.at 0 [97, 98] rfl
  have Hc9 : Hid (TextAt (grow K8 w8 w9) w9 ka 0 ⟨#[97, 98]⟩) := hide ⟨hc9, .inr ⟨hn9, hl9⟩⟩
  simp only [List.length_cons, List.length_nil, Nat.zero_add] at hve
  subst hve
  clear HKy H8 h9 hx9 hka hc9 hn9 hl9
  go_wp2_with fail
  refine (unhide HCt).mono ?_
  rintro e w10 ⟨rfl, rfl⟩
  have HCk := hide (kw_checkpoint (unhide H9) (by omega) (by have := (unhide Hft).1; have := (unhide H6).2.1; omega) (by omega) (by simp [mK]) (laid_ok70 (madeC mK) 3 4 k_len3 (by simp [madeC, mK])) (by simp [mK]))
  clear HCt
  go_wp2_with fail
  refine (unhide HCk).mono ?_
  rintro e w11 ⟨t11, K11, hK11, ⟨rfl, s11, G11, a11, h11, ha11, hf11⟩ | ⟨_, hfu, _⟩⟩
  rotate_left 1
  · rw [(unhide H6).2.2, (unhide Hft).2] at hfu
    cases hfu
  have Hc11 := hide (((unhide Hc9).kept t11 ((unhide Hc9).apart (unhide H9).kr)).mono hK11)
  have hfz : s11.d.fused = false := by rw [hf11, (unhide H6).2.2, (unhide Hft).2]
  have hab : a11 ≤ 2 := by have := (unhide Hft).1; have := (unhide H6).2.1; omega
  have HO := hide (kw_open 256 h11.dl h11.ok.dead hfz h11.ok.dok h11.lid (by omega) (by omega) (by omega) (by omega) (by omega) h11.rep h11.few (by simp))
  have Hab := hide hab
  clear HCk t11 hK11 h11 ha11 hf11 hfz hab Hc9 H9 H6 Hft
  go_wp2_with fail
  refine (unhide HO).mono ?_
  rintro e w12 ⟨sb, mb, l, K12, s12, a12, rfl, h12, hK12, t12, ha12, hf12⟩
  have Hc12 := hide (((unhide Hc11).kept t12 (fun e => e.2 (unhide Hc11).mem)).mono hK12)
  have HKy := hide (by obtain ⟨f, t, hk⟩ := h12.ks; exact kkeys_any hk ⟨#[]⟩ (by simp [mK]))
  have H12 := hide (And.intro h12 ha12)
  clear HO h12 hK12 t12 ha12 hf12 Hc11
  go_wp2_with fail
  refine (unhide HKy).mono ?_
  rintro e w13 ⟨v13, rfl, hx13⟩
  have h13 := (unhide H12).1.goes hx13.turn
  have hka : keysOf mK (⟨#[]⟩ : ByteArray).data.toList = [[97, 98], [98]] := k_all
  rw [hka] at hx13
  obtain ⟨kb, kd, hvb, hcb, hnb, hlb⟩ := hx13.at 1 [98] rfl
  have Hb13 : Hid (TextAt (grow K12 w12 w13) w13 kb 1 ⟨#[98]⟩) := hide ⟨hcb, .inr ⟨hnb, hlb⟩⟩
  have Ha13 := hide (((unhide Hc12).kept hx13.turn (fun e => e)).mono (K' := grow K12 w12 w13) (fun j hj => .inl hj))
  simp only [List.length_cons, List.length_nil, Nat.zero_add, Nat.reduceAdd] at hvb
  have HFz := hide (kw_fuse 0 h13 (by omega) (by omega))
  subst hvb
  clear HKy Hc12 h13 hx13 hka hcb hnb hlb
  go_wp2_with fail
  refine (unhide HFz).mono ?_
  rintro e w14 ⟨rfl, h14, t14⟩
  have Ha14 := hide ((unhide Ha13).kept t14 (fun e => e.2 (unhide Ha13).mem))
  have Hb14 := hide ((unhide Hb13).kept t14 (fun e => e.2 (unhide Hb13).mem))
  obtain ⟨K15, Q15, h15, hC15, hq15, hr15, hk15⟩ := kw_lit h14 (Turn.refl _ w14) [(.slice none 0 0, k7)] (by simp) (by
    intro p hp
    simp only [List.mem_cons, List.not_mem_nil, or_false] at hp
    subst hp
    exact ⟨Sees.nil _, fun h0 => by simp [k7] at h0, by simp [k7, ByteArray.size], by simp [k7]⟩)
    #[.string ⟨#[113]⟩, .bool true, .slice none 0 0] rfl 1 rfl
  have ta : Turn (fun _ => False) w14 (w14.alloc (.cells #[.string ⟨#[113]⟩, .bool true, .slice none 0 0] 51)) := (Turn.refl _ _).alloc _
  have Ha15 := hide (((unhide Ha14).kept ta (fun e => e)).mono hk15)
  have Hb15 := hide (((unhide Hb14).kept ta (fun e => e)).mono hk15)
  have hdn : ({ s12 with d := s12.d.fuse 0 } : WSt).d.down = true := by
    show (s12.d.dead || (decide ((0 : Int) ≤ 0) && ((0 : Int) == 0))) = true
    simp
  have hat : 0 ≤ ({ s12 with d := s12.d.fuse 0 } : WSt).to.1 := by
    unfold WSt.to
    have := h15.ok.at'
    simp only at this ⊢
    split
    · show 0 ≤ s12.at' + 1; omega
    · show 0 ≤ s12.at'; omega
  have hcf := commit_falls (s := { s12 with d := s12.d.fuse 0 }) h15.ok.down hdn (l := [k7].map Chg.laid) (by simp) hat
  have hlidn := h15.lid.now ({ s12 with d := s12.d.fuse 0 } : WSt).to.1
  have HC15 : Hid (Calls Tryz.prog 24 #[.pointer (some ⟨sb, 0, none⟩), .slice (some ⟨w14.heap.size, 0, none⟩) 1 1] (w14.alloc (.cells #[.string ⟨#[113]⟩, .bool true, .slice none 0 0] 51)) fun e w' => e = .returned (.int .i64 14) ∧ Turn (KOuts w K15 sb mb) (w14.alloc (.cells #[.string ⟨#[113]⟩, .bool true, .slice none 0 0] 51)) w' ∧ ∃ N' f' t' s', ∃ K' : Nat → Prop, (∀ j, K15 j → K' j) ∧ KD w K' w' sb l b f' t' N' s') := hide (by
    obtain ⟨f, t, hk⟩ := h15.ks
    have hcall := kcommit_any (.slice (some ⟨w14.heap.size, 0, none⟩) 1 1) [(Value.slice none 0 0, k7)] hk hC15 hq15 hr15 (h15.ok.oks h15.lid (by have := (unhide H12).2; have := unhide Hab; omega) (by omega)) (by simp) (by have := unhide Hab; omega) (by have := laid_ok70 [k7] 1 2 k_len4 (by simp); have e : ([(Value.slice none 0 0, k7)].map (·.2)).map Chg.laid = [k7].map Chg.laid := rfl; rw [e]; omega) (by simp [mK])
    refine hcall.mono ?_
    have e1 : ([(Value.slice none 0 0, k7)].map (·.2)).map Chg.laid = [k7].map Chg.laid := rfl
    rintro e w' ⟨t1, K', hk', hh⟩
    rw [e1, hcf] at hh
    rcases hh with ⟨hbad, _⟩ | ⟨_, _, rfl, h1⟩ | ⟨_, hz, _⟩
    · exact absurd (show [k7].all Chg.ok = false from hbad) (by rw [k7_ok]; simp)
    · exact ⟨rfl, t1, _, f, t, _, K', hk', h1⟩
    · cases hz)
  have Happ := hide (And.intro ((unhide Ha15).apart (w0 := w) h15.kr) ((unhide Hb15).apart (w0 := w) h15.kr))
  clear HFz h14 t14 h15 hC15 hq15 hr15 hk15 ta hdn hat hcf hlidn H12 Ha13 Hb13 Ha14 Hb14
  go_wp2_with fail
  refine (unhide HC15).mono ?_
  rintro e w16 ⟨rfl, t16, N16, f16, t16', s16, K16, hK16, h16⟩
  have Ha16 := hide (((unhide Ha15).kept t16 (unhide Happ).1).mono hK16)
  have Hb16 := hide (((unhide Hb15).kept t16 (unhide Happ).2).mono hK16)
  have H16 := hide h16
  clear HC15 t16 hK16 h16 Happ Ha15 Hb15
  go_wp2_with fail
  refine (kchk_dead (unhide H16)).mono ?_
  rintro e w17 ⟨rfl, rfl⟩
  obtain ⟨w18, hcv18, hs18, t18⟩ := run_lit w16 [120] (by simp [maxLen])
  simp [u8s] at hcv18
  simp only [List.length_cons, List.length_nil, Nat.zero_add] at hs18
  have HLy := hide (klay_no ⟨#[97]⟩ false _ [120] w18 hs18 (by simp [maxLen, ByteArray.size]) (by decide))
  have T18 := hide t18
  clear t18 hs18
  go_wp2_with fail
  refine (unhide HLy).mono ?_
  rintro e w19 ⟨rfl, t19⟩
  have hs20 := Sees.one w19 0 5 (by omega) (by omega)
  have t20 : Turn (fun _ => False) w19 (w19.alloc (.cells #[.int .u8 0] 5)) := (Turn.refl _ _).alloc _
  have HRd := hide (kread_any _ _ _ hs20 (by simp) (fun _ j hj => by simp [slab] at hj; rw [← hj]; simp))
  have e0 : [UInt8.ofNat (0 : Int).toNat] = [(0 : UInt8)] := rfl
  rw [e0, k_read] at HRd
  have T20 := hide (((unhide T18).trans t19).trans t20)
  clear hs20 t20 t19 HLy hcv18 e0
  go_wp2_with fail
  refine (unhide HRd).mono ?_
  rintro e w21 ⟨t21, rfl⟩
  have ta : Turn (fun _ => False) w21 (w21.alloc (.cells #[.string ⟨#[]⟩, .bool false, .slice none 0 0] 51)) := (Turn.refl _ _).alloc _
  have tt := ((unhide T20).trans t21).trans ta
  have h22 := (unhide H16).goes tt
  have Hk1 := (unhide Ha16).kept tt (fun e => e)
  have Hk2 := (unhide Hb16).kept tt (fun e => e)
  have d1 := Hk1.cell
  have d2 := Hk2.cell
  have HDd := hide (kdead_yes h22)
  have HCt := hide (kcount_dead h22)
  have ht := h22.li.dl.turn
  have hml : ((mK.length : Nat) : Int) = 2 := rfl
  clear HRd t21 ta tt h22 Hk1 Hk2 Ha16 Hb16 H16 T20
  go_wp2_with fail
  refine (unhide HDd).mono ?_
  rintro e w23 ⟨rfl, rfl⟩
  go_wp2_with fail
  refine (unhide HCt).mono ?_
  rintro e w24 ⟨rfl, rfl⟩
  go_wp2
  go_ret
  exact ⟨rfl, ht⟩

end Go.Proofs.YteomehdkfhjbeaaGreat
