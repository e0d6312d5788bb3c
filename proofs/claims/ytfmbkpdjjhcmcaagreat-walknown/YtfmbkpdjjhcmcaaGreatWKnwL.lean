/- The law WalKnown: its walk. -/
import Derived.Test.YtfmbkpdjjhcmcaaGreatWKnw
namespace Go.Proofs.YtfmbkpdjjhcmcaaGreat
open Go.RowKit

section
variable {w0 w w1 : World} {K : Nat → Prop} {l b f t N : Nat} {s : WSt}

/-- One record of new memory, for a Log's law. -/
theorem li_rec (x : List UInt8) {v : Value} (h : LI w0 K w l b f t N s) (hs : Sees w1 v x) (tn : Turn (fun _ => False) w w1) (hv : 0 < x.length → ∀ j, slab v = some j → w.heap.size ≤ j) (w2 : World) (hw2 : w2 = w1.alloc (.cells #[v] 31)) :
    ∃ K2 : Nat → Prop, LI w0 K2 w2 l b f t N s ∧ RL K2 w2 (.slice (some ⟨w1.heap.size, 0, none⟩) 1 1) [(v, x)] ∧ (∀ j, K j → K2 j) ∧ Turn (fun _ => False) w w2 := by
  subst hw2
  have h1 := h.goes tn
  have ta : Turn (fun _ => False) w1 (w1.alloc (.cells #[v] 31)) := (Turn.refl _ _).alloc _
  refine ⟨_, h1.goes ta, RL.lit (Q := grow K w w1) w1 [(v, x)] 31 (by simp [maxLen]) ?_, fun j hj => .inl (.inl hj), tn.trans ta⟩
  intro p hp
  simp only [List.mem_singleton] at hp
  subst hp
  exact ⟨hs, fun h0 j hj => .inr ⟨hv h0 j hj, slab_lt hs h0 hj⟩⟩

end

theorem HeldI.cell6 {K : Nat → Prop} {w : World} {v : Value} {x : Int} (h : HeldI K w v [x]) : ∃ g c, v = .slice (some ⟨g, 0, none⟩) 1 c ∧ w.cell? ⟨g, 0, none⟩ = some (.int .i64 x) := by
  rcases h.own.shape with ⟨_, h1⟩ | ⟨g, cap, h0, _⟩
  · simp [i64s] at h1
  · refine ⟨g, cap, h0, ?_⟩
    rcases h.own.sees with ⟨h1, _⟩ | ⟨a, cap', e, _, _, hc⟩
    · rw [h0] at h1; simp at h1
    · rw [h0] at e
      simp only [Value.slice.injEq, Option.some.injEq] at e
      have hh := hc 0 (.int .i64 x) rfl
      rwa [← e.1, addr_lit] at hh

theorem HeldI.more {K K' : Nat → Prop} {w : World} {v : Value} {l : List Int} (h : HeldI K w v l) (hK : ∀ j, K j → K' j) : HeldI K' w v l := ⟨h.own, fun k hk => hK k (h.mem k hk)⟩

set_option maxHeartbeats 8000000 in
set_option maxRecDepth 100000 in
theorem walKnown_any (w : World) : Calls Tryz.prog 3 #[] w fun e w' => e = .returned (.bool true) ∧ Turn (fun _ => False) w w' := by
  go_enter Tryz.func3, Tryz.ntmps3
  go_wp2_with fail
  refine (open_arg (.pointer none) 256 w (.inl rfl)).mono ?_
  rintro e w1 ⟨rfl, rfl⟩
  go_wp2_with fail
  refine (dl_new (w0 := w) (K := fun _ => False) (fun _ h => h.elim) (Turn.refl _ w)).mono ?_
  rintro e w1 ⟨rfl, h1, _⟩
  obtain ⟨b, hb⟩ : ∃ b, b = w.heap.size := ⟨_, rfl⟩
  rw [← hb] at h1 ⊢
  clear hb
  go_wp2_with fail
  refine (known6_any w1).mono ?_
  rintro e w2 ⟨rfl, t2⟩
  have h2 := h1.new t2
  clear h1 t2
  generalize grow (fun _ => False) w1 w2 = K at h2
  go_wp2_with fail
  refine (open_arg (.pointer (some ⟨b, 0, none⟩)) 255 w2 (.inr ⟨⟨b, rfl⟩, by omega⟩)).mono ?_
  rintro e w3 ⟨rfl, rfl⟩
  have hz : ∀ ns, DSt.zero.Nums ns → ns = [] := fun ns hn => by
    cases ns with
    | nil => rfl
    | cons k r => exact absurd rfl ((hn.2 k).1 (by simp))
  have HO := hide (open_any (seg := 256) 0 0 h2 rfl (by omega) (by omega) (fun ns hn => by rw [hz ns hn]; simp) (fun _ => Nat.le_refl _) (by omega) (by omega) (fun k hk => absurd rfl hk))
  clear h2
  go_wp2_with fail
  refine (unhide HO).mono ?_
  rintro e w3 ⟨ns, hn, ho⟩
  rw [hz ns hn] at ho
  obtain ⟨l, f, t, rv, rl, K3, rfl, h3, hr3, he3, _, _⟩ := ho
  have e3 : rl = [] := by
    have e4 : rl.map (·.2) = [] := he3
    simpa using e4
  subst e3
  obtain ⟨ro, rc, rfl⟩ := hr3.shape
  simp only [List.length_nil]
  have h3' : LI w K3 w3 l b f t 0 ⟨DSt.zero, 256, 0, 0, false⟩ := h3
  clear HO hr3 he3 h3 hn hz
  have HC := hide (commit_any h3' ⟨by decide, by decide, by decide, by decide⟩ (RL.nil (fun _ => False) w3) (fun _ e => e.elim) (fun ⟨p, hp, _⟩ => by simp at hp) (by omega) (by decide))
  have e0 : (⟨DSt.zero, 256, 0, 0, false⟩ : WSt).commit (([] : List (Value × List UInt8)).map (·.2)) = (0, ⟨DSt.zero, 256, 0, 0, false⟩) := rfl
  rw [e0] at HC
  clear h3' e0
  go_wp2_with fail
  refine (unhide HC).mono ?_
  rintro e w4 ⟨rfl, h4, _⟩
  simp only at h4
  clear HC
  obtain ⟨w5, bs5, hmk5, hb5, hs5, t5⟩ := make_any6 w4 1048577 (by omega)
  change (Instr.makeSlice _ (.int .i64 1048577) (.int .i64 1048577)).run _ _ = _ at hmk5
  obtain ⟨w6, hw6⟩ : ∃ w6, w6 = w5.alloc (.cells #[.slice (some ⟨w4.heap.size, 0, none⟩) 1048577 1048577] 31) := ⟨_, rfl⟩
  obtain ⟨K6, h6, hr6, _, _⟩ := li_rec bs5 h4 hs5 t5 (fun _ j hj => by simp [slab] at hj; omega) w6 hw6
  have HC := hide (commit_long l w6 hr6 ⟨_, List.mem_singleton.2 rfl, by simp only; omega⟩)
  have Hw6 := hide hw6
  clear h4 hr6 hs5 t5 hb5 hw6
  go_wp2_with fail
  rw [← unhide Hw6]
  refine (unhide HC).mono ?_
  rintro e w7 ⟨rfl, rfl⟩
  clear HC Hw6 hmk5
  go_wp2_with fail
  refine (dl_works (h6.dl)).mono ?_
  rintro e w7 ⟨rfl, rfl⟩
  rw [show ((DSt.zero.works : Nat) : Int) = 0 from rfl]
  obtain ⟨w7, bs7, hmk7, hb7, hs7, t7⟩ := make_any6 w6 300 (by omega)
  change (Instr.makeSlice _ (.int .i64 300) (.int .i64 300)).run _ _ = _ at hmk7
  obtain ⟨w8, hw8⟩ : ∃ w8, w8 = w7.alloc (.cells #[.slice (some ⟨w6.heap.size, 0, none⟩) 300 300] 31) := ⟨_, rfl⟩
  obtain ⟨K8, h8, hr8, _, _⟩ := li_rec bs7 h6 hs7 t7 (fun _ j hj => by simp [slab] at hj; omega) w8 hw8
  have hl1 := laid_one 1 2 bs7
  have hk := known_two [bs7] [[120]] (by simp) (by simp) (by omega)
  have hf1 : ∀ x ∈ [bs7], x.length ≤ 1048576 := fun x hx => by simp only [List.mem_singleton] at hx; subst hx; omega
  obtain ⟨G1, o1, u1, _⟩ := known_one [bs7] hk.2.1 hf1
  have d1 := lid_zero.commit (s := s0K) [bs7]
  have HC := hide (commit_any h8 ⟨by decide, by decide, by decide, by decide⟩ hr8 (fun j hj => .inr hj) (fun ⟨p, hp, hq⟩ => by simp only [List.mem_singleton] at hp; subst hp; simp only at hq; omega) (by omega) (by show 0 + (laidOf 1 2 [bs7]).length ≤ _; omega))
  have e1 : (s0K.commit ([((.slice (some ⟨w6.heap.size, 0, none⟩) 300 300 : Value), bs7)].map (·.2))) = s0K.commit [bs7] := rfl
  rw [e1] at HC
  have Hk := hide hk
  have Ho1 := hide (And.intro o1 (And.intro u1 d1))
  have Hw8 := hide hw8
  clear h6 h8 hr8 hs7 t7 hw8 e1 o1 u1 d1 hk hf1
  go_wp2_with fail
  rw [← unhide Hw8]
  refine (unhide HC).mono ?_
  rintro e w9 ⟨rfl, h9, _⟩
  rw [show (s0K.commit [bs7]).1 = 0 from (unhide Hk).1]
  clear HC Hw8 hmk7
  obtain ⟨s1, hs1⟩ : ∃ s1, s1 = (s0K.commit [bs7]).2 := ⟨_, rfl⟩
  rw [← hs1] at h9 Ho1
  obtain ⟨wa, hcva, hsa, ta⟩ := run_lit w9 [120] (by simp [maxLen])
  simp [u8s] at hcva
  simp only [List.length_cons, List.length_nil, Nat.zero_add] at hsa
  obtain ⟨wb, hwb⟩ : ∃ wb, wb = wa.alloc (.cells #[.slice (some ⟨w9.heap.size, 0, none⟩) 1 1] 31) := ⟨_, rfl⟩
  obtain ⟨Kb, hbL, hrb, _, _⟩ := li_rec [120] h9 hsa ta (fun _ j hj => by simp [slab] at hj; omega) wb hwb
  have ok1 := (unhide Ho1).1.oks (unhide Ho1).2.2 (by omega) (by omega)
  have hnow1 := (unhide Ho1).2.2.now s1.to.1
  have hl2 := laid_one 1 2 [120]
  simp only [List.length_cons, List.length_nil] at hl2
  have HC := hide (commit_any hbL ok1 hrb (fun j hj => .inr hj) (fun ⟨p, hp, hq⟩ => by simp only [List.mem_singleton] at hp; subst hp; simp at hq) (by omega) (by show _ + (laidOf 1 2 [[120]]).length ≤ _; omega))
  have e1 : (s1.commit ([((.slice (some ⟨w9.heap.size, 0, none⟩) 1 1 : Value), [120])].map (·.2))) = s1.commit [[120]] := rfl
  rw [e1] at HC
  have hk2 : (s1.commit [[120]]).1 = 0 ∧ (s1.commit [[120]]).2.at' = 1 ∧ 0 < (s1.commit [[120]]).2.size ∧ (s1.commit [[120]]).2.d.Nums [0, 1] := by rw [hs1]; exact (unhide Hk).2.2
  obtain ⟨G2, o2, u2⟩ := known_next (b := 1) (unhide Ho1).1 (unhide Ho1).2.1 [[120]] hk2.2.1 (by simp)
  have d2 := (unhide Ho1).2.2.commit [[120]]
  have Hk2 := hide hk2
  have Ho2 := hide (And.intro o2 (And.intro u2 (d2.mono (show _ ≤ 1000 by omega))))
  have Hwb := hide hwb
  clear h9 hbL hrb hsa ta hwb e1 ok1 hnow1 hk2 o2 u2 d2 Hk Ho1 hs1 hl1
  go_wp2_with fail
  rw [← unhide Hwb]
  refine (unhide HC).mono ?_
  rintro e wc ⟨rfl, hc, _⟩
  rw [(unhide Hk2).1]
  clear HC Hwb hcva
  generalize (s1.commit [[120]]).2 = s2 at *
  go_wp2_with fail
  refine (segments_any hc (by omega)).mono ?_
  rintro e wd ⟨vd, ld, rfl, md, nd, hd⟩
  obtain rfl : ld = [0, 1] := rise_same nd.1 (unhide Hk2).2.2.2.1 (fun k => by rw [nd.2 k, (unhide Hk2).2.2.2.2 k])
  obtain ⟨do', dc', rfl⟩ := md.shape
  simp only [List.length_cons, List.length_nil, Nat.zero_add, Nat.reduceAdd]
  clear hc md nd
  obtain ⟨we, hcve, hse, te⟩ := run_lit wd [121] (by simp [maxLen])
  simp [u8s] at hcve
  simp only [List.length_cons, List.length_nil, Nat.zero_add] at hse
  obtain ⟨wf, hwf⟩ : ∃ wf, wf = we.alloc (.cells #[.slice (some ⟨wd.heap.size, 0, none⟩) 1 1] 31) := ⟨_, rfl⟩
  obtain ⟨Kf, hf, hrf, _, _⟩ := li_rec [121] hd hse te (fun _ j hj => by simp [slab] at hj; omega) wf hwf
  have hLW : LW w Kf wf l b _ s2 G2 1 1000 := ⟨⟨f, t, hf⟩, (unhide Ho2).1, (unhide Ho2).2.2⟩
  have hl3 := laid_one 3 4 [121]
  simp only [List.length_cons, List.length_nil] at hl3
  have HC := hide (lw_checkpoint hLW hrf (fun j hj => .inr hj) (by simp) (by show (laidOf 3 4 [[121]]).length ≤ _; omega) (by omega) (by omega) (by omega))
  have Hwf := hide hwf
  have hpl : s2.place = 2 := by
    unfold WSt.place
    rw [if_pos (unhide Hk2).2.2.1, (unhide Hk2).2.1]
    rfl
  have Hpl := hide hpl
  clear hd hf hrf hse te hwf hLW hl3 hpl
  go_wp2_with fail
  rw [← unhide Hwf]
  refine (unhide HC).mono ?_
  rintro e wg ⟨_, ⟨rfl, s3, G3, a3, h3, _, hfu3, _, he3, hone⟩ | ⟨_, hf', _⟩⟩
  rotate_left
  · rw [(unhide Ho2).2.1] at hf'
    simp at hf'
  obtain ⟨n3, p3⟩ := hone rfl
  have ha3 : a3 = 2 := by rw [unhide Hpl] at p3; omega
  subst ha3
  have n3' : s3.d.Nums [2] := n3
  clear n3
  have n3 := n3'
  clear n3'
  have hfu3' : s3.d.fused = false := hfu3.trans (unhide Ho2).2.1
  have he3' : (frun G3 3).1 = [[121]] := he3
  clear HC Hwf hcve hone p3 hfu3 he3 Ho2 Hk2 Hpl
  obtain ⟨f3, t3, hi3⟩ := h3.li
  have o3 := h3.ok
  have d3 := h3.lid
  have H3 := hide (And.intro o3 (And.intro d3 (And.intro hfu3' he3')))
  have HS := hide (segments_any hi3 (by omega))
  clear h3 hi3 o3 d3 hfu3' he3'
  go_wp2_with fail
  refine (unhide HS).mono ?_
  rintro e wh ⟨vh, lh, rfl, mh, nh, hh⟩
  obtain rfl : lh = [2] := rise_same nh.1 n3.1 (fun k => by rw [nh.2 k, n3.2 k])
  have hH : HeldI (grow Kf wg wh) wh vh [2] := mh.held
  obtain ⟨ho', hc', hve⟩ := mh.shape
  simp only [List.length_cons, List.length_nil, Nat.zero_add] at hve
  have hLW : LW w (grow Kf wg wh) wh l b _ s3 G3 2 (1000 + 70000) := ⟨⟨f3, t3, hh⟩, (unhide H3).1, (unhide H3).2.1⟩
  have HO := hide (lw_open 256 hLW.dl (unhide H3).1.dead (unhide H3).2.2.1 (unhide H3).1.dok (unhide H3).2.1 (by omega) (by omega) (by omega) (by omega) (by omega))
  have HH := hide hH
  clear HS mh nh n3 hh hH hLW
  rw [hve]
  rw [hve] at HH
  clear hve
  go_wp2_with fail
  refine (unhide HO).mono ?_
  rintro e wi ⟨l4, rv, rl4, K4, s4, a4, rfl, h4, hr4, he4, hK4, t4, ha4, _, hfu4, _⟩
  rw [(unhide H3).2.2.2] at he4
  obtain ⟨p4, rfl⟩ := one_of6 he4
  have hH4 := ((unhide HH).disk t4).more hK4
  obtain ⟨ro4, rc4, hre⟩ := hr4.shape
  simp only [List.length_cons, List.length_nil, Nat.zero_add] at hre
  subst hre
  obtain ⟨f4, t4', hi4⟩ := h4.li
  have ok4 := h4.ok.oks h4.lid (by omega) (by omega)
  have H4 := hide (And.intro h4.ok (And.intro h4.lid ok4))
  have HF := hide (dl_fuse 0 hi4.dl (by omega) (by omega))
  have HR4 := hide hr4
  have HH4 := hide hH4
  have HI4 := hide hi4
  clear HO HH H3 h4 hr4 he4 hK4 t4 hi4 ok4 hH4
  go_wp2_with fail
  refine (unhide HF).mono ?_
  rintro e wj ⟨rfl, hdj, tj⟩
  have hj := (unhide HI4).disk hdj tj
  have hRj := (unhide HR4).kept (own_less tj) (fun j hj e => e.2 hj)
  have hHj := (unhide HH4).disk (own_less tj)
  obtain ⟨s5, hs5⟩ : ∃ s5, s5 = ({ s4 with d := s4.d.fuse 0 } : WSt) := ⟨_, rfl⟩
  rw [← hs5] at hj
  have ok5 : s5.Ok := by rw [hs5]; exact ⟨(unhide H4).2.2.at0, (unhide H4).2.2.at1, (unhide H4).2.2.size0, (unhide H4).2.2.size1⟩
  have dn5 : s5.down = false := by rw [hs5]; exact (unhide H4).1.down
  have dd5 : s5.d.down = true := by rw [hs5]; show ((s4.d.fuse 0).dead || ((s4.d.fuse 0).fused && (s4.d.fuse 0).left == 0)) = true; simp [DSt.fuse]
  have ld5 : Lid (1000 + 70000) s5.d := by rw [hs5]; exact (unhide H4).2.1
  have H5 := hide (And.intro ok5 (And.intro dn5 (And.intro dd5 ld5)))
  clear HF HI4 HR4 HH4 H4 hdj tj hs5 ok5 dn5 dd5 ld5
  obtain ⟨wk, hcvk, hsk, tk⟩ := run_lit wj [122] (by simp [maxLen])
  simp [u8s] at hcvk
  simp only [List.length_cons, List.length_nil, Nat.zero_add] at hsk
  obtain ⟨wl, hwl⟩ : ∃ wl, wl = wk.alloc (.cells #[.slice (some ⟨wj.heap.size, 0, none⟩) 1 1] 31) := ⟨_, rfl⟩
  obtain ⟨Kl, hl, hrl, hKl, tl⟩ := li_rec [122] hj hsk tk (fun _ j hj => by simp [slab] at hj; omega) wl hwl
  have hRl := (hRj.kept tl (fun _ _ e => e)).mono hKl
  have hHl : HeldI Kl wl _ [2] := ⟨hHj.own.kept tl (fun _ _ e => e), fun k hk => hKl k (hHj.mem k hk)⟩
  have hlz := laid_one 1 2 [122]
  simp only [List.length_cons, List.length_nil] at hlz
  have hnow5 := (unhide H5).2.2.2.now s5.to.1
  have HC := hide (commit_any hl (unhide H5).1 hrl (fun j hj => .inr hj) (fun ⟨p, hp, hq⟩ => by simp only [List.mem_singleton] at hp; subst hp; simp at hq) (by omega) (by show _ + (laidOf 1 2 [[122]]).length ≤ _; omega))
  have hto : 0 ≤ s5.to.1 := by
    have := (unhide H5).1.at0
    unfold WSt.to
    split
    · show 0 ≤ s5.at' + 1; omega
    · exact this
  have e1 : (s5.commit ([((.slice (some ⟨wj.heap.size, 0, none⟩) 1 1 : Value), [122])].map (·.2))) = (14, s5.fell s5.d.fall) := commit_falls (unhide H5).2.1 (unhide H5).2.2.1 (by simp) hto
  rw [e1] at HC
  have Hwl := hide hwl
  have HRl := hide hRl
  have HHl := hide hHl
  clear hj hRj hHj hsk tk hwl hl hrl hKl tl hRl hHl hnow5 hto e1
  go_wp2_with fail
  rw [← unhide Hwl]
  refine (unhide HC).mono ?_
  rintro e wm ⟨rfl, hm, tm⟩
  have hRm := (unhide HRl).kept tm (fun j hj e => e.2 hj)
  have hHm := (unhide HHl).disk tm
  have HCr := hide (dl_crash 0 0 hm.dl (by omega) ((show Lid (1000 + 70000) (s5.fell s5.d.fall).d from (unhide H5).2.2.2).big (by omega)))
  have HM := hide hm
  have HRm := hide hRm
  have HHm := hide hHm
  clear HC Hwl HRl HHl hm tm hRm hHm hcvk
  go_wp2_with fail
  refine (unhide HCr).mono ?_
  rintro e wn ⟨rfl, hdn, tn⟩
  have hn := (unhide HM).disk hdn tn
  have hRn := (unhide HRm).kept (own_less tn) (fun j hj e => e.2 hj)
  have hHn := (unhide HHm).disk (own_less tn)
  obtain ⟨s6, hs6⟩ : ∃ s6, s6 = ({ s5.fell s5.d.fall with d := (s5.fell s5.d.fall).d.crash 0 0 } : WSt) := ⟨_, rfl⟩
  rw [← hs6] at hn
  have ok6 : s6.Ok := by rw [hs6]; exact ⟨(unhide H5).1.at0, (unhide H5).1.at1, (unhide H5).1.size0, (unhide H5).1.size1⟩
  have dn6 : s6.down = true := by rw [hs6]; rfl
  have ld6 : Lid (1000 + 70000) s6.d := by rw [hs6]; exact (show Lid (1000 + 70000) (s5.fell s5.d.fall).d from (unhide H5).2.2.2).crash 0 0
  have H6 := hide (And.intro ok6 (And.intro dn6 ld6))
  clear HCr HM HRm HHm hdn tn hs6 ok6 dn6 ld6 H5
  obtain ⟨wo, hcvo, hso, to'⟩ := run_lit wn [122] (by simp [maxLen])
  simp [u8s] at hcvo
  simp only [List.length_cons, List.length_nil, Nat.zero_add] at hso
  obtain ⟨wp, hwp⟩ : ∃ wp, wp = wo.alloc (.cells #[.slice (some ⟨wn.heap.size, 0, none⟩) 1 1] 31) := ⟨_, rfl⟩
  obtain ⟨Kp, hp, hrp, hKp, tp⟩ := li_rec [122] hn hso to' (fun _ j hj => by simp [slab] at hj; omega) wp hwp
  have hRp := (hRn.kept tp (fun _ _ e => e)).mono hKp
  have hHp : HeldI Kp wp _ [2] := ⟨hHn.own.kept tp (fun _ _ e => e), fun k hk => hKp k (hHn.mem k hk)⟩
  have hnow6 := (unhide H6).2.2.now s6.to.1
  have HC := hide (commit_any hp (unhide H6).1 hrp (fun j hj => .inr hj) (fun ⟨p, hp, hq⟩ => by simp only [List.mem_singleton] at hp; subst hp; simp at hq) (by omega) (by show _ + (laidOf 1 2 [[122]]).length ≤ _; omega))
  have e1 : (s6.commit ([((.slice (some ⟨wn.heap.size, 0, none⟩) 1 1 : Value), [122])].map (·.2))) = (14, s6) := commit_downs (unhide H6).2.1 (by simp)
  rw [e1] at HC
  have Hwp := hide hwp
  have HRp := hide hRp
  have HHp := hide hHp
  clear hn hRn hHn hso to' hwp hp hrp hKp tp hRp hHp hnow6 e1
  go_wp2_with fail
  rw [← unhide Hwp]
  refine (unhide HC).mono ?_
  rintro e wq ⟨rfl, hq, tq⟩
  have hRq := (unhide HRp).kept tq (fun j hj e => e.2 hj)
  have hHq := (unhide HHp).disk tq
  have ht := hq.dl.turn
  obtain ⟨g2, c2, hv2, hc2⟩ := hHq.cell6
  injection hv2 with hv2 hv4 hv3
  clear hv4 hv3
  subst hv2
  obtain ⟨g, cap, po, pn, pc, e7, p1, p2, hc0⟩ := hRq.at 0 (by simp)
  have hsp := (hRq.each _ (List.mem_singleton.2 rfl)).1
  simp only [List.getElem_cons_zero] at p1 p2
  simp only at hsp
  rw [p1] at hsp
  have hcvp := run_text_of_sees (P := Tryz.prog) wq 31 9 Tryz.underlying31 Tryz.underlying5 Tryz.underlying9 hsp
  injection e7 with e7 e8 e9
  clear e8 e9
  subst e7
  clear HC Hwp HRp HHp hcvo hq tq hRq hHq p1 p2 hsp H6 hl2 hlz hb7
  go_wp2
  go_ret
  exact ⟨rfl, ht⟩

end Go.Proofs.YtfmbkpdjjhcmcaaGreat
