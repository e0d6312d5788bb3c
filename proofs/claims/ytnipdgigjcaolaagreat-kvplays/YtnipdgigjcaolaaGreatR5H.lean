/- The reference's Crash. -/
import Derived.Test.YtnipdgigjcaolaaGreatPkJ
import Derived.Deep.RegionWith
import Derived.Deep.RegionHeld
import Derived.Deep.DeepMust
import Derived.Deep.CutRange
namespace Go.Proofs.YtnipdgigjcaolaaGreat
open Go.RowKit

/-- What a crash leaves of files. -/
def leftL (l : List (List UInt8)) (ops : List DOp) (n : Nat) (cut : Int) : List (List UInt8) :=
  match ops[n]? with
  | some (.lay k bs) => tl (nowL l (ops.take n)) (.lay k (bs.take (cut % ((bs.length : Int) + 1)).toNat))
  | _ => nowL l (ops.take n)

def RSt.crash (s : RSt) (done cut : Int) : RSt := ⟨leftL s.kept s.pend (done % ((s.pend.length : Int) + 1)).toNat cut, [], -1, false, s.works⟩

section
variable {Q : Nat → Prop} {w : World} {rb : Nat} {s : RSt} {M B : Nat}

/-- The end of a Crash. -/
structure Tail (Q : Nat → Prop) (w : World) (rb : Nat) (s' : RSt) (w2 : World) (v2 : Value) : Prop where
  c0 : ∃ ao n c, w2.cell? ⟨rb, 0, none⟩ = some (.slice ao n c)
  f0 : w2.frozen? ⟨rb, 0, none⟩ = false
  c1 : ∃ ao n c, (w2.setCell ⟨rb, 0, none⟩ v2).cell? ⟨rb, 1, none⟩ = some (.slice ao n c)
  f1 : (w2.setCell ⟨rb, 0, none⟩ v2).frozen? ⟨rb, 1, none⟩ = false
  c3 : ∃ x, ((w2.setCell ⟨rb, 0, none⟩ v2).setCell ⟨rb, 1, none⟩ (.slice none 0 0)).cell? ⟨rb, 3, none⟩ = some (.bool x)
  f3 : ((w2.setCell ⟨rb, 0, none⟩ v2).setCell ⟨rb, 1, none⟩ (.slice none 0 0)).frozen? ⟨rb, 3, none⟩ = false
  c2 : ∃ x, (((w2.setCell ⟨rb, 0, none⟩ v2).setCell ⟨rb, 1, none⟩ (.slice none 0 0)).setCell ⟨rb, 3, none⟩ (.bool false)).cell? ⟨rb, 2, none⟩ = some (.int .i64 x)
  f2 : (((w2.setCell ⟨rb, 0, none⟩ v2).setCell ⟨rb, 1, none⟩ (.slice none 0 0)).setCell ⟨rb, 3, none⟩ (.bool false)).frozen? ⟨rb, 2, none⟩ = false
  fin : RTo Q w rb s' ((((w2.setCell ⟨rb, 0, none⟩ v2).setCell ⟨rb, 1, none⟩ (.slice none 0 0)).setCell ⟨rb, 3, none⟩ (.bool false)).setCell ⟨rb, 2, none⟩ (.int .i64 (-1)))

theorem RD.tail {kv pv : Value} {kl : List (Value × List UInt8)} {pl : List (DOp × Value)} {w2 : World} {v2 : Value} {l2 : List (Value × List UInt8)} {ks : List (List UInt8)} (h : RD Q w rb s kv pv kl pl) (t : Turn (fun _ => False) w w2) (hl2 : RL (grow Q w w2) w2 v2 l2) (hm : l2.map (·.2) = ks) : Tail Q w rb ⟨ks, [], -1, false, s.works⟩ w2 v2 := by
  have hh := h.head.kept t (fun h => h)
  have hh0 := hh.set 0 v2
  have hh1 := hh0.set 1 (.slice none 0 0)
  have hh3 := hh1.set 3 (.bool false)
  have hh2 := hh3.set 2 (.int .i64 (-1))
  obtain ⟨ko, kc, hkv⟩ := h.kept.shape
  obtain ⟨po, pc, hpv⟩ := h.pend.shape
  have hrl := h.head.lt
  have hQr : ¬ grow Q w w2 rb := fun hq => hq.elim h.out (fun hq => by omega)
  have tw : Turn (fun j => j = rb) w2 ((((w2.setCell ⟨rb, 0, none⟩ v2).setCell ⟨rb, 1, none⟩ (.slice none 0 0)).setCell ⟨rb, 3, none⟩ (.bool false)).setCell ⟨rb, 2, none⟩ (.int .i64 (-1))) := (((Turn.at rb 0 _ w2).trans (Turn.at rb 1 _ _)).trans (Turn.at rb 3 _ _)).trans (Turn.at rb 2 _ _)
  have tt : Turn (fun j => j = rb) w ((((w2.setCell ⟨rb, 0, none⟩ v2).setCell ⟨rb, 1, none⟩ (.slice none 0 0)).setCell ⟨rb, 3, none⟩ (.bool false)).setCell ⟨rb, 2, none⟩ (.int .i64 (-1))) := (t.mono (fun _ _ h => h.elim)).trans tw
  refine ⟨⟨_, _, _, by rw [hh.cell 0, hkv]; rfl⟩, hh.frozen 0, ⟨_, _, _, by rw [hh0.cell 1, hpv]; rfl⟩, hh0.frozen 1, ⟨s.dead, hh1.cell 3⟩, hh1.frozen 3, ⟨s.fuse, hh3.cell 2⟩, hh3.frozen 2, ⟨v2, .slice none 0 0, l2, [], hh2, ?_, hm, .inl ⟨rfl, rfl⟩, rfl, fun hq => ?_, fun j hj => ?_⟩, tt⟩
  · refine (hl2.kept tw (fun j hj e => hQr (e ▸ hj))).mono (fun j hj => ?_)
    rcases hj with hj | hj
    · exact .inl hj
    · exact .inr ⟨hj.1, Nat.lt_of_lt_of_le hj.2 tw.size⟩
  · rcases hq with hq | hq
    · exact h.out hq
    · omega
  · rcases hj with hj | hj
    · exact Nat.lt_of_lt_of_le (h.lt j hj) tt.size
    · exact hj.2

set_option maxHeartbeats 8000000 in
set_option maxRecDepth 100000 in
theorem rcrash_any (done cut : Int) (h : RDk Q w rb s) (hf : RFit M B s) (hlay : ∀ k bs, DOp.lay k bs ∈ s.pend → bs ≠ []) :
    Calls Tryz.prog 40 #[.pointer (some ⟨rb, 0, none⟩), .int .i64 done, .int .i64 cut] w fun e w' => e = .returned (.tuple #[]) ∧ RTo Q w rb (s.crash done cut) w' := by
  obtain ⟨kv, pv, kl, pl, h⟩ := h
  have c0 : w.cell? ⟨rb, 0, none⟩ = some kv := h.head.cell 0
  have c1 : w.cell? ⟨rb, 1, none⟩ = some pv := h.head.cell 1
  obtain ⟨ko, kc, hkv⟩ := h.kept.shape
  obtain ⟨po, pc, hpv⟩ := h.pend.shape
  have hpl : pl.length = s.pend.length := by rw [← h.pis]; simp
  have hmany := hf.many
  have hmaxM := hf.max
  have hpm : pl.length ≤ 1073741823 := by omega
  obtain ⟨n, hn⟩ : ∃ n : Nat, (n : Int) = done % ((pl.length : Int) + 1) := ⟨(done % ((pl.length : Int) + 1)).toNat, by have := Int.emod_nonneg done (show (pl.length : Int) + 1 ≠ 0 by omega); omega⟩
  have hnl : n ≤ pl.length := by have := Int.emod_lt_of_pos done (show 0 < (pl.length : Int) + 1 by omega); omega
  have hcr : s.crash done cut = ⟨leftL s.kept s.pend n cut, [], -1, false, s.works⟩ := by
    unfold RSt.crash
    rw [← hpl, ← hn, Int.toNat_natCast]
  rw [hcr]
  subst hkv hpv
  have hstart : RL (grow Q w w) w (.slice ko kl.length kc) kl := h.kept.mono (fun _ h => .inl h)
  have Hstart := hide hstart
  have Hh := hide h
  have Hpl := hide hpl
  have Hf := hide hf
  have Hn := hide hn
  have Hlay := hide hlay
  clear h hpl hf hstart hmany hn hlay hcr
  go_enter Tryz.func40, Tryz.ntmps40
  go_wp2_with fail
  refine (rpick_any done ((pl.length : Int) + 1) _ (by omega) (by omega)).mono ?_
  rintro e w0 ⟨rfl, rfl⟩
  rw [← unhide Hn]
  go_wp2_with fail
  go_loopw [6, 7] (fun f i wr => ∃ (k : Nat) (l : List (Value × List UInt8)), k ≤ n ∧ i = .int .i64 k ∧ RL (grow Q w wr) wr f l ∧ l.map (·.2) = nowL s.kept (s.pend.take k) ∧ Turn (fun _ => False) w wr) (fun _ i _ => (n - intOf i).toNat)
  case atStart => exact ⟨0, kl, by omega, rfl, unhide Hstart, (unhide Hh).kis, Turn.refl _ _⟩
  case round =>
    clear Hstart
    obtain ⟨k, l, hk, rfl, hl, hle, t⟩ := hrel
    have hr := unhide Hh
    have hrc : wr.cell? ⟨rb, 1, none⟩ = some (.slice po pl.length pc) := (t.cell (p := ⟨rb, 1, none⟩) hr.head.lt (fun h => h)).trans c1
    have hf := unhide Hf
    have hb := hf.big
    have hll : l.length ≤ 1073741824 := by
      have h1 : l.length = (nowL s.kept (s.pend.take k)).length := by rw [← hle]; simp
      have h2 := nowL_length s.kept (s.pend.take k) M hf.len (fun o ho => ⟨hf.lo o (List.mem_of_mem_take ho), hf.hi o (List.mem_of_mem_take ho)⟩)
      omega
    have step : ∀ (hlt : k < pl.length), ∃ g cap ao m c, Value.slice po pl.length pc = .slice (some ⟨g, 0, none⟩) pl.length cap ∧ pl[k].2 = .slice ao m c ∧ wr.cell? ⟨g, k * 3, none⟩ = some (.int .i64 pl[k].1.key) ∧ wr.cell? ⟨g, k * 3 + 1, none⟩ = some (.bool pl[k].1.isRem) ∧ wr.cell? ⟨g, k * 3 + 2, none⟩ = some (.slice ao m c) := fun hlt => (hr.pend.kept t (fun _ _ h => h)).at k hlt
    have hop : ∀ (hlt : k < pl.length), s.pend[k]? = some pl[k].1 := fun hlt => by
      rw [← hr.pis, List.getElem?_map, List.getElem?_eq_getElem hlt]
      rfl
    by_cases hlt : k < n
    · have hkp : k < pl.length := by omega
      have hpk : k < s.pend.length := by rw [← unhide Hpl]; exact hkp
      obtain ⟨g, cap, ao, m, c, hv, hv2, d0, d1, d2⟩ := step hkp
      injection hv with hv1 hv3 hv4
      subst hv1 hv4
      have hop1 : pl[k].1 = s.pend[k] := by
        have := hop hkp
        rw [List.getElem?_eq_getElem hpk] at this
        injection this with this
        exact this.symm
      have hrok : ROk (grow Q w wr) wr pl[k] := (((hr.pend.each pl[k] (List.getElem_mem hkp)).kept t (fun _ _ h => h))).mono (fun _ h => .inl h)
      have hmem : s.pend[k] ∈ s.pend := List.getElem_mem hpk
      have hmr := hf.more k hpk
      obtain ⟨fo, fc, hfv⟩ := hl.shape
      have hcall := turn_any (Q := grow Q w wr) (w := wr) s.pend[k] pl[k].2 hl (by rw [← hop1]; exact hrok) (hf.lo _ hmem) (by have := hf.hi _ hmem; omega) hll (by rw [hle]; omega)
      rw [hv2, ← hop1] at hcall
      subst hfv
      have hnx := nowL_take s.kept s.pend k hpk
      have Hcall := hide hcall
      have Hnx := hide (And.intro hnx (And.intro hop1 (And.intro hle t)))
      have p1 : (k : Int) < n := by omega
      have p2 : (k : Int) < pl.length := by omega
      clear hcall hnx hop1 hop hle hrok hmem hmr hl hv2 hf hr step
      go_wp2_with fail
      refine (unhide Hcall).mono ?_
      rintro e w2 ⟨v2, l2, rfl, hl2, hm2, t2⟩
      obtain ⟨hnx, hop, hle, t⟩ := unhide Hnx
      have hg2 : ∀ j, grow (grow Q w wr) wr w2 j → grow Q w w2 j := fun j hj => by
        rcases hj with (hj | hj) | hj
        · exact .inl hj
        · exact .inr ⟨hj.1, Nat.lt_of_lt_of_le hj.2 t2.size⟩
        · exact .inr ⟨Nat.le_trans t.size hj.1, hj.2⟩
      have hfin : RL (grow Q w w2) w2 v2 l2 ∧ l2.map (·.2) = nowL s.kept (s.pend.take (k + 1)) ∧ Turn (fun _ => False) w w2 := ⟨hl2.mono hg2, by rw [hm2, hop, hle, hnx], t.trans t2⟩
      obtain ⟨vo2, vc2, hv2⟩ := hl2.shape
      subst hv2
      have Hfin := hide hfin
      clear hfin hl2 hm2 t2 hg2 hnx hop hle t
      go_wp2
      exact ⟨⟨k + 1, l2, by omega, by go_num, unhide Hfin⟩, by simp [intOf]; omega⟩
    · obtain rfl : k = n := by omega
      have p1 : ¬ (k : Int) < k := by omega
      by_cases hkp : k < pl.length
      · have hpk : k < s.pend.length := by rw [← unhide Hpl]; exact hkp
        obtain ⟨g, cap, ao, m, c, hv, hv2, d0, d1, d2⟩ := step hkp
        injection hv with hv1 hv3 hv4
        subst hv1 hv4
        have hop1 := hop hkp
        have p2 : (k : Int) < pl.length := by omega
        obtain ⟨fo, fc, hfv⟩ := hl.shape
        have hrok : ROk (grow Q w wr) wr pl[k] := (((hr.pend.each pl[k] (List.getElem_mem hkp)).kept t (fun _ _ h => h))).mono (fun _ h => .inl h)
        generalize hpk1 : pl[k] = pk at *
        obtain ⟨o, ov⟩ := pk
        simp only at hv2 d0 d1 hop1
        subst hv2
        cases o with
        | rem f =>
          have htl := hr.tail t hl (ks := leftL s.kept s.pend k cut) (by unfold leftL; rw [hop1]; exact hle)
          subst hfv
          obtain ⟨⟨_, _, _, t0⟩, tf0, ⟨_, _, _, tc1⟩, tf1, ⟨_, tc3⟩, tf3, ⟨_, tc2⟩, tf2, hto⟩ := htl
          have Hto := hide hto
          have d1' : wr.cell? ⟨g, k * 3 + 1, none⟩ = some (.bool true) := d1
          clear hto hop1 hop hle hl hrok hf hr step d1 hpk1
          go_wp2
          go_end0
          exact ⟨rfl, unhide Hto⟩
        | lay f bs =>
          obtain ⟨hsb, hsbl⟩ : Sees wr (.slice ao m c) bs ∧ (0 < bs.length → ∀ j, slab (.slice ao m c) = some j → grow Q w wr j) := hrok
          have hmem : DOp.lay f bs ∈ s.pend := List.mem_of_getElem? hop1
          have hbs := unhide Hlay f bs hmem
          have hbl : 0 < bs.length := Nat.pos_of_ne_zero fun e => hbs (List.eq_nil_of_length_eq_zero e)
          obtain ⟨ao', c', hbe⟩ := hsb.shape
          injection hbe with e1 e2 e3
          subst e2
          clear e1 e3
          obtain ⟨a, hao, hcm⟩ : ∃ a, ao = some a ∧ (bs.length ≤ c ∧ c ≤ 9223372036854775807) := by
            rcases hsb with ⟨h0, _⟩ | ⟨a, cap, h0, h1, h2, _⟩
            · injection h0 with _ e2; omega
            · injection h0 with e1 _ e3; subst e3; exact ⟨a, e1, h1, h2⟩
          subst hao
          obtain ⟨q, hq⟩ : ∃ q : Nat, (q : Int) = cut % ((bs.length : Int) + 1) := ⟨(cut % ((bs.length : Int) + 1)).toNat, by have := Int.emod_nonneg cut (show (bs.length : Int) + 1 ≠ 0 by omega); omega⟩
          have hql : q ≤ bs.length := by have := Int.emod_lt_of_pos cut (show 0 < (bs.length : Int) + 1 by omega); omega
          have hleft : leftL s.kept s.pend k cut = tl (nowL s.kept (s.pend.take k)) (.lay f (bs.take q)) := by
            unfold leftL
            rw [hop1]
            show tl _ (.lay f (bs.take (cut % ((bs.length : Int) + 1)).toNat)) = _
            rw [← hq, Int.toNat_natCast]
          have hpk : k < s.pend.length := by rw [← unhide Hpl]; exact hkp
          have hsk : s.pend[k] = .lay f bs := by
            rw [List.getElem?_eq_getElem hpk] at hop1
            injection hop1
          have hmr := hf.more k hpk
          rw [hsk] at hmr
          have hbb : bs.length ≤ 140737488355328 := by
            have h9 : (DOp.lay f bs).bytes.length = bs.length := rfl
            omega
          have hfk0 : 0 ≤ f := hf.lo _ hmem
          have hfk1 : f < M := hf.hi _ hmem
          have hcall : ∀ ww, Turn (fun _ => False) wr ww → Calls Tryz.prog 97 #[u6, .agg #[.int .i64 f, .bool false, .slice (some a) q c]] ww fun e w' => ∃ v2, e = .returned v2 ∧ Tail Q w rb ⟨leftL s.kept s.pend k cut, [], -1, false, s.works⟩ w' v2 ∧ (∃ ao n c, v2 = .slice ao n c) ∧ Turn (fun _ => False) ww w' := by
            intro ww tw
            have hl' := hl.kept tw (fun _ _ h => h)
            have hs' := (hsb.kept tw (fun _ _ h => h)).front q hql
            refine (turn_any (Q := grow Q w wr) (w := ww) (.lay f (bs.take q)) (.slice (some a) q c) hl' ⟨hs', fun h0 j hj => hsbl hbl j hj⟩ hfk0 (by show f ≤ _; omega) hll ?_).mono ?_
            · rw [hle]
              have : (DOp.lay f (bs.take q)).bytes.length ≤ bs.length := by show (bs.take q).length ≤ _; rw [List.length_take]; omega
              have h2 : (DOp.lay f bs).bytes.length = bs.length := rfl
              have h3 : (DOp.lay f (bs.take q)).key = (DOp.lay f bs).key := rfl
              rw [h3]
              omega
            · rintro e w2 ⟨v2, l2, rfl, hl2, hm2, t2⟩
              have hg2 : ∀ j, grow (grow Q w wr) ww w2 j → grow Q w w2 j := fun j hj => by
                rcases hj with (hj | hj) | hj
                · exact .inl hj
                · exact .inr ⟨hj.1, Nat.lt_of_lt_of_le hj.2 (tw.trans t2).size⟩
                · exact .inr ⟨Nat.le_trans (t.trans tw).size hj.1, hj.2⟩
              obtain ⟨o2, c2, hv2⟩ := hl2.shape
              exact ⟨v2, rfl, hr.tail ((t.trans tw).trans t2) (hl2.mono hg2) (by rw [hm2, hle, hleft]), ⟨o2, _, c2, hv2⟩, t2⟩
          have Hcall := hide hcall
          have Hq := hide hq
          have d1' : wr.cell? ⟨g, k * 3 + 1, none⟩ = some (.bool false) := d1
          have d0' : wr.cell? ⟨g, k * 3, none⟩ = some (.int .i64 f) := d0
          have hA := At.new 96 wr #[.int .i64 f, .bool false, .slice (some a) bs.length c]
          have a0 : (wr.alloc (.cells #[.int .i64 f, .bool false, .slice (some a) bs.length c] 96)).cell? ⟨wr.heap.size, 0, none⟩ = some (.int .i64 f) := hA.cell 0
          have a2 : (wr.alloc (.cells #[.int .i64 f, .bool false, .slice (some a) bs.length c] 96)).cell? ⟨wr.heap.size, 2, none⟩ = some (.slice (some a) bs.length c) := hA.cell 2
          have tw := ((Turn.refl (fun _ => False) wr).alloc (.cells #[.int .i64 f, .bool false, .slice (some a) bs.length c] 96)).drew
          have Htw := hide tw
          have q5 : (q : Int) ≤ c := by omega
          subst hfv
          clear hcall hq hA tw hmr hsk hleft hsb hsbl hop1 hop hle hl hf hr step d1 d0 hpk1 hmem hbs
          clear c0 c1 hll hb hpk hfk0 hfk1
          go_upto_region 8 with fail
          go_cut [6] from 60 to 73 (fun x wx => Tail Q w rb ⟨leftL s.kept s.pend k cut, [], -1, false, s.works⟩ wx x ∧ ∃ ao n c, x = .slice ao n c)
          case first =>
            have qw : IntKind.i64.wrap ((bs.length : Int) + 1) = (bs.length : Int) + 1 := by rw [IntKind.wrap_i64]; omega
            go_region_held (fun w' => w'.cell? ⟨wr.heap.size, 0, none⟩ = some (.int .i64 f) ∧ w'.cell? ⟨wr.heap.size, 2, none⟩ = some (.slice (some a) bs.length c)) (go_keep)
              (first
              | (go_at_call 97; refine (unhide Hcall _ (unhide Htw)).mono ?_; rintro e w2 ⟨v2, rfl, htl, ⟨o2, n2, c2, rfl⟩, t2⟩; have k0 := (t2.cell (p := ⟨wr.heap.size, 0, none⟩) (World.block_lt_of_cell? _ _ a0) (fun h => h)).trans a0; have k2 := (t2.cell (p := ⟨wr.heap.size, 2, none⟩) (World.block_lt_of_cell? _ _ a2) (fun h => h)).trans a2; have Htl := hide htl; clear htl t2)
              | (go_at_call 96; refine (rpick_any cut ((bs.length : Int) + 1) _ (by omega) (by omega)).mono ?_; rintro e w0 ⟨rfl, rfl⟩; rw [← unhide Hq]))
            all_goals (
              go_wp2_with fail
              go_meet
              case rel => exact ⟨unhide Htl, o2, n2, c2, rfl⟩)
          case rest =>
            obtain ⟨htl, o2, n2, c2, rfl⟩ := hcut
            generalize wc = w2 at *
            obtain ⟨⟨_, _, _, t0⟩, tf0, ⟨_, _, _, tc1⟩, tf1, ⟨_, tc3⟩, tf3, ⟨_, tc2⟩, tf2, hto⟩ := htl
            have Hto := hide hto
            clear hto
            go_wp2
            go_end0
            exact ⟨rfl, unhide Hto⟩
      · have hkl : k = pl.length := by omega
        have hno : s.pend[k]? = none := List.getElem?_eq_none (by rw [← unhide Hpl]; omega)
        have htl := hr.tail t hl (ks := leftL s.kept s.pend k cut) (by unfold leftL; rw [hno]; exact hle)
        obtain ⟨fo, fc, hfv⟩ := hl.shape
        subst hfv
        obtain ⟨⟨_, _, _, t0⟩, tf0, ⟨_, _, _, tc1⟩, tf1, ⟨_, tc3⟩, tf3, ⟨_, tc2⟩, tf2, hto⟩ := htl
        have p2 : ¬ (k : Int) < pl.length := by omega
        have Hto := hide hto
        clear hto hno hop hle hl hf hr step hkl
        go_wp2
        go_end0
        exact ⟨rfl, unhide Hto⟩

end

end Go.Proofs.YtnipdgigjcaolaaGreat
