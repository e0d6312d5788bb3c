/- The reference's Disk: Now, Read, Files, works, Append, Remove, Sync, Crash, SetFuse. -/
import Derived.Test.YtnojedjdnecagaaR5M
import Derived.Deep.RegionWith
import Derived.Deep.DeepMust
namespace Go.Proofs.Ytnojedjdnecagaa
open Go.RowKit

/-- Files with some that pend, done one behind the other. -/
def nowL (l : List (List UInt8)) (ops : List DOp) : List (List UInt8) := ops.foldl tl l

theorem nowL_take (l : List (List UInt8)) (ops : List DOp) (k : Nat) (hk : k < ops.length) : nowL l (ops.take (k + 1)) = tl (nowL l (ops.take k)) ops[k] := by
  unfold nowL
  rw [List.take_succ_eq_append_getElem hk, List.foldl_append]
  rfl

theorem fil5_now (l : List (List UInt8)) (ops : List DOp) (hk : ∀ o ∈ ops, 0 ≤ o.key) : fil5 (nowL l ops) = acts (fil5 l) ops := by
  induction ops generalizing l with
  | nil => rfl
  | cons o r ih =>
    show fil5 (nowL (tl l o) r) = acts (act (fil5 l) o) r
    rw [ih _ (fun x hx => hk x (by simp [hx])), fil5_tl l o (hk o (by simp))]

theorem nowL_length (l : List (List UInt8)) (ops : List DOp) (M : Nat) (hl : l.length ≤ M) (hk : ∀ o ∈ ops, 0 ≤ o.key ∧ o.key < M) : (nowL l ops).length ≤ M := by
  induction ops generalizing l with
  | nil => exact hl
  | cons o r ih =>
    refine ih (tl l o) ?_ (fun x hx => hk x (by simp [hx]))
    rw [tl_length]
    have := hk o (by simp)
    omega

/-- Bounds under which the reference's calls end. -/
structure RFit (M B : Nat) (s : RSt) : Prop where
  many : s.pend.length ≤ 1073741823
  works : s.works ≤ 1073741823
  len : s.kept.length ≤ M
  max : M ≤ 1073741824
  lo : ∀ o ∈ s.pend, 0 ≤ o.key
  hi : ∀ o ∈ s.pend, o.key < M
  big : B ≤ 140737488355328
  file : ∀ (k : Nat) (i : Nat), ((nowL s.kept (s.pend.take i)).getD k []).length ≤ B
  more : ∀ (i : Nat) (hi : i < s.pend.length), ((nowL s.kept (s.pend.take i)).getD s.pend[i].key.toNat []).length + s.pend[i].bytes.length ≤ B
  fz : -1 ≤ s.fuse
  fu : s.fuse ≤ 1073741824

section
variable {Q : Nat → Prop} {w : World} {rb : Nat} {s : RSt} {M B : Nat}

set_option maxHeartbeats 2000000 in
set_option maxRecDepth 100000 in
theorem rnow_any (h : RDk Q w rb s) (hf : RFit M B s) : Calls Try.prog 37 #[.pointer (some ⟨rb, 0, none⟩)] w (Turned Q w (nowL s.kept s.pend)) := by
  obtain ⟨kv, pv, kl, pl, h⟩ := h
  have c0 : w.cell? ⟨rb, 0, none⟩ = some kv := h.head.cell 0
  have c1 : w.cell? ⟨rb, 1, none⟩ = some pv := h.head.cell 1
  obtain ⟨ko, kc, hkv⟩ := h.kept.shape
  obtain ⟨po, pc, hpv⟩ := h.pend.shape
  have hpl : pl.length = s.pend.length := by rw [← h.pis]; simp
  have hkl : kl.length = s.kept.length := by rw [← h.kis]; simp
  have hmany := hf.many
  have hlenM := hf.len
  have hmaxM := hf.max
  have hpm : pl.length ≤ 1073741823 := by omega
  subst hkv hpv
  have hstart : RL (grow Q w w) w (.slice ko kl.length kc) kl := h.kept.mono (fun _ h => .inl h)
  have Hstart := hide hstart
  have Hh := hide h
  have Hpl := hide hpl
  have Hf := hide hf
  clear h hpl hf hstart hmany hkl
  go_enter Try.func37, Try.ntmps37
  go_wp2_with fail
  go_loopw [3, 4] (fun f i wr => ∃ (k : Nat) (l : List (Value × List UInt8)), k ≤ pl.length ∧ i = .int .i64 k ∧ RL (grow Q w wr) wr f l ∧ l.map (·.2) = nowL s.kept (s.pend.take k) ∧ Turn (fun _ => False) w wr) (fun _ i _ => (pl.length - intOf i).toNat)
  case atStart => exact ⟨0, kl, by omega, rfl, unhide Hstart, (unhide Hh).kis, Turn.refl _ _⟩
  case round =>
    clear Hstart
    obtain ⟨k, l, hk, rfl, hl, hle, t⟩ := hrel
    have hr := unhide Hh
    have hrc : wr.cell? ⟨rb, 1, none⟩ = some (.slice po pl.length pc) := (t.cell (p := ⟨rb, 1, none⟩) hr.head.lt (fun h => h)).trans c1
    by_cases hlt : k < pl.length
    · have hpk : k < s.pend.length := by rw [← unhide Hpl]; exact hlt
      obtain ⟨g, cap, ao, n, c, hv, hv2, d0, d1, d2⟩ := (hr.pend.kept t (fun _ _ h => h)).at k hlt
      injection hv with hv1 hv3 hv4
      subst hv1
      have hop : pl[k].1 = s.pend[k] := by
        have := congrArg (fun z => z[k]?) hr.pis
        simp only [List.getElem?_map, List.getElem?_eq_getElem hlt, List.getElem?_eq_getElem hpk, Option.map_some, Option.some.injEq] at this
        exact this
      have hrok : ROk (grow Q w wr) wr pl[k] := (((hr.pend.each pl[k] (List.getElem_mem hlt)).kept t (fun _ _ h => h))).mono (fun _ h => .inl h)
      have hmem : s.pend[k] ∈ s.pend := List.getElem_mem hpk
      have hf := unhide Hf
      have hll : l.length ≤ 1073741824 := by
        have h1 : l.length = (nowL s.kept (s.pend.take k)).length := by rw [← hle]; simp
        have h2 := nowL_length s.kept (s.pend.take k) M hf.len (fun o ho => ⟨hf.lo o (List.mem_of_mem_take ho), hf.hi o (List.mem_of_mem_take ho)⟩)
        omega
      have hb := hf.big
      have hmr := hf.more k hpk
      obtain ⟨fo, fc, hfv⟩ := hl.shape
      have hcall := turn_any (Q := grow Q w wr) (w := wr) s.pend[k] pl[k].2 hl (by rw [← hop]; exact hrok) (hf.lo _ hmem) (by have := hf.hi _ hmem; omega) hll (by rw [hle]; omega)
      rw [hv2, ← hop] at hcall
      subst hfv
      have hnx := nowL_take s.kept s.pend k hpk
      have Hcall := hide hcall
      have Hnx := hide (And.intro hnx (And.intro hop (And.intro hle t)))
      have p1 : (k : Int) < pl.length := by omega
      clear hcall hnx hop hle hrok hmem hmr hl hv2 hf hr
      go_wp2_with fail
      refine (unhide Hcall).mono ?_
      rintro e w2 ⟨v2, l2, rfl, hl2, hm2, t2⟩
      obtain ⟨hnx, hop, hle, t⟩ := unhide Hnx
      have hg2 : ∀ j, grow (grow Q w wr) wr w2 j → grow Q w w2 j := fun j hj => by
        rcases hj with (hj | hj) | hj
        · exact .inl hj
        · exact .inr ⟨hj.1, Nat.lt_of_lt_of_le hj.2 t2.size⟩
        · exact .inr ⟨Nat.le_trans t.size hj.1, hj.2⟩
      have hfin : RL (grow Q w w2) w2 v2 l2 ∧ l2.map (·.2) = nowL s.kept (s.pend.take (k + 1)) ∧ Turn (fun _ => False) w w2 := ⟨hl2.mono hg2, by rw [hm2, hop, hle, hnx], t.trans t2⟩
      obtain ⟨vo2, vc2, hv2⟩ := hl2.shape
      subst hv2
      have Hfin := hide hfin
      clear hfin hl2 hm2 t2 hg2 hnx hop hle t
      go_wp2
      exact ⟨⟨k + 1, l2, by omega, by go_num, unhide Hfin⟩, by simp [intOf]; omega⟩
    · obtain rfl : k = pl.length := by omega
      have p1 : ¬ (pl.length : Int) < pl.length := by omega
      have hfin : Turned Q w (nowL s.kept s.pend) (.returned u3) wr := ⟨_, l, rfl, hl, by rw [hle, unhide Hpl, List.take_length], t⟩
      obtain ⟨fo, fc, hfv⟩ := hl.shape
      subst hfv
      have Hfin := hide hfin
      clear hfin hl hle t hr
      go_wp2
      go_ret
      exact unhide Hfin

end

end Go.Proofs.Ytnojedjdnecagaa
