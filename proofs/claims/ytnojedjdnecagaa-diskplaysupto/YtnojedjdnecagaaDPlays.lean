/- The law DiskPlays. -/
import Derived.Test.YtnojedjdnecagaaPSame
import Derived.Test.YtnojedjdnecagaaDFil
import Derived.Test.YtnojedjdnecagaaPut
import Derived.RegionTactic
import Derived.Deep.RegionWith
import Derived.Deep.DeepMust
import Derived.Deep.CutRange
import Derived.Deep.CutBlock
import Derived.BigQuiet
import Derived.Deep.QuietTactic
namespace Go.Proofs.Ytnojedjdnecagaa
open Go.RowKit

/-- A Disk and the reference's, side by side. -/
structure Pl (w : World) (K : Nat → Prop) (wr : World) (b : Nat) (Q : Nat → Prop) (rb N : Nat) (s : DSt) (r : RSt) : Prop where
  dl : DL w K wr b N s
  rd : RDk Q wr rb r
  qk : ∀ j, Q j → K j
  rk : K rb
  same : PSame N s r

section
variable {w wr w2 : World} {K Q : Nat → Prop} {b rb N : Nat} {s s' : DSt} {r r' : RSt}

/-- The Disk has gone a step ahead. -/
theorem Pl.kept (h : Pl w K wr b Q rb N s r) (t : Turn (fun j => w.heap.size ≤ j ∧ ¬ K j) wr w2) : RDk Q w2 rb r := h.rd.keeps t (fun j hj e => e.2 (h.qk j hj)) (fun e => e.2 h.rk)

/-- The reference's has come behind. -/
theorem Pl.behind {w3 : World} {N' : Nat} (hd : DL w K w2 b N' s') (hq : ∀ j, Q j → K j) (hk : K rb) (hr : RTo Q w2 rb r' w3) (hs : PSame N' s' r') : Pl w (grow K w2 w3) w3 b (grow Q w2 w3) rb N' s' r' :=
  ⟨hd.hold (hr.2.mono (fun _ _ e => e ▸ hk)), hr.1, fun j hj => hj.imp (hq j) id, .inl hk, hs⟩

theorem Pl.new (h : Pl w K wr b Q rb N s r) (t : Turn (fun _ => False) wr w2) : Pl w (grow K wr w2) w2 b Q rb N s r :=
  ⟨h.dl.new t, h.rd.keeps t (fun _ _ h => h) (fun h => h), fun j hj => .inl (h.qk j hj), .inl h.rk, h.same⟩

/-- What the law alone holds is written to. -/
theorem Pl.mut {v : Value} (h : Pl w K wr b Q rb N s r) (t : Turn (fun z => v.ownBlock = some z) wr w2) (hk : ∀ z, v.ownBlock = some z → K z ∧ ¬ Q z ∧ z ≠ rb) : Pl w (grow K wr w2) w2 b Q rb N s r :=
  ⟨h.dl.hold (t.mono (fun z _ e => (hk z e).1)), h.rd.keeps t (fun j hj e => (hk j e).2.1 hj) (fun e => (hk rb e).2.2 rfl), fun j hj => .inl (h.qk j hj), .inl h.rk, h.same⟩

end

/-- One byte of one's own goes up by one. -/
theorem Owns.bump {w : World} {g n c jj : Nat} {cs : List UInt8} (h : Owns w (.slice (some ⟨g, 0, none⟩) n c) cs) (hn : cs.length = n) (hj : jj < n) : ∃ cb : Nat, cb < 256 ∧ w.cell? ⟨g, jj, none⟩ = some (.int .u8 (cb : Int)) ∧ w.frozen? ⟨g, jj, none⟩ = false ∧ ∃ cs' : List UInt8, cs'.length = n ∧ Owns (w.setCell ⟨g, jj, none⟩ (.int .u8 (((cb : Int) + 1) % 256))) (.slice (some ⟨g, 0, none⟩) n c) cs' := by
  subst hn
  refine ⟨cs[jj].toNat, cs[jj].toNat_lt, Owns.at h jj hj, Owns.frozenAt h jj, cs.set jj (cs[jj] + 1), List.length_set, ?_⟩
  have u3 := Owns.put h jj (cs[jj] + 1)
  have u4 : (((cs[jj] + 1 : UInt8).toNat : Nat) : Int) = (((cs[jj].toNat : Nat) : Int) + 1) % 256 := by rw [UInt8.toNat_add]; simp
  rw [u4, List.length_set] at u3
  exact u3

theorem turn_drewN (w : World) (n : Nat) : Turn (fun _ => False) w (w.drewN n) := ⟨rfl, rfl, rfl, Nat.le_refl _, fun _ _ _ => rfl⟩

set_option maxHeartbeats 8000000 in
set_option maxRecDepth 100000 in
theorem diskPlays_any (lv : Value) (l : List StepE) (w : World) (hl : StepsOf w w.heap.size lv l) (hbig : ∀ k (hk : k < l.length), l[k].bs.length ≤ 1048576) :
    Calls Try.prog 4 #[lv] w fun e w' => e = .returned (.bool true) ∧ Turn (fun _ => False) w w' := by
  have qT : ∀ (w : World) {v : Value} {bs : List UInt8}, Sees w v bs → (convert 27 9 v).run Try.prog w = .ok (.string ⟨bs.toArray⟩) w := fun w _ _ h => run_text_of_sees w _ _ Try.underlying27 Try.underlying5 Try.underlying9 h
  have QT := hide qT
  clear qT
  obtain ⟨lo, lc, hlv, hlm⟩ := hl.shape
  unfold maxLen at hlm
  subst hlv
  have Hl := hide hl
  have Hbig := hide hbig
  clear hl hbig
  go_enter Try.func4, Try.ntmps4
  go_wp2_with fail
  refine (dl_new (w0 := w) (K := fun _ => False) (fun _ h => h.elim) (Turn.refl _ w)).mono ?_
  rintro e w1 ⟨rfl, h1, _⟩
  obtain ⟨b, hb⟩ : ∃ b, b = w.heap.size := ⟨_, rfl⟩
  rw [← hb] at h1 ⊢
  clear hb
  go_wp2_with fail
  refine (known_any w1).mono ?_
  rintro e w2 ⟨rfl, t2⟩
  have h2 := h1.new t2
  clear h1 t2
  go_wp2_with fail
  refine (rnew_any w2).mono ?_
  rintro e w3 ⟨rfl, hr3, e3⟩
  have t3 : Turn (fun _ => False) w2 w3 := by rw [e3]; exact (Turn.refl _ _).alloc _
  have hsz : w2.heap.size < w3.heap.size := by rw [e3]; simp
  have h3 := h2.new t3
  obtain ⟨rb, hrb⟩ : ∃ rb, rb = w2.heap.size := ⟨_, rfl⟩
  have hp3 : Pl w _ w3 b (fun _ => False) rb 0 DSt.zero RSt.zero := ⟨h3, hrb ▸ hr3, fun _ h => h.elim, .inr ⟨by omega, by omega⟩, PSame.zero⟩
  have H3 := hide hp3
  rw [← hrb]
  clear hp3 h3 hsz t3 e3 hr3 h2 hrb
  go_wp2_with fail
  go_loopw [5, 6, 7, 8, 9, 10, 11, 12, 13, 14, 15] (fun i _ _ _ _ _ _ _ _ _ _ wr => ∃ (m : Nat) (K Q : Nat → Prop) (s : DSt) (r : RSt), m ≤ 60 ∧ m ≤ l.length ∧ i = .int .i64 m ∧ Pl w K wr b Q rb m s r) (fun i _ _ _ _ _ _ _ _ _ _ _ => (60 - intOf i).toNat)
  case atStart => exact ⟨0, _, _, _, _, by omega, by omega, rfl, unhide H3⟩
  case round =>
    clear H3
    obtain ⟨m, K, Q, s, r, hm, hml, rfl, hs⟩ := hrel
    by_cases hlt : m < l.length ∧ m < 60
    · obtain ⟨ab, off, cap, hv, hst⟩ := ((unhide Hl).kept hs.dl.turn (Nat.le_refl _) (fun _ _ h => h)).each m hlt.1
      injection hv with hv1 hv2 hv3
      subst hv1 hv3
      have hbm := unhide Hbig m hlt.1
      generalize l[m] = x at *
      have q1 : (m : Int) < l.length := by omega
      have q2 : (m : Int) < 60 := by omega
      have c0 := hst.c0
      have c1 := hst.c1
      have c2 := hst.c2
      have c3 := hst.c3
      have c4 := hst.c4
      obtain ⟨bo, bc, hbv⟩ := hst.sees.shape
      rw [hbv] at c4
      obtain ⟨wa, hwa⟩ : ∃ wa, wa = wr.alloc (.cells #[.int .i64 x.what, .int .i64 x.file, .int .i64 x.n, .int .i64 x.cut, .slice bo x.bs.length bc] 40) := ⟨_, rfl⟩
      have ta : Turn (fun _ => False) wr wa := by rw [hwa]; exact (Turn.refl _ _).alloc _
      have hA : At 40 wa wr.heap.size #[.int .i64 x.what, .int .i64 x.file, .int .i64 x.n, .int .i64 x.cut, .slice bo x.bs.length bc] := by rw [hwa]; exact At.new _ _ _
      have hpa := hs.new ta
      have hka : grow K wr wa wr.heap.size := .inr ⟨Nat.le_refl _, hA.lt⟩
      have hqa : ¬ Q wr.heap.size ∧ wr.heap.size ≠ rb := by
        refine ⟨fun h => ?_, fun e => ?_⟩
        · have := (hs.dl.held _ (hs.qk _ h)).2; omega
        · have := (hs.dl.held _ hs.rk).2; omega
      have hst2 := hst.kept' hs.dl.turn hpa.dl.turn
      obtain ⟨xb, hxb⟩ : ∃ xb, xb = wr.heap.size := ⟨_, rfl⟩
      rw [← hxb] at hA hka hqa
      have Hall := hide (And.intro hpa (And.intro hA (And.intro hka (And.intro hqa (And.intro hst2 hbv)))))
      have Hwa := hide hwa
      have Hxb := hide hxb
      clear hpa hA hka hqa hst2 hst hs hbv ta hwa hxb
      go_wp2_with fail
      rw [← unhide Hwa, ← unhide Hxb]
      refine (pick_any x.file 6 _ (by omega) (by omega)).mono ?_
      rintro e w4 ⟨rfl, rfl⟩
      obtain ⟨f, hf⟩ : ∃ f : Int, f = x.file % 6 - 1 := ⟨_, rfl⟩
      have hf1 : -1 ≤ f ∧ f < 5 := by omega
      have hf2 : x.file % 6 = f + 1 := by omega
      rw [hf2]
      have qf : IntKind.i64.wrap (f + 1 - 1) = f := by rw [IntKind.wrap_i64]; omega
      have hA0 : wa.cell? ⟨xb, 0, none⟩ = some (.int .i64 x.what) := (unhide Hall).2.1.cell 0
      clear hf hf2 Hwa Hxb
      go_wp2_with fail
      refine (pick_any x.what 11 _ (by omega) (by omega)).mono ?_
      rintro e w4 ⟨rfl, rfl⟩
      obtain ⟨q, hq⟩ : ∃ q : Int, q = x.what % 11 := ⟨_, rfl⟩
      have hq1 : 0 ≤ q ∧ q < 11 := by omega
      rw [← hq]
      clear hq
      go_upto_block 2 with fail
      go_cut [8, 9] from 45 to 98 (fun ok _ wx => ok = .bool true ∧ ∃ K' Q' s' r', Pl w K' wx b Q' rb (m + 1) s' r')
      case first =>
        obtain ⟨hp, hA, hka, hqa, hst, hbv⟩ := unhide Hall
        have hfit := hp.same.fit (by omega)
        have hwk : r.works ≤ 1073741822 := by rw [hp.same.works]; have := hp.same.wk; omega
        have hfile : ∀ k, (s.now k).length ≤ 62914560 := fun k => by
          have := hp.same.size s.ops.length k
          rw [List.take_length] at this
          refine Nat.le_trans this ?_
          exact Nat.le_trans (Nat.mul_le_mul_right 1048576 hm) (by decide)
        have hlays : ∀ k bs, DOp.lay k bs ∈ s.ops → bs ≠ [] ∧ bs.length ≤ 1048576 := hp.same.lays
        have Hh := hide (And.intro hp (And.intro hA (And.intro hka (And.intro hqa (And.intro hst (And.intro hbv (And.intro hfit (And.intro hfile hlays))))))))
        clear hp hA hka hqa hst hbv hfit hfile hlays Hall c0 c1 c2 c3 c4
        have hcase : q = 6 ∨ (q = 7 ∨ q = 8) ∨ q = 9 ∨ q = 10 ∨ (q < 6) := by omega
        rcases hcase with rfl | hq7 | rfl | rfl | hq5
        · have hp := (unhide Hh).1
          have hcall := dl_remove f hp.dl (by omega)
          have Hcall := hide hcall
          clear hcall hp
          go_wp2_with fail
          refine (unhide Hcall).mono ?_
          rintro e w5 ⟨rfl, h5, t5⟩
          have hp := (unhide Hh).1
          have hcall2 := rrem_any f (hp.kept t5) (unhide Hh).2.2.2.2.2.2.1 hwk
          obtain ⟨e1, hsame⟩ := hp.same.rem f hf1.2
          rw [e1] at hcall2
          have Hcall2 := hide hcall2
          have H5 := hide (And.intro h5 hsame)
          clear hcall2 h5 t5 e1 hsame hp Hcall
          generalize (s.rem f).1 = z at *
          have hzz : (z == z) = true := by simp
          go_wp2_with fail
          refine (unhide Hcall2).mono ?_
          rintro e w6 ⟨rfl, h6⟩
          have H6 := hide (Pl.behind (unhide H5).1 (unhide Hh).1.qk (unhide Hh).1.rk h6 (unhide H5).2)
          clear h6
          go_wp2_with fail
          go_meet
          case rel => exact ⟨rfl, _, _, _, _, unhide H6⟩
        · rcases hq7 with rfl | rfl
          all_goals (
            have hp := (unhide Hh).1
            have hcall := dl_sync hp.dl (by omega)
            have Hcall := hide hcall
            clear hcall hp
            go_wp2_with fail
            refine (unhide Hcall).mono ?_
            rintro e w5 ⟨rfl, h5, t5⟩
            have hp := (unhide Hh).1
            have hcall2 := rsync_any (hp.kept t5) (unhide Hh).2.2.2.2.2.2.1 hwk
            obtain ⟨e1, hsame⟩ := hp.same.sync
            rw [e1] at hcall2
            have Hcall2 := hide hcall2
            have H5 := hide (And.intro h5 hsame)
            clear hcall2 h5 t5 e1 hsame hp Hcall
            generalize s.sync.1 = z at *
            have hzz : (z == z) = true := by simp
            go_wp2_with fail
            refine (unhide Hcall2).mono ?_
            rintro e w6 ⟨rfl, h6⟩
            have H6 := hide (Pl.behind (unhide H5).1 (unhide Hh).1.qk (unhide Hh).1.rk h6 (unhide H5).2)
            clear h6
            go_wp2_with fail
            go_meet
            case rel => exact ⟨rfl, _, _, _, _, unhide H6⟩)
        · have hp := (unhide Hh).1
          have hcall := dl_crash x.n x.cut hp.dl (by omega) (fun k bs hk => by have := ((unhide Hh).2.2.2.2.2.2.2.2 k bs hk).2; omega)
          have hA := (unhide Hh).2.1
          have a2 : wa.cell? ⟨xb, 2, none⟩ = some (.int .i64 x.n) := hA.cell 2
          have a3 : wa.cell? ⟨xb, 3, none⟩ = some (.int .i64 x.cut) := hA.cell 3
          have Hcall := hide hcall
          clear hcall hp hA
          go_wp2_with fail
          refine (unhide Hcall).mono ?_
          rintro e w5 ⟨rfl, h5, t5⟩
          have hp := (unhide Hh).1
          have hA := (unhide Hh).2.1.kept t5 (fun e => e.2 (unhide Hh).2.2.1)
          have b2 : w5.cell? ⟨xb, 2, none⟩ = some (.int .i64 x.n) := hA.cell 2
          have b3 : w5.cell? ⟨xb, 3, none⟩ = some (.int .i64 x.cut) := hA.cell 3
          have hcall2 := rcrash_any x.n x.cut (hp.kept t5) (unhide Hh).2.2.2.2.2.2.1 (fun k bs hk => ((unhide Hh).2.2.2.2.2.2.2.2 k bs (hp.same.pend ▸ hk)).1)
          have hsame := (hp.same.crash x.n x.cut).up
          have Hcall2 := hide hcall2
          have H5 := hide (And.intro (h5.mono (Nat.le_succ _)) hsame)
          clear hcall2 h5 t5 hsame hp Hcall hA
          go_wp2_with fail
          refine (unhide Hcall2).mono ?_
          rintro e w6 ⟨rfl, h6⟩
          have H6 := hide (Pl.behind (unhide H5).1 (unhide Hh).1.qk (unhide Hh).1.rk h6 (unhide H5).2)
          clear h6
          go_wp2_with fail
          go_meet
          case rel => exact ⟨rfl, _, _, _, _, unhide H6⟩
        · have hA := (unhide Hh).2.1
          have a2 : wa.cell? ⟨xb, 2, none⟩ = some (.int .i64 x.n) := hA.cell 2
          clear hA
          go_wp2_with fail
          refine (pick_any x.n 9 _ (by omega) (by omega)).mono ?_
          rintro e w4 ⟨rfl, rfl⟩
          obtain ⟨n, hn⟩ : ∃ n : Int, n = x.n % 9 - 2 := ⟨_, rfl⟩
          have hn1 : -2 ≤ n ∧ n < 7 := by omega
          have hn2 : x.n % 9 = n + 2 := by omega
          have qn : IntKind.i64.wrap (n + 2 - 2) = n := by rw [IntKind.wrap_i64]; omega
          have qn2 : n + 2 - 2 = n := by omega
          rw [hn2]
          clear hn hn2
          have hp := (unhide Hh).1
          have hcall := dl_fuse n hp.dl (by omega) (by omega)
          have Hcall := hide hcall
          clear hcall hp
          go_wp2_with fail
          refine (unhide Hcall).mono ?_
          rintro e w5 ⟨rfl, h5, t5⟩
          have hp := (unhide Hh).1
          have hcall2 := rfuse_any n (hp.kept t5)
          have hsame := (hp.same.setFuse n (by omega)).up
          have Hcall2 := hide hcall2
          have H5 := hide (And.intro (h5.mono (Nat.le_succ _)) hsame)
          clear hcall2 h5 t5 hsame hp Hcall
          go_wp2_with fail
          refine (unhide Hcall2).mono ?_
          rintro e w6 ⟨rfl, h6, t6⟩
          have hlt6 : ∀ j, Q j → j < w5.heap.size := fun j hj => ((unhide H5).1.held j ((unhide Hh).1.qk j hj)).2
          have hrb6 : rb < w5.heap.size := ((unhide H5).1.held rb (unhide Hh).1.rk).2
          have H6 := hide (Pl.behind (unhide H5).1 (unhide Hh).1.qk (unhide Hh).1.rk (RTo.of h6 hlt6 hrb6 t6) (unhide H5).2)
          clear h6 t6
          go_wp2_with fail
          go_meet
          case rel => exact ⟨rfl, _, _, _, _, unhide H6⟩
        · have q6 : ¬ q = 6 := by omega
          have q7 : ¬ q = 7 := by omega
          have q8 : ¬ q = 8 := by omega
          have q9 : ¬ q = 9 := by omega
          have q10 : ¬ q = 10 := by omega
          have r6 : (q == 6) = false := by simpa using q6
          have r7 : (q == 7) = false := by simpa using q7
          have r8 : (q == 8) = false := by simpa using q8
          have r9 : (q == 9) = false := by simpa using q9
          have r10 : (q == 10) = false := by simpa using q10
          have hp := (unhide Hh).1
          have hst := (unhide Hh).2.2.2.2.1
          have hbv := (unhide Hh).2.2.2.2.2.1
          have hA := (unhide Hh).2.1
          have a4 : wa.cell? ⟨xb, 4, none⟩ = some (.slice bo x.bs.length bc) := hA.cell 4
          have hpd := hp.new ((Turn.refl _ wa).drew)
          have hcall := dl_append f _ x.bs hpd.dl (show Sees wa.drew x.bv x.bs from hst.sees) (fun h0 j hj => .inl (hst.slabs h0 j hj)) (by omega) (by have := (unhide Hh).2.2.2.2.2.2.2.1 f; omega)
          rw [hbv] at hcall
          have Hcall := hide hcall
          have Hpd := hide hpd
          clear hcall hp hst hbv hA hpd
          go_wp2_with fail
          go_region_with (first
            | (go_at_call 11; refine (unhide Hcall).mono ?_; rintro e w5 ⟨rfl, h5, t5⟩; have b4 : w5.cell? ⟨xb, 4, none⟩ = some (.slice bo x.bs.length bc) := (((unhide Hh).2.1.kept (S := fun _ => False) ((Turn.refl _ wa).drew) (fun h => h)).kept t5 (fun e => e.2 (.inl (unhide Hh).2.2.1))).cell 4; have H5 := hide (And.intro h5 t5); clear h5 t5)
            | (go_at_call 26
               have hst5 := (unhide Hh).2.2.2.2.1.kept' (unhide Hh).1.dl.turn (unhide H5).1.turn
               have hs5 : Sees w5 (.slice bo x.bs.length bc) x.bs := by rw [← (unhide Hh).2.2.2.2.2.1]; exact hst5.sees
               refine (radd_any f (.slice bo x.bs.length bc) x.bs ((unhide Hpd).kept (unhide H5).2) (unhide Hh).2.2.2.2.2.2.1 hs5 (fun h0 e => ?_) (by omega)).mono ?_
               · have h1 := (unhide Hh).2.2.2.2.1.slabs h0 rb (by rw [(unhide Hh).2.2.2.2.2.1]; exact e)
                 have h2 := ((unhide Hh).1.dl.held rb (unhide Hh).1.rk).1
                 omega
               rintro e w6 ⟨rfl, h6⟩
               have hsm := (unhide Hh).1.same.add f hf1.2 x.bs hbm
               rw [hsm.1]
               have H6 := hide (Pl.behind (unhide H5).1 (unhide Hpd).qk (unhide Hpd).rk h6 hsm.2)
               clear h6 hst5 hs5 hsm))
          all_goals (
            generalize (s.add f x.bs).1 = z at *
            have hzz : (z == z) = true := by simp
            go_wp2_with fail
            go_meet
            case rel => exact ⟨rfl, _, _, _, _, unhide H6⟩)
      case rest =>
        obtain ⟨rfl, K5, Q5, s5, r5, h5⟩ := hcut
        generalize wc = w5 at *
        clear Hall hA0 c0 c1 c2 c3 c4
        obtain ⟨kv, pv, kl, pl, hrd⟩ := h5.rd
        obtain ⟨po, pc, hpv⟩ := hrd.pend.shape
        have hpl : pl.length = s5.ops.length := by rw [← h5.same.pend, ← hrd.pis]; simp
        have d1 : w5.cell? ⟨rb, 1, none⟩ = some (.slice po s5.ops.length pc) := by rw [hrd.head.cell 1, hpv, hpl]; rfl
        have d3 : w5.cell? ⟨rb, 3, none⟩ = some (.bool s5.dead) := by rw [hrd.head.cell 3, h5.same.dead]; rfl
        have d4 : w5.cell? ⟨rb, 4, none⟩ = some (.int .i64 s5.works) := by rw [hrd.head.cell 4, h5.same.works]; rfl
        have hdn : ∀ n, DL w (grow K5 w5 (w5.drewN n)) (w5.drewN n) b (m + 1) s5 := fun n => h5.dl.new (turn_drewN w5 n)
        have cd : ∀ n, Calls Try.prog 17 #[.pointer (some ⟨b, 0, none⟩)] (w5.drewN n) fun e w' => e = .returned (.bool s5.dead) ∧ w' = w5.drewN n := fun n => (dl_dead (hdn n)).mono fun _ _ h => ⟨h.1, h.2.symm⟩
        have cw : ∀ n, Calls Try.prog 27 #[.pointer (some ⟨b, 0, none⟩)] (w5.drewN n) fun e w' => e = .returned (.int .i64 s5.works) ∧ w' = w5.drewN n := fun n => (dl_works (hdn n)).mono fun _ _ h => ⟨h.1, h.2.symm⟩
        have cp : ∀ n, Calls Try.prog 19 #[.pointer (some ⟨b, 0, none⟩)] (w5.drewN n) fun e w' => e = .returned (.int .i64 s5.ops.length) ∧ w' = w5.drewN n := fun n => (dl_pending (hdn n)).mono fun _ _ h => ⟨h.1, h.2.symm⟩
        have hmn := h5.same.many
        have hwn := h5.same.wk
        have H5 := hide h5
        clear h5 hrd hpl hpv hdn
        have Hcd := hide cd
        have Hcw := hide cw
        have Hcp := hide cp
        clear cd cw cp
        generalize s5.dead = dd at *
        generalize s5.works = ww at *
        generalize s5.ops.length = nn at *
        have z1 : (dd != dd) = false := by simp
        have z2 : ((ww : Int) != (ww : Int)) = false := by simp
        have z3 : ((nn : Int) != (nn : Int)) = false := by simp
        go_wp2_with fail
        go_quiet ((first
          | (go_at_call 17; exact Calls.quiet_of_same (unhide Hcd _))
          | (go_at_call 27; exact Calls.quiet_of_same (unhide Hcw _))
          | (go_at_call 19; exact Calls.quiet_of_same (unhide Hcp _))))
        have h6 := (unhide H5).new (turn_drewN w5 nq)
        have H6 := hide h6
        clear h6 H5 d1 d3 d4 Hcd Hcw Hcp z1 z2 z3
        generalize w5.drewN nq = w6 at *
        have hcf := dl_files (unhide H6).dl (by omega)
        have Hcf := hide hcf
        clear hcf
        go_wp2_with fail
        refine (unhide Hcf).mono ?_
        rintro e w7 ⟨fv, fl, rfl, hmf, hnf, hlf, _⟩
        have h7 := (unhide H6).new hmf.2.1
        have hcg := rfiles_any h7.rd (h7.same.fit (by omega))
        have hf7 := hmf.held (K := grow K5 w5 w6)
        obtain ⟨fo, fc, hfv⟩ := hmf.shape
        subst hfv
        have H7 := hide (And.intro h7 hf7)
        have Hcg := hide hcg
        clear hcg h7 hf7 Hcf H6 hmf
        go_wp2_with fail
        refine (unhide Hcg).mono ?_
        rintro e w8 ⟨gv, gl, rfl, hmg, hng, _⟩
        obtain ⟨h7, hf7⟩ := unhide H7
        have hgl : gl = fl := rise_same hng.1 hnf.1 (fun k => by rw [hng.2 k, hnf.2 k, h7.same.read])
        subst hgl
        have h8 := h7.new hmg.2.1
        have hf8 := hf7.new hmg.2.1
        have hg8 := hmg.held (K := grow (grow K5 w5 w6) w6 w7)
        obtain ⟨go, gc, hgv⟩ := hmg.shape
        subst hgv
        have H8 := hide (And.intro h8 (And.intro hf8 hg8))
        have z1 : ((gl.length : Int) != (gl.length : Int)) = false := by simp
        clear h8 hf8 hg8 hmg hng h7 hf7 H7 Hcg hnf
        go_wp2_with fail
        go_loopw [12] (fun k wr => ∃ kk : Nat, kk ≤ gl.length ∧ k = .int .i64 kk ∧ Turn (fun _ => False) w8 wr) (fun k _ => (gl.length - intOf k).toNat)
        case atStart => exact ⟨0, by omega, rfl, Turn.refl _ _⟩
        case round =>
          obtain ⟨kk, hkk, rfl, t9⟩ := hrel
          by_cases hk9 : kk < gl.length
          · obtain ⟨y, hy⟩ : ∃ y, gl[kk]? = some y := ⟨_, List.getElem?_eq_getElem hk9⟩
            obtain ⟨g1, hg1⟩ : ∃ g, fo = some ⟨g, 0, none⟩ := by
              rcases (unhide H8).2.1.own.shape with ⟨h0, _⟩ | ⟨g, cap, h0, _⟩
              · injection h0 with _ e2; omega
              · injection h0 with e1; exact ⟨g, e1⟩
            obtain ⟨g2, hg2⟩ : ∃ g, go = some ⟨g, 0, none⟩ := by
              rcases (unhide H8).2.2.own.shape with ⟨h0, _⟩ | ⟨g, cap, h0, _⟩
              · injection h0 with _ e2; omega
              · injection h0 with e1; exact ⟨g, e1⟩
            subst hg1 hg2
            have x1 := ((unhide H8).2.1.new t9).cell hy
            have x2 := ((unhide H8).2.2.new t9).cell hy
            have x3 : (y != y) = false := by simp
            have x4 : (kk : Int) < gl.length := by omega
            clear hy
            go_wp2_with fail
            go_quiet ((fail))
            have t10 := t9.trans (turn_drewN _ nq)
            go_wp2
            exact ⟨⟨kk + 1, by omega, by go_num, t10⟩, by simp [intOf]; omega⟩
          · obtain rfl : kk = gl.length := by omega
            have h9 := (unhide H8).1.new t9
            have H9 := hide h9
            clear h9 H8
            go_wp2_with fail
            go_loopw [13, 14, 15] (fun k _ _ wr => ∃ (kk : Nat) (K' : Nat → Prop), kk ≤ 7 ∧ k = .int .i64 ((kk : Int) - 1) ∧ Pl w K' wr b Q5 rb (m + 1) s5 r5) (fun k _ _ _ => (6 - intOf k).toNat)
            case atStart => exact ⟨0, _, by omega, rfl, unhide H9⟩
            case round =>
              clear H9
              obtain ⟨kk, K9, hkk9, rfl, h9⟩ := hrel
              obtain ⟨kz, hkz⟩ : ∃ kz : Int, kz = (kk : Int) - 1 := ⟨_, rfl⟩
              have hkz1 : -1 ≤ kz ∧ kz ≤ 6 := by omega
              by_cases hk7 : kk < 7
              · have hsz : (s5.now kz).length ≤ 140737488355328 := by
                  have := h9.same.size s5.ops.length kz
                  rw [List.take_length] at this
                  refine Nat.le_trans this (Nat.le_trans (Nat.mul_le_mul_right 1048576 (show m + 1 ≤ 61 by omega)) (by decide))
                have hk6 : kz < 6 := by omega
                have hcall := dl_read kz h9.dl (by omega) hsz
                have hlt9 := h9.dl.held
                have hread := h9.same.read kz
                have H9 := hide h9
                have Hcall := hide hcall
                have Hkz := hide hkz
                rw [← hkz]
                clear hcall h9 hsz hkz
                go_wp2_with fail
                refine (unhide Hcall).mono ?_
                rintro e w10 ⟨bv, rfl, hmb, _⟩
                have h10 := (unhide H9).new hmb.2.1
                have hkb : ∀ z, bv.ownBlock = some z → grow K9 _ w10 z ∧ ¬ Q5 z ∧ z ≠ rb := fun z hz => ⟨.inr ⟨hmb.2.2 z hz, hmb.1.lt hz⟩, fun hq => by have := (hlt9 z ((unhide H9).qk z hq)).2; have := hmb.2.2 z hz; omega, fun e => by have := (hlt9 rb (unhide H9).rk).2; have := hmb.2.2 z hz; omega⟩
                have hbs : Sees w10.drew bv (s5.read kz) := hmb.1.sees
                obtain ⟨bo2, bc2, hbv2⟩ := hmb.1.shape
                subst hbv2
                have h10d := h10.new ((Turn.refl _ w10).drew)
                have hcr := rread_any kz h10d.rd (h10d.same.fit (by omega))
                rw [hread] at hcr
                have cb : (convert 27 9 (.slice bo2 (s5.read kz).length bc2)).run Try.prog w10.drew = .ok (.string ⟨(s5.read kz).toArray⟩) w10.drew := unhide QT _ hbs
                have Hcr := hide hcr
                have H10 := hide (And.intro h10 (And.intro hmb.1 hkb))
                have hbl : (s5.read kz).length ≤ 9223372036854775807 := hmb.1.sees.len
                clear hcr h10 h10d hmb hkb hlt9 Hcall H9 hread
                generalize s5.read kz = bs at *
                go_upto_region 40 with fail
                go_cut [166] from 160 to 166 (fun y wx => y = .bool false ∧ Turn (fun _ => False) w10 wx)
                case first =>
                  go_region_with (go_at_call 29; refine (unhide Hcr).mono ?_; rintro e w11 ⟨v11, rfl, hs11, _, t11⟩; have cb11 := unhide QT _ (hbs.kept t11 (fun _ _ h => h)); have cv11 := unhide QT _ hs11; obtain ⟨o11, c11, rfl⟩ := hs11.shape)
                  all_goals (
                    go_wp2_with fail
                    go_meet
                    case rel => exact ⟨rfl, (Turn.refl _ w10).drew.trans t11⟩)
                case rest =>
                  obtain ⟨rfl, t12⟩ := hcut
                  generalize wc = w12 at *
                  have hb12 := (unhide H10).2.1.kept t12 (fun _ _ h => h)
                  have Hb12 := hide hb12
                  clear hb12 hbs cb
                  go_wp2_with fail
                  go_loopw [15] (fun j wr => ∃ (jj : Nat) (cs : List UInt8), jj ≤ bs.length ∧ j = .int .i64 jj ∧ cs.length = bs.length ∧ Owns wr (.slice bo2 bs.length bc2) cs ∧ Turn (fun z => (Value.slice bo2 bs.length bc2).ownBlock = some z) w12 wr) (fun j _ => (bs.length - intOf j).toNat)
                  case atStart => exact ⟨0, bs, by omega, rfl, rfl, unhide Hb12, Turn.refl _ _⟩
                  case round =>
                    obtain ⟨jj, cs, hjj, rfl, hcs, hoc, t13⟩ := hrel
                    by_cases hj2 : jj < bs.length
                    · obtain ⟨g, hg⟩ : ∃ g, bo2 = some ⟨g, 0, none⟩ := by
                        rcases row_shape hoc with ⟨h0, _⟩ | ⟨g, cap, h0, _⟩
                        · injection h0 with _ e2; omega
                        · injection h0 with e1; exact ⟨g, e1⟩
                      subst hg
                      obtain ⟨cb, hcb, u1, u2, cs2, hcs2, u3⟩ := hoc.bump hcs hj2
                      have t14 := t13.trans ((Turn.at g jj (.int .u8 (((cb : Int) + 1) % 256)) _).mono (fun z _ e => (by rw [e]; rfl : (Value.slice (some ⟨g, 0, none⟩) bs.length bc2).ownBlock = some z)))
                      have H14 := hide (And.intro hcs2 (And.intro u3 t14))
                      have x4 : (jj : Int) < bs.length := by omega
                      clear hoc u3 t14 hcs2 hcs t13
                      go_wp2_with fail
                      exact ⟨⟨jj + 1, cs2, by omega, by go_num, unhide H14⟩, by simp [intOf]; omega⟩
                    · obtain rfl : jj = bs.length := by omega
                      have h13 := ((unhide H10).1.new t12).mut t13 (fun z hz => ⟨.inl ((unhide H10).2.2 z hz).1, ((unhide H10).2.2 z hz).2⟩)
                      have H13 := hide h13
                      clear h13 t13 hoc hcs
                      go_wp2
                      exact ⟨⟨kk + 1, _, by omega, by rw [unhide Hkz]; go_num, unhide H13⟩, by simp [intOf]; omega⟩
              · obtain rfl : kk = 7 := by omega
                have H9 := hide h9
                clear h9 hkz
                go_wp2
                exact ⟨⟨m + 1, _, _, _, _, by omega, by omega, by go_num, unhide H9⟩, by simp [intOf]; omega⟩
    · by_cases hil2 : m < l.length
      · obtain rfl : m = 60 := by omega
        have q1 : ((60 : Nat) : Int) < l.length := by omega
        have Hs := hide hs
        clear hs
        go_wp2
        go_ret
        exact ⟨rfl, (unhide Hs).dl.turn⟩
      · obtain rfl : m = l.length := by omega
        have Hs := hide hs
        clear hs
        go_wp2
        go_ret
        exact ⟨rfl, (unhide Hs).dl.turn⟩

end Go.Proofs.Ytnojedjdnecagaa
