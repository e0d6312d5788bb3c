/- The reference's OpenLog. -/
import Derived.Test.YteomehdkfhjbeaaGreatRFileW
import Derived.Test.YteomehdkfhjbeaaGreatPkJ
import Derived.Test.YteomehdkfhjbeaaGreatPkG
import Derived.Deep.CutBlock
namespace Go.Proofs.YteomehdkfhjbeaaGreat
open Go.RowKit

theorem PSt.take_len {p p' : PSt} {k : Int} {body : List UInt8} (e : p.take k body = some p') : p'.recs.length + p'.begun.length ≤ p.recs.length + p.begun.length + 1 := by
  unfold PSt.take at e
  split at e
  · split at e
    · simp at e
    · injection e with e
      subst e
      simp
      omega
  · split at e
    · split at e
      · simp at e
      · injection e with e
        subst e
        simp
    · split at e
      · split at e
        · simp at e
        · injection e with e
          subst e
          simp
          omega
      · simp at e

theorem PSt.takes_len : ∀ {l : List (Int × List UInt8)} {p p' : PSt}, PSt.takes l p = some p' → p'.recs.length + p'.begun.length ≤ p.recs.length + p.begun.length + l.length
  | [], p, p', e => by
    injection e with e
    subst e
    simp
  | x :: r, p, p', e => by
    rw [PSt.takes] at e
    split at e
    · simp at e
    · rename_i p1 e1
      have := PSt.take_len e1
      have := PSt.takes_len e
      rw [List.length_cons]
      omega

theorem part_len {bs : List UInt8} {p : PSt} (e : PSt.takes (frs bs) PSt.zero = some p) : p.recs.length ≤ bs.length := by
  have h1 := PSt.takes_len e
  have h2 := frs_len _ bs (Nat.le_refl _)
  have h3 : PSt.zero.recs.length + PSt.zero.begun.length = 0 := rfl
  omega

theorem openR_append (rd : Fs) (a b : List Int) (x : OSt) : openR rd (a ++ b) x = (openR rd a x).bind (openR rd b) := by
  induction a generalizing x with
  | nil => rfl
  | cons k r ih =>
    rw [List.cons_append, openR, openR]
    split
    · rfl
    · exact ih _

theorem openR_no {rd : Fs} {l : List Int} {n : Nat} {k : Int} {x o : OSt} (h0 : openR rd (l.take n) x = some o) (hk : l[n]? = some k) (h1 : PSt.takes (frs (rd k)) PSt.zero = none) : openR rd l x = none := by
  obtain ⟨e1, e2⟩ := List.getElem?_eq_some_iff.1 hk
  have e3 : l = l.take n ++ k :: l.drop (n + 1) := by rw [← e2, List.getElem_cons_drop]; simp
  rw [e3, openR_append, h0]
  show openR rd (k :: _) o = none
  rw [openR, h1]

theorem openR_yes {rd : Fs} {l : List Int} {n : Nat} {k : Int} {x o : OSt} {p : PSt} (h0 : openR rd (l.take n) x = some o) (hk : l[n]? = some k) (h1 : PSt.takes (frs (rd k)) PSt.zero = some p) : openR rd (l.take (n + 1)) x = some (o.file k p) := by
  obtain ⟨e1, e2⟩ := List.getElem?_eq_some_iff.1 hk
  rw [List.take_succ_eq_append_getElem e1, e2, openR_append, h0]
  show openR rd [k] o = _
  rw [openR, h1]
  rfl

theorem openR_len {rd : Fs} {B : Nat} (hB : ∀ k, (rd k).length ≤ B) : ∀ {l : List Int} {x y : OSt}, openR rd l x = some y → y.out.length ≤ x.out.length + l.length * B
  | [], x, y, e => by
    injection e with e
    subst e
    simp
  | k :: r, x, y, e => by
    rw [openR] at e
    split at e
    · simp at e
    · rename_i p e1
      have h2 := part_len e1
      have h3 := openR_len hB e
      have h4 := hB k
      have h5 : (x.file k p).out.length ≤ x.out.length + p.recs.length := by
        unfold OSt.file
        simp only [List.length_append]
        split <;> simp
      rw [List.length_cons, Nat.add_mul]
      omega

theorem i64s_get6 (ks : List Int) (n : Nat) (k : Int) (h : ks[n]? = some k) : (i64s ks)[n]? = some (.int .i64 k) := by simp [i64s, h]

/-- Files are removed, whatever is told. -/
def RSt.goneR (s : RSt) (l : List Int) : RSt := l.foldl (fun s k => (s.rem k).2) s

theorem goneR_snoc (s : RSt) (l : List Int) (k : Int) : s.goneR (l ++ [k]) = ((s.goneR l).rem k).2 := by simp [RSt.goneR]

section
variable {Q K : Nat → Prop} {w wr : World} {v b : Value} {la lb : List (Value × List UInt8)} {rb M B : Nat} {s : RSt}

theorem rread_len (hf : RFit M B s) (k : Int) : (s.read k).length ≤ B := by
  unfold RSt.read
  split
  · simp
  · have := hf.file k.toNat s.pend.length
    rw [List.take_length] at this
    unfold fil5
    split
    · exact this
    · simp

/-- Records behind records in the making. -/
theorem RM.cats (h : RM Q w v la wr) (hb : RL K wr b lb) (hq : ∀ j, K j → (Q j ∨ w.heap.size ≤ j) ∧ j < wr.heap.size ∧ v.ownBlock ≠ some j) (hlen : la.length + lb.length ≤ 1099511627776) :
    ∃ v2 w2, (Builtin.append_ #[22, 22] 22 #[v, b]).run Tryz.prog wr = .ok v2 w2 ∧ RM Q w v2 (la ++ lb) w2 ∧ wr.grownBy w2 v.ownBlock ∧ (v2.ownBlock = v.ownBlock ∨ v2.ownBlock = some wr.heap.size) := by
  obtain ⟨v2, w2, hr, ho, hg, hk⟩ := append_lists wr v (la.map (·.1)) h.own b (lb.map (·.1)) hb.sees hb.one (by simp; omega)
  exact ⟨v2, w2, hr, h.more (fun p hp => ⟨(hb.each p hp).1, fun h0 j hj => hq j ((hb.each p hp).2 h0 j hj)⟩) ho hg hk, hg, hk⟩

/-- What OpenLog comes to. -/
def ROTo (Q : Nat → Prop) (w : World) (rb : Nat) (s : RSt) (ns : List Int) (r : Option OSt) (e : Ending) (w' : World) : Prop :=
  match r with
  | none => e = .returned (.tuple #[.pointer none, .slice none 0 0, .int .i64 5]) ∧ Turn (fun _ => False) w w'
  | some o => ∃ l rv rl, ∃ Q' : Nat → Prop, e = .returned (.tuple #[.pointer (some ⟨l, 0, none⟩), rv, .int .i64 0]) ∧ RDk Q' w' rb (s.goneR (ns.filter (· < o.since))) ∧ RL (fun j => w.heap.size ≤ j) w' rv rl ∧ rl.map (·.2) = o.out ∧ (∀ j, Q' j → Q j ∨ w.heap.size ≤ j) ∧ Turn (fun j => j = rb) w w'

def ROpTo (Q : Nat → Prop) (w : World) (rb : Nat) (s : RSt) (e : Ending) (w' : World) : Prop := ∃ ns, s.Nums ns ∧ ROTo Q w rb s ns (openR s.read ns ⟨[], -1, 0⟩) e w'

/-- Within the first loop. -/
structure ROn (Q : Nat → Prop) (w wr : World) (rb : Nat) (s : RSt) (fv : Value) (ns : List Int) (out : Value) (rl : List (Value × List UInt8)) (o : OSt) : Prop where
  rm : RM (fun _ => False) w out rl wr
  is : rl.map (·.2) = o.out
  files : OwnsC 3 wr fv (i64s ns)
  fnew : ∀ j, fv.ownBlock = some j → w.heap.size ≤ j ∧ out.ownBlock ≠ some j

set_option maxHeartbeats 4000000 in
set_option maxRecDepth 100000 in
theorem openLog_any (seg : Int) (h : RDk Q w rb s) (hf : RFit M B s) (hd : s.dead = false) (hs0 : 256 ≤ seg) (hs1 : seg ≤ 1048576) (hB : (M + 1) * B ≤ 1099511627776) (hrm : ∀ l : List Int, (∀ k ∈ l, s.read k ≠ []) → l.length ≤ M → RFit M B (s.goneR l) ∧ (s.goneR l).works ≤ 1073741822) (hlo : ∀ k, s.read k ≠ [] → 0 ≤ k ∧ k ≤ 1099511627776) :
    Calls Tryz.prog 19 #[.pointer (some ⟨rb, 0, none⟩), .int .i64 seg] w (ROpTo Q w rb s) := by
  have hfl := rread_len hf
  have hmax := hf.max
  have c3 : w.cell? ⟨rb, 3, none⟩ = some (.bool false) := by
    obtain ⟨kv, pv, kl, pl, h1⟩ := h
    have := h1.head.cell 3
    rw [hd] at this
    exact this
  have q1 : decide (seg < 256) = false := by simp; omega
  have q2 : decide (1048576 < seg) = false := by simp; omega
  have HF := hide (rfiles_any h hf)
  have HD := hide (And.intro h (And.intro hf (And.intro hfl (And.intro hB (And.intro hrm hlo)))))
  clear h hf hfl hB hrm hlo hd
  go_enter Tryz.func19, Tryz.ntmps19
  go_wp2_with fail
  refine (unhide HF).mono ?_
  rintro e w1 ⟨fv, ns, rfl, hm, hn, hnM⟩
  obtain ⟨fo, fc, rfl⟩ := hm.shape
  have hst : ROn Q w w1 rb s (.slice fo ns.length fc) ns (.slice none 0 0) [] ⟨[], -1, 0⟩ := ⟨(RM.nil _ w).goes hm.2.1, rfl, hm.1, fun j hj => ⟨hm.2.2 j hj, by simp [Value.ownBlock]⟩⟩
  have Hst := hide hst
  have HN := hide hn
  clear hst hm hn HF c3
  go_wp2_with fail
  go_loopw [8, 9, 10, 11] (fun out fr nx i wr => ∃ (n : Nat) (o : OSt) (rl : List (Value × List UInt8)), i = .int .i64 n ∧ n ≤ ns.length ∧ fr = .int .i64 o.since ∧ nx = .int .i64 o.next ∧ openR s.read (ns.take n) ⟨[], -1, 0⟩ = some o ∧ ROn Q w wr rb s (.slice fo ns.length fc) ns out rl o) (fun _ _ _ i _ => ns.length - (intOf i).toNat)
  case atStart => exact ⟨0, _, [], rfl, by omega, rfl, rfl, rfl, unhide Hst⟩
  case round =>
    clear Hst
    obtain ⟨n, o, rl, rfl, hnl, rfl, rfl, hop, hR⟩ := hrel
    have hrk := (unhide HD).1.keeps hR.rm.turn (fun _ _ e => e) (fun e => e)
    have hrb : rb < w.heap.size := by
      obtain ⟨kv, pv, kl, pl, h1⟩ := (unhide HD).1
      exact h1.head.lt
    obtain ⟨oo, oc, hoe⟩ := hR.rm.shape
    have HOp := hide hop
    by_cases hlt : n < ns.length
    · obtain ⟨k, hk⟩ : ∃ k, ns[n]? = some k := ⟨_, List.getElem?_eq_getElem hlt⟩
      have hkm : s.read k ≠ [] := ((unhide HN).2 k).1 (List.mem_of_getElem? hk)
      have hkb := (unhide HD).2.2.2.2.2 k hkm
      have hcl := i64s_get6 ns n k hk
      obtain ⟨g, hfo⟩ : ∃ g, fo = some ⟨g, 0, none⟩ := by
        rcases hR.files.shape with ⟨h0, h1⟩ | ⟨g, cap', h0, _⟩
        · rw [h1] at hcl; simp at hcl
        · injection h0 with e1; exact ⟨g, e1⟩
      subst hfo
      have hcell : ∀ wz, OwnsC 3 wz (.slice (some ⟨g, 0, none⟩) ns.length fc) (i64s ns) → wz.cell? ⟨g, n, none⟩ = some (.int .i64 k) := fun wz ho => by
        rcases ho.sees with ⟨h0, _⟩ | ⟨a, cap, e, _, _, hc⟩
        · simp at h0
        · simp only [Value.slice.injEq, Option.some.injEq] at e
          have := hc n _ hcl
          rwa [← e.1, addr_lit, Nat.zero_add] at this
      have x1 := hcell wr hR.files
      have x2 : (n : Int) < ns.length := by omega
      have HRd := hide (rread_any k hrk (unhide HD).2.1)
      have Hcell := hide hcell
      have Hk := hide hk
      have HR := hide hR
      have hrn : rl.length ≤ n * B := by
        have h1 := openR_len (unhide HD).2.2.1 (unhide HOp)
        have h2 := congrArg List.length hR.is
        rw [List.length_map] at h2
        have h3 : (ns.take n).length * B ≤ n * B := Nat.mul_le_mul_right B (by rw [List.length_take]; omega)
        simp only [List.length_nil] at h1
        omega
      have hsum : rl.length + (s.read k).length ≤ 1099511627776 := by
        have h1 := (unhide HD).2.2.1 k
        have h2 : n * B + B ≤ (M + 1) * B := by
          have : (n + 1) * B ≤ (M + 1) * B := Nat.mul_le_mul_right B (by omega)
          rwa [Nat.succ_mul] at this
        have h3 := (unhide HD).2.2.2.1
        omega
      have hlenR : (s.read k).length ≤ 1099511627776 := by omega
      generalize hrl : rl.length = rlen at *
      have HL := hide hrl
      subst hoe
      clear hcl hkm hcell hR hk hop hrk hrl hrn
      go_wp2_with fail
      refine (unhide HRd).mono ?_
      rintro e w2 ⟨v2, rfl, hs2, hl2, t2⟩
      obtain ⟨vo2, vc2, hve2⟩ := hs2.shape
      have HFl := hide (readFile_any v2 (s.read k) w2 hs2 hlenR)
      have T2 := hide t2
      generalize (s.read k).length = nr at hve2
      subst hve2
      clear hs2 hl2 t2 HRd
      go_wp2_with fail
      refine (unhide HFl).mono ?_
      intro e w3 hF
      clear HFl
      cases htk : PSt.takes (frs (s.read k)) PSt.zero with
      | none =>
        rw [htk] at hF
        obtain ⟨ao, na, ca, bf, rfl, t3⟩ := hF
        have hno := openR_no (unhide HOp) (unhide Hk) htk
        have Hfin : Hid (∀ z, ROpTo Q w rb s (.returned (.tuple #[.pointer none, .slice none 0 0, .int .i64 5])) (w3.alloc z)) := hide (fun z => ⟨ns, unhide HN, by rw [hno]; exact ⟨rfl, (((unhide HR).rm.turn.trans (unhide T2)).trans t3).alloc z⟩⟩)
        clear hno t3 htk
        go_wp2
        go_ret3
        exact unhide Hfin _
      | some p =>
        rw [htk] at hF
        obtain ⟨rv, rl3, rfl, hr3, he3, t3⟩ := hF
        obtain ⟨ro3, rc3, hre3⟩ := hr3.shape
        obtain ⟨w4, hw4⟩ : ∃ w4, w4 = w3.alloc (.cells #[rv, .bool p.fresh] 109) := ⟨_, rfl⟩
        have t4 : Turn (fun _ => False) w3 w4 := by rw [hw4]; exact (Turn.refl _ _).alloc _
        have hA4 : At 109 w4 w3.heap.size #[rv, .bool p.fresh] := by rw [hw4]; exact At.new _ _ _
        have y0 : w4.cell? ⟨w3.heap.size, 0, none⟩ = some rv := hA4.cell 0
        have y1 : w4.cell? ⟨w3.heap.size, 1, none⟩ = some (.bool p.fresh) := hA4.cell 1
        have tt := ((unhide T2).trans t3).trans t4
        have hRM := (unhide HR).rm.goes tt
        have hfiles := (unhide HR).files.kept tt (fun _ _ e => e)
        have x3 := unhide Hcell w3 ((unhide HR).files.kept ((unhide T2).trans t3) (fun _ _ e => e))
        have hg3 : g < w3.heap.size := World.block_lt_of_cell? _ _ x3
        have hr4 := hr3.kept t4 (fun _ _ e => e)
        have hw2 : w.heap.size ≤ w2.heap.size := Nat.le_trans (unhide HR).rm.turn.size (unhide T2).size
        have hyes := openR_yes (unhide HOp) (unhide Hk) htk
        have hpl := part_len htk
        have hp3 : rl3.length = p.recs.length := by have := congrArg List.length he3; rwa [List.length_map] at this
        have hqq : ∀ (out : Value), (∀ j, out.ownBlock = some j → j < w2.heap.size) → ∀ j, grow (fun _ => False) w2 w3 j → (False ∨ w.heap.size ≤ j) ∧ j < w4.heap.size ∧ out.ownBlock ≠ some j := fun out ho j hj => by
          have s4 := t4.size
          rcases hj with hj | hj
          · exact hj.elim
          · exact ⟨.inr (by omega), by omega, fun e => by have := ho j e; omega⟩
        have qk : k + 1 ≤ 9223372036854775807 := by omega
        have Hw4 := hide hw4
        cases hfr : p.fresh with
        | true =>
          obtain ⟨v5, w5, r5, hm5, hg5, hk5⟩ := (((RM.nil (fun _ => False) w).goes hRM.turn)).cats hr4 (hqq _ (fun j hj => by simp [Value.ownBlock] at hj)) (by simp; omega)
          rw [List.nil_append] at hm5
          have tg : Turn (fun j => (Value.slice none 0 0).ownBlock = some j) w4 w5 := (Turn.refl _ _).grown hg5 (fun j hj => .inl hj)
          have hnext : ROn Q w w5 rb s (.slice (some ⟨g, 0, none⟩) ns.length fc) ns v5 rl3 (o.file k p) := by
            refine ⟨hm5, by unfold OSt.file; rw [hfr]; simpa using he3, hfiles.kept tg (fun j hj e => by simp [Value.ownBlock] at e), fun j hj => ⟨((unhide HR).fnew j hj).1, fun e => ?_⟩⟩
            rcases hk5 with h5 | h5
            · rw [h5] at e; simp [Value.ownBlock] at e
            · rw [h5] at e
              injection e with e
              have := hfiles.lt hj
              omega
          have hos : (o.file k p).since = k ∧ (o.file k p).next = k + 1 := by unfold OSt.file; rw [hfr]; exact ⟨rfl, rfl⟩
          have x5 := unhide Hcell w5 hnext.files
          obtain ⟨o5, p5, e5⟩ := hm5.shape
          have R5 := hide r5
          have Hn := hide (And.intro hyes (And.intro hnext hos))
          rw [hfr] at Hw4
          generalize rl3.length = l3 at hre3 e5
          subst hre3 e5
          clear hr3 hr4 hRM hfiles hw4 hnext hos hm5 hg5 hk5 tg r5 tt t3 t4 hA4 hyes hqq he3 htk hpl hp3 y0 y1 x1
          go_wp2_with (at_builtin; rw [← unhide Hw4]; refine wpList_append_run rfl (.tmp 52) (.tmp 54) 22 rfl _ _ _ w5 rfl rfl (unhide R5) ?_)
          go_roundw
          case rel => exact ⟨n + 1, o.file k p, _, by go_num, by omega, by rw [(unhide Hn).2.2.1], by rw [(unhide Hn).2.2.2], (unhide Hn).1, (unhide Hn).2.1⟩
          case measure => simp [intOf]; omega
        | false =>
          obtain ⟨v5, w5, r5, hm5, hg5, hk5⟩ := hRM.cats hr4 (hqq _ (fun j hj => Nat.lt_of_lt_of_le ((unhide HR).rm.own.lt hj) (unhide T2).size)) (by have := unhide HL; omega)
          have tg : Turn (fun j => (Value.slice oo rlen oc).ownBlock = some j) w4 w5 := (Turn.refl _ _).grown hg5 (fun j hj => .inl hj)
          have hnext : ROn Q w w5 rb s (.slice (some ⟨g, 0, none⟩) ns.length fc) ns v5 (rl ++ rl3) (o.file k p) := by
            refine ⟨hm5, by unfold OSt.file; rw [hfr, List.map_append, (unhide HR).is, he3]; rfl, hfiles.kept tg (fun j hj e => ((unhide HR).fnew j hj).2 e), fun j hj => ⟨((unhide HR).fnew j hj).1, fun e => ?_⟩⟩
            rcases hk5 with h5 | h5
            · rw [h5] at e
              exact ((unhide HR).fnew j hj).2 e
            · rw [h5] at e
              injection e with e
              have := hfiles.lt hj
              omega
          have hos : (o.file k p).since = o.since ∧ (o.file k p).next = k + 1 := by unfold OSt.file; rw [hfr]; exact ⟨rfl, rfl⟩
          have x5 := unhide Hcell w5 hnext.files
          obtain ⟨o5, p5, e5⟩ := hm5.shape
          have R5 := hide r5
          have Hn := hide (And.intro hyes (And.intro hnext hos))
          rw [hfr] at Hw4
          generalize rl3.length = l3 at hre3
          generalize (rl ++ rl3).length = l5 at e5
          subst hre3 e5
          clear hr3 hr4 hRM hfiles hw4 hnext hos hm5 hg5 hk5 tg r5 tt t3 t4 hA4 hyes hqq he3 htk hpl hp3 y0 y1 x1
          go_wp2_with (at_builtin; rw [← unhide Hw4]; refine wpList_append_run rfl (.tmp 52) (.tmp 54) 22 rfl _ _ _ w5 rfl rfl (unhide R5) ?_)
          go_roundw
          case rel => exact ⟨n + 1, o.file k p, _, by go_num, by omega, by rw [(unhide Hn).2.2.1], by rw [(unhide Hn).2.2.2], (unhide Hn).1, (unhide Hn).2.1⟩
          case measure => simp [intOf]; omega
    · obtain rfl : n = ns.length := by omega
      have x2 : ¬ (ns.length : Int) < ns.length := by omega
      rw [List.take_length] at hop
      have HOp := hide hop
      have HR := hide hR
      have HK := hide hrk
      subst hoe
      generalize rl.length = rlen at *
      clear hop hR hrk hlt
      generalize wr = wA at *
      go_wp2_with fail
      go_loopw [14] (fun i wx => ∃ (m : Nat) (Q' : Nat → Prop), i = .int .i64 m ∧ m ≤ ns.length ∧ RDk Q' wx rb (s.goneR ((ns.take m).filter (· < o.since))) ∧ Turn (fun j => j = rb) wA wx ∧ ∀ j, Q' j → Q j ∨ w.heap.size ≤ j) (fun i _ => ns.length - (intOf i).toNat)
      case atStart => exact ⟨0, Q, rfl, by omega, unhide HK, Turn.refl _ _, fun j hj => .inl hj⟩
      case round =>
        clear HK
        obtain ⟨m, Q', rfl, hml, hrd, tx, hQ'⟩ := hrel
        have hfk : OwnsC 3 wr (.slice fo ns.length fc) (i64s ns) := (unhide HR).files.kept tx (fun j hj e => by have := ((unhide HR).fnew j hj).1; omega)
        by_cases hlt : m < ns.length
        · obtain ⟨k, hk⟩ : ∃ k, ns[m]? = some k := ⟨_, List.getElem?_eq_getElem hlt⟩
          have hcl := i64s_get6 ns m k hk
          obtain ⟨g, hfo⟩ : ∃ g, fo = some ⟨g, 0, none⟩ := by
            rcases hfk.shape with ⟨h0, h1⟩ | ⟨g, cap', h0, _⟩
            · rw [h1] at hcl; simp at hcl
            · injection h0 with e1; exact ⟨g, e1⟩
          subst hfo
          have x1 : wr.cell? ⟨g, m, none⟩ = some (.int .i64 k) := by
            rcases hfk.sees with ⟨h0, _⟩ | ⟨a, cap, e, _, _, hc⟩
            · simp at h0
            · simp only [Value.slice.injEq, Option.some.injEq] at e
              have := hc m _ hcl
              rwa [← e.1, addr_lit, Nat.zero_add] at this
          have x3 : (m : Int) < ns.length := by omega
          obtain ⟨ht1, ht2⟩ := List.getElem?_eq_some_iff.1 hk
          have htake : ns.take (m + 1) = ns.take m ++ [k] := by rw [List.take_succ_eq_append_getElem ht1, ht2]
          by_cases hks : k < o.since
          · have hsub : ∀ j ∈ (ns.take m).filter (· < o.since), s.read j ≠ [] := fun j hj => ((unhide HN).2 j).1 (List.mem_of_mem_take (List.mem_filter.1 hj).1)
            have hlen : ((ns.take m).filter (· < o.since)).length ≤ M := Nat.le_trans (List.length_filter_le _ _) (by rw [List.length_take]; omega)
            obtain ⟨hf2, hw2⟩ := (unhide HD).2.2.2.2.1 _ hsub hlen
            have HRm := hide (rrem_any k hrd hf2 hw2)
            have hnx : s.goneR ((ns.take (m + 1)).filter (· < o.since)) = ((s.goneR ((ns.take m).filter (· < o.since))).rem k).2 := by
              rw [htake, List.filter_append, ← goneR_snoc]
              simp [hks]
            have Hnx := hide hnx
            have Htx := hide (And.intro tx hQ')
            clear hnx hf2 hw2 hsub hlen hrd htake ht1 ht2 hk hcl hfk tx hQ'
            go_wp2_with fail
            refine (unhide HRm).mono ?_
            rintro e w2 ⟨rfl, h2, t2⟩
            have hfin : RDk (grow Q' wr w2) w2 rb (s.goneR ((ns.take (m + 1)).filter (· < o.since))) ∧ Turn (fun j => j = rb) wA w2 ∧ ∀ j, grow Q' wr w2 j → Q j ∨ w.heap.size ≤ j := by
              refine ⟨by rw [unhide Hnx]; exact h2, (unhide Htx).1.trans t2, fun j hj => ?_⟩
              rcases hj with hj | hj
              · exact (unhide Htx).2 j hj
              · have h1 := (unhide Htx).1.size
                have h2 := (unhide HR).rm.turn.size
                exact .inr (by omega)
            have Hfin := hide hfin
            clear hfin h2 t2 HRm
            go_wp2
            go_roundw
            case rel => exact ⟨m + 1, _, by go_num, by omega, (unhide Hfin).1, (unhide Hfin).2.1, (unhide Hfin).2.2⟩
            case measure => simp [intOf]; omega
          · have hnx : (ns.take (m + 1)).filter (· < o.since) = (ns.take m).filter (· < o.since) := by
              rw [htake, List.filter_append]
              simp [hks]
            rw [← hnx] at hrd
            have Hfin := hide (And.intro hrd (And.intro tx hQ'))
            have y4 : decide (k < o.since) = false := by simpa using hks
            clear hnx hrd htake ht1 ht2 hk hcl hfk tx hQ'
            go_wp2
            go_roundw
            case rel => exact ⟨m + 1, _, by go_num, by omega, (unhide Hfin).1, (unhide Hfin).2.1, (unhide Hfin).2.2⟩
            case measure => simp [intOf]; omega
        · obtain rfl : m = ns.length := by omega
          rw [List.take_length] at hrd
          have hall : RL (fun j => w.heap.size ≤ j) wr (.slice oo rlen oc) rl := by
            have h1 := (unhide HR).rm.toRL
            exact (h1.kept tx (fun j hj e => hj.elim (fun e2 => e2) (fun e2 => by omega))).mono (fun j hj => hj.elim (fun e => e.elim) (fun e => e.1))
          have tz : Turn (fun j => j = rb) w wr := ((unhide HR).rm.turn.mono (fun _ _ e => e.elim)).trans tx
          have Hfin : Hid (∀ z l, ROpTo Q w rb s (.returned (.tuple #[.pointer (some ⟨l, 0, none⟩), .slice oo rlen oc, .int .i64 0])) (wr.alloc z)) := hide (fun z l => ⟨ns, unhide HN, by
            have ta : Turn (fun _ => False) wr (wr.alloc z) := (Turn.refl _ _).alloc _
            rw [unhide HOp]
            exact ⟨l, _, rl, Q', rfl, hrd.keeps ta (fun _ _ e => e) (fun e => e), hall.kept ta (fun _ _ e => e), (unhide HR).is, hQ', tz.trans (ta.mono (fun _ _ e => e.elim))⟩⟩)
          have x3 : ¬ (ns.length : Int) < ns.length := by omega
          clear hrd hall tz tx hQ' hfk hlt
          go_wp2
          go_ret3
          exact unhide Hfin _ _

end

end Go.Proofs.YteomehdkfhjbeaaGreat
