/- Open, within a law. -/
import Derived.Test.YtnipdgigjcaolaaGreatPkH
import Derived.Test.YtnipdgigjcaolaaGreatWRem
import Derived.Test.YtnipdgigjcaolaaGreatPkG
namespace Go.Proofs.YtnipdgigjcaolaaGreat
open Go.RowKit

/-- A Log and its history within the opening. -/
structure OpnH (w0 : World) (K : Nat → Prop) (w : World) (b N : Nat) (d : DSt) (l f t hb : Nat) (H : Nat → Prop) (seg at' : Int) (h : HSt) (v : Value) (ns : List Int) (T : Nat → Prop) (wr : World) : Prop where
  dl : DL w0 (fun j => KL K l f t j ∨ H j) wr b N d
  fr : Fr wr f t
  at' : At 101 wr l (lcells b f seg at' 0 false)
  hist : HAt wr hb H h
  nK : ¬ K l ∧ ¬ K f ∧ ¬ K t
  nH : ¬ H l ∧ ¬ H f ∧ ¬ H t
  ne : l ≠ f ∧ l ≠ t
  new : w.heap.size ≤ l ∧ w.heap.size ≤ f ∧ w.heap.size ≤ t ∧ ∀ j, H j → w.heap.size ≤ j
  KH : ∀ j, K j → ¬ H j
  see : SeesC wr v (i64s ns)
  mem : ∀ j, slab v = some j → K j
  turn : Turn T w wr

section
variable {w0 w wr w1 w2 : World} {K K0 H T : Nat → Prop} {b N l f t hb : Nat} {d : DSt} {seg at' : Int} {h h' : HSt} {v v1 : Value} {ns : List Int} {bs : List UInt8} {e : Ending}

theorem OpnH.ltl (o : OpnH w0 K w b N d l f t hb H seg at' h v ns T wr) : l < wr.heap.size := o.at'.lt

theorem OpnH.read (o : OpnH w0 K w b N d l f t hb H seg at' h v ns T wr) (hm : Made wr v1 bs w1) (hr : ReadTo w1 hb H f t (some h') e w2) : OpnH w0 K w b N d l f t hb (grow H w1 w2) seg at' h' v ns T w2 := by
  obtain ⟨_, hH, hF, tr⟩ := hr
  have s1 := hm.2.1.size
  have s2 := tr.size
  have s0 := o.turn.size
  have l1 := o.ltl
  have l2 := o.fr.ltf
  have l3 := o.fr.ltt
  refine ⟨((o.dl.new hm.2.1).hold (tr.mono ?_)).less ?_, hF, (o.at'.kept hm.2.1 (fun e => e)).kept tr ?_, hH, o.nK, ⟨?_, ?_, ?_⟩, o.ne, ⟨o.new.1, o.new.2.1, o.new.2.2.1, ?_⟩, ?_, (o.see.kept hm.2.1 (fun _ _ e => e)).kept tr ?_, o.mem, (o.turn.trans (hm.2.1.mono (fun _ _ e => e.elim))).trans' tr ?_⟩
  · rintro i _ (hi | rfl)
    · exact .inl (.inr hi)
    · exact .inl (.inl (.inr (.inr (.inr rfl))))
  · rintro j (hj | hj | hj)
    · exact .inl (.inl (.inl hj))
    · exact .inl (.inl (.inr hj))
    · exact .inr hj
  · rintro (hl | hl)
    · exact o.nH.1 hl
    · exact o.ne.2 hl
  · rintro (hl | hl)
    · exact o.nH.1 hl
    · omega
  · rintro (hl | hl)
    · exact o.nH.2.1 hl
    · omega
  · rintro (hl | hl)
    · exact o.nH.2.2 hl
    · omega
  · rintro j (hj | hj)
    · exact o.new.2.2.2 j hj
    · omega
  · rintro j hk (hj | hj)
    · exact o.KH j hk hj
    · have := (o.dl.held j (.inl (.inl hk))).2
      omega
  · rintro j hj (hk | hk)
    · exact o.KH j (o.mem j hj) hk
    · exact o.nK.2.2 (hk ▸ o.mem j hj)
  · rintro j hj (hk | hk)
    · have := o.new.2.2.2 j hk
      omega
    · have := o.new.2.2.1
      omega

theorem OpnH.readNo (o : OpnH w0 K w b N d l f t hb H seg at' h v ns T wr) (hm : Made wr v1 bs w1) (hr : ReadTo w1 hb H f t none e w2) : Turn T w w2 := by
  obtain ⟨_, tr⟩ := hr
  refine (o.turn.trans (hm.2.1.mono (fun _ _ e => e.elim))).trans' tr ?_
  rintro j hj (hk | hk)
  · have := o.new.2.2.2 j hk
    omega
  · have := o.new.2.2.1
    omega

theorem OpnH.store (o : OpnH w0 K w b N d l f t hb H seg at' h v ns T wr) (x : Int) : OpnH w0 K w b N d l f t hb H seg x h v ns T (wr.setCell ⟨l, 3, none⟩ (.int .i64 x)) := by
  have ts : Turn (fun i => i = l) wr (wr.setCell ⟨l, 3, none⟩ (.int .i64 x)) := (Turn.refl (fun i => i = l) wr).setCell (p := ⟨l, 3, none⟩) (.inl rfl) _
  refine ⟨(o.dl.hold (ts.mono (fun i _ e => .inl (.inr (.inl e))))).less (fun j hj => .inl hj), o.fr.kept ts (fun e => o.ne.1 e.symm) (fun e => o.ne.2 e.symm), o.at'.set 3 _, o.hist.kept ts (fun j hj e => o.nH.1 (e ▸ hj)), o.nK, o.nH, o.ne, o.new, o.KH, o.see.kept ts (fun j hj e => o.nK.1 (e ▸ o.mem j hj)), o.mem, o.turn.trans' ts ?_⟩
  rintro j hj rfl
  have := o.new.1
  omega

theorem OpnH.gone {N' : Nat} {d' : DSt} (o : OpnH w0 K w b N d l f t hb H seg at' h v ns (Outs w0 K0) wr) (hK : ∀ j, K0 j → K j) (hd : DL w0 (fun j => KL K l f t j ∨ H j) w2 b N' d') (tn : Turn (Outs w0 (fun j => KL K l f t j ∨ H j)) wr w2) : OpnH w0 K w b N' d' l f t hb H seg at' h v ns (Outs w0 K0) w2 :=
  ⟨hd, o.fr.kept tn (fun e => e.2 (.inl (.inr (.inr (.inl rfl))))) (fun e => e.2 (.inl (.inr (.inr (.inr rfl))))), o.at'.kept tn (fun e => e.2 (.inl (.inr (.inl rfl)))), o.hist.kept tn (fun _ hj e => e.2 (.inr hj)), o.nK, o.nH, o.ne, o.new, o.KH, o.see.kept tn (fun j hj e => e.2 (.inl (.inl (o.mem j hj)))), o.mem, o.turn.trans (tn.mono (fun j _ e => ⟨e.1, fun hk => e.2 (.inl (.inl (hK j hk)))⟩))⟩

theorem OpnH.part {v2 : Value} {ks : List Int} {T2 : Nat → Prop} (o : OpnH w0 K w b N d l f t hb H seg at' h v ns T wr) (hs : SeesC wr v2 (i64s ks)) (hm : ∀ j, slab v2 = some j → slab v = some j) (hT : ∀ j, T j → T2 j) : OpnH w0 K w b N d l f t hb H seg at' h v2 ks T2 wr :=
  ⟨o.dl, o.fr, o.at', o.hist, o.nK, o.nH, o.ne, o.new, o.KH, hs, fun j hj => o.mem j (hm j hj), o.turn.mono (fun j _ e => hT j e)⟩

theorem OpnH.ends (o : OpnH w0 K w b N d l f t hb H seg at' h v ns T wr) : ∃ rv rl, wr.cell? ⟨hb, 0, none⟩ = some rv ∧ LI w0 (fun j => K j ∨ H j) wr l b f t N ⟨d, seg, at', 0, false⟩ ∧ RL (fun j => (K j ∨ H j) ∧ w.heap.size ≤ j) wr rv rl ∧ rl.map (·.2) = h.recs := by
  obtain ⟨rv, bv, rl, bl, hi⟩ := o.hist
  refine ⟨rv, rl, hi.at'.cell 0, ⟨o.dl.less ?_, o.fr, o.at', ?_, ?_, ?_, o.ne.1, o.ne.2⟩, RL.of hi.r (fun g hg => ⟨.inr (hi.inr g hg).1, o.new.2.2.2 g (hi.inr g hg).1⟩) (fun p hp => ⟨(hi.each p (.inl hp)).1, fun h0 j hj => ⟨.inr ((hi.each p (.inl hp)).2 h0 j hj).1, o.new.2.2.2 j ((hi.each p (.inl hp)).2 h0 j hj).1⟩⟩), hi.recs⟩
  · rintro j ((hj | hj) | hj)
    · exact .inl (.inl hj)
    · exact .inr hj
    · exact .inl (.inr hj)
  · rintro (hj | hj)
    · exact o.nK.1 hj
    · exact o.nH.1 hj
  · rintro (hj | hj)
    · exact o.nK.2.1 hj
    · exact o.nH.2.1 hj
  · rintro (hj | hj)
    · exact o.nK.2.2 hj
    · exact o.nH.2.2 hj

/-- What Open comes to. -/
def OTo (w0 : World) (K : Nat → Prop) (w : World) (b N M : Nat) (d : DSt) (seg : Int) (ns : List Int) (r : Option (HSt × Int)) (e : Ending) (w' : World) : Prop :=
  match r with
  | none => e = .returned (.tuple #[.pointer none, .slice none 0 0, .int .i64 5]) ∧ Turn (fun _ => False) w w'
  | some y => ∃ l f t rv rl, ∃ K' : Nat → Prop, e = .returned (.tuple #[.pointer (some ⟨l, 0, none⟩), rv, .int .i64 0]) ∧ LI w0 K' w' l b f t (N + M) ⟨d.gone (ns.filter (· < y.1.since)), seg, y.2, 0, false⟩ ∧ RL (fun j => K' j ∧ w.heap.size ≤ j) w' rv rl ∧ rl.map (·.2) = y.1.recs ∧ (∀ j, K j → K' j) ∧ Turn (Outs w0 K) w w'

def OpTo (w0 : World) (K : Nat → Prop) (w : World) (b N M : Nat) (d : DSt) (seg : Int) (e : Ending) (w' : World) : Prop := ∃ ns, d.Nums ns ∧ OTo w0 K w b N M d seg ns (openN d.read ns (HSt.zero, 0)) e w'

/-- One file is read. -/
def Rd1 (w0 : World) (K : Nat → Prop) (w : World) (b N : Nat) (d : DSt) (l f t hb : Nat) (seg at' : Int) (v : Value) (ns : List Int) (r : Option HSt) (x : Value) (wx : World) : Prop :=
  match r with
  | none => x = .bool true ∧ Turn (fun _ => False) w wx
  | some h' => x = .bool false ∧ ∃ H, OpnH w0 K w b N d l f t hb H seg at' h' v ns (fun _ => False) wx

theorem open_arg (b : Value) (seg : Int) (w : World) (hb : b = .pointer none ∨ ((∃ k, b = .pointer (some ⟨k, 0, none⟩)) ∧ seg < 256)) :
    Calls Tryz.prog 18 #[b, .int .i64 seg] w fun e w' => e = .returned (.tuple #[.pointer none, .slice none 0 0, .int .i64 1]) ∧ w = w' := by
  rcases hb with rfl | ⟨⟨k, rfl⟩, hs⟩
  · go_enter Tryz.func18, Tryz.ntmps18
    go_wp2
    go_ret3
    exact ⟨rfl, rfl⟩
  · go_enter Tryz.func18, Tryz.ntmps18
    go_wp2
    go_ret3
    exact ⟨rfl, rfl⟩

set_option maxHeartbeats 8000000 in
set_option maxRecDepth 100000 in
theorem open_any (M B : Nat) (h : DL w0 K w b N d) (hd : d.dead = false) (hs0 : 256 ≤ seg) (hs1 : seg ≤ 1048576) (hM : ∀ ns, d.Nums ns → ns.length ≤ M) (hB : ∀ k, (d.read k).length ≤ B) (hMB : (M + 1) * B ≤ 1099511627776) (hN : N + M ≤ 1073741822) (hk : ∀ k, d.read k ≠ [] → 0 ≤ k ∧ k ≤ 1099511627776) :
    Calls Tryz.prog 18 #[.pointer (some ⟨b, 0, none⟩), .int .i64 seg] w (OpTo w0 K w b N M d seg) := by
  have HD := hide (dl_dead h)
  rw [hd] at HD
  have HO := hide h
  have HM := hide hM
  have HB := hide hB
  have HMB := hide hMB
  have HK := hide hk
  have q1 : decide (seg < 256) = false := by simp; omega
  have q2 : decide (1048576 < seg) = false := by simp; omega
  have hB40 : B ≤ 1099511627776 := by
    have : 1 * B ≤ (M + 1) * B := Nat.mul_le_mul_right B (by omega)
    omega
  have hnow : ∀ k, (d.now k).length ≤ 140737488355328 := fun k => by
    have h1 := hB k
    unfold DSt.read at h1
    rw [hd] at h1
    simp at h1
    omega
  have HNow := hide hnow
  clear h hM hB hMB hk hnow hd
  go_enter Tryz.func18, Tryz.ntmps18
  go_wp2_with fail
  refine (unhide HD).mono ?_
  rintro e w1 ⟨rfl, rfl⟩
  go_wp2_with fail
  refine (frameNew_any w).mono ?_
  rintro e w1 ⟨f, rfl, t, hF, hf0, ht0, tn⟩
  have hl := At.new 101 w1 (lcells b f seg 0 0 false)
  have tl : Turn (fun _ => False) w1 (w1.alloc (.cells (lcells b f seg 0 0 false) 101)) := (Turn.refl _ _).alloc _
  have h2 := (unhide HO).new (tn.trans tl)
  have HF := hide (dl_files h2 (by omega))
  have hltf := hF.ltf
  have hltt := hF.ltt
  have hft : f ≠ t := fun e => hF.ne e
  have Hl := hide hl
  have HFr := hide (hF.goes tl)
  have Htn := hide (tn.trans tl)
  clear hl h2 hF tl tn HD
  obtain ⟨wl, hwl⟩ : ∃ wl, wl = w1.alloc (.cells (lcells b f seg 0 0 false) 101) := ⟨_, rfl⟩
  have hlw : wl.heap.size = w1.heap.size + 1 := by rw [hwl]; exact Array.size_push _
  rw [← hwl] at HF Hl HFr Htn
  have Hwl := hide hwl
  clear hwl
  go_wp2_with fail
  rw [show w1.alloc (.cells #[.pointer (some ⟨b, 0, none⟩), .pointer (some ⟨f, 0, none⟩), .int .i64 seg, .int .i64 0, .int .i64 0, .bool false] 101) = wl from (unhide Hwl).symm]
  refine (unhide HF).mono ?_
  rintro e w2 ⟨v, ns, rfl, hm, hn, hnl, hd2⟩
  obtain ⟨ao, cap, rfl⟩ := hm.shape
  have hs2 := hm.2.1.size
  have hA := At.new 104 w2 #[.slice none 0 0, .int .i64 0, .slice none 0 0, .int .i64 0]
  have th : Turn (fun _ => False) w2 (w2.alloc (.cells #[.slice none 0 0, .int .i64 0, .slice none 0 0, .int .i64 0] 104)) := (Turn.refl _ _).alloc _
  have hhw : (w2.alloc (.cells #[.slice none 0 0, .int .i64 0, .slice none 0 0, .int .i64 0] 104)).heap.size = w2.heap.size + 1 := Array.size_push _
  generalize hKf : (fun j => K j ∨ slab (.slice ao ns.length cap) = some j) = Kf
  have hw0l := (unhide HO).turn.size
  have hKl := (unhide HO).held
  have hstart : OpnH w0 Kf w b N d w1.heap.size f t w2.heap.size (fun j => j = w2.heap.size) seg 0 HSt.zero (.slice ao ns.length cap) ns (fun _ => False) (w2.alloc (.cells #[.slice none 0 0, .int .i64 0, .slice none 0 0, .int .i64 0] 104)) := by
    have hnew := (unhide Htn).size
    have hvK : ∀ j, slab (.slice ao ns.length cap) = some j → wl.heap.size ≤ j ∧ j < w2.heap.size := fun j hj => by
      rw [hm.1.slab_eq] at hj
      exact ⟨hm.2.2 j hj, hm.1.lt hj⟩
    subst hKf
    refine ⟨(hd2.new th).less ?_, ((unhide HFr).goes hm.2.1).goes th, ((unhide Hl).kept hm.2.1 (fun e => e)).kept th (fun e => e), ⟨.slice none 0 0, .slice none 0 0, [], [], hA, OwnsC.nil _ _, OwnsC.nil _ _, rfl, rfl, fun j hj => by simp [Value.ownBlock] at hj, fun j hj => by simp [Value.ownBlock] at hj, fun p hp => by simp at hp, rfl, fun j hj => by omega⟩, ⟨?_, ?_, ?_⟩, ⟨by omega, by omega, by omega⟩, ⟨by omega, by omega⟩, ⟨by omega, hf0, ht0, fun j hj => by omega⟩, ?_, (hm.1.sees).kept th (fun _ _ e => e), fun j hj => .inr hj, ((unhide Htn).trans hm.2.1).trans th⟩
    · rintro j (((hj | hj) | hj | hj | hj) | hj)
      · exact .inl (.inl (.inl hj))
      · exact .inl (.inr (hvK j hj))
      · exact .inl (.inl (.inr (by omega)))
      · exact .inl (.inl (.inr (by omega)))
      · exact .inl (.inl (.inr (by omega)))
      · exact .inr (by omega)
    · rintro (hj | hj)
      · have := (hKl _ hj).2; have := (unhide Htn).size; omega
      · have := (hvK _ hj); omega
    · rintro (hj | hj)
      · have := (hKl _ hj).2; omega
      · have := (hvK _ hj); omega
    · rintro (hj | hj)
      · have := (hKl _ hj).2; omega
      · have := (hvK _ hj); omega
    · rintro j (hj | hj) e
      · have := (hKl _ hj).2; omega
      · have := (hvK _ hj); omega
  have HKf : Hid (∀ j, K j → Kf j) := hide (by subst hKf; exact fun j hj => .inl hj)
  have Hs := hide hstart
  clear hstart
  have HN := hide hn
  have hnM := unhide HM ns hn
  generalize hlb : w1.heap.size = l at *
  obtain ⟨w3, Hw3, hw3⟩ : ∃ w3, Hid (w2.alloc (.cells #[.slice none 0 0, .int .i64 0, .slice none 0 0, .int .i64 0] 104) = w3) ∧ OpnH w0 Kf w b N d l f t w2.heap.size (fun j => j = w2.heap.size) seg 0 HSt.zero (.slice ao ns.length cap) ns (fun _ => False) w3 := ⟨_, hide rfl, unhide Hs⟩
  clear Hs
  have Hs := hide hw3
  clear hw3
  clear hA th hm hn hd2 HF Hl HFr Htn Hwl hlw hhw hKf hKl hlb
  go_wp2_with fail
  rw [unhide Hw3]
  clear Hw3
  generalize w2.heap.size = hb at *
  go_loopw [11, 35] (fun _ i wr => ∃ (n : Nat) (h : HSt) (at' : Int) (H : Nat → Prop), i = .int .i64 n ∧ n ≤ ns.length ∧ openN d.read (ns.take n) (HSt.zero, 0) = some (h, at') ∧ OpnH w0 Kf w b N d l f t hb H seg at' h (.slice ao ns.length cap) ns (fun _ => False) wr) (fun _ i _ => ns.length - (intOf i).toNat)
  case atStart => exact ⟨0, HSt.zero, 0, _, rfl, by omega, rfl, unhide Hs⟩
  case round =>
    clear Hs
    obtain ⟨n, h, at', H, rfl, hnl2, hop, ho⟩ := hrel
    have HOp := hide hop
    have Ho := hide ho
    have c1 : wr.cell? ⟨l, 1, none⟩ = some (.pointer (some ⟨f, 0, none⟩)) := ho.at'.cell 1
    clear ho hop
    by_cases hlt : n < ns.length
    · obtain ⟨k, hk⟩ : ∃ k, ns[n]? = some k := ⟨_, List.getElem?_eq_getElem hlt⟩
      have hcl := i64s_get ns n k hk
      obtain ⟨a, rfl⟩ : ∃ a, ao = some a := by
        rcases (unhide Ho).see.shape with ⟨h0, h1⟩ | ⟨a, cap', h0, _⟩
        · rw [h1] at hcl; simp at hcl
        · injection h0 with e1; exact ⟨a, e1⟩
      have x1 := (unhide Ho).see.cellAt n _ hcl
      have x4 : (n : Int) < ns.length := by omega
      have hkm : d.read k ≠ [] := ((unhide HN).2 k).1 (List.mem_of_getElem? hk)
      have hkb := unhide HK k hkm
      have Hk := hide hk
      have hrecs : h.recs.length + (d.read k).length ≤ 1099511627776 := by
        have h1 := openN_len (unhide HB) (unhide HOp)
        have h2 := unhide HB k
        have h3 : (ns.take n).length * B + B ≤ (M + 1) * B := by
          rw [List.length_take, Nat.add_mul, Nat.one_mul]
          exact Nat.add_le_add_right (Nat.mul_le_mul_right B (by omega)) B
        have h4 := unhide HMB
        have h5 : HSt.zero.recs.length = 0 := rfl
        simp only at h1
        omega
      have Hrecs := hide hrecs
      have HR : Hid (Calls Tryz.prog 59 #[.pointer (some ⟨b, 0, none⟩), .int .i64 k] wr.drew fun e w' => ∃ v, e = .returned v ∧ Made wr.drew v (d.read k) w') := hide ((dl_read k ((unhide Ho).dl.new (Turn.refl _ wr).drew) (by omega) (unhide HNow k)).mono (fun e w' ⟨v, e1, e2, _⟩ => ⟨v, e1, e2⟩))
      have HRd : Hid (∀ v4 w4, Made wr v4 (d.read k) w4 → Calls Tryz.prog 58 #[.pointer (some ⟨hb, 0, none⟩), .pointer (some ⟨f, 0, none⟩), .int .i64 k, v4] w4 (fun e w5 => ∃ x, e = .returned (.bool x) ∧ Rd1 w0 Kf w b N d l f t hb seg at' (.slice (some a) ns.length cap) ns (h.file k (d.read k)) (.bool (!x)) w5 ∧ w5.cell? ⟨l, 1, none⟩ = some (.pointer (some ⟨f, 0, none⟩)))) := by
        refine hide (fun v4 w4 hm => ?_)
        have hlt5 := (unhide Ho).hist.lt
        refine (read_file k v4 (d.read k) ((unhide Ho).hist.kept hm.2.1 (fun _ _ e => e)) ((unhide Ho).fr.goes hm.2.1) (unhide Ho).nH.2.1 (unhide Ho).nH.2.2 hm.1.sees (fun h0 j hj => ?_) (unhide Hrecs)).mono ?_
        · rw [hm.1.slab_eq] at hj
          have h1 := hm.2.2 j hj
          have h2 := (unhide Ho).fr.ltt
          exact ⟨fun e => by have := hlt5 j e; omega, by omega⟩
        · intro e w5 h5
          cases hf : h.file k (d.read k) with
          | none =>
            rw [hf] at h5
            exact ⟨false, h5.1, ⟨rfl, (unhide Ho).readNo hm h5⟩, (((unhide Ho).at'.kept hm.2.1 (fun e => e)).kept h5.2 (fun e => e.elim (unhide Ho).nH.1 (unhide Ho).ne.2)).cell 1⟩
          | some h' =>
            rw [hf] at h5
            exact ⟨true, h5.1, ⟨rfl, _, (unhide Ho).read hm h5⟩, ((unhide Ho).read hm h5).at'.cell 1⟩
      clear hk hcl hkm hrecs Hrecs
      go_upto_region 11 with fail
      go_cut [48] from 39 to 49 (fun x wx => Rd1 w0 Kf w b N d l f t hb seg at' (.slice (some a) ns.length cap) ns (h.file k (d.read k)) x wx)
      case first =>
        go_region_held (fun w' => w'.cell? ⟨l, 1, none⟩ = some (.pointer (some ⟨f, 0, none⟩))) (go_keep)
          (first
          | (go_at_call 59; refine (unhide HR).mono ?_; rintro e w4 ⟨v4, rfl, hm4⟩; have k1 : w4.cell? ⟨l, 1, none⟩ = some (.pointer (some ⟨f, 0, none⟩)) := ((unhide Ho).at'.kept ((Turn.refl (fun _ => False) wr).drew.trans hm4.2.1) (fun e => e)).cell 1; have Hm4 : Hid (Made wr v4 (d.read k) w4) := hide ⟨hm4.1, (Turn.refl (fun _ => False) wr).drew.trans hm4.2.1, hm4.2.2⟩; clear hm4)
          | (go_at_call 58; refine (unhide HRd v4 w4 (unhide Hm4)).mono ?_; rintro e w5 ⟨x, rfl, hx5, k5⟩; have H5 := hide hx5; clear hx5))
        all_goals (
          go_wp2_with fail
          go_meet
          case rel => exact unhide H5)
      case rest =>
        clear HR HRd c1 x1
        cases hf : h.file k (d.read k) with
        | none =>
          rw [hf] at hcut
          obtain ⟨rfl, htc⟩ := hcut
          have Hres : Hid (OpTo w0 K w b N M d seg (.returned (.tuple #[.pointer none, .slice none 0 0, .int .i64 5])) wc) := hide ⟨ns, unhide HN, by rw [openN_no (unhide HOp) (unhide Hk) hf]; exact ⟨rfl, htc⟩⟩
          clear htc
          go_wp2
          go_ret3
          exact unhide Hres
        | some h' =>
          rw [hf] at hcut
          obtain ⟨rfl, H', ho'⟩ := hcut
          have d3 : wc.cell? ⟨l, 3, none⟩ = some (.int .i64 at') := ho'.at'.cell 3
          have g3 : wc.frozen? ⟨l, 3, none⟩ = false := ho'.at'.frozen 3
          have hst := ho'.store (k + 1)
          have Hst := hide hst
          have HOp' := hide (openN_yes (unhide HOp) (unhide Hk) hf)
          have q3 : k + 1 ≤ 9223372036854775807 := by omega
          clear ho' hst HOp Ho Hk hf
          go_wp2
          exact ⟨⟨n + 1, h', k + 1, H', by go_num, by omega, unhide HOp', unhide Hst⟩, by simp [intOf]; omega⟩
    · obtain rfl : n = ns.length := by omega
      have x4 : ¬ (ns.length : Int) < ns.length := by omega
      have hop := unhide HOp
      rw [List.take_length] at hop
      obtain ⟨rv, bv, rl, bl, hi⟩ := (unhide Ho).hist
      have d1 : wr.cell? ⟨hb, 1, none⟩ = some (.int .i64 h.since) := hi.at'.cell 1
      have HAh := hide (ahead_any _ ns h.since wr (unhide Ho).see (unhide HN).1 (by omega))
      clear HOp c1 hi
      go_wp2_with fail
      refine (unhide HAh).mono ?_
      rintro e w5 ⟨v2, rfl, hs2, hb2, rfl⟩
      obtain ⟨ao2, cap2, rfl⟩ := seesI_shape hs2
      have hkl : (ns.filter (· < h.since)).length ≤ M := Nat.le_trans (List.length_filter_le _ _) hnM
      have ho2 := ((unhide Ho).part (T2 := Outs w0 K) hs2 hb2 (fun _ e => e.elim))
      have Ho2 := hide ho2
      have Hres : Hid (∀ w' l' f' t' rv' rl' K', LI w0 K' w' l' b f' t' (N + M) ⟨d.gone (ns.filter (· < h.since)), seg, at', 0, false⟩ → RL (fun j => K' j ∧ w.heap.size ≤ j) w' rv' rl' → rl'.map (·.2) = h.recs → (∀ j, K j → K' j) → Turn (Outs w0 K) w w' → OpTo w0 K w b N M d seg (.returned (.tuple #[.pointer (some ⟨l', 0, none⟩), rv', .int .i64 0])) w') := hide (fun w' l' f' t' rv' rl' K' e1 e2 e3 e4 e5 => ⟨ns, unhide HN, by rw [hop]; exact ⟨l', f', t', rv', rl', K', rfl, e1, e2, e3, e4, e5⟩⟩)
      generalize ns.filter (· < h.since) = ks at *
      clear ho2 hs2 hb2 Ho HAh d1 hop HN
      go_wp2_with fail
      go_loopw [13, 60] (fun _ i wr => ∃ (n : Nat), i = .int .i64 n ∧ n ≤ ks.length ∧ OpnH w0 Kf w b (N + n) (d.gone (ks.take n)) l f t hb H seg at' h (.slice ao2 ks.length cap2) ks (Outs w0 K) wr) (fun _ i _ => ks.length - (intOf i).toNat)
      case atStart => exact ⟨0, rfl, by omega, unhide Ho2⟩
      case round =>
        clear Ho2
        obtain ⟨n, rfl, hn3, ho3⟩ := hrel
        have Ho3 := hide ho3
        clear ho3
        by_cases hlt3 : n < ks.length
        · obtain ⟨k, hk⟩ : ∃ k, ks[n]? = some k := ⟨_, List.getElem?_eq_getElem hlt3⟩
          have hnext : d.gone (ks.take (n + 1)) = ((d.gone (ks.take n)).rem k).2 := by
            obtain ⟨h1, h2⟩ := List.getElem?_eq_some_iff.1 hk
            rw [List.take_succ_eq_append_getElem h1, h2, gone_snoc]
          have hcl := i64s_get ks n k hk
          obtain ⟨a, rfl⟩ : ∃ a, ao2 = some a := by
            rcases (unhide Ho3).see.shape with ⟨h0, h1⟩ | ⟨a, cap', h0, _⟩
            · rw [h1] at hcl; simp at hcl
            · injection h0 with e1; exact ⟨a, e1⟩
          have x1 := (unhide Ho3).see.cellAt n _ hcl
          have x4 : (n : Int) < ks.length := by omega
          have HRm := hide (dl_remove k (unhide Ho3).dl (by omega))
          have Hnext := hide hnext
          clear hk hcl hnext
          go_wp2_with fail
          refine (unhide HRm).mono ?_
          rintro e w6 ⟨rfl, hd6, t6⟩
          have h6 := (unhide Ho3).gone (unhide HKf) hd6 t6
          rw [← unhide Hnext] at h6
          have H6 := hide h6
          clear h6 hd6 t6 HRm Ho3 x1
          go_wp2
          exact ⟨⟨n + 1, by go_num, by omega, unhide H6⟩, by simp [intOf]; omega⟩
        · obtain rfl : n = ks.length := by omega
          have x5 : ¬ (ks.length : Int) < ks.length := by omega
          obtain ⟨rv', rl', hc0, hLI, hRL, hrec⟩ := (unhide Ho3).ends
          rw [List.take_length] at hLI
          have Hfin : Hid (∀ n, OpTo w0 K w b N M d seg (.returned (.tuple #[.pointer (some ⟨l, 0, none⟩), rv', .int .i64 0])) (wr.drewN n)) := hide (fun n => unhide Hres _ _ _ _ _ rl' _ ((hLI.drew n).mono (by omega)) (hRL.kept (tdrewN wr n) (fun _ _ e => e)) hrec (fun j hj => .inl (unhide HKf j hj)) ((unhide Ho3).turn.trans ((tdrewN wr n).mono (fun _ _ e => e.elim))))
          clear hLI hRL hrec Ho3 Hres
          go_wp2_with fail
          go_quiet ((fail))
          go_wp2
          go_ret3
          exact unhide Hfin nq

end

end Go.Proofs.YtnipdgigjcaolaaGreat
