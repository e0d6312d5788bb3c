/- A history in memory reads a file. -/
import Derived.Test.YtfmbkpdjjhcmcaaGreatHistT
import Derived.Test.YtfmbkpdjjhcmcaaGreatFKnown
namespace Go.Proofs.YtfmbkpdjjhcmcaaGreat
open Go.RowKit

section
variable {w : World} {hb : Nat} {H : Nat → Prop} {h : HSt}

theorem take_some {file k : Int} {v : Value} {bs : List UInt8} {h' : HSt} (hh : HAt w hb H h) (ht : h.take file k bs = some h') (hs : Sees w v bs) (hn : 0 < bs.length → ∀ j, slab v = some j → ¬ H j ∧ j < w.heap.size) (hlen : h.recs.length + h.begun.length + 1 ≤ 1099511627776) :
    Calls Tryz.prog 56 #[.pointer (some ⟨hb, 0, none⟩), .int .i64 file, .int .i64 k, v] w fun e w' => e = .returned (.bool true) ∧ HTo w hb H v h' w' := by
  unfold HSt.take at ht
  split at ht
  · rename_i hk
    split at ht
    · rename_i hf
      injection ht with ht
      subst ht
      exact take_rec_yes file k v bs hk hh hf hs hn (by omega)
    · cases ht
  · split at ht
    · rename_i hk
      subst hk
      split at ht
      · cases ht
      · rename_i hc
        injection ht with ht
        subst ht
        have h0 : bs = [] := Decidable.byContradiction fun e => hc (.inl e)
        subst h0
        obtain ⟨ao, c, rfl⟩ := hs.shape
        exact take_commit_yes file ao c hh (Decidable.byContradiction fun e => hc (.inr (.inr e))) (fun e => hc (.inr (.inl e))) (by omega)
    · split at ht
      · rename_i hk
        subst hk
        split at ht
        · cases ht
        · rename_i hc
          injection ht with ht
          subst ht
          have h0 : bs = [] := Decidable.byContradiction fun e => hc (.inl e)
          subst h0
          obtain ⟨ao, c, rfl⟩ := hs.shape
          exact take_check_yes file ao c hh (Decidable.byContradiction fun e => hc (.inr e))
      · cases ht

theorem take_none {file k : Int} {v : Value} {bs : List UInt8} (hh : HAt w hb H h) (ht : h.take file k bs = none) (hs : Sees w v bs) :
    Calls Tryz.prog 56 #[.pointer (some ⟨hb, 0, none⟩), .int .i64 file, .int .i64 k, v] w fun e w' => e = .returned (.bool false) ∧ w = w' := by
  obtain ⟨ao, c, rfl⟩ := hs.shape
  have hpos : bs ≠ [] → 0 < bs.length := fun e => List.length_pos_iff.2 e
  unfold HSt.take at ht
  split at ht
  · rename_i hk
    split at ht
    · cases ht
    · rename_i hf
      exact take_rec_no file k _ _ _ hk hh hf
  · rename_i h13
    split at ht
    · rename_i hk
      subst hk
      split at ht
      · rename_i hc
        exact take_commit_no file _ _ _ hh (hc.imp hpos id)
      · cases ht
    · rename_i h2
      split at ht
      · rename_i hk
        subst hk
        split at ht
        · rename_i hc
          exact take_check_no file _ _ _ hh (hc.imp hpos id)
        · cases ht
      · rename_i h4
        exact take_other file k _ _ _ (fun e => h13 (.inl e)) h2 (fun e => h13 (.inr e)) h4

theorem take_bound {file k : Int} {bs : List UInt8} {h' : HSt} (ht : h.take file k bs = some h') : h'.recs.length + h'.begun.length ≤ h.recs.length + h.begun.length + 1 := by
  unfold HSt.take at ht
  split at ht
  · split at ht
    · injection ht with ht
      subst ht
      simp [HSt.begin']
      omega
    · cases ht
  · split at ht
    · split at ht
      · cases ht
      · injection ht with ht
        subst ht
        simp [HSt.commits]
    · split at ht
      · split at ht
        · cases ht
        · injection ht with ht
          subst ht
          simp [HSt.anew]
          omega
      · cases ht

end

/-- How long a slice is. -/
def slen : Value → Nat
  | .slice _ n _ => n
  | _ => 0

/-- What reading a file comes to. -/
def ReadTo (w : World) (hb : Nat) (H : Nat → Prop) (f t : Nat) (r : Option HSt) (e : Ending) (w' : World) : Prop :=
  match r with
  | none => e = .returned (.bool false) ∧ Turn (fun j => H j ∨ j = t) w w'
  | some h => e = .returned (.bool true) ∧ HAt w' hb (grow H w w') h ∧ Fr w' f t ∧ Turn (fun j => H j ∨ j = t) w w'

/-- The history within the reading. -/
structure Reading (w : World) (hb : Nat) (H : Nat → Prop) (f t : Nat) (file : Int) (r : Option HSt) (b : Value) (wr : World) (bs : List UInt8) (h : HSt) : Prop where
  sees : Sees wr b bs
  lie : 0 < bs.length → ∀ j, slab b = some j → j < w.heap.size ∧ ¬ H j ∧ j ≠ t
  at' : HAt wr hb (grow H w wr) h
  fr : Fr wr f t
  turn : Turn (fun j => H j ∨ j = t) w wr
  goes : HSt.takes file (frs bs) h = r
  fit : h.recs.length + h.begun.length + bs.length ≤ 1099511627776

theorem Reading.takes {w wr w1 w2 : World} {hb f t : Nat} {H : Nat → Prop} {file : Int} {r : Option HSt} {b b2 vb : Value} {bs bs2 : List UInt8} {h h2 : HSt} (hR : Reading w hb H f t file r b wr bs h) (hlt : t < w.heap.size) (hlf : f < w.heap.size) (hHf : ¬ H f) (hHt : ¬ H t)
    (hF1 : Fr w1 f t) (t1 : Turn (fun k => k = t) wr w1) (hnew : ∀ k, vb.ownBlock = some k → wr.heap.size ≤ k) (hsl : slab vb = vb.ownBlock) (ht : HTo w1 hb (grow H w wr) vb h2 w2)
    (hs2 : Sees wr b2 bs2) (hb2 : ∀ j, slab b2 = some j → slab b = some j) (hle : 0 < bs2.length → 0 < bs.length) (hg : HSt.takes file (frs bs2) h2 = r) (hfit : h2.recs.length + h2.begun.length + bs2.length ≤ 1099511627776) :
    Reading w hb H f t file r b2 w2 bs2 h2 := by
  have s1 := hR.turn.size
  have s2 := t1.size
  have s3 := ht.2.size
  have lie2 : 0 < bs2.length → ∀ j, slab b2 = some j → j < w.heap.size ∧ ¬ H j ∧ j ≠ t := fun h0 j hj => hR.lie (hle h0) j (hb2 j hj)
  have hng : ∀ j, j < w.heap.size → ¬ H j → ¬ grow H w wr j := fun j h1 h2 hj => hj.elim h2 (fun h => by omega)
  refine ⟨?_, lie2, ?_, hF1.kept ht.2 (hng f hlf hHf) (hng t hlt hHt), ?_, hg, hfit⟩
  · exact (hs2.kept' t1 (fun h0 j hj e => (lie2 h0 j hj).2.2 e)).kept' ht.2 (fun h0 j hj => hng j (lie2 h0 j hj).1 (lie2 h0 j hj).2.1)
  · refine ht.1.mono (fun j hj => ?_) (fun j hj => ?_)
    · rcases hj with hj | hj | hj
      · rcases hj with hj | hj
        · exact .inl hj
        · exact .inr ⟨hj.1, by omega⟩
      · rw [hsl] at hj
        exact .inr ⟨by have := hnew j hj.1; omega, by omega⟩
      · exact .inr ⟨by omega, hj.2⟩
    · rcases hj with hj | hj
      · have := hR.at'.lt j (.inl hj)
        omega
      · exact hj.2
  · refine (hR.turn.trans' t1 (fun j _ e => .inr e)).trans' ht.2 (fun j hj e => ?_)
    rcases e with e | e
    · exact .inl e
    · omega

theorem Reading.at1 {w wr w1 : World} {hb f t : Nat} {H : Nat → Prop} {file : Int} {r : Option HSt} {b : Value} {bs : List UInt8} {h : HSt} (hR : Reading w hb H f t file r b wr bs h) (hlt : t < w.heap.size) (hHt : ¬ H t) (t1 : Turn (fun k => k = t) wr w1) : HAt w1 hb (grow H w wr) h :=
  hR.at'.kept t1 (fun j hj e => by
    subst e
    rcases hj with hj | hj
    · exact hHt hj
    · omega)

set_option maxHeartbeats 2000000 in
set_option maxRecDepth 100000 in
theorem read_file {w : World} {hb f t : Nat} {H : Nat → Prop} {h : HSt} (file : Int) (v : Value) (bs : List UInt8) (hh : HAt w hb H h) (hF : Fr w f t) (hHf : ¬ H f) (hHt : ¬ H t) (hs : Sees w v bs) (hv : 0 < bs.length → ∀ j, slab v = some j → ¬ H j ∧ j ≠ t) (hfit : h.recs.length + bs.length ≤ 1099511627776) :
    Calls Tryz.prog 31 #[.pointer (some ⟨hb, 0, none⟩), .pointer (some ⟨f, 0, none⟩), .int .i64 file, v] w (ReadTo w hb H f t (h.file file bs)) := by
  have hlt := hF.ltt
  have hlf := hF.ltf
  obtain ⟨rv, bv, rl, bl, hi⟩ := hh
  have f2 : w.frozen? ⟨hb, 2, none⟩ = false := hi.at'.frozen 2
  have c2 : w.cell? ⟨hb, 2, none⟩ = some bv := hi.at'.cell 2
  have ts : Turn (fun j => j = hb) w (w.setCell ⟨hb, 2, none⟩ (.slice none 0 0)) := (Turn.refl (fun j => j = hb) w).setCell (p := ⟨hb, 2, none⟩) (.inl rfl) _
  have tsz := ts.size
  have hsz : (w.setCell ⟨hb, 2, none⟩ (.slice none 0 0)).heap.size = w.heap.size := by simp [World.setCell]
  have hi2 : HAt (w.setCell ⟨hb, 2, none⟩ (.slice none 0 0)) hb (grow H w (w.setCell ⟨hb, 2, none⟩ (.slice none 0 0))) h.fresh := by
    refine ⟨rv, .slice none 0 0, rl, [], by simpa [HSt.fresh] using hi.at'.set 2 (.slice none 0 0), hi.r.kept ts (fun j hj e => (hi.inr j hj).2 e), OwnsC.nil _ _, hi.recs, rfl, fun j hj => ⟨.inl (hi.inr j hj).1, (hi.inr j hj).2⟩, fun j hj => by simp [Value.ownBlock] at hj, fun p hp => ?_, .inl hi.hb, fun j hj => ?_⟩
    · have hp' : p ∈ rl := by simpa using hp
      obtain ⟨h1, h2⟩ := hi.each p (.inl hp')
      refine ⟨h1.kept' ts (fun h0 j hj e => (h2 h0 j hj).2.1 e), fun h0 j hj => ?_⟩
      obtain ⟨a1, a2, a3, a4⟩ := h2 h0 j hj
      exact ⟨.inl a1, a2, a3, by simp [Value.ownBlock]⟩
    · rcases hj with hj | hj
      · have := hi.lt j hj
        omega
      · exact hj.2
  have hne1 : ¬ f = hb := fun e => hHf (e ▸ hi.hb)
  have hne2 : ¬ t = hb := fun e => hHt (e ▸ hi.hb)
  have hR : Reading w hb H f t file (h.file file bs) v (w.setCell ⟨hb, 2, none⟩ (.slice none 0 0)) bs h.fresh :=
    ⟨hs.kept' ts (fun h0 j hj e => (hv h0 j hj).1 (e ▸ hi.hb)), fun h0 j hj => ⟨slab_lt hs h0 hj, hv h0 j hj⟩, hi2, hF.kept ts hne1 hne2, ts.mono (fun j _ e => .inl (e ▸ hi.hb)), rfl, by simpa [HSt.fresh] using hfit⟩
  obtain ⟨vo, vc, hve⟩ := hs.shape
  obtain ⟨bo, bc, hbe⟩ := hi.b.shape'
  generalize (bl.map (·.1)).length = n at *
  generalize h.file file bs = r at *
  have hst := And.intro (show bs.length ≤ maxLen from hs.len) hR
  have Hst := hide hst
  clear hst hR hi2 hi ts tsz hsz hs hv hfit hF
  subst hve hbe
  go_enter Tryz.func31, Tryz.ntmps31
  go_wp2
  go_loopw [3, 9, 10, 11, 12] (fun b _ _ _ _ wr => ∃ bs h, Reading w hb H f t file r b wr bs h) (fun b _ _ _ _ _ => slen b)
  case atStart => exact ⟨bs, _, (unhide Hst).2⟩
  case round =>
    clear Hst f2 c2
    obtain ⟨bs, h, hR⟩ := hrel
    obtain ⟨bo, bc, hbe⟩ := hR.sees.shape
    subst hbe
    have hm := hR.sees.len
    unfold maxLen at hm
    go_wp2_with fail
    refine (next_any f t _ bs wr hR.fr hR.sees).mono ?_
    rintro e w1 ⟨vb, rfl, ho, hF1, t1, hnew⟩
    unfold toldValue
    have hat1 := hR.at1 hlt hHt t1
    obtain ⟨ko, kc, hke⟩ := ho.shape
    have hsl := ho.slab_eq
    by_cases he : (tell bs).err = 0
    · obtain ⟨z1, z2, z3, z4⟩ := tell_ok he
      have hfr := frs_yes he
      rw [he]
      have hgoes := hR.goes
      rw [hfr, HSt.takes] at hgoes
      have hnb : 0 < (tell bs).body.length → ∀ j, slab vb = some j → ¬ grow H w wr j ∧ j < w1.heap.size := fun h0 j hj => by
        have h1 := hnew j (hsl ▸ hj)
        refine ⟨fun hg => ?_, slab_lt ho.sees h0 hj⟩
        have := hR.at'.lt j hg
        omega
      cases htk : h.take file (tell bs).kind (tell bs).body with
      | none =>
        rw [htk] at hgoes
        simp only at hgoes
        have HT := hide (take_none hat1 htk ho.sees)
        have hfin := hide (hR.turn.trans' t1 (fun j _ e => Or.inr e))
        subst hke hgoes
        generalize (tell bs).body.length = nb at *
        generalize (tell bs).kind = k at *
        generalize (tell bs).size = sz at *
        clear hat1 hR ho t1 hF1 hnb hfr htk hnew
        go_wp2_with fail
        refine (unhide HT).mono ?_
        rintro e w2 ⟨rfl, rfl⟩
        go_wp2
        go_ret
        exact ⟨rfl, unhide hfin⟩
      | some h2 =>
        rw [htk] at hgoes
        simp only at hgoes
        have hbd := take_bound htk
        have hfit := hR.fit
        have HT := hide (take_some hat1 htk ho.sees hnb (by omega))
        obtain ⟨a, hae⟩ : ∃ a, bo = some a := by
          rcases hR.sees with ⟨_, e⟩ | ⟨a, cap, e, _⟩
          · have h0 : bs.length = 0 := by rw [e]; rfl
            omega
          · injection e with e1
            exact ⟨a, e1⟩
        subst hae
        have hcap : bs.length ≤ bc ∧ bc ≤ maxLen := by
          rcases hR.sees with ⟨e, _⟩ | ⟨a, cap, e, h1, h2, _⟩
          · simp at e
          · injection e with e1 e2 e3
            subst e3
            exact ⟨h1, h2⟩
        obtain ⟨hcap, hcm⟩ := hcap
        unfold maxLen at hcm
        obtain ⟨sz, hsze⟩ : ∃ sz : Nat, (tell bs).size = (sz : Int) := ⟨_, (Int.toNat_of_nonneg z3).symm⟩
        have hszn : (tell bs).size.toNat = sz := by omega
        rw [hszn] at z1 z2 hgoes
        have hdl : (bs.drop sz).length = bs.length - sz := List.length_drop
        have HStep := hide (fun (a2 : Addr) (ha : a2 = a.add sz ∨ (sz = bc ∧ a2 = a)) (w2 : World) (ht : HTo w1 hb (grow H w wr) vb h2 w2) => hR.takes (b2 := .slice (some a2) (bs.length - sz) (bc - sz)) (bs2 := bs.drop sz) hlt hlf hHf hHt hF1 t1 hnew hsl ht (hR.sees.behind sz z2 a2 (ha.imp id (fun h => h.1)))
          (fun j hj => by
            simp only [slab, Option.some.injEq] at hj ⊢
            rcases ha with ha | ha
            · rw [← hj, ha, addr_add_block]
            · rw [← hj, ha.2])
          (fun h0 => by omega) hgoes (by omega))
        rw [hsze]
        subst hke
        generalize (tell bs).body.length = nb at *
        generalize (tell bs).kind = k at *
        generalize hle : bs.length = len at *
        have HL := hide hle
        clear hle
        have q1 : (sz : Int) ≤ len := by omega
        have q2 : (len : Int) ≤ bc := by omega
        have q3 : sz ≤ bc := by omega
        clear hat1 hR ho t1 hF1 hnb hfr htk hnew hgoes hfit hbd hszn hsze hdl he z3
        go_wp2_with fail
        refine (unhide HT).mono ?_
        rintro e w2 ⟨rfl, hto⟩
        clear HT
        by_cases hc : bc = sz
        · subst hc
          have hst := unhide HStep a (.inr ⟨rfl, rfl⟩) w2 hto
          rw [Nat.sub_self, show len - bc = 0 by omega] at hst
          have Hst := hide hst
          clear hst hto HStep
          go_wp2
          go_roundw
          case rel => exact ⟨_, _, unhide Hst⟩
          case measure => have := unhide HL; simp [slen]; omega
        · have hst := unhide HStep (a.add sz) (.inl rfl) w2 hto
          have Hst := hide hst
          clear hst hto HStep
          go_wp2
          go_roundw
          case rel => exact ⟨_, _, unhide Hst⟩
          case measure => have := unhide HL; simp [slen]; omega
    · have hfr := frs_no he
      have hgoes := hR.goes
      rw [hfr, HSt.takes] at hgoes
      subst hgoes
      have q0 : ((tell bs).err != 0) = true := by simpa using he
      have hfin : ReadTo w hb H f t (some h) (.returned (.bool true)) w1 := by
        refine ⟨rfl, hat1.mono (fun j hj => ?_) (fun j hj => ?_), hF1, hR.turn.trans' t1 (fun j _ e => Or.inr e)⟩
        · rcases hj with hj | hj
          · exact .inl hj
          · have := t1.size
            exact .inr ⟨hj.1, by omega⟩
        · rcases hj with hj | hj
          · exact hat1.lt j (.inl hj)
          · exact hj.2
      have Hfin := hide hfin
      subst hke
      generalize (tell bs).body.length = nb at *
      generalize (tell bs).kind = k at *
      generalize (tell bs).size = sz at *
      generalize (tell bs).err = er at *
      clear hfin hat1 hR ho t1 hF1 hfr hnew he
      go_wp2
      go_ret
      exact unhide Hfin

end Go.Proofs.YtfmbkpdjjhcmcaaGreat
