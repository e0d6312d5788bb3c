/- A Log within a law: Commit. -/
import Derived.Test.YtfmbkpdjjhcmcaaGreatWKeep
import Derived.BigQuiet
namespace Go.Proofs.YtfmbkpdjjhcmcaaGreat
open Go.RowKit

section
variable {w0 w w1 w2 : World} {K K2 : Nat → Prop} {l b f t N : Nat} {s : WSt}

theorem LI.less (h : LI w0 K w l b f t N s) (hK : ∀ j, K2 j → K j) : LI w0 K2 w l b f t N s :=
  ⟨h.dl.less (fun j hj => hj.imp (hK j) id), h.fr, h.at', fun e => h.nl (hK _ e), fun e => h.nf (hK _ e), fun e => h.nt (hK _ e), h.lf, h.lt⟩

theorem LI.ltl (h : LI w0 K w l b f t N s) : l < w.heap.size := h.at'.lt
theorem LI.ltf (h : LI w0 K w l b f t N s) : f < w.heap.size := h.fr.ltf
theorem LI.ltt (h : LI w0 K w l b f t N s) : t < w.heap.size := h.fr.ltt
theorem LI.new (h : LI w0 K w l b f t N s) : w0.heap.size ≤ l ∧ w0.heap.size ≤ f ∧ w0.heap.size ≤ t := ⟨(h.dl.held l (.inr (.inl rfl))).1, (h.dl.held f (.inr (.inr (.inl rfl)))).1, (h.dl.held t (.inr (.inr (.inr rfl)))).1⟩

/-- New memory that the law holds from now on; the Table, or what was held, may have turned. -/
theorem LI.laid (h : LI w0 K w l b f t N s) (hF : Fr w1 f t) (tn : Turn (fun k => k = t) w w1) : LI w0 (grow K w w1) w1 l b f t N s := by
  have h1 := h.ltl
  have h2 := h.ltf
  have h3 := h.ltt
  refine ⟨(h.dl.hold (tn.mono (fun i _ e => .inr (.inr (.inr e))))).less ?_, hF, h.at'.kept tn h.lt, ?_, ?_, ?_, h.lf, h.lt⟩
  · rintro j (hj | hj)
    · exact hj.imp .inl id
    · exact .inl (.inr hj)
  · rintro (e | e)
    · exact h.nl e
    · omega
  · rintro (e | e)
    · exact h.nf e
    · omega
  · rintro (e | e)
    · exact h.nt e
    · omega

theorem LI.goes (h : LI w0 K w l b f t N s) (tn : Turn (fun _ => False) w w1) : LI w0 (grow K w w1) w1 l b f t N s := h.laid (h.fr.goes tn) (tn.mono (fun _ _ e => e.elim))

/-- What the law holds has turned. -/
theorem LI.hold (h : LI w0 K w l b f t N s) (tn : Turn K w w1) : LI w0 (grow K w w1) w1 l b f t N s := by
  have h1 := h.ltl
  have h2 := h.ltf
  have h3 := h.ltt
  refine ⟨(h.dl.hold (tn.mono (fun i _ e => .inl e))).less ?_, h.fr.kept tn h.nf h.nt, h.at'.kept tn h.nl, ?_, ?_, ?_, h.lf, h.lt⟩
  · rintro j (hj | hj)
    · exact hj.imp .inl id
    · exact .inl (.inr hj)
  · rintro (e | e)
    · exact h.nl e
    · omega
  · rintro (e | e)
    · exact h.nf e
    · omega
  · rintro (e | e)
    · exact h.nt e
    · omega

theorem outs_grow (h : Turn (Outs w0 (grow K w w1)) w1 w2) : Turn (Outs w0 K) w1 w2 := h.mono (fun _ _ e => ⟨e.1, fun hk => e.2 (.inl hk)⟩)

/-- Frames are laid and kept. -/
theorem LTo.laid {r : Int × WSt} {N' : Nat} {e : Ending} (h : LI w0 K w l b f t N s) (tn : Turn (fun k => k = t) w w1) (hk : LTo w0 (grow K w w1) w1 l b f t N' r e w2) : LTo w0 K w l b f t N' r e w2 :=
  ⟨hk.1, hk.2.1.less (fun _ hj => .inl hj), (tn.mono (fun i _ e => by subst e; exact ⟨h.new.2.2, h.nt⟩)).trans (outs_grow hk.2.2)⟩

end

section
variable {w0 w : World} {K Q : Nat → Prop} {l b f t N : Nat} {s : WSt} {v : Value} {rl : List (Value × List UInt8)}

theorem tdrewN (w : World) (n : Nat) : Turn (fun _ => False) w (w.drewN n) := ⟨rfl, rfl, rfl, Nat.le_refl _, fun _ _ _ => rfl⟩

theorem LI.drew (h : LI w0 K w l b f t N s) (n : Nat) : LI w0 K (w.drewN n) l b f t N s := (h.goes (tdrewN w n)).less (fun _ hj => .inl hj)

theorem LTo.drew {r : Int × WSt} {N' n : Nat} {e : Ending} {w2 : World} (h : LTo w0 K (w.drewN n) l b f t N' r e w2) : LTo w0 K w l b f t N' r e w2 := ⟨h.1, h.2.1, ((tdrewN w n).mono (fun _ _ e => e.elim)).trans h.2.2⟩

theorem keep_laid {w1 : World} {bs : List UInt8} (at' size : Int) (h : LI w0 K w l b f t N s) (hl : Laid w f t bs v w1) (hN : N ≤ 1073741822) (hsz : (s.d.now at').length + bs.length ≤ 140737488355328) (hz0 : 0 ≤ size) (hz1 : size ≤ 4611686018427387904) :
    Calls Tryz.prog 36 #[.pointer (some ⟨l, 0, none⟩), .int .i64 at', .int .i64 size, v] w1 (LTo w0 K w l b f t (N + 2) (s.keep at' size bs)) :=
  (keep_any at' size v bs (h.laid hl.2.2.1 hl.2.2.2) hl.1.sees (fun h0 k hk => .inr (.inr ⟨hl.2.1 k (hl.1.slab_eq ▸ hk), slab_lt hl.1.sees h0 hk⟩)) hN hsz hz0 hz1).mono (fun _ _ hk => LTo.laid h hl.2.2.2 hk)

/-- Bounds of a Log's numbers. -/
structure WSt.Ok (s : WSt) : Prop where
  at0 : 0 ≤ s.at'
  at1 : s.at' ≤ 1099511627776
  size0 : 0 ≤ s.size
  size1 : s.size ≤ 1152921504606846976

set_option maxHeartbeats 2000000 in
set_option maxRecDepth 100000 in
theorem commit_any (h : LI w0 K w l b f t N s) (hok : s.Ok) (hr : RL Q w v rl) (hQ : ∀ j, Q j → j < w0.heap.size ∨ K j) (hno : ¬ tooLong rl) (hN : N ≤ 1073741822) (hsz : (s.d.now s.to.1).length + (laidOf 1 2 (rl.map (·.2))).length ≤ 140737488355328) :
    Calls Tryz.prog 10 #[.pointer (some ⟨l, 0, none⟩), v] w (LTo w0 K w l b f t (N + 2) (s.commit (rl.map (·.2)))) := by
  have HT := hide (tooLong_no hr hno)
  have hnew := h.new
  have hQt : ¬ Q t := fun e => (hQ t e).elim (fun h1 => by omega) h.nt
  have HL := hide (fun n => layAll_any (w := w.drewN n) 1 2 (by omega) (by omega) (by omega) (by omega) (h.drew n).at' (h.drew n).fr h.lt (hr.kept (tdrewN w n) (fun _ _ e => e)) hQt hno (by omega))
  obtain ⟨vo, vc, rfl⟩ := hr.shape
  have hlen := hr.len
  unfold maxLen at hlen
  by_cases h0 : rl = []
  · subst h0
    have hk : s.commit (([] : List (Value × List UInt8)).map (·.2)) = (0, s) := rfl
    rw [hk]
    have Hfin : Hid (LTo w0 K w l b f t (N + 2) (0, s) (.returned (.int .i64 0)) w) := hide ⟨rfl, h.mono (by omega), Turn.refl _ _⟩
    simp only [List.length_nil] at HT ⊢
    clear h hr HL hsz
    go_enter Tryz.func10, Tryz.ntmps10
    go_wp2_with fail
    refine (unhide HT).mono ?_
    rintro e w1 ⟨rfl, rfl⟩
    go_wp2
    go_ret
    exact unhide Hfin
  · have hk : s.commit (rl.map (·.2)) = s.keep s.to.1 s.to.2 (laidOf 1 2 (rl.map (·.2))) := by
      unfold WSt.commit
      rw [if_neg (by simpa using h0)]
    rw [hk]
    have q0 : ((rl.length : Int) == 0) = false := by simp; exact h0
    have c2 : w.cell? ⟨l, 2, none⟩ = some (.int .i64 s.limit) := h.at'.cell 2
    have c3 : w.cell? ⟨l, 3, none⟩ = some (.int .i64 s.at') := h.at'.cell 3
    have c4 : w.cell? ⟨l, 4, none⟩ = some (.int .i64 s.size) := h.at'.cell 4
    have HI := hide h
    have HZ := hide hsz
    have HO := hide hok
    obtain ⟨bytes, hby⟩ : ∃ bytes, bytes = laidOf 1 2 (rl.map (·.2)) := ⟨_, rfl⟩
    rw [← hby] at HL HZ ⊢
    have hz1 := hok.at1
    have hz0 := hok.at0
    generalize rl.length = n at *
    clear h hok hr hno hk h0 hsz hby hQ hQt
    by_cases hf : s.limit ≤ s.size
    · have hto : s.to = (s.at' + 1, 0) := by unfold WSt.to; rw [if_pos hf]
      rw [hto] at HZ ⊢
      simp only at HZ ⊢
      have q1 : s.at' + 1 ≤ 9223372036854775807 := by omega
      go_enter Tryz.func10, Tryz.ntmps10
      go_wp2_with fail
      refine (unhide HT).mono ?_
      rintro e w1 ⟨rfl, rfl⟩
      go_wp2_with fail
      go_quiet ((fail))
      go_wp2_with fail
      refine (unhide HL nq).mono ?_
      rintro e w1 ⟨v1, rfl, hl1⟩
      go_wp2_with fail
      refine (keep_laid _ _ ((unhide HI).drew nq) hl1 hN (unhide HZ) (by omega) (by omega)).mono ?_
      rintro e w2 ⟨rfl, h2⟩
      go_wp2
      go_ret
      exact LTo.drew ⟨rfl, h2⟩
    · have hto : s.to = (s.at', s.size) := by unfold WSt.to; rw [if_neg hf]
      rw [hto] at HZ ⊢
      simp only at HZ ⊢
      have hs0 := (unhide HO).size0
      have hs1 := (unhide HO).size1
      have q1 : decide (s.limit ≤ s.size) = false := by simpa using hf
      go_enter Tryz.func10, Tryz.ntmps10
      go_wp2_with fail
      refine (unhide HT).mono ?_
      rintro e w1 ⟨rfl, rfl⟩
      go_wp2_with fail
      go_quiet ((fail))
      go_wp2_with fail
      refine (unhide HL nq).mono ?_
      rintro e w1 ⟨v1, rfl, hl1⟩
      go_wp2_with fail
      refine (keep_laid _ _ ((unhide HI).drew nq) hl1 hN (unhide HZ) (by omega) (by omega)).mono ?_
      rintro e w2 ⟨rfl, h2⟩
      go_wp2
      go_ret
      exact LTo.drew ⟨rfl, h2⟩

set_option maxHeartbeats 2000000 in
/-- A record that is too long. -/
theorem commit_long (l : Nat) (w : World) (hr : RL Q w v rl) (hyes : tooLong rl) :
    Calls Tryz.prog 10 #[.pointer (some ⟨l, 0, none⟩), v] w fun e w' => e = .returned (.int .i64 1) ∧ w = w' := by
  have HT := hide (tooLong_yes hr hyes)
  clear hr
  go_enter Tryz.func10, Tryz.ntmps10
  go_wp2_with fail
  refine (unhide HT).mono ?_
  rintro e w1 ⟨rfl, rfl⟩
  go_wp2
  go_ret
  exact ⟨rfl, rfl⟩

set_option maxHeartbeats 2000000 in
theorem segments_any (h : LI w0 K w l b f t N s) (hN : N ≤ 1073741823) :
    Calls Tryz.prog 12 #[.pointer (some ⟨l, 0, none⟩)] w fun e w' => ∃ v l', e = .returned v ∧ MadeI w v l' w' ∧ s.d.Nums l' ∧ LI w0 (grow K w w') w' l b f t N s := by
  have c0 : w.cell? ⟨l, 0, none⟩ = some (.pointer (some ⟨b, 0, none⟩)) := h.at'.cell 0
  have HF := hide (dl_files h.dl hN)
  have HI := hide h
  clear h
  go_enter Tryz.func12, Tryz.ntmps12
  go_wp2_with fail
  refine (unhide HF).mono ?_
  rintro e w1 ⟨v, l', rfl, hm, hn, _, _⟩
  go_wp2
  go_ret
  exact ⟨_, _, rfl, hm, hn, (unhide HI).goes hm.2.1⟩

end

end Go.Proofs.YtfmbkpdjjhcmcaaGreat
