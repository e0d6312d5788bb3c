/- remainder and the method undo. -/
import Derived.Test.YtfmbkpdjjhcmcaaGreatDWork
namespace Go.Proofs.YtfmbkpdjjhcmcaaGreat
open Go.RowKit

theorem rem_rem (n m : Int) (hm : 0 < m) (hm2 : m ≤ 4611686018427387904) : (wrap64 (n.tmod m + m)).tmod m = n % m := by
  have h0 := Int.emod_nonneg n (show m ≠ 0 by omega)
  have h1 := Int.emod_lt_of_pos n hm
  have e := Int.tmod_eq_emod (a := n) (b := m)
  have ha : (m.natAbs : Int) = m := by omega
  have hw : wrap64 (n.tmod m + m) = n.tmod m + m := by
    unfold wrap64
    split at e <;> omega
  rw [hw]
  split at e
  · rw [e, show n % m - ((0 : Nat) : Int) + m = n % m + m by omega, Int.tmod_eq_emod_of_nonneg (by omega), Int.add_emod_right, Int.emod_emod_of_dvd n (Int.dvd_refl m)]
  · rw [e, show n % m - (m.natAbs : Int) + m = n % m by omega, Int.tmod_eq_emod_of_nonneg h0, Int.emod_emod_of_dvd n (Int.dvd_refl m)]

set_option maxHeartbeats 400000 in
theorem remainder_any (n m : Int) (w : World) (hm : 0 < m) (hm2 : m ≤ 4611686018427387904) :
    Calls Tryz.prog 39 #[.int .i64 n, .int .i64 m] w fun e w' => e = .returned (.int .i64 (n % m)) ∧ w = w' := by
  have hr := rem_rem n m hm hm2
  have Hr := hide hr
  clear hr
  go_enter Tryz.func39, Tryz.ntmps39
  go_wp2
  go_ret
  exact ⟨ret_int (unhide Hr), rfl⟩

theorem Owns.front {w : World} {g n cap : Nat} {bs : List UInt8} (h : Owns w (.slice (some ⟨g, 0, none⟩) n cap) bs) (m : Nat) (hm : m ≤ bs.length) : Owns w (.slice (some ⟨g, 0, none⟩) m cap) (bs.take m) := by
  rcases h.2 with ⟨h0, _⟩ | ⟨g', cap', cur, e, h1, h2, h3, h4, h5, h6⟩
  · simp at h0
  · simp only [Value.slice.injEq, Option.some.injEq, Addr.mk.injEq, and_true] at e
    obtain ⟨rfl, e2, rfl⟩ := e
    have hl : (bs.take m).length = m := by rw [List.length_take]; omega
    refine ⟨by rw [u8s_length]; omega, .inr ⟨g, cap, cur, by rw [hl], h1, h2, by omega, h4, h5, ?_⟩⟩
    rw [hl]
    have : cur.toList.take (m * 1) = (cur.toList.take (bs.length * 1)).take (m * 1) := by rw [List.take_take, Nat.min_eq_left (by omega)]
    rw [this, h6]
    simp [u8s]

section
variable {w : World} {b : Nat} {own : Nat → Option Tag} {fv pv : Value} {wk : Nat} {fu : Bool} {lf : Int} {de : Bool} {fs : List Ent}

theorem PutAt.back {w0 w' : World} {k : Int} {bs : List UInt8} (t : Turn (fun _ => False) w0 w) (h : PutAt w b own pv wk fu lf de fs k bs w') : PutAt w0 b own pv wk fu lf de fs k bs w' := by
  obtain ⟨own', fv', fs', a1, a2, a3, a4, a5⟩ := h
  exact ⟨own', fv', fs', a1, a2, a3, (t.mono (fun _ _ h => h.elim)).trans a4, fun j => (a5 j).imp id (fun h => ⟨h.1, Nat.le_trans t.size h.2.1, h.2.2⟩)⟩

/-- The bytes of a file behind an undo. -/
def undone (bs : List UInt8) (laid : Nat) (took : List UInt8) (stays : Nat) : List UInt8 := if laid = 0 then took else bs.take (bs.length - laid + stays)

theorem undoF_undone (s : Fs) (u : Und) (stays : Nat) : undoF s u stays = fput s u.file (undone (s u.file) u.laid u.took stays) := by
  unfold undoF undone
  split <;> rfl

set_option maxHeartbeats 2000000 in
set_option maxRecDepth 100000 in
theorem undo_took (f : Int) (tv : Value) (took : List UInt8) (stays : Nat) (h : FAt w b own fv pv wk fu lf de fs) (hv : Owns w tv took) (hvo : ∀ g, tv.ownBlock = some g → own g = some (.file f)) (hlen : fs.length ≤ 1073741824) :
    Calls Tryz.prog 40 #[.pointer (some ⟨b, 0, none⟩), .agg #[.int .i64 f, .int .i64 0, tv], .int .i64 stays] w fun e w' => e = .returned (.tuple #[]) ∧ PutAt w b own pv wk fu lf de fs f took w' := by
  obtain ⟨ao, c, rfl⟩ := hv.shape
  have ta : Turn (fun _ => False) w (w.alloc (.cells #[.int .i64 f, .int .i64 0, .slice ao took.length c] 75)) := (Turn.refl _ _).alloc _
  go_enter Tryz.func40, Tryz.ntmps40
  go_wp2_with fail
  refine (put_any f _ took (h.same ta) (hv.kept ta (fun _ _ h => h)) (fun _ => hvo) hlen).mono ?_
  rintro e w1 ⟨rfl, hpa⟩
  have Hfin := hide (hpa.back ta)
  clear hpa
  go_wp2
  refine bodyPost_ret (results_none rfl _ _ _) rfl ?_
  exact ⟨rfl, unhide Hfin⟩

set_option maxHeartbeats 2000000 in
set_option maxRecDepth 100000 in
theorem undo_laid (f : Int) (laid : Nat) (tv : Value) (took : List UInt8) (stays : Nat) (h : FAt w b own fv pv wk fu lf de fs) (hv : Owns w tv took) (hl : 0 < laid) (hle : laid ≤ (look fs f).length) (hst : stays ≤ laid) (hlen : fs.length ≤ 1073741824) :
    Calls Tryz.prog 40 #[.pointer (some ⟨b, 0, none⟩), .agg #[.int .i64 f, .int .i64 laid, tv], .int .i64 stays] w fun e w' => e = .returned (.tuple #[]) ∧ PutAt w b own pv wk fu lf de fs f ((look fs f).take ((look fs f).length - laid + stays)) w' := by
  obtain ⟨ao, c, rfl⟩ := hv.shape
  have ta : Turn (fun _ => False) w (w.alloc (.cells #[.int .i64 f, .int .i64 laid, .slice ao took.length c] 75)) := (Turn.refl _ _).alloc _
  have hA : At 75 (w.alloc (.cells #[.int .i64 f, .int .i64 laid, .slice ao took.length c] 75)) w.heap.size #[.int .i64 f, .int .i64 laid, .slice ao took.length c] := At.new _ _ _
  have h1 := h.same ta
  have q1 : ¬ (laid : Int) = 0 := by omega
  have q2 : ((laid : Int) == 0) = false := by simpa using q1
  go_enter Tryz.func40, Tryz.ntmps40
  go_wp2_with fail
  refine (bytesOf_any f h1 (by omega)).mono ?_
  rintro e w1 ⟨v, rfl, ho, hvo, _, t1⟩
  have h2 := h1.same t1
  have hA1 := hA.kept t1 (fun h => h)
  have hbm : (look fs f).length ≤ maxLen := ho.sees.len
  obtain ⟨g, cap, rfl⟩ := ho.solid (by omega)
  have hcap : (look fs f).length ≤ cap ∧ cap ≤ maxLen := by
    rcases row_shape ho with ⟨h0, _⟩ | ⟨g', cap', e, h3, h4, _⟩
    · simp at h0
    · simp only [Value.slice.injEq, Option.some.injEq, Addr.mk.injEq, and_true, true_and] at e
      obtain ⟨_, rfl⟩ := e
      exact ⟨h3, h4⟩
  have hf := ho.front ((look fs f).length - laid + stays) (by omega)
  unfold maxLen at hbm hcap
  have c0 : w1.cell? ⟨w.heap.size, 0, none⟩ = some (.int .i64 f) := hA1.cell 0
  have c1 : w1.cell? ⟨w.heap.size, 1, none⟩ = some (.int .i64 laid) := hA1.cell 1
  have Hf := hide hf
  have H2 := hide h2
  have hcall := fun ww (hw : Turn (fun _ => False) w1 ww) => (put_any (w := ww) f _ _ (h2.same hw) (hf.kept hw (fun _ _ h => h)) (fun _ => hvo) hlen).mono (fun e w' h => (⟨h.1, h.2.back ((ta.trans t1).trans hw)⟩ : e = .returned (.tuple #[]) ∧ PutAt w b own pv wk fu lf de fs f ((look fs f).take ((look fs f).length - laid + stays)) w'))
  generalize hL : look fs f = L at *
  have HL := hide hL
  have q3 : IntKind.i64.wrap ((L.length : Int) - (laid : Int)) = (L.length : Int) - laid := by rw [IntKind.wrap_i64]; omega
  have q4 : IntKind.i64.wrap ((L.length : Int) - (laid : Int) + stays) = (L.length : Int) - laid + stays := by rw [IntKind.wrap_i64]; omega
  have q5 : ((L.length : Int) - laid + stays).toNat = L.length - laid + stays := by omega
  have q6 : (0 : Int) ≤ (L.length : Int) - laid + stays := by omega
  have q7 : (L.length : Int) - laid + stays ≤ cap := by omega
  have Hcall := hide hcall
  clear hf h2 hA1 h1 hA ho hL h hv ta t1 hcall
  go_wp2_with fail
  go_region_with (go_at_call 46; go_must (refine (unhide Hcall _ ?_).mono ?_; exact (Turn.refl _ _).drew; rintro e w2 ⟨rfl, hpa⟩))
  all_goals (
    go_wp2
    go_end0
    refine ⟨rfl, ?_⟩
    rw [unhide HL]
    assumption)

end

end Go.Proofs.YtfmbkpdjjhcmcaaGreat
