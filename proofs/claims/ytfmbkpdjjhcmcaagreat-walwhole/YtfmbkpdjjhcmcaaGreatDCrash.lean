/- The method Crash. -/
import Derived.Test.YtfmbkpdjjhcmcaaGreatDAppA
namespace Go.Proofs.YtfmbkpdjjhcmcaaGreat
open Go.RowKit

section
variable {w : World} {b : Nat} {own : Nat → Option Tag} {fv pv : Value} {wk : Nat} {fu : Bool} {lf : Int} {de : Bool} {fs : List Ent} {us : List U}

/-- What an undo leaves: the files, and one that pends less. -/
def Undid (w : World) (b : Nat) (own : Nat → Option Tag) (pv : Value) (wk : Nat) (fu : Bool) (lf : Int) (de : Bool) (us : List U) (m : Nat) (s' : Fs) (w' : World) : Prop :=
  ∃ own' fv' fs', FAt w' b own' fv' pv wk fu lf de fs' ∧ PAt w' own' pv us m ∧ look fs' = s' ∧ Turn (fun j => own j ≠ none) w w' ∧ ∀ j, own' j ≠ none → own j ≠ none ∨ (w.heap.size ≤ j ∧ j < w'.heap.size)

theorem undo_any (u : U) (o : DOp) (s : Fs) (m c : Nat) (h : FAt w b own fv pv wk fu lf de fs) (hp : PAt w own pv us (m + 1)) (hu : us[m]? = some u) (hsub : ∀ j, own j ≠ none → j < w.heap.size) (hl : look fs = act s o) (hund : u.und = undOf s o) (hc : c ≤ u.laid) (hb : ∀ k bs, o = .lay k bs → bs ≠ []) (hlen : fs.length ≤ 1073741824) :
    Calls Tryz.prog 40 #[.pointer (some ⟨b, 0, none⟩), .agg #[.int .i64 u.file, .int .i64 u.laid, u.v], .int .i64 c] w fun e w' => e = .returned (.tuple #[]) ∧ Undid w b own pv wk fu lf de us m (partOf s c o) w' := by
  obtain ⟨hu1, hu2⟩ := hp.each m u (by omega) hu
  cases o with
  | lay k bs =>
    have hbs := hb k bs rfl
    have e1 : u.file = k := congrArg Und.file hund
    have e2 : u.laid = bs.length := congrArg Und.laid hund
    have hbl : 0 < bs.length := Nat.pos_of_ne_zero fun e => hbs (List.eq_nil_of_length_eq_zero e)
    have hlk : look fs k = s k ++ bs := by rw [hl]; exact if_pos rfl
    refine (undo_laid u.file u.laid u.v u.took c h hu1 (by omega) (by rw [e1, hlk, List.length_append]; omega) hc hlen).mono ?_
    rintro e w' ⟨rfl, hpa⟩
    obtain ⟨own', fv', fs', F, L, P, t, d, _⟩ := hpa.pends (hp.less (Nat.le_succ m)) hsub
    refine ⟨rfl, own', fv', fs', F, P, ?_, t.mono (fun j _ e => by rcases e with e | e <;> rw [e] <;> simp), d⟩
    rw [L, hl, ← undo_lay s k bs c hbs, undoF_undone]
    unfold undone
    have hl0 : (undOf s (DOp.lay k bs)).laid ≠ 0 := by show bs.length ≠ 0; omega
    rw [if_neg hl0]
    show fput _ u.file _ = fput _ k _
    rw [e1, e2]
    rfl
  | rem k =>
    have e1 : u.file = k := congrArg Und.file hund
    have e2 : u.laid = 0 := congrArg Und.laid hund
    have e3 : u.took = s k := congrArg Und.took hund
    obtain ⟨own5, hown5⟩ : ∃ own5 : Nat → Option Tag, own5 = fun j => if u.v.ownBlock = some j then some (.file u.file) else own j := ⟨_, rfl⟩
    have ev : ∀ j, own5 j = if u.v.ownBlock = some j then some (.file u.file) else own j := fun j => by rw [hown5]
    have same : ∀ j, own j ≠ some (.took m) → own5 j = own j := fun j hj => by
      rw [ev, if_neg (fun e => hj (hu2 j e))]
    have F5 := h.retag (own' := own5) (fun j hj => same j (by rcases hj with hj | hj | ⟨f, hj⟩ <;> rw [hj] <;> simp))
    have P5 := (hp.less (Nat.le_succ m)).retag (own' := own5) (fun j hj => same j (by
      rcases hj with hj | ⟨i, hi, hj⟩
      · rw [hj]; simp
      · rw [hj]
        intro e
        injection e with e
        injection e with e
        omega))
    have none5 : ∀ j, own5 j ≠ none → own j ≠ none := fun j hj => by
      rw [ev] at hj
      split at hj
      · rw [hu2 j (by assumption)]; simp
      · exact hj
    rw [e2]
    refine (undo_took u.file u.v u.took c F5 hu1 (fun g hg => by rw [ev, if_pos hg]) hlen).mono ?_
    rintro e w' ⟨rfl, hpa⟩
    obtain ⟨own', fv', fs', F, L, P, t, d, _⟩ := hpa.pends P5 (fun j hj => hsub j (none5 j hj))
    refine ⟨rfl, own', fv', fs', F, P, ?_, t.mono (fun j _ e => none5 j (by rcases e with e | e <;> rw [e] <;> simp)), fun j hj => (d j hj).imp (none5 j) id⟩
    rw [L, hl, ← undo_rem s k c, undoF_undone]
    show fput _ u.file _ = fput _ k _
    rw [e1, e3]
    rfl

end

/-- How far the files have come back, with m that still pend. -/
def gone (s : Fs) (l : List DOp) (n : Nat) (cut : Int) (m : Nat) : Fs := if m = n then crashed s l n cut else acts s (l.take m)

theorem gone_start (s : Fs) (l : List DOp) (n : Nat) (cut : Int) (hn : n ≤ l.length) : gone s l n cut l.length = acts s l := by
  unfold gone
  split
  · subst_vars
    unfold crashed
    rw [List.getElem?_eq_none (Nat.le_refl _), List.take_length]
  · rw [List.take_length]

theorem gone_step (s : Fs) (l : List DOp) (n : Nat) (cut : Int) (m : Nat) (o : DOp) (ho : l[m]? = some o) (hm : n ≤ m) (c : Nat) (hc : c = if m = n then (cut % (((undOf (acts s (l.take m)) o).laid : Int) + 1)).toNat else 0) : gone s l n cut m = partOf (acts s (l.take m)) c o := by
  unfold gone
  split
  · subst_vars
    rw [if_pos rfl]
    unfold crashed
    rw [ho]
    cases o with
    | lay k bs => rfl
    | rem k => rfl
  · rw [if_neg (by assumption)] at hc
    rw [hc, partOf_none]

theorem gone_up (s : Fs) (l : List DOp) (n : Nat) (cut : Int) (m : Nat) (o : DOp) (ho : l[m]? = some o) (hm : n ≤ m) : gone s l n cut (m + 1) = act (acts s (l.take m)) o := by
  unfold gone
  rw [if_neg (by omega), acts_take_succ s l m o ho]

theorem gone_keys {s : Fs} {l : List DOp} {n : Nat} {cut : Int} {m : Nat} {L : List Int} (h : ∀ k, s k ≠ [] → k ∈ L) (hl : ∀ o ∈ l, o.key ∈ L) : ∀ k, gone s l n cut m k ≠ [] → k ∈ L := by
  unfold gone
  by_cases e : m = n
  · rw [if_pos e]; exact DSt.crashed_keys h hl
  · rw [if_neg e]; exact DSt.acts_keys (l.take m) h (fun o ho => hl o (List.mem_of_mem_take ho))

section
variable {w : World} {b : Nat} {S : Nat → Prop} {N : Nat} {s : DSt}

/-- Where a Crash is, with m that still pend. -/
structure Amid (w : World) (b : Nat) (S : Nat → Prop) (s : DSt) (pv : Value) (us : List U) (n : Nat) (cut : Int) (m : Nat) (own : Nat → Option Tag) (fv : Value) (fs : List Ent) (wr : World) : Prop where
  f : FAt wr b own fv pv s.works s.fused s.left s.dead fs
  p : PAt wr own pv us m
  look : look fs = gone s.base s.ops n cut m
  known : Known S w own wr
  turn : Turn S w wr

theorem Amid.undo {pv : Value} {us : List U} {n m c : Nat} {cut : Int} {own : Nat → Option Tag} {fv : Value} {fs : List Ent} {wr wa : World} {u : U} {o : DOp} (h : Amid w b S s pv us n cut (m + 1) own fv fs wr) (hlt : ∀ j, S j → j < w.heap.size) (ta : Turn (fun _ => False) wr wa) (hu : us[m]? = some u) (ho : s.ops[m]? = some o) (hm : n ≤ m)
    (hund : u.und = undOf (acts s.base (s.ops.take m)) o) (hlay : ∀ k bs, o = .lay k bs → bs ≠ []) (hlen : fs.length ≤ 1073741824) (hc : c = if m = n then (cut % ((u.laid : Int) + 1)).toNat else 0) :
    Calls Tryz.prog 40 #[.pointer (some ⟨b, 0, none⟩), .agg #[.int .i64 u.file, .int .i64 u.laid, u.v], .int .i64 c] wa fun e w' => e = .returned (.tuple #[]) ∧ ∃ own' fv' fs', Amid w b S s pv us n cut m own' fv' fs' w' := by
  have T : Turn S w wa := h.turn.trans (ta.mono (fun _ _ h => h.elim))
  have K : Known S w own wa := h.known.next h.turn.size ta.size (fun j hj => .inl hj)
  have e2 : u.laid = (undOf (acts s.base (s.ops.take m)) o).laid := congrArg Und.laid hund
  have hcl : c ≤ u.laid := by
    rw [hc]
    split
    · have h1 := Int.emod_nonneg cut (show (u.laid : Int) + 1 ≠ 0 by omega)
      have h2 := Int.emod_lt_of_pos cut (show 0 < (u.laid : Int) + 1 by omega)
      omega
    · omega
  refine (undo_any u o (acts s.base (s.ops.take m)) m c (h.f.same ta) (h.p.kept ta (fun _ h => h.elim)) hu (K.lt hlt T.size) (by rw [h.look]; exact gone_up _ _ _ _ _ _ ho hm) hund hcl hlay hlen).mono ?_
  rintro e w' ⟨rfl, own', fv', fs', F, P, L, t, d⟩
  refine ⟨rfl, own', fv', fs', F, P, ?_, K.next T.size t.size d, T.trans' t (fun i hi e => K.old i hi e)⟩
  rw [L]
  exact (gone_step _ _ _ _ _ _ ho hm c (by rw [← e2]; exact hc)).symm

set_option maxHeartbeats 4000000 in
set_option maxRecDepth 100000 in
theorem crash_any (done cut : Int) (h : Dk w b S N s) (hN : N ≤ 1073741823) (hbig : ∀ k bs, DOp.lay k bs ∈ s.ops → bs.length ≤ 140737488355328) :
    Calls Tryz.prog 15 #[.pointer (some ⟨b, 0, none⟩), .int .i64 done, .int .i64 cut] w fun e w' => e = .returned (.tuple #[]) ∧ DkTo w b S N (s.crash done cut) w' := by
  obtain ⟨own, fv, pv, fs, us, h⟩ := h
  have hmany := h.many
  have hfit := h.fit
  obtain ⟨L, hL1, hL2, hL3⟩ := hfit.keys
  obtain ⟨n, hn⟩ : ∃ n : Nat, (n : Int) = done % ((s.ops.length : Int) + 1) := ⟨(done % ((s.ops.length : Int) + 1)).toNat, by have := Int.emod_nonneg done (show (s.ops.length : Int) + 1 ≠ 0 by omega); omega⟩
  have hnl : n ≤ s.ops.length := by have := Int.emod_lt_of_pos done (show 0 < (s.ops.length : Int) + 1 by omega); omega
  have hcr : s.crash done cut = ⟨crashed s.base s.ops n cut, [], s.works, false, -1, false⟩ := by
    unfold DSt.crash
    rw [← hn, Int.toNat_natCast]
  rw [hcr]
  have c1 : w.cell? ⟨b, 1, none⟩ = some pv := h.f.head.cell 1
  obtain ⟨po, pc, hpv⟩ := h.p.shape
  have hstart : Amid w b S s pv us n cut us.length own fv fs w := ⟨h.f, h.p, by rw [hmany.2.2, gone_start _ _ _ _ hnl, h.now]; rfl, fun j hj => .inl (h.sub j hj), Turn.refl _ _⟩
  have hund := h.und
  have hlt := h.lt
  have hSb : S b := h.sub b (by rw [h.f.hb]; simp)
  have hlen : us.length = s.ops.length := hmany.2.2
  have hmn : us.length ≤ N := hmany.2.1
  have q0 : (0 : Int) < (us.length : Int) + 1 := by omega
  have hn' : (n : Int) = done % ((us.length : Int) + 1) := by rw [hlen]; exact hn
  have Hn := hide hn'
  have HS := hide (And.intro hstart (And.intro hund (And.intro hlt (And.intro hlen hL2))))
  subst hpv
  clear hn hn' hstart hund hlt hmany h hcr hlen hL2
  go_enter Tryz.func15, Tryz.ntmps15
  go_wp2_with fail
  refine (remainder_any done ((us.length : Int) + 1) _ q0 (by omega)).mono ?_
  rintro e w0 ⟨rfl, rfl⟩
  rw [← unhide Hn]
  go_wp2_with fail
  go_loopw [7, 8, 9] (fun at' _ _ wr => ∃ (m : Nat) (own : Nat → Option Tag) (fv : Value) (fs : List Ent), n ≤ m ∧ m ≤ us.length ∧ at' = .int .i64 ((m : Int) - 1) ∧ Amid w b S s (.slice po us.length pc) us n cut m own fv fs wr) (fun at' _ _ _ => (intOf at' + 1).toNat)
  case atStart => exact ⟨us.length, own, fv, fs, by have := (unhide HS).2.2.2.1; omega, Nat.le_refl _, rfl, (unhide HS).1⟩
  case round =>
    obtain ⟨m, own1, fv1, fs1, hm1, hm2, rfl, ham⟩ := hrel
    have hlen := (unhide HS).2.2.2.1
    by_cases hgt : n < m
    · obtain ⟨m, rfl⟩ : ∃ k, m = k + 1 := ⟨m - 1, by omega⟩
      rw [show ((m + 1 : Nat) : Int) - 1 = (m : Int) by omega]
      obtain ⟨u, hu⟩ : ∃ u, us[m]? = some u := ⟨_, List.getElem?_eq_getElem (by omega)⟩
      obtain ⟨o, ho⟩ : ∃ o, s.ops[m]? = some o := ⟨_, List.getElem?_eq_getElem (by omega)⟩
      have hund : u.und = undOf (acts s.base (s.ops.take m)) o := by
        have h1 := congrArg (fun l => l[m]?) (unhide HS).2.1
        simp only [List.getElem?_map, hu, Option.map_some, unds_at s.base s.ops m o ho, Option.some.injEq] at h1
        exact h1
      have hlay : ∀ k bs, o = .lay k bs → bs ≠ [] := fun k bs e => hfit.lay k bs (by rw [← e]; exact List.mem_of_getElem? ho)
      have hul : u.laid ≤ 140737488355328 := by
        have e2 : u.laid = (undOf (acts s.base (s.ops.take m)) o).laid := congrArg Und.laid hund
        rw [e2]
        cases o with
        | lay k bs => exact hbig k bs (List.mem_of_getElem? ho)
        | rem k => exact Nat.zero_le _
      obtain ⟨g, cap, cur, hpo⟩ : ∃ (g cap : Nat) (cur : Array Value), po = some ⟨g, 0, none⟩ := by
        rcases row_shape ham.p.row with ⟨_, h0⟩ | ⟨g, cap, e, _⟩
        · omega
        · injection e with e1
          exact ⟨g, 0, #[], e1⟩
      subst hpo
      obtain ⟨pc0, pc1, pc2⟩ := pcells_at us m u hu
      have r0 : wr.cell? ⟨g, m * 3, none⟩ = some (.int .i64 u.file) := by rw [ham.p.row.cellAt (m * 3) (by omega), pc0]
      have r1 : wr.cell? ⟨g, m * 3 + 1, none⟩ = some (.int .i64 u.laid) := by rw [ham.p.row.cellAt (m * 3 + 1) (by omega), pc1]
      obtain ⟨uo, uc, huv⟩ := (ham.p.each m u (by omega) hu).1.shape
      have r2 : wr.cell? ⟨g, m * 3 + 2, none⟩ = some (.slice uo u.took.length uc) := by rw [ham.p.row.cellAt (m * 3 + 2) (by omega), pc2, huv]
      have d1 : wr.cell? ⟨b, 1, none⟩ = some (.slice (some ⟨g, 0, none⟩) us.length pc) := ham.f.head.cell 1
      have hfl : fs1.length ≤ N := ham.f.le (L := L) (by rw [ham.look]; exact gone_keys (unhide HS).2.2.2.2 hL3) hL1
      have hund' := hide hund
      have Hlen := hide hlen
      have Hu := hide hu
      have Ho := hide ho
      have Ham := hide ham
      have Huv := hide huv
      have Hlay := hide hlay
      clear hund hlen hu ho ham huv hlay pc0 pc1 pc2 hL1 hL3
      have p1 : (m : Int) < us.length := by omega
      have hcall := fun (wa : World) (ta : Turn (fun _ => False) wr wa) (c : Nat) (hc : c = if m = n then (cut % ((u.laid : Int) + 1)).toNat else 0) => (unhide Ham).undo (c := c) (unhide HS).2.2.1 ta (unhide Hu) (unhide Ho) (by omega) (unhide hund') (unhide Hlay) (by omega) hc
      rw [unhide Huv] at hcall
      have Hcall := hide hcall
      clear hcall
      have ta : ∀ o : Obj, Turn (fun _ => False) wr (wr.alloc o) := fun o => (Turn.refl _ _).alloc _
      have Hta := hide ta
      clear ta
      by_cases hmn' : m = n
      · subst hmn'
        obtain ⟨c, hc⟩ : ∃ c : Nat, (c : Int) = cut % ((u.laid : Int) + 1) := ⟨(cut % ((u.laid : Int) + 1)).toNat, by have := Int.emod_nonneg cut (show (u.laid : Int) + 1 ≠ 0 by omega); omega⟩
        have Hc := hide hc
        clear hc
        go_wp2_with fail
        refine (remainder_any cut ((u.laid : Int) + 1) _ (by omega) (by omega)).mono ?_
        rintro e w0 ⟨rfl, rfl⟩
        rw [← unhide Hc]
        go_wp2_with fail
        refine (unhide Hcall _ (unhide Hta _) c (by have e := unhide Hc; simp [← e])).mono ?_
        rintro e w2 ⟨rfl, own2, fv2, fs2, h2⟩
        have H2 := hide h2
        clear h2
        go_wp2
        go_roundw
        case rel => exact ⟨m, own2, fv2, fs2, by omega, by omega, rfl, unhide H2⟩
        case measure => simp [intOf]
      · have p2 : ¬ (m : Int) = n := by omega
        have p3 : (n : Int) ≤ m := by omega
        have p4 : ((m : Int) == (n : Int)) = false := by simpa using p2
        go_wp2_with fail
        refine (unhide Hcall _ (unhide Hta _) 0 (by simp [hmn'])).mono ?_
        rintro e w2 ⟨rfl, own2, fv2, fs2, h2⟩
        have H2 := hide h2
        clear h2
        go_wp2
        go_roundw
        case rel => exact ⟨m, own2, fv2, fs2, by omega, by omega, rfl, unhide H2⟩
        case measure => simp [intOf]
    · obtain rfl : m = n := by omega
      have p1 : ¬ (m : Int) ≤ (m : Int) - 1 := by omega
      have d1 : wr.cell? ⟨b, 1, none⟩ = some (.slice po us.length pc) := ham.f.head.cell 1
      have f1 : wr.frozen? ⟨b, 1, none⟩ = false := ham.f.head.frozen 1
      have hs1 := ham.f.head.set 1 (.slice none 0 0)
      have d5 : (wr.setCell ⟨b, 1, none⟩ (.slice none 0 0)).cell? ⟨b, 5, none⟩ = some (.bool s.dead) := hs1.cell 5
      have f5 : (wr.setCell ⟨b, 1, none⟩ (.slice none 0 0)).frozen? ⟨b, 5, none⟩ = false := hs1.frozen 5
      have hs5 : At 70 ((wr.setCell ⟨b, 1, none⟩ (.slice none 0 0)).setCell ⟨b, 5, none⟩ (.bool false)) b (dcells fv1 (.slice none 0 0) s.works s.fused s.left false) := hs1.set 5 (.bool false)
      have ts : Turn (fun j => j = b) wr ((wr.setCell ⟨b, 1, none⟩ (.slice none 0 0)).setCell ⟨b, 5, none⟩ (.bool false)) := (Turn.at b 1 _ wr).trans (Turn.at b 5 _ _)
      have Ham := hide ham
      have Hs5 := hide hs5
      have Hts := hide ts
      have Hlen := hide hlen
      clear hlen ham hs1 hs5 ts
      go_wp2_with fail
      refine (fuse_at (-1) (unhide Hs5)).mono ?_
      rintro e w2 ⟨rfl, hat, t2⟩
      have ham := unhide Ham
      have ts := (unhide Hts).trans t2
      have hlt := (unhide HS).2.2.1
      have T : Turn S w w2 := ham.turn.trans (ts.mono (fun j _ e => e ▸ hSb))
      have hfin : DkTo w b S N ⟨crashed s.base s.ops m cut, [], s.works, false, -1, false⟩ w2 := by
        refine ⟨⟨own1, fv1, .slice none 0 0, fs1, [], ham.f.rehead ts hat, PAt.none _ _, ?_, rfl, ham.known.next ham.turn.size ts.size (fun j hj => .inl hj), fun j hj => hj.elim (fun h => Nat.lt_of_lt_of_le (hlt j h) T.size) (fun h => h.2), ?_⟩, T⟩
        · rw [ham.look]
          unfold gone
          rw [if_pos rfl]
          rfl
        · have := hfit.crash m cut
          unfold DSt.crash at this
          rw [Int.emod_eq_of_lt (by omega) (by omega), Int.toNat_natCast] at this
          exact this
      have Hfin := hide hfin
      clear ham hfin hat t2 ts T hlt
      go_wp2
      go_end0
      exact ⟨rfl, unhide Hfin⟩
end

end Go.Proofs.YtfmbkpdjjhcmcaaGreat
