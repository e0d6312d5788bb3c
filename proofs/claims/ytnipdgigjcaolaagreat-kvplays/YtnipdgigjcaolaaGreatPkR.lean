/- What stands below the proof, in one text. -/
import Derived.Test.YtnipdgigjcaolaaGreatPkH
import Derived.Test.YtnipdgigjcaolaaGreatPkF
import Derived.Test.YtnipdgigjcaolaaGreatPkG
import Derived.Laws.ResultCell
/- The reference's reading of a file, plainly, beside the program's. -/
namespace Go.Proofs.YtnipdgigjcaolaaGreat

/-- What the reference has taken of a file: whether a checkpoint counts, the records, what was begun, of which kind. -/
structure PSt where
  fresh : Bool
  recs : List (List UInt8)
  begun : List (List UInt8)
  kind : Int

namespace PSt

def zero : PSt := ⟨false, [], [], 0⟩

def take (p : PSt) (k : Int) (body : List UInt8) : Option PSt :=
  if k = 1 ∨ k = 3 then (if p.kind ≠ 0 ∧ p.kind ≠ k then none else some ⟨p.fresh, p.recs, p.begun ++ [body], k⟩)
  else if k = 2 then (if p.kind ≠ 1 ∨ body ≠ [] then none else some ⟨p.fresh, p.recs ++ p.begun, [], 0⟩)
  else if k = 4 then (if (p.kind ≠ 0 ∧ p.kind ≠ 3) ∨ body ≠ [] then none else some ⟨true, p.begun, [], 0⟩)
  else none

def takes : List (Int × List UInt8) → PSt → Option PSt
  | [], p => some p
  | x :: r, p => match p.take x.1 x.2 with
    | none => none
    | some p' => takes r p'

/-- Of which kind, and whether something was begun. -/
def Ok (p : PSt) : Prop := (p.kind = 0 ↔ p.begun = []) ∧ (p.kind = 0 ∨ p.kind = 1 ∨ p.kind = 3)

end PSt

/-- A history beside the reference's part of the file at hand. -/
structure Beside6 (file : Int) (R0 : List (List UInt8)) (S0 : Int) (h : HSt) (p : PSt) : Prop where
  recs : h.recs = (if p.fresh then [] else R0) ++ p.recs
  since : h.since = if p.fresh then file else S0
  begun : h.begun = p.begun
  kind : p.begun ≠ [] → h.kind = p.kind
  ok : p.Ok

theorem Beside6.fits {file : Int} {R0 : List (List UInt8)} {S0 : Int} {h : HSt} {p : PSt} (b : Beside6 file R0 S0 h p) (k : Int) : h.fits k ↔ (p.kind = 0 ∨ p.kind = k) := by
  unfold HSt.fits
  rw [b.begun]
  by_cases he : p.begun = []
  · simp [he, b.ok.1.2 he]
  · have h0 : ¬ p.kind = 0 := fun e => he (b.ok.1.1 e)
    simp [he, h0, b.kind he]

theorem Beside6.take {file : Int} {R0 : List (List UInt8)} {S0 : Int} {h : HSt} {p : PSt} (b : Beside6 file R0 S0 h p) (k : Int) (body : List UInt8) :
    (h.take file k body = none ∧ p.take k body = none) ∨ ∃ h' p', h.take file k body = some h' ∧ p.take k body = some p' ∧ Beside6 file R0 S0 h' p' := by
  unfold HSt.take PSt.take
  by_cases h13 : k = 1 ∨ k = 3
  · rw [if_pos h13, if_pos h13]
    by_cases hf : h.fits k
    · rw [if_pos hf, if_neg (fun e => (b.fits k).1 hf |>.elim e.1 e.2)]
      refine .inr ⟨_, _, rfl, rfl, b.recs, b.since, by show h.begun ++ [body] = _; rw [b.begun], fun _ => rfl, ⟨?_, ?_⟩⟩
      · show k = 0 ↔ p.begun ++ [body] = []
        simp
        omega
      · show k = 0 ∨ k = 1 ∨ k = 3
        omega
    · rw [if_neg hf, if_pos (by have := mt (b.fits k).2 hf; omega)]
      exact .inl ⟨rfl, rfl⟩
  · rw [if_neg h13, if_neg h13]
    have hbk : h.begun = [] ↔ p.kind = 0 := by rw [b.begun]; exact b.ok.1.symm
    by_cases h2 : k = 2
    · rw [if_pos h2, if_pos h2]
      by_cases hn : p.kind ≠ 1 ∨ body ≠ []
      · rw [if_pos hn, if_pos (by
          rcases hn with hn | hn
          · by_cases h0 : p.kind = 0
            · exact .inr (.inl (hbk.2 h0))
            · exact .inr (.inr (fun e => by have := (b.fits 1).1 e; omega))
          · exact .inl hn)]
        exact .inl ⟨rfl, rfl⟩
      · have hk1 : p.kind = 1 := Decidable.byContradiction (fun e => hn (.inl e))
        have hb0 : body = [] := Decidable.byContradiction (fun e => hn (.inr e))
        rw [if_neg hn, if_neg (by
          rintro (e | e | e)
          · exact e hb0
          · have := hbk.1 e; omega
          · exact e ((b.fits 1).2 (.inr hk1)))]
        refine .inr ⟨_, _, rfl, rfl, ?_, b.since, rfl, fun e => absurd rfl e, ⟨by simp, .inl rfl⟩⟩
        show h.recs ++ h.begun = _
        rw [b.recs, b.begun, List.append_assoc]
    · rw [if_neg h2, if_neg h2]
      by_cases h4 : k = 4
      · rw [if_pos h4, if_pos h4]
        by_cases hn : (p.kind ≠ 0 ∧ p.kind ≠ 3) ∨ body ≠ []
        · rw [if_pos hn, if_pos (by
            rcases hn with hn | hn
            · exact .inr (fun e => by have := (b.fits 3).1 e; omega)
            · exact .inl hn)]
          exact .inl ⟨rfl, rfl⟩
        · have hb0 : body = [] := Decidable.byContradiction (fun e => hn (.inr e))
          have hk3 : p.kind = 0 ∨ p.kind = 3 := by
            have : ¬ (p.kind ≠ 0 ∧ p.kind ≠ 3) := fun e => hn (.inl e)
            omega
          rw [if_neg hn, if_neg (by
            rintro (e | e)
            · exact e hb0
            · exact e ((b.fits 3).2 hk3))]
          refine .inr ⟨_, _, rfl, rfl, ?_, rfl, rfl, fun e => absurd rfl e, ⟨by simp, .inl rfl⟩⟩
          show h.begun = [] ++ p.begun
          rw [b.begun, List.nil_append]
      · rw [if_neg h4, if_neg h4]
        exact .inl ⟨rfl, rfl⟩

theorem Beside6.takes {file : Int} {R0 : List (List UInt8)} {S0 : Int} : ∀ (l : List (Int × List UInt8)) {h : HSt} {p : PSt}, Beside6 file R0 S0 h p →
    (HSt.takes file l h = none ∧ PSt.takes l p = none) ∨ ∃ h' p', HSt.takes file l h = some h' ∧ PSt.takes l p = some p' ∧ Beside6 file R0 S0 h' p'
  | [], h, p, b => .inr ⟨h, p, rfl, rfl, b⟩
  | x :: r, h, p, b => by
    rw [HSt.takes, PSt.takes]
    rcases b.take x.1 x.2 with ⟨e1, e2⟩ | ⟨h', p', e1, e2, b'⟩
    · rw [e1, e2]
      exact .inl ⟨rfl, rfl⟩
    · rw [e1, e2]
      exact Beside6.takes r b'

/-- What the reference has opened: the records, the file of the last checkpoint (-1: none), the number behind the last file. -/
structure OSt where
  out : List (List UInt8)
  since : Int
  next : Int

def OSt.file (o : OSt) (k : Int) (p : PSt) : OSt := ⟨(if p.fresh then [] else o.out) ++ p.recs, if p.fresh then k else o.since, k + 1⟩

def openR (rd : Fs) : List Int → OSt → Option OSt
  | [], o => some o
  | k :: r, o => match PSt.takes (frs (rd k)) PSt.zero with
    | none => none
    | some p => openR rd r (o.file k p)

/-- Both have opened the same. -/
structure Opened6 (x : HSt × Int) (o : OSt) : Prop where
  recs : x.1.recs = o.out
  since : (x.1.since = 0 ∧ o.since = -1) ∨ x.1.since = o.since
  next : x.2 = o.next

theorem openR_same (rd : Fs) : ∀ (l : List Int) {x : HSt × Int} {o : OSt}, Opened6 x o →
    (openN rd l x = none ∧ openR rd l o = none) ∨ ∃ y q, openN rd l x = some y ∧ openR rd l o = some q ∧ Opened6 y q
  | [], x, o, h => .inr ⟨x, o, rfl, rfl, h⟩
  | k :: r, x, o, h => by
    rw [openN, openR]
    have b0 : Beside6 k x.1.recs x.1.since x.1.fresh PSt.zero := ⟨by show x.1.recs = _; simp [PSt.zero], by show x.1.since = _; simp [PSt.zero], rfl, fun e => absurd rfl e, ⟨by simp [PSt.zero], .inl rfl⟩⟩
    unfold HSt.file
    rcases b0.takes (frs (rd k)) with ⟨e1, e2⟩ | ⟨h', p', e1, e2, b'⟩
    · rw [e1, e2]
      exact .inl ⟨rfl, rfl⟩
    · rw [e1, e2]
      refine openR_same rd r ⟨?_, ?_, rfl⟩
      · show h'.recs = (if p'.fresh then [] else o.out) ++ p'.recs
        rw [b'.recs, h.recs]
      · show (h'.since = 0 ∧ (if p'.fresh then k else o.since) = -1) ∨ h'.since = if p'.fresh then k else o.since
        rw [b'.since]
        split
        · exact .inr rfl
        · exact h.since

end Go.Proofs.YtnipdgigjcaolaaGreat

/- The reference's readFile: a file's frames, as far as they count. -/
namespace Go.Proofs.YtnipdgigjcaolaaGreat
open Go.RowKit

theorem refNext_any6 (v : Value) (bs : List UInt8) (w : World) (hs : Sees w v bs) (hb : bs.length ≤ 140737488355328) :
    Calls Tryz.prog 112 #[v] w fun e w' => ∃ v', e = .returned (toldValue (tell bs) v') ∧ RefIs w (tell bs) v' w' := by
  by_cases hl : bs.length < 9
  · exact refNext_short v bs w hs hl
  · obtain ⟨A, L, S, R, h1, h2, h3, h4, h5⟩ := parts bs (by omega)
    rw [h5]
    exact refNext_long v bs A L S R w hs hb h1 h2 h3 h4

/-- Within readFile: its part in block pb, its result in rb, the records' row rv, what was begun sv. -/
structure PIs (w wr : World) (pb rb : Nat) (rv sv : Value) (rl sl : List (Value × List UInt8)) (p : PSt) : Prop where
  box : At 109 wr pb #[rv, .bool p.fresh]
  res : At 109 wr rb #[.slice none 0 0, .bool false]
  r : OwnsC 29 wr rv (rl.map (·.1))
  s : OwnsC 29 wr sv (sl.map (·.1))
  recs : rl.map (·.2) = p.recs
  begun : sl.map (·.2) = p.begun
  inr : ∀ j, rv.ownBlock = some j → w.heap.size ≤ j ∧ j ≠ pb ∧ j ≠ rb
  ins : ∀ j, sv.ownBlock = some j → w.heap.size ≤ j ∧ j ≠ pb ∧ j ≠ rb ∧ rv.ownBlock ≠ some j
  each : ∀ q, (q ∈ rl ∨ q ∈ sl) → Sees wr q.1 q.2 ∧ (0 < q.2.length → ∀ j, slab q.1 = some j → w.heap.size ≤ j ∧ j < wr.heap.size ∧ j ≠ pb ∧ j ≠ rb ∧ rv.ownBlock ≠ some j ∧ sv.ownBlock ≠ some j)
  new : w.heap.size ≤ pb ∧ w.heap.size ≤ rb ∧ pb ≠ rb
  turn : Turn (fun _ => False) w wr

section
variable {w wr w1 w2 : World} {pb rb : Nat} {rv sv v v2 : Value} {rl sl : List (Value × List UInt8)} {p : PSt} {bs : List UInt8}

theorem PIs.goes (h : PIs w wr pb rb rv sv rl sl p) (t : Turn (fun _ => False) wr w1) : PIs w w1 pb rb rv sv rl sl p :=
  ⟨h.box.kept t (fun e => e), h.res.kept t (fun e => e), h.r.kept t (fun _ _ e => e), h.s.kept t (fun _ _ e => e), h.recs, h.begun, h.inr, h.ins, fun q hq => ⟨(h.each q hq).1.kept t (fun _ _ e => e), fun h0 j hj => by
    obtain ⟨a1, a2, a3⟩ := (h.each q hq).2 h0 j hj
    exact ⟨a1, Nat.lt_of_lt_of_le a2 t.size, a3⟩⟩, h.new, h.turn.trans t⟩

/-- A record is begun. -/
theorem PIs.begin' (h : PIs w wr pb rb rv sv rl sl p) (hs : Sees wr v bs) (hn : 0 < bs.length → ∀ j, slab v = some j → w.heap.size ≤ j ∧ j < wr.heap.size ∧ j ≠ pb ∧ j ≠ rb ∧ rv.ownBlock ≠ some j ∧ sv.ownBlock ≠ some j)
    (ho : OwnsC 29 w2 v2 (sl.map (·.1) ++ [v])) (hg : wr.grownBy w2 sv.ownBlock) (hk : v2.ownBlock = sv.ownBlock ∨ v2.ownBlock = some wr.heap.size) (k : Int) :
    PIs w w2 pb rb rv v2 rl (sl ++ [(v, bs)]) ⟨p.fresh, p.recs, p.begun ++ [bs], k⟩ := by
  have tg : Turn (fun j => sv.ownBlock = some j) wr w2 := (Turn.refl _ _).grown hg (fun j hj => .inl hj)
  have hpl := h.box.lt
  have hrl := h.res.lt
  have hsz := h.turn.size
  refine ⟨h.box.kept tg (fun e => (h.ins _ e).2.1 rfl), h.res.kept tg (fun e => (h.ins _ e).2.2.1 rfl), h.r.kept tg (fun j hj e => (h.ins j e).2.2.2 hj), by rw [List.map_append]; exact ho, h.recs, by rw [List.map_append, h.begun]; rfl, h.inr, fun j hj => ?_, fun q hq => ?_, h.new, h.turn.trans' tg (fun j hj e => by have := (h.ins j e).1; omega)⟩
  · rcases hk with e | e
    · exact h.ins j (e ▸ hj)
    · rw [e] at hj
      injection hj with hj
      exact ⟨by omega, by omega, by omega, fun e2 => by have := h.r.lt e2; omega⟩
  · have hq' : Sees wr q.1 q.2 ∧ (0 < q.2.length → ∀ j, slab q.1 = some j → w.heap.size ≤ j ∧ j < wr.heap.size ∧ j ≠ pb ∧ j ≠ rb ∧ rv.ownBlock ≠ some j ∧ sv.ownBlock ≠ some j) := by
      rcases hq with hq | hq
      · exact h.each q (.inl hq)
      · rcases List.mem_append.1 hq with hq | hq
        · exact h.each q (.inr hq)
        · simp only [List.mem_singleton] at hq
          subst hq
          exact ⟨hs, hn⟩
    refine ⟨hq'.1.kept' tg (fun h0 j hj => (hq'.2 h0 j hj).2.2.2.2.2), fun h0 j hj => ?_⟩
    obtain ⟨a1, a2, a3, a4, a5, a6⟩ := hq'.2 h0 j hj
    refine ⟨a1, Nat.lt_of_lt_of_le a2 tg.size, a3, a4, a5, fun e => ?_⟩
    rcases hk with e2 | e2
    · exact a6 (e2 ▸ e)
    · rw [e2] at e
      injection e with e
      omega

/-- What was begun counts. -/
theorem PIs.counts (h : PIs w wr pb rb rv sv rl sl p) (ho : OwnsC 29 w2 v2 (rl.map (·.1) ++ sl.map (·.1))) (hg : wr.grownBy w2 rv.ownBlock) (hk : v2.ownBlock = rv.ownBlock ∨ v2.ownBlock = some wr.heap.size) :
    PIs w (w2.setCell ⟨pb, 0, none⟩ v2) pb rb v2 (.slice none 0 0) (rl ++ sl) [] ⟨p.fresh, p.recs ++ p.begun, [], 0⟩ := by
  have tg : Turn (fun j => rv.ownBlock = some j) wr w2 := (Turn.refl _ _).grown hg (fun j hj => .inl hj)
  have ts : Turn (fun j => j = pb) w2 (w2.setCell ⟨pb, 0, none⟩ v2) := (Turn.refl (fun j => j = pb) w2).setCell (p := ⟨pb, 0, none⟩) (.inl rfl) _
  have hpl := h.box.lt
  have hrl := h.res.lt
  have hsz := h.turn.size
  have hv2 : ∀ j, v2.ownBlock = some j → w.heap.size ≤ j ∧ j ≠ pb ∧ j ≠ rb := fun j hj => by
    rcases hk with e | e
    · exact h.inr j (e ▸ hj)
    · rw [e] at hj
      injection hj with hj
      omega
  refine ⟨?_, (h.res.kept tg (fun e => (h.inr _ e).2.2 rfl)).kept ts (fun e => h.new.2.2 e.symm), by rw [List.map_append]; exact ho.kept ts (fun j hj e => (hv2 j hj).2.1 e), OwnsC.nil _ _, by rw [List.map_append, h.recs, h.begun], rfl, hv2, fun j hj => by simp [Value.ownBlock] at hj, fun q hq => ?_, h.new, (h.turn.trans' tg (fun j hj e => by have := (h.inr j e).1; omega)).trans' ts (fun j hj e => by have := h.new.1; omega)⟩
  · have := (h.box.kept tg (fun e => (h.inr _ e).2.1 rfl)).set 0 v2
    simpa using this
  · have hq' := h.each q (by
      rcases hq with hq | hq
      · exact (List.mem_append.1 hq)
      · simp at hq)
    refine ⟨(hq'.1.kept' tg (fun h0 j hj => (hq'.2 h0 j hj).2.2.2.2.1)).kept' ts (fun h0 j hj e => (hq'.2 h0 j hj).2.2.1 e), fun h0 j hj => ?_⟩
    obtain ⟨a1, a2, a3, a4, a5, a6⟩ := hq'.2 h0 j hj
    have s1 := tg.size
    have s2 := ts.size
    refine ⟨a1, by omega, a3, a4, fun e => ?_, by simp [Value.ownBlock]⟩
    rcases hk with e2 | e2
    · exact a5 (e2 ▸ e)
    · rw [e2] at e
      injection e with e
      omega

/-- A checkpoint's mark: all that was ahead is gone. -/
theorem PIs.anew (h : PIs w wr pb rb rv sv rl sl p) : PIs w ((wr.setCell ⟨pb, 0, none⟩ (.slice none 0 0)).setCell ⟨pb, 1, none⟩ (.bool true)) pb rb (.slice none 0 0) sv [] sl ⟨true, [], p.begun, p.kind⟩ := by
  have ts : Turn (fun j => j = pb) wr ((wr.setCell ⟨pb, 0, none⟩ (.slice none 0 0)).setCell ⟨pb, 1, none⟩ (.bool true)) := ((Turn.refl (fun j => j = pb) wr).setCell (p := ⟨pb, 0, none⟩) (.inl rfl) _).setCell (p := ⟨pb, 1, none⟩) (.inl rfl) _
  refine ⟨?_, h.res.kept ts (fun e => h.new.2.2 e.symm), OwnsC.nil _ _, h.s.kept ts (fun j hj e => (h.ins j hj).2.1 e), rfl, h.begun, fun j hj => by simp [Value.ownBlock] at hj, fun j hj => ⟨(h.ins j hj).1, (h.ins j hj).2.1, (h.ins j hj).2.2.1, by simp [Value.ownBlock]⟩, fun q hq => ?_, h.new, h.turn.trans' ts (fun j hj e => by have := h.new.1; omega)⟩
  · have := (h.box.set 0 (.slice none 0 0)).set 1 (.bool true)
    simpa using this
  · have hq' := h.each q (by
      rcases hq with hq | hq
      · simp at hq
      · exact .inr hq)
    refine ⟨hq'.1.kept' ts (fun h0 j hj e => (hq'.2 h0 j hj).2.2.1 e), fun h0 j hj => ?_⟩
    obtain ⟨a1, a2, a3, a4, a5, a6⟩ := hq'.2 h0 j hj
    exact ⟨a1, Nat.lt_of_lt_of_le a2 ts.size, a3, a4, by simp [Value.ownBlock], a6⟩

/-- What readFile comes to. -/
def FTo (w : World) (r : Option PSt) (e : Ending) (w' : World) : Prop :=
  match r with
  | none => ∃ ao n c b, e = .returned (.tuple #[.agg #[.slice ao n c, .bool b], .int .i64 5]) ∧ Turn (fun _ => False) w w'
  | some p => ∃ rv rl, e = .returned (.tuple #[.agg #[rv, .bool p.fresh], .int .i64 0]) ∧ RL (grow (fun _ => False) w w') w' rv rl ∧ rl.map (·.2) = p.recs ∧ Turn (fun _ => False) w w'

theorem PIs.ends (h : PIs w wr pb rb rv sv rl sl p) : RL (grow (fun _ => False) w ((wr.setCell ⟨rb, 0, none⟩ rv).setCell ⟨rb, 1, none⟩ (.bool p.fresh))) ((wr.setCell ⟨rb, 0, none⟩ rv).setCell ⟨rb, 1, none⟩ (.bool p.fresh)) rv rl ∧ Turn (fun _ => False) w ((wr.setCell ⟨rb, 0, none⟩ rv).setCell ⟨rb, 1, none⟩ (.bool p.fresh)) ∧ At 109 ((wr.setCell ⟨rb, 0, none⟩ rv).setCell ⟨rb, 1, none⟩ (.bool p.fresh)) rb #[rv, .bool p.fresh] := by
  have ts : Turn (fun j => j = rb) wr ((wr.setCell ⟨rb, 0, none⟩ rv).setCell ⟨rb, 1, none⟩ (.bool p.fresh)) := ((Turn.refl (fun j => j = rb) wr).setCell (p := ⟨rb, 0, none⟩) (.inl rfl) _).setCell (p := ⟨rb, 1, none⟩) (.inl rfl) _
  have hr := h.r.kept ts (fun j hj e => (h.inr j hj).2.2 e)
  refine ⟨RL.of hr (fun g hg => .inr ⟨(h.inr g hg).1, hr.lt hg⟩) (fun q hq => ?_), h.turn.trans' ts (fun j hj e => by have := h.new.2.1; omega), ?_⟩
  · have hq' := h.each q (.inl hq)
    refine ⟨hq'.1.kept' ts (fun h0 j hj e => (hq'.2 h0 j hj).2.2.2.1 e), fun h0 j hj => ?_⟩
    obtain ⟨a1, a2, _⟩ := hq'.2 h0 j hj
    exact .inr ⟨a1, Nat.lt_of_lt_of_le a2 ts.size⟩
  · have := (h.res.set 0 rv).set 1 (.bool p.fresh)
    simpa using this

end

end Go.Proofs.YtnipdgigjcaolaaGreat
