/- Whole commits and checkpoints, and torn ends, plainly: what their bytes come to. -/
import Derived.Test.YtfmbkpdjjhcmcaaGreatWOpP
import Derived.Test.YtfmbkpdjjhcmcaaGreatWLog
namespace Go.Proofs.YtfmbkpdjjhcmcaaGreat
open Go.RowKit

theorem tell_record_on (k : Int) (bs R : List UInt8) (h1 : 1 ≤ k) (h2 : k ≤ 255) (h3 : bs.length ≤ 1048576) : tell (record k bs ++ R) = ⟨k, bs, 9 + bs.length, 0⟩ := by
  rw [record_eq, List.append_assoc, List.append_assoc, List.append_assoc, tell_parts _ (be_length _ _) (be_length _ _) (be_length _ _)]
  have hk : num (be k 1) = k := by rw [num_be]; unfold wrap64; omega
  have hl := num_be4 (bs.length : Int) (by omega) (by omega)
  have hs := csum_small (front k bs.length ++ bs)
  have hc := num_be4 _ hs.1 hs.2
  have ht : (bs ++ R).take (num (be (bs.length : Int) 4)).toNat = bs := by
    rw [hl, Int.toNat_natCast, List.take_left']
    rfl
  rw [told_well]
  · rw [ht, hk, hl]
  · rw [hk, hl]
    omega
  · rw [hl, List.length_append]
    omega
  · rw [ht, hc]
    rfl

theorem frs_record (k : Int) (bs R : List UInt8) (h1 : 1 ≤ k) (h2 : k ≤ 255) (h3 : bs.length ≤ 1048576) : frs (record k bs ++ R) = (k, bs) :: frs R := by
  have h := tell_record_on k bs R h1 h2 h3
  rw [frs_yes (by rw [h]), h]
  simp only
  have hn : ((9 : Int) + bs.length).toNat = (record k bs).length := by rw [record_length]; omega
  rw [hn, List.drop_left']
  rfl

theorem frs_nil : frs [] = [] := rfl

theorem frs_frames (k : Int) (h1 : 1 ≤ k) (h2 : k ≤ 255) : ∀ (l : List (List UInt8)) (R : List UInt8), (∀ x ∈ l, x.length ≤ 1048576) → frs (frames k l ++ R) = l.map (fun x => (k, x)) ++ frs R
  | [], R, _ => rfl
  | x :: r, R, h => by
    have e : frames k (x :: r) ++ R = record k x ++ (frames k r ++ R) := by simp [frames]
    rw [e, frs_record k x _ h1 h2 (h x (by simp)), frs_frames k h1 h2 r R (fun y hy => h y (by simp [hy]))]
    rfl

/-- A commit, or a checkpoint. -/
abbrev Chunk := Bool × List (List UInt8)

def Chunk.kind (c : Chunk) : Int := if c.1 then 3 else 1
def Chunk.mark (c : Chunk) : Int := if c.1 then 4 else 2
def Chunk.bytes (c : Chunk) : List UInt8 := laidOf c.kind c.mark c.2

structure Chunk.Ok (c : Chunk) : Prop where
  some' : c.1 = false → c.2 ≠ []
  fit : ∀ x ∈ c.2, x.length ≤ 1048576

theorem Chunk.kinds (c : Chunk) : 1 ≤ c.kind ∧ c.kind ≤ 255 ∧ 1 ≤ c.mark ∧ c.mark ≤ 255 ∧ (c.kind = 1 ∨ c.kind = 3) := by
  unfold kind mark
  split <;> decide

theorem frs_chunk (c : Chunk) (hc : c.Ok) (R : List UInt8) : frs (c.bytes ++ R) = (c.2.map (fun x => (c.kind, x)) ++ [(c.mark, [])]) ++ frs R := by
  obtain ⟨h1, h2, h3, h4, _⟩ := c.kinds
  unfold Chunk.bytes laidOf
  rw [List.append_assoc, frs_frames _ h1 h2 _ _ hc.fit, frs_record _ [] _ h3 h4 (by simp), List.append_assoc]
  rfl

/-- What is left of a commit or checkpoint that is not whole. -/
def Torn (t : List UInt8) : Prop := ∃ (c : Chunk) (n : Nat), c.Ok ∧ n < c.bytes.length ∧ t = c.bytes.take n

theorem torn_frs (k m : Int) (h1 : 1 ≤ k) (h2 : k ≤ 255) (h3 : 1 ≤ m) (h4 : m ≤ 255) : ∀ (l : List (List UInt8)) (n : Nat), (∀ x ∈ l, x.length ≤ 1048576) → n < (laidOf k m l).length → ∃ l' : List (List UInt8), frs ((laidOf k m l).take n) = l'.map (fun x => (k, x))
  | [], n, _, hn => by
    refine ⟨[], ?_⟩
    have e : laidOf k m [] = record m [] := rfl
    rw [e] at hn ⊢
    rw [record_length] at hn
    rw [frs_no]
    · rfl
    · rw [tell_cut m [] h3 h4 (by simp) n hn]
      simp
  | x :: r, n, h, hn => by
    have e : laidOf k m (x :: r) = record k x ++ laidOf k m r := by simp [laidOf, frames]
    have hx := h x (by simp)
    rw [e] at hn ⊢
    by_cases hlt : n < (record k x).length
    · refine ⟨[], ?_⟩
      rw [List.take_append_of_le_length (by omega), frs_no]
      · rfl
      · rw [record_length] at hlt
        rw [tell_cut k x h1 h2 hx n hlt]
        simp
    · obtain ⟨l', hl'⟩ := torn_frs k m h1 h2 h3 h4 r (n - (record k x).length) (fun y hy => h y (by simp [hy])) (by rw [List.length_append] at hn; omega)
      refine ⟨x :: l', ?_⟩
      rw [List.take_append, List.take_of_length_le (by omega), frs_record k x _ h1 h2 hx, hl']
      rfl

theorem Torn.frs {t : List UInt8} (h : Torn t) : ∃ (k : Int) (l : List (List UInt8)), (k = 1 ∨ k = 3) ∧ frs t = l.map (fun x => (k, x)) := by
  obtain ⟨c, n, hc, hn, rfl⟩ := h
  obtain ⟨h1, h2, h3, h4, h5⟩ := c.kinds
  obtain ⟨l', hl'⟩ := torn_frs _ _ h1 h2 h3 h4 c.2 n hc.fit hn
  exact ⟨c.kind, l', h5, hl'⟩

theorem torn_nil : Torn [] := ⟨(true, []), 0, ⟨fun h => by simp at h, fun x hx => by simp at hx⟩, by unfold Chunk.bytes laidOf; rw [List.length_append, record_length]; omega, rfl⟩

/-- What a commit or checkpoint makes of the records and of the file of the last checkpoint. -/
abbrev Recs := List (List UInt8) × Int
def kstep (k : Int) (y : Recs) (c : Chunk) : Recs := if c.1 then (c.2, k) else (y.1 ++ c.2, y.2)
def krun (k : Int) (cs : List Chunk) (y : Recs) : Recs := cs.foldl (kstep k) y

namespace HSt

theorem takes_append (f : Int) : ∀ (a b : List (Int × List UInt8)) (h : HSt), takes f (a ++ b) h = (takes f a h).bind (takes f b)
  | [], b, h => rfl
  | x :: r, b, h => by
    rw [List.cons_append, takes, takes]
    split
    · rfl
    · exact takes_append f r b _

theorem takes_frames (f k : Int) (hk : k = 1 ∨ k = 3) : ∀ (l : List (List UInt8)) (h : HSt), h.fits k → ∃ h', takes f (l.map (fun x => (k, x))) h = some h' ∧ h'.recs = h.recs ∧ h'.since = h.since ∧ h'.begun = h.begun ++ l ∧ h'.fits k
  | [], h, hf => ⟨h, rfl, rfl, rfl, by simp, hf⟩
  | x :: r, h, hf => by
    have e1 : h.take f k x = some (h.begin' k x) := by
      unfold take
      rw [if_pos hk, if_pos hf]
    obtain ⟨h', e2, e3, e4, e5, e6⟩ := takes_frames f k hk r (h.begin' k x) (.inr rfl)
    refine ⟨h', ?_, e3, e4, ?_, e6⟩
    · rw [List.map_cons, takes]
      simp only [e1]
      exact e2
    · rw [e5]
      simp [begin']

theorem takes_chunk (f : Int) (c : Chunk) (hc : c.Ok) (h : HSt) (hb : h.begun = []) : ∃ h', takes f (c.2.map (fun x => (c.kind, x)) ++ [(c.mark, [])]) h = some h' ∧ (h'.recs, h'.since) = kstep f (h.recs, h.since) c ∧ h'.begun = [] := by
  obtain ⟨_, _, _, _, hk⟩ := c.kinds
  obtain ⟨h1, e1, e2, e3, e4, e5⟩ := takes_frames f c.kind hk c.2 h (.inl hb)
  rw [hb, List.nil_append] at e4
  rw [takes_append, e1]
  show ∃ h', takes f [(c.mark, [])] h1 = some h' ∧ _
  cases hc1 : c.1 with
  | true =>
    have hm : c.mark = 4 := by unfold Chunk.mark; rw [hc1]; rfl
    have hkk : c.kind = 3 := by unfold Chunk.kind; rw [hc1]; rfl
    rw [hkk] at e5
    have et : h1.take f 4 [] = some (h1.anew f) := by
      unfold take
      simp [e5]
    refine ⟨h1.anew f, ?_, ?_, rfl⟩
    · rw [hm, takes]
      simp only [et]
      rfl
    · unfold kstep
      rw [hc1, if_pos rfl]
      show (h1.begun, f) = _
      rw [e4]
  | false =>
    have hm : c.mark = 2 := by unfold Chunk.mark; rw [hc1]; rfl
    have hkk : c.kind = 1 := by unfold Chunk.kind; rw [hc1]; rfl
    have hne := hc.some' hc1
    rw [hkk] at e5
    have et : h1.take f 2 [] = some h1.commits := by
      unfold take
      simp [e5, e4, hne]
    refine ⟨h1.commits, ?_, ?_, rfl⟩
    · rw [hm, takes]
      simp only [et]
      rfl
    · unfold kstep
      rw [hc1, if_neg (by simp)]
      show (h1.recs ++ h1.begun, h1.since) = _
      rw [e4, e2, e3]

end HSt

/-- Bytes of whole commits and checkpoints, and a torn end. -/
structure Whole (bs : List UInt8) (cs : List Chunk) : Prop where
  ok : ∀ c ∈ cs, c.Ok
  is : ∃ t, Torn t ∧ bs = (cs.map Chunk.bytes).flatten ++ t

theorem takes_whole (f : Int) : ∀ (cs : List Chunk) (t : List UInt8) (h : HSt), (∀ c ∈ cs, c.Ok) → Torn t → h.begun = [] → ∃ h', HSt.takes f (frs ((cs.map Chunk.bytes).flatten ++ t)) h = some h' ∧ (h'.recs, h'.since) = krun f cs (h.recs, h.since)
  | [], t, h, _, ht, hb => by
    obtain ⟨k, l, hk, hl⟩ := ht.frs
    obtain ⟨h', e1, e2, e3, _⟩ := HSt.takes_frames f k hk l h (.inl hb)
    refine ⟨h', ?_, ?_⟩
    · show HSt.takes f (frs ([] ++ t)) h = _
      rw [List.nil_append, hl]
      exact e1
    · rw [e2, e3]
      rfl
  | c :: r, t, h, hc, ht, hb => by
    obtain ⟨h1, e1, e2, e3⟩ := HSt.takes_chunk f c (hc c (by simp)) h hb
    obtain ⟨h2, e4, e5⟩ := takes_whole f r t h1 (fun x hx => hc x (by simp [hx])) ht e3
    refine ⟨h2, ?_, ?_⟩
    · rw [List.map_cons, List.flatten_cons, List.append_assoc, frs_chunk c (hc c (by simp)), HSt.takes_append, e1]
      exact e4
    · rw [e5, e2]
      rfl

theorem file_whole {bs : List UInt8} {cs : List Chunk} (hw : Whole bs cs) (f : Int) (h : HSt) : ∃ h', h.file f bs = some h' ∧ (h'.recs, h'.since) = krun f cs (h.recs, h.since) := by
  obtain ⟨t, ht, rfl⟩ := hw.is
  exact takes_whole f cs t h.fresh hw.ok ht rfl

/-- Files of whole commits and checkpoints are opened. -/
theorem openN_whole {rd : Fs} {F : Int → List Chunk} : ∀ (ns : List Int) (x : HSt × Int), (∀ k ∈ ns, Whole (rd k) (F k)) → ∃ h, openN rd ns x = some (h, ns.foldl (fun _ k => k + 1) x.2) ∧ (h.recs, h.since) = ns.foldl (fun y k => krun k (F k) y) (x.1.recs, x.1.since)
  | [], x, _ => ⟨x.1, rfl, rfl⟩
  | k :: r, x, hw => by
    obtain ⟨h1, e1, e2⟩ := file_whole (hw k (by simp)) k x.1
    obtain ⟨h2, e3, e4⟩ := openN_whole r (h1, k + 1) (fun j hj => hw j (by simp [hj]))
    refine ⟨h2, ?_, ?_⟩
    · rw [openN]
      simp only [e1]
      exact e3
    · rw [e4, List.foldl_cons]
      simp only [e2]

end Go.Proofs.YtfmbkpdjjhcmcaaGreat
