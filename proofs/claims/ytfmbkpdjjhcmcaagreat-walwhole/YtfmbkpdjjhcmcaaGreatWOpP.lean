/- What files come to when they are opened, plainly. -/
import Derived.Test.YtfmbkpdjjhcmcaaGreatPkA
import Derived.Test.YtfmbkpdjjhcmcaaGreatDMore
namespace Go.Proofs.YtfmbkpdjjhcmcaaGreat

/-- Files are read, one behind the other: the history, and the number behind the last one. -/
def openN (rd : Fs) : List Int → HSt × Int → Option (HSt × Int)
  | [], x => some x
  | k :: r, x => match x.1.file k (rd k) with
    | none => none
    | some h => openN rd r (h, k + 1)

theorem openN_append (rd : Fs) (a b : List Int) (x : HSt × Int) : openN rd (a ++ b) x = (openN rd a x).bind (openN rd b) := by
  induction a generalizing x with
  | nil => rfl
  | cons k r ih =>
    rw [List.cons_append, openN, openN]
    split
    · rfl
    · exact ih _

theorem openN_no {rd : Fs} {l : List Int} {n : Nat} {k : Int} {x : HSt × Int} {h : HSt} {a : Int} (h0 : openN rd (l.take n) x = some (h, a)) (hk : l[n]? = some k) (h1 : h.file k (rd k) = none) : openN rd l x = none := by
  obtain ⟨e1, e2⟩ := List.getElem?_eq_some_iff.1 hk
  have e3 : l = l.take n ++ k :: l.drop (n + 1) := by rw [← e2, List.getElem_cons_drop]; simp
  rw [e3, openN_append, h0]
  show openN rd (k :: _) (h, a) = none
  rw [openN, h1]

theorem openN_yes {rd : Fs} {l : List Int} {n : Nat} {k : Int} {x : HSt × Int} {h h' : HSt} {a : Int} (h0 : openN rd (l.take n) x = some (h, a)) (hk : l[n]? = some k) (h1 : h.file k (rd k) = some h') : openN rd (l.take (n + 1)) x = some (h', k + 1) := by
  obtain ⟨e1, e2⟩ := List.getElem?_eq_some_iff.1 hk
  rw [List.take_succ_eq_append_getElem e1, e2, openN_append, h0]
  show openN rd [k] (h, a) = _
  rw [openN, h1]
  rfl

theorem frs_len : ∀ (n : Nat) (bs : List UInt8), bs.length ≤ n → (frs bs).length * 9 ≤ bs.length := by
  intro n
  induction n using Nat.strongRecOn with
  | ind n ih =>
    intro bs hn
    by_cases he : (tell bs).err = 0
    · obtain ⟨h1, h2, _⟩ := tell_ok he
      rw [frs_yes he, List.length_cons]
      have hd : (bs.drop (tell bs).size.toNat).length = bs.length - (tell bs).size.toNat := List.length_drop
      have := ih (n - 1) (by omega) (bs.drop (tell bs).size.toNat) (by omega)
      omega
    · rw [frs_no he]
      simp

namespace HSt

theorem take_len {h h' : HSt} {file k : Int} {body : List UInt8} (e : h.take file k body = some h') : h'.recs.length + h'.begun.length ≤ h.recs.length + h.begun.length + 1 := by
  unfold take at e
  split at e
  · split at e
    · injection e with e
      subst e
      simp [begin']
      try omega
    · simp at e
  · split at e
    · split at e
      · simp at e
      · injection e with e
        subst e
        simp [commits]
        try omega
    · split at e
      · split at e
        · simp at e
        · injection e with e
          subst e
          simp [anew]
          try omega
      · simp at e

theorem takes_len {file : Int} : ∀ {l : List (Int × List UInt8)} {h h' : HSt}, takes file l h = some h' → h'.recs.length + h'.begun.length ≤ h.recs.length + h.begun.length + l.length
  | [], h, h', e => by
    injection e with e
    subst e
    simp
  | x :: r, h, h', e => by
    rw [takes] at e
    split at e
    · simp at e
    · rename_i h1 e1
      have := take_len e1
      have := takes_len e
      rw [List.length_cons]
      omega

theorem file_len {h h' : HSt} {k : Int} {bs : List UInt8} (e : h.file k bs = some h') : h'.recs.length ≤ h.recs.length + bs.length := by
  have h1 := takes_len e
  have h2 := frs_len _ bs (Nat.le_refl _)
  have h3 : h.fresh.recs = h.recs := rfl
  have h4 : h.fresh.begun = [] := rfl
  rw [h3, h4] at h1
  simp at h1
  omega

end HSt

theorem openN_len {rd : Fs} {B : Nat} (hB : ∀ k, (rd k).length ≤ B) : ∀ {l : List Int} {x y : HSt × Int}, openN rd l x = some y → y.1.recs.length ≤ x.1.recs.length + l.length * B
  | [], x, y, e => by
    injection e with e
    subst e
    simp
  | k :: r, x, y, e => by
    rw [openN] at e
    split at e
    · simp at e
    · rename_i h1 e1
      have h2 := HSt.file_len e1
      have h3 := openN_len hB e
      have h4 := hB k
      rw [List.length_cons, Nat.add_mul]
      simp only at h3
      omega

/-- Files are removed, whatever is told. -/
def DSt.gone (d : DSt) (l : List Int) : DSt := l.foldl (fun d k => (d.rem k).2) d

theorem gone_snoc (d : DSt) (l : List Int) (k : Int) : d.gone (l ++ [k]) = ((d.gone l).rem k).2 := by simp [DSt.gone]

end Go.Proofs.YtfmbkpdjjhcmcaaGreat
