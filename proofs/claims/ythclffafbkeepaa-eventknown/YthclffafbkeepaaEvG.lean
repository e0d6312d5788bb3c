/- An event's bytes, plainly, and what is read of any bytes. -/
import Derived.Test.YthclffafbkeepaaEvR
import Derived.Test.YthclffafbkeepaaSt
namespace Go.Proofs.Ythclffafbkeepaa
open Go.RowKit

/-- A node's bytes. -/
def defBy (d : Df) : List UInt8 := be d.2.1 1 ++ be d.2.2 8 ++ be d.1.length 1 ++ d.1.flatMap (fun n => be n 1)

/-- An event's bytes. -/
def layE (e : EvP) : List UInt8 := be e.id 2 ++ be e.ver 8 ++ be e.time 8 ++ be e.kind 1 ++ be e.node 1 ++ be e.n 8 ++ sh e.name.data.toList ++ sh e.data ++ be e.defs.length 1 ++ e.defs.flatMap defBy

/-- Numbers taken, each of one byte. -/
def toldN : Nat → St → List Int × St
  | 0, s => ([], s)
  | k + 1, s => (num (s.take 1).1 :: (toldN k (s.take 1).2).1, (toldN k (s.take 1).2).2)

/-- How many needs there are, and what is behind that number. -/
def headD (s : St) : (Int × Int × Int) × St :=
  ((num (s.take 1).1, num ((s.take 1).2.take 8).1, num (((s.take 1).2.take 8).2.take 1).1), (((s.take 1).2.take 8).2.take 1).2)

/-- A node taken. -/
def toldD (s : St) : Df × St :=
  (((toldN (headD s).1.2.2.toNat (headD s).2).1, (headD s).1.1, (headD s).1.2.1), (toldN (headD s).1.2.2.toNat (headD s).2).2)

/-- Nodes taken. -/
def toldL : Nat → St → List Df × St
  | 0, s => ([], s)
  | k + 1, s => ((toldD s).1 :: (toldL k (toldD s).2).1, (toldL k (toldD s).2).2)

/-- An event's head taken: its nodes are none, and told is how many there are. -/
def headE (s : St) : (EvP × Int) × St :=
  let a0 := s.take 2
  let a1 := a0.2.take 8
  let a2 := a1.2.take 8
  let a3 := a2.2.take 1
  let a4 := a3.2.take 1
  let a5 := a4.2.take 8
  let a6 := a5.2.short
  let a7 := a6.2.short
  let a8 := a7.2.take 1
  ((⟨num a0.1, num a1.1, num a2.1, num a3.1, num a4.1, num a5.1, ⟨a6.1.toArray⟩, a7.1, []⟩, num a8.1), a8.2)

/-- An event taken. -/
def toldE (s : St) : EvP × St :=
  ({ (headE s).1.1 with defs := (toldL (headE s).1.2.toNat (headE s).2).1 }, (toldL (headE s).1.2.toNat (headE s).2).2)

def defFits (d : Df) : Prop := (0 ≤ d.2.1 ∧ d.2.1 < 256) ∧ (0 ≤ d.2.2 ∧ d.2.2 < 9223372036854775808) ∧ d.1.length ≤ 255 ∧ ∀ n ∈ d.1, 0 ≤ n ∧ n < 256

/-- All of it has room in its form. -/
structure Fits (e : EvP) : Prop where
  id : 0 ≤ e.id ∧ e.id < 65536
  ver : 0 ≤ e.ver ∧ e.ver < 9223372036854775808
  time : 0 ≤ e.time ∧ e.time < 9223372036854775808
  kind : 0 ≤ e.kind ∧ e.kind < 256
  node : 0 ≤ e.node ∧ e.node < 256
  n : 0 ≤ e.n ∧ e.n < 9223372036854775808
  name : e.name.size ≤ 65535
  data : e.data.length ≤ 65535
  count : e.defs.length ≤ 255
  defs : ∀ d ∈ e.defs, defFits d

theorem num8 (n : Int) (h0 : 0 ≤ n) (h1 : n < 9223372036854775808) : num (be n 8) = n := by
  rw [num_be8]
  unfold wrap64
  omega

theorem toldN_lay (xs : List Int) (h : ∀ n ∈ xs, 0 ≤ n ∧ n < 256) (Y : List UInt8) (l : Bool) : toldN xs.length ⟨xs.flatMap (fun n => be n 1) ++ Y, l⟩ = (xs, ⟨Y, l⟩) := by
  induction xs with
  | nil => rfl
  | cons x r ih =>
    have hx := h x (List.mem_cons_self ..)
    rw [List.flatMap_cons, List.append_assoc, List.length_cons, toldN, St.take_all _ _ _ 1 (by simp [be_length])]
    simp only
    rw [ih (fun n hn => h n (List.mem_cons_of_mem _ hn)), num_be1]
    simp only [Prod.mk.injEq, List.cons.injEq, and_true]
    omega

theorem toldD_lay (d : Df) (h : defFits d) (Y : List UInt8) (l : Bool) : toldD ⟨defBy d ++ Y, l⟩ = (d, ⟨Y, l⟩) := by
  obtain ⟨xs, a, b⟩ := d
  obtain ⟨h1, h2, h3, h4⟩ := h
  simp only at h1 h2 h3 h4
  unfold defBy
  simp only [List.append_assoc]
  have hh : headD ⟨be a 1 ++ (be b 8 ++ (be (xs.length : Int) 1 ++ (xs.flatMap (fun n => be n 1) ++ Y))), l⟩ = ((a, b, (xs.length : Int)), ⟨xs.flatMap (fun n => be n 1) ++ Y, l⟩) := by
    unfold headD
    rw [St.take_all _ _ _ 1 (by simp [be_length])]
    simp only
    rw [St.take_all _ _ _ 8 (by simp [be_length])]
    simp only
    rw [St.take_all _ _ _ 1 (by simp [be_length])]
    simp only
    rw [num_be1, num_be1, num8 b h2.1 h2.2]
    have e1 : a % 256 = a := by omega
    have e2 : (xs.length : Int) % 256 = xs.length := by omega
    rw [e1, e2]
  unfold toldD
  rw [hh]
  simp only [Int.toNat_natCast]
  rw [toldN_lay xs h4]

theorem toldL_lay (ds : List Df) (h : ∀ d ∈ ds, defFits d) (Y : List UInt8) (l : Bool) : toldL ds.length ⟨ds.flatMap defBy ++ Y, l⟩ = (ds, ⟨Y, l⟩) := by
  induction ds with
  | nil => rfl
  | cons x r ih =>
    rw [List.flatMap_cons, List.append_assoc, List.length_cons, toldL, toldD_lay x (h x (List.mem_cons_self ..))]
    simp only
    rw [ih (fun n hn => h n (List.mem_cons_of_mem _ hn))]

theorem headE_lay (e : EvP) (h : Fits e) (Y : List UInt8) (l : Bool) : headE ⟨layE e ++ Y, l⟩ = (({ e with defs := [] }, (e.defs.length : Int)), ⟨e.defs.flatMap defBy ++ Y, l⟩) := by
  obtain ⟨xi, xv, xt, xk, xd, xn, xs, xb, xf⟩ := e
  obtain ⟨h1, h2, h3, h4, h5, h6, h7, h8, h9, h10⟩ := h
  simp only at *
  unfold layE headE
  simp only [List.append_assoc]
  rw [St.take_all _ _ _ 2 (by simp [be_length])]
  simp only
  rw [St.take_all _ _ _ 8 (by simp [be_length])]
  simp only
  rw [St.take_all _ _ _ 8 (by simp [be_length])]
  simp only
  rw [St.take_all _ _ _ 1 (by simp [be_length])]
  simp only
  rw [St.take_all _ _ _ 1 (by simp [be_length])]
  simp only
  rw [St.take_all _ _ _ 8 (by simp [be_length])]
  simp only
  rw [St.short_all _ _ _ (by rw [Array.length_toList]; exact h7)]
  simp only
  rw [St.short_all _ _ _ h8]
  simp only
  rw [St.take_all _ _ _ 1 (by simp [be_length])]
  simp only
  rw [num_be2, num8 _ h2.1 h2.2, num8 _ h3.1 h3.2, num_be1, num_be1, num8 _ h6.1 h6.2, num_be1]
  have e1 : xi % 65536 = xi := by omega
  have e2 : xk % 256 = xk := by omega
  have e3 : xd % 256 = xd := by omega
  have e4 : (xf.length : Int) % 256 = xf.length := by omega
  rw [e1, e2, e3, e4]

theorem toldE_lay (e : EvP) (h : Fits e) (Y : List UInt8) (l : Bool) : toldE ⟨layE e ++ Y, l⟩ = (e, ⟨Y, l⟩) := by
  unfold toldE
  rw [headE_lay e h]
  simp only [Int.toNat_natCast]
  rw [toldL_lay e.defs h.defs]

theorem needsR_length (m : Int) : ∀ (xs : List Int) (p : Int), needsR m p xs = true → p < m → (xs.length : Int) ≤ m - 1 - p
  | [], p, _, hp => by simp; omega
  | x :: r, p, h, hp => by
    unfold needsR at h
    simp only [Bool.and_eq_true, decide_eq_true_eq] at h
    have := needsR_length m r x h.2 h.1.1.2
    simp only [List.length_cons]
    omega

theorem needsR_mem (m : Int) : ∀ (xs : List Int) (p : Int), needsR m p xs = true → ∀ n ∈ xs, 0 ≤ n ∧ n < m
  | [], p, _, n, hn => by simp at hn
  | x :: r, p, h, n, hn => by
    unfold needsR at h
    simp only [Bool.and_eq_true, decide_eq_true_eq] at h
    rcases List.mem_cons.1 hn with rfl | hn
    · exact ⟨h.1.1.1, h.1.1.2⟩
    · exact needsR_mem m r x h.2 n hn

theorem defB_fits {m : Int} (hm : 1 ≤ m) (hm2 : m ≤ 8) {d : Df} (h : defB m d = true) : defFits d ∧ d.1.length ≤ 8 := by
  unfold defB at h
  simp only [Bool.and_eq_true, decide_eq_true_eq] at h
  obtain ⟨⟨⟨⟨h1, h2⟩, h3⟩, h4⟩, h5⟩ := h
  have hl := needsR_length m d.1 (-1) h5 (by omega)
  refine ⟨⟨by omega, by omega, by omega, fun n hn => ?_⟩, by omega⟩
  have := needsR_mem m d.1 (-1) h5 n hn
  omega

theorem defsB_fits {ds : List Df} (h : defsB ds = true) : ds.length ≤ 8 ∧ ∀ d ∈ ds, defFits d ∧ d.1.length ≤ 8 := by
  unfold defsB at h
  simp only [Bool.and_eq_true, decide_eq_true_eq, List.all_eq_true] at h
  exact ⟨by omega, fun d hd => defB_fits (by omega) (by omega) (h.1.1 d hd)⟩

/-- What a right event's lists come to. -/
theorem rightE_lens {e : EvP} (h : rightE e = true) : Fits e ∧ e.defs.length ≤ 8 ∧ e.name.size ≤ 16 ∧ e.data.length ≤ 40 ∧ ∀ d ∈ e.defs, d.1.length ≤ 8 := by
  unfold rightE at h
  simp only [Bool.and_eq_true] at h
  obtain ⟨⟨⟨⟨⟨hb, h1⟩, h2⟩, h3⟩, h4⟩, h5⟩ := h
  unfold baseB at hb
  simp only [Bool.and_eq_true, decide_eq_true_eq] at hb
  have hv : 0 ≤ e.ver ∧ e.ver ≤ 1099511627776 := right_bounds (.inr hb.1.1.1.1.2)
  have hd : e.defs.length ≤ 8 ∧ ∀ d ∈ e.defs, defFits d ∧ d.1.length ≤ 8 := by
    unfold defsP at h1
    split at h1
    · exact defsB_fits h1
    · simp only [decide_eq_true_eq] at h1
      have : e.defs = [] := List.eq_nil_of_length_eq_zero h1
      rw [this]
      simp
  have hn : (0 ≤ e.node ∧ e.node < 8) ∧ (nodeK e.kind = true → 1 ≤ e.n ∧ e.n ≤ 5) := by
    unfold nodeP at h2
    split at h2
    · simp only [Bool.and_eq_true, decide_eq_true_eq] at h2
      exact ⟨by omega, fun _ => by omega⟩
    · rename_i hk
      simp only [decide_eq_true_eq] at h2
      exact ⟨by omega, fun h => absurd h hk⟩
  have hq : 0 ≤ e.n ∧ e.n ≤ 1048576 := by
    unfold numP at h3
    split at h3
    · simp only [Bool.and_eq_true, decide_eq_true_eq] at h3
      omega
    · simp only [Bool.or_eq_true, decide_eq_true_eq] at h3
      rcases h3 with h3 | h3
      · have := hn.2 h3
        omega
      · omega
  have hs : e.name.size ≤ 16 := by
    unfold nameP at h4
    split at h4
    · unfold nameB at h4
      simp only [Bool.and_eq_true, decide_eq_true_eq] at h4
      omega
    · simp only [decide_eq_true_eq] at h4
      omega
  have hda : e.data.length ≤ 40 := by
    unfold dataP at h5
    split at h5
    · simpa using h5
    · simp only [decide_eq_true_eq] at h5
      omega
  exact ⟨⟨by omega, by omega, by omega, by omega, by omega, by omega, by omega, by omega, by omega, fun d h => (hd.2 d h).1⟩, hd.1, hs, hda, fun d h => (hd.2 d h).2⟩

theorem ones_length (xs : List Int) : (xs.flatMap (fun n => be n 1)).length = xs.length := by
  induction xs with
  | nil => rfl
  | cons x r ih => rw [List.flatMap_cons, List.length_append, ih, be_length, List.length_cons]; omega

theorem defBy_length (d : Df) : (defBy d).length = 10 + d.1.length := by
  unfold defBy
  simp only [List.length_append, be_length, ones_length]

theorem defsBy_length (ds : List Df) (h : ∀ d ∈ ds, d.1.length ≤ 8) : (ds.flatMap defBy).length ≤ 18 * ds.length := by
  induction ds with
  | nil => simp
  | cons x r ih =>
    rw [List.flatMap_cons, List.length_append, defBy_length, List.length_cons]
    have := ih (fun d hd => h d (List.mem_cons_of_mem _ hd))
    have := h x (List.mem_cons_self ..)
    omega

theorem layE_length {e : EvP} (h : rightE e = true) : (layE e).length ≤ 300 := by
  obtain ⟨_, h1, h2, h3, h4⟩ := rightE_lens h
  have := defsBy_length e.defs h4
  unfold layE
  simp only [List.length_append, be_length, sh_length, Array.length_toList]
  have : e.name.data.size = e.name.size := rfl
  omega

/-- The event of which these are the bytes. -/
def readE (bs : List UInt8) : Option EvP := if rightE (toldE ⟨bs, false⟩).1 = true ∧ layE (toldE ⟨bs, false⟩).1 = bs then some (toldE ⟨bs, false⟩).1 else none

theorem readE_lay {e : EvP} (h : rightE e = true) : readE (layE e) = some e := by
  have ht := toldE_lay e (rightE_lens h).1 [] false
  rw [List.append_nil] at ht
  unfold readE
  rw [ht]
  exact if_pos ⟨h, rfl⟩

theorem readE_some {bs : List UInt8} {e : EvP} (h : readE bs = some e) : rightE e = true ∧ layE e = bs := by
  unfold readE at h
  split at h
  · rename_i h1
    injection h with h
    subst h
    exact h1
  · cases h

end Go.Proofs.Ythclffafbkeepaa
