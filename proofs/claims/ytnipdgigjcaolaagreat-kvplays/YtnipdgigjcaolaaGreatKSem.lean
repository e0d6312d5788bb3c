/- Both stores side by side, plainly: what each call makes of both is the same. -/
import Derived.Test.YtnipdgigjcaolaaGreatKWhA
import Derived.Test.YtnipdgigjcaolaaGreatPkV
import Derived.Test.YtnipdgigjcaolaaGreatRStK
namespace Go.Proofs.YtnipdgigjcaolaaGreat
open Go.RowKit

section
variable {M N : Nat} {s : DSt} {r : RSt}

theorem PSg.le {N' : Nat} (h : PSg M N s r) (hN : N ≤ N') : PSg M N' s r := by
  obtain ⟨d, rfl⟩ : ∃ d, N' = N + d := ⟨N' - N, by omega⟩
  clear hN
  induction d with
  | zero => exact h
  | succ d ih => exact ih.up

theorem PSg.reads (h : PSg M N s r) : r.read = s.read := funext h.read

theorem PSg.few (h : PSg M N s r) (k : Int) (hk : s.read k ≠ []) : 0 ≤ k ∧ k < M := by
  rw [← h.read k] at hk
  unfold RSt.read at hk
  split at hk
  · simp at hk
  · unfold fil5 at hk
    split at hk
    · rename_i h0
      refine ⟨h0, ?_⟩
      have hl := h.nlen r.pend.length
      rw [List.take_length] at hl
      by_cases hlt : k.toNat < (nowL r.kept r.pend).length
      · omega
      · have hle : (RSt.now r).length ≤ k.toNat := by unfold RSt.now; omega
        exact absurd (by simp [List.getD, List.getElem?_eq_none hle]) hk
    · simp at hk

theorem PSg.nums (h : PSg M N s r) {ns : List Int} (hn : s.Nums ns) : ns.length ≤ M := by
  have := rise_le ((List.range M).map (fun i : Nat => (i : Int))) ns hn.1 (fun k hk => by
    have h1 := h.few k ((hn.2 k).1 hk)
    exact List.mem_map.2 ⟨k.toNat, by rw [List.mem_range]; omega, by omega⟩)
  simpa using this

theorem PSg.gone (h : PSg M N s r) (l : List Int) (hl : ∀ k ∈ l, k < M) : PSg M (N + l.length) (s.gone l) (r.goneR l) := by
  induction l generalizing N s r with
  | nil => exact h
  | cons k q ih =>
    have h1 := (h.rem k (hl k (by simp))).2
    have h2 := ih h1 (fun j hj => hl j (by simp [hj]))
    rw [List.length_cons, show N + (q.length + 1) = N + 1 + q.length by omega]
    exact h2

theorem PSg.lens (h : PSg M N s r) (k : Int) : (s.read k).length ≤ N * 2097152 := by
  unfold DSt.read
  split
  · simp
  · have := h.size s.ops.length k
    rw [List.take_length] at this
    exact this

theorem PSg.same (h : PSg M N s r) {ns ns' : List Int} (h1 : s.Nums ns) (h2 : r.Nums ns') : ns = ns' := h1.eq h2.1 (fun k => by rw [h2.2 k, h.reads])

/-- Both open the same. -/
theorem PSg.opens (h : PSg M N s r) (ns : List Int) : (openN s.read ns (HSt.zero, 0) = none ∧ openR r.read ns ⟨[], -1, 0⟩ = none) ∨ ∃ y q, openN s.read ns (HSt.zero, 0) = some y ∧ openR r.read ns ⟨[], -1, 0⟩ = some q ∧ y.1.recs = q.out ∧ y.2 = q.next ∧ ((∀ k ∈ ns, 0 ≤ k) → ns.filter (· < y.1.since) = ns.filter (· < q.since)) := by
  rw [h.reads]
  rcases openR_same s.read ns (x := (HSt.zero, 0)) (o := ⟨[], -1, 0⟩) ⟨rfl, .inl ⟨rfl, rfl⟩, rfl⟩ with h1 | ⟨y, q, h1, h2, h3⟩
  · exact .inl h1
  · refine .inr ⟨y, q, h1, h2, h3.recs, h3.next, fun h0 => ?_⟩
    rcases h3.since with ⟨e1, e2⟩ | e1
    · rw [e1, e2]
      refine List.filter_congr (fun k hk => ?_)
      have := h0 k hk
      simp
      omega
    · rw [e1]

/-- What keep makes of both. -/
theorem PSg.keep {s : WSt} (h : PSg M N s.d r) (hd : s.down = false) (f : Int) (hf : f < (M : Int)) (z : Int) (bs : List UInt8) (hb : bs.length ≤ 2097152) : (s.keep f z bs).1 = (r.keepR f bs).1 ∧ PSg M (N + 2) (s.keep f z bs).2.d (r.keepR f bs).2 ∧ ((s.keep f z bs).1 = 0 → (s.keep f z bs).2.down = false ∧ (s.keep f z bs).2.at' = f ∧ (s.keep f z bs).2.limit = s.limit) := by
  obtain ⟨a1, a2⟩ := h.add f hf bs hb
  obtain ⟨b1, b2⟩ := a2.sync
  unfold WSt.keep RSt.keepR
  rw [if_neg (by simp [hd]), a1, b1]
  by_cases hz : (s.d.add f bs).1 ≠ 0
  · rw [if_pos hz, if_pos hz]
    exact ⟨rfl, a2.up, fun e => by cases e⟩
  · rw [if_neg hz, if_neg hz]
    by_cases hy : (s.d.add f bs).2.sync.1 ≠ 0
    · rw [if_pos hy, if_pos hy]
      exact ⟨rfl, b2, fun e => by cases e⟩
    · rw [if_neg hy, if_neg hy]
      exact ⟨rfl, b2, fun _ => ⟨hd, rfl, rfl⟩⟩

theorem PSg.rms : ∀ (l : List Int) {N : Nat} {x : WSt} {y : Bool × RSt}, PSg M N x.d y.2 → x.down = y.1 → (∀ k ∈ l, k < (M : Int)) → PSg M (N + l.length) (x.rms l).d (l.foldl RSt.rm1R y).2 ∧ (x.rms l).down = (l.foldl RSt.rm1R y).1
  | [], N, x, y, h, hd, _ => ⟨h, hd⟩
  | k :: q, N, x, y, h, hd, hl => by
    have hs : PSg M (N + 1) (x.rm1 k).d (RSt.rm1R y k).2 ∧ (x.rm1 k).down = (RSt.rm1R y k).1 := by
      unfold WSt.rm1 RSt.rm1R
      rw [hd]
      by_cases hy : y.1 = true
      · rw [if_pos hy, if_pos hy]
        exact ⟨h.up, hd⟩
      · rw [if_neg hy, if_neg hy]
        obtain ⟨e1, e2⟩ := h.rem k (hl k (by simp))
        refine ⟨e2, ?_⟩
        show ((x.d.rem k).1 != 0) = decide ((y.2.rem k).1 ≠ 0)
        rw [e1]
        by_cases hz : (x.d.rem k).1 = 0
        · simp [hz]
        · simp [hz]
    have := PSg.rms q hs.1 hs.2 (fun j hj => hl j (by simp [hj]))
    rw [List.length_cons, show N + (q.length + 1) = N + 1 + q.length by omega]
    exact this

theorem PSg.clears {x : WSt} (h : PSg M N x.d r) (hd : x.down = false) (ns : List Int) (hl : ∀ k ∈ ns, k < (M : Int)) (hn : ns.length ≤ M) : (x.clears ns).1 = (r.clearsR x.at' ns).1 ∧ PSg M (N + M + 1) (x.clears ns).2.d (r.clearsR x.at' ns).2 := by
  obtain ⟨h1, h2⟩ := PSg.rms (ns.filter (· < x.at')) (y := (false, r)) h hd (fun k hk => hl k (List.mem_filter.1 hk).1)
  have hlen : (ns.filter (· < x.at')).length ≤ M := Nat.le_trans (List.length_filter_le _ _) hn
  have h3 := h1.le (show N + (ns.filter (· < x.at')).length ≤ N + M by omega)
  obtain ⟨b1, b2⟩ := h3.sync
  unfold WSt.clears WSt.done RSt.clearsR
  show _ = (if (RSt.rmsR r (ns.filter (· < x.at'))).1 = true then _ else _ : Int × RSt).1 ∧ _
  have e : RSt.rmsR r (ns.filter (· < x.at')) = (ns.filter (· < x.at')).foldl RSt.rm1R (false, r) := rfl
  rw [e, ← h2, b1]
  by_cases hz : (x.rms (ns.filter (· < x.at'))).down = true
  · rw [if_pos hz, if_pos hz]
    exact ⟨rfl, h3.up⟩
  · rw [if_neg hz, if_neg hz]
    by_cases hy : (x.rms (ns.filter (· < x.at'))).d.sync.1 ≠ 0
    · rw [if_pos hy, if_pos hy]
      exact ⟨rfl, b2⟩
    · rw [if_neg hy, if_neg hy]
      exact ⟨rfl, b2⟩

end

/-- The segments are the same. -/
theorem LOk.tos {M N : Nat} {s : WSt} {r : RSt} {F : Int → List Chunk} {a : Nat} (h : LOk s F a) (hp : PSg M N s.d r) : s.to.1 = r.rto a s.limit ∧ s.place = r.rplace a := by
  obtain ⟨G, g1, g2, g3⟩ := h.dok.now
  have hr : ((r.read a).length : Int) = s.size := by
    rw [hp.reads]
    unfold DSt.read
    rw [h.dead, if_neg (by simp), (g3 a (since_le F a)).2, h.size]
  constructor
  · unfold WSt.to RSt.rto
    rw [hr]
    split
    · rw [h.at']
    · rw [h.at']
  · unfold WSt.place RSt.rplace
    by_cases hz : 0 < s.size
    · rw [if_pos hz, if_pos (by omega), h.at']
    · rw [if_neg hz, if_neg (by omega), h.at']

/-- Open, whatever fuse burns. -/
theorem open_any_out {d : DSt} {F : Int → List Chunk} {n : Nat} (h : DOk d F n) (hd : d.dead = false) (seg : Int) {ns : List Int} (hn : d.Nums ns) :
    ∃ (y : HSt) (a : Nat), openN d.read ns (HSt.zero, 0) = some (y, (a : Int)) ∧ y.recs = (frun F n).1 ∧ a ≤ n ∧ frun F (a + 1) = frun F n ∧ DOk (d.gone (ns.filter (· < y.since))) F (a + 1) ∧ ((d.gone (ns.filter (· < y.since))).dead = false → LOk ⟨d.gone (ns.filter (· < y.since)), seg, a, 0, false⟩ F a) := by
  have hread : d.read = d.now := by funext k; unfold DSt.read; rw [hd, if_neg (by simp)]
  obtain ⟨G, g1, g2, g3⟩ := h.now
  have hR : RNums d.now ns := ⟨hn.1, fun k => by rw [hn.2 k, hread]⟩
  obtain ⟨y, a, o1, o2, o3, o4⟩ := g1.opens hR
  have hy1 : y.recs = (frun F n).1 := by rw [← g2, ← o2]
  have hy2 : y.since = (frun F n).2 := by rw [← g2, ← o2]
  have hca : (frun F n).2 ≤ a := by
    have h1 : frun G a = frun F n := by rw [← g2]; exact o4.runs g1
    have h2 := frun_lt G a
    rw [h1] at h2
    omega
  have hhold : Holds d.base F (a + 1) := h.holds.wide (fun k hk => by rw [← (g3 k (by omega)).2]; exact o4.no k (.inr (by omega)))
  have hfr : frun F (a + 1) = frun F n := hhold.runs h.holds
  have hba : d.base a = [] := by rw [← (g3 a hca).2]; exact o4.no a (.inr (by omega))
  have hks : ∀ k ∈ ns.filter (· < y.since), 0 ≤ k ∧ k < (frun F n).2 := fun k hk => by
    rw [List.mem_filter] at hk
    have h0 := (hR.2 k).1 hk.1
    have h1 : ¬ k < 0 := fun e => h0 (g1.no k (.inl e))
    have h2 := hk.2
    simp [hy2] at h2
    omega
  have hgone : ∀ l : List Int, (∀ k ∈ l, 0 ≤ k ∧ k < (frun F n).2) → ∀ d1 : DSt, d1.base = d.base → Rems (frun F n).2 d1.ops → (d1.gone l).base = d.base ∧ Rems (frun F n).2 (d1.gone l).ops := by
    intro l
    induction l with
    | nil => exact fun _ d1 h3 h4 => ⟨h3, h4⟩
    | cons k r ih =>
      intro hl d1 h3 h4
      have hk := hl k (by simp)
      have e : d1.gone (k :: r) = ((d1.rem k).2).gone r := rfl
      rw [e]
      have hrem : ((d1.rem k).2).base = d.base ∧ Rems (frun F n).2 ((d1.rem k).2).ops := by
        unfold DSt.rem
        rw [if_neg (by omega)]
        split
        · exact ⟨h3, h4⟩
        · obtain ⟨f1, f2, f3, f4⟩ := rems_fields d1 k
          refine ⟨f1.trans h3, ?_⟩
          show Rems _ (d1.rems k).ops
          rcases f2 with f2 | f2
          · rw [f2]
            exact h4
          · rw [f2]
            intro o ho
            rcases List.mem_append.1 ho with ho | ho
            · exact h4 o ho
            · simp only [List.mem_singleton] at ho
              exact ⟨k, ho, hk.2⟩
      exact ih (fun x hx => hl x (by simp [hx])) _ hrem.1 hrem.2
  obtain ⟨e3, e4⟩ := hgone _ hks d rfl h.rems
  have hdok : DOk (d.gone (ns.filter (· < y.since))) F (a + 1) := ⟨by rw [e3]; exact hhold, by rw [hfr]; exact e4⟩
  refine ⟨y, a, by rw [hread]; exact o1, hy1, o3, hfr, hdok, fun e1 => ⟨rfl, e1, hdok, rfl, ?_, ?_⟩⟩
  · show (d.gone _).base a = _
    rw [e3, hba, h.holds.none hba]
    rfl
  · show (0 : Int) = (((d.gone (ns.filter (· < y.since))).base a).length : Int)
    rw [e3, hba]
    rfl

end Go.Proofs.YtnipdgigjcaolaaGreat
