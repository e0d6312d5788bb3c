/- A Disk and the reference's, plainly: what each call makes of both is the same. -/
import Derived.Test.YtnojedjdnecagaaR5H
namespace Go.Proofs.Ytnojedjdnecagaa
open Go.RowKit

/-- Both say the same; N bounds all of it. -/
structure PSame (N : Nat) (s : DSt) (r : RSt) : Prop where
  pend : r.pend = s.ops
  kept : fil5 r.kept = s.base
  dead : r.dead = s.dead
  works : r.works = s.works
  fuse : (s.fused = true ∧ r.fuse = s.left ∧ 0 ≤ s.left ∧ s.left ≤ 100) ∨ (s.fused = false ∧ r.fuse = -1)
  keys : ∀ o ∈ s.ops, 0 ≤ o.key ∧ o.key < 5
  len : r.kept.length ≤ 5
  lays : ∀ k bs, DOp.lay k bs ∈ s.ops → bs ≠ [] ∧ bs.length ≤ 1048576
  size : ∀ i k, (acts s.base (s.ops.take i) k).length ≤ N * 1048576
  many : s.ops.length ≤ N
  wk : s.works ≤ N

section
variable {N : Nat} {s : DSt} {r : RSt}

theorem PSame.now (h : PSame N s r) : fil5 r.now = s.now := by
  unfold RSt.now DSt.now
  rw [fil5_now _ _ (fun o ho => (h.keys o (h.pend ▸ ho)).1), h.kept, h.pend]

theorem PSame.down (h : PSame N s r) : r.down = s.down := by
  unfold RSt.down DSt.down
  rw [h.dead]
  rcases h.fuse with ⟨h1, h2, _⟩ | ⟨h1, h2⟩
  · rw [h1, h2]; simp
  · rw [h1, h2]; simp

theorem PSame.read (h : PSame N s r) (k : Int) : r.read k = s.read k := by
  unfold RSt.read DSt.read
  rw [h.dead, h.now]

theorem PSame.zero : PSame 0 DSt.zero RSt.zero := ⟨rfl, by funext k; unfold fil5 RSt.zero DSt.zero; simp, rfl, rfl, .inr ⟨rfl, rfl⟩, by simp [DSt.zero], by simp [RSt.zero], by simp [DSt.zero], fun i k => by simp [DSt.zero, acts], by simp [DSt.zero], by simp [DSt.zero]⟩

theorem PSame.up (h : PSame N s r) : PSame (N + 1) s r :=
  ⟨h.pend, h.kept, h.dead, h.works, h.fuse, h.keys, h.len, h.lays, fun i k => by rw [Nat.succ_mul]; exact Nat.le_trans (h.size i k) (Nat.le_add_right _ _), Nat.le_succ_of_le h.many, Nat.le_succ_of_le h.wk⟩

theorem PSame.fall (h : PSame N s r) : PSame (N + 1) s.fall r.fall :=
  ⟨h.pend, h.kept, rfl, h.works, h.fuse, h.keys, h.len, h.lays, h.up.size, h.up.many, h.up.wk⟩

theorem PSame.worked (h : PSame N s r) (hd : s.down = false) : PSame (N + 1) s.worked r.worked := by
  refine ⟨h.pend, h.kept, h.dead, ?_, ?_, h.keys, h.len, h.lays, h.up.size, h.up.many, ?_⟩
  · show r.works + 1 = s.works + 1
    rw [h.works]
  · rcases h.fuse with ⟨h1, h2, h3, h4⟩ | ⟨h1, h2⟩
    · left
      have h0 : s.left ≠ 0 := by
        intro e
        unfold DSt.down at hd
        rw [h1, e] at hd
        simp at hd
      refine ⟨h1, ?_, ?_, ?_⟩
      · show (if 0 < r.fuse then r.fuse - 1 else r.fuse) = if s.fused = true then s.left - 1 else s.left
        rw [if_pos (by omega), if_pos h1, h2]
      · show 0 ≤ if s.fused = true then s.left - 1 else s.left
        rw [if_pos h1]; omega
      · show (if s.fused = true then s.left - 1 else s.left) ≤ 100
        rw [if_pos h1]; omega
    · right
      refine ⟨h1, ?_⟩
      show (if 0 < r.fuse then r.fuse - 1 else r.fuse) = -1
      rw [if_neg (by omega), h2]
  · show s.works + 1 ≤ N + 1
    have := h.wk
    omega

theorem PSame.push (h : PSame N s r) (hd : s.down = false) (o : DOp) (hk : 0 ≤ o.key ∧ o.key < 5) (hl : ∀ k bs, o = .lay k bs → bs ≠ [] ∧ bs.length ≤ 1048576) : PSame (N + 1) (s.worked.push o) (r.worked.push o) := by
  have hw := h.worked hd
  refine ⟨by show r.pend ++ [o] = s.ops ++ [o]; rw [h.pend], hw.kept, hw.dead, hw.works, hw.fuse, ?_, hw.len, ?_, ?_, ?_, hw.wk⟩
  · intro x hx
    have hx' : x ∈ s.ops ++ [o] := hx
    rcases List.mem_append.1 hx' with hx | hx
    · exact h.keys x hx
    · simp only [List.mem_singleton] at hx
      subst hx
      exact hk
  · intro k bs hx
    have hx' : DOp.lay k bs ∈ s.ops ++ [o] := hx
    rcases List.mem_append.1 hx' with hx | hx
    · exact h.lays k bs hx
    · simp only [List.mem_singleton] at hx
      exact hl k bs hx.symm
  · intro i k
    show (acts s.base ((s.ops ++ [o]).take i) k).length ≤ _
    by_cases hi : i ≤ s.ops.length
    · rw [List.take_append_of_le_length hi]
      exact h.up.size i k
    · rw [List.take_of_length_le (by simp; omega), acts_snoc]
      have hn := h.size s.ops.length
      rw [List.take_length] at hn
      rw [Nat.succ_mul]
      cases o with
      | lay f bs =>
        by_cases e : k = f
        · have e2 : act (acts s.base s.ops) (.lay f bs) k = acts s.base s.ops f ++ bs := if_pos e
          rw [e2, List.length_append]
          exact Nat.add_le_add (hn f) (hl f bs rfl).2
        · have e2 : act (acts s.base s.ops) (.lay f bs) k = acts s.base s.ops k := if_neg e
          rw [e2]
          exact Nat.le_trans (hn k) (Nat.le_add_right _ _)
      | rem f =>
        by_cases e : k = f
        · have e2 : act (acts s.base s.ops) (.rem f) k = [] := if_pos e
          rw [e2]
          exact Nat.zero_le _
        · have e2 : act (acts s.base s.ops) (.rem f) k = acts s.base s.ops k := if_neg e
          rw [e2]
          exact Nat.le_trans (hn k) (Nat.le_add_right _ _)
  · show (s.ops ++ [o]).length ≤ _
    have := h.many
    simp
    omega

theorem PSame.add (h : PSame N s r) (f : Int) (hf : f < 5) (bs : List UInt8) (hb : bs.length ≤ 1048576) : (r.add f bs).1 = (s.add f bs).1 ∧ PSame (N + 1) (s.add f bs).2 (r.add f bs).2 := by
  unfold RSt.add DSt.add
  rw [h.down]
  by_cases h0 : f < 0
  · rw [if_pos h0, if_pos h0]; exact ⟨rfl, h.up⟩
  · rw [if_neg h0, if_neg h0]
    by_cases hd : s.down = true
    · rw [if_pos hd, if_pos hd]; exact ⟨rfl, h.fall⟩
    · rw [if_neg hd, if_neg hd]
      refine ⟨rfl, ?_⟩
      unfold DSt.lays
      by_cases hb0 : bs = []
      · rw [if_pos hb0, if_pos hb0]; exact h.worked (by simpa using hd)
      · rw [if_neg hb0, if_neg hb0]
        exact h.push (by simpa using hd) _ ⟨by show 0 ≤ f; omega, hf⟩ (fun k bs' e => by injection e with e1 e2; subst e2; exact ⟨hb0, hb⟩)

theorem PSame.rem (h : PSame N s r) (f : Int) (hf : f < 5) : (r.rem f).1 = (s.rem f).1 ∧ PSame (N + 1) (s.rem f).2 (r.rem f).2 := by
  unfold RSt.rem DSt.rem
  rw [h.down, h.now]
  by_cases h0 : f < 0
  · rw [if_pos h0, if_pos h0]; exact ⟨rfl, h.up⟩
  · rw [if_neg h0, if_neg h0]
    by_cases hd : s.down = true
    · rw [if_pos hd, if_pos hd]; exact ⟨rfl, h.fall⟩
    · rw [if_neg hd, if_neg hd]
      refine ⟨rfl, ?_⟩
      unfold DSt.rems
      by_cases hb0 : s.now f = []
      · rw [if_pos hb0, if_pos hb0]; exact h.worked (by simpa using hd)
      · rw [if_neg hb0, if_neg hb0]
        exact h.push (by simpa using hd) _ ⟨by show 0 ≤ f; omega, hf⟩ (fun k bs' e => by cases e)

theorem PSame.nlen (h : PSame N s r) (i : Nat) : (nowL r.kept (r.pend.take i)).length ≤ 5 :=
  nowL_length _ _ 5 h.len (fun o ho => by have := h.keys o (h.pend ▸ List.mem_of_mem_take ho); exact ⟨this.1, by omega⟩)

theorem PSame.sync (h : PSame N s r) : r.sync.1 = s.sync.1 ∧ PSame (N + 1) s.sync.2 r.sync.2 := by
  unfold RSt.sync DSt.sync
  rw [h.down]
  by_cases hd : s.down = true
  · rw [if_pos hd, if_pos hd]; exact ⟨rfl, h.fall⟩
  · rw [if_neg hd, if_neg hd]
    have hw := h.worked (by simpa using hd)
    have hn := h.nlen r.pend.length
    rw [List.take_length] at hn
    refine ⟨rfl, rfl, h.now, hw.dead, hw.works, hw.fuse, by simp [DSt.safe], hn, by simp [DSt.safe], fun i k => ?_, by simp [DSt.safe], hw.wk⟩
    show (acts s.now (([] : List DOp).take i) k).length ≤ _
    have hs := h.up.size s.ops.length k
    rw [List.take_length] at hs
    simpa [acts, DSt.now] using hs

theorem PSame.setFuse (h : PSame N s r) (n : Int) (hn : n ≤ 100) : PSame N (s.fuse n) (r.setFuse n) := by
  refine ⟨h.pend, h.kept, h.dead, h.works, ?_, h.keys, h.len, h.lays, h.size, h.many, h.wk⟩
  by_cases h0 : 0 ≤ n
  · exact .inl ⟨by show decide (0 ≤ n) = true; simpa using h0, by show (if -1 < n then n else -1) = n; rw [if_pos (by omega)], h0, hn⟩
  · exact .inr ⟨by show decide (0 ≤ n) = false; simpa using h0, by show (if -1 < n then n else -1) = -1; rw [if_neg (by omega)]⟩

theorem PSame.crash (h : PSame N s r) (done cut : Int) : PSame N (s.crash done cut) (r.crash done cut) := by
  unfold DSt.crash RSt.crash
  rw [h.pend]
  generalize (done % ((s.ops.length : Int) + 1)).toNat = n
  have hk : ∀ i, fil5 (nowL r.kept (s.ops.take i)) = acts s.base (s.ops.take i) := fun i => by
    rw [fil5_now _ _ (fun o ho => (h.keys o (List.mem_of_mem_take ho)).1), h.kept]
  have hl : ∀ i, (nowL r.kept (s.ops.take i)).length ≤ 5 := fun i => by have := h.nlen i; rwa [h.pend] at this
  have key : fil5 (leftL r.kept s.ops n cut) = crashed s.base s.ops n cut ∧ (leftL r.kept s.ops n cut).length ≤ 5 ∧ ∀ k, (crashed s.base s.ops n cut k).length ≤ N * 1048576 := by
    rcases e : s.ops[n]? with _ | o
    · unfold leftL crashed
      rw [e]
      exact ⟨hk n, hl n, h.size n⟩
    · cases o with
      | rem f =>
        unfold leftL crashed
        rw [e]
        exact ⟨hk n, hl n, h.size n⟩
      | lay f bs =>
        have hmem := List.mem_of_getElem? e
        have hkf := h.keys _ hmem
        have hkf' : 0 ≤ f ∧ f < 5 := hkf
        unfold leftL crashed
        rw [e]
        refine ⟨?_, ?_, fun k => ?_⟩
        · show fil5 (tl _ _) = partOf _ _ _
          rw [fil5_tl _ (.lay f (bs.take (cut % ((bs.length : Int) + 1)).toNat)) hkf'.1, hk n]
          rfl
        · show (tl _ _).length ≤ 5
          rw [tl_length]
          have := hl n
          show max _ (f.toNat + 1) ≤ 5
          omega
        · have hs := h.size (n + 1) k
          rw [acts_take_succ _ _ _ _ e] at hs
          refine Nat.le_trans ?_ hs
          show (fput _ f _ k).length ≤ (fput _ f _ k).length
          by_cases ek : k = f
          · have e1 : ∀ (z : Fs) (x : List UInt8), fput z f x k = x := fun z x => if_pos ek
            rw [e1, e1, List.length_append, List.length_append, List.length_take]
            omega
          · have e1 : ∀ (z : Fs) (x : List UInt8), fput z f x k = z k := fun z x => if_neg ek
            rw [e1, e1]
            exact Nat.le_refl _
  refine ⟨rfl, key.1, rfl, h.works, .inr ⟨rfl, rfl⟩, by simp, key.2.1, by simp, fun i k => ?_, by simp, h.wk⟩
  simpa [acts] using key.2.2 k

theorem PSame.fit (h : PSame N s r) (hN : N ≤ 200) : RFit 5 (N * 1048576) r := by
  have hs : ∀ i k, ((nowL r.kept (r.pend.take i)).getD k []).length ≤ N * 1048576 := fun i k => by
    have h1 := h.size i (k : Int)
    rw [← h.kept, ← h.pend, ← fil5_now _ _ (fun o ho => (h.keys o (h.pend ▸ List.mem_of_mem_take ho)).1)] at h1
    unfold fil5 at h1
    rw [if_pos (by omega), Int.toNat_natCast] at h1
    exact h1
  have hm := h.many
  have hw := h.wk
  have hk : ∀ o ∈ r.pend, 0 ≤ o.key ∧ o.key < 5 := fun o ho => h.keys o (h.pend ▸ ho)
  refine ⟨by rw [h.pend]; omega, by rw [h.works]; omega, h.len, by omega, fun o ho => (hk o ho).1, fun o ho => by have := (hk o ho).2; omega, ?_, fun k i => hs i k, fun i hi => ?_, ?_, ?_⟩
  · exact Nat.le_trans (Nat.mul_le_mul_right 1048576 hN) (by decide)
  · have h1 := hs (i + 1) r.pend[i].key.toNat
    rw [nowL_take _ _ _ hi] at h1
    have h4 := fun k => hs i k
    generalize nowL r.kept (r.pend.take i) = L at *
    have hki := hk r.pend[i] (List.getElem_mem hi)
    generalize r.pend[i] = o at *
    cases o with
    | lay f bs =>
      have hf : 0 ≤ f := hki.1
      have e1 : (tl L (.lay f bs)).getD f.toNat [] = L.getD f.toNat [] ++ bs := by
        have h2 := congrFun (fil5_tl L (.lay f bs) hki.1) f
        unfold fil5 at h2
        rw [if_pos hf] at h2
        rw [h2]
        simp [act, fput, hf]
      have h3 : ((tl L (.lay f bs)).getD f.toNat []).length ≤ N * 1048576 := h1
      rw [e1, List.length_append] at h3
      exact h3
    | rem f =>
      exact h4 f.toNat
  · rcases h.fuse with ⟨_, h2, h3, _⟩ | ⟨_, h2⟩ <;> omega
  · rcases h.fuse with ⟨_, h2, _, h4⟩ | ⟨_, h2⟩ <;> omega

end

end Go.Proofs.Ytnojedjdnecagaa
