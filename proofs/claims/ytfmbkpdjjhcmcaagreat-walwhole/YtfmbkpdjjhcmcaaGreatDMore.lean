/- What the plain calls make of a state that is not down. -/
import Derived.Test.YtfmbkpdjjhcmcaaGreatDKnown
namespace Go.Proofs.YtfmbkpdjjhcmcaaGreat

theorem add_down {s : DSt} (h : s.down = false) (f : Int) (hf : 0 ≤ f) (bs : List UInt8) : s.add f bs = (0, s.lays f bs) := by
  unfold DSt.add
  rw [if_neg (by omega), h, if_neg (by simp)]

theorem rem_down {s : DSt} (h : s.down = false) (f : Int) (hf : 0 ≤ f) : s.rem f = (0, s.rems f) := by
  unfold DSt.rem
  rw [if_neg (by omega), h, if_neg (by simp)]

theorem sync_down {s : DSt} (h : s.down = false) : s.sync = (0, s.safe) := by
  unfold DSt.sync
  rw [h, if_neg (by simp)]

theorem lays_now (s : DSt) (f : Int) (bs : List UInt8) : (s.lays f bs).now = fput s.now f (s.now f ++ bs) := by
  unfold DSt.lays
  split
  · subst_vars
    show s.now = _
    rw [List.append_nil, fput_same]
  · rw [acts_push]
    rfl

theorem rems_now (s : DSt) (f : Int) : (s.rems f).now = fput s.now f [] := by
  unfold DSt.rems
  split
  · rename_i h
    show s.now = _
    rw [← h, fput_same]
  · rw [acts_push]
    rfl

theorem lays_dead (s : DSt) (f : Int) (bs : List UInt8) : (s.lays f bs).dead = s.dead ∧ (s.lays f bs).fused = s.fused := by
  unfold DSt.lays
  split <;> exact ⟨rfl, rfl⟩

theorem rems_dead (s : DSt) (f : Int) : (s.rems f).dead = s.dead ∧ (s.rems f).fused = s.fused := by
  unfold DSt.rems
  split <;> exact ⟨rfl, rfl⟩

theorem lays_down {s : DSt} (hd : s.dead = false) (hf : s.fused = false) (f : Int) (bs : List UInt8) : (s.lays f bs).down = false := by
  unfold DSt.down
  rw [(lays_dead s f bs).1, (lays_dead s f bs).2, hd, hf]
  rfl

/-- A Crash that leaves nothing of what pends. -/
theorem crash_none (s : DSt) (o : DOp) (h : s.ops = [o]) : (s.crash 0 0).base = s.base := by
  unfold DSt.crash
  show crashed s.base s.ops _ 0 = _
  rw [h, Int.zero_emod]
  cases o with
  | lay k bs =>
    unfold crashed
    simp [acts, partOf, fput_same]
  | rem k => rfl

theorem crash_nil (s : DSt) (h : s.ops = []) : (s.crash 0 0).base = s.base := by
  unfold DSt.crash
  show crashed s.base s.ops _ 0 = _
  rw [h]
  rfl

end Go.Proofs.YtfmbkpdjjhcmcaaGreat
