/- Items read: told, Read. -/
import Derived.Test.YtehbefhpijifjaaItB
import Derived.Deep.RegionHeldLaw
namespace Go.Proofs.Ytehbefhpijifjaa
open Go.RowKit

/-- The item that stands at place j. -/
def toldAt (bs : List UInt8) (j : Nat) : It := (num ((bs.drop (2 + 10 * j)).take 2), num ((bs.drop (4 + 10 * j)).take 8))

/-- The first n items that bytes tell. -/
def toldI (bs : List UInt8) (n : Nat) : List It := (List.range n).map (toldAt bs)

theorem toldI_length (bs : List UInt8) (n : Nat) : (toldI bs n).length = n := by simp [toldI]
theorem toldI_succ (bs : List UInt8) (n : Nat) : toldI bs (n + 1) = toldI bs n ++ [toldAt bs n] := by simp [toldI, List.range_succ]

section
variable {w : World} {v : Value}

theorem bytes_at {g n cap : Nat} {bs : List UInt8} (h : Sees w (.slice (some ⟨g, 0, none⟩) n cap) bs) (k : Nat) (hk : k < bs.length) : w.cell? ⟨g, k, none⟩ = some (.int .u8 ((bs[k]).toNat : Int)) := by
  rcases h with ⟨h, _⟩ | ⟨a, cap', e, _, _, hc⟩
  · cases h
  · injection e with e _ _
    injection e with e
    subst e
    have := hc k _ (show (u8s bs)[k]? = some (.int .u8 ((bs[k]).toNat : Int)) by simp [u8s, hk])
    rwa [Addr.add_lit, Nat.zero_add] at this

theorem inum_part {g n cap cap2 : Nat} {bs : List UInt8} (h : Sees w (.slice (some ⟨g, 0, none⟩) n cap) bs) (lo m : Nat) (hm : m ≤ 8) (hlo : lo + m ≤ bs.length) :
    Calls Try.prog 43 #[.slice (some ⟨g, lo, none⟩) m cap2] w fun e w' => e = .returned (.int .i64 (num ((bs.drop lo).take m))) ∧ w = w' := by
  have hl : ((bs.drop lo).take m).length = m := by simp; omega
  have := inum_any (w := w) g lo cap2 ((bs.drop lo).take m) (by omega) (fun k hk => by
    have hk2 : lo + k < bs.length := by rw [hl] at hk; omega
    rw [bytes_at h (lo + k) hk2]
    simp)
  rw [hl] at this
  exact this

set_option maxHeartbeats 4000000 in
set_option maxRecDepth 100000 in
theorem told_any {g n cap : Nat} {bs : List UInt8} (hv : v = .slice (some ⟨g, 0, none⟩) n cap) (hn : n = bs.length) (h : Sees w v bs) (hb : n ≤ 1000) (hcap : n ≤ cap) (hcm : cap ≤ maxLen) : Calls Try.prog 31 #[v] w fun e w' => ∃ v', e = .returned v' ∧ IMade w v' (toldI bs ((n - 2) / 10)) w' := by
  subst hv
  unfold maxLen at hcm
  have H := hide h
  have HN := hide hn
  clear h hn
  go_enter Try.func31, Try.ntmps31
  go_wp2_with fail
  go_loopw [3, 4] (fun out k wr => ∃ j : Nat, k = .int .i64 (2 + 10 * (j : Int)) ∧ (j = 0 ∨ 2 + 10 * j ≤ n) ∧ IMade w out (toldI bs j) wr) (fun _ k _ => n + 10 - (intOf k).toNat)
  case atStart => exact ⟨0, rfl, .inl rfl, IMade.nil _⟩
  case round =>
    obtain ⟨j, rfl, hj, hm⟩ := hrel
    obtain ⟨oo, oc, ho⟩ := hm.shape
    rw [toldI_length] at ho
    have M := hide hm
    by_cases hlt : 2 + 10 * j + 10 ≤ n
    · have q1 : 2 + 10 * (j : Int) + 10 ≤ n := by omega
      have hs := (unhide H).kept hm.2.1 (fun _ _ e => e)
      have K1 := hide (show ∀ w' X, X = #[.slice (some ⟨g, 2 + 10 * j, none⟩) 2 (cap - (2 + 10 * j))] → Turn (fun _ => False) wr w' → Calls Try.prog 43 X w' fun e w2 => e = .returned (.int .i64 (toldAt bs j).1) ∧ w' = w2 from fun w' X hX t => hX ▸ inum_part (hs.kept t (fun _ _ e => e)) (2 + 10 * j) 2 (by omega) (by have := unhide HN; omega))
      have K2 := hide (show ∀ w' X, X = #[.slice (some ⟨g, 4 + 10 * j, none⟩) 8 (cap - (4 + 10 * j))] → Turn (fun _ => False) wr w' → Calls Try.prog 43 X w' fun e w2 => e = .returned (.int .i64 (toldAt bs j).2) ∧ w' = w2 from fun w' X hX t => hX ▸ inum_part (hs.kept t (fun _ _ e => e)) (4 + 10 * j) 8 (by omega) (by have := unhide HN; omega))
      have e1 : IntKind.i64.wrap (2 + 10 * (j : Int) + 2) = 4 + 10 * (j : Int) := by rw [IntKind.wrap_i64]; omega
      have e2 : IntKind.i64.wrap (2 + 10 * (j : Int) + 10) = 12 + 10 * (j : Int) := by rw [IntKind.wrap_i64]; omega
      have e3 : (2 + 10 * (j : Int)).toNat = 2 + 10 * j := by omega
      have e4 : (4 + 10 * (j : Int)).toNat = 4 + 10 * j := by omega
      have e5 : (12 + 10 * (j : Int)).toNat = 12 + 10 * j := by omega
      have e6 : ¬ cap = 2 + 10 * j := by omega
      have e7 : ¬ cap = 4 + 10 * j := by omega
      clear hs hm
      subst ho
      obtain ⟨v8, w8, r8, m8, -⟩ := ((unhide M).goes (Turn.refl (fun _ => False) wr).drew).cat (toldAt bs j) (by rw [toldI_length]; omega)
      obtain ⟨o8, c8, e8⟩ := m8.shape
      rw [List.length_append, toldI_length, List.length_singleton] at e8
      rw [← toldI_succ] at m8
      have M8 := hide m8
      have R8 := hide r8
      clear m8 r8
      subst e8
      generalize toldAt bs j = e at *
      obtain ⟨e1v, e2v⟩ := e
      simp only at K1 K2 R8
      go_wp2_with fail
      go_region_held_law (fun _ => True) (exact True.intro) (first
        | (go_at_call 43; go_must (first | (refine (unhide K1 _ _ (by rw [show 4 + 10 * j - (2 + 10 * j) = 2 by omega]) (by first | exact Turn.refl _ wr | exact (Turn.refl _ wr).drew)).mono ?_; rintro e w9 ⟨rfl, rfl⟩) | (refine (unhide K2 _ _ (by rw [show 12 + 10 * j - (4 + 10 * j) = 8 by omega]) (by first | exact Turn.refl _ wr | exact (Turn.refl _ wr).drew)).mono ?_; rintro e w9 ⟨rfl, rfl⟩)))
        | (refine step_append_run (by rfl) (.tmp 12) (.tmp 27) 24 (by rfl) _ _ _ w8 (by rfl) (by rfl) (unhide R8) ?_)
        | fail)
      all_goals (
        go_wp2
        go_roundw
        case rel => exact ⟨j + 1, by go_num, .inr (by omega), unhide M8⟩
        case measure => simp [intOf]; omega)
    · have q1 : ¬ 2 + 10 * (j : Int) + 10 ≤ n := by omega
      have hjn : j = (n - 2) / 10 := by omega
      subst hjn
      have M2 := hide (unhide M)
      clear hm M
      subst ho
      go_wp2_with fail
      go_ret
      exact ⟨_, rfl, unhide M2⟩

end

end Go.Proofs.Ytehbefhpijifjaa
