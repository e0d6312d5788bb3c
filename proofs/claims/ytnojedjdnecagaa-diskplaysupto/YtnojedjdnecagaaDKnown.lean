/- Chapter 5's example, and the law DiskKnown. -/
import Derived.Test.YtnojedjdnecagaaDLaw
namespace Go.Proofs.Ytnojedjdnecagaa
open Go.RowKit

set_option maxHeartbeats 2000000 in
set_option maxRecDepth 100000 in
theorem known_any (w : World) : Calls Try.prog 10 #[] w fun e w' => e = .returned (.bool true) ∧ Turn (fun _ => False) w w' := by
  have qT : ∀ (w : World) {v : Value} {bs : List UInt8}, Sees w v bs → (convert 27 9 v).run Try.prog w = .ok (.string ⟨bs.toArray⟩) w := fun w _ _ h => run_text_of_sees w _ _ Try.underlying27 Try.underlying5 Try.underlying9 h
  go_enter Try.func10, Try.ntmps10
  go_wp2_with fail
  refine (dl_new (w0 := w) (K := fun _ => False) (fun _ h => h.elim) (Turn.refl _ w)).mono ?_
  rintro e w1 ⟨rfl, h1, t1⟩
  generalize w.heap.size = b at h1 ⊢
  obtain ⟨w2, hcv, hs2, t2⟩ := run_lit w1 [97, 98, 99] (by simp [maxLen])
  have h2 := h1.new t2
  have hlt := t2.size
  simp [u8s] at hcv
  simp only [List.length_cons, List.length_nil, Nat.zero_add] at hs2
  have hlt2 : w1.heap.size < w2.heap.size := by
    rcases hs2 with ⟨h0, _⟩ | ⟨a, cap, e, _, _, hc⟩
    · simp at h0
    · have := World.block_lt_of_cell? _ _ (hc 0 _ rfl)
      rw [addr_add_block] at this
      injection e with e1
      injection e1 with e1
      rw [← e1] at this
      exact this
  go_wp2_with fail
  refine (dl_append 3 _ [97, 98, 99] h2 hs2 (fun _ k hk => .inr (.inr ⟨by simp [slab] at hk; omega, by simp [slab] at hk; omega⟩)) (by omega) (by decide)).mono ?_
  rintro e w3 ⟨rfl, h3, _⟩
  clear h1 h2 hcv hs2 t2 hlt hlt2
  rw [show (DSt.zero.add 3 [97, 98, 99]).1 = 0 from rfl]
  go_wp2_with fail
  refine (dl_crash 0 2 h3 (by omega) (fun k bs hk => by
    have : (DSt.zero.add 3 [97, 98, 99]).2.ops = [.lay 3 [97, 98, 99]] := rfl
    rw [this] at hk
    simp at hk
    rw [hk.2]
    decide)).mono ?_
  rintro e w4 ⟨rfl, h4, _⟩
  go_wp2_with fail
  refine (dl_read 3 h4 (by omega) (by decide)).mono ?_
  rintro e w5 ⟨v, rfl, hm, h5⟩
  rw [show (((DSt.zero.add 3 [97, 98, 99]).2.crash 0 2).read 3) = [97, 98] by decide] at hm
  have hcv := qT _ hm.1.sees
  obtain ⟨ao, c, rfl⟩ := hm.1.shape
  simp at hcv
  clear h3 h4 hm
  go_wp2_with fail
  refine (dl_pending h5).mono ?_
  rintro e w6 ⟨rfl, rfl⟩
  rw [show (((DSt.zero.add 3 [97, 98, 99]).2.crash 0 2).ops.length : Int) = 0 from rfl]
  go_wp2_with fail
  refine (dl_works h5).mono ?_
  rintro e w6 ⟨rfl, rfl⟩
  rw [show (((DSt.zero.add 3 [97, 98, 99]).2.crash 0 2).works : Int) = 1 from rfl]
  go_wp2
  go_ret
  exact ⟨rfl, h5.turn⟩

namespace kn
def k1 : DSt := (DSt.zero.add (-1) []).2
def k2 : DSt := (k1.add 1 [120]).2
def k3 : DSt := (k2.add 0 [121]).2
def k4 : DSt := k3.sync.2
def k5 : DSt := (k4.rem 1).2
def k6 : DSt := k5.crash 0 0
def k7 : DSt := k6.fuse 1
def k8 : DSt := (k7.add 2 [122]).2
def k9 : DSt := k8.sync.2
def k10 : DSt := (k9.add 2 []).2
def k11 : DSt := k10.crash 1 0
def k12 : DSt := k11.sync.2

theorem read3 (k : Int) : k3.read k = if k = 0 then [121] else if k = 1 then [120] else [] := rfl
theorem read5 (k : Int) : k5.read k = if k = 1 then [] else if k = 0 then [121] else if k = 1 then [120] else [] := rfl
theorem read6 (k : Int) : k6.read k = if k = 0 then [121] else if k = 1 then [120] else [] := rfl

theorem nums3 {l : List Int} (h : k3.Nums l) : l = [0, 1] := h.eq (by simp) (fun k => by
  rw [read3]
  by_cases h0 : k = 0
  · subst h0; simp
  · by_cases h1 : k = 1
    · subst h1; simp
    · simp [h0, h1])

theorem nums5 {l : List Int} (h : k5.Nums l) : l = [0] := h.eq (by simp) (fun k => by
  rw [read5]
  by_cases h0 : k = 0
  · subst h0; simp
  · by_cases h1 : k = 1
    · subst h1; simp
    · simp [h0, h1])

theorem nums6 {l : List Int} (h : k6.Nums l) : l = [0, 1] := h.eq (by simp) (fun k => by
  rw [read6]
  by_cases h0 : k = 0
  · subst h0; simp
  · by_cases h1 : k = 1
    · subst h1; simp
    · simp [h0, h1])
end kn

open kn in
set_option maxHeartbeats 4000000 in
set_option maxRecDepth 100000 in
theorem diskKnown_any (w : World) : Calls Try.prog 3 #[] w fun e w' => e = .returned (.bool true) ∧ Turn (fun _ => False) w w' := by
  have qT : ∀ (w : World) {v : Value} {bs : List UInt8}, Sees w v bs → (convert 27 9 v).run Try.prog w = .ok (.string ⟨bs.toArray⟩) w := fun w _ _ h => run_text_of_sees w _ _ Try.underlying27 Try.underlying5 Try.underlying9 h
  have QT := hide qT
  clear qT
  go_enter Try.func3, Try.ntmps3
  go_wp2_with fail
  refine (dl_new (w0 := w) (K := fun _ => False) (fun _ h => h.elim) (Turn.refl _ w)).mono ?_
  rintro e w1 ⟨rfl, h1, _⟩
  obtain ⟨b, hb⟩ : ∃ b, b = w.heap.size := ⟨_, rfl⟩
  rw [← hb] at h1 ⊢
  clear hb
  go_wp2_with fail
  refine (known_any w1).mono ?_
  rintro e w2 ⟨rfl, t2⟩
  have h2 := h1.new t2
  clear h1 t2
  generalize grow (fun _ => False) w1 w2 = K at h2
  go_wp2_with fail
  refine (dl_append (-1) _ [] h2 (Sees.nil _) (fun h => by simp at h) (by omega) (by decide)).mono ?_
  rintro e w1 ⟨rfl, h1, _⟩
  rw [show (DSt.zero.add (-1) []).1 = 1 from rfl]
  have h1 : DL w K w1 b 1 k1 := h1
  clear h2
  obtain ⟨w2, hcv, hs2, t2, h2, m2⟩ := dl_lit [120] h1 (by simp) (by simp [maxLen])
  simp [u8s] at hcv
  simp only [List.length_cons, List.length_nil, Nat.zero_add] at hs2
  go_wp2_with fail
  refine (dl_append 1 _ [120] h2 hs2 (fun _ k hk => .inr (by simp [slab] at hk; exact hk ▸ m2)) (by omega) (by decide)).mono ?_
  rintro e w3 ⟨rfl, h3, _⟩
  rw [show (k1.add 1 [120]).1 = 0 from rfl]
  have h3 : DL w _ w3 b 2 k2 := h3
  generalize grow K w1 w2 = K1 at h3
  clear h1 h2 hcv hs2 t2 m2
  obtain ⟨w2, hcv, hs2, t2, h2, m2⟩ := dl_lit [121] h3 (by simp) (by simp [maxLen])
  simp [u8s] at hcv
  simp only [List.length_cons, List.length_nil, Nat.zero_add] at hs2
  go_wp2_with fail
  refine (dl_append 0 _ [121] h2 hs2 (fun _ k hk => .inr (by simp [slab] at hk; exact hk ▸ m2)) (by omega) (by decide)).mono ?_
  rintro e w1 ⟨rfl, h1, _⟩
  rw [show (k2.add 0 [121]).1 = 0 from rfl]
  have h1 : DL w _ w1 b 3 k3 := h1
  generalize grow K1 w3 w2 = K at h1
  clear h3 h2 hcv hs2 t2 m2
  go_wp2_with fail
  refine (dl_files h1 (by omega)).mono ?_
  rintro e w2 ⟨lv, l, rfl, hm, hn, _, h2⟩
  obtain rfl := nums3 hn
  have hl := hm.held (K := K)
  obtain ⟨lo, lc, rfl⟩ := hm.shape
  generalize grow K w1 w2 = K1 at h2 hl
  clear h1 hm hn
  go_wp2_with fail
  refine (dl_sync h2 (by omega)).mono ?_
  rintro e w3 ⟨rfl, h3, t3⟩
  rw [show k3.sync.1 = 0 from rfl]
  have h3 : DL w _ w3 b 4 k4 := h3
  have hl := hl.disk t3
  clear h2 t3
  go_wp2_with fail
  refine (dl_remove 1 h3 (by omega)).mono ?_
  rintro e w2 ⟨rfl, h2, t2⟩
  rw [show (k4.rem 1).1 = 0 from rfl]
  have h2 : DL w _ w2 b 5 k5 := h2
  have hl := hl.disk t2
  clear h3 t2
  go_wp2_with fail
  refine (dl_files h2 (by omega)).mono ?_
  rintro e w3 ⟨lv3, l3, rfl, hm3, hn3, _, h3⟩
  obtain rfl := nums5 hn3
  have hl := hl.new hm3.2.1
  obtain ⟨lo3, lc3, rfl⟩ := hm3.shape
  generalize grow K1 w2 w3 = K at h3 hl
  clear h2 hm3 hn3
  go_wp2_with fail
  refine (dl_crash 0 0 h3 (by omega) (fun k bs hk => by
    have : k5.ops = [.rem 1] := rfl
    rw [this] at hk
    simp at hk)).mono ?_
  rintro e w2 ⟨rfl, h2, t2⟩
  have h2 : DL w _ w2 b 5 k6 := h2
  have hl := hl.disk t2
  clear h3 t2
  go_wp2_with fail
  refine (dl_files h2 (by omega)).mono ?_
  rintro e w3 ⟨lv4, l4, rfl, hm4, hn4, _, h3⟩
  obtain rfl := nums6 hn4
  have hl := hl.new hm4.2.1
  obtain ⟨lo4, lc4, rfl⟩ := hm4.shape
  generalize grow K w2 w3 = K1 at h3 hl
  clear h2 hm4 hn4
  go_wp2_with fail
  refine (dl_fuse 1 h3 (by omega) (by omega)).mono ?_
  rintro e w2 ⟨rfl, h2, t2⟩
  have h2 : DL w _ w2 b 5 k7 := h2
  have hl := hl.disk t2
  clear h3 t2
  obtain ⟨w3, hcv, hs3, t3, h3, m3⟩ := dl_lit [122] h2 (by simp) (by simp [maxLen])
  have hl := hl.new t3
  simp [u8s] at hcv
  simp only [List.length_cons, List.length_nil, Nat.zero_add] at hs3
  go_wp2_with fail
  refine (dl_append 2 _ [122] h3 hs3 (fun _ k hk => .inr (by simp [slab] at hk; exact hk ▸ m3)) (by omega) (by decide)).mono ?_
  rintro e w1 ⟨rfl, h1, t1⟩
  rw [show (k7.add 2 [122]).1 = 0 from rfl]
  have h1 : DL w _ w1 b 6 k8 := h1
  have hl := hl.disk t1
  generalize grow K1 w2 w3 = K at h1 hl
  clear h3 h2 hcv hs3 t3 m3 t1
  go_wp2_with fail
  refine (dl_sync h1 (by omega)).mono ?_
  rintro e w3 ⟨rfl, h3, t3⟩
  rw [show k8.sync.1 = 14 from rfl]
  have h3 : DL w _ w3 b 7 k9 := h3
  have hl := hl.disk t3
  clear h1 t3
  go_wp2_with fail
  refine (dl_dead h3).mono ?_
  rintro e w1 ⟨rfl, rfl⟩
  rw [show k9.dead = true from rfl]
  go_wp2_with fail
  refine (dl_read 0 h3 (by omega) (by decide)).mono ?_
  rintro e w2 ⟨v, rfl, hm, h2⟩
  rw [show k9.read 0 = [] from rfl] at hm
  have hl := hl.new hm.2.1
  obtain ⟨ro, rc, rfl⟩ := hm.1.shape
  generalize grow K w3 w2 = K1 at h2 hl
  clear h3 hm
  go_wp2_with fail
  refine (dl_append 2 _ [] h2 (Sees.nil _) (fun h => by simp at h) (by omega) (by decide)).mono ?_
  rintro e w1 ⟨rfl, h1, t1⟩
  rw [show (k9.add 2 []).1 = 14 from rfl]
  have h1 : DL w _ w1 b 8 k10 := h1
  have hl := hl.disk t1
  clear h2 t1
  go_wp2_with fail
  refine (dl_crash 1 0 h1 (by omega) (fun k bs hk => by
    have : k10.ops = [.lay 2 [122]] := rfl
    rw [this] at hk
    simp at hk
    rw [hk.2]
    decide)).mono ?_
  rintro e w2 ⟨rfl, h2, t2⟩
  have h2 : DL w _ w2 b 8 k11 := h2
  have hl := hl.disk t2
  clear h1 t2
  rcases hl.own.shape with ⟨h0, _⟩ | ⟨g, cap, hsl, hcap, hcm⟩
  · simp at h0
  simp only [Value.slice.injEq] at hsl
  obtain ⟨rfl, _, rfl⟩ := hsl
  have r0 : w2.cell? ⟨g, 0, none⟩ = some (.int .i64 0) := World.ownsRow.cellAt hl.own 0 (by simp)
  have r1 : w2.cell? ⟨g, 1, none⟩ = some (.int .i64 1) := World.ownsRow.cellAt hl.own 1 (by simp)
  clear hl hcm hcap
  go_wp2_with fail
  refine (dl_dead h2).mono ?_
  rintro e w1 ⟨rfl, rfl⟩
  rw [show k11.dead = false from rfl]
  go_wp2_with fail
  refine (dl_read 2 h2 (by omega) (by decide)).mono ?_
  rintro e w1 ⟨v, rfl, hm, h1⟩
  rw [show k11.read 2 = [122] by decide] at hm
  have hcv := unhide QT _ hm.1.sees
  obtain ⟨ao, c, rfl⟩ := hm.1.shape
  simp at hcv
  clear hm
  go_wp2_with fail
  refine (dl_sync h1 (by omega)).mono ?_
  rintro e w3 ⟨rfl, h3, t3⟩
  rw [show k11.sync.1 = 0 from rfl]
  have h3 : DL w _ w3 b 9 k12 := h3
  go_wp2_with fail
  refine (dl_pending h3).mono ?_
  rintro e w6 ⟨rfl, rfl⟩
  rw [show (k12.ops.length : Int) = 0 from rfl]
  go_wp2
  go_ret
  exact ⟨rfl, h3.turn⟩

end Go.Proofs.Ytnojedjdnecagaa
