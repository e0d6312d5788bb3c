/- A Log, plainly, and in memory: it lays frames, and keeps them. -/
import Derived.Test.YtfmbkpdjjhcmcaaGreatTool
import Derived.Test.YtfmbkpdjjhcmcaaGreatFKnown
namespace Go.Proofs.YtfmbkpdjjhcmcaaGreat
open Go.RowKit

/-- The frames of records, of a kind. -/
def frames (k : Int) (l : List (List UInt8)) : List UInt8 := (l.map (record k)).flatten

theorem frames_nil (k : Int) : frames k [] = [] := rfl
theorem frames_snoc (k : Int) (l : List (List UInt8)) (x : List UInt8) : frames k (l ++ [x]) = frames k l ++ record k x := by simp [frames]
theorem frames_append (k : Int) (a b : List (List UInt8)) : frames k (a ++ b) = frames k a ++ frames k b := by simp [frames]

/-- Frames and their mark. -/
def laidOf (k m : Int) (l : List (List UInt8)) : List UInt8 := frames k l ++ record m []

theorem frames_take_le (k : Int) (l : List (List UInt8)) (n : Nat) : (frames k (l.take n)).length ≤ (frames k l).length := by
  conv => rhs; rw [← List.take_append_drop n l, frames_append, List.length_append]
  omega

theorem DL.less {w0 w : World} {K K2 : Nat → Prop} {b N : Nat} {s : DSt} (h : DL w0 K w b N s) (hK : ∀ j, K2 j → K j) : DL w0 K2 w b N s := by
  obtain ⟨S, hd, hS⟩ := h.dk
  exact ⟨⟨S, hd, fun j hj => ⟨(hS j hj).1, fun hk => (hS j hj).2 (hK j hk)⟩⟩, fun j hj => h.held j (hK j hj), h.turn⟩

/-- A Log, plainly. -/
structure WSt where
  d : DSt
  limit : Int
  at' : Int
  size : Int
  down : Bool

/-- A Log's fields. -/
def lcells (b f : Nat) (limit at' size : Int) (down : Bool) : Array Value := #[.pointer (some ⟨b, 0, none⟩), .pointer (some ⟨f, 0, none⟩), .int .i64 limit, .int .i64 at', .int .i64 size, .bool down]

section
variable {w : World} {l f t : Nat} {Q : Nat → Prop} {v : Value} {rl : List (Value × List UInt8)}

/-- Frames within the making. -/
structure Laying (w : World) (f t : Nat) (bs : List UInt8) (v : Value) (wr : World) : Prop where
  own : Owns wr v bs
  new : ∀ k, v.ownBlock = some k → w.heap.size ≤ k
  fr : Fr wr f t
  turn : Turn (fun k => k = t) w wr

theorem Laying.more {w1 w2 : World} {bs x : List UInt8} {v v1 v2 : Value} {wr : World} (h : Laying w f t bs v wr) (hltt : t < w.heap.size) (hltf : f < w.heap.size) (hl : Laid wr f t x v1 w1) (ho : Owns w2 v2 (bs ++ x)) (hg : w1.grownBy w2 v.ownBlock) (hk : v2.ownBlock = v.ownBlock ∨ v2.ownBlock = some w1.heap.size) : Laying w f t (bs ++ x) v2 w2 := by
  have tg : Turn (fun j => v.ownBlock = some j) w1 w2 := (Turn.refl _ _).grown hg (fun j hj => .inl hj)
  have s1 := h.turn.size
  have s2 := hl.2.2.2.size
  refine ⟨ho, fun k e => ?_, hl.2.2.1.kept tg (fun e => by have := h.new _ e; omega) (fun e => by have := h.new _ e; omega), (h.turn.trans hl.2.2.2).trans' tg (fun j hj e => by have := h.new _ e; omega)⟩
  rcases hk with hk | hk
  · exact h.new k (hk ▸ e)
  · rw [hk] at e
    injection e with e
    omega

set_option maxHeartbeats 2000000 in
set_option maxRecDepth 100000 in
theorem layAll_any {b : Nat} {limit at' size : Int} {down : Bool} (k m : Int) (hk0 : 1 ≤ k) (hk1 : k ≤ 255) (hm0 : 1 ≤ m) (hm1 : m ≤ 255) (hA : At 60 w l (lcells b f limit at' size down)) (hF : Fr w f t) (hlt' : l ≠ t) (hr : RL Q w v rl) (hQt : ¬ Q t) (hno : ¬ tooLong rl) (hsz : (laidOf k m (rl.map (·.2))).length ≤ 140737488355328) :
    Calls Tryz.prog 37 #[.pointer (some ⟨l, 0, none⟩), v, .int .i64 k, .int .i64 m] w fun e w' => ∃ v', e = .returned v' ∧ Laid w f t (laidOf k m (rl.map (·.2))) v' w' := by
  obtain ⟨i0, hi, hz0, hz1, hz2⟩ := info_parts Tryz.infoU8
  obtain ⟨vo, vc, hve⟩ := hr.shape
  have hlen := hr.len
  unfold maxLen at hlen
  have hltt := hF.ltt
  have hltf := hF.ltf
  have hll := hA.lt
  have HA := hide hA
  have HR := hide hr
  have HAt := hide hr.at
  have HS := hide hsz
  have HNo := hide hno
  obtain ⟨len, hlenE⟩ : ∃ len, len = rl.length := ⟨_, rfl⟩
  have HL := hide hlenE
  have HF := hide hF
  rw [← hlenE] at hve hlen
  subst hve
  clear hlenE hr hsz hno hA hF
  go_enter Tryz.func37, Tryz.ntmps37
  go_wp2
  go_loopw [9, 11, 12, 13, 18] (fun lv _ _ _ i wr => ∃ n : Nat, i = .int .i64 n ∧ n ≤ len ∧ Laying w f t (frames k ((rl.map (·.2)).take n)) lv wr) (fun _ _ _ _ i _ => len - (intOf i).toNat)
  case atStart => exact ⟨0, rfl, by omega, Owns.nil _, fun k hk => by simp [Value.ownBlock] at hk, unhide HF, Turn.refl _ _⟩
  case round =>
    clear HF
    obtain ⟨n, rfl, hn, hL⟩ := hrel
    have hAr := (unhide HA).kept hL.turn hlt'
    have c1 : wr.cell? ⟨l, 1, none⟩ = some (.pointer (some ⟨f, 0, none⟩)) := hAr.cell 1
    clear hAr
    obtain ⟨lo, lc, hle⟩ := hL.own.shape
    have hll2 : (frames k ((rl.map (·.2)).take n)).length ≤ (frames k (rl.map (·.2))).length := frames_take_le _ _ _
    have htot : (laidOf k m (rl.map (·.2))).length = (frames k (rl.map (·.2))).length + 9 := by unfold laidOf; rw [List.length_append, record_length]; rfl
    by_cases hlt : n < len
    · have hnl : n < rl.length := by have := unhide HL; omega
      obtain ⟨g, cap', ao, nb, c, e, e1, e2, hc⟩ := unhide HAt n hnl
      injection e with ea eb ec
      have hrn := (unhide HR).each rl[n] (List.getElem_mem hnl)
      have hcr : wr.cell? ⟨g, n, none⟩ = some (.slice ao nb c) := by
        have hQg : Q g := by
          rcases unhide HR with ⟨h0, _⟩ | ⟨g', cap, h0, _, _, h3, _⟩
          · rw [ea] at h0; simp at h0
          · rw [ea] at h0
            simp only [Value.slice.injEq, Option.some.injEq, Addr.mk.injEq, and_true] at h0
            exact h0.1 ▸ h3
        rw [hL.turn.cell (p := ⟨g, n, none⟩) (World.block_lt_of_cell? _ _ hc) (fun e => hQt (e ▸ hQg))]
        exact hc
      have hsn : Sees wr (.slice ao nb c) rl[n].2 := by
        rw [← e1]
        exact hrn.1.kept' hL.turn (fun h0 j hj e => hQt (e ▸ hrn.2 h0 j hj))
      have hb1 : rl[n].2.length ≤ 1048576 := Nat.le_of_not_lt (fun h => unhide HNo ⟨rl[n]'hnl, List.getElem_mem hnl, h⟩)
      have hst : 0 < rl[n].2.length → slab (.slice ao nb c) ≠ some t := fun h0 e => hQt (hrn.2 h0 t (e1 ▸ e))
      have hsl : 0 < rl[n].2.length → ∀ j, slab (.slice ao nb c) = some j → j < wr.heap.size := fun h0 j e => slab_lt hsn h0 e
      have hrec : (record k rl[n].2).length = 9 + rl[n].2.length := record_length _ _
      have hnext : frames k ((rl.map (·.2)).take (n + 1)) = frames k ((rl.map (·.2)).take n) ++ record k rl[n].2 := by
        rw [List.take_succ_eq_append_getElem (by simpa using hnl), frames_snoc]
        simp
      have hle2 : (frames k ((rl.map (·.2)).take (n + 1))).length ≤ (frames k (rl.map (·.2))).length := frames_take_le _ _ _
      rw [hnext, List.length_append] at hle2
      have hbd : (frames k ((rl.map (·.2)).take n)).length + (record k rl[n].2).length ≤ 140737488355328 := by have := unhide HS; omega
      have Hnext := hide hnext
      have HB := hide hbd
      generalize frames k ((rl.map (·.2)).take n) = fs at *
      generalize rl[n].2 = xs at *
      have HE2 := hide e2
      subst ea hle
      have q1 : (n : Int) < len := by omega
      clear eb ec e1 e2 hc hrn hnext hle2 hbd hrec hll2 htot
      go_wp2_with fail
      refine (lay_yes f t k _ xs wr hL.fr hk0 hk1 hsn hb1 hst hsl).mono ?_
      rintro e w1 ⟨v1, rfl, hl1⟩
      obtain ⟨o1, c1', hv1⟩ := hl1.1.shape
      have hown1 : Owns w1 (.slice lo fs.length lc) fs := hL.own.kept hl1.2.2.2 (fun j hj e => by have := hL.new j hj; omega)
      have hsee1 := hl1.1.sees
      rw [hv1] at hsee1 hl1 ⊢
      clear hsn hb1 hst hsl c1 hcr
      go_wp2_with (at_builtin; refine wpList_append_sees _ rfl (.tmp 32) (.tmp 33) 31 rfl i0 Tryz.underlying31 hi hz0 hz1 hz2 _ fs rfl hown1 _ (record k xs) rfl hsee1 (unhide HB) ?_; intro v2 w2 ho2 hg2 hk2)
      go_roundw
      case rel =>
        refine ⟨n + 1, by go_num, by omega, ?_⟩
        rw [unhide Hnext]
        exact hL.more hltt hltf hl1 ho2 hg2 hk2
      case measure => simp [intOf]; omega
    · obtain rfl : n = len := by omega
      have q1 : ¬ (n : Int) < n := by omega
      have hall : (rl.map (·.2)).take n = rl.map (·.2) := List.take_of_length_le (by have := unhide HL; simp; omega)
      rw [hall] at hL hll2
      have hbd : (frames k (rl.map (·.2))).length + (record m []).length ≤ 140737488355328 := by have := unhide HS; rw [record_length]; simp; omega
      have HB := hide hbd
      rw [hall] at hle
      have hres : laidOf k m (rl.map (·.2)) = frames k (rl.map (·.2)) ++ record m [] := rfl
      have HRes := hide hres
      generalize frames k (rl.map (·.2)) = fs at *
      subst hle
      clear hbd hll2 htot hres hall
      go_wp2_with fail
      refine (lay_yes f t m _ [] wr hL.fr hm0 hm1 (Sees.nil _) (by simp) (by simp) (by simp)).mono ?_
      rintro e w1 ⟨v1, rfl, hl1⟩
      obtain ⟨o1, c1', hv1⟩ := hl1.1.shape
      have hown1 : Owns w1 (.slice lo fs.length lc) fs := hL.own.kept hl1.2.2.2 (fun j hj e => by have := hL.new j hj; omega)
      have hsee1 := hl1.1.sees
      rw [hv1] at hsee1 hl1 ⊢
      clear c1
      go_wp2_with (at_builtin; refine wpList_append_sees _ rfl (.tmp 45) (.tmp 46) 31 rfl i0 Tryz.underlying31 hi hz0 hz1 hz2 _ fs rfl hown1 _ (record m []) rfl hsee1 (unhide HB) ?_; intro v2 w2 ho2 hg2 hk2)
      have hfin := hL.more hltt hltf hl1 ho2 hg2 hk2
      go_ret
      rw [unhide HRes]
      exact ⟨_, rfl, hfin.own, hfin.new, hfin.fr, hfin.turn⟩

end

end Go.Proofs.YtfmbkpdjjhcmcaaGreat
