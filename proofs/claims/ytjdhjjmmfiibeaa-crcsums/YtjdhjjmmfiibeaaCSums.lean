/- Any bytes' sum is the plain one, and the table is made once: the law's walk. -/
import Derived.Test.YtjdhjjmmfiibeaaCKnown
import Derived.Test.YtjdhjjmmfiibeaaLists
import Derived.Deep.RegionWith
import Derived.Deep.DeepMust
namespace Go.Proofs.Ytjdhjjmmfiibeaa
open Go.RowKit

set_option maxHeartbeats 4000000 in
set_option maxRecDepth 100000 in
theorem crcSums_any (v lv : Value) (bs : List UInt8) (l : List (Value × List UInt8)) (w : World) (hs : Sees w v bs) (hsl : 0 < bs.length → ∀ k, slab v = some k → k < w.heap.size) (hL : ListAt w w.heap.size lv l) :
    Calls Try.prog 5 #[v, lv] w fun e w' => e = .returned (.bool true) ∧ Turn (fun _ => False) w w' := by
  have hnot : ∀ (x : Bool) (w : World), (Op.unary .not (.bool x)).run Try.prog w = .ok (.bool (!x)) w := fun _ _ => rfl
  obtain ⟨ao, cap, rfl⟩ := hs.shape
  obtain ⟨al, lcap, rfl, hlm⟩ := hL.shape
  unfold maxLen at hlm
  go_enter Try.func5, Try.ntmps5
  go_wp2_with fail
  refine (new_any w).mono ?_
  rintro e w1 ⟨rfl, e1⟩
  have h1 : Own w w1 w.heap.size false := e1 ▸ Own.start w
  have hsl1 : 0 < bs.length → slab (.slice ao bs.length cap) ≠ some w.heap.size := fun h0 e => by have := hsl h0 _ e; omega
  generalize hB : w.heap.size = b at h1 hsl1 ⊢
  have HB := hide hB
  clear hB
  clear e1
  go_wp2_with fail
  refine (crcExample_any w1).mono ?_
  rintro e w2 ⟨rfl, t2⟩
  have h2 := h1.goes t2
  have hs2 := hs.kept h2.turn (fun _ _ h => h)
  clear h1 t2
  go_wp2_with fail
  refine (made_any b false w2 h2.tab).mono ?_
  rintro e w3 ⟨rfl, rfl⟩
  go_wp2_with fail
  refine (sum_any b _ bs false w2 h2.tab hs2 hsl1).mono ?_
  rintro e w3 ⟨rfl, h3, t3⟩
  have hs3 := hs2.kept' t3 (fun h0 k hk e => hsl1 h0 (e ▸ hk))
  have h3 := h2.sum h3 t3
  clear h2 t3 hs2
  go_wp2_with fail
  refine (refSum_any _ bs w3 hs3).mono ?_
  rintro e w4 ⟨rfl, rfl⟩
  clear hs3
  generalize csum bs = s0
  go_wp2_with fail
  go_loopw [6, 4] (fun i _ wr => ∃ k : Nat, k ≤ l.length ∧ k ≤ 10 ∧ i = .int .i64 k ∧ Own w wr b true) (fun i _ _ => (10 - intOf i).toNat)
  case atStart => exact ⟨0, by omega, by omega, rfl, h3⟩
  case round =>
    obtain ⟨k, hk, hk10, rfl, hr⟩ := hrel
    by_cases hlt : k < l.length ∧ k < 10
    · obtain ⟨hlt, hlt10⟩ := hlt
      have hLr := hL.kept hr.turn (Nat.le_refl _) (fun _ _ h => h)
      obtain ⟨a, rfl, hc, hsk, hslk, hab⟩ := hLr.at k hlt
      have hbne : ¬ a.block = b := by have := unhide HB; omega
      have hslb : 0 < l[k].2.length → slab l[k].1 ≠ some b := fun h0 e => by have := hslk h0 _ e; have := unhide HB; omega
      have hcd : wr.drew.cell? (a.add k) = some l[k].1 := hc
      have hsd : Sees wr.drew l[k].1 l[k].2 := hsk
      have hrd : Own w wr.drew b true := ⟨hr.tab.kept (S := fun _ => False) (Turn.refl _ _).drew (fun h => h), hr.turn.drew, hr.new⟩
      obtain ⟨ak, capk, ek⟩ := hsk.shape
      rw [ek] at hcd hsd hslb
      clear hLr hc hsk hslk ek
      have q1 : (k : Int) < l.length := by omega
      have q2 : (k : Int) < 10 := by omega
      go_wp2_with fail
      go_region_with (first
        | (go_at_call 9; go_must (refine (sum_any b _ l[k].2 true _ hrd.tab hsd hslb).mono ?_; rintro e w5 ⟨rfl, h5, t5⟩; have hc5 : w5.cell? (a.add k) = some (.slice ak l[k].2.length capk) := (t5.cell (by rw [addr_add_block]; have := hr.turn.size; show _ < wr.heap.size; omega) (by rw [addr_add_block]; exact hbne)).trans hcd; have hs5 := hsd.kept' t5 (fun h0 j hj e => hslb h0 (e ▸ hj)); have hr5 := hrd.sum h5 t5))
        | (go_at_call 11; go_must (refine (refSum_any _ l[k].2 _ hs5).mono ?_; rintro e w6 ⟨rfl, rfl⟩))
        | (go_at_call 10; go_must (refine (made_any b true _ hr5.tab).mono ?_; rintro e w6 ⟨rfl, rfl⟩)))
      all_goals (
        clear h5 t5 hc5 hs5 hcd hsd hslb hrd
        go_wp2
        go_roundw
        case rel => exact ⟨k + 1, by omega, by omega, by go_num, hr5⟩
        case measure => simp [intOf]; omega)
    · by_cases hlt1 : k < l.length
      · have q1 : (k : Int) < l.length := by omega
        have q2 : ¬ (k : Int) < 10 := by omega
        go_wp2
        go_ret
        exact ⟨rfl, hr.turn⟩
      · have q1 : ¬ (k : Int) < l.length := by omega
        go_wp2
        go_ret
        exact ⟨rfl, hr.turn⟩
end Go.Proofs.Ytjdhjjmmfiibeaa
