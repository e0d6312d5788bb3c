/- The closed law's bytes. -/
import Derived.Test.YtehbefhpijifjaaItA
namespace Go.Proofs.Ytehbefhpijifjaa
open Go.RowKit

theorem rk0 : layI [((3, 1) : It), (5, 12)] = be 2 2 ++ (be 3 2 ++ (be 1 8 ++ (be 5 2 ++ be 12 8))) := by
  simp only [layI, List.flatMap_cons, List.flatMap_nil, List.append_nil, List.append_assoc, List.length_cons, List.length_nil]
  rfl

theorem part2 (a b c : List UInt8) (m n : Nat) (ha : a.length = m) (hb : b.length = n) : ((a ++ (b ++ c)).drop m).take n = b := by
  subst ha hb
  rw [List.drop_left, List.take_left]

theorem rk1' (z : List UInt8) : toldI (be 2 2 ++ (be 3 2 ++ (be 1 8 ++ (be 5 2 ++ (be 12 8 ++ z))))) 2 = [((3, 1) : It), (5, 12)] := by
  have h0 : toldAt (be 2 2 ++ (be 3 2 ++ (be 1 8 ++ (be 5 2 ++ (be 12 8 ++ z))))) 0 = ((3, 1) : It) := by
    unfold toldAt
    rw [part2 (be 2 2) (be 3 2) _ _ _ (be_length _ _) (be_length _ _)]
    rw [show be 2 2 ++ (be 3 2 ++ (be 1 8 ++ (be 5 2 ++ (be 12 8 ++ z)))) = (be 2 2 ++ be 3 2) ++ (be 1 8 ++ (be 5 2 ++ (be 12 8 ++ z))) by simp only [List.append_assoc]]
    rw [part2 (be 2 2 ++ be 3 2) (be 1 8) _ _ _ (by rw [List.length_append, be_length, be_length]) (be_length _ _), num_be2, num_be8]
    rw [show wrap64 1 = 1 by unfold wrap64; omega]
    rfl
  have h1 : toldAt (be 2 2 ++ (be 3 2 ++ (be 1 8 ++ (be 5 2 ++ (be 12 8 ++ z))))) 1 = ((5, 12) : It) := by
    unfold toldAt
    rw [show be 2 2 ++ (be 3 2 ++ (be 1 8 ++ (be 5 2 ++ (be 12 8 ++ z)))) = (be 2 2 ++ be 3 2 ++ be 1 8) ++ (be 5 2 ++ (be 12 8 ++ z)) by simp only [List.append_assoc]]
    rw [part2 (be 2 2 ++ be 3 2 ++ be 1 8) (be 5 2) _ _ _ (by simp only [List.length_append, be_length]) (be_length _ _)]
    rw [show (be 2 2 ++ be 3 2 ++ be 1 8) ++ (be 5 2 ++ (be 12 8 ++ z)) = (be 2 2 ++ be 3 2 ++ be 1 8 ++ be 5 2) ++ (be 12 8 ++ z) by simp only [List.append_assoc]]
    rw [part2 (be 2 2 ++ be 3 2 ++ be 1 8 ++ be 5 2) (be 12 8) _ _ _ (by simp only [List.length_append, be_length]) (be_length _ _), num_be2, num_be8]
    rw [show wrap64 12 = 12 by unfold wrap64; omega]
    rfl
  unfold toldI
  rw [show List.range 2 = [0, 1] from rfl, List.map_cons, List.map_cons, List.map_nil, h0, h1]

theorem rk1 : toldI (layI [((3, 1) : It), (5, 12)]) 2 = [(3, 1), (5, 12)] := by
  have := rk1' []
  rw [List.append_nil] at this
  rw [rk0]
  exact this

theorem rk2 : (layI [((3, 1) : It), (5, 12)]).length = 22 := by
  rw [rk0]
  simp only [List.length_append, be_length]

theorem rk3 : toldI (layI [((3, 1) : It), (5, 12)] ++ [0]) 2 = [(3, 1), (5, 12)] := by
  rw [rk0]
  simp only [List.append_assoc]
  exact rk1' [0]

end Go.Proofs.Ytehbefhpijifjaa
