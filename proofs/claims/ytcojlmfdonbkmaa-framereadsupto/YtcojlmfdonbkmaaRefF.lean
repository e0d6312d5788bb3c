/- What the reference's Frame does to memory. -/
import Derived.Test.YtcojlmfdonbkmaaRefW
import Derived.Test.YtcojlmfdonbkmaaFKnown
namespace Go.Proofs.Ytcojlmfdonbkmaa
open Go.RowKit

theorem record_def (k : Int) (bs : List UInt8) : record k bs = front k bs.length ++ be (csum (front k bs.length ++ bs)) 4 ++ bs := by rw [record]

set_option maxHeartbeats 400000 in
set_option maxRecDepth 100000 in
theorem refFrame_any (k : Int) (s : Value) (bs : List UInt8) (w : World) (hs : Sees w s bs) (hb : bs.length + 9 ≤ 140737488355328) :
    Calls Try.prog 10 #[.int .i64 k, s] w fun e w' => ∃ v, e = .returned v ∧ Made w v (record k bs) w' := by
  obtain ⟨i0, hi, hz0, hz1, hz2⟩ := info_parts Try.infoU8
  have hsb : 0 < bs.length → ∀ j, slab s = some j → j < w.heap.size := fun h0 j e => slab_lt hs h0 e
  obtain ⟨ao, cap, rfl⟩ := hs.shape
  have n1 := WNew.start (fun _ => False) 54 w
  have hS1 : Sees (w.alloc (.cells #[.slice none 0 0] 54)) (.slice ao bs.length cap) bs := hs.kept ((Turn.refl (fun _ => False) w).alloc _) (fun _ _ h => h)
  go_enter Try.func10, Try.ntmps10
  go_wp2_with fail
  refine (rw_u8 w.heap.size _ [] k _ n1.at' (by simp)).mono ?_
  rintro e w2 ⟨rfl, v2, st2⟩
  have n2 := n1.step st2
  rw [List.nil_append] at n2
  have hS2 : Sees w2 (.slice ao bs.length cap) bs := hS1.kept' st2.turn (n1.apart hsb)
  clear n1 st2 hS1
  obtain ⟨b, hb0⟩ : ∃ b, b = w.heap.size := ⟨_, rfl⟩
  rw [← hb0] at n2
  have hb1 : w.heap.size = b := hb0.symm
  simp only [hb1]
  clear hb0 hb1
  go_wp2_with fail
  refine (rw_u32 b v2 (be k 1) bs.length w2 n2.at' (by simp [be_length])).mono ?_
  rintro e w3 ⟨rfl, v3, st3⟩
  have n3 : WNew (fun _ => False) 54 w w3 b v3 (front k bs.length) := n2.step st3
  have hS3 : Sees w3 (.slice ao bs.length cap) bs := hS2.kept' st3.turn (n2.apart hsb)
  clear n2 st3 hS2
  have hfl := front_length k bs.length
  have hcs := csum_lt (front k bs.length ++ bs)
  have hrec := hide (record_def k bs)
  generalize front k bs.length = F at *
  generalize hcsn : csum (F ++ bs) = cs at *
  have Hcs := hide hcsn
  have Hfl := hide hfl
  clear hcsn hfl
  have hwr : IntKind.i64.wrap (cs : Int) = cs := by rw [IntKind.wrap_i64]; omega
  obtain ⟨ao3, cap3, e3⟩ := n3.at'.2.1.shape
  subst e3
  have c3 : w3.cell? ⟨b, 0, none⟩ = some (.slice ao3 F.length cap3) := by rw [n3.at'.1.cell]; rfl
  have hblt := n3.at'.1.lt
  have sF := n3.at'.2.1.sees.kept ((Turn.refl (fun _ => False) w3).alloc (.cells #[] 5)) (fun _ _ h => h)
  have hF5 : F.length ≤ 5 := by have := unhide Hfl; omega
  go_wp2_with (at_builtin; refine wpList_append_sees _ rfl (.tmp 16) (.tmp 20) 25 rfl i0 Try.underlying25 hi hz0 hz1 hz2 _ [] rfl (owns_empty w3) _ F rfl sF (by simp only [List.length_nil]; omega) ?_)
  intro v4 w4 ho hg hk
  have m4 := Made.append ho hg hk
  have hS4 := hS3.kept m4.2.1 (fun _ _ h => h)
  clear ho hg hk sF hS3 c3
  obtain ⟨ao4, cap4, e4⟩ := m4.1.shape
  subst e4
  go_wp2_with (at_builtin; refine wpList_append_sees _ rfl (.tmp 21) (.tmp 22) 25 rfl i0 Try.underlying25 hi hz0 hz1 hz2 _ F rfl m4.1 _ bs rfl hS4 (by omega) ?_)
  intro v5 w5 ho hg hk
  have m5 := m4.more ho hg hk
  have t45 : Turn (fun k => w3.heap.size ≤ k) w4 w5 := (Turn.refl _ _).grown hg (fun k hk => .inl (m4.2.2 k hk))
  have hS5 : Sees w5 (.slice ao bs.length cap) bs := hs.kept (n3.turn.trans m5.2.1) (fun _ _ h => h)
  have n5 := n3.other m5.2.1 (fun _ h => h.elim)
  clear ho hg hk hS4 m4 t45 n3
  obtain ⟨ao5, cap5, e5⟩ := m5.1.shape
  subst e5
  have s5 := m5.1.sees
  rw [List.length_append] at s5
  go_wp2_with fail
  refine (refSum_any (.slice ao5 (F.length + bs.length) cap5) (F ++ bs) w5 s5).mono ?_
  rintro e w6 ⟨rfl, rfl⟩
  rw [unhide Hcs]
  clear m5 s5
  go_wp2_with fail
  refine (rw_u32 b _ F cs w5 n5.at' (by omega)).mono ?_
  rintro e w6 ⟨rfl, v6, st6⟩
  have n6 := n5.step st6
  have hS6 : Sees w6 (.slice ao bs.length cap) bs := hS5.kept' st6.turn (n5.apart hsb)
  clear n5 st6 hS5
  go_wp2_with fail
  refine (rw_raw b v6 _ (F ++ be cs 4) bs w6 n6.at' hS6 (by simp [be_length]; omega)).mono ?_
  rintro e w7 ⟨rfl, v7, st7⟩
  have n7 := n6.step st7
  rw [← unhide hrec] at n7
  clear n6 st7 hS6
  have hm : Made w v7 (record k bs) w7 := ⟨n7.at'.2.1, n7.turn, n7.newv⟩
  obtain ⟨ao7, cap7, e7⟩ := n7.at'.2.1.shape
  subst e7
  have c7 : w7.cell? ⟨b, 0, none⟩ = some (.slice ao7 (record k bs).length cap7) := by rw [n7.at'.1.cell]; rfl
  clear n7
  go_wp2
  go_ret
  exact ⟨_, rfl, hm⟩

end Go.Proofs.Ytcojlmfdonbkmaa
