/- Chapter 5's example, and the law DiskKnown. -/
import Derived.Test.YtfmbkpdjjhcmcaaGreatDLaw
namespace Go.Proofs.YtfmbkpdjjhcmcaaGreat
open Go.RowKit

namespace kn
def k1 : DSt := (DSt.zero.add (-1) []).2
def k2 : DSt := (k1.add 1 [120]).2
def k3 : DSt := (k2.add 0 [121]).2
def k4 : DSt := k3.sync.2
def k5 : DSt := (k4.rem 1).2
def k6 : DSt := k5.crash 0 0
def k7 : DSt := k6.fuse 1
def k8 : DSt := (k7.add 2 [122]).2
def k9 : DSt := k8.sync.2
def k10 : DSt := (k9.add 2 []).2
def k11 : DSt := k10.crash 1 0
def k12 : DSt := k11.sync.2

theorem read3 (k : Int) : k3.read k = if k = 0 then [121] else if k = 1 then [120] else [] := rfl
theorem read5 (k : Int) : k5.read k = if k = 1 then [] else if k = 0 then [121] else if k = 1 then [120] else [] := rfl
theorem read6 (k : Int) : k6.read k = if k = 0 then [121] else if k = 1 then [120] else [] := rfl

theorem nums3 {l : List Int} (h : k3.Nums l) : l = [0, 1] := h.eq (by simp) (fun k => by
  rw [read3]
  by_cases h0 : k = 0
  · subst h0; simp
  · by_cases h1 : k = 1
    · subst h1; simp
    · simp [h0, h1])

theorem nums5 {l : List Int} (h : k5.Nums l) : l = [0] := h.eq (by simp) (fun k => by
  rw [read5]
  by_cases h0 : k = 0
  · subst h0; simp
  · by_cases h1 : k = 1
    · subst h1; simp
    · simp [h0, h1])

theorem nums6 {l : List Int} (h : k6.Nums l) : l = [0, 1] := h.eq (by simp) (fun k => by
  rw [read6]
  by_cases h0 : k = 0
  · subst h0; simp
  · by_cases h1 : k = 1
    · subst h1; simp
    · simp [h0, h1])
end kn

end Go.Proofs.YtfmbkpdjjhcmcaaGreat
