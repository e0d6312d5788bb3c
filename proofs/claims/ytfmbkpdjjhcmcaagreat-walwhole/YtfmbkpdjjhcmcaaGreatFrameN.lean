/- What Next of package frame tells of any bytes. -/
import Derived.Test.YtfmbkpdjjhcmcaaGreatFrame
namespace Go.Proofs.YtfmbkpdjjhcmcaaGreat
open Go.RowKit

theorem results_tmp4 {fn : Func} {t u v x : Tmp} (h : fn.results = #[.tmp t, .tmp u, .tmp v, .tmp x]) (tmps : Array Value) (P : Program) (w : World) :
    (results fn tmps).run P w = .ok (.tuple #[tmps.getD t undef, tmps.getD u undef, tmps.getD v undef, tmps.getD x undef]) w := by
  simp [results, h]

/-- A Reader of the call's own, in new memory; nothing else has turned. -/
structure RNew (T : TypeId) (w w1 : World) (b : Nat) (v : Value) (s : St) : Prop where
  at' : RIs T w1 b v s
  turn : Turn (fun _ => False) w w1
  new : w.heap.size ≤ b
  newv : ∀ k, slab v = some k → w.heap.size ≤ k

theorem RNew.step {T : TypeId} {w w1 w2 : World} {b : Nat} {v : Value} {s s2 : St} (h : RNew T w w1 b v s) (hn : Now T w1 b v s2 w2) : ∃ v2, RNew T w w2 b v2 s2 := by
  obtain ⟨v2, hst⟩ := hn
  exact ⟨v2, hst.at', h.turn.trans' hst.turn (fun i hi e => by have := h.new; omega), h.new, fun k hk => h.newv k (hst.slab k hk)⟩

theorem RNew.goes {T : TypeId} {w w1 w2 : World} {b : Nat} {v : Value} {s : St} (h : RNew T w w1 b v s) (ht : Turn (fun _ => False) w1 w2) : RNew T w w2 b v s :=
  ⟨h.at'.kept ht (fun h => h) (fun _ _ h => h), h.turn.trans ht, h.new, h.newv⟩

theorem Fresh.rnew {T : TypeId} {w w' : World} {bs : List UInt8} {b : Nat} (h : Fresh T w bs b w') : ∃ v, RNew T w w' b v ⟨bs, false⟩ := by
  obtain ⟨v, h1, h2, h3, h4⟩ := h
  exact ⟨v, h1, h4, h2, fun k hk => (h3 k hk).1⟩

set_option maxHeartbeats 400000 in
set_option maxRecDepth 100000 in
theorem size_small (n : Int) (w : World) (h0 : 0 ≤ n) (h1 : n ≤ 1048576) : Calls Tryz.prog 71 #[.int .i64 n] w fun e w' => e = .returned (.int .i64 (9 + n)) ∧ w = w' := by
  have e : wrap64 (9 + n) = 9 + n := by unfold wrap64; omega
  have h := size_any n w
  rw [e] at h
  exact h

/-- What Next answers. -/
def toldValue (r : Told) (v : Value) : Value := .tuple #[.int .i64 r.kind, v, .int .i64 r.size, .int .i64 r.err]

/-- Behind Next: the body in memory of one's own; the Table alone has turned. -/
def NextIs (w : World) (f t : Nat) (r : Told) (v : Value) (w' : World) : Prop := Owns w' v r.body ∧ Fr w' f t ∧ Turn (fun k => k = t) w w' ∧ ∀ k, v.ownBlock = some k → w.heap.size ≤ k

theorem NextIs.none {w w' : World} {f t : Nat} (h : Fr w f t) (ht : Turn (fun _ => False) w w') (k s e : Int) : NextIs w f t ⟨k, [], s, e⟩ (.slice none 0 0) w' := ⟨Owns.nil _, h.goes ht, ht.mono (fun _ _ h => h.elim), fun k hk => by simp [Value.ownBlock] at hk⟩

set_option maxHeartbeats 400000 in
set_option maxRecDepth 100000 in
theorem next_short (f t : Nat) (v : Value) (bs : List UInt8) (w : World) (h : Fr w f t) (hs : Sees w v bs) (hl : bs.length < 9) :
    Calls Tryz.prog 55 #[.pointer (some ⟨f, 0, none⟩), v] w fun e w' => ∃ v', e = .returned (toldValue (tell bs) v') ∧ NextIs w f t (tell bs) v' w' := by
  rw [tell_short bs hl]
  obtain ⟨ao, cap, rfl⟩ := hs.shape
  have hl' : (bs.length : Int) < 9 := by omega
  go_enter Tryz.func55, Tryz.ntmps55
  go_wp2
  (try simp only [Exit.inBlock, Exit.then])
  refine bodyPost_ret (results_tmp4 rfl _ _ _) rfl ?_
  exact ⟨_, rfl, NextIs.none h (Turn.refl _ _) _ _ _⟩

theorem take9 {A L S R : List UInt8} (h1 : A.length = 1) (h2 : L.length = 4) (h3 : S.length = 4) : (A ++ (L ++ (S ++ R))).take 9 = A ++ (L ++ S) := by
  rw [show A ++ (L ++ (S ++ R)) = (A ++ (L ++ S)) ++ R by simp, List.take_left' (by simp; omega)]
theorem take5 {A L S R : List UInt8} (h1 : A.length = 1) (h2 : L.length = 4) : (A ++ (L ++ (S ++ R))).take 5 = A ++ L := by
  rw [show A ++ (L ++ (S ++ R)) = (A ++ L) ++ (S ++ R) by simp, List.take_left' (by simp; omega)]
theorem drop9 {A L S R : List UInt8} (h1 : A.length = 1) (h2 : L.length = 4) (h3 : S.length = 4) : (A ++ (L ++ (S ++ R))).drop 9 = R := by
  rw [show A ++ (L ++ (S ++ R)) = (A ++ (L ++ S)) ++ R by simp, List.drop_left' (by simp; omega)]

theorem slab_lt {w : World} {v : Value} {bs : List UInt8} (h : Sees w v bs) (h0 : 0 < bs.length) {k : Nat} (hk : slab v = some k) : k < w.heap.size := by
  rcases h with ⟨_, e⟩ | ⟨a, cap, rfl, _, _, hc⟩
  · rw [e] at h0
    simp at h0
  · simp only [slab, Option.some.injEq] at hk
    subst hk
    have := World.block_lt_of_cell? _ _ (hc 0 _ (by simp only [u8s, List.getElem?_map, List.getElem?_eq_getElem h0, Option.map_some]; rfl))
    rwa [addr_add_block] at this

/-- A middle part of a slice. -/
theorem Sees.mid {w : World} {a : Addr} {cap : Nat} {bs : List UInt8} (h : Sees w (.slice (some a) bs.length cap) bs) (lo n : Nat) (hn : lo + n ≤ bs.length) (a2 : Addr) (h2 : a2 = a.add lo ∨ lo = cap) : Sees w (.slice (some a2) n (cap - lo)) ((bs.drop lo).take n) := by
  have h1 := h.behind lo (by omega) a2 h2
  have e : bs.length - lo = (bs.drop lo).length := by simp
  rw [e] at h1
  exact h1.front n (by simp; omega)

end Go.Proofs.YtfmbkpdjjhcmcaaGreat
