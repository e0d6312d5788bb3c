/- Events in memory, as far as their IDs and versions go; items' Of. -/
import Derived.Test.YtehbefhpijifjaaItG
import Derived.Test.YtehbefhpijifjaaItN
import Derived.Deep.RegionWith
import Derived.Deep.CutRange
import Derived.Deep.CutBlock
namespace Go.Proofs.Ytehbefhpijifjaa
open Go.RowKit

theorem Try.infoEvent : (Try.prog.info? 46).map (fun i => (i.zero, i.size, i.bytes)) = some (some (.agg #[.int .i64 0, .int .i64 0, .int .i64 0, .int .i64 0, .int .i64 0, .int .i64 0, .string ⟨#[]⟩, .slice none 0 0, .slice none 0 0]), 9, 112) := by kernel_rfl

/-- An event of which only ID and version are told. -/
def ev9 (e : It) : List Value := [.int .i64 e.1, .int .i64 e.2, .int .i64 0, .int .i64 0, .int .i64 0, .int .i64 0, .string ⟨#[]⟩, .slice none 0 0, .slice none 0 0]

def cells9 : List It → List Value
  | [] => []
  | e :: r => ev9 e ++ cells9 r

theorem cells9_length (l : List It) : (cells9 l).length = l.length * 9 := by
  induction l with
  | nil => rfl
  | cons e r ih => simp only [cells9, List.length_append, List.length_cons, ih]; simp [ev9]; omega

theorem cells9_append (a b : List It) : cells9 (a ++ b) = cells9 a ++ cells9 b := by
  induction a with
  | nil => rfl
  | cons e r ih => simp [cells9, ih]

theorem cells9_at (l : List It) (k : Nat) (hk : k < l.length) (j : Nat) (hj : j < 9) : (cells9 l)[k * 9 + j]? = (ev9 l[k])[j]? := by
  induction l generalizing k with
  | nil => simp at hk
  | cons e r ih =>
    cases k with
    | zero =>
      simp only [cells9, Nat.zero_mul, Nat.zero_add, List.getElem_cons_zero]
      rw [List.getElem?_append_left (by simp [ev9]; omega)]
    | succ k =>
      have := ih k (by simpa using hk)
      simp only [cells9, List.getElem_cons_succ]
      rw [List.getElem?_append_right (by simp [ev9]; omega)]
      rw [← this]
      congr 1
      simp [ev9]
      omega

theorem ev9_one {u : Value} {e : It} (h : u ∈ ev9 e) : u.oneCell' = true := by
  simp only [ev9, List.mem_cons, List.not_mem_nil, or_false] at h
  rcases h with rfl | rfl | rfl | rfl | rfl | rfl | rfl | rfl | rfl <;> rfl

/-- Events of one's own, in new memory; nothing else has turned. -/
def EMade (w : World) (v : Value) (l : List It) (w' : World) : Prop := w'.ownsRow 0 46 9 v l.length (cells9 l) ∧ Turn (fun _ => False) w w' ∧ ∀ k, v.ownBlock = some k → w.heap.size ≤ k

section
variable {w w1 w2 : World} {v : Value} {l : List It}

theorem EMade.nil (w : World) : EMade w (.slice none 0 0) [] w := ⟨World.ownsRow_nil w 0 46 9, Turn.refl _ _, fun k hk => by cases hk⟩

theorem EMade.goes (h : EMade w v l w1) (t : Turn (fun _ => False) w1 w2) : EMade w v l w2 := by
  refine ⟨⟨h.1.1, ?_⟩, h.2.1.trans t, h.2.2⟩
  rcases h.1.2 with hn | ⟨g, cap, cur, rfl, hb, hgg, rest⟩
  · exact .inl hn
  · refine .inr ⟨g, cap, cur, rfl, hb, ?_, rest⟩
    rw [t.block g (Array.getElem?_eq_some_iff.1 hgg).1 (fun e => e)]
    exact hgg

theorem EMade.shape (h : EMade w v l w1) : ∃ ao cap, v = .slice ao l.length cap := by
  rcases h.1.2 with ⟨rfl, hn⟩ | ⟨g, cap, cur, rfl, _⟩
  · exact ⟨none, 0, by rw [hn]⟩
  · exact ⟨_, _, rfl⟩

theorem EMade.at {ao : Option Addr} {n cap : Nat} (h : EMade w (.slice ao n cap) l w1) (k : Nat) (hk : k < l.length) : ∃ g, ao = some ⟨g, 0, none⟩ ∧ ∀ j u, j < 9 → (ev9 l[k])[j]? = some u → w1.cell? ⟨g, k * 9 + j, none⟩ = some u := by
  have hc := fun g hg => World.ownsRow.cells h.1 (g := g) hg
  rcases h.1.2 with ⟨_, hn⟩ | ⟨g, cap', cur, e, _⟩
  · omega
  · injection e with e1 e2 e3
    subst e1
    refine ⟨g, rfl, fun j u hj hu => ?_⟩
    have := hc g rfl (k * 9 + j) u (by rw [cells9_at l k hk j hj]; exact hu)
    rwa [Addr.add_lit, Nat.zero_add] at this

/-- One more. -/
theorem EMade.cat (h : EMade w v l w1) (e : It) (hb : l.length ≤ 1000000) :
    ∃ v2 w2, (Builtin.append_ #[43, 43] 43 #[v, .slice (some ⟨w1.heap.size, 0, none⟩) 1 1]).run Try.prog (w1.alloc (.cells #[.int .i64 e.1, .int .i64 e.2, .int .i64 0, .int .i64 0, .int .i64 0, .int .i64 0, .string ⟨#[]⟩, .slice none 0 0, .slice none 0 0] 46)) = .ok v2 w2 ∧ EMade w v2 (l ++ [e]) w2 := by
  obtain ⟨i, hi, hz, hsz, hby⟩ := info_parts Try.infoEvent
  have ta : Turn (fun _ => False) w1 (w1.alloc (.cells #[.int .i64 e.1, .int .i64 e.2, .int .i64 0, .int .i64 0, .int .i64 0, .int .i64 0, .string ⟨#[]⟩, .slice none 0 0, .slice none 0 0] 46)) := (Turn.refl _ _).alloc _
  obtain ⟨v2, w2, hr, ho, hg, _, hat⟩ := run_append_own_at (P := Try.prog) (w1.alloc (.cells #[.int .i64 e.1, .int .i64 e.2, .int .i64 0, .int .i64 0, .int .i64 0, .int .i64 0, .string ⟨#[]⟩, .slice none 0 0, .slice none 0 0] 46)) 0 43 43 46 i _ 9 112 Try.underlying43 hi hz hsz hby rfl (by omega) v l.length (cells9 l) (h.goes ta).1 ⟨w1.heap.size, 0, none⟩ 1 1 (ev9 e) rfl
    (fun j u hj => by
      rw [Addr.add_lit, Nat.zero_add]
      rw [cell_of_row _ w1.heap.size j _ 46 (0, 0) (heap_alloc_new w1 _)]
      simpa [ev9] using hj) (fun u hu => ev9_one hu) (by unfold maxLen; omega) (by omega) (Nat.zero_le _)
  have tg : Turn (fun j => v.ownBlock = some j) (w1.alloc (.cells #[.int .i64 e.1, .int .i64 e.2, .int .i64 0, .int .i64 0, .int .i64 0, .int .i64 0, .string ⟨#[]⟩, .slice none 0 0, .slice none 0 0] 46)) w2 := (Turn.refl _ _).grown hg (fun j hj => .inl hj)
  have hs1 := h.2.1.size
  have hs2 := ta.size
  refine ⟨v2, w2, hr, ⟨?_, (h.2.1.trans ta).trans' tg (fun i hi e => by have := h.2.2 i e; omega), fun k hk => ?_⟩⟩
  · rw [List.length_append, cells9_append]
    have hx : cells9 [e] = ev9 e := by simp [cells9]
    rw [hx]
    exact ho
  · rcases hat with e | e
    · exact h.2.2 k (e ▸ hk)
    · rw [e] at hk
      injection hk with hk
      omega

end

theorem pushR_len' (e : It) : ∀ l : List It, (pushR l e).length ≤ l.length + 1
  | [] => by simp [pushR]
  | [a] => by simp only [pushR]; split <;> simp
  | a :: b :: r => by
    have := pushR_len' e (b :: r)
    simp only [pushR, List.length_cons] at this ⊢
    omega

/-- Where Of stands. -/
def OfAt (w : World) (res : List It) (f : Int) (vs : List Int) (out : Value) (k : Nat) (wr : World) : Prop :=
  ∃ L, IMade w out L wr ∧ pushes L (f + k) (vs.drop k) = res ∧ L.length ≤ k

theorem OfAt.next {w : World} {res : List It} {f : Int} {vs : List Int} {v2 : Value} {k : Nat} {w2 : World} {L : List It} (h : pushes L (f + k) (vs.drop k) = res) (hl : L.length ≤ k) (hk : k < vs.length) (m : IMade w v2 (pushR L (f + k, vs[k])) w2) (hlen : (pushR L (f + k, vs[k])).length ≤ L.length + 1) : OfAt w res f vs v2 (k + 1) w2 := by
  refine ⟨_, m, ?_, by omega⟩
  rw [List.drop_eq_getElem_cons hk, pushes] at h
  rw [← h]
  congr 1
  omega

section
variable {w : World} {v : Value} {l : List It}

set_option maxHeartbeats 8000000 in
set_option maxRecDepth 100000 in
theorem of_any (w0 : World) (f : Int) (h : EMade w0 v l w) (hf : ∀ e, l[0]? = some e → e.1 = f) (hfb : 1 ≤ f ∧ f ≤ 20) (hl : l.length ≤ 40) : Calls Try.prog 23 #[v] w fun e w' => ∃ v', e = .returned v' ∧ IMade w v' (pushes [] f (l.map (·.2))) w' := by
  obtain ⟨ao, cap, rfl⟩ := h.shape
  obtain ⟨len, hlen⟩ : ∃ n, n = l.length := ⟨_, rfl⟩
  obtain ⟨res, hres⟩ : ∃ r, r = pushes [] f (l.map (·.2)) := ⟨_, rfl⟩
  have H := hide h
  have HL := hide hlen
  have R := hide (And.intro hres hf)
  rw [← hres, ← hlen]
  rw [← hlen] at hl
  clear h hlen hres hf
  go_enter Try.func23, Try.ntmps23
  go_wp2_with fail
  go_loopw [3, 4, 5, 8] (fun out _ _ i wr => ∃ k : Nat, i = .int .i64 k ∧ k ≤ len ∧ OfAt w res f (l.map (·.2)) out k wr) (fun _ _ _ i _ => len - (intOf i).toNat)
  case atStart => exact ⟨0, rfl, by omega, [], IMade.nil _, by rw [unhide R |>.1]; simp, by simp⟩
  case round =>
    obtain ⟨k, rfl, hk, L, hmd, hpu, hLk⟩ := hrel
    obtain ⟨oo, oc, ho⟩ := hmd.shape
    obtain ⟨ln, hln⟩ : ∃ n, n = L.length := ⟨_, rfl⟩
    rw [← hln] at ho
    clear hln
    by_cases hlt : k < len
    · have hkl : k < l.length := by have := unhide HL; omega
      obtain ⟨g, rfl, hc⟩ := ((unhide H).goes hmd.2.1).at k hkl
      obtain ⟨g2, eg, hc0⟩ := ((unhide H).goes hmd.2.1).at 0 (by omega)
      injection eg with eg
      simp only [Addr.mk.injEq, and_true] at eg
      subst eg
      have f0 : l[0].1 = f := (unhide R).2 _ (List.getElem?_eq_getElem (by omega))
      have d0 := hc0 0 _ (by omega) rfl
      simp only [Nat.zero_mul, Nat.zero_add] at d0
      rw [f0] at d0
      have a0 := hc 0 _ (by omega) rfl
      have a1 := hc 1 _ (by omega) rfl
      have a2 := hc 2 _ (by omega) rfl
      have a3 := hc 3 _ (by omega) rfl
      have a4 := hc 4 _ (by omega) rfl
      have a5 := hc 5 _ (by omega) rfl
      have a6 := hc 6 _ (by omega) rfl
      have a7 := hc 7 _ (by omega) rfl
      have a8 := hc 8 _ (by omega) rfl
      simp only [Nat.add_zero] at a0
      have hkv : k < (l.map (·.2)).length := by simpa using hkl
      have hvk : (l.map (·.2))[k] = l[k].2 := by simp
      have hnx := fun (v2 : Value) (w2 : World) (m : IMade w v2 (pushR L (f + k, l[k].2)) w2) => OfAt.next (w := w) (f := f) (v2 := v2) (w2 := w2) hpu hLk hkv (by rw [hvk]; exact m) (by rw [hvk]; exact pushR_len' _ L)
      generalize l[k] = e at *
      obtain ⟨e1, e2⟩ := e
      simp only at a0 a1 hnx
      have NX := hide hnx
      have MD := hide hmd
      have q1 : (k : Int) < len := by omega
      clear hc hc0 hnx hpu hmd f0 hvk hkv
      subst ho
      go_wp2_with fail
      have ta : Turn (fun _ => False) wr (wr.alloc (.cells #[.int .i64 e1, .int .i64 e2, .int .i64 0, .int .i64 0, .int .i64 0, .int .i64 0, .string ⟨#[]⟩, .slice none 0 0, .slice none 0 0] 46)) := (Turn.refl _ _).alloc _
      have hA : At 46 (wr.alloc (.cells #[.int .i64 e1, .int .i64 e2, .int .i64 0, .int .i64 0, .int .i64 0, .int .i64 0, .string ⟨#[]⟩, .slice none 0 0, .slice none 0 0] 46)) wr.heap.size #[.int .i64 e1, .int .i64 e2, .int .i64 0, .int .i64 0, .int .i64 0, .int .i64 0, .string ⟨#[]⟩, .slice none 0 0, .slice none 0 0] := At.new _ _ _
      have x0 := (ta.cell (p := ⟨g, 0, none⟩) (World.block_lt_of_cell? _ _ d0) (fun e => e)).trans d0
      have x1 : (wr.alloc (.cells #[.int .i64 e1, .int .i64 e2, .int .i64 0, .int .i64 0, .int .i64 0, .int .i64 0, .string ⟨#[]⟩, .slice none 0 0, .slice none 0 0] 46)).cell? ⟨wr.heap.size, 1, none⟩ = some (.int .i64 e2) := hA.cell 1
      have hm2 := (unhide MD).goes ta
      generalize wr.alloc (.cells #[.int .i64 e1, .int .i64 e2, .int .i64 0, .int .i64 0, .int .i64 0, .int .i64 0, .string ⟨#[]⟩, .slice none 0 0, .slice none 0 0] 46) = wx at *
      have HLn := hide (show ∀ w' X, X = #[.slice oo ln oc, .agg #[.int .i64 (f + (k : Int)), .int .i64 e2]] → Turn (fun _ => False) wx w' → Calls Try.prog 28 X w' fun x w2 => ∃ v', x = .returned v' ∧ IMade w v' (pushR L (f + k, e2)) w2 from fun w' X hX t => hX ▸ lengthen_any (f + k, e2) (hm2.goes t) (by omega))
      have e3 : IntKind.i64.wrap (f + (k : Int)) = f + (k : Int) := by rw [IntKind.wrap_i64]; omega
      clear hA hm2 ta d0 a0 a1 a2 a3 a4 a5 a6 a7 a8
      go_region_with (go_at_call 28; go_must (refine (unhide HLn _ _ (by rfl) (by first | exact Turn.refl _ wx | exact (Turn.refl _ wx).drew)).mono ?_); rintro e w9 ⟨v9, rfl, m9⟩; obtain ⟨o9, c9, e9⟩ := m9.shape; have M9 := hide (unhide NX _ _ m9); generalize (pushR L (f + k, e2)).length = n9 at e9; clear m9; subst e9)
      all_goals (
        go_wp2
        go_roundw
        case rel => exact ⟨k + 1, by go_num, by omega, unhide M9⟩
        case measure => simp [intOf]; omega)
    · obtain rfl : k = len := by omega
      have q1 : ¬ (k : Int) < k := by omega
      rw [List.drop_of_length_le (by have := unhide HL; simp; omega), pushes] at hpu
      subst hpu
      have MD := hide hmd
      clear hmd
      subst ho
      go_wp2_with fail
      go_ret
      exact ⟨_, rfl, unhide MD⟩

end

end Go.Proofs.Ytehbefhpijifjaa
