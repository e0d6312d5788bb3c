/- A file is found among those that are there: slices.BinarySearchFunc, and the method find. -/
import Derived.Test.YtnojedjdnecagaaSrch
namespace Go.Proofs.Ytnojedjdnecagaa
open Go.RowKit

/-- Files in memory, rising. -/
structure Files (w : World) (fv : Value) (fs : List Ent) : Prop where
  row : w.ownsRow 0 59 2 fv fs.length (ecells fs)
  rise : Rise fs
  val : ∀ e ∈ fs, ∃ ao n c, e.v = .slice ao n c

theorem Files.kept {S : Nat → Prop} {w w' : World} {fv : Value} {fs : List Ent} (h : Files w fv fs) (ht : Turn S w w') (hs : ∀ k, fv.ownBlock = some k → ¬ S k) : Files w' fv fs := ⟨row_kept h.row ht hs, h.rise, h.val⟩

theorem Files.cells {w : World} {g cap : Nat} {fs : List Ent} (h : Files w (.slice (some ⟨g, 0, none⟩) fs.length cap) fs) (j : Nat) (e : Ent) (he : fs[j]? = some e) :
    ∃ ao n c, e.v = .slice ao n c ∧ w.cell? ⟨g, j * 2, none⟩ = some (.int .i64 e.num) ∧ w.cell? ⟨g, j * 2 + 1, none⟩ = some (.slice ao n c) := by
  obtain ⟨hj, _⟩ := List.getElem?_eq_some_iff.1 he
  obtain ⟨ao, n, c, hv⟩ := h.val e (List.mem_of_getElem? he)
  refine ⟨ao, n, c, hv, ?_, ?_⟩
  · rw [h.row.cellAt (j * 2) (by omega), ecells_num fs j _ he]
  · rw [h.row.cellAt (j * 2 + 1) (by omega), ecells_val fs j _ he, hv]

theorem rise_at {fs : List Ent} (h : Rise fs) (i j : Nat) (a b : Ent) (ha : fs[i]? = some a) (hb : fs[j]? = some b) (hij : i < j) : a.num < b.num := by
  obtain ⟨h1, h2⟩ := List.getElem?_eq_some_iff.1 ha
  obtain ⟨h3, h4⟩ := List.getElem?_eq_some_iff.1 hb
  have := List.pairwise_iff_getElem.1 h i j h1 h3 hij
  rwa [h2, h4] at this

/-- Up to a all are below k, from b on none is. -/
structure Between (fs : List Ent) (k : Int) (a b : Nat) : Prop where
  lo : ∀ x e, x < a → fs[x]? = some e → e.num < k
  hi : ∀ x e, b ≤ x → fs[x]? = some e → k ≤ e.num

theorem Between.start (fs : List Ent) (k : Int) : Between fs k 0 fs.length :=
  ⟨fun x e hx => by omega, fun x e hx he => by rw [List.getElem?_eq_none (by omega)] at he; cases he⟩

theorem Between.up {fs : List Ent} {k : Int} {a b m : Nat} {e : Ent} (h : Between fs k a b) (hr : Rise fs) (he : fs[m]? = some e) (hk : e.num < k) : Between fs k (m + 1) b :=
  ⟨fun x e' hx he' => by
    by_cases hxm : x = m
    · subst hxm; rw [he] at he'; injection he' with he'; subst he'; exact hk
    · have := rise_at hr x m e' e he' he (by omega); omega, h.hi⟩

theorem Between.down {fs : List Ent} {k : Int} {a b m : Nat} {e : Ent} (h : Between fs k a b) (hr : Rise fs) (he : fs[m]? = some e) (hk : k ≤ e.num) : Between fs k a m :=
  ⟨h.lo, fun x e' hx he' => by
    by_cases hxm : x = m
    · subst hxm; rw [he] at he'; injection he' with he'; subst he'; exact hk
    · have := rise_at hr m x e e' he he' (by omega); omega⟩

theorem Between.pre {fs : List Ent} {k : Int} {a b : Nat} (h : Between fs k a b) : ∀ e ∈ fs.take a, e.num < k := by
  intro e he
  obtain ⟨x, hx⟩ := List.mem_iff_getElem?.1 he
  rw [List.getElem?_take] at hx
  split at hx
  · exact h.lo x e ‹_› hx
  · cases hx

theorem Between.place {fs : List Ent} {k : Int} {a : Nat} {e : Ent} (h : Between fs k a a) (hr : Rise fs) (he : fs[a]? = some e) (there : Bool) (ht : there = decide (e.num = k)) : Place fs k a there := by
  obtain ⟨hl, _⟩ := List.getElem?_eq_some_iff.1 he
  refine ⟨by omega, h.pre, ?_, ?_⟩
  · intro x hx
    obtain ⟨j, hj⟩ := List.mem_iff_getElem?.1 hx
    rw [List.getElem?_drop] at hj
    have h1 := h.hi a e (by omega) he
    cases there with
    | true =>
      simp at ht
      have := rise_at hr a _ e x he hj (by simp; omega)
      omega
    | false =>
      simp at ht
      simp at hj
      by_cases h0 : j = 0
      · subst h0; simp at hj; rw [he] at hj; injection hj with hj; subst hj; omega
      · have := rise_at hr a _ e x he hj (by omega)
        omega
  · rintro rfl
    exact ⟨e, he, by simpa using ht⟩

theorem Between.place_end {fs : List Ent} {k : Int} (h : Between fs k fs.length fs.length) : Place fs k fs.length false :=
  ⟨by omega, h.pre, by simp, by simp⟩

/-- What a search tells. -/
def Found (fs : List Ent) (k : Int) (w : World) (e : Ending) (w' : World) : Prop :=
  ∃ (at' : Nat) (there : Bool), e = .returned (.tuple #[.int .i64 at', .bool there]) ∧ Place fs k at' there ∧ Turn (fun _ => False) w w'

set_option maxHeartbeats 1000000 in
set_option maxRecDepth 100000 in
theorem search_any (fv : Value) (fs : List Ent) (k : Int) (w : World) (h : Files w fv fs) (hlen : fs.length ≤ 1099511627776) :
    Calls Try.prog 43 #[fv, .int .i64 k, .func (.func 44) #[] #[]] w fun e w' => Found fs k w e w' := by
  rcases row_shape h.row with ⟨rfl, hn⟩ | ⟨g, cap, rfl, hnc, hcm, hg⟩
  · have hfs : fs = [] := List.eq_nil_of_length_eq_zero hn
    subst hfs
    go_enter Try.func43, Try.ntmps43
    go_wp2
    go_loopw [9, 10, 11] (fun i j _ wr => i = .int .i64 0 ∧ j = .int .i64 0 ∧ wr = w) (fun _ _ _ _ => 0)
    case atStart => exact ⟨rfl, rfl, rfl⟩
    case round =>
      obtain ⟨rfl, rfl, rfl⟩ := hrel
      go_wp2
      go_ret2
      exact ⟨0, false, rfl, ⟨by simp, by simp, by simp, by simp⟩, Turn.refl _ _⟩
  · unfold maxLen at hcm
    have HB := hide hg
    go_enter Try.func43, Try.ntmps43
    go_wp2
    go_loopw [9, 10, 11] (fun i j _ wr => ∃ a b : Nat, a ≤ b ∧ b ≤ fs.length ∧ i = .int .i64 a ∧ j = .int .i64 b ∧ Between fs k a b ∧ Turn (fun _ => False) w wr) (fun i j _ _ => (intOf j - intOf i).toNat)
    case atStart => exact ⟨0, fs.length, by omega, by omega, rfl, rfl, Between.start fs k, Turn.refl _ _⟩
    case round =>
      obtain ⟨a, b, hab, hb, rfl, rfl, hbt, ht⟩ := hrel
      have hf := h.kept ht (fun _ _ h => h)
      by_cases hlt : a < b
      · obtain ⟨m, hm⟩ : ∃ m, m = (a + b) / 2 := ⟨_, rfl⟩
        have hm1 : m < b := by omega
        have hm2 : a ≤ m := by omega
        obtain ⟨e, he⟩ : ∃ e, fs[m]? = some e := ⟨_, List.getElem?_eq_getElem (by omega)⟩
        obtain ⟨ao, n, c, hv, c0, c1⟩ := hf.cells m e he
        have q0 : (a : Int) < b := by omega
        have q1 : IntKind.u64.wrap ((a : Int) + (b : Int)) = (a : Int) + (b : Int) := by rw [IntKind.wrap_u64]; omega
        have q2 : ((a : Int) + (b : Int)) / 2 = (m : Int) := by omega
        have q3 : (a : Int) + (b : Int) ≤ 2199023255552 := by omega
        have q4 : m < fs.length := by omega
        have He := hide he
        clear hm he hv
        go_wp2_with fail
        refine (find1_any _ _ _ _ _ _).mono ?_
        rintro e1 w1 ⟨rfl, t1⟩
        have ht1 := ht.trans t1
        by_cases hk : e.num < k
        · rw [cmpI_lt hk]
          go_wp2
          go_roundw
          case rel => exact ⟨m + 1, b, by omega, hb, by go_num, rfl, hbt.up h.rise (unhide He) hk, ht1⟩
          case measure => simp [intOf]; omega
        · have hk' : 0 ≤ cmpI e.num k := by unfold cmpI; split; omega; split <;> omega
          generalize cmpI e.num k = ck at *
          go_wp2
          go_roundw
          case rel => exact ⟨a, m, hm2, by omega, rfl, rfl, hbt.down h.rise (unhide He) (by omega), ht1⟩
          case measure => simp [intOf]; omega
      · obtain rfl : a = b := by omega
        have q0 : ¬ (a : Int) < a := by omega
        by_cases hl : a < fs.length
        · obtain ⟨e, he⟩ : ∃ e, fs[a]? = some e := ⟨_, List.getElem?_eq_getElem (by omega)⟩
          obtain ⟨ao, n, c, hv, c0, c1⟩ := hf.cells a e he
          have q1 : (a : Int) < fs.length := by omega
          have He := hide he
          clear he hv
          go_wp2_with fail
          refine (find1_any _ _ _ _ _ _).mono ?_
          rintro e1 w1 ⟨rfl, t1⟩
          have ht1 := ht.trans t1
          by_cases hk : e.num = k
          · have hp := hbt.place h.rise (unhide He) true (by simp [hk])
            rw [hk, cmpI_eq]
            go_wp2
            go_ret2
            exact ⟨a, true, rfl, hp, ht1⟩
          · have hp := hbt.place h.rise (unhide He) false (by simp [hk])
            have hk' : ¬ cmpI e.num k = 0 := by unfold cmpI; split; omega; split <;> omega
            have hk2 : (cmpI e.num k == 0) = false := by simpa using hk'
            generalize cmpI e.num k = ck at *
            go_wp2
            go_ret2
            exact ⟨a, false, rfl, hp, ht1⟩
        · obtain rfl : a = fs.length := by omega
          go_wp2
          go_ret2
          exact ⟨_, false, rfl, hbt.place_end, ht⟩

/-- A Disk's fields. -/
def dcells (fv pv : Value) (wk : Nat) (fu : Bool) (lf : Int) (de : Bool) : Array Value := #[fv, pv, .int .i64 wk, .bool fu, .int .i64 lf, .bool de]

set_option maxHeartbeats 400000 in
theorem find_any (b : Nat) (fv pv : Value) (wk : Nat) (fu : Bool) (lf : Int) (de : Bool) (fs : List Ent) (k : Int) (w : World) (hd : At 54 w b (dcells fv pv wk fu lf de)) (h : Files w fv fs) (hlen : fs.length ≤ 1099511627776) :
    Calls Try.prog 40 #[.pointer (some ⟨b, 0, none⟩), .int .i64 k] w fun e w' => Found fs k w e w' := by
  have c0 : w.cell? ⟨b, 0, none⟩ = some fv := hd.cell 0
  obtain ⟨ao, n, c, rfl⟩ : ∃ ao n c, fv = .slice ao n c := by
    rcases row_shape h.row with ⟨rfl, _⟩ | ⟨g, cap, rfl, _⟩ <;> exact ⟨_, _, _, rfl⟩
  go_enter Try.func40, Try.ntmps40
  go_wp2_with fail
  refine (search_any _ fs k _ h hlen).mono ?_
  rintro e w1 ⟨at', there, rfl, hp, t1⟩
  go_wp2
  go_ret2
  exact ⟨at', there, rfl, hp, t1⟩

end Go.Proofs.Ytnojedjdnecagaa
