/- What stands below the proof, in one text. -/
import Derived.Test.YtnipdgigjcaolaaGreatPkC
import Derived.Test.YtnipdgigjcaolaaGreatPkF
import Derived.Test.YtnipdgigjcaolaaGreatPkA
import Derived.BigQuiet
/- Is a record too long: slices.ContainsFunc over records. -/
namespace Go.Proofs.YtnipdgigjcaolaaGreat
open Go.RowKit

/-- One has more bytes than a frame takes. -/
def tooLong (l : List (Value × List UInt8)) : Prop := ∃ p ∈ l, 1048576 < p.2.length

set_option maxHeartbeats 400000 in
theorem tooLong1_yes (ao : Option Addr) (n c : Nat) (w : World) (h : 1048576 < n) : Calls Tryz.prog 132 #[.slice ao n c] w fun e w' => e = .returned (.bool true) ∧ w = w' := by
  have h1 : (1048576 : Int) < n := by omega
  go_enter Tryz.func132, Tryz.ntmps132
  go_wp2
  go_ret
  exact ⟨rfl, rfl⟩

set_option maxHeartbeats 400000 in
theorem tooLong1_no (ao : Option Addr) (n c : Nat) (w : World) (h : ¬ 1048576 < n) : Calls Tryz.prog 132 #[.slice ao n c] w fun e w' => e = .returned (.bool false) ∧ w = w' := by
  have h1 : decide ((1048576 : Int) < n) = false := by simp; omega
  go_enter Tryz.func132, Tryz.ntmps132
  go_wp2
  go_ret
  exact ⟨rfl, rfl⟩

section
variable {Q : Nat → Prop} {w : World} {v : Value} {l : List (Value × List UInt8)}

set_option maxHeartbeats 1000000 in
set_option maxRecDepth 100000 in
theorem index_any (h : RL Q w v l) : Calls Tryz.prog 159 #[v, .func (.func 132) #[] #[]] w fun e w' => ∃ r : Int, e = .returned (.int .i64 r) ∧ (0 ≤ r ↔ tooLong l) ∧ w = w' := by
  obtain ⟨ao, cap, rfl⟩ := h.shape
  have hm := h.len
  unfold maxLen at hm
  have HA := hide h.at
  obtain ⟨len, hlen⟩ : ∃ len, len = l.length := ⟨_, rfl⟩
  have HL := hide hlen
  rw [← hlen] at hm ⊢
  clear hlen h
  go_enter Tryz.func159, Tryz.ntmps159
  go_wp2
  go_loopw [5, 8] (fun _ i wr => ∃ k : Nat, i = .int .i64 k ∧ k ≤ len ∧ (∀ p ∈ l.take k, ¬ 1048576 < p.2.length) ∧ wr = w) (fun _ i _ => len - (intOf i).toNat)
  case atStart => exact ⟨0, rfl, by omega, by simp, rfl⟩
  case round =>
    obtain ⟨k, rfl, hk, hno, rfl⟩ := hrel
    by_cases hlt : k < len
    · have hkl : k < l.length := by have := unhide HL; omega
      obtain ⟨g, cap', bo, n, c, e, e1, e2, hc⟩ := unhide HA k hkl
      injection e with ea eb ec
      subst ea
      have q1 : (k : Int) < len := by omega
      have En := hide e2
      have Hk := hide hkl
      clear e1 e2 eb ec
      by_cases hn : 1048576 < n
      · go_wp2_with fail
        refine (tooLong1_yes _ _ _ _ hn).mono ?_
        rintro e w1 ⟨rfl, rfl⟩
        go_wp2
        go_ret
        refine ⟨k, rfl, ⟨fun _ => ⟨l[k]'(unhide Hk), List.getElem_mem _, by have := unhide En; omega⟩, fun _ => by omega⟩, rfl⟩
      · go_wp2_with fail
        refine (tooLong1_no _ _ _ _ hn).mono ?_
        rintro e w1 ⟨rfl, rfl⟩
        go_wp2
        go_roundw
        case rel =>
          refine ⟨k + 1, by go_num, by omega, fun p hp => ?_, by trivial⟩
          rw [List.take_succ_eq_append_getElem (unhide Hk)] at hp
          rcases List.mem_append.1 hp with hp | hp
          · exact hno p hp
          · simp only [List.mem_singleton] at hp
            subst hp
            have := unhide En
            omega
        case measure => simp [intOf]; omega
    · obtain rfl : k = len := by omega
      have q1 : ¬ (k : Int) < k := by omega
      go_wp2
      go_ret
      refine ⟨-1, rfl, ⟨fun h => by omega, fun ⟨p, hp, h1⟩ => ?_⟩, rfl⟩
      exact absurd h1 (hno p (by rw [List.take_of_length_le (by have := unhide HL; omega)]; exact hp))

set_option maxHeartbeats 1000000 in
set_option maxRecDepth 100000 in
theorem tooLong_yes (h : RL Q w v l) (ht : tooLong l) : Calls Tryz.prog 100 #[v] w fun e w' => e = .returned (.bool true) ∧ w = w' := by
  have H := hide (index_any h)
  obtain ⟨ao, cap, rfl⟩ := h.shape
  have hc : Calls Tryz.prog 131 #[.slice ao l.length cap, .func (.func 132) #[] #[]] w fun e w' => e = .returned (.bool true) ∧ w = w' := by
    clear h
    generalize l.length = len at *
    go_enter Tryz.func131, Tryz.ntmps131
    go_wp2_with fail
    refine (unhide H).mono ?_
    rintro e w1 ⟨r, rfl, hr, rfl⟩
    have h0 : 0 ≤ r := hr.2 ht
    clear hr
    go_wp2
    go_ret
    exact ⟨rfl, rfl⟩
  clear H h
  generalize l.length = len at *
  go_enter Tryz.func100, Tryz.ntmps100
  go_wp2_with fail
  refine hc.mono ?_
  rintro e w1 ⟨rfl, rfl⟩
  go_wp2
  go_ret
  exact ⟨rfl, rfl⟩

set_option maxHeartbeats 1000000 in
set_option maxRecDepth 100000 in
theorem tooLong_no (h : RL Q w v l) (ht : ¬ tooLong l) : Calls Tryz.prog 100 #[v] w fun e w' => e = .returned (.bool false) ∧ w = w' := by
  have H := hide (index_any h)
  obtain ⟨ao, cap, rfl⟩ := h.shape
  have hc : Calls Tryz.prog 131 #[.slice ao l.length cap, .func (.func 132) #[] #[]] w fun e w' => e = .returned (.bool false) ∧ w = w' := by
    clear h
    generalize l.length = len at *
    go_enter Tryz.func131, Tryz.ntmps131
    go_wp2_with fail
    refine (unhide H).mono ?_
    rintro e w1 ⟨r, rfl, hr, rfl⟩
    have h0 : decide (0 ≤ r) = false := by simpa using fun h => ht (hr.1 h)
    clear hr
    go_wp2
    go_ret
    exact ⟨rfl, rfl⟩
  clear H h
  generalize l.length = len at *
  go_enter Tryz.func100, Tryz.ntmps100
  go_wp2_with fail
  refine hc.mono ?_
  rintro e w1 ⟨rfl, rfl⟩
  go_wp2
  go_ret
  exact ⟨rfl, rfl⟩

end

end Go.Proofs.YtnipdgigjcaolaaGreat

/- A Log, plainly, and in memory: it lays frames, and keeps them. -/
namespace Go.Proofs.YtnipdgigjcaolaaGreat
open Go.RowKit

/-- The frames of records, of a kind. -/
def frames (k : Int) (l : List (List UInt8)) : List UInt8 := (l.map (record k)).flatten

theorem frames_nil (k : Int) : frames k [] = [] := rfl
theorem frames_snoc (k : Int) (l : List (List UInt8)) (x : List UInt8) : frames k (l ++ [x]) = frames k l ++ record k x := by simp [frames]
theorem frames_append (k : Int) (a b : List (List UInt8)) : frames k (a ++ b) = frames k a ++ frames k b := by simp [frames]

/-- Frames and their mark. -/
def laidOf (k m : Int) (l : List (List UInt8)) : List UInt8 := frames k l ++ record m []

theorem frames_take_le (k : Int) (l : List (List UInt8)) (n : Nat) : (frames k (l.take n)).length ≤ (frames k l).length := by
  conv => rhs; rw [← List.take_append_drop n l, frames_append, List.length_append]
  omega

theorem DL.less {w0 w : World} {K K2 : Nat → Prop} {b N : Nat} {s : DSt} (h : DL w0 K w b N s) (hK : ∀ j, K2 j → K j) : DL w0 K2 w b N s := by
  obtain ⟨S, hd, hS⟩ := h.dk
  exact ⟨⟨S, hd, fun j hj => ⟨(hS j hj).1, fun hk => (hS j hj).2 (hK j hk)⟩⟩, fun j hj => h.held j (hK j hj), h.turn⟩

/-- A Log, plainly. -/
structure WSt where
  d : DSt
  limit : Int
  at' : Int
  size : Int
  down : Bool

/-- A Log's fields. -/
def lcells (b f : Nat) (limit at' size : Int) (down : Bool) : Array Value := #[.pointer (some ⟨b, 0, none⟩), .pointer (some ⟨f, 0, none⟩), .int .i64 limit, .int .i64 at', .int .i64 size, .bool down]

section
variable {w : World} {l f t : Nat} {Q : Nat → Prop} {v : Value} {rl : List (Value × List UInt8)}

/-- Frames within the making. -/
structure Laying (w : World) (f t : Nat) (bs : List UInt8) (v : Value) (wr : World) : Prop where
  own : Owns wr v bs
  new : ∀ k, v.ownBlock = some k → w.heap.size ≤ k
  fr : Fr wr f t
  turn : Turn (fun k => k = t) w wr

theorem Laying.more {w1 w2 : World} {bs x : List UInt8} {v v1 v2 : Value} {wr : World} (h : Laying w f t bs v wr) (hltt : t < w.heap.size) (hltf : f < w.heap.size) (hl : Laid wr f t x v1 w1) (ho : Owns w2 v2 (bs ++ x)) (hg : w1.grownBy w2 v.ownBlock) (hk : v2.ownBlock = v.ownBlock ∨ v2.ownBlock = some w1.heap.size) : Laying w f t (bs ++ x) v2 w2 := by
  have tg : Turn (fun j => v.ownBlock = some j) w1 w2 := (Turn.refl _ _).grown hg (fun j hj => .inl hj)
  have s1 := h.turn.size
  have s2 := hl.2.2.2.size
  refine ⟨ho, fun k e => ?_, hl.2.2.1.kept tg (fun e => by have := h.new _ e; omega) (fun e => by have := h.new _ e; omega), (h.turn.trans hl.2.2.2).trans' tg (fun j hj e => by have := h.new _ e; omega)⟩
  rcases hk with hk | hk
  · exact h.new k (hk ▸ e)
  · rw [hk] at e
    injection e with e
    omega

set_option maxHeartbeats 2000000 in
set_option maxRecDepth 100000 in
theorem layAll_any {b : Nat} {limit at' size : Int} {down : Bool} (k m : Int) (hk0 : 1 ≤ k) (hk1 : k ≤ 255) (hm0 : 1 ≤ m) (hm1 : m ≤ 255) (hA : At 101 w l (lcells b f limit at' size down)) (hF : Fr w f t) (hlt' : l ≠ t) (hr : RL Q w v rl) (hQt : ¬ Q t) (hno : ¬ tooLong rl) (hsz : (laidOf k m (rl.map (·.2))).length ≤ 140737488355328) :
    Calls Tryz.prog 102 #[.pointer (some ⟨l, 0, none⟩), v, .int .i64 k, .int .i64 m] w fun e w' => ∃ v', e = .returned v' ∧ Laid w f t (laidOf k m (rl.map (·.2))) v' w' := by
  obtain ⟨i0, hi, hz0, hz1, hz2⟩ := info_parts Tryz.infoU8
  obtain ⟨vo, vc, hve⟩ := hr.shape
  have hlen := hr.len
  unfold maxLen at hlen
  have hltt := hF.ltt
  have hltf := hF.ltf
  have hll := hA.lt
  have HA := hide hA
  have HR := hide hr
  have HAt := hide hr.at
  have HS := hide hsz
  have HNo := hide hno
  obtain ⟨len, hlenE⟩ : ∃ len, len = rl.length := ⟨_, rfl⟩
  have HL := hide hlenE
  have HF := hide hF
  rw [← hlenE] at hve hlen
  subst hve
  clear hlenE hr hsz hno hA hF
  go_enter Tryz.func102, Tryz.ntmps102
  go_wp2
  go_loopw [9, 11, 12, 13, 18] (fun lv _ _ _ i wr => ∃ n : Nat, i = .int .i64 n ∧ n ≤ len ∧ Laying w f t (frames k ((rl.map (·.2)).take n)) lv wr) (fun _ _ _ _ i _ => len - (intOf i).toNat)
  case atStart => exact ⟨0, rfl, by omega, Owns.nil _, fun k hk => by simp [Value.ownBlock] at hk, unhide HF, Turn.refl _ _⟩
  case round =>
    clear HF
    obtain ⟨n, rfl, hn, hL⟩ := hrel
    have hAr := (unhide HA).kept hL.turn hlt'
    have c1 : wr.cell? ⟨l, 1, none⟩ = some (.pointer (some ⟨f, 0, none⟩)) := hAr.cell 1
    clear hAr
    obtain ⟨lo, lc, hle⟩ := hL.own.shape
    have hll2 : (frames k ((rl.map (·.2)).take n)).length ≤ (frames k (rl.map (·.2))).length := frames_take_le _ _ _
    have htot : (laidOf k m (rl.map (·.2))).length = (frames k (rl.map (·.2))).length + 9 := by unfold laidOf; rw [List.length_append, record_length]; rfl
    by_cases hlt : n < len
    · have hnl : n < rl.length := by have := unhide HL; omega
      obtain ⟨g, cap', ao, nb, c, e, e1, e2, hc⟩ := unhide HAt n hnl
      injection e with ea eb ec
      have hrn := (unhide HR).each rl[n] (List.getElem_mem hnl)
      have hcr : wr.cell? ⟨g, n, none⟩ = some (.slice ao nb c) := by
        have hQg : Q g := by
          rcases unhide HR with ⟨h0, _⟩ | ⟨g', cap, h0, _, _, h3, _⟩
          · rw [ea] at h0; simp at h0
          · rw [ea] at h0
            simp only [Value.slice.injEq, Option.some.injEq, Addr.mk.injEq, and_true] at h0
            exact h0.1 ▸ h3
        rw [hL.turn.cell (p := ⟨g, n, none⟩) (World.block_lt_of_cell? _ _ hc) (fun e => hQt (e ▸ hQg))]
        exact hc
      have hsn : Sees wr (.slice ao nb c) rl[n].2 := by
        rw [← e1]
        exact hrn.1.kept' hL.turn (fun h0 j hj e => hQt (e ▸ hrn.2 h0 j hj))
      have hb1 : rl[n].2.length ≤ 1048576 := Nat.le_of_not_lt (fun h => unhide HNo ⟨rl[n]'hnl, List.getElem_mem hnl, h⟩)
      have hst : 0 < rl[n].2.length → slab (.slice ao nb c) ≠ some t := fun h0 e => hQt (hrn.2 h0 t (e1 ▸ e))
      have hsl : 0 < rl[n].2.length → ∀ j, slab (.slice ao nb c) = some j → j < wr.heap.size := fun h0 j e => slab_lt hsn h0 e
      have hrec : (record k rl[n].2).length = 9 + rl[n].2.length := record_length _ _
      have hnext : frames k ((rl.map (·.2)).take (n + 1)) = frames k ((rl.map (·.2)).take n) ++ record k rl[n].2 := by
        rw [List.take_succ_eq_append_getElem (by simpa using hnl), frames_snoc]
        simp
      have hle2 : (frames k ((rl.map (·.2)).take (n + 1))).length ≤ (frames k (rl.map (·.2))).length := frames_take_le _ _ _
      rw [hnext, List.length_append] at hle2
      have hbd : (frames k ((rl.map (·.2)).take n)).length + (record k rl[n].2).length ≤ 140737488355328 := by have := unhide HS; omega
      have Hnext := hide hnext
      have HB := hide hbd
      generalize frames k ((rl.map (·.2)).take n) = fs at *
      generalize rl[n].2 = xs at *
      have HE2 := hide e2
      subst ea hle
      have q1 : (n : Int) < len := by omega
      clear eb ec e1 e2 hc hrn hnext hle2 hbd hrec hll2 htot
      go_wp2_with fail
      refine (lay_yes f t k _ xs wr hL.fr hk0 hk1 hsn hb1 hst hsl).mono ?_
      rintro e w1 ⟨v1, rfl, hl1⟩
      obtain ⟨o1, c1', hv1⟩ := hl1.1.shape
      have hown1 : Owns w1 (.slice lo fs.length lc) fs := hL.own.kept hl1.2.2.2 (fun j hj e => by have := hL.new j hj; omega)
      have hsee1 := hl1.1.sees
      rw [hv1] at hsee1 hl1 ⊢
      clear hsn hb1 hst hsl c1 hcr
      go_wp2_with (at_builtin; refine wpList_append_sees _ rfl (.tmp 32) (.tmp 33) 29 rfl i0 Tryz.underlying29 hi hz0 hz1 hz2 _ fs rfl hown1 _ (record k xs) rfl hsee1 (unhide HB) ?_; intro v2 w2 ho2 hg2 hk2)
      go_roundw
      case rel =>
        refine ⟨n + 1, by go_num, by omega, ?_⟩
        rw [unhide Hnext]
        exact hL.more hltt hltf hl1 ho2 hg2 hk2
      case measure => simp [intOf]; omega
    · obtain rfl : n = len := by omega
      have q1 : ¬ (n : Int) < n := by omega
      have hall : (rl.map (·.2)).take n = rl.map (·.2) := List.take_of_length_le (by have := unhide HL; simp; omega)
      rw [hall] at hL hll2
      have hbd : (frames k (rl.map (·.2))).length + (record m []).length ≤ 140737488355328 := by have := unhide HS; rw [record_length]; simp; omega
      have HB := hide hbd
      rw [hall] at hle
      have hres : laidOf k m (rl.map (·.2)) = frames k (rl.map (·.2)) ++ record m [] := rfl
      have HRes := hide hres
      generalize frames k (rl.map (·.2)) = fs at *
      subst hle
      clear hbd hll2 htot hres hall
      go_wp2_with fail
      refine (lay_yes f t m _ [] wr hL.fr hm0 hm1 (Sees.nil _) (by simp) (by simp) (by simp)).mono ?_
      rintro e w1 ⟨v1, rfl, hl1⟩
      obtain ⟨o1, c1', hv1⟩ := hl1.1.shape
      have hown1 : Owns w1 (.slice lo fs.length lc) fs := hL.own.kept hl1.2.2.2 (fun j hj e => by have := hL.new j hj; omega)
      have hsee1 := hl1.1.sees
      rw [hv1] at hsee1 hl1 ⊢
      clear c1
      go_wp2_with (at_builtin; refine wpList_append_sees _ rfl (.tmp 45) (.tmp 46) 29 rfl i0 Tryz.underlying29 hi hz0 hz1 hz2 _ fs rfl hown1 _ (record m []) rfl hsee1 (unhide HB) ?_; intro v2 w2 ho2 hg2 hk2)
      have hfin := hL.more hltt hltf hl1 ho2 hg2 hk2
      go_ret
      rw [unhide HRes]
      exact ⟨_, rfl, hfin.own, hfin.new, hfin.fr, hfin.turn⟩

end

end Go.Proofs.YtnipdgigjcaolaaGreat

/- What files come to when they are opened, plainly. -/
namespace Go.Proofs.YtnipdgigjcaolaaGreat

/-- Files are read, one behind the other: the history, and the number behind the last one. -/
def openN (rd : Fs) : List Int → HSt × Int → Option (HSt × Int)
  | [], x => some x
  | k :: r, x => match x.1.file k (rd k) with
    | none => none
    | some h => openN rd r (h, k + 1)

theorem openN_append (rd : Fs) (a b : List Int) (x : HSt × Int) : openN rd (a ++ b) x = (openN rd a x).bind (openN rd b) := by
  induction a generalizing x with
  | nil => rfl
  | cons k r ih =>
    rw [List.cons_append, openN, openN]
    split
    · rfl
    · exact ih _

theorem openN_no {rd : Fs} {l : List Int} {n : Nat} {k : Int} {x : HSt × Int} {h : HSt} {a : Int} (h0 : openN rd (l.take n) x = some (h, a)) (hk : l[n]? = some k) (h1 : h.file k (rd k) = none) : openN rd l x = none := by
  obtain ⟨e1, e2⟩ := List.getElem?_eq_some_iff.1 hk
  have e3 : l = l.take n ++ k :: l.drop (n + 1) := by rw [← e2, List.getElem_cons_drop]; simp
  rw [e3, openN_append, h0]
  show openN rd (k :: _) (h, a) = none
  rw [openN, h1]

theorem openN_yes {rd : Fs} {l : List Int} {n : Nat} {k : Int} {x : HSt × Int} {h h' : HSt} {a : Int} (h0 : openN rd (l.take n) x = some (h, a)) (hk : l[n]? = some k) (h1 : h.file k (rd k) = some h') : openN rd (l.take (n + 1)) x = some (h', k + 1) := by
  obtain ⟨e1, e2⟩ := List.getElem?_eq_some_iff.1 hk
  rw [List.take_succ_eq_append_getElem e1, e2, openN_append, h0]
  show openN rd [k] (h, a) = _
  rw [openN, h1]
  rfl

theorem frs_len : ∀ (n : Nat) (bs : List UInt8), bs.length ≤ n → (frs bs).length * 9 ≤ bs.length := by
  intro n
  induction n using Nat.strongRecOn with
  | ind n ih =>
    intro bs hn
    by_cases he : (tell bs).err = 0
    · obtain ⟨h1, h2, _⟩ := tell_ok he
      rw [frs_yes he, List.length_cons]
      have hd : (bs.drop (tell bs).size.toNat).length = bs.length - (tell bs).size.toNat := List.length_drop
      have := ih (n - 1) (by omega) (bs.drop (tell bs).size.toNat) (by omega)
      omega
    · rw [frs_no he]
      simp

namespace HSt

theorem take_len {h h' : HSt} {file k : Int} {body : List UInt8} (e : h.take file k body = some h') : h'.recs.length + h'.begun.length ≤ h.recs.length + h.begun.length + 1 := by
  unfold take at e
  split at e
  · split at e
    · injection e with e
      subst e
      simp [begin']
      try omega
    · simp at e
  · split at e
    · split at e
      · simp at e
      · injection e with e
        subst e
        simp [commits]
        try omega
    · split at e
      · split at e
        · simp at e
        · injection e with e
          subst e
          simp [anew]
          try omega
      · simp at e

theorem takes_len {file : Int} : ∀ {l : List (Int × List UInt8)} {h h' : HSt}, takes file l h = some h' → h'.recs.length + h'.begun.length ≤ h.recs.length + h.begun.length + l.length
  | [], h, h', e => by
    injection e with e
    subst e
    simp
  | x :: r, h, h', e => by
    rw [takes] at e
    split at e
    · simp at e
    · rename_i h1 e1
      have := take_len e1
      have := takes_len e
      rw [List.length_cons]
      omega

theorem file_len {h h' : HSt} {k : Int} {bs : List UInt8} (e : h.file k bs = some h') : h'.recs.length ≤ h.recs.length + bs.length := by
  have h1 := takes_len e
  have h2 := frs_len _ bs (Nat.le_refl _)
  have h3 : h.fresh.recs = h.recs := rfl
  have h4 : h.fresh.begun = [] := rfl
  rw [h3, h4] at h1
  simp at h1
  omega

end HSt

theorem openN_len {rd : Fs} {B : Nat} (hB : ∀ k, (rd k).length ≤ B) : ∀ {l : List Int} {x y : HSt × Int}, openN rd l x = some y → y.1.recs.length ≤ x.1.recs.length + l.length * B
  | [], x, y, e => by
    injection e with e
    subst e
    simp
  | k :: r, x, y, e => by
    rw [openN] at e
    split at e
    · simp at e
    · rename_i h1 e1
      have h2 := HSt.file_len e1
      have h3 := openN_len hB e
      have h4 := hB k
      rw [List.length_cons, Nat.add_mul]
      simp only at h3
      omega

/-- Files are removed, whatever is told. -/
def DSt.gone (d : DSt) (l : List Int) : DSt := l.foldl (fun d k => (d.rem k).2) d

theorem gone_snoc (d : DSt) (l : List Int) (k : Int) : d.gone (l ++ [k]) = ((d.gone l).rem k).2 := by simp [DSt.gone]

end Go.Proofs.YtnipdgigjcaolaaGreat

/- Whole commits and checkpoints, and torn ends, plainly: what their bytes come to. -/
namespace Go.Proofs.YtnipdgigjcaolaaGreat
open Go.RowKit

theorem tell_record_on (k : Int) (bs R : List UInt8) (h1 : 1 ≤ k) (h2 : k ≤ 255) (h3 : bs.length ≤ 1048576) : tell (record k bs ++ R) = ⟨k, bs, 9 + bs.length, 0⟩ := by
  rw [record_eq, List.append_assoc, List.append_assoc, List.append_assoc, tell_parts _ (be_length _ _) (be_length _ _) (be_length _ _)]
  have hk : num (be k 1) = k := by rw [num_be]; unfold wrap64; omega
  have hl := num_be4 (bs.length : Int) (by omega) (by omega)
  have hs := csum_small (front k bs.length ++ bs)
  have hc := num_be4 _ hs.1 hs.2
  have ht : (bs ++ R).take (num (be (bs.length : Int) 4)).toNat = bs := by
    rw [hl, Int.toNat_natCast, List.take_left']
    rfl
  rw [told_well]
  · rw [ht, hk, hl]
  · rw [hk, hl]
    omega
  · rw [hl, List.length_append]
    omega
  · rw [ht, hc]
    rfl

theorem frs_record (k : Int) (bs R : List UInt8) (h1 : 1 ≤ k) (h2 : k ≤ 255) (h3 : bs.length ≤ 1048576) : frs (record k bs ++ R) = (k, bs) :: frs R := by
  have h := tell_record_on k bs R h1 h2 h3
  rw [frs_yes (by rw [h]), h]
  simp only
  have hn : ((9 : Int) + bs.length).toNat = (record k bs).length := by rw [record_length]; omega
  rw [hn, List.drop_left']
  rfl

theorem frs_nil : frs [] = [] := rfl

theorem frs_frames (k : Int) (h1 : 1 ≤ k) (h2 : k ≤ 255) : ∀ (l : List (List UInt8)) (R : List UInt8), (∀ x ∈ l, x.length ≤ 1048576) → frs (frames k l ++ R) = l.map (fun x => (k, x)) ++ frs R
  | [], R, _ => rfl
  | x :: r, R, h => by
    have e : frames k (x :: r) ++ R = record k x ++ (frames k r ++ R) := by simp [frames]
    rw [e, frs_record k x _ h1 h2 (h x (by simp)), frs_frames k h1 h2 r R (fun y hy => h y (by simp [hy]))]
    rfl

/-- A commit, or a checkpoint. -/
abbrev Chunk := Bool × List (List UInt8)

def Chunk.kind (c : Chunk) : Int := if c.1 then 3 else 1
def Chunk.mark (c : Chunk) : Int := if c.1 then 4 else 2
def Chunk.bytes (c : Chunk) : List UInt8 := laidOf c.kind c.mark c.2

structure Chunk.Ok (c : Chunk) : Prop where
  some' : c.1 = false → c.2 ≠ []
  fit : ∀ x ∈ c.2, x.length ≤ 1048576

theorem Chunk.kinds (c : Chunk) : 1 ≤ c.kind ∧ c.kind ≤ 255 ∧ 1 ≤ c.mark ∧ c.mark ≤ 255 ∧ (c.kind = 1 ∨ c.kind = 3) := by
  unfold kind mark
  split <;> decide

theorem frs_chunk (c : Chunk) (hc : c.Ok) (R : List UInt8) : frs (c.bytes ++ R) = (c.2.map (fun x => (c.kind, x)) ++ [(c.mark, [])]) ++ frs R := by
  obtain ⟨h1, h2, h3, h4, _⟩ := c.kinds
  unfold Chunk.bytes laidOf
  rw [List.append_assoc, frs_frames _ h1 h2 _ _ hc.fit, frs_record _ [] _ h3 h4 (by simp), List.append_assoc]
  rfl

/-- What is left of a commit or checkpoint that is not whole. -/
def Torn (t : List UInt8) : Prop := ∃ (c : Chunk) (n : Nat), c.Ok ∧ n < c.bytes.length ∧ t = c.bytes.take n

theorem torn_frs (k m : Int) (h1 : 1 ≤ k) (h2 : k ≤ 255) (h3 : 1 ≤ m) (h4 : m ≤ 255) : ∀ (l : List (List UInt8)) (n : Nat), (∀ x ∈ l, x.length ≤ 1048576) → n < (laidOf k m l).length → ∃ l' : List (List UInt8), frs ((laidOf k m l).take n) = l'.map (fun x => (k, x))
  | [], n, _, hn => by
    refine ⟨[], ?_⟩
    have e : laidOf k m [] = record m [] := rfl
    rw [e] at hn ⊢
    rw [record_length] at hn
    rw [frs_no]
    · rfl
    · rw [tell_cut m [] h3 h4 (by simp) n hn]
      simp
  | x :: r, n, h, hn => by
    have e : laidOf k m (x :: r) = record k x ++ laidOf k m r := by simp [laidOf, frames]
    have hx := h x (by simp)
    rw [e] at hn ⊢
    by_cases hlt : n < (record k x).length
    · refine ⟨[], ?_⟩
      rw [List.take_append_of_le_length (by omega), frs_no]
      · rfl
      · rw [record_length] at hlt
        rw [tell_cut k x h1 h2 hx n hlt]
        simp
    · obtain ⟨l', hl'⟩ := torn_frs k m h1 h2 h3 h4 r (n - (record k x).length) (fun y hy => h y (by simp [hy])) (by rw [List.length_append] at hn; omega)
      refine ⟨x :: l', ?_⟩
      rw [List.take_append, List.take_of_length_le (by omega), frs_record k x _ h1 h2 hx, hl']
      rfl

theorem Torn.frs {t : List UInt8} (h : Torn t) : ∃ (k : Int) (l : List (List UInt8)), (k = 1 ∨ k = 3) ∧ frs t = l.map (fun x => (k, x)) := by
  obtain ⟨c, n, hc, hn, rfl⟩ := h
  obtain ⟨h1, h2, h3, h4, h5⟩ := c.kinds
  obtain ⟨l', hl'⟩ := torn_frs _ _ h1 h2 h3 h4 c.2 n hc.fit hn
  exact ⟨c.kind, l', h5, hl'⟩

theorem torn_nil : Torn [] := ⟨(true, []), 0, ⟨fun h => by simp at h, fun x hx => by simp at hx⟩, by unfold Chunk.bytes laidOf; rw [List.length_append, record_length]; omega, rfl⟩

/-- What a commit or checkpoint makes of the records and of the file of the last checkpoint. -/
abbrev Recs := List (List UInt8) × Int
def kstep (k : Int) (y : Recs) (c : Chunk) : Recs := if c.1 then (c.2, k) else (y.1 ++ c.2, y.2)
def krun (k : Int) (cs : List Chunk) (y : Recs) : Recs := cs.foldl (kstep k) y

namespace HSt

theorem takes_append (f : Int) : ∀ (a b : List (Int × List UInt8)) (h : HSt), takes f (a ++ b) h = (takes f a h).bind (takes f b)
  | [], b, h => rfl
  | x :: r, b, h => by
    rw [List.cons_append, takes, takes]
    split
    · rfl
    · exact takes_append f r b _

theorem takes_frames (f k : Int) (hk : k = 1 ∨ k = 3) : ∀ (l : List (List UInt8)) (h : HSt), h.fits k → ∃ h', takes f (l.map (fun x => (k, x))) h = some h' ∧ h'.recs = h.recs ∧ h'.since = h.since ∧ h'.begun = h.begun ++ l ∧ h'.fits k
  | [], h, hf => ⟨h, rfl, rfl, rfl, by simp, hf⟩
  | x :: r, h, hf => by
    have e1 : h.take f k x = some (h.begin' k x) := by
      unfold take
      rw [if_pos hk, if_pos hf]
    obtain ⟨h', e2, e3, e4, e5, e6⟩ := takes_frames f k hk r (h.begin' k x) (.inr rfl)
    refine ⟨h', ?_, e3, e4, ?_, e6⟩
    · rw [List.map_cons, takes]
      simp only [e1]
      exact e2
    · rw [e5]
      simp [begin']

theorem takes_chunk (f : Int) (c : Chunk) (hc : c.Ok) (h : HSt) (hb : h.begun = []) : ∃ h', takes f (c.2.map (fun x => (c.kind, x)) ++ [(c.mark, [])]) h = some h' ∧ (h'.recs, h'.since) = kstep f (h.recs, h.since) c ∧ h'.begun = [] := by
  obtain ⟨_, _, _, _, hk⟩ := c.kinds
  obtain ⟨h1, e1, e2, e3, e4, e5⟩ := takes_frames f c.kind hk c.2 h (.inl hb)
  rw [hb, List.nil_append] at e4
  rw [takes_append, e1]
  show ∃ h', takes f [(c.mark, [])] h1 = some h' ∧ _
  cases hc1 : c.1 with
  | true =>
    have hm : c.mark = 4 := by unfold Chunk.mark; rw [hc1]; rfl
    have hkk : c.kind = 3 := by unfold Chunk.kind; rw [hc1]; rfl
    rw [hkk] at e5
    have et : h1.take f 4 [] = some (h1.anew f) := by
      unfold take
      simp [e5]
    refine ⟨h1.anew f, ?_, ?_, rfl⟩
    · rw [hm, takes]
      simp only [et]
      rfl
    · unfold kstep
      rw [hc1, if_pos rfl]
      show (h1.begun, f) = _
      rw [e4]
  | false =>
    have hm : c.mark = 2 := by unfold Chunk.mark; rw [hc1]; rfl
    have hkk : c.kind = 1 := by unfold Chunk.kind; rw [hc1]; rfl
    have hne := hc.some' hc1
    rw [hkk] at e5
    have et : h1.take f 2 [] = some h1.commits := by
      unfold take
      simp [e5, e4, hne]
    refine ⟨h1.commits, ?_, ?_, rfl⟩
    · rw [hm, takes]
      simp only [et]
      rfl
    · unfold kstep
      rw [hc1, if_neg (by simp)]
      show (h1.recs ++ h1.begun, h1.since) = _
      rw [e4, e2, e3]

end HSt

/-- Bytes of whole commits and checkpoints, and a torn end. -/
structure Whole (bs : List UInt8) (cs : List Chunk) : Prop where
  ok : ∀ c ∈ cs, c.Ok
  is : ∃ t, Torn t ∧ bs = (cs.map Chunk.bytes).flatten ++ t

theorem takes_whole (f : Int) : ∀ (cs : List Chunk) (t : List UInt8) (h : HSt), (∀ c ∈ cs, c.Ok) → Torn t → h.begun = [] → ∃ h', HSt.takes f (frs ((cs.map Chunk.bytes).flatten ++ t)) h = some h' ∧ (h'.recs, h'.since) = krun f cs (h.recs, h.since)
  | [], t, h, _, ht, hb => by
    obtain ⟨k, l, hk, hl⟩ := ht.frs
    obtain ⟨h', e1, e2, e3, _⟩ := HSt.takes_frames f k hk l h (.inl hb)
    refine ⟨h', ?_, ?_⟩
    · show HSt.takes f (frs ([] ++ t)) h = _
      rw [List.nil_append, hl]
      exact e1
    · rw [e2, e3]
      rfl
  | c :: r, t, h, hc, ht, hb => by
    obtain ⟨h1, e1, e2, e3⟩ := HSt.takes_chunk f c (hc c (by simp)) h hb
    obtain ⟨h2, e4, e5⟩ := takes_whole f r t h1 (fun x hx => hc x (by simp [hx])) ht e3
    refine ⟨h2, ?_, ?_⟩
    · rw [List.map_cons, List.flatten_cons, List.append_assoc, frs_chunk c (hc c (by simp)), HSt.takes_append, e1]
      exact e4
    · rw [e5, e2]
      rfl

theorem file_whole {bs : List UInt8} {cs : List Chunk} (hw : Whole bs cs) (f : Int) (h : HSt) : ∃ h', h.file f bs = some h' ∧ (h'.recs, h'.since) = krun f cs (h.recs, h.since) := by
  obtain ⟨t, ht, rfl⟩ := hw.is
  exact takes_whole f cs t h.fresh hw.ok ht rfl

/-- Files of whole commits and checkpoints are opened. -/
theorem openN_whole {rd : Fs} {F : Int → List Chunk} : ∀ (ns : List Int) (x : HSt × Int), (∀ k ∈ ns, Whole (rd k) (F k)) → ∃ h, openN rd ns x = some (h, ns.foldl (fun _ k => k + 1) x.2) ∧ (h.recs, h.since) = ns.foldl (fun y k => krun k (F k) y) (x.1.recs, x.1.since)
  | [], x, _ => ⟨x.1, rfl, rfl⟩
  | k :: r, x, hw => by
    obtain ⟨h1, e1, e2⟩ := file_whole (hw k (by simp)) k x.1
    obtain ⟨h2, e3, e4⟩ := openN_whole r (h1, k + 1) (fun j hj => hw j (by simp [hj]))
    refine ⟨h2, ?_, ?_⟩
    · rw [openN]
      simp only [e1]
      exact e3
    · rw [e4, List.foldl_cons]
      simp only [e2]

end Go.Proofs.YtnipdgigjcaolaaGreat

/- A Log within a law: it keeps frames, and commits. -/
namespace Go.Proofs.YtnipdgigjcaolaaGreat
open Go.RowKit

/-- What a law holds, and a Log's own blocks. -/
def KL (K : Nat → Prop) (l f t : Nat) : Nat → Prop := fun j => K j ∨ j = l ∨ j = f ∨ j = t

/-- A Log in block l, its Disk in b, its Framer in f, its Table in t; K is what the law holds besides. -/
structure LI (w0 : World) (K : Nat → Prop) (w : World) (l b f t N : Nat) (s : WSt) : Prop where
  dl : DL w0 (KL K l f t) w b N s.d
  fr : Fr w f t
  at' : At 101 w l (lcells b f s.limit s.at' s.size s.down)
  nl : ¬ K l
  nf : ¬ K f
  nt : ¬ K t
  lf : l ≠ f
  lt : l ≠ t

def LL (w0 : World) (K : Nat → Prop) (w : World) (l b N : Nat) (s : WSt) : Prop := ∃ f t, LI w0 K w l b f t N s

/-- What a call on a Log may turn. -/
abbrev Outs (w0 : World) (K : Nat → Prop) : Nat → Prop := fun j => w0.heap.size ≤ j ∧ ¬ K j

section
variable {w0 w w' : World} {K : Nat → Prop} {l b f t N : Nat} {s : WSt}

theorem LI.held (h : LI w0 K w l b f t N s) : ∀ j, K j → w0.heap.size ≤ j ∧ j < w.heap.size := fun j hj => h.dl.held j (.inl hj)

/-- The Disk has turned, the Log has not. -/
theorem LI.disk {N' : Nat} {d : DSt} (h : LI w0 K w l b f t N s) (hd : DL w0 (KL K l f t) w' b N' d) (tn : Turn (Outs w0 (KL K l f t)) w w') : LI w0 K w' l b f t N' { s with d := d } :=
  ⟨hd, h.fr.kept tn (fun e => e.2 (.inr (.inr (.inl rfl)))) (fun e => e.2 (.inr (.inr (.inr rfl)))), h.at'.kept tn (fun e => e.2 (.inr (.inl rfl))), h.nl, h.nf, h.nt, h.lf, h.lt⟩

theorem own_less (tn : Turn (Outs w0 (KL K l f t)) w w') : Turn (Outs w0 K) w w' := tn.mono (fun _ _ e => ⟨e.1, fun hk => e.2 (.inl hk)⟩)

/-- A field of the Log is stored anew. -/
theorem LI.set {s' : WSt} {j : Nat} {u : Value} (h : LI w0 K w l b f t N s) (hd : s'.d = s.d) (hc : (lcells b f s.limit s.at' s.size s.down).setIfInBounds j u = lcells b f s'.limit s'.at' s'.size s'.down) : LI w0 K (w.setCell ⟨l, j, none⟩ u) l b f t N s' ∧ Turn (Outs w0 K) w (w.setCell ⟨l, j, none⟩ u) := by
  have ts : Turn (fun i => i = l) w (w.setCell ⟨l, j, none⟩ u) := (Turn.refl (fun i => i = l) w).setCell (p := ⟨l, j, none⟩) (.inl rfl) _
  have hl0 := (h.dl.held l (.inr (.inl rfl))).1
  have hsz : (w.setCell ⟨l, j, none⟩ u).heap.size = w.heap.size := by simp [World.setCell]
  have hdl := h.dl.hold (ts.mono (fun i _ e => .inr (.inl e)))
  refine ⟨⟨?_, h.fr.kept ts (fun e => h.lf e.symm) (fun e => h.lt e.symm), by rw [← hc]; exact h.at'.set j u, h.nl, h.nf, h.nt, h.lf, h.lt⟩, ts.mono (fun i _ e => by subst e; exact ⟨hl0, h.nl⟩)⟩
  rw [hd]
  exact hdl.less (fun i hi => .inl hi)

end

namespace WSt

def fell (s : WSt) (d : DSt) : WSt := { s with d := d, down := true }

def keep (s : WSt) (at' size : Int) (bs : List UInt8) : Int × WSt :=
  if s.down then (14, s)
  else if (s.d.add at' bs).1 ≠ 0 then (14, s.fell (s.d.add at' bs).2)
  else if (s.d.add at' bs).2.sync.1 ≠ 0 then (14, s.fell (s.d.add at' bs).2.sync.2)
  else (0, { s with d := (s.d.add at' bs).2.sync.2, at' := at', size := size + bs.length })

def to (s : WSt) : Int × Int := if s.limit ≤ s.size then (s.at' + 1, 0) else (s.at', s.size)

def commit (s : WSt) (l : List (List UInt8)) : Int × WSt := if l = [] then (0, s) else s.keep s.to.1 s.to.2 (laidOf 1 2 l)

end WSt

section
variable {w0 w : World} {K : Nat → Prop} {l b f t N : Nat} {s : WSt}

/-- What a call on a Log comes to. -/
def LTo (w0 : World) (K : Nat → Prop) (w : World) (l b f t N : Nat) (r : Int × WSt) (e : Ending) (w' : World) : Prop := e = .returned (.int .i64 r.1) ∧ LI w0 K w' l b f t N r.2 ∧ Turn (Outs w0 K) w w'

theorem LI.mono {N' : Nat} (h : LI w0 K w l b f t N s) (hN : N ≤ N') : LI w0 K w l b f t N' s := ⟨h.dl.mono hN, h.fr, h.at', h.nl, h.nf, h.nt, h.lf, h.lt⟩

set_option maxHeartbeats 2000000 in
set_option maxRecDepth 100000 in
theorem keep_any (at' size : Int) (v : Value) (bs : List UInt8) (h : LI w0 K w l b f t N s) (hs : Sees w v bs) (hv : 0 < bs.length → ∀ k, slab v = some k → k < w0.heap.size ∨ K k) (hN : N ≤ 1073741822) (hsz : (s.d.now at').length + bs.length ≤ 140737488355328) (hz0 : 0 ≤ size) (hz1 : size ≤ 4611686018427387904) :
    Calls Tryz.prog 101 #[.pointer (some ⟨l, 0, none⟩), .int .i64 at', .int .i64 size, v] w (LTo w0 K w l b f t (N + 2) (s.keep at' size bs)) := by
  obtain ⟨vo, vc, rfl⟩ := hs.shape
  have hlen : bs.length ≤ 140737488355328 := by omega
  have c0 : w.cell? ⟨l, 0, none⟩ = some (.pointer (some ⟨b, 0, none⟩)) := h.at'.cell 0
  have c5 : w.cell? ⟨l, 5, none⟩ = some (.bool s.down) := h.at'.cell 5
  have f5 : w.frozen? ⟨l, 5, none⟩ = false := h.at'.frozen 5
  by_cases hd : s.down = true
  · have hk : s.keep at' size bs = (14, s) := by unfold WSt.keep; rw [if_pos hd]
    obtain ⟨h2, t2⟩ := h.set (s' := s) (j := 5) (u := .bool true) rfl (by rw [hd]; rfl)
    rw [hk]
    have Hfin : Hid (LTo w0 K w l b f t (N + 2) (14, s) (.returned (.int .i64 14)) (w.setCell ⟨l, 5, none⟩ (.bool true))) := hide ⟨rfl, h2.mono (by omega), t2⟩
    rw [hd] at c5
    clear h h2 t2 hk hs hv
    go_enter Tryz.func101, Tryz.ntmps101
    go_wp2
    go_ret
    exact unhide Hfin
  rw [Bool.not_eq_true] at hd
  rw [hd] at c5
  have HA := hide (dl_append (w0 := w0) (K := KL K l f t) at' (.slice vo bs.length vc) bs h.dl hs (fun h0 k hk => (hv h0 k hk).imp id .inl) (by omega) hsz)
  clear hs hv hsz
  by_cases ha : (s.d.add at' bs).1 = 0
  · by_cases hy : (s.d.add at' bs).2.sync.1 = 0
    · have hk : s.keep at' size bs = (0, { s with d := (s.d.add at' bs).2.sync.2, at' := at', size := size + bs.length }) := by
        unfold WSt.keep
        rw [if_neg (by simp [hd]), if_neg (by simp [ha]), if_neg (by simp [hy])]
      rw [hk]
      generalize bs.length = len at *
      go_enter Tryz.func101, Tryz.ntmps101
      go_wp2_with fail
      refine (unhide HA).mono ?_
      rintro e w1 ⟨rfl, hd1, t1⟩
      rw [ha]
      have h1 := h.disk hd1 t1
      have c0' : w1.cell? ⟨l, 0, none⟩ = some (.pointer (some ⟨b, 0, none⟩)) := h1.at'.cell 0
      clear HA c0 c5 f5
      go_wp2_with fail
      refine (dl_sync h1.dl (by omega)).mono ?_
      rintro e w2 ⟨rfl, hd2, t2⟩
      have hy' : ({ s with d := (s.d.add at' bs).2 } : WSt).d.sync.1 = 0 := hy
      rw [hy']
      have h2 := h1.disk hd2 t2
      obtain ⟨h3, t3⟩ := h2.set (s' := { s with d := (s.d.add at' bs).2.sync.2 }) (j := 5) (u := .bool false) rfl (by simp [hd]; rfl)
      obtain ⟨h4, t4⟩ := h3.set (s' := { s with d := (s.d.add at' bs).2.sync.2, at' := at' }) (j := 3) (u := .int .i64 at') rfl rfl
      obtain ⟨h5, t5⟩ := h4.set (s' := { s with d := (s.d.add at' bs).2.sync.2, at' := at', size := size + len }) (j := 4) (u := .int .i64 (size + len)) rfl rfl
      have hfin := And.intro h5 ((((own_less t1).trans (own_less t2)).trans t3).trans (t4.trans t5))
      have Hfin := hide hfin
      have d3 : w2.cell? ⟨l, 3, none⟩ = some (.int .i64 s.at') := h2.at'.cell 3
      have d4 : w2.cell? ⟨l, 4, none⟩ = some (.int .i64 s.size) := h2.at'.cell 4
      have d5 : w2.cell? ⟨l, 5, none⟩ = some (.bool s.down) := h2.at'.cell 5
      have g3 : w2.frozen? ⟨l, 3, none⟩ = false := h2.at'.frozen 3
      have g4 : w2.frozen? ⟨l, 4, none⟩ = false := h2.at'.frozen 4
      have g5 : w2.frozen? ⟨l, 5, none⟩ = false := h2.at'.frozen 5
      have q1 : size + (len : Int) ≤ 9223372036854775807 := by omega
      clear hfin h h1 h2 h3 h4 h5 t1 t2 t3 t4 t5 hd1 hd2 c0' hy' hk
      go_wp2
      go_ret
      exact ⟨rfl, (unhide Hfin).1, (unhide Hfin).2⟩
    · have hk : s.keep at' size bs = (14, s.fell (s.d.add at' bs).2.sync.2) := by
        unfold WSt.keep
        rw [if_neg (by simp [hd]), if_neg (by simp [ha]), if_pos (by simpa using hy)]
      rw [hk]
      generalize bs.length = len at *
      go_enter Tryz.func101, Tryz.ntmps101
      go_wp2_with fail
      refine (unhide HA).mono ?_
      rintro e w1 ⟨rfl, hd1, t1⟩
      rw [ha]
      have h1 := h.disk hd1 t1
      have c0' : w1.cell? ⟨l, 0, none⟩ = some (.pointer (some ⟨b, 0, none⟩)) := h1.at'.cell 0
      clear HA c0 c5 f5
      go_wp2_with fail
      refine (dl_sync h1.dl (by omega)).mono ?_
      rintro e w2 ⟨rfl, hd2, t2⟩
      have hy' : (({ s with d := (s.d.add at' bs).2 } : WSt).d.sync.1 != 0) = true := by simpa using hy
      have h2 := h1.disk hd2 t2
      obtain ⟨h3, t3⟩ := h2.set (s' := s.fell (s.d.add at' bs).2.sync.2) (j := 5) (u := .bool true) rfl rfl
      have hfin := And.intro h3 (((own_less t1).trans (own_less t2)).trans t3)
      have Hfin := hide hfin
      have d5 : w2.cell? ⟨l, 5, none⟩ = some (.bool s.down) := h2.at'.cell 5
      have g5 : w2.frozen? ⟨l, 5, none⟩ = false := h2.at'.frozen 5
      clear hfin h h1 h2 h3 t1 t2 t3 hd1 hd2 c0' hk
      generalize ({ s with d := (s.d.add at' bs).2 } : WSt).d.sync.1 = y at *
      go_wp2
      go_ret
      exact ⟨rfl, (unhide Hfin).1, (unhide Hfin).2⟩
  · have hk : s.keep at' size bs = (14, s.fell (s.d.add at' bs).2) := by
      unfold WSt.keep
      rw [if_neg (by simp [hd]), if_pos (by simpa using ha)]
    rw [hk]
    have ha' : ((s.d.add at' bs).1 != 0) = true := by simpa using ha
    generalize bs.length = len at *
    go_enter Tryz.func101, Tryz.ntmps101
    go_wp2_with fail
    refine (unhide HA).mono ?_
    rintro e w1 ⟨rfl, hd1, t1⟩
    have h1 := h.disk hd1 t1
    obtain ⟨h3, t3⟩ := h1.set (s' := s.fell (s.d.add at' bs).2) (j := 5) (u := .bool true) rfl rfl
    have hfin := And.intro (h3.mono (show N + 1 ≤ N + 2 by omega)) ((own_less t1).trans t3)
    have Hfin := hide hfin
    have d5 : w1.cell? ⟨l, 5, none⟩ = some (.bool s.down) := h1.at'.cell 5
    have g5 : w1.frozen? ⟨l, 5, none⟩ = false := h1.at'.frozen 5
    clear hfin HA c0 c5 f5 h h1 h3 t1 t3 hd1 hk ha
    generalize (s.d.add at' bs).1 = y at *
    go_wp2
    go_ret
    exact ⟨rfl, (unhide Hfin).1, (unhide Hfin).2⟩

end

end Go.Proofs.YtnipdgigjcaolaaGreat

/- A Log within a law: Commit. -/
namespace Go.Proofs.YtnipdgigjcaolaaGreat
open Go.RowKit

section
variable {w0 w w1 w2 : World} {K K2 : Nat → Prop} {l b f t N : Nat} {s : WSt}

theorem LI.less (h : LI w0 K w l b f t N s) (hK : ∀ j, K2 j → K j) : LI w0 K2 w l b f t N s :=
  ⟨h.dl.less (fun j hj => hj.imp (hK j) id), h.fr, h.at', fun e => h.nl (hK _ e), fun e => h.nf (hK _ e), fun e => h.nt (hK _ e), h.lf, h.lt⟩

theorem LI.ltl (h : LI w0 K w l b f t N s) : l < w.heap.size := h.at'.lt
theorem LI.ltf (h : LI w0 K w l b f t N s) : f < w.heap.size := h.fr.ltf
theorem LI.ltt (h : LI w0 K w l b f t N s) : t < w.heap.size := h.fr.ltt
theorem LI.new (h : LI w0 K w l b f t N s) : w0.heap.size ≤ l ∧ w0.heap.size ≤ f ∧ w0.heap.size ≤ t := ⟨(h.dl.held l (.inr (.inl rfl))).1, (h.dl.held f (.inr (.inr (.inl rfl)))).1, (h.dl.held t (.inr (.inr (.inr rfl)))).1⟩

/-- New memory that the law holds from now on; the Table, or what was held, may have turned. -/
theorem LI.laid (h : LI w0 K w l b f t N s) (hF : Fr w1 f t) (tn : Turn (fun k => k = t) w w1) : LI w0 (grow K w w1) w1 l b f t N s := by
  have h1 := h.ltl
  have h2 := h.ltf
  have h3 := h.ltt
  refine ⟨(h.dl.hold (tn.mono (fun i _ e => .inr (.inr (.inr e))))).less ?_, hF, h.at'.kept tn h.lt, ?_, ?_, ?_, h.lf, h.lt⟩
  · rintro j (hj | hj)
    · exact hj.imp .inl id
    · exact .inl (.inr hj)
  · rintro (e | e)
    · exact h.nl e
    · omega
  · rintro (e | e)
    · exact h.nf e
    · omega
  · rintro (e | e)
    · exact h.nt e
    · omega

theorem LI.goes (h : LI w0 K w l b f t N s) (tn : Turn (fun _ => False) w w1) : LI w0 (grow K w w1) w1 l b f t N s := h.laid (h.fr.goes tn) (tn.mono (fun _ _ e => e.elim))

/-- What the law holds has turned. -/
theorem LI.hold (h : LI w0 K w l b f t N s) (tn : Turn K w w1) : LI w0 (grow K w w1) w1 l b f t N s := by
  have h1 := h.ltl
  have h2 := h.ltf
  have h3 := h.ltt
  refine ⟨(h.dl.hold (tn.mono (fun i _ e => .inl e))).less ?_, h.fr.kept tn h.nf h.nt, h.at'.kept tn h.nl, ?_, ?_, ?_, h.lf, h.lt⟩
  · rintro j (hj | hj)
    · exact hj.imp .inl id
    · exact .inl (.inr hj)
  · rintro (e | e)
    · exact h.nl e
    · omega
  · rintro (e | e)
    · exact h.nf e
    · omega
  · rintro (e | e)
    · exact h.nt e
    · omega

theorem outs_grow (h : Turn (Outs w0 (grow K w w1)) w1 w2) : Turn (Outs w0 K) w1 w2 := h.mono (fun _ _ e => ⟨e.1, fun hk => e.2 (.inl hk)⟩)

/-- Frames are laid and kept. -/
theorem LTo.laid {r : Int × WSt} {N' : Nat} {e : Ending} (h : LI w0 K w l b f t N s) (tn : Turn (fun k => k = t) w w1) (hk : LTo w0 (grow K w w1) w1 l b f t N' r e w2) : LTo w0 K w l b f t N' r e w2 :=
  ⟨hk.1, hk.2.1.less (fun _ hj => .inl hj), (tn.mono (fun i _ e => by subst e; exact ⟨h.new.2.2, h.nt⟩)).trans (outs_grow hk.2.2)⟩

end

section
variable {w0 w : World} {K Q : Nat → Prop} {l b f t N : Nat} {s : WSt} {v : Value} {rl : List (Value × List UInt8)}

theorem tdrewN (w : World) (n : Nat) : Turn (fun _ => False) w (w.drewN n) := ⟨rfl, rfl, rfl, Nat.le_refl _, fun _ _ _ => rfl⟩

theorem LI.drew (h : LI w0 K w l b f t N s) (n : Nat) : LI w0 K (w.drewN n) l b f t N s := (h.goes (tdrewN w n)).less (fun _ hj => .inl hj)

theorem LTo.drew {r : Int × WSt} {N' n : Nat} {e : Ending} {w2 : World} (h : LTo w0 K (w.drewN n) l b f t N' r e w2) : LTo w0 K w l b f t N' r e w2 := ⟨h.1, h.2.1, ((tdrewN w n).mono (fun _ _ e => e.elim)).trans h.2.2⟩

theorem keep_laid {w1 : World} {bs : List UInt8} (at' size : Int) (h : LI w0 K w l b f t N s) (hl : Laid w f t bs v w1) (hN : N ≤ 1073741822) (hsz : (s.d.now at').length + bs.length ≤ 140737488355328) (hz0 : 0 ≤ size) (hz1 : size ≤ 4611686018427387904) :
    Calls Tryz.prog 101 #[.pointer (some ⟨l, 0, none⟩), .int .i64 at', .int .i64 size, v] w1 (LTo w0 K w l b f t (N + 2) (s.keep at' size bs)) :=
  (keep_any at' size v bs (h.laid hl.2.2.1 hl.2.2.2) hl.1.sees (fun h0 k hk => .inr (.inr ⟨hl.2.1 k (hl.1.slab_eq ▸ hk), slab_lt hl.1.sees h0 hk⟩)) hN hsz hz0 hz1).mono (fun _ _ hk => LTo.laid h hl.2.2.2 hk)

/-- Bounds of a Log's numbers. -/
structure WSt.Ok (s : WSt) : Prop where
  at0 : 0 ≤ s.at'
  at1 : s.at' ≤ 1099511627776
  size0 : 0 ≤ s.size
  size1 : s.size ≤ 1152921504606846976

set_option maxHeartbeats 2000000 in
set_option maxRecDepth 100000 in
theorem commit_any (h : LI w0 K w l b f t N s) (hok : s.Ok) (hr : RL Q w v rl) (hQ : ∀ j, Q j → j < w0.heap.size ∨ K j) (hno : ¬ tooLong rl) (hN : N ≤ 1073741822) (hsz : (s.d.now s.to.1).length + (laidOf 1 2 (rl.map (·.2))).length ≤ 140737488355328) :
    Calls Tryz.prog 46 #[.pointer (some ⟨l, 0, none⟩), v] w (LTo w0 K w l b f t (N + 2) (s.commit (rl.map (·.2)))) := by
  have HT := hide (tooLong_no hr hno)
  have hnew := h.new
  have hQt : ¬ Q t := fun e => (hQ t e).elim (fun h1 => by omega) h.nt
  have HL := hide (fun n => layAll_any (w := w.drewN n) 1 2 (by omega) (by omega) (by omega) (by omega) (h.drew n).at' (h.drew n).fr h.lt (hr.kept (tdrewN w n) (fun _ _ e => e)) hQt hno (by omega))
  obtain ⟨vo, vc, rfl⟩ := hr.shape
  have hlen := hr.len
  unfold maxLen at hlen
  by_cases h0 : rl = []
  · subst h0
    have hk : s.commit (([] : List (Value × List UInt8)).map (·.2)) = (0, s) := rfl
    rw [hk]
    have Hfin : Hid (LTo w0 K w l b f t (N + 2) (0, s) (.returned (.int .i64 0)) w) := hide ⟨rfl, h.mono (by omega), Turn.refl _ _⟩
    simp only [List.length_nil] at HT ⊢
    clear h hr HL hsz
    go_enter Tryz.func46, Tryz.ntmps46
    go_wp2_with fail
    refine (unhide HT).mono ?_
    rintro e w1 ⟨rfl, rfl⟩
    go_wp2
    go_ret
    exact unhide Hfin
  · have hk : s.commit (rl.map (·.2)) = s.keep s.to.1 s.to.2 (laidOf 1 2 (rl.map (·.2))) := by
      unfold WSt.commit
      rw [if_neg (by simpa using h0)]
    rw [hk]
    have q0 : ((rl.length : Int) == 0) = false := by simp; exact h0
    have c2 : w.cell? ⟨l, 2, none⟩ = some (.int .i64 s.limit) := h.at'.cell 2
    have c3 : w.cell? ⟨l, 3, none⟩ = some (.int .i64 s.at') := h.at'.cell 3
    have c4 : w.cell? ⟨l, 4, none⟩ = some (.int .i64 s.size) := h.at'.cell 4
    have HI := hide h
    have HZ := hide hsz
    have HO := hide hok
    obtain ⟨bytes, hby⟩ : ∃ bytes, bytes = laidOf 1 2 (rl.map (·.2)) := ⟨_, rfl⟩
    rw [← hby] at HL HZ ⊢
    have hz1 := hok.at1
    have hz0 := hok.at0
    generalize rl.length = n at *
    clear h hok hr hno hk h0 hsz hby hQ hQt
    by_cases hf : s.limit ≤ s.size
    · have hto : s.to = (s.at' + 1, 0) := by unfold WSt.to; rw [if_pos hf]
      rw [hto] at HZ ⊢
      simp only at HZ ⊢
      have q1 : s.at' + 1 ≤ 9223372036854775807 := by omega
      go_enter Tryz.func46, Tryz.ntmps46
      go_wp2_with fail
      refine (unhide HT).mono ?_
      rintro e w1 ⟨rfl, rfl⟩
      go_wp2_with fail
      go_quiet ((fail))
      go_wp2_with fail
      refine (unhide HL nq).mono ?_
      rintro e w1 ⟨v1, rfl, hl1⟩
      go_wp2_with fail
      refine (keep_laid _ _ ((unhide HI).drew nq) hl1 hN (unhide HZ) (by omega) (by omega)).mono ?_
      rintro e w2 ⟨rfl, h2⟩
      go_wp2
      go_ret
      exact LTo.drew ⟨rfl, h2⟩
    · have hto : s.to = (s.at', s.size) := by unfold WSt.to; rw [if_neg hf]
      rw [hto] at HZ ⊢
      simp only at HZ ⊢
      have hs0 := (unhide HO).size0
      have hs1 := (unhide HO).size1
      have q1 : decide (s.limit ≤ s.size) = false := by simpa using hf
      go_enter Tryz.func46, Tryz.ntmps46
      go_wp2_with fail
      refine (unhide HT).mono ?_
      rintro e w1 ⟨rfl, rfl⟩
      go_wp2_with fail
      go_quiet ((fail))
      go_wp2_with fail
      refine (unhide HL nq).mono ?_
      rintro e w1 ⟨v1, rfl, hl1⟩
      go_wp2_with fail
      refine (keep_laid _ _ ((unhide HI).drew nq) hl1 hN (unhide HZ) (by omega) (by omega)).mono ?_
      rintro e w2 ⟨rfl, h2⟩
      go_wp2
      go_ret
      exact LTo.drew ⟨rfl, h2⟩

set_option maxHeartbeats 2000000 in
/-- A record that is too long. -/
theorem commit_long (l : Nat) (w : World) (hr : RL Q w v rl) (hyes : tooLong rl) :
    Calls Tryz.prog 46 #[.pointer (some ⟨l, 0, none⟩), v] w fun e w' => e = .returned (.int .i64 1) ∧ w = w' := by
  have HT := hide (tooLong_yes hr hyes)
  clear hr
  go_enter Tryz.func46, Tryz.ntmps46
  go_wp2_with fail
  refine (unhide HT).mono ?_
  rintro e w1 ⟨rfl, rfl⟩
  go_wp2
  go_ret
  exact ⟨rfl, rfl⟩

end

end Go.Proofs.YtnipdgigjcaolaaGreat

/- Numbers that rise: slices.BinarySearch over them, and those ahead of one. -/
namespace Go.Proofs.YtnipdgigjcaolaaGreat
open Go.RowKit

theorem i64s_at (l : List Int) (j : Nat) (hj : j < l.length) : (i64s l)[j]? = some (.int .i64 l[j]) := by simp [i64s, hj]

theorem SeesC.shape {w : World} {v : Value} {cs : List Value} (h : SeesC w v cs) : (v = .slice none 0 0 ∧ cs = []) ∨ ∃ a cap, v = .slice (some a) cs.length cap ∧ cs.length ≤ cap ∧ cap ≤ maxLen := by
  rcases h with h | ⟨a, cap, h1, h2, h3, _⟩
  · exact .inl h
  · exact .inr ⟨a, cap, h1, h2, h3⟩

theorem SeesC.cellAt {w : World} {a : Addr} {n cap : Nat} {cs : List Value} (h : SeesC w (.slice (some a) n cap) cs) (j : Nat) (u : Value) (hj : cs[j]? = some u) : w.cell? (a.add j) = some u := by
  rcases h with ⟨h, _⟩ | ⟨a', cap', e, _, _, hc⟩
  · simp at h
  · simp only [Value.slice.injEq, Option.some.injEq] at e
    obtain ⟨rfl, _, _⟩ := e
    exact hc j u hj

theorem isNaN2_any (a : Int) (w : World) : Calls Tryz.prog 145 #[.int .i64 a] w fun e w' => e = .returned (.bool false) ∧ w = w' := by
  have e0 : (a != a) = false := bne_self_eq_false _
  go_enter Tryz.func145, Tryz.ntmps145
  go_wp2
  go_ret
  exact ⟨rfl, rfl⟩

set_option maxHeartbeats 400000 in
theorem less_yes (a b : Int) (w : World) (h : a < b) : Calls Tryz.prog 144 #[.int .i64 a, .int .i64 b] w fun e w' => e = .returned (.bool true) ∧ w = w' := by
  go_enter Tryz.func144, Tryz.ntmps144
  go_wp2_with (go_at_call 161; refine (isNaN_any _ _).mono ?_; rintro e w' ⟨rfl, rfl⟩)
  go_ret
  exact ⟨rfl, rfl⟩

set_option maxHeartbeats 400000 in
theorem less_no (a b : Int) (w : World) (h : ¬ a < b) : Calls Tryz.prog 144 #[.int .i64 a, .int .i64 b] w fun e w' => e = .returned (.bool false) ∧ w = w' := by
  have h2 : decide (a < b) = false := by simpa using h
  go_enter Tryz.func144, Tryz.ntmps144
  go_wp2_with (go_at_call 161; refine (isNaN_any _ _).mono ?_; rintro e w' ⟨rfl, rfl⟩)
  go_ret

  exact ⟨rfl, rfl⟩

/-- Up to a all are below k, from b on none is. -/
structure AmidI (l : List Int) (k : Int) (a b : Nat) : Prop where
  lo : ∀ x (h : x < l.length), x < a → l[x] < k
  hi : ∀ x (h : x < l.length), b ≤ x → k ≤ l[x]

theorem lt_at {l : List Int} (h : l.Pairwise (· < ·)) {i j : Nat} (hi : i < l.length) (hj : j < l.length) (hij : i < j) : l[i] < l[j] := List.pairwise_iff_getElem.1 h i j hi hj hij

theorem AmidI.start (l : List Int) (k : Int) : AmidI l k 0 l.length := ⟨fun x _ hx => by omega, fun x h hx => by omega⟩

theorem AmidI.up {l : List Int} {k : Int} {a b m : Nat} {y : Int} (h : AmidI l k a b) (hr : l.Pairwise (· < ·)) (he : l[m]? = some y) (hk : y < k) : AmidI l k (m + 1) b := by
  obtain ⟨hm, rfl⟩ := List.getElem?_eq_some_iff.1 he
  exact ⟨fun x hx hl => by
    by_cases e : x = m
    · subst e; exact hk
    · have := lt_at hr hx hm (by omega); omega, h.hi⟩

theorem AmidI.down {l : List Int} {k : Int} {a b m : Nat} {y : Int} (h : AmidI l k a b) (hr : l.Pairwise (· < ·)) (he : l[m]? = some y) (hk : ¬ y < k) : AmidI l k a m := by
  obtain ⟨hm, rfl⟩ := List.getElem?_eq_some_iff.1 he
  exact ⟨h.lo, fun x hx hl => by
    by_cases e : x = m
    · subst e; omega
    · have := lt_at hr hm hx (by omega); omega⟩

theorem AmidI.filter {l : List Int} {k : Int} {a : Nat} (h : AmidI l k a a) : l.take a = l.filter (· < k) := by
  have h1 : (l.take a).filter (· < k) = l.take a := List.filter_eq_self.2 (fun x hx => by
    obtain ⟨i, hi, rfl⟩ := List.getElem_of_mem hx
    rw [List.length_take] at hi
    rw [List.getElem_take]
    simpa using h.lo i (by omega) (by omega))
  have h2 : (l.drop a).filter (· < k) = [] := List.filter_eq_nil_iff.2 (fun x hx => by
    obtain ⟨i, hi, rfl⟩ := List.getElem_of_mem hx
    rw [List.length_drop] at hi
    rw [List.getElem_drop]
    have := h.hi (a + i) (by omega) (by omega)
    simp
    omega)
  conv => rhs; rw [← List.take_append_drop a l]
  rw [List.filter_append, h1, h2, List.append_nil]

/-- What a search tells. -/
def Sought (l : List Int) (k : Int) (w : World) (e : Ending) (w' : World) : Prop :=
  ∃ (a : Nat) (there : Bool), e = .returned (.tuple #[.int .i64 a, .bool there]) ∧ a ≤ l.length ∧ AmidI l k a a ∧ w = w'

set_option maxHeartbeats 1000000 in
set_option maxRecDepth 100000 in
theorem bsearch_any (v : Value) (l : List Int) (k : Int) (w : World) (h : SeesC w v (i64s l)) (hr : l.Pairwise (· < ·)) (hlen : l.length ≤ 1099511627776) :
    Calls Tryz.prog 111 #[v, .int .i64 k] w fun e w' => Sought l k w e w' := by
  have hil := i64s_length l
  rcases h.shape with ⟨rfl, hn⟩ | ⟨g, cap, rfl, hnc, hcm⟩
  · have hl : l = [] := by rw [hn] at hil; exact List.eq_nil_of_length_eq_zero hil.symm
    subst hl
    clear h hil hn
    go_enter Tryz.func111, Tryz.ntmps111
    go_wp2
    go_loopw [7, 8, 9] (fun i j _ wr => i = .int .i64 0 ∧ j = .int .i64 0 ∧ wr = w) (fun _ _ _ _ => 0)
    case atStart => exact ⟨rfl, rfl, rfl⟩
    case round =>
      obtain ⟨rfl, rfl, rfl⟩ := hrel
      go_wp2
      go_ret2
      exact ⟨0, false, rfl, by simp, ⟨by simp, by simp⟩, rfl⟩
  · unfold maxLen at hcm
    rw [hil] at h hnc ⊢
    have HC : Hid (∀ j x, l[j]? = some x → w.cell? (g.add j) = some (.int .i64 x)) := hide (fun j x hj => h.cellAt j _ (by simp [i64s, hj]))
    clear h hil
    have hS := hide (AmidI.start l k)
    generalize hlenE : l.length = len at *
    have HL := hide hlenE
    clear hlenE
    go_enter Tryz.func111, Tryz.ntmps111
    go_wp2
    go_loopw [7, 8, 9] (fun i j _ wr => ∃ a b : Nat, a ≤ b ∧ b ≤ len ∧ i = .int .i64 a ∧ j = .int .i64 b ∧ AmidI l k a b ∧ wr = w) (fun i j _ _ => (intOf j - intOf i).toNat)
    case atStart => exact ⟨0, len, by omega, by omega, rfl, rfl, unhide hS, rfl⟩
    case round =>
      obtain ⟨a, b, hab, hb, rfl, rfl, hbt, rfl⟩ := hrel
      by_cases hlt : a < b
      · obtain ⟨m, hm⟩ : ∃ m, m = (a + b) / 2 := ⟨_, rfl⟩
        have hm1 : m < b := by omega
        have hm2 : a ≤ m := by omega
        obtain ⟨x, hx⟩ : ∃ x, l[m]? = some x := ⟨_, List.getElem?_eq_getElem (by have := unhide HL; omega)⟩
        have hc := unhide HC m x hx
        have Hx := hide hx
        have q0 : (a : Int) < b := by omega
        have q1 : IntKind.u64.wrap ((a : Int) + (b : Int)) = (a : Int) + (b : Int) := by rw [IntKind.wrap_u64]; omega
        have q2 : ((a : Int) + (b : Int)) / 2 = (m : Int) := by omega
        have q3 : (a : Int) + (b : Int) ≤ 2199023255552 := by omega
        have q4 : m < len := by omega
        clear hm hx
        by_cases hk : x < k
        · go_wp2_with fail
          refine (less_yes _ _ _ hk).mono ?_
          rintro e1 w1 ⟨rfl, rfl⟩
          go_wp2
          go_roundw
          case rel => exact ⟨m + 1, b, by omega, hb, by go_num, rfl, hbt.up hr (unhide Hx) hk, by trivial⟩
          case measure => simp [intOf]; omega
        · go_wp2_with fail
          refine (less_no _ _ _ (by omega)).mono ?_
          rintro e1 w1 ⟨rfl, rfl⟩
          go_wp2
          go_roundw
          case rel => exact ⟨a, m, hm2, by omega, rfl, rfl, hbt.down hr (unhide Hx) (by omega), by trivial⟩
          case measure => simp [intOf]; omega
      · obtain rfl : a = b := by omega
        have q0 : ¬ (a : Int) < a := by omega
        have hle : a ≤ l.length := by have := unhide HL; omega
        have HLE := hide hle
        clear hle
        by_cases hl : a < len
        · have hc := unhide HC a _ (List.getElem?_eq_getElem (by have := unhide HL; omega))
          generalize l[a]'(by have := unhide HL; omega) = x at hc
          have q1 : (a : Int) < len := by omega
          by_cases hk : x = k
          · subst hk
            have q2 : (x == x) = true := by simp
            go_wp2_with (go_at_call 145; refine (isNaN2_any _ _).mono ?_; rintro e w' ⟨rfl, rfl⟩)
            go_ret2
            exact ⟨a, _, rfl, unhide HLE, hbt, rfl⟩
          · have q2 : (x == k) = false := by simpa using hk
            go_wp2_with (go_at_call 145; refine (isNaN2_any _ _).mono ?_; rintro e w' ⟨rfl, rfl⟩)
            go_ret2
            exact ⟨a, _, rfl, unhide HLE, hbt, rfl⟩
        · obtain rfl : a = len := by omega
          go_wp2
          go_ret2
          exact ⟨_, false, rfl, unhide HLE, hbt, rfl⟩

/-- Those ahead of one: a part of the same list. -/
def Part (w : World) (v : Value) (l : List Int) (k : Int) (e : Ending) (w' : World) : Prop :=
  ∃ v', e = .returned v' ∧ SeesC w v' (i64s (l.filter (· < k))) ∧ (∀ j, slab v' = some j → slab v = some j) ∧ w = w'

set_option maxHeartbeats 1000000 in
set_option maxRecDepth 100000 in
theorem ahead_any (v : Value) (l : List Int) (k : Int) (w : World) (h : SeesC w v (i64s l)) (hr : l.Pairwise (· < ·)) (hlen : l.length ≤ 1099511627776) :
    Calls Tryz.prog 60 #[v, .int .i64 k] w fun e w' => Part w v l k e w' := by
  have Hb := hide (bsearch_any v l k w h hr hlen)
  have hil := i64s_length l
  rcases h.shape with ⟨rfl, hn⟩ | ⟨g, cap, rfl, hnc, hcm⟩
  · have hl : l = [] := by rw [hn] at hil; exact List.eq_nil_of_length_eq_zero hil.symm
    subst hl
    clear h hil hn
    go_enter Tryz.func60, Tryz.ntmps60
    go_wp2_with fail
    refine (unhide Hb).mono ?_
    rintro e w1 ⟨a, there, rfl, ha, hb, rfl⟩
    obtain rfl : a = 0 := by simpa using ha
    go_wp2
    go_ret
    exact ⟨_, rfl, .inl ⟨rfl, rfl⟩, fun _ h => h, rfl⟩
  · unfold maxLen at hcm
    have HS := hide h
    clear h
    rw [hil] at hnc Hb ⊢
    generalize hlenE : l.length = len at *
    have HE := hide hlenE
    clear hlenE
    go_enter Tryz.func60, Tryz.ntmps60
    go_wp2_with fail
    refine (unhide Hb).mono ?_
    rintro e w1 ⟨a, there, rfl, ha, hb, rfl⟩
    have ha' : a ≤ len := by have := unhide HE; omega
    have ha2 : a ≤ cap := by omega
    have ha3 : (a : Int) ≤ cap := by omega
    go_wp2
    go_ret
    refine ⟨_, rfl, ?_, fun _ h => h, rfl⟩
    have := (unhide HS).front a (by rw [hil]; omega)
    rwa [← i64s_take, hb.filter] at this

end Go.Proofs.YtnipdgigjcaolaaGreat
