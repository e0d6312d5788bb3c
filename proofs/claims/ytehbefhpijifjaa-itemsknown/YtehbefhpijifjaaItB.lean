/- Items laid as bytes, and read: layNumber, Lay, number, bytes.Equal. -/
import Derived.Test.YtehbefhpijifjaaItD
import Derived.Test.YtehbefhpijifjaaInfo
import Derived.Test.YtehbefhpijifjaaNum
namespace Go.Proofs.Ytehbefhpijifjaa
open Go.RowKit

theorem ret_boolI {a b : Bool} (h : a = true ↔ b = true) : Ending.returned (.bool a) = .returned (.bool b) := by rw [Bool.eq_iff_iff.2 h]

theorem made_none (w : World) : Made w (.slice none 0 0) [] w := ⟨Owns.nil _, Turn.refl _ _, fun k hk => by simp [Value.ownBlock] at hk⟩

theorem made_goes {w w1 w2 : World} {v : Value} {bs : List UInt8} (h : Made w v bs w1) (t : Turn (fun _ => False) w1 w2) : Made w v bs w2 :=
  ⟨h.1.kept t (fun _ _ e => e), h.2.1.trans t, h.2.2⟩

theorem made_back {w0 w w1 : World} {v : Value} {bs : List UInt8} (h : Made w v bs w1) (t : Turn (fun _ => False) w0 w) : Made w0 v bs w1 :=
  ⟨h.1, t.trans h.2.1, fun k hk => Nat.le_trans t.size (h.2.2 k hk)⟩

/-- One byte more. -/
theorem made_cat {w w1 : World} {v : Value} {bs : List UInt8} (h : Made w v bs w1) (z : Int) (h0 : 0 ≤ z) (h1 : z < 256) (hb : bs.length ≤ 1000000) :
    ∃ v2 w2, (Builtin.append_ #[28, 28] 28 #[v, .slice (some ⟨w1.heap.size, 0, none⟩) 1 1]).run Try.prog (w1.alloc (.cells #[.int .u8 z] 5)) = .ok v2 w2 ∧ Made w v2 (bs ++ [UInt8.ofNat z.toNat]) w2 ∧ Turn (fun k => v.ownBlock = some k) w1 w2 ∧ (v2.ownBlock = v.ownBlock ∨ ∀ j, v2.ownBlock = some j → w1.heap.size ≤ j) := by
  obtain ⟨i, hi, hz, hsz, hby⟩ := info_parts Try.infoU8
  have ta : Turn (fun _ => False) w1 (w1.alloc (.cells #[.int .u8 z] 5)) := (Turn.refl _ _).alloc _
  have hbyte : ((UInt8.ofNat z.toNat).toNat : Int) = z := by
    rw [UInt8.toNat_ofNat']
    omega
  obtain ⟨v2, w2, hr, ho, hg, _, hat⟩ := run_append_own_at (P := Try.prog) (w1.alloc (.cells #[.int .u8 z] 5)) 0 28 28 5 i _ 1 1 Try.underlying28 hi hz hsz hby rfl (by omega) v bs.length (u8s bs) (h.1.kept ta (fun _ _ e => e)) ⟨w1.heap.size, 0, none⟩ 1 1 [.int .u8 z] rfl
    (fun j u hj => by
      rw [Addr.add_lit, Nat.zero_add]
      rw [cell_of_row _ w1.heap.size j _ 5 (0, 0) (heap_alloc_new w1 _)]
      simpa using hj) (fun u hu => by rw [List.mem_singleton.1 hu]; rfl) (by unfold maxLen; omega) (by omega) (Nat.zero_le _)
  have tg : Turn (fun j => v.ownBlock = some j) (w1.alloc (.cells #[.int .u8 z] 5)) w2 := (Turn.refl _ _).grown hg (fun j hj => .inl hj)
  have hs1 := h.2.1.size
  have hs2 := ta.size
  refine ⟨v2, w2, hr, ⟨?_, (h.2.1.trans ta).trans' tg (fun i hi e => by have := h.2.2 i e; omega), fun k hk => ?_⟩, (ta.mono (fun _ _ e => e.elim)).trans tg, hat.imp id (fun e j hj => by rw [e] at hj; injection hj with hj; omega)⟩
  · unfold Owns
    rw [List.length_append, u8s_append]
    have hx : u8s [UInt8.ofNat z.toNat] = [.int .u8 z] := by simp only [u8s, List.map_cons, List.map_nil, hbyte]
    rw [hx]
    exact ho
  · rcases hat with e | e
    · exact h.2.2 k (e ▸ hk)
    · rw [e] at hk
      injection hk with hk
      omega

section
variable {w : World} {v : Value}

set_option maxHeartbeats 1000000 in
set_option maxRecDepth 100000 in
theorem layNumber_any (w0 : World) (bs : List UInt8) (n : Int) (k : Nat) (h : Made w0 v bs w) (hk : k ≤ 8) (hb : bs.length ≤ 100000) :
    Calls Try.prog 30 #[v, .int .i64 n, .int .i64 k] w fun e w' => ∃ v', e = .returned v' ∧ Made w0 v' (bs ++ be n k) w' ∧ Turn (fun j => v.ownBlock = some j) w w' := by
  obtain ⟨vo, vc, hv⟩ := h.1.shape
  have H := hide h
  obtain ⟨bl, hbl⟩ : ∃ m, m = bs.length := ⟨_, rfl⟩
  have HB := hide hbl
  rw [← hbl] at hv hb
  clear h hbl
  subst hv
  go_enter Try.func30, Try.ntmps30
  go_wp2_with fail
  go_loopw [0, 7] (fun b i w1 => ∃ j : Nat, j ≤ k ∧ i = .int .i64 (8 * (j - 1 : Int)) ∧ ∃ done : List UInt8, Hid (done ++ be n j = be n k ∧ done.length + j = k) ∧ Hid (Turn (fun j => (Value.slice vo bl vc).ownBlock = some j) w w1 ∧ (b.ownBlock = (Value.slice vo bl vc).ownBlock ∨ ∀ j, b.ownBlock = some j → w.heap.size ≤ j)) ∧ Made w0 b (bs ++ done) w1) (fun _ i _ => (intOf i + 8).toNat)
  case atStart => exact ⟨k, Nat.le_refl _, rfl, [], hide ⟨rfl, by simp⟩, hide ⟨Turn.refl _ _, .inl rfl⟩, by simpa using unhide H⟩
  case round =>
    obtain ⟨j, hj, rfl, done, hd, htn, hm⟩ := hrel
    obtain ⟨ao, cap, e⟩ := hm.1.shape
    obtain ⟨an, han⟩ : ∃ m, m = (bs ++ done).length := ⟨_, rfl⟩
    have hab : (bs ++ done).length ≤ 1000000 := by have := (unhide hd).2; have := unhide HB; simp; omega
    rw [← han] at e
    have M := hide hm
    by_cases hlt : 0 < j
    · obtain ⟨m, rfl⟩ : ∃ m, j = m + 1 := ⟨j - 1, by omega⟩
      obtain ⟨v2, w2, hr2, m2, t2, h2⟩ := made_cat hm ((n / 2 ^ (8 * m)) % 256) (by omega) (by omega) hab
      obtain ⟨o2, c2, e2⟩ := m2.1.shape
      have hn2 : (bs ++ done ++ [UInt8.ofNat ((n / 2 ^ (8 * m)) % 256).toNat]).length = an + 1 := by rw [List.length_append, ← han]; rfl
      rw [hn2] at e2
      have M2 := hide m2
      have R2 := hide hr2
      have HT := hide (show Turn (fun j => (Value.slice vo bl vc).ownBlock = some j) w w2 ∧ (v2.ownBlock = (Value.slice vo bl vc).ownBlock ∨ ∀ j, v2.ownBlock = some j → w.heap.size ≤ j) from ⟨(unhide htn).1.trans' t2 (fun i hi e => by
        rcases (unhide htn).2 with h | h
        · rw [← h]; exact e
        · have := h i e; omega), by
        rcases h2 with h | h
        · rw [h]; exact (unhide htn).2
        · exact .inr (fun j hj => Nat.le_trans (unhide htn).1.size (h j hj))⟩)
      clear hm m2 hr2 hn2 han hab htn t2 h2
      subst e e2
      go_wp2_with (at_builtin; refine wpList_append_run rfl (.tmp 15) (.tmp 20) 28 rfl _ _ _ w2 rfl rfl (unhide R2) ?_)
      go_roundw
      case rel => exact ⟨m, by omega, by go_num, done ++ [UInt8.ofNat ((n / 2 ^ (8 * m)) % 256).toNat], hide ⟨by rw [← (unhide hd).1, be_step, List.append_assoc], by have := (unhide hd).2; simp; omega⟩, HT, by rw [← List.append_assoc]; exact unhide M2⟩
      case measure => simp [intOf]; omega
    · obtain rfl : j = 0 := by omega
      have hd1 := (unhide hd).1
      simp only [be, List.append_nil] at hd1
      rw [hd1] at M
      clear hm han hab hd1
      subst e
      go_wp2_with fail
      go_ret
      exact ⟨_, rfl, unhide M, (unhide htn).1⟩

set_option maxHeartbeats 1000000 in
theorem inum_any (g o cap : Nat) (bs : List UInt8) (hb : bs.length ≤ 8) (hc : ∀ k (hk : k < bs.length), w.cell? ⟨g, o + k, none⟩ = some (.int .u8 ((bs[k]).toNat : Int))) :
    Calls Try.prog 43 #[.slice (some ⟨g, o, none⟩) bs.length cap] w fun e w' => e = .returned (.int .i64 (num bs)) ∧ w = w' := by
  obtain ⟨len, hlen⟩ : ∃ m, m = bs.length := ⟨_, rfl⟩
  have C := hide hc
  have HL := hide hlen
  rw [← hlen]
  rw [← hlen] at hb
  clear hc hlen
  go_enter Try.func43, Try.ntmps43
  go_wp2_with fail
  go_loopw [3, 5, 8] (fun x _ i wr => ∃ k : Nat, k ≤ len ∧ i = .int .i64 k ∧ x = .int .i64 (num (bs.take k)) ∧ w = wr) (fun _ _ i _ => len - (intOf i).toNat)
  case atStart => exact ⟨0, Nat.zero_le _, rfl, rfl, rfl⟩
  case round =>
    obtain ⟨k, hk, rfl, rfl, rfl⟩ := hrel
    by_cases hlt : k < len
    · have hkb : k < bs.length := by have := unhide HL; omega
      have c0 := unhide C k hkb
      have hsn : Hid (num (bs.take (k + 1)) = numStep (num (bs.take k)) bs[k]) := by
        unfold Hid
        rw [List.take_succ_eq_append_getElem hkb, num_snoc]
      have q1 : (k : Int) < len := by omega
      go_wp2_with fail
      go_roundw
      case rel => exact ⟨k + 1, by omega, by go_num, by rw [unhide hsn]; rfl, by trivial⟩
      case measure => simp [intOf]; omega
    · obtain rfl : k = len := by omega
      have q1 : ¬ (k : Int) < k := by omega
      have hall : bs.take k = bs := List.take_of_length_le (by have := unhide HL; omega)
      rw [hall]
      go_wp2_with fail
      go_ret
      exact ⟨rfl, rfl⟩

theorem iequal_any (a b : Value) (x y : List UInt8) (w : World) (ha : Sees w a x) (hb : Sees w b y) :
    Calls Try.prog 32 #[a, b] w fun e w' => e = .returned (.bool (decide (x = y))) ∧ w = w' := by
  have h1 := run_text_of_sees (P := Try.prog) w 28 9 Try.underlying28 Try.underlying5 Try.underlying9 ha
  have h2 := run_text_of_sees (P := Try.prog) w 28 9 Try.underlying28 Try.underlying5 Try.underlying9 hb
  obtain ⟨ao, ac, rfl⟩ := ha.shape
  obtain ⟨bo, bc, rfl⟩ := hb.shape
  clear ha hb
  generalize x.length = n at *
  generalize y.length = m at *
  go_enter Try.func32, Try.ntmps32
  go_wp2
  go_ret
  exact ⟨ret_boolI (by simp), rfl⟩

end

/-- What a list is laid as. -/
def layI (l : List It) : List UInt8 := be l.length 2 ++ l.flatMap fun e => be e.1 2 ++ be e.2 8

section
variable {w : World} {v : Value} {l : List It}

set_option maxHeartbeats 4000000 in
set_option maxRecDepth 100000 in
theorem ilay_any (h : ISees w v l) (hl : l.length ≤ 200) : Calls Try.prog 9 #[v] w fun e w' =>
    (rightL (0, 0) l = true ∧ ∃ v', e = .returned (.tuple #[v', .int .i64 0]) ∧ Made w v' (layI l) w') ∨ (rightL (0, 0) l = false ∧ e = .returned (.tuple #[.slice none 0 0, .int .i64 1]) ∧ Turn (fun _ => False) w w') := by
  obtain ⟨ao, cap, rfl⟩ := h.shape
  have HR := hide (rightL_any h (by omega))
  have H := hide h
  obtain ⟨len, hlen⟩ : ∃ m, m = l.length := ⟨_, rfl⟩
  have HL := hide hlen
  rw [← hlen] at HR ⊢
  rw [← hlen] at hl
  rcases hr : rightL (0, 0) l with _ | _
  · rw [hr] at HR
    clear h hlen
    go_enter Try.func9, Try.ntmps9
    go_wp2_with fail
    refine (unhide HR).mono ?_
    rintro e w1 ⟨rfl, t1⟩
    have T1 := hide t1
    clear t1
    go_wp2_with fail
    refine bodyPost_ret (results_tmp2 rfl _ _ _) rfl ?_
    exact .inr ⟨by trivial, rfl, unhide T1⟩
  · rw [hr] at HR
    clear h hlen
    go_enter Try.func9, Try.ntmps9
    go_wp2_with fail
    refine (unhide HR).mono ?_
    rintro e w1 ⟨rfl, t1⟩
    have HN := hide (layNumber_any w1 [] len 2 (made_none w1) (by omega) (by simp))
    have T1 := hide t1
    clear t1
    go_wp2_with fail
    refine (unhide HN).mono ?_
    rintro e w2 ⟨v2, rfl, m2, -⟩
    rw [List.nil_append] at m2
    obtain ⟨o2, c2, e2⟩ := m2.1.shape
    have M2 := hide (made_back m2 (unhide T1))
    generalize (be (len : Int) 2).length = n2 at e2
    clear m2 HN
    subst e2
    go_wp2_with fail
    go_loopw [4, 6, 15] (fun b _ i wr => ∃ k : Nat, i = .int .i64 k ∧ k ≤ len ∧ Made w b (be len 2 ++ (l.take k).flatMap fun e => be e.1 2 ++ be e.2 8) wr) (fun _ _ i _ => len - (intOf i).toNat)
    case atStart => exact ⟨0, rfl, by omega, by simpa using unhide M2⟩
    case round =>
      obtain ⟨k, rfl, hk, hm⟩ := hrel
      have hlb : (be (len : Int) 2 ++ (l.take k).flatMap fun e => be e.1 2 ++ be e.2 8).length ≤ 50000 := by
        have : ∀ r : List It, (r.flatMap fun e => be e.1 2 ++ be e.2 8).length = 10 * r.length := by
          intro r
          induction r with
          | nil => rfl
          | cons e r ih => simp only [List.flatMap_cons, List.length_append, be_length, ih, List.length_cons]; omega
        rw [List.length_append, this, be_length, List.length_take]
        have := unhide HL
        omega
      obtain ⟨bo, bc, eb⟩ := hm.1.shape
      by_cases hlt : k < len
      · have hkl : k < l.length := by have := unhide HL; omega
        obtain ⟨g, o, rfl, c0, c1⟩ := (by have := (unhide H).kept hm.2.1 (fun _ _ e => e); rw [← unhide HL] at this; exact this.at k hkl : ∃ g o, ao = some ⟨g, o, none⟩ ∧ wr.cell? ⟨g, o + k * 2, none⟩ = some (.int .i64 l[k].1) ∧ wr.cell? ⟨g, o + k * 2 + 1, none⟩ = some (.int .i64 l[k].2))
        have hnx : (be (len : Int) 2 ++ (l.take (k + 1)).flatMap fun e => be e.1 2 ++ be e.2 8) = (be (len : Int) 2 ++ (l.take k).flatMap fun e => be e.1 2 ++ be e.2 8) ++ be l[k].1 2 ++ be l[k].2 8 := by
          rw [List.take_succ_eq_append_getElem hkl]
          simp only [List.flatMap_append, List.flatMap_cons, List.flatMap_nil, List.append_nil, List.append_assoc]
        have HNx := hide hnx
        generalize (be (len : Int) 2 ++ (l.take k).flatMap fun e => be e.1 2 ++ be e.2 8) = P at *
        generalize l[k] = e at *
        obtain ⟨e1, e2⟩ := e
        simp only at c0 c1 HNx
        have q1 : (k : Int) < len := by omega
        have ta : Turn (fun _ => False) wr (wr.alloc (.cells #[.int .i64 e1, .int .i64 e2] 23)) := (Turn.refl _ _).alloc _
        have HN1 := hide (layNumber_any w P e1 2 (made_goes hm ta) (by omega) (by omega))
        have hA : At 23 (wr.alloc (.cells #[.int .i64 e1, .int .i64 e2] 23)) wr.heap.size #[.int .i64 e1, .int .i64 e2] := At.new _ _ _
        obtain ⟨pn, hpn⟩ : ∃ n, n = P.length := ⟨_, rfl⟩
        have hP1 : P.length ≤ 60000 := by omega
        rw [← hpn] at eb
        clear hnx hpn
        subst eb
        have hbk : ∀ j, (Value.slice bo pn bc).ownBlock = some j → ¬ j = wr.heap.size := fun j hj e => by have := hm.1.lt hj; omega
        have HBk := hide hbk
        have HA := hide hA
        have Ta := hide ta
        clear hm ta hA hbk
        go_wp2_with fail
        refine (unhide HN1).mono ?_
        rintro e w5 ⟨v5, rfl, m5, t5⟩
        have hA5 := (unhide HA).kept t5 (fun e => unhide HBk _ e rfl)
        have d1 : w5.cell? ⟨wr.heap.size, 1, none⟩ = some (.int .i64 e2) := hA5.cell 1
        have HN2 := hide (layNumber_any w (P ++ be e1 2) e2 8 m5 (by omega) (by rw [List.length_append, be_length]; omega))
        obtain ⟨o5, c5, e5⟩ := m5.1.shape
        generalize (P ++ be e1 2).length = n5 at e5
        clear m5 t5 hA5 HN1
        subst e5
        go_wp2_with fail
        refine (unhide HN2).mono ?_
        rintro e w6 ⟨v6, rfl, m6, -⟩
        rw [← unhide HNx] at m6
        obtain ⟨o6, c6, e6⟩ := m6.1.shape
        have M6 := hide m6
        generalize List.length _ = n6 at e6
        clear m6 HN2
        subst e6
        go_wp2
        go_roundw
        case rel => exact ⟨k + 1, by go_num, by omega, unhide M6⟩
        case measure => simp [intOf]; omega
      · obtain rfl : k = len := by omega
        have q1 : ¬ (k : Int) < k := by omega
        rw [List.take_of_length_le (by have := unhide HL; omega)] at hm eb
        have hfin : Made w u4 (layI l) wr := by
          unfold layI
          rw [← unhide HL]
          exact hm
        have MF := hide hfin
        generalize List.length _ = n6 at eb
        clear hm hlb hfin
        subst eb
        go_wp2_with fail
        refine bodyPost_ret (results_tmp2 rfl _ _ _) rfl ?_
        exact ⟨_, rfl, unhide MF⟩

end

end Go.Proofs.Ytehbefhpijifjaa
