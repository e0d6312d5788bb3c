/- The law's is: are the pairs the reference's? -/
import Derived.Test.YtnipdgigjcaolaaGreatKDed
import Derived.Test.YtnipdgigjcaolaaGreatKWhA
import Derived.BigQuiet
import Derived.Deep.CutRange
namespace Go.Proofs.YtnipdgigjcaolaaGreat
open Go.RowKit

theorem Texts.shape {w w' : World} {v : Value} {ss : List (List UInt8)} (h : Texts w v ss w') : ∃ ao cap, v = .slice ao ss.length cap := by
  obtain ⟨ao, cap, e⟩ := h.own.shape'
  exact ⟨ao, cap, by rw [e, List.length_map]⟩

theorem Texts.at {w w' w2 : World} {v : Value} {ss : List (List UInt8)} (h : Texts w v ss w') (t : Turn (fun _ => False) w' w2) (n : Nat) (hn : n < ss.length) : ∃ g, v.ownBlock = some g ∧ w2.cell? ⟨g, n, none⟩ = some (.string (txt ss[n])) := by
  have ho := h.own.kept t (fun _ _ e => e)
  rcases ho.sees with ⟨h0, h1⟩ | ⟨a, cap, e, _, _, hc⟩
  · have : (ss.map encStr).length = 0 := by rw [h1]; rfl
    rw [List.length_map] at this
    omega
  · have hs := h.own.shape'
    obtain ⟨ao, c, es⟩ := hs
    rcases h.own.2 with ⟨e0, hn0⟩ | ⟨g, cap', cur, e0, _⟩
    · rw [List.length_map] at hn0
      omega
    · refine ⟨g, by rw [e0]; rfl, ?_⟩
      rw [e] at e0
      injection e0 with e1 e2 e3
      injection e1 with e1
      have := hc n (encStr ss[n]) (by simp [List.getElem?_eq_getElem hn])
      rw [e1, addr_lit, Nat.zero_add] at this
      exact this

theorem none_small {m : List (List UInt8 × List UInt8)} (h : small7 m) : kget [110, 111, 110, 101] m = none := by
  unfold kget
  rw [Option.map_eq_none_iff, List.find?_eq_none]
  intro p hp
  have := (h p hp).1
  simp only [beq_iff_eq]
  intro e
  rw [e] at this
  simp at this

section
variable {w0 w : World} {K Q Z : Nat → Prop} {sb mb l b f t N tb l' rb : Nat} {seg now : Int} {s : WSt} {r : RSt} {m : List (List UInt8 × List UInt8)}

set_option maxHeartbeats 8000000 in
set_option maxRecDepth 100000 in
theorem is_alive (h : KS w0 K w sb mb l b f t N s m) (hr : RSr Q Z w tb l' rb seg now r m) (hs : small7 m) (hml : m.length ≤ 1000) :
    Calls Tryz.prog 42 #[.pointer (some ⟨sb, 0, none⟩), .pointer (some ⟨tb, 0, none⟩)] w fun e w' => e = .returned (.bool true) ∧ Turn (fun _ => False) w w' := by
  have qT : ∀ (w : World) {v : Value} {bs : List UInt8}, Sees w v bs → (convert 29 9 v).run Tryz.prog w = .ok (.string ⟨bs.toArray⟩) w := fun w _ _ h => run_text_of_sees w _ _ Tryz.underlying29 Tryz.underlying5 Tryz.underlying9 h
  have HQ := hide @qT
  have H := hide h
  have HR := hide hr
  have Hs := hide hs
  have HK := hide (kkeys_any h ⟨#[]⟩ (by omega))
  have hris := h.rising
  have Hris := hide hris
  clear h hr hs qT hris
  go_enter Tryz.func42, Tryz.ntmps42
  go_wp2_with fail
  refine (unhide HK).mono ?_
  rintro e w1 ⟨v1, rfl, hx1⟩
  have hx1 : Texts w v1 (m.map (·.1)) w1 := by
    rw [← keysOf_all]
    exact hx1
  obtain ⟨o1, c1, hv1⟩ := hx1.shape
  rw [List.length_map] at hv1
  have h1 := (unhide H).goes hx1.turn
  have r1 := (unhide HR).goes hx1.turn
  obtain ⟨pv, pl, hA, hP, hpm⟩ := r1.ps
  obtain ⟨po, pc, hpv, _⟩ := hP.shape
  obtain ⟨len, hlen⟩ : ∃ len, len = m.length := ⟨_, rfl⟩
  have hpl : pl.length = len := by rw [hlen, ← hpm, plain_length]
  rw [hpl] at hpv
  have a1 : w1.cell? ⟨tb, 1, none⟩ = some pv := hA.cell 1
  have a2 : w1.cell? ⟨tb, 2, none⟩ = some (.bool false) := hA.cell 2
  have kd : ∀ n, Calls Tryz.prog 31 #[.pointer (some ⟨sb, 0, none⟩)] (w1.drewN n) fun e w' => e = .returned (.bool false) ∧ w' = w1.drewN n := fun n => (kdead_no (h1.goes (turn_drewNR w1 n))).mono fun _ _ h => ⟨h.1, h.2.symm⟩
  have kc : ∀ n, Calls Tryz.prog 26 #[.pointer (some ⟨sb, 0, none⟩)] (w1.drewN n) fun e w' => e = .returned (.int .i64 len) ∧ w' = w1.drewN n := fun n => by
    have h2 := kcount_any (h1.goes (turn_drewNR w1 n)).kr
    rw [← hlen] at h2
    exact h2.mono fun _ _ h => ⟨h.1, h.2.symm⟩
  have Ha1 := hide a1
  have Kd := hide kd
  have Kc := hide kc
  have H1 := hide h1
  have R1 := hide r1
  have HX := hide hx1
  have HP := hide hP
  have HL := hide (And.intro hlen (And.intro hpl hpm))
  have hle : len ≤ 1000 := by omega
  have f0 : (false != false) = false := rfl
  have f1 : ((len : Int) != (len : Int)) = false := bne_self_eq_false _
  rw [← hlen] at hv1
  subst hv1 hpv
  clear kd kc h1 r1 hx1 hA hP hpm hlen hpl hml HK
  go_wp2_with fail
  go_quiet ((first
    | (go_at_call 31; exact Calls.quiet_of_same (unhide Kd _))
    | (go_at_call 26; exact Calls.quiet_of_same (unhide Kc _))))
  clear f0 Kd Kc
  obtain ⟨w2, hw2⟩ : ∃ w2, w2 = w1.drewN nq := ⟨_, rfl⟩
  have t2 : Turn (fun _ => False) w1 w2 := by rw [hw2]; exact turn_drewNR _ _
  have Hw2 := hide hw2
  have T2 := hide t2
  clear hw2 t2 a1 a2
  go_wp2_with fail
  rw [← unhide Hw2]
  go_loopw [6, 7, 8] (fun i _ _ wr => ∃ n : Nat, i = .int .i64 n ∧ n ≤ len ∧ Turn (fun _ => False) w1 wr) (fun i _ _ _ => len - (intOf i).toNat)
  case atStart => exact ⟨0, rfl, by omega, unhide T2⟩
  case round =>
    obtain ⟨n, rfl, hnl, t⟩ := hrel
    have hR := (unhide R1).goes t
    have hK := (unhide H1).goes t
    by_cases hlt : n < len
    · have hkm : n < m.length := by have := (unhide HL).1; omega
      have hkl : n < pl.length := by have := (unhide HL).2.1; omega
      have a1 : wr.cell? ⟨tb, 1, none⟩ = some (.slice po len pc) := by
        obtain ⟨pv, pl', hA, _, hpm'⟩ := (unhide R1).ps
        exact (t.cell (p := ⟨tb, 1, none⟩) hA.lt (fun e => e)).trans (unhide Ha1)
      obtain ⟨g, cap, e, hg, hc⟩ := ((unhide HP).kept t (fun _ _ e => e)).each n hkl
      obtain ⟨key, pv', val, hpe⟩ : ∃ key pv' val, pl[n] = (key, (pv', val)) := ⟨_, _, _, rfl⟩
      rw [hpe] at hc
      have hmn : m[n] = (key, val) := by
        have h1 := (unhide HL).2.2
        have h2 : (plain pl)[n]? = m[n]? := by rw [h1]
        unfold plain at h2
        rw [List.getElem?_map, List.getElem?_eq_getElem hkl, List.getElem?_eq_getElem hkm, hpe] at h2
        simpa [snd1] using h2.symm
      obtain ⟨gk, hgk, hck⟩ := (unhide HX).at t n (by rw [List.length_map]; exact hkm)
      have hgk' : o1 = some ⟨gk, 0, none⟩ := by
        rcases (unhide HX).own.2 with ⟨e0, hn0⟩ | ⟨g2, cap2, cur2, e0, _⟩
        · rw [List.length_map, List.length_map] at hn0
          omega
        · injection e0 with e1 e2 e3
          rw [e1] at hgk ⊢
          have hgg : g2 = gk := by simpa [Value.ownBlock] using hgk
          rw [hgg]
      rw [List.getElem_map, hmn] at hck
      have hget := rising_get (unhide Hris) n hkm
      rw [hmn] at hget
      have hkey : (txt key).data.toList = key := by simp [txt]
      have hsz : (txt key).size ≤ 1099511627776 := by have := hc.key; unfold txt; simpa [ByteArray.size] using this
      have HG := kget_any hK.kr (txt key) hsz
      rw [hkey, hget] at HG
      have HG := hide HG
      injection e with e1 e2 e3
      obtain ⟨vo, vc, hvv⟩ := hc.sees.shape
      simp only at hvv
      have q1 : (n : Int) < len := by omega
      have Hc := hide hc
      have k0 : wr.cell? ⟨g, n * 2, none⟩ = some (.string (txt key)) := hc.c0
      have k1 : wr.cell? ⟨g, n * 2 + 1, none⟩ = some pv' := hc.c1
      obtain ⟨vl, hvl⟩ : ∃ vl, vl = val.length := ⟨_, rfl⟩
      rw [← hvl] at hvv
      have Hg := hide hg
      have T := hide t
      have hck2 : wr.cell? ⟨gk, n, none⟩ = some (.string (txt key)) := hck
      subst hvv hgk' e1
      clear hc hpe hmn hgk hck hget hkey hsz e2 e3 hg hK hR t
      go_wp2_with fail
      refine (unhide HG).mono ?_
      rintro e w3 ⟨v3, rfl, m3⟩
      have hm3 : Made wr v3 val w3 := m3
      obtain ⟨a3, c3, hv3⟩ := hm3.1.shape
      rw [← hvl] at hv3
      have b0 : w3.cell? ⟨g, n * 2, none⟩ = some (.string (txt key)) := (hm3.2.1.cell (p := ⟨g, n * 2, none⟩) (World.block_lt_of_cell? _ _ k0) (fun e => e)).trans k0
      have b1 : w3.cell? ⟨g, n * 2 + 1, none⟩ = some (.slice vo vl vc) := (hm3.2.1.cell (p := ⟨g, n * 2 + 1, none⟩) (World.block_lt_of_cell? _ _ k1) (fun e => e)).trans k1
      have b2 : w3.cell? ⟨gk, n, none⟩ = some (.string (txt key)) := (hm3.2.1.cell (p := ⟨gk, n, none⟩) (World.block_lt_of_cell? _ _ hck2) (fun e => e)).trans hck2
      have b3 : w3.cell? ⟨tb, 1, none⟩ = some (.slice (some ⟨g, 0, none⟩) len pc) := (hm3.2.1.cell (p := ⟨tb, 1, none⟩) (World.block_lt_of_cell? _ _ a1) (fun e => e)).trans a1
      have s3 : Sees w3 v3 val := hm3.1.sees
      have s4 : Sees w3 (.slice vo vl vc) val := (unhide Hc).sees.kept hm3.2.1 (fun _ _ e => e)
      have cv3 : ∀ n, (convert 29 9 v3).run Tryz.prog (w3.drewN n) = .ok (.string ⟨val.toArray⟩) (w3.drewN n) := fun n => (unhide HQ) _ (s3.kept (turn_drewNR w3 n) (fun _ _ e => e))
      have cv4 : ∀ n, (convert 29 9 (.slice vo vl vc)).run Tryz.prog (w3.drewN n) = .ok (.string ⟨val.toArray⟩) (w3.drewN n) := fun n => (unhide HQ) _ (s4.kept (turn_drewNR w3 n) (fun _ _ e => e))
      have T3 := hide ((unhide T).trans hm3.2.1)
      subst hv3
      clear hm3 m3 s3 s4 hvl a1 k0 k1 hck2 HG
      go_wp2_with fail
      go_quiet ((fail))
      have Hend := hide ((unhide T3).trans (turn_drewNR w3 nq))
      clear b0 b1 b2 b3 cv3 cv4
      go_wp2
      go_roundw
      case rel => exact ⟨n + 1, by go_num, by omega, unhide Hend⟩
      case measure => simp [intOf]; omega
    · obtain rfl : n = len := by omega
      have q1 : ¬ (n : Int) < n := by omega
      have HKa := hide (kkeys_any hK ⟨#[97]⟩ (by have := (unhide HL).1; omega))
      have HK2 := hide hK
      have HR2 := hide hR
      have T := hide t
      clear hK hR t hlt
      go_wp2_with fail
      refine (unhide HKa).mono ?_
      rintro e w4 ⟨v4, rfl, hx4⟩
      have hx4 : Texts wr v4 (keysOf m [97]) w4 := hx4
      obtain ⟨o4, c4, hv4⟩ := hx4.shape
      have HRa := hide (rkeys_any ⟨#[97]⟩ ((unhide HR2).goes hx4.turn) (by have := (unhide HL).1; omega))
      have HK4 := hide ((unhide HK2).goes hx4.turn)
      have T4 := hide ((unhide T).trans hx4.turn)
      clear hx4 HKa
      subst hv4
      go_wp2_with fail
      refine (unhide HRa).mono ?_
      rintro e w5 ⟨v5, rfl, hx5⟩
      have hx5 : Texts w4 v5 (keysOf m [97]) w5 := hx5
      obtain ⟨o5, c5, hv5⟩ := hx5.shape
      have HG := kget_any ((unhide HK4).goes hx5.turn).kr ⟨#[110, 111, 110, 101]⟩ (by decide)
      rw [show (⟨#[110, 111, 110, 101]⟩ : ByteArray).data.toList = [110, 111, 110, 101] from rfl, none_small (unhide Hs)] at HG
      have HG := hide HG
      have T5 := hide ((unhide T4).trans hx5.turn)
      generalize (keysOf m [97]).length = kl at *
      have f2 : ((kl : Int) != (kl : Int)) = false := bne_self_eq_false _
      clear hx5 HRa
      subst hv5
      go_wp2_with fail
      refine (unhide HG).mono ?_
      rintro e w6 ⟨v6, rfl, m6⟩
      have Hend := hide ((unhide HX).turn.trans ((unhide T5).trans m6.2.1))
      obtain ⟨a6, c6, hv6⟩ := m6.1.shape
      subst hv6
      clear m6 HG
      go_wp2
      go_ret
      exact ⟨rfl, unhide Hend⟩

set_option maxHeartbeats 8000000 in
set_option maxRecDepth 100000 in
theorem is_dead (h : KD w0 K w sb l b f t N s) (hr : RSd Q w tb rb r) :
    Calls Tryz.prog 42 #[.pointer (some ⟨sb, 0, none⟩), .pointer (some ⟨tb, 0, none⟩)] w fun e w' => e = .returned (.bool true) ∧ Turn (fun _ => False) w w' := by
  have HK := hide (kkeys_dead ⟨#[]⟩ h)
  have H := hide h
  have HR := hide hr
  clear h hr
  go_enter Tryz.func42, Tryz.ntmps42
  go_wp2_with fail
  refine (unhide HK).mono ?_
  rintro e w1 ⟨v1, rfl, hx1⟩
  obtain ⟨o1, c1, hv1⟩ := hx1.shape
  simp only [List.length_nil] at hv1
  have h1 := (unhide H).goes hx1.turn
  have hgo : ∀ w', Turn (fun _ => False) w w' → RSd Q w' tb rb r := fun w' tt => by
    obtain ⟨l', hA⟩ := (unhide HR).at'
    exact ⟨(unhide HR).rd.keeps tt (fun _ _ e => e) (fun e => e), ⟨l', hA.kept tt (fun e => e)⟩, (unhide HR).ne, (unhide HR).out⟩
  obtain ⟨l', hA⟩ := (hgo _ hx1.turn).at'
  have a1 : w1.cell? ⟨tb, 1, none⟩ = some (.slice none 0 0) := hA.cell 1
  have a2 : w1.cell? ⟨tb, 2, none⟩ = some (.bool true) := hA.cell 2
  have kd : ∀ n, Calls Tryz.prog 31 #[.pointer (some ⟨sb, 0, none⟩)] (w1.drewN n) fun e w' => e = .returned (.bool true) ∧ w' = w1.drewN n := fun n => (kdead_yes (h1.goes (turn_drewNR w1 n))).mono fun _ _ h => ⟨h.1, h.2.symm⟩
  have kc : ∀ n, Calls Tryz.prog 26 #[.pointer (some ⟨sb, 0, none⟩)] (w1.drewN n) fun e w' => e = .returned (.int .i64 0) ∧ w' = w1.drewN n := fun n => (kcount_dead (h1.goes (turn_drewNR w1 n))).mono fun _ _ h => ⟨h.1, h.2.symm⟩
  have Kd := hide kd
  have Kc := hide kc
  have H1 := hide h1
  have Hgo := hide hgo
  have T1 := hide hx1.turn
  subst hv1
  clear kd kc h1 hx1 hA hgo HK
  go_wp2_with fail
  go_quiet ((first
    | (go_at_call 31; exact Calls.quiet_of_same (unhide Kd _))
    | (go_at_call 26; exact Calls.quiet_of_same (unhide Kc _))))
  clear Kd Kc a1 a2
  obtain ⟨w2, hw2⟩ : ∃ w2, w2 = w1.drewN nq := ⟨_, rfl⟩
  have t2 : Turn (fun _ => False) w1 w2 := by rw [hw2]; exact turn_drewNR _ _
  have Hw2 := hide hw2
  have H2 := hide ((unhide H1).goes t2)
  have T2 := hide ((unhide T1).trans t2)
  clear hw2 t2
  go_wp2_with fail
  rw [← unhide Hw2]
  refine wp_loop_rounds 1 ?_
  rw [rounds_succ]
  have HKa := hide (kkeys_dead ⟨#[97]⟩ (unhide H2))
  go_wp2_with fail
  refine (unhide HKa).mono ?_
  rintro e w4 ⟨v4, rfl, hx4⟩
  obtain ⟨o4, c4, hv4⟩ := hx4.shape
  simp only [List.length_nil] at hv4
  have HRa := hide (rkeys_dead ⟨#[97]⟩ ((unhide Hgo) w4 ((unhide T2).trans hx4.turn)))
  have H4 := hide ((unhide H2).goes hx4.turn)
  have T4 := hide ((unhide T2).trans hx4.turn)
  clear hx4 HKa
  subst hv4
  go_wp2_with fail
  refine (unhide HRa).mono ?_
  rintro e w5 ⟨v5, rfl, hx5⟩
  obtain ⟨o5, c5, hv5⟩ := hx5.shape
  simp only [List.length_nil] at hv5
  have HG := hide (kget_dead ((unhide H4).goes hx5.turn) ⟨#[110, 111, 110, 101]⟩ (by decide))
  have T5 := hide ((unhide T4).trans hx5.turn)
  clear hx5 HRa
  subst hv5
  go_wp2_with fail
  refine (unhide HG).mono ?_
  rintro e w6 ⟨v6, rfl, m6⟩
  have Hend := hide ((unhide T5).trans m6.2.1)
  obtain ⟨a6, c6, hv6⟩ := m6.1.shape
  subst hv6
  clear m6 HG
  go_wp2
  go_ret
  exact ⟨rfl, unhide Hend⟩

end

end Go.Proofs.YtnipdgigjcaolaaGreat
