/- A Disk within a law: all its memory is new, and apart from what the law keeps besides. -/
import Derived.Test.YtfmbkpdjjhcmcaaGreatDFiles
import Derived.Test.YtfmbkpdjjhcmcaaGreatLit
namespace Go.Proofs.YtfmbkpdjjhcmcaaGreat
open Go.RowKit

/-- A Disk in state s in block b; what has come since w0 is its own, or in K. -/
structure DL (w0 : World) (K : Nat → Prop) (w : World) (b : Nat) (N : Nat) (s : DSt) : Prop where
  dk : ∃ S, Dk w b S N s ∧ ∀ j, S j → w0.heap.size ≤ j ∧ ¬ K j
  held : ∀ j, K j → w0.heap.size ≤ j ∧ j < w.heap.size
  turn : Turn (fun _ => False) w0 w

section
variable {w0 w w' : World} {K : Nat → Prop} {b N : Nat} {s : DSt}

theorem DL.hold (h : DL w0 K w b N s) (t : Turn K w w') : DL w0 (grow K w w') w' b N s := by
  obtain ⟨S, hd, hS⟩ := h.dk
  refine ⟨⟨S, hd.kept t (fun j hj => (hS j hj).2), fun j hj => ⟨(hS j hj).1, fun hk => ?_⟩⟩, fun j hj => ?_, h.turn.trans' t (fun i hi hk => by have := (h.held i hk).1; omega)⟩
  · rcases hk with hk | ⟨hk, _⟩
    · exact (hS j hj).2 hk
    · have := hd.lt j hj
      omega
  · rcases hj with hk | ⟨h1, h2⟩
    · have h3 := h.held j hk
      have h4 := t.size
      exact ⟨h3.1, by omega⟩
    · have := h.turn.size
      exact ⟨by omega, h2⟩

theorem DL.new (h : DL w0 K w b N s) (t : Turn (fun _ => False) w w') : DL w0 (grow K w w') w' b N s := h.hold (t.mono (fun _ _ h => h.elim))

theorem DL.mono {N' : Nat} (h : DL w0 K w b N s) (hN : N ≤ N') : DL w0 K w b N' s := by
  obtain ⟨S, hd, hS⟩ := h.dk
  exact ⟨⟨S, hd.mono (fun _ h => h) hd.lt hN, hS⟩, h.held, h.turn⟩

end

section
variable {w0 w : World} {K : Nat → Prop} {b N : Nat} {s : DSt}

theorem dl_new (hK : ∀ j, K j → w0.heap.size ≤ j ∧ j < w.heap.size) (t : Turn (fun _ => False) w0 w) : Calls Tryz.prog 8 #[] w fun e w' => e = .returned (.pointer (some ⟨w.heap.size, 0, none⟩)) ∧ DL w0 K w' w.heap.size 0 DSt.zero ∧ Turn (fun _ => False) w w' := by
  refine (dskNew_any w).mono ?_
  rintro e w' ⟨rfl, hd, t2⟩
  refine ⟨rfl, ⟨⟨_, hd, fun j hj => ?_⟩, fun j hj => ⟨(hK j hj).1, Nat.lt_of_lt_of_le (hK j hj).2 t2.size⟩, t.trans t2⟩, t2⟩
  subst hj
  exact ⟨t.size, fun hk => by have := (hK _ hk).2; omega⟩

theorem dl_append (f : Int) (v : Value) (bs : List UInt8) (h : DL w0 K w b N s) (hs : Sees w v bs) (hv : 0 < bs.length → ∀ k, slab v = some k → k < w0.heap.size ∨ K k) (hN : N ≤ 1073741823) (hsz : (s.now f).length + bs.length ≤ 140737488355328) :
    Calls Tryz.prog 20 #[.pointer (some ⟨b, 0, none⟩), .int .i64 f, v] w fun e w' => e = .returned (.int .i64 (s.add f bs).1) ∧ DL w0 K w' b (N + 1) (s.add f bs).2 ∧ Turn (fun j => w0.heap.size ≤ j ∧ ¬ K j) w w' := by
  obtain ⟨S, hd, hS⟩ := h.dk
  refine (append_any f v bs hd hs (fun h0 k hk hSk => by
    rcases hv h0 k hk with h1 | h1
    · have := (hS k hSk).1; omega
    · exact (hS k hSk).2 h1) hN hsz).mono ?_
  rintro e w' ⟨rfl, h1⟩
  refine ⟨rfl, ?_⟩
  have tS := h1.2
  refine ⟨⟨⟨_, h1.1, fun j hj => ?_⟩, fun j hj => ⟨(h.held j hj).1, Nat.lt_of_lt_of_le (h.held j hj).2 tS.size⟩, h.turn.trans' tS (fun i hi hk => by have := (hS i hk).1; omega)⟩, tS.mono (fun i _ hi => hS i hi)⟩
  rcases hj with hj | ⟨hj, _⟩
  · exact hS j hj
  · have := h.turn.size
    exact ⟨by omega, fun hk => by have := (h.held j hk).2; omega⟩

theorem dl_of (fn : FuncId) (args : Array Value) (r : Value) (s' : DSt) (N' : Nat) (h : DL w0 K w b N s) (hc : ∀ S, Dk w b S N s → Calls Tryz.prog fn args w fun e w' => e = .returned r ∧ (DkTo w b S N' s' w' ∨ (Dk w' b S N' s' ∧ Turn S w w'))) :
    Calls Tryz.prog fn args w fun e w' => e = .returned r ∧ DL w0 K w' b N' s' ∧ Turn (fun j => w0.heap.size ≤ j ∧ ¬ K j) w w' := by
  obtain ⟨S, hd, hS⟩ := h.dk
  refine (hc S hd).mono ?_
  rintro e w' ⟨rfl, h1⟩
  refine ⟨rfl, ?_⟩
  have tS : Turn S w w' := h1.elim (fun h => h.2) (fun h => h.2)
  have hsub : ∃ S', Dk w' b S' N' s' ∧ ∀ j, S' j → S j ∨ w.heap.size ≤ j := h1.elim (fun h => ⟨_, h.1, fun j hj => hj.imp id (fun h => h.1)⟩) (fun h => ⟨S, h.1, fun j hj => .inl hj⟩)
  obtain ⟨S', hd', hS'⟩ := hsub
  refine ⟨⟨⟨S', hd', fun j hj => ?_⟩, fun j hj => ⟨(h.held j hj).1, Nat.lt_of_lt_of_le (h.held j hj).2 tS.size⟩, h.turn.trans' tS (fun i hi hk => by have := (hS i hk).1; omega)⟩, tS.mono (fun i _ hi => hS i hi)⟩
  rcases hS' j hj with hj | hj
  · exact hS j hj
  · have := h.turn.size
    exact ⟨by omega, fun hk => by have := (h.held j hk).2; omega⟩

theorem dl_remove (f : Int) (h : DL w0 K w b N s) (hN : N ≤ 1073741823) :
    Calls Tryz.prog 34 #[.pointer (some ⟨b, 0, none⟩), .int .i64 f] w fun e w' => e = .returned (.int .i64 (s.rem f).1) ∧ DL w0 K w' b (N + 1) (s.rem f).2 ∧ Turn (fun j => w0.heap.size ≤ j ∧ ¬ K j) w w' :=
  dl_of _ _ _ _ _ h (fun _ hd => (remove_any f hd hN).mono (fun _ _ h => ⟨h.1, .inl h.2⟩))

theorem dl_sync (h : DL w0 K w b N s) (hN : N ≤ 1073741823) :
    Calls Tryz.prog 22 #[.pointer (some ⟨b, 0, none⟩)] w fun e w' => e = .returned (.int .i64 s.sync.1) ∧ DL w0 K w' b (N + 1) s.sync.2 ∧ Turn (fun j => w0.heap.size ≤ j ∧ ¬ K j) w w' :=
  dl_of _ _ _ _ _ h (fun _ hd => (sync_any hd (by omega)).mono (fun _ _ h => ⟨h.1, .inr h.2⟩))

theorem dl_fuse (n : Int) (h : DL w0 K w b N s) (h0 : -9223372036854775808 ≤ n) (h1 : n ≤ 9223372036854775807) :
    Calls Tryz.prog 14 #[.pointer (some ⟨b, 0, none⟩), .int .i64 n] w fun e w' => e = .returned (.tuple #[]) ∧ DL w0 K w' b N (s.fuse n) ∧ Turn (fun j => w0.heap.size ≤ j ∧ ¬ K j) w w' :=
  dl_of _ _ _ _ _ h (fun _ hd => (fuse_any n hd h0 h1).mono (fun _ _ h => ⟨h.1, .inr h.2⟩))

theorem dl_crash (done cut : Int) (h : DL w0 K w b N s) (hN : N ≤ 1073741823) (hbig : ∀ k bs, DOp.lay k bs ∈ s.ops → bs.length ≤ 140737488355328) :
    Calls Tryz.prog 15 #[.pointer (some ⟨b, 0, none⟩), .int .i64 done, .int .i64 cut] w fun e w' => e = .returned (.tuple #[]) ∧ DL w0 K w' b N (s.crash done cut) ∧ Turn (fun j => w0.heap.size ≤ j ∧ ¬ K j) w w' :=
  dl_of _ _ _ _ _ h (fun _ hd => (crash_any done cut hd hN hbig).mono (fun _ _ h => ⟨h.1, .inl h.2⟩))

theorem dl_dead (h : DL w0 K w b N s) : Calls Tryz.prog 28 #[.pointer (some ⟨b, 0, none⟩)] w fun e w' => e = .returned (.bool s.dead) ∧ w = w' := by
  obtain ⟨S, hd, _⟩ := h.dk
  exact dead_any hd

theorem dl_works (h : DL w0 K w b N s) : Calls Tryz.prog 11 #[.pointer (some ⟨b, 0, none⟩)] w fun e w' => e = .returned (.int .i64 s.works) ∧ w = w' := by
  obtain ⟨S, hd, _⟩ := h.dk
  exact works_any hd

theorem dl_read (k : Int) (h : DL w0 K w b N s) (hN : N ≤ 1073741823) (hk : (s.now k).length ≤ 140737488355328) :
    Calls Tryz.prog 32 #[.pointer (some ⟨b, 0, none⟩), .int .i64 k] w fun e w' => ∃ v, e = .returned v ∧ Made w v (s.read k) w' ∧ DL w0 (grow K w w') w' b N s := by
  obtain ⟨S, hd, _⟩ := h.dk
  refine (read_any k hd (by omega) hk).mono ?_
  rintro e w' ⟨v, rfl, hm⟩
  exact ⟨v, rfl, hm, h.new hm.2.1⟩

theorem dl_files (h : DL w0 K w b N s) (hN : N ≤ 1073741823) :
    Calls Tryz.prog 30 #[.pointer (some ⟨b, 0, none⟩)] w fun e w' => ∃ v l, e = .returned v ∧ MadeI w v l w' ∧ s.Nums l ∧ l.length ≤ N ∧ DL w0 (grow K w w') w' b N s := by
  obtain ⟨S, hd, _⟩ := h.dk
  refine (files_any hd (by omega)).mono ?_
  rintro e w' ⟨v, l, rfl, hm, hn, hl⟩
  exact ⟨v, l, rfl, hm, hn, hl, h.new hm.2.1⟩

/-- Bytes of a constant text, for a Disk's law. -/
theorem dl_lit (bs : List UInt8) (h : DL w0 K w b N s) (hb : 0 < bs.length) (hl : bs.length ≤ maxLen) :
    ∃ w', (convert 31 31 (.slice (some ⟨w.heap.size, 0, none⟩) bs.length bs.length)).run Tryz.prog (w.alloc (.cells (u8s bs).toArray 5)) = .ok (.slice (some ⟨w.heap.size, 0, none⟩) bs.length bs.length) w' ∧
      Sees w' (.slice (some ⟨w.heap.size, 0, none⟩) bs.length bs.length) bs ∧ Turn (fun _ => False) w w' ∧ DL w0 (grow K w w') w' b N s ∧ grow K w w' w.heap.size := by
  obtain ⟨w', hcv, hs, t⟩ := run_lit w bs hl
  refine ⟨w', hcv, hs, t, h.new t, .inr ⟨Nat.le_refl _, ?_⟩⟩
  rcases hs with ⟨h0, _⟩ | ⟨a, cap, e, _, _, hc⟩
  · simp at h0
  · have := World.block_lt_of_cell? _ _ (hc 0 ((u8s bs)[0]'(by rw [u8s_length]; exact hb)) (List.getElem?_eq_getElem _))
    rw [addr_add_block] at this
    injection e with e1
    injection e1 with e1
    rw [← e1] at this
    exact this

/-- Numbers that the law holds. -/
structure HeldI (K : Nat → Prop) (w : World) (v : Value) (l : List Int) : Prop where
  own : OwnsC 3 w v (i64s l)
  mem : ∀ k, v.ownBlock = some k → K k

theorem HeldI.disk {w' : World} {v : Value} {l : List Int} (h : HeldI K w v l) (t : Turn (fun j => w0.heap.size ≤ j ∧ ¬ K j) w w') : HeldI K w' v l := ⟨h.own.kept t (fun k hk e => e.2 (h.mem k hk)), h.mem⟩

theorem HeldI.new {w' : World} {v : Value} {l : List Int} (h : HeldI K w v l) (t : Turn (fun _ => False) w w') : HeldI (grow K w w') w' v l := ⟨h.own.kept t (fun _ _ h => h), fun k hk => .inl (h.mem k hk)⟩

theorem MadeI.held {w' : World} {v : Value} {l : List Int} (h : MadeI w v l w') : HeldI (grow K w w') w' v l := ⟨h.1, fun k hk => .inr ⟨h.2.2 k hk, h.1.lt hk⟩⟩

/-- Two rising lists with the same members are the same. -/
theorem rise_same : ∀ {a b : List Int}, a.Pairwise (· < ·) → b.Pairwise (· < ·) → (∀ k, k ∈ a ↔ k ∈ b) → a = b
  | [], [], _, _, _ => rfl
  | [], y :: r, _, _, h => by have := (h y).2 (by simp); simp at this
  | x :: r, [], _, _, h => by have := (h x).1 (by simp); simp at this
  | x :: r, y :: q, ha, hb, h => by
    rw [List.pairwise_cons] at ha hb
    have hxy : x = y := by
      have h1 : x ∈ y :: q := (h x).1 (by simp)
      have h2 : y ∈ x :: r := (h y).2 (by simp)
      rcases List.mem_cons.1 h1 with h1 | h1
      · exact h1
      · rcases List.mem_cons.1 h2 with h2 | h2
        · exact h2.symm
        · have := ha.1 y h2
          have := hb.1 x h1
          omega
    subst hxy
    congr 1
    refine rise_same ha.2 hb.2 (fun k => ⟨fun hk => ?_, fun hk => ?_⟩)
    · have h1 := (h k).1 (by simp [hk])
      rcases List.mem_cons.1 h1 with h1 | h1
      · have := ha.1 k hk; omega
      · exact h1
    · have h1 := (h k).2 (by simp [hk])
      rcases List.mem_cons.1 h1 with h1 | h1
      · have := hb.1 k hk; omega
      · exact h1

theorem DSt.Nums.eq {l l' : List Int} (h : s.Nums l) (hp : l'.Pairwise (· < ·)) (hm : ∀ k, k ∈ l' ↔ s.read k ≠ []) : l = l' := rise_same h.1 hp (fun k => by rw [h.2 k, hm k])

end

end Go.Proofs.YtfmbkpdjjhcmcaaGreat
