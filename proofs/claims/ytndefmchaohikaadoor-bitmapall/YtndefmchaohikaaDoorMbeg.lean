/-
  begun of the law of bitmap; BitmapNone.
-/
import Derived.Test.YtndefmchaohikaaDoorMload
namespace Go.Proofs.YtndefmchaohikaaDoor
open Go.RowKit

/-- A map that was made behind B, and the world. -/
structure MI (B : Nat) (w0 w : World) (m : MS) : Prop where
  map : MapAt w m
  tab : Tab64 w
  tight : Tight m.n m.ws
  bel : Below B w0 w
  size : B ≤ w.heap.size
  ha : B ≤ m.a
  hb : B ≤ m.b
  pos : 0 < B

theorem MI.to {B : Nat} {w0 w w' : World} {m m' : MS} (h : MI B w0 w m) (hm : MapAt w' m') (ho : Only (· = m.b) w w') (ht : Tight m'.n m'.ws) (ea : m'.a = m.a) (eb : m'.b = m.b) : MI B w0 w' m' :=
  ⟨hm, h.map.tab h.tab ho, ht, h.bel.trans (ho.below h.size (fun i hi => by have := h.hb; omega)), Nat.le_trans h.size ho.size, by rw [ea]; exact h.ha, by rw [eb]; exact h.hb, h.pos⟩
theorem MI.beside {B : Nat} {w0 w w' : World} {m : MS} (h : MI B w0 w m) (hB : Below w.heap.size w w') : MI B w0 w' m :=
  ⟨h.map.below hB, h.tab.below hB, h.tight, h.bel.trans (hB.mono h.size), Nat.le_trans h.size hB.size, h.ha, h.hb, h.pos⟩
theorem MI.only {B : Nat} {w0 w w' : World} {m : MS} {S : Nat → Prop} (h : MI B w0 w m) (ho : Only S w w') (ha : ¬ S m.a) (hb : ¬ S m.b) (hs : ∀ i, S i → B ≤ i) : MI B w0 w' m :=
  ⟨h.map.keep ho ha hb, h.tab.keep ho (fun e => by have := hs 0 e; have := h.pos; omega), h.tight, h.bel.trans (ho.below h.size hs), Nat.le_trans h.size ho.size, h.ha, h.hb, h.pos⟩
theorem MI.still {B : Nat} {w0 w w' : World} {m : MS} (h : MI B w0 w m) (hk : ∃ k, w' = w.drewN k) : MI B w0 w' m :=
  h.only (only_drewN (S := fun _ => False) hk) (fun h => h) (fun h => h) (fun _ h => h.elim)

theorem take_mi {B : Nat} {w0 w : World} {m : MS} (h : MI B w0 w m) : Calls Tryd.prog 8 #[.pointer (some ⟨m.a, 0, none⟩)] w fun e w' => ∃ m', TakeOut m e m' ∧ MI B w0 w' m' ∧ Only (· = m.b) w w' ∧ m'.a = m.a ∧ m'.b = m.b ∧ m'.n = m.n :=
  (take_any m w h.map h.tab).mono fun e w' ⟨m', ho, hm, hw⟩ => by
    refine ⟨m', ho, ?_⟩
    obtain ⟨r, hr, ⟨_, _, rfl⟩ | ⟨hlt, _, rfl⟩⟩ := ho
    · exact ⟨h.to hm hw h.tight rfl rfl, hw, rfl, rfl, rfl⟩
    · exact ⟨h.to hm hw (h.tight.turned h.map.fit hlt) rfl rfl, hw, rfl, rfl, rfl⟩

theorem turns_tight {n : Nat} {ws : List Nat} (hf : Fit n ws) (h : Tight n ws) {s k : Nat} (hk : s + k ≤ n) : Tight n (turnsFrom ws s k) := by
  intro i hi
  rw [turns_used k (fun i hi => hf.div (by omega)), if_neg (by omega)]
  exact h i hi

theorem run_mi {B : Nat} {w0 w : World} {m : MS} (h : MI B w0 w m) (k : Nat) (hk : 0 < k) (hkn : k ≤ m.n) : Calls Tryd.prog 10 #[.pointer (some ⟨m.a, 0, none⟩), .int .i64 k] w fun e w' => ∃ m', RunOut m k e m' ∧ MI B w0 w' m' ∧ Only (· = m.b) w w' ∧ m'.a = m.a ∧ m'.b = m.b ∧ m'.n = m.n :=
  (run_in k m w h.map h.tab hk hkn).mono fun e w' ⟨m', ho, hm, hw⟩ => by
    refine ⟨m', ho, ?_⟩
    obtain ⟨r, hr, ⟨_, _, rfl⟩ | ⟨hlt, _, rfl⟩⟩ := ho
    · exact ⟨h.to hm hw h.tight rfl rfl, hw, rfl, rfl, rfl⟩
    · exact ⟨h.to hm hw (turns_tight h.map.fit h.tight (hr.yes hlt).1) rfl rfl, hw, rfl, rfl, rfl⟩

theorem give_mi {B : Nat} {w0 w : World} {m : MS} (h : MI B w0 w m) (i : Nat) (hi : i < m.n) : Calls Tryd.prog 11 #[.pointer (some ⟨m.a, 0, none⟩), .int .i64 i] w fun e w' => ∃ m', PutOut m i false 2 e m' ∧ MI B w0 w' m' ∧ Only (· = m.b) w w' ∧ m'.a = m.a ∧ m'.b = m.b ∧ m'.n = m.n :=
  (give_in i m w h.map hi).mono fun e w' ⟨m', ho, hm, hw⟩ => by
    refine ⟨m', ho, ?_⟩
    obtain ⟨_, _, rfl⟩ | ⟨_, _, rfl⟩ := ho
    · exact ⟨h.to hm hw h.tight rfl rfl, hw, rfl, rfl, rfl⟩
    · exact ⟨h.to hm hw (h.tight.turned h.map.fit hi) rfl rfl, hw, rfl, rfl, rfl⟩
theorem set_mi {B : Nat} {w0 w : World} {m : MS} (h : MI B w0 w m) (i : Nat) (hi : i < m.n) : Calls Tryd.prog 12 #[.pointer (some ⟨m.a, 0, none⟩), .int .i64 i] w fun e w' => ∃ m', PutOut m i true 16 e m' ∧ MI B w0 w' m' ∧ Only (· = m.b) w w' ∧ m'.a = m.a ∧ m'.b = m.b ∧ m'.n = m.n :=
  (set_in i m w h.map hi).mono fun e w' ⟨m', ho, hm, hw⟩ => by
    refine ⟨m', ho, ?_⟩
    obtain ⟨_, _, rfl⟩ | ⟨_, _, rfl⟩ := ho
    · exact ⟨h.to hm hw h.tight rfl rfl, hw, rfl, rfl, rfl⟩
    · exact ⟨h.to hm hw (h.tight.turned h.map.fit hi) rfl rfl, hw, rfl, rfl, rfl⟩

theorem new_mi (n : Nat) (w0 w : World) (B : Nat) (hn : n ≤ 65536) (ht : Tab64 w) (hB : Below B w0 w) (hs : B ≤ w.heap.size) (hp : 0 < B) : Calls Tryd.prog 7 #[.int .i64 n] w fun e w' => ∃ m, e = .returned (.pointer (some ⟨m.a, 0, none⟩)) ∧ MI B w0 w' m ∧ Below w.heap.size w w' ∧ m.n = n ∧ (∀ i, used m.ws i = false) ∧ w.heap.size ≤ m.a ∧ w.heap.size ≤ m.b :=
  (new_in n w hn ht.lt).mono fun _ _ ⟨he, hm, hb⟩ => ⟨newMS w.heap.size n, he,
    ⟨hm, ht.below hb, fun i _ => used_zero _ i, hB.trans (hb.mono hs), Nat.le_trans hs hb.size, Nat.le_trans hs (Nat.le_succ _), hs, hp⟩, hb, rfl, used_zero _, Nat.le_succ _, Nat.le_refl _⟩

/-- Bytes that are read again give the same map. -/
theorem load_back {B : Nat} {w0 w : World} {m : MS} (h : MI B w0 w m) (p : Option Addr) (bs : List (BitVec 8)) (c : Nat) (hb : Bytes w p bs) (hof : BytesOf m.n (used m.ws) bs) :
    Calls Tryd.prog 13 #[.slice p bs.length c, .int .i64 m.n] w fun e w' => ∃ m', e = .returned (.tuple #[.pointer (some ⟨m'.a, 0, none⟩), .int .i64 0]) ∧ MI B w0 w' m' ∧ Below w.heap.size w w' ∧ m'.n = m.n ∧ used m'.ws = used m.ws ∧ w.heap.size ≤ m'.a ∧ w.heap.size ≤ m'.b := by
  refine (load_any p bs c m.n w h.map.fit.most h.tab.lt hb hof.len).mono fun e w' ⟨ws, hf, hu, hB, hor⟩ => ?_
  have hu' : used ws = used m.ws := by
    rw [hu]
    funext t
    by_cases ht : t < 8 * ((m.n + 7) / 8)
    · exact bitOf_bytes hof t ht
    · rw [bitOf_out (by rw [hof.len]; omega), h.tight t (by omega)]
  have htt : Tight m.n ws := fun i hi => by rw [hu']; exact h.tight i hi
  have hfalse := (tight_iff hf).2 htt
  obtain ⟨ht, _⟩ | ⟨_, he, hM⟩ := hor
  · rw [hfalse] at ht; cases ht
  · exact ⟨loadMS w.heap.size m.n ws, he, ⟨hM, h.tab.below hB, htt, h.bel.trans (hB.mono h.size), Nat.le_trans h.size hB.size, Nat.le_trans h.size (Nat.le_succ _), h.size, h.pos⟩, hB, rfl, hu', Nat.le_succ _, Nat.le_refl _⟩

/- begun. -/

theorem used_mi {B : Nat} {w0 w : World} {m : MS} (h : MI B w0 w m) (i : Nat) (hi : i < m.n) (b : Bool) (hb : used m.ws i = b) : Calls Tryd.prog 20 #[.pointer (some ⟨m.a, 0, none⟩), .int .i64 i] w fun e w' => e = .returned (.bool b) ∧ ∃ k, w' = w.drewN k := by
  have := used_in i m w h.map hi
  rwa [hb] at this

theorem free_first {m : MS} {r : Nat} (h : FreeFrom m 0 r) (h0 : used m.ws 0 = false) : r = 0 := by
  by_cases hr : 0 < r
  · have := h.not 0 (Nat.le_refl _) hr
    rw [h0] at this
    cases this
  · omega

set_option maxRecDepth 8000 in
set_option maxHeartbeats 2000000 in
theorem begun8_true (w : World) (ht : Tab64 w) : Calls Tryd.prog 6 #[] w fun e w' => e = .returned (.bool true) ∧ Below w.heap.size w w' := by
  have cn := new_mi 10 w w w.heap.size (by omega) ht (Below.refl _ _) (Nat.le_refl _) ht.lt
  clear ht
  go_enter Tryd.func6, Tryd.ntmps6
  go_wp2_with (go_at_call 7; refine cn.mono ?_; rintro e w1 ⟨m, rfl, h1, _, h2, h3, _, _⟩; clear cn; refine Stop.out ?_)
  refine Stop.mk ?_
  have ct := take_mi h1
  obtain ⟨a, ha⟩ : ∃ a, m.a = a := ⟨_, rfl⟩
  rw [ha] at ct ⊢
  have H1 : Hid (m.n = 10 ∧ (∀ i, used m.ws i = false) ∧ Fit m.n m.ws ∧ m.a = a) := ⟨h2, h3, h1.map.fit, ha⟩
  clear h1 h2 h3 ha
  have ct' : Calls Tryd.prog 8 #[.pointer (some ⟨a, 0, none⟩)] w1 fun e w' => e = .returned (.tuple #[.int .i64 0, .int .i64 0]) ∧ Hid (∃ m2, MI w.heap.size w w' m2 ∧ m2.a = a ∧ m2.n = 10 ∧ ∀ i, used m2.ws i = decide (i = 0)) := by
    refine ct.mono ?_
    rintro e w2 ⟨m2, ⟨r, hr, hor⟩, hM, _, e1, e2, e3⟩
    obtain ⟨h2, h3, h4, _⟩ := H1.out
    obtain rfl : r = 0 := free_first hr (h3 0)
    obtain ⟨hc, _⟩ | ⟨_, rfl, rfl⟩ := hor
    · omega
    · refine ⟨rfl, _, hM, e1, e3.trans h2, fun i => ?_⟩
      show used (turned m.ws 0) i = _
      rw [turned_used (h4.div (by omega)), h3, h3]
      by_cases hi : i = 0 <;> simp [hi]
  clear ct
  go_wp2_with (go_at_call 8; refine ct'.mono ?_; rintro e w2 ⟨rfl, H2⟩; clear ct'; refine Stop.out ?_)
  refine Stop.mk ?_
  have cr : Calls Tryd.prog 10 #[.pointer (some ⟨a, 0, none⟩), .int .i64 3] w2 fun e w' => e = .returned (.tuple #[.int .i64 1, .int .i64 0]) ∧ Hid (∃ m3, MI w.heap.size w w' m3 ∧ m3.a = a ∧ m3.n = 10 ∧ ∀ i, used m3.ws i = decide (i < 4)) := by
    obtain ⟨m2, hM, ea, en, hu⟩ := H2.out
    have cr := run_mi hM 3 (by decide) (by omega)
    rw [ea] at cr
    refine cr.mono ?_
    rintro e w3 ⟨m3, ⟨r, hr, hor⟩, hM3, _, e1, e2, e3⟩
    obtain rfl : r = 1 := by
      have h10 : ¬ 1 < r := fun h => hr.not 1 h ⟨by omega, fun j hj => by rw [hu]; simp⟩
      have h00 : r ≠ 0 := fun e => by
        subst e
        have := (hr.yes (by omega)).2 0 (by decide)
        rw [hu] at this
        simp at this
      omega
    obtain ⟨hc, _⟩ | ⟨_, rfl, rfl⟩ := hor
    · omega
    · refine ⟨rfl, _, hM3, e1, e3.trans en, fun i => ?_⟩
      show used (turnsFrom m2.ws 1 3) i = _
      rw [turns_used 3 (fun i hi => hM.map.fit.div (by omega)), hu]
      by_cases hi : 1 ≤ i ∧ i < 1 + 3
      · rw [if_pos hi, Bool.eq_iff_iff]; simp; omega
      · rw [if_neg hi, Bool.eq_iff_iff]; simp; omega
  clear H2 H1
  go_wp2_with (go_at_call 10; refine cr.mono ?_; rintro e w3 ⟨rfl, H3⟩; clear cr; refine Stop.out ?_)
  refine Stop.mk ?_
  have cg : Calls Tryd.prog 11 #[.pointer (some ⟨a, 0, none⟩), .int .i64 0] w3 fun e w' => e = .returned (.int .i64 0) ∧ Hid (∃ m4, MI w.heap.size w w' m4 ∧ m4.a = a ∧ m4.n = 10 ∧ ∀ i, used m4.ws i = decide (1 ≤ i ∧ i < 4)) := by
    obtain ⟨m3, hM, ea, en, hu⟩ := H3.out
    have cg := give_mi hM 0 (by omega)
    rw [ea] at cg
    refine cg.mono ?_
    rintro e w4 ⟨m4, hor, hM4, _, e1, e2, e3⟩
    obtain ⟨hc, _⟩ | ⟨_, rfl, rfl⟩ := hor
    · rw [hu] at hc; simp at hc
    · refine ⟨rfl, _, hM4, e1, e3.trans en, fun i => ?_⟩
      show used (turned m3.ws 0) i = _
      rw [turned_used (hM.map.fit.div (by omega)), hu, hu]
      by_cases hi : i = 0
      · subst hi; simp
      · rw [if_neg hi, Bool.eq_iff_iff]; simp; omega
  clear H3
  go_wp2_with (go_at_call 11; refine cg.mono ?_; rintro e w4 ⟨rfl, H4⟩; clear cg; refine Stop.out ?_)
  refine Stop.mk ?_
  obtain ⟨m4, hM4, ea, en, hu⟩ := H4.out
  have cb := bytes_any m4 w4 hM4.map
  rw [ea] at cb
  have H5 : Hid (MI w.heap.size w w4 m4 ∧ m4.n = 10 ∧ ∀ i, used m4.ws i = decide (1 ≤ i ∧ i < 4)) := ⟨hM4, en, hu⟩
  clear hM4 ea en hu H4
  go_wp2_with (go_at_call 14; refine cb.mono ?_; rintro e w5 ⟨bs, rfl, hof, hblk, hB⟩; have H6 : Hid (BytesOf m4.n (used m4.ws) bs ∧ w5.heap[w4.heap.size]? = some (.cells (bs.map u8v).toArray 5 (0, 0)) ∧ Below w4.heap.size w4 w5) := ⟨hof, hblk, hB⟩; clear hof hblk hB cb; refine Stop.out ?_)
  refine Stop.mk ?_
  have cl : Calls Tryd.prog 13 #[.slice (some ⟨w4.heap.size, 0, none⟩) bs.length bs.length, .int .i64 10] w5 fun e w' => ∃ x, e = .returned (.tuple #[.pointer (some ⟨x, 0, none⟩), .int .i64 0]) ∧ Hid (∃ m5, MI w.heap.size w w' m5 ∧ m5.a = x ∧ m5.n = 10 ∧ ∀ i, used m5.ws i = decide (1 ≤ i ∧ i < 4)) := by
    obtain ⟨h1, h2, h3⟩ := H5.out
    obtain ⟨hof, hblk, hB⟩ := H6.out
    have cl := load_back (h1.beside hB) (some ⟨w4.heap.size, 0, none⟩) bs bs.length (Bytes.block hblk) hof
    rw [h2] at cl
    refine cl.mono ?_
    rintro e w6 ⟨m5, rfl, hM5, _, e1, e2, _, _⟩
    exact ⟨m5.a, rfl, m5, hM5, rfl, e1, fun i => by rw [e2]; exact h3 i⟩
  clear H5 H6
  go_wp2_with (go_at_call 13; refine cl.mono ?_; rintro e w6 ⟨x, rfl, H7⟩; clear cl; refine Stop.out ?_)
  refine Stop.mk ?_
  obtain ⟨m5, hM5, ex, en, hu⟩ := H7.out
  have cu2 := used_mi hM5 2 (by omega) true (by rw [hu]; rfl)
  have HC : Hid (cnt (used m5.ws) m5.n = 3) := by
    show _ = _
    rw [en, cnt_congr (V := fun i => decide (1 ≤ i ∧ i < 4)) 10 (fun i _ => hu i)]
    rfl
  have cfr : ∀ W, (∃ k, W = w6.drewN k) → Calls Tryd.prog 17 #[.pointer (some ⟨x, 0, none⟩)] W fun e w' => e = .returned (.int .i64 7) ∧ w' = W := fun W hW => by
    have := free_any m5 W (hM5.still hW).map hM5.tight
    rw [HC.out, en, ex] at this
    exact this
  have cu0 : ∀ W, (∃ k, W = w6.drewN k) → Calls Tryd.prog 20 #[.pointer (some ⟨x, 0, none⟩), .int .i64 0] W fun e w' => e = .returned (.bool false) ∧ ∃ k, w' = W.drewN k := fun W hW => by
    have := used_mi (hM5.still hW) 0 (by omega) false (by rw [hu]; rfl)
    rw [ex] at this
    exact this
  rw [ex] at cu2
  have HB : Hid (MI w.heap.size w w6 m5) := hM5
  clear hM5 ex en hu H7 HC
  go_wp2_with (first
    | (go_at_call 20; refine cu2.mono ?_; rintro e w7 ⟨rfl, hk7⟩; have H8 : Hid (∃ k, w7 = w6.drewN k) := hk7; clear hk7 cu2)
    | (go_at_call 17; refine Calls_on (cfr _ H8.out) ?_)
    | (go_at_call 20; refine (cu0 _ H8.out).mono ?_; rintro e w8 ⟨rfl, hk8⟩; have H9 : Hid (∃ k, w8 = w7.drewN k) := hk8; clear hk8))
  go_ret
  exact ⟨rfl, ((HB.out.still H8.out).still H9.out).bel⟩

set_option maxRecDepth 8000 in
set_option maxHeartbeats 1000000 in
theorem none8_true (w : World) (ht : Tab64 w) : Calls Tryd.prog 5 #[] w fun e w' => e = .returned (.bool true) ∧ Below w.heap.size w w' := by
  have cb := begun8_true w ht
  clear ht
  go_enter Tryd.func5, Tryd.ntmps5
  go_wp2_with (first
    | (go_at_call 8; refine Calls_on (take_nil _) ?_)
    | (go_at_call 10; refine Calls_on (run_nil _) ?_)
    | (go_at_call 6; refine cb.mono ?_; rintro e w1 ⟨rfl, hB⟩; have HB : Hid (Below w.heap.size w w1) := hB; clear hB cb)
    | (go_at_call 12; refine Calls_on (set_nil _ _) ?_)
    | (go_at_call 11; refine Calls_on (give_nil _ _) ?_)
    | (go_at_call 19; refine Calls_on (size_nil _) ?_)
    | (go_at_call 17; refine Calls_on (free_nil _) ?_)
    | (go_at_call 20; refine (used_nil _ _).mono ?_; rintro e w2 ⟨rfl, hk⟩; have HK : Hid (∃ k, w2 = w1.drewN k) := hk; clear hk)
    | (go_at_call 14; refine (bytes_nil _).mono ?_; rintro e w3 ⟨rfl, hw3⟩; have H3 : Hid (w3 = w2.alloc (.cells #[] 5)) := hw3; clear hw3))
  go_ret
  refine ⟨rfl, ?_⟩
  obtain ⟨k, rfl⟩ := HK.out
  rw [H3.out]
  have h1 : Below w.heap.size w (w1.drewN k) := ⟨HB.out.os, HB.out.tape, HB.out.output, HB.out.size, HB.out.block⟩
  exact h1.trans ((below_new (w1.drewN k) _).out.mono h1.size)

end Go.Proofs.YtndefmchaohikaaDoor
