/-
  CacheAll, for all its arguments, whatever the memory and the order that Go leaves open, returns true and leaves its arguments and all memory that was there as it was. The table of package crc starts as the program's text lays it (the card ties it).
-/
import Derived.Test.YtlcojcldbdikgaaGreatDoorKf
import Derived.Lib.SlBytesConst
import Derived.Test.YtlcojcldbdikgaaGreatDoorCel

/-
  Volume of the law of package bcache.
-/
namespace Go.Proofs.YtlcojcldbdikgaaGreatDoor
open Go.RowKit Go.Maps Go.Sort Go.Shelf

set_option maxRecDepth 8000 in
set_option maxHeartbeats 2000000 in
theorem volume_any (blocks : Nat) (w : World) (ht : Tab w) (h2 : 2 ≤ blocks) (h12 : blocks ≤ 48) :
    Calls Tryz.prog 5 #[.int .i64 (blocks : Nat)] w fun e w' => ∃ vs : VS, e = .returned (dp vs.v) ∧ VI w' vs ∧ Bud vs 1 ∧ nbOf vs.d.n = blocks ∧ (∀ i, i < blocks → vs.cont i = zeroB) ∧ Below w.heap.size w w' ∧ ∀ k, vs.mine k → w.heap.size ≤ k := by
  obtain ⟨n, hn⟩ : ∃ n, n = 4 * blocks + 8 := ⟨_, rfl⟩
  have e1 : (4 : Int) * (blocks : Nat) + 8 = (n : Nat) := by omega
  have h16 : 16 ≤ n := by omega
  have h200 : n ≤ 200 := by omega
  have hnbn : nbOf n = blocks := by unfold nbOf; omega
  have c21 := dev_new n w (by omega) (by omega)
  have HT : Hid (Tab w ∧ nbOf n = blocks) := ⟨ht, hnbn⟩
  clear ht hn hnbn
  go_enter Tryz.func5, Tryz.ntmps5
  go_wp2_with (go_at_call 24; refine c21.mono ?_; rintro e w1 ⟨a, s0, c0, m0, rfl, hd1, hB1, ha1, hs1, hm1⟩; clear c21; refine Stop.out ?_)
  refine Stop.mk ?_
  have ht1 : Tab w1 := below_tab hB1 HT.out.1.lt HT.out.1
  have cF := format_ok (newDS a s0 c0 m0 n) w1 hd1 ht1 h16 (fun i _ => rfl) (fun h => by cases h) (by simp [newDS])
  have H1 : Hid (Dev w1 (newDS a s0 c0 m0 n) ∧ Tab w1 ∧ Below w.heap.size w w1 ∧ ∀ k, (newDS a s0 c0 m0 n).mine k → w.heap.size ≤ k) := ⟨hd1, ht1, hB1, by rintro k (rfl | rfl | rfl); exact ha1; exact hs1; exact hm1⟩
  clear hd1 hB1 ha1 hs1 hm1 ht1
  go_wp2_with (go_at_call 25; refine cF.mono ?_; rintro e w2 ⟨d2, rfl, hb2, hn2, hd2, hdn2, hD2, hB2, hcn2, hfu2⟩; clear cF; refine Stop.out ?_)
  refine Stop.mk ?_
  obtain ⟨hd1, ht1, hB1, lo1⟩ := H1.out
  have ht2 : Tab w2 := hb2.tab ht1 (hd1.noTab ht1)
  have ea2 : d2.a = a := hn2.a
  have en2 : d2.n = n := hdn2
  have hb0 : d2.B 0 = headB 1 0 n := by rw [hB2]; simp [upd, newDS]
  have hzz : ∀ i, 0 < i → i < n → d2.B i = zeroB := fun i h0 _ => by
    rw [hB2]
    have : i ≠ 0 := by omega
    simp [upd, this, newDS]
  have cM := mount_ok [] 1 0 d2 w2 hd2 ht2 (by omega) (by unfold DS.dead; rw [show d2.fused = false from hfu2]; rfl) hD2 (by rw [hb0, en2]) (by omega) (by omega) (by
    refine ⟨by unfold nbOf; omega, fun hlt => ?_⟩
    rw [hzz _ (by omega) (by omega)]
    exact oldB_zero _)
  rw [ea2] at cM
  have B2 : Below w.heap.size w w2 := hB1.trans (hb2.below hB1.size lo1)
  have lo2 : ∀ k, d2.mine k → w.heap.size ≤ k := by
    rintro k (e | e | e)
    · exact lo1 k (.inl (e.trans hn2.a))
    · exact lo1 k (.inr (.inl (e.trans hn2.s)))
    · rcases hn2.m with x | x
      · exact lo1 k (.inr (.inr (e.trans x)))
      · have := hB1.size; omega
  have H2 : Hid (Dev w2 d2 ∧ Below w.heap.size w w2 ∧ (∀ k, d2.mine k → w.heap.size ≤ k) ∧ d2.B 0 = headB 1 0 n ∧ (∀ i, 0 < i → i < n → d2.B i = zeroB) ∧ d2.D = .map [] ∧ d2.count = 4 ∧ d2.fused = false ∧ d2.n = n) := ⟨hd2, B2, lo2, hb0, hzz, hD2, hcn2, hfu2, en2⟩
  clear hd1 ht1 hB1 lo1 ht2 hb0 hzz B2 lo2 hd2 hb2 hn2 hD2 hB2 hcn2 hfu2 H1 hdn2 en2
  go_wp2_with (go_at_call 26; refine cM.mono ?_; rintro e w3 ⟨v, f, rfl, hM⟩; clear cM)
  go_ret
  obtain ⟨hd2, B2, lo2, hb0, hzz, hD2, hcn2, hfu2, en2⟩ := H2.out
  obtain ⟨F, hF⟩ := hM.fr
  have B3 : Below w.heap.size w w3 := B2.trans (hM.below.mono B2.size)
  have hfm : f ≠ d2.m := by have h1 := hM.flt; have h2 := hd2.mlt; omega
  have hvlt := hM.vlt
  have hflt := hM.flt
  have hs2 := B2.size
  refine ⟨⟨v, f, 0, 0, 1, d2.n, F, fun _ => none, d2, []⟩, rfl, ⟨hM.vol, hd2.below hM.below, hF, hfm, hfu2, by show 16 ≤ d2.n; omega, by show d2.n ≤ 200; omega, zero_log v f 0 n F d2 en2 h16 hb0 hzz⟩, ⟨Nat.zero_le _, ?_, Nat.zero_le _, Nat.le_succ 1⟩, ?_, fun i hi => ?_, B3, ?_⟩
  · show d2.count ≤ 1 * 1000
    omega
  · show nbOf d2.n = blocks
    rw [en2]; exact HT.out.2
  · show d2.B (1 + i) = zeroB
    have hnb := HT.out.2
    exact hzz _ (by omega) (by unfold nbOf at hnb; omega)
  · rintro k (e | e | hm)
    · have e' : k = v := e
      omega
    · have e' : k = f := e
      omega
    · exact lo2 k hm

/-- A cache and its volume that the law has made. -/
structure LW (w0 w : World) (s : CS) (vs : VS) (B : Nat → By) (b vb : Nat) : Prop where
  ci : CI w s vs B
  cb : CB s b
  bud : Bud vs vb
  below : Below w0.heap.size w0 w
  lo : w0.heap.size ≤ s.h
  vlo : ∀ k, vs.mine k → w0.heap.size ≤ k

theorem LW.cst {w0 w w' : World} {s s' : CS} {vs : VS} {B B' : Nat → By} {b vb : Nat} (h : LW w0 w s vs B b vb) (hc : Cst w w' s s' vs B' b) : LW w0 w' s' vs B' (b + 1) vb :=
  ⟨hc.ci, hc.cb, h.bud, h.below.trans (hc.but.below h.below.size (fun k hk => by have := h.lo; rcases hk with e | ⟨e, _⟩ <;> omega)), by rw [hc.h]; exact h.lo, h.vlo⟩
theorem LW.by {w0 w w' : World} {s : CS} {vs : VS} {B : Nat → By} {b vb : Nat} (h : LW w0 w s vs B b vb) (hb : Below w.heap.size w w') : LW w0 w' s vs B b vb :=
  ⟨h.ci.below hb, h.cb, h.bud, h.below.trans (hb.mono h.below.size), h.lo, h.vlo⟩
theorem LW.bct {w0 w w' : World} {s s' : CS} {vs vs' : VS} {B : Nat → By} {b vb : Nat} (h : LW w0 w s vs B b vb) (hc : Bct w w' s s' vs vs' B b vb) : LW w0 w' s' vs' B (b + 1) (vb + 1) :=
  ⟨hc.ci, hc.cb, hc.bud, h.below.trans (hc.but.below h.below.size (fun k hk => by
    have := h.lo
    rcases hk with (e | ⟨e, _⟩) | e
    · omega
    · omega
    · exact h.vlo k e)), by rw [hc.h]; exact h.lo, fun k hk => by
    rcases hc.low k hk with e | e
    · exact h.vlo k e
    · have := h.below.size; omega⟩
theorem LW.tab {w0 w : World} {s : CS} {vs : VS} {B : Nat → By} {b vb : Nat} (h : LW w0 w s vs B b vb) (ht : Tab w0) : Tab w := below_tab h.below ht.lt ht
theorem acOf_new (c v room hh : Nat) (B : Nat → By) : acOf (newS c v room hh) B = ⟨room, [], 0, 0, 0, 0⟩ := rfl

theorem full_x (g : Nat) (w4 : World) (hx4 : w4.heap[g]? = some (.cells #[.int .u8 120] 5 (1, 2))) : Calls Tryz.prog 13 #[.slice (some ⟨g, 0, none⟩) 1 1, .int .i64 512] w4 fun e w' => e = .returned (.slice (some ⟨w4.heap.size, 0, none⟩) 512 512) ∧ w'.heap[w4.heap.size]? = some (.cells ((fullB [120] 512).map u8v).toArray 5 (0, 0)) ∧ Below w4.heap.size w4 w' := by
  have := full_bytes [120] (some ⟨g, 0, none⟩) 1 512 w4 (by omega) (by simp) (fun _ => ⟨_, _, rfl, fun j x hj => by
    have h0 : j = 0 := by have := (List.getElem?_eq_some_iff.1 hj).1; simp at this; omega
    subst h0
    have e := cellOf hx4 0
    simp at hj
    subst hj
    simpa [u8v] using e⟩)
  exact this

end Go.Proofs.YtlcojcldbdikgaaGreatDoor

/-
  begun of the law of package bcache.
-/
namespace Go.Proofs.YtlcojcldbdikgaaGreatDoor
open Go.RowKit Go.Maps Go.Sort Go.Shelf

set_option maxRecDepth 8000 in
set_option maxHeartbeats 1000000 in
theorem begun7_true (w : World) (ht : Tab w) : Calls Tryz.prog 4 #[] w fun e w' => e = .returned (.bool true) ∧ Below w.heap.size w w' := by
  obtain ⟨D, hD⟩ : ∃ D, D = fullB [120] 512 := ⟨_, rfl⟩
  have hDl : D.length = 512 := by rw [hD]; exact fullB_length _ _
  have hD0 : D[0]? = some 120 := by rw [hD]; simp [fullB]
  have cV := volume_any 8 w ht (by omega) (by omega)
  have HT : Hid (Tab w) := ht
  clear ht
  go_enter Tryz.func4, Tryz.ntmps4
  go_wp2_with (go_at_call 5; refine cV.mono ?_; rintro e w1 ⟨vs, rfl, hI1, hz1, hnb1, hc1, hB1, hlo1⟩; clear cV; refine Stop.out ?_)
  refine Stop.mk ?_
  have cN := new_ok 1 vs w1 hI1 (by omega) (by omega)
  have H1 : Hid (VI w1 vs ∧ Bud vs 1 ∧ nbOf vs.d.n = 8 ∧ (∀ i, i < 8 → vs.cont i = zeroB) ∧ Below w.heap.size w w1 ∧ ∀ k, vs.mine k → w.heap.size ≤ k) := ⟨hI1, hz1, hnb1, hc1, hB1, hlo1⟩
  clear hI1 hz1 hnb1 hc1 hB1 hlo1
  go_wp2_with (go_at_call 6; refine cN.mono ?_; rintro e w2 ⟨c, hh, rfl, hI2, hB2, hhl, hcl⟩; clear cN; refine Stop.out ?_)
  refine Stop.mk ?_
  have hL2 : LW w w2 (newS c vs.v 1 hh) vs (fun _ => []) 0 1 := by
    obtain ⟨q1, q2, q3, q4, q5, q6⟩ := H1.out
    exact ⟨hI2, ⟨Nat.zero_le _, Nat.zero_le _, Nat.zero_le _, Nat.zero_le _, Nat.zero_le _⟩, q2, q5.trans (hB2.mono q5.size), Nat.le_trans q5.size hhl, q6⟩
  have cv : (convert 33 33 (.slice (some ⟨w2.heap.size, 0, none⟩) 1 1)).run Tryz.prog (w2.alloc (.cells #[.int .u8 120] 5)) = .ok (.slice (some ⟨w2.heap.size, 0, none⟩) 1 1) (w2.alloc (.cells #[.int .u8 120] 5 (1, 2))) := Lib.run_convert_bytes_const w2 33 5 #[.int .u8 120] 1 1 Tryz.underlying33 Tryz.underlying5
  obtain ⟨w4, hw4⟩ : ∃ w4, w4 = w2.alloc (.cells #[.int .u8 120] 5 (1, 2)) := ⟨_, rfl⟩
  have hB4 : Below w2.heap.size w2 w4 := by rw [hw4]; exact (Below.refl _ w2).alloc (Nat.le_refl _) _
  have hx4 : w4.heap[w2.heap.size]? = some (.cells #[.int .u8 120] 5 (1, 2)) := by rw [hw4]; exact heap_alloc_new w2 _
  have cFu := full_x w2.heap.size w4 hx4
  rw [← hD] at cFu
  clear hD
  have H2 : Hid (LW w w2 (newS c vs.v 1 hh) vs (fun _ => []) 0 1 ∧ Below w2.heap.size w2 w4) := ⟨hL2, hB4⟩
  clear hI2 hB2 hhl hcl hL2 hB4 hx4
  go_wp2_with (go_at_call 13; rw [← hw4]; refine cFu.mono ?_; rintro e w5 ⟨rfl, hx5, hB5⟩; clear cFu cv; refine Stop.out ?_)
  refine Stop.mk ?_
  have hsz : w4.heap.size = w2.heap.size + 1 := by rw [hw4]; simp
  clear hw4
  have hL5 : LW w w5 (newS c vs.v 1 hh) vs (fun _ => []) 0 1 := (H2.out.1.by H2.out.2).by hB5
  have cP : Calls Tryz.prog 14 #[ep c, .int .i64 3, .slice (some ⟨w4.heap.size, 0, none⟩) 512 512] w5 fun e w' => e = .returned (.int .i64 0) ∧ ∃ s' B', Cst w5 w' (newS c vs.v 1 hh) s' vs B' 0 ∧ acOf s' B' = (acOf (newS c vs.v 1 hh) (fun _ => [])).put 3 D := put_new (newS c vs.v 1 hh) vs (fun _ => []) 3 0 (some ⟨w4.heap.size, 0, none⟩) 512 (D) w5 hL5.ci hL5.cb (by rw [H1.out.2.2.1]; omega) rfl rfl (bytes_block hx5) hDl (by omega) (fun g o e => by
    have e' : w4.heap.size = g := congrArg Addr.block (Option.some.inj e)
    rw [← e']
    exact ⟨_, _, hx5⟩)
  rw [hsz] at cP
  have H5 : Hid (LW w w5 (newS c vs.v 1 hh) vs (fun _ => []) 0 1) := hL5
  clear hL5 hx5 hB5 hsz
  go_wp2_with (go_at_call 14; refine cP.mono ?_; rintro e w6 ⟨rfl, s6, B6, hC6, hac6⟩; clear cP; refine Stop.out ?_)
  refine Stop.mk ?_
  have hL6 := H5.out.cst hC6
  have hA6 : acOf s6 B6 = ⟨1, [⟨3, 0, 1, true, D⟩], 1, 0, 0, 0⟩ := by rw [hac6, acOf_new]; rfl
  have hcc6 : s6.c = c := hC6.c
  have cG : Calls Tryz.prog 7 #[ep c, .int .i64 4] w6 fun e w' => e = .returned (.tuple #[.slice none 0 0, .int .i64 28]) ∧ Below w6.heap.size w6 w' := by
    have := get_full s6 vs B6 4 w6 hL6.ci (by rw [H1.out.2.2.1]; omega) (by rw [hA6]; rfl) (by rw [hA6]; rfl)
    rw [hcc6] at this
    exact this
  have H6 : Hid (LW w w6 s6 vs B6 1 1 ∧ acOf s6 B6 = ⟨1, [⟨3, 0, 1, true, D⟩], 1, 0, 0, 0⟩ ∧ s6.c = c) := ⟨hL6, hA6, hcc6⟩
  clear hC6 hac6 hL6 hA6 hcc6
  go_wp2_with (go_at_call 7; refine cG.mono ?_; rintro e w7 ⟨rfl, hB7⟩; clear cG; refine Stop.out ?_)
  refine Stop.mk ?_
  have hL7 := H6.out.1.by hB7
  have hne : 0 < s6.D.length := by
    have hm : heOf s6.U B6 (s6.A.getD 0 0) ∈ (acOf s6 B6).L ∧ s6.A.getD 0 0 ∈ s6.A ∧ (s6.U (s6.A.getD 0 0)).dirty = true := by
      have h1 : s6.A.map (heOf s6.U B6) = [⟨3, 0, 1, true, D⟩] := congrArg AC.L H6.out.2.1
      have h2 : 0 < s6.A.length := by have := congrArg List.length h1; simp at this; omega
      have h3 := getD_mem h2
      have h4 : heOf s6.U B6 (s6.A.getD 0 0) ∈ s6.A.map (heOf s6.U B6) := List.mem_map.2 ⟨_, h3, rfl⟩
      rw [h1] at h4
      have h5 := List.mem_singleton.1 h4
      exact ⟨List.mem_map.2 ⟨_, h3, rfl⟩, h3, congrArg HE.dirty h5⟩
    exact List.length_pos_of_mem ((hL7.ci.dirty _).2 ⟨hm.2.1, hm.2.2⟩)
  have cC := commit_some s6 vs B6 1 1 w7 hL7.ci (hL7.tab HT.out) hL7.cb hL7.bud (by omega) hne
  rw [H6.out.2.2] at cC
  have H7 : Hid (LW w w7 s6 vs B6 1 1) := hL7
  clear hL7 hB7 hne
  go_wp2_with (go_at_call 16; refine cC.mono ?_; rintro e w8 ⟨rfl, s8, vs8, hC8⟩; clear cC; refine Stop.out ?_)
  refine Stop.mk ?_
  have hL8 := H7.out.bct hC8
  have hA8 : acOf s8 B6 = ⟨1, [⟨3, 0, 1, false, D⟩], 1, 0, 0, 0⟩ := by rw [hC8.ac, H6.out.2.1]; rfl
  have hcc8 : s8.c = c := hC8.c.trans H6.out.2.2
  have hnb8 : nbOf vs8.d.n = 8 := by rw [hC8.n]; exact H1.out.2.2.1
  have hvol8 : vs8.cont 3 = D := by rw [hC8.vol 3 (by rw [H1.out.2.2.1]; omega), H6.out.2.1]; rfl
  have cG : Calls Tryz.prog 7 #[ep c, .int .i64 4] w8 fun e w' => ∃ g cap, e = .returned (.tuple #[.slice (some ⟨g, 0, none⟩) 512 cap, .int .i64 0]) ∧ ∃ s' B', Cst w8 w' s8 s' vs8 B' 2 ∧ acOf s' B' = (acOf s8 B6).meet 4 (vs8.cont 4) id := by
    have := get_ok s8 vs8 B6 4 2 w8 hL8.ci hL8.cb (by omega) (by omega) (.inr (by rw [hA8]; rfl))
    rw [hcc8] at this
    exact this.mono (by rintro e w' ⟨g, cap, he, s', B', h1, h2, _⟩; exact ⟨g, cap, he, s', B', h1, h2⟩)
  have H8 : Hid (LW w w8 s8 vs8 B6 2 2 ∧ acOf s8 B6 = ⟨1, [⟨3, 0, 1, false, D⟩], 1, 0, 0, 0⟩ ∧ s8.c = c ∧ nbOf vs8.d.n = 8 ∧ vs8.cont 3 = D ∧ vs8.v = vs.v) := ⟨hL8, hA8, hcc8, hnb8, hvol8, hC8.v⟩
  clear hC8 hL8 hA8 hcc8 hnb8 hvol8
  go_wp2_with (go_at_call 7; refine cG.mono ?_; rintro e w9 ⟨g9, cap9, rfl, s9, B9, hC9, hac9⟩; clear cG; refine Stop.out ?_)
  refine Stop.mk ?_
  have hL9 := H8.out.1.cst hC9
  have hA9 : acOf s9 B9 = ⟨1, [⟨4, 0, 2, false, vs8.cont 4⟩], 2, 0, 1, 1⟩ := by rw [hac9, H8.out.2.1]; rfl
  have hcc9 : s9.c = c := hC9.c.trans H8.out.2.2.1
  have cCt := counts_cache s9 vs8 B9 w9 hL9.ci
  rw [hcc9, show s9.met = 0 from congrArg AC.hit hA9, show s9.missed = 1 from congrArg AC.miss hA9, show s9.out = 1 from congrArg AC.outs hA9] at cCt
  have H9 : Hid (LW w w9 s9 vs8 B9 3 2 ∧ acOf s9 B9 = ⟨1, [⟨4, 0, 2, false, vs8.cont 4⟩], 2, 0, 1, 1⟩ ∧ s9.c = c) := ⟨hL9, hA9, hcc9⟩
  clear hC9 hac9 hL9 hA9 hcc9
  go_wp2_with (go_at_call 22; refine cCt.mono ?_; rintro e wa ⟨rfl, qa, rfl⟩; clear cCt; refine Stop.out ?_)
  refine Stop.mk ?_
  have hLa : LW w (w9.drewN qa) s9 vs8 B9 3 2 := H9.out.1.by (below_drewN (Below.refl _ _) qa)
  have cR := vReadT_any 3 vs8 (w9.drewN qa) hLa.ci.vi (by rw [H8.out.2.2.2.1]; omega)
  rw [H8.out.2.2.2.2.2, H8.out.2.2.2.2.1] at cR
  go_wp2_with (go_at_call 21; refine cR.mono ?_; rintro e wb ⟨gb, cpb, rfl, _, _, hbb, hBb, _, _⟩; clear cR; refine Stop.out ?_)
  refine Stop.mk ?_
  have hLb := hLa.by hBb
  obtain ⟨g', o', e', hxb⟩ := hbb (by omega)
  cases e'
  have xb : wb.cell? ⟨gb, 0, none⟩ = some (.int .u8 120) := by
    have := hxb 0 120 hD0
    simpa [u8v] using this
  have cH3 := has_cache s9 vs8 B9 3 wb hLb.ci (by omega) (by omega) false (by rw [H9.out.2.1]; rfl)
  have cH4 := has_cache s9 vs8 B9 4 wb hLb.ci (by omega) (by omega) true (by rw [H9.out.2.1]; rfl)
  rw [H9.out.2.2] at cH3 cH4
  have HLb : Hid (Below w.heap.size w wb) := hLb.below
  have tk1 : True := trivial
  clear hLb hLa hxb hbb hBb
  go_wp2_with (first
    | (go_at_call 23; have tk := tk1; clear tk1; refine Calls_on cH3 ?_)
    | (go_at_call 23; refine Calls_on cH4 ?_))
  go_ret
  exact ⟨rfl, HLb.out⟩

end Go.Proofs.YtlcojcldbdikgaaGreatDoor

/-
  Commit of a cache in which nothing was put.
-/
namespace Go.Proofs.YtlcojcldbdikgaaGreatDoor
open Go.RowKit Go.Maps Go.Sort Go.Shelf

theorem commit_clean (A : AC) (h : ∀ x ∈ A.L, x.dirty = false) : A.commit = A := by
  unfold AC.commit
  have e : A.L.map (fun x : HE => { x with dirty := false }) = A.L := by
    refine (List.map_congr_left fun x hx => ?_).trans (List.map_id _)
    have := h x hx
    cases x
    simp_all
  rw [e]

set_option maxRecDepth 8000 in
set_option maxHeartbeats 1000000 in
theorem commit_none (s : CS) (vs : VS) (B : Nat → By) (b : Nat) (w : World) (h : CI w s vs B) (hz : CB s b) (hD : s.D = []) :
    Calls Tryz.prog 16 #[ep s.c] w fun e w' => e = .returned (.int .i64 0) ∧ ∃ s', Cst w w' s s' vs B b ∧ acOf s' B = acOf s B := by
  have c3 : w.cell? ⟨s.c, 3, none⟩ = some (.slice s.dq 0 s.dcap) := by rw [cellOf h.cm.hp.cell 3, show 0 = s.D.length by rw [hD]; rfl]; rfl
  have cS : ∀ W, Calls Tryz.prog 35 #[.slice s.dq 0 s.dcap, .func (.func 36) #[] #[]] W fun e w' => e = .returned (.tuple #[]) ∧ w' = W := fun W =>
    AnyF.slices_SortFunc_none { Tryz.sortE with } s.dq s.dcap _ W
  obtain ⟨k0, hk0, hx0, hx1, hx2⟩ := info_parts Tryz.infoPut
  have H0 : Hid (CI w s vs B ∧ CB s b ∧ s.D = []) := ⟨h, hz, hD⟩
  clear h hz hD
  go_enter Tryz.func16, Tryz.ntmps16
  go_wp2_with (go_at_call 35; refine Calls_on (cS _) ?_; refine Stop.out ?_)
  refine Stop.mk ?_
  clear cS
  go_wp2_with (at_make; refine wpList_make_own _ rfl _ _ 75 rfl w.heap.size 77 k0 (.agg #[.int .i64 0, .slice none 0 0]) 2 Tryz.underlying75 hk0 hx0 hx1 .i64 .i64 _ 0 rfl rfl (by go_num) (by rw [hx2]; omega) (by unfold maxLen; omega) (Nat.le_refl _) ?_; intro w2 hrow2 hg2; refine Stop.out ?_)
  refine Stop.mk ?_
  have hB2 : Below w.heap.size w w2 := (Below.refl _ w).grown hg2 (Nat.le_refl _) (by simp)
  have e3 : w2.cell? ⟨s.c, 3, none⟩ = some (.slice s.dq 0 s.dcap) := (hB2.cell (p := ⟨s.c, 3, none⟩) (World.block_lt_of_cell? w _ c3)).trans c3
  have HB2 : Hid (Below w.heap.size w w2) := hB2
  clear hrow2 hg2 hB2 c3
  go_wp2_with fail
  go_loop [3, 27] (fun lv ii => lv = .slice (some ⟨w.heap.size, 0, none⟩) 0 0 ∧ ii = .int .i64 0) (fun _ _ => 0)
  case atStart => exact ⟨rfl, rfl⟩
  case round =>
    obtain ⟨rfl, rfl⟩ := hrel
    have h2 := H0.out.1.below HB2.out
    have d0 : w2.cell? ⟨s.c, 0, none⟩ = some (dp vs.v) := by rw [cellOf h2.cm.hp.cell 0, ← h2.vv]; rfl
    have cC := vCommit_empty (some ⟨w.heap.size, 0, none⟩) 0 vs w2 h2.vi
    clear h2
    go_wp2_with (go_at_call 38; refine cC.mono ?_; rintro e w6 ⟨rfl, hB6⟩; clear cC; refine Stop.out ?_)
    refine Stop.mk ?_
    have hBw : Below w.heap.size w w6 := HB2.out.trans (hB6.mono HB2.out.size)
    have h6 := H0.out.1.below hBw
    have k3 : w6.cell? ⟨s.c, 3, none⟩ = some (.slice s.dq 0 s.dcap) := by rw [cellOf h6.cm.hp.cell 3, show 0 = s.D.length by rw [H0.out.2.2]; rfl]; rfl
    have f3 := frozenOf h6.cm.hp.cell 3
    have HF : Hid (Cst w (w6.setCell ⟨s.c, 3, none⟩ (.slice none 0 0)) s { s with D := [], dq := none, dcap := 0 } vs B b) := by
      have mC : cMine w6 s.h s.c := h6.cm.mineC
      have hB4 : But (cMine w s.h) w (w6.setCell ⟨s.c, 3, none⟩ (.slice none 0 0)) := cMine_trans (But.of_below hBw) ((But.refl (cMine w6 s.h) w6).setCell _ mC _)
      have hz := H0.out.2.1
      have hnil := H0.out.2.2
      have h := H0.out.1
      obtain ⟨hvi, hkeep⟩ := h.keep hB4
      refine ⟨⟨cm_clean h6.cm, hvi, h.vv, h.hf, h.hd, fun a ha => hkeep _ _ (h.dat a ha), fun _ h => h.elim, h.ord, h.idle, fun a => ?_, List.nodup_nil, h.used, h.uinj, h.blk, h.clean, h.room⟩, ⟨?_, ?_, ?_, ?_, ?_⟩, rfl, rfl, hB4⟩
      · have := h.dirty a
        rw [hnil] at this
        exact this
      · exact Nat.le_trans hz.nh (Nat.le_succ _)
      · exact Nat.le_trans hz.uses (Nat.le_succ _)
      · exact Nat.le_trans hz.met (Nat.le_succ _)
      · exact Nat.le_trans hz.missed (Nat.le_succ _)
      · exact Nat.le_trans hz.out (Nat.le_succ _)
    clear hBw h6 hB6
    go_wp2_with fail
    go_loop [58] (fun ii => ii = .int .i64 0) (fun _ => 0)
    case atStart => rfl
    case round =>
      subst hrel
      go_wp2
      go_ret
      exact ⟨rfl, _, HF.out, rfl⟩

end Go.Proofs.YtlcojcldbdikgaaGreatDoor

/-
  CacheAll: Commit over both caches.
-/
namespace Go.Proofs.YtlcojcldbdikgaaGreatDoor.Rc
open Go.RowKit Go.Maps

theorem JP.bct {O : Nat → Array Value → Prop} {w0 w w' : World} {s s' : CS} {vs vs' : VS} {B : Nat → By} {A : AC} {b vb c : Nat} (h : JP O w0 w c vs A b vb) (ci : CI w s vs B) (hl : w0.heap.size ≤ s.h) (hc : Bct w w' s s' vs vs' B b vb) (e : s.c = c) : JP O w0 w' c vs' (acOf s' B) (b + 1) (vb + 1) :=
  ⟨⟨s', B, hc.ci, hc.cb, hc.c.trans e, rfl, by rw [hc.h]; exact hl⟩, hc.bud, h.below.trans (hc.but.below h.below.size (fun k hk => by
    rcases hk with (e | ⟨e, _⟩) | e
    · omega
    · omega
    · exact h.vlo k e)), fun k hk => by
    rcases hc.low k hk with e | e
    · exact h.vlo k e
    · have := h.below.size; omega, fun g cs hg => opk_step ci hc.but (h.ok g cs hg)⟩
theorem vol_clean {A : AC} {cont : Nat → By} (h : ∀ x ∈ A.L, x.dirty = false) (i : Nat) : A.vol cont i = cont i := by
  unfold AC.vol
  have : A.L.find? (fun x => x.dirty && x.block == i) = none := by
    rw [List.find?_eq_none]
    intro x hx
    rw [h x hx]
    simp
  rw [this]
  rfl
theorem jcommit (O : Nat → Array Value → Prop) (w0 w : World) (c base r : Nat) (vs : VS) (A : AC) (b vb n : Nat) (D : SV → List (BitVec 8)) (S : RS) (cont : Nat → By) (ht : Tab w0) (hp : JP O w0 w c vs A b vb) (hd : JD w0 w base r D S n cont) (hvb : vb ≤ 900) :
    Calls Tryz.prog 16 #[ep c] w fun e w' => e = .returned (.int .i64 0) ∧ ∃ vs' vb', vb' ≤ vb + 1 ∧ JP O w0 w' c vs' A.commit (b + 1) vb' ∧ JD w0 w' base r D S n cont ∧ vs'.v = vs.v ∧ nbOf vs'.d.n = nbOf vs.d.n ∧ ∀ i, i < nbOf vs.d.n → vs'.cont i = A.vol vs.cont i := by
  obtain ⟨s, B, h1, h2, rfl, rfl, h5⟩ := hp.st
  by_cases hD : s.D = []
  · have hcl : ∀ x ∈ (acOf s B).L, x.dirty = false := fun x hx => by
      obtain ⟨a, ha, rfl⟩ := List.mem_map.1 hx
      show (s.U a).dirty = false
      cases hdy : (s.U a).dirty with
      | false => rfl
      | true =>
        have := (h1.dirty a).2 ⟨ha, hdy⟩
        rw [hD] at this
        cases this
    refine (commit_none s vs B b w h1 h2 hD).mono ?_
    rintro e w' ⟨he, s', hc, hac⟩
    have := hp.cst h1 h5 hc rfl
    rw [hac] at this
    exact ⟨he, vs, vb, Nat.le_succ _, by rw [commit_clean _ hcl]; exact this, hd.cst h1 hc, rfl, rfl, fun i _ => (vol_clean hcl i).symm⟩
  · have htw : Tab w := below_tab hp.below ht.lt ht
    refine (commit_some s vs B b vb w h1 htw h2 hp.bud hvb (by cases hq : s.D with | nil => exact absurd hq hD | cons _ _ => simp)).mono ?_
    rintro e w' ⟨he, s', vs', hc⟩
    have := hp.bct h1 h5 hc rfl
    rw [hc.ac] at this
    exact ⟨he, vs', vb + 1, Nat.le_refl _, this, hd.step h1 hc.but, hc.v, by rw [hc.n], hc.vol⟩
theorem vol_abs {D : SV → List (BitVec 8)} {S : RS} {cont : Nat → By} (ha : Apart S.L) (hv : ∀ i z, S.V[i]? = some z → D z = cont i) (i : Nat) (z : SV) (hz : (comR S S.L.length).V[i]? = some z) : D z = (abs D S).vol cont i := by
  have hi : i < S.V.length := by
    rw [← (comR_len S S.L.length).2]
    exact (List.getElem?_eq_some_iff.1 hz).1
  have e := comR_V S ha S.L.length i hi
  rw [hz, List.take_length] at e
  unfold AC.vol abs
  simp only [List.find?_map]
  have ef : ((fun x : HE => x.dirty && x.block == i) ∘ he D) = fun y : RE => y.dirty && y.block == i := rfl
  rw [ef]
  cases hf : S.L.find? (fun y => y.dirty && y.block == i) with
  | some y =>
    rw [hf] at e
    injection e with e
    rw [e]
    rfl
  | none =>
    rw [hf] at e
    exact hv i z e.symm
theorem rcommit (O : Nat → Array Value → Prop) (w0 w : World) (c base r : Nat) (vs : VS) (A : AC) (b vb n : Nat) (D : SV → List (BitVec 8)) (S : RS) (cont cont' : Nat → By) (hp : JP O w0 w c vs A b vb) (hd : JD w0 w base r D S n cont) (hA : A = (abs D S).commit) (hs : Small S) (hn : n = nbOf vs.d.n) (hc : ∀ i, i < n → cont' i = (abs D S).vol cont i) :
    Calls Tryz.prog 17 #[.pointer (some ⟨r, 0, none⟩)] w fun e w' => e = .returned (.tuple #[]) ∧ ∃ S', JP O w0 w' c vs A b vb ∧ JD w0 w' base r D S' n cont' ∧ abs D S' = A := by
  obtain ⟨vv, lv, hr⟩ := hd.rf
  have hblk : ∀ y ∈ S.L, y.block < S.V.length := fun y hy => by
    have hm : ({ he D y with dirty := false } : HE) ∈ A.L := by
      rw [hA]
      exact List.mem_map_of_mem (f := fun x : HE => { x with dirty := false }) (List.mem_map_of_mem (f := he D) hy)
    have := hp.blk _ hm
    have e : ({ he D y with dirty := false } : HE).block = y.block := rfl
    rw [e] at this
    rw [hd.vl, hn]
    exact this
  refine (rcommit_any base r vv lv S w hr hs.1 hblk).mono ?_
  rintro e w' ⟨he', hf, hR⟩
  have hdl : ∀ y ∈ S.L, BRow w' base y.b (D y.b) ∧ (D y.b).length = 512 := fun y hy => ⟨brow_fr (hd.dl y hy).1 hf, (hd.dl y hy).2⟩
  refine ⟨he', comR S S.L.length, hp.fr hd.lo hf, ⟨⟨_, _, hR⟩, hd.lo, commit_apart hd.ap, fun y hy => ?_, fun z hz => ?_, ?_, fun i z hz => ?_⟩, by rw [hA]; exact commit_abs D S⟩
  · rw [comR_all] at hy
    obtain ⟨y', hy', rfl⟩ := List.mem_map.1 hy
    exact hdl y' hy'
  · obtain ⟨i, hi⟩ := List.getElem?_of_mem hz
    have hil : i < S.V.length := by
      rw [← (comR_len S S.L.length).2]
      exact (List.getElem?_eq_some_iff.1 hi).1
    have e := comR_V S hd.ap S.L.length i hil
    rw [hi, List.take_length] at e
    cases hq : S.L.find? (fun y => y.dirty && y.block == i) with
    | some y =>
      rw [hq] at e
      injection e with e
      rw [e]
      exact hdl y (List.mem_of_find?_eq_some hq)
    | none =>
      rw [hq] at e
      have hm : z ∈ S.V := List.mem_of_getElem? e.symm
      exact ⟨brow_fr (hd.dv z hm).1 hf, (hd.dv z hm).2⟩
  · rw [(comR_len S S.L.length).2]; exact hd.vl
  · have hil : i < n := by
      rw [← hd.vl, ← (comR_len S S.L.length).2]
      exact (List.getElem?_eq_some_iff.1 hz).1
    rw [hc i hil]
    exact vol_abs hd.ap hd.vc i z hz

end Go.Proofs.YtlcojcldbdikgaaGreatDoor.Rc

/-
  CacheAll: how often a block is pinned (pure), and what the law's loop keeps.
-/
namespace Go.Proofs.YtlcojcldbdikgaaGreatDoor.Rc
open Go.RowKit Go.Maps

def Pins (A : AC) (m : Nat) : Prop := ∀ e ∈ A.L, e.pins ≤ m
theorem Pins.mono {A : AC} {m m' : Nat} (h : Pins A m) (hm : m ≤ m') : Pins A m' := fun e he => Nat.le_trans (h e he) hm
theorem pins_touch {A : AC} {m : Nat} (h : Pins A m) (b : Nat) {f : HE → HE} (hf : ∀ x, (f x).pins ≤ x.pins + 1) : Pins (A.touch b f) (m + 1) := fun e he => by
  obtain ⟨x, hx, rfl⟩ := List.mem_map.1 he
  have := h x hx
  show (if x.block = b then f { x with used := A.time + 1 } else x).pins ≤ m + 1
  by_cases hb : x.block = b
  · rw [if_pos hb]
    have := hf { x with used := A.time + 1 }
    have e2 : ({ x with used := A.time + 1 } : HE).pins = x.pins := rfl
    omega
  · rw [if_neg hb]; omega
theorem pins_add {A : AC} {m : Nat} (h : Pins A m) (b : Nat) (d : By) : Pins (A.evict.add b d) m := fun e he => by
  rcases List.mem_append.1 he with he | he
  · exact h e (evict_sub A e he)
  · rw [List.mem_singleton.1 he]; exact Nat.zero_le _
theorem pins_meet {A : AC} {m : Nat} (h : Pins A m) (b : Nat) (d : By) {f : HE → HE} (hf : ∀ x, (f x).pins ≤ x.pins + 1) : Pins (A.meet b d f) (m + 1) := by
  unfold AC.meet
  split
  · exact pins_touch (A := { A with hit := A.hit + 1 }) h b hf
  · exact pins_touch (A := { A.evict.add b d with miss := A.miss + 1 }) (pins_add h b d) b hf
theorem pins_put {A : AC} {m : Nat} (h : Pins A m) (b : Nat) (d : By) : Pins (A.put b d) (m + 1) := by
  unfold AC.put
  refine pins_touch ?_ b (fun x => Nat.le_succ _)
  split
  · exact h
  · exact pins_add h b d
theorem pins_unpin {A : AC} {m : Nat} (h : Pins A m) (b : Nat) : Pins (A.unpin b) m := fun e he => by
  obtain ⟨x, hx, rfl⟩ := List.mem_map.1 he
  have := h x hx
  show (if x.block = b then ({ x with pins := x.pins - 1 } : HE) else x).pins ≤ m
  by_cases hb : x.block = b
  · rw [if_pos hb]
    show x.pins - 1 ≤ m
    omega
  · rw [if_neg hb]; exact this
theorem pins_drop {A : AC} {m : Nat} (h : Pins A m) : Pins A.drop m := fun e he => h e (List.mem_filter.1 he).1
theorem pins_commit {A : AC} {m : Nat} (h : Pins A m) : Pins A.commit m := fun e he => by
  obtain ⟨x, hx, rfl⟩ := List.mem_map.1 he
  exact h x hx
theorem pins_doc {D : SV → List (BitVec 8)} {S : RS} {m k : Nat} (h : Pins (abs D S) m) (hk : m < k) : ∀ y ∈ S.L, y.pins < k := fun y hy => by
  have : y.pins ≤ m := h (he D y) (List.mem_map_of_mem hy)
  omega

/-- What the law's loop keeps, behind i operations. -/
structure LK (O : Nat → Array Value → Prop) (w0 w : World) (c base r v n i : Nat) : Prop where
  st : ∃ vs D S b vb, b ≤ i ∧ vb ≤ i + 1 ∧ vs.v = v ∧ nbOf vs.d.n = n ∧ JP O w0 w c vs (abs D S) b vb ∧ JD w0 w base r D S n vs.cont ∧ Pins (abs D S) b
theorem LK.by {O : Nat → Array Value → Prop} {w0 w w' : World} {c base r v n i : Nat} (h : LK O w0 w c base r v n i) (hb : Below w.heap.size w w') : LK O w0 w' c base r v n i := by
  obtain ⟨vs, D, S, b, vb, h1, h2, h3, h4, h5, h6, h7⟩ := h.st
  exact ⟨vs, D, S, b, vb, h1, h2, h3, h4, h5.by hb, h6.by hb, h7⟩
/-- same, over it. -/
theorem lk_same (O : Nat → Array Value → Prop) (w0 w : World) (c base r v n i : Nat) (x : Int) (h : LK O w0 w c base r v n i) (hi : i < 1000) (hn : n ≤ 100000) (q1 : -9223372036854775808 ≤ x) (q2 : x < 9223372036854775808) :
    Calls Tryz.prog 20 #[ep c, .pointer (some ⟨r, 0, none⟩), .int .i64 x] w fun e w' => e = .returned (.bool true) ∧ LK O w0 w' c base r v n i ∧ Below w.heap.size w w' := by
  obtain ⟨vs, D, S, b, vb, h1, h2, h3, rfl, h5, h6, h7⟩ := h.st
  exact (jsame O w0 w c base r vs (abs D S) b vb x D S vs.cont h5 h6 rfl (small_of (h5.small (by omega))) q1 q2 hn).mono fun e w' ⟨he, k1, k2, hb⟩ => ⟨he, ⟨vs, D, S, b, vb, h1, h2, h3, rfl, k1, k2, h7⟩, hb⟩

end Go.Proofs.YtlcojcldbdikgaaGreatDoor.Rc

/-
  CacheAll: the two calls of a round, one behind the other: Get, Pin, Unpin, Drop, Commit.
-/
namespace Go.Proofs.YtlcojcldbdikgaaGreatDoor.Rc
open Go.RowKit Go.Maps

/-- Both read as one string. -/
def Twin (w : World) (v1 v2 : Value) : Prop := ∃ S, (convert 33 9 v1).run Tryz.prog w = .ok (.string S) w ∧ (convert 33 9 v2).run Tryz.prog w = .ok (.string S) w
theorem twin_nil (w : World) : Twin w (.slice none 0 0) (.slice none 0 0) :=
  ⟨strOf [], str_at (bs := []) rfl (fun h => absurd h (by simp)), str_at (bs := []) rfl (fun h => absurd h (by simp))⟩
theorem tag_below {w w' : World} {g : Nat} (h : ∃ cs fr, w.heap[g]? = some (.cells cs 5 fr)) (hb : Below w.heap.size w w') : ∃ cs fr, w'.heap[g]? = some (.cells cs 5 fr) := by
  obtain ⟨cs, fr, e⟩ := h
  exact ⟨cs, fr, (hb.block g (block_lt e)).trans e⟩

theorem lk_get (O : Nat → Array Value → Prop) (w0 w : World) (c base r v n i : Nat) (x : Int) (h : LK O w0 w c base r v n i) (hi : i < 1000) (q1 : -9223372036854775808 ≤ x) (q2 : x < 9223372036854775808) :
    Calls Tryz.prog 7 #[ep c, .int .i64 x] w fun e w' => ∃ v1 er, e = .returned (.tuple #[v1, .int .i64 er]) ∧ (∀ g cs, O g cs → w'.heap[g]? = some (.cells cs 35 (0, 0))) ∧ ∀ W, Below w'.heap.size w' W → Calls Tryz.prog 8 #[.pointer (some ⟨r, 0, none⟩), .int .i64 x] W fun e2 w2 => ∃ v2, e2 = .returned (.tuple #[v2, .int .i64 er]) ∧ LK O w0 w2 c base r v n (i + 1) ∧ Twin w2 v1 v2 := by
  obtain ⟨vs, D, S, b, vb, h1, h2, h3, rfl, h5, h6, h7⟩ := h.st
  have hs := small_of (h5.small (by omega))
  by_cases hx : 0 ≤ x ∧ x < nbOf vs.d.n
  · obtain ⟨k, rfl⟩ : ∃ k : Nat, x = k := ⟨x.toNat, by omega⟩
    have hk : k < nbOf vs.d.n := by omega
    by_cases hok : (abs D S).held k = true ∨ (abs D S).full = false
    · refine (jget_ok O w0 w c base r vs _ b vb k D S vs.cont h5 h6 (by omega) hk hok).mono ?_
      rintro e w' ⟨g, cap, he, k1, k2, hlen, hby, htag⟩
      refine ⟨_, _, he, k1.ok, fun W hW => ?_⟩
      refine (jget_doc O w0 W c base r vs _ (b + 1) vb k _ D S vs.cont (k1.by hW) (k2.by hW) rfl hs hk hok).mono ?_
      rintro e2 w2 ⟨S', sv, he2, hfr, m1, m2, m3, m4, m5⟩
      refine ⟨sv.val, he2, ⟨vs, D, S', b + 1, vb, by omega, by omega, h3, rfl, by rw [m3]; exact m1, m2, by rw [m3]; exact pins_meet h7 k _ (fun y => Nat.le_succ _)⟩, ?_⟩
      have hb1 := fr_bytes hfr (bytes_kept hby hW) (tag_below htag hW)
      obtain ⟨q, cs, f1, f2, f3, f4, f5⟩ := m4
      exact ⟨_, str_at hlen hb1, str_at f2.symm f5⟩
    · have hh : (abs D S).held k = false := by
        cases hq : (abs D S).held k with
        | false => rfl
        | true => exact absurd (.inl hq) hok
      have hf : (abs D S).full = true := by
        cases hq : (abs D S).full with
        | true => rfl
        | false => exact absurd (.inr hq) hok
      refine (jget_full O w0 w c base r vs _ b vb _ k D S vs.cont h5 h6 hk hh hf).mono ?_
      rintro e w' ⟨he, k1, k2⟩
      refine ⟨_, _, he, k1.ok, fun W hW => ?_⟩
      refine (rget_full O w0 W c base r vs _ b vb _ k D S vs.cont (k1.by hW) (k2.by hW) hs hk hh hf).mono ?_
      rintro e2 w2 ⟨he2, m1, m2⟩
      exact ⟨_, he2, ⟨vs, D, S, b, vb, by omega, by omega, h3, rfl, m1, m2, h7⟩, twin_nil _⟩
  · refine (jget_out O w0 w c base r vs _ b vb _ x D S vs.cont h5 h6 q1 q2 hx).mono ?_
    rintro e w' ⟨he, k1, k2⟩
    refine ⟨_, _, he, k1.ok, fun W hW => ?_⟩
    refine (rget_out O w0 W c base r vs _ b vb _ x D S vs.cont (k1.by hW) (k2.by hW) hs hx).mono ?_
    rintro e2 w2 ⟨he2, m1, m2⟩
    exact ⟨_, he2, ⟨vs, D, S, b, vb, by omega, by omega, h3, rfl, m1, m2, h7⟩, twin_nil _⟩

theorem lk_pin (O : Nat → Array Value → Prop) (w0 w : World) (c base r v n i : Nat) (x : Int) (h : LK O w0 w c base r v n i) (hi : i < 1000) (q1 : -9223372036854775808 ≤ x) (q2 : x < 9223372036854775808) :
    Calls Tryz.prog 9 #[ep c, .int .i64 x] w fun e w' => ∃ er, e = .returned (.int .i64 er) ∧ (∀ g cs, O g cs → w'.heap[g]? = some (.cells cs 35 (0, 0))) ∧ ∀ W, Below w'.heap.size w' W → Calls Tryz.prog 10 #[.pointer (some ⟨r, 0, none⟩), .int .i64 x] W fun e2 w2 => e2 = .returned (.int .i64 er) ∧ LK O w0 w2 c base r v n (i + 1) := by
  obtain ⟨vs, D, S, b, vb, h1, h2, h3, rfl, h5, h6, h7⟩ := h.st
  have hs := small_of (h5.small (by omega))
  have hpd : ∀ y ∈ S.L, y.pins < 1000000000000 := pins_doc h7 (by omega)
  have hpp : ∀ e ∈ (abs D S).L, e.pins < 1000000 := fun e he => by have := h7 e he; omega
  by_cases hx : 0 ≤ x ∧ x < nbOf vs.d.n
  · obtain ⟨k, rfl⟩ : ∃ k : Nat, x = k := ⟨x.toNat, by omega⟩
    have hk : k < nbOf vs.d.n := by omega
    by_cases hok : (abs D S).held k = true ∨ (abs D S).full = false
    · refine (jpin_ok O w0 w c base r vs _ b vb _ k D S vs.cont h5 h6 (by omega) hk hok hpp).mono ?_
      rintro e w' ⟨he, k1, k2⟩
      refine ⟨_, he, k1.ok, fun W hW => ?_⟩
      refine (rpin_ok O w0 W c base r vs _ (b + 1) vb k _ D S vs.cont (k1.by hW) (k2.by hW) rfl hs hpd hk hok).mono ?_
      rintro e2 w2 ⟨he2, S', m1, m2, m3⟩
      exact ⟨he2, ⟨vs, D, S', b + 1, vb, by omega, by omega, h3, rfl, by rw [m3]; exact m1, m2, by rw [m3]; exact pins_meet h7 k _ (fun y => Nat.le_refl _)⟩⟩
    · have hh : (abs D S).held k = false := by
        cases hq : (abs D S).held k with
        | false => rfl
        | true => exact absurd (.inl hq) hok
      have hf : (abs D S).full = true := by
        cases hq : (abs D S).full with
        | true => rfl
        | false => exact absurd (.inr hq) hok
      refine (jpin_full O w0 w c base r vs _ b vb _ k D S vs.cont h5 h6 hk hh hf).mono ?_
      rintro e w' ⟨he, k1, k2⟩
      refine ⟨_, he, k1.ok, fun W hW => ?_⟩
      refine (rpin_full O w0 W c base r vs _ b vb _ k D S vs.cont (k1.by hW) (k2.by hW) hs hpd hk hh hf).mono ?_
      rintro e2 w2 ⟨he2, m1, m2⟩
      exact ⟨he2, ⟨vs, D, S, b, vb, by omega, by omega, h3, rfl, m1, m2, h7⟩⟩
  · refine (jpin_out O w0 w c base r vs _ b vb _ x D S vs.cont h5 h6 q1 q2 hx).mono ?_
    rintro e w' ⟨he, k1, k2⟩
    refine ⟨_, he, k1.ok, fun W hW => ?_⟩
    refine (rpin_out O w0 W c base r vs _ b vb _ x D S vs.cont (k1.by hW) (k2.by hW) hs hpd hx).mono ?_
    rintro e2 w2 ⟨he2, m1, m2⟩
    exact ⟨he2, ⟨vs, D, S, b, vb, by omega, by omega, h3, rfl, m1, m2, h7⟩⟩

theorem lk_unpin (O : Nat → Array Value → Prop) (w0 w : World) (c base r v n i : Nat) (x : Int) (h : LK O w0 w c base r v n i) (hi : i < 1000) (q1 : -9223372036854775808 ≤ x) (q2 : x < 9223372036854775808) :
    Calls Tryz.prog 11 #[ep c, .int .i64 x] w fun e w' => ∃ er, e = .returned (.int .i64 er) ∧ (∀ g cs, O g cs → w'.heap[g]? = some (.cells cs 35 (0, 0))) ∧ ∀ W, Below w'.heap.size w' W → Calls Tryz.prog 12 #[.pointer (some ⟨r, 0, none⟩), .int .i64 x] W fun e2 w2 => e2 = .returned (.int .i64 er) ∧ LK O w0 w2 c base r v n (i + 1) := by
  obtain ⟨vs, D, S, b, vb, h1, h2, h3, rfl, h5, h6, h7⟩ := h.st
  have hs := small_of (h5.small (by omega))
  have hpd : ∀ y ∈ S.L, y.pins < 1000000000000 := pins_doc h7 (by omega)
  by_cases hx : ∃ e ∈ (abs D S).L, (e.block : Int) = x ∧ 0 < e.pins
  · obtain ⟨e0, he0, rfl, hp0⟩ := hx
    refine (junpin_ok O w0 w c base r vs _ b vb _ e0.block D S vs.cont h5 h6 ⟨e0, he0, rfl, hp0, by have := h7 e0 he0; omega⟩).mono ?_
    rintro e w' ⟨he, k1, k2⟩
    refine ⟨_, he, k1.ok, fun W hW => ?_⟩
    refine (runpin_ok O w0 W c base r vs _ (b + 1) vb _ e0.block D S vs.cont (k1.by hW) (k2.by hW) rfl hs hpd ⟨e0, he0, rfl, hp0⟩).mono ?_
    rintro e2 w2 ⟨he2, S', m1, m2, m3⟩
    exact ⟨he2, ⟨vs, D, S', b + 1, vb, by omega, by omega, h3, rfl, by rw [m3]; exact m1, m2, by rw [m3]; exact (pins_unpin h7 _).mono (Nat.le_succ _)⟩⟩
  · have hx' : ∀ e ∈ (abs D S).L, (e.block : Int) = x → e.pins = 0 := fun e he hb => by
      have : ¬ 0 < e.pins := fun hp => hx ⟨e, he, hb, hp⟩
      omega
    refine (junpin_no O w0 w c base r vs _ b vb _ x D S vs.cont h5 h6 q1 q2 hx').mono ?_
    rintro e w' ⟨he, k1, k2⟩
    refine ⟨_, he, k1.ok, fun W hW => ?_⟩
    refine (runpin_no O w0 W c base r vs _ b vb _ x D S vs.cont (k1.by hW) (k2.by hW) hs hpd hx').mono ?_
    rintro e2 w2 ⟨he2, m1, m2⟩
    exact ⟨he2, ⟨vs, D, S, b, vb, by omega, by omega, h3, rfl, m1, m2, h7⟩⟩

theorem lk_drop (O : Nat → Array Value → Prop) (w0 w : World) (c base r v n i : Nat) (h : LK O w0 w c base r v n i) (hi : i < 1000) :
    Calls Tryz.prog 18 #[ep c] w fun e w' => e = .returned (.tuple #[]) ∧ (∀ g cs, O g cs → w'.heap[g]? = some (.cells cs 35 (0, 0))) ∧ ∀ W, Below w'.heap.size w' W → Calls Tryz.prog 19 #[.pointer (some ⟨r, 0, none⟩)] W fun e2 w2 => e2 = .returned (.tuple #[]) ∧ LK O w0 w2 c base r v n (i + 1) := by
  obtain ⟨vs, D, S, b, vb, h1, h2, h3, rfl, h5, h6, h7⟩ := h.st
  have hs := small_of (h5.small (by omega))
  refine (jdrop O w0 w c base r vs _ b vb _ D S vs.cont h5 h6).mono ?_
  rintro e w' ⟨he, k1, k2⟩
  refine ⟨he, k1.ok, fun W hW => ?_⟩
  refine (rdrop O w0 W c base r vs _ (b + 1) vb _ D S vs.cont (k1.by hW) (k2.by hW) hs rfl).mono ?_
  rintro e2 w2 ⟨he2, S', m1, m2, m3⟩
  exact ⟨he2, ⟨vs, D, S', b + 1, vb, by omega, by omega, h3, rfl, by rw [m3]; exact m1, m2, by rw [m3]; exact (pins_drop h7).mono (Nat.le_succ _)⟩⟩

theorem lk_commit (O : Nat → Array Value → Prop) (w0 w : World) (c base r v n i : Nat) (ht : Tab w0) (h : LK O w0 w c base r v n i) (hi : i < 500) :
    Calls Tryz.prog 16 #[ep c] w fun e w' => e = .returned (.int .i64 0) ∧ (∀ g cs, O g cs → w'.heap[g]? = some (.cells cs 35 (0, 0))) ∧ ∀ W, Below w'.heap.size w' W → Calls Tryz.prog 17 #[.pointer (some ⟨r, 0, none⟩)] W fun e2 w2 => e2 = .returned (.tuple #[]) ∧ LK O w0 w2 c base r v n (i + 1) := by
  obtain ⟨vs, D, S, b, vb, h1, h2, h3, rfl, h5, h6, h7⟩ := h.st
  have hs := small_of (h5.small (by omega))
  refine (jcommit O w0 w c base r vs _ b vb _ D S vs.cont ht h5 h6 (by omega)).mono ?_
  rintro e w' ⟨he, vs', vb', g1, k1, k2, g2, g3, g4⟩
  refine ⟨he, k1.ok, fun W hW => ?_⟩
  refine (rcommit O w0 W c base r vs' _ (b + 1) vb' _ D S vs.cont vs'.cont (k1.by hW) (k2.by hW) rfl hs g3.symm g4).mono ?_
  rintro e2 w2 ⟨he2, S', m1, m2, m3⟩
  exact ⟨he2, ⟨vs', D, S', b + 1, vb', by omega, by omega, g2.trans h3, g3, by rw [m3]; exact m1, m2, by rw [m3]; exact (pins_commit h7).mono (Nat.le_succ _)⟩⟩

end Go.Proofs.YtlcojcldbdikgaaGreatDoor.Rc

/-
  CacheAll: the two calls of a round: Put.
-/
namespace Go.Proofs.YtlcojcldbdikgaaGreatDoor.Rc
open Go.RowKit Go.Maps

theorem tag_not {w : World} {g : Nat} (ht : ∃ cs fr, w.heap[g]? = some (.cells cs 5 fr)) : ¬ RT w.heap[g]? := by
  obtain ⟨cs, fr, hq⟩ := ht
  rintro ⟨cs', t, f, e, ht'⟩
  rw [hq] at e
  simp only [Option.some.injEq, Obj.cells.injEq] at e
  obtain ⟨_, rfl, _⟩ := e
  rcases ht' with e | e | e <;> exact absurd e (by decide)
theorem JD.size {w0 w : World} {base r n : Nat} {D : SV → List (BitVec 8)} {S : RS} {cont : Nat → By} (h : JD w0 w base r D S n cont) : base ≤ w.heap.size := by
  obtain ⟨vv, lv, hr⟩ := h.rf
  have := block_lt hr.cell
  have := hr.lo
  omega
theorem lk_put (O : Nat → Array Value → Prop) (w0 w : World) (c base r v n i g cp cp2 : Nat) (x : Int) (bs : List (BitVec 8)) (h : LK O w0 w c base r v n i) (hi : i < 1000) (hbs : Bytes w (some ⟨g, 0, none⟩) bs) (ht : ∃ cs fr, w.heap[g]? = some (.cells cs 5 fr)) :
    Calls Tryz.prog 14 #[ep c, .int .i64 x, .slice (some ⟨g, 0, none⟩) bs.length cp] w fun e w' => ∃ er, e = .returned (.int .i64 er) ∧ (∀ g cs, O g cs → w'.heap[g]? = some (.cells cs 35 (0, 0))) ∧ ∀ W, Below w'.heap.size w' W → Calls Tryz.prog 15 #[.pointer (some ⟨r, 0, none⟩), .int .i64 x, .slice (some ⟨g, 0, none⟩) bs.length cp2] W fun e2 w2 => e2 = .returned (.int .i64 er) ∧ LK O w0 w2 c base r v n (i + 1) := by
  obtain ⟨vs, D, S, b, vb, h1, h2, h3, rfl, h5, h6, h7⟩ := h.st
  have hs := small_of (h5.small (by omega))
  have tagOf : ∀ W : World, (∃ cs fr, W.heap[g]? = some (.cells cs 5 fr)) → ∀ b' o, 0 < bs.length → some (⟨g, 0, none⟩ : Addr) = some ⟨b', o, none⟩ → ¬ RT W.heap[b']? := fun W hW b' o _ e => by
    injection e with e
    injection e with e _
    rw [← e]
    exact tag_not hW
  by_cases hx : (0 ≤ x ∧ x < nbOf vs.d.n) ∧ bs.length = 512
  · obtain ⟨hx, hbl⟩ := hx
    obtain ⟨k, rfl⟩ : ∃ k : Nat, x = k := ⟨x.toNat, by omega⟩
    have hk : k < nbOf vs.d.n := by omega
    by_cases hok : (abs D S).held k = true ∨ (abs D S).full = false
    · have hc := jput_ok O w0 w c base r vs _ b vb _ k g cp bs D S vs.cont h5 h6 (by omega) hk hok hbs hbl ht
      rw [← hbl] at hc
      refine hc.mono ?_
      rintro e w' ⟨he, k1, k2, k3, k4⟩
      refine ⟨_, he, k1.ok, fun W hW => ?_⟩
      refine (rput_ok O w0 W c base r vs _ (b + 1) vb _ k g cp2 bs D S vs.cont (k1.by hW) (k2.by hW) rfl hs hk hok (bytes_kept k3 hW) hbl (tag_below k4 hW) (k2.by hW).size).mono ?_
      rintro e2 w2 ⟨he2, D', S', m1, m2, m3⟩
      exact ⟨he2, ⟨vs, D', S', b + 1, vb, by omega, by omega, h3, rfl, by rw [m3]; exact m1, m2, by rw [m3]; exact pins_put h7 k _⟩⟩
    · have hh : (abs D S).held k = false := by
        cases hq : (abs D S).held k with
        | false => rfl
        | true => exact absurd (.inl hq) hok
      have hf : (abs D S).full = true := by
        cases hq : (abs D S).full with
        | true => rfl
        | false => exact absurd (.inr hq) hok
      have hc := jput_full O w0 w c base r vs _ b vb _ k cp (some ⟨g, 0, none⟩) D S vs.cont h5 h6 hk hh hf
      rw [← hbl] at hc
      refine hc.mono ?_
      rintro e w' ⟨he, k1, k2, hw⟩
      refine ⟨_, he, k1.ok, fun W hW => ?_⟩
      have hbw := bytes_kept (bytes_kept hbs hw) hW
      refine (rput_no O w0 W c base r vs _ b vb _ cp2 (k : Nat) (some ⟨g, 0, none⟩) bs D S vs.cont (k1.by hW) (k2.by hW) hs hbw (tagOf W (tag_below (tag_below ht hw) hW)) false ⟨k, rfl, hk, hbl, hh, hf⟩).mono ?_
      rintro e2 w2 ⟨he2, m1, m2⟩
      exact ⟨he2, ⟨vs, D, S, b, vb, by omega, by omega, h3, rfl, m1, m2, h7⟩⟩
  · have hx1 : ¬ (0 ≤ x ∧ x < nbOf vs.d.n) ∨ bs.length ≠ 512 := by
      by_cases hq : 0 ≤ x ∧ x < nbOf vs.d.n
      · exact .inr fun e => hx ⟨hq, e⟩
      · exact .inl hq
    refine (jput_bad O w0 w c base r vs _ b vb _ bs.length cp x (some ⟨g, 0, none⟩) D S vs.cont h5 h6 hx1).mono ?_
    rintro e w' ⟨he, k1, k2, hw⟩
    refine ⟨_, he, k1.ok, fun W hW => ?_⟩
    have hbw := bytes_kept (bytes_kept hbs hw) hW
    refine (rput_no O w0 W c base r vs _ b vb _ cp2 x (some ⟨g, 0, none⟩) bs D S vs.cont (k1.by hW) (k2.by hW) hs hbw (tagOf W (tag_below (tag_below ht hw) hW)) true (fun hq => hx ⟨⟨hq.1, hq.2.1⟩, hq.2.2⟩)).mono ?_
    rintro e2 w2 ⟨he2, m1, m2⟩
    exact ⟨he2, ⟨vs, D, S, b, vb, by omega, by omega, h3, rfl, m1, m2, h7⟩⟩

end Go.Proofs.YtlcojcldbdikgaaGreatDoor.Rc

/-
  CacheAll: where the law's loop begins, and what the volume reads at its end.
-/
namespace Go.Proofs.YtlcojcldbdikgaaGreatDoor.Rc
open Go.RowKit Go.Maps

theorem lk_start (O : Nat → Array Value → Prop) (w0 w : World) (c hh base r room : Nat) (vs : VS) (V : List SV) (vv lv : Value) (ci : CI w (newS c vs.v room hh) vs (fun _ => [])) (bud : Bud vs 1) (below : Below w0.heap.size w0 w) (vlo : ∀ k, vs.mine k → w0.heap.size ≤ k) (lo : w0.heap.size ≤ base) (hlo : w0.heap.size ≤ hh)
    (rf : RF w base r vv lv ⟨room, [], 0, 0, 0, 0, V⟩) (hV : ∀ z ∈ V, BRow w base z (List.replicate 512 0#8)) (hl : V.length = nbOf vs.d.n) (hz : ∀ i, i < nbOf vs.d.n → vs.cont i = zeroB) (hO : ∀ g cs, O g cs → w.heap[g]? = some (.cells cs 35 (0, 0))) : LK O w0 w c base r vs.v (nbOf vs.d.n) 0 := by
  refine ⟨vs, fun _ => zeroB, ⟨room, [], 0, 0, 0, 0, V⟩, 0, 1, Nat.le_refl _, Nat.le_refl _, rfl, rfl, ⟨⟨_, _, ci, ⟨Nat.le_refl _, Nat.le_refl _, Nat.le_refl _, Nat.le_refl _, Nat.le_refl _⟩, rfl, rfl, hlo⟩, bud, below, vlo, hO⟩, ⟨⟨vv, lv, rf⟩, lo, ?_, fun y hy => ?_, fun z hz' => ⟨hV z hz', ?_⟩, hl, fun i z hi => ?_⟩, fun e he => ?_⟩
  · exact List.nodup_nil
  · cases hy
  · exact List.length_replicate
  · have hil := (List.getElem?_eq_some_iff.1 hi).1
    have hl' : V.length = nbOf vs.d.n := hl
    exact (hz i (by rw [← hl']; exact hil)).symm
  · cases he
theorem lk_read (O : Nat → Array Value → Prop) (w0 w : World) (c base r v n i k : Nat) (h : LK O w0 w c base r v n i) (hk : k < n) :
    Calls Tryz.prog 21 #[dp v, .int .i64 (k : Nat)] w fun e w' => ∃ g cp bs, e = .returned (.tuple #[.slice (some ⟨g, 0, none⟩) 512 cp, .int .i64 0]) ∧ bs.length = 512 ∧ Bytes w' (some ⟨g, 0, none⟩) bs ∧ Below w.heap.size w w' ∧ LK O w0 w' c base r v n i ∧
      ∃ vv lv S sv, RF w' base r vv lv S ∧ S.V[k]? = some sv ∧ S.V.length = n ∧ sv.n = 512 ∧ Bytes w' sv.p bs := by
  obtain ⟨vs, D, S, b, vb, h1, h2, rfl, rfl, h5, h6, h7⟩ := h.st
  obtain ⟨s, B, q1, q2, q3, q4, q5⟩ := h5.st
  refine (vRead_any k vs w q1.vi hk).mono ?_
  rintro e w' ⟨g, cp, he, hl, hby, hb⟩
  have h6' := h6.by hb
  obtain ⟨vv, lv, hr⟩ := h6'.rf
  obtain ⟨sv, hsv⟩ : ∃ sv, S.V[k]? = some sv := ⟨_, List.getElem?_eq_getElem (by rw [h6.vl]; exact hk)⟩
  have hD := h6.vc k sv hsv
  obtain ⟨⟨q, cs, f1, f2, f3, f4, f5⟩, hl2⟩ := h6'.dv sv (List.mem_of_getElem? hsv)
  rw [hD] at f2 f5 hl2
  exact ⟨g, cp, vs.cont k, he, hl, hby, hb, h.by hb, vv, lv, S, sv, hr, hsv, h6.vl, by rw [f2]; exact hl2, f5⟩

/-- The law's own blocks: others are known from here on. -/
theorem LK.ops {O O' : Nat → Array Value → Prop} {w0 w : World} {c base r v n i : Nat} (h : LK O w0 w c base r v n i) (hO : ∀ g cs, O' g cs → w.heap[g]? = some (.cells cs 35 (0, 0))) : LK O' w0 w c base r v n i := by
  obtain ⟨vs, D, S, b, vb, h1, h2, h3, h4, h5, h6, h7⟩ := h.st
  exact ⟨vs, D, S, b, vb, h1, h2, h3, h4, ⟨h5.st, h5.bud, h5.below, h5.vlo, hO⟩, h6, h7⟩
theorem LK.op {O : Nat → Array Value → Prop} {w0 w : World} {c base r v n i : Nat} (h : LK O w0 w c base r v n i) {g : Nat} {cs : Array Value} (hg : O g cs) : w.heap[g]? = some (.cells cs 35 (0, 0)) := by
  obtain ⟨vs, D, S, b, vb, h1, h2, h3, h4, h5, h6, h7⟩ := h.st
  exact h5.ok g cs hg

end Go.Proofs.YtlcojcldbdikgaaGreatDoor.Rc

/-
  CacheAll's law, where blocks and room are in range.
-/
namespace Go.Proofs.YtlcojcldbdikgaaGreatDoor.Rc
open Go.RowKit Go.Maps

attribute [local go_sem] Oper.semAt_some

structure OpV where
  kind : Int
  block : Int
  p : Option Addr
  bs : List (BitVec 8)
  cp : Nat
  short : Bool
def opCells (o : OpV) : List Value := [.int .i64 o.kind, .int .i64 o.block, .slice o.p o.bs.length o.cp, .bool o.short]
/-- The operations that came in. -/
def OpsAt (w : World) (p : Option Addr) (l : List OpV) : Prop := ∀ k o, l[k]? = some o → ∃ g f, p = some ⟨g, f, none⟩ ∧ (∀ j x, (opCells o)[j]? = some x → w.cell? ⟨g, f + k * 4 + j, none⟩ = some x) ∧ Bytes w o.p o.bs ∧ o.bs.length < 9223372036854775808 ∧ -9223372036854775808 ≤ o.block ∧ o.block < 9223372036854775808

theorem LK.below {O : Nat → Array Value → Prop} {w0 w : World} {c base r v n i : Nat} (h : LK O w0 w c base r v n i) : Below w0.heap.size w0 w := by
  obtain ⟨vs, D, S, b, vb, h1, h2, h3, h4, h5, h6, h7⟩ := h.st
  exact h5.below
set_option maxRecDepth 8000 in
set_option maxHeartbeats 4000000 in
theorem all_good (n room : Nat) (p : Option Addr) (l : List OpV) (cl : Nat) (w : World) (ht : Tab w) (h2 : 2 ≤ n) (h12 : n ≤ 12) (hr1 : 1 ≤ room) (hr2 : room ≤ 4096) (hops : OpsAt w p l) :
    Calls Tryz.prog 3 #[.int .i64 (n : Nat), .int .i64 (room : Nat), .slice p l.length cl] w fun e w' => e = .returned (.bool true) ∧ Below w.heap.size w w' := by
  have cB := begun7_true w ht
  have HA : Hid (Tab w ∧ OpsAt w p l) := ⟨ht, hops⟩
  obtain ⟨N, hN⟩ : ∃ N, l.length = N := ⟨_, rfl⟩
  rw [hN]
  clear hops
  go_enter Tryz.func3, Tryz.ntmps3
  go_wp2_with fail
  refine cB.mono ?_
  rintro e w1 ⟨rfl, hb1⟩
  clear cB
  have ht1 : Tab w1 := below_tab hb1 ht.lt ht
  have cV := volume_any n w1 ht1 h2 (by omega)
  have hq1 : ¬ ((n : Int) < 2) := by omega
  have hq2 : ¬ ((12 : Int) < n) := by omega
  have hq3 : ¬ (n < 2) := by omega
  have hq4 : ¬ (12 < n) := by omega
  have hq5 : ¬ ((room : Int) < 1) := by omega
  have hq6 : ¬ ((4096 : Int) < room) := by omega
  have hq7 : ¬ (room < 1) := by omega
  have hq8 : ¬ (4096 < room) := by omega
  go_wp2_with fail
  refine cV.mono ?_
  rintro e w2 ⟨vs, rfl, hvi, hbud, hnb, hz, hb2, hlo⟩
  clear cV ht1
  have cN := new_ok room vs w2 hvi hr1 hr2
  have H2 : Hid (Bud vs 1 ∧ nbOf vs.d.n = n ∧ (∀ i, i < n → vs.cont i = zeroB) ∧ Below w.heap.size w w1 ∧ Below w1.heap.size w1 w2 ∧ ∀ k, vs.mine k → w1.heap.size ≤ k) := ⟨hbud, hnb, hz, hb1, hb2, hlo⟩
  clear hvi hbud hz hb1 hb2 hlo
  go_wp2_with fail
  refine cN.mono ?_
  rintro e w3 ⟨c, hh, rfl, hci, hb3, hhl, hcl⟩
  clear cN
  obtain ⟨R, hR⟩ : ∃ R, w3.heap.size = R := ⟨_, rfl⟩
  have H3 : Hid (CI w3 (newS c vs.v room hh) vs (fun _ => []) ∧ Below w2.heap.size w2 w3 ∧ w2.heap.size ≤ hh ∧ w3.heap.size = R) := ⟨hci, hb3, hhl, hR⟩
  clear hci hb3 hhl
  go_wp2_with fail
  have hsb : Below w3.heap.size w3 (w3.alloc (.cells #[.slice none 0 0, .int .i64 (room : Nat), .slice none 0 0, .int .i64 0, .int .i64 0, .int .i64 0, .int .i64 0] 32)) := (Below.refl _ w3).alloc (Nat.le_refl _) _
  have hcell := heap_alloc_new w3 (.cells #[.slice none 0 0, .int .i64 (room : Nat), .slice none 0 0, .int .i64 0, .int .i64 0, .int .i64 0, .int .i64 0] 32)
  rw [hR] at hcell
  have HF : ∀ W : World, Below w3.heap.size w3 W → W.heap[R]? = some (.cells #[.slice none 0 0, .int .i64 (room : Nat), .slice none 0 0, .int .i64 0, .int .i64 0, .int .i64 0, .int .i64 0] 32 (0, 0)) → RF W R R (.slice none 0 0) (.slice none 0 0) ⟨room, [], 0, 0, 0, 0, []⟩ := fun W _ hW => ⟨Nat.le_refl _, hW, World.ownsRow_nil _ _ _ _, World.ownsRow_nil _ _ _ _⟩
  go_loopw [11] (fun ii wr => ∃ i : Nat, ii = .int .i64 i ∧ i ≤ n ∧ Hid (Fr R w3 wr ∧ ∃ vv V, V.length = i ∧ (∀ z ∈ V, BRow wr R z (List.replicate 512 0#8)) ∧ RF wr R R vv (.slice none 0 0) ⟨room, [], 0, 0, 0, 0, V⟩)) (fun ii _ => n - (intOf ii).toNat)
  case atStart => exact ⟨0, rfl, Nat.zero_le _, Fr.below hsb, _, [], rfl, fun z hz => (by cases hz), HF _ hsb hcell⟩
  case round =>
    obtain ⟨i, rfl, hin, HI⟩ := hrel
    by_cases hlt : i < n
    · have hltI : (i : Int) < (n : Int) := by omega
      obtain ⟨hfr, vv, V, hVl, hVz, hrf⟩ := HI.out
      go_wp2_with fail
      refine law_fill (by kernel_rfl) R R vv (.slice none 0 0) _ wr rfl rfl hrf (by show V.length ≤ _; omega) ?_
      intro x1 x2 x3 x4 W vv' sv hf2 hrf2 hsn hbr
      simp only [putAll, List.setIfInBounds_toArray, List.set_cons_zero, List.set_cons_succ]
      have HI2 : Hid (Fr R w3 W ∧ ∃ vv V, V.length = i + 1 ∧ (∀ z ∈ V, BRow W R z (List.replicate 512 0#8)) ∧ RF W R R vv (.slice none 0 0) ⟨room, [], 0, 0, 0, 0, V⟩) := by
        refine ⟨hfr.trans hf2, vv', V ++ [sv], by rw [List.length_append, hVl]; rfl, fun z hz => ?_, hrf2⟩
        rcases List.mem_append.1 hz with hz | hz
        · exact brow_fr (hVz z hz) hf2
        · rw [List.mem_singleton.1 hz]
          obtain ⟨q, cs, f1, f2, f3, f4, f5⟩ := hbr
          exact ⟨q, cs, f1, f2, Nat.le_trans (Nat.le_trans hrf.lo (Nat.le_of_lt (block_lt hrf.cell))) f3, f4, f5⟩
      clear hfr hVl hVz hrf hf2 hrf2 hsn hbr HI
      go_wp2_with fail
      exact ⟨⟨i + 1, by go_num, by omega, HI2⟩, by simp [intOf]; omega⟩
    · obtain rfl : i = n := by omega
      have hltI : ¬ (i : Int) < (i : Int) := by omega
      have HL : Hid (LK (fun _ _ => False) w1 wr c R R vs.v i 0) := by
        obtain ⟨hfr, vv, V, hVl, hVz, hrf⟩ := HI.out
        obtain ⟨k1, k2, k3, k4, k5, k6⟩ := H2.out
        obtain ⟨m1, m2, m3, m4⟩ := H3.out
        have hb13 : Below w1.heap.size w1 w3 := k5.trans (m2.mono k5.size)
        have hR1 : w1.heap.size ≤ R := by rw [← m4]; exact hb13.size
        have := lk_start (fun _ _ => False) w1 wr c hh R R room vs V vv _ (ci_fr m1 hfr) k1 (hb13.trans (Only.below hfr hb13.size (fun q hq => Nat.le_trans hR1 hq.1))) k6 hR1 (Nat.le_trans k5.size m3) hrf hVz (by rw [k2]; exact hVl) (fun q hq => k3 q (by rw [← k2]; exact hq)) (fun _ _ h => h.elim)
        rw [k2] at this
        exact this
      clear HI HF hsb hcell
      go_wp2_with fail
      go_loopw [12] (fun ii wq => ∃ k : Nat, ii = .int .i64 k ∧ k ≤ N ∧ k ≤ 50 ∧ Hid (LK (fun _ _ => False) w1 wq c R R vs.v i k)) (fun ii _ => 50 - (intOf ii).toNat)
      case atStart => exact ⟨0, rfl, Nat.zero_le _, Nat.zero_le _, HL⟩
      case round =>
        obtain ⟨k, rfl, hkN, hk50, HK⟩ := hrel
        by_cases hlt2 : k < N ∧ k < 50
        · obtain ⟨g1, g2⟩ := hlt2
          have g1' : (k : Int) < (N : Int) := by omega
          have g2' : (k : Int) < 50 := by omega
          obtain ⟨o, ho⟩ : ∃ o, l[k]? = some o := ⟨_, List.getElem?_eq_getElem (by omega)⟩
          have hbw : Below w.heap.size w wr := H2.out.2.2.2.1.trans (HK.out.below.mono H2.out.2.2.2.1.size)
          obtain ⟨og, oo, hpe, hoc, hob, hobl, hox1, hox2⟩ := HA.out.2 k o ho
          have d0 : wr.cell? ⟨og, oo + k * 4, none⟩ = some (.int .i64 o.kind) := (hbw.cell (cell_lt (hoc 0 _ rfl))).trans (hoc 0 _ rfl)
          have d1 : wr.cell? ⟨og, oo + k * 4 + 1, none⟩ = some (.int .i64 o.block) := (hbw.cell (cell_lt (hoc 1 _ rfl))).trans (hoc 1 _ rfl)
          have d2 : wr.cell? ⟨og, oo + k * 4 + 2, none⟩ = some (.slice o.p o.bs.length o.cp) := (hbw.cell (cell_lt (hoc 2 _ rfl))).trans (hoc 2 _ rfl)
          have d3 : wr.cell? ⟨og, oo + k * 4 + 3, none⟩ = some (.bool o.short) := (hbw.cell (cell_lt (hoc 3 _ rfl))).trans (hoc 3 _ rfl)
          subst hpe
          clear hoc HL
          have hbA : Below wr.heap.size wr (wr.alloc (.cells #[.int .i64 o.kind, .int .i64 o.block, .slice o.p o.bs.length o.cp, .bool o.short] 35)) := (Below.refl _ wr).alloc (Nat.le_refl _) _
          have HL0 : Hid (LK (fun g cs => g = wr.heap.size ∧ cs = #[.int .i64 o.kind, .int .i64 o.block, .slice o.p o.bs.length o.cp, .bool o.short]) w1 (wr.alloc (.cells #[.int .i64 o.kind, .int .i64 o.block, .slice o.p o.bs.length o.cp, .bool o.short] 35)) c R R vs.v i k) := (HK.out.by hbA).ops (fun g cs h => by rw [h.1, h.2]; exact heap_alloc_new wr _)
          clear hbA
          go_wp2_with fail
          · refine (lk_get _ w1 _ c R R vs.v i k o.block HL0.out (by omega) hox1 hox2).mono ?_
            rintro e w4 ⟨v1, er, rfl, hop, hin⟩
            have c1 : w4.cell? ⟨wr.heap.size, 1, none⟩ = some (.int .i64 o.block) := by rw [cellOf (hop _ _ ⟨rfl, rfl⟩)]; rfl
            have hin4 := hin w4 (Below.refl _ _)
            clear hin hop
            go_wp2_with fail
            refine hin4.mono ?_
            rintro e w5 ⟨v2, rfl, hL5, S5, t1, t2⟩
            clear hin4
            have c2 : w5.cell? ⟨wr.heap.size, 1, none⟩ = some (.int .i64 o.block) := by rw [cellOf (hL5.op ⟨rfl, rfl⟩)]; rfl
            have cS := lk_same _ w1 w5 c R R vs.v i (k + 1) o.block hL5 (by omega) (by omega) hox1 hox2
            clear hL5
            go_wp2_with fail
            refine cS.mono ?_
            rintro e w6 ⟨rfl, hL6, _⟩
            have HL6 : Hid (LK (fun _ _ => False) w1 w6 c R R vs.v i (k + 1)) := hL6.ops (fun _ _ h => h.elim)
            clear hL6 cS
            go_wp2_with fail
            exact ⟨⟨k + 1, by go_num, by omega, by omega, HL6⟩, by simp [intOf]; omega⟩
          · refine (lk_pin _ w1 _ c R R vs.v i k o.block HL0.out (by omega) hox1 hox2).mono ?_
            rintro e w4 ⟨er, rfl, hop, hin⟩
            have c1 : w4.cell? ⟨wr.heap.size, 1, none⟩ = some (.int .i64 o.block) := by rw [cellOf (hop _ _ ⟨rfl, rfl⟩)]; rfl
            have hin4 := hin w4 (Below.refl _ _)
            clear hin hop
            go_wp2_with fail
            refine hin4.mono ?_
            rintro e w5 ⟨rfl, hL5⟩
            clear hin4
            have c2 : w5.cell? ⟨wr.heap.size, 1, none⟩ = some (.int .i64 o.block) := by rw [cellOf (hL5.op ⟨rfl, rfl⟩)]; rfl
            have cS := lk_same _ w1 w5 c R R vs.v i (k + 1) o.block hL5 (by omega) (by omega) hox1 hox2
            clear hL5
            go_wp2_with fail
            refine cS.mono ?_
            rintro e w6 ⟨rfl, hL6, _⟩
            have HL6 : Hid (LK (fun _ _ => False) w1 w6 c R R vs.v i (k + 1)) := hL6.ops (fun _ _ h => h.elim)
            clear hL6 cS
            go_wp2_with fail
            exact ⟨⟨k + 1, by go_num, by omega, by omega, HL6⟩, by simp [intOf]; omega⟩
          · refine (lk_unpin _ w1 _ c R R vs.v i k o.block HL0.out (by omega) hox1 hox2).mono ?_
            rintro e w4 ⟨er, rfl, hop, hin⟩
            have c1 : w4.cell? ⟨wr.heap.size, 1, none⟩ = some (.int .i64 o.block) := by rw [cellOf (hop _ _ ⟨rfl, rfl⟩)]; rfl
            have hin4 := hin w4 (Below.refl _ _)
            clear hin hop
            go_wp2_with fail
            refine hin4.mono ?_
            rintro e w5 ⟨rfl, hL5⟩
            clear hin4
            have c2 : w5.cell? ⟨wr.heap.size, 1, none⟩ = some (.int .i64 o.block) := by rw [cellOf (hL5.op ⟨rfl, rfl⟩)]; rfl
            have cS := lk_same _ w1 w5 c R R vs.v i (k + 1) o.block hL5 (by omega) (by omega) hox1 hox2
            clear hL5
            go_wp2_with fail
            refine cS.mono ?_
            rintro e w6 ⟨rfl, hL6, _⟩
            have HL6 : Hid (LK (fun _ _ => False) w1 w6 c R R vs.v i (k + 1)) := hL6.ops (fun _ _ h => h.elim)
            clear hL6 cS
            go_wp2_with fail
            exact ⟨⟨k + 1, by go_num, by omega, by omega, HL6⟩, by simp [intOf]; omega⟩
          · have hsh : o.short = true := by first | assumption | (simp only [Bool.not_eq_true] at *; assumption)
            have HL0' : LK (fun g cs => g = wr.heap.size ∧ cs = #[.int .i64 o.kind, .int .i64 o.block, .slice o.p o.bs.length o.cp, .bool true]) w1 (wr.alloc (.cells #[.int .i64 o.kind, .int .i64 o.block, .slice o.p o.bs.length o.cp, .bool true] 35)) c R R vs.v i k := by
              have h := HL0.out
              first | exact h | (rw [hsh] at h; exact h) | (simpa only [hsh] using h)
            have hbB : Bytes (wr.alloc (.cells #[.int .i64 o.kind, .int .i64 o.block, .slice o.p o.bs.length o.cp, .bool true] 35)) o.p o.bs := below_bytes ((Below.refl _ wr).alloc (Nat.le_refl _) _) (below_bytes hbw hob)
            refine (show Calls Tryz.prog 13 #[.slice o.p o.bs.length o.cp, .int .i64 5] _ _ from full_bytes o.bs o.p o.cp 5 _ (by decide) hobl hbB).mono ?_
            rintro e w3' ⟨rfl, hfb, hfB⟩
            have hlp : w3'.heap.size > wr.heap.size := by have := hfB.size; simp at this; omega
            have HL1 := HL0'.by hfB
            have e1 : w3'.cell? ⟨wr.heap.size, 1, none⟩ = some (.int .i64 o.block) := by rw [cellOf (HL1.op ⟨rfl, rfl⟩)]; rfl
            have cP := lk_put _ w1 w3' c R R vs.v i k (wr.heap.size + 1) 5 5 o.block (fullB o.bs 5) HL1 (by omega) (bytes_block (by simpa using hfb)) ⟨_, _, by simpa using hfb⟩
            rw [fullB_length] at cP
            clear hfb hfB HL1 hbB
            go_wp2_with fail
            refine (show Calls Tryz.prog 14 _ _ _ from cP).mono ?_
            rintro e w4 ⟨er, rfl, hop, hin⟩
            have c1 : w4.cell? ⟨wr.heap.size, 1, none⟩ = some (.int .i64 o.block) := by rw [cellOf (hop _ _ ⟨rfl, rfl⟩)]; rfl
            have hin4 := hin w4 (Below.refl _ _)
            clear hin hop cP
            go_wp2_with fail
            refine (show Calls Tryz.prog 15 _ _ _ from hin4).mono ?_
            rintro e w5 ⟨rfl, hL5⟩
            clear hin4
            have c2 : w5.cell? ⟨wr.heap.size, 1, none⟩ = some (.int .i64 o.block) := by rw [cellOf (hL5.op ⟨rfl, rfl⟩)]; rfl
            have cS := lk_same _ w1 w5 c R R vs.v i (k + 1) o.block hL5 (by omega) (by omega) hox1 hox2
            clear hL5
            go_wp2_with fail
            refine cS.mono ?_
            rintro e w6 ⟨rfl, hL6, _⟩
            have HL6 : Hid (LK (fun _ _ => False) w1 w6 c R R vs.v i (k + 1)) := hL6.ops (fun _ _ h => h.elim)
            clear hL6 cS
            go_wp2_with fail
            exact ⟨⟨k + 1, by go_num, by omega, by omega, HL6⟩, by simp [intOf]; omega⟩
          · have hsh : o.short = false := by first | assumption | (simp only [Bool.not_eq_true] at *; assumption)
            have HL0' : LK (fun g cs => g = wr.heap.size ∧ cs = #[.int .i64 o.kind, .int .i64 o.block, .slice o.p o.bs.length o.cp, .bool false]) w1 (wr.alloc (.cells #[.int .i64 o.kind, .int .i64 o.block, .slice o.p o.bs.length o.cp, .bool false] 35)) c R R vs.v i k := by
              have h := HL0.out
              first | exact h | (rw [hsh] at h; exact h) | (simpa only [hsh] using h)
            have hbB : Bytes (wr.alloc (.cells #[.int .i64 o.kind, .int .i64 o.block, .slice o.p o.bs.length o.cp, .bool false] 35)) o.p o.bs := below_bytes ((Below.refl _ wr).alloc (Nat.le_refl _) _) (below_bytes hbw hob)
            refine (show Calls Tryz.prog 13 #[.slice o.p o.bs.length o.cp, .int .i64 512] _ _ from full_bytes o.bs o.p o.cp 512 _ (by decide) hobl hbB).mono ?_
            rintro e w3' ⟨rfl, hfb, hfB⟩
            have hlp : w3'.heap.size > wr.heap.size := by have := hfB.size; simp at this; omega
            have HL1 := HL0'.by hfB
            have e1 : w3'.cell? ⟨wr.heap.size, 1, none⟩ = some (.int .i64 o.block) := by rw [cellOf (HL1.op ⟨rfl, rfl⟩)]; rfl
            have cP := lk_put _ w1 w3' c R R vs.v i k (wr.heap.size + 1) 512 512 o.block (fullB o.bs 512) HL1 (by omega) (bytes_block (by simpa using hfb)) ⟨_, _, by simpa using hfb⟩
            rw [fullB_length] at cP
            clear hfb hfB HL1 hbB
            go_wp2_with fail
            refine (show Calls Tryz.prog 14 _ _ _ from cP).mono ?_
            rintro e w4 ⟨er, rfl, hop, hin⟩
            have c1 : w4.cell? ⟨wr.heap.size, 1, none⟩ = some (.int .i64 o.block) := by rw [cellOf (hop _ _ ⟨rfl, rfl⟩)]; rfl
            have hin4 := hin w4 (Below.refl _ _)
            clear hin hop cP
            go_wp2_with fail
            refine (show Calls Tryz.prog 15 _ _ _ from hin4).mono ?_
            rintro e w5 ⟨rfl, hL5⟩
            clear hin4
            have c2 : w5.cell? ⟨wr.heap.size, 1, none⟩ = some (.int .i64 o.block) := by rw [cellOf (hL5.op ⟨rfl, rfl⟩)]; rfl
            have cS := lk_same _ w1 w5 c R R vs.v i (k + 1) o.block hL5 (by omega) (by omega) hox1 hox2
            clear hL5
            go_wp2_with fail
            refine cS.mono ?_
            rintro e w6 ⟨rfl, hL6, _⟩
            have HL6 : Hid (LK (fun _ _ => False) w1 w6 c R R vs.v i (k + 1)) := hL6.ops (fun _ _ h => h.elim)
            clear hL6 cS
            go_wp2_with fail
            exact ⟨⟨k + 1, by go_num, by omega, by omega, HL6⟩, by simp [intOf]; omega⟩
          · refine (lk_commit _ w1 _ c R R vs.v i k (below_tab H2.out.2.2.2.1 HA.out.1.lt HA.out.1) HL0.out (by omega)).mono ?_
            rintro e w4 ⟨rfl, hop, hin⟩
            have hin4 := hin w4 (Below.refl _ _)
            clear hin hop
            go_wp2_with fail
            refine hin4.mono ?_
            rintro e w5 ⟨rfl, hL5⟩
            clear hin4
            have c2 : w5.cell? ⟨wr.heap.size, 1, none⟩ = some (.int .i64 o.block) := by rw [cellOf (hL5.op ⟨rfl, rfl⟩)]; rfl
            have cS := lk_same _ w1 w5 c R R vs.v i (k + 1) o.block hL5 (by omega) (by omega) hox1 hox2
            clear hL5
            go_wp2_with fail
            refine cS.mono ?_
            rintro e w6 ⟨rfl, hL6, _⟩
            have HL6 : Hid (LK (fun _ _ => False) w1 w6 c R R vs.v i (k + 1)) := hL6.ops (fun _ _ h => h.elim)
            clear hL6 cS
            go_wp2_with fail
            exact ⟨⟨k + 1, by go_num, by omega, by omega, HL6⟩, by simp [intOf]; omega⟩
          · refine (lk_drop _ w1 _ c R R vs.v i k HL0.out (by omega)).mono ?_
            rintro e w4 ⟨rfl, hop, hin⟩
            have hin4 := hin w4 (Below.refl _ _)
            clear hin hop
            go_wp2_with fail
            refine hin4.mono ?_
            rintro e w5 ⟨rfl, hL5⟩
            clear hin4
            have c2 : w5.cell? ⟨wr.heap.size, 1, none⟩ = some (.int .i64 o.block) := by rw [cellOf (hL5.op ⟨rfl, rfl⟩)]; rfl
            have cS := lk_same _ w1 w5 c R R vs.v i (k + 1) o.block hL5 (by omega) (by omega) hox1 hox2
            clear hL5
            go_wp2_with fail
            refine cS.mono ?_
            rintro e w6 ⟨rfl, hL6, _⟩
            have HL6 : Hid (LK (fun _ _ => False) w1 w6 c R R vs.v i (k + 1)) := hL6.ops (fun _ _ h => h.elim)
            clear hL6 cS
            go_wp2_with fail
            exact ⟨⟨k + 1, by go_num, by omega, by omega, HL6⟩, by simp [intOf]; omega⟩
        · have hk2 : ¬ (k < N ∧ k < 50) := hlt2
          have HKL : Hid (LK (fun _ _ => False) w1 wr c R R vs.v i k) := HK.out
          have hdec : (¬ (k : Int) < (N : Int)) ∨ ((k : Int) < (N : Int) ∧ ¬ (k : Int) < 50) := by
            by_cases h1 : k < N
            · exact .inr ⟨by omega, by omega⟩
            · exact .inl (by omega)
          clear HK HL hk2 hlt2
          rcases hdec with g1' | ⟨g1', g2'⟩
          all_goals
            go_wp2_with fail
            go_loopw [29] (fun ii wq => ∃ j : Nat, ii = .int .i64 j ∧ j ≤ i ∧ Hid (LK (fun _ _ => False) w1 wq c R R vs.v i k)) (fun ii _ => i - (intOf ii).toNat)
            case atStart => exact ⟨0, rfl, Nat.zero_le _, HKL⟩
            case round =>
              obtain ⟨j, rfl, hji, HJ⟩ := hrel
              by_cases hlt3 : j < i
              · have hltJ : (j : Int) < (i : Int) := by omega
                have cR := lk_read _ w1 wr c R R vs.v i k j HJ.out hlt3
                clear HKL
                go_wp2_with fail
                refine cR.mono ?_
                rintro e w4 ⟨g, cp, bs, rfl, hbl, hby, hb4, hL4, vv, lv, S, sv, hrf, hsv, hVl, hsn, hby2⟩
                obtain ⟨pV, cV, hvv, _, hgV⟩ := own_form hrf.vrow
                obtain ⟨gV, hpV, _, hcV⟩ := hgV (by omega)
                subst hpV
                have c0 : w4.cell? ⟨R, 0, none⟩ = some (.slice (some ⟨gV, 0, none⟩) i cV) := by rw [cellOf hrf.cell, ← hVl, ← hvv]; rfl
                have cS : w4.cell? ⟨gV, j, none⟩ = some (.slice sv.p 512 sv.c) := by
                  rw [hcV j (by omega), List.getElem?_map, hsv]
                  simp [SV.val, hsn]
                have HL4 : Hid (LK (fun _ _ => False) w1 w4 c R R vs.v i k) := hL4
                clear cR hL4 hrf hsv hvv hcV
                go_wp2_with fail
                refine law_reg56 (by kernel_rfl) R j 512 cp sv.c gV i cV (some ⟨g, 0, none⟩) sv.p bs w4 rfl rfl rfl rfl rfl c0 hlt3 cS hbl hby hby2 ?_
                intro W hW
                have HLW : Hid (LK (fun _ _ => False) w1 W c R R vs.v i k) := HL4.out.by hW
                clear hW c0 cS hby hby2
                simp only [putAll, List.setIfInBounds_toArray, List.set_cons_zero, List.set_cons_succ]
                go_wp2_with fail
                exact ⟨⟨j + 1, by go_num, by omega, HLW⟩, by simp [intOf]; omega⟩
              · obtain rfl : j = i := by omega
                have hltJ : ¬ (j : Int) < (j : Int) := by omega
                go_wp2
                go_ret
                exact ⟨rfl, H2.out.2.2.2.1.trans (HJ.out.below.mono H2.out.2.2.2.1.size)⟩

end Go.Proofs.YtlcojcldbdikgaaGreatDoor.Rc

/-
  CacheAll's law, where the number of blocks is out of range, or the room is.
-/
namespace Go.Proofs.YtlcojcldbdikgaaGreatDoor.Rc
open Go.RowKit Go.Maps

attribute [local go_sem] Oper.semAt_some

set_option maxRecDepth 8000 in
set_option maxHeartbeats 4000000 in
theorem all_six (bl : Int) (room : Nat) (p : Option Addr) (l : List OpV) (cl : Nat) (w : World) (ht : Tab w) (hbl : bl < 2 ∨ 12 < bl) (hr1 : 1 ≤ room) (hr2 : room ≤ 4096) (hops : OpsAt w p l) :
    Calls Tryz.prog 3 #[.int .i64 bl, .int .i64 (room : Nat), .slice p l.length cl] w fun e w' => e = .returned (.bool true) ∧ Below w.heap.size w w' := by
  obtain ⟨n, hn6⟩ : ∃ n : Nat, n = 6 := ⟨6, rfl⟩
  have h2 : 2 ≤ n := by omega
  have h12 : n ≤ 12 := by omega
  have H6 : Hid (Value.int .i64 6 = .int .i64 ((n : Nat) : Int)) := by show _ = _; rw [hn6]; rfl
  clear hn6
  have hway : bl < 2 ∨ (¬ bl < 2 ∧ 12 < bl) := by omega
  clear hbl
  have cB := begun7_true w ht
  have HA : Hid (Tab w ∧ OpsAt w p l) := ⟨ht, hops⟩
  obtain ⟨N, hN⟩ : ∃ N, l.length = N := ⟨_, rfl⟩
  rw [hN]
  clear hops
  rcases hway with hq1 | ⟨hq1, hq2⟩
  all_goals
    go_enter Tryz.func3, Tryz.ntmps3
    go_wp2_with fail
    refine cB.mono ?_
    rintro e w1 ⟨rfl, hb1⟩
    clear cB
    have ht1 : Tab w1 := below_tab hb1 ht.lt ht
    have cV := volume_any n w1 ht1 h2 (by omega)
    have hq5 : ¬ ((room : Int) < 1) := by omega
    have hq6 : ¬ ((4096 : Int) < room) := by omega
    have hq7 : ¬ (room < 1) := by omega
    have hq8 : ¬ (4096 < room) := by omega
    go_wp2_with fail
    rw [H6.out]
    refine cV.mono ?_
    rintro e w2 ⟨vs, rfl, hvi, hbud, hnb, hz, hb2, hlo⟩
    clear cV ht1
    have cN := new_ok room vs w2 hvi hr1 hr2
    have H2 : Hid (Bud vs 1 ∧ nbOf vs.d.n = n ∧ (∀ i, i < n → vs.cont i = zeroB) ∧ Below w.heap.size w w1 ∧ Below w1.heap.size w1 w2 ∧ ∀ k, vs.mine k → w1.heap.size ≤ k) := ⟨hbud, hnb, hz, hb1, hb2, hlo⟩
    clear hvi hbud hz hb1 hb2 hlo
    go_wp2_with fail
    refine cN.mono ?_
    rintro e w3 ⟨c, hh, rfl, hci, hb3, hhl, hcl⟩
    clear cN
    obtain ⟨R, hR⟩ : ∃ R, w3.heap.size = R := ⟨_, rfl⟩
    have H3 : Hid (CI w3 (newS c vs.v room hh) vs (fun _ => []) ∧ Below w2.heap.size w2 w3 ∧ w2.heap.size ≤ hh ∧ w3.heap.size = R) := ⟨hci, hb3, hhl, hR⟩
    clear hci hb3 hhl
    go_wp2_with fail
    have hsb : Below w3.heap.size w3 (w3.alloc (.cells #[.slice none 0 0, .int .i64 (room : Nat), .slice none 0 0, .int .i64 0, .int .i64 0, .int .i64 0, .int .i64 0] 32)) := (Below.refl _ w3).alloc (Nat.le_refl _) _
    have hcell := heap_alloc_new w3 (.cells #[.slice none 0 0, .int .i64 (room : Nat), .slice none 0 0, .int .i64 0, .int .i64 0, .int .i64 0, .int .i64 0] 32)
    rw [hR] at hcell
    have HF : ∀ W : World, Below w3.heap.size w3 W → W.heap[R]? = some (.cells #[.slice none 0 0, .int .i64 (room : Nat), .slice none 0 0, .int .i64 0, .int .i64 0, .int .i64 0, .int .i64 0] 32 (0, 0)) → RF W R R (.slice none 0 0) (.slice none 0 0) ⟨room, [], 0, 0, 0, 0, []⟩ := fun W _ hW => ⟨Nat.le_refl _, hW, World.ownsRow_nil _ _ _ _, World.ownsRow_nil _ _ _ _⟩
    go_loopw [11] (fun ii wr => ∃ i : Nat, ii = .int .i64 i ∧ i ≤ n ∧ Hid (Fr R w3 wr ∧ ∃ vv V, V.length = i ∧ (∀ z ∈ V, BRow wr R z (List.replicate 512 0#8)) ∧ RF wr R R vv (.slice none 0 0) ⟨room, [], 0, 0, 0, 0, V⟩)) (fun ii _ => n - (intOf ii).toNat)
    case atStart => exact ⟨0, rfl, Nat.zero_le _, Fr.below hsb, _, [], rfl, fun z hz => (by cases hz), HF _ hsb hcell⟩
    case round =>
      obtain ⟨i, rfl, hin, HI⟩ := hrel
      by_cases hlt : i < n
      · have hltI : (i : Int) < (n : Int) := by omega
        obtain ⟨hfr, vv, V, hVl, hVz, hrf⟩ := HI.out
        go_wp2_with fail
        refine law_fill (by kernel_rfl) R R vv (.slice none 0 0) _ wr rfl rfl hrf (by show V.length ≤ _; omega) ?_
        intro x1 x2 x3 x4 W vv' sv hf2 hrf2 hsn hbr
        simp only [putAll, List.setIfInBounds_toArray, List.set_cons_zero, List.set_cons_succ]
        have HI2 : Hid (Fr R w3 W ∧ ∃ vv V, V.length = i + 1 ∧ (∀ z ∈ V, BRow W R z (List.replicate 512 0#8)) ∧ RF W R R vv (.slice none 0 0) ⟨room, [], 0, 0, 0, 0, V⟩) := by
          refine ⟨hfr.trans hf2, vv', V ++ [sv], by rw [List.length_append, hVl]; rfl, fun z hz => ?_, hrf2⟩
          rcases List.mem_append.1 hz with hz | hz
          · exact brow_fr (hVz z hz) hf2
          · rw [List.mem_singleton.1 hz]
            obtain ⟨q, cs, f1, f2, f3, f4, f5⟩ := hbr
            exact ⟨q, cs, f1, f2, Nat.le_trans (Nat.le_trans hrf.lo (Nat.le_of_lt (block_lt hrf.cell))) f3, f4, f5⟩
        clear hfr hVl hVz hrf hf2 hrf2 hsn hbr HI
        go_wp2_with fail
        exact ⟨⟨i + 1, by go_num, by omega, HI2⟩, by simp [intOf]; omega⟩
      · obtain rfl : i = n := by omega
        have hltI : ¬ (i : Int) < (i : Int) := by omega
        have HL : Hid (LK (fun _ _ => False) w1 wr c R R vs.v i 0) := by
          obtain ⟨hfr, vv, V, hVl, hVz, hrf⟩ := HI.out
          obtain ⟨k1, k2, k3, k4, k5, k6⟩ := H2.out
          obtain ⟨m1, m2, m3, m4⟩ := H3.out
          have hb13 : Below w1.heap.size w1 w3 := k5.trans (m2.mono k5.size)
          have hR1 : w1.heap.size ≤ R := by rw [← m4]; exact hb13.size
          have := lk_start (fun _ _ => False) w1 wr c hh R R room vs V vv _ (ci_fr m1 hfr) k1 (hb13.trans (Only.below hfr hb13.size (fun q hq => Nat.le_trans hR1 hq.1))) k6 hR1 (Nat.le_trans k5.size m3) hrf hVz (by rw [k2]; exact hVl) (fun q hq => k3 q (by rw [← k2]; exact hq)) (fun _ _ h => h.elim)
          rw [k2] at this
          exact this
        clear HI HF hsb hcell
        go_wp2_with fail
        go_loopw [12] (fun ii wq => ∃ k : Nat, ii = .int .i64 k ∧ k ≤ N ∧ k ≤ 50 ∧ Hid (LK (fun _ _ => False) w1 wq c R R vs.v i k)) (fun ii _ => 50 - (intOf ii).toNat)
        case atStart => exact ⟨0, rfl, Nat.zero_le _, Nat.zero_le _, HL⟩
        case round =>
          obtain ⟨k, rfl, hkN, hk50, HK⟩ := hrel
          by_cases hlt2 : k < N ∧ k < 50
          · obtain ⟨g1, g2⟩ := hlt2
            have g1' : (k : Int) < (N : Int) := by omega
            have g2' : (k : Int) < 50 := by omega
            obtain ⟨o, ho⟩ : ∃ o, l[k]? = some o := ⟨_, List.getElem?_eq_getElem (by omega)⟩
            have hbw : Below w.heap.size w wr := H2.out.2.2.2.1.trans (HK.out.below.mono H2.out.2.2.2.1.size)
            obtain ⟨og, oo, hpe, hoc, hob, hobl, hox1, hox2⟩ := HA.out.2 k o ho
            have d0 : wr.cell? ⟨og, oo + k * 4, none⟩ = some (.int .i64 o.kind) := (hbw.cell (cell_lt (hoc 0 _ rfl))).trans (hoc 0 _ rfl)
            have d1 : wr.cell? ⟨og, oo + k * 4 + 1, none⟩ = some (.int .i64 o.block) := (hbw.cell (cell_lt (hoc 1 _ rfl))).trans (hoc 1 _ rfl)
            have d2 : wr.cell? ⟨og, oo + k * 4 + 2, none⟩ = some (.slice o.p o.bs.length o.cp) := (hbw.cell (cell_lt (hoc 2 _ rfl))).trans (hoc 2 _ rfl)
            have d3 : wr.cell? ⟨og, oo + k * 4 + 3, none⟩ = some (.bool o.short) := (hbw.cell (cell_lt (hoc 3 _ rfl))).trans (hoc 3 _ rfl)
            subst hpe
            clear hoc HL
            have hbA : Below wr.heap.size wr (wr.alloc (.cells #[.int .i64 o.kind, .int .i64 o.block, .slice o.p o.bs.length o.cp, .bool o.short] 35)) := (Below.refl _ wr).alloc (Nat.le_refl _) _
            have HL0 : Hid (LK (fun g cs => g = wr.heap.size ∧ cs = #[.int .i64 o.kind, .int .i64 o.block, .slice o.p o.bs.length o.cp, .bool o.short]) w1 (wr.alloc (.cells #[.int .i64 o.kind, .int .i64 o.block, .slice o.p o.bs.length o.cp, .bool o.short] 35)) c R R vs.v i k) := (HK.out.by hbA).ops (fun g cs h => by rw [h.1, h.2]; exact heap_alloc_new wr _)
            clear hbA
            go_wp2_with fail
            · refine (lk_get _ w1 _ c R R vs.v i k o.block HL0.out (by omega) hox1 hox2).mono ?_
              rintro e w4 ⟨v1, er, rfl, hop, hin⟩
              have c1 : w4.cell? ⟨wr.heap.size, 1, none⟩ = some (.int .i64 o.block) := by rw [cellOf (hop _ _ ⟨rfl, rfl⟩)]; rfl
              have hin4 := hin w4 (Below.refl _ _)
              clear hin hop
              go_wp2_with fail
              refine hin4.mono ?_
              rintro e w5 ⟨v2, rfl, hL5, S5, t1, t2⟩
              clear hin4
              have c2 : w5.cell? ⟨wr.heap.size, 1, none⟩ = some (.int .i64 o.block) := by rw [cellOf (hL5.op ⟨rfl, rfl⟩)]; rfl
              have cS := lk_same _ w1 w5 c R R vs.v i (k + 1) o.block hL5 (by omega) (by omega) hox1 hox2
              clear hL5
              go_wp2_with fail
              refine cS.mono ?_
              rintro e w6 ⟨rfl, hL6, _⟩
              have HL6 : Hid (LK (fun _ _ => False) w1 w6 c R R vs.v i (k + 1)) := hL6.ops (fun _ _ h => h.elim)
              clear hL6 cS
              go_wp2_with fail
              exact ⟨⟨k + 1, by go_num, by omega, by omega, HL6⟩, by simp [intOf]; omega⟩
            · refine (lk_pin _ w1 _ c R R vs.v i k o.block HL0.out (by omega) hox1 hox2).mono ?_
              rintro e w4 ⟨er, rfl, hop, hin⟩
              have c1 : w4.cell? ⟨wr.heap.size, 1, none⟩ = some (.int .i64 o.block) := by rw [cellOf (hop _ _ ⟨rfl, rfl⟩)]; rfl
              have hin4 := hin w4 (Below.refl _ _)
              clear hin hop
              go_wp2_with fail
              refine hin4.mono ?_
              rintro e w5 ⟨rfl, hL5⟩
              clear hin4
              have c2 : w5.cell? ⟨wr.heap.size, 1, none⟩ = some (.int .i64 o.block) := by rw [cellOf (hL5.op ⟨rfl, rfl⟩)]; rfl
              have cS := lk_same _ w1 w5 c R R vs.v i (k + 1) o.block hL5 (by omega) (by omega) hox1 hox2
              clear hL5
              go_wp2_with fail
              refine cS.mono ?_
              rintro e w6 ⟨rfl, hL6, _⟩
              have HL6 : Hid (LK (fun _ _ => False) w1 w6 c R R vs.v i (k + 1)) := hL6.ops (fun _ _ h => h.elim)
              clear hL6 cS
              go_wp2_with fail
              exact ⟨⟨k + 1, by go_num, by omega, by omega, HL6⟩, by simp [intOf]; omega⟩
            · refine (lk_unpin _ w1 _ c R R vs.v i k o.block HL0.out (by omega) hox1 hox2).mono ?_
              rintro e w4 ⟨er, rfl, hop, hin⟩
              have c1 : w4.cell? ⟨wr.heap.size, 1, none⟩ = some (.int .i64 o.block) := by rw [cellOf (hop _ _ ⟨rfl, rfl⟩)]; rfl
              have hin4 := hin w4 (Below.refl _ _)
              clear hin hop
              go_wp2_with fail
              refine hin4.mono ?_
              rintro e w5 ⟨rfl, hL5⟩
              clear hin4
              have c2 : w5.cell? ⟨wr.heap.size, 1, none⟩ = some (.int .i64 o.block) := by rw [cellOf (hL5.op ⟨rfl, rfl⟩)]; rfl
              have cS := lk_same _ w1 w5 c R R vs.v i (k + 1) o.block hL5 (by omega) (by omega) hox1 hox2
              clear hL5
              go_wp2_with fail
              refine cS.mono ?_
              rintro e w6 ⟨rfl, hL6, _⟩
              have HL6 : Hid (LK (fun _ _ => False) w1 w6 c R R vs.v i (k + 1)) := hL6.ops (fun _ _ h => h.elim)
              clear hL6 cS
              go_wp2_with fail
              exact ⟨⟨k + 1, by go_num, by omega, by omega, HL6⟩, by simp [intOf]; omega⟩
            · have hsh : o.short = true := by first | assumption | (simp only [Bool.not_eq_true] at *; assumption)
              have HL0' : LK (fun g cs => g = wr.heap.size ∧ cs = #[.int .i64 o.kind, .int .i64 o.block, .slice o.p o.bs.length o.cp, .bool true]) w1 (wr.alloc (.cells #[.int .i64 o.kind, .int .i64 o.block, .slice o.p o.bs.length o.cp, .bool true] 35)) c R R vs.v i k := by
                have h := HL0.out
                first | exact h | (rw [hsh] at h; exact h) | (simpa only [hsh] using h)
              have hbB : Bytes (wr.alloc (.cells #[.int .i64 o.kind, .int .i64 o.block, .slice o.p o.bs.length o.cp, .bool true] 35)) o.p o.bs := below_bytes ((Below.refl _ wr).alloc (Nat.le_refl _) _) (below_bytes hbw hob)
              refine (show Calls Tryz.prog 13 #[.slice o.p o.bs.length o.cp, .int .i64 5] _ _ from full_bytes o.bs o.p o.cp 5 _ (by decide) hobl hbB).mono ?_
              rintro e w3' ⟨rfl, hfb, hfB⟩
              have hlp : w3'.heap.size > wr.heap.size := by have := hfB.size; simp at this; omega
              have HL1 := HL0'.by hfB
              have e1 : w3'.cell? ⟨wr.heap.size, 1, none⟩ = some (.int .i64 o.block) := by rw [cellOf (HL1.op ⟨rfl, rfl⟩)]; rfl
              have cP := lk_put _ w1 w3' c R R vs.v i k (wr.heap.size + 1) 5 5 o.block (fullB o.bs 5) HL1 (by omega) (bytes_block (by simpa using hfb)) ⟨_, _, by simpa using hfb⟩
              rw [fullB_length] at cP
              clear hfb hfB HL1 hbB
              go_wp2_with fail
              refine (show Calls Tryz.prog 14 _ _ _ from cP).mono ?_
              rintro e w4 ⟨er, rfl, hop, hin⟩
              have c1 : w4.cell? ⟨wr.heap.size, 1, none⟩ = some (.int .i64 o.block) := by rw [cellOf (hop _ _ ⟨rfl, rfl⟩)]; rfl
              have hin4 := hin w4 (Below.refl _ _)
              clear hin hop cP
              go_wp2_with fail
              refine (show Calls Tryz.prog 15 _ _ _ from hin4).mono ?_
              rintro e w5 ⟨rfl, hL5⟩
              clear hin4
              have c2 : w5.cell? ⟨wr.heap.size, 1, none⟩ = some (.int .i64 o.block) := by rw [cellOf (hL5.op ⟨rfl, rfl⟩)]; rfl
              have cS := lk_same _ w1 w5 c R R vs.v i (k + 1) o.block hL5 (by omega) (by omega) hox1 hox2
              clear hL5
              go_wp2_with fail
              refine cS.mono ?_
              rintro e w6 ⟨rfl, hL6, _⟩
              have HL6 : Hid (LK (fun _ _ => False) w1 w6 c R R vs.v i (k + 1)) := hL6.ops (fun _ _ h => h.elim)
              clear hL6 cS
              go_wp2_with fail
              exact ⟨⟨k + 1, by go_num, by omega, by omega, HL6⟩, by simp [intOf]; omega⟩
            · have hsh : o.short = false := by first | assumption | (simp only [Bool.not_eq_true] at *; assumption)
              have HL0' : LK (fun g cs => g = wr.heap.size ∧ cs = #[.int .i64 o.kind, .int .i64 o.block, .slice o.p o.bs.length o.cp, .bool false]) w1 (wr.alloc (.cells #[.int .i64 o.kind, .int .i64 o.block, .slice o.p o.bs.length o.cp, .bool false] 35)) c R R vs.v i k := by
                have h := HL0.out
                first | exact h | (rw [hsh] at h; exact h) | (simpa only [hsh] using h)
              have hbB : Bytes (wr.alloc (.cells #[.int .i64 o.kind, .int .i64 o.block, .slice o.p o.bs.length o.cp, .bool false] 35)) o.p o.bs := below_bytes ((Below.refl _ wr).alloc (Nat.le_refl _) _) (below_bytes hbw hob)
              refine (show Calls Tryz.prog 13 #[.slice o.p o.bs.length o.cp, .int .i64 512] _ _ from full_bytes o.bs o.p o.cp 512 _ (by decide) hobl hbB).mono ?_
              rintro e w3' ⟨rfl, hfb, hfB⟩
              have hlp : w3'.heap.size > wr.heap.size := by have := hfB.size; simp at this; omega
              have HL1 := HL0'.by hfB
              have e1 : w3'.cell? ⟨wr.heap.size, 1, none⟩ = some (.int .i64 o.block) := by rw [cellOf (HL1.op ⟨rfl, rfl⟩)]; rfl
              have cP := lk_put _ w1 w3' c R R vs.v i k (wr.heap.size + 1) 512 512 o.block (fullB o.bs 512) HL1 (by omega) (bytes_block (by simpa using hfb)) ⟨_, _, by simpa using hfb⟩
              rw [fullB_length] at cP
              clear hfb hfB HL1 hbB
              go_wp2_with fail
              refine (show Calls Tryz.prog 14 _ _ _ from cP).mono ?_
              rintro e w4 ⟨er, rfl, hop, hin⟩
              have c1 : w4.cell? ⟨wr.heap.size, 1, none⟩ = some (.int .i64 o.block) := by rw [cellOf (hop _ _ ⟨rfl, rfl⟩)]; rfl
              have hin4 := hin w4 (Below.refl _ _)
              clear hin hop cP
              go_wp2_with fail
              refine (show Calls Tryz.prog 15 _ _ _ from hin4).mono ?_
              rintro e w5 ⟨rfl, hL5⟩
              clear hin4
              have c2 : w5.cell? ⟨wr.heap.size, 1, none⟩ = some (.int .i64 o.block) := by rw [cellOf (hL5.op ⟨rfl, rfl⟩)]; rfl
              have cS := lk_same _ w1 w5 c R R vs.v i (k + 1) o.block hL5 (by omega) (by omega) hox1 hox2
              clear hL5
              go_wp2_with fail
              refine cS.mono ?_
              rintro e w6 ⟨rfl, hL6, _⟩
              have HL6 : Hid (LK (fun _ _ => False) w1 w6 c R R vs.v i (k + 1)) := hL6.ops (fun _ _ h => h.elim)
              clear hL6 cS
              go_wp2_with fail
              exact ⟨⟨k + 1, by go_num, by omega, by omega, HL6⟩, by simp [intOf]; omega⟩
            · refine (lk_commit _ w1 _ c R R vs.v i k (below_tab H2.out.2.2.2.1 HA.out.1.lt HA.out.1) HL0.out (by omega)).mono ?_
              rintro e w4 ⟨rfl, hop, hin⟩
              have hin4 := hin w4 (Below.refl _ _)
              clear hin hop
              go_wp2_with fail
              refine hin4.mono ?_
              rintro e w5 ⟨rfl, hL5⟩
              clear hin4
              have c2 : w5.cell? ⟨wr.heap.size, 1, none⟩ = some (.int .i64 o.block) := by rw [cellOf (hL5.op ⟨rfl, rfl⟩)]; rfl
              have cS := lk_same _ w1 w5 c R R vs.v i (k + 1) o.block hL5 (by omega) (by omega) hox1 hox2
              clear hL5
              go_wp2_with fail
              refine cS.mono ?_
              rintro e w6 ⟨rfl, hL6, _⟩
              have HL6 : Hid (LK (fun _ _ => False) w1 w6 c R R vs.v i (k + 1)) := hL6.ops (fun _ _ h => h.elim)
              clear hL6 cS
              go_wp2_with fail
              exact ⟨⟨k + 1, by go_num, by omega, by omega, HL6⟩, by simp [intOf]; omega⟩
            · refine (lk_drop _ w1 _ c R R vs.v i k HL0.out (by omega)).mono ?_
              rintro e w4 ⟨rfl, hop, hin⟩
              have hin4 := hin w4 (Below.refl _ _)
              clear hin hop
              go_wp2_with fail
              refine hin4.mono ?_
              rintro e w5 ⟨rfl, hL5⟩
              clear hin4
              have c2 : w5.cell? ⟨wr.heap.size, 1, none⟩ = some (.int .i64 o.block) := by rw [cellOf (hL5.op ⟨rfl, rfl⟩)]; rfl
              have cS := lk_same _ w1 w5 c R R vs.v i (k + 1) o.block hL5 (by omega) (by omega) hox1 hox2
              clear hL5
              go_wp2_with fail
              refine cS.mono ?_
              rintro e w6 ⟨rfl, hL6, _⟩
              have HL6 : Hid (LK (fun _ _ => False) w1 w6 c R R vs.v i (k + 1)) := hL6.ops (fun _ _ h => h.elim)
              clear hL6 cS
              go_wp2_with fail
              exact ⟨⟨k + 1, by go_num, by omega, by omega, HL6⟩, by simp [intOf]; omega⟩
          · have hk2 : ¬ (k < N ∧ k < 50) := hlt2
            have HKL : Hid (LK (fun _ _ => False) w1 wr c R R vs.v i k) := HK.out
            have hdec : (¬ (k : Int) < (N : Int)) ∨ ((k : Int) < (N : Int) ∧ ¬ (k : Int) < 50) := by
              by_cases h1 : k < N
              · exact .inr ⟨by omega, by omega⟩
              · exact .inl (by omega)
            clear HK HL hk2 hlt2
            rcases hdec with g1' | ⟨g1', g2'⟩
            all_goals
              go_wp2_with fail
              go_loopw [29] (fun ii wq => ∃ j : Nat, ii = .int .i64 j ∧ j ≤ i ∧ Hid (LK (fun _ _ => False) w1 wq c R R vs.v i k)) (fun ii _ => i - (intOf ii).toNat)
              case atStart => exact ⟨0, rfl, Nat.zero_le _, HKL⟩
              case round =>
                obtain ⟨j, rfl, hji, HJ⟩ := hrel
                by_cases hlt3 : j < i
                · have hltJ : (j : Int) < (i : Int) := by omega
                  have cR := lk_read _ w1 wr c R R vs.v i k j HJ.out hlt3
                  clear HKL
                  go_wp2_with fail
                  refine cR.mono ?_
                  rintro e w4 ⟨g, cp, bs, rfl, hbl, hby, hb4, hL4, vv, lv, S, sv, hrf, hsv, hVl, hsn, hby2⟩
                  obtain ⟨pV, cV, hvv, _, hgV⟩ := own_form hrf.vrow
                  obtain ⟨gV, hpV, _, hcV⟩ := hgV (by omega)
                  subst hpV
                  have c0 : w4.cell? ⟨R, 0, none⟩ = some (.slice (some ⟨gV, 0, none⟩) i cV) := by rw [cellOf hrf.cell, ← hVl, ← hvv]; rfl
                  have cS : w4.cell? ⟨gV, j, none⟩ = some (.slice sv.p 512 sv.c) := by
                    rw [hcV j (by omega), List.getElem?_map, hsv]
                    simp [SV.val, hsn]
                  have HL4 : Hid (LK (fun _ _ => False) w1 w4 c R R vs.v i k) := hL4
                  clear cR hL4 hrf hsv hvv hcV
                  go_wp2_with fail
                  refine law_reg56 (by kernel_rfl) R j 512 cp sv.c gV i cV (some ⟨g, 0, none⟩) sv.p bs w4 rfl rfl rfl rfl rfl c0 hlt3 cS hbl hby hby2 ?_
                  intro W hW
                  have HLW : Hid (LK (fun _ _ => False) w1 W c R R vs.v i k) := HL4.out.by hW
                  clear hW c0 cS hby hby2
                  simp only [putAll, List.setIfInBounds_toArray, List.set_cons_zero, List.set_cons_succ]
                  go_wp2_with fail
                  exact ⟨⟨j + 1, by go_num, by omega, HLW⟩, by simp [intOf]; omega⟩
                · obtain rfl : j = i := by omega
                  have hltJ : ¬ (j : Int) < (j : Int) := by omega
                  go_wp2
                  go_ret
                  exact ⟨rfl, H2.out.2.2.2.1.trans (HJ.out.below.mono H2.out.2.2.2.1.size)⟩

set_option maxRecDepth 8000 in
set_option maxHeartbeats 4000000 in
theorem all_noroom (bl room : Int) (p : Option Addr) (ll cl : Nat) (w : World) (ht : Tab w) (hroom : room < 1 ∨ 4096 < room) :
    Calls Tryz.prog 3 #[.int .i64 bl, .int .i64 room, .slice p ll cl] w fun e w' => e = .returned (.bool true) ∧ Below w.heap.size w w' := by
  have cB := begun7_true w ht
  have HA : Hid (Tab w) := ht
  have hway : (bl < 2) ∨ (¬ bl < 2 ∧ 12 < bl) ∨ ∃ n : Nat, bl = n ∧ 2 ≤ n ∧ n ≤ 12 := by
    by_cases h1 : bl < 2
    · exact .inl h1
    · by_cases h2 : 12 < bl
      · exact .inr (.inl ⟨h1, h2⟩)
      · exact .inr (.inr ⟨bl.toNat, by omega, by omega, by omega⟩)
  have hrw : room < 1 ∨ (¬ room < 1 ∧ 4096 < room) := by omega
  obtain ⟨n, hnn, h2, h12, H6⟩ : ∃ n : Nat, (¬ (bl < 2 ∨ 12 < bl) → bl = n) ∧ 2 ≤ n ∧ n ≤ 12 ∧ Hid ((bl < 2 ∨ 12 < bl) → Value.int .i64 6 = .int .i64 ((n : Nat) : Int)) := by
    rcases hway with h | ⟨h1, h⟩ | ⟨n, h, h2, h3⟩
    · exact ⟨6, fun h' => absurd (.inl h) h', by omega, by omega, fun _ => rfl⟩
    · exact ⟨6, fun h' => absurd (.inr h) h', by omega, by omega, fun _ => rfl⟩
    · exact ⟨n, fun _ => h, h2, h3, fun h' => by omega⟩
  have cN := fun a W => new_none room (dp a) (.inr ⟨a, rfl⟩) W (.inr hroom)
  clear hroom ht
  rcases hway with hq1 | ⟨hq1, hq2⟩ | ⟨n', hb', hq1, hq2⟩
  · have H6' : Hid (Value.int .i64 6 = .int .i64 ((n : Nat) : Int)) := H6.out (.inl hq1)
    clear H6 hnn
    rcases hrw with hq5 | ⟨hq5, hq6⟩
    all_goals
      go_enter Tryz.func3, Tryz.ntmps3
      go_wp2_with fail
      refine cB.mono ?_
      rintro e w1 ⟨rfl, hb1⟩
      clear cB
      have cV := volume_any n w1 (below_tab hb1 HA.out.lt HA.out) h2 (by omega)
      go_wp2_with fail
      rw [H6'.out]
      refine cV.mono ?_
      rintro e w2 ⟨vs, rfl, hvi, hbud, hnb, hz, hb2, hlo⟩
      have HX : Hid (Below w.heap.size w w2) := hb1.trans (hb2.mono hb1.size)
      clear hvi hbud hnb hz hb2 hlo hb1 cV
      go_wp2_with (go_at_call 6; refine Calls_on (cN _ _) ?_)
      go_ret
      exact ⟨rfl, HX.out⟩
  · have H6' : Hid (Value.int .i64 6 = .int .i64 ((n : Nat) : Int)) := H6.out (.inr hq2)
    clear H6 hnn
    rcases hrw with hq5 | ⟨hq5, hq6⟩
    all_goals
      go_enter Tryz.func3, Tryz.ntmps3
      go_wp2_with fail
      refine cB.mono ?_
      rintro e w1 ⟨rfl, hb1⟩
      clear cB
      have cV := volume_any n w1 (below_tab hb1 HA.out.lt HA.out) h2 (by omega)
      go_wp2_with fail
      rw [H6'.out]
      refine cV.mono ?_
      rintro e w2 ⟨vs, rfl, hvi, hbud, hnb, hz, hb2, hlo⟩
      have HX : Hid (Below w.heap.size w w2) := hb1.trans (hb2.mono hb1.size)
      clear hvi hbud hnb hz hb2 hlo hb1 cV
      go_wp2_with (go_at_call 6; refine Calls_on (cN _ _) ?_)
      go_ret
      exact ⟨rfl, HX.out⟩
  · have hbn : bl = n := hnn (by omega)
    subst hbn
    have hp1 : ¬ ((n : Int) < 2) := by omega
    have hp2 : ¬ ((12 : Int) < n) := by omega
    have hp3 : ¬ (n < 2) := by omega
    have hp4 : ¬ (12 < n) := by omega
    clear H6 hnn hb' hq1 hq2
    rcases hrw with hq5 | ⟨hq5, hq6⟩
    all_goals
      go_enter Tryz.func3, Tryz.ntmps3
      go_wp2_with fail
      refine cB.mono ?_
      rintro e w1 ⟨rfl, hb1⟩
      clear cB
      have cV := volume_any n w1 (below_tab hb1 HA.out.lt HA.out) h2 (by omega)
      go_wp2_with fail
      refine cV.mono ?_
      rintro e w2 ⟨vs, rfl, hvi, hbud, hnb, hz, hb2, hlo⟩
      have HX : Hid (Below w.heap.size w w2) := hb1.trans (hb2.mono hb1.size)
      clear hvi hbud hnb hz hb2 hlo hb1 cV
      go_wp2_with (go_at_call 6; refine Calls_on (cN _ _) ?_)
      go_ret
      exact ⟨rfl, HX.out⟩

end Go.Proofs.YtlcojcldbdikgaaGreatDoor.Rc

namespace Go.Proofs.YtlcojcldbdikgaaGreatDoor
open Go.ChangeShapes Go.WideShapes Go.ChangeAt Go.RowKit Go.Deep

theorem cellsOp7 : Tryz.prog.cellsOf 35 = 4 := by kernel_rfl
theorem cellsInt7 : Tryz.prog.cellsOf 3 = 1 := by kernel_rfl
theorem cellsBool7 : Tryz.prog.cellsOf 4 = 1 := by kernel_rfl
theorem cellsBytes7 : Tryz.prog.cellsOf 33 = 1 := by kernel_rfl
theorem list4c {α : Type} {l : List α} (h : l.length = 4) : ∃ a b c d, l = [a, b, c, d] := by
  match l, h with
  | [a, b, c, d], _ => exact ⟨a, b, c, d, rfl⟩
/-- Bytes that came in. -/
theorem c7bytes_at {H : Type} {enc : TypeId × Value → H} {W : World} {fuel : Nat} {v : Value} {y : DataW H × List MemPlace} (h : DataW.trod enc Tryz.prog W 0 (fun _ => true) true fuel 33 [v] = some y) :
    ∃ (p : Option Addr) (c : Nat) (bs : List (BitVec 8)), v = .slice p bs.length c ∧ bs.length < 9223372036854775808 ∧ Bytes W p bs := by
  rcases open_ints Tryz.underlying33 Tryz.underlying5 Tryz.cells5 h with ⟨hcs, _⟩ | ⟨a, len, cap, zs, hcs, _, hl, hm, hz, _, hcell, hw⟩
  · simp at hcs
    exact ⟨none, 0, [], hcs, by decide, fun h => absurd h (by decide)⟩
  · simp at hcs
    have hz' : zs.length = cap := by simpa using hz
    obtain ⟨hb, hlen⟩ := bytes_of_cells (W := W) (a := some a) hl hz' hw (fun h => by cases h) (fun a' e i hi => by cases e; exact hcell i (by omega))
    exact ⟨some a, cap, _, by rw [hlen]; exact hcs, by rw [hlen]; unfold maxLen at hm; omega, hb⟩
/-- One operation that came in. -/
theorem op7_at {H : Type} {enc : TypeId × Value → H} {W : World} {fuel ob oo : Nat} {cs : List Value} {x : DataW H × List MemPlace}
    (hc : W.cells? 0 ⟨ob, oo, none⟩ 4 = some cs) (h : DataW.trod enc Tryz.prog W 0 (fun _ => true) true fuel 35 cs = some x) :
    ∃ i : Rc.OpV, (∀ j x, (Rc.opCells i)[j]? = some x → W.cell? ⟨ob, oo + j, none⟩ = some x) ∧ Bytes W i.p i.bs ∧ i.bs.length < 9223372036854775808 ∧ -9223372036854775808 ≤ i.block ∧ i.block < 9223372036854775808 := by
  obtain ⟨xs, n, _, hx, hl, hlen, hf⟩ := DataW.trod_struct Tryz.underlying35 h
  rw [cellsOp7] at hl
  obtain ⟨v0, v1, v2, v3, rfl⟩ := list4c hl
  obtain ⟨y0, y1, y2, y3, rfl⟩ := list4c (show xs.length = 4 from hlen)
  have f0 := hf 0 _ rfl
  have f1 := hf 1 _ rfl
  have f2 := hf 2 _ rfl
  have f3 := hf 3 _ rfl
  simp [cellsInt7, cellsBool7, cellsBytes7] at f0 f1 f2 f3
  obtain ⟨s0, e0, _⟩ := DataW.trod_int Tryz.underlying3 f0
  obtain ⟨s1, e1, _, hw1⟩ := DataW.trod_int Tryz.underlying3 f1
  obtain ⟨p, c, bs, e2, hbl, hb⟩ := c7bytes_at f2
  obtain ⟨s3, e3, _⟩ := DataW.trod_bool Tryz.underlying4 f3
  simp at e0 e1 e2 e3
  subst e0 e1 e2 e3
  obtain ⟨_, _, hcell⟩ := World.cells?_some hc
  have c0 := hcell 0 (by omega)
  have c1 := hcell 1 (by omega)
  have c2 := hcell 2 (by omega)
  have c3 := hcell 3 (by omega)
  simp only [Addr.add_lit, Nat.add_zero] at c0 c1 c2 c3
  simp [Lit.wf] at hw1
  have h1 : (-9223372036854775808 : Int) ≤ s1 := hw1.1
  have h2 : s1 ≤ 9223372036854775807 := hw1.2
  refine ⟨⟨s0, s1, p, bs, c, s3⟩, fun j v hj => ?_, hb, hbl, h1, by show s1 < _; omega⟩
  match j, hj with
  | 0, hj => cases hj; exact c0
  | 1, hj => cases hj; exact c1
  | 2, hj => cases hj; exact c2
  | 3, hj => cases hj; exact c3
  | j + 4, hj => simp [Rc.opCells] at hj
theorem ops7_at {H : Type} {enc : TypeId × Value → H} {W : World} {fuel : Nat} {a : Option Addr} {len cap : Nat} {y : DataW H × List MemPlace} (h : DataW.trod enc Tryz.prog W 0 (fun _ => true) true fuel 22 [.slice a len cap] = some y) (hwt : ∀ n ∈ y.1.weights Tryz.prog 22, n ≤ reachBytes) :
    ∃ os : List Rc.OpV, os.length = len ∧ Rc.OpsAt W a os := by
  obtain ⟨l, hl, _, hb, hr⟩ := elems_at (S := 4) Tryz.underlying22 cellsOp7 (by decide) (⟨0, 0, none, [], 0, false⟩ : Rc.OpV) (fun g o i => (∀ j x, (Rc.opCells i)[j]? = some x → W.cell? ⟨g, o + j, none⟩ = some x) ∧ Bytes W i.p i.bs ∧ i.bs.length < 9223372036854775808 ∧ -9223372036854775808 ≤ i.block ∧ i.block < 9223372036854775808) h hwt
    (fun b o cs n x hc ht hw => op7_at hc ht)
  refine ⟨l, hl, fun k o hk => ?_⟩
  obtain ⟨g, f, e, hx⟩ := hr (by have := (List.getElem?_eq_some_iff.1 hk).1; omega)
  obtain ⟨m1, m2, m3, m4, m5⟩ := hx k o hk
  exact ⟨g, f, e, m1, m2, m3, m4, m5⟩

/-- The law, whatever comes in. -/
theorem call_any (bl room : Int) (p : Option Addr) (l : List Rc.OpV) (cl : Nat) (w : World) (ht : Tab w) (hops : Rc.OpsAt w p l) :
    Calls Tryz.prog 3 #[.int .i64 bl, .int .i64 room, .slice p l.length cl] w fun e w' => e = .returned (.bool true) ∧ Below w.heap.size w w' := by
  by_cases hr : room < 1 ∨ 4096 < room
  · exact Rc.all_noroom bl room p l.length cl w ht hr
  · obtain ⟨r, rfl⟩ : ∃ r : Nat, room = r := ⟨room.toNat, by omega⟩
    by_cases hb : bl < 2 ∨ 12 < bl
    · exact Rc.all_six bl r p l cl w ht hb (by omega) (by omega) hops
    · obtain ⟨n, rfl⟩ : ∃ n : Nat, bl = n := ⟨bl.toNat, by omega⟩
      exact Rc.all_good n r p l cl w ht (by omega) (by omega) (by omega) (by omega) hops

set_option maxRecDepth 100000 in
theorem call_contract (H : Type) (enc : TypeId × Value → H) (W : World) (base : Nat) (args : Array Value) (ds gs : List (DataW H)) (before : List MemPlace)
    (hval : ∀ (j : Nat) t v, Tryz.f3.params[j]? = some t → args[j]? = some v → Value.okWide Tryz.prog W .any base t v)
    (hW : DataW.Whole enc Tryz.prog Tryz.f3.params.toList Rows.cacheAllSpec.vars false W args.toList ds gs before)
    (hz : (DataW.weightsEach Tryz.prog (Tryz.f3.params.toList ++ (OpenSpec.ofChange Rows.cacheAllSpec).bare.plain.varTypes Tryz.prog) (ds ++ gs)).all (· ≤ reachBytes) = true) (hL : laidMetH Tryz.prog Rows.cacheAllRow.laid W) :
    Calls Tryz.prog 3 args W fun e W' => ∃ v, e = .returned v ∧ Rows.cacheAllSpec.post enc Tryz.prog Tryz.f3 false true false false W args v W' := by
  have hW' := hW
  obtain ⟨p, q, hA0, hV, rfl, hfz, hnd⟩ := hW
  have hA : DataW.TrodAll enc Tryz.prog W 0 (fun _ => true) true Tryz.f3.params.toList args.toList ds p := hA0
  rw [Tryz.params3] at hA hval hz
  obtain ⟨v0, vs0, d0, ds0, p0, q0, hargs, rfl, rfl, h0, r0⟩ := trodAll_cons hA
  obtain ⟨v1, vs1, d1, ds1, p1, q1, rfl, rfl, rfl, h1, r1⟩ := trodAll_cons r0
  obtain ⟨v2, vs2, d2, ds2, p2, q2, rfl, rfl, rfl, h2, r2⟩ := trodAll_cons r1
  obtain ⟨rfl, rfl, rfl⟩ := trodAll_nil r2
  obtain rfl : args = #[v0, v1, v2] := by cases args; simp_all
  obtain ⟨rfl, rfl⟩ := trodVars_none hV
  obtain ⟨z0, rfl⟩ := okWide_int Tryz.underlying3 (hval 0 3 v0 rfl rfl)
  obtain ⟨z1, rfl⟩ := okWide_int Tryz.underlying3 (hval 1 3 v1 rfl rfl)
  obtain ⟨a2, len2, cap2, rfl⟩ := okWide_slice Tryz.underlying22 (hval 2 22 v2 rfl rfl)
  have k0 := h0
  have k1 := h1
  have k2 := h2
  have lt0 : ∀ x ∈ p0, x.block < W.heap.size := by obtain ⟨m, hm⟩ := k0; exact DataW.trod_lt m _ _ _ hm
  have lt1 : ∀ x ∈ p1, x.block < W.heap.size := by obtain ⟨m, hm⟩ := k1; exact DataW.trod_lt m _ _ _ hm
  have lt2 : ∀ x ∈ p2, x.block < W.heap.size := by obtain ⟨m, hm⟩ := k2; exact DataW.trod_lt m _ _ _ hm
  have hw2 : ∀ n ∈ d2.weights Tryz.prog 22, n ≤ reachBytes := fun n hn => by
    have := List.all_eq_true.1 hz n (DataW.weights_mem_each (j := 2) (t := 22) (d := d2) rfl rfl n hn)
    simpa using this
  obtain ⟨os, rfl, hos⟩ : ∃ os : List Rc.OpV, os.length = len2 ∧ Rc.OpsAt W a2 os := by
    obtain ⟨fuel, hf⟩ := h2
    exact ops7_at (y := (d2, p2)) (by simpa [Value.cells] using hf) hw2
  clear hA0 hw2
  refine (call_any z0 z1 a2 os cap2 W (tab_of_laid hL) hos).mono fun e W' ⟨he, bel⟩ => ?_
  subst he
  exact ⟨_, rfl, _, _, _, [], _, [], hW', trodAll_mk1 (shut_bool Tryz.underlying4 _), (trodAll_cons_mk (Below.trod laidOut (by kernel_rfl) (of_decide_eq_true (by kernel_rfl)) k0 bel lt0) (trodAll_cons_mk (Below.trod laidOut (by kernel_rfl) (of_decide_eq_true (by kernel_rfl)) k1 bel lt1) (trodAll_cons_mk (Below.trod laidOut (by kernel_rfl) (of_decide_eq_true (by kernel_rfl)) k2 bel lt2) trodAll_mk0))), rfl, bel.frame _, fun h => by cases h⟩

theorem call_laid_met (os : Os) : laidMet Tryz.prog Rows.cacheAllRow.laid ((World.doorLaid Tryz.prog 400 os).forCall (fun _ _ => 0) ⟨#[], #[.int .i64 0, .int .i64 0, .slice none 0 0], []⟩).memory :=
  laidMet_of_run' 20 (by kernel_rfl) (by kernel_rfl)
theorem call_reads (os : Os) {H : Type} (enc : TypeId × Value → H) : ∃ places, DataW.whole enc Tryz.prog ((World.doorLaid Tryz.prog 400 os).forCall (fun _ _ => 0) ⟨#[], #[.int .i64 0, .int .i64 0, .slice none 0 0], []⟩).memory Tryz.f3.params.toList Rows.cacheAllSpec.vars false (#[.int .i64 0, .int .i64 0, .slice none 0 0] : Array Value).toList 8 = some ([.lit (.int .i64 0), .lit (.int .i64 0), .nil], [], places) :=
  ⟨[], by kernel_rfl⟩

set_option maxRecDepth 100000 in
theorem call_lifted (os : Os) (started : os.Started) (H : Type) (enc : TypeId × Value → H) (F : Stop.Interp) :
    ReturnsInHanded {} Tryz.checked os 3 .any ((OpenSpec.ofChange Rows.cacheAllSpec).preRow enc Tryz.prog Tryz.f3 Rows.cacheAllRow.domain false Rows.cacheAllRow.laid) (((OpenSpec.ofChange Rows.cacheAllSpec).at F).post enc Tryz.prog Tryz.f3 false true false false) := by
  obtain ⟨places, hx⟩ := call_reads os enc
  refine returnsInHanded_of_row (C := Tryz.checked) (s := OpenSpec.ofChange Rows.cacheAllSpec) own started (by kernel_rfl) Tryz.func3
    (witness_row_at (enc := enc) (C := Tryz.checked) false (World.doorLaid Tryz.prog 400 os) #[.int .i64 0, .int .i64 0, .slice none 0 0] rfl (by kernel_rfl) (by kernel_rfl) (by kernel_rfl)
      (OpenSpec.preRow_of_cond 8 hx (by kernel_rfl) (fun k hk => by cases hk) (by kernel_rfl) (call_laid_met os))) ?_
  intro W base args ds gs before hval hW _ _ hz hL _ _
  exact call_contract H enc W base args ds gs before hval hW hz hL

theorem call_said : Rows.CacheAllSaid :=
  OpenClaim.holds_of_cond 3 Tryz.f3 rfl rfl rfl rfl rfl rfl rfl ⟨rfl, rfl, rfl, rfl, rfl⟩ rfl rfl rfl rfl rfl (by kernel_rfl) Tryz.func3 (by kernel_rfl)
    (of_decide_eq_true (by kernel_rfl)) (by unfold Func.isWrapper; first | (rw [if_pos (by decide +kernel)]; kernel_rfl) | (rw [if_neg (by decide +kernel)]; exact ⟨rfl, rfl⟩))
    (fun os started H enc _ F => by rw [OpenClaim.pre_eq_preRow]; exact call_lifted os started H enc F)

theorem call_plain (f : FuncId) (fn : Func) (hf : Tryz.pinned.checked.prog.funcNamed "lagoon/lagoonlaw7.CacheAll" = some f) (hfn : Tryz.pinned.checked.prog.funcs[f]? = some fn) :
    true = Tryz.pinned.checked.prog.looks [] ∧ ∀ (j : Nat) t, fn.params[j]? = some t → Tryz.pinned.checked.prog.wantsStandIn t = false := by
  obtain rfl : f = 3 := Option.some.inj ((show Tryz.prog.funcNamed "lagoon/lagoonlaw7.CacheAll" = some 3 by kernel_rfl).symm.trans hf) |>.symm
  obtain rfl : fn = Tryz.f3 := (Option.some.inj (Tryz.func3.symm.trans hfn)).symm
  refine ⟨by kernel_rfl, fun j t ht => ?_⟩
  rw [Tryz.params3] at ht
  have hm : t ∈ [3, 3, 22] := by simpa using Array.mem_of_getElem? ht
  have hall : ([3, 3, 22].all fun u => !Tryz.prog.wantsStandIn u) = true := by kernel_rfl
  exact (show Tryz.prog.wantsStandIn t = false by simpa using List.all_eq_true.1 hall t hm)

theorem cacheAll_holds : Rows.CacheAllCardSaid :=
  Claim7.holds_tied_plain_at .later [] _ _ _ _ call_said (fun _ h => by cases h) (by kernel_rfl) (fun _ h => by cases h) cacheAll_row_tie rfl ⟨rfl, rfl⟩ (by kernel_rfl) rfl call_plain (by kernel_rfl)

#print axioms cacheAll_holds
end Go.Proofs.YtlcojcldbdikgaaGreatDoor
