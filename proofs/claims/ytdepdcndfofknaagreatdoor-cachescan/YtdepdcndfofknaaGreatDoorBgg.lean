/-
  CacheScan, for all its arguments, whatever the memory and the order that Go leaves open, returns true and leaves its arguments and all memory that was there as it was. The table of package crc starts as the program's text lays it (the card ties it).
-/
import Derived.Test.YtdepdcndfofknaaGreatDoorBge
import Derived.Lib.SlBytesConst
import Derived.Test.YtdepdcndfofknaaGreatDoorCopen
import Derived.Deep.Grids
import Derived.SizedLaws

/-
  Volume of the law of package bcache.
-/
namespace Go.Proofs.YtdepdcndfofknaaGreatDoor
open Go.RowKit Go.Maps Go.Sort Go.Shelf

set_option maxRecDepth 8000 in
set_option maxHeartbeats 2000000 in
theorem volume_any (blocks : Nat) (w : World) (ht : Tab w) (h2 : 2 ≤ blocks) (h12 : blocks ≤ 12) :
    Calls Tryz.prog 10 #[.int .i64 (blocks : Nat)] w fun e w' => ∃ vs : VS, e = .returned (dp vs.v) ∧ VI w' vs ∧ Bud vs 1 ∧ nbOf vs.d.n = blocks ∧ (∀ i, i < blocks → vs.cont i = zeroB) ∧ Below w.heap.size w w' ∧ ∀ k, vs.mine k → w.heap.size ≤ k := by
  obtain ⟨n, hn⟩ : ∃ n, n = 4 * blocks + 8 := ⟨_, rfl⟩
  have e1 : (4 : Int) * (blocks : Nat) + 8 = (n : Nat) := by omega
  have h16 : 16 ≤ n := by omega
  have h200 : n ≤ 200 := by omega
  have hnbn : nbOf n = blocks := by unfold nbOf; omega
  have c21 := dev_new n w (by omega) (by omega)
  have HT : Hid (Tab w ∧ nbOf n = blocks) := ⟨ht, hnbn⟩
  clear ht hn hnbn
  go_enter Tryz.func10, Tryz.ntmps10
  go_wp2_with (go_at_call 43; refine c21.mono ?_; rintro e w1 ⟨a, s0, c0, m0, rfl, hd1, hB1, ha1, hs1, hm1⟩; clear c21; refine Stop.out ?_)
  refine Stop.mk ?_
  have ht1 : Tab w1 := below_tab hB1 HT.out.1.lt HT.out.1
  have cF := format_ok (newDS a s0 c0 m0 n) w1 hd1 ht1 h16 (fun i _ => rfl) (fun h => by cases h) (by simp [newDS])
  have H1 : Hid (Dev w1 (newDS a s0 c0 m0 n) ∧ Tab w1 ∧ Below w.heap.size w w1 ∧ ∀ k, (newDS a s0 c0 m0 n).mine k → w.heap.size ≤ k) := ⟨hd1, ht1, hB1, by rintro k (rfl | rfl | rfl); exact ha1; exact hs1; exact hm1⟩
  clear hd1 hB1 ha1 hs1 hm1 ht1
  go_wp2_with (go_at_call 44; refine cF.mono ?_; rintro e w2 ⟨d2, rfl, hb2, hn2, hd2, hdn2, hD2, hB2, hcn2, hfu2⟩; clear cF; refine Stop.out ?_)
  refine Stop.mk ?_
  obtain ⟨hd1, ht1, hB1, lo1⟩ := H1.out
  have ht2 : Tab w2 := hb2.tab ht1 (hd1.noTab ht1)
  have ea2 : d2.a = a := hn2.a
  have en2 : d2.n = n := hdn2
  have hb0 : d2.B 0 = headB 1 0 n := by rw [hB2]; simp [upd, newDS]
  have hzz : ∀ i, 0 < i → i < n → d2.B i = zeroB := fun i h0 _ => by
    rw [hB2]
    have : i ≠ 0 := by omega
    simp [upd, this, newDS]
  have cM := mount_ok [] 1 0 d2 w2 hd2 ht2 (by omega) (by unfold DS.dead; rw [show d2.fused = false from hfu2]; rfl) hD2 (by rw [hb0, en2]) (by omega) (by omega) (by
    refine ⟨by unfold nbOf; omega, fun hlt => ?_⟩
    rw [hzz _ (by omega) (by omega)]
    exact oldB_zero _)
  rw [ea2] at cM
  have B2 : Below w.heap.size w w2 := hB1.trans (hb2.below hB1.size lo1)
  have lo2 : ∀ k, d2.mine k → w.heap.size ≤ k := by
    rintro k (e | e | e)
    · exact lo1 k (.inl (e.trans hn2.a))
    · exact lo1 k (.inr (.inl (e.trans hn2.s)))
    · rcases hn2.m with x | x
      · exact lo1 k (.inr (.inr (e.trans x)))
      · have := hB1.size; omega
  have H2 : Hid (Dev w2 d2 ∧ Below w.heap.size w w2 ∧ (∀ k, d2.mine k → w.heap.size ≤ k) ∧ d2.B 0 = headB 1 0 n ∧ (∀ i, 0 < i → i < n → d2.B i = zeroB) ∧ d2.D = .map [] ∧ d2.count = 4 ∧ d2.fused = false ∧ d2.n = n) := ⟨hd2, B2, lo2, hb0, hzz, hD2, hcn2, hfu2, en2⟩
  clear hd1 ht1 hB1 lo1 ht2 hb0 hzz B2 lo2 hd2 hb2 hn2 hD2 hB2 hcn2 hfu2 H1 hdn2 en2
  go_wp2_with (go_at_call 39; refine cM.mono ?_; rintro e w3 ⟨v, f, rfl, hM⟩; clear cM)
  go_ret
  obtain ⟨hd2, B2, lo2, hb0, hzz, hD2, hcn2, hfu2, en2⟩ := H2.out
  obtain ⟨F, hF⟩ := hM.fr
  have B3 : Below w.heap.size w w3 := B2.trans (hM.below.mono B2.size)
  have hfm : f ≠ d2.m := by have h1 := hM.flt; have h2 := hd2.mlt; omega
  have hvlt := hM.vlt
  have hflt := hM.flt
  have hs2 := B2.size
  refine ⟨⟨v, f, 0, 0, 1, d2.n, F, fun _ => none, d2, []⟩, rfl, ⟨hM.vol, hd2.below hM.below, hF, hfm, hfu2, by show 16 ≤ d2.n; omega, by show d2.n ≤ 200; omega, zero_log v f 0 n F d2 en2 h16 hb0 hzz⟩, ⟨Nat.zero_le _, ?_, Nat.zero_le _, Nat.le_succ 1⟩, ?_, fun i hi => ?_, B3, ?_⟩
  · show d2.count ≤ 1 * 1000
    omega
  · show nbOf d2.n = blocks
    rw [en2]; exact HT.out.2
  · show d2.B (1 + i) = zeroB
    have hnb := HT.out.2
    exact hzz _ (by omega) (by unfold nbOf at hnb; omega)
  · rintro k (e | e | hm)
    · have e' : k = v := e
      omega
    · have e' : k = f := e
      omega
    · exact lo2 k hm

/-- A cache and its volume that the law has made. -/
structure LW (w0 w : World) (s : CS) (vs : VS) (B : Nat → By) (b vb : Nat) : Prop where
  ci : CI w s vs B
  cb : CB s b
  bud : Bud vs vb
  below : Below w0.heap.size w0 w
  lo : w0.heap.size ≤ s.h
  vlo : ∀ k, vs.mine k → w0.heap.size ≤ k

theorem LW.cst {w0 w w' : World} {s s' : CS} {vs : VS} {B B' : Nat → By} {b vb : Nat} (h : LW w0 w s vs B b vb) (hc : Cst w w' s s' vs B' b) : LW w0 w' s' vs B' (b + 1) vb :=
  ⟨hc.ci, hc.cb, h.bud, h.below.trans (hc.but.below h.below.size (fun k hk => by have := h.lo; rcases hk with e | ⟨e, _⟩ <;> omega)), by rw [hc.h]; exact h.lo, h.vlo⟩
theorem LW.by {w0 w w' : World} {s : CS} {vs : VS} {B : Nat → By} {b vb : Nat} (h : LW w0 w s vs B b vb) (hb : Below w.heap.size w w') : LW w0 w' s vs B b vb :=
  ⟨h.ci.below hb, h.cb, h.bud, h.below.trans (hb.mono h.below.size), h.lo, h.vlo⟩
theorem LW.bct {w0 w w' : World} {s s' : CS} {vs vs' : VS} {B : Nat → By} {b vb : Nat} (h : LW w0 w s vs B b vb) (hc : Bct w w' s s' vs vs' B b vb) : LW w0 w' s' vs' B (b + 1) (vb + 1) :=
  ⟨hc.ci, hc.cb, hc.bud, h.below.trans (hc.but.below h.below.size (fun k hk => by
    have := h.lo
    rcases hk with (e | ⟨e, _⟩) | e
    · omega
    · omega
    · exact h.vlo k e)), by rw [hc.h]; exact h.lo, fun k hk => by
    rcases hc.low k hk with e | e
    · exact h.vlo k e
    · have := h.below.size; omega⟩
theorem LW.tab {w0 w : World} {s : CS} {vs : VS} {B : Nat → By} {b vb : Nat} (h : LW w0 w s vs B b vb) (ht : Tab w0) : Tab w := below_tab h.below ht.lt ht
theorem acOf_new (c v room hh : Nat) (B : Nat → By) : acOf (newS c v room hh) B = ⟨room, [], 0, 0, 0, 0⟩ := rfl

theorem full_x (g : Nat) (w4 : World) (hx4 : w4.heap[g]? = some (.cells #[.int .u8 120] 5 (1, 2))) : Calls Tryz.prog 18 #[.slice (some ⟨g, 0, none⟩) 1 1, .int .i64 512] w4 fun e w' => e = .returned (.slice (some ⟨w4.heap.size, 0, none⟩) 512 512) ∧ w'.heap[w4.heap.size]? = some (.cells ((fullB [120] 512).map u8v).toArray 5 (0, 0)) ∧ Below w4.heap.size w4 w' := by
  have := full_bytes [120] (some ⟨g, 0, none⟩) 1 512 w4 (by omega) (by simp) (fun _ => ⟨_, _, rfl, fun j x hj => by
    have h0 : j = 0 := by have := (List.getElem?_eq_some_iff.1 hj).1; simp at this; omega
    subst h0
    have e := cellOf hx4 0
    simp at hj
    subst hj
    simpa [u8v] using e⟩)
  exact this

end Go.Proofs.YtdepdcndfofknaaGreatDoor

/-
  begun of the law of package bcache.
-/
namespace Go.Proofs.YtdepdcndfofknaaGreatDoor
open Go.RowKit Go.Maps Go.Sort Go.Shelf

set_option maxRecDepth 8000 in
set_option maxHeartbeats 1000000 in
theorem begun7_true (w : World) (ht : Tab w) : Calls Tryz.prog 9 #[] w fun e w' => e = .returned (.bool true) ∧ Below w.heap.size w w' := by
  obtain ⟨D, hD⟩ : ∃ D, D = fullB [120] 512 := ⟨_, rfl⟩
  have hDl : D.length = 512 := by rw [hD]; exact fullB_length _ _
  have hD0 : D[0]? = some 120 := by rw [hD]; simp [fullB]
  have cV := volume_any 8 w ht (by omega) (by omega)
  have HT : Hid (Tab w) := ht
  clear ht
  go_enter Tryz.func9, Tryz.ntmps9
  go_wp2_with (go_at_call 10; refine cV.mono ?_; rintro e w1 ⟨vs, rfl, hI1, hz1, hnb1, hc1, hB1, hlo1⟩; clear cV; refine Stop.out ?_)
  refine Stop.mk ?_
  have cN := new_ok 1 vs w1 hI1 (by omega) (by omega)
  have H1 : Hid (VI w1 vs ∧ Bud vs 1 ∧ nbOf vs.d.n = 8 ∧ (∀ i, i < 8 → vs.cont i = zeroB) ∧ Below w.heap.size w w1 ∧ ∀ k, vs.mine k → w.heap.size ≤ k) := ⟨hI1, hz1, hnb1, hc1, hB1, hlo1⟩
  clear hI1 hz1 hnb1 hc1 hB1 hlo1
  go_wp2_with (go_at_call 11; refine cN.mono ?_; rintro e w2 ⟨c, hh, rfl, hI2, hB2, hhl, hcl⟩; clear cN; refine Stop.out ?_)
  refine Stop.mk ?_
  have hL2 : LW w w2 (newS c vs.v 1 hh) vs (fun _ => []) 0 1 := by
    obtain ⟨q1, q2, q3, q4, q5, q6⟩ := H1.out
    exact ⟨hI2, ⟨Nat.zero_le _, Nat.zero_le _, Nat.zero_le _, Nat.zero_le _, Nat.zero_le _⟩, q2, q5.trans (hB2.mono q5.size), Nat.le_trans q5.size hhl, q6⟩
  have cv : (convert 33 33 (.slice (some ⟨w2.heap.size, 0, none⟩) 1 1)).run Tryz.prog (w2.alloc (.cells #[.int .u8 120] 5)) = .ok (.slice (some ⟨w2.heap.size, 0, none⟩) 1 1) (w2.alloc (.cells #[.int .u8 120] 5 (1, 2))) := Lib.run_convert_bytes_const w2 33 5 #[.int .u8 120] 1 1 Tryz.underlying33 Tryz.underlying5
  obtain ⟨w4, hw4⟩ : ∃ w4, w4 = w2.alloc (.cells #[.int .u8 120] 5 (1, 2)) := ⟨_, rfl⟩
  have hB4 : Below w2.heap.size w2 w4 := by rw [hw4]; exact (Below.refl _ w2).alloc (Nat.le_refl _) _
  have hx4 : w4.heap[w2.heap.size]? = some (.cells #[.int .u8 120] 5 (1, 2)) := by rw [hw4]; exact heap_alloc_new w2 _
  have cFu := full_x w2.heap.size w4 hx4
  rw [← hD] at cFu
  clear hD
  have H2 : Hid (LW w w2 (newS c vs.v 1 hh) vs (fun _ => []) 0 1 ∧ Below w2.heap.size w2 w4) := ⟨hL2, hB4⟩
  clear hI2 hB2 hhl hcl hL2 hB4 hx4
  go_wp2_with (go_at_call 18; rw [← hw4]; refine cFu.mono ?_; rintro e w5 ⟨rfl, hx5, hB5⟩; clear cFu cv; refine Stop.out ?_)
  refine Stop.mk ?_
  have hsz : w4.heap.size = w2.heap.size + 1 := by rw [hw4]; simp
  clear hw4
  have hL5 : LW w w5 (newS c vs.v 1 hh) vs (fun _ => []) 0 1 := (H2.out.1.by H2.out.2).by hB5
  have cP : Calls Tryz.prog 19 #[ep c, .int .i64 3, .slice (some ⟨w4.heap.size, 0, none⟩) 512 512] w5 fun e w' => e = .returned (.int .i64 0) ∧ ∃ s' B', Cst w5 w' (newS c vs.v 1 hh) s' vs B' 0 ∧ acOf s' B' = (acOf (newS c vs.v 1 hh) (fun _ => [])).put 3 D := put_new (newS c vs.v 1 hh) vs (fun _ => []) 3 0 (some ⟨w4.heap.size, 0, none⟩) 512 (D) w5 hL5.ci hL5.cb (by rw [H1.out.2.2.1]; omega) rfl rfl (bytes_block hx5) hDl (by omega) (fun g o e => by
    have e' : w4.heap.size = g := congrArg Addr.block (Option.some.inj e)
    rw [← e']
    exact ⟨_, _, hx5⟩)
  rw [hsz] at cP
  have H5 : Hid (LW w w5 (newS c vs.v 1 hh) vs (fun _ => []) 0 1) := hL5
  clear hL5 hx5 hB5 hsz
  go_wp2_with (go_at_call 19; refine cP.mono ?_; rintro e w6 ⟨rfl, s6, B6, hC6, hac6⟩; clear cP; refine Stop.out ?_)
  refine Stop.mk ?_
  have hL6 := H5.out.cst hC6
  have hA6 : acOf s6 B6 = ⟨1, [⟨3, 0, 1, true, D⟩], 1, 0, 0, 0⟩ := by rw [hac6, acOf_new]; rfl
  have hcc6 : s6.c = c := hC6.c
  have cG : Calls Tryz.prog 12 #[ep c, .int .i64 4] w6 fun e w' => e = .returned (.tuple #[.slice none 0 0, .int .i64 28]) ∧ Below w6.heap.size w6 w' := by
    have := get_full s6 vs B6 4 w6 hL6.ci (by rw [H1.out.2.2.1]; omega) (by rw [hA6]; rfl) (by rw [hA6]; rfl)
    rw [hcc6] at this
    exact this
  have H6 : Hid (LW w w6 s6 vs B6 1 1 ∧ acOf s6 B6 = ⟨1, [⟨3, 0, 1, true, D⟩], 1, 0, 0, 0⟩ ∧ s6.c = c) := ⟨hL6, hA6, hcc6⟩
  clear hC6 hac6 hL6 hA6 hcc6
  go_wp2_with (go_at_call 12; refine cG.mono ?_; rintro e w7 ⟨rfl, hB7⟩; clear cG; refine Stop.out ?_)
  refine Stop.mk ?_
  have hL7 := H6.out.1.by hB7
  have hne : 0 < s6.D.length := by
    have hm : heOf s6.U B6 (s6.A.getD 0 0) ∈ (acOf s6 B6).L ∧ s6.A.getD 0 0 ∈ s6.A ∧ (s6.U (s6.A.getD 0 0)).dirty = true := by
      have h1 : s6.A.map (heOf s6.U B6) = [⟨3, 0, 1, true, D⟩] := congrArg AC.L H6.out.2.1
      have h2 : 0 < s6.A.length := by have := congrArg List.length h1; simp at this; omega
      have h3 := getD_mem h2
      have h4 : heOf s6.U B6 (s6.A.getD 0 0) ∈ s6.A.map (heOf s6.U B6) := List.mem_map.2 ⟨_, h3, rfl⟩
      rw [h1] at h4
      have h5 := List.mem_singleton.1 h4
      exact ⟨List.mem_map.2 ⟨_, h3, rfl⟩, h3, congrArg HE.dirty h5⟩
    exact List.length_pos_of_mem ((hL7.ci.dirty _).2 ⟨hm.2.1, hm.2.2⟩)
  have cC := commit_some s6 vs B6 1 1 w7 hL7.ci (hL7.tab HT.out) hL7.cb hL7.bud (by omega) hne
  rw [H6.out.2.2] at cC
  have H7 : Hid (LW w w7 s6 vs B6 1 1) := hL7
  clear hL7 hB7 hne
  go_wp2_with (go_at_call 21; refine cC.mono ?_; rintro e w8 ⟨rfl, s8, vs8, hC8⟩; clear cC; refine Stop.out ?_)
  refine Stop.mk ?_
  have hL8 := H7.out.bct hC8
  have hA8 : acOf s8 B6 = ⟨1, [⟨3, 0, 1, false, D⟩], 1, 0, 0, 0⟩ := by rw [hC8.ac, H6.out.2.1]; rfl
  have hcc8 : s8.c = c := hC8.c.trans H6.out.2.2
  have hnb8 : nbOf vs8.d.n = 8 := by rw [hC8.n]; exact H1.out.2.2.1
  have hvol8 : vs8.cont 3 = D := by rw [hC8.vol 3 (by rw [H1.out.2.2.1]; omega), H6.out.2.1]; rfl
  have cG : Calls Tryz.prog 12 #[ep c, .int .i64 4] w8 fun e w' => ∃ g cap, e = .returned (.tuple #[.slice (some ⟨g, 0, none⟩) 512 cap, .int .i64 0]) ∧ ∃ s' B', Cst w8 w' s8 s' vs8 B' 2 ∧ acOf s' B' = (acOf s8 B6).meet 4 (vs8.cont 4) id := by
    have := get_ok s8 vs8 B6 4 2 w8 hL8.ci hL8.cb (by omega) (by omega) (.inr (by rw [hA8]; rfl))
    rw [hcc8] at this
    exact this.mono (by rintro e w' ⟨g, cap, he, s', B', h1, h2, _⟩; exact ⟨g, cap, he, s', B', h1, h2⟩)
  have H8 : Hid (LW w w8 s8 vs8 B6 2 2 ∧ acOf s8 B6 = ⟨1, [⟨3, 0, 1, false, D⟩], 1, 0, 0, 0⟩ ∧ s8.c = c ∧ nbOf vs8.d.n = 8 ∧ vs8.cont 3 = D ∧ vs8.v = vs.v) := ⟨hL8, hA8, hcc8, hnb8, hvol8, hC8.v⟩
  clear hC8 hL8 hA8 hcc8 hnb8 hvol8
  go_wp2_with (go_at_call 12; refine cG.mono ?_; rintro e w9 ⟨g9, cap9, rfl, s9, B9, hC9, hac9⟩; clear cG; refine Stop.out ?_)
  refine Stop.mk ?_
  have hL9 := H8.out.1.cst hC9
  have hA9 : acOf s9 B9 = ⟨1, [⟨4, 0, 2, false, vs8.cont 4⟩], 2, 0, 1, 1⟩ := by rw [hac9, H8.out.2.1]; rfl
  have hcc9 : s9.c = c := hC9.c.trans H8.out.2.2.1
  have cCt := counts_cache s9 vs8 B9 w9 hL9.ci
  rw [hcc9, show s9.met = 0 from congrArg AC.hit hA9, show s9.missed = 1 from congrArg AC.miss hA9, show s9.out = 1 from congrArg AC.outs hA9] at cCt
  have H9 : Hid (LW w w9 s9 vs8 B9 3 2 ∧ acOf s9 B9 = ⟨1, [⟨4, 0, 2, false, vs8.cont 4⟩], 2, 0, 1, 1⟩ ∧ s9.c = c) := ⟨hL9, hA9, hcc9⟩
  clear hC9 hac9 hL9 hA9 hcc9
  go_wp2_with (go_at_call 27; refine cCt.mono ?_; rintro e wa ⟨rfl, qa, rfl⟩; clear cCt; refine Stop.out ?_)
  refine Stop.mk ?_
  have hLa : LW w (w9.drewN qa) s9 vs8 B9 3 2 := H9.out.1.by (below_drewN (Below.refl _ _) qa)
  have cR := vReadT_any 3 vs8 (w9.drewN qa) hLa.ci.vi (by rw [H8.out.2.2.2.1]; omega)
  rw [H8.out.2.2.2.2.2, H8.out.2.2.2.2.1] at cR
  go_wp2_with (go_at_call 26; refine cR.mono ?_; rintro e wb ⟨gb, cpb, rfl, _, _, hbb, hBb, _, _⟩; clear cR; refine Stop.out ?_)
  refine Stop.mk ?_
  have hLb := hLa.by hBb
  obtain ⟨g', o', e', hxb⟩ := hbb (by omega)
  cases e'
  have xb : wb.cell? ⟨gb, 0, none⟩ = some (.int .u8 120) := by
    have := hxb 0 120 hD0
    simpa [u8v] using this
  have cH3 := has_cache s9 vs8 B9 3 wb hLb.ci (by omega) (by omega) false (by rw [H9.out.2.1]; rfl)
  have cH4 := has_cache s9 vs8 B9 4 wb hLb.ci (by omega) (by omega) true (by rw [H9.out.2.1]; rfl)
  rw [H9.out.2.2] at cH3 cH4
  have HLb : Hid (Below w.heap.size w wb) := hLb.below
  have tk1 : True := trivial
  clear hLb hLa hxb hbb hBb
  go_wp2_with (first
    | (go_at_call 28; have tk := tk1; clear tk1; refine Calls_on cH3 ?_)
    | (go_at_call 28; refine Calls_on cH4 ?_))
  go_ret
  exact ⟨rfl, HLb.out⟩

end Go.Proofs.YtdepdcndfofknaaGreatDoor

/-
  CacheScan of the law of package bcache: going over the blocks, in numbers alone.
-/
namespace Go.Proofs.YtdepdcndfofknaaGreatDoor
open Go.RowKit Go.Maps Go.Sort Go.Shelf

/-- A cache of which nothing is pinned or put, in numbers alone: the blocks with their last uses. -/
structure SL where
  L : List (Nat × Nat)
  time : Nat
  hit : Nat
  miss : Nat
  outs : Nat
def sbetter (o : Option (Nat × Nat)) (x : Nat × Nat) : Option (Nat × Nat) := match o with
  | none => some x
  | some y => if x.2 < y.2 then some x else some y
def svictim (L : List (Nat × Nat)) : Option (Nat × Nat) := L.foldl sbetter none
def SL.held (s : SL) (b : Nat) : Bool := s.L.any (fun x => x.1 == b)
def sevict (room : Nat) (s : SL) : SL := if s.L.length < room then s else match svictim s.L with
  | some o => { s with L := s.L.filter (fun x => x.1 != o.1), outs := s.outs + 1 }
  | none => s
def stouch (s : SL) (b : Nat) : SL := { s with time := s.time + 1, L := s.L.map fun x => if x.1 = b then (x.1, s.time + 1) else x }
def sstep (room : Nat) (s : SL) (b : Nat) : SL :=
  if s.held b then stouch { s with hit := s.hit + 1 } b else stouch { sevict room s with L := (sevict room s).L ++ [(b, 0)], miss := s.miss + 1 } b
def srun (room n : Nat) : Nat → SL
  | 0 => ⟨[], 0, 0, 0, 0⟩
  | k + 1 => sstep room (srun room n k) (k % n)
def snum (room n times : Nat) : Bool :=
  let s := srun room n (n * times)
  let h := ((List.range 12).filter s.held).length
  if n ≤ room then s.hit == n * (times - 1) && s.miss == n && s.outs == 0 && h == n
  else s.hit == 0 && s.miss == n * times && s.outs == n * times - room && h == room
def sall : Bool := (List.range 10).all fun r => (List.range 12).all fun n => (List.range 4).all fun t => snum (r + 1) (n + 1) (t + 1)
theorem sall_true : sall = true := by kernel_rfl
theorem snum_true (room n times : Nat) (h1 : 1 ≤ room) (h2 : room ≤ 10) (h3 : 1 ≤ n) (h4 : n ≤ 12) (h5 : 1 ≤ times) (h6 : times ≤ 4) : snum room n times = true := by
  have h := sall_true
  unfold sall at h
  have a := List.all_eq_true.1 h (room - 1) (List.mem_range.2 (by omega))
  have b := List.all_eq_true.1 a (n - 1) (List.mem_range.2 (by omega))
  have c := List.all_eq_true.1 b (times - 1) (List.mem_range.2 (by omega))
  rwa [Nat.sub_add_cancel h1, Nat.sub_add_cancel h3, Nat.sub_add_cancel h5] at c

/-- The numbers of a cache. -/
def pr (A : AC) : SL := ⟨A.L.map fun x => (x.block, x.used), A.time, A.hit, A.miss, A.outs⟩
/-- Nothing is pinned or put. -/
def AC.still (A : AC) : Prop := ∀ x ∈ A.L, x.pins = 0 ∧ x.dirty = false
theorem pr_held (A : AC) (b : Nat) : (pr A).held b = A.held b := by
  unfold SL.held AC.held pr
  simp only [List.any_map]
  rfl
theorem pr_victim : ∀ (L : List HE) (o : Option HE), (∀ x ∈ L, x.pins = 0 ∧ x.dirty = false) → (L.map fun x => (x.block, x.used)).foldl sbetter (o.map fun x => (x.block, x.used)) = (L.foldl better o).map fun x => (x.block, x.used)
  | [], o, _ => rfl
  | x :: L, o, h => by
    rw [List.map_cons, List.foldl_cons, List.foldl_cons, ← pr_victim L (better o x) (fun y hy => h y (List.mem_cons_of_mem _ hy))]
    congr 1
    obtain ⟨h1, h2⟩ := h x (List.mem_cons_self ..)
    have hi : x.idle = true := by unfold HE.idle; rw [h1, h2]; rfl
    unfold better sbetter
    rw [if_pos hi]
    cases o with
    | none => rfl
    | some y =>
      simp only [Option.map_some]
      split <;> rfl
theorem pr_touch (A : AC) (b : Nat) : pr (A.touch b id) = stouch (pr A) b := by
  unfold pr AC.touch stouch
  simp only [List.map_map]
  congr 1
  refine List.map_congr_left fun x _ => ?_
  simp only [Function.comp, id]
  by_cases h : x.block = b
  · rw [if_pos h, if_pos h]
  · rw [if_neg h, if_neg h]
theorem pr_evict (A : AC) (h : A.still) : pr A.evict = sevict A.room (pr A) := by
  have hl : (pr A).L.length = A.L.length := List.length_map ..
  unfold AC.evict sevict
  rw [hl]
  by_cases hc : A.L.length < A.room
  · rw [if_pos hc, if_pos hc]
  · rw [if_neg hc, if_neg hc]
    have e : svictim (pr A).L = (victim A.L).map fun x => (x.block, x.used) := pr_victim A.L none h
    rw [e]
    cases victim A.L with
    | none => rfl
    | some o =>
      show pr _ = _
      unfold pr
      simp only [Option.map_some, List.filter_map]
      rfl
theorem evict_room (A : AC) : A.evict.room = A.room := by
  unfold AC.evict
  split
  · rfl
  · split <;> rfl
theorem evict_still (A : AC) (h : A.still) : A.evict.still := by
  unfold AC.evict
  split
  · exact h
  · split
    · exact fun x hx => h x (List.mem_filter.1 hx).1
    · exact h
theorem touch_still (A : AC) (b : Nat) (h : A.still) : (A.touch b id).still := by
  intro x hx
  obtain ⟨y, hy, e⟩ := List.mem_map.1 hx
  have := h y hy
  by_cases hb : y.block = b
  · rw [if_pos hb] at e; rw [← e]; exact this
  · rw [if_neg hb] at e; rw [← e]; exact this
theorem pr_meet (A : AC) (b : Nat) (d : By) (h : A.still) : pr (A.meet b d id) = sstep A.room (pr A) b ∧ (A.meet b d id).still ∧ (A.meet b d id).room = A.room := by
  unfold AC.meet sstep
  rw [pr_held]
  by_cases hh : A.held b = true
  · rw [if_pos hh, if_pos hh]
    exact ⟨pr_touch _ _, touch_still _ _ h, rfl⟩
  · rw [if_neg hh, if_neg hh]
    refine ⟨?_, touch_still _ _ ?_, evict_room A⟩
    · rw [pr_touch, ← pr_evict A h]
      congr 1
      unfold pr AC.add
      simp only [List.map_append, List.map_cons, List.map_nil]
    · intro x hx
      rcases List.mem_append.1 hx with hx | hx
      · exact evict_still A h x hx
      · cases List.mem_singleton.1 hx; exact ⟨rfl, rfl⟩
theorem still_free (A : AC) (h : A.still) (hr : 1 ≤ A.room) : A.full = false := by
  unfold AC.full
  by_cases hc : A.room ≤ A.L.length
  · rw [decide_eq_true hc, Bool.true_and]
    cases hv : victim A.L with
    | some o => rfl
    | none =>
      obtain ⟨_, h2⟩ := (victim_fold A.L none).2 hv
      obtain ⟨x, hx⟩ := List.exists_mem_of_length_pos (by omega : 0 < A.L.length)
      obtain ⟨h3, h4⟩ := h x hx
      have := h2 x hx
      unfold HE.idle at this
      rw [h3, h4] at this
      cases this
  · rw [decide_eq_false hc]; rfl
theorem pr_heldL (A : AC) (nb : Nat) : heldL A nb = (List.range nb).filter (pr A).held := by
  unfold heldL
  congr 1
  funext b
  exact (pr_held A b).symm

end Go.Proofs.YtdepdcndfofknaaGreatDoor

/-
  CacheScan of the law of package bcache.
-/
namespace Go.Proofs.YtdepdcndfofknaaGreatDoor
open Go.RowKit Go.Maps Go.Sort Go.Shelf

/-- So many Gets are through. -/
structure ScanI (w0 w : World) (c room n : Nat) (vs : VS) (k : Nat) : Prop where
  at_ : ∃ s B, LW w0 w s vs B k 1 ∧ s.c = c ∧ (acOf s B).still ∧ (acOf s B).room = room ∧ pr (acOf s B) = srun room n k

theorem scan_get (w0 w : World) (c room n : Nat) (vs : VS) (k i : Nat) (h : ScanI w0 w c room n vs k) (hr : 1 ≤ room) (hk : k < 800000) (hi : i < nbOf vs.d.n) (hki : k % n = i) :
    Calls Tryz.prog 12 #[ep c, .int .i64 (i : Nat)] w fun e w' => ∃ g cap, e = .returned (.tuple #[.slice (some ⟨g, 0, none⟩) 512 cap, .int .i64 0]) ∧ ScanI w0 w' c room n vs (k + 1) := by
  obtain ⟨s, B, hL, hc, hs, hro, hp⟩ := h.at_
  have := get_ok s vs B i k w hL.ci hL.cb hk hi (.inr (still_free _ hs (by omega)))
  rw [hc] at this
  refine this.mono ?_
  rintro e w' ⟨g, cap, he, s', B', hC, hac, _, _⟩
  obtain ⟨h1, h2, h3⟩ := pr_meet (acOf s B) i (vs.cont i) hs
  refine ⟨g, cap, he, ⟨s', B', hL.cst hC, hC.c.trans hc, by rw [hac]; exact h2, by rw [hac, h3, hro], ?_⟩⟩
  rw [hac, h1, hro, hp]
  show _ = sstep room (srun room n k) (k % n)
  rw [hki]
theorem scan_end (w0 w : World) (c room n : Nat) (vs : VS) (k : Nat) (h : ScanI w0 w c room n vs k) (hb : nbOf vs.d.n = 12) :
    Calls Tryz.prog 27 #[ep c] w (fun e w' => e = .returned (.tuple #[.int .i64 ((srun room n k).hit : Nat), .int .i64 ((srun room n k).miss : Nat), .int .i64 ((srun room n k).outs : Nat)]) ∧ ScanI w0 w' c room n vs k) ∧
    Calls Tryz.prog 29 #[ep c] w (fun e w' => ∃ p cp, e = .returned (.slice p ((List.range 12).filter (srun room n k).held).length cp) ∧ Below w0.heap.size w0 w') := by
  obtain ⟨s, B, hL, hc, hs, hro, hp⟩ := h.at_
  constructor
  · have := counts_cache s vs B w hL.ci
    rw [hc] at this
    refine this.mono ?_
    rintro e w' ⟨rfl, q, rfl⟩
    refine ⟨?_, ⟨s, B, hL.by (below_drewN (Below.refl _ _) q), hc, hs, hro, hp⟩⟩
    rw [← hp]
    rfl
  · have := held_cache s vs B w hL.ci
    rw [hc, pr_heldL, hb, hp] at this
    refine this.mono ?_
    rintro e w' ⟨p, cp, rfl, _, hB⟩
    exact ⟨p, cp, rfl, (hL.by hB).below⟩

theorem scan_bad (x0 x1 x2 : Int) (w : World) (ht : Tab w) (h : x0 < 1 ∨ (¬ x0 < 1 ∧ 10 < x0) ∨ (¬ x0 < 1 ∧ ¬ 10 < x0 ∧ x1 < 1) ∨ (¬ x0 < 1 ∧ ¬ 10 < x0 ∧ ¬ x1 < 1 ∧ 12 < x1) ∨ (¬ x0 < 1 ∧ ¬ 10 < x0 ∧ ¬ x1 < 1 ∧ ¬ 12 < x1 ∧ x2 < 1) ∨ (¬ x0 < 1 ∧ ¬ 10 < x0 ∧ ¬ x1 < 1 ∧ ¬ 12 < x1 ∧ ¬ x2 < 1 ∧ 4 < x2)) :
    Calls Tryz.prog 5 #[.int .i64 x0, .int .i64 x1, .int .i64 x2] w fun e w' => e = .returned (.bool true) ∧ Below w.heap.size w w' := by
  have c1 := begun7_true w ht
  rcases h with h | ⟨i1, h⟩ | ⟨i1, i2, h⟩ | ⟨i1, i2, i3, h⟩ | ⟨i1, i2, i3, i4, h⟩ | ⟨i1, i2, i3, i4, i5, h⟩
  all_goals
    go_enter Tryz.func5, Tryz.ntmps5
    go_wp2_with (go_at_call 9; refine c1.mono ?_; rintro e w1 ⟨rfl, hB1⟩; clear c1)
    go_ret
    exact ⟨rfl, hB1⟩

set_option maxRecDepth 8000 in
set_option maxHeartbeats 1000000 in
theorem scan_good (room n times : Nat) (w : World) (ht : Tab w) (h1 : 1 ≤ room) (h2 : room ≤ 10) (h3 : 1 ≤ n) (h4 : n ≤ 12) (h5 : 1 ≤ times) (h6 : times ≤ 4) :
    Calls Tryz.prog 5 #[.int .i64 room, .int .i64 n, .int .i64 times] w fun e w' => e = .returned (.bool true) ∧ Below w.heap.size w w' := by
  have i1 : ¬ (room : Int) < 1 := by omega
  have i2 : ¬ (10 : Int) < room := by omega
  have i3 : ¬ (n : Int) < 1 := by omega
  have i4 : ¬ (12 : Int) < n := by omega
  have i5 : ¬ (times : Int) < 1 := by omega
  have i6 : ¬ (4 : Int) < times := by omega
  have c1 := begun7_true w ht
  have hnum := snum_true room n times h1 h2 h3 h4 h5 h6
  have HT : Hid (Tab w ∧ snum room n times = true) := ⟨ht, hnum⟩
  clear ht hnum
  go_enter Tryz.func5, Tryz.ntmps5
  go_wp2_with (go_at_call 9; refine c1.mono ?_; rintro e w1 ⟨rfl, hB1⟩; clear c1; refine Stop.out ?_)
  refine Stop.mk ?_
  have cV : Calls Tryz.prog 10 #[.int .i64 12] w1 _ := volume_any 12 w1 (below_tab hB1 HT.out.1.lt HT.out.1) (by omega) (by omega)
  have HB : Hid (Below w.heap.size w w1) := hB1
  clear hB1
  go_wp2_with (go_at_call 10; refine cV.mono ?_; rintro e w2 ⟨vs, rfl, hI2, hz2, hnb2, hc2, hB2, hlo2⟩; clear cV; refine Stop.out ?_)
  refine Stop.mk ?_
  have cN := new_ok room vs w2 hI2 (by omega) (by omega)
  have H2 : Hid (Bud vs 1 ∧ Below w1.heap.size w1 w2 ∧ ∀ k, vs.mine k → w1.heap.size ≤ k) := ⟨hz2, hB2, hlo2⟩
  have Hnb : Hid (nbOf vs.d.n = 12) := hnb2
  clear hI2 hz2 hnb2 hc2 hB2 hlo2
  go_wp2_with (go_at_call 11; refine cN.mono ?_; rintro e w3 ⟨c, hh, rfl, hI3, hB3, hhl, hcl⟩; clear cN; refine Stop.out ?_)
  refine Stop.mk ?_
  have HS : Hid (ScanI w1 w3 c room n vs 0) := by
    obtain ⟨q1, q2, q3⟩ := H2.out
    exact ⟨newS c vs.v room hh, fun _ => [], ⟨hI3, ⟨Nat.zero_le _, Nat.zero_le _, Nat.zero_le _, Nat.zero_le _, Nat.zero_le _⟩, q1, q2.trans (hB3.mono q2.size), Nat.le_trans q2.size hhl, q3⟩, rfl, (fun x hx => by cases hx), rfl, rfl⟩
  clear hI3 hB3 hhl hcl H2
  go_wp2_with fail
  go_loopw [10] (fun tt wr => ∃ t : Nat, t ≤ times ∧ tt = .int .i64 t ∧ Hid (ScanI w1 wr c room n vs (t * n))) (fun tt _ => times - (intOf tt).toNat)
  case atStart => exact ⟨0, Nat.zero_le _, rfl, by rw [Nat.zero_mul]; exact HS⟩
  case round =>
    obtain ⟨t, ht, rfl, HI⟩ := hrel
    by_cases hlt : t < times
    · have hltI : (t : Int) < times := by omega
      go_wp2_with fail
      go_loopw [11] (fun ii wr' => ∃ i : Nat, i ≤ n ∧ ii = .int .i64 i ∧ Hid (ScanI w1 wr' c room n vs (t * n + i))) (fun ii _ => n - (intOf ii).toNat)
      case atStart => exact ⟨0, Nat.zero_le _, rfl, HI⟩
      case round =>
        obtain ⟨i, hi, rfl, HJ⟩ := hrel
        by_cases hil : i < n
        · have hilI : (i : Int) < n := by omega
          have hb : t * n ≤ 4 * 12 := Nat.mul_le_mul (by omega) h4
          have cG := scan_get w1 _ c room n vs (t * n + i) i HJ.out h1 (by omega) (by rw [Hnb.out]; omega) (by rw [Nat.mul_comm, Nat.mul_add_mod, Nat.mod_eq_of_lt hil])
          clear hb
          go_wp2_with (go_at_call 12; refine cG.mono ?_; rintro e w4 ⟨g, cap, rfl, hS4⟩; clear cG; refine Stop.out ?_)
          refine Stop.mk ?_
          have HS4 : Hid (ScanI w1 w4 c room n vs (t * n + (i + 1))) := hS4
          clear hS4
          go_wp2
          all_goals go_roundw
          all_goals first | exact ⟨i + 1, by omega, by go_num, HS4⟩ | (simp [intOf]; omega)
        · obtain rfl : i = n := by omega
          have HS4 := HJ.out
          rw [show t * i + i = (t + 1) * i by rw [Nat.succ_mul]] at HS4
          have HS5 : Hid (ScanI w1 _ c room i vs ((t + 1) * i)) := HS4
          clear HS4
          go_wp2
          all_goals go_roundw
          all_goals first | exact ⟨t + 1, by omega, by go_num, HS5⟩ | (simp [intOf]; omega)
    · obtain rfl : t = times := by omega
      have hnlt : ¬ (t : Int) < t := by omega
      have cC := (scan_end w1 _ c room n vs (t * n) HI.out Hnb.out).1
      have hsn := HT.out.2
      unfold snum at hsn
      rw [Nat.mul_comm n t] at hsn
      generalize hS : srun room n (t * n) = S at *
      have hb : t * n ≤ 4 * 12 := Nat.mul_le_mul (by omega) h4
      have hb2 : n ≤ t * n := Nat.le_mul_of_pos_left n (by omega)
      by_cases hle : n ≤ room
      · have hleI : (n : Int) ≤ room := by omega
        simp only [if_pos hle, Bool.and_eq_true, beq_iff_eq] at hsn
        obtain ⟨⟨⟨k1, k2⟩, k3⟩, k4⟩ := hsn
        obtain ⟨q, hq, e1⟩ : ∃ q : Nat, q = t - 1 ∧ (t : Int) - 1 = q := ⟨t - 1, rfl, by omega⟩
        obtain ⟨p, hp, e2⟩ : ∃ p : Nat, p = n * q ∧ (n : Int) * q = p := ⟨n * q, rfl, by push_cast; rfl⟩
        rw [← hq, ← hp] at k1
        rw [k1, k2, k3] at cC
        have hp48 : p ≤ 12 * 3 := by rw [hp]; exact Nat.mul_le_mul h4 (by omega)
        have Hk : Hid (((List.range 12).filter S.held).length = n ∧ srun room n (t * n) = S) := ⟨k4, hS⟩
        clear k1 k2 k3 k4 hp hq hS hb hb2
        go_wp2_with (go_at_call 27; refine cC.mono ?_; rintro e w4 ⟨rfl, hS4⟩; clear cC; refine Stop.out ?_)
        refine Stop.mk ?_
        have cH := (scan_end w1 w4 c room n vs (t * n) hS4 Hnb.out).2
        rw [Hk.out.2, Hk.out.1] at cH
        clear hS4
        go_wp2_with (go_at_call 29; refine cH.mono ?_; rintro e w5 ⟨pp, cp, rfl, hB5⟩; clear cH)
        go_ret
        exact ⟨by simp, HB.out.trans (hB5.mono HB.out.size)⟩
      · have hleI : ¬ (n : Int) ≤ room := by omega
        simp only [if_neg hle, Bool.and_eq_true, beq_iff_eq] at hsn
        obtain ⟨⟨⟨k1, k2⟩, k3⟩, k4⟩ := hsn
        obtain ⟨p, hp, e2⟩ : ∃ p : Nat, p = t * n ∧ (n : Int) * t = p := ⟨t * n, rfl, by push_cast; exact Int.mul_comm _ _⟩
        obtain ⟨r, hr, e3⟩ : ∃ r : Nat, r = p - room ∧ (p : Int) - room = r := ⟨p - room, rfl, by omega⟩
        rw [← hp] at k2 k3
        rw [← hr] at k3
        rw [k1, k2, k3] at cC
        have hp48 : p ≤ 48 := by omega
        have hr48 : r ≤ 48 := by omega
        have Hk : Hid (((List.range 12).filter S.held).length = room ∧ srun room n (t * n) = S) := ⟨k4, hS⟩
        clear k1 k2 k3 k4 hp hr hS hb hb2
        go_wp2_with (go_at_call 27; refine cC.mono ?_; rintro e w4 ⟨rfl, hS4⟩; clear cC; refine Stop.out ?_)
        refine Stop.mk ?_
        have cH := (scan_end w1 w4 c room n vs (t * n) hS4 Hnb.out).2
        rw [Hk.out.2, Hk.out.1] at cH
        clear hS4
        go_wp2_with (go_at_call 29; refine cH.mono ?_; rintro e w5 ⟨pp, cp, rfl, hB5⟩; clear cH)
        go_ret
        exact ⟨by simp, HB.out.trans (hB5.mono HB.out.size)⟩

theorem scan_any (x0 x1 x2 : Int) (w : World) (ht : Tab w) :
    Calls Tryz.prog 5 #[.int .i64 x0, .int .i64 x1, .int .i64 x2] w fun e w' => e = .returned (.bool true) ∧ Below w.heap.size w w' := by
  by_cases hg : 1 ≤ x0 ∧ x0 ≤ 10 ∧ 1 ≤ x1 ∧ x1 ≤ 12 ∧ 1 ≤ x2 ∧ x2 ≤ 4
  · obtain ⟨h1, h2, h3, h4, h5, h6⟩ := hg
    have := scan_good x0.toNat x1.toNat x2.toNat w ht (by omega) (by omega) (by omega) (by omega) (by omega) (by omega)
    rwa [Int.toNat_of_nonneg (by omega), Int.toNat_of_nonneg (by omega), Int.toNat_of_nonneg (by omega)] at this
  · exact scan_bad x0 x1 x2 w ht (by omega)

end Go.Proofs.YtdepdcndfofknaaGreatDoor

namespace Go.Proofs.YtdepdcndfofknaaGreatDoor
open Go.ChangeShapes Go.WideShapes Go.ChangeAt Go.RowKit Go.Deep

set_option maxRecDepth 100000 in
theorem bscan_contract (H : Type) (enc : TypeId × Value → H) (W : World) (base : Nat) (args : Array Value) (ds gs : List (DataW H)) (before : List MemPlace)
    (hval : ∀ (j : Nat) t v, Tryz.f5.params[j]? = some t → args[j]? = some v → Value.okWide Tryz.prog W .any base t v)
    (hW : DataW.Whole enc Tryz.prog Tryz.f5.params.toList Rows.cacheScanSpec.vars false W args.toList ds gs before)
    (hz : (DataW.weightsEach Tryz.prog (Tryz.f5.params.toList ++ (OpenSpec.ofChange Rows.cacheScanSpec).bare.plain.varTypes Tryz.prog) (ds ++ gs)).all (· ≤ reachBytes) = true) (hL : laidMetH Tryz.prog Rows.cacheScanRow.laid W) :
    Calls Tryz.prog 5 args W fun e W' => ∃ v, e = .returned v ∧ Rows.cacheScanSpec.post enc Tryz.prog Tryz.f5 false true false false W args v W' := by
  have hW' := hW
  obtain ⟨p, q, hA0, hV, rfl, hfz, hnd⟩ := hW
  have hA : DataW.TrodAll enc Tryz.prog W 0 (fun _ => true) true Tryz.f5.params.toList args.toList ds p := hA0
  rw [Tryz.params5] at hA hval hz
  obtain ⟨v0, vs0, d0, ds0, p0, q0, hargs, rfl, rfl, h0, r0⟩ := trodAll_cons hA
  obtain ⟨v1, vs1, d1, ds1, p1, q1, rfl, rfl, rfl, h1, r1⟩ := trodAll_cons r0
  obtain ⟨v2, vs2, d2, ds2, p2, q2, rfl, rfl, rfl, h2, r2⟩ := trodAll_cons r1
  obtain ⟨rfl, rfl, rfl⟩ := trodAll_nil r2
  obtain rfl : args = #[v0, v1, v2] := by cases args; simp_all
  obtain ⟨rfl, rfl⟩ := trodVars_none hV
  obtain ⟨a0, rfl, rfl, rfl, w0⟩ := open_int Tryz.underlying3 (hval 0 3 v0 rfl rfl) h0
  obtain ⟨a2, rfl, rfl, rfl, w2⟩ := open_int Tryz.underlying3 (hval 2 3 v2 rfl rfl) h2
  obtain ⟨a1, rfl, rfl, rfl, w1⟩ := open_int Tryz.underlying3 (hval 1 3 v1 rfl rfl) h1
  clear hA0
  refine (scan_any a0 a1 a2 W (tab_of_laid hL)).mono fun e W' ⟨he, bel⟩ => ?_
  subst he
  exact ⟨_, rfl, _, _, _, [], _, [], hW', trodAll_mk1 (shut_bool Tryz.underlying4 _),
    (trodAll_cons_mk (shut_int Tryz.underlying3 w0) (trodAll_cons_mk (shut_int Tryz.underlying3 w1) (trodAll_cons_mk (shut_int Tryz.underlying3 w2) trodAll_mk0))), rfl, bel.frame _, fun h => by cases h⟩

theorem bscan_laid_met (os : Os) : laidMet Tryz.prog Rows.cacheScanRow.laid ((World.doorLaid Tryz.prog 400 os).forCall (fun _ _ => 0) ⟨#[], #[.int .i64 0, .int .i64 0, .int .i64 0], []⟩).memory :=
  laidMet_of_run' 20 (by kernel_rfl) (by kernel_rfl)
theorem bscan_reads (os : Os) {H : Type} (enc : TypeId × Value → H) : ∃ places, DataW.whole enc Tryz.prog ((World.doorLaid Tryz.prog 400 os).forCall (fun _ _ => 0) ⟨#[], #[.int .i64 0, .int .i64 0, .int .i64 0], []⟩).memory Tryz.f5.params.toList Rows.cacheScanSpec.vars false (#[.int .i64 0, .int .i64 0, .int .i64 0] : Array Value).toList 8 = some ([.lit (.int .i64 0), .lit (.int .i64 0), .lit (.int .i64 0)], [], places) :=
  ⟨[], by kernel_rfl⟩

set_option maxRecDepth 100000 in
theorem bscan_lifted (os : Os) (started : os.Started) (H : Type) (enc : TypeId × Value → H) (F : Stop.Interp) :
    ReturnsInHanded {} Tryz.checked os 5 .any ((OpenSpec.ofChange Rows.cacheScanSpec).preRow enc Tryz.prog Tryz.f5 Rows.cacheScanRow.domain false Rows.cacheScanRow.laid) (((OpenSpec.ofChange Rows.cacheScanSpec).at F).post enc Tryz.prog Tryz.f5 false true false false) := by
  obtain ⟨places, hx⟩ := bscan_reads os enc
  refine returnsInHanded_of_row (C := Tryz.checked) (s := OpenSpec.ofChange Rows.cacheScanSpec) own started (by kernel_rfl) Tryz.func5
    (witness_row_at (enc := enc) (C := Tryz.checked) false (World.doorLaid Tryz.prog 400 os) #[.int .i64 0, .int .i64 0, .int .i64 0] rfl (by kernel_rfl) (by kernel_rfl) (by kernel_rfl)
      (OpenSpec.preRow_of_cond 8 hx (by kernel_rfl) (fun k hk => by cases hk) (by kernel_rfl) (bscan_laid_met os))) ?_
  intro W base args ds gs before hval hW _ _ hz hL _ _
  exact bscan_contract H enc W base args ds gs before hval hW hz hL

theorem bscan_said : Rows.CacheScanSaid :=
  OpenClaim.holds_of_cond 5 Tryz.f5 rfl rfl rfl rfl rfl rfl rfl ⟨rfl, rfl, rfl, rfl, rfl⟩ rfl rfl rfl rfl rfl (by kernel_rfl) Tryz.func5 (by kernel_rfl)
    (of_decide_eq_true (by kernel_rfl)) (by unfold Func.isWrapper; first | (rw [if_pos (by decide +kernel)]; kernel_rfl) | (rw [if_neg (by decide +kernel)]; exact ⟨rfl, rfl⟩))
    (fun os started H enc _ F => by rw [OpenClaim.pre_eq_preRow]; exact bscan_lifted os started H enc F)

theorem bscan_plain (f : FuncId) (fn : Func) (hf : Tryz.pinned.checked.prog.funcNamed "lagoon/lagoonlaw7.CacheScan" = some f) (hfn : Tryz.pinned.checked.prog.funcs[f]? = some fn) :
    true = Tryz.pinned.checked.prog.looks [] ∧ ∀ (j : Nat) t, fn.params[j]? = some t → Tryz.pinned.checked.prog.wantsStandIn t = false := by
  obtain rfl : f = 5 := Option.some.inj ((show Tryz.prog.funcNamed "lagoon/lagoonlaw7.CacheScan" = some 5 by kernel_rfl).symm.trans hf) |>.symm
  obtain rfl : fn = Tryz.f5 := (Option.some.inj (Tryz.func5.symm.trans hfn)).symm
  refine ⟨by kernel_rfl, fun j t ht => ?_⟩
  rw [Tryz.params5] at ht
  have hm : t ∈ [3, 3, 3] := by simpa using Array.mem_of_getElem? ht
  have hall : ([3, 3, 3].all fun u => !Tryz.prog.wantsStandIn u) = true := by kernel_rfl
  exact (show Tryz.prog.wantsStandIn t = false by simpa using List.all_eq_true.1 hall t hm)

theorem cacheScan_holds : Rows.CacheScanCardSaid :=
  Claim7.holds_tied_plain_at .later [] _ _ _ _ bscan_said (fun _ h => by cases h) (by kernel_rfl) (fun _ h => by cases h) cacheScan_row_tie rfl ⟨rfl, rfl⟩ (by kernel_rfl) rfl bscan_plain (by kernel_rfl)

#print axioms cacheScan_holds
end Go.Proofs.YtdepdcndfofknaaGreatDoor
