/-
  CachePins, for all its arguments, whatever the memory and the order that Go leaves open, returns true and leaves its arguments and all memory that was there as it was. The table of package crc starts as the program's text lays it (the card ties it).
-/
import Derived.Test.YtdepdcndfofknaaGreatDoorBge
import Derived.Lib.SlBytesConst
import Derived.Test.YtdepdcndfofknaaGreatDoorCopen
import Derived.Deep.Grids
import Derived.SizedLaws

/-
  Volume of the law of package bcache.
-/
namespace Go.Proofs.YtdepdcndfofknaaGreatDoor
open Go.RowKit Go.Maps Go.Sort Go.Shelf

set_option maxRecDepth 8000 in
set_option maxHeartbeats 2000000 in
theorem volume_any (blocks : Nat) (w : World) (ht : Tab w) (h2 : 2 ≤ blocks) (h12 : blocks ≤ 12) :
    Calls Tryz.prog 10 #[.int .i64 (blocks : Nat)] w fun e w' => ∃ vs : VS, e = .returned (dp vs.v) ∧ VI w' vs ∧ Bud vs 1 ∧ nbOf vs.d.n = blocks ∧ (∀ i, i < blocks → vs.cont i = zeroB) ∧ Below w.heap.size w w' ∧ ∀ k, vs.mine k → w.heap.size ≤ k := by
  obtain ⟨n, hn⟩ : ∃ n, n = 4 * blocks + 8 := ⟨_, rfl⟩
  have e1 : (4 : Int) * (blocks : Nat) + 8 = (n : Nat) := by omega
  have h16 : 16 ≤ n := by omega
  have h200 : n ≤ 200 := by omega
  have hnbn : nbOf n = blocks := by unfold nbOf; omega
  have c21 := dev_new n w (by omega) (by omega)
  have HT : Hid (Tab w ∧ nbOf n = blocks) := ⟨ht, hnbn⟩
  clear ht hn hnbn
  go_enter Tryz.func10, Tryz.ntmps10
  go_wp2_with (go_at_call 43; refine c21.mono ?_; rintro e w1 ⟨a, s0, c0, m0, rfl, hd1, hB1, ha1, hs1, hm1⟩; clear c21; refine Stop.out ?_)
  refine Stop.mk ?_
  have ht1 : Tab w1 := below_tab hB1 HT.out.1.lt HT.out.1
  have cF := format_ok (newDS a s0 c0 m0 n) w1 hd1 ht1 h16 (fun i _ => rfl) (fun h => by cases h) (by simp [newDS])
  have H1 : Hid (Dev w1 (newDS a s0 c0 m0 n) ∧ Tab w1 ∧ Below w.heap.size w w1 ∧ ∀ k, (newDS a s0 c0 m0 n).mine k → w.heap.size ≤ k) := ⟨hd1, ht1, hB1, by rintro k (rfl | rfl | rfl); exact ha1; exact hs1; exact hm1⟩
  clear hd1 hB1 ha1 hs1 hm1 ht1
  go_wp2_with (go_at_call 44; refine cF.mono ?_; rintro e w2 ⟨d2, rfl, hb2, hn2, hd2, hdn2, hD2, hB2, hcn2, hfu2⟩; clear cF; refine Stop.out ?_)
  refine Stop.mk ?_
  obtain ⟨hd1, ht1, hB1, lo1⟩ := H1.out
  have ht2 : Tab w2 := hb2.tab ht1 (hd1.noTab ht1)
  have ea2 : d2.a = a := hn2.a
  have en2 : d2.n = n := hdn2
  have hb0 : d2.B 0 = headB 1 0 n := by rw [hB2]; simp [upd, newDS]
  have hzz : ∀ i, 0 < i → i < n → d2.B i = zeroB := fun i h0 _ => by
    rw [hB2]
    have : i ≠ 0 := by omega
    simp [upd, this, newDS]
  have cM := mount_ok [] 1 0 d2 w2 hd2 ht2 (by omega) (by unfold DS.dead; rw [show d2.fused = false from hfu2]; rfl) hD2 (by rw [hb0, en2]) (by omega) (by omega) (by
    refine ⟨by unfold nbOf; omega, fun hlt => ?_⟩
    rw [hzz _ (by omega) (by omega)]
    exact oldB_zero _)
  rw [ea2] at cM
  have B2 : Below w.heap.size w w2 := hB1.trans (hb2.below hB1.size lo1)
  have lo2 : ∀ k, d2.mine k → w.heap.size ≤ k := by
    rintro k (e | e | e)
    · exact lo1 k (.inl (e.trans hn2.a))
    · exact lo1 k (.inr (.inl (e.trans hn2.s)))
    · rcases hn2.m with x | x
      · exact lo1 k (.inr (.inr (e.trans x)))
      · have := hB1.size; omega
  have H2 : Hid (Dev w2 d2 ∧ Below w.heap.size w w2 ∧ (∀ k, d2.mine k → w.heap.size ≤ k) ∧ d2.B 0 = headB 1 0 n ∧ (∀ i, 0 < i → i < n → d2.B i = zeroB) ∧ d2.D = .map [] ∧ d2.count = 4 ∧ d2.fused = false ∧ d2.n = n) := ⟨hd2, B2, lo2, hb0, hzz, hD2, hcn2, hfu2, en2⟩
  clear hd1 ht1 hB1 lo1 ht2 hb0 hzz B2 lo2 hd2 hb2 hn2 hD2 hB2 hcn2 hfu2 H1 hdn2 en2
  go_wp2_with (go_at_call 39; refine cM.mono ?_; rintro e w3 ⟨v, f, rfl, hM⟩; clear cM)
  go_ret
  obtain ⟨hd2, B2, lo2, hb0, hzz, hD2, hcn2, hfu2, en2⟩ := H2.out
  obtain ⟨F, hF⟩ := hM.fr
  have B3 : Below w.heap.size w w3 := B2.trans (hM.below.mono B2.size)
  have hfm : f ≠ d2.m := by have h1 := hM.flt; have h2 := hd2.mlt; omega
  have hvlt := hM.vlt
  have hflt := hM.flt
  have hs2 := B2.size
  refine ⟨⟨v, f, 0, 0, 1, d2.n, F, fun _ => none, d2, []⟩, rfl, ⟨hM.vol, hd2.below hM.below, hF, hfm, hfu2, by show 16 ≤ d2.n; omega, by show d2.n ≤ 200; omega, zero_log v f 0 n F d2 en2 h16 hb0 hzz⟩, ⟨Nat.zero_le _, ?_, Nat.zero_le _, Nat.le_succ 1⟩, ?_, fun i hi => ?_, B3, ?_⟩
  · show d2.count ≤ 1 * 1000
    omega
  · show nbOf d2.n = blocks
    rw [en2]; exact HT.out.2
  · show d2.B (1 + i) = zeroB
    have hnb := HT.out.2
    exact hzz _ (by omega) (by unfold nbOf at hnb; omega)
  · rintro k (e | e | hm)
    · have e' : k = v := e
      omega
    · have e' : k = f := e
      omega
    · exact lo2 k hm

/-- A cache and its volume that the law has made. -/
structure LW (w0 w : World) (s : CS) (vs : VS) (B : Nat → By) (b vb : Nat) : Prop where
  ci : CI w s vs B
  cb : CB s b
  bud : Bud vs vb
  below : Below w0.heap.size w0 w
  lo : w0.heap.size ≤ s.h
  vlo : ∀ k, vs.mine k → w0.heap.size ≤ k

theorem LW.cst {w0 w w' : World} {s s' : CS} {vs : VS} {B B' : Nat → By} {b vb : Nat} (h : LW w0 w s vs B b vb) (hc : Cst w w' s s' vs B' b) : LW w0 w' s' vs B' (b + 1) vb :=
  ⟨hc.ci, hc.cb, h.bud, h.below.trans (hc.but.below h.below.size (fun k hk => by have := h.lo; rcases hk with e | ⟨e, _⟩ <;> omega)), by rw [hc.h]; exact h.lo, h.vlo⟩
theorem LW.by {w0 w w' : World} {s : CS} {vs : VS} {B : Nat → By} {b vb : Nat} (h : LW w0 w s vs B b vb) (hb : Below w.heap.size w w') : LW w0 w' s vs B b vb :=
  ⟨h.ci.below hb, h.cb, h.bud, h.below.trans (hb.mono h.below.size), h.lo, h.vlo⟩
theorem LW.bct {w0 w w' : World} {s s' : CS} {vs vs' : VS} {B : Nat → By} {b vb : Nat} (h : LW w0 w s vs B b vb) (hc : Bct w w' s s' vs vs' B b vb) : LW w0 w' s' vs' B (b + 1) (vb + 1) :=
  ⟨hc.ci, hc.cb, hc.bud, h.below.trans (hc.but.below h.below.size (fun k hk => by
    have := h.lo
    rcases hk with (e | ⟨e, _⟩) | e
    · omega
    · omega
    · exact h.vlo k e)), by rw [hc.h]; exact h.lo, fun k hk => by
    rcases hc.low k hk with e | e
    · exact h.vlo k e
    · have := h.below.size; omega⟩
theorem LW.tab {w0 w : World} {s : CS} {vs : VS} {B : Nat → By} {b vb : Nat} (h : LW w0 w s vs B b vb) (ht : Tab w0) : Tab w := below_tab h.below ht.lt ht
theorem acOf_new (c v room hh : Nat) (B : Nat → By) : acOf (newS c v room hh) B = ⟨room, [], 0, 0, 0, 0⟩ := rfl

theorem full_x (g : Nat) (w4 : World) (hx4 : w4.heap[g]? = some (.cells #[.int .u8 120] 5 (1, 2))) : Calls Tryz.prog 18 #[.slice (some ⟨g, 0, none⟩) 1 1, .int .i64 512] w4 fun e w' => e = .returned (.slice (some ⟨w4.heap.size, 0, none⟩) 512 512) ∧ w'.heap[w4.heap.size]? = some (.cells ((fullB [120] 512).map u8v).toArray 5 (0, 0)) ∧ Below w4.heap.size w4 w' := by
  have := full_bytes [120] (some ⟨g, 0, none⟩) 1 512 w4 (by omega) (by simp) (fun _ => ⟨_, _, rfl, fun j x hj => by
    have h0 : j = 0 := by have := (List.getElem?_eq_some_iff.1 hj).1; simp at this; omega
    subst h0
    have e := cellOf hx4 0
    simp at hj
    subst hj
    simpa [u8v] using e⟩)
  exact this

end Go.Proofs.YtdepdcndfofknaaGreatDoor

/-
  begun of the law of package bcache.
-/
namespace Go.Proofs.YtdepdcndfofknaaGreatDoor
open Go.RowKit Go.Maps Go.Sort Go.Shelf

set_option maxRecDepth 8000 in
set_option maxHeartbeats 1000000 in
theorem begun7_true (w : World) (ht : Tab w) : Calls Tryz.prog 9 #[] w fun e w' => e = .returned (.bool true) ∧ Below w.heap.size w w' := by
  obtain ⟨D, hD⟩ : ∃ D, D = fullB [120] 512 := ⟨_, rfl⟩
  have hDl : D.length = 512 := by rw [hD]; exact fullB_length _ _
  have hD0 : D[0]? = some 120 := by rw [hD]; simp [fullB]
  have cV := volume_any 8 w ht (by omega) (by omega)
  have HT : Hid (Tab w) := ht
  clear ht
  go_enter Tryz.func9, Tryz.ntmps9
  go_wp2_with (go_at_call 10; refine cV.mono ?_; rintro e w1 ⟨vs, rfl, hI1, hz1, hnb1, hc1, hB1, hlo1⟩; clear cV; refine Stop.out ?_)
  refine Stop.mk ?_
  have cN := new_ok 1 vs w1 hI1 (by omega) (by omega)
  have H1 : Hid (VI w1 vs ∧ Bud vs 1 ∧ nbOf vs.d.n = 8 ∧ (∀ i, i < 8 → vs.cont i = zeroB) ∧ Below w.heap.size w w1 ∧ ∀ k, vs.mine k → w.heap.size ≤ k) := ⟨hI1, hz1, hnb1, hc1, hB1, hlo1⟩
  clear hI1 hz1 hnb1 hc1 hB1 hlo1
  go_wp2_with (go_at_call 11; refine cN.mono ?_; rintro e w2 ⟨c, hh, rfl, hI2, hB2, hhl, hcl⟩; clear cN; refine Stop.out ?_)
  refine Stop.mk ?_
  have hL2 : LW w w2 (newS c vs.v 1 hh) vs (fun _ => []) 0 1 := by
    obtain ⟨q1, q2, q3, q4, q5, q6⟩ := H1.out
    exact ⟨hI2, ⟨Nat.zero_le _, Nat.zero_le _, Nat.zero_le _, Nat.zero_le _, Nat.zero_le _⟩, q2, q5.trans (hB2.mono q5.size), Nat.le_trans q5.size hhl, q6⟩
  have cv : (convert 33 33 (.slice (some ⟨w2.heap.size, 0, none⟩) 1 1)).run Tryz.prog (w2.alloc (.cells #[.int .u8 120] 5)) = .ok (.slice (some ⟨w2.heap.size, 0, none⟩) 1 1) (w2.alloc (.cells #[.int .u8 120] 5 (1, 2))) := Lib.run_convert_bytes_const w2 33 5 #[.int .u8 120] 1 1 Tryz.underlying33 Tryz.underlying5
  obtain ⟨w4, hw4⟩ : ∃ w4, w4 = w2.alloc (.cells #[.int .u8 120] 5 (1, 2)) := ⟨_, rfl⟩
  have hB4 : Below w2.heap.size w2 w4 := by rw [hw4]; exact (Below.refl _ w2).alloc (Nat.le_refl _) _
  have hx4 : w4.heap[w2.heap.size]? = some (.cells #[.int .u8 120] 5 (1, 2)) := by rw [hw4]; exact heap_alloc_new w2 _
  have cFu := full_x w2.heap.size w4 hx4
  rw [← hD] at cFu
  clear hD
  have H2 : Hid (LW w w2 (newS c vs.v 1 hh) vs (fun _ => []) 0 1 ∧ Below w2.heap.size w2 w4) := ⟨hL2, hB4⟩
  clear hI2 hB2 hhl hcl hL2 hB4 hx4
  go_wp2_with (go_at_call 18; rw [← hw4]; refine cFu.mono ?_; rintro e w5 ⟨rfl, hx5, hB5⟩; clear cFu cv; refine Stop.out ?_)
  refine Stop.mk ?_
  have hsz : w4.heap.size = w2.heap.size + 1 := by rw [hw4]; simp
  clear hw4
  have hL5 : LW w w5 (newS c vs.v 1 hh) vs (fun _ => []) 0 1 := (H2.out.1.by H2.out.2).by hB5
  have cP : Calls Tryz.prog 19 #[ep c, .int .i64 3, .slice (some ⟨w4.heap.size, 0, none⟩) 512 512] w5 fun e w' => e = .returned (.int .i64 0) ∧ ∃ s' B', Cst w5 w' (newS c vs.v 1 hh) s' vs B' 0 ∧ acOf s' B' = (acOf (newS c vs.v 1 hh) (fun _ => [])).put 3 D := put_new (newS c vs.v 1 hh) vs (fun _ => []) 3 0 (some ⟨w4.heap.size, 0, none⟩) 512 (D) w5 hL5.ci hL5.cb (by rw [H1.out.2.2.1]; omega) rfl rfl (bytes_block hx5) hDl (by omega) (fun g o e => by
    have e' : w4.heap.size = g := congrArg Addr.block (Option.some.inj e)
    rw [← e']
    exact ⟨_, _, hx5⟩)
  rw [hsz] at cP
  have H5 : Hid (LW w w5 (newS c vs.v 1 hh) vs (fun _ => []) 0 1) := hL5
  clear hL5 hx5 hB5 hsz
  go_wp2_with (go_at_call 19; refine cP.mono ?_; rintro e w6 ⟨rfl, s6, B6, hC6, hac6⟩; clear cP; refine Stop.out ?_)
  refine Stop.mk ?_
  have hL6 := H5.out.cst hC6
  have hA6 : acOf s6 B6 = ⟨1, [⟨3, 0, 1, true, D⟩], 1, 0, 0, 0⟩ := by rw [hac6, acOf_new]; rfl
  have hcc6 : s6.c = c := hC6.c
  have cG : Calls Tryz.prog 12 #[ep c, .int .i64 4] w6 fun e w' => e = .returned (.tuple #[.slice none 0 0, .int .i64 28]) ∧ Below w6.heap.size w6 w' := by
    have := get_full s6 vs B6 4 w6 hL6.ci (by rw [H1.out.2.2.1]; omega) (by rw [hA6]; rfl) (by rw [hA6]; rfl)
    rw [hcc6] at this
    exact this
  have H6 : Hid (LW w w6 s6 vs B6 1 1 ∧ acOf s6 B6 = ⟨1, [⟨3, 0, 1, true, D⟩], 1, 0, 0, 0⟩ ∧ s6.c = c) := ⟨hL6, hA6, hcc6⟩
  clear hC6 hac6 hL6 hA6 hcc6
  go_wp2_with (go_at_call 12; refine cG.mono ?_; rintro e w7 ⟨rfl, hB7⟩; clear cG; refine Stop.out ?_)
  refine Stop.mk ?_
  have hL7 := H6.out.1.by hB7
  have hne : 0 < s6.D.length := by
    have hm : heOf s6.U B6 (s6.A.getD 0 0) ∈ (acOf s6 B6).L ∧ s6.A.getD 0 0 ∈ s6.A ∧ (s6.U (s6.A.getD 0 0)).dirty = true := by
      have h1 : s6.A.map (heOf s6.U B6) = [⟨3, 0, 1, true, D⟩] := congrArg AC.L H6.out.2.1
      have h2 : 0 < s6.A.length := by have := congrArg List.length h1; simp at this; omega
      have h3 := getD_mem h2
      have h4 : heOf s6.U B6 (s6.A.getD 0 0) ∈ s6.A.map (heOf s6.U B6) := List.mem_map.2 ⟨_, h3, rfl⟩
      rw [h1] at h4
      have h5 := List.mem_singleton.1 h4
      exact ⟨List.mem_map.2 ⟨_, h3, rfl⟩, h3, congrArg HE.dirty h5⟩
    exact List.length_pos_of_mem ((hL7.ci.dirty _).2 ⟨hm.2.1, hm.2.2⟩)
  have cC := commit_some s6 vs B6 1 1 w7 hL7.ci (hL7.tab HT.out) hL7.cb hL7.bud (by omega) hne
  rw [H6.out.2.2] at cC
  have H7 : Hid (LW w w7 s6 vs B6 1 1) := hL7
  clear hL7 hB7 hne
  go_wp2_with (go_at_call 21; refine cC.mono ?_; rintro e w8 ⟨rfl, s8, vs8, hC8⟩; clear cC; refine Stop.out ?_)
  refine Stop.mk ?_
  have hL8 := H7.out.bct hC8
  have hA8 : acOf s8 B6 = ⟨1, [⟨3, 0, 1, false, D⟩], 1, 0, 0, 0⟩ := by rw [hC8.ac, H6.out.2.1]; rfl
  have hcc8 : s8.c = c := hC8.c.trans H6.out.2.2
  have hnb8 : nbOf vs8.d.n = 8 := by rw [hC8.n]; exact H1.out.2.2.1
  have hvol8 : vs8.cont 3 = D := by rw [hC8.vol 3 (by rw [H1.out.2.2.1]; omega), H6.out.2.1]; rfl
  have cG : Calls Tryz.prog 12 #[ep c, .int .i64 4] w8 fun e w' => ∃ g cap, e = .returned (.tuple #[.slice (some ⟨g, 0, none⟩) 512 cap, .int .i64 0]) ∧ ∃ s' B', Cst w8 w' s8 s' vs8 B' 2 ∧ acOf s' B' = (acOf s8 B6).meet 4 (vs8.cont 4) id := by
    have := get_ok s8 vs8 B6 4 2 w8 hL8.ci hL8.cb (by omega) (by omega) (.inr (by rw [hA8]; rfl))
    rw [hcc8] at this
    exact this.mono (by rintro e w' ⟨g, cap, he, s', B', h1, h2, _⟩; exact ⟨g, cap, he, s', B', h1, h2⟩)
  have H8 : Hid (LW w w8 s8 vs8 B6 2 2 ∧ acOf s8 B6 = ⟨1, [⟨3, 0, 1, false, D⟩], 1, 0, 0, 0⟩ ∧ s8.c = c ∧ nbOf vs8.d.n = 8 ∧ vs8.cont 3 = D ∧ vs8.v = vs.v) := ⟨hL8, hA8, hcc8, hnb8, hvol8, hC8.v⟩
  clear hC8 hL8 hA8 hcc8 hnb8 hvol8
  go_wp2_with (go_at_call 12; refine cG.mono ?_; rintro e w9 ⟨g9, cap9, rfl, s9, B9, hC9, hac9⟩; clear cG; refine Stop.out ?_)
  refine Stop.mk ?_
  have hL9 := H8.out.1.cst hC9
  have hA9 : acOf s9 B9 = ⟨1, [⟨4, 0, 2, false, vs8.cont 4⟩], 2, 0, 1, 1⟩ := by rw [hac9, H8.out.2.1]; rfl
  have hcc9 : s9.c = c := hC9.c.trans H8.out.2.2.1
  have cCt := counts_cache s9 vs8 B9 w9 hL9.ci
  rw [hcc9, show s9.met = 0 from congrArg AC.hit hA9, show s9.missed = 1 from congrArg AC.miss hA9, show s9.out = 1 from congrArg AC.outs hA9] at cCt
  have H9 : Hid (LW w w9 s9 vs8 B9 3 2 ∧ acOf s9 B9 = ⟨1, [⟨4, 0, 2, false, vs8.cont 4⟩], 2, 0, 1, 1⟩ ∧ s9.c = c) := ⟨hL9, hA9, hcc9⟩
  clear hC9 hac9 hL9 hA9 hcc9
  go_wp2_with (go_at_call 27; refine cCt.mono ?_; rintro e wa ⟨rfl, qa, rfl⟩; clear cCt; refine Stop.out ?_)
  refine Stop.mk ?_
  have hLa : LW w (w9.drewN qa) s9 vs8 B9 3 2 := H9.out.1.by (below_drewN (Below.refl _ _) qa)
  have cR := vReadT_any 3 vs8 (w9.drewN qa) hLa.ci.vi (by rw [H8.out.2.2.2.1]; omega)
  rw [H8.out.2.2.2.2.2, H8.out.2.2.2.2.1] at cR
  go_wp2_with (go_at_call 26; refine cR.mono ?_; rintro e wb ⟨gb, cpb, rfl, _, _, hbb, hBb, _, _⟩; clear cR; refine Stop.out ?_)
  refine Stop.mk ?_
  have hLb := hLa.by hBb
  obtain ⟨g', o', e', hxb⟩ := hbb (by omega)
  cases e'
  have xb : wb.cell? ⟨gb, 0, none⟩ = some (.int .u8 120) := by
    have := hxb 0 120 hD0
    simpa [u8v] using this
  have cH3 := has_cache s9 vs8 B9 3 wb hLb.ci (by omega) (by omega) false (by rw [H9.out.2.1]; rfl)
  have cH4 := has_cache s9 vs8 B9 4 wb hLb.ci (by omega) (by omega) true (by rw [H9.out.2.1]; rfl)
  rw [H9.out.2.2] at cH3 cH4
  have HLb : Hid (Below w.heap.size w wb) := hLb.below
  have tk1 : True := trivial
  clear hLb hLa hxb hbb hBb
  go_wp2_with (first
    | (go_at_call 28; have tk := tk1; clear tk1; refine Calls_on cH3 ?_)
    | (go_at_call 28; refine Calls_on cH4 ?_))
  go_ret
  exact ⟨rfl, HLb.out⟩

end Go.Proofs.YtdepdcndfofknaaGreatDoor

/-
  CachePins of the law of package bcache: what is pinned stays.
-/
namespace Go.Proofs.YtdepdcndfofknaaGreatDoor
open Go.RowKit Go.Maps Go.Sort Go.Shelf

/-- The blocks of H are held and pinned once, n of them; nothing else is pinned, nothing is put. -/
structure PinI (H : Nat → Bool) (n : Nat) (A : AC) : Prop where
  room : A.room = 4
  len : A.L.length ≤ 4
  ent : ∀ x ∈ A.L, x.dirty = false ∧ x.pins = if H x.block then 1 else 0
  num : (A.L.filter fun x => H x.block).length = n
  all : ∀ b, H b = true → A.held b = true

theorem held_mem {A : AC} {b : Nat} : A.held b = true ↔ ∃ x ∈ A.L, x.block = b := by
  unfold AC.held
  rw [List.any_eq_true]
  constructor
  · rintro ⟨x, hx, e⟩; exact ⟨x, hx, by simpa using e⟩
  · rintro ⟨x, hx, e⟩; exact ⟨x, hx, by simpa using e⟩
theorem PinI.idle {H : Nat → Bool} {n : Nat} {A : AC} (h : PinI H n A) {x : HE} (hx : x ∈ A.L) : x.idle = !H x.block := by
  obtain ⟨h1, h2⟩ := h.ent x hx
  unfold HE.idle
  rw [h1, h2]
  cases H x.block <;> rfl
theorem PinI.free {H : Nat → Bool} {n : Nat} {A : AC} (h : PinI H n A) (hn : n < 4) : A.full = false := by
  unfold AC.full
  by_cases hc : A.room ≤ A.L.length
  · rw [decide_eq_true hc, Bool.true_and]
    cases hv : victim A.L with
    | some o => rfl
    | none =>
      obtain ⟨_, h2⟩ := (victim_fold A.L none).2 hv
      have hall : A.L.filter (fun x => H x.block) = A.L := by
        refine List.filter_eq_self.2 fun x hx => ?_
        have := h2 x hx
        rw [h.idle hx] at this
        simpa using this
      have := h.num
      rw [hall] at this
      have := h.room
      omega
  · rw [decide_eq_false hc]; rfl
theorem PinI.every {H : Nat → Bool} {A : AC} (h : PinI H 4 A) : (∀ x ∈ A.L, H x.block = true) ∧ A.L.length = 4 := by
  have h1 := h.num
  have h2 := h.len
  have h3 := List.length_filter_le (fun x : HE => H x.block) A.L
  have e : (A.L.filter fun x => H x.block).length = A.L.length := by omega
  exact ⟨fun x hx => List.length_filter_eq_length_iff.1 e x hx, by omega⟩
theorem PinI.whole {H : Nat → Bool} {A : AC} (h : PinI H 4 A) (k : Nat) (hk : H k = false) : A.held k = false ∧ A.full = true := by
  obtain ⟨h1, h2⟩ := h.every
  constructor
  · cases hh : A.held k with
    | false => rfl
    | true =>
      obtain ⟨x, hx, e⟩ := held_mem.1 hh
      have := h1 x hx
      rw [e, hk] at this
      cases this
  · unfold AC.full
    rw [decide_eq_true (by have := h.room; omega), Bool.true_and, victim_none (fun x hx => by rw [h.idle hx, h1 x hx]; rfl)]
    rfl
theorem held_touch (A : AC) (b k : Nat) (f : HE → HE) (hf : ∀ x, (f x).block = x.block) : (A.touch b f).held k = A.held k := by
  have e : ∀ (L : List HE) (g : HE → HE), (∀ x, (g x).block = x.block) → (L.map g).any (fun x => x.block == k) = L.any (fun x => x.block == k) := by
    intro L g hg
    rw [List.any_map]
    congr 1
    funext x
    simp [hg x]
  refine e A.L _ fun x => ?_
  by_cases h : x.block = b
  · rw [if_pos h, hf]
  · rw [if_neg h]
theorem PinI.touch {H : Nat → Bool} {n : Nat} {A : AC} (h : PinI H n A) (b : Nat) : PinI H n (A.touch b id) := by
  refine ⟨h.room, ?_, fun x hx => ?_, ?_, fun k hk => ?_⟩
  · show (List.map _ _).length ≤ 4
    rw [List.length_map]; exact h.len
  · obtain ⟨y, hy, e⟩ := List.mem_map.1 hx
    have := h.ent y hy
    by_cases hb : y.block = b
    · rw [if_pos hb] at e; rw [← e]; exact this
    · rw [if_neg hb] at e; rw [← e]; exact this
  · show (List.filter _ (List.map _ _)).length = n
    rw [List.filter_map, List.length_map, ← h.num]
    congr 2
    funext x
    simp only [Function.comp]
    by_cases hb : x.block = b
    · rw [if_pos hb]; rfl
    · rw [if_neg hb]
  · rw [held_touch A b k id (fun _ => rfl)]
    exact h.all k hk
theorem PinI.evict {H : Nat → Bool} {n : Nat} {A : AC} (h : PinI H n A) (hf : A.full = false) : PinI H n A.evict ∧ A.evict.L.length ≤ 3 ∧ ∀ k, A.held k = false → A.evict.held k = false := by
  unfold AC.evict
  by_cases hl : A.L.length < A.room
  · rw [if_pos hl]
    exact ⟨h, by have := h.room; omega, fun _ hk => hk⟩
  · rw [if_neg hl]
    cases hv : victim A.L with
    | none =>
      unfold AC.full at hf
      rw [hv, decide_eq_true (by omega)] at hf
      cases hf
    | some o =>
      obtain ⟨h1, _⟩ := (victim_fold A.L none).1 o hv
      have h2 : o ∈ A.L ∧ o.idle = true := by
        rcases h1 with h1 | h1
        · cases h1
        · exact h1
      have hHo : H o.block = false := by
        have := h2.2
        rw [h.idle h2.1] at this
        simpa using this
      refine ⟨⟨h.room, ?_, fun x hx => h.ent x (List.mem_filter.1 hx).1, ?_, fun k hk => ?_⟩, ?_, fun k hk => ?_⟩
      · exact Nat.le_trans (List.length_filter_le _ _) h.len
      · show ((A.L.filter _).filter _).length = n
        rw [List.filter_filter, ← h.num]
        congr 1
        refine List.filter_congr fun x _ => ?_
        cases hx : H x.block with
        | false => rfl
        | true =>
          have : x.block ≠ o.block := fun e => by rw [e, hHo] at hx; cases hx
          simp [this]
      · obtain ⟨x, hx, e⟩ := held_mem.1 (h.all k hk)
        refine held_mem.2 ⟨x, List.mem_filter.2 ⟨hx, ?_⟩, e⟩
        have : x.block ≠ o.block := fun e' => by rw [← e', e, hk] at hHo; cases hHo
        simpa using this
      · have hlt : (A.L.filter fun x => x.block != o.block).length < A.L.length := by
          rcases Nat.lt_or_ge (A.L.filter fun x => x.block != o.block).length A.L.length with q | q
          · exact q
          · have e : (A.L.filter fun x => x.block != o.block).length = A.L.length := Nat.le_antisymm (List.length_filter_le _ _) q
            have := List.length_filter_eq_length_iff.1 e o h2.1
            simp at this
        show (A.L.filter fun x => x.block != o.block).length ≤ 3
        have := h.len
        omega
      · cases hh : AC.held { A with L := A.L.filter (fun x => x.block != o.block), outs := A.outs + 1 } k with
        | false => rfl
        | true =>
          obtain ⟨x, hx, e⟩ := held_mem.1 hh
          have : A.held k = true := held_mem.2 ⟨x, (List.mem_filter.1 hx).1, e⟩
          rw [hk] at this
          cases this
theorem PinI.meet {H : Nat → Bool} {n : Nat} {A : AC} (h : PinI H n A) (k : Nat) (d : By) (hok : A.held k = true ∨ A.full = false) : PinI H n (A.meet k d id) := by
  unfold AC.meet
  by_cases hh : A.held k = true
  · rw [if_pos hh]
    have : PinI H n { A with hit := A.hit + 1 } := ⟨h.room, h.len, h.ent, h.num, h.all⟩
    exact this.touch k
  · rw [if_neg hh]
    have hf : A.full = false := hok.resolve_left hh
    obtain ⟨h1, h2, _⟩ := h.evict hf
    have hHk : H k = false := by
      cases hx : H k with
      | false => rfl
      | true => exact absurd (h.all k hx) hh
    have : PinI H n { A.evict.add k d with miss := A.miss + 1 } := by
      refine ⟨h1.room, ?_, fun x hx => ?_, ?_, fun b hb => ?_⟩
      · show (A.evict.L ++ [_]).length ≤ 4
        rw [List.length_append]
        simp
        omega
      · rcases List.mem_append.1 hx with hx | hx
        · exact h1.ent x hx
        · cases List.mem_singleton.1 hx
          exact ⟨rfl, by rw [hHk]; rfl⟩
      · show ((A.evict.L ++ [_]).filter _).length = n
        rw [List.filter_append, ← h1.num]
        simp [hHk]
      · obtain ⟨x, hx, e⟩ := held_mem.1 (h1.all b hb)
        exact held_mem.2 ⟨x, List.mem_append.2 (.inl hx), e⟩
    exact this.touch k

/-- While the pins are set: all that is held is pinned once. -/
structure SetI (n : Nat) (A : AC) : Prop where
  room : A.room = 4
  len : A.L.length = n
  ent : ∀ x ∈ A.L, x.dirty = false ∧ x.pins = 1
def pin1 (x : HE) : HE := { x with pins := x.pins + 1 }
theorem SetI.step {n : Nat} {A : AC} (h : SetI n A) (hn : n < 4) (k : Nat) (d : By) (hk : A.held k = false) : SetI (n + 1) (A.meet k d fun x => { x with pins := x.pins + 1 }) := by
  unfold AC.meet
  rw [if_neg (by rw [hk]; simp)]
  have he : A.evict = A := by unfold AC.evict; rw [if_pos (by rw [h.len, h.room]; exact hn)]
  rw [he]
  refine ⟨h.room, ?_, fun x hx => ?_⟩
  · show (List.map _ (A.L ++ [_])).length = n + 1
    rw [List.length_map, List.length_append, h.len]
    rfl
  · obtain ⟨y, hy, e⟩ := List.mem_map.1 hx
    rcases List.mem_append.1 hy with hy | hy
    · have hne : y.block ≠ k := fun e => by
        have : A.held k = true := held_mem.2 ⟨y, hy, e⟩
        rw [hk] at this; cases this
      rw [if_neg hne] at e
      rw [← e]
      exact h.ent y hy
    · cases List.mem_singleton.1 hy
      rw [if_pos rfl] at e
      rw [← e]
      exact ⟨rfl, rfl⟩
theorem SetI.pins {n : Nat} {A : AC} (h : SetI n A) (hn : n ≤ 4) : PinI A.held n A := by
  have hall : ∀ x ∈ A.L, A.held x.block = true := fun x hx => held_mem.2 ⟨x, hx, rfl⟩
  refine ⟨h.room, by rw [h.len]; exact hn, fun x hx => ⟨(h.ent x hx).1, by rw [hall x hx]; exact (h.ent x hx).2⟩, ?_, fun _ hb => hb⟩
  rw [List.filter_eq_self.2 hall, h.len]

/-- While the pins are taken back: what is in the rest of the list is pinned once, nothing else. -/
structure OutI (l : List Nat) (A : AC) : Prop where
  ent : ∀ x ∈ A.L, x.pins = if l.contains x.block then 1 else 0
  all : ∀ b ∈ l, A.held b = true
theorem OutI.step {b : Nat} {l : List Nat} {A : AC} (h : OutI (b :: l) A) (hb : b ∉ l) : OutI l (A.unpin b) := by
  constructor
  · intro x hx
    obtain ⟨y, hy, e⟩ := List.mem_map.1 hx
    have hp := h.ent y hy
    by_cases hy2 : y.block = b
    · rw [if_pos hy2] at e
      rw [← e]
      show y.pins - 1 = if l.contains y.block then 1 else 0
      rw [hp, hy2]
      simp [hb]
    · rw [if_neg hy2] at e
      rw [← e, hp]
      simp [hy2]
  · intro k hk
    obtain ⟨x, hx, e⟩ := held_mem.1 (h.all k (List.mem_cons_of_mem _ hk))
    refine held_mem.2 ⟨_, List.mem_map.2 ⟨x, hx, rfl⟩, ?_⟩
    by_cases hy2 : x.block = b
    · rw [if_pos hy2]; exact e
    · rw [if_neg hy2]; exact e
theorem PinI.out {H : Nat → Bool} {n : Nat} {A : AC} (h : PinI H n A) (l : List Nat) (hl : ∀ x ∈ A.L, l.contains x.block = H x.block) (hl2 : ∀ b ∈ l, H b = true) : OutI l A :=
  ⟨fun x hx => by rw [(h.ent x hx).2, hl x hx], fun b hb => h.all b (hl2 b hb)⟩

end Go.Proofs.YtdepdcndfofknaaGreatDoor

/-
  CachePins of the law of package bcache: the calls, over a cache of which a thing is known; among.
-/
namespace Go.Proofs.YtdepdcndfofknaaGreatDoor
open Go.RowKit Go.Maps Go.Sort Go.Shelf

/-- A cache of which P is known, behind at most m uses. -/
structure PW (w0 w : World) (c : Nat) (vs : VS) (m : Nat) (P : AC → Prop) : Prop where
  at_ : ∃ s B k, k ≤ m ∧ LW w0 w s vs B k 1 ∧ s.c = c ∧ P (acOf s B)

theorem PW.mono {w0 w : World} {c : Nat} {vs : VS} {m m' : Nat} {P Q : AC → Prop} (h : PW w0 w c vs m P) (hm : m ≤ m') (hP : ∀ A, P A → Q A) : PW w0 w c vs m' Q := by
  obtain ⟨s, B, k, hk, hL, hc, hp⟩ := h.at_
  exact ⟨s, B, k, Nat.le_trans hk hm, hL, hc, hP _ hp⟩
theorem PW.by {w0 w w' : World} {c : Nat} {vs : VS} {m : Nat} {P : AC → Prop} (h : PW w0 w c vs m P) (hb : Below w.heap.size w w') : PW w0 w' c vs m P := by
  obtain ⟨s, B, k, hk, hL, hc, hp⟩ := h.at_
  exact ⟨s, B, k, hk, hL.by hb, hc, hp⟩
theorem PW.below {w0 w : World} {c : Nat} {vs : VS} {m : Nat} {P : AC → Prop} (h : PW w0 w c vs m P) : Below w0.heap.size w0 w := by
  obtain ⟨s, B, k, hk, hL, hc, hp⟩ := h.at_
  exact hL.below

/-- Numbers stay, whatever a call of a cache turns. -/
theorem ints_cst {w w' : World} {s : CS} {vs : VS} {B : Nat → By} {p : Option Addr} {l : List Nat} (h : CI w s vs B) (hb : But (cMine w s.h) w w') (hi : IntsAt w p l) : IntsAt w' p l := by
  refine hi.but hb fun k cs fr hk hS => ?_
  rcases hS with e | ⟨_, cs', t, fr', hk', ht⟩
  · obtain ⟨es, clock, hm, _⟩ := h.cm.hm.own
    rw [e, hm] at hk
    cases hk
  · rw [hk] at hk'
    have e : (3 : Nat) = t := by injection hk' with e; injection e
    subst e
    rcases ht with e | e | e <;> exact absurd e (by decide)

theorem pw_has (w0 w : World) (c : Nat) (vs : VS) (m : Nat) (P : AC → Prop) (h : PW w0 w c vs m P) (x : Int) (h1 : -9223372036854775808 ≤ x) (h2 : x < 9223372036854775808) (r : Bool) (hr : ∀ A, P A → (decide (0 ≤ x) && A.held x.toNat) = r) :
    Calls Tryz.prog 28 #[ep c, .int .i64 x] w fun e w' => e = .returned (.bool r) ∧ w' = w := by
  obtain ⟨s, B, k, hk, hL, hc, hp⟩ := h.at_
  have := has_cache s vs B x w hL.ci h1 h2 r (hr _ hp)
  rwa [hc] at this

theorem pw_pin (w0 w : World) (c : Nat) (vs : VS) (m n : Nat) (H : Nat → Bool) (h : PW w0 w c vs m (fun A => SetI n A ∧ ∀ b, A.held b = H b)) (x : Nat) (hn : n < 4) (hm : m < 1000) (hx : x < nbOf vs.d.n) (hH : H x = false) :
    Calls Tryz.prog 14 #[ep c, .int .i64 (x : Nat)] w fun e w' => e = .returned (.int .i64 0) ∧ ∃ H' : Nat → Bool, PW w0 w' c vs (m + 1) (fun A => SetI (n + 1) A ∧ ∀ b, A.held b = H' b) := by
  obtain ⟨s, B, k, hk, hL, hc, hp, hh⟩ := h.at_
  have hf : (acOf s B).full = false := by
    unfold AC.full
    rw [decide_eq_false (by rw [hp.len, hp.room]; omega)]
    rfl
  have := pin_ok s vs B x k w hL.ci hL.cb (by omega) hx (.inr hf) (fun a ha => by
    have e : (s.U a).pins = 1 := (hp.ent (heOf s.U B a) (List.mem_map.2 ⟨a, ha, rfl⟩)).2
    omega)
  rw [hc] at this
  refine this.mono ?_
  rintro e w' ⟨he, s', B', hC, hac⟩
  refine ⟨he, (acOf s' B').held, ⟨s', B', k + 1, by omega, hL.cst hC, hC.c.trans hc, ?_, fun _ => rfl⟩⟩
  rw [hac]
  exact hp.step hn x _ (by rw [hh, hH])

theorem pw_held (w0 w : World) (c : Nat) (vs : VS) (m n : Nat) (H : Nat → Bool) (h : PW w0 w c vs m (fun A => SetI n A ∧ ∀ b, A.held b = H b)) (hn : n ≤ 4) (hb : nbOf vs.d.n = 12) :
    Calls Tryz.prog 29 #[ep c] w fun e w' => ∃ p cp, e = .returned (.slice p ((List.range 12).filter H).length cp) ∧ IntsAt w' p ((List.range 12).filter H) ∧ PW w0 w' c vs m (PinI H n) := by
  obtain ⟨s, B, k, hk, hL, hc, hp, hh⟩ := h.at_
  have e : (acOf s B).held = H := funext hh
  have eL : heldL (acOf s B) (nbOf vs.d.n) = (List.range 12).filter H := by unfold heldL; rw [hb, e]
  have := held_cache s vs B w hL.ci
  rw [hc, eL] at this
  refine this.mono ?_
  rintro x w' ⟨p, cp, he, hi, hB⟩
  refine ⟨p, cp, he, hi, ⟨s, B, k, hk, hL.by hB, hc, ?_⟩⟩
  rw [← e]
  exact hp.pins hn

theorem pw_out (w0 w : World) (c : Nat) (vs : VS) (m : Nat) (P : AC → Prop) (h : PW w0 w c vs m P) (hb : nbOf vs.d.n = 12) (x : Int) (h1 : -9223372036854775808 ≤ x) (h2 : x < 9223372036854775808) (hx : ¬ (0 ≤ x ∧ x < 12)) :
    Calls Tryz.prog 12 #[ep c, .int .i64 x] w fun e w' => e = .returned (.tuple #[.slice none 0 0, .int .i64 22]) ∧ w' = w := by
  obtain ⟨s, B, k, hk, hL, hc, hp⟩ := h.at_
  have := get_out s vs B x w hL.ci h1 h2 (by rw [hb]; exact hx)
  rwa [hc] at this
theorem pw_get (w0 w : World) (c : Nat) (vs : VS) (m n : Nat) (H : Nat → Bool) (p : Option Addr) (l : List Nat) (h : PW w0 w c vs m (PinI H n)) (hi : IntsAt w p l) (hb : nbOf vs.d.n = 12) (x : Nat) (hm : m < 1000) (hx : x < 12) (hok : n < 4 ∨ H x = true) :
    Calls Tryz.prog 12 #[ep c, .int .i64 (x : Nat)] w fun e w' => ∃ g cap, e = .returned (.tuple #[.slice (some ⟨g, 0, none⟩) 512 cap, .int .i64 0]) ∧ PW w0 w' c vs (m + 1) (PinI H n) ∧ IntsAt w' p l := by
  obtain ⟨s, B, k, hk, hL, hc, hp⟩ := h.at_
  have hok' : (acOf s B).held x = true ∨ (acOf s B).full = false := by
    rcases hok with q | q
    · exact .inr (hp.free q)
    · exact .inl (hp.all x q)
  have := get_ok s vs B x k w hL.ci hL.cb (by omega) (by rw [hb]; exact hx) hok'
  rw [hc] at this
  refine this.mono ?_
  rintro e w' ⟨g, cap, he, s', B', hC, hac, _, _⟩
  refine ⟨g, cap, he, ⟨s', B', k + 1, by omega, hL.cst hC, hC.c.trans hc, ?_⟩, ints_cst hL.ci hC.but hi⟩
  rw [hac]
  exact hp.meet x _ hok'
theorem pw_full (w0 w : World) (c : Nat) (vs : VS) (m : Nat) (H : Nat → Bool) (p : Option Addr) (l : List Nat) (h : PW w0 w c vs m (PinI H 4)) (hi : IntsAt w p l) (hb : nbOf vs.d.n = 12) (x : Nat) (hx : x < 12) (hH : H x = false) :
    Calls Tryz.prog 12 #[ep c, .int .i64 (x : Nat)] w fun e w' => e = .returned (.tuple #[.slice none 0 0, .int .i64 28]) ∧ PW w0 w' c vs m (PinI H 4) ∧ IntsAt w' p l := by
  obtain ⟨s, B, k, hk, hL, hc, hp⟩ := h.at_
  obtain ⟨q1, q2⟩ := hp.whole x hH
  have := get_full s vs B x w hL.ci (by rw [hb]; exact hx) q1 q2
  rw [hc] at this
  refine this.mono ?_
  rintro e w' ⟨he, hB⟩
  exact ⟨he, h.by hB, hi.below hB⟩

theorem pw_unpin (w0 w : World) (c : Nat) (vs : VS) (m b : Nat) (l : List Nat) (p : Option Addr) (l0 : List Nat) (h : PW w0 w c vs m (OutI (b :: l))) (hi : IntsAt w p l0) (hbl : b ∉ l) :
    Calls Tryz.prog 16 #[ep c, .int .i64 (b : Nat)] w fun e w' => e = .returned (.int .i64 0) ∧ PW w0 w' c vs (m + 1) (fun A => OutI l A ∧ A.held b = true) ∧ IntsAt w' p l0 := by
  obtain ⟨s, B, k, hk, hL, hc, hp⟩ := h.at_
  obtain ⟨a, ha, e⟩ := held_iff.1 (hp.all b (List.mem_cons_self ..))
  have ep1 : (s.U a).pins = 1 := by
    have : (s.U a).pins = if (b :: l).contains (s.U a).block then 1 else 0 := hp.ent (heOf s.U B a) (List.mem_map.2 ⟨a, ha, rfl⟩)
    rw [this, e]
    simp
  have := unpin_ok s vs B a k w hL.ci hL.cb ha (by omega) (by omega)
  rw [hc, e] at this
  refine this.mono ?_
  rintro x w' ⟨he, s', hC, hac⟩
  refine ⟨he, ⟨s', B, k + 1, by omega, hL.cst hC, hC.c.trans hc, ?_⟩, ints_cst hL.ci hC.but hi⟩
  rw [hac]
  refine ⟨hp.step hbl, ?_⟩
  obtain ⟨y, hy, e2⟩ := held_mem.1 (hp.all b (List.mem_cons_self ..))
  exact held_mem.2 ⟨_, List.mem_map.2 ⟨y, hy, rfl⟩, by rw [if_pos e2]; exact e2⟩
theorem pw_zero (w0 w : World) (c : Nat) (vs : VS) (m b : Nat) (l : List Nat) (h : PW w0 w c vs m (fun A => OutI l A ∧ A.held b = true)) (hbl : b ∉ l) :
    Calls Tryz.prog 16 #[ep c, .int .i64 (b : Nat)] w fun e w' => e = .returned (.int .i64 22) ∧ w' = w := by
  obtain ⟨s, B, k, hk, hL, hc, hp, hh⟩ := h.at_
  obtain ⟨a, ha, e⟩ := held_iff.1 hh
  have ep0 : (s.U a).pins = 0 := by
    have : (s.U a).pins = if l.contains (s.U a).block then 1 else 0 := hp.ent (heOf s.U B a) (List.mem_map.2 ⟨a, ha, rfl⟩)
    rw [this, e]
    simp [hbl]
  have := unpin_zero s vs B a w hL.ci ha ep0
  rwa [hc, e] at this

theorem among_any (p : Option Addr) (l : List Nat) (cp x : Nat) (w : World) (hl : l.length ≤ 12) (hi : IntsAt w p l) (r : Bool) (hr : l.contains x = r) :
    Calls Tryz.prog 30 #[.slice p l.length cp, .int .i64 (x : Nat)] w fun e w' => e = .returned (.bool r) ∧ w' = w := by
  have HR : Hid (l.contains x = r) := hr
  clear hr
  have H0 : Hid (IntsAt w p l) := hi
  obtain ⟨n, hn⟩ : ∃ n, n = l.length := ⟨_, rfl⟩
  rw [← hn]
  rw [← hn] at hl
  have HN : Hid (n = l.length) := hn
  clear hi hn
  go_enter Tryz.func30, Tryz.ntmps30
  go_wp2_with fail
  go_loop [5] (fun ii => ∃ i : Nat, i ≤ n ∧ ii = .int .i64 i ∧ Hid (∀ j, j < i → l.getD j 0 ≠ x)) (fun ii => n - (intOf ii).toNat)
  case atStart => exact ⟨0, Nat.zero_le _, rfl, fun j hj => absurd hj (Nat.not_lt_zero j)⟩
  case round =>
    obtain ⟨i, hle, rfl, HI⟩ := hrel
    by_cases hlt : i < n
    · have hltI : (i : Int) < n := by omega
      obtain ⟨g, rfl, _, hc⟩ := H0.out (by rw [← HN.out]; omega)
      have hil : i < l.length := by rw [← HN.out]; exact hlt
      have ci : w.cell? ⟨g, i, none⟩ = some (.int .i64 ((l.getD i 0 : Nat) : Int)) := hc i _ (by rw [List.getD_eq_getElem?_getD, List.getElem?_eq_getElem hil]; rfl)
      have hmem : l.getD i 0 ∈ l := by rw [List.getD_eq_getElem?_getD, List.getElem?_eq_getElem hil]; exact List.getElem_mem hil
      have HM : Hid (l.getD i 0 ∈ l) := hmem
      generalize hy : l.getD i 0 = y at *
      have HY : Hid (l.getD i 0 = y) := hy
      clear hc hil hmem hy
      by_cases hxy : y = x
      · subst hxy
        obtain rfl : r = true := by rw [← HR.out]; exact List.contains_iff_mem.2 HM.out
        go_wp2
        go_ret
        exact ⟨rfl, rfl⟩
      · have hxyI : ¬ ((y : Nat) : Int) = (x : Nat) := by omega
        go_wp2
        all_goals go_round
        all_goals first
          | exact ⟨i + 1, by omega, by go_num, fun j hj => by
              rcases Nat.lt_or_ge j i with q | q
              · exact HI.out j q
              · obtain rfl : j = i := by omega
                rw [HY.out]; exact hxy⟩
          | (simp [intOf]; omega)
    · obtain rfl : i = n := by omega
      obtain rfl : r = false := by
        rw [← HR.out]
        cases hx : l.contains x with
        | false => rfl
        | true =>
          obtain ⟨j, hj, e⟩ := List.getElem_of_mem (List.contains_iff_mem.1 hx)
          refine absurd ?_ (HI.out j (by rw [HN.out]; exact hj))
          rw [List.getD_eq_getElem?_getD, List.getElem?_eq_getElem hj]
          exact e
      go_wp2
      go_ret
      exact ⟨rfl, rfl⟩

end Go.Proofs.YtdepdcndfofknaaGreatDoor

/-
  CachePins of the law of package bcache.
-/
namespace Go.Proofs.YtdepdcndfofknaaGreatDoor
open Go.RowKit Go.Maps Go.Sort Go.Shelf

/-- Numbers that came in. -/
def IntsIn (w : World) (p : Option Addr) (ns : List Int) : Prop := 0 < ns.length → ∃ g o, p = some ⟨g, o, none⟩ ∧ ∀ k x, ns[k]? = some x → w.cell? ⟨g, o + k, none⟩ = some (.int .i64 x) ∧ -9223372036854775808 ≤ x ∧ x < 9223372036854775808

theorem pw_fulln (w0 w : World) (c : Nat) (vs : VS) (m n : Nat) (H : Nat → Bool) (p : Option Addr) (l : List Nat) (hn : n = 4) (h : PW w0 w c vs m (PinI H n)) (hi : IntsAt w p l) (hb : nbOf vs.d.n = 12) (x : Nat) (hx : x < 12) (hH : H x = false) :
    Calls Tryz.prog 12 #[ep c, .int .i64 (x : Nat)] w fun e w' => e = .returned (.tuple #[.slice none 0 0, .int .i64 28]) ∧ PW w0 w' c vs m (PinI H n) ∧ IntsAt w' p l := by
  subst hn
  exact pw_full w0 w c vs m H p l h hi hb x hx hH

theorem out_start (w0 w : World) (c : Nat) (vs : VS) (m n : Nat) (H : Nat → Bool) (l : List Nat) (h : PW w0 w c vs m (PinI H n)) (hm : m ≤ 24) (hb : nbOf vs.d.n = 12) (hl : ∀ b, b < 12 → l.contains b = H b) (hl2 : ∀ b ∈ l, H b = true) : PW w0 w c vs (24 + 0) (OutI (l.drop 0)) := by
  obtain ⟨s, B, k, hk, hL, hc, hp⟩ := h.at_
  refine ⟨s, B, k, by omega, hL, hc, ?_⟩
  rw [List.drop_zero]
  refine hp.out l (fun x hx => ?_) hl2
  obtain ⟨a, ha, e⟩ := List.mem_map.1 hx
  have hb' := hL.ci.blk a ha
  rw [hb] at hb'
  rw [← e]
  exact hl _ hb'

theorem out_loop (l : List Nat) (i : Nat) (h : i < l.length) (hnd : l.Nodup) : l.drop i = l.getD i 0 :: l.drop (i + 1) ∧ l.getD i 0 ∉ l.drop (i + 1) := by
  have e : l.drop i = l.getD i 0 :: l.drop (i + 1) := by
    rw [List.getD_eq_getElem?_getD, List.getElem?_eq_getElem h]
    exact List.drop_eq_getElem_cons h
  refine ⟨e, ?_⟩
  have := List.Nodup.sublist (List.drop_sublist i l) hnd
  rw [e] at this
  exact (List.nodup_cons.1 this).1

set_option maxRecDepth 8000 in
set_option maxHeartbeats 4000000 in
theorem pins_any (p1 p2 : Option Addr) (c1 c2 : Nat) (ns ms : List Int) (w : World) (ht : Tab w) (hn : ns.length ≤ maxLen) (hm : ms.length ≤ maxLen) (h1 : IntsIn w p1 ns) (h2 : IntsIn w p2 ms) :
    Calls Tryz.prog 6 #[.slice p1 ns.length c1, .slice p2 ms.length c2] w fun e w' => e = .returned (.bool true) ∧ Below w.heap.size w w' := by
  have c1b := begun7_true w ht
  have HT : Hid (Tab w) := ht
  have HI1 : Hid (IntsIn w p1 ns) := h1
  have HI2 : Hid (IntsIn w p2 ms) := h2
  obtain ⟨N, hN⟩ : ∃ N, N = ns.length := ⟨_, rfl⟩
  obtain ⟨M, hM⟩ : ∃ M, M = ms.length := ⟨_, rfl⟩
  rw [← hN, ← hM]
  have hNb : N ≤ 9223372036854775807 := by rw [hN]; unfold maxLen at hn; omega
  have hMb : M ≤ 9223372036854775807 := by rw [hM]; unfold maxLen at hm; omega
  have HN : Hid (N = ns.length ∧ M = ms.length) := ⟨hN, hM⟩
  clear ht h1 h2 hn hm hN hM
  go_enter Tryz.func6, Tryz.ntmps6
  go_wp2_with (go_at_call 9; refine c1b.mono ?_; rintro e w1 ⟨rfl, hB1⟩; clear c1b; refine Stop.out ?_)
  refine Stop.mk ?_
  have cV : Calls Tryz.prog 10 #[.int .i64 12] w1 _ := volume_any 12 w1 (below_tab hB1 HT.out.lt HT.out) (by omega) (by omega)
  have HB : Hid (Below w.heap.size w w1) := hB1
  clear hB1
  go_wp2_with (go_at_call 10; refine cV.mono ?_; rintro e w2 ⟨vs, rfl, hI2, hz2, hnb2, hc2, hB2, hlo2⟩; clear cV; refine Stop.out ?_)
  refine Stop.mk ?_
  have cN : Calls Tryz.prog 11 #[dp vs.v, .int .i64 4] w2 _ := new_ok 4 vs w2 hI2 (by omega) (by omega)
  have H2 : Hid (Bud vs 1 ∧ Below w1.heap.size w1 w2 ∧ ∀ k, vs.mine k → w1.heap.size ≤ k) := ⟨hz2, hB2, hlo2⟩
  have Hnb : Hid (nbOf vs.d.n = 12) := hnb2
  clear hI2 hz2 hnb2 hc2 hB2 hlo2
  go_wp2_with (go_at_call 11; refine cN.mono ?_; rintro e w3 ⟨c, hh, rfl, hI3, hB3, hhl, hcl⟩; clear cN; refine Stop.out ?_)
  refine Stop.mk ?_
  have HS : Hid (∃ H : Nat → Bool, PW w1 w3 c vs 0 (fun A => SetI 0 A ∧ ∀ b, A.held b = H b)) := by
    obtain ⟨q1, q2, q3⟩ := H2.out
    exact ⟨_, ⟨newS c vs.v 4 hh, fun _ => [], 0, Nat.le_refl _, ⟨hI3, ⟨Nat.zero_le _, Nat.zero_le _, Nat.zero_le _, Nat.zero_le _, Nat.zero_le _⟩, q1, q2.trans (hB3.mono q2.size), Nat.le_trans q2.size hhl, q3⟩, rfl, ⟨rfl, rfl, (fun x hx => by cases hx)⟩, fun _ => rfl⟩⟩
  clear hI3 hB3 hhl hcl H2
  go_wp2_with fail
  go_loopw [7, 8] (fun nn ii wr => ∃ n i : Nat, n ≤ 4 ∧ i ≤ N ∧ nn = .int .i64 n ∧ ii = .int .i64 i ∧ Hid (∃ H : Nat → Bool, PW w1 wr c vs n (fun A => SetI n A ∧ ∀ b, A.held b = H b))) (fun _ ii _ => N - (intOf ii).toNat)
  case atStart => exact ⟨0, 0, Nat.zero_le _, Nat.zero_le _, rfl, rfl, HS⟩
  case round =>
    obtain ⟨n, i, hn4, hiN, rfl, rfl, HI⟩ := hrel
    by_cases hgo : i < N ∧ n < 4
    · obtain ⟨hlt, hlt4⟩ := hgo
      have hltI : (i : Int) < N := by omega
      have hlt4I : (n : Int) < 4 := by omega
      obtain ⟨H, hP⟩ := HI.out
      have HP : Hid (PW w1 wr c vs n (fun A => SetI n A ∧ ∀ b, A.held b = H b)) := hP
      obtain ⟨g, o, rfl, hcell⟩ := HI1.out (by have := HN.out.1; omega)
      obtain ⟨x, hx⟩ : ∃ x, ns[i]? = some x := ⟨_, List.getElem?_eq_getElem (by have := HN.out.1; omega)⟩
      obtain ⟨hcw, hx1, hx2⟩ := hcell i x hx
      have hcr : wr.cell? ⟨g, o + i, none⟩ = some (.int .i64 x) := ((HB.out.trans (hP.below.mono HB.out.size)).cell (p := ⟨g, o + i, none⟩) (World.block_lt_of_cell? w _ hcw)).trans hcw
      clear hcell hx hcw hP
      by_cases hx0 : 0 ≤ x
      · by_cases hx12 : x < 12
        · obtain ⟨y, rfl⟩ : ∃ y : Nat, x = y := ⟨x.toNat, by omega⟩
          have hy12 : y < 12 := by omega
          cases hH : H y with
          | true =>
            have cH := pw_has w1 wr c vs n _ HP.out (y : Int) (by omega) (by omega) true (fun A hA => by simp [hA.2, hH])
            go_wp2_with (go_at_call 28; refine Calls_on cH ?_)
            all_goals go_roundw
            all_goals first | exact ⟨n, i + 1, by omega, by omega, rfl, by go_num, HI⟩ | (simp [intOf]; omega)
          | false =>
            have cH := pw_has w1 wr c vs n _ HP.out (y : Int) (by omega) (by omega) false (fun A hA => by simp [hA.2, hH])
            have cP := pw_pin w1 wr c vs n n H HP.out y hlt4 (by omega) (by rw [Hnb.out]; exact hy12) hH
            clear hH
            go_wp2_with (first
              | (go_at_call 28; refine Calls_on cH ?_)
              | (go_at_call 14; refine cP.mono ?_; rintro e w4 ⟨rfl, hS4⟩; clear cP; have HS4 : Hid (∃ H : Nat → Bool, PW w1 w4 c vs (n + 1) (fun A => SetI (n + 1) A ∧ ∀ b, A.held b = H b)) := hS4; clear hS4))
            all_goals go_roundw
            all_goals first | exact ⟨n + 1, i + 1, by omega, by omega, by go_num, by go_num, HS4⟩ | (simp [intOf]; omega)
        · go_wp2
          all_goals go_roundw
          all_goals first | exact ⟨n, i + 1, by omega, by omega, rfl, by go_num, HI⟩ | (simp [intOf]; omega)
      · go_wp2
        all_goals go_roundw
        all_goals first | exact ⟨n, i + 1, by omega, by omega, rfl, by go_num, HI⟩ | (simp [intOf]; omega)
    · have hex : ¬ i < N ∨ (i < N ∧ ¬ n < 4) := by omega
      obtain ⟨H, hP⟩ := HI.out
      have cHe := pw_held w1 wr c vs n n H hP hn4 Hnb.out
      obtain ⟨l, hl⟩ : ∃ l, l = (List.range 12).filter H := ⟨_, rfl⟩
      rw [← hl] at cHe
      have hl12 : l.length ≤ 12 := by rw [hl]; exact Nat.le_trans (List.length_filter_le _ _) (by simp)
      have hlc : ∀ b, b < 12 → l.contains b = H b := fun b hb => by
        rw [hl]
        cases hx : H b with
        | true => exact List.contains_iff_mem.2 (List.mem_filter.2 ⟨List.mem_range.2 hb, hx⟩)
        | false =>
          cases hy : ((List.range 12).filter H).contains b with
          | false => rfl
          | true =>
            have := (List.mem_filter.1 (List.contains_iff_mem.1 hy)).2
            rw [hx] at this
            cases this
      have hlm : ∀ b ∈ l, b < 12 ∧ H b = true := fun b hb => by
        rw [hl] at hb
        exact ⟨List.mem_range.1 (List.mem_filter.1 hb).1, (List.mem_filter.1 hb).2⟩
      have hnd : l.Nodup := by rw [hl]; exact List.Nodup.sublist List.filter_sublist List.nodup_range
      have HL : Hid ((∀ b, b < 12 → l.contains b = H b) ∧ (∀ b ∈ l, b < 12 ∧ H b = true) ∧ l.Nodup) := ⟨hlc, hlm, hnd⟩
      clear hl hlc hlm hnd hP HI HS hgo
      have hnle : ((n : Nat) : Int) ≤ 4 := by omega
      rcases hex with hi1 | ⟨hi1, hn5⟩
      all_goals
        go_wp2_with (go_at_call 29; refine cHe.mono ?_; rintro e w5 ⟨q, cq, rfl, hi5, hP5⟩; clear cHe; refine Stop.out ?_)
        refine Stop.mk ?_
        have HS5 : Hid (PW w1 w5 c vs (4 + 0) (PinI H n) ∧ IntsAt w5 q l) := ⟨hP5.mono (by omega) (fun _ h => h), hi5⟩
        clear hi5 hP5
        go_wp2_with fail
        go_loopw [10] (fun ii wr => ∃ i : Nat, i ≤ M ∧ i ≤ 20 ∧ ii = .int .i64 i ∧ Hid (PW w1 wr c vs (4 + i) (PinI H n) ∧ IntsAt wr q l)) (fun ii _ => M - (intOf ii).toNat)
        case atStart => exact ⟨0, Nat.zero_le _, Nat.zero_le _, rfl, HS5⟩
        case round =>
          obtain ⟨k, hkM, hk20, rfl, HK⟩ := hrel
          by_cases hgo : k < M ∧ k < 20
          · obtain ⟨hlt, hlt4⟩ := hgo
            have hltI : (k : Int) < M := by omega
            have hlt4I : (k : Int) < 20 := by omega
            obtain ⟨g, o, rfl, hcell⟩ := HI2.out (by have := HN.out.2; omega)
            obtain ⟨x, hx⟩ : ∃ x, ms[k]? = some x := ⟨_, List.getElem?_eq_getElem (by have := HN.out.2; omega)⟩
            obtain ⟨hcw, hx1, hx2⟩ := hcell k x hx
            have hcr := ((HB.out.trans (HK.out.1.below.mono HB.out.size)).cell (p := ⟨g, o + k, none⟩) (World.block_lt_of_cell? w _ hcw)).trans hcw
            clear hcell hx hcw
            by_cases hin : 0 ≤ x ∧ x < 12
            · obtain ⟨y, rfl⟩ : ∃ y : Nat, x = y := ⟨x.toNat, by omega⟩
              have hy12 : y < 12 := by omega
              have hy0 : ¬ (y : Int) < 0 := by omega
              have hy11 : ¬ (11 : Int) < y := by omega
              clear hin hx1 hx2
              by_cases hn3 : n < 4
              · have hn3I : (n : Int) < 4 := by omega
                have cG := pw_get w1 _ c vs (4 + k) n H q l HK.out.1 HK.out.2 Hnb.out y (by omega) hy12 (.inl hn3)
                go_wp2_with (go_at_call 12; refine cG.mono ?_; rintro e w6 ⟨gg, cap, rfl, hP6, hi6⟩; clear cG; have HS6 : Hid (PW w1 w6 c vs (4 + (k + 1)) (PinI H n) ∧ IntsAt w6 q l) := ⟨hP6, hi6⟩; clear hP6 hi6)
                all_goals go_roundw
                all_goals first | exact ⟨k + 1, by omega, by omega, by go_num, HS6⟩ | (simp [intOf]; omega)
              · have hn3I : ¬ (n : Int) < 4 := by omega
                cases hH : H y with
                | true =>
                  have cG := pw_get w1 _ c vs (4 + k) n H q l HK.out.1 HK.out.2 Hnb.out y (by omega) hy12 (.inr hH)
                  have Hc : Hid (l.contains y = true) := by rw [← hH]; exact HL.out.1 y hy12
                  clear hH
                  go_wp2_with (first
                    | (go_at_call 12; refine cG.mono ?_; rintro e w6 ⟨gg, cap, rfl, hP6, hi6⟩; clear cG; have HS6 : Hid (PW w1 w6 c vs (4 + (k + 1)) (PinI H n) ∧ IntsAt w6 q l) := ⟨hP6, hi6⟩; have cA := among_any q l cq y w6 hl12 hi6 true Hc.out; clear hP6 hi6)
                    | (go_at_call 30; refine Calls_on cA ?_))
                  all_goals go_roundw
                  all_goals first | exact ⟨k + 1, by omega, by omega, by go_num, HS6⟩ | (simp [intOf]; omega)
                | false =>
                  have cG := pw_fulln w1 _ c vs (4 + k) n H q l (by omega) HK.out.1 HK.out.2 Hnb.out y hy12 hH
                  have Hc : Hid (l.contains y = false) := by rw [← hH]; exact HL.out.1 y hy12
                  clear hH
                  go_wp2_with (first
                    | (go_at_call 12; refine cG.mono ?_; rintro e w6 ⟨rfl, hP6, hi6⟩; clear cG; have HS6 : Hid (PW w1 w6 c vs (4 + (k + 1)) (PinI H n) ∧ IntsAt w6 q l) := ⟨hP6.mono (by omega) (fun _ h => h), hi6⟩; have cA := among_any q l cq y w6 hl12 hi6 false Hc.out; clear hP6 hi6)
                    | (go_at_call 30; refine Calls_on cA ?_))
                  all_goals go_roundw
                  all_goals first | exact ⟨k + 1, by omega, by omega, by go_num, HS6⟩ | (simp [intOf]; omega)
            · have cG := pw_out w1 _ c vs (4 + k) _ HK.out.1 Hnb.out x hx1 hx2 hin
              have HS6 := HK.out
              have HS7 : Hid (PW w1 _ c vs (4 + (k + 1)) (PinI H n) ∧ IntsAt _ q l) := ⟨HS6.1.mono (by omega) (fun _ h => h), HS6.2⟩
              clear HS6
              have hcs : x < 0 ∨ (¬ x < 0 ∧ 11 < x) := by omega
              rcases hcs with hx0 | ⟨hx0, hx11⟩
              all_goals
                go_wp2_with (go_at_call 12; refine Calls_on cG ?_)
                all_goals go_roundw
                all_goals first | exact ⟨k + 1, by omega, by omega, by go_num, HS7⟩ | (simp [intOf]; omega)
          · have hex : ¬ k < M ∨ (k < M ∧ ¬ k < 20) := by omega
            have HS8 : Hid (PW w1 _ c vs (24 + 0) (OutI (l.drop 0)) ∧ IntsAt _ q l) := ⟨out_start w1 _ c vs (4 + k) n H l HK.out.1 (by omega) Hnb.out HL.out.1 (fun b hb => (HL.out.2.1 b hb).2), HK.out.2⟩
            clear HK HS5 hgo
            rcases hex with hj1 | ⟨hj1, hj2⟩
            all_goals
              go_wp2_with fail
              go_loopw [14] (fun ii wr => ∃ i : Nat, i ≤ l.length ∧ ii = .int .i64 i ∧ Hid (PW w1 wr c vs (24 + i) (OutI (l.drop i)) ∧ IntsAt wr q l)) (fun ii _ => l.length - (intOf ii).toNat)
              case atStart => exact ⟨0, Nat.zero_le _, rfl, HS8⟩
              case round =>
                obtain ⟨j, hjl, rfl, HJ⟩ := hrel
                by_cases hlt : j < l.length
                · have hltI : (j : Int) < l.length := by omega
                  obtain ⟨e1, e2⟩ := out_loop l j hlt HL.out.2.2
                  have hb12 : l.getD j 0 < 12 := (HL.out.2.1 _ (by rw [List.getD_eq_getElem?_getD, List.getElem?_eq_getElem hlt]; exact List.getElem_mem hlt)).1
                  have hgj : l[j]? = some (l.getD j 0) := by rw [List.getD_eq_getElem?_getD, List.getElem?_eq_getElem hlt]; rfl
                  generalize l.getD j 0 = b at *
                  have hO := HJ.out.1
                  rw [e1] at hO
                  have HG : Hid (l[j]? = some b ∧ 0 < l.length ∧ b ∉ l.drop (j + 1)) := ⟨hgj, by omega, e2⟩
                  obtain ⟨gl, rfl, _, hcell⟩ := HJ.out.2 (by omega)
                  have hc0 := hcell j b hgj
                  have cH := pw_has w1 _ c vs _ _ hO (b : Int) (by omega) (by omega) true (fun A hA => by simp [hA.all b (List.mem_cons_self ..)])
                  have cU := pw_unpin w1 _ c vs _ b (l.drop (j + 1)) (some ⟨gl, 0, none⟩) l hO HJ.out.2 e2
                  clear hcell hO e1 e2 hgj
                  go_wp2_with (first
                    | (go_at_call 28; refine Calls_on cH ?_)
                    | (go_at_call 16; refine cU.mono ?_; rintro e w7 ⟨rfl, hP7, hi7⟩; clear cU; refine Stop.out ?_))
                  refine Stop.mk ?_
                  have cZ := pw_zero w1 w7 c vs _ b (l.drop (j + 1)) hP7 HG.out.2.2
                  obtain ⟨gl', eg, _, hcell⟩ := hi7 HG.out.2.1
                  cases eg
                  have hc7 := hcell j b HG.out.1
                  have HS9 : Hid (PW w1 w7 c vs (24 + (j + 1)) (OutI (l.drop (j + 1))) ∧ IntsAt w7 (some ⟨gl, 0, none⟩) l) := ⟨hP7.mono (by omega) (fun _ h => h.1), hi7⟩
                  clear hcell hP7 hi7 hc0
                  go_wp2_with (go_at_call 16; refine Calls_on cZ ?_)
                  all_goals go_roundw
                  all_goals first | exact ⟨j + 1, by omega, by go_num, HS9⟩ | (simp [intOf]; omega)
                · obtain rfl : j = l.length := by omega
                  have HF : Hid (Below w.heap.size w _) := HB.out.trans (HJ.out.1.below.mono HB.out.size)
                  go_wp2
                  go_ret
                  exact ⟨rfl, HF.out⟩

end Go.Proofs.YtdepdcndfofknaaGreatDoor

namespace Go.Proofs.YtdepdcndfofknaaGreatDoor
open Go.ChangeShapes Go.WideShapes Go.ChangeAt Go.RowKit Go.Deep

theorem Tryz.cells3p : Tryz.prog.cellsOf 3 = 1 := by kernel_rfl
theorem row_of_cells {W : World} {k : IntKind} {a : Addr} {len cap : Nat} {zs : List Int} (hl : len ≤ cap) (hz : zs.length = cap)
    (hc : ∀ i, i < cap → W.cell? (a.add i) = some (.int k (zs.getD i 0))) (hp : 0 < len) : ∃ b o, a = ⟨b, o, none⟩ ∧ ∀ (j : Nat) (x : Int), (zs.take len)[j]? = some x → W.cell? ⟨b, o + j, none⟩ = some (.int k x) := by
  obtain ⟨b, off, spot⟩ := a
  have h0 := hc 0 (by omega)
  have hspot : spot = none := by simpa [Addr.add] using World.cell?_spot h0
  subst hspot
  refine ⟨b, off, rfl, fun j x hj => ?_⟩
  rw [List.getElem?_take] at hj
  split at hj
  · have hcell := hc j (by omega)
    rw [Addr.add_lit, List.getD, hj, Option.getD_some] at hcell
    exact hcell
  · cases hj
/-- Numbers that came in. -/
theorem ints_at {H : Type} {enc : TypeId × Value → H} {W : World} {v : Value} {y : DataW H} {ps : List MemPlace} (h : DataW.Trod enc Tryz.prog W 0 (fun _ => true) true 48 v y ps) :
    v.cells.toList = [v] → ∃ (p : Option Addr) (c : Nat) (ns : List Int), v = .slice p ns.length c ∧ ns.length ≤ maxLen ∧ IntsIn W p ns := by
  intro hv
  obtain ⟨fuel, hf⟩ := h
  rcases open_ints Tryz.underlying48 Tryz.underlying3 Tryz.cells3p hf with ⟨hcs, hx⟩ | ⟨a, len, cap, zs, hcs, _, hl, hm, hz, hx, hcell, hw⟩
  · rw [hv] at hcs
    simp at hcs
    exact ⟨none, 0, [], hcs, Nat.zero_le _, fun h => absurd h (by decide)⟩
  · rw [hv] at hcs
    simp at hcs
    have hz' : zs.length = cap := by simpa using hz
    have hlen : (zs.take len).length = len := by simp; omega
    refine ⟨some a, cap, zs.take len, by rw [hlen]; exact hcs, by omega, fun hp => ?_⟩
    rw [hlen] at hp
    obtain ⟨b, o, rfl, hxx⟩ := row_of_cells hl hz' (fun i hi => hcell i (by omega)) hp
    refine ⟨b, o, rfl, fun j x hj => ⟨hxx j x hj, ?_⟩⟩
    have hm : x ∈ zs := List.mem_of_mem_take (List.mem_of_getElem? hj)
    exact i64_wf (hw x hm)

set_option maxRecDepth 100000 in
theorem bpins_contract (H : Type) (enc : TypeId × Value → H) (W : World) (base : Nat) (args : Array Value) (ds gs : List (DataW H)) (before : List MemPlace)
    (hval : ∀ (j : Nat) t v, Tryz.f6.params[j]? = some t → args[j]? = some v → Value.okWide Tryz.prog W .any base t v)
    (hW : DataW.Whole enc Tryz.prog Tryz.f6.params.toList Rows.cachePinsSpec.vars false W args.toList ds gs before)
    (hz : (DataW.weightsEach Tryz.prog (Tryz.f6.params.toList ++ (OpenSpec.ofChange Rows.cachePinsSpec).bare.plain.varTypes Tryz.prog) (ds ++ gs)).all (· ≤ reachBytes) = true) (hL : laidMetH Tryz.prog Rows.cachePinsRow.laid W) :
    Calls Tryz.prog 6 args W fun e W' => ∃ v, e = .returned v ∧ Rows.cachePinsSpec.post enc Tryz.prog Tryz.f6 false true false false W args v W' := by
  have hW' := hW
  obtain ⟨p, q, hA0, hV, rfl, hfz, hnd⟩ := hW
  have hA : DataW.TrodAll enc Tryz.prog W 0 (fun _ => true) true Tryz.f6.params.toList args.toList ds p := hA0
  rw [Tryz.params6] at hA hval hz
  obtain ⟨v0, vs0, d0, ds0, p0, q0, hargs, rfl, rfl, h0, r0⟩ := trodAll_cons hA
  obtain ⟨v1, vs1, d1, ds1, p1, q1, rfl, rfl, rfl, h1, r1⟩ := trodAll_cons r0
  obtain ⟨rfl, rfl, rfl⟩ := trodAll_nil r1
  obtain rfl : args = #[v0, v1] := by cases args; simp_all
  obtain ⟨rfl, rfl⟩ := trodVars_none hV
  obtain ⟨a0, len0, cap0, hv0⟩ := okWide_slice Tryz.underlying48 (hval 0 48 v0 rfl rfl)
  obtain ⟨a1, len1, cap1, hv1⟩ := okWide_slice Tryz.underlying48 (hval 1 48 v1 rfl rfl)
  have k0 := h0
  have lt0 : ∀ x ∈ p0, x.block < W.heap.size := by obtain ⟨m, hm⟩ := k0; exact DataW.trod_lt m _ _ _ hm
  have k1 := h1
  have lt1 : ∀ x ∈ p1, x.block < W.heap.size := by obtain ⟨m, hm⟩ := k1; exact DataW.trod_lt m _ _ _ hm
  obtain ⟨np, nc, ns, hvn, hnl, hn⟩ := ints_at h0 (by rw [hv0]; rfl)
  obtain ⟨mp, mc, ms, hvm, hml, hm⟩ := ints_at h1 (by rw [hv1]; rfl)
  subst hvn
  subst hvm
  clear hA0 hv0 hv1
  refine (pins_any np mp nc mc ns ms W (tab_of_laid hL) hnl hml hn hm).mono fun e W' ⟨he, bel⟩ => ?_
  subst he
  exact ⟨_, rfl, _, _, _, [], _, [], hW', trodAll_mk1 (shut_bool Tryz.underlying4 _),
    (trodAll_cons_mk (Below.trod laidOut (by kernel_rfl) (of_decide_eq_true (by kernel_rfl)) k0 bel lt0) (trodAll_cons_mk (Below.trod laidOut (by kernel_rfl) (of_decide_eq_true (by kernel_rfl)) k1 bel lt1) trodAll_mk0)), rfl, bel.frame _, fun h => by cases h⟩

theorem bpins_laid_met (os : Os) : laidMet Tryz.prog Rows.cachePinsRow.laid ((World.doorLaid Tryz.prog 400 os).forCall (fun _ _ => 0) ⟨#[], #[.slice none 0 0, .slice none 0 0], []⟩).memory :=
  laidMet_of_run' 20 (by kernel_rfl) (by kernel_rfl)
theorem bpins_reads (os : Os) {H : Type} (enc : TypeId × Value → H) : ∃ places, DataW.whole enc Tryz.prog ((World.doorLaid Tryz.prog 400 os).forCall (fun _ _ => 0) ⟨#[], #[.slice none 0 0, .slice none 0 0], []⟩).memory Tryz.f6.params.toList Rows.cachePinsSpec.vars false (#[.slice none 0 0, .slice none 0 0] : Array Value).toList 8 = some ([.nil, .nil], [], places) :=
  ⟨[], by kernel_rfl⟩

set_option maxRecDepth 100000 in
theorem bpins_lifted (os : Os) (started : os.Started) (H : Type) (enc : TypeId × Value → H) (F : Stop.Interp) :
    ReturnsInHanded {} Tryz.checked os 6 .any ((OpenSpec.ofChange Rows.cachePinsSpec).preRow enc Tryz.prog Tryz.f6 Rows.cachePinsRow.domain false Rows.cachePinsRow.laid) (((OpenSpec.ofChange Rows.cachePinsSpec).at F).post enc Tryz.prog Tryz.f6 false true false false) := by
  obtain ⟨places, hx⟩ := bpins_reads os enc
  refine returnsInHanded_of_row (C := Tryz.checked) (s := OpenSpec.ofChange Rows.cachePinsSpec) own started (by kernel_rfl) Tryz.func6
    (witness_row_at (enc := enc) (C := Tryz.checked) false (World.doorLaid Tryz.prog 400 os) #[.slice none 0 0, .slice none 0 0] rfl (by kernel_rfl) (by kernel_rfl) (by kernel_rfl)
      (OpenSpec.preRow_of_cond 8 hx (by kernel_rfl) (fun k hk => by cases hk) (by kernel_rfl) (bpins_laid_met os))) ?_
  intro W base args ds gs before hval hW _ _ hz hL _ _
  exact bpins_contract H enc W base args ds gs before hval hW hz hL

theorem bpins_said : Rows.CachePinsSaid :=
  OpenClaim.holds_of_cond 6 Tryz.f6 rfl rfl rfl rfl rfl rfl rfl ⟨rfl, rfl, rfl, rfl, rfl⟩ rfl rfl rfl rfl rfl (by kernel_rfl) Tryz.func6 (by kernel_rfl)
    (of_decide_eq_true (by kernel_rfl)) (by unfold Func.isWrapper; first | (rw [if_pos (by decide +kernel)]; kernel_rfl) | (rw [if_neg (by decide +kernel)]; exact ⟨rfl, rfl⟩))
    (fun os started H enc _ F => by rw [OpenClaim.pre_eq_preRow]; exact bpins_lifted os started H enc F)

theorem bpins_plain (f : FuncId) (fn : Func) (hf : Tryz.pinned.checked.prog.funcNamed "lagoon/lagoonlaw7.CachePins" = some f) (hfn : Tryz.pinned.checked.prog.funcs[f]? = some fn) :
    true = Tryz.pinned.checked.prog.looks [] ∧ ∀ (j : Nat) t, fn.params[j]? = some t → Tryz.pinned.checked.prog.wantsStandIn t = false := by
  obtain rfl : f = 6 := Option.some.inj ((show Tryz.prog.funcNamed "lagoon/lagoonlaw7.CachePins" = some 6 by kernel_rfl).symm.trans hf) |>.symm
  obtain rfl : fn = Tryz.f6 := (Option.some.inj (Tryz.func6.symm.trans hfn)).symm
  refine ⟨by kernel_rfl, fun j t ht => ?_⟩
  rw [Tryz.params6] at ht
  have hm : t ∈ [48, 48] := by simpa using Array.mem_of_getElem? ht
  have hall : ([48, 48].all fun u => !Tryz.prog.wantsStandIn u) = true := by kernel_rfl
  exact (show Tryz.prog.wantsStandIn t = false by simpa using List.all_eq_true.1 hall t hm)

theorem cachePins_holds : Rows.CachePinsCardSaid :=
  Claim7.holds_tied_plain_at .later [] _ _ _ _ bpins_said (fun _ h => by cases h) (by kernel_rfl) (fun _ h => by cases h) cachePins_row_tie rfl ⟨rfl, rfl⟩ (by kernel_rfl) rfl bpins_plain (by kernel_rfl)

#print axioms cachePins_holds
end Go.Proofs.YtdepdcndfofknaaGreatDoor
