/-
  CacheNone, whatever the memory and the order that Go leaves open, returns true and leaves all memory that was there as it was. It has no argument; the table of package crc starts as the program's text lays it (the card ties it).
-/
import Derived.Test.YtdepdcndfofknaaGreatDoorBge
import Derived.Lib.SlBytesConst
import Derived.Test.YtdepdcndfofknaaGreatDoorCopen
import Derived.ChangeOld

/-
  Volume of the law of package bcache.
-/
namespace Go.Proofs.YtdepdcndfofknaaGreatDoor
open Go.RowKit Go.Maps Go.Sort Go.Shelf

set_option maxRecDepth 8000 in
set_option maxHeartbeats 2000000 in
theorem volume_any (blocks : Nat) (w : World) (ht : Tab w) (h2 : 2 ≤ blocks) (h12 : blocks ≤ 12) :
    Calls Tryz.prog 10 #[.int .i64 (blocks : Nat)] w fun e w' => ∃ vs : VS, e = .returned (dp vs.v) ∧ VI w' vs ∧ Bud vs 1 ∧ nbOf vs.d.n = blocks ∧ (∀ i, i < blocks → vs.cont i = zeroB) ∧ Below w.heap.size w w' ∧ ∀ k, vs.mine k → w.heap.size ≤ k := by
  obtain ⟨n, hn⟩ : ∃ n, n = 4 * blocks + 8 := ⟨_, rfl⟩
  have e1 : (4 : Int) * (blocks : Nat) + 8 = (n : Nat) := by omega
  have h16 : 16 ≤ n := by omega
  have h200 : n ≤ 200 := by omega
  have hnbn : nbOf n = blocks := by unfold nbOf; omega
  have c21 := dev_new n w (by omega) (by omega)
  have HT : Hid (Tab w ∧ nbOf n = blocks) := ⟨ht, hnbn⟩
  clear ht hn hnbn
  go_enter Tryz.func10, Tryz.ntmps10
  go_wp2_with (go_at_call 43; refine c21.mono ?_; rintro e w1 ⟨a, s0, c0, m0, rfl, hd1, hB1, ha1, hs1, hm1⟩; clear c21; refine Stop.out ?_)
  refine Stop.mk ?_
  have ht1 : Tab w1 := below_tab hB1 HT.out.1.lt HT.out.1
  have cF := format_ok (newDS a s0 c0 m0 n) w1 hd1 ht1 h16 (fun i _ => rfl) (fun h => by cases h) (by simp [newDS])
  have H1 : Hid (Dev w1 (newDS a s0 c0 m0 n) ∧ Tab w1 ∧ Below w.heap.size w w1 ∧ ∀ k, (newDS a s0 c0 m0 n).mine k → w.heap.size ≤ k) := ⟨hd1, ht1, hB1, by rintro k (rfl | rfl | rfl); exact ha1; exact hs1; exact hm1⟩
  clear hd1 hB1 ha1 hs1 hm1 ht1
  go_wp2_with (go_at_call 44; refine cF.mono ?_; rintro e w2 ⟨d2, rfl, hb2, hn2, hd2, hdn2, hD2, hB2, hcn2, hfu2⟩; clear cF; refine Stop.out ?_)
  refine Stop.mk ?_
  obtain ⟨hd1, ht1, hB1, lo1⟩ := H1.out
  have ht2 : Tab w2 := hb2.tab ht1 (hd1.noTab ht1)
  have ea2 : d2.a = a := hn2.a
  have en2 : d2.n = n := hdn2
  have hb0 : d2.B 0 = headB 1 0 n := by rw [hB2]; simp [upd, newDS]
  have hzz : ∀ i, 0 < i → i < n → d2.B i = zeroB := fun i h0 _ => by
    rw [hB2]
    have : i ≠ 0 := by omega
    simp [upd, this, newDS]
  have cM := mount_ok [] 1 0 d2 w2 hd2 ht2 (by omega) (by unfold DS.dead; rw [show d2.fused = false from hfu2]; rfl) hD2 (by rw [hb0, en2]) (by omega) (by omega) (by
    refine ⟨by unfold nbOf; omega, fun hlt => ?_⟩
    rw [hzz _ (by omega) (by omega)]
    exact oldB_zero _)
  rw [ea2] at cM
  have B2 : Below w.heap.size w w2 := hB1.trans (hb2.below hB1.size lo1)
  have lo2 : ∀ k, d2.mine k → w.heap.size ≤ k := by
    rintro k (e | e | e)
    · exact lo1 k (.inl (e.trans hn2.a))
    · exact lo1 k (.inr (.inl (e.trans hn2.s)))
    · rcases hn2.m with x | x
      · exact lo1 k (.inr (.inr (e.trans x)))
      · have := hB1.size; omega
  have H2 : Hid (Dev w2 d2 ∧ Below w.heap.size w w2 ∧ (∀ k, d2.mine k → w.heap.size ≤ k) ∧ d2.B 0 = headB 1 0 n ∧ (∀ i, 0 < i → i < n → d2.B i = zeroB) ∧ d2.D = .map [] ∧ d2.count = 4 ∧ d2.fused = false ∧ d2.n = n) := ⟨hd2, B2, lo2, hb0, hzz, hD2, hcn2, hfu2, en2⟩
  clear hd1 ht1 hB1 lo1 ht2 hb0 hzz B2 lo2 hd2 hb2 hn2 hD2 hB2 hcn2 hfu2 H1 hdn2 en2
  go_wp2_with (go_at_call 39; refine cM.mono ?_; rintro e w3 ⟨v, f, rfl, hM⟩; clear cM)
  go_ret
  obtain ⟨hd2, B2, lo2, hb0, hzz, hD2, hcn2, hfu2, en2⟩ := H2.out
  obtain ⟨F, hF⟩ := hM.fr
  have B3 : Below w.heap.size w w3 := B2.trans (hM.below.mono B2.size)
  have hfm : f ≠ d2.m := by have h1 := hM.flt; have h2 := hd2.mlt; omega
  have hvlt := hM.vlt
  have hflt := hM.flt
  have hs2 := B2.size
  refine ⟨⟨v, f, 0, 0, 1, d2.n, F, fun _ => none, d2, []⟩, rfl, ⟨hM.vol, hd2.below hM.below, hF, hfm, hfu2, by show 16 ≤ d2.n; omega, by show d2.n ≤ 200; omega, zero_log v f 0 n F d2 en2 h16 hb0 hzz⟩, ⟨Nat.zero_le _, ?_, Nat.zero_le _, Nat.le_succ 1⟩, ?_, fun i hi => ?_, B3, ?_⟩
  · show d2.count ≤ 1 * 1000
    omega
  · show nbOf d2.n = blocks
    rw [en2]; exact HT.out.2
  · show d2.B (1 + i) = zeroB
    have hnb := HT.out.2
    exact hzz _ (by omega) (by unfold nbOf at hnb; omega)
  · rintro k (e | e | hm)
    · have e' : k = v := e
      omega
    · have e' : k = f := e
      omega
    · exact lo2 k hm

/-- A cache and its volume that the law has made. -/
structure LW (w0 w : World) (s : CS) (vs : VS) (B : Nat → By) (b vb : Nat) : Prop where
  ci : CI w s vs B
  cb : CB s b
  bud : Bud vs vb
  below : Below w0.heap.size w0 w
  lo : w0.heap.size ≤ s.h
  vlo : ∀ k, vs.mine k → w0.heap.size ≤ k

theorem LW.cst {w0 w w' : World} {s s' : CS} {vs : VS} {B B' : Nat → By} {b vb : Nat} (h : LW w0 w s vs B b vb) (hc : Cst w w' s s' vs B' b) : LW w0 w' s' vs B' (b + 1) vb :=
  ⟨hc.ci, hc.cb, h.bud, h.below.trans (hc.but.below h.below.size (fun k hk => by have := h.lo; rcases hk with e | ⟨e, _⟩ <;> omega)), by rw [hc.h]; exact h.lo, h.vlo⟩
theorem LW.by {w0 w w' : World} {s : CS} {vs : VS} {B : Nat → By} {b vb : Nat} (h : LW w0 w s vs B b vb) (hb : Below w.heap.size w w') : LW w0 w' s vs B b vb :=
  ⟨h.ci.below hb, h.cb, h.bud, h.below.trans (hb.mono h.below.size), h.lo, h.vlo⟩
theorem LW.bct {w0 w w' : World} {s s' : CS} {vs vs' : VS} {B : Nat → By} {b vb : Nat} (h : LW w0 w s vs B b vb) (hc : Bct w w' s s' vs vs' B b vb) : LW w0 w' s' vs' B (b + 1) (vb + 1) :=
  ⟨hc.ci, hc.cb, hc.bud, h.below.trans (hc.but.below h.below.size (fun k hk => by
    have := h.lo
    rcases hk with (e | ⟨e, _⟩) | e
    · omega
    · omega
    · exact h.vlo k e)), by rw [hc.h]; exact h.lo, fun k hk => by
    rcases hc.low k hk with e | e
    · exact h.vlo k e
    · have := h.below.size; omega⟩
theorem LW.tab {w0 w : World} {s : CS} {vs : VS} {B : Nat → By} {b vb : Nat} (h : LW w0 w s vs B b vb) (ht : Tab w0) : Tab w := below_tab h.below ht.lt ht
theorem acOf_new (c v room hh : Nat) (B : Nat → By) : acOf (newS c v room hh) B = ⟨room, [], 0, 0, 0, 0⟩ := rfl

theorem full_x (g : Nat) (w4 : World) (hx4 : w4.heap[g]? = some (.cells #[.int .u8 120] 5 (1, 2))) : Calls Tryz.prog 18 #[.slice (some ⟨g, 0, none⟩) 1 1, .int .i64 512] w4 fun e w' => e = .returned (.slice (some ⟨w4.heap.size, 0, none⟩) 512 512) ∧ w'.heap[w4.heap.size]? = some (.cells ((fullB [120] 512).map u8v).toArray 5 (0, 0)) ∧ Below w4.heap.size w4 w' := by
  have := full_bytes [120] (some ⟨g, 0, none⟩) 1 512 w4 (by omega) (by simp) (fun _ => ⟨_, _, rfl, fun j x hj => by
    have h0 : j = 0 := by have := (List.getElem?_eq_some_iff.1 hj).1; simp at this; omega
    subst h0
    have e := cellOf hx4 0
    simp at hj
    subst hj
    simpa [u8v] using e⟩)
  exact this

end Go.Proofs.YtdepdcndfofknaaGreatDoor

/-
  begun of the law of package bcache.
-/
namespace Go.Proofs.YtdepdcndfofknaaGreatDoor
open Go.RowKit Go.Maps Go.Sort Go.Shelf

set_option maxRecDepth 8000 in
set_option maxHeartbeats 1000000 in
theorem begun7_true (w : World) (ht : Tab w) : Calls Tryz.prog 9 #[] w fun e w' => e = .returned (.bool true) ∧ Below w.heap.size w w' := by
  obtain ⟨D, hD⟩ : ∃ D, D = fullB [120] 512 := ⟨_, rfl⟩
  have hDl : D.length = 512 := by rw [hD]; exact fullB_length _ _
  have hD0 : D[0]? = some 120 := by rw [hD]; simp [fullB]
  have cV := volume_any 8 w ht (by omega) (by omega)
  have HT : Hid (Tab w) := ht
  clear ht
  go_enter Tryz.func9, Tryz.ntmps9
  go_wp2_with (go_at_call 10; refine cV.mono ?_; rintro e w1 ⟨vs, rfl, hI1, hz1, hnb1, hc1, hB1, hlo1⟩; clear cV; refine Stop.out ?_)
  refine Stop.mk ?_
  have cN := new_ok 1 vs w1 hI1 (by omega) (by omega)
  have H1 : Hid (VI w1 vs ∧ Bud vs 1 ∧ nbOf vs.d.n = 8 ∧ (∀ i, i < 8 → vs.cont i = zeroB) ∧ Below w.heap.size w w1 ∧ ∀ k, vs.mine k → w.heap.size ≤ k) := ⟨hI1, hz1, hnb1, hc1, hB1, hlo1⟩
  clear hI1 hz1 hnb1 hc1 hB1 hlo1
  go_wp2_with (go_at_call 11; refine cN.mono ?_; rintro e w2 ⟨c, hh, rfl, hI2, hB2, hhl, hcl⟩; clear cN; refine Stop.out ?_)
  refine Stop.mk ?_
  have hL2 : LW w w2 (newS c vs.v 1 hh) vs (fun _ => []) 0 1 := by
    obtain ⟨q1, q2, q3, q4, q5, q6⟩ := H1.out
    exact ⟨hI2, ⟨Nat.zero_le _, Nat.zero_le _, Nat.zero_le _, Nat.zero_le _, Nat.zero_le _⟩, q2, q5.trans (hB2.mono q5.size), Nat.le_trans q5.size hhl, q6⟩
  have cv : (convert 33 33 (.slice (some ⟨w2.heap.size, 0, none⟩) 1 1)).run Tryz.prog (w2.alloc (.cells #[.int .u8 120] 5)) = .ok (.slice (some ⟨w2.heap.size, 0, none⟩) 1 1) (w2.alloc (.cells #[.int .u8 120] 5 (1, 2))) := Lib.run_convert_bytes_const w2 33 5 #[.int .u8 120] 1 1 Tryz.underlying33 Tryz.underlying5
  obtain ⟨w4, hw4⟩ : ∃ w4, w4 = w2.alloc (.cells #[.int .u8 120] 5 (1, 2)) := ⟨_, rfl⟩
  have hB4 : Below w2.heap.size w2 w4 := by rw [hw4]; exact (Below.refl _ w2).alloc (Nat.le_refl _) _
  have hx4 : w4.heap[w2.heap.size]? = some (.cells #[.int .u8 120] 5 (1, 2)) := by rw [hw4]; exact heap_alloc_new w2 _
  have cFu := full_x w2.heap.size w4 hx4
  rw [← hD] at cFu
  clear hD
  have H2 : Hid (LW w w2 (newS c vs.v 1 hh) vs (fun _ => []) 0 1 ∧ Below w2.heap.size w2 w4) := ⟨hL2, hB4⟩
  clear hI2 hB2 hhl hcl hL2 hB4 hx4
  go_wp2_with (go_at_call 18; rw [← hw4]; refine cFu.mono ?_; rintro e w5 ⟨rfl, hx5, hB5⟩; clear cFu cv; refine Stop.out ?_)
  refine Stop.mk ?_
  have hsz : w4.heap.size = w2.heap.size + 1 := by rw [hw4]; simp
  clear hw4
  have hL5 : LW w w5 (newS c vs.v 1 hh) vs (fun _ => []) 0 1 := (H2.out.1.by H2.out.2).by hB5
  have cP : Calls Tryz.prog 19 #[ep c, .int .i64 3, .slice (some ⟨w4.heap.size, 0, none⟩) 512 512] w5 fun e w' => e = .returned (.int .i64 0) ∧ ∃ s' B', Cst w5 w' (newS c vs.v 1 hh) s' vs B' 0 ∧ acOf s' B' = (acOf (newS c vs.v 1 hh) (fun _ => [])).put 3 D := put_new (newS c vs.v 1 hh) vs (fun _ => []) 3 0 (some ⟨w4.heap.size, 0, none⟩) 512 (D) w5 hL5.ci hL5.cb (by rw [H1.out.2.2.1]; omega) rfl rfl (bytes_block hx5) hDl (by omega) (fun g o e => by
    have e' : w4.heap.size = g := congrArg Addr.block (Option.some.inj e)
    rw [← e']
    exact ⟨_, _, hx5⟩)
  rw [hsz] at cP
  have H5 : Hid (LW w w5 (newS c vs.v 1 hh) vs (fun _ => []) 0 1) := hL5
  clear hL5 hx5 hB5 hsz
  go_wp2_with (go_at_call 19; refine cP.mono ?_; rintro e w6 ⟨rfl, s6, B6, hC6, hac6⟩; clear cP; refine Stop.out ?_)
  refine Stop.mk ?_
  have hL6 := H5.out.cst hC6
  have hA6 : acOf s6 B6 = ⟨1, [⟨3, 0, 1, true, D⟩], 1, 0, 0, 0⟩ := by rw [hac6, acOf_new]; rfl
  have hcc6 : s6.c = c := hC6.c
  have cG : Calls Tryz.prog 12 #[ep c, .int .i64 4] w6 fun e w' => e = .returned (.tuple #[.slice none 0 0, .int .i64 28]) ∧ Below w6.heap.size w6 w' := by
    have := get_full s6 vs B6 4 w6 hL6.ci (by rw [H1.out.2.2.1]; omega) (by rw [hA6]; rfl) (by rw [hA6]; rfl)
    rw [hcc6] at this
    exact this
  have H6 : Hid (LW w w6 s6 vs B6 1 1 ∧ acOf s6 B6 = ⟨1, [⟨3, 0, 1, true, D⟩], 1, 0, 0, 0⟩ ∧ s6.c = c) := ⟨hL6, hA6, hcc6⟩
  clear hC6 hac6 hL6 hA6 hcc6
  go_wp2_with (go_at_call 12; refine cG.mono ?_; rintro e w7 ⟨rfl, hB7⟩; clear cG; refine Stop.out ?_)
  refine Stop.mk ?_
  have hL7 := H6.out.1.by hB7
  have hne : 0 < s6.D.length := by
    have hm : heOf s6.U B6 (s6.A.getD 0 0) ∈ (acOf s6 B6).L ∧ s6.A.getD 0 0 ∈ s6.A ∧ (s6.U (s6.A.getD 0 0)).dirty = true := by
      have h1 : s6.A.map (heOf s6.U B6) = [⟨3, 0, 1, true, D⟩] := congrArg AC.L H6.out.2.1
      have h2 : 0 < s6.A.length := by have := congrArg List.length h1; simp at this; omega
      have h3 := getD_mem h2
      have h4 : heOf s6.U B6 (s6.A.getD 0 0) ∈ s6.A.map (heOf s6.U B6) := List.mem_map.2 ⟨_, h3, rfl⟩
      rw [h1] at h4
      have h5 := List.mem_singleton.1 h4
      exact ⟨List.mem_map.2 ⟨_, h3, rfl⟩, h3, congrArg HE.dirty h5⟩
    exact List.length_pos_of_mem ((hL7.ci.dirty _).2 ⟨hm.2.1, hm.2.2⟩)
  have cC := commit_some s6 vs B6 1 1 w7 hL7.ci (hL7.tab HT.out) hL7.cb hL7.bud (by omega) hne
  rw [H6.out.2.2] at cC
  have H7 : Hid (LW w w7 s6 vs B6 1 1) := hL7
  clear hL7 hB7 hne
  go_wp2_with (go_at_call 21; refine cC.mono ?_; rintro e w8 ⟨rfl, s8, vs8, hC8⟩; clear cC; refine Stop.out ?_)
  refine Stop.mk ?_
  have hL8 := H7.out.bct hC8
  have hA8 : acOf s8 B6 = ⟨1, [⟨3, 0, 1, false, D⟩], 1, 0, 0, 0⟩ := by rw [hC8.ac, H6.out.2.1]; rfl
  have hcc8 : s8.c = c := hC8.c.trans H6.out.2.2
  have hnb8 : nbOf vs8.d.n = 8 := by rw [hC8.n]; exact H1.out.2.2.1
  have hvol8 : vs8.cont 3 = D := by rw [hC8.vol 3 (by rw [H1.out.2.2.1]; omega), H6.out.2.1]; rfl
  have cG : Calls Tryz.prog 12 #[ep c, .int .i64 4] w8 fun e w' => ∃ g cap, e = .returned (.tuple #[.slice (some ⟨g, 0, none⟩) 512 cap, .int .i64 0]) ∧ ∃ s' B', Cst w8 w' s8 s' vs8 B' 2 ∧ acOf s' B' = (acOf s8 B6).meet 4 (vs8.cont 4) id := by
    have := get_ok s8 vs8 B6 4 2 w8 hL8.ci hL8.cb (by omega) (by omega) (.inr (by rw [hA8]; rfl))
    rw [hcc8] at this
    exact this.mono (by rintro e w' ⟨g, cap, he, s', B', h1, h2, _⟩; exact ⟨g, cap, he, s', B', h1, h2⟩)
  have H8 : Hid (LW w w8 s8 vs8 B6 2 2 ∧ acOf s8 B6 = ⟨1, [⟨3, 0, 1, false, D⟩], 1, 0, 0, 0⟩ ∧ s8.c = c ∧ nbOf vs8.d.n = 8 ∧ vs8.cont 3 = D ∧ vs8.v = vs.v) := ⟨hL8, hA8, hcc8, hnb8, hvol8, hC8.v⟩
  clear hC8 hL8 hA8 hcc8 hnb8 hvol8
  go_wp2_with (go_at_call 12; refine cG.mono ?_; rintro e w9 ⟨g9, cap9, rfl, s9, B9, hC9, hac9⟩; clear cG; refine Stop.out ?_)
  refine Stop.mk ?_
  have hL9 := H8.out.1.cst hC9
  have hA9 : acOf s9 B9 = ⟨1, [⟨4, 0, 2, false, vs8.cont 4⟩], 2, 0, 1, 1⟩ := by rw [hac9, H8.out.2.1]; rfl
  have hcc9 : s9.c = c := hC9.c.trans H8.out.2.2.1
  have cCt := counts_cache s9 vs8 B9 w9 hL9.ci
  rw [hcc9, show s9.met = 0 from congrArg AC.hit hA9, show s9.missed = 1 from congrArg AC.miss hA9, show s9.out = 1 from congrArg AC.outs hA9] at cCt
  have H9 : Hid (LW w w9 s9 vs8 B9 3 2 ∧ acOf s9 B9 = ⟨1, [⟨4, 0, 2, false, vs8.cont 4⟩], 2, 0, 1, 1⟩ ∧ s9.c = c) := ⟨hL9, hA9, hcc9⟩
  clear hC9 hac9 hL9 hA9 hcc9
  go_wp2_with (go_at_call 27; refine cCt.mono ?_; rintro e wa ⟨rfl, qa, rfl⟩; clear cCt; refine Stop.out ?_)
  refine Stop.mk ?_
  have hLa : LW w (w9.drewN qa) s9 vs8 B9 3 2 := H9.out.1.by (below_drewN (Below.refl _ _) qa)
  have cR := vReadT_any 3 vs8 (w9.drewN qa) hLa.ci.vi (by rw [H8.out.2.2.2.1]; omega)
  rw [H8.out.2.2.2.2.2, H8.out.2.2.2.2.1] at cR
  go_wp2_with (go_at_call 26; refine cR.mono ?_; rintro e wb ⟨gb, cpb, rfl, _, _, hbb, hBb, _, _⟩; clear cR; refine Stop.out ?_)
  refine Stop.mk ?_
  have hLb := hLa.by hBb
  obtain ⟨g', o', e', hxb⟩ := hbb (by omega)
  cases e'
  have xb : wb.cell? ⟨gb, 0, none⟩ = some (.int .u8 120) := by
    have := hxb 0 120 hD0
    simpa [u8v] using this
  have cH3 := has_cache s9 vs8 B9 3 wb hLb.ci (by omega) (by omega) false (by rw [H9.out.2.1]; rfl)
  have cH4 := has_cache s9 vs8 B9 4 wb hLb.ci (by omega) (by omega) true (by rw [H9.out.2.1]; rfl)
  rw [H9.out.2.2] at cH3 cH4
  have HLb : Hid (Below w.heap.size w wb) := hLb.below
  have tk1 : True := trivial
  clear hLb hLa hxb hbb hBb
  go_wp2_with (first
    | (go_at_call 28; have tk := tk1; clear tk1; refine Calls_on cH3 ?_)
    | (go_at_call 28; refine Calls_on cH4 ?_))
  go_ret
  exact ⟨rfl, HLb.out⟩

end Go.Proofs.YtdepdcndfofknaaGreatDoor

/-
  CacheNone of the law of package bcache.
-/
namespace Go.Proofs.YtdepdcndfofknaaGreatDoor
open Go.RowKit Go.Maps Go.Sort Go.Shelf

theorem bmeet_nil (x : Int) (w : World) : Calls Tryz.prog 45 #[.pointer none, .int .i64 x] w fun e w' => e = .returned (.tuple #[.pointer none, .int .i64 22]) ∧ w' = w := by
  go_enter Tryz.func45, Tryz.ntmps45
  go_wp2
  go_ret2
  exact ⟨rfl, rfl⟩
theorem bget_nil (x : Int) (w : World) : Calls Tryz.prog 12 #[.pointer none, .int .i64 x] w fun e w' => e = .returned (.tuple #[.slice none 0 0, .int .i64 22]) ∧ w' = w := by
  have c1 := bmeet_nil x w
  go_enter Tryz.func12, Tryz.ntmps12
  go_wp2_with (go_at_call 45; refine Calls_on c1 ?_)
  go_ret2
  exact ⟨rfl, rfl⟩
theorem bpin_nil (x : Int) (w : World) : Calls Tryz.prog 14 #[.pointer none, .int .i64 x] w fun e w' => e = .returned (.int .i64 22) ∧ w' = w := by
  have c1 := bmeet_nil x w
  go_enter Tryz.func14, Tryz.ntmps14
  go_wp2_with (go_at_call 45; refine Calls_on c1 ?_)
  go_ret
  exact ⟨rfl, rfl⟩
theorem bunpin_nil (x : Int) (w : World) : Calls Tryz.prog 16 #[.pointer none, .int .i64 x] w fun e w' => e = .returned (.int .i64 22) ∧ w' = w := by
  go_enter Tryz.func16, Tryz.ntmps16
  go_wp2
  go_ret
  exact ⟨rfl, rfl⟩
theorem bput_nil (x : Int) (v : Value) (w : World) : Calls Tryz.prog 19 #[.pointer none, .int .i64 x, v] w fun e w' => e = .returned (.int .i64 22) ∧ w' = w := by
  go_enter Tryz.func19, Tryz.ntmps19
  go_wp2
  go_ret
  exact ⟨rfl, rfl⟩
theorem bcommit_nil (w : World) : Calls Tryz.prog 21 #[.pointer none] w fun e w' => e = .returned (.int .i64 22) ∧ w' = w := by
  go_enter Tryz.func21, Tryz.ntmps21
  go_wp2
  go_ret
  exact ⟨rfl, rfl⟩
theorem bdrop_nil (w : World) : Calls Tryz.prog 23 #[.pointer none] w fun e w' => e = .returned (.tuple #[]) ∧ w' = w := by
  go_enter Tryz.func23, Tryz.ntmps23
  go_wp2
  refine bodyPost_ret (results_none rfl _ _ _) rfl ?_
  exact ⟨rfl, rfl⟩
theorem bhas_nil (x : Int) (w : World) : Calls Tryz.prog 28 #[.pointer none, .int .i64 x] w fun e w' => e = .returned (.bool false) ∧ w' = w := by
  go_enter Tryz.func28, Tryz.ntmps28
  go_wp2
  go_ret
  exact ⟨rfl, rfl⟩
theorem bcounts_nil (w : World) : Calls Tryz.prog 27 #[.pointer none] w fun e w' => e = .returned (.tuple #[.int .i64 0, .int .i64 0, .int .i64 0]) ∧ w' = w := by
  go_enter Tryz.func27, Tryz.ntmps27
  go_wp2
  go_ret3
  exact ⟨rfl, rfl⟩
theorem bheld_nil (w : World) : Calls Tryz.prog 29 #[.pointer none] w fun e w' => e = .returned (.slice none 0 0) ∧ w' = w := by
  go_enter Tryz.func29, Tryz.ntmps29
  go_wp2
  go_ret
  exact ⟨rfl, rfl⟩

set_option maxRecDepth 8000 in
set_option maxHeartbeats 1000000 in
theorem none7_true (w : World) (ht : Tab w) : Calls Tryz.prog 4 #[] w fun e w' => e = .returned (.bool true) ∧ Below w.heap.size w w' := by
  have c1 := bget_nil 0 w
  have c2 := fun W => bcounts_nil W
  have c3 := fun W => bdrop_nil W
  have c4 := begun7_true w ht
  have c5 := fun W => bpin_nil 0 W
  have c6 := fun W => bunpin_nil 0 W
  have c7 := fun W v => bput_nil 0 v W
  have c8 := fun W => bcommit_nil W
  have c9 := fun W => bhas_nil 0 W
  have ca := fun W => bheld_nil W
  have cb := fun W => new_none 5 (.pointer none) (.inl rfl) W (.inl rfl)
  clear ht
  go_enter Tryz.func4, Tryz.ntmps4
  go_wp2_with (first
    | (go_at_call 12; refine Calls_on c1 ?_)
    | (go_at_call 27; refine Calls_on (c2 _) ?_)
    | (go_at_call 23; refine Calls_on (c3 _) ?_)
    | (go_at_call 9; refine c4.mono ?_; rintro e w2 ⟨rfl, hB2⟩; clear c4)
    | (go_at_call 14; refine Calls_on (c5 _) ?_)
    | (go_at_call 16; refine Calls_on (c6 _) ?_)
    | (go_at_call 19; refine Calls_on (c7 _ _) ?_)
    | (go_at_call 21; refine Calls_on (c8 _) ?_)
    | (go_at_call 28; refine Calls_on (c9 _) ?_)
    | (go_at_call 29; refine Calls_on (ca _) ?_)
    | (go_at_call 11; refine Calls_on (cb _) ?_))
  go_ret
  exact ⟨rfl, hB2⟩

end Go.Proofs.YtdepdcndfofknaaGreatDoor

namespace Go.Proofs.YtdepdcndfofknaaGreatDoor
open Go.ChangeShapes Go.WideShapes Go.ChangeAt Go.RowKit

theorem bnone_contract (H : Type) (enc : TypeId × Value → H) (W : World) (args : Array Value) (ds gs : List (DataW H)) (before : List MemPlace)
    (hW : DataW.Whole enc Tryz.prog Tryz.f4.params.toList Rows.cacheNoneSpec.vars false W args.toList ds gs before) (hL : laidMetH Tryz.prog Rows.cacheNoneRow.laid W) :
    Calls Tryz.prog 4 args W fun e W' => ∃ v, e = .returned v ∧ Rows.cacheNoneSpec.post enc Tryz.prog Tryz.f4 false true false false W args v W' := by
  have hW' := hW
  obtain ⟨p, q, hA0, hV, rfl, hfz, hnd⟩ := hW
  have hA : DataW.TrodAll enc Tryz.prog W 0 (fun _ => true) true Tryz.f4.params.toList args.toList ds p := hA0
  rw [Tryz.params4] at hA
  obtain ⟨hargs, rfl, rfl⟩ := trodAll_nil hA
  obtain rfl : args = #[] := by cases args; simp_all
  obtain ⟨rfl, rfl⟩ := trodVars_none hV
  clear hA0
  simp only [List.append_nil] at hW'
  refine (none7_true W (tab_of_laid hL)).mono fun e W' ⟨he, bel⟩ => ?_
  subst he
  exact ⟨_, rfl, _, _, _, [], [], [], hW', trodAll_mk1 (shut_bool Tryz.underlying4 _), rfl, rfl, bel.frame _, fun h => by cases h⟩

theorem bnone_laid_met (os : Os) : laidMet Tryz.prog Rows.cacheNoneRow.laid ((World.doorLaid Tryz.prog 400 os).forCall (fun _ _ => 0) ⟨#[], #[], []⟩).memory :=
  laidMet_of_run' 20 (by kernel_rfl) (by kernel_rfl)
theorem bnone_reads (os : Os) {H : Type} (enc : TypeId × Value → H) : ∃ places, DataW.whole enc Tryz.prog ((World.doorLaid Tryz.prog 400 os).forCall (fun _ _ => 0) ⟨#[], #[], []⟩).memory Tryz.f4.params.toList Rows.cacheNoneSpec.vars false (#[] : Array Value).toList 8 = some ([], [], places) :=
  ⟨[], by kernel_rfl⟩

set_option maxRecDepth 100000 in
theorem bnone_lifted (os : Os) (started : os.Started) (H : Type) (enc : TypeId × Value → H) (F : Stop.Interp) :
    ReturnsInHanded {} Tryz.checked os 4 .any ((OpenSpec.ofChange Rows.cacheNoneSpec).preRow enc Tryz.prog Tryz.f4 Rows.cacheNoneRow.domain false Rows.cacheNoneRow.laid) (((OpenSpec.ofChange Rows.cacheNoneSpec).at F).post enc Tryz.prog Tryz.f4 false true false false) := by
  obtain ⟨places, hx⟩ := bnone_reads os enc
  refine returnsInHanded_of_row (C := Tryz.checked) (s := OpenSpec.ofChange Rows.cacheNoneSpec) own started (by kernel_rfl) Tryz.func4
    (witness_row_at (enc := enc) (C := Tryz.checked) false (World.doorLaid Tryz.prog 400 os) #[] rfl (by kernel_rfl) (by kernel_rfl) (by kernel_rfl)
      (OpenSpec.preRow_of_cond 8 hx (by kernel_rfl) (fun k hk => by cases hk) (by kernel_rfl) (bnone_laid_met os))) ?_
  intro W base args ds gs before hval hW _ _ _ hL _ _
  exact bnone_contract H enc W args ds gs before hW hL

theorem bnone_said : Rows.CacheNoneSaid :=
  OpenClaim.holds_of_cond 4 Tryz.f4 rfl rfl rfl rfl rfl rfl rfl ⟨rfl, rfl, rfl, rfl, rfl⟩ rfl rfl rfl rfl rfl (by kernel_rfl) Tryz.func4 (by kernel_rfl)
    (of_decide_eq_true (by kernel_rfl)) (by unfold Func.isWrapper; first | (rw [if_pos (by decide +kernel)]; kernel_rfl) | (rw [if_neg (by decide +kernel)]; exact ⟨rfl, rfl⟩))
    (fun os started H enc _ F => by rw [OpenClaim.pre_eq_preRow]; exact bnone_lifted os started H enc F)

theorem bnone_plain (f : FuncId) (fn : Func) (hf : Tryz.pinned.checked.prog.funcNamed "lagoon/lagoonlaw7.CacheNone" = some f) (hfn : Tryz.pinned.checked.prog.funcs[f]? = some fn) :
    true = Tryz.pinned.checked.prog.looks [] ∧ ∀ (j : Nat) t, fn.params[j]? = some t → Tryz.pinned.checked.prog.wantsStandIn t = false := by
  obtain rfl : f = 4 := Option.some.inj ((show Tryz.prog.funcNamed "lagoon/lagoonlaw7.CacheNone" = some 4 by kernel_rfl).symm.trans hf) |>.symm
  obtain rfl : fn = Tryz.f4 := (Option.some.inj (Tryz.func4.symm.trans hfn)).symm
  refine ⟨by kernel_rfl, fun j t ht => ?_⟩
  rw [Tryz.params4] at ht
  simp at ht

theorem cacheNone_holds : Rows.CacheNoneCardSaid :=
  Claim7.holds_tied_plain_at .later [] _ _ _ _ bnone_said (fun _ h => by cases h) (by kernel_rfl) (fun _ h => by cases h) cacheNone_row_tie rfl ⟨rfl, rfl⟩ (by kernel_rfl) rfl bnone_plain (by kernel_rfl)

#print axioms cacheNone_holds
end Go.Proofs.YtdepdcndfofknaaGreatDoor
