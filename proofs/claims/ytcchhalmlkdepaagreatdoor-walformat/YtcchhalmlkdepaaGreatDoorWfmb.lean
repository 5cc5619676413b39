/-
  WalFormat of the law, where the device may be formatted.
-/
import Derived.Test.YtcchhalmlkdepaaGreatDoorWread
import Derived.Test.YtcchhalmlkdepaaGreatDoorWfma
import Derived.Test.YtcchhalmlkdepaaGreatDoorWbegun
import Derived.BigRegion

/-
  Read of package wal, of a block that the log doesn't hold; and of one that isn't there.
-/
namespace Go.Proofs.YtcchhalmlkdepaaGreatDoor
open Go.RowKit Go.Maps Go.Sort Go.Shelf

set_option maxRecDepth 8000 in
set_option maxHeartbeats 1000000 in
theorem vRead_home (i : Nat) (v : Nat) (commits turn next : Nat) (f nf : Nat) (F : DataW Value) (fr : Nat → Option By) (d : DS) (w : World) (h : IsVol w v (dp d.a) commits turn next (some f) d.count) (hd : Dev w d) (hn : 16 ≤ d.n) (hF : Fresh w f nf F fr) (hi : i < nbOf d.n) (hfr : fr i = none) :
    Calls Tryz.prog 21 #[dp v, .int .i64 i] w fun e w' => ∃ g, e = .returned (.tuple #[.slice (some ⟨g, 0, none⟩) 512 512, .int .i64 0]) ∧ Bytes w' (some ⟨g, 0, none⟩) (d.B (1 + i)) ∧ Below w.heap.size w w' ∧ w.heap.size ≤ g := by
  have hle := hd.hn
  have hnb : nbOf d.n ≤ 65536 := by unfold nbOf; omega
  have hin : 1 + i < d.n := by unfold nbOf at hi; omega
  have c47 := vHas i v commits turn next (some f) d.count d w h hd hn
  rw [show decide ((0 : Int) ≤ (i : Int) ∧ (i : Int) < (nbOf d.n : Nat)) = true by simp; omega] at c47
  have c13 := catchUp_idle v commits turn next (some f) d w h hd
  have c16 := fun W => homeOf_any i W (by omega)
  have HD : Hid (Dev w d) := hd
  have hhas := hF.has i (by omega)
  rw [hfr] at hhas
  have lk : ∀ k, ∃ p n c, (Instr.lookup 66 (.map (some f)) (.int .i64 i) true).run Tryz.prog (w.drewN k) = .ok (.tuple #[.slice p n c, .bool false]) (w.drewN k) := by
    intro k
    have hown : (w.drewN k).ownsMap Tryz.prog 3 slElem f nf F := hF.own
    obtain ⟨p, n, c, hrun, he⟩ := slook_ok hown (i := i) (by omega)
    rw [hhas] at hrun
    exact ⟨p, n, c, hrun⟩
  have x4 : ∀ k, (w.drewN k).cell? ⟨v, 4, none⟩ = some (.map (some f)) := fun k => by have := cellOf h 4; simpa [volCells] using this
  have x0 : ∀ k, (w.drewN k).cell? ⟨v, 0, none⟩ = some (dp d.a) := fun k => by have := cellOf h 0; simpa [volCells] using this
  clear h hd hF hhas hfr
  go_enter Tryz.func21, Tryz.ntmps21
  go_wp2_with (first
    | (go_at_call 44; refine Calls_on c47 ?_)
    | (go_at_call 25; refine c13.mono ?_; rintro e w1 ⟨rfl, k1, rfl⟩; clear c13; obtain ⟨p, n, c, lk'⟩ := lk k1; have x4' := x4 k1; clear lk x4))
  obtain ⟨W3, hW3⟩ : ∃ W3, W3 = w.drewN k1 := ⟨_, rfl⟩
  have x0' : W3.drew.cell? ⟨v, 0, none⟩ = some (dp d.a) := by rw [hW3]; exact x0 k1
  have c15' := dev_read d (1 + i) W3.drew (by rw [hW3]; exact (HD.out.drewN k1).drew) hin
  have B3 : Below w.heap.size w W3.drew := by rw [hW3]; exact (below_drewN (Below.refl _ w) k1).drew
  rw [← hW3]
  clear hW3 x0 x4' lk'
  go_region_with (first
    | (go_at_call 47; refine Calls_on (c16 _) ?_)
    | (go_at_call 46; refine c15'.mono ?_; rintro e w2 ⟨rfl, hb2, hB2⟩))
  all_goals go_wp2
  all_goals go_ret2
  all_goals exact ⟨_, rfl, bytes_block hb2, B3.trans (hB2.mono B3.size), B3.size⟩

set_option maxRecDepth 8000 in
set_option maxHeartbeats 1000000 in
theorem vRead_no (i : Int) (v : Nat) (commits turn next : Nat) (f : Option Nat) (count : Int) (d : DS) (w : World) (h : IsVol w v (dp d.a) commits turn next f count) (hd : Dev w d) (hn : 16 ≤ d.n) (hi : ¬ (0 ≤ i ∧ i < nbOf d.n)) :
    Calls Tryz.prog 21 #[dp v, .int .i64 i] w fun e w' => e = .returned (.tuple #[.slice none 0 0, .int .i64 22]) ∧ w' = w := by
  have c47 := vHas i v commits turn next f count d w h hd hn
  rw [show decide ((0 : Int) ≤ i ∧ i < (nbOf d.n : Nat)) = false from decide_eq_false hi] at c47
  clear h hd
  go_enter Tryz.func21, Tryz.ntmps21
  go_wp2_with (go_at_call 44; refine Calls_on c47 ?_)
  go_ret2
  exact ⟨rfl, rfl⟩

end Go.Proofs.YtcchhalmlkdepaaGreatDoor

/-
  WalFormat of the law.
-/
namespace Go.Proofs.YtcchhalmlkdepaaGreatDoor
open Go.RowKit Go.Maps Go.Sort Go.Shelf

/-- begun, in memory that was added to. -/
theorem begun_on {w W : World} (ht : Tab w) (hW : Below w.heap.size w W) : Calls Tryz.prog 6 #[] W fun e w' => e = .returned (.bool true) ∧ Below w.heap.size w w' :=
  (begun_true W (below_tab hW ht.lt ht)).mono fun _ _ ⟨h1, h2⟩ => ⟨h1, hW.trans (h2.mono hW.size)⟩

set_option maxRecDepth 8000 in
set_option maxHeartbeats 1000000 in
theorem format_out (blocks fuse : Int) (p : Option Addr) (l c : Nat) (w : World) (ht : Tab w) (h : blocks < 0 ∨ 100 < blocks ∨ fuse < 0) :
    Calls Tryz.prog 4 #[.int .i64 blocks, .int .i64 fuse, .slice p l c] w fun e w' => e = .returned (.bool true) ∧ Below w.heap.size w w' := by
  have c1 := begun_true w ht
  clear ht
  by_cases h1 : blocks < 0
  · clear h
    go_enter Tryz.func4, Tryz.ntmps4
    go_wp2_with (go_at_call 6; refine c1.mono ?_; rintro e w1 ⟨rfl, hB1⟩; clear c1)
    go_ret
    exact ⟨rfl, hB1⟩
  · by_cases h2 : 100 < blocks
    · clear h
      have h2' : blocks > 100 := h2
      go_enter Tryz.func4, Tryz.ntmps4
      go_wp2_with (go_at_call 6; refine c1.mono ?_; rintro e w1 ⟨rfl, hB1⟩; clear c1)
      go_ret
      exact ⟨rfl, hB1⟩
    · have h3 : fuse < 0 := by omega
      have h2' : ¬ blocks > 100 := h2
      clear h
      go_enter Tryz.func4, Tryz.ntmps4
      go_wp2_with (go_at_call 6; refine c1.mono ?_; rintro e w1 ⟨rfl, hB1⟩; clear c1)
      go_ret
      exact ⟨rfl, hB1⟩

set_option maxRecDepth 8000 in
set_option maxHeartbeats 1000000 in
theorem format_none (fuse : Int) (p : Option Addr) (l c : Nat) (w : World) (ht : Tab w) (h3 : ¬ fuse < 0) :
    Calls Tryz.prog 4 #[.int .i64 0, .int .i64 fuse, .slice p l c] w fun e w' => e = .returned (.bool true) ∧ Below w.heap.size w w' := by
  have c1 := begun_true w ht
  have c2 := fun W => new_no 0 W (by omega)
  have c3 := fun W => mount_nil W
  have c4 := fun W => format_nil W
  clear ht
  go_enter Tryz.func4, Tryz.ntmps4
  go_wp2_with (first
    | (go_at_call 6; refine c1.mono ?_; rintro e w1 ⟨rfl, hB1⟩; clear c1)
    | (go_at_call 16; refine Calls_on (c2 _) ?_)
    | (go_at_call 14; refine (c3 _).mono ?_; rintro e w2 ⟨rfl, hB2⟩; clear c3)
    | (go_at_call 17; refine (c4 _).mono ?_; rintro e w3 ⟨rfl, hB3⟩; clear c4))
  go_ret
  exact ⟨rfl, (hB1.trans (hB2.mono hB1.size)).trans (hB3.mono (Nat.le_trans hB1.size hB2.size))⟩

set_option maxRecDepth 8000 in
set_option maxHeartbeats 1000000 in
theorem format_few (n : Nat) (fuse : Int) (p : Option Addr) (l c : Nat) (w : World) (ht : Tab w) (h1 : 1 ≤ n) (h2 : n < 16) (h3 : ¬ fuse < 0) :
    Calls Tryz.prog 4 #[.int .i64 n, .int .i64 fuse, .slice p l c] w fun e w' => e = .returned (.bool true) ∧ Below w.heap.size w w' := by
  have c1 := begun_true w ht
  have c2 := fun W => dev_new n W h1 (by omega)
  have i1 : ¬ (n : Int) < 0 := by omega
  have i2 : ¬ (n : Int) > 100 := by omega
  have i3 : (n : Int) < 16 := by omega
  clear ht
  go_enter Tryz.func4, Tryz.ntmps4
  go_wp2_with (first
    | (go_at_call 6; refine c1.mono ?_; rintro e w1 ⟨rfl, hB1⟩; clear c1)
    | (go_at_call 16; refine (c2 _).mono ?_; rintro e w2 ⟨a, s, c', m, rfl, hd2, hB2, _⟩; clear c2; refine Stop.out ?_))
  refine Stop.mk ?_
  obtain ⟨d2, hdd⟩ : ∃ d2, d2 = newDS a s c' m n := ⟨_, rfl⟩
  have ea2 : d2.a = a := by rw [hdd]; rfl
  have en2 : d2.n = n := by rw [hdd]; rfl
  rw [← hdd] at hd2
  clear hdd
  have c3 := mount_small d2 w2 hd2 (by omega)
  have c4 : ∀ W, Below w2.heap.size w2 W → Calls Tryz.prog 17 #[dp d2.a] W fun e w' => e = .returned (.int .i64 22) ∧ Below W.heap.size W w' := fun W hW => format_small d2 W (hd2.below hW) (by omega)
  rw [ea2] at c3 c4
  clear hd2
  go_wp2_with (first
    | (go_at_call 14; refine c3.mono ?_; rintro e w3 ⟨rfl, hB3⟩; clear c3; have c4' := c4 w3 hB3; clear c4)
    | (go_at_call 17; refine c4'.mono ?_; rintro e w4 ⟨rfl, hB4⟩; clear c4'))
  go_ret
  have b2 := hB1.trans (hB2.mono hB1.size)
  have b3 := b2.trans (hB3.mono b2.size)
  exact ⟨rfl, b3.trans (hB4.mono b3.size)⟩

end Go.Proofs.YtcchhalmlkdepaaGreatDoor

namespace Go.Proofs.YtcchhalmlkdepaaGreatDoor
open Go.RowKit Go.Maps Go.Sort Go.Shelf

theorem make_run (w : World) (n : Nat) (hn : n ≤ 2000000) : ∃ w', (Instr.makeSlice 54 (.int .i64 n) (.int .i64 n)).run Tryz.prog w = .ok (.slice (some ⟨w.heap.size, 0, none⟩) n n) w' ∧
    Bytes w' (some ⟨w.heap.size, 0, none⟩) (List.replicate n 0#8) ∧ Below w.heap.size w w' := by
  obtain ⟨i0, hi0, hz0, hz1, hz2⟩ := info_parts Tryz.info5
  obtain ⟨w', h1, h2, h3⟩ := run_make_full (P := Tryz.prog) w 0 54 5 i0 (.int .u8 0) 1 Tryz.underlying54 hi0 hz0 hz1 .i64 .i64 n (by rw [hz2]; omega) (by unfold maxLen; omega) (Nat.zero_le _)
  refine ⟨w', h1, bytes_block (f := (0, 0)) ?_, (Below.refl _ w).grown h3 (Nat.le_refl _) (by simp)⟩
  rw [made_rep h2, List.map_replicate]
  rfl

set_option maxRecDepth 8000 in
set_option maxHeartbeats 8000000 in
theorem format_many (n : Nat) (fuse : Int) (p : Option Addr) (c : Nat) (ks : List Bool) (w : World) (ht : Tab w) (h1 : 16 ≤ n) (h2 : n ≤ 100) (h3 : 0 ≤ fuse) (h4 : fuse ≤ 9223372036854775807) (hl : ks.length < 9223372036854775808) (hks : Bools w p ks) :
    Calls Tryz.prog 4 #[.int .i64 n, .int .i64 fuse, .slice p ks.length c] w fun e w' => e = .returned (.bool true) ∧ Below w.heap.size w w' := by
  have c1 := begun_true w ht
  have c2 := fun W => dev_new n W (by omega) (by omega)
  have i1 : ¬ (n : Int) < 0 := by omega
  have i2 : ¬ (n : Int) > 100 := by omega
  have i3 : ¬ (n : Int) < 16 := by omega
  have i4 : ¬ fuse < 0 := by omega
  have HT : Hid (Tab w) := ht
  have HK : Hid (Bools w p ks) := hks
  clear ht hks
  go_enter Tryz.func4, Tryz.ntmps4
  go_wp2_with (first
    | (go_at_call 6; refine c1.mono ?_; rintro e w1 ⟨rfl, hB1⟩; clear c1)
    | (go_at_call 16; refine (c2 _).mono ?_; rintro e w2 ⟨a, s, c', m, rfl, hd2, hB2, ha2, hs2, hm2⟩; clear c2; refine Stop.out ?_))
  refine Stop.mk ?_
  have b2 : Below w.heap.size w w2 := hB1.trans (hB2.mono hB1.size)
  have ht2 : Tab w2 := below_tab b2 HT.out.lt HT.out
  obtain ⟨d2, hdd⟩ : ∃ d2, d2 = newDS a s c' m n := ⟨_, rfl⟩
  have ea2 : d2.a = a := by rw [hdd]; rfl
  have en2 : d2.n = n := by rw [hdd]; rfl
  have eD2 : d2.D = .map [] := by rw [hdd]; rfl
  have ec2 : d2.count = 0 := by rw [hdd]; rfl
  have eB2 : ∀ i, d2.B i = zeroB := fun i => by rw [hdd]; rfl
  have ex2 : d2.dead = false := by rw [hdd]; rfl
  have lo2 : ∀ k, d2.mine k → w.heap.size ≤ k := by
    have := hB1.size
    rw [hdd]
    rintro k (rfl | rfl | rfl)
    · exact Nat.le_trans this ha2
    · exact Nat.le_trans this hs2
    · exact Nat.le_trans this hm2
  rw [← hdd] at hd2
  have c3 := mount_none d2 w2 hd2 ht2 (by omega) ex2 (by rw [eB2]; exact opened_zero)
  rw [ea2] at c3
  have H2 : Hid (Below w.heap.size w w2 ∧ Tab w2 ∧ Dev w2 d2 ∧ ∀ k, d2.mine k → w.heap.size ≤ k) := ⟨b2, ht2, hd2, lo2⟩
  clear b2 ht2 hd2 lo2 hB1 hB2 ha2 hs2 hm2 hdd
  go_wp2_with (go_at_call 14; refine c3.mono ?_; rintro e w3 ⟨rfl, hB3⟩; clear c3; refine Stop.out ?_)
  refine Stop.mk ?_
  have c4 := dev_fuse d2 (fuse % 40) w3 (H2.out.2.2.1.below hB3) ex2 (by omega)
  rw [ea2] at c4
  have H3 : Hid (Below w2.heap.size w2 w3) := hB3
  clear hB3
  go_wp2_with (go_at_call 18; refine c4.mono ?_; rintro e w4 ⟨rfl, hd4, hb4⟩; clear c4; refine Stop.out ?_)
  refine Stop.mk ?_
  obtain ⟨b2, ht2, hd2, lo2⟩ := H2.out
  have b3 : Below w.heap.size w w3 := b2.trans (H3.out.mono b2.size)
  have ht3 : Tab w3 := below_tab H3.out ht2.lt ht2
  have hd3 := hd2.below H3.out
  have ht4 : Tab w4 := hb4.tab ht3 (hd3.noTab ht3)
  have b4 : Below w.heap.size w w4 := b3.trans (hb4.below b3.size lo2)
  have c5 := format_fused (d2.fusedBy (fuse % 40)) w4 hd4 ht4 (by show 16 ≤ d2.n; omega) (fun i _ => eB2 i) eD2 (by show d2.count < _; omega)
  rw [show (d2.fusedBy (fuse % 40)).a = a from ea2] at c5
  have H4 : Hid (Below w.heap.size w w4 ∧ Tab w4 ∧ Dev w4 (d2.fusedBy (fuse % 40)) ∧ ∀ k, (d2.fusedBy (fuse % 40)).mine k → w.heap.size ≤ k) := ⟨b4, ht4, hd4, lo2⟩
  clear b2 ht2 hd2 lo2 b3 ht3 hd3 ht4 b4 hd4 hb4 H2 H3
  go_wp2_with (go_at_call 17; refine c5.mono ?_; rintro e w5 ⟨z, d5, rfl, hb5, hn5, hd5, hdn5, hE⟩; clear c5; refine Stop.out ?_)
  refine Stop.mk ?_
  obtain ⟨b4, ht4, hd4, lo4⟩ := H4.out
  have b5 : Below w.heap.size w w5 := b4.trans (hb5.below b4.size lo4)
  have ht5 : Tab w5 := hb5.tab ht4 (hd4.noTab ht4)
  have ea5 : d5.a = a := hn5.a.trans ea2
  have c6 := keeper_any p ks.length c w5
  obtain ⟨w6, hw6⟩ : ∃ w6, w6 = w5.alloc (.cells #[.slice p ks.length c] 47) := ⟨_, rfl⟩
  rw [← hw6] at c6
  have hB6 : Below w5.heap.size w5 w6 := by rw [hw6]; exact (Below.refl _ w5).alloc (Nat.le_refl _) _
  have hg6 : w6.heap[w5.heap.size]? = some (.cells #[.slice p ks.length c] 47 (0, 0)) := by rw [hw6]; exact heap_alloc_new w5 _
  have b6 : Below w.heap.size w w6 := b5.trans (hB6.mono b5.size)
  have ht6 : Tab w6 := below_tab hB6 ht5.lt ht5
  have c7 := crash_found w5.heap.size p c ks (d2.fusedBy (fuse % 40)) d5 z w5 w6 (hd5.below hB6) hdn5 hB6 (fun i _ => eB2 i) (by show 1 ≤ d2.n; omega) hE hg6 hl (HK.out.below b6 (Nat.le_refl _))
  rw [ea5] at c7
  have H6 : Hid (Below w.heap.size w w6 ∧ Tab w6) := ⟨b6, ht6⟩
  clear b4 ht4 hd4 lo4 b5 ht5 hb5 hn5 hd5 hdn5 hE hB6 hg6 b6 ht6 H4 HK hw6
  go_wp2_with (first
    | (go_at_call 19; refine c6.mono ?_; rintro e w6' ⟨rfl, hw6'⟩; subst hw6'; clear c6)
    | (go_at_call 15; refine c7.mono ?_; rintro e w7 ⟨d7, rfl, hF⟩; clear c7; refine Stop.out ?_))
  refine Stop.mk ?_
  have en7 : d7.n = n := hF.eqn.trans en2
  have b7 : Below w.heap.size w w7 := H6.out.1.trans (hF.below.mono H6.out.1.size)
  have ht7 : Tab w7 := below_tab hF.below H6.out.2.lt H6.out.2
  have hW := hF.what
  rcases hW with ⟨rfl, ho⟩ | ⟨hz, hb0, hzz⟩
  · have c8 := mount_none d7 w7 hF.dev ht7 (by omega) hF.dead ho
    have H7 : Hid (Below w.heap.size w w7) := b7
    clear hF b7 ht7 H6
    go_wp2_with (go_at_call 14; refine c8.mono ?_; rintro e w8 ⟨rfl, hB8⟩; clear c8)
    go_ret
    exact ⟨rfl, H7.out.trans (hB8.mono H7.out.size)⟩
  · have c8 := mount_zeros _ d7 _ w7 z hF ht7 (by show 16 ≤ d2.n; omega) hb0 hzz
    have hd7 := hF.dev
    have hB1 : d7.B 1 = zeroB := hzz 1 (by omega) (by show 1 < d2.n; omega)
    have hnb : nbOf d7.n = nbOf n := by rw [en7]
    have e1 : ((n : Int) - 8) / 4 = (nbOf n : Int) := by unfold nbOf; omega
    have e2 : Int.tdiv ((n : Int) - 8) 4 = (nbOf n : Int) := by rw [Int.tdiv_eq_ediv_of_nonneg (by omega)]; unfold nbOf; omega
    have H7 : Hid (Below w.heap.size w w7 ∧ Dev w7 d7) := ⟨b7, hd7⟩
    clear hF b7 ht7 H6 hd7 hb0 hzz
    have TAIL : True := trivial
    rcases hz with rfl | rfl
    all_goals
      go_wp2_with (go_at_call 14; refine c8.mono ?_; rintro e w8 ⟨v, f, rfl, hM⟩; clear c8; refine Stop.out ?_)
      refine Stop.mk ?_
      have hd8 := H7.out.2.below hM.below
      have b8 : Below w.heap.size w w8 := H7.out.1.trans (hM.below.mono H7.out.1.size)
      obtain ⟨F, hFr⟩ := hM.fr
      have cB := vBlocks v 0 1 d7.n (some f) d7.count d7 w8 hM.vol hd8 (by omega)
      rw [hnb] at cB
      have cC := vCommits v 0 1 d7.n (some f) d7 w8 hM.vol hd8
      have cR := fun k => vRead_home 0 v 0 1 d7.n f _ F _ d7 (w8.drewN k) hM.vol (hd8.drewN k) (by omega) (hFr.below (below_drewN (Below.refl _ w8) k)) (by unfold nbOf; omega) rfl
      have H8 : Hid (Below w.heap.size w w8) := b8
      clear hM hd8 b8 hFr H7
      go_wp2_with (first
        | (go_at_call 20; refine Calls_on cB ?_)
        | (go_at_call 12; refine cC.mono ?_; rintro e w9 ⟨rfl, k9, rfl⟩; clear cC; have cR' := cR k9; clear cR)
        | (go_at_call 21; refine (show Calls Tryz.prog 21 #[dp v, .int .i64 0] _ _ from cR').mono ?_; rintro e wa ⟨g, rfl, hx, hBa, _⟩; clear cR'; refine Stop.out ?_))
      refine Stop.mk ?_
      have hx' : Bytes wa (some ⟨g, 0, none⟩) zeroB := by rw [← hB1]; exact hx
      have ba : Below w.heap.size w wa := (below_drewN H8.out k9).trans (hBa.mono H8.out.size)
      have hxd : Bytes wa.drew (some ⟨g, 0, none⟩) zeroB := hx'
      have bd : Below w.heap.size w wa.drew := ba.drew
      obtain ⟨we, hmk0, hxe0, hBe⟩ := make_run wa.drew 512 (by omega)
      have hmk : (Instr.makeSlice 54 (.int .i64 512) (.int .i64 512)).run Tryz.prog wa.drew = .ok (.slice (some ⟨wa.heap.size, 0, none⟩) 512 512) we := hmk0
      have hxe : Bytes we (some ⟨wa.heap.size, 0, none⟩) zeroB := hxe0
      have r1 := run_str wa.drew (some ⟨g, 0, none⟩) zeroB 512 hxd
      have r2 := run_str we (some ⟨g, 0, none⟩) zeroB 512 (below_bytes hBe hxd)
      have r3 := run_str we (some ⟨wa.heap.size, 0, none⟩) zeroB 512 hxe
      rw [zeroB_length] at r1 r2 r3
      have HE : Hid (Below w.heap.size w we) := bd.trans (hBe.mono bd.size)
      clear hx hx' hxd ba bd hxe hBe hBa H8 hmk0 hxe0
      generalize strOf zeroB = sz at *
      go_wp2_with fail
      go_region
      all_goals go_wp2
      all_goals go_ret
      all_goals exact ⟨by simp, HE.out⟩

end Go.Proofs.YtcchhalmlkdepaaGreatDoor
