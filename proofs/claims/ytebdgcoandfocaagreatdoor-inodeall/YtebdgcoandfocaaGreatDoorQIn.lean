/-
  Package inode: Write, as far as its walk and its puts.
-/
import Derived.Test.YtebdgcoandfocaaGreatDoorKIl
import Derived.Test.YtebdgcoandfocaaGreatDoorQUt
import Derived.Test.YtebdgcoandfocaaGreatDoorQXe

/-
  Package inode: a change of one block, taken, is done; the inode becomes what it is to be.
-/
namespace Go.Proofs.YtebdgcoandfocaaGreatDoor
open Go.RowKit Go.Maps Go.Sort Go.Shelf

theorem set_free (r : Nat) (m : Bm.MS) (w : World) (hm : Bm.MapAt w m) (hr : r < m.n) (hu : Bm.used m.ws r = false) : Calls Tryz.prog 23 #[.pointer (some ⟨m.a, 0, none⟩), .int .i64 r] w fun e w' => e = .returned (.int .i64 0) ∧ Bm.MapAt w' (m.turn r) ∧ But (fun k => k = m.b) w w' := by
  refine (Bm.set_in r m w hm hr).mono ?_
  rintro e w' ⟨m2, ho, hm2, hb2⟩
  rcases ho with ⟨h, _, _⟩ | ⟨_, h, rfl⟩
  · rw [hu] at h; cases h
  · exact ⟨h, hm2, only_but hb2⟩

end Go.Proofs.YtebdgcoandfocaaGreatDoor

/-
  Package inode: an inode becomes what it is to be.
-/
namespace Go.Proofs.YtebdgcoandfocaaGreatDoor
open Go.RowKit Go.Maps Go.Sort Go.Shelf

theorem InoAt.but {w w' : World} {a sz : Nat} {ns : List (BitVec 32)} {S : Nat → Prop} (h : InoAt w a sz ns) (hb : But S w w') (hS : ¬ S a) : InoAt w' a sz ns := (hb.block a h.lt hS).trans h

theorem InoAt.setSize {w : World} {a sz : Nat} {ns : List (BitVec 32)} (h : InoAt w a sz ns) (size : Nat) : InoAt (w.setCell ⟨a, 0, none⟩ (.int .i64 (size : Nat))) a size ns := by
  unfold InoAt at *
  simp [World.setCell, Array.getElem?_modify, h, inoCells]

theorem InoAt.put {w : World} {a sz : Nat} {ns : List (BitVec 32)} (h : InoAt w a sz ns) (i j : Nat) (n : BitVec 32) (hj : 1 + i = j) : InoAt (w.setCell ⟨a, j, none⟩ (.int .u32 (n.toNat : Int))) a sz (ns.set i n) := by
  subst hj
  exact h.set i n
theorem ino_all {w : World} {a sz : Nat} (size : Nat) (n0 n1 n2 n3 n4 n5 n6 n7 n8 n9 o0 o1 o2 o3 o4 o5 o6 o7 o8 o9 : BitVec 32) (h : InoAt w a sz [o0, o1, o2, o3, o4, o5, o6, o7, o8, o9]) :
    InoAt (((((((((((w.setCell ⟨a, 0, none⟩ (.int .i64 (size : Nat))).setCell ⟨a, 1, none⟩ (.int .u32 (n0.toNat : Int))).setCell ⟨a, 2, none⟩ (.int .u32 (n1.toNat : Int))).setCell ⟨a, 3, none⟩ (.int .u32 (n2.toNat : Int))).setCell ⟨a, 4, none⟩ (.int .u32 (n3.toNat : Int))).setCell ⟨a, 5, none⟩ (.int .u32 (n4.toNat : Int))).setCell ⟨a, 6, none⟩ (.int .u32 (n5.toNat : Int))).setCell ⟨a, 7, none⟩ (.int .u32 (n6.toNat : Int))).setCell ⟨a, 8, none⟩ (.int .u32 (n7.toNat : Int))).setCell ⟨a, 9, none⟩ (.int .u32 (n8.toNat : Int))).setCell ⟨a, 10, none⟩ (.int .u32 (n9.toNat : Int))) a size [n0, n1, n2, n3, n4, n5, n6, n7, n8, n9] ∧ But (fun k => k = a) w (((((((((((w.setCell ⟨a, 0, none⟩ (.int .i64 (size : Nat))).setCell ⟨a, 1, none⟩ (.int .u32 (n0.toNat : Int))).setCell ⟨a, 2, none⟩ (.int .u32 (n1.toNat : Int))).setCell ⟨a, 3, none⟩ (.int .u32 (n2.toNat : Int))).setCell ⟨a, 4, none⟩ (.int .u32 (n3.toNat : Int))).setCell ⟨a, 5, none⟩ (.int .u32 (n4.toNat : Int))).setCell ⟨a, 6, none⟩ (.int .u32 (n5.toNat : Int))).setCell ⟨a, 7, none⟩ (.int .u32 (n6.toNat : Int))).setCell ⟨a, 8, none⟩ (.int .u32 (n7.toNat : Int))).setCell ⟨a, 9, none⟩ (.int .u32 (n8.toNat : Int))).setCell ⟨a, 10, none⟩ (.int .u32 (n9.toNat : Int))) := by
  have hh := (((((((((((h.setSize size).put 0 1 n0 rfl).put 1 2 n1 rfl).put 2 3 n2 rfl).put 3 4 n3 rfl).put 4 5 n4 rfl).put 5 6 n5 rfl).put 6 7 n6 rfl).put 7 8 n7 rfl).put 8 9 n8 rfl).put 9 10 n9 rfl)
  simp only [List.set_cons_zero, List.set_cons_succ] at hh
  refine ⟨hh, ?_⟩
  iterate 11 (refine But.setCell (S := fun k => k = a) ?_ _ rfl _)
  exact But.refl _ _

set_option maxRecDepth 8000 in
set_option maxHeartbeats 4000000 in
/-- do leaves the inode; then it is set. -/
theorem become_any (w : World) (a sz size wb ma : Nat) (ns ns' : List (BitVec 32)) (R : World → Prop) (S : Nat → Prop) (hn : InoAt w a sz ns) (hnl : ns.length = 10) (hnl' : ns'.length = 10)
    (W : World) (hW : W = w.alloc (.cells (ns'.map u32v).toArray 55)) (hD : Calls Tryz.prog 43 #[.pointer (some ⟨wb, 0, none⟩), .pointer (some ⟨ma, 0, none⟩)] W fun e w' => e = .returned (.int .i64 0) ∧ R w' ∧ But S W w') (hSa : ¬ S a) (hSn : ¬ S w.heap.size) :
    Calls Tryz.prog 27 #[.pointer (some ⟨a, 0, none⟩), .int .i64 (size : Nat), .agg (ns'.map u32v).toArray, .pointer (some ⟨wb, 0, none⟩), .pointer (some ⟨ma, 0, none⟩)] w fun e w' => e = .returned (.int .i64 0) ∧ ∃ w1, R w1 ∧ But S w w1 ∧ InoAt w' a size ns' ∧ But (fun k => k = a) w1 w' := by
  obtain ⟨n0, n1, n2, n3, n4, n5, n6, n7, n8, n9, rfl⟩ := list10 hnl'
  obtain ⟨o0, o1, o2, o3, o4, o5, o6, o7, o8, o9, rfl⟩ := list10 hnl
  obtain ⟨w1, hw1⟩ : ∃ w1, w1 = w.alloc (.cells #[u32v n0, u32v n1, u32v n2, u32v n3, u32v n4, u32v n5, u32v n6, u32v n7, u32v n8, u32v n9] 55) := ⟨_, rfl⟩
  have hB1 : Below w.heap.size w w1 := by rw [hw1]; exact (Below.refl _ w).alloc (Nat.le_refl _) _
  have hx1 : NumsAt w1 w.heap.size [n0, n1, n2, n3, n4, n5, n6, n7, n8, n9] := by rw [hw1]; exact heap_alloc_new w _
  obtain rfl : w1 = W := by rw [hw1, hW]; rfl
  have cD := hD
  have HW : Hid (InoAt w a sz [o0, o1, o2, o3, o4, o5, o6, o7, o8, o9] ∧ Below w.heap.size w w1 ∧ NumsAt w1 w.heap.size [n0, n1, n2, n3, n4, n5, n6, n7, n8, n9]) := ⟨hn, hB1, hx1⟩
  clear hD hn hB1 hx1 hW
  go_enter Tryz.func27, Tryz.ntmps27
  go_wp2_with (go_at_call 43; rw [← hw1]; refine cD.mono ?_; rintro e w2 ⟨rfl, hR2, hb2⟩; clear cD hw1; refine Stop.out ?_)
  refine Stop.mk ?_
  have hi2 : InoAt w2 a sz [o0, o1, o2, o3, o4, o5, o6, o7, o8, o9] := (HW.out.1.below HW.out.2.1 HW.out.1.lt).but hb2 hSa
  have hx2 : NumsAt w2 w.heap.size [n0, n1, n2, n3, n4, n5, n6, n7, n8, n9] := HW.out.2.2.but hb2 hSn
  have c0 := hi2.size
  have f0 : w2.frozen? ⟨a, 0, none⟩ = false := frozenOf hi2 _
  have c1 : w2.cell? ⟨a, 1, none⟩ = some (u32v o0) := hi2.num (i := 0) rfl
  have f1 : w2.frozen? ⟨a, 1, none⟩ = false := frozenOf hi2 _
  have q0 : w2.cell? ⟨w.heap.size, 0, none⟩ = some (u32v n0) := hx2.num (i := 0) rfl
  have c2 : w2.cell? ⟨a, 2, none⟩ = some (u32v o1) := hi2.num (i := 1) rfl
  have f2 : w2.frozen? ⟨a, 2, none⟩ = false := frozenOf hi2 _
  have q1 : w2.cell? ⟨w.heap.size, 1, none⟩ = some (u32v n1) := hx2.num (i := 1) rfl
  have c3 : w2.cell? ⟨a, 3, none⟩ = some (u32v o2) := hi2.num (i := 2) rfl
  have f3 : w2.frozen? ⟨a, 3, none⟩ = false := frozenOf hi2 _
  have q2 : w2.cell? ⟨w.heap.size, 2, none⟩ = some (u32v n2) := hx2.num (i := 2) rfl
  have c4 : w2.cell? ⟨a, 4, none⟩ = some (u32v o3) := hi2.num (i := 3) rfl
  have f4 : w2.frozen? ⟨a, 4, none⟩ = false := frozenOf hi2 _
  have q3 : w2.cell? ⟨w.heap.size, 3, none⟩ = some (u32v n3) := hx2.num (i := 3) rfl
  have c5 : w2.cell? ⟨a, 5, none⟩ = some (u32v o4) := hi2.num (i := 4) rfl
  have f5 : w2.frozen? ⟨a, 5, none⟩ = false := frozenOf hi2 _
  have q4 : w2.cell? ⟨w.heap.size, 4, none⟩ = some (u32v n4) := hx2.num (i := 4) rfl
  have c6 : w2.cell? ⟨a, 6, none⟩ = some (u32v o5) := hi2.num (i := 5) rfl
  have f6 : w2.frozen? ⟨a, 6, none⟩ = false := frozenOf hi2 _
  have q5 : w2.cell? ⟨w.heap.size, 5, none⟩ = some (u32v n5) := hx2.num (i := 5) rfl
  have c7 : w2.cell? ⟨a, 7, none⟩ = some (u32v o6) := hi2.num (i := 6) rfl
  have f7 : w2.frozen? ⟨a, 7, none⟩ = false := frozenOf hi2 _
  have q6 : w2.cell? ⟨w.heap.size, 6, none⟩ = some (u32v n6) := hx2.num (i := 6) rfl
  have c8 : w2.cell? ⟨a, 8, none⟩ = some (u32v o7) := hi2.num (i := 7) rfl
  have f8 : w2.frozen? ⟨a, 8, none⟩ = false := frozenOf hi2 _
  have q7 : w2.cell? ⟨w.heap.size, 7, none⟩ = some (u32v n7) := hx2.num (i := 7) rfl
  have c9 : w2.cell? ⟨a, 9, none⟩ = some (u32v o8) := hi2.num (i := 8) rfl
  have f9 : w2.frozen? ⟨a, 9, none⟩ = false := frozenOf hi2 _
  have q8 : w2.cell? ⟨w.heap.size, 8, none⟩ = some (u32v n8) := hx2.num (i := 8) rfl
  have c10 : w2.cell? ⟨a, 10, none⟩ = some (u32v o9) := hi2.num (i := 9) rfl
  have f10 : w2.frozen? ⟨a, 10, none⟩ = false := frozenOf hi2 _
  have q9 : w2.cell? ⟨w.heap.size, 9, none⟩ = some (u32v n9) := hx2.num (i := 9) rfl
  have H2 : Hid (R w2 ∧ But S w w2 ∧ InoAt w2 a sz [o0, o1, o2, o3, o4, o5, o6, o7, o8, o9]) := ⟨hR2, (But.of_below HW.out.2.1).trans hb2, hi2⟩
  have hal := HW.out.1.lt
  have han : ¬ a = w.heap.size := by omega
  have han' : ¬ w.heap.size = a := by omega
  unfold u32v at *
  clear hi2 hx2 hR2 hb2 hal
  go_wp2_with fail
  go_region
  have HF : Hid _ := ino_all size n0 n1 n2 n3 n4 n5 n6 n7 n8 n9 _ _ _ _ _ _ _ _ _ _ H2.out.2.2
  generalize hw3 : ((((((((((w2.setCell ⟨a, 0, none⟩ (.int .i64 (size : Nat))).setCell ⟨a, 1, none⟩ (.int .u32 (n0.toNat : Int))).setCell ⟨a, 2, none⟩ (.int .u32 (n1.toNat : Int))).setCell ⟨a, 3, none⟩ (.int .u32 (n2.toNat : Int))).setCell ⟨a, 4, none⟩ (.int .u32 (n3.toNat : Int))).setCell ⟨a, 5, none⟩ (.int .u32 (n4.toNat : Int))).setCell ⟨a, 6, none⟩ (.int .u32 (n5.toNat : Int))).setCell ⟨a, 7, none⟩ (.int .u32 (n6.toNat : Int))).setCell ⟨a, 8, none⟩ (.int .u32 (n7.toNat : Int))).setCell ⟨a, 9, none⟩ (.int .u32 (n8.toNat : Int))).setCell ⟨a, 10, none⟩ (.int .u32 (n9.toNat : Int)) = w3 at HF ⊢
  clear hw3
  go_wp2
  go_ret
  exact ⟨rfl, w2, H2.out.1, H2.out.2.1, HF.out.1, HF.out.2.drew⟩

end Go.Proofs.YtebdgcoandfocaaGreatDoor

/-
  Package inode: Write of three bytes at 700 into a file of no bytes.
-/
namespace Go.Proofs.YtebdgcoandfocaaGreatDoor
open Go.RowKit Go.Maps Go.Sort Go.Shelf

set_option maxRecDepth 8000 in
set_option maxHeartbeats 1000000 in
theorem freeOf_used (m : Bm.MS) (w : World) (hm : Bm.MapAt w m) (ht : Bm.Tab64 w) (h0 : Bm.used m.ws 0 = true) (hn : 0 < m.n) : Calls Tryz.prog 25 #[.pointer (some ⟨m.a, 0, none⟩)] w fun e w' => ∃ m' : Bm.MS, e = .returned (.pointer (some ⟨m'.a, 0, none⟩)) ∧ m'.n = m.n ∧ m'.ws = m.ws ∧ Bm.MapAt w' m' ∧ w.heap.size ≤ m'.a ∧ w.heap.size ≤ m'.b ∧ Below w.heap.size w w' := by
  have cC := Bm.copy_any m w hm ht.lt
  go_enter Tryz.func25, Tryz.ntmps25
  go_wp2_with (go_at_call 40; refine cC.mono ?_; rintro e w1 ⟨m1, rfl, hn1, hs1, hm1, ha1, hb1, hB1⟩; clear cC; refine Stop.out ?_)
  refine Stop.mk ?_
  have cS := Bm.set_in 0 m1 w1 hm1 (by omega)
  have cS' : Calls Tryz.prog 23 #[.pointer (some ⟨m1.a, 0, none⟩), .int .i64 0] w1 fun e w' => e = .returned (.int .i64 16) ∧ Bm.MapAt w' m1 ∧ Below w.heap.size w w' := by
    refine cS.mono ?_
    rintro e w' ⟨m2, ho, hm2, hb2⟩
    rcases ho with ⟨_, h, rfl⟩ | ⟨h, _, _⟩
    · exact ⟨h, hm2, hB1.trans ((only_but hb2).below hB1.size (fun k e => by omega))⟩
    · rw [hs1, h0] at h; cases h
  have H1 : Hid (m1.n = m.n ∧ m1.ws = m.ws ∧ w.heap.size ≤ m1.a ∧ w.heap.size ≤ m1.b) := ⟨hn1, hs1, ha1, hb1⟩
  clear cS hm1 hB1 hn1 hs1 ha1 hb1
  go_wp2_with (go_at_call 23; refine cS'.mono ?_; rintro e w2 ⟨rfl, hm2, hB2⟩; clear cS')
  go_ret
  exact ⟨m1, rfl, H1.out.1, H1.out.2.1, hm2, H1.out.2.2.1, H1.out.2.2.2, hB2⟩

end Go.Proofs.YtebdgcoandfocaaGreatDoor

namespace Go.Proofs.YtebdgcoandfocaaGreatDoor
open Go.RowKit Go.Maps Go.Sort Go.Shelf

theorem LC.more {w0 w : World} {c : Nat} {vs : VS} {V : Nat → By} {pin : Nat → Nat} {b b' : Nat} (h : LC w0 w c vs V pin b) (hb : b ≤ b') : LC w0 w c vs V pin b' := by
  obtain ⟨A, ⟨s, B, h1, h2, h3, h4, h5⟩, hG⟩ := h.st
  obtain ⟨z1, z2, z3, z4, z5⟩ := h2
  exact ⟨A, ⟨s, B, h1, ⟨by omega, by omega, by omega, by omega, by omega⟩, h3, h4, h5⟩, hG⟩
theorem lc_bad (w0 w : World) (c : Nat) (vs : VS) (V : Nat → By) (pin : Nat → Nat) (b x : Nat) (h : LC w0 w c vs V pin b) (hx : nbOf vs.d.n ≤ x) (hx2 : x < 4294967296) :
    Calls Tryz.prog 68 #[ep c, .int .i64 (x : Nat)] w fun e w' => e = .returned (.tuple #[.slice none 0 0, .int .i64 22]) ∧ w' = w := by
  obtain ⟨A, hC, hG⟩ := h.st
  obtain ⟨s, B, h1, h2, rfl, rfl, h5⟩ := hC.st
  exact get_out s vs B (x : Nat) w h1 (by omega) (by omega) (by omega)
theorem lpok_LC (w0 : World) (c : Nat) (vs : VS) (V : Nat → By) : LPok (fun b w => LC w0 w c vs V (fun _ => 0) b) w0 c (nbOf vs.d.n) V where
  foreign _ _ _ _ h hb hF := h.foreign hb hF
  more _ _ h := h.more (Nat.le_succ _)
  get b w x h hb hx := lc_get w0 w c vs V _ b x h hb hx
  bad b w x h hx hx2 := lc_bad w0 w c vs V _ b x h hx hx2

/-- What a write's walk and fills leave. -/
def wrR (m : Bm.MS) (nb : Nat) (V : Nat → By) (at_ bl b : Nat) (ns : List (BitVec 32)) : List (BitVec 32) × Int × WS := Ino.ovr (wOps (Ino.frees m.n (Bm.used m.ws)) nb V) true (at_ / 512) (blocksOf (at_ + bl)) (fnd (Ino.frees m.n (Bm.used m.ws))) ns ⟨b, 0, [], [], []⟩

set_option maxRecDepth 8000 in
set_option maxHeartbeats 8000000 in
theorem write_J (w0 w : World) (a c bg bo bl bc b at_ sz : Nat) (vs : VS) (V : Nat → By) (m : Bm.MS) (ns : List (BitVec 32)) (bs : By) (hn : InoAt w a sz ns) (hnl : ns.length = 10) (hC : LC w0 w c vs V (fun _ => 0) b) (hb : b + 30000 ≤ 700000) (hm : Bm.MapAt w m) (ht : Bm.Tab64 w) (h6 : 1 < w0.heap.size) (hu0 : Bm.used m.ws 0 = true) (hmn : 0 < m.n) (hmx : m.n ≤ 65536)
    (hbs : Bytes w (some ⟨bg, bo, none⟩) bs) (htg : bg < w.heap.size ∧ ¬ Cmn w0 w bg) (hbl : bs.length = bl) (hb1 : 1 ≤ bl) (hbc : bl ≤ bc) (hat : at_ + bl ≤ 65536)
    (R : List (BitVec 32) × Int × WS) (hR : wrR m (nbOf vs.d.n) V at_ bl b ns = R) (hX : R.2.1 = 0 → R.2.2.X.length ≤ 200 ∧ ∀ q ∈ R.2.2.X, SpotOk (nbOf vs.d.n) at_ bl q)
    (S2 : WS) (hS2 : S2 = R.2.2.X.foldl (filS V at_ bs) R.2.2) (hP : R.2.1 = 0 → (∀ q ∈ S2.P, q.1 < nbOf vs.d.n) ∧ S2.P.length ≤ 1000 ∧ S2.k ≤ 1000 ∧ S2.G = []) :
    Calls Tryz.prog 11 #[.pointer (some ⟨a, 0, none⟩), ep c, .pointer (some ⟨m.a, 0, none⟩), .int .i64 (at_ : Nat), .slice (some ⟨bg, bo, none⟩) bl bc] w fun e w' => e = .returned (.int .i64 R.2.1) ∧ (R.2.1 ≠ 0 → InoAt w' a sz ns ∧ LC w0 w' c vs V (fun _ => 0) R.2.2.b ∧ Bm.MapAt w' m ∧ But (fun k => Cmn w0 w k ∨ k = m.b ∨ k = a) w w') ∧
      (R.2.1 = 0 → InoAt w' a (max sz (at_ + bl)) R.1 ∧ R.1.length = 10 ∧ LC w0 w' c vs (Ino.putsV V S2.P) (fun _ => 0) (S2.b + S2.P.length + S2.P.length + S2.P.length) ∧ Bm.MapAt w' (((Ino.frees m.n (Bm.used m.ws)).take S2.k).foldl setM m) ∧ But (fun k => Cmn w0 w k ∨ k = m.b ∨ k = a) w w') := by
  obtain ⟨n0, n1, n2, n3, n4, n5, n6, n7, n8, n9, rfl⟩ := list10 hnl
  have cF := freeOf_used m w hm ht hu0 hmn
  have hsa : InoAt w a sz [n0, n1, n2, n3, n4, n5, n6, n7, n8, n9] := hn
  obtain ⟨f, hf⟩ : ∃ f, at_ / 512 = f := ⟨_, rfl⟩
  obtain ⟨t, htt⟩ : ∃ t, blocksOf (at_ + bl) = t := ⟨_, rfl⟩
  obtain ⟨R1, er, s1⟩ := R
  have HW := hide (⟨hn, hC, hm, ht, hbs, htg⟩ : _ ∧ _ ∧ _ ∧ _ ∧ _ ∧ _)
  have HR := hide (⟨hR, hX, hS2, hP⟩ : _ ∧ _ ∧ _ ∧ _)
  have HF := hide (And.intro hf htt)
  dsimp only at HR ⊢
  have hgt : ¬ ((65536 : Int) - (bl : Int) < (at_ : Int)) := by omega
  have hge : ¬ ((at_ : Int) < 0) := by omega
  have hb0 : ¬ ((bl : Int) = 0) := by omega
  have hb0' : ((bl : Int) == 0) = false := by rw [beq_eq_false_iff_ne]; omega
  have hbm := hbs
  clear hn hC hm ht hbs htg hR hX hS2 hP hf htt hsa hbm
  refine (show Calls Tryz.prog 11 #[.pointer (some ⟨a, 0, none⟩), ep c, .pointer (some ⟨m.a, 0, none⟩), .int .i64 (at_ : Nat), .slice (some ⟨bg, bo, none⟩) bl bc] w (fun e w' => Hid (e = .returned (.int .i64 er) ∧ (er ≠ 0 → InoAt w' a sz [n0, n1, n2, n3, n4, n5, n6, n7, n8, n9] ∧ LC w0 w' c vs V (fun _ => 0) s1.b ∧ Bm.MapAt w' m ∧ But (fun k => Cmn w0 w k ∨ k = m.b ∨ k = a) w w') ∧
      (er = 0 → InoAt w' a (max sz (at_ + bl)) R1 ∧ R1.length = 10 ∧ LC w0 w' c vs (Ino.putsV V S2.P) (fun _ => 0) (S2.b + S2.P.length + S2.P.length + S2.P.length) ∧ Bm.MapAt w' (((Ino.frees m.n (Bm.used m.ws)).take S2.k).foldl setM m) ∧ But (fun k => Cmn w0 w k ∨ k = m.b ∨ k = a) w w'))) from ?_).mono (fun e w' h => h.out)
  go_enter Tryz.func11, Tryz.ntmps11
  go_wp2_with (go_at_call 25; refine cF.mono ?_; rintro e w1 ⟨mf, rfl, hf1, hf2, hf3, hf4, hf5, hB1⟩; clear cF; refine Stop.out ?_)
  refine Stop.mk ?_
  obtain ⟨w2, hw2⟩ : ∃ w2, w2 = w1.alloc (.cells #[ep c, .pointer (some ⟨mf.a, 0, none⟩), .slice none 0 0, .slice none 0 0, .slice none 0 0, .int .i64 (at_ : Nat), .slice (some ⟨bg, bo, none⟩) bl bc, .slice none 0 0] 71) := ⟨_, rfl⟩
  have hB2 : Below w1.heap.size w1 w2 := by rw [hw2]; exact (Below.refl _ w1).alloc (Nat.le_refl _) _
  have hx2 : BlkAt w2 w1.heap.size [ep c, .pointer (some ⟨mf.a, 0, none⟩), .slice none 0 0, .slice none 0 0, .slice none 0 0, .int .i64 (at_ : Nat), .slice (some ⟨bg, bo, none⟩) bl bc, .slice none 0 0] 71 := by rw [hw2]; exact heap_alloc_new w1 _
  have hB02 : Below w.heap.size w w2 := hB1.trans (hB2.mono hB1.size)
  have hn1 : InoAt w1 a sz [n0, n1, n2, n3, n4, n5, n6, n7, n8, n9] := HW.out.1.below hB1 HW.out.1.lt
  have d0 : w1.cell? ⟨a, 1, none⟩ = some (.int .u32 (n0.toNat : Int)) := hn1.num (i := 0) rfl
  have d1 : w1.cell? ⟨a, 2, none⟩ = some (.int .u32 (n1.toNat : Int)) := hn1.num (i := 1) rfl
  have d2 : w1.cell? ⟨a, 3, none⟩ = some (.int .u32 (n2.toNat : Int)) := hn1.num (i := 2) rfl
  have d3 : w1.cell? ⟨a, 4, none⟩ = some (.int .u32 (n3.toNat : Int)) := hn1.num (i := 3) rfl
  have d4 : w1.cell? ⟨a, 5, none⟩ = some (.int .u32 (n4.toNat : Int)) := hn1.num (i := 4) rfl
  have d5 : w1.cell? ⟨a, 6, none⟩ = some (.int .u32 (n5.toNat : Int)) := hn1.num (i := 5) rfl
  have d6 : w1.cell? ⟨a, 7, none⟩ = some (.int .u32 (n6.toNat : Int)) := hn1.num (i := 6) rfl
  have d7 : w1.cell? ⟨a, 8, none⟩ = some (.int .u32 (n7.toNat : Int)) := hn1.num (i := 7) rfl
  have d8 : w1.cell? ⟨a, 9, none⟩ = some (.int .u32 (n8.toNat : Int)) := hn1.num (i := 8) rfl
  have d9 : w1.cell? ⟨a, 10, none⟩ = some (.int .u32 (n9.toNat : Int)) := hn1.num (i := 9) rfl
  have hal := hn1.lt
  have han : ¬ a = w1.heap.size := by omega
  have han' : ¬ w1.heap.size = a := by omega
  have H2 := hide hw2
  clear hw2 hn1
  obtain ⟨w3, hw3⟩ : ∃ w3, w3 = (w1.alloc (.cells #[ep c, .pointer (some ⟨mf.a, 0, none⟩), .slice none 0 0, .slice none 0 0, .slice none 0 0, .int .i64 (at_ : Nat), .slice (some ⟨bg, bo, none⟩) bl bc, .slice none 0 0] 71)).alloc (.cells #[.int .u32 (n0.toNat : Int), .int .u32 (n1.toNat : Int), .int .u32 (n2.toNat : Int), .int .u32 (n3.toNat : Int), .int .u32 (n4.toNat : Int), .int .u32 (n5.toNat : Int), .int .u32 (n6.toNat : Int), .int .u32 (n7.toNat : Int), .int .u32 (n8.toNat : Int), .int .u32 (n9.toNat : Int)] 55) := ⟨_, rfl⟩
  have hB3 : Below w2.heap.size w2 w3 := by rw [hw3, ← H2.out]; exact (Below.refl _ w2).alloc (Nat.le_refl _) _
  have hs2 : w2.heap.size = w1.heap.size + 1 := by rw [H2.out]; simp
  have hx3 : NumsAt w3 (w1.heap.size + 1) [n0, n1, n2, n3, n4, n5, n6, n7, n8, n9] := by rw [hw3, ← H2.out, ← hs2]; exact heap_alloc_new w2 _
  have hs3 : w3.heap.size = w1.heap.size + 2 := by rw [hw3]; simp
  have hB03 : Below w.heap.size w w3 := hB02.trans (hB3.mono hB02.size)
  have hB13 : Below w1.heap.size w1 w3 := hB2.trans (hB3.mono hB2.size)
  have hs1 := hB1.size
  have hWJ : WJ (fun b w => LC w0 w c vs V (fun _ => 0) b) w0 w w1.heap.size c (Bm.used m.ws) m.n at_ (some ⟨bg, bo, none⟩) bl bc ⟨b, 0, [], [], []⟩ w3 := by
    refine ⟨⟨mf, .slice none 0 0, ⟨HW.out.2.1.below hB03, But.of_below hB03, Nat.le_refl _, hs1, ⟨_, _, _, [], hx2.below hB3, ⟨⟨rfl, .inl ⟨rfl, rfl⟩⟩, ⟨rfl, .inl ⟨rfl, rfl⟩⟩, (fun k h => by cases h), ⟨rfl, .inl ⟨rfl, rfl⟩⟩, rfl, (fun i p d h => by simp at h)⟩⟩, Nat.zero_le _, Nat.zero_le _, Nat.zero_le _⟩, hf3.below hB13, ⟨hf1, hmx, fun x hx => ?_⟩, hf4, hf5, ⟨rfl, .inl ⟨rfl, rfl⟩⟩⟩, Nat.zero_le _⟩
    rw [hf2]; simp
  have cP := plan_J (lpok_LC w0 c vs V) HW.out.2.2.2.1 h6 ⟨b, 0, [], [], []⟩ w3 hWJ (by show b + 18000 ≤ _; omega) bs HW.out.2.2.2.2.1 HW.out.2.2.2.2.2 hbl hb1 hbc hat (w1.heap.size + 1) [n0, n1, n2, n3, n4, n5, n6, n7, n8, n9] rfl hx3 (by omega) f t HF.out.1 HF.out.2 (R1, er, s1) (by rw [← HF.out.1, ← HF.out.2]; exact HR.out.1) HR.out.2.1
  dsimp only at cP
  clear hB2 hB02 hB3 hB03 hB13 hx2 hx3 hf1 hf2 hf3 hf4 hf5 hB1 H2 hs2 hWJ
  go_wp2_with (go_at_call 26; rw [← hw3]; refine cP.mono ?_; rintro e w4 ⟨rfl, hE4, hP4⟩; clear cP hw3 d0 d1 d2 d3 d4 d5 d6 d7 d8 d9; refine Stop.out ?_)
  refine Stop.mk ?_
  have hno : ∀ k cs t fr, w.heap[k]? = some (.cells cs t fr) → ¬ cTag t → ¬ Cmn w0 w k := fun k cs t fr hk h => cmn_not hk h
  obtain ⟨mcs, hmc⟩ := map_mbE HW.out.2.2.1
  by_cases her : er = 0
  · obtain ⟨hW4, hN4, hR10⟩ := hP4 her
    obtain ⟨hPl, hPn, hkn, hG0⟩ := HR.out.2.2.2 her
    rw [← HR.out.2.2.1] at hW4
    obtain ⟨mf4, sX4, hc4, _⟩ := hW4.ex
    rw [hG0] at hc4
    obtain ⟨sT4, sG4, sP4, D4, hb4, hr4⟩ := hc4.blk
    have hfr4 := hc4.fr
    obtain ⟨r0, r1, r2, r3, r4, r5, r6, r7, r8, r9, rfl⟩ := list10 hR10
    have hi4 : InoAt w4 a sz [n0, n1, n2, n3, n4, n5, n6, n7, n8, n9] := HW.out.1.but hfr4 (hno _ _ _ _ HW.out.1 (cTag_not (by decide) (by decide) (by decide)))
    have c0 := hi4.size
    have q0 : w4.cell? ⟨w1.heap.size + 1, 0, none⟩ = some (.int .u32 (r0.toNat : Int)) := hN4.num (i := 0) rfl
    have q1 : w4.cell? ⟨w1.heap.size + 1, 1, none⟩ = some (.int .u32 (r1.toNat : Int)) := hN4.num (i := 1) rfl
    have q2 : w4.cell? ⟨w1.heap.size + 1, 2, none⟩ = some (.int .u32 (r2.toNat : Int)) := hN4.num (i := 2) rfl
    have q3 : w4.cell? ⟨w1.heap.size + 1, 3, none⟩ = some (.int .u32 (r3.toNat : Int)) := hN4.num (i := 3) rfl
    have q4 : w4.cell? ⟨w1.heap.size + 1, 4, none⟩ = some (.int .u32 (r4.toNat : Int)) := hN4.num (i := 4) rfl
    have q5 : w4.cell? ⟨w1.heap.size + 1, 5, none⟩ = some (.int .u32 (r5.toNat : Int)) := hN4.num (i := 5) rfl
    have q6 : w4.cell? ⟨w1.heap.size + 1, 6, none⟩ = some (.int .u32 (r6.toNat : Int)) := hN4.num (i := 6) rfl
    have q7 : w4.cell? ⟨w1.heap.size + 1, 7, none⟩ = some (.int .u32 (r7.toNat : Int)) := hN4.num (i := 7) rfl
    have q8 : w4.cell? ⟨w1.heap.size + 1, 8, none⟩ = some (.int .u32 (r8.toNat : Int)) := hN4.num (i := 8) rfl
    have q9 : w4.cell? ⟨w1.heap.size + 1, 9, none⟩ = some (.int .u32 (r9.toNat : Int)) := hN4.num (i := 9) rfl
    obtain ⟨z, hz⟩ : ∃ z, max sz (at_ + bl) = z := ⟨_, rfl⟩
    have hmx : max (sz : Int) ((at_ : Int) + (bl : Int)) = (z : Int) := by omega
    obtain ⟨W, hW⟩ : ∃ W, W = w4.drew.alloc (.cells ([r0, r1, r2, r3, r4, r5, r6, r7, r8, r9].map u32v).toArray 55) := ⟨_, rfl⟩
    have hBW : Below w4.heap.size w4 W := by rw [hW]; exact ((Below.refl _ w4).drew).alloc (Nat.le_refl _) _
    have hfrW : But (Cmn w0 w) w W := cmn_hi hfr4 (But.of_below (S := fun _ => False) hBW) (fun _ h => h.elim)
    have hxW : NumsAt W w4.heap.size [r0, r1, r2, r3, r4, r5, r6, r7, r8, r9] := by rw [hW]; exact heap_alloc_new w4.drew _
    have hmW : Bm.MapAt W m := HW.out.2.2.1.keep (but_only hfrW) (hno _ _ _ _ HW.out.2.2.1.st (cTag_not (by decide) (by decide) (by decide))) (hno _ _ _ _ hmc (cTag_not (by decide) (by decide) (by decide)))
    have hiW : InoAt W a sz [n0, n1, n2, n3, n4, n5, n6, n7, n8, n9] := hi4.below hBW hi4.lt
    have hS2b : S2.b ≤ 690000 := by
      have h1 := fils_b V at_ bs s1.X s1
      have h2 : (wrR m (nbOf vs.d.n) V at_ bl b [n0, n1, n2, n3, n4, n5, n6, n7, n8, n9]).2.2.b ≤ b + 16804 := ovr_cost (handsW (LP := fun b w => LC w0 w c vs V (fun _ => 0) b) (w0 := w0) (ws := w) (wb := 0) (c := c) (U0 := Bm.used m.ws) (n := m.n) (at_ := at_) (pb := none) (bl := bl) (bc := bc) (lpok_LC w0 c vs V) HW.out.2.2.2.1 h6 _ _) [n0, n1, n2, n3, n4, n5, n6, n7, n8, n9] rfl ⟨b, 0, [], [], []⟩
      rw [HR.out.1] at h2
      rw [← HR.out.2.2.1] at h1
      have h3 := (HR.out.2.1 her).1
      have h4 : s1.b ≤ b + 16804 := h2
      omega
    have cD := do_L w0 W w1.heap.size c S2.b w.heap.size _ _ 71 okW vs V _ [] S2.P D4 sT4 sG4 sP4 m (hb4.below hBW) (hr4.but (But.of_below (S := fun _ => False) hBW) (fun _ _ _ _ _ _ h => h)) (hc4.lp.below hBW) ⟨hPn, by rw [List.length_take]; omega, by simp⟩ (by omega) hPl hmW (fun i hi => (Ino.mem_frees.1 (List.mem_of_mem_take hi)).1) (fun i hi => by cases hi)
    rw [List.foldl_nil] at cD
    have hna : ¬ (Cmn w0 W a ∨ a = m.b) := fun e => by
      rcases e with e | e
      · exact cmn_not hiW (cTag_not (by decide) (by decide) (by decide)) e
      · exact map_b_ne hmW (show BlkAt W a _ _ from hiW) (by decide) e
    have cB := become_any w4.drew a sz z w1.heap.size m.a [n0, n1, n2, n3, n4, n5, n6, n7, n8, n9] [r0, r1, r2, r3, r4, r5, r6, r7, r8, r9] (fun w' => LC w0 w' c vs (Ino.putsV V S2.P) (fun _ => 0) (S2.b + S2.P.length + S2.P.length + S2.P.length) ∧ Bm.MapAt w' (((Ino.frees m.n (Bm.used m.ws)).take S2.k).foldl setM m)) (fun k => Cmn w0 W k ∨ k = m.b) hi4 rfl rfl W hW (cD.mono (by rintro e w' ⟨rfl, z1, z2, z3⟩; exact ⟨rfl, ⟨z1, z2⟩, z3⟩)) hna (fun e => by
      rcases e with e | e
      · exact cmn_not hxW (cTag_not (by decide) (by decide) (by decide)) e
      · exact map_b_ne hmW (show BlkAt W w4.heap.size _ _ from hxW) (by decide) e)
    have H4 := hide (⟨hfr4, hBW, hmW, hiW, hna, hi4, hz, her, hfrW⟩ : _ ∧ _ ∧ _ ∧ _ ∧ _ ∧ _ ∧ _ ∧ _ ∧ _)
    have e1 : (er != 0) = false := by simp [her]
    have e2 : (er == 0) = true := by simp [her]
    unfold u32v at cB
    clear her hE4 hP4 hW4 hN4 hR10 hPl hPn hkn hG0 hc4 hb4 hr4 hfr4 hi4 hW hBW hfrW hxW hmW cD hiW hna hS2b hmc hno hz
    go_wp2_with fail
    go_region_with (go_at_call 27; refine cB.mono ?_; rintro e w6 ⟨rfl, w5, ⟨z1, z2⟩, z3, z4, z5⟩)
    all_goals
      have HFF : Hid (InoAt w6 a (max sz (at_ + bl)) [r0, r1, r2, r3, r4, r5, r6, r7, r8, r9] ∧ LC w0 w6 c vs (Ino.putsV V S2.P) (fun _ => 0) (S2.b + S2.P.length + S2.P.length + S2.P.length) ∧ Bm.MapAt w6 (((Ino.frees m.n (Bm.used m.ws)).take S2.k).foldl setM m) ∧ But (fun k => Cmn w0 w k ∨ k = m.b ∨ k = a) w w6) := by
        obtain ⟨hfr4, hBW, hmW, hiW, hna, hi4, hz, _, hfrW⟩ := H4.out
        have z3' : But (fun k => Cmn w0 W k ∨ k = m.b) w4 w5 := ⟨z3.os, z3.tape, z3.output, z3.size, z3.block⟩
        have hi5 : InoAt w5 a sz [n0, n1, n2, n3, n4, n5, n6, n7, n8, n9] := hi4.but z3' hna
        have hma : a ≠ m.a := map_a_ne hmW (show BlkAt W a _ _ from hiW) (by decide)
        have hmb : a ≠ m.b := map_b_ne hmW (show BlkAt W a _ _ from hiW) (by decide)
        obtain ⟨ea, eb, _⟩ := sets_abn ((Ino.frees m.n (Bm.used m.ws)).take S2.k) m
        refine ⟨by rw [hz]; exact z4, z1.foreign z5 (fun k hk => ?_), z2.keep (but_only z5) (fun e => hma (by have e : _ = a := e; rw [ea] at e; exact e.symm)) (fun e => hmb (by have e : _ = a := e; rw [eb] at e; exact e.symm)), ?_⟩
        · rw [show k = a from hk]
          exact ⟨_, _, _, hi5, by unfold foreignT; decide⟩
        · refine ((hfr4.mono (fun k _ h => .inl h)).after z3' (fun i hi hc => ?_)).after z5 (fun i _ e => .inr (.inr e))
          rcases hc with hc | hc
          · refine .inl ⟨hc.1, fun cs t fr hk => ?_⟩
            apply Classical.byContradiction
            intro hn
            have e : W.heap[i]? = w.heap[i]? := hfrW.block i hi (fun hcm => hn (hcm.2 cs t fr hk))
            exact hn (hc.2 cs t fr (e.trans hk))
          · exact .inr (.inl hc)
      clear cB z1 z2 z3 z4 z5 q0 q1 q2 q3 q4 q5 q6 q7 q8 q9 c0
      go_wp2
      go_ret
      exact hide ⟨by rw [H4.out.2.2.2.2.2.2.2.1]; rfl, fun h => absurd H4.out.2.2.2.2.2.2.2.1 h, fun _ => ⟨HFF.out.1, rfl, HFF.out.2.1, HFF.out.2.2.1, HFF.out.2.2.2⟩⟩
  · have hW4 := hE4 her
    obtain ⟨mf4, sX4, hc4, _⟩ := hW4.ex
    have hfr4 := hc4.fr
    have HE := hide (⟨HW.out.1.but hfr4 (hno _ _ _ _ HW.out.1 (cTag_not (by decide) (by decide) (by decide))), hc4.lp, HW.out.2.2.1.keep (but_only hfr4) (hno _ _ _ _ HW.out.2.2.1.st (cTag_not (by decide) (by decide) (by decide))) (hno _ _ _ _ hmc (cTag_not (by decide) (by decide) (by decide))), hfr4.mono (fun _ _ h => .inl h)⟩ : InoAt w4 a sz [n0, n1, n2, n3, n4, n5, n6, n7, n8, n9] ∧ LC w0 w4 c vs V (fun _ => 0) s1.b ∧ Bm.MapAt w4 m ∧ But (fun k => Cmn w0 w k ∨ k = m.b ∨ k = a) w w4)
    have q1 : (er != 0) = true := by simp [her]
    have q2 : (er == 0) = false := by simp [her]
    clear hE4 hP4 hW4 hc4 hfr4 hno hmc
    go_wp2
    go_ret
    exact hide ⟨rfl, fun _ => HE.out, fun h => absurd h her⟩

end Go.Proofs.YtebdgcoandfocaaGreatDoor
