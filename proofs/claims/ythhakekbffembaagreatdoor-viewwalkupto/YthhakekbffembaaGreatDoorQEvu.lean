import Derived.Test.YthhakekbffembaaGreatDoorCards
import Derived.Test.YthhakekbffembaaGreatDoorTie
import Derived.Test.YthhakekbffembaaGreatDoorQEvq
import Derived.Test.YthhakekbffembaaGreatDoorKAshelfb
import Derived.WalkKit
import Derived.ProofKit
import Derived.OpenShut
import Derived.ChangeOld
import Derived.Deep.Slices
import Derived.Deep.Grids
import Derived.Deep.DeepHandedRow
import Derived.Lib.LaidTab
import Derived.LaidMore
import Derived.SizedLaws
import Derived.Stop.LaidErr
import Derived.Test.YthhakekbffembaaGreatDoorQEvg

namespace Go.Proofs.YthhakekbffembaaGreatDoor
open Go.ChangeShapes Go.WideShapes Go.ChangeAt Go.RowKit Go.Deep
theorem own : ownKnob Tryz.prog.godebug = none := by kernel_rfl
theorem laidOut : laidOutB Tryz.prog = true := by kernel_rfl
theorem gPow : Tryz.prog.globalNamed "internal/strconv.uint64pow10" = some 3 := by kernel_rfl
theorem gPowType : (Tryz.prog.globals[3]?).map (·.type) = some 264 := by kernel_rfl
theorem cellsPow : Tryz.prog.cellsOf 264 = 20 := by kernel_rfl
theorem cellsU64 : Tryz.prog.cellsOf 186 = 1 := by kernel_rfl
theorem gSyn : Tryz.prog.globalNamed "strconv.ErrSyntax" = some 1 := by kernel_rfl
theorem gSynType : (Tryz.prog.globals[1]?).map (·.type) = some 203 := by kernel_rfl
theorem gRng : Tryz.prog.globalNamed "strconv.ErrRange" = some 2 := by kernel_rfl
theorem gRngType : (Tryz.prog.globals[2]?).map (·.type) = some 203 := by kernel_rfl
theorem cellsES : Tryz.prog.cellsOf 269 = 1 := by kernel_rfl
theorem cells9e : Tryz.prog.cellsOf 9 = 1 := by kernel_rfl
theorem star_es : "*" ++ "errors.errorString" = "*errors.errorString" := by decide
theorem row_es (u : TypeId) (h : Tryz.prog.typeName? 3 u = some "*errors.errorString") : u = 267 :=
 typeName_ptr_named (nm := "errors.errorString") (by rw [star_es]; kernel_rfl) (by kernel_rfl) (by decide) u (by rw [star_es]; exact h)
theorem lb_of_laid {W : World} (h : laidMetH Tryz.prog Rows.viewNoneRow.laid W) (hsh : W.ShapedOpen Tryz.prog) : Ck.Sh.Lb W := by
 have h3 := laidMet.tail (laidMet.tail h)
 have h4 := laidMet.tail h3
 have h5 := laidMet.tail h4
 have ht : Lib.TabIs Tryz.prog W "internal/strconv.uint64pow10" .u64 Lib.pow10Tab :=
   Lib.tabIs_of_head gPow gPowType Tryz.underlying264 Tryz.underlying186 cellsU64 cellsPow h3
 obtain ⟨a4, s4, hv4, -, -, -⟩ := laid_sentinel h4 gRng gRngType Tryz.underlying203 row_es Tryz.underlying267 Tryz.underlying269 rfl rfl Tryz.underlying9 cellsES cells9e
 obtain ⟨a5, s5, hv5, -, -, -⟩ := laid_sentinel h5 gSyn gSynType Tryz.underlying203 row_es Tryz.underlying267 Tryz.underlying269 rfl rfl Tryz.underlying9 cellsES cells9e
 have h0 := World.var?_cell gSyn hv5 0
 have h1 := World.var?_cell gRng hv4 0
 exact ⟨ht, ⟨267, .pointer (some a5), by simpa using h0⟩, ⟨267, .pointer (some a4), by simpa using h1⟩, Tryz.laysM145.s1_3 W hsh⟩
end Go.Proofs.YthhakekbffembaaGreatDoor

namespace Go.Proofs.YthhakekbffembaaGreatDoor.Ck.Y.W
open Go.RowKit Go.Maps Go.Lib
open L (below_thenH below_drewH below_drewNH cell_keptH)
open Sh (bas Ids Nms strs idsC InI Cs)
structure NaS (J : World → Prop) (lo : Nat) (po : Option Addr) (k co : Nat) (xs : List Value) (nm : ByteArray) (b20 b21 : Bool) (gb : Nat) (v : Value) (W : World) : Prop where
 j : J W
 own : b21 = false → W.ownsRow lo 9 1 (.slice po k co) k xs
 row : b20 = true → b21 = false → W.heap[gb]? = some (.cells #[.string nm] 9 (0, 0))
 app : b21 = true → (∃ p c, v = .slice p (k + 1) c) ∧ W.ownsRow lo 9 1 v (k + 1) (xs ++ [.string nm])
theorem NaS.below {J : World → Prop} {lo : Nat} {po : Option Addr} {k co : Nat} {xs : List Value} {nm : ByteArray} {b20 b21 : Bool} {gb : Nat} {v : Value} {W W' : World} (h : NaS J lo po k co xs nm b20 b21 gb v W) (hJ : J W') (hb : Below W.heap.size W W') : NaS J lo po k co xs nm b20 b21 gb v W' :=
 ⟨hJ, fun e => Sh.own_below (h.own e) hb, fun e f => (hb.block _ (block_lt (h.row e f))).trans (h.row e f), fun e => ⟨(h.app e).1, Sh.own_below (h.app e).2 hb⟩⟩
set_option maxRecDepth 8000 in
set_option maxRecDepth 8000 in
set_option maxHeartbeats 4000000 in
theorem na6 {Q : Exit → Act → World → Prop} {base : Array Value} {dd : List Deferred} {ops : Array Oper} (hops : Tryz.f46.body.bind (regs 6) = some ops) (J : World → Prop) (vv gt gl gi lo m cl K ck k co i j : Nat) (po : Option Addr) (xs : List Value) (q1 q2 : Int) (nm : ByteArray) (w9 : World) (hsz : base.size = 47) (b0 : base.getD 0 undef = .pointer (some ⟨vv, 0, none⟩)) (b6 : base.getD 6 undef = .slice (some ⟨gi, 0, none⟩) K ck) (b7 : base.getD 7 undef = .slice po k co) (b8 : base.getD 8 undef = .int .i64 i) (hik : (i : Int) < (K : Int)) (hjm : (j : Int) < (m : Int)) (hkk : k ≤ 1000000) (hJ : J w9.drew) (hown : w9.drew.ownsRow lo 9 1 (.slice po k co) k xs) (hlo : ∀ W, J W → lo ≤ W.heap.size) (hJb : ∀ W W', J W → Below W.heap.size W W' → J W') (hJg : ∀ W W', J W → W.ownsRow lo 9 1 (.slice po k co) k xs → W.grownBy W' (Value.slice po k co).ownBlock → J W') (hv : ∀ W, J W → W.cell? ⟨vv, 1, none⟩ = some (.pointer (some ⟨gt, 0, none⟩))) (hg : ∀ W, J W → W.cell? ⟨gt, 0, none⟩ = some (.slice (some ⟨gl, 0, none⟩) m cl)) (hn : ∀ W, J W → W.cell? ⟨gl, j * 6 + 4, none⟩ = some (.string nm)) (hid : ∀ W, J W → W.cell? ⟨gi, i * 2, none⟩ = some (.int .i64 q1) ∧ W.cell? ⟨gi, i * 2 + 1, none⟩ = some (.int .i64 q2)) (hc : ∀ W, J W → Calls Tryz.prog 14 #[.pointer (some ⟨gt, 0, none⟩), .agg #[.int .i64 q1, .int .i64 q2]] W fun e w' => e = .returned (.int .i64 j) ∧ Below W.heap.size W w') (hQ : ∀ (g : Nat × Value) (W : World), J W → (∃ p c, g.2 = .slice p (k + 1) c) → W.ownsRow lo 9 1 g.2 (k + 1) (xs ++ [.string nm]) → Q .normal ⟨putAll base ((fun g : Nat × Value => ([(some 21, .slice po k co), (some 22, .pointer (some ⟨vv, 0, none⟩)), (some 23, .pointer (some ⟨vv, 0, none⟩)), (some 24, .pointer (some ⟨vv, 1, none⟩)), (some 25, .pointer (some ⟨gt, 0, none⟩)), (some 26, .pointer (some ⟨gt, 0, none⟩)), (some 27, .pointer (some ⟨gt, 0, none⟩)), (some 28, .slice (some ⟨gl, 0, none⟩) m cl), (some 29, .pointer (some ⟨vv, 0, none⟩)), (some 30, .pointer (some ⟨vv, 0, none⟩)), (some 31, .pointer (some ⟨vv, 1, none⟩)), (some 32, .pointer (some ⟨gt, 0, none⟩)), (some 33, .slice (some ⟨gi, 0, none⟩) K ck), (some 34, .int .i64 i), (some 35, .pointer (some ⟨gi, i * 2, none⟩)), (some 36, .agg #[.int .i64 q1, .int .i64 q2]), (some 37, .int .i64 j), (some 38, .pointer (some ⟨gl, j * 6, none⟩)), (some 39, .pointer (some ⟨gl, j * 6 + 4, none⟩)), (some 40, .string nm), (some 41, .slice (some ⟨g.1, 0, none⟩) 1 1), (some 42, g.2), (some 7, g.2)] : List (Option Tmp × Value))) g), dd⟩ W) :
   (Code.region 6 ops true).wp Tryz.prog Q ⟨base, dd⟩ w9 := by
 have hmix := hmx
 have h3 := (show Tryz.f46.body.bind (regs 6) = some _ from rfl).symm.trans hops
 obtain rfl := Option.some.inj h3
 clear h3 hops
 obtain ⟨LL, hLe⟩ : ∃ LL : Nat × Value → List (Option Tmp × Value), LL = (fun g : Nat × Value => ([(some 21, .slice po k co), (some 22, .pointer (some ⟨vv, 0, none⟩)), (some 23, .pointer (some ⟨vv, 0, none⟩)), (some 24, .pointer (some ⟨vv, 1, none⟩)), (some 25, .pointer (some ⟨gt, 0, none⟩)), (some 26, .pointer (some ⟨gt, 0, none⟩)), (some 27, .pointer (some ⟨gt, 0, none⟩)), (some 28, .slice (some ⟨gl, 0, none⟩) m cl), (some 29, .pointer (some ⟨vv, 0, none⟩)), (some 30, .pointer (some ⟨vv, 0, none⟩)), (some 31, .pointer (some ⟨vv, 1, none⟩)), (some 32, .pointer (some ⟨gt, 0, none⟩)), (some 33, .slice (some ⟨gi, 0, none⟩) K ck), (some 34, .int .i64 i), (some 35, .pointer (some ⟨gi, i * 2, none⟩)), (some 36, .agg #[.int .i64 q1, .int .i64 q2]), (some 37, .int .i64 j), (some 38, .pointer (some ⟨gl, j * 6, none⟩)), (some 39, .pointer (some ⟨gl, j * 6 + 4, none⟩)), (some 40, .string nm), (some 41, .slice (some ⟨g.1, 0, none⟩) 1 1), (some 42, g.2), (some 7, g.2)] : List (Option Tmp × Value))) := ⟨_, rfl⟩
 have vv0 : ∀ g, vals (LL g) 0 = .slice po k co := fun g => by rw [hLe]; rfl
 have vv1 : ∀ g, vals (LL g) 1 = .pointer (some ⟨vv, 0, none⟩) := fun g => by rw [hLe]; rfl
 have vv2 : ∀ g, vals (LL g) 2 = .pointer (some ⟨vv, 0, none⟩) := fun g => by rw [hLe]; rfl
 have vv3 : ∀ g, vals (LL g) 3 = .pointer (some ⟨vv, 1, none⟩) := fun g => by rw [hLe]; rfl
 have vv4 : ∀ g, vals (LL g) 4 = .pointer (some ⟨gt, 0, none⟩) := fun g => by rw [hLe]; rfl
 have vv5 : ∀ g, vals (LL g) 5 = .pointer (some ⟨gt, 0, none⟩) := fun g => by rw [hLe]; rfl
 have vv6 : ∀ g, vals (LL g) 6 = .pointer (some ⟨gt, 0, none⟩) := fun g => by rw [hLe]; rfl
 have vv7 : ∀ g, vals (LL g) 7 = .slice (some ⟨gl, 0, none⟩) m cl := fun g => by rw [hLe]; rfl
 have vv8 : ∀ g, vals (LL g) 8 = .pointer (some ⟨vv, 0, none⟩) := fun g => by rw [hLe]; rfl
 have vv9 : ∀ g, vals (LL g) 9 = .pointer (some ⟨vv, 0, none⟩) := fun g => by rw [hLe]; rfl
 have vv10 : ∀ g, vals (LL g) 10 = .pointer (some ⟨vv, 1, none⟩) := fun g => by rw [hLe]; rfl
 have vv11 : ∀ g, vals (LL g) 11 = .pointer (some ⟨gt, 0, none⟩) := fun g => by rw [hLe]; rfl
 have vv12 : ∀ g, vals (LL g) 12 = .slice (some ⟨gi, 0, none⟩) K ck := fun g => by rw [hLe]; rfl
 have vv13 : ∀ g, vals (LL g) 13 = .int .i64 i := fun g => by rw [hLe]; rfl
 have vv14 : ∀ g, vals (LL g) 14 = .pointer (some ⟨gi, i * 2, none⟩) := fun g => by rw [hLe]; rfl
 have vv15 : ∀ g, vals (LL g) 15 = .agg #[.int .i64 q1, .int .i64 q2] := fun g => by rw [hLe]; rfl
 have vv16 : ∀ g, vals (LL g) 16 = .int .i64 j := fun g => by rw [hLe]; rfl
 have vv17 : ∀ g, vals (LL g) 17 = .pointer (some ⟨gl, j * 6, none⟩) := fun g => by rw [hLe]; rfl
 have vv18 : ∀ g, vals (LL g) 18 = .pointer (some ⟨gl, j * 6 + 4, none⟩) := fun g => by rw [hLe]; rfl
 have vv19 : ∀ g, vals (LL g) 19 = .string nm := fun g => by rw [hLe]; rfl
 have vv20 : ∀ g, vals (LL g) 20 = .slice (some ⟨g.1, 0, none⟩) 1 1 := fun g => by rw [hLe]; rfl
 have vv21 : ∀ g, vals (LL g) 21 = g.2 := fun g => by rw [hLe]; rfl
 have vv22 : ∀ g, vals (LL g) 22 = g.2 := fun g => by rw [hLe]; rfl
 refine region_laidg hmix (by kernel_rfl) 47 hsz (by kernel_rfl) ((0, undef) : Nat × Value) LL (fun g => by rw [hLe]; rfl) (fun (g : Nat × Value) (b : Nat → Bool) (W : World) => NaS J lo po k co xs nm (b 20) (b 21) g.1 g.2 W) ⟨hJ, fun _ => hown, (fun h _ => by cases h), (fun h => by cases h)⟩ ?_ ?_
 · rintro g b W io o a hS hcl ho hb hd ev kp yl
   match io with
   | 0 =>
     simp only [qq] at ho; subst ho
     have es7 : a.tmps[7]?.getD undef = .slice po k co := (kp 7 (fun jj hj => by
       match jj, hj with
       | 0, h => exact absurd h (by decide +kernel)
       | 1, h => exact absurd h (by decide +kernel)
       | 2, h => exact absurd h (by decide +kernel)
       | 3, h => exact absurd h (by decide +kernel)
       | 4, h => exact absurd h (by decide +kernel)
       | 5, h => exact absurd h (by decide +kernel)
       | 6, h => exact absurd h (by decide +kernel)
       | 7, h => exact absurd h (by decide +kernel)
       | 8, h => exact absurd h (by decide +kernel)
       | 9, h => exact absurd h (by decide +kernel)
       | 10, h => exact absurd h (by decide +kernel)
       | 11, h => exact absurd h (by decide +kernel)
       | 12, h => exact absurd h (by decide +kernel)
       | 13, h => exact absurd h (by decide +kernel)
       | 14, h => exact absurd h (by decide +kernel)
       | 15, h => exact absurd h (by decide +kernel)
       | 16, h => exact absurd h (by decide +kernel)
       | 17, h => exact absurd h (by decide +kernel)
       | 18, h => exact absurd h (by decide +kernel)
       | 19, h => exact absurd h (by decide +kernel)
       | 20, h => exact absurd h (by decide +kernel)
       | 21, h => exact absurd h (by decide +kernel)
       | 22, _ =>
         cases h : b 22 with
         | false => rfl
         | true => have := hcl 22 _ rfl h ⟨0, .phase⟩ (by simp) rfl; rw [hb] at this; cases this
       | jj + 23, h => simp [slotOf] at h)).trans b7
     refine doesg_value rfl nofun (v := .slice po k co) (w' := W) ?_ ⟨g, fun _ _ => rfl, (vv0 g).symm, (by simpa [did] using hS)⟩
     simp [execOp, go_sem, es7]
   | 1 =>
     simp only [qq] at ho; subst ho; have es0 : a.tmps[0]?.getD undef = .pointer (some ⟨vv, 0, none⟩) := (kp 0 (none_till (by kernel_rfl))).trans b0
     refine doesg_value rfl nofun (v := .pointer (some ⟨vv, 0, none⟩)) (w' := W) ?_ ⟨g, fun _ _ => rfl, (vv1 g).symm, (by simpa [did] using hS)⟩
     simp [execOp, go_sem, es0]
   | 2 =>
     simp only [qq] at ho; subst ho; have e1 := eD ev hd 1 22 (vv1 g)
     refine doesg_value rfl nofun (v := .pointer (some ⟨vv, 0, none⟩)) (w' := W) ?_ ⟨g, fun _ _ => rfl, (vv2 g).symm, (by simpa [did] using hS)⟩
     simp [execOp, go_sem, e1]
   | 3 =>
     simp only [qq] at ho; subst ho; have e2 := eD ev hd 2 23 (vv2 g)
     refine doesg_value rfl nofun (v := .pointer (some ⟨vv, 1, none⟩)) (w' := W) ?_ ⟨g, fun _ _ => rfl, (vv3 g).symm, (by simpa [did] using hS)⟩
     simp [execOp, go_sem, e2]
   | 4 =>
     simp only [qq] at ho; subst ho; have e3 := eD ev hd 3 24 (vv3 g); have d0 := hv W hS.j
     refine doesg_value rfl nofun (v := .pointer (some ⟨gt, 0, none⟩)) (w' := W) ?_ ⟨g, fun _ _ => rfl, (vv4 g).symm, (by simpa [did] using hS)⟩
     simp [execOp, go_sem, e3, d0]
   | 5 =>
     simp only [qq] at ho; subst ho; have e4 := eD ev hd 4 25 (vv4 g)
     refine doesg_value rfl nofun (v := .pointer (some ⟨gt, 0, none⟩)) (w' := W) ?_ ⟨g, fun _ _ => rfl, (vv5 g).symm, (by simpa [did] using hS)⟩
     simp [execOp, go_sem, e4]
   | 6 =>
     simp only [qq] at ho; subst ho; have e5 := eD ev hd 5 26 (vv5 g)
     refine doesg_value rfl nofun (v := .pointer (some ⟨gt, 0, none⟩)) (w' := W) ?_ ⟨g, fun _ _ => rfl, (vv6 g).symm, (by simpa [did] using hS)⟩
     simp [execOp, go_sem, e5]
   | 7 =>
     simp only [qq] at ho; subst ho; have e6 := eD ev hd 6 27 (vv6 g); have d0 := hg W hS.j
     refine doesg_value rfl nofun (v := .slice (some ⟨gl, 0, none⟩) m cl) (w' := W) ?_ ⟨g, fun _ _ => rfl, (vv7 g).symm, (by simpa [did] using hS)⟩
     simp [execOp, go_sem, e6, d0]
   | 8 =>
     simp only [qq] at ho; subst ho; have es0 : a.tmps[0]?.getD undef = .pointer (some ⟨vv, 0, none⟩) := (kp 0 (none_till (by kernel_rfl))).trans b0
     refine doesg_value rfl nofun (v := .pointer (some ⟨vv, 0, none⟩)) (w' := W) ?_ ⟨g, fun _ _ => rfl, (vv8 g).symm, (by simpa [did] using hS)⟩
     simp [execOp, go_sem, es0]
   | 9 =>
     simp only [qq] at ho; subst ho; have e8 := eD ev hd 8 29 (vv8 g)
     refine doesg_value rfl nofun (v := .pointer (some ⟨vv, 0, none⟩)) (w' := W) ?_ ⟨g, fun _ _ => rfl, (vv9 g).symm, (by simpa [did] using hS)⟩
     simp [execOp, go_sem, e8]
   | 10 =>
     simp only [qq] at ho; subst ho; have e9 := eD ev hd 9 30 (vv9 g)
     refine doesg_value rfl nofun (v := .pointer (some ⟨vv, 1, none⟩)) (w' := W) ?_ ⟨g, fun _ _ => rfl, (vv10 g).symm, (by simpa [did] using hS)⟩
     simp [execOp, go_sem, e9]
   | 11 =>
     simp only [qq] at ho; subst ho; have e10 := eD ev hd 10 31 (vv10 g); have d0 := hv W hS.j
     refine doesg_value rfl nofun (v := .pointer (some ⟨gt, 0, none⟩)) (w' := W) ?_ ⟨g, fun _ _ => rfl, (vv11 g).symm, (by simpa [did] using hS)⟩
     simp [execOp, go_sem, e10, d0]
   | 12 =>
     simp only [qq] at ho; subst ho; have es6 : a.tmps[6]?.getD undef = .slice (some ⟨gi, 0, none⟩) K ck := (kp 6 (none_till (by kernel_rfl))).trans b6
     refine doesg_value rfl nofun (v := .slice (some ⟨gi, 0, none⟩) K ck) (w' := W) ?_ ⟨g, fun _ _ => rfl, (vv12 g).symm, (by simpa [did] using hS)⟩
     simp [execOp, go_sem, es6]
   | 13 =>
     simp only [qq] at ho; subst ho; have es8 : a.tmps[8]?.getD undef = .int .i64 i := (kp 8 (none_till (by kernel_rfl))).trans b8
     refine doesg_value rfl nofun (v := .int .i64 i) (w' := W) ?_ ⟨g, fun _ _ => rfl, (vv13 g).symm, (by simpa [did] using hS)⟩
     simp [execOp, go_sem, es8]
   | 14 =>
     simp only [qq] at ho; subst ho; have e12 := eD ev hd 12 33 (vv12 g); have e13 := eD ev hd 13 34 (vv13 g)
     refine doesg_value rfl nofun (v := .pointer (some ⟨gi, i * 2, none⟩)) (w' := W) ?_ ⟨g, fun _ _ => rfl, (vv14 g).symm, (by simpa [did] using hS)⟩
     simp [execOp, go_sem, e12, e13, hik]
   | 15 =>
     simp only [qq] at ho; subst ho; have e14 := eD ev hd 14 35 (vv14 g)
     obtain ⟨d0, d1⟩ := hid W hS.j
     refine doesg_value rfl nofun (v := .agg #[.int .i64 q1, .int .i64 q2]) (w' := W) ?_ ⟨g, fun _ _ => rfl, (vv15 g).symm, (by simpa [did] using hS)⟩
     simp [execOp, go_sem, e14, d0, d1]
   | 16 =>
     simp only [qq] at ho; subst ho; have e11 := eD ev hd 11 32 (vv11 g); have e15 := eD ev hd 15 36 (vv15 g)
     refine doesg_call rfl nofun (f := 14) (args := #[.pointer (some ⟨gt, 0, none⟩), .agg #[.int .i64 q1, .int .i64 q2]]) ?_ ?_
     · simp [go_sem, e11, e15]
     · refine (hc W hS.j).mono ?_
       rintro e W' ⟨rfl, hb'⟩
       exact ⟨_, rfl, g, fun _ _ => rfl, (vv16 g).symm, (by simpa [did] using hS.below (hJb _ _ hS.j hb') hb')⟩
   | 17 =>
     simp only [qq] at ho; subst ho; have e7 := eD ev hd 7 28 (vv7 g); have e16 := eD ev hd 16 37 (vv16 g)
     refine doesg_value rfl nofun (v := .pointer (some ⟨gl, j * 6, none⟩)) (w' := W) ?_ ⟨g, fun _ _ => rfl, (vv17 g).symm, (by simpa [did] using hS)⟩
     simp [execOp, go_sem, e7, e16, hjm]
   | 18 =>
     simp only [qq] at ho; subst ho; have e17 := eD ev hd 17 38 (vv17 g)
     refine doesg_value rfl nofun (v := .pointer (some ⟨gl, j * 6 + 4, none⟩)) (w' := W) ?_ ⟨g, fun _ _ => rfl, (vv18 g).symm, (by simpa [did] using hS)⟩
     simp [execOp, go_sem, e17]
   | 19 =>
     simp only [qq] at ho; subst ho; have e18 := eD ev hd 18 39 (vv18 g); have d0 := hn W hS.j
     refine doesg_value rfl nofun (v := .string nm) (w' := W) ?_ ⟨g, fun _ _ => rfl, (vv19 g).symm, (by simpa [did] using hS)⟩
     simp [execOp, go_sem, e18, d0]
   | 20 =>
     simp only [qq] at ho; subst ho; have e19 := eD ev hd 19 40 (vv19 g); have hbn := (below_new W (.cells #[.string nm] 9)).out
     have h21 : b 21 = false := by
       cases h : b 21 with
       | false => rfl
       | true => have := hcl 21 _ rfl h ⟨20, .data⟩ (by simp) rfl; rw [hb] at this; cases this
     refine doesg_value rfl nofun (v := .slice (some ⟨W.heap.size, 0, none⟩) 1 1) (w' := W.alloc (.cells #[.string nm] 9)) ?_ ⟨(W.heap.size, g.2), ?_, (by rw [vv20]), ?_⟩
     · simp [execOp, go_sem, e19]
     · intro x hx
       match x, hx with
       | 0, _ => rw [vv0, vv0]
       | 1, _ => rw [vv1, vv1]
       | 2, _ => rw [vv2, vv2]
       | 3, _ => rw [vv3, vv3]
       | 4, _ => rw [vv4, vv4]
       | 5, _ => rw [vv5, vv5]
       | 6, _ => rw [vv6, vv6]
       | 7, _ => rw [vv7, vv7]
       | 8, _ => rw [vv8, vv8]
       | 9, _ => rw [vv9, vv9]
       | 10, _ => rw [vv10, vv10]
       | 11, _ => rw [vv11, vv11]
       | 12, _ => rw [vv12, vv12]
       | 13, _ => rw [vv13, vv13]
       | 14, _ => rw [vv14, vv14]
       | 15, _ => rw [vv15, vv15]
       | 16, _ => rw [vv16, vv16]
       | 17, _ => rw [vv17, vv17]
       | 18, _ => rw [vv18, vv18]
       | 19, _ => rw [vv19, vv19]
       | 20, h => rw [hb] at h; cases h
       | 21, _ => rw [vv21, vv21]
       | 22, _ => rw [vv22, vv22]
       | x + 23, _ => rw [hLe]; rfl
     · have hS' := hS.below (hJb _ _ hS.j hbn) hbn
       refine ⟨hS'.j, fun e => hS'.own h21, fun _ _ => heap_alloc_new W _, fun e => ?_⟩
       rw [show did b 20 21 = b 21 from if_neg (by decide), h21] at e
       cases e
   | 21 =>
     simp only [qq] at ho; subst ho; have e0 := eD ev hd 0 21 (vv0 g); have p20 := hD hd 20; have e20 := (ev 20 41 rfl p20).trans (vv20 g); have hrow := hS.row p20 hb; have hown' := hS.own hb
     obtain ⟨p', c', w', hr, ho', hgr⟩ := Sh.app_run Tryz.underlying53 Sh.ti_str 53 W lo (.slice po k co) k 1 xs [.string nm] (some ⟨g.1, 0, none⟩) 1 hown' (fun x u hx => by
       match x, hx with
       | 0, hx =>
         obtain rfl := Option.some.inj hx
         exact ⟨g.1, 0, rfl, cellOf hrow 0⟩
       | x + 1, hx => simp at hx) rfl (fun u hu => by rw [List.mem_singleton.1 hu]; rfl) (by omega) (by omega) (hlo W hS.j)
     refine doesg_value rfl nofun (v := .slice p' (k + 1) c') (w' := w') ?_ ⟨(g.1, .slice p' (k + 1) c'), ?_, (by rw [vv21]), ?_⟩
     · simp only [execOp, resolve, invoke, builtin, Sem.run_bind, Sem.run_pure, Result.andThen_ok, List.map_toArray, List.map_cons, List.map_nil, (show a.eval (.tmp 21) = a.tmps[21]?.getD undef by simp [Act.eval]).trans e0, (show a.eval (.tmp 41) = a.tmps[41]?.getD undef by simp [Act.eval]).trans e20, hr]
     · intro x hx
       match x, hx with
       | 0, _ => rw [vv0, vv0]
       | 1, _ => rw [vv1, vv1]
       | 2, _ => rw [vv2, vv2]
       | 3, _ => rw [vv3, vv3]
       | 4, _ => rw [vv4, vv4]
       | 5, _ => rw [vv5, vv5]
       | 6, _ => rw [vv6, vv6]
       | 7, _ => rw [vv7, vv7]
       | 8, _ => rw [vv8, vv8]
       | 9, _ => rw [vv9, vv9]
       | 10, _ => rw [vv10, vv10]
       | 11, _ => rw [vv11, vv11]
       | 12, _ => rw [vv12, vv12]
       | 13, _ => rw [vv13, vv13]
       | 14, _ => rw [vv14, vv14]
       | 15, _ => rw [vv15, vv15]
       | 16, _ => rw [vv16, vv16]
       | 17, _ => rw [vv17, vv17]
       | 18, _ => rw [vv18, vv18]
       | 19, _ => rw [vv19, vv19]
       | 20, _ => rw [vv20, vv20]
       | 21, h => rw [hb] at h; cases h
       | 22, h => have := hcl 22 _ rfl h ⟨21, .data⟩ (by simp) rfl; rw [hb] at this; cases this
       | x + 23, _ => rw [hLe]; rfl
     · refine ⟨hJg _ _ hS.j hown' hgr, fun e => ?_, fun _ e => ?_, fun _ => ⟨⟨p', c', rfl⟩, ho'⟩⟩
       · rw [show did b 21 21 = true from if_pos rfl] at e; cases e
       · rw [show did b 21 21 = true from if_pos rfl] at e; cases e
   | 22 =>
     simp only [qq] at ho; subst ho; have e21 := eD ev hd 21 42 (vv21 g)
     refine doesg_value rfl nofun (v := g.2) (w' := W) ?_ ⟨g, fun _ _ => rfl, (vv22 g).symm, (by simpa [did] using hS)⟩
     simp [execOp, go_sem, e21]
   | x + 23 => simp at ho
 · rintro g b W hS hall
   subst hLe
   exact hQ g W hS.j (hS.app (hall 21 (by decide))).1 (hS.app (hall 21 (by decide))).2
end Go.Proofs.YthhakekbffembaaGreatDoor.Ck.Y.W
