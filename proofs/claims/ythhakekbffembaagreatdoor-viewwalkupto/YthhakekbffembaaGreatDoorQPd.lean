import Derived.Test.YthhakekbffembaaGreatDoorQPa
import Derived.Maps.OwnOps
import Derived.Lib.BufferWrite
import Derived.Lib.UnsafeStr
import Derived.DeepKeys

namespace Go.Proofs.YthhakekbffembaaGreatDoor.Ck.Y
open Go.RowKit Go.Maps Go.Lib
theorem below_of_drew {B : Nat} {w w' : World} (h : Below B w.drew w') : Below B w w' := ⟨h.os, h.tape, h.output, h.size, h.block⟩
structure AtK (L : List Nat) (ky : Nat → PI) (q : PI) (i : Nat) (r : Bool) : Prop where
 le : i ≤ L.length
 lo : ∀ k x, k < i → L[k]? = some x → lessP (ky x) q
 hi : ∀ k x, i ≤ k → L[k]? = some x → ¬ lessP (ky x) q
 eq : r = true ↔ ∃ x, L[i]? = some x ∧ ky x = q
theorem AtK.unique {L : List Nat} {ky : Nat → PI} {q : PI} {i j : Nat} {r s : Bool} (h : AtK L ky q i r) (h' : AtK L ky q j s) : i = j ∧ r = s := by
 have e : i = j := by
   rcases Nat.lt_trichotomy i j with h1 | h1 | h1
   · obtain ⟨x, hx⟩ : ∃ x, L[i]? = some x := ⟨_, List.getElem?_eq_getElem (by have := h'.le; omega)⟩
     exact absurd (h'.lo i x h1 hx) (h.hi i x (Nat.le_refl _) hx)
   · exact h1
   · obtain ⟨x, hx⟩ : ∃ x, L[j]? = some x := ⟨_, List.getElem?_eq_getElem (by have := h.le; omega)⟩
     exact absurd (h.lo j x h1 hx) (h'.hi j x (Nat.le_refl _) hx)
 subst e
 refine ⟨rfl, ?_⟩
 have := h.eq.trans h'.eq.symm
 cases r <;> cases s <;> simp_all
theorem AtK.exists {L : List Nat} {ky : Nat → PI} (q : PI) (hs : L.Pairwise fun a b => lessP (ky a) (ky b)) : ∃ i r, AtK L ky q i r := by
 induction L with
 | nil => exact ⟨0, false, Nat.le_refl _, fun k x hk => by omega, fun k x _ hx => by simp at hx, by simp⟩
 | cons y L ih =>
   have h1 := List.pairwise_cons.1 hs
   obtain ⟨i, r, h⟩ := ih h1.2
   by_cases hy : lessP (ky y) q
   · refine ⟨i + 1, r, by have := h.le; simp; omega, fun k x hk hx => ?_, fun k x hk hx => ?_, ?_⟩
     · cases k with
       | zero => simp at hx; rw [← hx]; exact hy
       | succ k => exact h.lo k x (by omega) (by simpa using hx)
     · cases k with
       | zero => omega
       | succ k => exact h.hi k x (by omega) (by simpa using hx)
     · simpa using h.eq
   · refine ⟨0, decide (ky y = q), Nat.zero_le _, fun k x hk => by omega, fun k x _ hx => ?_, by simp⟩
     cases k with
     | zero => simp at hx; rw [← hx]; exact hy
     | succ k =>
       have hm : x ∈ L := List.mem_of_getElem? (by simpa using hx)
       exact fun e => hy (lessP_trans (h1.1 x hm) e)
theorem cmpZ_zero {t n t' n' : Int} (h : cmpZ t n t' n' = 0) : t = t' ∧ n = n' := by
 unfold cmpZ at h
 by_cases h1 : cmp1 t t' = 0
 · rw [if_pos h1] at h
   unfold cmp1 at h h1
   constructor
   · split at h1
     · omega
     · split at h1 <;> omega
   · split at h
     · omega
     · split at h <;> omega
 · rw [if_neg h1] at h; exact absurd h h1
set_option maxRecDepth 8000 in
set_option maxHeartbeats 4000000 in
theorem byS_reg {Q : Exit → Act → World → Prop} {base : Array Value} {dd : List Deferred} {ops : Array Oper} (hops : Tryz.f69.body.bind (regs 1) = some ops) (bb bx : Nat) (t n t' n' : Int) (w9 : World) (hsz : base.size = 11) (b0 : base.getD 0 undef = .pointer (some ⟨bb, 0, none⟩)) (b3 : base.getD 3 undef = .pointer (some ⟨bx, 0, none⟩)) (h0 : w9.cell? ⟨bb, 0, none⟩ = some (.int .i64 t)) (h1 : w9.cell? ⟨bb, 1, none⟩ = some (.int .i64 n)) (x0 : w9.cell? ⟨bx, 0, none⟩ = some (.int .i64 t')) (x1 : w9.cell? ⟨bx, 1, none⟩ = some (.int .i64 n')) (cK : ∀ W, Below w9.heap.size w9 W → Calls Tryz.prog 102 #[idv t n, idv t' n'] W fun e w' => e = .returned (.int .i64 (cmpZ t n t' n')) ∧ Below W.heap.size W w') (hQ : ∀ W, Below w9.heap.size w9 W → Q .normal ⟨putAll base [(some 5, .pointer (some ⟨bb, 0, none⟩)), (some 6, .pointer (some ⟨bb, 0, none⟩)), (some 7, .pointer (some ⟨bb, 0, none⟩)), (some 8, .agg #[.int .i64 t, .int .i64 n]), (some 9, .agg #[.int .i64 t', .int .i64 n']), (some 10, .int .i64 (cmpZ t n t' n')), (some 4, .int .i64 (cmpZ t n t' n'))], dd⟩ W) :
   (Code.region 1 ops true).wp Tryz.prog Q ⟨base, dd⟩ w9 := by
 have hmix := hmx
 have h2 := (show Tryz.f69.body.bind (regs 1) = some _ from rfl).symm.trans hops
 obtain rfl := Option.some.inj h2
 clear h2 hops
 have below9 : Below w9.heap.size w9 w9.drew := (Below.refl _ _).drew
 obtain ⟨LL, hLe⟩ := qL hQ
 have vv0 : vals LL 0 = .pointer (some ⟨bb, 0, none⟩) := vL hLe rfl
 have vv1 : vals LL 1 = .pointer (some ⟨bb, 0, none⟩) := vL hLe rfl
 have vv2 : vals LL 2 = .pointer (some ⟨bb, 0, none⟩) := vL hLe rfl
 have vv3 : vals LL 3 = .agg #[.int .i64 t, .int .i64 n] := vL hLe rfl
 have vv4 : vals LL 4 = .agg #[.int .i64 t', .int .i64 n'] := vL hLe rfl
 have vv5 : vals LL 5 = .int .i64 (cmpZ t n t' n') := vL hLe rfl
 have vv6 : vals LL 6 = .int .i64 (cmpZ t n t' n') := vL hLe rfl
 refine region_laid hmix (by kernel_rfl) 11 hsz (by kernel_rfl) LL (by rw [hLe]; rfl) (fun _ W => Below w9.heap.size w9 W) below9 ?_ ?_
 · intro b W i o a hS hcl ho hb hd ev kp yl
   match i with
   | 0 => simp only [qq] at ho; subst ho; have e0 := (kp 0 (by kernel_rfl)).trans b0; rw [vv0]; exact dV (by simp [execOp, go_sem, e0]) hS
   | 1 => simp only [qq] at ho; subst ho; have e5 := eD ev hd 0 5 vv0; rw [vv1]; exact dV (by simp [execOp, go_sem, e5]) hS
   | 2 => simp only [qq] at ho; subst ho; have e6 := eD ev hd 1 6 vv1; rw [vv2]; exact dV (by simp [execOp, go_sem, e6]) hS
   | 3 => simp only [qq] at ho; subst ho; have e7 := eD ev hd 2 7 vv2; have d0 := (hS.cell (p := ⟨bb, 0, none⟩) (cell_lt h0)).trans h0; have d1 := (hS.cell (p := ⟨bb, 1, none⟩) (cell_lt h1)).trans h1; rw [vv3]; exact dV (by simp [execOp, go_sem, e7, d0, d1]) hS
   | 4 => simp only [qq] at ho; subst ho; have e3 := (kp 3 (by kernel_rfl)).trans b3; have d0 := (hS.cell (p := ⟨bx, 0, none⟩) (cell_lt x0)).trans x0; have d1 := (hS.cell (p := ⟨bx, 1, none⟩) (cell_lt x1)).trans x1; rw [vv4]; exact dV (by simp [execOp, go_sem, e3, d0, d1]) hS
   | 5 =>
     simp only [qq] at ho; subst ho; have e8 := eD ev hd 3 8 vv3; have e9 := eD ev hd 4 9 vv4; rw [vv5]
     refine does_call rfl nofun (f := 102) (args := #[.agg #[.int .i64 t, .int .i64 n], .agg #[.int .i64 t', .int .i64 n']]) ?_ ?_
     · simp [go_sem, e8, e9]
     · exact (cK W hS).mono (fun e w' h => ⟨h.1, hS.trans (h.2.mono hS.size)⟩)
   | 6 => simp only [qq] at ho; subst ho; have e10 := eD ev hd 5 10 vv5; rw [vv6]; exact dV (by simp [execOp, go_sem, e10]) hS
   | k + 7 => simp at ho
 · intro b' W hS _
   subst hLe
   exact hQ W hS
set_option maxRecDepth 8000 in
set_option maxHeartbeats 4000000 in
theorem searchS_r5 {Q : Exit → Act → World → Prop} {base : Array Value} {dd : List Deferred} {ops : Array Oper} (hops : Tryz.f68.body.bind (regs 5) = some ops) (g x bx len cp k : Nat) (t n z : Int) (w9 : World) (hsz : base.size = 49) (b0 : base.getD 0 undef = .slice (some ⟨g, 0, none⟩) len cp) (b2 : base.getD 2 undef = .func (.func 69) #[] #[]) (b4 : base.getD 4 undef = .pointer (some ⟨bx, 0, none⟩)) (b11 : base.getD 11 undef = .int .i64 (k : Nat)) (hk : k < len) (c0 : w9.cell? ⟨g, k, none⟩ = some (.pointer (some ⟨x, 0, none⟩))) (x0 : w9.cell? ⟨bx, 0, none⟩ = some (.int .i64 t)) (x1 : w9.cell? ⟨bx, 1, none⟩ = some (.int .i64 n)) (cK : ∀ W, Below w9.heap.size w9 W → Calls Tryz.prog 69 #[.pointer (some ⟨x, 0, none⟩), idv t n] W fun e w' => e = .returned (.int .i64 z) ∧ Below W.heap.size W w') (hQ : ∀ W, Below w9.heap.size w9 W → Q .normal ⟨putAll base [(some 24, .func (.func 69) #[] #[]), (some 25, .slice (some ⟨g, 0, none⟩) len cp), (some 26, .int .i64 (k : Nat)), (some 27, .pointer (some ⟨g, k, none⟩)), (some 28, .pointer (some ⟨x, 0, none⟩)), (some 29, .agg #[.int .i64 t, .int .i64 n]), (some 30, .int .i64 z), (some 31, .bool (decide (z < 0)))], dd⟩ W) :
   (Code.region 5 ops true).wp Tryz.prog Q ⟨base, dd⟩ w9 := by
 have hmix := hmx
 have h2 := (show Tryz.f68.body.bind (regs 5) = some _ from rfl).symm.trans hops
 obtain rfl := Option.some.inj h2
 clear h2 hops
 have below9 : Below w9.heap.size w9 w9.drew := (Below.refl _ _).drew
 obtain ⟨LL, hLe⟩ := qL hQ
 have vv0 : vals LL 0 = .func (.func 69) #[] #[] := vL hLe rfl
 have vv1 : vals LL 1 = .slice (some ⟨g, 0, none⟩) len cp := vL hLe rfl
 have vv2 : vals LL 2 = .int .i64 (k : Nat) := vL hLe rfl
 have vv3 : vals LL 3 = .pointer (some ⟨g, k, none⟩) := vL hLe rfl
 have vv4 : vals LL 4 = .pointer (some ⟨x, 0, none⟩) := vL hLe rfl
 have vv5 : vals LL 5 = .agg #[.int .i64 t, .int .i64 n] := vL hLe rfl
 have vv6 : vals LL 6 = .int .i64 z := vL hLe rfl
 have vv7 : vals LL 7 = .bool (decide (z < 0)) := vL hLe rfl
 refine region_laid hmix (by kernel_rfl) 49 hsz (by kernel_rfl) LL (by rw [hLe]; rfl) (fun _ W => Below w9.heap.size w9 W) below9 ?_ ?_
 · intro b W i o a hS hcl ho hb hd ev kp yl
   match i with
   | 0 => simp only [qq] at ho; subst ho; have e2 := (kp 2 (by kernel_rfl)).trans b2; rw [vv0]; exact dV (by simp [execOp, go_sem, e2]) hS
   | 1 => simp only [qq] at ho; subst ho; have e0 := (kp 0 (by kernel_rfl)).trans b0; rw [vv1]; exact dV (by simp [execOp, go_sem, e0]) hS
   | 2 => simp only [qq] at ho; subst ho; have e11 := (kp 11 (by kernel_rfl)).trans b11; rw [vv2]; exact dV (by simp [execOp, go_sem, e11]) hS
   | 3 => simp only [qq] at ho; subst ho; have e25 := eD ev hd 1 25 vv1; have e26 := eD ev hd 2 26 vv2; rw [vv3]; exact dV (by simp [execOp, go_sem, e25, e26, hk]) hS
   | 4 => simp only [qq] at ho; subst ho; have e27 := eD ev hd 3 27 vv3; have d9_0 := (hS.cell (p := ⟨g, k, none⟩) (cell_lt c0)).trans c0; rw [vv4]; exact dV (by simp [execOp, go_sem, e27, d9_0]) hS
   | 5 => simp only [qq] at ho; subst ho; have e4 := (kp 4 (by kernel_rfl)).trans b4; have d0 := (hS.cell (p := ⟨bx, 0, none⟩) (cell_lt x0)).trans x0; have d1 := (hS.cell (p := ⟨bx, 1, none⟩) (cell_lt x1)).trans x1; rw [vv5]; exact dV (by simp [execOp, go_sem, e4, d0, d1]) hS
   | 6 =>
     simp only [qq] at ho; subst ho; have e24 := eD ev hd 0 24 vv0; have e28 := eD ev hd 4 28 vv4; have e29 := eD ev hd 5 29 vv5; rw [vv6]
     refine does_call rfl nofun (f := 69) (args := #[.pointer (some ⟨x, 0, none⟩), .agg #[.int .i64 t, .int .i64 n]]) ?_ ?_
     · simp [go_sem, e24, e28, e29]
     · exact (cK W hS).mono (fun e w' h => ⟨h.1, hS.trans (h.2.mono hS.size)⟩)
   | 7 => simp only [qq] at ho; subst ho; have e30 := eD ev hd 6 30 vv6; rw [vv7]; exact dV (by simp [execOp, go_sem, e30]) hS
   | k + 8 => simp at ho
 · intro b' W hS _
   subst hLe
   exact hQ W hS
set_option maxRecDepth 8000 in
set_option maxHeartbeats 4000000 in
theorem searchS_r8 {Q : Exit → Act → World → Prop} {base : Array Value} {dd : List Deferred} {ops : Array Oper} (hops : Tryz.f68.body.bind (regs 8) = some ops) (g x bx len cp k : Nat) (t n z : Int) (w9 : World) (hsz : base.size = 49) (b0 : base.getD 0 undef = .slice (some ⟨g, 0, none⟩) len cp) (b2 : base.getD 2 undef = .func (.func 69) #[] #[]) (b4 : base.getD 4 undef = .pointer (some ⟨bx, 0, none⟩)) (b8 : base.getD 8 undef = .int .i64 (len : Nat)) (b9 : base.getD 9 undef = .int .i64 (k : Nat)) (hk : k < len) (c0 : w9.cell? ⟨g, k, none⟩ = some (.pointer (some ⟨x, 0, none⟩))) (x0 : w9.cell? ⟨bx, 0, none⟩ = some (.int .i64 t)) (x1 : w9.cell? ⟨bx, 1, none⟩ = some (.int .i64 n)) (cK : ∀ W, Below w9.heap.size w9 W → Calls Tryz.prog 69 #[.pointer (some ⟨x, 0, none⟩), idv t n] W fun e w' => e = .returned (.int .i64 z) ∧ Below W.heap.size W w') (hQ : ∀ W, Below w9.heap.size w9 W → Q .normal ⟨putAll base [(some 35, .int .i64 (k : Nat)), (some 36, .int .i64 (k : Nat)), (some 37, .int .i64 (len : Nat)), (some 38, .bool true), (some 39, .bool true), (some 40, .func (.func 69) #[] #[]), (some 41, .slice (some ⟨g, 0, none⟩) len cp), (some 42, .int .i64 (k : Nat)), (some 43, .pointer (some ⟨g, k, none⟩)), (some 44, .pointer (some ⟨x, 0, none⟩)), (some 45, .agg #[.int .i64 t, .int .i64 n]), (some 46, .int .i64 z), (some 47, .bool (z == 0)), (some 48, .bool (z == 0)), (some 6, .int .i64 (k : Nat)), (some 7, .bool (z == 0))], dd⟩ W) :
   (Code.region 8 ops true).wp Tryz.prog Q ⟨base, dd⟩ w9 := by
 have hmix := hmx
 have h2 := (show Tryz.f68.body.bind (regs 8) = some _ from rfl).symm.trans hops
 obtain rfl := Option.some.inj h2
 clear h2 hops
 have below9 : Below w9.heap.size w9 w9.drew := (Below.refl _ _).drew
 obtain ⟨LL, hLe⟩ := qL hQ
 have vv0 : vals LL 0 = .int .i64 (k : Nat) := vL hLe rfl
 have vv1 : vals LL 1 = .int .i64 (k : Nat) := vL hLe rfl
 have vv2 : vals LL 2 = .int .i64 (len : Nat) := vL hLe rfl
 have vv3 : vals LL 3 = .bool true := vL hLe rfl
 have vv4 : vals LL 4 = .bool true := vL hLe rfl
 have vv5 : vals LL 5 = .func (.func 69) #[] #[] := vL hLe rfl
 have vv6 : vals LL 6 = .slice (some ⟨g, 0, none⟩) len cp := vL hLe rfl
 have vv7 : vals LL 7 = .int .i64 (k : Nat) := vL hLe rfl
 have vv8 : vals LL 8 = .pointer (some ⟨g, k, none⟩) := vL hLe rfl
 have vv9 : vals LL 9 = .pointer (some ⟨x, 0, none⟩) := vL hLe rfl
 have vv10 : vals LL 10 = .agg #[.int .i64 t, .int .i64 n] := vL hLe rfl
 have vv11 : vals LL 11 = .int .i64 z := vL hLe rfl
 have vv12 : vals LL 12 = .bool (z == 0) := vL hLe rfl
 have vv13 : vals LL 13 = .bool (z == 0) := vL hLe rfl
 have vv14 : vals LL 14 = .int .i64 (k : Nat) := vL hLe rfl
 have vv15 : vals LL 15 = .bool (z == 0) := vL hLe rfl
 refine region_laid hmix (by kernel_rfl) 49 hsz (by kernel_rfl) LL (by rw [hLe]; rfl) (fun _ W => Below w9.heap.size w9 W) below9 ?_ ?_
 · intro b W i o a hS hcl ho hb hd ev kp yl
   match i with
   | 0 => simp only [qq] at ho; subst ho; have e9 := (kp 9 (by kernel_rfl)).trans b9; rw [vv0]; exact dV (by simp [execOp, go_sem, e9]) hS
   | 1 => simp only [qq] at ho; subst ho; have e9 := (kp 9 (by kernel_rfl)).trans b9; rw [vv1]; exact dV (by simp [execOp, go_sem, e9]) hS
   | 2 => simp only [qq] at ho; subst ho; have e8 := (kp 8 (by kernel_rfl)).trans b8; rw [vv2]; exact dV (by simp [execOp, go_sem, e8]) hS
   | 3 => simp only [qq] at ho; subst ho; have e36 := eD ev hd 1 36 vv1; have e37 := eD ev hd 2 37 vv2; rw [vv3]; exact dV (by simp [execOp, go_sem, e36, e37, hk]) hS
   | 4 => simp only [qq] at ho; subst ho; have e38 := eD ev hd 3 38 vv3; rw [vv4]; exact dV (by simp [execOp, go_sem, e38]) hS
   | 5 => simp only [qq] at ho; subst ho; have e2 := (kp 2 (by kernel_rfl)).trans b2; rw [vv5]; exact dG (yl 4 39 true rfl (hG hd 4) vv4) (by simp [execOp, go_sem, e2]) hS
   | 6 => simp only [qq] at ho; subst ho; have e0 := (kp 0 (by kernel_rfl)).trans b0; rw [vv6]; exact dG (yl 4 39 true rfl (hG hd 4) vv4) (by simp [execOp, go_sem, e0]) hS
   | 7 => simp only [qq] at ho; subst ho; have e9 := (kp 9 (by kernel_rfl)).trans b9; rw [vv7]; exact dG (yl 4 39 true rfl (hG hd 4) vv4) (by simp [execOp, go_sem, e9]) hS
   | 8 => simp only [qq] at ho; subst ho; have e41 := eD ev hd 6 41 vv6; have e42 := eD ev hd 7 42 vv7; rw [vv8]; exact dG (yl 4 39 true rfl (hG hd 4) vv4) (by simp [execOp, go_sem, e41, e42, hk]) hS
   | 9 => simp only [qq] at ho; subst ho; have e43 := eD ev hd 8 43 vv8; have d9_0 := (hS.cell (p := ⟨g, k, none⟩) (cell_lt c0)).trans c0; rw [vv9]; exact dG (yl 4 39 true rfl (hG hd 4) vv4) (by simp [execOp, go_sem, e43, d9_0]) hS
   | 10 => simp only [qq] at ho; subst ho; have e4 := (kp 4 (by kernel_rfl)).trans b4; have d0 := (hS.cell (p := ⟨bx, 0, none⟩) (cell_lt x0)).trans x0; have d1 := (hS.cell (p := ⟨bx, 1, none⟩) (cell_lt x1)).trans x1; rw [vv10]; exact dG (yl 4 39 true rfl (hG hd 4) vv4) (by simp [execOp, go_sem, e4, d0, d1]) hS
   | 11 =>
     simp only [qq] at ho; subst ho; have e40 := eD ev hd 5 40 vv5; have e44 := eD ev hd 9 44 vv9; have e45 := eD ev hd 10 45 vv10; rw [vv11]
     refine does_call_g rfl (yl 4 39 true rfl (hG hd 4) vv4) nofun (f := 69) (args := #[.pointer (some ⟨x, 0, none⟩), .agg #[.int .i64 t, .int .i64 n]]) ?_ ?_
     · simp [go_sem, e40, e44, e45]
     · exact (cK W hS).mono (fun e w' h => ⟨h.1, hS.trans (h.2.mono hS.size)⟩)
   | 12 => simp only [qq] at ho; subst ho; have e46 := eD ev hd 11 46 vv11; rw [vv12]; exact dG (yl 4 39 true rfl (hG hd 4) vv4) (by simp [execOp, go_sem, e46]) hS
   | 13 => simp only [qq] at ho; subst ho; have e39 := eD ev hd 4 39 vv4; have e47 := eD ev hd 12 47 vv12; rw [vv13]; exact dV (by simp [execOp, go_sem, e39, e47]) hS
   | 14 => simp only [qq] at ho; subst ho; have e35 := eD ev hd 0 35 vv0; rw [vv14]; exact dV (by simp [execOp, go_sem, e35]) hS
   | 15 => simp only [qq] at ho; subst ho; have e48 := eD ev hd 13 48 vv13; rw [vv15]; exact dV (by simp [execOp, go_sem, e48]) hS
   | k + 16 => simp at ho
 · intro b' W hS _
   subst hLe
   exact hQ W hS
set_option maxRecDepth 8000 in
set_option maxHeartbeats 4000000 in
theorem searchS_r8no {Q : Exit → Act → World → Prop} {base : Array Value} {dd : List Deferred} {ops : Array Oper} (hops : Tryz.f68.body.bind (regs 8) = some ops) (len : Nat) (w9 : World) (hsz : base.size = 49) (b8 : base.getD 8 undef = .int .i64 (len : Nat)) (b9 : base.getD 9 undef = .int .i64 (len : Nat)) (hQ : ∀ W, Below w9.heap.size w9 W → Q .normal ⟨putAll base [(some 35, .int .i64 (len : Nat)), (some 36, .int .i64 (len : Nat)), (some 37, .int .i64 (len : Nat)), (some 38, .bool false), (some 39, .bool false), (some 40, undef), (some 41, undef), (some 42, undef), (some 43, undef), (some 44, undef), (some 45, undef), (some 46, undef), (some 47, undef), (some 48, .bool false), (some 6, .int .i64 (len : Nat)), (some 7, .bool false)], dd⟩ W) :
   (Code.region 8 ops true).wp Tryz.prog Q ⟨base, dd⟩ w9 := by
 have hmix := hmx
 have h2 := (show Tryz.f68.body.bind (regs 8) = some _ from rfl).symm.trans hops
 obtain rfl := Option.some.inj h2
 clear h2 hops
 have below9 : Below w9.heap.size w9 w9.drew := (Below.refl _ _).drew
 obtain ⟨LL, hLe⟩ := qL hQ
 have vv0 : vals LL 0 = .int .i64 (len : Nat) := vL hLe rfl
 have vv1 : vals LL 1 = .int .i64 (len : Nat) := vL hLe rfl
 have vv2 : vals LL 2 = .int .i64 (len : Nat) := vL hLe rfl
 have vv3 : vals LL 3 = .bool false := vL hLe rfl
 have vv4 : vals LL 4 = .bool false := vL hLe rfl
 have vv13 : vals LL 13 = .bool false := vL hLe rfl
 have vv14 : vals LL 14 = .int .i64 (len : Nat) := vL hLe rfl
 have vv15 : vals LL 15 = .bool false := vL hLe rfl
 refine region_laid hmix (by kernel_rfl) 49 hsz (by kernel_rfl) LL (by rw [hLe]; rfl) (fun _ W => Below w9.heap.size w9 W) below9 ?_ ?_
 · intro b W i o a hS hcl ho hb hd ev kp yl
   match i with
   | 0 => simp only [qq] at ho; subst ho; have e9 := (kp 9 (by kernel_rfl)).trans b9; rw [vv0]; exact dV (by simp [execOp, go_sem, e9]) hS
   | 1 => simp only [qq] at ho; subst ho; have e9 := (kp 9 (by kernel_rfl)).trans b9; rw [vv1]; exact dV (by simp [execOp, go_sem, e9]) hS
   | 2 => simp only [qq] at ho; subst ho; have e8 := (kp 8 (by kernel_rfl)).trans b8; rw [vv2]; exact dV (by simp [execOp, go_sem, e8]) hS
   | 3 => simp only [qq] at ho; subst ho; have e36 := eD ev hd 1 36 vv1; have e37 := eD ev hd 2 37 vv2; rw [vv3]; exact dV (by simp [execOp, go_sem, e36, e37]) hS
   | 4 => simp only [qq] at ho; subst ho; have e38 := eD ev hd 3 38 vv3; rw [vv4]; exact dV (by simp [execOp, go_sem, e38]) hS
   | 5 => simp only [qq] at ho; subst ho; exact does_pass rfl (yl 4 39 false rfl (hG hd 4) vv4) (by decide) (vL hLe rfl) (hS)
   | 6 => simp only [qq] at ho; subst ho; exact does_pass rfl (yl 4 39 false rfl (hG hd 4) vv4) (by decide) (vL hLe rfl) (hS)
   | 7 => simp only [qq] at ho; subst ho; exact does_pass rfl (yl 4 39 false rfl (hG hd 4) vv4) (by decide) (vL hLe rfl) (hS)
   | 8 => simp only [qq] at ho; subst ho; exact does_pass rfl (yl 4 39 false rfl (hG hd 4) vv4) (by decide) (vL hLe rfl) (hS)
   | 9 => simp only [qq] at ho; subst ho; exact does_pass rfl (yl 4 39 false rfl (hG hd 4) vv4) (by decide) (vL hLe rfl) (hS)
   | 10 => simp only [qq] at ho; subst ho; exact does_pass rfl (yl 4 39 false rfl (hG hd 4) vv4) (by decide) (vL hLe rfl) (hS)
   | 11 => simp only [qq] at ho; subst ho; exact does_pass rfl (yl 4 39 false rfl (hG hd 4) vv4) (by decide) (vL hLe rfl) (hS)
   | 12 => simp only [qq] at ho; subst ho; exact does_pass rfl (yl 4 39 false rfl (hG hd 4) vv4) (by decide) (vL hLe rfl) (hS)
   | 13 => simp only [qq] at ho; subst ho; have e39 := eD ev hd 4 39 vv4; rw [vv13]; exact dV (by simp [execOp, go_sem, e39]) hS
   | 14 => simp only [qq] at ho; subst ho; have e35 := eD ev hd 0 35 vv0; rw [vv14]; exact dV (by simp [execOp, go_sem, e35]) hS
   | 15 => simp only [qq] at ho; subst ho; have e48 := eD ev hd 13 48 vv13; rw [vv15]; exact dV (by simp [execOp, go_sem, e48]) hS
   | k + 16 => simp at ho
 · intro b' W hS _
   subst hLe
   exact hQ W hS
theorem byS_any (b : Nat) (t n t' n' : Int) (w : World) (h0 : w.cell? ⟨b, 0, none⟩ = some (.int .i64 t)) (h1 : w.cell? ⟨b, 1, none⟩ = some (.int .i64 n)) :
   Calls Tryz.prog 69 #[pv b, idv t' n'] w fun e w' => e = .returned (.int .i64 (cmpZ t n t' n')) ∧ Below w.heap.size w w' := by
 have hb1 : Below w.heap.size w (w.alloc (.cells #[.int .i64 t', .int .i64 n'] 28)) := (Below.refl _ w).alloc (Nat.le_refl _) _
 have c0 : (w.alloc (.cells #[.int .i64 t', .int .i64 n'] 28)).cell? ⟨b, 0, none⟩ = some (.int .i64 t) := (hb1.cell (p := ⟨b, 0, none⟩) (cell_lt h0)).trans h0
 have c1 : (w.alloc (.cells #[.int .i64 t', .int .i64 n'] 28)).cell? ⟨b, 1, none⟩ = some (.int .i64 n) := (hb1.cell (p := ⟨b, 1, none⟩) (cell_lt h1)).trans h1
 have hlt : b < w.heap.size := cell_lt h0
 have c := fun W => cmp_any t n t' n' W
 have HB : Hid (Below w.heap.size w (w.alloc (.cells #[.int .i64 t', .int .i64 n'] 28))) := hb1
 clear hb1
 unfold pv
 have x0 : (w.alloc (.cells #[.int .i64 t', .int .i64 n'] 28)).cell? ⟨w.heap.size, 0, none⟩ = some (.int .i64 t') := cellOf (heap_alloc_new w _) 0
 have x1 : (w.alloc (.cells #[.int .i64 t', .int .i64 n'] 28)).cell? ⟨w.heap.size, 1, none⟩ = some (.int .i64 n') := cellOf (heap_alloc_new w _) 1
 have HC : Hid ((w.alloc (.cells #[.int .i64 t', .int .i64 n'] 28)).cell? ⟨b, 0, none⟩ = some (.int .i64 t) ∧ (w.alloc (.cells #[.int .i64 t', .int .i64 n'] 28)).cell? ⟨b, 1, none⟩ = some (.int .i64 n) ∧ (w.alloc (.cells #[.int .i64 t', .int .i64 n'] 28)).cell? ⟨w.heap.size, 0, none⟩ = some (.int .i64 t') ∧ (w.alloc (.cells #[.int .i64 t', .int .i64 n'] 28)).cell? ⟨w.heap.size, 1, none⟩ = some (.int .i64 n')) := ⟨c0, c1, x0, x1⟩
 clear c0 c1 x0 x1 h0 h1
 go_enter Tryz.func69, Tryz.ntmps69
 go_wp2_with fail
 refine byS_reg (by kernel_rfl) b w.heap.size t n t' n' _ rfl rfl rfl HC.out.1 HC.out.2.1 HC.out.2.2.1 HC.out.2.2.2 (fun W _ => c W) ?_
 intro W hS
 have HS : Hid (Below (w.alloc (.cells #[.int .i64 t', .int .i64 n'] 28)).heap.size (w.alloc (.cells #[.int .i64 t', .int .i64 n'] 28)) W) := hS
 clear hS
 simp only [putAll, sA, sB, sC]
 go_wp2_with fail
 go_ret
 exact ⟨rfl, HB.out.trans (HS.out.mono HB.out.size)⟩
set_option maxRecDepth 8000 in
set_option maxHeartbeats 4000000 in
theorem searchS_any (g cp : Nat) (L : List Nat) (ky : Nat → PI) (t n : Int) (i0 : Nat) (r0 : Bool) (hat : AtK L ky (t, n) i0 r0) (w : World) (p : Option Addr) (hp : 0 < L.length → p = some ⟨g, 0, none⟩) (hs : L.Pairwise fun a b => lessP (ky a) (ky b)) (hl : L.length ≤ 1001) (hlc : L.length ≤ cp) (hc : ∀ (i x : Nat), L[i]? = some x → w.cell? ⟨g, i, none⟩ = some (pv x)) (hk : ∀ x ∈ L, w.cell? ⟨x, 0, none⟩ = some (.int .i64 (ky x).1) ∧ w.cell? ⟨x, 1, none⟩ = some (.int .i64 (ky x).2)) :
   Calls Tryz.prog 68 #[.slice p L.length cp, idv t n, .func (.func 69) #[] #[]] w fun e w' => e = .returned (.tuple #[.int .i64 (i0 : Nat), .bool r0]) ∧ Below w.heap.size w w' := by
 obtain ⟨len, hn⟩ : ∃ len, len = L.length := ⟨_, rfl⟩
 have HN : Hid (len = L.length) := hn
 have HC : Hid (∀ (W : World), Below w.heap.size w W → ∀ (i x : Nat), L[i]? = some x → W.cell? ⟨g, i, none⟩ = some (.pointer (some ⟨x, 0, none⟩)) ∧ W.cell? ⟨x, 0, none⟩ = some (.int .i64 (ky x).1) ∧ W.cell? ⟨x, 1, none⟩ = some (.int .i64 (ky x).2)) := fun W hb i x hx => by
   have h0 := hc i x hx
   obtain ⟨h1, h2⟩ := hk x (List.mem_of_getElem? hx)
   exact ⟨(hb.cell (p := ⟨g, i, none⟩) (cell_lt h0)).trans h0, (hb.cell (p := ⟨x, 0, none⟩) (cell_lt h1)).trans h1, (hb.cell (p := ⟨x, 1, none⟩) (cell_lt h2)).trans h2⟩
 have HP : Hid (0 < L.length → p = some ⟨g, 0, none⟩) := hp
 have HA : Hid (AtK L ky (t, n) i0 r0) := hat
 clear hat
 have HS : Hid (L.Pairwise fun a b => lessP (ky a) (ky b)) := hs
 rw [← hn] at hl hlc
 rw [← hn]
 clear hn hc hp hs hk
 obtain ⟨wb, hwb⟩ : ∃ wb, wb = w.alloc (.cells #[.int .i64 t, .int .i64 n] 28) := ⟨_, rfl⟩
 have HB0 : Hid (Below w.heap.size w wb) := by rw [hwb]; exact (Below.refl _ w).alloc (Nat.le_refl _) _
 have HT : Hid (wb.cell? ⟨w.heap.size, 0, none⟩ = some (.int .i64 t) ∧ wb.cell? ⟨w.heap.size, 1, none⟩ = some (.int .i64 n)) := by
   rw [hwb]; exact ⟨cellOf (heap_alloc_new w _) 0, cellOf (heap_alloc_new w _) 1⟩
 go_enter Tryz.func68, Tryz.ntmps68
 go_wp2_with fail
 rw [← hwb]
 clear hwb
 go_loopw [9, 10] (fun ii jj wr => ∃ i j : Nat, i ≤ j ∧ j ≤ len ∧ ii = .int .i64 i ∧ jj = .int .i64 j ∧ Hid (Below wb.heap.size wb wr ∧ (∀ k x, k < i → L[k]? = some x → lessP (ky x) (t, n)) ∧ (∀ k x, j ≤ k → L[k]? = some x → ¬ lessP (ky x) (t, n)))) (fun ii jj _ => (intOf jj).toNat - (intOf ii).toNat)
 case atStart => exact ⟨0, len, by omega, by omega, rfl, rfl, Below.refl _ _, (fun k x hk => by omega), (fun k x hk hx => by have := (List.getElem?_eq_some_iff.1 hx).1; rw [← HN.out] at this; omega)⟩
 case round =>
   obtain ⟨i, j, hij, hjn, rfl, rfl, HI⟩ := hrel
   have hBr : Below w.heap.size w wr := HB0.out.trans (HI.out.1.mono HB0.out.size)
   have t0 : wr.cell? ⟨w.heap.size, 0, none⟩ = some (.int .i64 t) := (HI.out.1.cell (p := ⟨w.heap.size, 0, none⟩) (cell_lt HT.out.1)).trans HT.out.1
   have t1 : wr.cell? ⟨w.heap.size, 1, none⟩ = some (.int .i64 n) := (HI.out.1.cell (p := ⟨w.heap.size, 1, none⟩) (cell_lt HT.out.1)).trans HT.out.2
   have HBr : Hid (Below w.heap.size w wr) := hBr
   clear hBr
   by_cases hlt : i < j
   · have hltI : (i : Int) < j := by omega
     obtain ⟨h, hh⟩ : ∃ h, (i + j) / 2 = h := ⟨_, rfl⟩
     have hhI : ((i : Int) + (j : Int)) / 2 = (h : Nat) := by omega
     have hhn : h < len := by omega
     have hhnI : (h : Int) < len := by omega
     obtain ⟨x, hx⟩ : ∃ x, L[h]? = some x := ⟨_, List.getElem?_eq_getElem (by rw [← HN.out]; exact hhn)⟩
     obtain rfl : p = some ⟨g, 0, none⟩ := HP.out (by rw [← HN.out]; omega)
     obtain ⟨c0, k0, k1⟩ := HC.out wr HBr.out h x hx
     have cF : ∀ W, Below wr.heap.size wr W → _ := fun W hW => byS_any x (ky x).1 (ky x).2 t n W ((hW.cell (p := ⟨x, 0, none⟩) (cell_lt k0)).trans k0) ((hW.cell (p := ⟨x, 1, none⟩) (cell_lt k1)).trans k1)
     have HCC : Hid (wr.cell? ⟨g, h, none⟩ = some (.pointer (some ⟨x, 0, none⟩)) ∧ wr.cell? ⟨w.heap.size, 0, none⟩ = some (.int .i64 t) ∧ wr.cell? ⟨w.heap.size, 1, none⟩ = some (.int .i64 n)) := ⟨c0, t0, t1⟩
     have HX : Hid (L[h]? = some x ∧ (i + j) / 2 = h) := ⟨hx, hh⟩
     obtain ⟨z, hz⟩ : ∃ z, cmpZ (ky x).1 (ky x).2 t n = z := ⟨_, rfl⟩
     have HZ : Hid (decide (z < 0) = lessB (ky x).1 (ky x).2 t n) := by show _ = _; rw [← hz]; exact less_cmp _ _ _ _
     rw [hz] at cF
     unfold pv at cF
     clear hx hh hz k0 k1 c0 t0 t1
     by_cases hz0 : z < 0
     · have HL : Hid (lessP (ky x) (t, n)) := by
         have := HZ.out
         rw [decide_eq_true hz0] at this
         exact this.symm
       go_wp2_with fail
       refine searchS_r5 (by kernel_rfl) g x w.heap.size len cp h t n z _ rfl rfl rfl rfl rfl hhn HCC.out.1 HCC.out.2.1 HCC.out.2.2 cF ?_
       intro w1 hb1
       have HB : Hid (Below wr.heap.size wr w1) := hb1
       clear hb1
       simp only [putAll, sA, sB, sC]
       go_wp2_with fail
       go_roundw
       case rel => exact ⟨h + 1, j, by omega, by omega, by go_num, rfl, HI.out.1.trans (HB.out.mono HI.out.1.size), (fun k y hk hy => by
           by_cases e : k = h
           · subst e; rw [HX.out.1] at hy; cases hy; exact HL.out
           · have h1 := List.pairwise_iff_getElem.1 HS.out k h (List.getElem?_eq_some_iff.1 hy).1 (List.getElem?_eq_some_iff.1 HX.out.1).1 (by omega)
             rw [(List.getElem?_eq_some_iff.1 hy).2, (List.getElem?_eq_some_iff.1 HX.out.1).2] at h1
             exact lessP_trans h1 HL.out), HI.out.2.2⟩
       case measure => simp [intOf]; omega
     · have HL : Hid (¬ lessP (ky x) (t, n)) := by
         have := HZ.out
         rw [decide_eq_false hz0] at this
         intro hp
         unfold lessP at hp
         rw [hp] at this
         cases this
       go_wp2_with fail
       refine searchS_r5 (by kernel_rfl) g x w.heap.size len cp h t n z _ rfl rfl rfl rfl rfl hhn HCC.out.1 HCC.out.2.1 HCC.out.2.2 cF ?_
       intro w1 hb1
       have HB : Hid (Below wr.heap.size wr w1) := hb1
       clear hb1
       simp only [putAll, sA, sB, sC]
       go_wp2_with fail
       go_roundw
       case rel => exact ⟨i, h, by omega, by omega, rfl, rfl, HI.out.1.trans (HB.out.mono HI.out.1.size), HI.out.2.1, (fun k y hk hy => by
           by_cases e : k = h
           · subst e; rw [HX.out.1] at hy; cases hy; exact HL.out
           · have h1 := List.pairwise_iff_getElem.1 HS.out h k (List.getElem?_eq_some_iff.1 HX.out.1).1 (List.getElem?_eq_some_iff.1 hy).1 (by omega)
             rw [(List.getElem?_eq_some_iff.1 hy).2, (List.getElem?_eq_some_iff.1 HX.out.1).2] at h1
             exact fun e2 => HL.out (lessP_trans h1 e2))⟩
       case measure => simp [intOf]; omega
   · obtain rfl : i = j := by omega
     have hge : ¬ (i : Int) < i := by omega
     by_cases hin : i < len
     · have hinI : (i : Int) < len := by omega
       obtain ⟨x, hx⟩ : ∃ x, L[i]? = some x := ⟨_, List.getElem?_eq_getElem (by rw [← HN.out]; exact hin)⟩
       obtain rfl : p = some ⟨g, 0, none⟩ := HP.out (by rw [← HN.out]; omega)
       obtain ⟨c0, k0, k1⟩ := HC.out wr HBr.out i x hx
       have cF : ∀ W, Below wr.heap.size wr W → _ := fun W hW => byS_any x (ky x).1 (ky x).2 t n W ((hW.cell (p := ⟨x, 0, none⟩) (cell_lt k0)).trans k0) ((hW.cell (p := ⟨x, 1, none⟩) (cell_lt k1)).trans k1)
       have HCC : Hid (wr.cell? ⟨g, i, none⟩ = some (.pointer (some ⟨x, 0, none⟩)) ∧ wr.cell? ⟨w.heap.size, 0, none⟩ = some (.int .i64 t) ∧ wr.cell? ⟨w.heap.size, 1, none⟩ = some (.int .i64 n)) := ⟨c0, t0, t1⟩
       obtain ⟨z, hz⟩ : ∃ z, cmpZ (ky x).1 (ky x).2 t n = z := ⟨_, rfl⟩
       have HR : Hid (AtK L ky (t, n) i (z == 0)) := by
         refine ⟨by rw [← HN.out]; omega, HI.out.2.1, HI.out.2.2, ?_⟩
         rw [beq_iff_eq, ← hz]
         constructor
         · intro e
           refine ⟨x, hx, ?_⟩
           have h1 := less_cmp (ky x).1 (ky x).2 t n
           have := cmpZ_zero e
           exact Prod.ext this.1 this.2
         · rintro ⟨y, hy, e⟩
           rw [hx] at hy; cases hy
           rw [e]
           exact cmpZ_same (by simp [lessB]) (by simp [lessB])
       rw [hz] at cF
       unfold pv at cF
       clear hx hz k0 k1 c0 t0 t1
       go_wp2_with fail
       refine searchS_r8 (by kernel_rfl) g x w.heap.size len cp i t n z _ rfl rfl rfl rfl rfl rfl hin HCC.out.1 HCC.out.2.1 HCC.out.2.2 cF ?_
       intro w1 hb1
       have HB : Hid (Below wr.heap.size wr w1) := hb1
       clear hb1
       simp only [putAll, sA, sB, sC]
       obtain ⟨e1, e2⟩ := HR.out.unique HA.out
       go_wp2_with fail
       go_ret2
       refine ⟨?_, HBr.out.trans (HB.out.mono HBr.out.size)⟩
       rw [← e1, ← e2]
       rfl
     · obtain rfl : i = len := by omega
       have HR : Hid (AtK L ky (t, n) i false) := by
         refine ⟨by rw [← HN.out]; omega, HI.out.2.1, HI.out.2.2, ?_⟩
         constructor
         · intro h; cases h
         · rintro ⟨y, hy, e⟩
           have := (List.getElem?_eq_some_iff.1 hy).1
           rw [← HN.out] at this; omega
       go_wp2_with fail
       refine searchS_r8no (by kernel_rfl) i _ rfl rfl rfl ?_
       intro w1 hb1
       have HB : Hid (Below wr.heap.size wr w1) := hb1
       clear hb1
       simp only [putAll, sA, sB, sC]
       obtain ⟨e1, e2⟩ := HR.out.unique HA.out
       go_wp2_with fail
       go_ret2
       refine ⟨?_, HBr.out.trans (HB.out.mono HBr.out.size)⟩
       rw [← e1, ← e2]
       rfl
set_option maxRecDepth 8000 in
set_option maxHeartbeats 4000000 in
theorem byO_reg {Q : Exit → Act → World → Prop} {base : Array Value} {dd : List Deferred} {ops : Array Oper} (hops : Tryz.f203.body.bind (regs 1) = some ops) (bb bx : Nat) (t n t' n' : Int) (w9 : World) (hsz : base.size = 11) (b0 : base.getD 0 undef = .pointer (some ⟨bb, 0, none⟩)) (b3 : base.getD 3 undef = .pointer (some ⟨bx, 0, none⟩)) (h0 : w9.cell? ⟨bb, 2, none⟩ = some (.int .i64 t)) (h1 : w9.cell? ⟨bb, 3, none⟩ = some (.int .i64 n)) (x0 : w9.cell? ⟨bx, 0, none⟩ = some (.int .i64 t')) (x1 : w9.cell? ⟨bx, 1, none⟩ = some (.int .i64 n')) (cK : ∀ W, Below w9.heap.size w9 W → Calls Tryz.prog 102 #[idv t n, idv t' n'] W fun e w' => e = .returned (.int .i64 (cmpZ t n t' n')) ∧ Below W.heap.size W w') (hQ : ∀ W, Below w9.heap.size w9 W → Q .normal ⟨putAll base [(some 5, .pointer (some ⟨bb, 0, none⟩)), (some 6, .pointer (some ⟨bb, 0, none⟩)), (some 7, .pointer (some ⟨bb, 2, none⟩)), (some 8, .agg #[.int .i64 t, .int .i64 n]), (some 9, .agg #[.int .i64 t', .int .i64 n']), (some 10, .int .i64 (cmpZ t n t' n')), (some 4, .int .i64 (cmpZ t n t' n'))], dd⟩ W) :
   (Code.region 1 ops true).wp Tryz.prog Q ⟨base, dd⟩ w9 := by
 have hmix := hmx
 have h2 := (show Tryz.f203.body.bind (regs 1) = some _ from rfl).symm.trans hops
 obtain rfl := Option.some.inj h2
 clear h2 hops
 have below9 : Below w9.heap.size w9 w9.drew := (Below.refl _ _).drew
 obtain ⟨LL, hLe⟩ := qL hQ
 have vv0 : vals LL 0 = .pointer (some ⟨bb, 0, none⟩) := vL hLe rfl
 have vv1 : vals LL 1 = .pointer (some ⟨bb, 0, none⟩) := vL hLe rfl
 have vv2 : vals LL 2 = .pointer (some ⟨bb, 2, none⟩) := vL hLe rfl
 have vv3 : vals LL 3 = .agg #[.int .i64 t, .int .i64 n] := vL hLe rfl
 have vv4 : vals LL 4 = .agg #[.int .i64 t', .int .i64 n'] := vL hLe rfl
 have vv5 : vals LL 5 = .int .i64 (cmpZ t n t' n') := vL hLe rfl
 have vv6 : vals LL 6 = .int .i64 (cmpZ t n t' n') := vL hLe rfl
 refine region_laid hmix (by kernel_rfl) 11 hsz (by kernel_rfl) LL (by rw [hLe]; rfl) (fun _ W => Below w9.heap.size w9 W) below9 ?_ ?_
 · intro b W i o a hS hcl ho hb hd ev kp yl
   match i with
   | 0 => simp only [qq] at ho; subst ho; have e0 := (kp 0 (by kernel_rfl)).trans b0; rw [vv0]; exact dV (by simp [execOp, go_sem, e0]) hS
   | 1 => simp only [qq] at ho; subst ho; have e5 := eD ev hd 0 5 vv0; rw [vv1]; exact dV (by simp [execOp, go_sem, e5]) hS
   | 2 => simp only [qq] at ho; subst ho; have e6 := eD ev hd 1 6 vv1; rw [vv2]; exact dV (by simp [execOp, go_sem, e6]) hS
   | 3 => simp only [qq] at ho; subst ho; have e7 := eD ev hd 2 7 vv2; have d2 := (hS.cell (p := ⟨bb, 2, none⟩) (cell_lt h0)).trans h0; have d3 := (hS.cell (p := ⟨bb, 3, none⟩) (cell_lt h1)).trans h1; rw [vv3]; exact dV (by simp [execOp, go_sem, e7, d2, d3]) hS
   | 4 => simp only [qq] at ho; subst ho; have e3 := (kp 3 (by kernel_rfl)).trans b3; have d0 := (hS.cell (p := ⟨bx, 0, none⟩) (cell_lt x0)).trans x0; have d1 := (hS.cell (p := ⟨bx, 1, none⟩) (cell_lt x1)).trans x1; rw [vv4]; exact dV (by simp [execOp, go_sem, e3, d0, d1]) hS
   | 5 =>
     simp only [qq] at ho; subst ho; have e8 := eD ev hd 3 8 vv3; have e9 := eD ev hd 4 9 vv4; rw [vv5]
     refine does_call rfl nofun (f := 102) (args := #[.agg #[.int .i64 t, .int .i64 n], .agg #[.int .i64 t', .int .i64 n']]) ?_ ?_
     · simp [go_sem, e8, e9]
     · exact (cK W hS).mono (fun e w' h => ⟨h.1, hS.trans (h.2.mono hS.size)⟩)
   | 6 => simp only [qq] at ho; subst ho; have e10 := eD ev hd 5 10 vv5; rw [vv6]; exact dV (by simp [execOp, go_sem, e10]) hS
   | k + 7 => simp at ho
 · intro b' W hS _
   subst hLe
   exact hQ W hS
set_option maxRecDepth 8000 in
set_option maxHeartbeats 4000000 in
theorem searchO_r5 {Q : Exit → Act → World → Prop} {base : Array Value} {dd : List Deferred} {ops : Array Oper} (hops : Tryz.f202.body.bind (regs 5) = some ops) (g x bx len cp k : Nat) (t n z : Int) (w9 : World) (hsz : base.size = 49) (b0 : base.getD 0 undef = .slice (some ⟨g, 0, none⟩) len cp) (b2 : base.getD 2 undef = .func (.func 203) #[] #[]) (b4 : base.getD 4 undef = .pointer (some ⟨bx, 0, none⟩)) (b11 : base.getD 11 undef = .int .i64 (k : Nat)) (hk : k < len) (c0 : w9.cell? ⟨g, k, none⟩ = some (.pointer (some ⟨x, 0, none⟩))) (x0 : w9.cell? ⟨bx, 0, none⟩ = some (.int .i64 t)) (x1 : w9.cell? ⟨bx, 1, none⟩ = some (.int .i64 n)) (cK : ∀ W, Below w9.heap.size w9 W → Calls Tryz.prog 203 #[.pointer (some ⟨x, 0, none⟩), idv t n] W fun e w' => e = .returned (.int .i64 z) ∧ Below W.heap.size W w') (hQ : ∀ W, Below w9.heap.size w9 W → Q .normal ⟨putAll base [(some 24, .func (.func 203) #[] #[]), (some 25, .slice (some ⟨g, 0, none⟩) len cp), (some 26, .int .i64 (k : Nat)), (some 27, .pointer (some ⟨g, k, none⟩)), (some 28, .pointer (some ⟨x, 0, none⟩)), (some 29, .agg #[.int .i64 t, .int .i64 n]), (some 30, .int .i64 z), (some 31, .bool (decide (z < 0)))], dd⟩ W) :
   (Code.region 5 ops true).wp Tryz.prog Q ⟨base, dd⟩ w9 := by
 have hmix := hmx
 have h2 := (show Tryz.f202.body.bind (regs 5) = some _ from rfl).symm.trans hops
 obtain rfl := Option.some.inj h2
 clear h2 hops
 have below9 : Below w9.heap.size w9 w9.drew := (Below.refl _ _).drew
 obtain ⟨LL, hLe⟩ := qL hQ
 have vv0 : vals LL 0 = .func (.func 203) #[] #[] := vL hLe rfl
 have vv1 : vals LL 1 = .slice (some ⟨g, 0, none⟩) len cp := vL hLe rfl
 have vv2 : vals LL 2 = .int .i64 (k : Nat) := vL hLe rfl
 have vv3 : vals LL 3 = .pointer (some ⟨g, k, none⟩) := vL hLe rfl
 have vv4 : vals LL 4 = .pointer (some ⟨x, 0, none⟩) := vL hLe rfl
 have vv5 : vals LL 5 = .agg #[.int .i64 t, .int .i64 n] := vL hLe rfl
 have vv6 : vals LL 6 = .int .i64 z := vL hLe rfl
 have vv7 : vals LL 7 = .bool (decide (z < 0)) := vL hLe rfl
 refine region_laid hmix (by kernel_rfl) 49 hsz (by kernel_rfl) LL (by rw [hLe]; rfl) (fun _ W => Below w9.heap.size w9 W) below9 ?_ ?_
 · intro b W i o a hS hcl ho hb hd ev kp yl
   match i with
   | 0 => simp only [qq] at ho; subst ho; have e2 := (kp 2 (by kernel_rfl)).trans b2; rw [vv0]; exact dV (by simp [execOp, go_sem, e2]) hS
   | 1 => simp only [qq] at ho; subst ho; have e0 := (kp 0 (by kernel_rfl)).trans b0; rw [vv1]; exact dV (by simp [execOp, go_sem, e0]) hS
   | 2 => simp only [qq] at ho; subst ho; have e11 := (kp 11 (by kernel_rfl)).trans b11; rw [vv2]; exact dV (by simp [execOp, go_sem, e11]) hS
   | 3 => simp only [qq] at ho; subst ho; have e25 := eD ev hd 1 25 vv1; have e26 := eD ev hd 2 26 vv2; rw [vv3]; exact dV (by simp [execOp, go_sem, e25, e26, hk]) hS
   | 4 => simp only [qq] at ho; subst ho; have e27 := eD ev hd 3 27 vv3; have d9_0 := (hS.cell (p := ⟨g, k, none⟩) (cell_lt c0)).trans c0; rw [vv4]; exact dV (by simp [execOp, go_sem, e27, d9_0]) hS
   | 5 => simp only [qq] at ho; subst ho; have e4 := (kp 4 (by kernel_rfl)).trans b4; have d0 := (hS.cell (p := ⟨bx, 0, none⟩) (cell_lt x0)).trans x0; have d1 := (hS.cell (p := ⟨bx, 1, none⟩) (cell_lt x1)).trans x1; rw [vv5]; exact dV (by simp [execOp, go_sem, e4, d0, d1]) hS
   | 6 =>
     simp only [qq] at ho; subst ho; have e24 := eD ev hd 0 24 vv0; have e28 := eD ev hd 4 28 vv4; have e29 := eD ev hd 5 29 vv5; rw [vv6]
     refine does_call rfl nofun (f := 203) (args := #[.pointer (some ⟨x, 0, none⟩), .agg #[.int .i64 t, .int .i64 n]]) ?_ ?_
     · simp [go_sem, e24, e28, e29]
     · exact (cK W hS).mono (fun e w' h => ⟨h.1, hS.trans (h.2.mono hS.size)⟩)
   | 7 => simp only [qq] at ho; subst ho; have e30 := eD ev hd 6 30 vv6; rw [vv7]; exact dV (by simp [execOp, go_sem, e30]) hS
   | k + 8 => simp at ho
 · intro b' W hS _
   subst hLe
   exact hQ W hS
set_option maxRecDepth 8000 in
set_option maxHeartbeats 4000000 in
theorem searchO_r8 {Q : Exit → Act → World → Prop} {base : Array Value} {dd : List Deferred} {ops : Array Oper} (hops : Tryz.f202.body.bind (regs 8) = some ops) (g x bx len cp k : Nat) (t n z : Int) (w9 : World) (hsz : base.size = 49) (b0 : base.getD 0 undef = .slice (some ⟨g, 0, none⟩) len cp) (b2 : base.getD 2 undef = .func (.func 203) #[] #[]) (b4 : base.getD 4 undef = .pointer (some ⟨bx, 0, none⟩)) (b8 : base.getD 8 undef = .int .i64 (len : Nat)) (b9 : base.getD 9 undef = .int .i64 (k : Nat)) (hk : k < len) (c0 : w9.cell? ⟨g, k, none⟩ = some (.pointer (some ⟨x, 0, none⟩))) (x0 : w9.cell? ⟨bx, 0, none⟩ = some (.int .i64 t)) (x1 : w9.cell? ⟨bx, 1, none⟩ = some (.int .i64 n)) (cK : ∀ W, Below w9.heap.size w9 W → Calls Tryz.prog 203 #[.pointer (some ⟨x, 0, none⟩), idv t n] W fun e w' => e = .returned (.int .i64 z) ∧ Below W.heap.size W w') (hQ : ∀ W, Below w9.heap.size w9 W → Q .normal ⟨putAll base [(some 35, .int .i64 (k : Nat)), (some 36, .int .i64 (k : Nat)), (some 37, .int .i64 (len : Nat)), (some 38, .bool true), (some 39, .bool true), (some 40, .func (.func 203) #[] #[]), (some 41, .slice (some ⟨g, 0, none⟩) len cp), (some 42, .int .i64 (k : Nat)), (some 43, .pointer (some ⟨g, k, none⟩)), (some 44, .pointer (some ⟨x, 0, none⟩)), (some 45, .agg #[.int .i64 t, .int .i64 n]), (some 46, .int .i64 z), (some 47, .bool (z == 0)), (some 48, .bool (z == 0)), (some 6, .int .i64 (k : Nat)), (some 7, .bool (z == 0))], dd⟩ W) :
   (Code.region 8 ops true).wp Tryz.prog Q ⟨base, dd⟩ w9 := by
 have hmix := hmx
 have h2 := (show Tryz.f202.body.bind (regs 8) = some _ from rfl).symm.trans hops
 obtain rfl := Option.some.inj h2
 clear h2 hops
 have below9 : Below w9.heap.size w9 w9.drew := (Below.refl _ _).drew
 obtain ⟨LL, hLe⟩ := qL hQ
 have vv0 : vals LL 0 = .int .i64 (k : Nat) := vL hLe rfl
 have vv1 : vals LL 1 = .int .i64 (k : Nat) := vL hLe rfl
 have vv2 : vals LL 2 = .int .i64 (len : Nat) := vL hLe rfl
 have vv3 : vals LL 3 = .bool true := vL hLe rfl
 have vv4 : vals LL 4 = .bool true := vL hLe rfl
 have vv5 : vals LL 5 = .func (.func 203) #[] #[] := vL hLe rfl
 have vv6 : vals LL 6 = .slice (some ⟨g, 0, none⟩) len cp := vL hLe rfl
 have vv7 : vals LL 7 = .int .i64 (k : Nat) := vL hLe rfl
 have vv8 : vals LL 8 = .pointer (some ⟨g, k, none⟩) := vL hLe rfl
 have vv9 : vals LL 9 = .pointer (some ⟨x, 0, none⟩) := vL hLe rfl
 have vv10 : vals LL 10 = .agg #[.int .i64 t, .int .i64 n] := vL hLe rfl
 have vv11 : vals LL 11 = .int .i64 z := vL hLe rfl
 have vv12 : vals LL 12 = .bool (z == 0) := vL hLe rfl
 have vv13 : vals LL 13 = .bool (z == 0) := vL hLe rfl
 have vv14 : vals LL 14 = .int .i64 (k : Nat) := vL hLe rfl
 have vv15 : vals LL 15 = .bool (z == 0) := vL hLe rfl
 refine region_laid hmix (by kernel_rfl) 49 hsz (by kernel_rfl) LL (by rw [hLe]; rfl) (fun _ W => Below w9.heap.size w9 W) below9 ?_ ?_
 · intro b W i o a hS hcl ho hb hd ev kp yl
   match i with
   | 0 => simp only [qq] at ho; subst ho; have e9 := (kp 9 (by kernel_rfl)).trans b9; rw [vv0]; exact dV (by simp [execOp, go_sem, e9]) hS
   | 1 => simp only [qq] at ho; subst ho; have e9 := (kp 9 (by kernel_rfl)).trans b9; rw [vv1]; exact dV (by simp [execOp, go_sem, e9]) hS
   | 2 => simp only [qq] at ho; subst ho; have e8 := (kp 8 (by kernel_rfl)).trans b8; rw [vv2]; exact dV (by simp [execOp, go_sem, e8]) hS
   | 3 => simp only [qq] at ho; subst ho; have e36 := eD ev hd 1 36 vv1; have e37 := eD ev hd 2 37 vv2; rw [vv3]; exact dV (by simp [execOp, go_sem, e36, e37, hk]) hS
   | 4 => simp only [qq] at ho; subst ho; have e38 := eD ev hd 3 38 vv3; rw [vv4]; exact dV (by simp [execOp, go_sem, e38]) hS
   | 5 => simp only [qq] at ho; subst ho; have e2 := (kp 2 (by kernel_rfl)).trans b2; rw [vv5]; exact dG (yl 4 39 true rfl (hG hd 4) vv4) (by simp [execOp, go_sem, e2]) hS
   | 6 => simp only [qq] at ho; subst ho; have e0 := (kp 0 (by kernel_rfl)).trans b0; rw [vv6]; exact dG (yl 4 39 true rfl (hG hd 4) vv4) (by simp [execOp, go_sem, e0]) hS
   | 7 => simp only [qq] at ho; subst ho; have e9 := (kp 9 (by kernel_rfl)).trans b9; rw [vv7]; exact dG (yl 4 39 true rfl (hG hd 4) vv4) (by simp [execOp, go_sem, e9]) hS
   | 8 => simp only [qq] at ho; subst ho; have e41 := eD ev hd 6 41 vv6; have e42 := eD ev hd 7 42 vv7; rw [vv8]; exact dG (yl 4 39 true rfl (hG hd 4) vv4) (by simp [execOp, go_sem, e41, e42, hk]) hS
   | 9 => simp only [qq] at ho; subst ho; have e43 := eD ev hd 8 43 vv8; have d9_0 := (hS.cell (p := ⟨g, k, none⟩) (cell_lt c0)).trans c0; rw [vv9]; exact dG (yl 4 39 true rfl (hG hd 4) vv4) (by simp [execOp, go_sem, e43, d9_0]) hS
   | 10 => simp only [qq] at ho; subst ho; have e4 := (kp 4 (by kernel_rfl)).trans b4; have d0 := (hS.cell (p := ⟨bx, 0, none⟩) (cell_lt x0)).trans x0; have d1 := (hS.cell (p := ⟨bx, 1, none⟩) (cell_lt x1)).trans x1; rw [vv10]; exact dG (yl 4 39 true rfl (hG hd 4) vv4) (by simp [execOp, go_sem, e4, d0, d1]) hS
   | 11 =>
     simp only [qq] at ho; subst ho; have e40 := eD ev hd 5 40 vv5; have e44 := eD ev hd 9 44 vv9; have e45 := eD ev hd 10 45 vv10; rw [vv11]
     refine does_call_g rfl (yl 4 39 true rfl (hG hd 4) vv4) nofun (f := 203) (args := #[.pointer (some ⟨x, 0, none⟩), .agg #[.int .i64 t, .int .i64 n]]) ?_ ?_
     · simp [go_sem, e40, e44, e45]
     · exact (cK W hS).mono (fun e w' h => ⟨h.1, hS.trans (h.2.mono hS.size)⟩)
   | 12 => simp only [qq] at ho; subst ho; have e46 := eD ev hd 11 46 vv11; rw [vv12]; exact dG (yl 4 39 true rfl (hG hd 4) vv4) (by simp [execOp, go_sem, e46]) hS
   | 13 => simp only [qq] at ho; subst ho; have e39 := eD ev hd 4 39 vv4; have e47 := eD ev hd 12 47 vv12; rw [vv13]; exact dV (by simp [execOp, go_sem, e39, e47]) hS
   | 14 => simp only [qq] at ho; subst ho; have e35 := eD ev hd 0 35 vv0; rw [vv14]; exact dV (by simp [execOp, go_sem, e35]) hS
   | 15 => simp only [qq] at ho; subst ho; have e48 := eD ev hd 13 48 vv13; rw [vv15]; exact dV (by simp [execOp, go_sem, e48]) hS
   | k + 16 => simp at ho
 · intro b' W hS _
   subst hLe
   exact hQ W hS
set_option maxRecDepth 8000 in
set_option maxHeartbeats 4000000 in
theorem searchO_r8no {Q : Exit → Act → World → Prop} {base : Array Value} {dd : List Deferred} {ops : Array Oper} (hops : Tryz.f202.body.bind (regs 8) = some ops) (len : Nat) (w9 : World) (hsz : base.size = 49) (b8 : base.getD 8 undef = .int .i64 (len : Nat)) (b9 : base.getD 9 undef = .int .i64 (len : Nat)) (hQ : ∀ W, Below w9.heap.size w9 W → Q .normal ⟨putAll base [(some 35, .int .i64 (len : Nat)), (some 36, .int .i64 (len : Nat)), (some 37, .int .i64 (len : Nat)), (some 38, .bool false), (some 39, .bool false), (some 40, undef), (some 41, undef), (some 42, undef), (some 43, undef), (some 44, undef), (some 45, undef), (some 46, undef), (some 47, undef), (some 48, .bool false), (some 6, .int .i64 (len : Nat)), (some 7, .bool false)], dd⟩ W) :
   (Code.region 8 ops true).wp Tryz.prog Q ⟨base, dd⟩ w9 := by
 have hmix := hmx
 have h2 := (show Tryz.f202.body.bind (regs 8) = some _ from rfl).symm.trans hops
 obtain rfl := Option.some.inj h2
 clear h2 hops
 have below9 : Below w9.heap.size w9 w9.drew := (Below.refl _ _).drew
 obtain ⟨LL, hLe⟩ := qL hQ
 have vv0 : vals LL 0 = .int .i64 (len : Nat) := vL hLe rfl
 have vv1 : vals LL 1 = .int .i64 (len : Nat) := vL hLe rfl
 have vv2 : vals LL 2 = .int .i64 (len : Nat) := vL hLe rfl
 have vv3 : vals LL 3 = .bool false := vL hLe rfl
 have vv4 : vals LL 4 = .bool false := vL hLe rfl
 have vv13 : vals LL 13 = .bool false := vL hLe rfl
 have vv14 : vals LL 14 = .int .i64 (len : Nat) := vL hLe rfl
 have vv15 : vals LL 15 = .bool false := vL hLe rfl
 refine region_laid hmix (by kernel_rfl) 49 hsz (by kernel_rfl) LL (by rw [hLe]; rfl) (fun _ W => Below w9.heap.size w9 W) below9 ?_ ?_
 · intro b W i o a hS hcl ho hb hd ev kp yl
   match i with
   | 0 => simp only [qq] at ho; subst ho; have e9 := (kp 9 (by kernel_rfl)).trans b9; rw [vv0]; exact dV (by simp [execOp, go_sem, e9]) hS
   | 1 => simp only [qq] at ho; subst ho; have e9 := (kp 9 (by kernel_rfl)).trans b9; rw [vv1]; exact dV (by simp [execOp, go_sem, e9]) hS
   | 2 => simp only [qq] at ho; subst ho; have e8 := (kp 8 (by kernel_rfl)).trans b8; rw [vv2]; exact dV (by simp [execOp, go_sem, e8]) hS
   | 3 => simp only [qq] at ho; subst ho; have e36 := eD ev hd 1 36 vv1; have e37 := eD ev hd 2 37 vv2; rw [vv3]; exact dV (by simp [execOp, go_sem, e36, e37]) hS
   | 4 => simp only [qq] at ho; subst ho; have e38 := eD ev hd 3 38 vv3; rw [vv4]; exact dV (by simp [execOp, go_sem, e38]) hS
   | 5 => simp only [qq] at ho; subst ho; exact does_pass rfl (yl 4 39 false rfl (hG hd 4) vv4) (by decide) (vL hLe rfl) (hS)
   | 6 => simp only [qq] at ho; subst ho; exact does_pass rfl (yl 4 39 false rfl (hG hd 4) vv4) (by decide) (vL hLe rfl) (hS)
   | 7 => simp only [qq] at ho; subst ho; exact does_pass rfl (yl 4 39 false rfl (hG hd 4) vv4) (by decide) (vL hLe rfl) (hS)
   | 8 => simp only [qq] at ho; subst ho; exact does_pass rfl (yl 4 39 false rfl (hG hd 4) vv4) (by decide) (vL hLe rfl) (hS)
   | 9 => simp only [qq] at ho; subst ho; exact does_pass rfl (yl 4 39 false rfl (hG hd 4) vv4) (by decide) (vL hLe rfl) (hS)
   | 10 => simp only [qq] at ho; subst ho; exact does_pass rfl (yl 4 39 false rfl (hG hd 4) vv4) (by decide) (vL hLe rfl) (hS)
   | 11 => simp only [qq] at ho; subst ho; exact does_pass rfl (yl 4 39 false rfl (hG hd 4) vv4) (by decide) (vL hLe rfl) (hS)
   | 12 => simp only [qq] at ho; subst ho; exact does_pass rfl (yl 4 39 false rfl (hG hd 4) vv4) (by decide) (vL hLe rfl) (hS)
   | 13 => simp only [qq] at ho; subst ho; have e39 := eD ev hd 4 39 vv4; rw [vv13]; exact dV (by simp [execOp, go_sem, e39]) hS
   | 14 => simp only [qq] at ho; subst ho; have e35 := eD ev hd 0 35 vv0; rw [vv14]; exact dV (by simp [execOp, go_sem, e35]) hS
   | 15 => simp only [qq] at ho; subst ho; have e48 := eD ev hd 13 48 vv13; rw [vv15]; exact dV (by simp [execOp, go_sem, e48]) hS
   | k + 16 => simp at ho
 · intro b' W hS _
   subst hLe
   exact hQ W hS
theorem byO_any (b : Nat) (t n t' n' : Int) (w : World) (h0 : w.cell? ⟨b, 2, none⟩ = some (.int .i64 t)) (h1 : w.cell? ⟨b, 3, none⟩ = some (.int .i64 n)) :
   Calls Tryz.prog 203 #[pv b, idv t' n'] w fun e w' => e = .returned (.int .i64 (cmpZ t n t' n')) ∧ Below w.heap.size w w' := by
 have hb1 : Below w.heap.size w (w.alloc (.cells #[.int .i64 t', .int .i64 n'] 28)) := (Below.refl _ w).alloc (Nat.le_refl _) _
 have c0 : (w.alloc (.cells #[.int .i64 t', .int .i64 n'] 28)).cell? ⟨b, 2, none⟩ = some (.int .i64 t) := (hb1.cell (p := ⟨b, 2, none⟩) (cell_lt h0)).trans h0
 have c1 : (w.alloc (.cells #[.int .i64 t', .int .i64 n'] 28)).cell? ⟨b, 3, none⟩ = some (.int .i64 n) := (hb1.cell (p := ⟨b, 3, none⟩) (cell_lt h1)).trans h1
 have hlt : b < w.heap.size := cell_lt h0
 have c := fun W => cmp_any t n t' n' W
 have HB : Hid (Below w.heap.size w (w.alloc (.cells #[.int .i64 t', .int .i64 n'] 28))) := hb1
 clear hb1
 unfold pv
 have x0 : (w.alloc (.cells #[.int .i64 t', .int .i64 n'] 28)).cell? ⟨w.heap.size, 0, none⟩ = some (.int .i64 t') := cellOf (heap_alloc_new w _) 0
 have x1 : (w.alloc (.cells #[.int .i64 t', .int .i64 n'] 28)).cell? ⟨w.heap.size, 1, none⟩ = some (.int .i64 n') := cellOf (heap_alloc_new w _) 1
 have HC : Hid ((w.alloc (.cells #[.int .i64 t', .int .i64 n'] 28)).cell? ⟨b, 2, none⟩ = some (.int .i64 t) ∧ (w.alloc (.cells #[.int .i64 t', .int .i64 n'] 28)).cell? ⟨b, 3, none⟩ = some (.int .i64 n) ∧ (w.alloc (.cells #[.int .i64 t', .int .i64 n'] 28)).cell? ⟨w.heap.size, 0, none⟩ = some (.int .i64 t') ∧ (w.alloc (.cells #[.int .i64 t', .int .i64 n'] 28)).cell? ⟨w.heap.size, 1, none⟩ = some (.int .i64 n')) := ⟨c0, c1, x0, x1⟩
 clear c0 c1 x0 x1 h0 h1
 go_enter Tryz.func203, Tryz.ntmps203
 go_wp2_with fail
 refine byO_reg (by kernel_rfl) b w.heap.size t n t' n' _ rfl rfl rfl HC.out.1 HC.out.2.1 HC.out.2.2.1 HC.out.2.2.2 (fun W _ => c W) ?_
 intro W hS
 have HS : Hid (Below (w.alloc (.cells #[.int .i64 t', .int .i64 n'] 28)).heap.size (w.alloc (.cells #[.int .i64 t', .int .i64 n'] 28)) W) := hS
 clear hS
 simp only [putAll, sA, sB, sC]
 go_wp2_with fail
 go_ret
 exact ⟨rfl, HB.out.trans (HS.out.mono HB.out.size)⟩
set_option maxRecDepth 8000 in
set_option maxHeartbeats 4000000 in
theorem searchO_any (g cp : Nat) (L : List Nat) (ky : Nat → PI) (t n : Int) (i0 : Nat) (r0 : Bool) (hat : AtK L ky (t, n) i0 r0) (w : World) (p : Option Addr) (hp : 0 < L.length → p = some ⟨g, 0, none⟩) (hs : L.Pairwise fun a b => lessP (ky a) (ky b)) (hl : L.length ≤ 1001) (hlc : L.length ≤ cp) (hc : ∀ (i x : Nat), L[i]? = some x → w.cell? ⟨g, i, none⟩ = some (pv x)) (hk : ∀ x ∈ L, w.cell? ⟨x, 2, none⟩ = some (.int .i64 (ky x).1) ∧ w.cell? ⟨x, 3, none⟩ = some (.int .i64 (ky x).2)) :
   Calls Tryz.prog 202 #[.slice p L.length cp, idv t n, .func (.func 203) #[] #[]] w fun e w' => e = .returned (.tuple #[.int .i64 (i0 : Nat), .bool r0]) ∧ Below w.heap.size w w' := by
 obtain ⟨len, hn⟩ : ∃ len, len = L.length := ⟨_, rfl⟩
 have HN : Hid (len = L.length) := hn
 have HC : Hid (∀ (W : World), Below w.heap.size w W → ∀ (i x : Nat), L[i]? = some x → W.cell? ⟨g, i, none⟩ = some (.pointer (some ⟨x, 0, none⟩)) ∧ W.cell? ⟨x, 2, none⟩ = some (.int .i64 (ky x).1) ∧ W.cell? ⟨x, 3, none⟩ = some (.int .i64 (ky x).2)) := fun W hb i x hx => by
   have h0 := hc i x hx
   obtain ⟨h1, h2⟩ := hk x (List.mem_of_getElem? hx)
   exact ⟨(hb.cell (p := ⟨g, i, none⟩) (cell_lt h0)).trans h0, (hb.cell (p := ⟨x, 2, none⟩) (cell_lt h1)).trans h1, (hb.cell (p := ⟨x, 3, none⟩) (cell_lt h2)).trans h2⟩
 have HP : Hid (0 < L.length → p = some ⟨g, 0, none⟩) := hp
 have HA : Hid (AtK L ky (t, n) i0 r0) := hat
 clear hat
 have HS : Hid (L.Pairwise fun a b => lessP (ky a) (ky b)) := hs
 rw [← hn] at hl hlc
 rw [← hn]
 clear hn hc hp hs hk
 obtain ⟨wb, hwb⟩ : ∃ wb, wb = w.alloc (.cells #[.int .i64 t, .int .i64 n] 28) := ⟨_, rfl⟩
 have HB0 : Hid (Below w.heap.size w wb) := by rw [hwb]; exact (Below.refl _ w).alloc (Nat.le_refl _) _
 have HT : Hid (wb.cell? ⟨w.heap.size, 0, none⟩ = some (.int .i64 t) ∧ wb.cell? ⟨w.heap.size, 1, none⟩ = some (.int .i64 n)) := by
   rw [hwb]; exact ⟨cellOf (heap_alloc_new w _) 0, cellOf (heap_alloc_new w _) 1⟩
 go_enter Tryz.func202, Tryz.ntmps202
 go_wp2_with fail
 rw [← hwb]
 clear hwb
 go_loopw [9, 10] (fun ii jj wr => ∃ i j : Nat, i ≤ j ∧ j ≤ len ∧ ii = .int .i64 i ∧ jj = .int .i64 j ∧ Hid (Below wb.heap.size wb wr ∧ (∀ k x, k < i → L[k]? = some x → lessP (ky x) (t, n)) ∧ (∀ k x, j ≤ k → L[k]? = some x → ¬ lessP (ky x) (t, n)))) (fun ii jj _ => (intOf jj).toNat - (intOf ii).toNat)
 case atStart => exact ⟨0, len, by omega, by omega, rfl, rfl, Below.refl _ _, (fun k x hk => by omega), (fun k x hk hx => by have := (List.getElem?_eq_some_iff.1 hx).1; rw [← HN.out] at this; omega)⟩
 case round =>
   obtain ⟨i, j, hij, hjn, rfl, rfl, HI⟩ := hrel
   have hBr : Below w.heap.size w wr := HB0.out.trans (HI.out.1.mono HB0.out.size)
   have t0 : wr.cell? ⟨w.heap.size, 0, none⟩ = some (.int .i64 t) := (HI.out.1.cell (p := ⟨w.heap.size, 0, none⟩) (cell_lt HT.out.1)).trans HT.out.1
   have t1 : wr.cell? ⟨w.heap.size, 1, none⟩ = some (.int .i64 n) := (HI.out.1.cell (p := ⟨w.heap.size, 1, none⟩) (cell_lt HT.out.1)).trans HT.out.2
   have HBr : Hid (Below w.heap.size w wr) := hBr
   clear hBr
   by_cases hlt : i < j
   · have hltI : (i : Int) < j := by omega
     obtain ⟨h, hh⟩ : ∃ h, (i + j) / 2 = h := ⟨_, rfl⟩
     have hhI : ((i : Int) + (j : Int)) / 2 = (h : Nat) := by omega
     have hhn : h < len := by omega
     have hhnI : (h : Int) < len := by omega
     obtain ⟨x, hx⟩ : ∃ x, L[h]? = some x := ⟨_, List.getElem?_eq_getElem (by rw [← HN.out]; exact hhn)⟩
     obtain rfl : p = some ⟨g, 0, none⟩ := HP.out (by rw [← HN.out]; omega)
     obtain ⟨c0, k0, k1⟩ := HC.out wr HBr.out h x hx
     have cF : ∀ W, Below wr.heap.size wr W → _ := fun W hW => byO_any x (ky x).1 (ky x).2 t n W ((hW.cell (p := ⟨x, 2, none⟩) (cell_lt k0)).trans k0) ((hW.cell (p := ⟨x, 3, none⟩) (cell_lt k1)).trans k1)
     have HCC : Hid (wr.cell? ⟨g, h, none⟩ = some (.pointer (some ⟨x, 0, none⟩)) ∧ wr.cell? ⟨w.heap.size, 0, none⟩ = some (.int .i64 t) ∧ wr.cell? ⟨w.heap.size, 1, none⟩ = some (.int .i64 n)) := ⟨c0, t0, t1⟩
     have HX : Hid (L[h]? = some x ∧ (i + j) / 2 = h) := ⟨hx, hh⟩
     obtain ⟨z, hz⟩ : ∃ z, cmpZ (ky x).1 (ky x).2 t n = z := ⟨_, rfl⟩
     have HZ : Hid (decide (z < 0) = lessB (ky x).1 (ky x).2 t n) := by show _ = _; rw [← hz]; exact less_cmp _ _ _ _
     rw [hz] at cF
     unfold pv at cF
     clear hx hh hz k0 k1 c0 t0 t1
     by_cases hz0 : z < 0
     · have HL : Hid (lessP (ky x) (t, n)) := by
         have := HZ.out
         rw [decide_eq_true hz0] at this
         exact this.symm
       go_wp2_with fail
       refine searchO_r5 (by kernel_rfl) g x w.heap.size len cp h t n z _ rfl rfl rfl rfl rfl hhn HCC.out.1 HCC.out.2.1 HCC.out.2.2 cF ?_
       intro w1 hb1
       have HB : Hid (Below wr.heap.size wr w1) := hb1
       clear hb1
       simp only [putAll, sA, sB, sC]
       go_wp2_with fail
       go_roundw
       case rel => exact ⟨h + 1, j, by omega, by omega, by go_num, rfl, HI.out.1.trans (HB.out.mono HI.out.1.size), (fun k y hk hy => by
           by_cases e : k = h
           · subst e; rw [HX.out.1] at hy; cases hy; exact HL.out
           · have h1 := List.pairwise_iff_getElem.1 HS.out k h (List.getElem?_eq_some_iff.1 hy).1 (List.getElem?_eq_some_iff.1 HX.out.1).1 (by omega)
             rw [(List.getElem?_eq_some_iff.1 hy).2, (List.getElem?_eq_some_iff.1 HX.out.1).2] at h1
             exact lessP_trans h1 HL.out), HI.out.2.2⟩
       case measure => simp [intOf]; omega
     · have HL : Hid (¬ lessP (ky x) (t, n)) := by
         have := HZ.out
         rw [decide_eq_false hz0] at this
         intro hp
         unfold lessP at hp
         rw [hp] at this
         cases this
       go_wp2_with fail
       refine searchO_r5 (by kernel_rfl) g x w.heap.size len cp h t n z _ rfl rfl rfl rfl rfl hhn HCC.out.1 HCC.out.2.1 HCC.out.2.2 cF ?_
       intro w1 hb1
       have HB : Hid (Below wr.heap.size wr w1) := hb1
       clear hb1
       simp only [putAll, sA, sB, sC]
       go_wp2_with fail
       go_roundw
       case rel => exact ⟨i, h, by omega, by omega, rfl, rfl, HI.out.1.trans (HB.out.mono HI.out.1.size), HI.out.2.1, (fun k y hk hy => by
           by_cases e : k = h
           · subst e; rw [HX.out.1] at hy; cases hy; exact HL.out
           · have h1 := List.pairwise_iff_getElem.1 HS.out h k (List.getElem?_eq_some_iff.1 HX.out.1).1 (List.getElem?_eq_some_iff.1 hy).1 (by omega)
             rw [(List.getElem?_eq_some_iff.1 hy).2, (List.getElem?_eq_some_iff.1 HX.out.1).2] at h1
             exact fun e2 => HL.out (lessP_trans h1 e2))⟩
       case measure => simp [intOf]; omega
   · obtain rfl : i = j := by omega
     have hge : ¬ (i : Int) < i := by omega
     by_cases hin : i < len
     · have hinI : (i : Int) < len := by omega
       obtain ⟨x, hx⟩ : ∃ x, L[i]? = some x := ⟨_, List.getElem?_eq_getElem (by rw [← HN.out]; exact hin)⟩
       obtain rfl : p = some ⟨g, 0, none⟩ := HP.out (by rw [← HN.out]; omega)
       obtain ⟨c0, k0, k1⟩ := HC.out wr HBr.out i x hx
       have cF : ∀ W, Below wr.heap.size wr W → _ := fun W hW => byO_any x (ky x).1 (ky x).2 t n W ((hW.cell (p := ⟨x, 2, none⟩) (cell_lt k0)).trans k0) ((hW.cell (p := ⟨x, 3, none⟩) (cell_lt k1)).trans k1)
       have HCC : Hid (wr.cell? ⟨g, i, none⟩ = some (.pointer (some ⟨x, 0, none⟩)) ∧ wr.cell? ⟨w.heap.size, 0, none⟩ = some (.int .i64 t) ∧ wr.cell? ⟨w.heap.size, 1, none⟩ = some (.int .i64 n)) := ⟨c0, t0, t1⟩
       obtain ⟨z, hz⟩ : ∃ z, cmpZ (ky x).1 (ky x).2 t n = z := ⟨_, rfl⟩
       have HR : Hid (AtK L ky (t, n) i (z == 0)) := by
         refine ⟨by rw [← HN.out]; omega, HI.out.2.1, HI.out.2.2, ?_⟩
         rw [beq_iff_eq, ← hz]
         constructor
         · intro e
           refine ⟨x, hx, ?_⟩
           have h1 := less_cmp (ky x).1 (ky x).2 t n
           have := cmpZ_zero e
           exact Prod.ext this.1 this.2
         · rintro ⟨y, hy, e⟩
           rw [hx] at hy; cases hy
           rw [e]
           exact cmpZ_same (by simp [lessB]) (by simp [lessB])
       rw [hz] at cF
       unfold pv at cF
       clear hx hz k0 k1 c0 t0 t1
       go_wp2_with fail
       refine searchO_r8 (by kernel_rfl) g x w.heap.size len cp i t n z _ rfl rfl rfl rfl rfl rfl hin HCC.out.1 HCC.out.2.1 HCC.out.2.2 cF ?_
       intro w1 hb1
       have HB : Hid (Below wr.heap.size wr w1) := hb1
       clear hb1
       simp only [putAll, sA, sB, sC]
       obtain ⟨e1, e2⟩ := HR.out.unique HA.out
       go_wp2_with fail
       go_ret2
       refine ⟨?_, HBr.out.trans (HB.out.mono HBr.out.size)⟩
       rw [← e1, ← e2]
       rfl
     · obtain rfl : i = len := by omega
       have HR : Hid (AtK L ky (t, n) i false) := by
         refine ⟨by rw [← HN.out]; omega, HI.out.2.1, HI.out.2.2, ?_⟩
         constructor
         · intro h; cases h
         · rintro ⟨y, hy, e⟩
           have := (List.getElem?_eq_some_iff.1 hy).1
           rw [← HN.out] at this; omega
       go_wp2_with fail
       refine searchO_r8no (by kernel_rfl) i _ rfl rfl rfl ?_
       intro w1 hb1
       have HB : Hid (Below wr.heap.size wr w1) := hb1
       clear hb1
       simp only [putAll, sA, sB, sC]
       obtain ⟨e1, e2⟩ := HR.out.unique HA.out
       go_wp2_with fail
       go_ret2
       refine ⟨?_, HBr.out.trans (HB.out.mono HBr.out.size)⟩
       rw [← e1, ← e2]
       rfl
end Go.Proofs.YthhakekbffembaaGreatDoor.Ck.Y

namespace Go.Proofs.YthhakekbffembaaGreatDoor.Ck.Y
open Go.RowKit Go.Maps Go.Lib
set_option maxRecDepth 8000 in
set_option maxHeartbeats 1000000 in
theorem lclone_any (s : ByteArray) (w : World) (hlim : s.size ≤ 1000000) : Calls Tryz.prog 149 #[.string s] w fun e w' => e = .returned (.string s) ∧ Below w.heap.size w w' := by
 by_cases h0 : s.size = 0
 · have hs : s = ⟨#[]⟩ := by
     apply ByteArray.ext
     exact Array.eq_empty_of_size_eq_zero h0
   subst hs
   go_enter Tryz.func149, Tryz.ntmps149
   go_wp2
   go_ret
   exact ⟨rfl, Below.refl _ _⟩
 · have e5 : (Tryz.prog.info? 5).map (fun i => (i.zero, i.size, i.bytes)) = some (some (.int .u8 0), 1, 1) := by kernel_rfl
   obtain ⟨i0, hi, he⟩ := Option.map_eq_some_iff.1 e5
   injection he with hz0 he
   injection he with hz1 hz2
   have hinfo : (Tryz.prog.info? 5).map (·.size) = some 1 := by rw [hi]; simp [hz1]
   have hco : Tryz.prog.cellsOf 5 = 1 := by simp [Program.cellsOf, hi, hz1]
   obtain ⟨M, hM⟩ : ∃ M, M = madeCells (Value.int .u8 0).cells (((s.size : Nat) : Int).toNat * i0.size) := ⟨_, rfl⟩
   have hMs : M.size = s.size := by rw [hM, size_madeCells, hz1]; simp
   have hmk : ∀ W : World, (Instr.makeSlice 29 (.int .i64 (s.size : Int)) (.int .i64 (s.size : Int))).run Tryz.prog W = .ok (.slice (some ⟨W.heap.size, 0, none⟩) s.size s.size) (W.alloc (.cells M 5)) := fun W => by
     have h := run_make (P := Tryz.prog) W 29 5 i0 (.int .u8 0) Tryz.underlying29 hi hz0 .i64 .i64 (s.size : Int) (s.size : Int) (by omega) (by omega) (by rw [hz2]; omega) (by omega)
     rw [← hM] at h
     simpa using h
   clear hM
   have hcp := Lib.run_copy_row_string (P := Tryz.prog) (w.alloc (.cells M 5)) 29 9 3 5 w.heap.size 0 s.size s.size s M 5 Tryz.underlying29 hinfo (heap_alloc_new w _) (Nat.le_refl _) (by omega)
   obtain ⟨Y, hY⟩ : ∃ Y, Y = (M.toList.take 0 ++ Lib.byteCells s.data.toList ++ M.toList.drop (0 + s.size)).toArray := ⟨_, rfl⟩
   rw [← hY] at hcp
   have hYl : Y.toList = Lib.byteCells s.data.toList := by
     rw [hY, List.toList_toArray, List.take_zero, List.nil_append, List.drop_of_length_le (by rw [Array.length_toList]; omega), List.append_nil]
   have hYs : Y.size = s.size := by rw [← Array.length_toList, hYl, Lib.byteCells_length, ← Lib.size_eq]
   have hgY : ((w.alloc (.cells M 5)).setRow w.heap.size Y).heap[w.heap.size]? = some (.cells Y 5 (0, 0)) := setRow_heap _ _ M _ 5 (0, 0) (heap_alloc_new w _)
   have hne : s.data.toList ≠ [] := fun e => h0 (by rw [Lib.size_eq, e]; rfl)
   have hUS := Lib.run_unsafeString_row (P := Tryz.prog) ((w.alloc (.cells M 5)).setRow w.heap.size Y) 221 3 9 5 Tryz.underlying221 hco w.heap.size Y.size (by unfold World.shape?; rw [hgY]) s.data.toList hne (by rw [← Lib.size_eq]; omega) (by rw [← Lib.size_eq]; omega)
     (fun j x hx => Lib.cells_of_row hgY Y.size j _ (by rw [List.take_of_length_le (by rw [Array.length_toList]; exact Nat.le_refl _), hYl]; simp [Lib.byteCells, hx]))
   rw [← Lib.size_eq] at hUS
   clear hY
   go_enter Tryz.func149, Tryz.ntmps149
   go_wp2
   go_ret
   have hb1 : Below w.heap.size w (w.alloc (.cells M 5)) := (Below.refl _ w).alloc (Nat.le_refl _) _
   have hb2 : Below w.heap.size (w.alloc (.cells M 5)) ((w.alloc (.cells M 5)).setRow w.heap.size Y) := ⟨rfl, rfl, rfl, by simp, fun k hk => setRow_other _ _ _ _ (by omega)⟩
   exact ⟨rfl, Lib.below_freeze (hb1.trans hb2) (p := ⟨w.heap.size, 0, none⟩) (Nat.le_refl _) _⟩
theorem sclone_any (s : ByteArray) (w : World) (hlim : s.size ≤ 1000000) : Calls Tryz.prog 106 #[.string s] w fun e w' => e = .returned (.string s) ∧ Below w.heap.size w w' := by
 have c := lclone_any s w hlim
 go_enter Tryz.func106, Tryz.ntmps106
 go_wp2_with (go_at_call 149; refine c.mono ?_; rintro e w1 ⟨rfl, hb⟩; have HB : Hid (Below w.heap.size w w1) := hb; clear hb)
 go_ret
 exact ⟨rfl, HB.out⟩
theorem eqin_t (d : Nat) (a b : Int) (w : World) : (Op.equalIn (d + 1) 2 (.int .i64 a) (.int .i64 b)).run Tryz.prog w = .ok (a == b) w := by simp [Op.equalIn, go_sem]
theorem eqin_n (d : Nat) (a b : Int) (w : World) : (Op.equalIn (d + 1) 3 (.int .i64 a) (.int .i64 b)).run Tryz.prog w = .ok (a == b) w := by simp [Op.equalIn, go_sem]
theorem eqin_id (d : Nat) (a1 a2 b1 b2 : Int) (w : World) : (Op.equalIn (d + 2) 28 (idv a1 a2) (idv b1 b2)).run Tryz.prog w = .ok (decide (a1 = b1) && decide (a2 = b2)) w := by
 have h1 : Tryz.prog.stoodInHeld 28 = false := by kernel_rfl
 unfold Op.equalIn
 simp only [Sem.run_bind, run_underlying Tryz.underlying28, Result.andThen_ok]
 by_cases e1 : a1 = b1 <;> by_cases e2 : a2 = b2 <;> simp [go_sem, h1, e1, e2, eqin_t, eqin_n]
theorem equal_id (a b : PI) (w : World) : (Op.equal 28 (idv a.1 a.2) (idv b.1 b.2)).run Tryz.prog w = .ok (decide (a.1 = b.1) && decide (a.2 = b.2)) w := eqin_id 9998 a.1 a.2 b.1 b.2 w
theorem chk_t (d : Nat) (e : Bool) (a : Int) (w : World) : (Instr.checkKey e (d + 1) 2 (.int .i64 a)).run Tryz.prog w = .ok () w := by simp [Instr.checkKey, go_sem]
theorem chk_n (d : Nat) (e : Bool) (a : Int) (w : World) : (Instr.checkKey e (d + 1) 3 (.int .i64 a)).run Tryz.prog w = .ok () w := by simp [Instr.checkKey, go_sem]
theorem chkid (d : Nat) (e : Bool) (a b : Int) (w : World) : (Instr.checkKey e (d + 2) 28 (idv a b)).run Tryz.prog w = .ok () w := by
 unfold Instr.checkKey
 simp only [Sem.run_bind, run_underlying Tryz.underlying28, Result.andThen_ok]
 simp [go_sem, chk_t, chk_n]
theorem check_id (e : Bool) (a : PI) (w : World) : (Instr.checkKey e 10000 28 (idv a.1 a.2)).run Tryz.prog w = .ok () w := chkid 9998 e a.1 a.2 w
def atM (E : List (PI × Nat)) (q : PI) : Option Nat := (E.find? fun x => decide (x.1 = q)).map (·.2)
def enM (x : PI × Nat) : Value × Value := (idv x.1.1 x.1.2, pv x.2)
def MapAt (w : World) (mb : Nat) (E : List (PI × Nat)) : Prop := ∃ es clock, w.heap[mb]? = some (.map es clock) ∧ es.toList.map (fun e => (e.key, e.val)) = E.map enM
theorem find_ask (q : PI) (w : World) : ∀ (l : List MapEntry) (E : List (PI × Nat)) (i : Nat), l.map (fun e => (e.key, e.val)) = E.map enM → (Instr.findAsking 28 (idv q.1 q.2) l i).run Tryz.prog w = .ok ((E.findIdx? fun x => decide (x.1 = q)).bind fun k => (E[k]?).map fun x => (i + k, pv x.2)) w
 | [], [], i, _ => by simp [Instr.findAsking]
 | [], _ :: _, i, h => by simp at h
 | _ :: _, [], i, h => by simp at h
 | e :: l, x :: E, i, h => by
   simp only [List.map_cons, List.cons.injEq] at h
   obtain ⟨h1, h2⟩ := h
   obtain ⟨hk, hv⟩ := Prod.mk.inj h1
   unfold Instr.findAsking
   rw [hk]
   simp only [Sem.run_bind, equal_id, Result.andThen_ok]
   have ih := find_ask q w l E (i + 1) h2
   by_cases e1 : x.1 = q
   · have e2 : (decide (q.1 = x.1.1) && decide (q.2 = x.1.2)) = true := by rw [e1]; simp
     rw [e2]
     simp [List.findIdx?_cons, e1, hv]
   · have e2 : (decide (q.1 = x.1.1) && decide (q.2 = x.1.2)) = false := by
       by_cases f1 : q.1 = x.1.1
       · have f2 : ¬ q.2 = x.1.2 := fun f2 => e1 (Prod.ext f1.symm f2.symm)
         simp [f2]
       · simp [f1]
     rw [e2]
     simp only [Bool.false_eq_true, if_false, ih, List.findIdx?_cons, e1, decide_false]
     cases E.findIdx? fun x => decide (x.1 = q) with
     | none => simp
     | some k => simp only [Option.bind_some, Option.map_some, List.getElem?_cons_succ, show i + 1 + k = i + (k + 1) by omega]
def fdM (E : List (PI × Nat)) (q : PI) : Option (Nat × Value) := (E.findIdx? fun x => decide (x.1 = q)).bind fun k => (E[k]?).map fun x => (k, pv x.2)
theorem key_find (q : PI) (w : World) (l : List MapEntry) (E : List (PI × Nat)) (h : l.map (fun e => (e.key, e.val)) = E.map enM) : (Instr.findKey 28 (idv q.1 q.2) l).run Tryz.prog w = .ok (fdM E q) w := by
 have hA := find_ask q w l E 0 h
 simp only [Nat.zero_add] at hA
 unfold Instr.findKey
 simp only [Sem.run_bind, run_underlying Tryz.underlying28, Result.andThen_ok]
 cases l with
 | nil =>
   have : E = [] := by cases E with | nil => rfl | cons x E => simp at h
   subst this
   simp [Instr.findNow, fdM]
 | cons e l =>
   simp only [Instr.findNow, Instr.sameNow]
   exact hA
theorem fdM_none {E : List (PI × Nat)} {q : PI} (h : atM E q = none) : fdM E q = none := by
 unfold atM at h
 unfold fdM
 rw [Option.map_eq_none_iff, List.find?_eq_none] at h
 rw [List.findIdx?_eq_none_iff.2 (fun x hx => by simpa using h x hx)]
 rfl
theorem fdM_some {E : List (PI × Nat)} {q : PI} {b : Nat} (h : atM E q = some b) : ∃ k, fdM E q = some (k, pv b) := by
 unfold atM at h
 obtain ⟨x, hx, rfl⟩ := Option.map_eq_some_iff.1 h
 have hx' := hx
 rw [List.find?_eq_some_iff_getElem] at hx
 obtain ⟨h1, i, hi, he, hlt⟩ := hx
 refine ⟨i, ?_⟩
 unfold fdM
 have : E.findIdx? (fun x => decide (x.1 = q)) = some i := by
   rw [List.findIdx?_eq_some_iff_getElem]
   exact ⟨hi, by rw [he]; exact h1, fun j hj => by have := hlt j hj; simpa using this⟩
 rw [this]
 simp [List.getElem?_eq_getElem hi, he]
theorem look_map {w : World} {mb : Nat} {E : List (PI × Nat)} (h : MapAt w mb E) (t n : Int) : (Instr.lookup 71 (.map (some mb)) (idv t n) false).run Tryz.prog w = .ok ((atM E (t, n)).elim (.pointer none) pv) w := by
 obtain ⟨es, clock, hb, he⟩ := h
 have hk := key_find (t, n) w es.toList E he
 have hc := fun e => check_id e (t, n) w
 cases hq : atM E (t, n) with
 | none =>
   rw [fdM_none hq] at hk
   simp [Instr.lookup, run_underlying Tryz.underlying71, MapKept.run_getObj_map hb, hc, hk, Tryz.zeroValue125]
 | some b =>
   obtain ⟨k, e⟩ := fdM_some hq
   rw [e] at hk
   simp [Instr.lookup, run_underlying Tryz.underlying71, MapKept.run_getObj_map hb, hc, hk]
theorem block_set (w : World) (b k : Nat) (o : Obj) (h : k ≠ b) : (Go.ChangeMaps.setBlock w b o).heap[k]? = w.heap[k]? := by
 unfold Go.ChangeMaps.setBlock
 simp [Array.getElem?_setIfInBounds_ne (Ne.symm h)]
theorem only_block (w : World) (b : Nat) (o : Obj) : Only (· = b) w (Go.ChangeMaps.setBlock w b o) := ⟨rfl, rfl, rfl, by simp [Go.ChangeMaps.setBlock], fun i _ hn => block_set w b i o hn⟩
theorem block_at {w : World} {b : Nat} (o : Obj) (h : b < w.heap.size) : (Go.ChangeMaps.setBlock w b o).heap[b]? = some o := by
 unfold Go.ChangeMaps.setBlock
 simp [h]
theorem put_map {w : World} {mb : Nat} {E : List (PI × Nat)} (h : MapAt w mb E) (t n : Int) (b : Nat) (hq : atM E (t, n) = none) :
   ∃ W, (Instr.mapUpdate 71 (.map (some mb)) (idv t n) (pv b)).run Tryz.prog w = .ok () W ∧ MapAt W mb (E ++ [((t, n), b)]) ∧ Only (· = mb) w W ∧ W.heap.size = w.heap.size := by
 obtain ⟨es, clock, hb, he⟩ := h
 have hk := key_find (t, n) w es.toList E he
 have hc := fun e => check_id e (t, n) w
 rw [fdM_none hq] at hk
 refine ⟨Go.ChangeMaps.setBlock w mb (.map (es.push ⟨idv t n, pv b, clock⟩) (clock + 1)), ?_, ⟨_, _, block_at _ (block_lt hb), ?_⟩, only_block _ _ _, by simp [Go.ChangeMaps.setBlock]⟩
 · simp [Instr.mapUpdate, run_underlying Tryz.underlying71, MapKept.run_getObj_map hb, hc, hk, MapKept.run_setObj_map _ hb, Result.andThen, Go.ChangeMaps.setBlock]
 · rw [Array.toList_push, List.map_append, List.map_append, he]
   rfl
theorem map_erase {α β : Type} (f : α → β) : ∀ (l : List α) (i : Nat), (l.eraseIdx i).map f = (l.map f).eraseIdx i
 | [], _ => rfl
 | _ :: _, 0 => rfl
 | x :: l, i + 1 => by simp only [List.eraseIdx_cons_succ, List.map_cons, map_erase f l i]
theorem del_map {w : World} {mb : Nat} {E : List (PI × Nat)} {t n : Int} {b : Nat} (h : MapAt w mb (E ++ [((t, n), b)])) (hq : atM E (t, n) = none) (ty : TypeId) :
   ∃ W, (Builtin.delete_ #[71, 28] ty #[.map (some mb), idv t n]).run Tryz.prog w = .ok (.tuple #[]) W ∧ MapAt W mb E ∧ Only (· = mb) w W ∧ W.heap.size = w.heap.size := by
 obtain ⟨es, clock, hb, he⟩ := h
 have hk := key_find (t, n) w es.toList _ he
 have hc := fun e => check_id e (t, n) w
 have hf : fdM (E ++ [((t, n), b)]) (t, n) = some (E.length, pv b) := by
   unfold fdM
   unfold atM at hq
   rw [Option.map_eq_none_iff, List.find?_eq_none] at hq
   rw [List.findIdx?_append, List.findIdx?_eq_none_iff.2 (fun x hx => by simpa using hq x hx)]
   simp
 rw [hf] at hk
 refine ⟨Go.ChangeMaps.setBlock w mb (.map (es.eraseIdxIfInBounds E.length) clock), ?_, ⟨_, _, block_at _ (block_lt hb), ?_⟩, only_block _ _ _, by simp [Go.ChangeMaps.setBlock]⟩
 · simp [Builtin.delete_, run_underlying Tryz.underlying71, MapKept.run_getObj_map hb, hc, hk, MapKept.run_setObj_map _ hb, Result.andThen, Go.ChangeMaps.setBlock]
 · have hl : es.toList.length = E.length + 1 := by
     have := congrArg List.length he
     simpa using this
   have e1 : (es.eraseIdxIfInBounds E.length).toList = es.toList.eraseIdx E.length := by
     unfold Array.eraseIdxIfInBounds
     have : E.length < es.size := by rw [← Array.length_toList]; omega
     simp [this]
   rw [e1, map_erase, he, List.map_append, List.eraseIdx_append_of_length_le (by simp)]
   simp
theorem MapAt.lt {w : World} {mb : Nat} {E : List (PI × Nat)} (h : MapAt w mb E) : mb < w.heap.size := by
 obtain ⟨es, clock, hb, he⟩ := h
 exact block_lt hb
theorem MapAt.kept {w w' : World} {mb : Nat} {E : List (PI × Nat)} {S : Nat → Prop} (h : MapAt w mb E) (ho : Only S w w') (hn : ¬ S mb) : MapAt w' mb E := by
 obtain ⟨es, clock, hb, he⟩ := h
 exact ⟨es, clock, (ho.block mb (block_lt hb) hn).trans hb, he⟩
end Go.Proofs.YthhakekbffembaaGreatDoor.Ck.Y
