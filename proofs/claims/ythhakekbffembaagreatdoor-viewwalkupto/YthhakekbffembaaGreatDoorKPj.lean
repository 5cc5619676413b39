import Derived.Test.YthhakekbffembaaGreatDoorKPi

namespace Go.Proofs.YthhakekbffembaaGreatDoor.Ck.Y
open Go.RowKit Go.Maps Go.Lib
set_option maxRecDepth 8000 in
set_option maxHeartbeats 4000000 in
theorem mkdo_r1 {Q : Exit → Act → World → Prop} {base : Array Value} {dd : List Deferred} {ops : Array Oper} (hops : Tryz.f107.body.bind (regs 1) = some ops) (mk gt mb : Nat) (t n : Int) (v : Value) (w9 : World) (hsz : base.size = 54) (b0 : base.getD 0 undef = .pointer (some ⟨mk, 0, none⟩))
   (m0 : w9.cell? ⟨mk, 0, none⟩ = some (.pointer (some ⟨gt, 0, none⟩))) (m2 : w9.cell? ⟨mk, 2, none⟩ = some (.int .i64 t)) (m3 : w9.cell? ⟨mk, 3, none⟩ = some (.int .i64 n)) (g0 : w9.cell? ⟨gt, 0, none⟩ = some (.map (some mb))) (hl : ∀ W, Below w9.heap.size w9 W → (Instr.lookup 71 (.map (some mb)) (idv t n) false).run Tryz.prog W = .ok (v) W) (hQ : ∀ W, Below w9.heap.size w9 W → Q .normal ⟨putAll base [(some 4, .pointer (some ⟨mk, 0, none⟩)), (some 5, .pointer (some ⟨mk, 0, none⟩)), (some 6, .pointer (some ⟨mk, 0, none⟩)), (some 7, .pointer (some ⟨gt, 0, none⟩)), (some 8, .pointer (some ⟨gt, 0, none⟩)), (some 9, .pointer (some ⟨gt, 0, none⟩)), (some 10, .map (some mb)), (some 11, .pointer (some ⟨mk, 0, none⟩)), (some 12, .pointer (some ⟨mk, 0, none⟩)), (some 13, .pointer (some ⟨mk, 2, none⟩)), (some 14, .agg #[.int .i64 t, .int .i64 n]), (some 15, v), (some 3, v)], dd⟩ W) :
   (Code.region 1 ops true).wp Tryz.prog Q ⟨base, dd⟩ w9 := by
 have hmix := hmx
 have h2 := (show Tryz.f107.body.bind (regs 1) = some _ from rfl).symm.trans hops
 obtain rfl := Option.some.inj h2
 clear h2 hops
 have below9 : Below w9.heap.size w9 w9.drew := (Below.refl _ _).drew
 obtain ⟨LL, hLe⟩ := qL hQ
 have vv0 : vals LL 0 = .pointer (some ⟨mk, 0, none⟩) := vL hLe rfl
 have vv1 : vals LL 1 = .pointer (some ⟨mk, 0, none⟩) := vL hLe rfl
 have vv2 : vals LL 2 = .pointer (some ⟨mk, 0, none⟩) := vL hLe rfl
 have vv3 : vals LL 3 = .pointer (some ⟨gt, 0, none⟩) := vL hLe rfl
 have vv4 : vals LL 4 = .pointer (some ⟨gt, 0, none⟩) := vL hLe rfl
 have vv5 : vals LL 5 = .pointer (some ⟨gt, 0, none⟩) := vL hLe rfl
 have vv6 : vals LL 6 = .map (some mb) := vL hLe rfl
 have vv7 : vals LL 7 = .pointer (some ⟨mk, 0, none⟩) := vL hLe rfl
 have vv8 : vals LL 8 = .pointer (some ⟨mk, 0, none⟩) := vL hLe rfl
 have vv9 : vals LL 9 = .pointer (some ⟨mk, 2, none⟩) := vL hLe rfl
 have vv10 : vals LL 10 = .agg #[.int .i64 t, .int .i64 n] := vL hLe rfl
 have vv11 : vals LL 11 = v := vL hLe rfl
 have vv12 : vals LL 12 = v := vL hLe rfl
 refine region_laid hmix (by kernel_rfl) 54 hsz (by kernel_rfl) LL (by rw [hLe]; rfl) (fun _ W => Below w9.heap.size w9 W) below9 ?_ ?_
 · intro b W i o a hS hcl ho hb hd ev kp yl
   match i with
   | 0 => simp only [qq] at ho; subst ho; have e0 := (kp 0 (by kernel_rfl)).trans b0; rw [vv0]; exact dV (by simp [execOp, go_sem, e0]) hS
   | 1 => simp only [qq] at ho; subst ho; have e4 := eD ev hd 0 4 vv0; rw [vv1]; exact dV (by simp [execOp, go_sem, e4]) hS
   | 2 => simp only [qq] at ho; subst ho; have e5 := eD ev hd 1 5 vv1; rw [vv2]; exact dV (by simp [execOp, go_sem, e5]) hS
   | 3 => simp only [qq] at ho; subst ho; have e6 := eD ev hd 2 6 vv2; have d0 := (hS.cell (p := ⟨mk, 0, none⟩) (cell_lt m0)).trans m0; rw [vv3]; exact dV (by simp [execOp, go_sem, e6, d0]) hS
   | 4 => simp only [qq] at ho; subst ho; have e7 := eD ev hd 3 7 vv3; rw [vv4]; exact dV (by simp [execOp, go_sem, e7]) hS
   | 5 => simp only [qq] at ho; subst ho; have e8 := eD ev hd 4 8 vv4; rw [vv5]; exact dV (by simp [execOp, go_sem, e8]) hS
   | 6 => simp only [qq] at ho; subst ho; have e9 := eD ev hd 5 9 vv5; have d0 := (hS.cell (p := ⟨gt, 0, none⟩) (cell_lt g0)).trans g0; rw [vv6]; exact dV (by simp [execOp, go_sem, e9, d0]) hS
   | 7 => simp only [qq] at ho; subst ho; have e0 := (kp 0 (by kernel_rfl)).trans b0; rw [vv7]; exact dV (by simp [execOp, go_sem, e0]) hS
   | 8 => simp only [qq] at ho; subst ho; have e11 := eD ev hd 7 11 vv7; rw [vv8]; exact dV (by simp [execOp, go_sem, e11]) hS
   | 9 => simp only [qq] at ho; subst ho; have e12 := eD ev hd 8 12 vv8; rw [vv9]; exact dV (by simp [execOp, go_sem, e12]) hS
   | 10 => simp only [qq] at ho; subst ho; have e13 := eD ev hd 9 13 vv9; have d2 := (hS.cell (p := ⟨mk, 2, none⟩) (cell_lt m2)).trans m2; have d3 := (hS.cell (p := ⟨mk, 3, none⟩) (cell_lt m3)).trans m3; rw [vv10]; exact dV (by simp [execOp, go_sem, e13, d2, d3]) hS
   | 11 => simp only [qq] at ho; subst ho; have e10 := eD ev hd 6 10 vv6; have e14 := eD ev hd 10 14 vv10; rw [vv11]; exact dV (by simp [execOp, go_sem, e10, e14, hl W hS]) hS
   | 12 => simp only [qq] at ho; subst ho; have e15 := eD ev hd 11 15 vv11; rw [vv12]; exact dV (by simp [execOp, go_sem, e15]) hS
   | k + 13 => simp at ho
 · intro b' W hS _
   subst hLe
   exact hQ W hS
set_option maxRecDepth 8000 in
set_option maxHeartbeats 4000000 in
theorem mkdo_r4 {Q : Exit → Act → World → Prop} {base : Array Value} {dd : List Deferred} {ops : Array Oper} (hops : Tryz.f107.body.bind (regs 4) = some ops) (mk gt mb ob : Nat) (t n : Int) (WE : World) (w9 : World) (hsz : base.size = 54) (b0 : base.getD 0 undef = .pointer (some ⟨mk, 0, none⟩))
   (m0 : w9.cell? ⟨mk, 0, none⟩ = some (.pointer (some ⟨gt, 0, none⟩))) (m1 : w9.cell? ⟨mk, 1, none⟩ = some (.pointer (some ⟨ob, 0, none⟩))) (g0 : w9.cell? ⟨gt, 0, none⟩ = some (.map (some mb))) (o2 : w9.cell? ⟨ob, 2, none⟩ = some (.int .i64 t)) (o3 : w9.cell? ⟨ob, 3, none⟩ = some (.int .i64 n)) (hp : (Instr.mapUpdate 71 (.map (some mb)) (idv t n) (.pointer (some ⟨ob, 0, none⟩))).run Tryz.prog w9.drew = .ok () WE) (hQ : ∀ (g : Unit) (W : World), (W = WE) → Q .normal ⟨putAll base ((fun _g : Unit => ([(some 25, .pointer (some ⟨mk, 0, none⟩)), (some 26, .pointer (some ⟨mk, 0, none⟩)), (some 27, .pointer (some ⟨mk, 0, none⟩)), (some 28, .pointer (some ⟨gt, 0, none⟩)), (some 29, .pointer (some ⟨gt, 0, none⟩)), (some 30, .pointer (some ⟨gt, 0, none⟩)), (some 31, .map (some mb)), (some 32, .pointer (some ⟨mk, 0, none⟩)), (some 33, .pointer (some ⟨mk, 0, none⟩)), (some 34, .pointer (some ⟨mk, 1, none⟩)), (some 35, .pointer (some ⟨ob, 0, none⟩)), (some 36, .pointer (some ⟨ob, 0, none⟩)), (some 37, .pointer (some ⟨ob, 2, none⟩)), (some 38, .agg #[.int .i64 t, .int .i64 n]), (some 39, .pointer (some ⟨mk, 0, none⟩)), (some 40, .pointer (some ⟨mk, 0, none⟩)), (some 41, .pointer (some ⟨mk, 1, none⟩)), (some 42, .pointer (some ⟨ob, 0, none⟩)), (none, undef)] : List (Option Tmp × Value))) g), dd⟩ W) :
   (Code.region 4 ops true).wp Tryz.prog Q ⟨base, dd⟩ w9 := by
 have hmix := hmx
 have h2 := (show Tryz.f107.body.bind (regs 4) = some _ from rfl).symm.trans hops
 obtain rfl := Option.some.inj h2
 clear h2 hops
 obtain ⟨LL, hLe⟩ : ∃ LL : Unit → List (Option Tmp × Value), LL = (fun _g : Unit => ([(some 25, .pointer (some ⟨mk, 0, none⟩)), (some 26, .pointer (some ⟨mk, 0, none⟩)), (some 27, .pointer (some ⟨mk, 0, none⟩)), (some 28, .pointer (some ⟨gt, 0, none⟩)), (some 29, .pointer (some ⟨gt, 0, none⟩)), (some 30, .pointer (some ⟨gt, 0, none⟩)), (some 31, .map (some mb)), (some 32, .pointer (some ⟨mk, 0, none⟩)), (some 33, .pointer (some ⟨mk, 0, none⟩)), (some 34, .pointer (some ⟨mk, 1, none⟩)), (some 35, .pointer (some ⟨ob, 0, none⟩)), (some 36, .pointer (some ⟨ob, 0, none⟩)), (some 37, .pointer (some ⟨ob, 2, none⟩)), (some 38, .agg #[.int .i64 t, .int .i64 n]), (some 39, .pointer (some ⟨mk, 0, none⟩)), (some 40, .pointer (some ⟨mk, 0, none⟩)), (some 41, .pointer (some ⟨mk, 1, none⟩)), (some 42, .pointer (some ⟨ob, 0, none⟩)), (none, undef)] : List (Option Tmp × Value))) := ⟨_, rfl⟩
 have vv0 : ∀ g, vals (LL g) 0 = .pointer (some ⟨mk, 0, none⟩) := fun g => by rw [hLe]; rfl
 have vv1 : ∀ g, vals (LL g) 1 = .pointer (some ⟨mk, 0, none⟩) := fun g => by rw [hLe]; rfl
 have vv2 : ∀ g, vals (LL g) 2 = .pointer (some ⟨mk, 0, none⟩) := fun g => by rw [hLe]; rfl
 have vv3 : ∀ g, vals (LL g) 3 = .pointer (some ⟨gt, 0, none⟩) := fun g => by rw [hLe]; rfl
 have vv4 : ∀ g, vals (LL g) 4 = .pointer (some ⟨gt, 0, none⟩) := fun g => by rw [hLe]; rfl
 have vv5 : ∀ g, vals (LL g) 5 = .pointer (some ⟨gt, 0, none⟩) := fun g => by rw [hLe]; rfl
 have vv6 : ∀ g, vals (LL g) 6 = .map (some mb) := fun g => by rw [hLe]; rfl
 have vv7 : ∀ g, vals (LL g) 7 = .pointer (some ⟨mk, 0, none⟩) := fun g => by rw [hLe]; rfl
 have vv8 : ∀ g, vals (LL g) 8 = .pointer (some ⟨mk, 0, none⟩) := fun g => by rw [hLe]; rfl
 have vv9 : ∀ g, vals (LL g) 9 = .pointer (some ⟨mk, 1, none⟩) := fun g => by rw [hLe]; rfl
 have vv10 : ∀ g, vals (LL g) 10 = .pointer (some ⟨ob, 0, none⟩) := fun g => by rw [hLe]; rfl
 have vv11 : ∀ g, vals (LL g) 11 = .pointer (some ⟨ob, 0, none⟩) := fun g => by rw [hLe]; rfl
 have vv12 : ∀ g, vals (LL g) 12 = .pointer (some ⟨ob, 2, none⟩) := fun g => by rw [hLe]; rfl
 have vv13 : ∀ g, vals (LL g) 13 = .agg #[.int .i64 t, .int .i64 n] := fun g => by rw [hLe]; rfl
 have vv14 : ∀ g, vals (LL g) 14 = .pointer (some ⟨mk, 0, none⟩) := fun g => by rw [hLe]; rfl
 have vv15 : ∀ g, vals (LL g) 15 = .pointer (some ⟨mk, 0, none⟩) := fun g => by rw [hLe]; rfl
 have vv16 : ∀ g, vals (LL g) 16 = .pointer (some ⟨mk, 1, none⟩) := fun g => by rw [hLe]; rfl
 have vv17 : ∀ g, vals (LL g) 17 = .pointer (some ⟨ob, 0, none⟩) := fun g => by rw [hLe]; rfl
 have vv18 : ∀ g, vals (LL g) 18 = undef := fun g => by rw [hLe]; rfl
 refine region_laidg hmix (by kernel_rfl) 54 hsz (by kernel_rfl) () LL (fun g => by rw [hLe]; rfl) (fun (_g : Unit) (b : Nat → Bool) (W : World) => if b 18 = true then (W = WE) else (W = w9.drew)) ?_ ?_ ?_
 · simp only [Bool.false_eq_true, if_false]
 · intro g b W io o a hS hcl ho hb hd ev kp yl
   have q18_6 : b 18 = true → b 6 = true := fun h => hcl 18 _ rfl h ⟨6, .data⟩ (by simp) rfl
   have q18_5 : b 18 = true → b 5 = true := fun h => hcl 6 _ rfl (q18_6 h) ⟨5, .data⟩ (by simp) rfl
   have q18_4 : b 18 = true → b 4 = true := fun h => hcl 5 _ rfl (q18_5 h) ⟨4, .data⟩ (by simp) rfl
   have q18_3 : b 18 = true → b 3 = true := fun h => hcl 4 _ rfl (q18_4 h) ⟨3, .data⟩ (by simp) rfl
   have q18_2 : b 18 = true → b 2 = true := fun h => hcl 3 _ rfl (q18_3 h) ⟨2, .data⟩ (by simp) rfl
   have q18_1 : b 18 = true → b 1 = true := fun h => hcl 2 _ rfl (q18_2 h) ⟨1, .data⟩ (by simp) rfl
   have q18_0 : b 18 = true → b 0 = true := fun h => hcl 1 _ rfl (q18_1 h) ⟨0, .data⟩ (by simp) rfl
   have q18_13 : b 18 = true → b 13 = true := fun h => hcl 18 _ rfl h ⟨13, .data⟩ (by simp) rfl
   have q18_12 : b 18 = true → b 12 = true := fun h => hcl 13 _ rfl (q18_13 h) ⟨12, .data⟩ (by simp) rfl
   have q18_11 : b 18 = true → b 11 = true := fun h => hcl 12 _ rfl (q18_12 h) ⟨11, .data⟩ (by simp) rfl
   have q18_10 : b 18 = true → b 10 = true := fun h => hcl 11 _ rfl (q18_11 h) ⟨10, .data⟩ (by simp) rfl
   have q18_9 : b 18 = true → b 9 = true := fun h => hcl 10 _ rfl (q18_10 h) ⟨9, .data⟩ (by simp) rfl
   have q18_8 : b 18 = true → b 8 = true := fun h => hcl 9 _ rfl (q18_9 h) ⟨8, .data⟩ (by simp) rfl
   have q18_7 : b 18 = true → b 7 = true := fun h => hcl 8 _ rfl (q18_8 h) ⟨7, .data⟩ (by simp) rfl
   have q18_17 : b 18 = true → b 17 = true := fun h => hcl 18 _ rfl h ⟨17, .data⟩ (by simp) rfl
   have q18_16 : b 18 = true → b 16 = true := fun h => hcl 17 _ rfl (q18_17 h) ⟨16, .data⟩ (by simp) rfl
   have q18_15 : b 18 = true → b 15 = true := fun h => hcl 16 _ rfl (q18_16 h) ⟨15, .data⟩ (by simp) rfl
   have q18_14 : b 18 = true → b 14 = true := fun h => hcl 15 _ rfl (q18_15 h) ⟨14, .data⟩ (by simp) rfl
   match io with
   | 0 =>
     simp only [qq] at ho; subst ho; have e0 := (kp 0 (none_till (by kernel_rfl))).trans b0; have n18 := nF q18_0 hb
     refine doesg_value rfl nofun (v := .pointer (some ⟨mk, 0, none⟩)) (w' := W) ?_ ⟨g, fun _ _ => rfl, (vv0 g).symm, by simpa [did] using hS⟩
     · simp [execOp, go_sem, e0]
   | 1 =>
     simp only [qq] at ho; subst ho; have e25 := eD ev hd 0 25 (vv0 g); have n18 := nF q18_1 hb
     refine doesg_value rfl nofun (v := .pointer (some ⟨mk, 0, none⟩)) (w' := W) ?_ ⟨g, fun _ _ => rfl, (vv1 g).symm, by simpa [did] using hS⟩
     · simp [execOp, go_sem, e25]
   | 2 =>
     simp only [qq] at ho; subst ho; have e26 := eD ev hd 1 26 (vv1 g); have n18 := nF q18_2 hb
     refine doesg_value rfl nofun (v := .pointer (some ⟨mk, 0, none⟩)) (w' := W) ?_ ⟨g, fun _ _ => rfl, (vv2 g).symm, by simpa [did] using hS⟩
     · simp [execOp, go_sem, e26]
   | 3 =>
     simp only [qq] at ho; subst ho; have e27 := eD ev hd 2 27 (vv2 g); have n18 := nF q18_3 hb; have hW : W = w9.drew := by simpa [n18] using hS
     have hl : W.cell? ⟨mk, 0, none⟩ = some (.pointer (some ⟨gt, 0, none⟩)) := by rw [hW]; exact m0
     refine doesg_value rfl nofun (v := .pointer (some ⟨gt, 0, none⟩)) (w' := W) ?_ ⟨g, fun _ _ => rfl, (vv3 g).symm, by simpa [did] using hS⟩
     · simp [execOp, go_sem, e27, hl]
   | 4 =>
     simp only [qq] at ho; subst ho; have e28 := eD ev hd 3 28 (vv3 g); have n18 := nF q18_4 hb
     refine doesg_value rfl nofun (v := .pointer (some ⟨gt, 0, none⟩)) (w' := W) ?_ ⟨g, fun _ _ => rfl, (vv4 g).symm, by simpa [did] using hS⟩
     · simp [execOp, go_sem, e28]
   | 5 =>
     simp only [qq] at ho; subst ho; have e29 := eD ev hd 4 29 (vv4 g); have n18 := nF q18_5 hb
     refine doesg_value rfl nofun (v := .pointer (some ⟨gt, 0, none⟩)) (w' := W) ?_ ⟨g, fun _ _ => rfl, (vv5 g).symm, by simpa [did] using hS⟩
     · simp [execOp, go_sem, e29]
   | 6 =>
     simp only [qq] at ho; subst ho; have e30 := eD ev hd 5 30 (vv5 g); have n18 := nF q18_6 hb; have hW : W = w9.drew := by simpa [n18] using hS
     have hl : W.cell? ⟨gt, 0, none⟩ = some (.map (some mb)) := by rw [hW]; exact g0
     refine doesg_value rfl nofun (v := .map (some mb)) (w' := W) ?_ ⟨g, fun _ _ => rfl, (vv6 g).symm, by simpa [did] using hS⟩
     · simp [execOp, go_sem, e30, hl]
   | 7 =>
     simp only [qq] at ho; subst ho; have e0 := (kp 0 (none_till (by kernel_rfl))).trans b0; have n18 := nF q18_7 hb
     refine doesg_value rfl nofun (v := .pointer (some ⟨mk, 0, none⟩)) (w' := W) ?_ ⟨g, fun _ _ => rfl, (vv7 g).symm, by simpa [did] using hS⟩
     · simp [execOp, go_sem, e0]
   | 8 =>
     simp only [qq] at ho; subst ho; have e32 := eD ev hd 7 32 (vv7 g); have n18 := nF q18_8 hb
     refine doesg_value rfl nofun (v := .pointer (some ⟨mk, 0, none⟩)) (w' := W) ?_ ⟨g, fun _ _ => rfl, (vv8 g).symm, by simpa [did] using hS⟩
     · simp [execOp, go_sem, e32]
   | 9 =>
     simp only [qq] at ho; subst ho; have e33 := eD ev hd 8 33 (vv8 g); have n18 := nF q18_9 hb
     refine doesg_value rfl nofun (v := .pointer (some ⟨mk, 1, none⟩)) (w' := W) ?_ ⟨g, fun _ _ => rfl, (vv9 g).symm, by simpa [did] using hS⟩
     · simp [execOp, go_sem, e33]
   | 10 =>
     simp only [qq] at ho; subst ho; have e34 := eD ev hd 9 34 (vv9 g); have n18 := nF q18_10 hb; have hW : W = w9.drew := by simpa [n18] using hS
     have hl : W.cell? ⟨mk, 1, none⟩ = some (.pointer (some ⟨ob, 0, none⟩)) := by rw [hW]; exact m1
     refine doesg_value rfl nofun (v := .pointer (some ⟨ob, 0, none⟩)) (w' := W) ?_ ⟨g, fun _ _ => rfl, (vv10 g).symm, by simpa [did] using hS⟩
     · simp [execOp, go_sem, e34, hl]
   | 11 =>
     simp only [qq] at ho; subst ho; have e35 := eD ev hd 10 35 (vv10 g); have n18 := nF q18_11 hb
     refine doesg_value rfl nofun (v := .pointer (some ⟨ob, 0, none⟩)) (w' := W) ?_ ⟨g, fun _ _ => rfl, (vv11 g).symm, by simpa [did] using hS⟩
     · simp [execOp, go_sem, e35]
   | 12 =>
     simp only [qq] at ho; subst ho; have e36 := eD ev hd 11 36 (vv11 g); have n18 := nF q18_12 hb
     refine doesg_value rfl nofun (v := .pointer (some ⟨ob, 2, none⟩)) (w' := W) ?_ ⟨g, fun _ _ => rfl, (vv12 g).symm, by simpa [did] using hS⟩
     · simp [execOp, go_sem, e36]
   | 13 =>
     simp only [qq] at ho; subst ho; have e37 := eD ev hd 12 37 (vv12 g); have n18 := nF q18_13 hb; have hW : W = w9.drew := by simpa [n18] using hS
     have hl : W.cell? ⟨ob, 2, none⟩ = some (.int .i64 t) := by rw [hW]; exact o2
     have hl2 : W.cell? ⟨ob, 3, none⟩ = some (.int .i64 n) := by rw [hW]; exact o3
     refine doesg_value rfl nofun (v := .agg #[.int .i64 t, .int .i64 n]) (w' := W) ?_ ⟨g, fun _ _ => rfl, (vv13 g).symm, by simpa [did] using hS⟩
     · simp [execOp, go_sem, e37, hl, hl2]
   | 14 =>
     simp only [qq] at ho; subst ho; have e0 := (kp 0 (none_till (by kernel_rfl))).trans b0; have n18 := nF q18_14 hb
     refine doesg_value rfl nofun (v := .pointer (some ⟨mk, 0, none⟩)) (w' := W) ?_ ⟨g, fun _ _ => rfl, (vv14 g).symm, by simpa [did] using hS⟩
     · simp [execOp, go_sem, e0]
   | 15 =>
     simp only [qq] at ho; subst ho; have e39 := eD ev hd 14 39 (vv14 g); have n18 := nF q18_15 hb
     refine doesg_value rfl nofun (v := .pointer (some ⟨mk, 0, none⟩)) (w' := W) ?_ ⟨g, fun _ _ => rfl, (vv15 g).symm, by simpa [did] using hS⟩
     · simp [execOp, go_sem, e39]
   | 16 =>
     simp only [qq] at ho; subst ho; have e40 := eD ev hd 15 40 (vv15 g); have n18 := nF q18_16 hb
     refine doesg_value rfl nofun (v := .pointer (some ⟨mk, 1, none⟩)) (w' := W) ?_ ⟨g, fun _ _ => rfl, (vv16 g).symm, by simpa [did] using hS⟩
     · simp [execOp, go_sem, e40]
   | 17 =>
     simp only [qq] at ho; subst ho; have e41 := eD ev hd 16 41 (vv16 g); have n18 := nF q18_17 hb; have hW : W = w9.drew := by simpa [n18] using hS
     have hl : W.cell? ⟨mk, 1, none⟩ = some (.pointer (some ⟨ob, 0, none⟩)) := by rw [hW]; exact m1
     refine doesg_value rfl nofun (v := .pointer (some ⟨ob, 0, none⟩)) (w' := W) ?_ ⟨g, fun _ _ => rfl, (vv17 g).symm, by simpa [did] using hS⟩
     · simp [execOp, go_sem, e41, hl]
   | 18 =>
     simp only [qq] at ho; subst ho; have e31 := eD ev hd 6 31 (vv6 g); have e38 := eD ev hd 13 38 (vv13 g); have e42 := eD ev hd 17 42 (vv17 g); have hS9 : W = w9.drew := by simpa [hb] using hS
     obtain ⟨W', hr, hP⟩ := (⟨WE, hp, rfl⟩ : ∃ W', (Instr.mapUpdate 71 (.map (some mb)) (idv t n) (.pointer (some ⟨ob, 0, none⟩))).run Tryz.prog w9.drew = .ok () W' ∧ W' = WE)
     refine doesg_skip rfl nofun (w' := W') ?_ ⟨g, fun _ _ => rfl, (vv18 _).symm, ?_⟩
     · rw [hS9]; simp [execOp, go_sem, e31, e38, e42, hr]
     · simpa [did] using hP
   | k + 19 => simp at ho
 · intro g b W hS hall
   have hl9 : b 18 = true := hall 18 (by decide)
   subst hLe
   exact hQ g W (by simpa [hl9] using hS)
set_option maxRecDepth 8000 in
set_option maxHeartbeats 4000000 in
theorem mkdo_r5 {Q : Exit → Act → World → Prop} {base : Array Value} {dd : List Deferred} {ops : Array Oper} (hops : Tryz.f107.body.bind (regs 5) = some ops) (mk ob u : Nat) (nm : ByteArray) (Post : World → Prop) (w9 : World) (hsz : base.size = 54) (b0 : base.getD 0 undef = .pointer (some ⟨mk, 0, none⟩)) (b3 : base.getD 3 undef = .pointer (some ⟨u, 0, none⟩))
   (m1 : w9.cell? ⟨mk, 1, none⟩ = some (.pointer (some ⟨ob, 0, none⟩))) (m4 : w9.cell? ⟨mk, 4, none⟩ = some (.string nm)) (hc : Calls Tryz.prog 150 #[.pointer (some ⟨ob, 0, none⟩), .agg #[.pointer (some ⟨u, 0, none⟩), .string nm]] w9.drew fun e W' => e = .returned (.tuple #[]) ∧ Post W') (hQ : ∀ (g : Unit) (W : World), (Post W) → Q .normal ⟨putAll base ((fun _g : Unit => ([(some 43, .pointer (some ⟨mk, 0, none⟩)), (some 44, .pointer (some ⟨mk, 0, none⟩)), (some 45, .pointer (some ⟨mk, 1, none⟩)), (some 46, .pointer (some ⟨ob, 0, none⟩)), (some 47, .pointer (some ⟨u, 0, none⟩)), (some 48, .pointer (some ⟨mk, 0, none⟩)), (some 49, .pointer (some ⟨mk, 0, none⟩)), (some 50, .pointer (some ⟨mk, 4, none⟩)), (some 51, .string nm), (some 52, .agg #[.pointer (some ⟨u, 0, none⟩), .string nm]), (some 53, .tuple #[])] : List (Option Tmp × Value))) g), dd⟩ W) :
   (Code.region 5 ops true).wp Tryz.prog Q ⟨base, dd⟩ w9 := by
 have hmix := hmx
 have h2 := (show Tryz.f107.body.bind (regs 5) = some _ from rfl).symm.trans hops
 obtain rfl := Option.some.inj h2
 clear h2 hops
 have cK : ∀ (g : Unit) (W : World), W = w9.drew → Calls Tryz.prog 150 #[.pointer (some ⟨ob, 0, none⟩), .agg #[.pointer (some ⟨u, 0, none⟩), .string nm]] W fun e W' => ∃ x : Unit, e = .returned (.tuple #[]) ∧ Post W' := fun g W hW => by
   rw [hW]
   exact hc.mono fun e W' h => ⟨(), h.1, h.2⟩
 obtain ⟨LL, hLe⟩ : ∃ LL : Unit → List (Option Tmp × Value), LL = (fun _g : Unit => ([(some 43, .pointer (some ⟨mk, 0, none⟩)), (some 44, .pointer (some ⟨mk, 0, none⟩)), (some 45, .pointer (some ⟨mk, 1, none⟩)), (some 46, .pointer (some ⟨ob, 0, none⟩)), (some 47, .pointer (some ⟨u, 0, none⟩)), (some 48, .pointer (some ⟨mk, 0, none⟩)), (some 49, .pointer (some ⟨mk, 0, none⟩)), (some 50, .pointer (some ⟨mk, 4, none⟩)), (some 51, .string nm), (some 52, .agg #[.pointer (some ⟨u, 0, none⟩), .string nm]), (some 53, .tuple #[])] : List (Option Tmp × Value))) := ⟨_, rfl⟩
 have vv0 : ∀ g, vals (LL g) 0 = .pointer (some ⟨mk, 0, none⟩) := fun g => by rw [hLe]; rfl
 have vv1 : ∀ g, vals (LL g) 1 = .pointer (some ⟨mk, 0, none⟩) := fun g => by rw [hLe]; rfl
 have vv2 : ∀ g, vals (LL g) 2 = .pointer (some ⟨mk, 1, none⟩) := fun g => by rw [hLe]; rfl
 have vv3 : ∀ g, vals (LL g) 3 = .pointer (some ⟨ob, 0, none⟩) := fun g => by rw [hLe]; rfl
 have vv4 : ∀ g, vals (LL g) 4 = .pointer (some ⟨u, 0, none⟩) := fun g => by rw [hLe]; rfl
 have vv5 : ∀ g, vals (LL g) 5 = .pointer (some ⟨mk, 0, none⟩) := fun g => by rw [hLe]; rfl
 have vv6 : ∀ g, vals (LL g) 6 = .pointer (some ⟨mk, 0, none⟩) := fun g => by rw [hLe]; rfl
 have vv7 : ∀ g, vals (LL g) 7 = .pointer (some ⟨mk, 4, none⟩) := fun g => by rw [hLe]; rfl
 have vv8 : ∀ g, vals (LL g) 8 = .string nm := fun g => by rw [hLe]; rfl
 have vv9 : ∀ g, vals (LL g) 9 = .agg #[.pointer (some ⟨u, 0, none⟩), .string nm] := fun g => by rw [hLe]; rfl
 have vv10 : ∀ g, vals (LL g) 10 = .tuple #[] := fun g => by rw [hLe]; rfl
 refine region_laidg hmix (by kernel_rfl) 54 hsz (by kernel_rfl) () LL (fun g => by rw [hLe]; rfl) (fun (_g : Unit) (b : Nat → Bool) (W : World) => if b 10 = true then (Post W) else (W = w9.drew)) ?_ ?_ ?_
 · simp only [Bool.false_eq_true, if_false]
 · intro g b W io o a hS hcl ho hb hd ev kp yl
   have q10_3 : b 10 = true → b 3 = true := fun h => hcl 10 _ rfl h ⟨3, .data⟩ (by simp) rfl
   have q10_2 : b 10 = true → b 2 = true := fun h => hcl 3 _ rfl (q10_3 h) ⟨2, .data⟩ (by simp) rfl
   have q10_1 : b 10 = true → b 1 = true := fun h => hcl 2 _ rfl (q10_2 h) ⟨1, .data⟩ (by simp) rfl
   have q10_0 : b 10 = true → b 0 = true := fun h => hcl 1 _ rfl (q10_1 h) ⟨0, .data⟩ (by simp) rfl
   have q10_9 : b 10 = true → b 9 = true := fun h => hcl 10 _ rfl h ⟨9, .data⟩ (by simp) rfl
   have q10_4 : b 10 = true → b 4 = true := fun h => hcl 9 _ rfl (q10_9 h) ⟨4, .data⟩ (by simp) rfl
   have q10_8 : b 10 = true → b 8 = true := fun h => hcl 9 _ rfl (q10_9 h) ⟨8, .data⟩ (by simp) rfl
   have q10_7 : b 10 = true → b 7 = true := fun h => hcl 8 _ rfl (q10_8 h) ⟨7, .data⟩ (by simp) rfl
   have q10_6 : b 10 = true → b 6 = true := fun h => hcl 7 _ rfl (q10_7 h) ⟨6, .data⟩ (by simp) rfl
   have q10_5 : b 10 = true → b 5 = true := fun h => hcl 6 _ rfl (q10_6 h) ⟨5, .data⟩ (by simp) rfl
   match io with
   | 0 =>
     simp only [qq] at ho; subst ho; have e0 := (kp 0 (none_till (by kernel_rfl))).trans b0; have n10 := nF q10_0 hb
     refine doesg_value rfl nofun (v := .pointer (some ⟨mk, 0, none⟩)) (w' := W) ?_ ⟨g, fun _ _ => rfl, (vv0 g).symm, by simpa [did] using hS⟩
     · simp [execOp, go_sem, e0]
   | 1 =>
     simp only [qq] at ho; subst ho; have e43 := eD ev hd 0 43 (vv0 g); have n10 := nF q10_1 hb
     refine doesg_value rfl nofun (v := .pointer (some ⟨mk, 0, none⟩)) (w' := W) ?_ ⟨g, fun _ _ => rfl, (vv1 g).symm, by simpa [did] using hS⟩
     · simp [execOp, go_sem, e43]
   | 2 =>
     simp only [qq] at ho; subst ho; have e44 := eD ev hd 1 44 (vv1 g); have n10 := nF q10_2 hb
     refine doesg_value rfl nofun (v := .pointer (some ⟨mk, 1, none⟩)) (w' := W) ?_ ⟨g, fun _ _ => rfl, (vv2 g).symm, by simpa [did] using hS⟩
     · simp [execOp, go_sem, e44]
   | 3 =>
     simp only [qq] at ho; subst ho; have e45 := eD ev hd 2 45 (vv2 g); have n10 := nF q10_3 hb; have hW : W = w9.drew := by simpa [n10] using hS
     have hl : W.cell? ⟨mk, 1, none⟩ = some (.pointer (some ⟨ob, 0, none⟩)) := by rw [hW]; exact m1
     refine doesg_value rfl nofun (v := .pointer (some ⟨ob, 0, none⟩)) (w' := W) ?_ ⟨g, fun _ _ => rfl, (vv3 g).symm, by simpa [did] using hS⟩
     · simp [execOp, go_sem, e45, hl]
   | 4 =>
     simp only [qq] at ho; subst ho; have e3 := (kp 3 (none_till (by kernel_rfl))).trans b3; have n10 := nF q10_4 hb
     refine doesg_value rfl nofun (v := .pointer (some ⟨u, 0, none⟩)) (w' := W) ?_ ⟨g, fun _ _ => rfl, (vv4 g).symm, by simpa [did] using hS⟩
     · simp [execOp, go_sem, e3]
   | 5 =>
     simp only [qq] at ho; subst ho; have e0 := (kp 0 (none_till (by kernel_rfl))).trans b0; have n10 := nF q10_5 hb
     refine doesg_value rfl nofun (v := .pointer (some ⟨mk, 0, none⟩)) (w' := W) ?_ ⟨g, fun _ _ => rfl, (vv5 g).symm, by simpa [did] using hS⟩
     · simp [execOp, go_sem, e0]
   | 6 =>
     simp only [qq] at ho; subst ho; have e48 := eD ev hd 5 48 (vv5 g); have n10 := nF q10_6 hb
     refine doesg_value rfl nofun (v := .pointer (some ⟨mk, 0, none⟩)) (w' := W) ?_ ⟨g, fun _ _ => rfl, (vv6 g).symm, by simpa [did] using hS⟩
     · simp [execOp, go_sem, e48]
   | 7 =>
     simp only [qq] at ho; subst ho; have e49 := eD ev hd 6 49 (vv6 g); have n10 := nF q10_7 hb
     refine doesg_value rfl nofun (v := .pointer (some ⟨mk, 4, none⟩)) (w' := W) ?_ ⟨g, fun _ _ => rfl, (vv7 g).symm, by simpa [did] using hS⟩
     · simp [execOp, go_sem, e49]
   | 8 =>
     simp only [qq] at ho; subst ho; have e50 := eD ev hd 7 50 (vv7 g); have n10 := nF q10_8 hb; have hW : W = w9.drew := by simpa [n10] using hS
     have hl : W.cell? ⟨mk, 4, none⟩ = some (.string nm) := by rw [hW]; exact m4
     refine doesg_value rfl nofun (v := .string nm) (w' := W) ?_ ⟨g, fun _ _ => rfl, (vv8 g).symm, by simpa [did] using hS⟩
     · simp [execOp, go_sem, e50, hl]
   | 9 =>
     simp only [qq] at ho; subst ho; have e47 := eD ev hd 4 47 (vv4 g); have e51 := eD ev hd 8 51 (vv8 g); have n10 := nF q10_9 hb
     refine doesg_value rfl nofun (v := .agg #[.pointer (some ⟨u, 0, none⟩), .string nm]) (w' := W) ?_ ⟨g, fun _ _ => rfl, (vv9 g).symm, by simpa [did] using hS⟩
     · simp [execOp, go_sem, e47, e51]
   | 10 =>
     simp only [qq] at ho; subst ho; have e46 := eD ev hd 3 46 (vv3 g); have e52 := eD ev hd 9 52 (vv9 g); have hS9 : W = w9.drew := by simpa [hb] using hS
     refine doesg_call rfl nofun (f := 150) (args := #[.pointer (some ⟨ob, 0, none⟩), .agg #[.pointer (some ⟨u, 0, none⟩), .string nm]]) ?_ ?_
     · simp [go_sem, e46, e52]
     · refine (cK g W hS9).mono ?_
       rintro e W' ⟨x, rfl, hP⟩
       refine ⟨_, rfl, g, ?_, (vv10 g).symm, ?_⟩
       · exact fun _ _ => rfl
       · simpa [did] using hP
   | k + 11 => simp at ho
 · intro g b W hS hall
   have hl9 : b 10 = true := hall 10 (by decide)
   subst hLe
   exact hQ g W (by simpa [hl9] using hS)
set_option maxRecDepth 8000 in
set_option maxHeartbeats 4000000 in
theorem mkun_r1 {Q : Exit → Act → World → Prop} {base : Array Value} {dd : List Deferred} {ops : Array Oper} (hops : Tryz.f108.body.bind (regs 1) = some ops) (mk gt mb ob : Nat) (t n : Int) (WE : World) (w9 : World) (hsz : base.size = 22) (b0 : base.getD 0 undef = .pointer (some ⟨mk, 0, none⟩))
   (m0 : w9.cell? ⟨mk, 0, none⟩ = some (.pointer (some ⟨gt, 0, none⟩))) (m1 : w9.cell? ⟨mk, 1, none⟩ = some (.pointer (some ⟨ob, 0, none⟩))) (g0 : w9.cell? ⟨gt, 0, none⟩ = some (.map (some mb))) (o2 : w9.cell? ⟨ob, 2, none⟩ = some (.int .i64 t)) (o3 : w9.cell? ⟨ob, 3, none⟩ = some (.int .i64 n)) (hp : ∀ ty, (Builtin.delete_ #[71, 28] ty #[.map (some mb), idv t n]).run Tryz.prog w9.drew = .ok (.tuple #[]) WE) (hQ : ∀ (g : Unit) (W : World), (W = WE) → Q .normal ⟨putAll base ((fun _g : Unit => ([(some 8, .pointer (some ⟨mk, 0, none⟩)), (some 9, .pointer (some ⟨mk, 0, none⟩)), (some 10, .pointer (some ⟨mk, 0, none⟩)), (some 11, .pointer (some ⟨gt, 0, none⟩)), (some 12, .pointer (some ⟨gt, 0, none⟩)), (some 13, .pointer (some ⟨gt, 0, none⟩)), (some 14, .map (some mb)), (some 15, .pointer (some ⟨mk, 0, none⟩)), (some 16, .pointer (some ⟨mk, 0, none⟩)), (some 17, .pointer (some ⟨mk, 1, none⟩)), (some 18, .pointer (some ⟨ob, 0, none⟩)), (some 19, .pointer (some ⟨ob, 0, none⟩)), (some 20, .pointer (some ⟨ob, 2, none⟩)), (some 21, .agg #[.int .i64 t, .int .i64 n]), (none, .tuple #[])] : List (Option Tmp × Value))) g), dd⟩ W) :
   (Code.region 1 ops true).wp Tryz.prog Q ⟨base, dd⟩ w9 := by
 have hmix := hmx
 have h2 := (show Tryz.f108.body.bind (regs 1) = some _ from rfl).symm.trans hops
 obtain rfl := Option.some.inj h2
 clear h2 hops
 obtain ⟨LL, hLe⟩ : ∃ LL : Unit → List (Option Tmp × Value), LL = (fun _g : Unit => ([(some 8, .pointer (some ⟨mk, 0, none⟩)), (some 9, .pointer (some ⟨mk, 0, none⟩)), (some 10, .pointer (some ⟨mk, 0, none⟩)), (some 11, .pointer (some ⟨gt, 0, none⟩)), (some 12, .pointer (some ⟨gt, 0, none⟩)), (some 13, .pointer (some ⟨gt, 0, none⟩)), (some 14, .map (some mb)), (some 15, .pointer (some ⟨mk, 0, none⟩)), (some 16, .pointer (some ⟨mk, 0, none⟩)), (some 17, .pointer (some ⟨mk, 1, none⟩)), (some 18, .pointer (some ⟨ob, 0, none⟩)), (some 19, .pointer (some ⟨ob, 0, none⟩)), (some 20, .pointer (some ⟨ob, 2, none⟩)), (some 21, .agg #[.int .i64 t, .int .i64 n]), (none, .tuple #[])] : List (Option Tmp × Value))) := ⟨_, rfl⟩
 have vv0 : ∀ g, vals (LL g) 0 = .pointer (some ⟨mk, 0, none⟩) := fun g => by rw [hLe]; rfl
 have vv1 : ∀ g, vals (LL g) 1 = .pointer (some ⟨mk, 0, none⟩) := fun g => by rw [hLe]; rfl
 have vv2 : ∀ g, vals (LL g) 2 = .pointer (some ⟨mk, 0, none⟩) := fun g => by rw [hLe]; rfl
 have vv3 : ∀ g, vals (LL g) 3 = .pointer (some ⟨gt, 0, none⟩) := fun g => by rw [hLe]; rfl
 have vv4 : ∀ g, vals (LL g) 4 = .pointer (some ⟨gt, 0, none⟩) := fun g => by rw [hLe]; rfl
 have vv5 : ∀ g, vals (LL g) 5 = .pointer (some ⟨gt, 0, none⟩) := fun g => by rw [hLe]; rfl
 have vv6 : ∀ g, vals (LL g) 6 = .map (some mb) := fun g => by rw [hLe]; rfl
 have vv7 : ∀ g, vals (LL g) 7 = .pointer (some ⟨mk, 0, none⟩) := fun g => by rw [hLe]; rfl
 have vv8 : ∀ g, vals (LL g) 8 = .pointer (some ⟨mk, 0, none⟩) := fun g => by rw [hLe]; rfl
 have vv9 : ∀ g, vals (LL g) 9 = .pointer (some ⟨mk, 1, none⟩) := fun g => by rw [hLe]; rfl
 have vv10 : ∀ g, vals (LL g) 10 = .pointer (some ⟨ob, 0, none⟩) := fun g => by rw [hLe]; rfl
 have vv11 : ∀ g, vals (LL g) 11 = .pointer (some ⟨ob, 0, none⟩) := fun g => by rw [hLe]; rfl
 have vv12 : ∀ g, vals (LL g) 12 = .pointer (some ⟨ob, 2, none⟩) := fun g => by rw [hLe]; rfl
 have vv13 : ∀ g, vals (LL g) 13 = .agg #[.int .i64 t, .int .i64 n] := fun g => by rw [hLe]; rfl
 have vv14 : ∀ g, vals (LL g) 14 = .tuple #[] := fun g => by rw [hLe]; rfl
 refine region_laidg hmix (by kernel_rfl) 22 hsz (by kernel_rfl) () LL (fun g => by rw [hLe]; rfl) (fun (_g : Unit) (b : Nat → Bool) (W : World) => if b 14 = true then (W = WE) else (W = w9.drew)) ?_ ?_ ?_
 · simp only [Bool.false_eq_true, if_false]
 · intro g b W io o a hS hcl ho hb hd ev kp yl
   have q14_6 : b 14 = true → b 6 = true := fun h => hcl 14 _ rfl h ⟨6, .data⟩ (by simp) rfl
   have q14_5 : b 14 = true → b 5 = true := fun h => hcl 6 _ rfl (q14_6 h) ⟨5, .data⟩ (by simp) rfl
   have q14_4 : b 14 = true → b 4 = true := fun h => hcl 5 _ rfl (q14_5 h) ⟨4, .data⟩ (by simp) rfl
   have q14_3 : b 14 = true → b 3 = true := fun h => hcl 4 _ rfl (q14_4 h) ⟨3, .data⟩ (by simp) rfl
   have q14_2 : b 14 = true → b 2 = true := fun h => hcl 3 _ rfl (q14_3 h) ⟨2, .data⟩ (by simp) rfl
   have q14_1 : b 14 = true → b 1 = true := fun h => hcl 2 _ rfl (q14_2 h) ⟨1, .data⟩ (by simp) rfl
   have q14_0 : b 14 = true → b 0 = true := fun h => hcl 1 _ rfl (q14_1 h) ⟨0, .data⟩ (by simp) rfl
   have q14_13 : b 14 = true → b 13 = true := fun h => hcl 14 _ rfl h ⟨13, .data⟩ (by simp) rfl
   have q14_12 : b 14 = true → b 12 = true := fun h => hcl 13 _ rfl (q14_13 h) ⟨12, .data⟩ (by simp) rfl
   have q14_11 : b 14 = true → b 11 = true := fun h => hcl 12 _ rfl (q14_12 h) ⟨11, .data⟩ (by simp) rfl
   have q14_10 : b 14 = true → b 10 = true := fun h => hcl 11 _ rfl (q14_11 h) ⟨10, .data⟩ (by simp) rfl
   have q14_9 : b 14 = true → b 9 = true := fun h => hcl 10 _ rfl (q14_10 h) ⟨9, .data⟩ (by simp) rfl
   have q14_8 : b 14 = true → b 8 = true := fun h => hcl 9 _ rfl (q14_9 h) ⟨8, .data⟩ (by simp) rfl
   have q14_7 : b 14 = true → b 7 = true := fun h => hcl 8 _ rfl (q14_8 h) ⟨7, .data⟩ (by simp) rfl
   match io with
   | 0 =>
     simp only [qq] at ho; subst ho; have e0 := (kp 0 (none_till (by kernel_rfl))).trans b0; have n14 := nF q14_0 hb
     refine doesg_value rfl nofun (v := .pointer (some ⟨mk, 0, none⟩)) (w' := W) ?_ ⟨g, fun _ _ => rfl, (vv0 g).symm, by simpa [did] using hS⟩
     · simp [execOp, go_sem, e0]
   | 1 =>
     simp only [qq] at ho; subst ho; have e8 := eD ev hd 0 8 (vv0 g); have n14 := nF q14_1 hb
     refine doesg_value rfl nofun (v := .pointer (some ⟨mk, 0, none⟩)) (w' := W) ?_ ⟨g, fun _ _ => rfl, (vv1 g).symm, by simpa [did] using hS⟩
     · simp [execOp, go_sem, e8]
   | 2 =>
     simp only [qq] at ho; subst ho; have e9 := eD ev hd 1 9 (vv1 g); have n14 := nF q14_2 hb
     refine doesg_value rfl nofun (v := .pointer (some ⟨mk, 0, none⟩)) (w' := W) ?_ ⟨g, fun _ _ => rfl, (vv2 g).symm, by simpa [did] using hS⟩
     · simp [execOp, go_sem, e9]
   | 3 =>
     simp only [qq] at ho; subst ho; have e10 := eD ev hd 2 10 (vv2 g); have n14 := nF q14_3 hb; have hW : W = w9.drew := by simpa [n14] using hS
     have hl : W.cell? ⟨mk, 0, none⟩ = some (.pointer (some ⟨gt, 0, none⟩)) := by rw [hW]; exact m0
     refine doesg_value rfl nofun (v := .pointer (some ⟨gt, 0, none⟩)) (w' := W) ?_ ⟨g, fun _ _ => rfl, (vv3 g).symm, by simpa [did] using hS⟩
     · simp [execOp, go_sem, e10, hl]
   | 4 =>
     simp only [qq] at ho; subst ho; have e11 := eD ev hd 3 11 (vv3 g); have n14 := nF q14_4 hb
     refine doesg_value rfl nofun (v := .pointer (some ⟨gt, 0, none⟩)) (w' := W) ?_ ⟨g, fun _ _ => rfl, (vv4 g).symm, by simpa [did] using hS⟩
     · simp [execOp, go_sem, e11]
   | 5 =>
     simp only [qq] at ho; subst ho; have e12 := eD ev hd 4 12 (vv4 g); have n14 := nF q14_5 hb
     refine doesg_value rfl nofun (v := .pointer (some ⟨gt, 0, none⟩)) (w' := W) ?_ ⟨g, fun _ _ => rfl, (vv5 g).symm, by simpa [did] using hS⟩
     · simp [execOp, go_sem, e12]
   | 6 =>
     simp only [qq] at ho; subst ho; have e13 := eD ev hd 5 13 (vv5 g); have n14 := nF q14_6 hb; have hW : W = w9.drew := by simpa [n14] using hS
     have hl : W.cell? ⟨gt, 0, none⟩ = some (.map (some mb)) := by rw [hW]; exact g0
     refine doesg_value rfl nofun (v := .map (some mb)) (w' := W) ?_ ⟨g, fun _ _ => rfl, (vv6 g).symm, by simpa [did] using hS⟩
     · simp [execOp, go_sem, e13, hl]
   | 7 =>
     simp only [qq] at ho; subst ho; have e0 := (kp 0 (none_till (by kernel_rfl))).trans b0; have n14 := nF q14_7 hb
     refine doesg_value rfl nofun (v := .pointer (some ⟨mk, 0, none⟩)) (w' := W) ?_ ⟨g, fun _ _ => rfl, (vv7 g).symm, by simpa [did] using hS⟩
     · simp [execOp, go_sem, e0]
   | 8 =>
     simp only [qq] at ho; subst ho; have e15 := eD ev hd 7 15 (vv7 g); have n14 := nF q14_8 hb
     refine doesg_value rfl nofun (v := .pointer (some ⟨mk, 0, none⟩)) (w' := W) ?_ ⟨g, fun _ _ => rfl, (vv8 g).symm, by simpa [did] using hS⟩
     · simp [execOp, go_sem, e15]
   | 9 =>
     simp only [qq] at ho; subst ho; have e16 := eD ev hd 8 16 (vv8 g); have n14 := nF q14_9 hb
     refine doesg_value rfl nofun (v := .pointer (some ⟨mk, 1, none⟩)) (w' := W) ?_ ⟨g, fun _ _ => rfl, (vv9 g).symm, by simpa [did] using hS⟩
     · simp [execOp, go_sem, e16]
   | 10 =>
     simp only [qq] at ho; subst ho; have e17 := eD ev hd 9 17 (vv9 g); have n14 := nF q14_10 hb; have hW : W = w9.drew := by simpa [n14] using hS
     have hl : W.cell? ⟨mk, 1, none⟩ = some (.pointer (some ⟨ob, 0, none⟩)) := by rw [hW]; exact m1
     refine doesg_value rfl nofun (v := .pointer (some ⟨ob, 0, none⟩)) (w' := W) ?_ ⟨g, fun _ _ => rfl, (vv10 g).symm, by simpa [did] using hS⟩
     · simp [execOp, go_sem, e17, hl]
   | 11 =>
     simp only [qq] at ho; subst ho; have e18 := eD ev hd 10 18 (vv10 g); have n14 := nF q14_11 hb
     refine doesg_value rfl nofun (v := .pointer (some ⟨ob, 0, none⟩)) (w' := W) ?_ ⟨g, fun _ _ => rfl, (vv11 g).symm, by simpa [did] using hS⟩
     · simp [execOp, go_sem, e18]
   | 12 =>
     simp only [qq] at ho; subst ho; have e19 := eD ev hd 11 19 (vv11 g); have n14 := nF q14_12 hb
     refine doesg_value rfl nofun (v := .pointer (some ⟨ob, 2, none⟩)) (w' := W) ?_ ⟨g, fun _ _ => rfl, (vv12 g).symm, by simpa [did] using hS⟩
     · simp [execOp, go_sem, e19]
   | 13 =>
     simp only [qq] at ho; subst ho; have e20 := eD ev hd 12 20 (vv12 g); have n14 := nF q14_13 hb; have hW : W = w9.drew := by simpa [n14] using hS
     have hl : W.cell? ⟨ob, 2, none⟩ = some (.int .i64 t) := by rw [hW]; exact o2
     have hl2 : W.cell? ⟨ob, 3, none⟩ = some (.int .i64 n) := by rw [hW]; exact o3
     refine doesg_value rfl nofun (v := .agg #[.int .i64 t, .int .i64 n]) (w' := W) ?_ ⟨g, fun _ _ => rfl, (vv13 g).symm, by simpa [did] using hS⟩
     · simp [execOp, go_sem, e20, hl, hl2]
   | 14 =>
     simp only [qq] at ho; subst ho; have e14 := eD ev hd 6 14 (vv6 g); have e21 := eD ev hd 13 21 (vv13 g); have hS9 : W = w9.drew := by simpa [hb] using hS
     obtain ⟨W', hr, hP⟩ := (⟨WE, hp, rfl⟩ : ∃ W', (∀ ty, (Builtin.delete_ #[71, 28] ty #[.map (some mb), idv t n]).run Tryz.prog w9.drew = .ok (.tuple #[]) W') ∧ W' = WE)
     refine doesg_value rfl nofun (v := .tuple #[]) (w' := W') ?_ ⟨g, ?_, (vv14 _).symm, ?_⟩
     · rw [hS9]; simp [go_sem, e14, e21, hr]
     · exact fun _ _ => rfl
     · simpa [did] using hP
   | k + 15 => simp at ho
 · intro g b W hS hall
   have hl9 : b 14 = true := hall 14 (by decide)
   subst hLe
   exact hQ g W (by simpa [hl9] using hS)
set_option maxRecDepth 8000 in
set_option maxHeartbeats 4000000 in
theorem mvdo_r1 {Q : Exit → Act → World → Prop} {base : Array Value} {dd : List Deferred} {ops : Array Oper} (hops : Tryz.f109.body.bind (regs 1) = some ops) (mv gt mb : Nat) (t n t2 n2 : Int) (v v2 : Value) (w9 : World) (hsz : base.size = 67) (b0 : base.getD 0 undef = .pointer (some ⟨mv, 0, none⟩))
   (m0 : w9.cell? ⟨mv, 0, none⟩ = some (.pointer (some ⟨gt, 0, none⟩))) (m1 : w9.cell? ⟨mv, 1, none⟩ = some (.int .i64 t)) (m2 : w9.cell? ⟨mv, 2, none⟩ = some (.int .i64 n)) (m3 : w9.cell? ⟨mv, 3, none⟩ = some (.int .i64 t2)) (m4 : w9.cell? ⟨mv, 4, none⟩ = some (.int .i64 n2)) (g0 : w9.cell? ⟨gt, 0, none⟩ = some (.map (some mb))) (hl : ∀ W, Below w9.heap.size w9 W → (Instr.lookup 71 (.map (some mb)) (idv t n) false).run Tryz.prog W = .ok (v) W) (hl2 : ∀ W, Below w9.heap.size w9 W → (Instr.lookup 71 (.map (some mb)) (idv t2 n2) false).run Tryz.prog W = .ok (v2) W) (hQ : ∀ W, Below w9.heap.size w9 W → Q .normal ⟨putAll base [(some 5, .pointer (some ⟨mv, 0, none⟩)), (some 6, .pointer (some ⟨mv, 0, none⟩)), (some 7, .pointer (some ⟨mv, 0, none⟩)), (some 8, .pointer (some ⟨gt, 0, none⟩)), (some 9, .pointer (some ⟨gt, 0, none⟩)), (some 10, .pointer (some ⟨gt, 0, none⟩)), (some 11, .map (some mb)), (some 12, .pointer (some ⟨mv, 0, none⟩)), (some 13, .pointer (some ⟨mv, 0, none⟩)), (some 14, .pointer (some ⟨mv, 1, none⟩)), (some 15, .agg #[.int .i64 t, .int .i64 n]), (some 16, v), (some 17, .pointer (some ⟨mv, 0, none⟩)), (some 18, .pointer (some ⟨mv, 0, none⟩)), (some 19, .pointer (some ⟨mv, 0, none⟩)), (some 20, .pointer (some ⟨gt, 0, none⟩)), (some 21, .pointer (some ⟨gt, 0, none⟩)), (some 22, .pointer (some ⟨gt, 0, none⟩)), (some 23, .map (some mb)), (some 24, .pointer (some ⟨mv, 0, none⟩)), (some 25, .pointer (some ⟨mv, 0, none⟩)), (some 26, .pointer (some ⟨mv, 3, none⟩)), (some 27, .agg #[.int .i64 t2, .int .i64 n2]), (some 28, v2), (some 3, v), (some 4, v2)], dd⟩ W) :
   (Code.region 1 ops true).wp Tryz.prog Q ⟨base, dd⟩ w9 := by
 have hmix := hmx
 have h2 := (show Tryz.f109.body.bind (regs 1) = some _ from rfl).symm.trans hops
 obtain rfl := Option.some.inj h2
 clear h2 hops
 have below9 : Below w9.heap.size w9 w9.drew := (Below.refl _ _).drew
 obtain ⟨LL, hLe⟩ := qL hQ
 have vv0 : vals LL 0 = .pointer (some ⟨mv, 0, none⟩) := vL hLe rfl
 have vv1 : vals LL 1 = .pointer (some ⟨mv, 0, none⟩) := vL hLe rfl
 have vv2 : vals LL 2 = .pointer (some ⟨mv, 0, none⟩) := vL hLe rfl
 have vv3 : vals LL 3 = .pointer (some ⟨gt, 0, none⟩) := vL hLe rfl
 have vv4 : vals LL 4 = .pointer (some ⟨gt, 0, none⟩) := vL hLe rfl
 have vv5 : vals LL 5 = .pointer (some ⟨gt, 0, none⟩) := vL hLe rfl
 have vv6 : vals LL 6 = .map (some mb) := vL hLe rfl
 have vv7 : vals LL 7 = .pointer (some ⟨mv, 0, none⟩) := vL hLe rfl
 have vv8 : vals LL 8 = .pointer (some ⟨mv, 0, none⟩) := vL hLe rfl
 have vv9 : vals LL 9 = .pointer (some ⟨mv, 1, none⟩) := vL hLe rfl
 have vv10 : vals LL 10 = .agg #[.int .i64 t, .int .i64 n] := vL hLe rfl
 have vv11 : vals LL 11 = v := vL hLe rfl
 have vv12 : vals LL 12 = .pointer (some ⟨mv, 0, none⟩) := vL hLe rfl
 have vv13 : vals LL 13 = .pointer (some ⟨mv, 0, none⟩) := vL hLe rfl
 have vv14 : vals LL 14 = .pointer (some ⟨mv, 0, none⟩) := vL hLe rfl
 have vv15 : vals LL 15 = .pointer (some ⟨gt, 0, none⟩) := vL hLe rfl
 have vv16 : vals LL 16 = .pointer (some ⟨gt, 0, none⟩) := vL hLe rfl
 have vv17 : vals LL 17 = .pointer (some ⟨gt, 0, none⟩) := vL hLe rfl
 have vv18 : vals LL 18 = .map (some mb) := vL hLe rfl
 have vv19 : vals LL 19 = .pointer (some ⟨mv, 0, none⟩) := vL hLe rfl
 have vv20 : vals LL 20 = .pointer (some ⟨mv, 0, none⟩) := vL hLe rfl
 have vv21 : vals LL 21 = .pointer (some ⟨mv, 3, none⟩) := vL hLe rfl
 have vv22 : vals LL 22 = .agg #[.int .i64 t2, .int .i64 n2] := vL hLe rfl
 have vv23 : vals LL 23 = v2 := vL hLe rfl
 have vv24 : vals LL 24 = v := vL hLe rfl
 have vv25 : vals LL 25 = v2 := vL hLe rfl
 refine region_laid hmix (by kernel_rfl) 67 hsz (by kernel_rfl) LL (by rw [hLe]; rfl) (fun _ W => Below w9.heap.size w9 W) below9 ?_ ?_
 · intro b W i o a hS hcl ho hb hd ev kp yl
   match i with
   | 0 => simp only [qq] at ho; subst ho; have e0 := (kp 0 (by kernel_rfl)).trans b0; rw [vv0]; exact dV (by simp [execOp, go_sem, e0]) hS
   | 1 => simp only [qq] at ho; subst ho; have e5 := eD ev hd 0 5 vv0; rw [vv1]; exact dV (by simp [execOp, go_sem, e5]) hS
   | 2 => simp only [qq] at ho; subst ho; have e6 := eD ev hd 1 6 vv1; rw [vv2]; exact dV (by simp [execOp, go_sem, e6]) hS
   | 3 => simp only [qq] at ho; subst ho; have e7 := eD ev hd 2 7 vv2; have d0 := (hS.cell (p := ⟨mv, 0, none⟩) (cell_lt m0)).trans m0; rw [vv3]; exact dV (by simp [execOp, go_sem, e7, d0]) hS
   | 4 => simp only [qq] at ho; subst ho; have e8 := eD ev hd 3 8 vv3; rw [vv4]; exact dV (by simp [execOp, go_sem, e8]) hS
   | 5 => simp only [qq] at ho; subst ho; have e9 := eD ev hd 4 9 vv4; rw [vv5]; exact dV (by simp [execOp, go_sem, e9]) hS
   | 6 => simp only [qq] at ho; subst ho; have e10 := eD ev hd 5 10 vv5; have d0 := (hS.cell (p := ⟨gt, 0, none⟩) (cell_lt g0)).trans g0; rw [vv6]; exact dV (by simp [execOp, go_sem, e10, d0]) hS
   | 7 => simp only [qq] at ho; subst ho; have e0 := (kp 0 (by kernel_rfl)).trans b0; rw [vv7]; exact dV (by simp [execOp, go_sem, e0]) hS
   | 8 => simp only [qq] at ho; subst ho; have e12 := eD ev hd 7 12 vv7; rw [vv8]; exact dV (by simp [execOp, go_sem, e12]) hS
   | 9 => simp only [qq] at ho; subst ho; have e13 := eD ev hd 8 13 vv8; rw [vv9]; exact dV (by simp [execOp, go_sem, e13]) hS
   | 10 => simp only [qq] at ho; subst ho; have e14 := eD ev hd 9 14 vv9; have d1 := (hS.cell (p := ⟨mv, 1, none⟩) (cell_lt m1)).trans m1; have d2 := (hS.cell (p := ⟨mv, 2, none⟩) (cell_lt m2)).trans m2; rw [vv10]; exact dV (by simp [execOp, go_sem, e14, d1, d2]) hS
   | 11 => simp only [qq] at ho; subst ho; have e11 := eD ev hd 6 11 vv6; have e15 := eD ev hd 10 15 vv10; rw [vv11]; exact dV (by simp [execOp, go_sem, e11, e15, hl W hS]) hS
   | 12 => simp only [qq] at ho; subst ho; have e0 := (kp 0 (by kernel_rfl)).trans b0; rw [vv12]; exact dV (by simp [execOp, go_sem, e0]) hS
   | 13 => simp only [qq] at ho; subst ho; have e17 := eD ev hd 12 17 vv12; rw [vv13]; exact dV (by simp [execOp, go_sem, e17]) hS
   | 14 => simp only [qq] at ho; subst ho; have e18 := eD ev hd 13 18 vv13; rw [vv14]; exact dV (by simp [execOp, go_sem, e18]) hS
   | 15 => simp only [qq] at ho; subst ho; have e19 := eD ev hd 14 19 vv14; have d0 := (hS.cell (p := ⟨mv, 0, none⟩) (cell_lt m0)).trans m0; rw [vv15]; exact dV (by simp [execOp, go_sem, e19, d0]) hS
   | 16 => simp only [qq] at ho; subst ho; have e20 := eD ev hd 15 20 vv15; rw [vv16]; exact dV (by simp [execOp, go_sem, e20]) hS
   | 17 => simp only [qq] at ho; subst ho; have e21 := eD ev hd 16 21 vv16; rw [vv17]; exact dV (by simp [execOp, go_sem, e21]) hS
   | 18 => simp only [qq] at ho; subst ho; have e22 := eD ev hd 17 22 vv17; have d0 := (hS.cell (p := ⟨gt, 0, none⟩) (cell_lt g0)).trans g0; rw [vv18]; exact dV (by simp [execOp, go_sem, e22, d0]) hS
   | 19 => simp only [qq] at ho; subst ho; have e0 := (kp 0 (by kernel_rfl)).trans b0; rw [vv19]; exact dV (by simp [execOp, go_sem, e0]) hS
   | 20 => simp only [qq] at ho; subst ho; have e24 := eD ev hd 19 24 vv19; rw [vv20]; exact dV (by simp [execOp, go_sem, e24]) hS
   | 21 => simp only [qq] at ho; subst ho; have e25 := eD ev hd 20 25 vv20; rw [vv21]; exact dV (by simp [execOp, go_sem, e25]) hS
   | 22 => simp only [qq] at ho; subst ho; have e26 := eD ev hd 21 26 vv21; have d3 := (hS.cell (p := ⟨mv, 3, none⟩) (cell_lt m3)).trans m3; have d4 := (hS.cell (p := ⟨mv, 4, none⟩) (cell_lt m4)).trans m4; rw [vv22]; exact dV (by simp [execOp, go_sem, e26, d3, d4]) hS
   | 23 => simp only [qq] at ho; subst ho; have e23 := eD ev hd 18 23 vv18; have e27 := eD ev hd 22 27 vv22; rw [vv23]; exact dV (by simp [execOp, go_sem, e23, e27, hl2 W hS]) hS
   | 24 => simp only [qq] at ho; subst ho; have e16 := eD ev hd 11 16 vv11; rw [vv24]; exact dV (by simp [execOp, go_sem, e16]) hS
   | 25 => simp only [qq] at ho; subst ho; have e28 := eD ev hd 23 28 vv23; rw [vv25]; exact dV (by simp [execOp, go_sem, e28]) hS
   | k + 26 => simp at ho
 · intro b' W hS _
   subst hLe
   exact hQ W hS
set_option maxRecDepth 8000 in
set_option maxHeartbeats 4000000 in
theorem mvun_r0 {Q : Exit → Act → World → Prop} {base : Array Value} {dd : List Deferred} {ops : Array Oper} (hops : Tryz.f110.body.bind (regs 0) = some ops) (mv gt mb ob : Nat) (t n : Int) (fu : Value) (fn : ByteArray) (Post : World → Prop) (w9 : World) (hsz : base.size = 23) (b0 : base.getD 0 undef = .pointer (some ⟨mv, 0, none⟩))
   (m0 : w9.cell? ⟨mv, 0, none⟩ = some (.pointer (some ⟨gt, 0, none⟩))) (m1 : w9.cell? ⟨mv, 1, none⟩ = some (.int .i64 t)) (m2 : w9.cell? ⟨mv, 2, none⟩ = some (.int .i64 n)) (m6 : w9.cell? ⟨mv, 6, none⟩ = some (fu)) (m7 : w9.cell? ⟨mv, 7, none⟩ = some (.string fn)) (g0 : w9.cell? ⟨gt, 0, none⟩ = some (.map (some mb))) (hlk : (Instr.lookup 71 (.map (some mb)) (idv t n) false).run Tryz.prog w9.drew = .ok (.pointer (some ⟨ob, 0, none⟩)) w9.drew) (hc : Calls Tryz.prog 150 #[.pointer (some ⟨ob, 0, none⟩), .agg #[fu, .string fn]] w9.drew fun e W' => e = .returned (.tuple #[]) ∧ Post W') (hQ : ∀ (g : Unit) (W : World), (Post W) → Q .normal ⟨putAll base ((fun _g : Unit => ([(some 2, .pointer (some ⟨mv, 0, none⟩)), (some 3, .pointer (some ⟨mv, 0, none⟩)), (some 4, .pointer (some ⟨mv, 0, none⟩)), (some 5, .pointer (some ⟨gt, 0, none⟩)), (some 6, .pointer (some ⟨gt, 0, none⟩)), (some 7, .pointer (some ⟨gt, 0, none⟩)), (some 8, .map (some mb)), (some 9, .pointer (some ⟨mv, 0, none⟩)), (some 10, .pointer (some ⟨mv, 0, none⟩)), (some 11, .pointer (some ⟨mv, 1, none⟩)), (some 12, .agg #[.int .i64 t, .int .i64 n]), (some 13, .pointer (some ⟨ob, 0, none⟩)), (some 14, .pointer (some ⟨mv, 0, none⟩)), (some 15, .pointer (some ⟨mv, 0, none⟩)), (some 16, .pointer (some ⟨mv, 6, none⟩)), (some 17, .agg #[fu, .string fn]), (some 18, .tuple #[])] : List (Option Tmp × Value))) g), dd⟩ W) :
   (Code.region 0 ops true).wp Tryz.prog Q ⟨base, dd⟩ w9 := by
 have hmix := hmx
 have h2 := (show Tryz.f110.body.bind (regs 0) = some _ from rfl).symm.trans hops
 obtain rfl := Option.some.inj h2
 clear h2 hops
 have cK : ∀ (g : Unit) (W : World), W = w9.drew → Calls Tryz.prog 150 #[.pointer (some ⟨ob, 0, none⟩), .agg #[fu, .string fn]] W fun e W' => ∃ x : Unit, e = .returned (.tuple #[]) ∧ Post W' := fun g W hW => by
   rw [hW]
   exact hc.mono fun e W' h => ⟨(), h.1, h.2⟩
 obtain ⟨LL, hLe⟩ : ∃ LL : Unit → List (Option Tmp × Value), LL = (fun _g : Unit => ([(some 2, .pointer (some ⟨mv, 0, none⟩)), (some 3, .pointer (some ⟨mv, 0, none⟩)), (some 4, .pointer (some ⟨mv, 0, none⟩)), (some 5, .pointer (some ⟨gt, 0, none⟩)), (some 6, .pointer (some ⟨gt, 0, none⟩)), (some 7, .pointer (some ⟨gt, 0, none⟩)), (some 8, .map (some mb)), (some 9, .pointer (some ⟨mv, 0, none⟩)), (some 10, .pointer (some ⟨mv, 0, none⟩)), (some 11, .pointer (some ⟨mv, 1, none⟩)), (some 12, .agg #[.int .i64 t, .int .i64 n]), (some 13, .pointer (some ⟨ob, 0, none⟩)), (some 14, .pointer (some ⟨mv, 0, none⟩)), (some 15, .pointer (some ⟨mv, 0, none⟩)), (some 16, .pointer (some ⟨mv, 6, none⟩)), (some 17, .agg #[fu, .string fn]), (some 18, .tuple #[])] : List (Option Tmp × Value))) := ⟨_, rfl⟩
 have vv0 : ∀ g, vals (LL g) 0 = .pointer (some ⟨mv, 0, none⟩) := fun g => by rw [hLe]; rfl
 have vv1 : ∀ g, vals (LL g) 1 = .pointer (some ⟨mv, 0, none⟩) := fun g => by rw [hLe]; rfl
 have vv2 : ∀ g, vals (LL g) 2 = .pointer (some ⟨mv, 0, none⟩) := fun g => by rw [hLe]; rfl
 have vv3 : ∀ g, vals (LL g) 3 = .pointer (some ⟨gt, 0, none⟩) := fun g => by rw [hLe]; rfl
 have vv4 : ∀ g, vals (LL g) 4 = .pointer (some ⟨gt, 0, none⟩) := fun g => by rw [hLe]; rfl
 have vv5 : ∀ g, vals (LL g) 5 = .pointer (some ⟨gt, 0, none⟩) := fun g => by rw [hLe]; rfl
 have vv6 : ∀ g, vals (LL g) 6 = .map (some mb) := fun g => by rw [hLe]; rfl
 have vv7 : ∀ g, vals (LL g) 7 = .pointer (some ⟨mv, 0, none⟩) := fun g => by rw [hLe]; rfl
 have vv8 : ∀ g, vals (LL g) 8 = .pointer (some ⟨mv, 0, none⟩) := fun g => by rw [hLe]; rfl
 have vv9 : ∀ g, vals (LL g) 9 = .pointer (some ⟨mv, 1, none⟩) := fun g => by rw [hLe]; rfl
 have vv10 : ∀ g, vals (LL g) 10 = .agg #[.int .i64 t, .int .i64 n] := fun g => by rw [hLe]; rfl
 have vv11 : ∀ g, vals (LL g) 11 = .pointer (some ⟨ob, 0, none⟩) := fun g => by rw [hLe]; rfl
 have vv12 : ∀ g, vals (LL g) 12 = .pointer (some ⟨mv, 0, none⟩) := fun g => by rw [hLe]; rfl
 have vv13 : ∀ g, vals (LL g) 13 = .pointer (some ⟨mv, 0, none⟩) := fun g => by rw [hLe]; rfl
 have vv14 : ∀ g, vals (LL g) 14 = .pointer (some ⟨mv, 6, none⟩) := fun g => by rw [hLe]; rfl
 have vv15 : ∀ g, vals (LL g) 15 = .agg #[fu, .string fn] := fun g => by rw [hLe]; rfl
 have vv16 : ∀ g, vals (LL g) 16 = .tuple #[] := fun g => by rw [hLe]; rfl
 refine region_laidg hmix (by kernel_rfl) 23 hsz (by kernel_rfl) () LL (fun g => by rw [hLe]; rfl) (fun (_g : Unit) (b : Nat → Bool) (W : World) => if b 16 = true then (Post W) else (W = w9.drew)) ?_ ?_ ?_
 · simp only [Bool.false_eq_true, if_false]
 · intro g b W io o a hS hcl ho hb hd ev kp yl
   have q16_11 : b 16 = true → b 11 = true := fun h => hcl 16 _ rfl h ⟨11, .data⟩ (by simp) rfl
   have q16_6 : b 16 = true → b 6 = true := fun h => hcl 11 _ rfl (q16_11 h) ⟨6, .data⟩ (by simp) rfl
   have q16_5 : b 16 = true → b 5 = true := fun h => hcl 6 _ rfl (q16_6 h) ⟨5, .data⟩ (by simp) rfl
   have q16_4 : b 16 = true → b 4 = true := fun h => hcl 5 _ rfl (q16_5 h) ⟨4, .data⟩ (by simp) rfl
   have q16_3 : b 16 = true → b 3 = true := fun h => hcl 4 _ rfl (q16_4 h) ⟨3, .data⟩ (by simp) rfl
   have q16_2 : b 16 = true → b 2 = true := fun h => hcl 3 _ rfl (q16_3 h) ⟨2, .data⟩ (by simp) rfl
   have q16_1 : b 16 = true → b 1 = true := fun h => hcl 2 _ rfl (q16_2 h) ⟨1, .data⟩ (by simp) rfl
   have q16_0 : b 16 = true → b 0 = true := fun h => hcl 1 _ rfl (q16_1 h) ⟨0, .data⟩ (by simp) rfl
   have q16_10 : b 16 = true → b 10 = true := fun h => hcl 11 _ rfl (q16_11 h) ⟨10, .data⟩ (by simp) rfl
   have q16_9 : b 16 = true → b 9 = true := fun h => hcl 10 _ rfl (q16_10 h) ⟨9, .data⟩ (by simp) rfl
   have q16_8 : b 16 = true → b 8 = true := fun h => hcl 9 _ rfl (q16_9 h) ⟨8, .data⟩ (by simp) rfl
   have q16_7 : b 16 = true → b 7 = true := fun h => hcl 8 _ rfl (q16_8 h) ⟨7, .data⟩ (by simp) rfl
   have q16_15 : b 16 = true → b 15 = true := fun h => hcl 16 _ rfl h ⟨15, .data⟩ (by simp) rfl
   have q16_14 : b 16 = true → b 14 = true := fun h => hcl 15 _ rfl (q16_15 h) ⟨14, .data⟩ (by simp) rfl
   have q16_13 : b 16 = true → b 13 = true := fun h => hcl 14 _ rfl (q16_14 h) ⟨13, .data⟩ (by simp) rfl
   have q16_12 : b 16 = true → b 12 = true := fun h => hcl 13 _ rfl (q16_13 h) ⟨12, .data⟩ (by simp) rfl
   match io with
   | 0 =>
     simp only [qq] at ho; subst ho; have e0 := (kp 0 (none_till (by kernel_rfl))).trans b0; have n16 := nF q16_0 hb
     refine doesg_value rfl nofun (v := .pointer (some ⟨mv, 0, none⟩)) (w' := W) ?_ ⟨g, fun _ _ => rfl, (vv0 g).symm, by simpa [did] using hS⟩
     · simp [execOp, go_sem, e0]
   | 1 =>
     simp only [qq] at ho; subst ho; have e2 := eD ev hd 0 2 (vv0 g); have n16 := nF q16_1 hb
     refine doesg_value rfl nofun (v := .pointer (some ⟨mv, 0, none⟩)) (w' := W) ?_ ⟨g, fun _ _ => rfl, (vv1 g).symm, by simpa [did] using hS⟩
     · simp [execOp, go_sem, e2]
   | 2 =>
     simp only [qq] at ho; subst ho; have e3 := eD ev hd 1 3 (vv1 g); have n16 := nF q16_2 hb
     refine doesg_value rfl nofun (v := .pointer (some ⟨mv, 0, none⟩)) (w' := W) ?_ ⟨g, fun _ _ => rfl, (vv2 g).symm, by simpa [did] using hS⟩
     · simp [execOp, go_sem, e3]
   | 3 =>
     simp only [qq] at ho; subst ho; have e4 := eD ev hd 2 4 (vv2 g); have n16 := nF q16_3 hb; have hW : W = w9.drew := by simpa [n16] using hS
     have hl : W.cell? ⟨mv, 0, none⟩ = some (.pointer (some ⟨gt, 0, none⟩)) := by rw [hW]; exact m0
     refine doesg_value rfl nofun (v := .pointer (some ⟨gt, 0, none⟩)) (w' := W) ?_ ⟨g, fun _ _ => rfl, (vv3 g).symm, by simpa [did] using hS⟩
     · simp [execOp, go_sem, e4, hl]
   | 4 =>
     simp only [qq] at ho; subst ho; have e5 := eD ev hd 3 5 (vv3 g); have n16 := nF q16_4 hb
     refine doesg_value rfl nofun (v := .pointer (some ⟨gt, 0, none⟩)) (w' := W) ?_ ⟨g, fun _ _ => rfl, (vv4 g).symm, by simpa [did] using hS⟩
     · simp [execOp, go_sem, e5]
   | 5 =>
     simp only [qq] at ho; subst ho; have e6 := eD ev hd 4 6 (vv4 g); have n16 := nF q16_5 hb
     refine doesg_value rfl nofun (v := .pointer (some ⟨gt, 0, none⟩)) (w' := W) ?_ ⟨g, fun _ _ => rfl, (vv5 g).symm, by simpa [did] using hS⟩
     · simp [execOp, go_sem, e6]
   | 6 =>
     simp only [qq] at ho; subst ho; have e7 := eD ev hd 5 7 (vv5 g); have n16 := nF q16_6 hb; have hW : W = w9.drew := by simpa [n16] using hS
     have hl : W.cell? ⟨gt, 0, none⟩ = some (.map (some mb)) := by rw [hW]; exact g0
     refine doesg_value rfl nofun (v := .map (some mb)) (w' := W) ?_ ⟨g, fun _ _ => rfl, (vv6 g).symm, by simpa [did] using hS⟩
     · simp [execOp, go_sem, e7, hl]
   | 7 =>
     simp only [qq] at ho; subst ho; have e0 := (kp 0 (none_till (by kernel_rfl))).trans b0; have n16 := nF q16_7 hb
     refine doesg_value rfl nofun (v := .pointer (some ⟨mv, 0, none⟩)) (w' := W) ?_ ⟨g, fun _ _ => rfl, (vv7 g).symm, by simpa [did] using hS⟩
     · simp [execOp, go_sem, e0]
   | 8 =>
     simp only [qq] at ho; subst ho; have e9 := eD ev hd 7 9 (vv7 g); have n16 := nF q16_8 hb
     refine doesg_value rfl nofun (v := .pointer (some ⟨mv, 0, none⟩)) (w' := W) ?_ ⟨g, fun _ _ => rfl, (vv8 g).symm, by simpa [did] using hS⟩
     · simp [execOp, go_sem, e9]
   | 9 =>
     simp only [qq] at ho; subst ho; have e10 := eD ev hd 8 10 (vv8 g); have n16 := nF q16_9 hb
     refine doesg_value rfl nofun (v := .pointer (some ⟨mv, 1, none⟩)) (w' := W) ?_ ⟨g, fun _ _ => rfl, (vv9 g).symm, by simpa [did] using hS⟩
     · simp [execOp, go_sem, e10]
   | 10 =>
     simp only [qq] at ho; subst ho; have e11 := eD ev hd 9 11 (vv9 g); have n16 := nF q16_10 hb; have hW : W = w9.drew := by simpa [n16] using hS
     have hl : W.cell? ⟨mv, 1, none⟩ = some (.int .i64 t) := by rw [hW]; exact m1
     have hl2 : W.cell? ⟨mv, 2, none⟩ = some (.int .i64 n) := by rw [hW]; exact m2
     refine doesg_value rfl nofun (v := .agg #[.int .i64 t, .int .i64 n]) (w' := W) ?_ ⟨g, fun _ _ => rfl, (vv10 g).symm, by simpa [did] using hS⟩
     · simp [execOp, go_sem, e11, hl, hl2]
   | 11 =>
     simp only [qq] at ho; subst ho; have e8 := eD ev hd 6 8 (vv6 g); have e12 := eD ev hd 10 12 (vv10 g); have n16 := nF q16_11 hb
     refine doesg_value rfl nofun (v := .pointer (some ⟨ob, 0, none⟩)) (w' := W) ?_ ⟨g, fun _ _ => rfl, (vv11 g).symm, by simpa [did] using hS⟩
     · (rw [show W = w9.drew from by simpa [n16] using hS]; simp [execOp, go_sem, e8, e12, hlk])
   | 12 =>
     simp only [qq] at ho; subst ho; have e0 := (kp 0 (none_till (by kernel_rfl))).trans b0; have n16 := nF q16_12 hb
     refine doesg_value rfl nofun (v := .pointer (some ⟨mv, 0, none⟩)) (w' := W) ?_ ⟨g, fun _ _ => rfl, (vv12 g).symm, by simpa [did] using hS⟩
     · simp [execOp, go_sem, e0]
   | 13 =>
     simp only [qq] at ho; subst ho; have e14 := eD ev hd 12 14 (vv12 g); have n16 := nF q16_13 hb
     refine doesg_value rfl nofun (v := .pointer (some ⟨mv, 0, none⟩)) (w' := W) ?_ ⟨g, fun _ _ => rfl, (vv13 g).symm, by simpa [did] using hS⟩
     · simp [execOp, go_sem, e14]
   | 14 =>
     simp only [qq] at ho; subst ho; have e15 := eD ev hd 13 15 (vv13 g); have n16 := nF q16_14 hb
     refine doesg_value rfl nofun (v := .pointer (some ⟨mv, 6, none⟩)) (w' := W) ?_ ⟨g, fun _ _ => rfl, (vv14 g).symm, by simpa [did] using hS⟩
     · simp [execOp, go_sem, e15]
   | 15 =>
     simp only [qq] at ho; subst ho; have e16 := eD ev hd 14 16 (vv14 g); have n16 := nF q16_15 hb; have hW : W = w9.drew := by simpa [n16] using hS
     have hl : W.cell? ⟨mv, 6, none⟩ = some (fu) := by rw [hW]; exact m6
     have hl2 : W.cell? ⟨mv, 7, none⟩ = some (.string fn) := by rw [hW]; exact m7
     refine doesg_value rfl nofun (v := .agg #[fu, .string fn]) (w' := W) ?_ ⟨g, fun _ _ => rfl, (vv15 g).symm, by simpa [did] using hS⟩
     · simp [execOp, go_sem, e16, hl, hl2]
   | 16 =>
     simp only [qq] at ho; subst ho; have e13 := eD ev hd 11 13 (vv11 g); have e17 := eD ev hd 15 17 (vv15 g); have hS9 : W = w9.drew := by simpa [hb] using hS
     refine doesg_call rfl nofun (f := 150) (args := #[.pointer (some ⟨ob, 0, none⟩), .agg #[fu, .string fn]]) ?_ ?_
     · simp [go_sem, e13, e17]
     · refine (cK g W hS9).mono ?_
       rintro e W' ⟨x, rfl, hP⟩
       refine ⟨_, rfl, g, ?_, (vv16 g).symm, ?_⟩
       · exact fun _ _ => rfl
       · simpa [did] using hP
   | k + 17 => simp at ho
 · intro g b W hS hall
   have hl9 : b 16 = true := hall 16 (by decide)
   subst hLe
   exact hQ g W (by simpa [hl9] using hS)
set_option maxRecDepth 8000 in
set_option maxHeartbeats 4000000 in
theorem undo_r2 {Q : Exit → Act → World → Prop} {base : Array Value} {dd : List Deferred} {ops : Array Oper} (hops : Tryz.f70.body.bind (regs 2) = some ops) (gt g9 len cp k sb : Nat) (rb : Bool) (Post : World → Prop) (w9 : World) (hsz : base.size = 36) (b0 : base.getD 0 undef = .pointer (some ⟨gt, 0, none⟩)) (hk : k < len)
   (g1 : w9.cell? ⟨gt, 1, none⟩ = some (.slice (some ⟨g9, 0, none⟩) len cp)) (g2 : w9.cell? ⟨gt, 2, none⟩ = some (.int .i64 (k : Nat))) (r0 : w9.cell? ⟨g9, k, none⟩ = some (.pointer (some ⟨sb, 0, none⟩))) (hc : Calls Tryz.prog 103 #[.pointer (some ⟨sb, 0, none⟩)] w9.drew fun e W' => e = .returned (.bool rb) ∧ Post W') (hQ : ∀ (g : Unit) (W : World), (Post W) → Q .normal ⟨putAll base ((fun _g : Unit => ([(some 17, .pointer (some ⟨gt, 0, none⟩)), (some 18, .pointer (some ⟨gt, 0, none⟩)), (some 19, .pointer (some ⟨gt, 1, none⟩)), (some 20, .slice (some ⟨g9, 0, none⟩) len cp), (some 21, .pointer (some ⟨gt, 0, none⟩)), (some 22, .pointer (some ⟨gt, 0, none⟩)), (some 23, .pointer (some ⟨gt, 2, none⟩)), (some 24, .int .i64 (k : Nat)), (some 25, .pointer (some ⟨g9, k, none⟩)), (some 26, .pointer (some ⟨sb, 0, none⟩)), (some 27, .bool rb), (some 28, .bool (!rb))] : List (Option Tmp × Value))) g), dd⟩ W) :
   (Code.region 2 ops true).wp Tryz.prog Q ⟨base, dd⟩ w9 := by
 have hmix := hmx
 have h2 := (show Tryz.f70.body.bind (regs 2) = some _ from rfl).symm.trans hops
 obtain rfl := Option.some.inj h2
 clear h2 hops
 have cK : ∀ (g : Unit) (W : World), W = w9.drew → Calls Tryz.prog 103 #[.pointer (some ⟨sb, 0, none⟩)] W fun e W' => ∃ x : Unit, e = .returned (.bool rb) ∧ Post W' := fun g W hW => by
   rw [hW]
   exact hc.mono fun e W' h => ⟨(), h.1, h.2⟩
 obtain ⟨LL, hLe⟩ : ∃ LL : Unit → List (Option Tmp × Value), LL = (fun _g : Unit => ([(some 17, .pointer (some ⟨gt, 0, none⟩)), (some 18, .pointer (some ⟨gt, 0, none⟩)), (some 19, .pointer (some ⟨gt, 1, none⟩)), (some 20, .slice (some ⟨g9, 0, none⟩) len cp), (some 21, .pointer (some ⟨gt, 0, none⟩)), (some 22, .pointer (some ⟨gt, 0, none⟩)), (some 23, .pointer (some ⟨gt, 2, none⟩)), (some 24, .int .i64 (k : Nat)), (some 25, .pointer (some ⟨g9, k, none⟩)), (some 26, .pointer (some ⟨sb, 0, none⟩)), (some 27, .bool rb), (some 28, .bool (!rb))] : List (Option Tmp × Value))) := ⟨_, rfl⟩
 have vv0 : ∀ g, vals (LL g) 0 = .pointer (some ⟨gt, 0, none⟩) := fun g => by rw [hLe]; rfl
 have vv1 : ∀ g, vals (LL g) 1 = .pointer (some ⟨gt, 0, none⟩) := fun g => by rw [hLe]; rfl
 have vv2 : ∀ g, vals (LL g) 2 = .pointer (some ⟨gt, 1, none⟩) := fun g => by rw [hLe]; rfl
 have vv3 : ∀ g, vals (LL g) 3 = .slice (some ⟨g9, 0, none⟩) len cp := fun g => by rw [hLe]; rfl
 have vv4 : ∀ g, vals (LL g) 4 = .pointer (some ⟨gt, 0, none⟩) := fun g => by rw [hLe]; rfl
 have vv5 : ∀ g, vals (LL g) 5 = .pointer (some ⟨gt, 0, none⟩) := fun g => by rw [hLe]; rfl
 have vv6 : ∀ g, vals (LL g) 6 = .pointer (some ⟨gt, 2, none⟩) := fun g => by rw [hLe]; rfl
 have vv7 : ∀ g, vals (LL g) 7 = .int .i64 (k : Nat) := fun g => by rw [hLe]; rfl
 have vv8 : ∀ g, vals (LL g) 8 = .pointer (some ⟨g9, k, none⟩) := fun g => by rw [hLe]; rfl
 have vv9 : ∀ g, vals (LL g) 9 = .pointer (some ⟨sb, 0, none⟩) := fun g => by rw [hLe]; rfl
 have vv10 : ∀ g, vals (LL g) 10 = .bool rb := fun g => by rw [hLe]; rfl
 have vv11 : ∀ g, vals (LL g) 11 = .bool (!rb) := fun g => by rw [hLe]; rfl
 refine region_laidg hmix (by kernel_rfl) 36 hsz (by kernel_rfl) () LL (fun g => by rw [hLe]; rfl) (fun (_g : Unit) (b : Nat → Bool) (W : World) => if b 10 = true then (Post W) else (W = w9.drew)) ?_ ?_ ?_
 · simp only [Bool.false_eq_true, if_false]
 · intro g b W io o a hS hcl ho hb hd ev kp yl
   have q10_9 : b 10 = true → b 9 = true := fun h => hcl 10 _ rfl h ⟨9, .data⟩ (by simp) rfl
   have q10_8 : b 10 = true → b 8 = true := fun h => hcl 9 _ rfl (q10_9 h) ⟨8, .data⟩ (by simp) rfl
   have q10_3 : b 10 = true → b 3 = true := fun h => hcl 8 _ rfl (q10_8 h) ⟨3, .data⟩ (by simp) rfl
   have q10_2 : b 10 = true → b 2 = true := fun h => hcl 3 _ rfl (q10_3 h) ⟨2, .data⟩ (by simp) rfl
   have q10_1 : b 10 = true → b 1 = true := fun h => hcl 2 _ rfl (q10_2 h) ⟨1, .data⟩ (by simp) rfl
   have q10_0 : b 10 = true → b 0 = true := fun h => hcl 1 _ rfl (q10_1 h) ⟨0, .data⟩ (by simp) rfl
   have q10_7 : b 10 = true → b 7 = true := fun h => hcl 8 _ rfl (q10_8 h) ⟨7, .data⟩ (by simp) rfl
   have q10_6 : b 10 = true → b 6 = true := fun h => hcl 7 _ rfl (q10_7 h) ⟨6, .data⟩ (by simp) rfl
   have q10_5 : b 10 = true → b 5 = true := fun h => hcl 6 _ rfl (q10_6 h) ⟨5, .data⟩ (by simp) rfl
   have q10_4 : b 10 = true → b 4 = true := fun h => hcl 5 _ rfl (q10_5 h) ⟨4, .data⟩ (by simp) rfl
   match io with
   | 0 =>
     simp only [qq] at ho; subst ho; have e0 := (kp 0 (none_till (by kernel_rfl))).trans b0; have n10 := nF q10_0 hb
     refine doesg_value rfl nofun (v := .pointer (some ⟨gt, 0, none⟩)) (w' := W) ?_ ⟨g, fun _ _ => rfl, (vv0 g).symm, by simpa [did] using hS⟩
     · simp [execOp, go_sem, e0]
   | 1 =>
     simp only [qq] at ho; subst ho; have e17 := eD ev hd 0 17 (vv0 g); have n10 := nF q10_1 hb
     refine doesg_value rfl nofun (v := .pointer (some ⟨gt, 0, none⟩)) (w' := W) ?_ ⟨g, fun _ _ => rfl, (vv1 g).symm, by simpa [did] using hS⟩
     · simp [execOp, go_sem, e17]
   | 2 =>
     simp only [qq] at ho; subst ho; have e18 := eD ev hd 1 18 (vv1 g); have n10 := nF q10_2 hb
     refine doesg_value rfl nofun (v := .pointer (some ⟨gt, 1, none⟩)) (w' := W) ?_ ⟨g, fun _ _ => rfl, (vv2 g).symm, by simpa [did] using hS⟩
     · simp [execOp, go_sem, e18]
   | 3 =>
     simp only [qq] at ho; subst ho; have e19 := eD ev hd 2 19 (vv2 g); have n10 := nF q10_3 hb; have hW : W = w9.drew := by simpa [n10] using hS
     have hl : W.cell? ⟨gt, 1, none⟩ = some (.slice (some ⟨g9, 0, none⟩) len cp) := by rw [hW]; exact g1
     refine doesg_value rfl nofun (v := .slice (some ⟨g9, 0, none⟩) len cp) (w' := W) ?_ ⟨g, fun _ _ => rfl, (vv3 g).symm, by simpa [did] using hS⟩
     · simp [execOp, go_sem, e19, hl]
   | 4 =>
     simp only [qq] at ho; subst ho; have e0 := (kp 0 (none_till (by kernel_rfl))).trans b0; have n10 := nF q10_4 hb
     refine doesg_value rfl nofun (v := .pointer (some ⟨gt, 0, none⟩)) (w' := W) ?_ ⟨g, fun _ _ => rfl, (vv4 g).symm, by simpa [did] using hS⟩
     · simp [execOp, go_sem, e0]
   | 5 =>
     simp only [qq] at ho; subst ho; have e21 := eD ev hd 4 21 (vv4 g); have n10 := nF q10_5 hb
     refine doesg_value rfl nofun (v := .pointer (some ⟨gt, 0, none⟩)) (w' := W) ?_ ⟨g, fun _ _ => rfl, (vv5 g).symm, by simpa [did] using hS⟩
     · simp [execOp, go_sem, e21]
   | 6 =>
     simp only [qq] at ho; subst ho; have e22 := eD ev hd 5 22 (vv5 g); have n10 := nF q10_6 hb
     refine doesg_value rfl nofun (v := .pointer (some ⟨gt, 2, none⟩)) (w' := W) ?_ ⟨g, fun _ _ => rfl, (vv6 g).symm, by simpa [did] using hS⟩
     · simp [execOp, go_sem, e22]
   | 7 =>
     simp only [qq] at ho; subst ho; have e23 := eD ev hd 6 23 (vv6 g); have n10 := nF q10_7 hb; have hW : W = w9.drew := by simpa [n10] using hS
     have hl : W.cell? ⟨gt, 2, none⟩ = some (.int .i64 (k : Nat)) := by rw [hW]; exact g2
     refine doesg_value rfl nofun (v := .int .i64 (k : Nat)) (w' := W) ?_ ⟨g, fun _ _ => rfl, (vv7 g).symm, by simpa [did] using hS⟩
     · simp [execOp, go_sem, e23, hl]
   | 8 =>
     simp only [qq] at ho; subst ho; have e20 := eD ev hd 3 20 (vv3 g); have e24 := eD ev hd 7 24 (vv7 g); have n10 := nF q10_8 hb
     refine doesg_value rfl nofun (v := .pointer (some ⟨g9, k, none⟩)) (w' := W) ?_ ⟨g, fun _ _ => rfl, (vv8 g).symm, by simpa [did] using hS⟩
     · simp [execOp, go_sem, e20, e24, hk]
   | 9 =>
     simp only [qq] at ho; subst ho; have e25 := eD ev hd 8 25 (vv8 g); have n10 := nF q10_9 hb; have hW : W = w9.drew := by simpa [n10] using hS
     have hl : W.cell? ⟨g9, k, none⟩ = some (.pointer (some ⟨sb, 0, none⟩)) := by rw [hW]; exact r0
     refine doesg_value rfl nofun (v := .pointer (some ⟨sb, 0, none⟩)) (w' := W) ?_ ⟨g, fun _ _ => rfl, (vv9 g).symm, by simpa [did] using hS⟩
     · simp [execOp, go_sem, e25, hl]
   | 10 =>
     simp only [qq] at ho; subst ho; have e26 := eD ev hd 9 26 (vv9 g); have hS9 : W = w9.drew := by simpa [hb] using hS
     refine doesg_call rfl nofun (f := 103) (args := #[.pointer (some ⟨sb, 0, none⟩)]) ?_ ?_
     · simp [go_sem, e26]
     · refine (cK g W hS9).mono ?_
       rintro e W' ⟨x, rfl, hP⟩
       refine ⟨_, rfl, g, ?_, (vv10 g).symm, ?_⟩
       · exact fun _ _ => rfl
       · simpa [did] using hP
   | 11 =>
     simp only [qq] at ho; subst ho; have e27 := eD ev hd 10 27 (vv10 g)
     refine doesg_value rfl nofun (v := .bool (!rb)) (w' := W) ?_ ⟨g, fun _ _ => rfl, (vv11 g).symm, by simpa [did] using hS⟩
     · simp [execOp, go_sem, e27]
   | k + 12 => simp at ho
 · intro g b W hS hall
   have hl9 : b 10 = true := hall 10 (by decide)
   subst hLe
   exact hQ g W (by simpa [hl9] using hS)
set_option maxRecDepth 8000 in
set_option maxHeartbeats 4000000 in
theorem catch_r3 {Q : Exit → Act → World → Prop} {base : Array Value} {dd : List Deferred} {ops : Array Oper} (hops : Tryz.f118.body.bind (regs 3) = some ops) (gt g9 len cp k sb : Nat) (rb : Bool) (Post : World → Prop) (w9 : World) (hsz : base.size = 47) (b0 : base.getD 0 undef = .pointer (some ⟨gt, 0, none⟩)) (hk : k < len)
   (g1 : w9.cell? ⟨gt, 1, none⟩ = some (.slice (some ⟨g9, 0, none⟩) len cp)) (g2 : w9.cell? ⟨gt, 2, none⟩ = some (.int .i64 (k : Nat))) (r0 : w9.cell? ⟨g9, k, none⟩ = some (.pointer (some ⟨sb, 0, none⟩))) (hc : Calls Tryz.prog 159 #[.pointer (some ⟨sb, 0, none⟩)] w9.drew fun e W' => e = .returned (.bool rb) ∧ Post W') (hQ : ∀ (g : Unit) (W : World), (Post W) → Q .normal ⟨putAll base ((fun _g : Unit => ([(some 21, .pointer (some ⟨gt, 0, none⟩)), (some 22, .pointer (some ⟨gt, 0, none⟩)), (some 23, .pointer (some ⟨gt, 1, none⟩)), (some 24, .slice (some ⟨g9, 0, none⟩) len cp), (some 25, .pointer (some ⟨gt, 0, none⟩)), (some 26, .pointer (some ⟨gt, 0, none⟩)), (some 27, .pointer (some ⟨gt, 2, none⟩)), (some 28, .int .i64 (k : Nat)), (some 29, .pointer (some ⟨g9, k, none⟩)), (some 30, .pointer (some ⟨sb, 0, none⟩)), (some 31, .bool rb), (some 32, .bool (!rb))] : List (Option Tmp × Value))) g), dd⟩ W) :
   (Code.region 3 ops true).wp Tryz.prog Q ⟨base, dd⟩ w9 := by
 have hmix := hmx
 have h2 := (show Tryz.f118.body.bind (regs 3) = some _ from rfl).symm.trans hops
 obtain rfl := Option.some.inj h2
 clear h2 hops
 have cK : ∀ (g : Unit) (W : World), W = w9.drew → Calls Tryz.prog 159 #[.pointer (some ⟨sb, 0, none⟩)] W fun e W' => ∃ x : Unit, e = .returned (.bool rb) ∧ Post W' := fun g W hW => by
   rw [hW]
   exact hc.mono fun e W' h => ⟨(), h.1, h.2⟩
 obtain ⟨LL, hLe⟩ : ∃ LL : Unit → List (Option Tmp × Value), LL = (fun _g : Unit => ([(some 21, .pointer (some ⟨gt, 0, none⟩)), (some 22, .pointer (some ⟨gt, 0, none⟩)), (some 23, .pointer (some ⟨gt, 1, none⟩)), (some 24, .slice (some ⟨g9, 0, none⟩) len cp), (some 25, .pointer (some ⟨gt, 0, none⟩)), (some 26, .pointer (some ⟨gt, 0, none⟩)), (some 27, .pointer (some ⟨gt, 2, none⟩)), (some 28, .int .i64 (k : Nat)), (some 29, .pointer (some ⟨g9, k, none⟩)), (some 30, .pointer (some ⟨sb, 0, none⟩)), (some 31, .bool rb), (some 32, .bool (!rb))] : List (Option Tmp × Value))) := ⟨_, rfl⟩
 have vv0 : ∀ g, vals (LL g) 0 = .pointer (some ⟨gt, 0, none⟩) := fun g => by rw [hLe]; rfl
 have vv1 : ∀ g, vals (LL g) 1 = .pointer (some ⟨gt, 0, none⟩) := fun g => by rw [hLe]; rfl
 have vv2 : ∀ g, vals (LL g) 2 = .pointer (some ⟨gt, 1, none⟩) := fun g => by rw [hLe]; rfl
 have vv3 : ∀ g, vals (LL g) 3 = .slice (some ⟨g9, 0, none⟩) len cp := fun g => by rw [hLe]; rfl
 have vv4 : ∀ g, vals (LL g) 4 = .pointer (some ⟨gt, 0, none⟩) := fun g => by rw [hLe]; rfl
 have vv5 : ∀ g, vals (LL g) 5 = .pointer (some ⟨gt, 0, none⟩) := fun g => by rw [hLe]; rfl
 have vv6 : ∀ g, vals (LL g) 6 = .pointer (some ⟨gt, 2, none⟩) := fun g => by rw [hLe]; rfl
 have vv7 : ∀ g, vals (LL g) 7 = .int .i64 (k : Nat) := fun g => by rw [hLe]; rfl
 have vv8 : ∀ g, vals (LL g) 8 = .pointer (some ⟨g9, k, none⟩) := fun g => by rw [hLe]; rfl
 have vv9 : ∀ g, vals (LL g) 9 = .pointer (some ⟨sb, 0, none⟩) := fun g => by rw [hLe]; rfl
 have vv10 : ∀ g, vals (LL g) 10 = .bool rb := fun g => by rw [hLe]; rfl
 have vv11 : ∀ g, vals (LL g) 11 = .bool (!rb) := fun g => by rw [hLe]; rfl
 refine region_laidg hmix (by kernel_rfl) 47 hsz (by kernel_rfl) () LL (fun g => by rw [hLe]; rfl) (fun (_g : Unit) (b : Nat → Bool) (W : World) => if b 10 = true then (Post W) else (W = w9.drew)) ?_ ?_ ?_
 · simp only [Bool.false_eq_true, if_false]
 · intro g b W io o a hS hcl ho hb hd ev kp yl
   have q10_9 : b 10 = true → b 9 = true := fun h => hcl 10 _ rfl h ⟨9, .data⟩ (by simp) rfl
   have q10_8 : b 10 = true → b 8 = true := fun h => hcl 9 _ rfl (q10_9 h) ⟨8, .data⟩ (by simp) rfl
   have q10_3 : b 10 = true → b 3 = true := fun h => hcl 8 _ rfl (q10_8 h) ⟨3, .data⟩ (by simp) rfl
   have q10_2 : b 10 = true → b 2 = true := fun h => hcl 3 _ rfl (q10_3 h) ⟨2, .data⟩ (by simp) rfl
   have q10_1 : b 10 = true → b 1 = true := fun h => hcl 2 _ rfl (q10_2 h) ⟨1, .data⟩ (by simp) rfl
   have q10_0 : b 10 = true → b 0 = true := fun h => hcl 1 _ rfl (q10_1 h) ⟨0, .data⟩ (by simp) rfl
   have q10_7 : b 10 = true → b 7 = true := fun h => hcl 8 _ rfl (q10_8 h) ⟨7, .data⟩ (by simp) rfl
   have q10_6 : b 10 = true → b 6 = true := fun h => hcl 7 _ rfl (q10_7 h) ⟨6, .data⟩ (by simp) rfl
   have q10_5 : b 10 = true → b 5 = true := fun h => hcl 6 _ rfl (q10_6 h) ⟨5, .data⟩ (by simp) rfl
   have q10_4 : b 10 = true → b 4 = true := fun h => hcl 5 _ rfl (q10_5 h) ⟨4, .data⟩ (by simp) rfl
   match io with
   | 0 =>
     simp only [qq] at ho; subst ho; have e0 := (kp 0 (none_till (by kernel_rfl))).trans b0; have n10 := nF q10_0 hb
     refine doesg_value rfl nofun (v := .pointer (some ⟨gt, 0, none⟩)) (w' := W) ?_ ⟨g, fun _ _ => rfl, (vv0 g).symm, by simpa [did] using hS⟩
     · simp [execOp, go_sem, e0]
   | 1 =>
     simp only [qq] at ho; subst ho; have e21 := eD ev hd 0 21 (vv0 g); have n10 := nF q10_1 hb
     refine doesg_value rfl nofun (v := .pointer (some ⟨gt, 0, none⟩)) (w' := W) ?_ ⟨g, fun _ _ => rfl, (vv1 g).symm, by simpa [did] using hS⟩
     · simp [execOp, go_sem, e21]
   | 2 =>
     simp only [qq] at ho; subst ho; have e22 := eD ev hd 1 22 (vv1 g); have n10 := nF q10_2 hb
     refine doesg_value rfl nofun (v := .pointer (some ⟨gt, 1, none⟩)) (w' := W) ?_ ⟨g, fun _ _ => rfl, (vv2 g).symm, by simpa [did] using hS⟩
     · simp [execOp, go_sem, e22]
   | 3 =>
     simp only [qq] at ho; subst ho; have e23 := eD ev hd 2 23 (vv2 g); have n10 := nF q10_3 hb; have hW : W = w9.drew := by simpa [n10] using hS
     have hl : W.cell? ⟨gt, 1, none⟩ = some (.slice (some ⟨g9, 0, none⟩) len cp) := by rw [hW]; exact g1
     refine doesg_value rfl nofun (v := .slice (some ⟨g9, 0, none⟩) len cp) (w' := W) ?_ ⟨g, fun _ _ => rfl, (vv3 g).symm, by simpa [did] using hS⟩
     · simp [execOp, go_sem, e23, hl]
   | 4 =>
     simp only [qq] at ho; subst ho; have e0 := (kp 0 (none_till (by kernel_rfl))).trans b0; have n10 := nF q10_4 hb
     refine doesg_value rfl nofun (v := .pointer (some ⟨gt, 0, none⟩)) (w' := W) ?_ ⟨g, fun _ _ => rfl, (vv4 g).symm, by simpa [did] using hS⟩
     · simp [execOp, go_sem, e0]
   | 5 =>
     simp only [qq] at ho; subst ho; have e25 := eD ev hd 4 25 (vv4 g); have n10 := nF q10_5 hb
     refine doesg_value rfl nofun (v := .pointer (some ⟨gt, 0, none⟩)) (w' := W) ?_ ⟨g, fun _ _ => rfl, (vv5 g).symm, by simpa [did] using hS⟩
     · simp [execOp, go_sem, e25]
   | 6 =>
     simp only [qq] at ho; subst ho; have e26 := eD ev hd 5 26 (vv5 g); have n10 := nF q10_6 hb
     refine doesg_value rfl nofun (v := .pointer (some ⟨gt, 2, none⟩)) (w' := W) ?_ ⟨g, fun _ _ => rfl, (vv6 g).symm, by simpa [did] using hS⟩
     · simp [execOp, go_sem, e26]
   | 7 =>
     simp only [qq] at ho; subst ho; have e27 := eD ev hd 6 27 (vv6 g); have n10 := nF q10_7 hb; have hW : W = w9.drew := by simpa [n10] using hS
     have hl : W.cell? ⟨gt, 2, none⟩ = some (.int .i64 (k : Nat)) := by rw [hW]; exact g2
     refine doesg_value rfl nofun (v := .int .i64 (k : Nat)) (w' := W) ?_ ⟨g, fun _ _ => rfl, (vv7 g).symm, by simpa [did] using hS⟩
     · simp [execOp, go_sem, e27, hl]
   | 8 =>
     simp only [qq] at ho; subst ho; have e24 := eD ev hd 3 24 (vv3 g); have e28 := eD ev hd 7 28 (vv7 g); have n10 := nF q10_8 hb
     refine doesg_value rfl nofun (v := .pointer (some ⟨g9, k, none⟩)) (w' := W) ?_ ⟨g, fun _ _ => rfl, (vv8 g).symm, by simpa [did] using hS⟩
     · simp [execOp, go_sem, e24, e28, hk]
   | 9 =>
     simp only [qq] at ho; subst ho; have e29 := eD ev hd 8 29 (vv8 g); have n10 := nF q10_9 hb; have hW : W = w9.drew := by simpa [n10] using hS
     have hl : W.cell? ⟨g9, k, none⟩ = some (.pointer (some ⟨sb, 0, none⟩)) := by rw [hW]; exact r0
     refine doesg_value rfl nofun (v := .pointer (some ⟨sb, 0, none⟩)) (w' := W) ?_ ⟨g, fun _ _ => rfl, (vv9 g).symm, by simpa [did] using hS⟩
     · simp [execOp, go_sem, e29, hl]
   | 10 =>
     simp only [qq] at ho; subst ho; have e30 := eD ev hd 9 30 (vv9 g); have hS9 : W = w9.drew := by simpa [hb] using hS
     refine doesg_call rfl nofun (f := 159) (args := #[.pointer (some ⟨sb, 0, none⟩)]) ?_ ?_
     · simp [go_sem, e30]
     · refine (cK g W hS9).mono ?_
       rintro e W' ⟨x, rfl, hP⟩
       refine ⟨_, rfl, g, ?_, (vv10 g).symm, ?_⟩
       · exact fun _ _ => rfl
       · simpa [did] using hP
   | 11 =>
     simp only [qq] at ho; subst ho; have e31 := eD ev hd 10 31 (vv10 g)
     refine doesg_value rfl nofun (v := .bool (!rb)) (w' := W) ?_ ⟨g, fun _ _ => rfl, (vv11 g).symm, by simpa [did] using hS⟩
     · simp [execOp, go_sem, e31]
   | k + 12 => simp at ho
 · intro g b W hS hall
   have hl9 : b 10 = true := hall 10 (by decide)
   subst hLe
   exact hQ g W (by simpa [hl9] using hS)
set_option maxRecDepth 8000 in
set_option maxHeartbeats 4000000 in
theorem catch_r2 {Q : Exit → Act → World → Prop} {base : Array Value} {dd : List Deferred} {ops : Array Oper} (hops : Tryz.f118.body.bind (regs 2) = some ops) (gt len cp k : Nat) (p : Option Addr) (w9 : World) (hsz : base.size = 47) (b0 : base.getD 0 undef = .pointer (some ⟨gt, 0, none⟩))
   (g1 : w9.cell? ⟨gt, 1, none⟩ = some (.slice p len cp)) (g2 : w9.cell? ⟨gt, 2, none⟩ = some (.int .i64 (k : Nat))) (hQ : ∀ W, Below w9.heap.size w9 W → Q .normal ⟨putAll base [(some 11, .pointer (some ⟨gt, 0, none⟩)), (some 12, .pointer (some ⟨gt, 0, none⟩)), (some 13, .pointer (some ⟨gt, 2, none⟩)), (some 14, .int .i64 (k : Nat)), (some 15, .pointer (some ⟨gt, 0, none⟩)), (some 16, .pointer (some ⟨gt, 0, none⟩)), (some 17, .pointer (some ⟨gt, 1, none⟩)), (some 18, .slice p len cp), (some 19, .int .i64 (len : Nat)), (some 20, .bool (decide ((k : Int) < (len : Int))))], dd⟩ W) :
   (Code.region 2 ops true).wp Tryz.prog Q ⟨base, dd⟩ w9 := by
 have hmix := hmx
 have h2 := (show Tryz.f118.body.bind (regs 2) = some _ from rfl).symm.trans hops
 obtain rfl := Option.some.inj h2
 clear h2 hops
 have below9 : Below w9.heap.size w9 w9.drew := (Below.refl _ _).drew
 obtain ⟨LL, hLe⟩ := qL hQ
 have vv0 : vals LL 0 = .pointer (some ⟨gt, 0, none⟩) := vL hLe rfl
 have vv1 : vals LL 1 = .pointer (some ⟨gt, 0, none⟩) := vL hLe rfl
 have vv2 : vals LL 2 = .pointer (some ⟨gt, 2, none⟩) := vL hLe rfl
 have vv3 : vals LL 3 = .int .i64 (k : Nat) := vL hLe rfl
 have vv4 : vals LL 4 = .pointer (some ⟨gt, 0, none⟩) := vL hLe rfl
 have vv5 : vals LL 5 = .pointer (some ⟨gt, 0, none⟩) := vL hLe rfl
 have vv6 : vals LL 6 = .pointer (some ⟨gt, 1, none⟩) := vL hLe rfl
 have vv7 : vals LL 7 = .slice p len cp := vL hLe rfl
 have vv8 : vals LL 8 = .int .i64 (len : Nat) := vL hLe rfl
 have vv9 : vals LL 9 = .bool (decide ((k : Int) < (len : Int))) := vL hLe rfl
 refine region_laid hmix (by kernel_rfl) 47 hsz (by kernel_rfl) LL (by rw [hLe]; rfl) (fun _ W => Below w9.heap.size w9 W) below9 ?_ ?_
 · intro b W i o a hS hcl ho hb hd ev kp yl
   match i with
   | 0 => simp only [qq] at ho; subst ho; have e0 := (kp 0 (by kernel_rfl)).trans b0; rw [vv0]; exact dV (by simp [execOp, go_sem, e0]) hS
   | 1 => simp only [qq] at ho; subst ho; have e11 := eD ev hd 0 11 vv0; rw [vv1]; exact dV (by simp [execOp, go_sem, e11]) hS
   | 2 => simp only [qq] at ho; subst ho; have e12 := eD ev hd 1 12 vv1; rw [vv2]; exact dV (by simp [execOp, go_sem, e12]) hS
   | 3 => simp only [qq] at ho; subst ho; have e13 := eD ev hd 2 13 vv2; have d2 := (hS.cell (p := ⟨gt, 2, none⟩) (cell_lt g2)).trans g2; rw [vv3]; exact dV (by simp [execOp, go_sem, e13, d2]) hS
   | 4 => simp only [qq] at ho; subst ho; have e0 := (kp 0 (by kernel_rfl)).trans b0; rw [vv4]; exact dV (by simp [execOp, go_sem, e0]) hS
   | 5 => simp only [qq] at ho; subst ho; have e15 := eD ev hd 4 15 vv4; rw [vv5]; exact dV (by simp [execOp, go_sem, e15]) hS
   | 6 => simp only [qq] at ho; subst ho; have e16 := eD ev hd 5 16 vv5; rw [vv6]; exact dV (by simp [execOp, go_sem, e16]) hS
   | 7 => simp only [qq] at ho; subst ho; have e17 := eD ev hd 6 17 vv6; have d1 := (hS.cell (p := ⟨gt, 1, none⟩) (cell_lt g1)).trans g1; rw [vv7]; exact dV (by simp [execOp, go_sem, e17, d1]) hS
   | 8 => simp only [qq] at ho; subst ho; have e18 := eD ev hd 7 18 vv7; rw [vv8]; exact dV (by simp [go_sem, e18]) hS
   | 9 => simp only [qq] at ho; subst ho; have e14 := eD ev hd 3 14 vv3; have e19 := eD ev hd 8 19 vv8; rw [vv9]; exact dV (by simp [execOp, go_sem, e14, e19]) hS
   | k + 10 => simp at ho
 · intro b' W hS _
   subst hLe
   exact hQ W hS
set_option maxRecDepth 8000 in
set_option maxHeartbeats 4000000 in
theorem look_r4 {Q : Exit → Act → World → Prop} {base : Array Value} {dd : List Deferred} {ops : Array Oper} (hops : Tryz.f81.body.bind (regs 4) = some ops) (gt bx mb : Nat) (t n : Int) (v : Value) (w9 : World) (hsz : base.size = 15) (b0 : base.getD 0 undef = .pointer (some ⟨gt, 0, none⟩)) (b3 : base.getD 3 undef = .pointer (some ⟨bx, 0, none⟩))
   (g0 : w9.cell? ⟨gt, 0, none⟩ = some (.map (some mb))) (x0 : w9.cell? ⟨bx, 0, none⟩ = some (.int .i64 t)) (x1 : w9.cell? ⟨bx, 1, none⟩ = some (.int .i64 n)) (hl : ∀ W, Below w9.heap.size w9 W → (Instr.lookup 71 (.map (some mb)) (idv t n) false).run Tryz.prog W = .ok (v) W) (hQ : ∀ W, Below w9.heap.size w9 W → Q .normal ⟨putAll base [(some 9, .pointer (some ⟨gt, 0, none⟩)), (some 10, .pointer (some ⟨gt, 0, none⟩)), (some 11, .pointer (some ⟨gt, 0, none⟩)), (some 12, .map (some mb)), (some 13, .agg #[.int .i64 t, .int .i64 n]), (some 14, v), (some 4, v)], dd⟩ W) :
   (Code.region 4 ops true).wp Tryz.prog Q ⟨base, dd⟩ w9 := by
 have hmix := hmx
 have h2 := (show Tryz.f81.body.bind (regs 4) = some _ from rfl).symm.trans hops
 obtain rfl := Option.some.inj h2
 clear h2 hops
 have below9 : Below w9.heap.size w9 w9.drew := (Below.refl _ _).drew
 obtain ⟨LL, hLe⟩ := qL hQ
 have vv0 : vals LL 0 = .pointer (some ⟨gt, 0, none⟩) := vL hLe rfl
 have vv1 : vals LL 1 = .pointer (some ⟨gt, 0, none⟩) := vL hLe rfl
 have vv2 : vals LL 2 = .pointer (some ⟨gt, 0, none⟩) := vL hLe rfl
 have vv3 : vals LL 3 = .map (some mb) := vL hLe rfl
 have vv4 : vals LL 4 = .agg #[.int .i64 t, .int .i64 n] := vL hLe rfl
 have vv5 : vals LL 5 = v := vL hLe rfl
 have vv6 : vals LL 6 = v := vL hLe rfl
 refine region_laid hmix (by kernel_rfl) 15 hsz (by kernel_rfl) LL (by rw [hLe]; rfl) (fun _ W => Below w9.heap.size w9 W) below9 ?_ ?_
 · intro b W i o a hS hcl ho hb hd ev kp yl
   match i with
   | 0 => simp only [qq] at ho; subst ho; have e0 := (kp 0 (by kernel_rfl)).trans b0; rw [vv0]; exact dV (by simp [execOp, go_sem, e0]) hS
   | 1 => simp only [qq] at ho; subst ho; have e9 := eD ev hd 0 9 vv0; rw [vv1]; exact dV (by simp [execOp, go_sem, e9]) hS
   | 2 => simp only [qq] at ho; subst ho; have e10 := eD ev hd 1 10 vv1; rw [vv2]; exact dV (by simp [execOp, go_sem, e10]) hS
   | 3 => simp only [qq] at ho; subst ho; have e11 := eD ev hd 2 11 vv2; have d0 := (hS.cell (p := ⟨gt, 0, none⟩) (cell_lt g0)).trans g0; rw [vv3]; exact dV (by simp [execOp, go_sem, e11, d0]) hS
   | 4 => simp only [qq] at ho; subst ho; have e3 := (kp 3 (by kernel_rfl)).trans b3; have d0 := (hS.cell (p := ⟨bx, 0, none⟩) (cell_lt x0)).trans x0; have d1 := (hS.cell (p := ⟨bx, 1, none⟩) (cell_lt x1)).trans x1; rw [vv4]; exact dV (by simp [execOp, go_sem, e3, d0, d1]) hS
   | 5 => simp only [qq] at ho; subst ho; have e12 := eD ev hd 3 12 vv3; have e13 := eD ev hd 4 13 vv4; rw [vv5]; exact dV (by simp [execOp, go_sem, e12, e13, hl W hS]) hS
   | 6 => simp only [qq] at ho; subst ho; have e14 := eD ev hd 5 14 vv5; rw [vv6]; exact dV (by simp [execOp, go_sem, e14]) hS
   | k + 7 => simp at ho
 · intro b' W hS _
   subst hLe
   exact hQ W hS
set_option maxRecDepth 8000 in
set_option maxHeartbeats 4000000 in
theorem apply_r3 {Q : Exit → Act → World → Prop} {base : Array Value} {dd : List Deferred} {ops : Array Oper} (hops : Tryz.f27.body.bind (regs 3) = some ops) (gt bx len cp i0 : Nat) (r0 : Bool) (p : Option Addr) (t n : Int) (w9 : World) (hsz : base.size = 51) (b0 : base.getD 0 undef = .pointer (some ⟨gt, 0, none⟩)) (b3 : base.getD 3 undef = .pointer (some ⟨bx, 0, none⟩))
   (g1 : w9.cell? ⟨gt, 1, none⟩ = some (.slice p len cp)) (x0 : w9.cell? ⟨bx, 0, none⟩ = some (.int .i64 t)) (x1 : w9.cell? ⟨bx, 1, none⟩ = some (.int .i64 n)) (cK : ∀ W, Below w9.heap.size w9 W → Calls Tryz.prog 68 #[.slice p len cp, idv t n, .func (.func 69) #[] #[]] W fun e w' => e = .returned (.tuple #[.int .i64 (i0 : Nat), .bool r0]) ∧ Below W.heap.size W w') (hQ : ∀ W, Below w9.heap.size w9 W → Q .normal ⟨putAll base [(some 17, .pointer (some ⟨gt, 0, none⟩)), (some 18, .pointer (some ⟨gt, 0, none⟩)), (some 19, .pointer (some ⟨gt, 1, none⟩)), (some 20, .slice p len cp), (some 21, .pointer (some ⟨bx, 0, none⟩)), (some 22, .agg #[.int .i64 t, .int .i64 n]), (some 23, .tuple #[.int .i64 (i0 : Nat), .bool r0]), (some 16, .tuple #[.int .i64 (i0 : Nat), .bool r0]), (some 24, .int .i64 (i0 : Nat)), (some 25, .bool r0), (some 6, .int .i64 (i0 : Nat)), (some 7, .bool r0)], dd⟩ W) :
   (Code.region 3 ops true).wp Tryz.prog Q ⟨base, dd⟩ w9 := by
 have hmix := hmx
 have h2 := (show Tryz.f27.body.bind (regs 3) = some _ from rfl).symm.trans hops
 obtain rfl := Option.some.inj h2
 clear h2 hops
 have below9 : Below w9.heap.size w9 w9.drew := (Below.refl _ _).drew
 obtain ⟨LL, hLe⟩ := qL hQ
 have vv0 : vals LL 0 = .pointer (some ⟨gt, 0, none⟩) := vL hLe rfl
 have vv1 : vals LL 1 = .pointer (some ⟨gt, 0, none⟩) := vL hLe rfl
 have vv2 : vals LL 2 = .pointer (some ⟨gt, 1, none⟩) := vL hLe rfl
 have vv3 : vals LL 3 = .slice p len cp := vL hLe rfl
 have vv4 : vals LL 4 = .pointer (some ⟨bx, 0, none⟩) := vL hLe rfl
 have vv5 : vals LL 5 = .agg #[.int .i64 t, .int .i64 n] := vL hLe rfl
 have vv6 : vals LL 6 = .tuple #[.int .i64 (i0 : Nat), .bool r0] := vL hLe rfl
 have vv7 : vals LL 7 = .tuple #[.int .i64 (i0 : Nat), .bool r0] := vL hLe rfl
 have vv8 : vals LL 8 = .int .i64 (i0 : Nat) := vL hLe rfl
 have vv9 : vals LL 9 = .bool r0 := vL hLe rfl
 have vv10 : vals LL 10 = .int .i64 (i0 : Nat) := vL hLe rfl
 have vv11 : vals LL 11 = .bool r0 := vL hLe rfl
 refine region_laid hmix (by kernel_rfl) 51 hsz (by kernel_rfl) LL (by rw [hLe]; rfl) (fun _ W => Below w9.heap.size w9 W) below9 ?_ ?_
 · intro b W i o a hS hcl ho hb hd ev kp yl
   match i with
   | 0 => simp only [qq] at ho; subst ho; have e0 := (kp 0 (by kernel_rfl)).trans b0; rw [vv0]; exact dV (by simp [execOp, go_sem, e0]) hS
   | 1 => simp only [qq] at ho; subst ho; have e17 := eD ev hd 0 17 vv0; rw [vv1]; exact dV (by simp [execOp, go_sem, e17]) hS
   | 2 => simp only [qq] at ho; subst ho; have e18 := eD ev hd 1 18 vv1; rw [vv2]; exact dV (by simp [execOp, go_sem, e18]) hS
   | 3 => simp only [qq] at ho; subst ho; have e19 := eD ev hd 2 19 vv2; have d1 := (hS.cell (p := ⟨gt, 1, none⟩) (cell_lt g1)).trans g1; rw [vv3]; exact dV (by simp [execOp, go_sem, e19, d1]) hS
   | 4 => simp only [qq] at ho; subst ho; have e3 := (kp 3 (by kernel_rfl)).trans b3; rw [vv4]; exact dV (by simp [execOp, go_sem, e3]) hS
   | 5 => simp only [qq] at ho; subst ho; have e21 := eD ev hd 4 21 vv4; have d0 := (hS.cell (p := ⟨bx, 0, none⟩) (cell_lt x0)).trans x0; have d1 := (hS.cell (p := ⟨bx, 1, none⟩) (cell_lt x1)).trans x1; rw [vv5]; exact dV (by simp [execOp, go_sem, e21, d0, d1]) hS
   | 6 =>
     simp only [qq] at ho; subst ho; have e20 := eD ev hd 3 20 vv3; have e22 := eD ev hd 5 22 vv5; rw [vv6]
     refine does_call rfl nofun (f := 68) (args := #[.slice p len cp, .agg #[.int .i64 t, .int .i64 n], .func (.func 69) #[] #[]]) ?_ ?_
     · simp [go_sem, e20, e22]
     · exact (cK W hS).mono (fun e w' h => ⟨h.1, hS.trans (h.2.mono hS.size)⟩)
   | 7 => simp only [qq] at ho; subst ho; have e23 := eD ev hd 6 23 vv6; rw [vv7]; exact dV (by simp [execOp, go_sem, e23]) hS
   | 8 => simp only [qq] at ho; subst ho; have e16 := eD ev hd 7 16 vv7; rw [vv8]; exact dV (by simp [execOp, go_sem, e16]) hS
   | 9 => simp only [qq] at ho; subst ho; have e16 := eD ev hd 7 16 vv7; rw [vv9]; exact dV (by simp [execOp, go_sem, e16]) hS
   | 10 => simp only [qq] at ho; subst ho; have e24 := eD ev hd 8 24 vv8; rw [vv10]; exact dV (by simp [execOp, go_sem, e24]) hS
   | 11 => simp only [qq] at ho; subst ho; have e25 := eD ev hd 9 25 vv9; rw [vv11]; exact dV (by simp [execOp, go_sem, e25]) hS
   | k + 12 => simp at ho
 · intro b' W hS _
   subst hLe
   exact hQ W hS
end Go.Proofs.YthhakekbffembaaGreatDoor.Ck.Y
