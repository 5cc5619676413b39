import Derived.Test.YtgpbphjplbhfmaaGreatKPta
import Derived.Test.YtgpbphjplbhfmaaGreatKRgh

namespace Go.Proofs.YtgpbphjplbhfmaaGreat.Ck.Y.S
open Go.RowKit Go.Lib Go.Maps
attribute [local go_sem] Oper.semAt_some
set_option maxRecDepth 8000 in
set_option maxHeartbeats 4000000 in
theorem sm2 {Q : Exit → Act → World → Prop} {base : Array Value} {dd : List Deferred} {ops : Array Oper} (hops : Tryz.f10.body.bind (regs 2) = some ops) (J : World → Prop) (gt gy N s cy : Nat) (py : Option Addr) (w9 : World) (hsz : base.size = 238) (b0 : base.getD 0 undef = .pointer (some ⟨gt, 0, none⟩)) (b5 : base.getD 5 undef = .pointer (some ⟨gy, 0, none⟩)) (hJ0 : (J) w9.drew) (hy0 : ∀ W, J W → W.cell? ⟨gy, 0, none⟩ = some (.slice py N cy)) (hy1 : ∀ W, J W → W.cell? ⟨gy, 1, none⟩ = some (.int .i64 (s : Nat))) (cL : ∀ W, (J) W → Calls Tryz.prog 15 #[.pointer (some ⟨gt, 0, none⟩)] W fun e w' => e = .returned (.int .i64 (N : Nat)) ∧ (J) w') (cS : ∀ W, (J) W → Calls Tryz.prog 19 #[.pointer (some ⟨gt, 0, none⟩)] W fun e w' => e = .returned (.int .i64 (s : Nat)) ∧ (J) w') (hQ : ∀ W, (J) W → Q .normal ⟨putAll base [(some 19, .pointer (some ⟨gt, 0, none⟩)), (some 20, .int .i64 (N : Nat)), (some 21, .pointer (some ⟨gy, 0, none⟩)), (some 22, .pointer (some ⟨gy, 0, none⟩)), (some 23, .pointer (some ⟨gy, 0, none⟩)), (some 24, .slice py N cy), (some 25, .int .i64 (N : Nat)), (some 26, .bool false), (some 27, .bool false), (some 28, .pointer (some ⟨gt, 0, none⟩)), (some 29, .int .i64 (s : Nat)), (some 30, .pointer (some ⟨gy, 0, none⟩)), (some 31, .pointer (some ⟨gy, 0, none⟩)), (some 32, .pointer (some ⟨gy, 1, none⟩)), (some 33, .int .i64 (s : Nat)), (some 34, .bool false), (some 35, .bool false)], dd⟩ W) :
    (Code.region 2 ops true).wp Tryz.prog Q ⟨base, dd⟩ w9 := by
  have hmix : Tryz.prog.follows .mixedOrders = true := by kernel_rfl
  have h2 := (show Tryz.f10.body.bind (regs 2) = some _ from rfl).symm.trans hops
  obtain rfl := Option.some.inj h2
  clear h2 hops
  obtain ⟨LL, hLe⟩ : ∃ LL : List (Option Tmp × Option Value), LL = [(some 19, some (.pointer (some ⟨gt, 0, none⟩))), (some 20, some (.int .i64 (N : Nat))), (some 21, some (.pointer (some ⟨gy, 0, none⟩))), (some 22, some (.pointer (some ⟨gy, 0, none⟩))), (some 23, some (.pointer (some ⟨gy, 0, none⟩))), (some 24, some (.slice py N cy)), (some 25, some (.int .i64 (N : Nat))), (some 26, some (.bool false)), (some 27, some (.bool false)), (some 28, some (.pointer (some ⟨gt, 0, none⟩))), (some 29, some (.int .i64 (s : Nat))), (some 30, some (.pointer (some ⟨gy, 0, none⟩))), (some 31, some (.pointer (some ⟨gy, 0, none⟩))), (some 32, some (.pointer (some ⟨gy, 1, none⟩))), (some 33, some (.int .i64 (s : Nat))), (some 34, some (.bool false)), (some 35, some (.bool false))] := ⟨_, rfl⟩
  have tv0 : tv LL 0 = some (.pointer (some ⟨gt, 0, none⟩)) := by rw [hLe]; rfl
  have tv1 : tv LL 1 = some (.int .i64 (N : Nat)) := by rw [hLe]; rfl
  have tv2 : tv LL 2 = some (.pointer (some ⟨gy, 0, none⟩)) := by rw [hLe]; rfl
  have tv3 : tv LL 3 = some (.pointer (some ⟨gy, 0, none⟩)) := by rw [hLe]; rfl
  have tv4 : tv LL 4 = some (.pointer (some ⟨gy, 0, none⟩)) := by rw [hLe]; rfl
  have tv5 : tv LL 5 = some (.slice py N cy) := by rw [hLe]; rfl
  have tv6 : tv LL 6 = some (.int .i64 (N : Nat)) := by rw [hLe]; rfl
  have tv7 : tv LL 7 = some (.bool false) := by rw [hLe]; rfl
  have tv8 : tv LL 8 = some (.bool false) := by rw [hLe]; rfl
  have tv9 : tv LL 9 = some (.pointer (some ⟨gt, 0, none⟩)) := by rw [hLe]; rfl
  have tv10 : tv LL 10 = some (.int .i64 (s : Nat)) := by rw [hLe]; rfl
  have tv11 : tv LL 11 = some (.pointer (some ⟨gy, 0, none⟩)) := by rw [hLe]; rfl
  have tv12 : tv LL 12 = some (.pointer (some ⟨gy, 0, none⟩)) := by rw [hLe]; rfl
  have tv13 : tv LL 13 = some (.pointer (some ⟨gy, 1, none⟩)) := by rw [hLe]; rfl
  have tv14 : tv LL 14 = some (.int .i64 (s : Nat)) := by rw [hLe]; rfl
  have tv15 : tv LL 15 = some (.bool false) := by rw [hLe]; rfl
  have tv16 : tv LL 16 = some (.bool false) := by rw [hLe]; rfl
  refine region_gj hmix (by kernel_rfl) 238 hsz (by kernel_rfl) LL (by rw [hLe]; rfl) (J) ((fun (_ _ : World) => True)) hJ0 (fun i v W => True) ?_ ?_ ?_
  · intro i v W W' h hb
    exact trivial
  · intro g b W io o a hS hF hcl ho hb hd ev kp yl
    match io with
    | 0 => simp only [qq] at ho; subst ho; rw [tv0]; have e0 := (kp 0 (none_till (by kernel_rfl))).trans b0; exact dV (by simp [execOp, go_sem, e0]) ⟨hS, trivial⟩
    | 1 =>
      simp only [qq] at ho; subst ho; rw [tv1]; have e19 := eT ev hd 0 19 tv0
      refine does_call rfl nofun (f := 15) (args := #[.pointer (some ⟨gt, 0, none⟩)]) ?_ ?_
      · simp [go_sem, e19]
      · exact (cL W hS ).mono fun e w' h => ⟨h.1, h.2, trivial⟩
    | 2 => simp only [qq] at ho; subst ho; rw [tv2]; have e5 := (kp 5 (none_till (by kernel_rfl))).trans b5; exact dV (by simp [execOp, go_sem, e5]) ⟨hS, trivial⟩
    | 3 => simp only [qq] at ho; subst ho; rw [tv3]; have e21 := eT ev hd 2 21 tv2; exact dV (by simp [execOp, go_sem, e21]) ⟨hS, trivial⟩
    | 4 => simp only [qq] at ho; subst ho; rw [tv4]; have e22 := eT ev hd 3 22 tv3; exact dV (by simp [execOp, go_sem, e22]) ⟨hS, trivial⟩
    | 5 => simp only [qq] at ho; subst ho; rw [tv5]; have e23 := eT ev hd 4 23 tv4; have d9_0 := hy0 W hS; exact dV (by simp [execOp, go_sem, e23, d9_0]) ⟨hS, trivial⟩
    | 6 => simp only [qq] at ho; subst ho; rw [tv6]; have e24 := eT ev hd 5 24 tv5; exact dV (by simp [go_sem, e24]) ⟨hS, trivial⟩
    | 7 => simp only [qq] at ho; subst ho; rw [tv7]; have e20 := eT ev hd 1 20 tv1; have e25 := eT ev hd 6 25 tv6; exact dV (by simp [execOp, go_sem, e20, e25]) ⟨hS, trivial⟩
    | 8 => simp only [qq] at ho; subst ho; rw [tv8]; have e26 := eT ev hd 7 26 tv7; exact dV (by simp [execOp, go_sem, e26]) ⟨hS, trivial⟩
    | 9 => simp only [qq] at ho; subst ho; rw [tv9]; have e0 := (kp 0 (none_till (by kernel_rfl))).trans b0; exact dG (yl 8 27 false rfl (hG hd 8) tv8) (by simp [execOp, go_sem, e0]) ⟨hS, trivial⟩
    | 10 =>
      simp only [qq] at ho; subst ho; rw [tv10]; have e28 := eT ev hd 9 28 tv9
      refine does_call_g rfl (yl 8 27 false rfl (hG hd 8) tv8) nofun (f := 19) (args := #[.pointer (some ⟨gt, 0, none⟩)]) ?_ ?_
      · simp [go_sem, e28]
      · exact (cS W hS ).mono fun e w' h => ⟨h.1, h.2, trivial⟩
    | 11 => simp only [qq] at ho; subst ho; rw [tv11]; have e5 := (kp 5 (none_till (by kernel_rfl))).trans b5; exact dG (yl 8 27 false rfl (hG hd 8) tv8) (by simp [execOp, go_sem, e5]) ⟨hS, trivial⟩
    | 12 => simp only [qq] at ho; subst ho; rw [tv12]; have e30 := eT ev hd 11 30 tv11; exact dG (yl 8 27 false rfl (hG hd 8) tv8) (by simp [execOp, go_sem, e30]) ⟨hS, trivial⟩
    | 13 => simp only [qq] at ho; subst ho; rw [tv13]; have e31 := eT ev hd 12 31 tv12; exact dG (yl 8 27 false rfl (hG hd 8) tv8) (by simp [execOp, go_sem, e31]) ⟨hS, trivial⟩
    | 14 => simp only [qq] at ho; subst ho; rw [tv14]; have e32 := eT ev hd 13 32 tv13; have d9_0 := hy1 W hS; exact dG (yl 8 27 false rfl (hG hd 8) tv8) (by simp [execOp, go_sem, e32, d9_0]) ⟨hS, trivial⟩
    | 15 => simp only [qq] at ho; subst ho; rw [tv15]; have e29 := eT ev hd 10 29 tv10; have e33 := eT ev hd 14 33 tv14; exact dG (yl 8 27 false rfl (hG hd 8) tv8) (by simp [execOp, go_sem, e29, e33]) ⟨hS, trivial⟩
    | 16 => simp only [qq] at ho; subst ho; rw [tv16]; have e27 := eT ev hd 8 27 tv8; have e34 := eT ev hd 15 34 tv15; exact dV (by simp [execOp, go_sem, e27, e34]) ⟨hS, trivial⟩
    | k + 17 => simp at ho
  · intro g W hS hF
    subst hLe
    exact hQ  W hS 
set_option maxRecDepth 8000 in
set_option maxHeartbeats 4000000 in
theorem sm10a {Q : Exit → Act → World → Prop} {base : Array Value} {dd : List Deferred} {ops : Array Oper} (hops : Tryz.f10.body.bind (regs 10) = some ops) (J : World → Prop) (gy gl N cy K pb : Nat) (p1 p2 : Int) (nm : ByteArray) (w9 : World) (hsz : base.size = 238) (b5 : base.getD 5 undef = .pointer (some ⟨gy, 0, none⟩)) (b8 : base.getD 8 undef = .int .i64 (K : Nat)) (b9 : base.getD 9 undef = .pointer (some ⟨pb, 0, none⟩)) (b10 : base.getD 10 undef = .string nm) (b11 : base.getD 11 undef = .bool true) (hJ0 : (J) w9.drew) (hK : K < N) (hy0 : ∀ W, J W → W.cell? ⟨gy, 0, none⟩ = some (.slice (some ⟨gl, 0, none⟩) N cy)) (hp0 : ∀ W, J W → W.cell? ⟨pb, 0, none⟩ = some (.int .i64 p1)) (hp1 : ∀ W, J W → W.cell? ⟨pb, 1, none⟩ = some (.int .i64 p2)) (ho2 : ∀ W, J W → W.cell? ⟨gl, K * 6 + 2, none⟩ = some (.int .i64 p1)) (ho3 : ∀ W, J W → W.cell? ⟨gl, K * 6 + 3, none⟩ = some (.int .i64 p2)) (ho4 : ∀ W, J W → W.cell? ⟨gl, K * 6 + 4, none⟩ = some (.string nm)) (cS : ∀ W, (J) W → Calls Tryz.prog 12 #[.agg #[.int .i64 p1, .int .i64 p2], .agg #[.int .i64 p1, .int .i64 p2]] W fun e w' => e = .returned (.bool true) ∧ (J) w') (hQ : ∀ W, (J) W → Q .normal ⟨putAll base [(some 60, .bool true), (some 61, .int .i64 (K : Nat)), (some 62, .bool true), (some 63, .bool false), (some 64, .bool false), (some 65, .bool true), (some 66, .bool true), (some 67, .agg #[.int .i64 p1, .int .i64 p2]), (some 68, .pointer (some ⟨gy, 0, none⟩)), (some 69, .pointer (some ⟨gy, 0, none⟩)), (some 70, .pointer (some ⟨gy, 0, none⟩)), (some 71, .slice (some ⟨gl, 0, none⟩) N cy), (some 72, .int .i64 (K : Nat)), (some 73, .pointer (some ⟨gl, K * 6, none⟩)), (some 74, .pointer (some ⟨gl, K * 6 + 2, none⟩)), (some 75, .agg #[.int .i64 p1, .int .i64 p2]), (some 76, .bool true), (some 77, .bool false), (some 78, .bool false), (some 79, .string nm), (some 80, .pointer (some ⟨gy, 0, none⟩)), (some 81, .pointer (some ⟨gy, 0, none⟩)), (some 82, .pointer (some ⟨gy, 0, none⟩)), (some 83, .slice (some ⟨gl, 0, none⟩) N cy), (some 84, .int .i64 (K : Nat)), (some 85, .pointer (some ⟨gl, K * 6, none⟩)), (some 86, .pointer (some ⟨gl, K * 6 + 4, none⟩)), (some 87, .string nm), (some 88, .bool false), (some 89, .bool false), (some 90, .bool false), (some 91, .bool false), (some 92, .bool false), (some 93, .bool true), (some 94, .bool false), (some 95, .bool false), (some 96, undef), (some 97, undef), (some 98, undef), (some 99, undef), (some 100, undef), (some 101, undef), (some 102, undef), (some 103, undef), (some 104, undef), (some 105, undef), (some 106, undef), (some 107, undef), (some 108, .bool false), (some 109, .bool false)], dd⟩ W) :
    (Code.region 10 ops true).wp Tryz.prog Q ⟨base, dd⟩ w9 := by
  have hmix : Tryz.prog.follows .mixedOrders = true := by kernel_rfl
  have h2 := (show Tryz.f10.body.bind (regs 10) = some _ from rfl).symm.trans hops
  obtain rfl := Option.some.inj h2
  clear h2 hops
  obtain ⟨LL, hLe⟩ : ∃ LL : List (Option Tmp × Option Value), LL = [(some 60, some (.bool true)), (some 61, some (.int .i64 (K : Nat))), (some 62, some (.bool true)), (some 63, some (.bool false)), (some 64, some (.bool false)), (some 65, some (.bool true)), (some 66, some (.bool true)), (some 67, some (.agg #[.int .i64 p1, .int .i64 p2])), (some 68, some (.pointer (some ⟨gy, 0, none⟩))), (some 69, some (.pointer (some ⟨gy, 0, none⟩))), (some 70, some (.pointer (some ⟨gy, 0, none⟩))), (some 71, some (.slice (some ⟨gl, 0, none⟩) N cy)), (some 72, some (.int .i64 (K : Nat))), (some 73, some (.pointer (some ⟨gl, K * 6, none⟩))), (some 74, some (.pointer (some ⟨gl, K * 6 + 2, none⟩))), (some 75, some (.agg #[.int .i64 p1, .int .i64 p2])), (some 76, some (.bool true)), (some 77, some (.bool false)), (some 78, some (.bool false)), (some 79, some (.string nm)), (some 80, some (.pointer (some ⟨gy, 0, none⟩))), (some 81, some (.pointer (some ⟨gy, 0, none⟩))), (some 82, some (.pointer (some ⟨gy, 0, none⟩))), (some 83, some (.slice (some ⟨gl, 0, none⟩) N cy)), (some 84, some (.int .i64 (K : Nat))), (some 85, some (.pointer (some ⟨gl, K * 6, none⟩))), (some 86, some (.pointer (some ⟨gl, K * 6 + 4, none⟩))), (some 87, some (.string nm)), (some 88, some (.bool false)), (some 89, some (.bool false)), (some 90, some (.bool false)), (some 91, some (.bool false)), (some 92, some (.bool false)), (some 93, some (.bool true)), (some 94, some (.bool false)), (some 95, some (.bool false)), (some 96, some (undef)), (some 97, some (undef)), (some 98, some (undef)), (some 99, some (undef)), (some 100, some (undef)), (some 101, some (undef)), (some 102, some (undef)), (some 103, some (undef)), (some 104, some (undef)), (some 105, some (undef)), (some 106, some (undef)), (some 107, some (undef)), (some 108, some (.bool false)), (some 109, some (.bool false))] := ⟨_, rfl⟩
  have tv0 : tv LL 0 = some (.bool true) := by rw [hLe]; rfl
  have tv1 : tv LL 1 = some (.int .i64 (K : Nat)) := by rw [hLe]; rfl
  have tv2 : tv LL 2 = some (.bool true) := by rw [hLe]; rfl
  have tv3 : tv LL 3 = some (.bool false) := by rw [hLe]; rfl
  have tv4 : tv LL 4 = some (.bool false) := by rw [hLe]; rfl
  have tv5 : tv LL 5 = some (.bool true) := by rw [hLe]; rfl
  have tv6 : tv LL 6 = some (.bool true) := by rw [hLe]; rfl
  have tv7 : tv LL 7 = some (.agg #[.int .i64 p1, .int .i64 p2]) := by rw [hLe]; rfl
  have tv8 : tv LL 8 = some (.pointer (some ⟨gy, 0, none⟩)) := by rw [hLe]; rfl
  have tv9 : tv LL 9 = some (.pointer (some ⟨gy, 0, none⟩)) := by rw [hLe]; rfl
  have tv10 : tv LL 10 = some (.pointer (some ⟨gy, 0, none⟩)) := by rw [hLe]; rfl
  have tv11 : tv LL 11 = some (.slice (some ⟨gl, 0, none⟩) N cy) := by rw [hLe]; rfl
  have tv12 : tv LL 12 = some (.int .i64 (K : Nat)) := by rw [hLe]; rfl
  have tv13 : tv LL 13 = some (.pointer (some ⟨gl, K * 6, none⟩)) := by rw [hLe]; rfl
  have tv14 : tv LL 14 = some (.pointer (some ⟨gl, K * 6 + 2, none⟩)) := by rw [hLe]; rfl
  have tv15 : tv LL 15 = some (.agg #[.int .i64 p1, .int .i64 p2]) := by rw [hLe]; rfl
  have tv16 : tv LL 16 = some (.bool true) := by rw [hLe]; rfl
  have tv17 : tv LL 17 = some (.bool false) := by rw [hLe]; rfl
  have tv18 : tv LL 18 = some (.bool false) := by rw [hLe]; rfl
  have tv19 : tv LL 19 = some (.string nm) := by rw [hLe]; rfl
  have tv20 : tv LL 20 = some (.pointer (some ⟨gy, 0, none⟩)) := by rw [hLe]; rfl
  have tv21 : tv LL 21 = some (.pointer (some ⟨gy, 0, none⟩)) := by rw [hLe]; rfl
  have tv22 : tv LL 22 = some (.pointer (some ⟨gy, 0, none⟩)) := by rw [hLe]; rfl
  have tv23 : tv LL 23 = some (.slice (some ⟨gl, 0, none⟩) N cy) := by rw [hLe]; rfl
  have tv24 : tv LL 24 = some (.int .i64 (K : Nat)) := by rw [hLe]; rfl
  have tv25 : tv LL 25 = some (.pointer (some ⟨gl, K * 6, none⟩)) := by rw [hLe]; rfl
  have tv26 : tv LL 26 = some (.pointer (some ⟨gl, K * 6 + 4, none⟩)) := by rw [hLe]; rfl
  have tv27 : tv LL 27 = some (.string nm) := by rw [hLe]; rfl
  have tv28 : tv LL 28 = some (.bool false) := by rw [hLe]; rfl
  have tv29 : tv LL 29 = some (.bool false) := by rw [hLe]; rfl
  have tv30 : tv LL 30 = some (.bool false) := by rw [hLe]; rfl
  have tv31 : tv LL 31 = some (.bool false) := by rw [hLe]; rfl
  have tv32 : tv LL 32 = some (.bool false) := by rw [hLe]; rfl
  have tv33 : tv LL 33 = some (.bool true) := by rw [hLe]; rfl
  have tv34 : tv LL 34 = some (.bool false) := by rw [hLe]; rfl
  have tv35 : tv LL 35 = some (.bool false) := by rw [hLe]; rfl
  have tv36 : tv LL 36 = some (undef) := by rw [hLe]; rfl
  have tv37 : tv LL 37 = some (undef) := by rw [hLe]; rfl
  have tv38 : tv LL 38 = some (undef) := by rw [hLe]; rfl
  have tv39 : tv LL 39 = some (undef) := by rw [hLe]; rfl
  have tv40 : tv LL 40 = some (undef) := by rw [hLe]; rfl
  have tv41 : tv LL 41 = some (undef) := by rw [hLe]; rfl
  have tv42 : tv LL 42 = some (undef) := by rw [hLe]; rfl
  have tv43 : tv LL 43 = some (undef) := by rw [hLe]; rfl
  have tv44 : tv LL 44 = some (undef) := by rw [hLe]; rfl
  have tv45 : tv LL 45 = some (undef) := by rw [hLe]; rfl
  have tv46 : tv LL 46 = some (undef) := by rw [hLe]; rfl
  have tv47 : tv LL 47 = some (undef) := by rw [hLe]; rfl
  have tv48 : tv LL 48 = some (.bool false) := by rw [hLe]; rfl
  have tv49 : tv LL 49 = some (.bool false) := by rw [hLe]; rfl
  refine region_gj hmix (by kernel_rfl) 238 hsz (by kernel_rfl) LL (by rw [hLe]; rfl) (J) ((fun (_ _ : World) => True)) hJ0 (fun i v W => True) ?_ ?_ ?_
  · intro i v W W' h hb
    exact trivial
  · intro g b W io o a hS hF hcl ho hb hd ev kp yl
    match io with
    | 0 => simp only [qq] at ho; subst ho; rw [tv0]; have e11 := (kp 11 (none_till (by kernel_rfl))).trans b11; exact dV (by simp [execOp, go_sem, e11]) ⟨hS, trivial⟩
    | 1 => simp only [qq] at ho; subst ho; rw [tv1]; have e8 := (kp 8 (none_till (by kernel_rfl))).trans b8; exact dV (by simp [execOp, go_sem, e8]) ⟨hS, trivial⟩
    | 2 => simp only [qq] at ho; subst ho; rw [tv2]; have e61 := eT ev hd 1 61 tv1; exact dV (by simp [execOp, go_sem, e61]) ⟨hS, trivial⟩
    | 3 => simp only [qq] at ho; subst ho; rw [tv3]; have e60 := eT ev hd 0 60 tv0; have e62 := eT ev hd 2 62 tv2; exact dV (by simp [execOp, go_sem, e60, e62]) ⟨hS, trivial⟩
    | 4 => simp only [qq] at ho; subst ho; rw [tv4]; have e63 := eT ev hd 3 63 tv3; exact dV (by simp [execOp, go_sem, e63]) ⟨hS, trivial⟩
    | 5 => simp only [qq] at ho; subst ho; rw [tv5]; have e11 := (kp 11 (none_till (by kernel_rfl))).trans b11; exact dG (yl 4 64 false rfl (hG hd 4) tv4) (by simp [execOp, go_sem, e11]) ⟨hS, trivial⟩
    | 6 => simp only [qq] at ho; subst ho; rw [tv6]; have e65 := eT ev hd 5 65 tv5; exact dG (yl 4 64 false rfl (hG hd 4) tv4) (by simp [execOp, go_sem, e65]) ⟨hS, trivial⟩
    | 7 => simp only [qq] at ho; subst ho; rw [tv7]; have e9 := (kp 9 (none_till (by kernel_rfl))).trans b9; have d9_0 := hp0 W hS; have d9_1 := hp1 W hS; exact dG (yl 6 66 true rfl (hG hd 6) tv6) (by simp [execOp, go_sem, e9, d9_0, d9_1]) ⟨hS, trivial⟩
    | 8 => simp only [qq] at ho; subst ho; rw [tv8]; have e5 := (kp 5 (none_till (by kernel_rfl))).trans b5; exact dG (yl 6 66 true rfl (hG hd 6) tv6) (by simp [execOp, go_sem, e5]) ⟨hS, trivial⟩
    | 9 => simp only [qq] at ho; subst ho; rw [tv9]; have e68 := eT ev hd 8 68 tv8; exact dG (yl 6 66 true rfl (hG hd 6) tv6) (by simp [execOp, go_sem, e68]) ⟨hS, trivial⟩
    | 10 => simp only [qq] at ho; subst ho; rw [tv10]; have e69 := eT ev hd 9 69 tv9; exact dG (yl 6 66 true rfl (hG hd 6) tv6) (by simp [execOp, go_sem, e69]) ⟨hS, trivial⟩
    | 11 => simp only [qq] at ho; subst ho; rw [tv11]; have e70 := eT ev hd 10 70 tv10; have d9_0 := hy0 W hS; exact dG (yl 6 66 true rfl (hG hd 6) tv6) (by simp [execOp, go_sem, e70, d9_0]) ⟨hS, trivial⟩
    | 12 => simp only [qq] at ho; subst ho; rw [tv12]; have e8 := (kp 8 (none_till (by kernel_rfl))).trans b8; exact dG (yl 6 66 true rfl (hG hd 6) tv6) (by simp [execOp, go_sem, e8]) ⟨hS, trivial⟩
    | 13 => simp only [qq] at ho; subst ho; rw [tv13]; have e71 := eT ev hd 11 71 tv11; have e72 := eT ev hd 12 72 tv12; exact dG (yl 6 66 true rfl (hG hd 6) tv6) (by simp [execOp, go_sem, e71, e72, hK]) ⟨hS, trivial⟩
    | 14 => simp only [qq] at ho; subst ho; rw [tv14]; have e73 := eT ev hd 13 73 tv13; exact dG (yl 6 66 true rfl (hG hd 6) tv6) (by simp [execOp, go_sem, e73]) ⟨hS, trivial⟩
    | 15 => simp only [qq] at ho; subst ho; rw [tv15]; have e74 := eT ev hd 14 74 tv14; have d9_0 := ho2 W hS; have d9_1 := ho3 W hS; exact dG (yl 6 66 true rfl (hG hd 6) tv6) (by simp [execOp, go_sem, e74, d9_0, d9_1]) ⟨hS, trivial⟩
    | 16 =>
      simp only [qq] at ho; subst ho; rw [tv16]; have e67 := eT ev hd 7 67 tv7; have e75 := eT ev hd 15 75 tv15
      refine does_call_g rfl (yl 6 66 true rfl (hG hd 6) tv6) nofun (f := 12) (args := #[.agg #[.int .i64 p1, .int .i64 p2], .agg #[.int .i64 p1, .int .i64 p2]]) ?_ ?_
      · simp [go_sem, e67, e75]
      · exact (cS W hS ).mono fun e w' h => ⟨h.1, h.2, trivial⟩
    | 17 => simp only [qq] at ho; subst ho; rw [tv17]; have e76 := eT ev hd 16 76 tv16; exact dG (yl 6 66 true rfl (hG hd 6) tv6) (by simp [execOp, go_sem, e76]) ⟨hS, trivial⟩
    | 18 => simp only [qq] at ho; subst ho; rw [tv18]; have e77 := eT ev hd 17 77 tv17; exact dG (yl 6 66 true rfl (hG hd 6) tv6) (by simp [execOp, go_sem, e77]) ⟨hS, trivial⟩
    | 19 => simp only [qq] at ho; subst ho; rw [tv19]; have e10 := (kp 10 (none_till (by kernel_rfl))).trans b10; exact dG (yl 18 78 false rfl (hG hd 18) tv18) (by simp [execOp, go_sem, e10]) ⟨hS, trivial⟩
    | 20 => simp only [qq] at ho; subst ho; rw [tv20]; have e5 := (kp 5 (none_till (by kernel_rfl))).trans b5; exact dG (yl 18 78 false rfl (hG hd 18) tv18) (by simp [execOp, go_sem, e5]) ⟨hS, trivial⟩
    | 21 => simp only [qq] at ho; subst ho; rw [tv21]; have e80 := eT ev hd 20 80 tv20; exact dG (yl 18 78 false rfl (hG hd 18) tv18) (by simp [execOp, go_sem, e80]) ⟨hS, trivial⟩
    | 22 => simp only [qq] at ho; subst ho; rw [tv22]; have e81 := eT ev hd 21 81 tv21; exact dG (yl 18 78 false rfl (hG hd 18) tv18) (by simp [execOp, go_sem, e81]) ⟨hS, trivial⟩
    | 23 => simp only [qq] at ho; subst ho; rw [tv23]; have e82 := eT ev hd 22 82 tv22; have d9_0 := hy0 W hS; exact dG (yl 18 78 false rfl (hG hd 18) tv18) (by simp [execOp, go_sem, e82, d9_0]) ⟨hS, trivial⟩
    | 24 => simp only [qq] at ho; subst ho; rw [tv24]; have e8 := (kp 8 (none_till (by kernel_rfl))).trans b8; exact dG (yl 18 78 false rfl (hG hd 18) tv18) (by simp [execOp, go_sem, e8]) ⟨hS, trivial⟩
    | 25 => simp only [qq] at ho; subst ho; rw [tv25]; have e83 := eT ev hd 23 83 tv23; have e84 := eT ev hd 24 84 tv24; exact dG (yl 18 78 false rfl (hG hd 18) tv18) (by simp [execOp, go_sem, e83, e84, hK]) ⟨hS, trivial⟩
    | 26 => simp only [qq] at ho; subst ho; rw [tv26]; have e85 := eT ev hd 25 85 tv25; exact dG (yl 18 78 false rfl (hG hd 18) tv18) (by simp [execOp, go_sem, e85]) ⟨hS, trivial⟩
    | 27 => simp only [qq] at ho; subst ho; rw [tv27]; have e86 := eT ev hd 26 86 tv26; have d9_0 := ho4 W hS; exact dG (yl 18 78 false rfl (hG hd 18) tv18) (by simp [execOp, go_sem, e86, d9_0]) ⟨hS, trivial⟩
    | 28 => simp only [qq] at ho; subst ho; rw [tv28]; have e79 := eT ev hd 19 79 tv19; have e87 := eT ev hd 27 87 tv27; exact dG (yl 18 78 false rfl (hG hd 18) tv18) (by simp [execOp, go_sem, e79, e87]) ⟨hS, trivial⟩
    | 29 => simp only [qq] at ho; subst ho; rw [tv29]; have e78 := eT ev hd 18 78 tv18; have e88 := eT ev hd 28 88 tv28; exact dG (yl 6 66 true rfl (hG hd 6) tv6) (by simp [execOp, go_sem, e78, e88]) ⟨hS, trivial⟩
    | 30 => simp only [qq] at ho; subst ho; rw [tv30]; have e66 := eT ev hd 6 66 tv6; have e89 := eT ev hd 29 89 tv29; exact dG (yl 4 64 false rfl (hG hd 4) tv4) (by simp [execOp, go_sem, e66, e89]) ⟨hS, trivial⟩
    | 31 => simp only [qq] at ho; subst ho; rw [tv31]; have e64 := eT ev hd 4 64 tv4; have e90 := eT ev hd 30 90 tv30; exact dV (by simp [execOp, go_sem, e64, e90]) ⟨hS, trivial⟩
    | 32 => simp only [qq] at ho; subst ho; rw [tv32]; have e91 := eT ev hd 31 91 tv31; exact dV (by simp [execOp, go_sem, e91]) ⟨hS, trivial⟩
    | 33 => simp only [qq] at ho; subst ho; rw [tv33]; have e11 := (kp 11 (none_till (by kernel_rfl))).trans b11; exact dG (yl 32 92 false rfl (hG hd 32) tv32) (by simp [execOp, go_sem, e11]) ⟨hS, trivial⟩
    | 34 => simp only [qq] at ho; subst ho; rw [tv34]; have e93 := eT ev hd 33 93 tv33; exact dG (yl 32 92 false rfl (hG hd 32) tv32) (by simp [execOp, go_sem, e93]) ⟨hS, trivial⟩
    | 35 => simp only [qq] at ho; subst ho; rw [tv35]; have e94 := eT ev hd 34 94 tv34; exact dG (yl 32 92 false rfl (hG hd 32) tv32) (by simp [execOp, go_sem, e94]) ⟨hS, trivial⟩
    | 36 => simp only [qq] at ho; subst ho; rw [tv36]; exact does_pass rfl (yl 35 95 false rfl (hG hd 35) tv35) (by decide) rfl ⟨hS, trivial⟩
    | 37 => simp only [qq] at ho; subst ho; rw [tv37]; exact does_pass rfl (yl 35 95 false rfl (hG hd 35) tv35) (by decide) rfl ⟨hS, trivial⟩
    | 38 => simp only [qq] at ho; subst ho; rw [tv38]; exact does_pass rfl (yl 35 95 false rfl (hG hd 35) tv35) (by decide) rfl ⟨hS, trivial⟩
    | 39 => simp only [qq] at ho; subst ho; rw [tv39]; exact does_pass rfl (yl 35 95 false rfl (hG hd 35) tv35) (by decide) rfl ⟨hS, trivial⟩
    | 40 => simp only [qq] at ho; subst ho; rw [tv40]; exact does_pass_none rfl (yielded_undef (j := 39) (s := 99) rfl ((ev 39 99 rfl (hG hd 39)).trans (by rw [tv39]; rfl))) rfl ⟨hS, trivial⟩
    | 41 => simp only [qq] at ho; subst ho; rw [tv41]; exact does_pass_none rfl (yielded_undef (j := 39) (s := 99) rfl ((ev 39 99 rfl (hG hd 39)).trans (by rw [tv39]; rfl))) rfl ⟨hS, trivial⟩
    | 42 => simp only [qq] at ho; subst ho; rw [tv42]; exact does_pass_none rfl (yielded_undef (j := 39) (s := 99) rfl ((ev 39 99 rfl (hG hd 39)).trans (by rw [tv39]; rfl))) rfl ⟨hS, trivial⟩
    | 43 => simp only [qq] at ho; subst ho; rw [tv43]; exact does_pass rfl (yl 35 95 false rfl (hG hd 35) tv35) (by decide) rfl ⟨hS, trivial⟩
    | 44 => simp only [qq] at ho; subst ho; rw [tv44]; exact does_pass rfl (yl 35 95 false rfl (hG hd 35) tv35) (by decide) rfl ⟨hS, trivial⟩
    | 45 => simp only [qq] at ho; subst ho; rw [tv45]; exact does_pass_none rfl (yielded_undef (j := 44) (s := 104) rfl ((ev 44 104 rfl (hG hd 44)).trans (by rw [tv44]; rfl))) rfl ⟨hS, trivial⟩
    | 46 => simp only [qq] at ho; subst ho; rw [tv46]; exact does_pass_none rfl (yielded_undef (j := 44) (s := 104) rfl ((ev 44 104 rfl (hG hd 44)).trans (by rw [tv44]; rfl))) rfl ⟨hS, trivial⟩
    | 47 => simp only [qq] at ho; subst ho; rw [tv47]; exact does_pass rfl (yl 35 95 false rfl (hG hd 35) tv35) (by decide) rfl ⟨hS, trivial⟩
    | 48 => simp only [qq] at ho; subst ho; rw [tv48]; have e95 := eT ev hd 35 95 tv35; exact dG (yl 32 92 false rfl (hG hd 32) tv32) (by simp [execOp, go_sem, e95]) ⟨hS, trivial⟩
    | 49 => simp only [qq] at ho; subst ho; rw [tv49]; have e92 := eT ev hd 32 92 tv32; have e108 := eT ev hd 48 108 tv48; exact dV (by simp [execOp, go_sem, e92, e108]) ⟨hS, trivial⟩
    | k + 50 => simp at ho
  · intro g W hS hF
    subst hLe
    exact hQ  W hS 
set_option maxRecDepth 8000 in
set_option maxHeartbeats 4000000 in
theorem sm10b {Q : Exit → Act → World → Prop} {base : Array Value} {dd : List Deferred} {ops : Array Oper} (hops : Tryz.f10.body.bind (regs 10) = some ops) (J : World → Prop) (pb : Nat) (w9 : World) (hsz : base.size = 238) (b8 : base.getD 8 undef = .int .i64 (-1)) (b9 : base.getD 9 undef = .pointer (some ⟨pb, 0, none⟩)) (b10 : base.getD 10 undef = .string ⟨#[]⟩) (b11 : base.getD 11 undef = .bool false) (hJ0 : (J) w9.drew) (hp0 : ∀ W, J W → W.cell? ⟨pb, 0, none⟩ = some (.int .i64 0)) (hp1 : ∀ W, J W → W.cell? ⟨pb, 1, none⟩ = some (.int .i64 0)) (hQ : ∀ W, (J) W → Q .normal ⟨putAll base [(some 60, .bool false), (some 61, .int .i64 (-1)), (some 62, .bool false), (some 63, .bool false), (some 64, .bool false), (some 65, .bool false), (some 66, .bool false), (some 67, undef), (some 68, undef), (some 69, undef), (some 70, undef), (some 71, undef), (some 72, undef), (some 73, undef), (some 74, undef), (some 75, undef), (some 76, undef), (some 77, undef), (some 78, undef), (some 79, undef), (some 80, undef), (some 81, undef), (some 82, undef), (some 83, undef), (some 84, undef), (some 85, undef), (some 86, undef), (some 87, undef), (some 88, undef), (some 89, undef), (some 90, .bool false), (some 91, .bool false), (some 92, .bool false), (some 93, .bool false), (some 94, .bool true), (some 95, .bool true), (some 96, .pointer (some ⟨pb, 0, none⟩)), (some 97, .int .i64 0), (some 98, .bool false), (some 99, .bool false), (some 100, .pointer (some ⟨pb, 1, none⟩)), (some 101, .int .i64 0), (some 102, .bool false), (some 103, .bool false), (some 104, .bool false), (some 105, .string ⟨#[]⟩), (some 106, .bool false), (some 107, .bool false), (some 108, .bool false), (some 109, .bool false)], dd⟩ W) :
    (Code.region 10 ops true).wp Tryz.prog Q ⟨base, dd⟩ w9 := by
  have hmix : Tryz.prog.follows .mixedOrders = true := by kernel_rfl
  have h2 := (show Tryz.f10.body.bind (regs 10) = some _ from rfl).symm.trans hops
  obtain rfl := Option.some.inj h2
  clear h2 hops
  obtain ⟨LL, hLe⟩ : ∃ LL : List (Option Tmp × Option Value), LL = [(some 60, some (.bool false)), (some 61, some (.int .i64 (-1))), (some 62, some (.bool false)), (some 63, some (.bool false)), (some 64, some (.bool false)), (some 65, some (.bool false)), (some 66, some (.bool false)), (some 67, some (undef)), (some 68, some (undef)), (some 69, some (undef)), (some 70, some (undef)), (some 71, some (undef)), (some 72, some (undef)), (some 73, some (undef)), (some 74, some (undef)), (some 75, some (undef)), (some 76, some (undef)), (some 77, some (undef)), (some 78, some (undef)), (some 79, some (undef)), (some 80, some (undef)), (some 81, some (undef)), (some 82, some (undef)), (some 83, some (undef)), (some 84, some (undef)), (some 85, some (undef)), (some 86, some (undef)), (some 87, some (undef)), (some 88, some (undef)), (some 89, some (undef)), (some 90, some (.bool false)), (some 91, some (.bool false)), (some 92, some (.bool false)), (some 93, some (.bool false)), (some 94, some (.bool true)), (some 95, some (.bool true)), (some 96, some (.pointer (some ⟨pb, 0, none⟩))), (some 97, some (.int .i64 0)), (some 98, some (.bool false)), (some 99, some (.bool false)), (some 100, some (.pointer (some ⟨pb, 1, none⟩))), (some 101, some (.int .i64 0)), (some 102, some (.bool false)), (some 103, some (.bool false)), (some 104, some (.bool false)), (some 105, some (.string ⟨#[]⟩)), (some 106, some (.bool false)), (some 107, some (.bool false)), (some 108, some (.bool false)), (some 109, some (.bool false))] := ⟨_, rfl⟩
  have tv0 : tv LL 0 = some (.bool false) := by rw [hLe]; rfl
  have tv1 : tv LL 1 = some (.int .i64 (-1)) := by rw [hLe]; rfl
  have tv2 : tv LL 2 = some (.bool false) := by rw [hLe]; rfl
  have tv3 : tv LL 3 = some (.bool false) := by rw [hLe]; rfl
  have tv4 : tv LL 4 = some (.bool false) := by rw [hLe]; rfl
  have tv5 : tv LL 5 = some (.bool false) := by rw [hLe]; rfl
  have tv6 : tv LL 6 = some (.bool false) := by rw [hLe]; rfl
  have tv7 : tv LL 7 = some (undef) := by rw [hLe]; rfl
  have tv8 : tv LL 8 = some (undef) := by rw [hLe]; rfl
  have tv9 : tv LL 9 = some (undef) := by rw [hLe]; rfl
  have tv10 : tv LL 10 = some (undef) := by rw [hLe]; rfl
  have tv11 : tv LL 11 = some (undef) := by rw [hLe]; rfl
  have tv12 : tv LL 12 = some (undef) := by rw [hLe]; rfl
  have tv13 : tv LL 13 = some (undef) := by rw [hLe]; rfl
  have tv14 : tv LL 14 = some (undef) := by rw [hLe]; rfl
  have tv15 : tv LL 15 = some (undef) := by rw [hLe]; rfl
  have tv16 : tv LL 16 = some (undef) := by rw [hLe]; rfl
  have tv17 : tv LL 17 = some (undef) := by rw [hLe]; rfl
  have tv18 : tv LL 18 = some (undef) := by rw [hLe]; rfl
  have tv19 : tv LL 19 = some (undef) := by rw [hLe]; rfl
  have tv20 : tv LL 20 = some (undef) := by rw [hLe]; rfl
  have tv21 : tv LL 21 = some (undef) := by rw [hLe]; rfl
  have tv22 : tv LL 22 = some (undef) := by rw [hLe]; rfl
  have tv23 : tv LL 23 = some (undef) := by rw [hLe]; rfl
  have tv24 : tv LL 24 = some (undef) := by rw [hLe]; rfl
  have tv25 : tv LL 25 = some (undef) := by rw [hLe]; rfl
  have tv26 : tv LL 26 = some (undef) := by rw [hLe]; rfl
  have tv27 : tv LL 27 = some (undef) := by rw [hLe]; rfl
  have tv28 : tv LL 28 = some (undef) := by rw [hLe]; rfl
  have tv29 : tv LL 29 = some (undef) := by rw [hLe]; rfl
  have tv30 : tv LL 30 = some (.bool false) := by rw [hLe]; rfl
  have tv31 : tv LL 31 = some (.bool false) := by rw [hLe]; rfl
  have tv32 : tv LL 32 = some (.bool false) := by rw [hLe]; rfl
  have tv33 : tv LL 33 = some (.bool false) := by rw [hLe]; rfl
  have tv34 : tv LL 34 = some (.bool true) := by rw [hLe]; rfl
  have tv35 : tv LL 35 = some (.bool true) := by rw [hLe]; rfl
  have tv36 : tv LL 36 = some (.pointer (some ⟨pb, 0, none⟩)) := by rw [hLe]; rfl
  have tv37 : tv LL 37 = some (.int .i64 0) := by rw [hLe]; rfl
  have tv38 : tv LL 38 = some (.bool false) := by rw [hLe]; rfl
  have tv39 : tv LL 39 = some (.bool false) := by rw [hLe]; rfl
  have tv40 : tv LL 40 = some (.pointer (some ⟨pb, 1, none⟩)) := by rw [hLe]; rfl
  have tv41 : tv LL 41 = some (.int .i64 0) := by rw [hLe]; rfl
  have tv42 : tv LL 42 = some (.bool false) := by rw [hLe]; rfl
  have tv43 : tv LL 43 = some (.bool false) := by rw [hLe]; rfl
  have tv44 : tv LL 44 = some (.bool false) := by rw [hLe]; rfl
  have tv45 : tv LL 45 = some (.string ⟨#[]⟩) := by rw [hLe]; rfl
  have tv46 : tv LL 46 = some (.bool false) := by rw [hLe]; rfl
  have tv47 : tv LL 47 = some (.bool false) := by rw [hLe]; rfl
  have tv48 : tv LL 48 = some (.bool false) := by rw [hLe]; rfl
  have tv49 : tv LL 49 = some (.bool false) := by rw [hLe]; rfl
  refine region_gj hmix (by kernel_rfl) 238 hsz (by kernel_rfl) LL (by rw [hLe]; rfl) (J) ((fun (_ _ : World) => True)) hJ0 (fun i v W => True) ?_ ?_ ?_
  · intro i v W W' h hb
    exact trivial
  · intro g b W io o a hS hF hcl ho hb hd ev kp yl
    match io with
    | 0 => simp only [qq] at ho; subst ho; rw [tv0]; have e11 := (kp 11 (none_till (by kernel_rfl))).trans b11; exact dV (by simp [execOp, go_sem, e11]) ⟨hS, trivial⟩
    | 1 => simp only [qq] at ho; subst ho; rw [tv1]; have e8 := (kp 8 (none_till (by kernel_rfl))).trans b8; exact dV (by simp [execOp, go_sem, e8]) ⟨hS, trivial⟩
    | 2 => simp only [qq] at ho; subst ho; rw [tv2]; have e61 := eT ev hd 1 61 tv1; exact dV (by simp [execOp, go_sem, e61]) ⟨hS, trivial⟩
    | 3 => simp only [qq] at ho; subst ho; rw [tv3]; have e60 := eT ev hd 0 60 tv0; have e62 := eT ev hd 2 62 tv2; exact dV (by simp [execOp, go_sem, e60, e62]) ⟨hS, trivial⟩
    | 4 => simp only [qq] at ho; subst ho; rw [tv4]; have e63 := eT ev hd 3 63 tv3; exact dV (by simp [execOp, go_sem, e63]) ⟨hS, trivial⟩
    | 5 => simp only [qq] at ho; subst ho; rw [tv5]; have e11 := (kp 11 (none_till (by kernel_rfl))).trans b11; exact dG (yl 4 64 false rfl (hG hd 4) tv4) (by simp [execOp, go_sem, e11]) ⟨hS, trivial⟩
    | 6 => simp only [qq] at ho; subst ho; rw [tv6]; have e65 := eT ev hd 5 65 tv5; exact dG (yl 4 64 false rfl (hG hd 4) tv4) (by simp [execOp, go_sem, e65]) ⟨hS, trivial⟩
    | 7 => simp only [qq] at ho; subst ho; rw [tv7]; exact does_pass rfl (yl 6 66 false rfl (hG hd 6) tv6) (by decide) rfl ⟨hS, trivial⟩
    | 8 => simp only [qq] at ho; subst ho; rw [tv8]; exact does_pass rfl (yl 6 66 false rfl (hG hd 6) tv6) (by decide) rfl ⟨hS, trivial⟩
    | 9 => simp only [qq] at ho; subst ho; rw [tv9]; exact does_pass rfl (yl 6 66 false rfl (hG hd 6) tv6) (by decide) rfl ⟨hS, trivial⟩
    | 10 => simp only [qq] at ho; subst ho; rw [tv10]; exact does_pass rfl (yl 6 66 false rfl (hG hd 6) tv6) (by decide) rfl ⟨hS, trivial⟩
    | 11 => simp only [qq] at ho; subst ho; rw [tv11]; exact does_pass rfl (yl 6 66 false rfl (hG hd 6) tv6) (by decide) rfl ⟨hS, trivial⟩
    | 12 => simp only [qq] at ho; subst ho; rw [tv12]; exact does_pass rfl (yl 6 66 false rfl (hG hd 6) tv6) (by decide) rfl ⟨hS, trivial⟩
    | 13 => simp only [qq] at ho; subst ho; rw [tv13]; exact does_pass rfl (yl 6 66 false rfl (hG hd 6) tv6) (by decide) rfl ⟨hS, trivial⟩
    | 14 => simp only [qq] at ho; subst ho; rw [tv14]; exact does_pass rfl (yl 6 66 false rfl (hG hd 6) tv6) (by decide) rfl ⟨hS, trivial⟩
    | 15 => simp only [qq] at ho; subst ho; rw [tv15]; exact does_pass rfl (yl 6 66 false rfl (hG hd 6) tv6) (by decide) rfl ⟨hS, trivial⟩
    | 16 => simp only [qq] at ho; subst ho; rw [tv16]; exact does_pass rfl (yl 6 66 false rfl (hG hd 6) tv6) (by decide) rfl ⟨hS, trivial⟩
    | 17 => simp only [qq] at ho; subst ho; rw [tv17]; exact does_pass rfl (yl 6 66 false rfl (hG hd 6) tv6) (by decide) rfl ⟨hS, trivial⟩
    | 18 => simp only [qq] at ho; subst ho; rw [tv18]; exact does_pass rfl (yl 6 66 false rfl (hG hd 6) tv6) (by decide) rfl ⟨hS, trivial⟩
    | 19 => simp only [qq] at ho; subst ho; rw [tv19]; exact does_pass_none rfl (yielded_undef (j := 18) (s := 78) rfl ((ev 18 78 rfl (hG hd 18)).trans (by rw [tv18]; rfl))) rfl ⟨hS, trivial⟩
    | 20 => simp only [qq] at ho; subst ho; rw [tv20]; exact does_pass_none rfl (yielded_undef (j := 18) (s := 78) rfl ((ev 18 78 rfl (hG hd 18)).trans (by rw [tv18]; rfl))) rfl ⟨hS, trivial⟩
    | 21 => simp only [qq] at ho; subst ho; rw [tv21]; exact does_pass_none rfl (yielded_undef (j := 18) (s := 78) rfl ((ev 18 78 rfl (hG hd 18)).trans (by rw [tv18]; rfl))) rfl ⟨hS, trivial⟩
    | 22 => simp only [qq] at ho; subst ho; rw [tv22]; exact does_pass_none rfl (yielded_undef (j := 18) (s := 78) rfl ((ev 18 78 rfl (hG hd 18)).trans (by rw [tv18]; rfl))) rfl ⟨hS, trivial⟩
    | 23 => simp only [qq] at ho; subst ho; rw [tv23]; exact does_pass_none rfl (yielded_undef (j := 18) (s := 78) rfl ((ev 18 78 rfl (hG hd 18)).trans (by rw [tv18]; rfl))) rfl ⟨hS, trivial⟩
    | 24 => simp only [qq] at ho; subst ho; rw [tv24]; exact does_pass_none rfl (yielded_undef (j := 18) (s := 78) rfl ((ev 18 78 rfl (hG hd 18)).trans (by rw [tv18]; rfl))) rfl ⟨hS, trivial⟩
    | 25 => simp only [qq] at ho; subst ho; rw [tv25]; exact does_pass_none rfl (yielded_undef (j := 18) (s := 78) rfl ((ev 18 78 rfl (hG hd 18)).trans (by rw [tv18]; rfl))) rfl ⟨hS, trivial⟩
    | 26 => simp only [qq] at ho; subst ho; rw [tv26]; exact does_pass_none rfl (yielded_undef (j := 18) (s := 78) rfl ((ev 18 78 rfl (hG hd 18)).trans (by rw [tv18]; rfl))) rfl ⟨hS, trivial⟩
    | 27 => simp only [qq] at ho; subst ho; rw [tv27]; exact does_pass_none rfl (yielded_undef (j := 18) (s := 78) rfl ((ev 18 78 rfl (hG hd 18)).trans (by rw [tv18]; rfl))) rfl ⟨hS, trivial⟩
    | 28 => simp only [qq] at ho; subst ho; rw [tv28]; exact does_pass_none rfl (yielded_undef (j := 18) (s := 78) rfl ((ev 18 78 rfl (hG hd 18)).trans (by rw [tv18]; rfl))) rfl ⟨hS, trivial⟩
    | 29 => simp only [qq] at ho; subst ho; rw [tv29]; exact does_pass rfl (yl 6 66 false rfl (hG hd 6) tv6) (by decide) rfl ⟨hS, trivial⟩
    | 30 => simp only [qq] at ho; subst ho; rw [tv30]; have e66 := eT ev hd 6 66 tv6; exact dG (yl 4 64 false rfl (hG hd 4) tv4) (by simp [execOp, go_sem, e66]) ⟨hS, trivial⟩
    | 31 => simp only [qq] at ho; subst ho; rw [tv31]; have e64 := eT ev hd 4 64 tv4; have e90 := eT ev hd 30 90 tv30; exact dV (by simp [execOp, go_sem, e64, e90]) ⟨hS, trivial⟩
    | 32 => simp only [qq] at ho; subst ho; rw [tv32]; have e91 := eT ev hd 31 91 tv31; exact dV (by simp [execOp, go_sem, e91]) ⟨hS, trivial⟩
    | 33 => simp only [qq] at ho; subst ho; rw [tv33]; have e11 := (kp 11 (none_till (by kernel_rfl))).trans b11; exact dG (yl 32 92 false rfl (hG hd 32) tv32) (by simp [execOp, go_sem, e11]) ⟨hS, trivial⟩
    | 34 => simp only [qq] at ho; subst ho; rw [tv34]; have e93 := eT ev hd 33 93 tv33; exact dG (yl 32 92 false rfl (hG hd 32) tv32) (by simp [execOp, go_sem, e93]) ⟨hS, trivial⟩
    | 35 => simp only [qq] at ho; subst ho; rw [tv35]; have e94 := eT ev hd 34 94 tv34; exact dG (yl 32 92 false rfl (hG hd 32) tv32) (by simp [execOp, go_sem, e94]) ⟨hS, trivial⟩
    | 36 => simp only [qq] at ho; subst ho; rw [tv36]; have e9 := (kp 9 (none_till (by kernel_rfl))).trans b9; exact dG (yl 35 95 true rfl (hG hd 35) tv35) (by simp [execOp, go_sem, e9]) ⟨hS, trivial⟩
    | 37 => simp only [qq] at ho; subst ho; rw [tv37]; have e96 := eT ev hd 36 96 tv36; have d9_0 := hp0 W hS; exact dG (yl 35 95 true rfl (hG hd 35) tv35) (by simp [execOp, go_sem, e96, d9_0]) ⟨hS, trivial⟩
    | 38 => simp only [qq] at ho; subst ho; rw [tv38]; have e97 := eT ev hd 37 97 tv37; exact dG (yl 35 95 true rfl (hG hd 35) tv35) (by simp [execOp, go_sem, e97]) ⟨hS, trivial⟩
    | 39 => simp only [qq] at ho; subst ho; rw [tv39]; have e98 := eT ev hd 38 98 tv38; exact dG (yl 35 95 true rfl (hG hd 35) tv35) (by simp [execOp, go_sem, e98]) ⟨hS, trivial⟩
    | 40 => simp only [qq] at ho; subst ho; rw [tv40]; have e9 := (kp 9 (none_till (by kernel_rfl))).trans b9; exact dG (yl 39 99 false rfl (hG hd 39) tv39) (by simp [execOp, go_sem, e9]) ⟨hS, trivial⟩
    | 41 => simp only [qq] at ho; subst ho; rw [tv41]; have e100 := eT ev hd 40 100 tv40; have d9_0 := hp1 W hS; exact dG (yl 39 99 false rfl (hG hd 39) tv39) (by simp [execOp, go_sem, e100, d9_0]) ⟨hS, trivial⟩
    | 42 => simp only [qq] at ho; subst ho; rw [tv42]; have e101 := eT ev hd 41 101 tv41; exact dG (yl 39 99 false rfl (hG hd 39) tv39) (by simp [execOp, go_sem, e101]) ⟨hS, trivial⟩
    | 43 => simp only [qq] at ho; subst ho; rw [tv43]; have e99 := eT ev hd 39 99 tv39; have e102 := eT ev hd 42 102 tv42; exact dG (yl 35 95 true rfl (hG hd 35) tv35) (by simp [execOp, go_sem, e99, e102]) ⟨hS, trivial⟩
    | 44 => simp only [qq] at ho; subst ho; rw [tv44]; have e103 := eT ev hd 43 103 tv43; exact dG (yl 35 95 true rfl (hG hd 35) tv35) (by simp [execOp, go_sem, e103]) ⟨hS, trivial⟩
    | 45 => simp only [qq] at ho; subst ho; rw [tv45]; have e10 := (kp 10 (none_till (by kernel_rfl))).trans b10; exact dG (yl 44 104 false rfl (hG hd 44) tv44) (by simp [execOp, go_sem, e10]) ⟨hS, trivial⟩
    | 46 => simp only [qq] at ho; subst ho; rw [tv46]; have e105 := eT ev hd 45 105 tv45; exact dG (yl 44 104 false rfl (hG hd 44) tv44) (by simp [execOp, go_sem, e105]) ⟨hS, trivial⟩
    | 47 => simp only [qq] at ho; subst ho; rw [tv47]; have e104 := eT ev hd 44 104 tv44; have e106 := eT ev hd 46 106 tv46; exact dG (yl 35 95 true rfl (hG hd 35) tv35) (by simp [execOp, go_sem, e104, e106]) ⟨hS, trivial⟩
    | 48 => simp only [qq] at ho; subst ho; rw [tv48]; have e95 := eT ev hd 35 95 tv35; have e107 := eT ev hd 47 107 tv47; exact dG (yl 32 92 false rfl (hG hd 32) tv32) (by simp [execOp, go_sem, e95, e107]) ⟨hS, trivial⟩
    | 49 => simp only [qq] at ho; subst ho; rw [tv49]; have e92 := eT ev hd 32 92 tv32; have e108 := eT ev hd 48 108 tv48; exact dV (by simp [execOp, go_sem, e92, e108]) ⟨hS, trivial⟩
    | k + 50 => simp at ho
  · intro g W hS hF
    subst hLe
    exact hQ  W hS 
set_option maxRecDepth 8000 in
set_option maxHeartbeats 4000000 in
theorem sm13 {Q : Exit → Act → World → Prop} {base : Array Value} {dd : List Deferred} {ops : Array Oper} (hops : Tryz.f10.body.bind (regs 13) = some ops) (J : World → Prop) (gt gy gi m ci I : Nat) (q1 q2 : Int) (hs dr lv : Bool) (w9 : World) (hsz : base.size = 238) (b0 : base.getD 0 undef = .pointer (some ⟨gt, 0, none⟩)) (b5 : base.getD 5 undef = .pointer (some ⟨gy, 0, none⟩)) (b6 : base.getD 6 undef = .slice (some ⟨gi, 0, none⟩) m ci) (b7 : base.getD 7 undef = .int .i64 (I : Nat)) (b12 : base.getD 12 undef = .bool hs) (hJ0 : (J) w9.drew) (hI : I < m) (hi0 : ∀ W, J W → W.cell? ⟨gi, I * 2, none⟩ = some (.int .i64 q1)) (hi1 : ∀ W, J W → W.cell? ⟨gi, I * 2 + 1, none⟩ = some (.int .i64 q2)) (cH : ∀ W, (J) W → Calls Tryz.prog 18 #[.pointer (some ⟨gt, 0, none⟩), .agg #[.int .i64 q1, .int .i64 q2]] W fun e w' => e = .returned (.bool hs) ∧ (J) w') (cD : ∀ W, (J) W → Calls Tryz.prog 17 #[.pointer (some ⟨gt, 0, none⟩), .agg #[.int .i64 q1, .int .i64 q2]] W fun e w' => e = .returned (.bool dr) ∧ (J) w') (cE : ∀ W, (J) W → Calls Tryz.prog 31 #[.pointer (some ⟨gy, 0, none⟩), .agg #[.int .i64 q1, .int .i64 q2]] W fun e w' => e = .returned (.bool dr) ∧ (J) w') (cL : ∀ W, (J) W → Calls Tryz.prog 13 #[.pointer (some ⟨gt, 0, none⟩), .agg #[.int .i64 q1, .int .i64 q2]] W fun e w' => e = .returned (.bool lv) ∧ (J) w') (cM : ∀ W, (J) W → Calls Tryz.prog 32 #[.pointer (some ⟨gy, 0, none⟩), .agg #[.int .i64 q1, .int .i64 q2]] W fun e w' => e = .returned (.bool lv) ∧ (J) w') (hQ : ∀ W, (J) W → Q .normal ⟨putAll base [(some 136, .pointer (some ⟨gt, 0, none⟩)), (some 137, .slice (some ⟨gi, 0, none⟩) m ci), (some 138, .int .i64 (I : Nat)), (some 139, .pointer (some ⟨gi, I * 2, none⟩)), (some 140, .agg #[.int .i64 q1, .int .i64 q2]), (some 141, .bool hs), (some 142, .bool hs), (some 143, .bool false), (some 144, .bool false), (some 145, .pointer (some ⟨gt, 0, none⟩)), (some 146, .slice (some ⟨gi, 0, none⟩) m ci), (some 147, .int .i64 (I : Nat)), (some 148, .pointer (some ⟨gi, I * 2, none⟩)), (some 149, .agg #[.int .i64 q1, .int .i64 q2]), (some 150, .bool dr), (some 151, .pointer (some ⟨gy, 0, none⟩)), (some 152, .slice (some ⟨gi, 0, none⟩) m ci), (some 153, .int .i64 (I : Nat)), (some 154, .pointer (some ⟨gi, I * 2, none⟩)), (some 155, .agg #[.int .i64 q1, .int .i64 q2]), (some 156, .bool dr), (some 157, .bool false), (some 158, .bool false), (some 159, .bool false), (some 160, .pointer (some ⟨gt, 0, none⟩)), (some 161, .slice (some ⟨gi, 0, none⟩) m ci), (some 162, .int .i64 (I : Nat)), (some 163, .pointer (some ⟨gi, I * 2, none⟩)), (some 164, .agg #[.int .i64 q1, .int .i64 q2]), (some 165, .bool lv), (some 166, .pointer (some ⟨gy, 0, none⟩)), (some 167, .slice (some ⟨gi, 0, none⟩) m ci), (some 168, .int .i64 (I : Nat)), (some 169, .pointer (some ⟨gi, I * 2, none⟩)), (some 170, .agg #[.int .i64 q1, .int .i64 q2]), (some 171, .bool lv), (some 172, .bool false), (some 173, .bool false)], dd⟩ W) :
    (Code.region 13 ops true).wp Tryz.prog Q ⟨base, dd⟩ w9 := by
  have hmix : Tryz.prog.follows .mixedOrders = true := by kernel_rfl
  have h2 := (show Tryz.f10.body.bind (regs 13) = some _ from rfl).symm.trans hops
  obtain rfl := Option.some.inj h2
  clear h2 hops
  obtain ⟨LL, hLe⟩ : ∃ LL : List (Option Tmp × Option Value), LL = [(some 136, some (.pointer (some ⟨gt, 0, none⟩))), (some 137, some (.slice (some ⟨gi, 0, none⟩) m ci)), (some 138, some (.int .i64 (I : Nat))), (some 139, some (.pointer (some ⟨gi, I * 2, none⟩))), (some 140, some (.agg #[.int .i64 q1, .int .i64 q2])), (some 141, some (.bool hs)), (some 142, some (.bool hs)), (some 143, some (.bool false)), (some 144, some (.bool false)), (some 145, some (.pointer (some ⟨gt, 0, none⟩))), (some 146, some (.slice (some ⟨gi, 0, none⟩) m ci)), (some 147, some (.int .i64 (I : Nat))), (some 148, some (.pointer (some ⟨gi, I * 2, none⟩))), (some 149, some (.agg #[.int .i64 q1, .int .i64 q2])), (some 150, some (.bool dr)), (some 151, some (.pointer (some ⟨gy, 0, none⟩))), (some 152, some (.slice (some ⟨gi, 0, none⟩) m ci)), (some 153, some (.int .i64 (I : Nat))), (some 154, some (.pointer (some ⟨gi, I * 2, none⟩))), (some 155, some (.agg #[.int .i64 q1, .int .i64 q2])), (some 156, some (.bool dr)), (some 157, some (.bool false)), (some 158, some (.bool false)), (some 159, some (.bool false)), (some 160, some (.pointer (some ⟨gt, 0, none⟩))), (some 161, some (.slice (some ⟨gi, 0, none⟩) m ci)), (some 162, some (.int .i64 (I : Nat))), (some 163, some (.pointer (some ⟨gi, I * 2, none⟩))), (some 164, some (.agg #[.int .i64 q1, .int .i64 q2])), (some 165, some (.bool lv)), (some 166, some (.pointer (some ⟨gy, 0, none⟩))), (some 167, some (.slice (some ⟨gi, 0, none⟩) m ci)), (some 168, some (.int .i64 (I : Nat))), (some 169, some (.pointer (some ⟨gi, I * 2, none⟩))), (some 170, some (.agg #[.int .i64 q1, .int .i64 q2])), (some 171, some (.bool lv)), (some 172, some (.bool false)), (some 173, some (.bool false))] := ⟨_, rfl⟩
  have tv0 : tv LL 0 = some (.pointer (some ⟨gt, 0, none⟩)) := by rw [hLe]; rfl
  have tv1 : tv LL 1 = some (.slice (some ⟨gi, 0, none⟩) m ci) := by rw [hLe]; rfl
  have tv2 : tv LL 2 = some (.int .i64 (I : Nat)) := by rw [hLe]; rfl
  have tv3 : tv LL 3 = some (.pointer (some ⟨gi, I * 2, none⟩)) := by rw [hLe]; rfl
  have tv4 : tv LL 4 = some (.agg #[.int .i64 q1, .int .i64 q2]) := by rw [hLe]; rfl
  have tv5 : tv LL 5 = some (.bool hs) := by rw [hLe]; rfl
  have tv6 : tv LL 6 = some (.bool hs) := by rw [hLe]; rfl
  have tv7 : tv LL 7 = some (.bool false) := by rw [hLe]; rfl
  have tv8 : tv LL 8 = some (.bool false) := by rw [hLe]; rfl
  have tv9 : tv LL 9 = some (.pointer (some ⟨gt, 0, none⟩)) := by rw [hLe]; rfl
  have tv10 : tv LL 10 = some (.slice (some ⟨gi, 0, none⟩) m ci) := by rw [hLe]; rfl
  have tv11 : tv LL 11 = some (.int .i64 (I : Nat)) := by rw [hLe]; rfl
  have tv12 : tv LL 12 = some (.pointer (some ⟨gi, I * 2, none⟩)) := by rw [hLe]; rfl
  have tv13 : tv LL 13 = some (.agg #[.int .i64 q1, .int .i64 q2]) := by rw [hLe]; rfl
  have tv14 : tv LL 14 = some (.bool dr) := by rw [hLe]; rfl
  have tv15 : tv LL 15 = some (.pointer (some ⟨gy, 0, none⟩)) := by rw [hLe]; rfl
  have tv16 : tv LL 16 = some (.slice (some ⟨gi, 0, none⟩) m ci) := by rw [hLe]; rfl
  have tv17 : tv LL 17 = some (.int .i64 (I : Nat)) := by rw [hLe]; rfl
  have tv18 : tv LL 18 = some (.pointer (some ⟨gi, I * 2, none⟩)) := by rw [hLe]; rfl
  have tv19 : tv LL 19 = some (.agg #[.int .i64 q1, .int .i64 q2]) := by rw [hLe]; rfl
  have tv20 : tv LL 20 = some (.bool dr) := by rw [hLe]; rfl
  have tv21 : tv LL 21 = some (.bool false) := by rw [hLe]; rfl
  have tv22 : tv LL 22 = some (.bool false) := by rw [hLe]; rfl
  have tv23 : tv LL 23 = some (.bool false) := by rw [hLe]; rfl
  have tv24 : tv LL 24 = some (.pointer (some ⟨gt, 0, none⟩)) := by rw [hLe]; rfl
  have tv25 : tv LL 25 = some (.slice (some ⟨gi, 0, none⟩) m ci) := by rw [hLe]; rfl
  have tv26 : tv LL 26 = some (.int .i64 (I : Nat)) := by rw [hLe]; rfl
  have tv27 : tv LL 27 = some (.pointer (some ⟨gi, I * 2, none⟩)) := by rw [hLe]; rfl
  have tv28 : tv LL 28 = some (.agg #[.int .i64 q1, .int .i64 q2]) := by rw [hLe]; rfl
  have tv29 : tv LL 29 = some (.bool lv) := by rw [hLe]; rfl
  have tv30 : tv LL 30 = some (.pointer (some ⟨gy, 0, none⟩)) := by rw [hLe]; rfl
  have tv31 : tv LL 31 = some (.slice (some ⟨gi, 0, none⟩) m ci) := by rw [hLe]; rfl
  have tv32 : tv LL 32 = some (.int .i64 (I : Nat)) := by rw [hLe]; rfl
  have tv33 : tv LL 33 = some (.pointer (some ⟨gi, I * 2, none⟩)) := by rw [hLe]; rfl
  have tv34 : tv LL 34 = some (.agg #[.int .i64 q1, .int .i64 q2]) := by rw [hLe]; rfl
  have tv35 : tv LL 35 = some (.bool lv) := by rw [hLe]; rfl
  have tv36 : tv LL 36 = some (.bool false) := by rw [hLe]; rfl
  have tv37 : tv LL 37 = some (.bool false) := by rw [hLe]; rfl
  refine region_gj hmix (by kernel_rfl) 238 hsz (by kernel_rfl) LL (by rw [hLe]; rfl) (J) ((fun (_ _ : World) => True)) hJ0 (fun i v W => True) ?_ ?_ ?_
  · intro i v W W' h hb
    exact trivial
  · intro g b W io o a hS hF hcl ho hb hd ev kp yl
    match io with
    | 0 => simp only [qq] at ho; subst ho; rw [tv0]; have e0 := (kp 0 (none_till (by kernel_rfl))).trans b0; exact dV (by simp [execOp, go_sem, e0]) ⟨hS, trivial⟩
    | 1 => simp only [qq] at ho; subst ho; rw [tv1]; have e6 := (kp 6 (none_till (by kernel_rfl))).trans b6; exact dV (by simp [execOp, go_sem, e6]) ⟨hS, trivial⟩
    | 2 => simp only [qq] at ho; subst ho; rw [tv2]; have e7 := (kp 7 (none_till (by kernel_rfl))).trans b7; exact dV (by simp [execOp, go_sem, e7]) ⟨hS, trivial⟩
    | 3 => simp only [qq] at ho; subst ho; rw [tv3]; have e137 := eT ev hd 1 137 tv1; have e138 := eT ev hd 2 138 tv2; exact dV (by simp [execOp, go_sem, e137, e138, hI]) ⟨hS, trivial⟩
    | 4 => simp only [qq] at ho; subst ho; rw [tv4]; have e139 := eT ev hd 3 139 tv3; have d9_0 := hi0 W hS; have d9_1 := hi1 W hS; exact dV (by simp [execOp, go_sem, e139, d9_0, d9_1]) ⟨hS, trivial⟩
    | 5 =>
      simp only [qq] at ho; subst ho; rw [tv5]; have e136 := eT ev hd 0 136 tv0; have e140 := eT ev hd 4 140 tv4
      refine does_call rfl nofun (f := 18) (args := #[.pointer (some ⟨gt, 0, none⟩), .agg #[.int .i64 q1, .int .i64 q2]]) ?_ ?_
      · simp [go_sem, e136, e140]
      · exact (cH W hS ).mono fun e w' h => ⟨h.1, h.2, trivial⟩
    | 6 => simp only [qq] at ho; subst ho; rw [tv6]; have e12 := (kp 12 (none_till (by kernel_rfl))).trans b12; exact dV (by simp [execOp, go_sem, e12]) ⟨hS, trivial⟩
    | 7 => simp only [qq] at ho; subst ho; rw [tv7]; have e141 := eT ev hd 5 141 tv5; have e142 := eT ev hd 6 142 tv6; exact dV (by simp [execOp, go_sem, e141, e142]) ⟨hS, trivial⟩
    | 8 => simp only [qq] at ho; subst ho; rw [tv8]; have e143 := eT ev hd 7 143 tv7; exact dV (by simp [execOp, go_sem, e143]) ⟨hS, trivial⟩
    | 9 => simp only [qq] at ho; subst ho; rw [tv9]; have e0 := (kp 0 (none_till (by kernel_rfl))).trans b0; exact dG (yl 8 144 false rfl (hG hd 8) tv8) (by simp [execOp, go_sem, e0]) ⟨hS, trivial⟩
    | 10 => simp only [qq] at ho; subst ho; rw [tv10]; have e6 := (kp 6 (none_till (by kernel_rfl))).trans b6; exact dG (yl 8 144 false rfl (hG hd 8) tv8) (by simp [execOp, go_sem, e6]) ⟨hS, trivial⟩
    | 11 => simp only [qq] at ho; subst ho; rw [tv11]; have e7 := (kp 7 (none_till (by kernel_rfl))).trans b7; exact dG (yl 8 144 false rfl (hG hd 8) tv8) (by simp [execOp, go_sem, e7]) ⟨hS, trivial⟩
    | 12 => simp only [qq] at ho; subst ho; rw [tv12]; have e146 := eT ev hd 10 146 tv10; have e147 := eT ev hd 11 147 tv11; exact dG (yl 8 144 false rfl (hG hd 8) tv8) (by simp [execOp, go_sem, e146, e147, hI]) ⟨hS, trivial⟩
    | 13 => simp only [qq] at ho; subst ho; rw [tv13]; have e148 := eT ev hd 12 148 tv12; have d9_0 := hi0 W hS; have d9_1 := hi1 W hS; exact dG (yl 8 144 false rfl (hG hd 8) tv8) (by simp [execOp, go_sem, e148, d9_0, d9_1]) ⟨hS, trivial⟩
    | 14 =>
      simp only [qq] at ho; subst ho; rw [tv14]; have e145 := eT ev hd 9 145 tv9; have e149 := eT ev hd 13 149 tv13
      refine does_call_g rfl (yl 8 144 false rfl (hG hd 8) tv8) nofun (f := 17) (args := #[.pointer (some ⟨gt, 0, none⟩), .agg #[.int .i64 q1, .int .i64 q2]]) ?_ ?_
      · simp [go_sem, e145, e149]
      · exact (cD W hS ).mono fun e w' h => ⟨h.1, h.2, trivial⟩
    | 15 => simp only [qq] at ho; subst ho; rw [tv15]; have e5 := (kp 5 (none_till (by kernel_rfl))).trans b5; exact dG (yl 8 144 false rfl (hG hd 8) tv8) (by simp [execOp, go_sem, e5]) ⟨hS, trivial⟩
    | 16 => simp only [qq] at ho; subst ho; rw [tv16]; have e6 := (kp 6 (none_till (by kernel_rfl))).trans b6; exact dG (yl 8 144 false rfl (hG hd 8) tv8) (by simp [execOp, go_sem, e6]) ⟨hS, trivial⟩
    | 17 => simp only [qq] at ho; subst ho; rw [tv17]; have e7 := (kp 7 (none_till (by kernel_rfl))).trans b7; exact dG (yl 8 144 false rfl (hG hd 8) tv8) (by simp [execOp, go_sem, e7]) ⟨hS, trivial⟩
    | 18 => simp only [qq] at ho; subst ho; rw [tv18]; have e152 := eT ev hd 16 152 tv16; have e153 := eT ev hd 17 153 tv17; exact dG (yl 8 144 false rfl (hG hd 8) tv8) (by simp [execOp, go_sem, e152, e153, hI]) ⟨hS, trivial⟩
    | 19 => simp only [qq] at ho; subst ho; rw [tv19]; have e154 := eT ev hd 18 154 tv18; have d9_0 := hi0 W hS; have d9_1 := hi1 W hS; exact dG (yl 8 144 false rfl (hG hd 8) tv8) (by simp [execOp, go_sem, e154, d9_0, d9_1]) ⟨hS, trivial⟩
    | 20 =>
      simp only [qq] at ho; subst ho; rw [tv20]; have e151 := eT ev hd 15 151 tv15; have e155 := eT ev hd 19 155 tv19
      refine does_call_g rfl (yl 8 144 false rfl (hG hd 8) tv8) nofun (f := 31) (args := #[.pointer (some ⟨gy, 0, none⟩), .agg #[.int .i64 q1, .int .i64 q2]]) ?_ ?_
      · simp [go_sem, e151, e155]
      · exact (cE W hS ).mono fun e w' h => ⟨h.1, h.2, trivial⟩
    | 21 => simp only [qq] at ho; subst ho; rw [tv21]; have e150 := eT ev hd 14 150 tv14; have e156 := eT ev hd 20 156 tv20; exact dG (yl 8 144 false rfl (hG hd 8) tv8) (by simp [execOp, go_sem, e150, e156]) ⟨hS, trivial⟩
    | 22 => simp only [qq] at ho; subst ho; rw [tv22]; have e144 := eT ev hd 8 144 tv8; have e157 := eT ev hd 21 157 tv21; exact dV (by simp [execOp, go_sem, e144, e157]) ⟨hS, trivial⟩
    | 23 => simp only [qq] at ho; subst ho; rw [tv23]; have e158 := eT ev hd 22 158 tv22; exact dV (by simp [execOp, go_sem, e158]) ⟨hS, trivial⟩
    | 24 => simp only [qq] at ho; subst ho; rw [tv24]; have e0 := (kp 0 (none_till (by kernel_rfl))).trans b0; exact dG (yl 23 159 false rfl (hG hd 23) tv23) (by simp [execOp, go_sem, e0]) ⟨hS, trivial⟩
    | 25 => simp only [qq] at ho; subst ho; rw [tv25]; have e6 := (kp 6 (none_till (by kernel_rfl))).trans b6; exact dG (yl 23 159 false rfl (hG hd 23) tv23) (by simp [execOp, go_sem, e6]) ⟨hS, trivial⟩
    | 26 => simp only [qq] at ho; subst ho; rw [tv26]; have e7 := (kp 7 (none_till (by kernel_rfl))).trans b7; exact dG (yl 23 159 false rfl (hG hd 23) tv23) (by simp [execOp, go_sem, e7]) ⟨hS, trivial⟩
    | 27 => simp only [qq] at ho; subst ho; rw [tv27]; have e161 := eT ev hd 25 161 tv25; have e162 := eT ev hd 26 162 tv26; exact dG (yl 23 159 false rfl (hG hd 23) tv23) (by simp [execOp, go_sem, e161, e162, hI]) ⟨hS, trivial⟩
    | 28 => simp only [qq] at ho; subst ho; rw [tv28]; have e163 := eT ev hd 27 163 tv27; have d9_0 := hi0 W hS; have d9_1 := hi1 W hS; exact dG (yl 23 159 false rfl (hG hd 23) tv23) (by simp [execOp, go_sem, e163, d9_0, d9_1]) ⟨hS, trivial⟩
    | 29 =>
      simp only [qq] at ho; subst ho; rw [tv29]; have e160 := eT ev hd 24 160 tv24; have e164 := eT ev hd 28 164 tv28
      refine does_call_g rfl (yl 23 159 false rfl (hG hd 23) tv23) nofun (f := 13) (args := #[.pointer (some ⟨gt, 0, none⟩), .agg #[.int .i64 q1, .int .i64 q2]]) ?_ ?_
      · simp [go_sem, e160, e164]
      · exact (cL W hS ).mono fun e w' h => ⟨h.1, h.2, trivial⟩
    | 30 => simp only [qq] at ho; subst ho; rw [tv30]; have e5 := (kp 5 (none_till (by kernel_rfl))).trans b5; exact dG (yl 23 159 false rfl (hG hd 23) tv23) (by simp [execOp, go_sem, e5]) ⟨hS, trivial⟩
    | 31 => simp only [qq] at ho; subst ho; rw [tv31]; have e6 := (kp 6 (none_till (by kernel_rfl))).trans b6; exact dG (yl 23 159 false rfl (hG hd 23) tv23) (by simp [execOp, go_sem, e6]) ⟨hS, trivial⟩
    | 32 => simp only [qq] at ho; subst ho; rw [tv32]; have e7 := (kp 7 (none_till (by kernel_rfl))).trans b7; exact dG (yl 23 159 false rfl (hG hd 23) tv23) (by simp [execOp, go_sem, e7]) ⟨hS, trivial⟩
    | 33 => simp only [qq] at ho; subst ho; rw [tv33]; have e167 := eT ev hd 31 167 tv31; have e168 := eT ev hd 32 168 tv32; exact dG (yl 23 159 false rfl (hG hd 23) tv23) (by simp [execOp, go_sem, e167, e168, hI]) ⟨hS, trivial⟩
    | 34 => simp only [qq] at ho; subst ho; rw [tv34]; have e169 := eT ev hd 33 169 tv33; have d9_0 := hi0 W hS; have d9_1 := hi1 W hS; exact dG (yl 23 159 false rfl (hG hd 23) tv23) (by simp [execOp, go_sem, e169, d9_0, d9_1]) ⟨hS, trivial⟩
    | 35 =>
      simp only [qq] at ho; subst ho; rw [tv35]; have e166 := eT ev hd 30 166 tv30; have e170 := eT ev hd 34 170 tv34
      refine does_call_g rfl (yl 23 159 false rfl (hG hd 23) tv23) nofun (f := 32) (args := #[.pointer (some ⟨gy, 0, none⟩), .agg #[.int .i64 q1, .int .i64 q2]]) ?_ ?_
      · simp [go_sem, e166, e170]
      · exact (cM W hS ).mono fun e w' h => ⟨h.1, h.2, trivial⟩
    | 36 => simp only [qq] at ho; subst ho; rw [tv36]; have e165 := eT ev hd 29 165 tv29; have e171 := eT ev hd 35 171 tv35; exact dG (yl 23 159 false rfl (hG hd 23) tv23) (by simp [execOp, go_sem, e165, e171]) ⟨hS, trivial⟩
    | 37 => simp only [qq] at ho; subst ho; rw [tv37]; have e159 := eT ev hd 23 159 tv23; have e172 := eT ev hd 36 172 tv36; exact dV (by simp [execOp, go_sem, e159, e172]) ⟨hS, trivial⟩
    | k + 38 => simp at ho
  · intro g W hS hF
    subst hLe
    exact hQ  W hS 
set_option maxRecDepth 8000 in
set_option maxHeartbeats 4000000 in
theorem sm21 {Q : Exit → Act → World → Prop} {base : Array Value} {dd : List Deferred} {ops : Array Oper} (hops : Tryz.f10.body.bind (regs 21) = some ops) (gk gh n ck ch K : Nat) (a1 a2 : Int) (w9 : World) (hsz : base.size = 238) (b13 : base.getD 13 undef = .slice (some ⟨gk, 0, none⟩) n ck) (b14 : base.getD 14 undef = .slice (some ⟨gh, 0, none⟩) n ch) (b15 : base.getD 15 undef = .int .i64 (K : Nat)) (hK : K < n) (hk0 : w9.cell? ⟨gk, K * 2, none⟩ = some (.int .i64 a1)) (hk1 : w9.cell? ⟨gk, K * 2 + 1, none⟩ = some (.int .i64 a2)) (hh0 : w9.cell? ⟨gh, K * 2, none⟩ = some (.int .i64 a1)) (hh1 : w9.cell? ⟨gh, K * 2 + 1, none⟩ = some (.int .i64 a2)) (cS : ∀ W, Below w9.heap.size w9 W → Calls Tryz.prog 12 #[.agg #[.int .i64 a1, .int .i64 a2], .agg #[.int .i64 a1, .int .i64 a2]] W fun e w' => e = .returned (.bool true) ∧ Below W.heap.size W w') (hQ : ∀ W, Below w9.heap.size w9 W → Q .normal ⟨putAll base [(some 197, .slice (some ⟨gk, 0, none⟩) n ck), (some 198, .int .i64 (K : Nat)), (some 199, .pointer (some ⟨gk, K * 2, none⟩)), (some 200, .agg #[.int .i64 a1, .int .i64 a2]), (some 201, .slice (some ⟨gh, 0, none⟩) n ch), (some 202, .int .i64 (K : Nat)), (some 203, .pointer (some ⟨gh, K * 2, none⟩)), (some 204, .agg #[.int .i64 a1, .int .i64 a2]), (some 205, .bool true), (some 206, .bool false)], dd⟩ W) :
    (Code.region 21 ops true).wp Tryz.prog Q ⟨base, dd⟩ w9 := by
  have hmix : Tryz.prog.follows .mixedOrders = true := by kernel_rfl
  have h2 := (show Tryz.f10.body.bind (regs 21) = some _ from rfl).symm.trans hops
  obtain rfl := Option.some.inj h2
  clear h2 hops
  obtain ⟨LL, hLe⟩ : ∃ LL : List (Option Tmp × Option Value), LL = [(some 197, some (.slice (some ⟨gk, 0, none⟩) n ck)), (some 198, some (.int .i64 (K : Nat))), (some 199, some (.pointer (some ⟨gk, K * 2, none⟩))), (some 200, some (.agg #[.int .i64 a1, .int .i64 a2])), (some 201, some (.slice (some ⟨gh, 0, none⟩) n ch)), (some 202, some (.int .i64 (K : Nat))), (some 203, some (.pointer (some ⟨gh, K * 2, none⟩))), (some 204, some (.agg #[.int .i64 a1, .int .i64 a2])), (some 205, some (.bool true)), (some 206, some (.bool false))] := ⟨_, rfl⟩
  have tv0 : tv LL 0 = some (.slice (some ⟨gk, 0, none⟩) n ck) := by rw [hLe]; rfl
  have tv1 : tv LL 1 = some (.int .i64 (K : Nat)) := by rw [hLe]; rfl
  have tv2 : tv LL 2 = some (.pointer (some ⟨gk, K * 2, none⟩)) := by rw [hLe]; rfl
  have tv3 : tv LL 3 = some (.agg #[.int .i64 a1, .int .i64 a2]) := by rw [hLe]; rfl
  have tv4 : tv LL 4 = some (.slice (some ⟨gh, 0, none⟩) n ch) := by rw [hLe]; rfl
  have tv5 : tv LL 5 = some (.int .i64 (K : Nat)) := by rw [hLe]; rfl
  have tv6 : tv LL 6 = some (.pointer (some ⟨gh, K * 2, none⟩)) := by rw [hLe]; rfl
  have tv7 : tv LL 7 = some (.agg #[.int .i64 a1, .int .i64 a2]) := by rw [hLe]; rfl
  have tv8 : tv LL 8 = some (.bool true) := by rw [hLe]; rfl
  have tv9 : tv LL 9 = some (.bool false) := by rw [hLe]; rfl
  refine region_gh hmix (by kernel_rfl) 238 hsz (by kernel_rfl) LL (by rw [hLe]; rfl) (fun i v W => True) ?_ ?_ ?_
  · intro i v W W' h hb
    exact trivial
  · intro g b W io o a hS hF hcl ho hb hd ev kp yl
    match io with
    | 0 => simp only [qq] at ho; subst ho; rw [tv0]; have e13 := (kp 13 (none_till (by kernel_rfl))).trans b13; exact dV (by simp [execOp, go_sem, e13]) (Below.refl _ _)
    | 1 => simp only [qq] at ho; subst ho; rw [tv1]; have e15 := (kp 15 (none_till (by kernel_rfl))).trans b15; exact dV (by simp [execOp, go_sem, e15]) (Below.refl _ _)
    | 2 => simp only [qq] at ho; subst ho; rw [tv2]; have e197 := eT ev hd 0 197 tv0; have e198 := eT ev hd 1 198 tv1; exact dV (by simp [execOp, go_sem, e197, e198, hK]) (Below.refl _ _)
    | 3 => simp only [qq] at ho; subst ho; rw [tv3]; have e199 := eT ev hd 2 199 tv2; have d9_0 := (hS.cell (p := ⟨gk, K * 2, none⟩) (cell_lt hk0)).trans hk0; have d9_1 := (hS.cell (p := ⟨gk, K * 2 + 1, none⟩) (cell_lt hk1)).trans hk1; exact dV (by simp [execOp, go_sem, e199, d9_0, d9_1]) (Below.refl _ _)
    | 4 => simp only [qq] at ho; subst ho; rw [tv4]; have e14 := (kp 14 (none_till (by kernel_rfl))).trans b14; exact dV (by simp [execOp, go_sem, e14]) (Below.refl _ _)
    | 5 => simp only [qq] at ho; subst ho; rw [tv5]; have e15 := (kp 15 (none_till (by kernel_rfl))).trans b15; exact dV (by simp [execOp, go_sem, e15]) (Below.refl _ _)
    | 6 => simp only [qq] at ho; subst ho; rw [tv6]; have e201 := eT ev hd 4 201 tv4; have e202 := eT ev hd 5 202 tv5; exact dV (by simp [execOp, go_sem, e201, e202, hK]) (Below.refl _ _)
    | 7 => simp only [qq] at ho; subst ho; rw [tv7]; have e203 := eT ev hd 6 203 tv6; have d9_0 := (hS.cell (p := ⟨gh, K * 2, none⟩) (cell_lt hh0)).trans hh0; have d9_1 := (hS.cell (p := ⟨gh, K * 2 + 1, none⟩) (cell_lt hh1)).trans hh1; exact dV (by simp [execOp, go_sem, e203, d9_0, d9_1]) (Below.refl _ _)
    | 8 =>
      simp only [qq] at ho; subst ho; rw [tv8]; have e200 := eT ev hd 3 200 tv3; have e204 := eT ev hd 7 204 tv7
      refine does_call rfl nofun (f := 12) (args := #[.agg #[.int .i64 a1, .int .i64 a2], .agg #[.int .i64 a1, .int .i64 a2]]) ?_ ?_
      · simp [go_sem, e200, e204]
      · exact cS W hS 
    | 9 => simp only [qq] at ho; subst ho; rw [tv9]; have e205 := eT ev hd 8 205 tv8; exact dV (by simp [execOp, go_sem, e205]) (Below.refl _ _)
    | k + 10 => simp at ho
  · intro g W hS hF
    subst hLe
    exact hQ  W hS 
set_option maxRecDepth 8000 in
set_option maxHeartbeats 4000000 in
theorem sm26 {Q : Exit → Act → World → Prop} {base : Array Value} {dd : List Deferred} {ops : Array Oper} (hops : Tryz.f10.body.bind (regs 26) = some ops) (J : World → Prop) (gt gy gi m ci I K : Nat) (q1 q2 r1 r2 : Int) (bb : Bool) (w9 : World) (hsz : base.size = 238) (b0 : base.getD 0 undef = .pointer (some ⟨gt, 0, none⟩)) (b5 : base.getD 5 undef = .pointer (some ⟨gy, 0, none⟩)) (b6 : base.getD 6 undef = .slice (some ⟨gi, 0, none⟩) m ci) (b7 : base.getD 7 undef = .int .i64 (I : Nat)) (b16 : base.getD 16 undef = .int .i64 (K : Nat)) (hJ0 : (J) w9.drew) (hI : I < m) (hi0 : ∀ W, J W → W.cell? ⟨gi, I * 2, none⟩ = some (.int .i64 q1)) (hi1 : ∀ W, J W → W.cell? ⟨gi, I * 2 + 1, none⟩ = some (.int .i64 q2)) (hK : K < m) (hr0 : ∀ W, J W → W.cell? ⟨gi, K * 2, none⟩ = some (.int .i64 r1)) (hr1 : ∀ W, J W → W.cell? ⟨gi, K * 2 + 1, none⟩ = some (.int .i64 r2)) (cB : ∀ W, (J) W → Calls Tryz.prog 14 #[.pointer (some ⟨gt, 0, none⟩), .agg #[.int .i64 q1, .int .i64 q2], .agg #[.int .i64 r1, .int .i64 r2]] W fun e w' => e = .returned (.bool bb) ∧ (J) w') (cC : ∀ W, (J) W → Calls Tryz.prog 34 #[.pointer (some ⟨gy, 0, none⟩), .agg #[.int .i64 q1, .int .i64 q2], .agg #[.int .i64 r1, .int .i64 r2]] W fun e w' => e = .returned (.bool bb) ∧ (J) w') (hQ : ∀ W, (J) W → Q .normal ⟨putAll base [(some 217, .pointer (some ⟨gt, 0, none⟩)), (some 218, .slice (some ⟨gi, 0, none⟩) m ci), (some 219, .int .i64 (I : Nat)), (some 220, .pointer (some ⟨gi, I * 2, none⟩)), (some 221, .agg #[.int .i64 q1, .int .i64 q2]), (some 222, .slice (some ⟨gi, 0, none⟩) m ci), (some 223, .int .i64 (K : Nat)), (some 224, .pointer (some ⟨gi, K * 2, none⟩)), (some 225, .agg #[.int .i64 r1, .int .i64 r2]), (some 226, .bool bb), (some 227, .pointer (some ⟨gy, 0, none⟩)), (some 228, .slice (some ⟨gi, 0, none⟩) m ci), (some 229, .int .i64 (I : Nat)), (some 230, .pointer (some ⟨gi, I * 2, none⟩)), (some 231, .agg #[.int .i64 q1, .int .i64 q2]), (some 232, .slice (some ⟨gi, 0, none⟩) m ci), (some 233, .int .i64 (K : Nat)), (some 234, .pointer (some ⟨gi, K * 2, none⟩)), (some 235, .agg #[.int .i64 r1, .int .i64 r2]), (some 236, .bool bb), (some 237, .bool false)], dd⟩ W) :
    (Code.region 26 ops true).wp Tryz.prog Q ⟨base, dd⟩ w9 := by
  have hmix : Tryz.prog.follows .mixedOrders = true := by kernel_rfl
  have h2 := (show Tryz.f10.body.bind (regs 26) = some _ from rfl).symm.trans hops
  obtain rfl := Option.some.inj h2
  clear h2 hops
  obtain ⟨LL, hLe⟩ : ∃ LL : List (Option Tmp × Option Value), LL = [(some 217, some (.pointer (some ⟨gt, 0, none⟩))), (some 218, some (.slice (some ⟨gi, 0, none⟩) m ci)), (some 219, some (.int .i64 (I : Nat))), (some 220, some (.pointer (some ⟨gi, I * 2, none⟩))), (some 221, some (.agg #[.int .i64 q1, .int .i64 q2])), (some 222, some (.slice (some ⟨gi, 0, none⟩) m ci)), (some 223, some (.int .i64 (K : Nat))), (some 224, some (.pointer (some ⟨gi, K * 2, none⟩))), (some 225, some (.agg #[.int .i64 r1, .int .i64 r2])), (some 226, some (.bool bb)), (some 227, some (.pointer (some ⟨gy, 0, none⟩))), (some 228, some (.slice (some ⟨gi, 0, none⟩) m ci)), (some 229, some (.int .i64 (I : Nat))), (some 230, some (.pointer (some ⟨gi, I * 2, none⟩))), (some 231, some (.agg #[.int .i64 q1, .int .i64 q2])), (some 232, some (.slice (some ⟨gi, 0, none⟩) m ci)), (some 233, some (.int .i64 (K : Nat))), (some 234, some (.pointer (some ⟨gi, K * 2, none⟩))), (some 235, some (.agg #[.int .i64 r1, .int .i64 r2])), (some 236, some (.bool bb)), (some 237, some (.bool false))] := ⟨_, rfl⟩
  have tv0 : tv LL 0 = some (.pointer (some ⟨gt, 0, none⟩)) := by rw [hLe]; rfl
  have tv1 : tv LL 1 = some (.slice (some ⟨gi, 0, none⟩) m ci) := by rw [hLe]; rfl
  have tv2 : tv LL 2 = some (.int .i64 (I : Nat)) := by rw [hLe]; rfl
  have tv3 : tv LL 3 = some (.pointer (some ⟨gi, I * 2, none⟩)) := by rw [hLe]; rfl
  have tv4 : tv LL 4 = some (.agg #[.int .i64 q1, .int .i64 q2]) := by rw [hLe]; rfl
  have tv5 : tv LL 5 = some (.slice (some ⟨gi, 0, none⟩) m ci) := by rw [hLe]; rfl
  have tv6 : tv LL 6 = some (.int .i64 (K : Nat)) := by rw [hLe]; rfl
  have tv7 : tv LL 7 = some (.pointer (some ⟨gi, K * 2, none⟩)) := by rw [hLe]; rfl
  have tv8 : tv LL 8 = some (.agg #[.int .i64 r1, .int .i64 r2]) := by rw [hLe]; rfl
  have tv9 : tv LL 9 = some (.bool bb) := by rw [hLe]; rfl
  have tv10 : tv LL 10 = some (.pointer (some ⟨gy, 0, none⟩)) := by rw [hLe]; rfl
  have tv11 : tv LL 11 = some (.slice (some ⟨gi, 0, none⟩) m ci) := by rw [hLe]; rfl
  have tv12 : tv LL 12 = some (.int .i64 (I : Nat)) := by rw [hLe]; rfl
  have tv13 : tv LL 13 = some (.pointer (some ⟨gi, I * 2, none⟩)) := by rw [hLe]; rfl
  have tv14 : tv LL 14 = some (.agg #[.int .i64 q1, .int .i64 q2]) := by rw [hLe]; rfl
  have tv15 : tv LL 15 = some (.slice (some ⟨gi, 0, none⟩) m ci) := by rw [hLe]; rfl
  have tv16 : tv LL 16 = some (.int .i64 (K : Nat)) := by rw [hLe]; rfl
  have tv17 : tv LL 17 = some (.pointer (some ⟨gi, K * 2, none⟩)) := by rw [hLe]; rfl
  have tv18 : tv LL 18 = some (.agg #[.int .i64 r1, .int .i64 r2]) := by rw [hLe]; rfl
  have tv19 : tv LL 19 = some (.bool bb) := by rw [hLe]; rfl
  have tv20 : tv LL 20 = some (.bool false) := by rw [hLe]; rfl
  refine region_gj hmix (by kernel_rfl) 238 hsz (by kernel_rfl) LL (by rw [hLe]; rfl) (J) ((fun (_ _ : World) => True)) hJ0 (fun i v W => True) ?_ ?_ ?_
  · intro i v W W' h hb
    exact trivial
  · intro g b W io o a hS hF hcl ho hb hd ev kp yl
    match io with
    | 0 => simp only [qq] at ho; subst ho; rw [tv0]; have e0 := (kp 0 (none_till (by kernel_rfl))).trans b0; exact dV (by simp [execOp, go_sem, e0]) ⟨hS, trivial⟩
    | 1 => simp only [qq] at ho; subst ho; rw [tv1]; have e6 := (kp 6 (none_till (by kernel_rfl))).trans b6; exact dV (by simp [execOp, go_sem, e6]) ⟨hS, trivial⟩
    | 2 => simp only [qq] at ho; subst ho; rw [tv2]; have e7 := (kp 7 (none_till (by kernel_rfl))).trans b7; exact dV (by simp [execOp, go_sem, e7]) ⟨hS, trivial⟩
    | 3 => simp only [qq] at ho; subst ho; rw [tv3]; have e218 := eT ev hd 1 218 tv1; have e219 := eT ev hd 2 219 tv2; exact dV (by simp [execOp, go_sem, e218, e219, hI]) ⟨hS, trivial⟩
    | 4 => simp only [qq] at ho; subst ho; rw [tv4]; have e220 := eT ev hd 3 220 tv3; have d9_0 := hi0 W hS; have d9_1 := hi1 W hS; exact dV (by simp [execOp, go_sem, e220, d9_0, d9_1]) ⟨hS, trivial⟩
    | 5 => simp only [qq] at ho; subst ho; rw [tv5]; have e6 := (kp 6 (none_till (by kernel_rfl))).trans b6; exact dV (by simp [execOp, go_sem, e6]) ⟨hS, trivial⟩
    | 6 => simp only [qq] at ho; subst ho; rw [tv6]; have e16 := (kp 16 (none_till (by kernel_rfl))).trans b16; exact dV (by simp [execOp, go_sem, e16]) ⟨hS, trivial⟩
    | 7 => simp only [qq] at ho; subst ho; rw [tv7]; have e222 := eT ev hd 5 222 tv5; have e223 := eT ev hd 6 223 tv6; exact dV (by simp [execOp, go_sem, e222, e223, hK]) ⟨hS, trivial⟩
    | 8 => simp only [qq] at ho; subst ho; rw [tv8]; have e224 := eT ev hd 7 224 tv7; have d9_0 := hr0 W hS; have d9_1 := hr1 W hS; exact dV (by simp [execOp, go_sem, e224, d9_0, d9_1]) ⟨hS, trivial⟩
    | 9 =>
      simp only [qq] at ho; subst ho; rw [tv9]; have e217 := eT ev hd 0 217 tv0; have e221 := eT ev hd 4 221 tv4; have e225 := eT ev hd 8 225 tv8
      refine does_call rfl nofun (f := 14) (args := #[.pointer (some ⟨gt, 0, none⟩), .agg #[.int .i64 q1, .int .i64 q2], .agg #[.int .i64 r1, .int .i64 r2]]) ?_ ?_
      · simp [go_sem, e217, e221, e225]
      · exact (cB W hS ).mono fun e w' h => ⟨h.1, h.2, trivial⟩
    | 10 => simp only [qq] at ho; subst ho; rw [tv10]; have e5 := (kp 5 (none_till (by kernel_rfl))).trans b5; exact dV (by simp [execOp, go_sem, e5]) ⟨hS, trivial⟩
    | 11 => simp only [qq] at ho; subst ho; rw [tv11]; have e6 := (kp 6 (none_till (by kernel_rfl))).trans b6; exact dV (by simp [execOp, go_sem, e6]) ⟨hS, trivial⟩
    | 12 => simp only [qq] at ho; subst ho; rw [tv12]; have e7 := (kp 7 (none_till (by kernel_rfl))).trans b7; exact dV (by simp [execOp, go_sem, e7]) ⟨hS, trivial⟩
    | 13 => simp only [qq] at ho; subst ho; rw [tv13]; have e228 := eT ev hd 11 228 tv11; have e229 := eT ev hd 12 229 tv12; exact dV (by simp [execOp, go_sem, e228, e229, hI]) ⟨hS, trivial⟩
    | 14 => simp only [qq] at ho; subst ho; rw [tv14]; have e230 := eT ev hd 13 230 tv13; have d9_0 := hi0 W hS; have d9_1 := hi1 W hS; exact dV (by simp [execOp, go_sem, e230, d9_0, d9_1]) ⟨hS, trivial⟩
    | 15 => simp only [qq] at ho; subst ho; rw [tv15]; have e6 := (kp 6 (none_till (by kernel_rfl))).trans b6; exact dV (by simp [execOp, go_sem, e6]) ⟨hS, trivial⟩
    | 16 => simp only [qq] at ho; subst ho; rw [tv16]; have e16 := (kp 16 (none_till (by kernel_rfl))).trans b16; exact dV (by simp [execOp, go_sem, e16]) ⟨hS, trivial⟩
    | 17 => simp only [qq] at ho; subst ho; rw [tv17]; have e232 := eT ev hd 15 232 tv15; have e233 := eT ev hd 16 233 tv16; exact dV (by simp [execOp, go_sem, e232, e233, hK]) ⟨hS, trivial⟩
    | 18 => simp only [qq] at ho; subst ho; rw [tv18]; have e234 := eT ev hd 17 234 tv17; have d9_0 := hr0 W hS; have d9_1 := hr1 W hS; exact dV (by simp [execOp, go_sem, e234, d9_0, d9_1]) ⟨hS, trivial⟩
    | 19 =>
      simp only [qq] at ho; subst ho; rw [tv19]; have e227 := eT ev hd 10 227 tv10; have e231 := eT ev hd 14 231 tv14; have e235 := eT ev hd 18 235 tv18
      refine does_call rfl nofun (f := 34) (args := #[.pointer (some ⟨gy, 0, none⟩), .agg #[.int .i64 q1, .int .i64 q2], .agg #[.int .i64 r1, .int .i64 r2]]) ?_ ?_
      · simp [go_sem, e227, e231, e235]
      · exact (cC W hS ).mono fun e w' h => ⟨h.1, h.2, trivial⟩
    | 20 => simp only [qq] at ho; subst ho; rw [tv20]; have e226 := eT ev hd 9 226 tv9; have e236 := eT ev hd 19 236 tv19; exact dV (by simp [execOp, go_sem, e226, e236]) ⟨hS, trivial⟩
    | k + 21 => simp at ho
  · intro g W hS hF
    subst hLe
    exact hQ  W hS 
end Go.Proofs.YtgpbphjplbhfmaaGreat.Ck.Y.S
