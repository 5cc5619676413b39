import Derived.Test.YthhakekbffembaaGreatDoorQOa
import Derived.Test.YthhakekbffembaaGreatDoorQKcodm
import Derived.Test.YthhakekbffembaaGreatDoorKZr

namespace Go.Proofs.YthhakekbffembaaGreatDoor.Cd
open Go.RowKit Go.Maps
def regs (n : Nat) : Code → Option (Array Oper)
 | .region k ops _ => if k = n then some ops else none
 | .seq a b => match regs n a with | some x => some x | none => regs n b
 | .cond _ a b => match regs n a with | some x => some x | none => regs n b
 | .block _ b => regs n b
 | .loop b => regs n b
 | .scope b => regs n b
 | .rangeFunc _ _ a b => match regs n a with | some x => some x | none => regs n b
 | _ => none
set_option maxRecDepth 8000 in
set_option maxHeartbeats 4000000 in
theorem hold_root {Q : Exit → Act → World → Prop} {base : Array Value} {dd : List Deferred} {ops : Array Oper} (hops : Tryz.f141.body.bind (regs 1) = some ops) (g : Nat) (t n sq kd ot on pt pn : Int) (nm : List UInt8) (p q : Option Addr) (l c m d : Nat) (w9 : World) (hsz : base.size = 13) (b1 : base.getD 1 undef = .pointer (some ⟨g, 0, none⟩)) (h9 : OpB w9 g t n sq kd ot on pt pn nm p q l c m d) (cR : ∀ W, Below w9.heap.size w9 W → Calls Tryz.prog 42 #[] W fun e w' => e = .returned (.agg #[.int .i64 0, .int .i64 0]) ∧ Below W.heap.size W w') (hr : pt = 0 ∧ pn = 0) (hQ : ∀ W, Below w9.heap.size w9 W → Q .normal ⟨putAll base [(some 3, .pointer (some ⟨g, 6, none⟩)), (some 4, .agg #[.int .i64 pt, .int .i64 pn]), (some 5, .agg #[.int .i64 0, .int .i64 0]), (some 6, .bool true), (some 7, .bool true), (some 8, undef), (some 9, undef), (some 10, undef), (some 11, undef), (some 12, .bool true), (some 2, .bool true)], dd⟩ W) :
   (Code.region 1 ops true).wp Tryz.prog Q ⟨base, dd⟩ w9 := by
 have hmix := hmx
 have h2 := (show Tryz.f141.body.bind (regs 1) = some _ from rfl).symm.trans hops
 obtain rfl := Option.some.inj h2
 clear h2 hops
 have below9 : Below w9.heap.size w9 w9.drew := (Below.refl _ _).drew
 obtain ⟨LL, hLe⟩ := qL hQ
 have vv0 : vals LL 0 = .pointer (some ⟨g, 6, none⟩) := vL hLe rfl
 have vv1 : vals LL 1 = .agg #[.int .i64 pt, .int .i64 pn] := vL hLe rfl
 have vv2 : vals LL 2 = .agg #[.int .i64 0, .int .i64 0] := vL hLe rfl
 have vv3 : vals LL 3 = .bool true := vL hLe rfl
 have vv4 : vals LL 4 = .bool true := vL hLe rfl
 have vv9 : vals LL 9 = .bool true := vL hLe rfl
 have vv10 : vals LL 10 = .bool true := vL hLe rfl
 refine region_laid hmix (by kernel_rfl) 13 hsz (by kernel_rfl) LL (by rw [hLe]; rfl) (fun _ W => Below w9.heap.size w9 W) below9 ?_ ?_
 · intro b W i o a hS hcl ho hb hd ev kp yl
   match i with
   | 0 => simp only [qq] at ho; subst ho; have e1 := (kp 1 (by kernel_rfl)).trans b1; rw [vv0]; exact dV (by simp [execOp, go_sem, e1]) hS
   | 1 =>
     simp only [qq] at ho; subst ho; have e3 := eD ev hd 0 3 vv0
     obtain ⟨d0, d1, d2, d3, d4, d5, d6, d7, d8, d9, d10⟩ := (h9.below hS).cells
     rw [vv1]; exact dV (by simp [execOp, go_sem, e3, d6, d7]) hS
   | 2 =>
     simp only [qq] at ho; subst ho; rw [vv2]
     refine does_call rfl nofun (f := 42) (args := #[]) ?_ ?_
     · simp [go_sem, ]
     · exact (cR W hS).mono (fun e w' h => ⟨h.1, hS.trans (h.2.mono hS.size)⟩)
   | 3 => simp only [qq] at ho; subst ho; have e4 := eD ev hd 1 4 vv1; have e5 := eD ev hd 2 5 vv2; rw [vv3]; exact dV (by simp [execOp, go_sem, e4, e5, hr.1, hr.2]) hS
   | 4 => simp only [qq] at ho; subst ho; have e6 := eD ev hd 3 6 vv3; rw [vv4]; exact dV (by simp [execOp, go_sem, e6]) hS
   | 5 => simp only [qq] at ho; subst ho; exact does_pass rfl (yl 4 7 true rfl (hG hd 4) vv4) (by decide) (vL hLe rfl) (hS)
   | 6 => simp only [qq] at ho; subst ho; exact does_pass rfl (yl 4 7 true rfl (hG hd 4) vv4) (by decide) (vL hLe rfl) (hS)
   | 7 => simp only [qq] at ho; subst ho; exact does_pass rfl (yl 4 7 true rfl (hG hd 4) vv4) (by decide) (vL hLe rfl) (hS)
   | 8 => simp only [qq] at ho; subst ho; exact does_pass rfl (yl 4 7 true rfl (hG hd 4) vv4) (by decide) (vL hLe rfl) (hS)
   | 9 => simp only [qq] at ho; subst ho; have e7 := eD ev hd 4 7 vv4; rw [vv9]; exact dV (by simp [execOp, go_sem, e7]) hS
   | 10 => simp only [qq] at ho; subst ho; have e12 := eD ev hd 9 12 vv9; rw [vv10]; exact dV (by simp [execOp, go_sem, e12]) hS
   | k + 11 => simp at ho
 · intro b' W hS _
   subst hLe
   exact hQ W hS
set_option maxRecDepth 8000 in
set_option maxHeartbeats 4000000 in
theorem hold_not {Q : Exit → Act → World → Prop} {base : Array Value} {dd : List Deferred} {ops : Array Oper} (hops : Tryz.f141.body.bind (regs 1) = some ops) (g : Nat) (t n sq kd ot on pt pn : Int) (nm : List UInt8) (p q : Option Addr) (l c m d : Nat) (w9 : World) (hsz : base.size = 13) (b1 : base.getD 1 undef = .pointer (some ⟨g, 0, none⟩)) (h9 : OpB w9 g t n sq kd ot on pt pn nm p q l c m d) (cR : ∀ W, Below w9.heap.size w9 W → Calls Tryz.prog 42 #[] W fun e w' => e = .returned (.agg #[.int .i64 0, .int .i64 0]) ∧ Below W.heap.size W w') (hr : ¬ pt = 0 ∨ ¬ pn = 0) (x : Bool) (cE : ∀ W, Below w9.heap.size w9 W → Calls Tryz.prog 143 #[.agg #[.int .i64 pt, .int .i64 pn], .agg #[.int .i64 t, .int .i64 n, .int .i64 sq, .int .i64 kd, .int .i64 ot, .int .i64 on, .int .i64 pt, .int .i64 pn, .string (bas nm), .slice p l c, .slice q m d]] W fun e w' => e = .returned (.bool x) ∧ Below W.heap.size W w') (hQ : ∀ W, Below w9.heap.size w9 W → Q .normal ⟨putAll base [(some 3, .pointer (some ⟨g, 6, none⟩)), (some 4, .agg #[.int .i64 pt, .int .i64 pn]), (some 5, .agg #[.int .i64 0, .int .i64 0]), (some 6, .bool false), (some 7, .bool false), (some 8, .pointer (some ⟨g, 6, none⟩)), (some 9, .agg #[.int .i64 pt, .int .i64 pn]), (some 10, .agg #[.int .i64 t, .int .i64 n, .int .i64 sq, .int .i64 kd, .int .i64 ot, .int .i64 on, .int .i64 pt, .int .i64 pn, .string (bas nm), .slice p l c, .slice q m d]), (some 11, .bool x), (some 12, .bool x), (some 2, .bool x)], dd⟩ W) :
   (Code.region 1 ops true).wp Tryz.prog Q ⟨base, dd⟩ w9 := by
 have hmix := hmx
 have h2 := (show Tryz.f141.body.bind (regs 1) = some _ from rfl).symm.trans hops
 obtain rfl := Option.some.inj h2
 clear h2 hops
 have below9 : Below w9.heap.size w9 w9.drew := (Below.refl _ _).drew
 obtain ⟨LL, hLe⟩ := qL hQ
 have vv0 : vals LL 0 = .pointer (some ⟨g, 6, none⟩) := vL hLe rfl
 have vv1 : vals LL 1 = .agg #[.int .i64 pt, .int .i64 pn] := vL hLe rfl
 have vv2 : vals LL 2 = .agg #[.int .i64 0, .int .i64 0] := vL hLe rfl
 have vv3 : vals LL 3 = .bool false := vL hLe rfl
 have vv4 : vals LL 4 = .bool false := vL hLe rfl
 have vv5 : vals LL 5 = .pointer (some ⟨g, 6, none⟩) := vL hLe rfl
 have vv6 : vals LL 6 = .agg #[.int .i64 pt, .int .i64 pn] := vL hLe rfl
 have vv7 : vals LL 7 = .agg #[.int .i64 t, .int .i64 n, .int .i64 sq, .int .i64 kd, .int .i64 ot, .int .i64 on, .int .i64 pt, .int .i64 pn, .string (bas nm), .slice p l c, .slice q m d] := vL hLe rfl
 have vv8 : vals LL 8 = .bool x := vL hLe rfl
 have vv9 : vals LL 9 = .bool x := vL hLe rfl
 have vv10 : vals LL 10 = .bool x := vL hLe rfl
 refine region_laid hmix (by kernel_rfl) 13 hsz (by kernel_rfl) LL (by rw [hLe]; rfl) (fun _ W => Below w9.heap.size w9 W) below9 ?_ ?_
 · intro b W i o a hS hcl ho hb hd ev kp yl
   match i with
   | 0 => simp only [qq] at ho; subst ho; have e1 := (kp 1 (by kernel_rfl)).trans b1; rw [vv0]; exact dV (by simp [execOp, go_sem, e1]) hS
   | 1 =>
     simp only [qq] at ho; subst ho; have e3 := eD ev hd 0 3 vv0
     obtain ⟨d0, d1, d2, d3, d4, d5, d6, d7, d8, d9, d10⟩ := (h9.below hS).cells
     rw [vv1]; exact dV (by simp [execOp, go_sem, e3, d6, d7]) hS
   | 2 =>
     simp only [qq] at ho; subst ho; rw [vv2]
     refine does_call rfl nofun (f := 42) (args := #[]) ?_ ?_
     · simp [go_sem, ]
     · exact (cR W hS).mono (fun e w' h => ⟨h.1, hS.trans (h.2.mono hS.size)⟩)
   | 3 => simp only [qq] at ho; subst ho; have e4 := eD ev hd 1 4 vv1; have e5 := eD ev hd 2 5 vv2; rw [vv3]; exact dV (by rcases hr with h | h <;> simp [execOp, go_sem, e4, e5, h]) hS
   | 4 => simp only [qq] at ho; subst ho; have e6 := eD ev hd 3 6 vv3; rw [vv4]; exact dV (by simp [execOp, go_sem, e6]) hS
   | 5 => simp only [qq] at ho; subst ho; have e1 := (kp 1 (by kernel_rfl)).trans b1; rw [vv5]; exact dG (yl 4 7 false rfl (hG hd 4) vv4) (by simp [execOp, go_sem, e1]) hS
   | 6 =>
     simp only [qq] at ho; subst ho; have e8 := eD ev hd 5 8 vv5
     obtain ⟨d0, d1, d2, d3, d4, d5, d6, d7, d8, d9, d10⟩ := (h9.below hS).cells
     rw [vv6]; exact dG (yl 4 7 false rfl (hG hd 4) vv4) (by simp [execOp, go_sem, e8, d6, d7]) hS
   | 7 =>
     simp only [qq] at ho; subst ho; have e1 := (kp 1 (by kernel_rfl)).trans b1
     obtain ⟨d0, d1, d2, d3, d4, d5, d6, d7, d8, d9, d10⟩ := (h9.below hS).cells
     rw [vv7]; exact dG (yl 4 7 false rfl (hG hd 4) vv4) (by simp [execOp, go_sem, e1, d0, d1, d2, d3, d4, d5, d6, d7, d8, d9, d10]) hS
   | 8 =>
     simp only [qq] at ho; subst ho; have e9 := eD ev hd 6 9 vv6; have e10 := eD ev hd 7 10 vv7; rw [vv8]
     refine does_call_g rfl (yl 4 7 false rfl (hG hd 4) vv4) nofun (f := 143) (args := #[.agg #[.int .i64 pt, .int .i64 pn], .agg #[.int .i64 t, .int .i64 n, .int .i64 sq, .int .i64 kd, .int .i64 ot, .int .i64 on, .int .i64 pt, .int .i64 pn, .string (bas nm), .slice p l c, .slice q m d]]) ?_ ?_
     · simp [go_sem, e9, e10]
     · exact (cE W hS).mono (fun e w' h => ⟨h.1, hS.trans (h.2.mono hS.size)⟩)
   | 9 => simp only [qq] at ho; subst ho; have e7 := eD ev hd 4 7 vv4; have e11 := eD ev hd 8 11 vv8; rw [vv9]; exact dV (by simp [execOp, go_sem, e7, e11]) hS
   | 10 => simp only [qq] at ho; subst ho; have e12 := eD ev hd 9 12 vv9; rw [vv10]; exact dV (by simp [execOp, go_sem, e12]) hS
   | k + 11 => simp at ho
 · intro b' W hS _
   subst hLe
   exact hQ W hS
set_option maxRecDepth 8000 in
set_option maxHeartbeats 4000000 in
theorem cnt_low {Q : Exit → Act → World → Prop} {base : Array Value} {dd : List Deferred} {ops : Array Oper} (hops : Tryz.f100.body.bind (regs 1) = some ops) (g : Nat) (t n sq kd ot on pt pn : Int) (nm : List UInt8) (p q : Option Addr) (l c m d : Nat) (w9 : World) (hsz : base.size = 28) (b1 : base.getD 1 undef = .pointer (some ⟨g, 0, none⟩)) (h9 : OpB w9 g t n sq kd ot on pt pn nm p q l c m d) (h1 : ¬ 1 ≤ sq) (hQ : ∀ W, Below w9.heap.size w9 W → Q .normal ⟨putAll base [(some 3, .pointer (some ⟨g, 2, none⟩)), (some 4, .int .i64 sq), (some 5, .bool false), (some 6, .bool false), (some 7, undef), (some 8, undef), (some 9, undef), (some 10, .bool false), (some 11, .bool false), (some 12, undef), (some 13, undef), (some 14, undef), (some 15, .bool false), (some 16, .bool false), (some 17, undef), (some 18, undef), (some 19, undef), (some 20, undef), (some 21, undef), (some 22, undef), (some 23, undef), (some 24, undef), (some 25, undef), (some 26, undef), (some 27, .bool false), (some 2, .bool false)], dd⟩ W) :
   (Code.region 1 ops true).wp Tryz.prog Q ⟨base, dd⟩ w9 := by
 have hmix := hmx
 have h2 := (show Tryz.f100.body.bind (regs 1) = some _ from rfl).symm.trans hops
 obtain rfl := Option.some.inj h2
 clear h2 hops
 have below9 : Below w9.heap.size w9 w9.drew := (Below.refl _ _).drew
 obtain ⟨LL, hLe⟩ := qL hQ
 have vv0 : vals LL 0 = .pointer (some ⟨g, 2, none⟩) := vL hLe rfl
 have vv1 : vals LL 1 = .int .i64 sq := vL hLe rfl
 have vv2 : vals LL 2 = .bool false := vL hLe rfl
 have vv3 : vals LL 3 = .bool false := vL hLe rfl
 have vv7 : vals LL 7 = .bool false := vL hLe rfl
 have vv8 : vals LL 8 = .bool false := vL hLe rfl
 have vv12 : vals LL 12 = .bool false := vL hLe rfl
 have vv13 : vals LL 13 = .bool false := vL hLe rfl
 have vv24 : vals LL 24 = .bool false := vL hLe rfl
 have vv25 : vals LL 25 = .bool false := vL hLe rfl
 refine region_laid hmix (by kernel_rfl) 28 hsz (by kernel_rfl) LL (by rw [hLe]; rfl) (fun _ W => Below w9.heap.size w9 W) below9 ?_ ?_
 · intro b W i o a hS hcl ho hb hd ev kp yl
   match i with
   | 0 => simp only [qq] at ho; subst ho; have e1 := (kp 1 (by kernel_rfl)).trans b1; rw [vv0]; exact dV (by simp [execOp, go_sem, e1]) hS
   | 1 =>
     simp only [qq] at ho; subst ho; have e3 := eD ev hd 0 3 vv0
     obtain ⟨d0, d1, d2, d3, d4, d5, d6, d7, d8, d9, d10⟩ := (h9.below hS).cells
     rw [vv1]; exact dV (by simp [execOp, go_sem, e3, d2]) hS
   | 2 => simp only [qq] at ho; subst ho; have e4 := eD ev hd 1 4 vv1; rw [vv2]; exact dV (by simp [execOp, go_sem, e4, h1]) hS
   | 3 => simp only [qq] at ho; subst ho; have e5 := eD ev hd 2 5 vv2; rw [vv3]; exact dV (by simp [execOp, go_sem, e5]) hS
   | 4 => simp only [qq] at ho; subst ho; exact does_pass rfl (yl 3 6 false rfl (hG hd 3) vv3) (by decide) (vL hLe rfl) (hS)
   | 5 => simp only [qq] at ho; subst ho; exact does_pass rfl (yl 3 6 false rfl (hG hd 3) vv3) (by decide) (vL hLe rfl) (hS)
   | 6 => simp only [qq] at ho; subst ho; exact does_pass rfl (yl 3 6 false rfl (hG hd 3) vv3) (by decide) (vL hLe rfl) (hS)
   | 7 => simp only [qq] at ho; subst ho; have e6 := eD ev hd 3 6 vv3; rw [vv7]; exact dV (by simp [execOp, go_sem, e6]) hS
   | 8 => simp only [qq] at ho; subst ho; have e10 := eD ev hd 7 10 vv7; rw [vv8]; exact dV (by simp [execOp, go_sem, e10]) hS
   | 9 => simp only [qq] at ho; subst ho; exact does_pass rfl (yl 8 11 false rfl (hG hd 8) vv8) (by decide) (vL hLe rfl) (hS)
   | 10 => simp only [qq] at ho; subst ho; exact does_pass rfl (yl 8 11 false rfl (hG hd 8) vv8) (by decide) (vL hLe rfl) (hS)
   | 11 => simp only [qq] at ho; subst ho; exact does_pass rfl (yl 8 11 false rfl (hG hd 8) vv8) (by decide) (vL hLe rfl) (hS)
   | 12 => simp only [qq] at ho; subst ho; have e11 := eD ev hd 8 11 vv8; rw [vv12]; exact dV (by simp [execOp, go_sem, e11]) hS
   | 13 => simp only [qq] at ho; subst ho; have e15 := eD ev hd 12 15 vv12; rw [vv13]; exact dV (by simp [execOp, go_sem, e15]) hS
   | 14 => simp only [qq] at ho; subst ho; exact does_pass rfl (yl 13 16 false rfl (hG hd 13) vv13) (by decide) (vL hLe rfl) (hS)
   | 15 => simp only [qq] at ho; subst ho; exact does_pass rfl (yl 13 16 false rfl (hG hd 13) vv13) (by decide) (vL hLe rfl) (hS)
   | 16 => simp only [qq] at ho; subst ho; exact does_pass rfl (yl 13 16 false rfl (hG hd 13) vv13) (by decide) (vL hLe rfl) (hS)
   | 17 => simp only [qq] at ho; subst ho; exact does_pass rfl (yl 13 16 false rfl (hG hd 13) vv13) (by decide) (vL hLe rfl) (hS)
   | 18 => simp only [qq] at ho; subst ho; exact does_pass rfl (yl 13 16 false rfl (hG hd 13) vv13) (by decide) (vL hLe rfl) (hS)
   | 19 => simp only [qq] at ho; subst ho; exact does_pass rfl (yl 13 16 false rfl (hG hd 13) vv13) (by decide) (vL hLe rfl) (hS)
   | 20 => simp only [qq] at ho; subst ho; exact does_pass rfl (yl 13 16 false rfl (hG hd 13) vv13) (by decide) (vL hLe rfl) (hS)
   | 21 => simp only [qq] at ho; subst ho; exact does_pass rfl (yl 13 16 false rfl (hG hd 13) vv13) (by decide) (vL hLe rfl) (hS)
   | 22 => simp only [qq] at ho; subst ho; exact does_pass rfl (yl 13 16 false rfl (hG hd 13) vv13) (by decide) (vL hLe rfl) (hS)
   | 23 => simp only [qq] at ho; subst ho; exact does_pass rfl (yl 13 16 false rfl (hG hd 13) vv13) (by decide) (vL hLe rfl) (hS)
   | 24 => simp only [qq] at ho; subst ho; have e16 := eD ev hd 13 16 vv13; rw [vv24]; exact dV (by simp [execOp, go_sem, e16]) hS
   | 25 => simp only [qq] at ho; subst ho; have e27 := eD ev hd 24 27 vv24; rw [vv25]; exact dV (by simp [execOp, go_sem, e27]) hS
   | k + 26 => simp at ho
 · intro b' W hS _
   subst hLe
   exact hQ W hS
set_option maxRecDepth 8000 in
set_option maxHeartbeats 4000000 in
theorem cnt_high {Q : Exit → Act → World → Prop} {base : Array Value} {dd : List Deferred} {ops : Array Oper} (hops : Tryz.f100.body.bind (regs 1) = some ops) (g : Nat) (t n sq kd ot on pt pn : Int) (nm : List UInt8) (p q : Option Addr) (l c m d : Nat) (w9 : World) (hsz : base.size = 28) (b1 : base.getD 1 undef = .pointer (some ⟨g, 0, none⟩)) (h9 : OpB w9 g t n sq kd ot on pt pn nm p q l c m d) (h1 : 1 ≤ sq) (h2 : ¬ sq ≤ 1152921504606846976) (hQ : ∀ W, Below w9.heap.size w9 W → Q .normal ⟨putAll base [(some 3, .pointer (some ⟨g, 2, none⟩)), (some 4, .int .i64 sq), (some 5, .bool true), (some 6, .bool true), (some 7, .pointer (some ⟨g, 2, none⟩)), (some 8, .int .i64 sq), (some 9, .bool false), (some 10, .bool false), (some 11, .bool false), (some 12, undef), (some 13, undef), (some 14, undef), (some 15, .bool false), (some 16, .bool false), (some 17, undef), (some 18, undef), (some 19, undef), (some 20, undef), (some 21, undef), (some 22, undef), (some 23, undef), (some 24, undef), (some 25, undef), (some 26, undef), (some 27, .bool false), (some 2, .bool false)], dd⟩ W) :
   (Code.region 1 ops true).wp Tryz.prog Q ⟨base, dd⟩ w9 := by
 have hmix := hmx
 have h2 := (show Tryz.f100.body.bind (regs 1) = some _ from rfl).symm.trans hops
 obtain rfl := Option.some.inj h2
 clear h2 hops
 have below9 : Below w9.heap.size w9 w9.drew := (Below.refl _ _).drew
 obtain ⟨LL, hLe⟩ := qL hQ
 have vv0 : vals LL 0 = .pointer (some ⟨g, 2, none⟩) := vL hLe rfl
 have vv1 : vals LL 1 = .int .i64 sq := vL hLe rfl
 have vv2 : vals LL 2 = .bool true := vL hLe rfl
 have vv3 : vals LL 3 = .bool true := vL hLe rfl
 have vv4 : vals LL 4 = .pointer (some ⟨g, 2, none⟩) := vL hLe rfl
 have vv5 : vals LL 5 = .int .i64 sq := vL hLe rfl
 have vv6 : vals LL 6 = .bool false := vL hLe rfl
 have vv7 : vals LL 7 = .bool false := vL hLe rfl
 have vv8 : vals LL 8 = .bool false := vL hLe rfl
 have vv12 : vals LL 12 = .bool false := vL hLe rfl
 have vv13 : vals LL 13 = .bool false := vL hLe rfl
 have vv24 : vals LL 24 = .bool false := vL hLe rfl
 have vv25 : vals LL 25 = .bool false := vL hLe rfl
 refine region_laid hmix (by kernel_rfl) 28 hsz (by kernel_rfl) LL (by rw [hLe]; rfl) (fun _ W => Below w9.heap.size w9 W) below9 ?_ ?_
 · intro b W i o a hS hcl ho hb hd ev kp yl
   match i with
   | 0 => simp only [qq] at ho; subst ho; have e1 := (kp 1 (by kernel_rfl)).trans b1; rw [vv0]; exact dV (by simp [execOp, go_sem, e1]) hS
   | 1 =>
     simp only [qq] at ho; subst ho; have e3 := eD ev hd 0 3 vv0
     obtain ⟨d0, d1, d2, d3, d4, d5, d6, d7, d8, d9, d10⟩ := (h9.below hS).cells
     rw [vv1]; exact dV (by simp [execOp, go_sem, e3, d2]) hS
   | 2 => simp only [qq] at ho; subst ho; have e4 := eD ev hd 1 4 vv1; rw [vv2]; exact dV (by simp [execOp, go_sem, e4, h1]) hS
   | 3 => simp only [qq] at ho; subst ho; have e5 := eD ev hd 2 5 vv2; rw [vv3]; exact dV (by simp [execOp, go_sem, e5]) hS
   | 4 => simp only [qq] at ho; subst ho; have e1 := (kp 1 (by kernel_rfl)).trans b1; rw [vv4]; exact dG (yl 3 6 true rfl (hG hd 3) vv3) (by simp [execOp, go_sem, e1]) hS
   | 5 =>
     simp only [qq] at ho; subst ho; have e7 := eD ev hd 4 7 vv4
     obtain ⟨d0, d1, d2, d3, d4, d5, d6, d7, d8, d9, d10⟩ := (h9.below hS).cells
     rw [vv5]; exact dG (yl 3 6 true rfl (hG hd 3) vv3) (by simp [execOp, go_sem, e7, d2]) hS
   | 6 => simp only [qq] at ho; subst ho; have e8 := eD ev hd 5 8 vv5; rw [vv6]; exact dG (yl 3 6 true rfl (hG hd 3) vv3) (by simp [execOp, go_sem, e8, h2]) hS
   | 7 => simp only [qq] at ho; subst ho; have e6 := eD ev hd 3 6 vv3; have e9 := eD ev hd 6 9 vv6; rw [vv7]; exact dV (by simp [execOp, go_sem, e6, e9]) hS
   | 8 => simp only [qq] at ho; subst ho; have e10 := eD ev hd 7 10 vv7; rw [vv8]; exact dV (by simp [execOp, go_sem, e10]) hS
   | 9 => simp only [qq] at ho; subst ho; exact does_pass rfl (yl 8 11 false rfl (hG hd 8) vv8) (by decide) (vL hLe rfl) (hS)
   | 10 => simp only [qq] at ho; subst ho; exact does_pass rfl (yl 8 11 false rfl (hG hd 8) vv8) (by decide) (vL hLe rfl) (hS)
   | 11 => simp only [qq] at ho; subst ho; exact does_pass rfl (yl 8 11 false rfl (hG hd 8) vv8) (by decide) (vL hLe rfl) (hS)
   | 12 => simp only [qq] at ho; subst ho; have e11 := eD ev hd 8 11 vv8; rw [vv12]; exact dV (by simp [execOp, go_sem, e11]) hS
   | 13 => simp only [qq] at ho; subst ho; have e15 := eD ev hd 12 15 vv12; rw [vv13]; exact dV (by simp [execOp, go_sem, e15]) hS
   | 14 => simp only [qq] at ho; subst ho; exact does_pass rfl (yl 13 16 false rfl (hG hd 13) vv13) (by decide) (vL hLe rfl) (hS)
   | 15 => simp only [qq] at ho; subst ho; exact does_pass rfl (yl 13 16 false rfl (hG hd 13) vv13) (by decide) (vL hLe rfl) (hS)
   | 16 => simp only [qq] at ho; subst ho; exact does_pass rfl (yl 13 16 false rfl (hG hd 13) vv13) (by decide) (vL hLe rfl) (hS)
   | 17 => simp only [qq] at ho; subst ho; exact does_pass rfl (yl 13 16 false rfl (hG hd 13) vv13) (by decide) (vL hLe rfl) (hS)
   | 18 => simp only [qq] at ho; subst ho; exact does_pass rfl (yl 13 16 false rfl (hG hd 13) vv13) (by decide) (vL hLe rfl) (hS)
   | 19 => simp only [qq] at ho; subst ho; exact does_pass rfl (yl 13 16 false rfl (hG hd 13) vv13) (by decide) (vL hLe rfl) (hS)
   | 20 => simp only [qq] at ho; subst ho; exact does_pass rfl (yl 13 16 false rfl (hG hd 13) vv13) (by decide) (vL hLe rfl) (hS)
   | 21 => simp only [qq] at ho; subst ho; exact does_pass rfl (yl 13 16 false rfl (hG hd 13) vv13) (by decide) (vL hLe rfl) (hS)
   | 22 => simp only [qq] at ho; subst ho; exact does_pass rfl (yl 13 16 false rfl (hG hd 13) vv13) (by decide) (vL hLe rfl) (hS)
   | 23 => simp only [qq] at ho; subst ho; exact does_pass rfl (yl 13 16 false rfl (hG hd 13) vv13) (by decide) (vL hLe rfl) (hS)
   | 24 => simp only [qq] at ho; subst ho; have e16 := eD ev hd 13 16 vv13; rw [vv24]; exact dV (by simp [execOp, go_sem, e16]) hS
   | 25 => simp only [qq] at ho; subst ho; have e27 := eD ev hd 24 27 vv24; rw [vv25]; exact dV (by simp [execOp, go_sem, e27]) hS
   | k + 26 => simp at ho
 · intro b' W hS _
   subst hLe
   exact hQ W hS
set_option maxRecDepth 8000 in
set_option maxHeartbeats 4000000 in
theorem cnt_vec {Q : Exit → Act → World → Prop} {base : Array Value} {dd : List Deferred} {ops : Array Oper} (hops : Tryz.f100.body.bind (regs 1) = some ops) (g : Nat) (t n sq kd ot on pt pn : Int) (nm : List UInt8) (p q : Option Addr) (l c m d : Nat) (w9 : World) (hsz : base.size = 28) (b1 : base.getD 1 undef = .pointer (some ⟨g, 0, none⟩)) (h9 : OpB w9 g t n sq kd ot on pt pn nm p q l c m d) (h1 : 1 ≤ sq) (h2 : sq ≤ 1152921504606846976) (cV : ∀ W, Below w9.heap.size w9 W → Calls Tryz.prog 139 #[.slice q m d] W fun e w' => e = .returned (.bool false) ∧ Below W.heap.size W w') (hQ : ∀ W, Below w9.heap.size w9 W → Q .normal ⟨putAll base [(some 3, .pointer (some ⟨g, 2, none⟩)), (some 4, .int .i64 sq), (some 5, .bool true), (some 6, .bool true), (some 7, .pointer (some ⟨g, 2, none⟩)), (some 8, .int .i64 sq), (some 9, .bool true), (some 10, .bool true), (some 11, .bool true), (some 12, .pointer (some ⟨g, 10, none⟩)), (some 13, .slice q m d), (some 14, .bool false), (some 15, .bool false), (some 16, .bool false), (some 17, undef), (some 18, undef), (some 19, undef), (some 20, undef), (some 21, undef), (some 22, undef), (some 23, undef), (some 24, undef), (some 25, undef), (some 26, undef), (some 27, .bool false), (some 2, .bool false)], dd⟩ W) :
   (Code.region 1 ops true).wp Tryz.prog Q ⟨base, dd⟩ w9 := by
 have hmix := hmx
 have h2 := (show Tryz.f100.body.bind (regs 1) = some _ from rfl).symm.trans hops
 obtain rfl := Option.some.inj h2
 clear h2 hops
 have below9 : Below w9.heap.size w9 w9.drew := (Below.refl _ _).drew
 obtain ⟨LL, hLe⟩ := qL hQ
 have vv0 : vals LL 0 = .pointer (some ⟨g, 2, none⟩) := vL hLe rfl
 have vv1 : vals LL 1 = .int .i64 sq := vL hLe rfl
 have vv2 : vals LL 2 = .bool true := vL hLe rfl
 have vv3 : vals LL 3 = .bool true := vL hLe rfl
 have vv4 : vals LL 4 = .pointer (some ⟨g, 2, none⟩) := vL hLe rfl
 have vv5 : vals LL 5 = .int .i64 sq := vL hLe rfl
 have vv6 : vals LL 6 = .bool true := vL hLe rfl
 have vv7 : vals LL 7 = .bool true := vL hLe rfl
 have vv8 : vals LL 8 = .bool true := vL hLe rfl
 have vv9 : vals LL 9 = .pointer (some ⟨g, 10, none⟩) := vL hLe rfl
 have vv10 : vals LL 10 = .slice q m d := vL hLe rfl
 have vv11 : vals LL 11 = .bool false := vL hLe rfl
 have vv12 : vals LL 12 = .bool false := vL hLe rfl
 have vv13 : vals LL 13 = .bool false := vL hLe rfl
 have vv24 : vals LL 24 = .bool false := vL hLe rfl
 have vv25 : vals LL 25 = .bool false := vL hLe rfl
 refine region_laid hmix (by kernel_rfl) 28 hsz (by kernel_rfl) LL (by rw [hLe]; rfl) (fun _ W => Below w9.heap.size w9 W) below9 ?_ ?_
 · intro b W i o a hS hcl ho hb hd ev kp yl
   match i with
   | 0 => simp only [qq] at ho; subst ho; have e1 := (kp 1 (by kernel_rfl)).trans b1; rw [vv0]; exact dV (by simp [execOp, go_sem, e1]) hS
   | 1 =>
     simp only [qq] at ho; subst ho; have e3 := eD ev hd 0 3 vv0
     obtain ⟨d0, d1, d2, d3, d4, d5, d6, d7, d8, d9, d10⟩ := (h9.below hS).cells
     rw [vv1]; exact dV (by simp [execOp, go_sem, e3, d2]) hS
   | 2 => simp only [qq] at ho; subst ho; have e4 := eD ev hd 1 4 vv1; rw [vv2]; exact dV (by simp [execOp, go_sem, e4, h1]) hS
   | 3 => simp only [qq] at ho; subst ho; have e5 := eD ev hd 2 5 vv2; rw [vv3]; exact dV (by simp [execOp, go_sem, e5]) hS
   | 4 => simp only [qq] at ho; subst ho; have e1 := (kp 1 (by kernel_rfl)).trans b1; rw [vv4]; exact dG (yl 3 6 true rfl (hG hd 3) vv3) (by simp [execOp, go_sem, e1]) hS
   | 5 =>
     simp only [qq] at ho; subst ho; have e7 := eD ev hd 4 7 vv4
     obtain ⟨d0, d1, d2, d3, d4, d5, d6, d7, d8, d9, d10⟩ := (h9.below hS).cells
     rw [vv5]; exact dG (yl 3 6 true rfl (hG hd 3) vv3) (by simp [execOp, go_sem, e7, d2]) hS
   | 6 => simp only [qq] at ho; subst ho; have e8 := eD ev hd 5 8 vv5; rw [vv6]; exact dG (yl 3 6 true rfl (hG hd 3) vv3) (by simp [execOp, go_sem, e8, h2]) hS
   | 7 => simp only [qq] at ho; subst ho; have e6 := eD ev hd 3 6 vv3; have e9 := eD ev hd 6 9 vv6; rw [vv7]; exact dV (by simp [execOp, go_sem, e6, e9]) hS
   | 8 => simp only [qq] at ho; subst ho; have e10 := eD ev hd 7 10 vv7; rw [vv8]; exact dV (by simp [execOp, go_sem, e10]) hS
   | 9 => simp only [qq] at ho; subst ho; have e1 := (kp 1 (by kernel_rfl)).trans b1; rw [vv9]; exact dG (yl 8 11 true rfl (hG hd 8) vv8) (by simp [execOp, go_sem, e1]) hS
   | 10 =>
     simp only [qq] at ho; subst ho; have e12 := eD ev hd 9 12 vv9
     obtain ⟨d0, d1, d2, d3, d4, d5, d6, d7, d8, d9, d10⟩ := (h9.below hS).cells
     rw [vv10]; exact dG (yl 8 11 true rfl (hG hd 8) vv8) (by simp [execOp, go_sem, e12, d10]) hS
   | 11 =>
     simp only [qq] at ho; subst ho; have e13 := eD ev hd 10 13 vv10; rw [vv11]
     refine does_call_g rfl (yl 8 11 true rfl (hG hd 8) vv8) nofun (f := 139) (args := #[.slice q m d]) ?_ ?_
     · simp [go_sem, e13]
     · exact (cV W hS).mono (fun e w' h => ⟨h.1, hS.trans (h.2.mono hS.size)⟩)
   | 12 => simp only [qq] at ho; subst ho; have e11 := eD ev hd 8 11 vv8; have e14 := eD ev hd 11 14 vv11; rw [vv12]; exact dV (by simp [execOp, go_sem, e11, e14]) hS
   | 13 => simp only [qq] at ho; subst ho; have e15 := eD ev hd 12 15 vv12; rw [vv13]; exact dV (by simp [execOp, go_sem, e15]) hS
   | 14 => simp only [qq] at ho; subst ho; exact does_pass rfl (yl 13 16 false rfl (hG hd 13) vv13) (by decide) (vL hLe rfl) (hS)
   | 15 => simp only [qq] at ho; subst ho; exact does_pass rfl (yl 13 16 false rfl (hG hd 13) vv13) (by decide) (vL hLe rfl) (hS)
   | 16 => simp only [qq] at ho; subst ho; exact does_pass rfl (yl 13 16 false rfl (hG hd 13) vv13) (by decide) (vL hLe rfl) (hS)
   | 17 => simp only [qq] at ho; subst ho; exact does_pass rfl (yl 13 16 false rfl (hG hd 13) vv13) (by decide) (vL hLe rfl) (hS)
   | 18 => simp only [qq] at ho; subst ho; exact does_pass rfl (yl 13 16 false rfl (hG hd 13) vv13) (by decide) (vL hLe rfl) (hS)
   | 19 => simp only [qq] at ho; subst ho; exact does_pass rfl (yl 13 16 false rfl (hG hd 13) vv13) (by decide) (vL hLe rfl) (hS)
   | 20 => simp only [qq] at ho; subst ho; exact does_pass rfl (yl 13 16 false rfl (hG hd 13) vv13) (by decide) (vL hLe rfl) (hS)
   | 21 => simp only [qq] at ho; subst ho; exact does_pass rfl (yl 13 16 false rfl (hG hd 13) vv13) (by decide) (vL hLe rfl) (hS)
   | 22 => simp only [qq] at ho; subst ho; exact does_pass rfl (yl 13 16 false rfl (hG hd 13) vv13) (by decide) (vL hLe rfl) (hS)
   | 23 => simp only [qq] at ho; subst ho; exact does_pass rfl (yl 13 16 false rfl (hG hd 13) vv13) (by decide) (vL hLe rfl) (hS)
   | 24 => simp only [qq] at ho; subst ho; have e16 := eD ev hd 13 16 vv13; rw [vv24]; exact dV (by simp [execOp, go_sem, e16]) hS
   | 25 => simp only [qq] at ho; subst ho; have e27 := eD ev hd 24 27 vv24; rw [vv25]; exact dV (by simp [execOp, go_sem, e27]) hS
   | k + 26 => simp at ho
 · intro b' W hS _
   subst hLe
   exact hQ W hS
set_option maxRecDepth 8000 in
set_option maxHeartbeats 4000000 in
theorem cnt_at {Q : Exit → Act → World → Prop} {base : Array Value} {dd : List Deferred} {ops : Array Oper} (hops : Tryz.f100.body.bind (regs 1) = some ops) (g : Nat) (t n sq kd ot on pt pn : Int) (nm : List UInt8) (p q : Option Addr) (l c m d : Nat) (w9 : World) (hsz : base.size = 28) (b1 : base.getD 1 undef = .pointer (some ⟨g, 0, none⟩)) (h9 : OpB w9 g t n sq kd ot on pt pn nm p q l c m d) (h1 : 1 ≤ sq) (h2 : sq ≤ 1152921504606846976) (z : Int) (cV : ∀ W, Below w9.heap.size w9 W → Calls Tryz.prog 139 #[.slice q m d] W fun e w' => e = .returned (.bool true) ∧ Below W.heap.size W w') (cA : ∀ W, Below w9.heap.size w9 W → Calls Tryz.prog 140 #[.slice q m d, .int .i64 n] W fun e w' => e = .returned (.int .i64 z) ∧ Below W.heap.size W w') (hQ : ∀ W, Below w9.heap.size w9 W → Q .normal ⟨putAll base [(some 3, .pointer (some ⟨g, 2, none⟩)), (some 4, .int .i64 sq), (some 5, .bool true), (some 6, .bool true), (some 7, .pointer (some ⟨g, 2, none⟩)), (some 8, .int .i64 sq), (some 9, .bool true), (some 10, .bool true), (some 11, .bool true), (some 12, .pointer (some ⟨g, 10, none⟩)), (some 13, .slice q m d), (some 14, .bool true), (some 15, .bool true), (some 16, .bool true), (some 17, .pointer (some ⟨g, 10, none⟩)), (some 18, .slice q m d), (some 19, .pointer (some ⟨g, 0, none⟩)), (some 20, .pointer (some ⟨g, 1, none⟩)), (some 21, .int .i64 n), (some 22, .int .i64 z), (some 23, .pointer (some ⟨g, 2, none⟩)), (some 24, .int .i64 sq), (some 25, .int .i64 (sq - 1)), (some 26, .bool (z == sq - 1)), (some 27, .bool (z == sq - 1)), (some 2, .bool (z == sq - 1))], dd⟩ W) :
   (Code.region 1 ops true).wp Tryz.prog Q ⟨base, dd⟩ w9 := by
 have hmix := hmx
 have h2 := (show Tryz.f100.body.bind (regs 1) = some _ from rfl).symm.trans hops
 obtain rfl := Option.some.inj h2
 clear h2 hops
 have below9 : Below w9.heap.size w9 w9.drew := (Below.refl _ _).drew
 obtain ⟨LL, hLe⟩ := qL hQ
 have vv0 : vals LL 0 = .pointer (some ⟨g, 2, none⟩) := vL hLe rfl
 have vv1 : vals LL 1 = .int .i64 sq := vL hLe rfl
 have vv2 : vals LL 2 = .bool true := vL hLe rfl
 have vv3 : vals LL 3 = .bool true := vL hLe rfl
 have vv4 : vals LL 4 = .pointer (some ⟨g, 2, none⟩) := vL hLe rfl
 have vv5 : vals LL 5 = .int .i64 sq := vL hLe rfl
 have vv6 : vals LL 6 = .bool true := vL hLe rfl
 have vv7 : vals LL 7 = .bool true := vL hLe rfl
 have vv8 : vals LL 8 = .bool true := vL hLe rfl
 have vv9 : vals LL 9 = .pointer (some ⟨g, 10, none⟩) := vL hLe rfl
 have vv10 : vals LL 10 = .slice q m d := vL hLe rfl
 have vv11 : vals LL 11 = .bool true := vL hLe rfl
 have vv12 : vals LL 12 = .bool true := vL hLe rfl
 have vv13 : vals LL 13 = .bool true := vL hLe rfl
 have vv14 : vals LL 14 = .pointer (some ⟨g, 10, none⟩) := vL hLe rfl
 have vv15 : vals LL 15 = .slice q m d := vL hLe rfl
 have vv16 : vals LL 16 = .pointer (some ⟨g, 0, none⟩) := vL hLe rfl
 have vv17 : vals LL 17 = .pointer (some ⟨g, 1, none⟩) := vL hLe rfl
 have vv18 : vals LL 18 = .int .i64 n := vL hLe rfl
 have vv19 : vals LL 19 = .int .i64 z := vL hLe rfl
 have vv20 : vals LL 20 = .pointer (some ⟨g, 2, none⟩) := vL hLe rfl
 have vv21 : vals LL 21 = .int .i64 sq := vL hLe rfl
 have vv22 : vals LL 22 = .int .i64 (sq - 1) := vL hLe rfl
 have vv23 : vals LL 23 = .bool (z == sq - 1) := vL hLe rfl
 have vv24 : vals LL 24 = .bool (z == sq - 1) := vL hLe rfl
 have vv25 : vals LL 25 = .bool (z == sq - 1) := vL hLe rfl
 refine region_laid hmix (by kernel_rfl) 28 hsz (by kernel_rfl) LL (by rw [hLe]; rfl) (fun _ W => Below w9.heap.size w9 W) below9 ?_ ?_
 · intro b W i o a hS hcl ho hb hd ev kp yl
   match i with
   | 0 => simp only [qq] at ho; subst ho; have e1 := (kp 1 (by kernel_rfl)).trans b1; rw [vv0]; exact dV (by simp [execOp, go_sem, e1]) hS
   | 1 =>
     simp only [qq] at ho; subst ho; have e3 := eD ev hd 0 3 vv0
     obtain ⟨d0, d1, d2, d3, d4, d5, d6, d7, d8, d9, d10⟩ := (h9.below hS).cells
     rw [vv1]; exact dV (by simp [execOp, go_sem, e3, d2]) hS
   | 2 => simp only [qq] at ho; subst ho; have e4 := eD ev hd 1 4 vv1; rw [vv2]; exact dV (by simp [execOp, go_sem, e4, h1]) hS
   | 3 => simp only [qq] at ho; subst ho; have e5 := eD ev hd 2 5 vv2; rw [vv3]; exact dV (by simp [execOp, go_sem, e5]) hS
   | 4 => simp only [qq] at ho; subst ho; have e1 := (kp 1 (by kernel_rfl)).trans b1; rw [vv4]; exact dG (yl 3 6 true rfl (hG hd 3) vv3) (by simp [execOp, go_sem, e1]) hS
   | 5 =>
     simp only [qq] at ho; subst ho; have e7 := eD ev hd 4 7 vv4
     obtain ⟨d0, d1, d2, d3, d4, d5, d6, d7, d8, d9, d10⟩ := (h9.below hS).cells
     rw [vv5]; exact dG (yl 3 6 true rfl (hG hd 3) vv3) (by simp [execOp, go_sem, e7, d2]) hS
   | 6 => simp only [qq] at ho; subst ho; have e8 := eD ev hd 5 8 vv5; rw [vv6]; exact dG (yl 3 6 true rfl (hG hd 3) vv3) (by simp [execOp, go_sem, e8, h2]) hS
   | 7 => simp only [qq] at ho; subst ho; have e6 := eD ev hd 3 6 vv3; have e9 := eD ev hd 6 9 vv6; rw [vv7]; exact dV (by simp [execOp, go_sem, e6, e9]) hS
   | 8 => simp only [qq] at ho; subst ho; have e10 := eD ev hd 7 10 vv7; rw [vv8]; exact dV (by simp [execOp, go_sem, e10]) hS
   | 9 => simp only [qq] at ho; subst ho; have e1 := (kp 1 (by kernel_rfl)).trans b1; rw [vv9]; exact dG (yl 8 11 true rfl (hG hd 8) vv8) (by simp [execOp, go_sem, e1]) hS
   | 10 =>
     simp only [qq] at ho; subst ho; have e12 := eD ev hd 9 12 vv9
     obtain ⟨d0, d1, d2, d3, d4, d5, d6, d7, d8, d9, d10⟩ := (h9.below hS).cells
     rw [vv10]; exact dG (yl 8 11 true rfl (hG hd 8) vv8) (by simp [execOp, go_sem, e12, d10]) hS
   | 11 =>
     simp only [qq] at ho; subst ho; have e13 := eD ev hd 10 13 vv10; rw [vv11]
     refine does_call_g rfl (yl 8 11 true rfl (hG hd 8) vv8) nofun (f := 139) (args := #[.slice q m d]) ?_ ?_
     · simp [go_sem, e13]
     · exact (cV W hS).mono (fun e w' h => ⟨h.1, hS.trans (h.2.mono hS.size)⟩)
   | 12 => simp only [qq] at ho; subst ho; have e11 := eD ev hd 8 11 vv8; have e14 := eD ev hd 11 14 vv11; rw [vv12]; exact dV (by simp [execOp, go_sem, e11, e14]) hS
   | 13 => simp only [qq] at ho; subst ho; have e15 := eD ev hd 12 15 vv12; rw [vv13]; exact dV (by simp [execOp, go_sem, e15]) hS
   | 14 => simp only [qq] at ho; subst ho; have e1 := (kp 1 (by kernel_rfl)).trans b1; rw [vv14]; exact dG (yl 13 16 true rfl (hG hd 13) vv13) (by simp [execOp, go_sem, e1]) hS
   | 15 =>
     simp only [qq] at ho; subst ho; have e17 := eD ev hd 14 17 vv14
     obtain ⟨d0, d1, d2, d3, d4, d5, d6, d7, d8, d9, d10⟩ := (h9.below hS).cells
     rw [vv15]; exact dG (yl 13 16 true rfl (hG hd 13) vv13) (by simp [execOp, go_sem, e17, d10]) hS
   | 16 => simp only [qq] at ho; subst ho; have e1 := (kp 1 (by kernel_rfl)).trans b1; rw [vv16]; exact dG (yl 13 16 true rfl (hG hd 13) vv13) (by simp [execOp, go_sem, e1]) hS
   | 17 => simp only [qq] at ho; subst ho; have e19 := eD ev hd 16 19 vv16; rw [vv17]; exact dG (yl 13 16 true rfl (hG hd 13) vv13) (by simp [execOp, go_sem, e19]) hS
   | 18 =>
     simp only [qq] at ho; subst ho; have e20 := eD ev hd 17 20 vv17
     obtain ⟨d0, d1, d2, d3, d4, d5, d6, d7, d8, d9, d10⟩ := (h9.below hS).cells
     rw [vv18]; exact dG (yl 13 16 true rfl (hG hd 13) vv13) (by simp [execOp, go_sem, e20, d1]) hS
   | 19 =>
     simp only [qq] at ho; subst ho; have e18 := eD ev hd 15 18 vv15; have e21 := eD ev hd 18 21 vv18; rw [vv19]
     refine does_call_g rfl (yl 13 16 true rfl (hG hd 13) vv13) nofun (f := 140) (args := #[.slice q m d, .int .i64 n]) ?_ ?_
     · simp [go_sem, e18, e21]
     · exact (cA W hS).mono (fun e w' h => ⟨h.1, hS.trans (h.2.mono hS.size)⟩)
   | 20 => simp only [qq] at ho; subst ho; have e1 := (kp 1 (by kernel_rfl)).trans b1; rw [vv20]; exact dG (yl 13 16 true rfl (hG hd 13) vv13) (by simp [execOp, go_sem, e1]) hS
   | 21 =>
     simp only [qq] at ho; subst ho; have e23 := eD ev hd 20 23 vv20
     obtain ⟨d0, d1, d2, d3, d4, d5, d6, d7, d8, d9, d10⟩ := (h9.below hS).cells
     rw [vv21]; exact dG (yl 13 16 true rfl (hG hd 13) vv13) (by simp [execOp, go_sem, e23, d2]) hS
   | 22 => simp only [qq] at ho; subst ho; have e24 := eD ev hd 21 24 vv21; rw [vv22]; exact dG (yl 13 16 true rfl (hG hd 13) vv13) (by simp [execOp, go_sem, e24]; rw [IntKind.wrap_i64] <;> omega) hS
   | 23 => simp only [qq] at ho; subst ho; have e22 := eD ev hd 19 22 vv19; have e25 := eD ev hd 22 25 vv22; rw [vv23]; exact dG (yl 13 16 true rfl (hG hd 13) vv13) (by simp [execOp, go_sem, e22, e25]) hS
   | 24 => simp only [qq] at ho; subst ho; have e16 := eD ev hd 13 16 vv13; have e26 := eD ev hd 23 26 vv23; rw [vv24]; exact dV (by simp [execOp, go_sem, e16, e26]) hS
   | 25 => simp only [qq] at ho; subst ho; have e27 := eD ev hd 24 27 vv24; rw [vv25]; exact dV (by simp [execOp, go_sem, e27]) hS
   | k + 26 => simp at ho
 · intro b' W hS _
   subst hLe
   exact hQ W hS
set_option maxRecDepth 8000 in
set_option maxHeartbeats 4000000 in
theorem kind_no {Q : Exit → Act → World → Prop} {base : Array Value} {dd : List Deferred} {ops : Array Oper} (hops : Tryz.f101.body.bind (regs 6) = some ops) (g : Nat) (t n sq kd ot on pt pn : Int) (nm : List UInt8) (p q : Option Addr) (l c m d : Nat) (w9 : World) (hsz : base.size = 64) (b1 : base.getD 1 undef = .pointer (some ⟨g, 0, none⟩)) (h9 : OpB w9 g t n sq kd ot on pt pn nm p q l c m d) (cE : ∀ W, Below w9.heap.size w9 W → Calls Tryz.prog 143 #[.agg #[.int .i64 ot, .int .i64 on], .agg #[.int .i64 t, .int .i64 n, .int .i64 sq, .int .i64 kd, .int .i64 ot, .int .i64 on, .int .i64 pt, .int .i64 pn, .string (bas nm), .slice p l c, .slice q m d]] W fun e w' => e = .returned (.bool false) ∧ Below W.heap.size W w') (hQ : ∀ W, Below w9.heap.size w9 W → Q .normal ⟨putAll base [(some 23, .pointer (some ⟨g, 4, none⟩)), (some 24, .agg #[.int .i64 ot, .int .i64 on]), (some 25, .agg #[.int .i64 t, .int .i64 n, .int .i64 sq, .int .i64 kd, .int .i64 ot, .int .i64 on, .int .i64 pt, .int .i64 pn, .string (bas nm), .slice p l c, .slice q m d]), (some 26, .bool false), (some 27, .bool false), (some 28, undef), (some 29, undef), (some 30, undef), (some 31, undef), (some 32, undef), (some 33, undef), (some 34, undef), (some 35, undef), (some 36, .bool false), (some 37, .bool false), (some 38, undef), (some 39, undef), (some 40, .bool false), (some 2, .bool false)], dd⟩ W) :
   (Code.region 6 ops true).wp Tryz.prog Q ⟨base, dd⟩ w9 := by
 have hmix := hmx
 have h2 := (show Tryz.f101.body.bind (regs 6) = some _ from rfl).symm.trans hops
 obtain rfl := Option.some.inj h2
 clear h2 hops
 have below9 : Below w9.heap.size w9 w9.drew := (Below.refl _ _).drew
 obtain ⟨LL, hLe⟩ := qL hQ
 have vv0 : vals LL 0 = .pointer (some ⟨g, 4, none⟩) := vL hLe rfl
 have vv1 : vals LL 1 = .agg #[.int .i64 ot, .int .i64 on] := vL hLe rfl
 have vv2 : vals LL 2 = .agg #[.int .i64 t, .int .i64 n, .int .i64 sq, .int .i64 kd, .int .i64 ot, .int .i64 on, .int .i64 pt, .int .i64 pn, .string (bas nm), .slice p l c, .slice q m d] := vL hLe rfl
 have vv3 : vals LL 3 = .bool false := vL hLe rfl
 have vv4 : vals LL 4 = .bool false := vL hLe rfl
 have vv7 : vals LL 7 = undef := vL hLe rfl
 have vv13 : vals LL 13 = .bool false := vL hLe rfl
 have vv14 : vals LL 14 = .bool false := vL hLe rfl
 have vv17 : vals LL 17 = .bool false := vL hLe rfl
 have vv18 : vals LL 18 = .bool false := vL hLe rfl
 refine region_laid hmix (by kernel_rfl) 64 hsz (by kernel_rfl) LL (by rw [hLe]; rfl) (fun _ W => Below w9.heap.size w9 W) below9 ?_ ?_
 · intro b W i o a hS hcl ho hb hd ev kp yl
   match i with
   | 0 => simp only [qq] at ho; subst ho; have e1 := (kp 1 (by kernel_rfl)).trans b1; rw [vv0]; exact dV (by simp [execOp, go_sem, e1]) hS
   | 1 =>
     simp only [qq] at ho; subst ho; have e23 := eD ev hd 0 23 vv0
     obtain ⟨d0, d1, d2, d3, d4, d5, d6, d7, d8, d9, d10⟩ := (h9.below hS).cells
     rw [vv1]; exact dV (by simp [execOp, go_sem, e23, d4, d5]) hS
   | 2 =>
     simp only [qq] at ho; subst ho; have e1 := (kp 1 (by kernel_rfl)).trans b1
     obtain ⟨d0, d1, d2, d3, d4, d5, d6, d7, d8, d9, d10⟩ := (h9.below hS).cells
     rw [vv2]; exact dV (by simp [execOp, go_sem, e1, d0, d1, d2, d3, d4, d5, d6, d7, d8, d9, d10]) hS
   | 3 =>
     simp only [qq] at ho; subst ho; have e24 := eD ev hd 1 24 vv1; have e25 := eD ev hd 2 25 vv2; rw [vv3]
     refine does_call rfl nofun (f := 143) (args := #[.agg #[.int .i64 ot, .int .i64 on], .agg #[.int .i64 t, .int .i64 n, .int .i64 sq, .int .i64 kd, .int .i64 ot, .int .i64 on, .int .i64 pt, .int .i64 pn, .string (bas nm), .slice p l c, .slice q m d]]) ?_ ?_
     · simp [go_sem, e24, e25]
     · exact (cE W hS).mono (fun e w' h => ⟨h.1, hS.trans (h.2.mono hS.size)⟩)
   | 4 => simp only [qq] at ho; subst ho; have e26 := eD ev hd 3 26 vv3; rw [vv4]; exact dV (by simp [execOp, go_sem, e26]) hS
   | 5 => simp only [qq] at ho; subst ho; exact does_pass rfl (yl 4 27 false rfl (hG hd 4) vv4) (by decide) (vL hLe rfl) (hS)
   | 6 => simp only [qq] at ho; subst ho; exact does_pass rfl (yl 4 27 false rfl (hG hd 4) vv4) (by decide) (vL hLe rfl) (hS)
   | 7 => simp only [qq] at ho; subst ho; exact does_pass rfl (yl 4 27 false rfl (hG hd 4) vv4) (by decide) vv7 (hS)
   | 8 => simp only [qq] at ho; subst ho; exact does_pass_none rfl (yielded_undef (j := 7) (s := 30) rfl ((ev 7 30 rfl (hG hd 7)).trans vv7)) (vL hLe rfl) (hS)
   | 9 => simp only [qq] at ho; subst ho; exact does_pass_none rfl (yielded_undef (j := 7) (s := 30) rfl ((ev 7 30 rfl (hG hd 7)).trans vv7)) (vL hLe rfl) (hS)
   | 10 => simp only [qq] at ho; subst ho; exact does_pass_none rfl (yielded_undef (j := 7) (s := 30) rfl ((ev 7 30 rfl (hG hd 7)).trans vv7)) (vL hLe rfl) (hS)
   | 11 => simp only [qq] at ho; subst ho; exact does_pass_none rfl (yielded_undef (j := 7) (s := 30) rfl ((ev 7 30 rfl (hG hd 7)).trans vv7)) (vL hLe rfl) (hS)
   | 12 => simp only [qq] at ho; subst ho; exact does_pass rfl (yl 4 27 false rfl (hG hd 4) vv4) (by decide) (vL hLe rfl) (hS)
   | 13 => simp only [qq] at ho; subst ho; have e27 := eD ev hd 4 27 vv4; rw [vv13]; exact dV (by simp [execOp, go_sem, e27]) hS
   | 14 => simp only [qq] at ho; subst ho; have e36 := eD ev hd 13 36 vv13; rw [vv14]; exact dV (by simp [execOp, go_sem, e36]) hS
   | 15 => simp only [qq] at ho; subst ho; exact does_pass rfl (yl 14 37 false rfl (hG hd 14) vv14) (by decide) (vL hLe rfl) (hS)
   | 16 => simp only [qq] at ho; subst ho; exact does_pass rfl (yl 14 37 false rfl (hG hd 14) vv14) (by decide) (vL hLe rfl) (hS)
   | 17 => simp only [qq] at ho; subst ho; have e37 := eD ev hd 14 37 vv14; rw [vv17]; exact dV (by simp [execOp, go_sem, e37]) hS
   | 18 => simp only [qq] at ho; subst ho; have e40 := eD ev hd 17 40 vv17; rw [vv18]; exact dV (by simp [execOp, go_sem, e40]) hS
   | k + 19 => simp at ho
 · intro b' W hS _
   subst hLe
   exact hQ W hS
set_option maxRecDepth 8000 in
set_option maxHeartbeats 4000000 in
theorem kind_hold {Q : Exit → Act → World → Prop} {base : Array Value} {dd : List Deferred} {ops : Array Oper} (hops : Tryz.f101.body.bind (regs 6) = some ops) (g : Nat) (t n sq kd ot on pt pn : Int) (nm : List UInt8) (p q : Option Addr) (l c m d : Nat) (w9 : World) (hsz : base.size = 64) (b1 : base.getD 1 undef = .pointer (some ⟨g, 0, none⟩)) (h9 : OpB w9 g t n sq kd ot on pt pn nm p q l c m d)
   (x : Bool) (cE : ∀ W, Below w9.heap.size w9 W → Calls Tryz.prog 143 #[.agg #[.int .i64 ot, .int .i64 on], .agg #[.int .i64 t, .int .i64 n, .int .i64 sq, .int .i64 kd, .int .i64 ot, .int .i64 on, .int .i64 pt, .int .i64 pn, .string (bas nm), .slice p l c, .slice q m d]] W fun e w' => e = .returned (.bool true) ∧ Below W.heap.size W w') (cH : ∀ W, Below w9.heap.size w9 W → Calls Tryz.prog 141 #[.agg #[.int .i64 t, .int .i64 n, .int .i64 sq, .int .i64 kd, .int .i64 ot, .int .i64 on, .int .i64 pt, .int .i64 pn, .string (bas nm), .slice p l c, .slice q m d]] W fun e w' => e = .returned (.bool true) ∧ Below W.heap.size W w') (cP : ∀ W, Below w9.heap.size w9 W → Calls Tryz.prog 142 #[.agg #[.int .i64 t, .int .i64 n, .int .i64 sq, .int .i64 kd, .int .i64 ot, .int .i64 on, .int .i64 pt, .int .i64 pn, .string (bas nm), .slice p l c, .slice q m d]] W fun e w' => e = .returned (.bool x) ∧ Below W.heap.size W w') (hQ : ∀ W, Below w9.heap.size w9 W → Q .normal ⟨putAll base [(some 23, .pointer (some ⟨g, 4, none⟩)), (some 24, .agg #[.int .i64 ot, .int .i64 on]), (some 25, .agg #[.int .i64 t, .int .i64 n, .int .i64 sq, .int .i64 kd, .int .i64 ot, .int .i64 on, .int .i64 pt, .int .i64 pn, .string (bas nm), .slice p l c, .slice q m d]), (some 26, .bool true), (some 27, .bool true), (some 28, .agg #[.int .i64 t, .int .i64 n, .int .i64 sq, .int .i64 kd, .int .i64 ot, .int .i64 on, .int .i64 pt, .int .i64 pn, .string (bas nm), .slice p l c, .slice q m d]), (some 29, .bool true), (some 30, .bool true), (some 31, undef), (some 32, undef), (some 33, undef), (some 34, undef), (some 35, .bool true), (some 36, .bool true), (some 37, .bool true), (some 38, .agg #[.int .i64 t, .int .i64 n, .int .i64 sq, .int .i64 kd, .int .i64 ot, .int .i64 on, .int .i64 pt, .int .i64 pn, .string (bas nm), .slice p l c, .slice q m d]), (some 39, .bool x), (some 40, .bool x), (some 2, .bool x)], dd⟩ W) :
   (Code.region 6 ops true).wp Tryz.prog Q ⟨base, dd⟩ w9 := by
 have hmix := hmx
 have h2 := (show Tryz.f101.body.bind (regs 6) = some _ from rfl).symm.trans hops
 obtain rfl := Option.some.inj h2
 clear h2 hops
 have below9 : Below w9.heap.size w9 w9.drew := (Below.refl _ _).drew
 obtain ⟨LL, hLe⟩ := qL hQ
 have vv0 : vals LL 0 = .pointer (some ⟨g, 4, none⟩) := vL hLe rfl
 have vv1 : vals LL 1 = .agg #[.int .i64 ot, .int .i64 on] := vL hLe rfl
 have vv2 : vals LL 2 = .agg #[.int .i64 t, .int .i64 n, .int .i64 sq, .int .i64 kd, .int .i64 ot, .int .i64 on, .int .i64 pt, .int .i64 pn, .string (bas nm), .slice p l c, .slice q m d] := vL hLe rfl
 have vv3 : vals LL 3 = .bool true := vL hLe rfl
 have vv4 : vals LL 4 = .bool true := vL hLe rfl
 have vv5 : vals LL 5 = .agg #[.int .i64 t, .int .i64 n, .int .i64 sq, .int .i64 kd, .int .i64 ot, .int .i64 on, .int .i64 pt, .int .i64 pn, .string (bas nm), .slice p l c, .slice q m d] := vL hLe rfl
 have vv6 : vals LL 6 = .bool true := vL hLe rfl
 have vv7 : vals LL 7 = .bool true := vL hLe rfl
 have vv12 : vals LL 12 = .bool true := vL hLe rfl
 have vv13 : vals LL 13 = .bool true := vL hLe rfl
 have vv14 : vals LL 14 = .bool true := vL hLe rfl
 have vv15 : vals LL 15 = .agg #[.int .i64 t, .int .i64 n, .int .i64 sq, .int .i64 kd, .int .i64 ot, .int .i64 on, .int .i64 pt, .int .i64 pn, .string (bas nm), .slice p l c, .slice q m d] := vL hLe rfl
 have vv16 : vals LL 16 = .bool x := vL hLe rfl
 have vv17 : vals LL 17 = .bool x := vL hLe rfl
 have vv18 : vals LL 18 = .bool x := vL hLe rfl
 refine region_laid hmix (by kernel_rfl) 64 hsz (by kernel_rfl) LL (by rw [hLe]; rfl) (fun _ W => Below w9.heap.size w9 W) below9 ?_ ?_
 · intro b W i o a hS hcl ho hb hd ev kp yl
   match i with
   | 0 => simp only [qq] at ho; subst ho; have e1 := (kp 1 (by kernel_rfl)).trans b1; rw [vv0]; exact dV (by simp [execOp, go_sem, e1]) hS
   | 1 =>
     simp only [qq] at ho; subst ho; have e23 := eD ev hd 0 23 vv0
     obtain ⟨d0, d1, d2, d3, d4, d5, d6, d7, d8, d9, d10⟩ := (h9.below hS).cells
     rw [vv1]; exact dV (by simp [execOp, go_sem, e23, d4, d5]) hS
   | 2 =>
     simp only [qq] at ho; subst ho; have e1 := (kp 1 (by kernel_rfl)).trans b1
     obtain ⟨d0, d1, d2, d3, d4, d5, d6, d7, d8, d9, d10⟩ := (h9.below hS).cells
     rw [vv2]; exact dV (by simp [execOp, go_sem, e1, d0, d1, d2, d3, d4, d5, d6, d7, d8, d9, d10]) hS
   | 3 =>
     simp only [qq] at ho; subst ho; have e24 := eD ev hd 1 24 vv1; have e25 := eD ev hd 2 25 vv2; rw [vv3]
     refine does_call rfl nofun (f := 143) (args := #[.agg #[.int .i64 ot, .int .i64 on], .agg #[.int .i64 t, .int .i64 n, .int .i64 sq, .int .i64 kd, .int .i64 ot, .int .i64 on, .int .i64 pt, .int .i64 pn, .string (bas nm), .slice p l c, .slice q m d]]) ?_ ?_
     · simp [go_sem, e24, e25]
     · exact (cE W hS).mono (fun e w' h => ⟨h.1, hS.trans (h.2.mono hS.size)⟩)
   | 4 => simp only [qq] at ho; subst ho; have e26 := eD ev hd 3 26 vv3; rw [vv4]; exact dV (by simp [execOp, go_sem, e26]) hS
   | 5 =>
     simp only [qq] at ho; subst ho; have e1 := (kp 1 (by kernel_rfl)).trans b1
     obtain ⟨d0, d1, d2, d3, d4, d5, d6, d7, d8, d9, d10⟩ := (h9.below hS).cells
     rw [vv5]; exact dG (yl 4 27 true rfl (hG hd 4) vv4) (by simp [execOp, go_sem, e1, d0, d1, d2, d3, d4, d5, d6, d7, d8, d9, d10]) hS
   | 6 =>
     simp only [qq] at ho; subst ho; have e28 := eD ev hd 5 28 vv5; rw [vv6]
     refine does_call_g rfl (yl 4 27 true rfl (hG hd 4) vv4) nofun (f := 141) (args := #[.agg #[.int .i64 t, .int .i64 n, .int .i64 sq, .int .i64 kd, .int .i64 ot, .int .i64 on, .int .i64 pt, .int .i64 pn, .string (bas nm), .slice p l c, .slice q m d]]) ?_ ?_
     · simp [go_sem, e28]
     · exact (cH W hS).mono (fun e w' h => ⟨h.1, hS.trans (h.2.mono hS.size)⟩)
   | 7 => simp only [qq] at ho; subst ho; have e29 := eD ev hd 6 29 vv6; rw [vv7]; exact dG (yl 4 27 true rfl (hG hd 4) vv4) (by simp [execOp, go_sem, e29]) hS
   | 8 => simp only [qq] at ho; subst ho; exact does_pass rfl (yl 7 30 true rfl (hG hd 7) vv7) (by decide) (vL hLe rfl) (hS)
   | 9 => simp only [qq] at ho; subst ho; exact does_pass rfl (yl 7 30 true rfl (hG hd 7) vv7) (by decide) (vL hLe rfl) (hS)
   | 10 => simp only [qq] at ho; subst ho; exact does_pass rfl (yl 7 30 true rfl (hG hd 7) vv7) (by decide) (vL hLe rfl) (hS)
   | 11 => simp only [qq] at ho; subst ho; exact does_pass rfl (yl 7 30 true rfl (hG hd 7) vv7) (by decide) (vL hLe rfl) (hS)
   | 12 => simp only [qq] at ho; subst ho; have e30 := eD ev hd 7 30 vv7; rw [vv12]; exact dG (yl 4 27 true rfl (hG hd 4) vv4) (by simp [execOp, go_sem, e30]) hS
   | 13 => simp only [qq] at ho; subst ho; have e27 := eD ev hd 4 27 vv4; have e35 := eD ev hd 12 35 vv12; rw [vv13]; exact dV (by simp [execOp, go_sem, e27, e35]) hS
   | 14 => simp only [qq] at ho; subst ho; have e36 := eD ev hd 13 36 vv13; rw [vv14]; exact dV (by simp [execOp, go_sem, e36]) hS
   | 15 =>
     simp only [qq] at ho; subst ho; have e1 := (kp 1 (by kernel_rfl)).trans b1
     obtain ⟨d0, d1, d2, d3, d4, d5, d6, d7, d8, d9, d10⟩ := (h9.below hS).cells
     rw [vv15]; exact dG (yl 14 37 true rfl (hG hd 14) vv14) (by simp [execOp, go_sem, e1, d0, d1, d2, d3, d4, d5, d6, d7, d8, d9, d10]) hS
   | 16 =>
     simp only [qq] at ho; subst ho; have e38 := eD ev hd 15 38 vv15; rw [vv16]
     refine does_call_g rfl (yl 14 37 true rfl (hG hd 14) vv14) nofun (f := 142) (args := #[.agg #[.int .i64 t, .int .i64 n, .int .i64 sq, .int .i64 kd, .int .i64 ot, .int .i64 on, .int .i64 pt, .int .i64 pn, .string (bas nm), .slice p l c, .slice q m d]]) ?_ ?_
     · simp [go_sem, e38]
     · exact (cP W hS).mono (fun e w' h => ⟨h.1, hS.trans (h.2.mono hS.size)⟩)
   | 17 => simp only [qq] at ho; subst ho; have e37 := eD ev hd 14 37 vv14; have e39 := eD ev hd 16 39 vv16; rw [vv17]; exact dV (by simp [execOp, go_sem, e37, e39]) hS
   | 18 => simp only [qq] at ho; subst ho; have e40 := eD ev hd 17 40 vv17; rw [vv18]; exact dV (by simp [execOp, go_sem, e40]) hS
   | k + 19 => simp at ho
 · intro b' W hS _
   subst hLe
   exact hQ W hS
set_option maxRecDepth 8000 in
set_option maxHeartbeats 4000000 in
theorem kind_trash {Q : Exit → Act → World → Prop} {base : Array Value} {dd : List Deferred} {ops : Array Oper} (hops : Tryz.f101.body.bind (regs 6) = some ops) (g : Nat) (t n sq kd ot on pt pn : Int) (nm : List UInt8) (p q : Option Addr) (l c m d : Nat) (w9 : World) (hsz : base.size = 64) (b1 : base.getD 1 undef = .pointer (some ⟨g, 0, none⟩)) (h9 : OpB w9 g t n sq kd ot on pt pn nm p q l c m d)
   (x : Bool) (cE : ∀ W, Below w9.heap.size w9 W → Calls Tryz.prog 143 #[.agg #[.int .i64 ot, .int .i64 on], .agg #[.int .i64 t, .int .i64 n, .int .i64 sq, .int .i64 kd, .int .i64 ot, .int .i64 on, .int .i64 pt, .int .i64 pn, .string (bas nm), .slice p l c, .slice q m d]] W fun e w' => e = .returned (.bool true) ∧ Below W.heap.size W w') (cH : ∀ W, Below w9.heap.size w9 W → Calls Tryz.prog 141 #[.agg #[.int .i64 t, .int .i64 n, .int .i64 sq, .int .i64 kd, .int .i64 ot, .int .i64 on, .int .i64 pt, .int .i64 pn, .string (bas nm), .slice p l c, .slice q m d]] W fun e w' => e = .returned (.bool false) ∧ Below W.heap.size W w') (cT : ∀ W, Below w9.heap.size w9 W → Calls Tryz.prog 144 #[] W fun e w' => e = .returned (.agg #[.int .i64 0, .int .i64 1]) ∧ Below W.heap.size W w') (hr : pt = 0 ∧ pn = 1) (cP : ∀ W, Below w9.heap.size w9 W → Calls Tryz.prog 142 #[.agg #[.int .i64 t, .int .i64 n, .int .i64 sq, .int .i64 kd, .int .i64 ot, .int .i64 on, .int .i64 pt, .int .i64 pn, .string (bas nm), .slice p l c, .slice q m d]] W fun e w' => e = .returned (.bool x) ∧ Below W.heap.size W w') (hQ : ∀ W, Below w9.heap.size w9 W → Q .normal ⟨putAll base [(some 23, .pointer (some ⟨g, 4, none⟩)), (some 24, .agg #[.int .i64 ot, .int .i64 on]), (some 25, .agg #[.int .i64 t, .int .i64 n, .int .i64 sq, .int .i64 kd, .int .i64 ot, .int .i64 on, .int .i64 pt, .int .i64 pn, .string (bas nm), .slice p l c, .slice q m d]), (some 26, .bool true), (some 27, .bool true), (some 28, .agg #[.int .i64 t, .int .i64 n, .int .i64 sq, .int .i64 kd, .int .i64 ot, .int .i64 on, .int .i64 pt, .int .i64 pn, .string (bas nm), .slice p l c, .slice q m d]), (some 29, .bool false), (some 30, .bool false), (some 31, .pointer (some ⟨g, 6, none⟩)), (some 32, .agg #[.int .i64 pt, .int .i64 pn]), (some 33, .agg #[.int .i64 0, .int .i64 1]), (some 34, .bool true), (some 35, .bool true), (some 36, .bool true), (some 37, .bool true), (some 38, .agg #[.int .i64 t, .int .i64 n, .int .i64 sq, .int .i64 kd, .int .i64 ot, .int .i64 on, .int .i64 pt, .int .i64 pn, .string (bas nm), .slice p l c, .slice q m d]), (some 39, .bool x), (some 40, .bool x), (some 2, .bool x)], dd⟩ W) :
   (Code.region 6 ops true).wp Tryz.prog Q ⟨base, dd⟩ w9 := by
 have hmix := hmx
 have h2 := (show Tryz.f101.body.bind (regs 6) = some _ from rfl).symm.trans hops
 obtain rfl := Option.some.inj h2
 clear h2 hops
 have below9 : Below w9.heap.size w9 w9.drew := (Below.refl _ _).drew
 obtain ⟨LL, hLe⟩ := qL hQ
 have vv0 : vals LL 0 = .pointer (some ⟨g, 4, none⟩) := vL hLe rfl
 have vv1 : vals LL 1 = .agg #[.int .i64 ot, .int .i64 on] := vL hLe rfl
 have vv2 : vals LL 2 = .agg #[.int .i64 t, .int .i64 n, .int .i64 sq, .int .i64 kd, .int .i64 ot, .int .i64 on, .int .i64 pt, .int .i64 pn, .string (bas nm), .slice p l c, .slice q m d] := vL hLe rfl
 have vv3 : vals LL 3 = .bool true := vL hLe rfl
 have vv4 : vals LL 4 = .bool true := vL hLe rfl
 have vv5 : vals LL 5 = .agg #[.int .i64 t, .int .i64 n, .int .i64 sq, .int .i64 kd, .int .i64 ot, .int .i64 on, .int .i64 pt, .int .i64 pn, .string (bas nm), .slice p l c, .slice q m d] := vL hLe rfl
 have vv6 : vals LL 6 = .bool false := vL hLe rfl
 have vv7 : vals LL 7 = .bool false := vL hLe rfl
 have vv8 : vals LL 8 = .pointer (some ⟨g, 6, none⟩) := vL hLe rfl
 have vv9 : vals LL 9 = .agg #[.int .i64 pt, .int .i64 pn] := vL hLe rfl
 have vv10 : vals LL 10 = .agg #[.int .i64 0, .int .i64 1] := vL hLe rfl
 have vv11 : vals LL 11 = .bool true := vL hLe rfl
 have vv12 : vals LL 12 = .bool true := vL hLe rfl
 have vv13 : vals LL 13 = .bool true := vL hLe rfl
 have vv14 : vals LL 14 = .bool true := vL hLe rfl
 have vv15 : vals LL 15 = .agg #[.int .i64 t, .int .i64 n, .int .i64 sq, .int .i64 kd, .int .i64 ot, .int .i64 on, .int .i64 pt, .int .i64 pn, .string (bas nm), .slice p l c, .slice q m d] := vL hLe rfl
 have vv16 : vals LL 16 = .bool x := vL hLe rfl
 have vv17 : vals LL 17 = .bool x := vL hLe rfl
 have vv18 : vals LL 18 = .bool x := vL hLe rfl
 refine region_laid hmix (by kernel_rfl) 64 hsz (by kernel_rfl) LL (by rw [hLe]; rfl) (fun _ W => Below w9.heap.size w9 W) below9 ?_ ?_
 · intro b W i o a hS hcl ho hb hd ev kp yl
   match i with
   | 0 => simp only [qq] at ho; subst ho; have e1 := (kp 1 (by kernel_rfl)).trans b1; rw [vv0]; exact dV (by simp [execOp, go_sem, e1]) hS
   | 1 =>
     simp only [qq] at ho; subst ho; have e23 := eD ev hd 0 23 vv0
     obtain ⟨d0, d1, d2, d3, d4, d5, d6, d7, d8, d9, d10⟩ := (h9.below hS).cells
     rw [vv1]; exact dV (by simp [execOp, go_sem, e23, d4, d5]) hS
   | 2 =>
     simp only [qq] at ho; subst ho; have e1 := (kp 1 (by kernel_rfl)).trans b1
     obtain ⟨d0, d1, d2, d3, d4, d5, d6, d7, d8, d9, d10⟩ := (h9.below hS).cells
     rw [vv2]; exact dV (by simp [execOp, go_sem, e1, d0, d1, d2, d3, d4, d5, d6, d7, d8, d9, d10]) hS
   | 3 =>
     simp only [qq] at ho; subst ho; have e24 := eD ev hd 1 24 vv1; have e25 := eD ev hd 2 25 vv2; rw [vv3]
     refine does_call rfl nofun (f := 143) (args := #[.agg #[.int .i64 ot, .int .i64 on], .agg #[.int .i64 t, .int .i64 n, .int .i64 sq, .int .i64 kd, .int .i64 ot, .int .i64 on, .int .i64 pt, .int .i64 pn, .string (bas nm), .slice p l c, .slice q m d]]) ?_ ?_
     · simp [go_sem, e24, e25]
     · exact (cE W hS).mono (fun e w' h => ⟨h.1, hS.trans (h.2.mono hS.size)⟩)
   | 4 => simp only [qq] at ho; subst ho; have e26 := eD ev hd 3 26 vv3; rw [vv4]; exact dV (by simp [execOp, go_sem, e26]) hS
   | 5 =>
     simp only [qq] at ho; subst ho; have e1 := (kp 1 (by kernel_rfl)).trans b1
     obtain ⟨d0, d1, d2, d3, d4, d5, d6, d7, d8, d9, d10⟩ := (h9.below hS).cells
     rw [vv5]; exact dG (yl 4 27 true rfl (hG hd 4) vv4) (by simp [execOp, go_sem, e1, d0, d1, d2, d3, d4, d5, d6, d7, d8, d9, d10]) hS
   | 6 =>
     simp only [qq] at ho; subst ho; have e28 := eD ev hd 5 28 vv5; rw [vv6]
     refine does_call_g rfl (yl 4 27 true rfl (hG hd 4) vv4) nofun (f := 141) (args := #[.agg #[.int .i64 t, .int .i64 n, .int .i64 sq, .int .i64 kd, .int .i64 ot, .int .i64 on, .int .i64 pt, .int .i64 pn, .string (bas nm), .slice p l c, .slice q m d]]) ?_ ?_
     · simp [go_sem, e28]
     · exact (cH W hS).mono (fun e w' h => ⟨h.1, hS.trans (h.2.mono hS.size)⟩)
   | 7 => simp only [qq] at ho; subst ho; have e29 := eD ev hd 6 29 vv6; rw [vv7]; exact dG (yl 4 27 true rfl (hG hd 4) vv4) (by simp [execOp, go_sem, e29]) hS
   | 8 => simp only [qq] at ho; subst ho; have e1 := (kp 1 (by kernel_rfl)).trans b1; rw [vv8]; exact dG (yl 7 30 false rfl (hG hd 7) vv7) (by simp [execOp, go_sem, e1]) hS
   | 9 =>
     simp only [qq] at ho; subst ho; have e31 := eD ev hd 8 31 vv8
     obtain ⟨d0, d1, d2, d3, d4, d5, d6, d7, d8, d9, d10⟩ := (h9.below hS).cells
     rw [vv9]; exact dG (yl 7 30 false rfl (hG hd 7) vv7) (by simp [execOp, go_sem, e31, d6, d7]) hS
   | 10 =>
     simp only [qq] at ho; subst ho; rw [vv10]
     refine does_call_g rfl (yl 7 30 false rfl (hG hd 7) vv7) nofun (f := 144) (args := #[]) ?_ ?_
     · simp [go_sem, ]
     · exact (cT W hS).mono (fun e w' h => ⟨h.1, hS.trans (h.2.mono hS.size)⟩)
   | 11 => simp only [qq] at ho; subst ho; have e32 := eD ev hd 9 32 vv9; have e33 := eD ev hd 10 33 vv10; rw [vv11]; exact dG (yl 7 30 false rfl (hG hd 7) vv7) (by simp [execOp, go_sem, e32, e33, hr.1, hr.2]) hS
   | 12 => simp only [qq] at ho; subst ho; have e30 := eD ev hd 7 30 vv7; have e34 := eD ev hd 11 34 vv11; rw [vv12]; exact dG (yl 4 27 true rfl (hG hd 4) vv4) (by simp [execOp, go_sem, e30, e34]) hS
   | 13 => simp only [qq] at ho; subst ho; have e27 := eD ev hd 4 27 vv4; have e35 := eD ev hd 12 35 vv12; rw [vv13]; exact dV (by simp [execOp, go_sem, e27, e35]) hS
   | 14 => simp only [qq] at ho; subst ho; have e36 := eD ev hd 13 36 vv13; rw [vv14]; exact dV (by simp [execOp, go_sem, e36]) hS
   | 15 =>
     simp only [qq] at ho; subst ho; have e1 := (kp 1 (by kernel_rfl)).trans b1
     obtain ⟨d0, d1, d2, d3, d4, d5, d6, d7, d8, d9, d10⟩ := (h9.below hS).cells
     rw [vv15]; exact dG (yl 14 37 true rfl (hG hd 14) vv14) (by simp [execOp, go_sem, e1, d0, d1, d2, d3, d4, d5, d6, d7, d8, d9, d10]) hS
   | 16 =>
     simp only [qq] at ho; subst ho; have e38 := eD ev hd 15 38 vv15; rw [vv16]
     refine does_call_g rfl (yl 14 37 true rfl (hG hd 14) vv14) nofun (f := 142) (args := #[.agg #[.int .i64 t, .int .i64 n, .int .i64 sq, .int .i64 kd, .int .i64 ot, .int .i64 on, .int .i64 pt, .int .i64 pn, .string (bas nm), .slice p l c, .slice q m d]]) ?_ ?_
     · simp [go_sem, e38]
     · exact (cP W hS).mono (fun e w' h => ⟨h.1, hS.trans (h.2.mono hS.size)⟩)
   | 17 => simp only [qq] at ho; subst ho; have e37 := eD ev hd 14 37 vv14; have e39 := eD ev hd 16 39 vv16; rw [vv17]; exact dV (by simp [execOp, go_sem, e37, e39]) hS
   | 18 => simp only [qq] at ho; subst ho; have e40 := eD ev hd 17 40 vv17; rw [vv18]; exact dV (by simp [execOp, go_sem, e40]) hS
   | k + 19 => simp at ho
 · intro b' W hS _
   subst hLe
   exact hQ W hS
set_option maxRecDepth 8000 in
set_option maxHeartbeats 4000000 in
theorem kind_nowhere {Q : Exit → Act → World → Prop} {base : Array Value} {dd : List Deferred} {ops : Array Oper} (hops : Tryz.f101.body.bind (regs 6) = some ops) (g : Nat) (t n sq kd ot on pt pn : Int) (nm : List UInt8) (p q : Option Addr) (l c m d : Nat) (w9 : World) (hsz : base.size = 64) (b1 : base.getD 1 undef = .pointer (some ⟨g, 0, none⟩)) (h9 : OpB w9 g t n sq kd ot on pt pn nm p q l c m d) (cE : ∀ W, Below w9.heap.size w9 W → Calls Tryz.prog 143 #[.agg #[.int .i64 ot, .int .i64 on], .agg #[.int .i64 t, .int .i64 n, .int .i64 sq, .int .i64 kd, .int .i64 ot, .int .i64 on, .int .i64 pt, .int .i64 pn, .string (bas nm), .slice p l c, .slice q m d]] W fun e w' => e = .returned (.bool true) ∧ Below W.heap.size W w') (cH : ∀ W, Below w9.heap.size w9 W → Calls Tryz.prog 141 #[.agg #[.int .i64 t, .int .i64 n, .int .i64 sq, .int .i64 kd, .int .i64 ot, .int .i64 on, .int .i64 pt, .int .i64 pn, .string (bas nm), .slice p l c, .slice q m d]] W fun e w' => e = .returned (.bool false) ∧ Below W.heap.size W w') (cT : ∀ W, Below w9.heap.size w9 W → Calls Tryz.prog 144 #[] W fun e w' => e = .returned (.agg #[.int .i64 0, .int .i64 1]) ∧ Below W.heap.size W w') (hr : ¬ pt = 0 ∨ ¬ pn = 1) (hQ : ∀ W, Below w9.heap.size w9 W → Q .normal ⟨putAll base [(some 23, .pointer (some ⟨g, 4, none⟩)), (some 24, .agg #[.int .i64 ot, .int .i64 on]), (some 25, .agg #[.int .i64 t, .int .i64 n, .int .i64 sq, .int .i64 kd, .int .i64 ot, .int .i64 on, .int .i64 pt, .int .i64 pn, .string (bas nm), .slice p l c, .slice q m d]), (some 26, .bool true), (some 27, .bool true), (some 28, .agg #[.int .i64 t, .int .i64 n, .int .i64 sq, .int .i64 kd, .int .i64 ot, .int .i64 on, .int .i64 pt, .int .i64 pn, .string (bas nm), .slice p l c, .slice q m d]), (some 29, .bool false), (some 30, .bool false), (some 31, .pointer (some ⟨g, 6, none⟩)), (some 32, .agg #[.int .i64 pt, .int .i64 pn]), (some 33, .agg #[.int .i64 0, .int .i64 1]), (some 34, .bool false), (some 35, .bool false), (some 36, .bool false), (some 37, .bool false), (some 38, undef), (some 39, undef), (some 40, .bool false), (some 2, .bool false)], dd⟩ W) :
   (Code.region 6 ops true).wp Tryz.prog Q ⟨base, dd⟩ w9 := by
 have hmix := hmx
 have h2 := (show Tryz.f101.body.bind (regs 6) = some _ from rfl).symm.trans hops
 obtain rfl := Option.some.inj h2
 clear h2 hops
 have below9 : Below w9.heap.size w9 w9.drew := (Below.refl _ _).drew
 obtain ⟨LL, hLe⟩ := qL hQ
 have vv0 : vals LL 0 = .pointer (some ⟨g, 4, none⟩) := vL hLe rfl
 have vv1 : vals LL 1 = .agg #[.int .i64 ot, .int .i64 on] := vL hLe rfl
 have vv2 : vals LL 2 = .agg #[.int .i64 t, .int .i64 n, .int .i64 sq, .int .i64 kd, .int .i64 ot, .int .i64 on, .int .i64 pt, .int .i64 pn, .string (bas nm), .slice p l c, .slice q m d] := vL hLe rfl
 have vv3 : vals LL 3 = .bool true := vL hLe rfl
 have vv4 : vals LL 4 = .bool true := vL hLe rfl
 have vv5 : vals LL 5 = .agg #[.int .i64 t, .int .i64 n, .int .i64 sq, .int .i64 kd, .int .i64 ot, .int .i64 on, .int .i64 pt, .int .i64 pn, .string (bas nm), .slice p l c, .slice q m d] := vL hLe rfl
 have vv6 : vals LL 6 = .bool false := vL hLe rfl
 have vv7 : vals LL 7 = .bool false := vL hLe rfl
 have vv8 : vals LL 8 = .pointer (some ⟨g, 6, none⟩) := vL hLe rfl
 have vv9 : vals LL 9 = .agg #[.int .i64 pt, .int .i64 pn] := vL hLe rfl
 have vv10 : vals LL 10 = .agg #[.int .i64 0, .int .i64 1] := vL hLe rfl
 have vv11 : vals LL 11 = .bool false := vL hLe rfl
 have vv12 : vals LL 12 = .bool false := vL hLe rfl
 have vv13 : vals LL 13 = .bool false := vL hLe rfl
 have vv14 : vals LL 14 = .bool false := vL hLe rfl
 have vv17 : vals LL 17 = .bool false := vL hLe rfl
 have vv18 : vals LL 18 = .bool false := vL hLe rfl
 refine region_laid hmix (by kernel_rfl) 64 hsz (by kernel_rfl) LL (by rw [hLe]; rfl) (fun _ W => Below w9.heap.size w9 W) below9 ?_ ?_
 · intro b W i o a hS hcl ho hb hd ev kp yl
   match i with
   | 0 => simp only [qq] at ho; subst ho; have e1 := (kp 1 (by kernel_rfl)).trans b1; rw [vv0]; exact dV (by simp [execOp, go_sem, e1]) hS
   | 1 =>
     simp only [qq] at ho; subst ho; have e23 := eD ev hd 0 23 vv0
     obtain ⟨d0, d1, d2, d3, d4, d5, d6, d7, d8, d9, d10⟩ := (h9.below hS).cells
     rw [vv1]; exact dV (by simp [execOp, go_sem, e23, d4, d5]) hS
   | 2 =>
     simp only [qq] at ho; subst ho; have e1 := (kp 1 (by kernel_rfl)).trans b1
     obtain ⟨d0, d1, d2, d3, d4, d5, d6, d7, d8, d9, d10⟩ := (h9.below hS).cells
     rw [vv2]; exact dV (by simp [execOp, go_sem, e1, d0, d1, d2, d3, d4, d5, d6, d7, d8, d9, d10]) hS
   | 3 =>
     simp only [qq] at ho; subst ho; have e24 := eD ev hd 1 24 vv1; have e25 := eD ev hd 2 25 vv2; rw [vv3]
     refine does_call rfl nofun (f := 143) (args := #[.agg #[.int .i64 ot, .int .i64 on], .agg #[.int .i64 t, .int .i64 n, .int .i64 sq, .int .i64 kd, .int .i64 ot, .int .i64 on, .int .i64 pt, .int .i64 pn, .string (bas nm), .slice p l c, .slice q m d]]) ?_ ?_
     · simp [go_sem, e24, e25]
     · exact (cE W hS).mono (fun e w' h => ⟨h.1, hS.trans (h.2.mono hS.size)⟩)
   | 4 => simp only [qq] at ho; subst ho; have e26 := eD ev hd 3 26 vv3; rw [vv4]; exact dV (by simp [execOp, go_sem, e26]) hS
   | 5 =>
     simp only [qq] at ho; subst ho; have e1 := (kp 1 (by kernel_rfl)).trans b1
     obtain ⟨d0, d1, d2, d3, d4, d5, d6, d7, d8, d9, d10⟩ := (h9.below hS).cells
     rw [vv5]; exact dG (yl 4 27 true rfl (hG hd 4) vv4) (by simp [execOp, go_sem, e1, d0, d1, d2, d3, d4, d5, d6, d7, d8, d9, d10]) hS
   | 6 =>
     simp only [qq] at ho; subst ho; have e28 := eD ev hd 5 28 vv5; rw [vv6]
     refine does_call_g rfl (yl 4 27 true rfl (hG hd 4) vv4) nofun (f := 141) (args := #[.agg #[.int .i64 t, .int .i64 n, .int .i64 sq, .int .i64 kd, .int .i64 ot, .int .i64 on, .int .i64 pt, .int .i64 pn, .string (bas nm), .slice p l c, .slice q m d]]) ?_ ?_
     · simp [go_sem, e28]
     · exact (cH W hS).mono (fun e w' h => ⟨h.1, hS.trans (h.2.mono hS.size)⟩)
   | 7 => simp only [qq] at ho; subst ho; have e29 := eD ev hd 6 29 vv6; rw [vv7]; exact dG (yl 4 27 true rfl (hG hd 4) vv4) (by simp [execOp, go_sem, e29]) hS
   | 8 => simp only [qq] at ho; subst ho; have e1 := (kp 1 (by kernel_rfl)).trans b1; rw [vv8]; exact dG (yl 7 30 false rfl (hG hd 7) vv7) (by simp [execOp, go_sem, e1]) hS
   | 9 =>
     simp only [qq] at ho; subst ho; have e31 := eD ev hd 8 31 vv8
     obtain ⟨d0, d1, d2, d3, d4, d5, d6, d7, d8, d9, d10⟩ := (h9.below hS).cells
     rw [vv9]; exact dG (yl 7 30 false rfl (hG hd 7) vv7) (by simp [execOp, go_sem, e31, d6, d7]) hS
   | 10 =>
     simp only [qq] at ho; subst ho; rw [vv10]
     refine does_call_g rfl (yl 7 30 false rfl (hG hd 7) vv7) nofun (f := 144) (args := #[]) ?_ ?_
     · simp [go_sem, ]
     · exact (cT W hS).mono (fun e w' h => ⟨h.1, hS.trans (h.2.mono hS.size)⟩)
   | 11 => simp only [qq] at ho; subst ho; have e32 := eD ev hd 9 32 vv9; have e33 := eD ev hd 10 33 vv10; rw [vv11]; exact dG (yl 7 30 false rfl (hG hd 7) vv7) (by rcases hr with h | h <;> simp [execOp, go_sem, e32, e33, h]) hS
   | 12 => simp only [qq] at ho; subst ho; have e30 := eD ev hd 7 30 vv7; have e34 := eD ev hd 11 34 vv11; rw [vv12]; exact dG (yl 4 27 true rfl (hG hd 4) vv4) (by simp [execOp, go_sem, e30, e34]) hS
   | 13 => simp only [qq] at ho; subst ho; have e27 := eD ev hd 4 27 vv4; have e35 := eD ev hd 12 35 vv12; rw [vv13]; exact dV (by simp [execOp, go_sem, e27, e35]) hS
   | 14 => simp only [qq] at ho; subst ho; have e36 := eD ev hd 13 36 vv13; rw [vv14]; exact dV (by simp [execOp, go_sem, e36]) hS
   | 15 => simp only [qq] at ho; subst ho; exact does_pass rfl (yl 14 37 false rfl (hG hd 14) vv14) (by decide) (vL hLe rfl) (hS)
   | 16 => simp only [qq] at ho; subst ho; exact does_pass rfl (yl 14 37 false rfl (hG hd 14) vv14) (by decide) (vL hLe rfl) (hS)
   | 17 => simp only [qq] at ho; subst ho; have e37 := eD ev hd 14 37 vv14; rw [vv17]; exact dV (by simp [execOp, go_sem, e37]) hS
   | 18 => simp only [qq] at ho; subst ho; have e40 := eD ev hd 17 40 vv17; rw [vv18]; exact dV (by simp [execOp, go_sem, e40]) hS
   | k + 19 => simp at ho
 · intro b' W hS _
   subst hLe
   exact hQ W hS
set_option maxRecDepth 8000 in
set_option maxHeartbeats 4000000 in
theorem rmay_stamp {Q : Exit → Act → World → Prop} {base : Array Value} {dd : List Deferred} {ops : Array Oper} (hops : Tryz.f26.body.bind (regs 1) = some ops) (g : Nat) (t n sq kd ot on pt pn : Int) (nm : List UInt8) (p q : Option Addr) (l c m d : Nat) (w9 : World) (hsz : base.size = 128) (b1 : base.getD 1 undef = .pointer (some ⟨g, 0, none⟩)) (h9 : OpB w9 g t n sq kd ot on pt pn nm p q l c m d) (cV : ∀ W, Below w9.heap.size w9 W → Calls Tryz.prog 60 #[.agg #[.int .i64 t, .int .i64 n]] W fun e w' => e = .returned (.bool false) ∧ Below W.heap.size W w') (hQ : ∀ W, Below w9.heap.size w9 W → Q .normal ⟨putAll base [(some 3, .pointer (some ⟨g, 0, none⟩)), (some 4, .agg #[.int .i64 t, .int .i64 n]), (some 5, .bool false), (some 6, .bool true), (some 7, .bool true), (some 8, undef), (some 9, undef), (some 10, undef), (some 11, .bool true), (some 12, .bool true), (some 13, undef), (some 14, undef), (some 15, undef), (some 16, .bool true), (some 17, .bool true), (some 18, undef), (some 19, undef), (some 20, undef), (some 21, undef), (some 22, .bool true), (some 23, .bool true), (some 24, undef), (some 25, undef), (some 26, undef), (some 27, undef), (some 28, undef), (some 29, undef), (some 30, undef), (some 31, undef), (some 32, undef), (some 33, undef), (some 34, .bool true)], dd⟩ W) :
   (Code.region 1 ops true).wp Tryz.prog Q ⟨base, dd⟩ w9 := by
 have hmix := hmx
 have h2 := (show Tryz.f26.body.bind (regs 1) = some _ from rfl).symm.trans hops
 obtain rfl := Option.some.inj h2
 clear h2 hops
 have below9 : Below w9.heap.size w9 w9.drew := (Below.refl _ _).drew
 obtain ⟨LL, hLe⟩ := qL hQ
 have vv0 : vals LL 0 = .pointer (some ⟨g, 0, none⟩) := vL hLe rfl
 have vv1 : vals LL 1 = .agg #[.int .i64 t, .int .i64 n] := vL hLe rfl
 have vv2 : vals LL 2 = .bool false := vL hLe rfl
 have vv3 : vals LL 3 = .bool true := vL hLe rfl
 have vv4 : vals LL 4 = .bool true := vL hLe rfl
 have vv8 : vals LL 8 = .bool true := vL hLe rfl
 have vv9 : vals LL 9 = .bool true := vL hLe rfl
 have vv13 : vals LL 13 = .bool true := vL hLe rfl
 have vv14 : vals LL 14 = .bool true := vL hLe rfl
 have vv19 : vals LL 19 = .bool true := vL hLe rfl
 have vv20 : vals LL 20 = .bool true := vL hLe rfl
 have vv31 : vals LL 31 = .bool true := vL hLe rfl
 refine region_laid hmix (by kernel_rfl) 128 hsz (by kernel_rfl) LL (by rw [hLe]; rfl) (fun _ W => Below w9.heap.size w9 W) below9 ?_ ?_
 · intro b W i o a hS hcl ho hb hd ev kp yl
   match i with
   | 0 => simp only [qq] at ho; subst ho; have e1 := (kp 1 (by kernel_rfl)).trans b1; rw [vv0]; exact dV (by simp [execOp, go_sem, e1]) hS
   | 1 =>
     simp only [qq] at ho; subst ho; have e3 := eD ev hd 0 3 vv0
     obtain ⟨d0, d1, d2, d3, d4, d5, d6, d7, d8, d9, d10⟩ := (h9.below hS).cells
     rw [vv1]; exact dV (by simp [execOp, go_sem, e3, d0, d1]) hS
   | 2 =>
     simp only [qq] at ho; subst ho; have e4 := eD ev hd 1 4 vv1; rw [vv2]
     refine does_call rfl nofun (f := 60) (args := #[.agg #[.int .i64 t, .int .i64 n]]) ?_ ?_
     · simp [go_sem, e4]
     · exact (cV W hS).mono (fun e w' h => ⟨h.1, hS.trans (h.2.mono hS.size)⟩)
   | 3 => simp only [qq] at ho; subst ho; have e5 := eD ev hd 2 5 vv2; rw [vv3]; exact dV (by simp [execOp, go_sem, e5]) hS
   | 4 => simp only [qq] at ho; subst ho; have e6 := eD ev hd 3 6 vv3; rw [vv4]; exact dV (by simp [execOp, go_sem, e6]) hS
   | 5 => simp only [qq] at ho; subst ho; exact does_pass rfl (yl 4 7 true rfl (hG hd 4) vv4) (by decide) (vL hLe rfl) (hS)
   | 6 => simp only [qq] at ho; subst ho; exact does_pass rfl (yl 4 7 true rfl (hG hd 4) vv4) (by decide) (vL hLe rfl) (hS)
   | 7 => simp only [qq] at ho; subst ho; exact does_pass rfl (yl 4 7 true rfl (hG hd 4) vv4) (by decide) (vL hLe rfl) (hS)
   | 8 => simp only [qq] at ho; subst ho; have e7 := eD ev hd 4 7 vv4; rw [vv8]; exact dV (by simp [execOp, go_sem, e7]) hS
   | 9 => simp only [qq] at ho; subst ho; have e11 := eD ev hd 8 11 vv8; rw [vv9]; exact dV (by simp [execOp, go_sem, e11]) hS
   | 10 => simp only [qq] at ho; subst ho; exact does_pass rfl (yl 9 12 true rfl (hG hd 9) vv9) (by decide) (vL hLe rfl) (hS)
   | 11 => simp only [qq] at ho; subst ho; exact does_pass rfl (yl 9 12 true rfl (hG hd 9) vv9) (by decide) (vL hLe rfl) (hS)
   | 12 => simp only [qq] at ho; subst ho; exact does_pass rfl (yl 9 12 true rfl (hG hd 9) vv9) (by decide) (vL hLe rfl) (hS)
   | 13 => simp only [qq] at ho; subst ho; have e12 := eD ev hd 9 12 vv9; rw [vv13]; exact dV (by simp [execOp, go_sem, e12]) hS
   | 14 => simp only [qq] at ho; subst ho; have e16 := eD ev hd 13 16 vv13; rw [vv14]; exact dV (by simp [execOp, go_sem, e16]) hS
   | 15 => simp only [qq] at ho; subst ho; exact does_pass rfl (yl 14 17 true rfl (hG hd 14) vv14) (by decide) (vL hLe rfl) (hS)
   | 16 => simp only [qq] at ho; subst ho; exact does_pass rfl (yl 14 17 true rfl (hG hd 14) vv14) (by decide) (vL hLe rfl) (hS)
   | 17 => simp only [qq] at ho; subst ho; exact does_pass rfl (yl 14 17 true rfl (hG hd 14) vv14) (by decide) (vL hLe rfl) (hS)
   | 18 => simp only [qq] at ho; subst ho; exact does_pass rfl (yl 14 17 true rfl (hG hd 14) vv14) (by decide) (vL hLe rfl) (hS)
   | 19 => simp only [qq] at ho; subst ho; have e17 := eD ev hd 14 17 vv14; rw [vv19]; exact dV (by simp [execOp, go_sem, e17]) hS
   | 20 => simp only [qq] at ho; subst ho; have e22 := eD ev hd 19 22 vv19; rw [vv20]; exact dV (by simp [execOp, go_sem, e22]) hS
   | 21 => simp only [qq] at ho; subst ho; exact does_pass rfl (yl 20 23 true rfl (hG hd 20) vv20) (by decide) (vL hLe rfl) (hS)
   | 22 => simp only [qq] at ho; subst ho; exact does_pass rfl (yl 20 23 true rfl (hG hd 20) vv20) (by decide) (vL hLe rfl) (hS)
   | 23 => simp only [qq] at ho; subst ho; exact does_pass rfl (yl 20 23 true rfl (hG hd 20) vv20) (by decide) (vL hLe rfl) (hS)
   | 24 => simp only [qq] at ho; subst ho; exact does_pass rfl (yl 20 23 true rfl (hG hd 20) vv20) (by decide) (vL hLe rfl) (hS)
   | 25 => simp only [qq] at ho; subst ho; exact does_pass rfl (yl 20 23 true rfl (hG hd 20) vv20) (by decide) (vL hLe rfl) (hS)
   | 26 => simp only [qq] at ho; subst ho; exact does_pass rfl (yl 20 23 true rfl (hG hd 20) vv20) (by decide) (vL hLe rfl) (hS)
   | 27 => simp only [qq] at ho; subst ho; exact does_pass rfl (yl 20 23 true rfl (hG hd 20) vv20) (by decide) (vL hLe rfl) (hS)
   | 28 => simp only [qq] at ho; subst ho; exact does_pass rfl (yl 20 23 true rfl (hG hd 20) vv20) (by decide) (vL hLe rfl) (hS)
   | 29 => simp only [qq] at ho; subst ho; exact does_pass rfl (yl 20 23 true rfl (hG hd 20) vv20) (by decide) (vL hLe rfl) (hS)
   | 30 => simp only [qq] at ho; subst ho; exact does_pass rfl (yl 20 23 true rfl (hG hd 20) vv20) (by decide) (vL hLe rfl) (hS)
   | 31 => simp only [qq] at ho; subst ho; have e23 := eD ev hd 20 23 vv20; rw [vv31]; exact dV (by simp [execOp, go_sem, e23]) hS
   | k + 32 => simp at ho
 · intro b' W hS _
   subst hLe
   exact hQ W hS
set_option maxRecDepth 8000 in
set_option maxHeartbeats 4000000 in
theorem rmay_low {Q : Exit → Act → World → Prop} {base : Array Value} {dd : List Deferred} {ops : Array Oper} (hops : Tryz.f26.body.bind (regs 1) = some ops) (g : Nat) (t n sq kd ot on pt pn : Int) (nm : List UInt8) (p q : Option Addr) (l c m d : Nat) (w9 : World) (hsz : base.size = 128) (b1 : base.getD 1 undef = .pointer (some ⟨g, 0, none⟩)) (h9 : OpB w9 g t n sq kd ot on pt pn nm p q l c m d) (cV : ∀ W, Below w9.heap.size w9 W → Calls Tryz.prog 60 #[.agg #[.int .i64 t, .int .i64 n]] W fun e w' => e = .returned (.bool true) ∧ Below W.heap.size W w') (h1 : sq < 1) (hQ : ∀ W, Below w9.heap.size w9 W → Q .normal ⟨putAll base [(some 3, .pointer (some ⟨g, 0, none⟩)), (some 4, .agg #[.int .i64 t, .int .i64 n]), (some 5, .bool true), (some 6, .bool false), (some 7, .bool false), (some 8, .pointer (some ⟨g, 2, none⟩)), (some 9, .int .i64 sq), (some 10, .bool true), (some 11, .bool true), (some 12, .bool true), (some 13, undef), (some 14, undef), (some 15, undef), (some 16, .bool true), (some 17, .bool true), (some 18, undef), (some 19, undef), (some 20, undef), (some 21, undef), (some 22, .bool true), (some 23, .bool true), (some 24, undef), (some 25, undef), (some 26, undef), (some 27, undef), (some 28, undef), (some 29, undef), (some 30, undef), (some 31, undef), (some 32, undef), (some 33, undef), (some 34, .bool true)], dd⟩ W) :
   (Code.region 1 ops true).wp Tryz.prog Q ⟨base, dd⟩ w9 := by
 have hmix := hmx
 have h2 := (show Tryz.f26.body.bind (regs 1) = some _ from rfl).symm.trans hops
 obtain rfl := Option.some.inj h2
 clear h2 hops
 have below9 : Below w9.heap.size w9 w9.drew := (Below.refl _ _).drew
 obtain ⟨LL, hLe⟩ := qL hQ
 have vv0 : vals LL 0 = .pointer (some ⟨g, 0, none⟩) := vL hLe rfl
 have vv1 : vals LL 1 = .agg #[.int .i64 t, .int .i64 n] := vL hLe rfl
 have vv2 : vals LL 2 = .bool true := vL hLe rfl
 have vv3 : vals LL 3 = .bool false := vL hLe rfl
 have vv4 : vals LL 4 = .bool false := vL hLe rfl
 have vv5 : vals LL 5 = .pointer (some ⟨g, 2, none⟩) := vL hLe rfl
 have vv6 : vals LL 6 = .int .i64 sq := vL hLe rfl
 have vv7 : vals LL 7 = .bool true := vL hLe rfl
 have vv8 : vals LL 8 = .bool true := vL hLe rfl
 have vv9 : vals LL 9 = .bool true := vL hLe rfl
 have vv13 : vals LL 13 = .bool true := vL hLe rfl
 have vv14 : vals LL 14 = .bool true := vL hLe rfl
 have vv19 : vals LL 19 = .bool true := vL hLe rfl
 have vv20 : vals LL 20 = .bool true := vL hLe rfl
 have vv31 : vals LL 31 = .bool true := vL hLe rfl
 refine region_laid hmix (by kernel_rfl) 128 hsz (by kernel_rfl) LL (by rw [hLe]; rfl) (fun _ W => Below w9.heap.size w9 W) below9 ?_ ?_
 · intro b W i o a hS hcl ho hb hd ev kp yl
   match i with
   | 0 => simp only [qq] at ho; subst ho; have e1 := (kp 1 (by kernel_rfl)).trans b1; rw [vv0]; exact dV (by simp [execOp, go_sem, e1]) hS
   | 1 =>
     simp only [qq] at ho; subst ho; have e3 := eD ev hd 0 3 vv0
     obtain ⟨d0, d1, d2, d3, d4, d5, d6, d7, d8, d9, d10⟩ := (h9.below hS).cells
     rw [vv1]; exact dV (by simp [execOp, go_sem, e3, d0, d1]) hS
   | 2 =>
     simp only [qq] at ho; subst ho; have e4 := eD ev hd 1 4 vv1; rw [vv2]
     refine does_call rfl nofun (f := 60) (args := #[.agg #[.int .i64 t, .int .i64 n]]) ?_ ?_
     · simp [go_sem, e4]
     · exact (cV W hS).mono (fun e w' h => ⟨h.1, hS.trans (h.2.mono hS.size)⟩)
   | 3 => simp only [qq] at ho; subst ho; have e5 := eD ev hd 2 5 vv2; rw [vv3]; exact dV (by simp [execOp, go_sem, e5]) hS
   | 4 => simp only [qq] at ho; subst ho; have e6 := eD ev hd 3 6 vv3; rw [vv4]; exact dV (by simp [execOp, go_sem, e6]) hS
   | 5 => simp only [qq] at ho; subst ho; have e1 := (kp 1 (by kernel_rfl)).trans b1; rw [vv5]; exact dG (yl 4 7 false rfl (hG hd 4) vv4) (by simp [execOp, go_sem, e1]) hS
   | 6 =>
     simp only [qq] at ho; subst ho; have e8 := eD ev hd 5 8 vv5
     obtain ⟨d0, d1, d2, d3, d4, d5, d6, d7, d8, d9, d10⟩ := (h9.below hS).cells
     rw [vv6]; exact dG (yl 4 7 false rfl (hG hd 4) vv4) (by simp [execOp, go_sem, e8, d2]) hS
   | 7 => simp only [qq] at ho; subst ho; have e9 := eD ev hd 6 9 vv6; rw [vv7]; exact dG (yl 4 7 false rfl (hG hd 4) vv4) (by simp [execOp, go_sem, e9, h1]) hS
   | 8 => simp only [qq] at ho; subst ho; have e7 := eD ev hd 4 7 vv4; have e10 := eD ev hd 7 10 vv7; rw [vv8]; exact dV (by simp [execOp, go_sem, e7, e10]) hS
   | 9 => simp only [qq] at ho; subst ho; have e11 := eD ev hd 8 11 vv8; rw [vv9]; exact dV (by simp [execOp, go_sem, e11]) hS
   | 10 => simp only [qq] at ho; subst ho; exact does_pass rfl (yl 9 12 true rfl (hG hd 9) vv9) (by decide) (vL hLe rfl) (hS)
   | 11 => simp only [qq] at ho; subst ho; exact does_pass rfl (yl 9 12 true rfl (hG hd 9) vv9) (by decide) (vL hLe rfl) (hS)
   | 12 => simp only [qq] at ho; subst ho; exact does_pass rfl (yl 9 12 true rfl (hG hd 9) vv9) (by decide) (vL hLe rfl) (hS)
   | 13 => simp only [qq] at ho; subst ho; have e12 := eD ev hd 9 12 vv9; rw [vv13]; exact dV (by simp [execOp, go_sem, e12]) hS
   | 14 => simp only [qq] at ho; subst ho; have e16 := eD ev hd 13 16 vv13; rw [vv14]; exact dV (by simp [execOp, go_sem, e16]) hS
   | 15 => simp only [qq] at ho; subst ho; exact does_pass rfl (yl 14 17 true rfl (hG hd 14) vv14) (by decide) (vL hLe rfl) (hS)
   | 16 => simp only [qq] at ho; subst ho; exact does_pass rfl (yl 14 17 true rfl (hG hd 14) vv14) (by decide) (vL hLe rfl) (hS)
   | 17 => simp only [qq] at ho; subst ho; exact does_pass rfl (yl 14 17 true rfl (hG hd 14) vv14) (by decide) (vL hLe rfl) (hS)
   | 18 => simp only [qq] at ho; subst ho; exact does_pass rfl (yl 14 17 true rfl (hG hd 14) vv14) (by decide) (vL hLe rfl) (hS)
   | 19 => simp only [qq] at ho; subst ho; have e17 := eD ev hd 14 17 vv14; rw [vv19]; exact dV (by simp [execOp, go_sem, e17]) hS
   | 20 => simp only [qq] at ho; subst ho; have e22 := eD ev hd 19 22 vv19; rw [vv20]; exact dV (by simp [execOp, go_sem, e22]) hS
   | 21 => simp only [qq] at ho; subst ho; exact does_pass rfl (yl 20 23 true rfl (hG hd 20) vv20) (by decide) (vL hLe rfl) (hS)
   | 22 => simp only [qq] at ho; subst ho; exact does_pass rfl (yl 20 23 true rfl (hG hd 20) vv20) (by decide) (vL hLe rfl) (hS)
   | 23 => simp only [qq] at ho; subst ho; exact does_pass rfl (yl 20 23 true rfl (hG hd 20) vv20) (by decide) (vL hLe rfl) (hS)
   | 24 => simp only [qq] at ho; subst ho; exact does_pass rfl (yl 20 23 true rfl (hG hd 20) vv20) (by decide) (vL hLe rfl) (hS)
   | 25 => simp only [qq] at ho; subst ho; exact does_pass rfl (yl 20 23 true rfl (hG hd 20) vv20) (by decide) (vL hLe rfl) (hS)
   | 26 => simp only [qq] at ho; subst ho; exact does_pass rfl (yl 20 23 true rfl (hG hd 20) vv20) (by decide) (vL hLe rfl) (hS)
   | 27 => simp only [qq] at ho; subst ho; exact does_pass rfl (yl 20 23 true rfl (hG hd 20) vv20) (by decide) (vL hLe rfl) (hS)
   | 28 => simp only [qq] at ho; subst ho; exact does_pass rfl (yl 20 23 true rfl (hG hd 20) vv20) (by decide) (vL hLe rfl) (hS)
   | 29 => simp only [qq] at ho; subst ho; exact does_pass rfl (yl 20 23 true rfl (hG hd 20) vv20) (by decide) (vL hLe rfl) (hS)
   | 30 => simp only [qq] at ho; subst ho; exact does_pass rfl (yl 20 23 true rfl (hG hd 20) vv20) (by decide) (vL hLe rfl) (hS)
   | 31 => simp only [qq] at ho; subst ho; have e23 := eD ev hd 20 23 vv20; rw [vv31]; exact dV (by simp [execOp, go_sem, e23]) hS
   | k + 32 => simp at ho
 · intro b' W hS _
   subst hLe
   exact hQ W hS
set_option maxRecDepth 8000 in
set_option maxHeartbeats 4000000 in
theorem rmay_high {Q : Exit → Act → World → Prop} {base : Array Value} {dd : List Deferred} {ops : Array Oper} (hops : Tryz.f26.body.bind (regs 1) = some ops) (g : Nat) (t n sq kd ot on pt pn : Int) (nm : List UInt8) (p q : Option Addr) (l c m d : Nat) (w9 : World) (hsz : base.size = 128) (b1 : base.getD 1 undef = .pointer (some ⟨g, 0, none⟩)) (h9 : OpB w9 g t n sq kd ot on pt pn nm p q l c m d) (cV : ∀ W, Below w9.heap.size w9 W → Calls Tryz.prog 60 #[.agg #[.int .i64 t, .int .i64 n]] W fun e w' => e = .returned (.bool true) ∧ Below W.heap.size W w') (h1 : ¬ sq < 1) (h2 : 1152921504606846976 < sq) (hQ : ∀ W, Below w9.heap.size w9 W → Q .normal ⟨putAll base [(some 3, .pointer (some ⟨g, 0, none⟩)), (some 4, .agg #[.int .i64 t, .int .i64 n]), (some 5, .bool true), (some 6, .bool false), (some 7, .bool false), (some 8, .pointer (some ⟨g, 2, none⟩)), (some 9, .int .i64 sq), (some 10, .bool false), (some 11, .bool false), (some 12, .bool false), (some 13, .pointer (some ⟨g, 2, none⟩)), (some 14, .int .i64 sq), (some 15, .bool true), (some 16, .bool true), (some 17, .bool true), (some 18, undef), (some 19, undef), (some 20, undef), (some 21, undef), (some 22, .bool true), (some 23, .bool true), (some 24, undef), (some 25, undef), (some 26, undef), (some 27, undef), (some 28, undef), (some 29, undef), (some 30, undef), (some 31, undef), (some 32, undef), (some 33, undef), (some 34, .bool true)], dd⟩ W) :
   (Code.region 1 ops true).wp Tryz.prog Q ⟨base, dd⟩ w9 := by
 have hmix := hmx
 have h2 := (show Tryz.f26.body.bind (regs 1) = some _ from rfl).symm.trans hops
 obtain rfl := Option.some.inj h2
 clear h2 hops
 have below9 : Below w9.heap.size w9 w9.drew := (Below.refl _ _).drew
 obtain ⟨LL, hLe⟩ := qL hQ
 have vv0 : vals LL 0 = .pointer (some ⟨g, 0, none⟩) := vL hLe rfl
 have vv1 : vals LL 1 = .agg #[.int .i64 t, .int .i64 n] := vL hLe rfl
 have vv2 : vals LL 2 = .bool true := vL hLe rfl
 have vv3 : vals LL 3 = .bool false := vL hLe rfl
 have vv4 : vals LL 4 = .bool false := vL hLe rfl
 have vv5 : vals LL 5 = .pointer (some ⟨g, 2, none⟩) := vL hLe rfl
 have vv6 : vals LL 6 = .int .i64 sq := vL hLe rfl
 have vv7 : vals LL 7 = .bool false := vL hLe rfl
 have vv8 : vals LL 8 = .bool false := vL hLe rfl
 have vv9 : vals LL 9 = .bool false := vL hLe rfl
 have vv10 : vals LL 10 = .pointer (some ⟨g, 2, none⟩) := vL hLe rfl
 have vv11 : vals LL 11 = .int .i64 sq := vL hLe rfl
 have vv12 : vals LL 12 = .bool true := vL hLe rfl
 have vv13 : vals LL 13 = .bool true := vL hLe rfl
 have vv14 : vals LL 14 = .bool true := vL hLe rfl
 have vv19 : vals LL 19 = .bool true := vL hLe rfl
 have vv20 : vals LL 20 = .bool true := vL hLe rfl
 have vv31 : vals LL 31 = .bool true := vL hLe rfl
 refine region_laid hmix (by kernel_rfl) 128 hsz (by kernel_rfl) LL (by rw [hLe]; rfl) (fun _ W => Below w9.heap.size w9 W) below9 ?_ ?_
 · intro b W i o a hS hcl ho hb hd ev kp yl
   match i with
   | 0 => simp only [qq] at ho; subst ho; have e1 := (kp 1 (by kernel_rfl)).trans b1; rw [vv0]; exact dV (by simp [execOp, go_sem, e1]) hS
   | 1 =>
     simp only [qq] at ho; subst ho; have e3 := eD ev hd 0 3 vv0
     obtain ⟨d0, d1, d2, d3, d4, d5, d6, d7, d8, d9, d10⟩ := (h9.below hS).cells
     rw [vv1]; exact dV (by simp [execOp, go_sem, e3, d0, d1]) hS
   | 2 =>
     simp only [qq] at ho; subst ho; have e4 := eD ev hd 1 4 vv1; rw [vv2]
     refine does_call rfl nofun (f := 60) (args := #[.agg #[.int .i64 t, .int .i64 n]]) ?_ ?_
     · simp [go_sem, e4]
     · exact (cV W hS).mono (fun e w' h => ⟨h.1, hS.trans (h.2.mono hS.size)⟩)
   | 3 => simp only [qq] at ho; subst ho; have e5 := eD ev hd 2 5 vv2; rw [vv3]; exact dV (by simp [execOp, go_sem, e5]) hS
   | 4 => simp only [qq] at ho; subst ho; have e6 := eD ev hd 3 6 vv3; rw [vv4]; exact dV (by simp [execOp, go_sem, e6]) hS
   | 5 => simp only [qq] at ho; subst ho; have e1 := (kp 1 (by kernel_rfl)).trans b1; rw [vv5]; exact dG (yl 4 7 false rfl (hG hd 4) vv4) (by simp [execOp, go_sem, e1]) hS
   | 6 =>
     simp only [qq] at ho; subst ho; have e8 := eD ev hd 5 8 vv5
     obtain ⟨d0, d1, d2, d3, d4, d5, d6, d7, d8, d9, d10⟩ := (h9.below hS).cells
     rw [vv6]; exact dG (yl 4 7 false rfl (hG hd 4) vv4) (by simp [execOp, go_sem, e8, d2]) hS
   | 7 => simp only [qq] at ho; subst ho; have e9 := eD ev hd 6 9 vv6; rw [vv7]; exact dG (yl 4 7 false rfl (hG hd 4) vv4) (by simp [execOp, go_sem, e9, h1]) hS
   | 8 => simp only [qq] at ho; subst ho; have e7 := eD ev hd 4 7 vv4; have e10 := eD ev hd 7 10 vv7; rw [vv8]; exact dV (by simp [execOp, go_sem, e7, e10]) hS
   | 9 => simp only [qq] at ho; subst ho; have e11 := eD ev hd 8 11 vv8; rw [vv9]; exact dV (by simp [execOp, go_sem, e11]) hS
   | 10 => simp only [qq] at ho; subst ho; have e1 := (kp 1 (by kernel_rfl)).trans b1; rw [vv10]; exact dG (yl 9 12 false rfl (hG hd 9) vv9) (by simp [execOp, go_sem, e1]) hS
   | 11 =>
     simp only [qq] at ho; subst ho; have e13 := eD ev hd 10 13 vv10
     obtain ⟨d0, d1, d2, d3, d4, d5, d6, d7, d8, d9, d10⟩ := (h9.below hS).cells
     rw [vv11]; exact dG (yl 9 12 false rfl (hG hd 9) vv9) (by simp [execOp, go_sem, e13, d2]) hS
   | 12 => simp only [qq] at ho; subst ho; have e14 := eD ev hd 11 14 vv11; rw [vv12]; exact dG (yl 9 12 false rfl (hG hd 9) vv9) (by simp [execOp, go_sem, e14, h2]) hS
   | 13 => simp only [qq] at ho; subst ho; have e12 := eD ev hd 9 12 vv9; have e15 := eD ev hd 12 15 vv12; rw [vv13]; exact dV (by simp [execOp, go_sem, e12, e15]) hS
   | 14 => simp only [qq] at ho; subst ho; have e16 := eD ev hd 13 16 vv13; rw [vv14]; exact dV (by simp [execOp, go_sem, e16]) hS
   | 15 => simp only [qq] at ho; subst ho; exact does_pass rfl (yl 14 17 true rfl (hG hd 14) vv14) (by decide) (vL hLe rfl) (hS)
   | 16 => simp only [qq] at ho; subst ho; exact does_pass rfl (yl 14 17 true rfl (hG hd 14) vv14) (by decide) (vL hLe rfl) (hS)
   | 17 => simp only [qq] at ho; subst ho; exact does_pass rfl (yl 14 17 true rfl (hG hd 14) vv14) (by decide) (vL hLe rfl) (hS)
   | 18 => simp only [qq] at ho; subst ho; exact does_pass rfl (yl 14 17 true rfl (hG hd 14) vv14) (by decide) (vL hLe rfl) (hS)
   | 19 => simp only [qq] at ho; subst ho; have e17 := eD ev hd 14 17 vv14; rw [vv19]; exact dV (by simp [execOp, go_sem, e17]) hS
   | 20 => simp only [qq] at ho; subst ho; have e22 := eD ev hd 19 22 vv19; rw [vv20]; exact dV (by simp [execOp, go_sem, e22]) hS
   | 21 => simp only [qq] at ho; subst ho; exact does_pass rfl (yl 20 23 true rfl (hG hd 20) vv20) (by decide) (vL hLe rfl) (hS)
   | 22 => simp only [qq] at ho; subst ho; exact does_pass rfl (yl 20 23 true rfl (hG hd 20) vv20) (by decide) (vL hLe rfl) (hS)
   | 23 => simp only [qq] at ho; subst ho; exact does_pass rfl (yl 20 23 true rfl (hG hd 20) vv20) (by decide) (vL hLe rfl) (hS)
   | 24 => simp only [qq] at ho; subst ho; exact does_pass rfl (yl 20 23 true rfl (hG hd 20) vv20) (by decide) (vL hLe rfl) (hS)
   | 25 => simp only [qq] at ho; subst ho; exact does_pass rfl (yl 20 23 true rfl (hG hd 20) vv20) (by decide) (vL hLe rfl) (hS)
   | 26 => simp only [qq] at ho; subst ho; exact does_pass rfl (yl 20 23 true rfl (hG hd 20) vv20) (by decide) (vL hLe rfl) (hS)
   | 27 => simp only [qq] at ho; subst ho; exact does_pass rfl (yl 20 23 true rfl (hG hd 20) vv20) (by decide) (vL hLe rfl) (hS)
   | 28 => simp only [qq] at ho; subst ho; exact does_pass rfl (yl 20 23 true rfl (hG hd 20) vv20) (by decide) (vL hLe rfl) (hS)
   | 29 => simp only [qq] at ho; subst ho; exact does_pass rfl (yl 20 23 true rfl (hG hd 20) vv20) (by decide) (vL hLe rfl) (hS)
   | 30 => simp only [qq] at ho; subst ho; exact does_pass rfl (yl 20 23 true rfl (hG hd 20) vv20) (by decide) (vL hLe rfl) (hS)
   | 31 => simp only [qq] at ho; subst ho; have e23 := eD ev hd 20 23 vv20; rw [vv31]; exact dV (by simp [execOp, go_sem, e23]) hS
   | k + 32 => simp at ho
 · intro b' W hS _
   subst hLe
   exact hQ W hS
set_option maxRecDepth 8000 in
set_option maxHeartbeats 4000000 in
theorem rmay_vec {Q : Exit → Act → World → Prop} {base : Array Value} {dd : List Deferred} {ops : Array Oper} (hops : Tryz.f26.body.bind (regs 1) = some ops) (g : Nat) (t n sq kd ot on pt pn : Int) (nm : List UInt8) (p q : Option Addr) (l c m d : Nat) (w9 : World) (hsz : base.size = 128) (b1 : base.getD 1 undef = .pointer (some ⟨g, 0, none⟩)) (h9 : OpB w9 g t n sq kd ot on pt pn nm p q l c m d) (cV : ∀ W, Below w9.heap.size w9 W → Calls Tryz.prog 60 #[.agg #[.int .i64 t, .int .i64 n]] W fun e w' => e = .returned (.bool true) ∧ Below W.heap.size W w') (h1 : ¬ sq < 1) (h2 : ¬ 1152921504606846976 < sq) (cM : ∀ W, Below w9.heap.size w9 W → Calls Tryz.prog 61 #[.slice q m d] W fun e w' => e = .returned (.bool false) ∧ Below W.heap.size W w') (hQ : ∀ W, Below w9.heap.size w9 W → Q .normal ⟨putAll base [(some 3, .pointer (some ⟨g, 0, none⟩)), (some 4, .agg #[.int .i64 t, .int .i64 n]), (some 5, .bool true), (some 6, .bool false), (some 7, .bool false), (some 8, .pointer (some ⟨g, 2, none⟩)), (some 9, .int .i64 sq), (some 10, .bool false), (some 11, .bool false), (some 12, .bool false), (some 13, .pointer (some ⟨g, 2, none⟩)), (some 14, .int .i64 sq), (some 15, .bool false), (some 16, .bool false), (some 17, .bool false), (some 18, .pointer (some ⟨g, 10, none⟩)), (some 19, .slice q m d), (some 20, .bool false), (some 21, .bool true), (some 22, .bool true), (some 23, .bool true), (some 24, undef), (some 25, undef), (some 26, undef), (some 27, undef), (some 28, undef), (some 29, undef), (some 30, undef), (some 31, undef), (some 32, undef), (some 33, undef), (some 34, .bool true)], dd⟩ W) :
   (Code.region 1 ops true).wp Tryz.prog Q ⟨base, dd⟩ w9 := by
 have hmix := hmx
 have h2 := (show Tryz.f26.body.bind (regs 1) = some _ from rfl).symm.trans hops
 obtain rfl := Option.some.inj h2
 clear h2 hops
 have below9 : Below w9.heap.size w9 w9.drew := (Below.refl _ _).drew
 obtain ⟨LL, hLe⟩ := qL hQ
 have vv0 : vals LL 0 = .pointer (some ⟨g, 0, none⟩) := vL hLe rfl
 have vv1 : vals LL 1 = .agg #[.int .i64 t, .int .i64 n] := vL hLe rfl
 have vv2 : vals LL 2 = .bool true := vL hLe rfl
 have vv3 : vals LL 3 = .bool false := vL hLe rfl
 have vv4 : vals LL 4 = .bool false := vL hLe rfl
 have vv5 : vals LL 5 = .pointer (some ⟨g, 2, none⟩) := vL hLe rfl
 have vv6 : vals LL 6 = .int .i64 sq := vL hLe rfl
 have vv7 : vals LL 7 = .bool false := vL hLe rfl
 have vv8 : vals LL 8 = .bool false := vL hLe rfl
 have vv9 : vals LL 9 = .bool false := vL hLe rfl
 have vv10 : vals LL 10 = .pointer (some ⟨g, 2, none⟩) := vL hLe rfl
 have vv11 : vals LL 11 = .int .i64 sq := vL hLe rfl
 have vv12 : vals LL 12 = .bool false := vL hLe rfl
 have vv13 : vals LL 13 = .bool false := vL hLe rfl
 have vv14 : vals LL 14 = .bool false := vL hLe rfl
 have vv15 : vals LL 15 = .pointer (some ⟨g, 10, none⟩) := vL hLe rfl
 have vv16 : vals LL 16 = .slice q m d := vL hLe rfl
 have vv17 : vals LL 17 = .bool false := vL hLe rfl
 have vv18 : vals LL 18 = .bool true := vL hLe rfl
 have vv19 : vals LL 19 = .bool true := vL hLe rfl
 have vv20 : vals LL 20 = .bool true := vL hLe rfl
 have vv31 : vals LL 31 = .bool true := vL hLe rfl
 refine region_laid hmix (by kernel_rfl) 128 hsz (by kernel_rfl) LL (by rw [hLe]; rfl) (fun _ W => Below w9.heap.size w9 W) below9 ?_ ?_
 · intro b W i o a hS hcl ho hb hd ev kp yl
   match i with
   | 0 => simp only [qq] at ho; subst ho; have e1 := (kp 1 (by kernel_rfl)).trans b1; rw [vv0]; exact dV (by simp [execOp, go_sem, e1]) hS
   | 1 =>
     simp only [qq] at ho; subst ho; have e3 := eD ev hd 0 3 vv0
     obtain ⟨d0, d1, d2, d3, d4, d5, d6, d7, d8, d9, d10⟩ := (h9.below hS).cells
     rw [vv1]; exact dV (by simp [execOp, go_sem, e3, d0, d1]) hS
   | 2 =>
     simp only [qq] at ho; subst ho; have e4 := eD ev hd 1 4 vv1; rw [vv2]
     refine does_call rfl nofun (f := 60) (args := #[.agg #[.int .i64 t, .int .i64 n]]) ?_ ?_
     · simp [go_sem, e4]
     · exact (cV W hS).mono (fun e w' h => ⟨h.1, hS.trans (h.2.mono hS.size)⟩)
   | 3 => simp only [qq] at ho; subst ho; have e5 := eD ev hd 2 5 vv2; rw [vv3]; exact dV (by simp [execOp, go_sem, e5]) hS
   | 4 => simp only [qq] at ho; subst ho; have e6 := eD ev hd 3 6 vv3; rw [vv4]; exact dV (by simp [execOp, go_sem, e6]) hS
   | 5 => simp only [qq] at ho; subst ho; have e1 := (kp 1 (by kernel_rfl)).trans b1; rw [vv5]; exact dG (yl 4 7 false rfl (hG hd 4) vv4) (by simp [execOp, go_sem, e1]) hS
   | 6 =>
     simp only [qq] at ho; subst ho; have e8 := eD ev hd 5 8 vv5
     obtain ⟨d0, d1, d2, d3, d4, d5, d6, d7, d8, d9, d10⟩ := (h9.below hS).cells
     rw [vv6]; exact dG (yl 4 7 false rfl (hG hd 4) vv4) (by simp [execOp, go_sem, e8, d2]) hS
   | 7 => simp only [qq] at ho; subst ho; have e9 := eD ev hd 6 9 vv6; rw [vv7]; exact dG (yl 4 7 false rfl (hG hd 4) vv4) (by simp [execOp, go_sem, e9, h1]) hS
   | 8 => simp only [qq] at ho; subst ho; have e7 := eD ev hd 4 7 vv4; have e10 := eD ev hd 7 10 vv7; rw [vv8]; exact dV (by simp [execOp, go_sem, e7, e10]) hS
   | 9 => simp only [qq] at ho; subst ho; have e11 := eD ev hd 8 11 vv8; rw [vv9]; exact dV (by simp [execOp, go_sem, e11]) hS
   | 10 => simp only [qq] at ho; subst ho; have e1 := (kp 1 (by kernel_rfl)).trans b1; rw [vv10]; exact dG (yl 9 12 false rfl (hG hd 9) vv9) (by simp [execOp, go_sem, e1]) hS
   | 11 =>
     simp only [qq] at ho; subst ho; have e13 := eD ev hd 10 13 vv10
     obtain ⟨d0, d1, d2, d3, d4, d5, d6, d7, d8, d9, d10⟩ := (h9.below hS).cells
     rw [vv11]; exact dG (yl 9 12 false rfl (hG hd 9) vv9) (by simp [execOp, go_sem, e13, d2]) hS
   | 12 => simp only [qq] at ho; subst ho; have e14 := eD ev hd 11 14 vv11; rw [vv12]; exact dG (yl 9 12 false rfl (hG hd 9) vv9) (by simp [execOp, go_sem, e14, h2]) hS
   | 13 => simp only [qq] at ho; subst ho; have e12 := eD ev hd 9 12 vv9; have e15 := eD ev hd 12 15 vv12; rw [vv13]; exact dV (by simp [execOp, go_sem, e12, e15]) hS
   | 14 => simp only [qq] at ho; subst ho; have e16 := eD ev hd 13 16 vv13; rw [vv14]; exact dV (by simp [execOp, go_sem, e16]) hS
   | 15 => simp only [qq] at ho; subst ho; have e1 := (kp 1 (by kernel_rfl)).trans b1; rw [vv15]; exact dG (yl 14 17 false rfl (hG hd 14) vv14) (by simp [execOp, go_sem, e1]) hS
   | 16 =>
     simp only [qq] at ho; subst ho; have e18 := eD ev hd 15 18 vv15
     obtain ⟨d0, d1, d2, d3, d4, d5, d6, d7, d8, d9, d10⟩ := (h9.below hS).cells
     rw [vv16]; exact dG (yl 14 17 false rfl (hG hd 14) vv14) (by simp [execOp, go_sem, e18, d10]) hS
   | 17 =>
     simp only [qq] at ho; subst ho; have e19 := eD ev hd 16 19 vv16; rw [vv17]
     refine does_call_g rfl (yl 14 17 false rfl (hG hd 14) vv14) nofun (f := 61) (args := #[.slice q m d]) ?_ ?_
     · simp [go_sem, e19]
     · exact (cM W hS).mono (fun e w' h => ⟨h.1, hS.trans (h.2.mono hS.size)⟩)
   | 18 => simp only [qq] at ho; subst ho; have e20 := eD ev hd 17 20 vv17; rw [vv18]; exact dG (yl 14 17 false rfl (hG hd 14) vv14) (by simp [execOp, go_sem, e20]) hS
   | 19 => simp only [qq] at ho; subst ho; have e17 := eD ev hd 14 17 vv14; have e21 := eD ev hd 18 21 vv18; rw [vv19]; exact dV (by simp [execOp, go_sem, e17, e21]) hS
   | 20 => simp only [qq] at ho; subst ho; have e22 := eD ev hd 19 22 vv19; rw [vv20]; exact dV (by simp [execOp, go_sem, e22]) hS
   | 21 => simp only [qq] at ho; subst ho; exact does_pass rfl (yl 20 23 true rfl (hG hd 20) vv20) (by decide) (vL hLe rfl) (hS)
   | 22 => simp only [qq] at ho; subst ho; exact does_pass rfl (yl 20 23 true rfl (hG hd 20) vv20) (by decide) (vL hLe rfl) (hS)
   | 23 => simp only [qq] at ho; subst ho; exact does_pass rfl (yl 20 23 true rfl (hG hd 20) vv20) (by decide) (vL hLe rfl) (hS)
   | 24 => simp only [qq] at ho; subst ho; exact does_pass rfl (yl 20 23 true rfl (hG hd 20) vv20) (by decide) (vL hLe rfl) (hS)
   | 25 => simp only [qq] at ho; subst ho; exact does_pass rfl (yl 20 23 true rfl (hG hd 20) vv20) (by decide) (vL hLe rfl) (hS)
   | 26 => simp only [qq] at ho; subst ho; exact does_pass rfl (yl 20 23 true rfl (hG hd 20) vv20) (by decide) (vL hLe rfl) (hS)
   | 27 => simp only [qq] at ho; subst ho; exact does_pass rfl (yl 20 23 true rfl (hG hd 20) vv20) (by decide) (vL hLe rfl) (hS)
   | 28 => simp only [qq] at ho; subst ho; exact does_pass rfl (yl 20 23 true rfl (hG hd 20) vv20) (by decide) (vL hLe rfl) (hS)
   | 29 => simp only [qq] at ho; subst ho; exact does_pass rfl (yl 20 23 true rfl (hG hd 20) vv20) (by decide) (vL hLe rfl) (hS)
   | 30 => simp only [qq] at ho; subst ho; exact does_pass rfl (yl 20 23 true rfl (hG hd 20) vv20) (by decide) (vL hLe rfl) (hS)
   | 31 => simp only [qq] at ho; subst ho; have e23 := eD ev hd 20 23 vv20; rw [vv31]; exact dV (by simp [execOp, go_sem, e23]) hS
   | k + 32 => simp at ho
 · intro b' W hS _
   subst hLe
   exact hQ W hS
set_option maxRecDepth 8000 in
set_option maxHeartbeats 4000000 in
theorem rmay_at {Q : Exit → Act → World → Prop} {base : Array Value} {dd : List Deferred} {ops : Array Oper} (hops : Tryz.f26.body.bind (regs 1) = some ops) (g : Nat) (t n sq kd ot on pt pn : Int) (nm : List UInt8) (p q : Option Addr) (l c m d : Nat) (w9 : World) (hsz : base.size = 128) (b1 : base.getD 1 undef = .pointer (some ⟨g, 0, none⟩)) (h9 : OpB w9 g t n sq kd ot on pt pn nm p q l c m d) (cV : ∀ W, Below w9.heap.size w9 W → Calls Tryz.prog 60 #[.agg #[.int .i64 t, .int .i64 n]] W fun e w' => e = .returned (.bool true) ∧ Below W.heap.size W w') (h1 : ¬ sq < 1) (h2 : ¬ 1152921504606846976 < sq) (z : Int) (cM : ∀ W, Below w9.heap.size w9 W → Calls Tryz.prog 61 #[.slice q m d] W fun e w' => e = .returned (.bool true) ∧ Below W.heap.size W w') (cA : ∀ W, Below w9.heap.size w9 W → Calls Tryz.prog 62 #[.slice q m d, .int .i64 n] W fun e w' => e = .returned (.int .i64 z) ∧ Below W.heap.size W w') (hQ : ∀ W, Below w9.heap.size w9 W → Q .normal ⟨putAll base [(some 3, .pointer (some ⟨g, 0, none⟩)), (some 4, .agg #[.int .i64 t, .int .i64 n]), (some 5, .bool true), (some 6, .bool false), (some 7, .bool false), (some 8, .pointer (some ⟨g, 2, none⟩)), (some 9, .int .i64 sq), (some 10, .bool false), (some 11, .bool false), (some 12, .bool false), (some 13, .pointer (some ⟨g, 2, none⟩)), (some 14, .int .i64 sq), (some 15, .bool false), (some 16, .bool false), (some 17, .bool false), (some 18, .pointer (some ⟨g, 10, none⟩)), (some 19, .slice q m d), (some 20, .bool true), (some 21, .bool false), (some 22, .bool false), (some 23, .bool false), (some 24, .pointer (some ⟨g, 10, none⟩)), (some 25, .slice q m d), (some 26, .pointer (some ⟨g, 0, none⟩)), (some 27, .pointer (some ⟨g, 1, none⟩)), (some 28, .int .i64 n), (some 29, .int .i64 z), (some 30, .pointer (some ⟨g, 2, none⟩)), (some 31, .int .i64 sq), (some 32, .int .i64 (sq - 1)), (some 33, .bool (z != sq - 1)), (some 34, .bool (z != sq - 1))], dd⟩ W) :
   (Code.region 1 ops true).wp Tryz.prog Q ⟨base, dd⟩ w9 := by
 have hmix := hmx
 have h2 := (show Tryz.f26.body.bind (regs 1) = some _ from rfl).symm.trans hops
 obtain rfl := Option.some.inj h2
 clear h2 hops
 have below9 : Below w9.heap.size w9 w9.drew := (Below.refl _ _).drew
 obtain ⟨LL, hLe⟩ := qL hQ
 have vv0 : vals LL 0 = .pointer (some ⟨g, 0, none⟩) := vL hLe rfl
 have vv1 : vals LL 1 = .agg #[.int .i64 t, .int .i64 n] := vL hLe rfl
 have vv2 : vals LL 2 = .bool true := vL hLe rfl
 have vv3 : vals LL 3 = .bool false := vL hLe rfl
 have vv4 : vals LL 4 = .bool false := vL hLe rfl
 have vv5 : vals LL 5 = .pointer (some ⟨g, 2, none⟩) := vL hLe rfl
 have vv6 : vals LL 6 = .int .i64 sq := vL hLe rfl
 have vv7 : vals LL 7 = .bool false := vL hLe rfl
 have vv8 : vals LL 8 = .bool false := vL hLe rfl
 have vv9 : vals LL 9 = .bool false := vL hLe rfl
 have vv10 : vals LL 10 = .pointer (some ⟨g, 2, none⟩) := vL hLe rfl
 have vv11 : vals LL 11 = .int .i64 sq := vL hLe rfl
 have vv12 : vals LL 12 = .bool false := vL hLe rfl
 have vv13 : vals LL 13 = .bool false := vL hLe rfl
 have vv14 : vals LL 14 = .bool false := vL hLe rfl
 have vv15 : vals LL 15 = .pointer (some ⟨g, 10, none⟩) := vL hLe rfl
 have vv16 : vals LL 16 = .slice q m d := vL hLe rfl
 have vv17 : vals LL 17 = .bool true := vL hLe rfl
 have vv18 : vals LL 18 = .bool false := vL hLe rfl
 have vv19 : vals LL 19 = .bool false := vL hLe rfl
 have vv20 : vals LL 20 = .bool false := vL hLe rfl
 have vv21 : vals LL 21 = .pointer (some ⟨g, 10, none⟩) := vL hLe rfl
 have vv22 : vals LL 22 = .slice q m d := vL hLe rfl
 have vv23 : vals LL 23 = .pointer (some ⟨g, 0, none⟩) := vL hLe rfl
 have vv24 : vals LL 24 = .pointer (some ⟨g, 1, none⟩) := vL hLe rfl
 have vv25 : vals LL 25 = .int .i64 n := vL hLe rfl
 have vv26 : vals LL 26 = .int .i64 z := vL hLe rfl
 have vv27 : vals LL 27 = .pointer (some ⟨g, 2, none⟩) := vL hLe rfl
 have vv28 : vals LL 28 = .int .i64 sq := vL hLe rfl
 have vv29 : vals LL 29 = .int .i64 (sq - 1) := vL hLe rfl
 have vv30 : vals LL 30 = .bool (z != sq - 1) := vL hLe rfl
 have vv31 : vals LL 31 = .bool (z != sq - 1) := vL hLe rfl
 refine region_laid hmix (by kernel_rfl) 128 hsz (by kernel_rfl) LL (by rw [hLe]; rfl) (fun _ W => Below w9.heap.size w9 W) below9 ?_ ?_
 · intro b W i o a hS hcl ho hb hd ev kp yl
   match i with
   | 0 => simp only [qq] at ho; subst ho; have e1 := (kp 1 (by kernel_rfl)).trans b1; rw [vv0]; exact dV (by simp [execOp, go_sem, e1]) hS
   | 1 =>
     simp only [qq] at ho; subst ho; have e3 := eD ev hd 0 3 vv0
     obtain ⟨d0, d1, d2, d3, d4, d5, d6, d7, d8, d9, d10⟩ := (h9.below hS).cells
     rw [vv1]; exact dV (by simp [execOp, go_sem, e3, d0, d1]) hS
   | 2 =>
     simp only [qq] at ho; subst ho; have e4 := eD ev hd 1 4 vv1; rw [vv2]
     refine does_call rfl nofun (f := 60) (args := #[.agg #[.int .i64 t, .int .i64 n]]) ?_ ?_
     · simp [go_sem, e4]
     · exact (cV W hS).mono (fun e w' h => ⟨h.1, hS.trans (h.2.mono hS.size)⟩)
   | 3 => simp only [qq] at ho; subst ho; have e5 := eD ev hd 2 5 vv2; rw [vv3]; exact dV (by simp [execOp, go_sem, e5]) hS
   | 4 => simp only [qq] at ho; subst ho; have e6 := eD ev hd 3 6 vv3; rw [vv4]; exact dV (by simp [execOp, go_sem, e6]) hS
   | 5 => simp only [qq] at ho; subst ho; have e1 := (kp 1 (by kernel_rfl)).trans b1; rw [vv5]; exact dG (yl 4 7 false rfl (hG hd 4) vv4) (by simp [execOp, go_sem, e1]) hS
   | 6 =>
     simp only [qq] at ho; subst ho; have e8 := eD ev hd 5 8 vv5
     obtain ⟨d0, d1, d2, d3, d4, d5, d6, d7, d8, d9, d10⟩ := (h9.below hS).cells
     rw [vv6]; exact dG (yl 4 7 false rfl (hG hd 4) vv4) (by simp [execOp, go_sem, e8, d2]) hS
   | 7 => simp only [qq] at ho; subst ho; have e9 := eD ev hd 6 9 vv6; rw [vv7]; exact dG (yl 4 7 false rfl (hG hd 4) vv4) (by simp [execOp, go_sem, e9, h1]) hS
   | 8 => simp only [qq] at ho; subst ho; have e7 := eD ev hd 4 7 vv4; have e10 := eD ev hd 7 10 vv7; rw [vv8]; exact dV (by simp [execOp, go_sem, e7, e10]) hS
   | 9 => simp only [qq] at ho; subst ho; have e11 := eD ev hd 8 11 vv8; rw [vv9]; exact dV (by simp [execOp, go_sem, e11]) hS
   | 10 => simp only [qq] at ho; subst ho; have e1 := (kp 1 (by kernel_rfl)).trans b1; rw [vv10]; exact dG (yl 9 12 false rfl (hG hd 9) vv9) (by simp [execOp, go_sem, e1]) hS
   | 11 =>
     simp only [qq] at ho; subst ho; have e13 := eD ev hd 10 13 vv10
     obtain ⟨d0, d1, d2, d3, d4, d5, d6, d7, d8, d9, d10⟩ := (h9.below hS).cells
     rw [vv11]; exact dG (yl 9 12 false rfl (hG hd 9) vv9) (by simp [execOp, go_sem, e13, d2]) hS
   | 12 => simp only [qq] at ho; subst ho; have e14 := eD ev hd 11 14 vv11; rw [vv12]; exact dG (yl 9 12 false rfl (hG hd 9) vv9) (by simp [execOp, go_sem, e14, h2]) hS
   | 13 => simp only [qq] at ho; subst ho; have e12 := eD ev hd 9 12 vv9; have e15 := eD ev hd 12 15 vv12; rw [vv13]; exact dV (by simp [execOp, go_sem, e12, e15]) hS
   | 14 => simp only [qq] at ho; subst ho; have e16 := eD ev hd 13 16 vv13; rw [vv14]; exact dV (by simp [execOp, go_sem, e16]) hS
   | 15 => simp only [qq] at ho; subst ho; have e1 := (kp 1 (by kernel_rfl)).trans b1; rw [vv15]; exact dG (yl 14 17 false rfl (hG hd 14) vv14) (by simp [execOp, go_sem, e1]) hS
   | 16 =>
     simp only [qq] at ho; subst ho; have e18 := eD ev hd 15 18 vv15
     obtain ⟨d0, d1, d2, d3, d4, d5, d6, d7, d8, d9, d10⟩ := (h9.below hS).cells
     rw [vv16]; exact dG (yl 14 17 false rfl (hG hd 14) vv14) (by simp [execOp, go_sem, e18, d10]) hS
   | 17 =>
     simp only [qq] at ho; subst ho; have e19 := eD ev hd 16 19 vv16; rw [vv17]
     refine does_call_g rfl (yl 14 17 false rfl (hG hd 14) vv14) nofun (f := 61) (args := #[.slice q m d]) ?_ ?_
     · simp [go_sem, e19]
     · exact (cM W hS).mono (fun e w' h => ⟨h.1, hS.trans (h.2.mono hS.size)⟩)
   | 18 => simp only [qq] at ho; subst ho; have e20 := eD ev hd 17 20 vv17; rw [vv18]; exact dG (yl 14 17 false rfl (hG hd 14) vv14) (by simp [execOp, go_sem, e20]) hS
   | 19 => simp only [qq] at ho; subst ho; have e17 := eD ev hd 14 17 vv14; have e21 := eD ev hd 18 21 vv18; rw [vv19]; exact dV (by simp [execOp, go_sem, e17, e21]) hS
   | 20 => simp only [qq] at ho; subst ho; have e22 := eD ev hd 19 22 vv19; rw [vv20]; exact dV (by simp [execOp, go_sem, e22]) hS
   | 21 => simp only [qq] at ho; subst ho; have e1 := (kp 1 (by kernel_rfl)).trans b1; rw [vv21]; exact dG (yl 20 23 false rfl (hG hd 20) vv20) (by simp [execOp, go_sem, e1]) hS
   | 22 =>
     simp only [qq] at ho; subst ho; have e24 := eD ev hd 21 24 vv21
     obtain ⟨d0, d1, d2, d3, d4, d5, d6, d7, d8, d9, d10⟩ := (h9.below hS).cells
     rw [vv22]; exact dG (yl 20 23 false rfl (hG hd 20) vv20) (by simp [execOp, go_sem, e24, d10]) hS
   | 23 => simp only [qq] at ho; subst ho; have e1 := (kp 1 (by kernel_rfl)).trans b1; rw [vv23]; exact dG (yl 20 23 false rfl (hG hd 20) vv20) (by simp [execOp, go_sem, e1]) hS
   | 24 => simp only [qq] at ho; subst ho; have e26 := eD ev hd 23 26 vv23; rw [vv24]; exact dG (yl 20 23 false rfl (hG hd 20) vv20) (by simp [execOp, go_sem, e26]) hS
   | 25 =>
     simp only [qq] at ho; subst ho; have e27 := eD ev hd 24 27 vv24
     obtain ⟨d0, d1, d2, d3, d4, d5, d6, d7, d8, d9, d10⟩ := (h9.below hS).cells
     rw [vv25]; exact dG (yl 20 23 false rfl (hG hd 20) vv20) (by simp [execOp, go_sem, e27, d1]) hS
   | 26 =>
     simp only [qq] at ho; subst ho; have e25 := eD ev hd 22 25 vv22; have e28 := eD ev hd 25 28 vv25; rw [vv26]
     refine does_call_g rfl (yl 20 23 false rfl (hG hd 20) vv20) nofun (f := 62) (args := #[.slice q m d, .int .i64 n]) ?_ ?_
     · simp [go_sem, e25, e28]
     · exact (cA W hS).mono (fun e w' h => ⟨h.1, hS.trans (h.2.mono hS.size)⟩)
   | 27 => simp only [qq] at ho; subst ho; have e1 := (kp 1 (by kernel_rfl)).trans b1; rw [vv27]; exact dG (yl 20 23 false rfl (hG hd 20) vv20) (by simp [execOp, go_sem, e1]) hS
   | 28 =>
     simp only [qq] at ho; subst ho; have e30 := eD ev hd 27 30 vv27
     obtain ⟨d0, d1, d2, d3, d4, d5, d6, d7, d8, d9, d10⟩ := (h9.below hS).cells
     rw [vv28]; exact dG (yl 20 23 false rfl (hG hd 20) vv20) (by simp [execOp, go_sem, e30, d2]) hS
   | 29 => simp only [qq] at ho; subst ho; have e31 := eD ev hd 28 31 vv28; rw [vv29]; exact dG (yl 20 23 false rfl (hG hd 20) vv20) (by simp [execOp, go_sem, e31]; rw [IntKind.wrap_i64] <;> omega) hS
   | 30 => simp only [qq] at ho; subst ho; have e29 := eD ev hd 26 29 vv26; have e32 := eD ev hd 29 32 vv29; rw [vv30]; exact dG (yl 20 23 false rfl (hG hd 20) vv20) (by simp [execOp, go_sem, e29, e32]) hS
   | 31 => simp only [qq] at ho; subst ho; have e23 := eD ev hd 20 23 vv20; have e33 := eD ev hd 30 33 vv30; rw [vv31]; exact dV (by simp [execOp, go_sem, e23, e33]) hS
   | k + 32 => simp at ho
 · intro b' W hS _
   subst hLe
   exact hQ W hS
end Go.Proofs.YthhakekbffembaaGreatDoor.Cd
