/-
  InodeEdges, for all its numbers, whatever the memory and the order that Go leaves open, returns true and leaves its arguments and all memory that was there as it was. The tables of packages crc and math/bits start as the program's text lays them (the card ties them).
-/
import Derived.Test.YtebdgcoandfocaaGreatDoorQ26
import Derived.Test.YtebdgcoandfocaaGreatDoorQ22
import Derived.Test.YtebdgcoandfocaaGreatDoorQ00
import Derived.Deep.Grids

/-
  InodeEdges: its last line (printed by mkedges13.py).
-/
namespace Go.Proofs.YtebdgcoandfocaaGreatDoor
open Go.RowKit Go.Maps Go.Sort Go.Shelf

def edgesL (g s size hf q v d r cp6 cp8 : Nat) (p6 p8 : Option Addr) (S1 S2 : ByteArray) : List (Option Tmp × Value) := [(some 114, .bool true), (some 115, .bool true), (some 116, .int .i64 0), (some 117, .bool true), (some 118, .bool true), (some 119, .bool true), (some 120, .int .i64 0), (some 121, .bool true), (some 122, .bool true), (some 123, .bool true), (some 124, .slice p6 size cp6), (some 125, .string S1), (some 126, .slice (some ⟨g, 0, none⟩) size size), (some 127, .string S1), (some 128, .bool true), (some 129, .bool true), (some 130, .bool true), (some 131, .int .i64 (q : Nat)), (some 132, .int .i64 (size : Nat)), (some 133, .int .i64 (q : Nat)), (some 134, .bool true), (some 135, .bool true), (some 136, .bool true), (some 137, .int .i64 0), (some 138, .bool true), (some 139, .bool true), (some 140, .bool true), (some 141, .int .i64 0), (some 142, .bool true), (some 143, .bool true), (some 144, .bool true), (some 145, .slice p8 hf cp8), (some 146, .string S2), (some 147, .slice (some ⟨g, 0, none⟩) size size), (some 148, .int .i64 (size : Nat)), (some 149, .int .i64 (hf : Nat)), (some 150, .slice (some ⟨g, 0, none⟩) hf size), (some 151, .string S2), (some 152, .bool true), (some 153, .bool true), (some 154, .bool true), (some 155, .int .i64 199), (some 156, .pointer (some ⟨s + 1, 0, none⟩)), (some 157, .int .i64 (v : Nat)), (some 158, .int .i64 (d : Nat)), (some 159, .int .i64 (size : Nat)), (some 160, .int .i64 (hf : Nat)), (some 161, .int .i64 (r : Nat)), (some 162, .bool true), (some 163, .bool true), (some 6, .bool true)]

set_option maxRecDepth 8000 in
set_option maxHeartbeats 4000000 in
theorem edges_reg {Q : Exit → Act → World → Prop} {base : Array Value} {dd : List Deferred} {ops : Array Oper} (hops : Tryz.f5.body.bind (regI 18) = some ops) (g s size hf q v d r cp6 cp8 : Nat) (p6 p8 : Option Addr) (S1 S2 : ByteArray) (w9 : World) (hsz : base.size = 164)
    (b7 : base.getD 7 undef = .bool true)
    (b15 : base.getD 15 undef = .int .i64 0)
    (b17 : base.getD 17 undef = .int .i64 0)
    (b16 : base.getD 16 undef = .slice p6 size cp6)
    (b12 : base.getD 12 undef = .slice (some ⟨g, 0, none⟩) size size)
    (b18 : base.getD 18 undef = .int .i64 (q : Nat))
    (b11 : base.getD 11 undef = .int .i64 (size : Nat))
    (b19 : base.getD 19 undef = .int .i64 0)
    (b21 : base.getD 21 undef = .int .i64 0)
    (b20 : base.getD 20 undef = .slice p8 hf cp8)
    (b14 : base.getD 14 undef = .int .i64 199)
    (b9 : base.getD 9 undef = .pointer (some ⟨s + 1, 0, none⟩))
    (s1 : ∀ W, Below w9.heap.size w9 W → (convert 30 9 (.slice p6 size cp6)).run Tryz.prog W = .ok (.string S1) W)
    (s2 : ∀ W, Below w9.heap.size w9 W → (convert 30 9 (.slice (some ⟨g, 0, none⟩) size size)).run Tryz.prog W = .ok (.string S1) W)
    (s3 : ∀ W, Below w9.heap.size w9 W → (convert 30 9 (.slice p8 hf cp8)).run Tryz.prog W = .ok (.string S2) W)
    (s4 : ∀ W, Below w9.heap.size w9 W → (convert 30 9 (.slice (some ⟨g, 0, none⟩) hf size)).run Tryz.prog W = .ok (.string S2) W)
    (c1 : ∀ W, Below w9.heap.size w9 W → Calls Tryz.prog 17 #[.int .i64 (size : Nat)] W fun e w' => e = .returned (.int .i64 (q : Nat)) ∧ w' = W)
    (c2 : ∀ W, Below w9.heap.size w9 W → Calls Tryz.prog 17 #[.int .i64 (hf : Nat)] W fun e w' => e = .returned (.int .i64 (r : Nat)) ∧ w' = W)
    (c3 : ∀ W, Below w9.heap.size w9 W → Calls Tryz.prog 9 #[.pointer (some ⟨s + 1, 0, none⟩)] W fun e w' => e = .returned (.int .i64 (v : Nat)) ∧ w' = W)
    (hdv : Int.tdiv (size : Int) 2 = (hf : Nat)) (hwf : IntKind.i64.wrap (hf : Int) = (hf : Int)) (hsub : (199 : Int) - (v : Int) = (d : Nat)) (hwd : IntKind.i64.wrap (d : Int) = (d : Int)) (hle : d ≤ r) (hfs : hf ≤ size)
    (hQ : ∀ W, Below w9.heap.size w9 W → Q .normal ⟨putAll base (edgesL g s size hf q v d r cp6 cp8 p6 p8 S1 S2), dd⟩ W) :
    (Code.region 18 ops true).wp Tryz.prog Q ⟨base, dd⟩ w9 := by
  have hmix : Tryz.prog.follows .mixedOrders = true := by kernel_rfl
  have h2 := (show Tryz.f5.body.bind (regI 18) = some _ from rfl).symm.trans hops
  obtain rfl := Option.some.inj h2
  clear h2 hops
  have below9 : Below w9.heap.size w9 w9.drew := (Below.refl _ _).drew
  obtain ⟨LL, hLe⟩ : ∃ LL : List (Option Tmp × Value), LL = [(some 114, .bool true), (some 115, .bool true), (some 116, .int .i64 0), (some 117, .bool true), (some 118, .bool true), (some 119, .bool true), (some 120, .int .i64 0), (some 121, .bool true), (some 122, .bool true), (some 123, .bool true), (some 124, .slice p6 size cp6), (some 125, .string S1), (some 126, .slice (some ⟨g, 0, none⟩) size size), (some 127, .string S1), (some 128, .bool true), (some 129, .bool true), (some 130, .bool true), (some 131, .int .i64 (q : Nat)), (some 132, .int .i64 (size : Nat)), (some 133, .int .i64 (q : Nat)), (some 134, .bool true), (some 135, .bool true), (some 136, .bool true), (some 137, .int .i64 0), (some 138, .bool true), (some 139, .bool true), (some 140, .bool true), (some 141, .int .i64 0), (some 142, .bool true), (some 143, .bool true), (some 144, .bool true), (some 145, .slice p8 hf cp8), (some 146, .string S2), (some 147, .slice (some ⟨g, 0, none⟩) size size), (some 148, .int .i64 (size : Nat)), (some 149, .int .i64 (hf : Nat)), (some 150, .slice (some ⟨g, 0, none⟩) hf size), (some 151, .string S2), (some 152, .bool true), (some 153, .bool true), (some 154, .bool true), (some 155, .int .i64 199), (some 156, .pointer (some ⟨s + 1, 0, none⟩)), (some 157, .int .i64 (v : Nat)), (some 158, .int .i64 (d : Nat)), (some 159, .int .i64 (size : Nat)), (some 160, .int .i64 (hf : Nat)), (some 161, .int .i64 (r : Nat)), (some 162, .bool true), (some 163, .bool true), (some 6, .bool true)] := ⟨_, rfl⟩
  have vv0 : vals LL 0 = .bool true := by rw [hLe]; rfl
  have vv1 : vals LL 1 = .bool true := by rw [hLe]; rfl
  have vv2 : vals LL 2 = .int .i64 0 := by rw [hLe]; rfl
  have vv3 : vals LL 3 = .bool true := by rw [hLe]; rfl
  have vv4 : vals LL 4 = .bool true := by rw [hLe]; rfl
  have vv5 : vals LL 5 = .bool true := by rw [hLe]; rfl
  have vv6 : vals LL 6 = .int .i64 0 := by rw [hLe]; rfl
  have vv7 : vals LL 7 = .bool true := by rw [hLe]; rfl
  have vv8 : vals LL 8 = .bool true := by rw [hLe]; rfl
  have vv9 : vals LL 9 = .bool true := by rw [hLe]; rfl
  have vv10 : vals LL 10 = .slice p6 size cp6 := by rw [hLe]; rfl
  have vv11 : vals LL 11 = .string S1 := by rw [hLe]; rfl
  have vv12 : vals LL 12 = .slice (some ⟨g, 0, none⟩) size size := by rw [hLe]; rfl
  have vv13 : vals LL 13 = .string S1 := by rw [hLe]; rfl
  have vv14 : vals LL 14 = .bool true := by rw [hLe]; rfl
  have vv15 : vals LL 15 = .bool true := by rw [hLe]; rfl
  have vv16 : vals LL 16 = .bool true := by rw [hLe]; rfl
  have vv17 : vals LL 17 = .int .i64 (q : Nat) := by rw [hLe]; rfl
  have vv18 : vals LL 18 = .int .i64 (size : Nat) := by rw [hLe]; rfl
  have vv19 : vals LL 19 = .int .i64 (q : Nat) := by rw [hLe]; rfl
  have vv20 : vals LL 20 = .bool true := by rw [hLe]; rfl
  have vv21 : vals LL 21 = .bool true := by rw [hLe]; rfl
  have vv22 : vals LL 22 = .bool true := by rw [hLe]; rfl
  have vv23 : vals LL 23 = .int .i64 0 := by rw [hLe]; rfl
  have vv24 : vals LL 24 = .bool true := by rw [hLe]; rfl
  have vv25 : vals LL 25 = .bool true := by rw [hLe]; rfl
  have vv26 : vals LL 26 = .bool true := by rw [hLe]; rfl
  have vv27 : vals LL 27 = .int .i64 0 := by rw [hLe]; rfl
  have vv28 : vals LL 28 = .bool true := by rw [hLe]; rfl
  have vv29 : vals LL 29 = .bool true := by rw [hLe]; rfl
  have vv30 : vals LL 30 = .bool true := by rw [hLe]; rfl
  have vv31 : vals LL 31 = .slice p8 hf cp8 := by rw [hLe]; rfl
  have vv32 : vals LL 32 = .string S2 := by rw [hLe]; rfl
  have vv33 : vals LL 33 = .slice (some ⟨g, 0, none⟩) size size := by rw [hLe]; rfl
  have vv34 : vals LL 34 = .int .i64 (size : Nat) := by rw [hLe]; rfl
  have vv35 : vals LL 35 = .int .i64 (hf : Nat) := by rw [hLe]; rfl
  have vv36 : vals LL 36 = .slice (some ⟨g, 0, none⟩) hf size := by rw [hLe]; rfl
  have vv37 : vals LL 37 = .string S2 := by rw [hLe]; rfl
  have vv38 : vals LL 38 = .bool true := by rw [hLe]; rfl
  have vv39 : vals LL 39 = .bool true := by rw [hLe]; rfl
  have vv40 : vals LL 40 = .bool true := by rw [hLe]; rfl
  have vv41 : vals LL 41 = .int .i64 199 := by rw [hLe]; rfl
  have vv42 : vals LL 42 = .pointer (some ⟨s + 1, 0, none⟩) := by rw [hLe]; rfl
  have vv43 : vals LL 43 = .int .i64 (v : Nat) := by rw [hLe]; rfl
  have vv44 : vals LL 44 = .int .i64 (d : Nat) := by rw [hLe]; rfl
  have vv45 : vals LL 45 = .int .i64 (size : Nat) := by rw [hLe]; rfl
  have vv46 : vals LL 46 = .int .i64 (hf : Nat) := by rw [hLe]; rfl
  have vv47 : vals LL 47 = .int .i64 (r : Nat) := by rw [hLe]; rfl
  have vv48 : vals LL 48 = .bool true := by rw [hLe]; rfl
  have vv49 : vals LL 49 = .bool true := by rw [hLe]; rfl
  have vv50 : vals LL 50 = .bool true := by rw [hLe]; rfl
  refine region_laid hmix (by kernel_rfl) 164 hsz (by kernel_rfl) LL (by rw [hLe]; rfl) (fun _ W => Below w9.heap.size w9 W) below9 ?_ ?_
  · intro b W i o a hS hcl ho hb hd ev kp yl
    match i with
    | 0 =>
      simp only [List.getElem?_toArray, List.getElem?_cons_zero, Option.some.injEq] at ho
      subst ho
      have e7 : a.tmps[7]?.getD undef = .bool true := (kp 7 (by kernel_rfl)).trans b7
      rw [vv0]
      refine does_value rfl (by intro c h; cases h) (w' := W) ?_ (hS)
      · simp [execOp, go_sem, e7]
    | 1 =>
      simp only [List.getElem?_toArray, List.getElem?_cons_zero, List.getElem?_cons_succ, Option.some.injEq] at ho
      subst ho
      have p0 : b 0 = true := hd ⟨0, .data⟩ (by simp) rfl
      have e114 := (ev 0 114 rfl p0).trans vv0
      rw [vv1]
      refine does_value rfl (by intro c h; cases h) (w' := W) ?_ (hS)
      · simp [execOp, go_sem, e114]
    | 2 =>
      simp only [List.getElem?_toArray, List.getElem?_cons_zero, List.getElem?_cons_succ, Option.some.injEq] at ho
      subst ho
      have p1 : b 1 = true := hd ⟨1, .guard⟩ (by simp) rfl
      have e15 : a.tmps[15]?.getD undef = .int .i64 0 := (kp 15 (by kernel_rfl)).trans b15
      rw [vv2]
      refine does_value_g rfl (yl 1 115 true rfl p1 vv1) (by intro c h; cases h) (w' := W) ?_ (hS)
      · simp [execOp, go_sem, e15]
    | 3 =>
      simp only [List.getElem?_toArray, List.getElem?_cons_zero, List.getElem?_cons_succ, Option.some.injEq] at ho
      subst ho
      have p2 : b 2 = true := hd ⟨2, .data⟩ (by simp) rfl
      have p1 : b 1 = true := hd ⟨1, .guard⟩ (by simp) rfl
      have e116 := (ev 2 116 rfl p2).trans vv2
      rw [vv3]
      refine does_value_g rfl (yl 1 115 true rfl p1 vv1) (by intro c h; cases h) (w' := W) ?_ (hS)
      · simp [execOp, go_sem, e116]
    | 4 =>
      simp only [List.getElem?_toArray, List.getElem?_cons_zero, List.getElem?_cons_succ, Option.some.injEq] at ho
      subst ho
      have p1 : b 1 = true := hd ⟨1, .data⟩ (by simp) rfl
      have p3 : b 3 = true := hd ⟨3, .data⟩ (by simp) rfl
      have e115 := (ev 1 115 rfl p1).trans vv1
      have e117 := (ev 3 117 rfl p3).trans vv3
      rw [vv4]
      refine does_value rfl (by intro c h; cases h) (w' := W) ?_ (hS)
      · simp [execOp, go_sem, e115, e117]
    | 5 =>
      simp only [List.getElem?_toArray, List.getElem?_cons_zero, List.getElem?_cons_succ, Option.some.injEq] at ho
      subst ho
      have p4 : b 4 = true := hd ⟨4, .data⟩ (by simp) rfl
      have e118 := (ev 4 118 rfl p4).trans vv4
      rw [vv5]
      refine does_value rfl (by intro c h; cases h) (w' := W) ?_ (hS)
      · simp [execOp, go_sem, e118]
    | 6 =>
      simp only [List.getElem?_toArray, List.getElem?_cons_zero, List.getElem?_cons_succ, Option.some.injEq] at ho
      subst ho
      have p5 : b 5 = true := hd ⟨5, .guard⟩ (by simp) rfl
      have e17 : a.tmps[17]?.getD undef = .int .i64 0 := (kp 17 (by kernel_rfl)).trans b17
      rw [vv6]
      refine does_value_g rfl (yl 5 119 true rfl p5 vv5) (by intro c h; cases h) (w' := W) ?_ (hS)
      · simp [execOp, go_sem, e17]
    | 7 =>
      simp only [List.getElem?_toArray, List.getElem?_cons_zero, List.getElem?_cons_succ, Option.some.injEq] at ho
      subst ho
      have p6 : b 6 = true := hd ⟨6, .data⟩ (by simp) rfl
      have p5 : b 5 = true := hd ⟨5, .guard⟩ (by simp) rfl
      have e120 := (ev 6 120 rfl p6).trans vv6
      rw [vv7]
      refine does_value_g rfl (yl 5 119 true rfl p5 vv5) (by intro c h; cases h) (w' := W) ?_ (hS)
      · simp [execOp, go_sem, e120]
    | 8 =>
      simp only [List.getElem?_toArray, List.getElem?_cons_zero, List.getElem?_cons_succ, Option.some.injEq] at ho
      subst ho
      have p5 : b 5 = true := hd ⟨5, .data⟩ (by simp) rfl
      have p7 : b 7 = true := hd ⟨7, .data⟩ (by simp) rfl
      have e119 := (ev 5 119 rfl p5).trans vv5
      have e121 := (ev 7 121 rfl p7).trans vv7
      rw [vv8]
      refine does_value rfl (by intro c h; cases h) (w' := W) ?_ (hS)
      · simp [execOp, go_sem, e119, e121]
    | 9 =>
      simp only [List.getElem?_toArray, List.getElem?_cons_zero, List.getElem?_cons_succ, Option.some.injEq] at ho
      subst ho
      have p8 : b 8 = true := hd ⟨8, .data⟩ (by simp) rfl
      have e122 := (ev 8 122 rfl p8).trans vv8
      rw [vv9]
      refine does_value rfl (by intro c h; cases h) (w' := W) ?_ (hS)
      · simp [execOp, go_sem, e122]
    | 10 =>
      simp only [List.getElem?_toArray, List.getElem?_cons_zero, List.getElem?_cons_succ, Option.some.injEq] at ho
      subst ho
      have p9 : b 9 = true := hd ⟨9, .guard⟩ (by simp) rfl
      have e16 : a.tmps[16]?.getD undef = .slice p6 size cp6 := (kp 16 (by kernel_rfl)).trans b16
      rw [vv10]
      refine does_value_g rfl (yl 9 123 true rfl p9 vv9) (by intro c h; cases h) (w' := W) ?_ (hS)
      · simp [execOp, go_sem, e16]
    | 11 =>
      simp only [List.getElem?_toArray, List.getElem?_cons_zero, List.getElem?_cons_succ, Option.some.injEq] at ho
      subst ho
      have p10 : b 10 = true := hd ⟨10, .data⟩ (by simp) rfl
      have p9 : b 9 = true := hd ⟨9, .guard⟩ (by simp) rfl
      have e124 := (ev 10 124 rfl p10).trans vv10
      have hcv := s1 W hS
      rw [vv11]
      refine does_value_g rfl (yl 9 123 true rfl p9 vv9) (by intro c h; cases h) (w' := W) ?_ (hS)
      · simp [execOp, go_sem, e124, hcv]
    | 12 =>
      simp only [List.getElem?_toArray, List.getElem?_cons_zero, List.getElem?_cons_succ, Option.some.injEq] at ho
      subst ho
      have p9 : b 9 = true := hd ⟨9, .guard⟩ (by simp) rfl
      have e12 : a.tmps[12]?.getD undef = .slice (some ⟨g, 0, none⟩) size size := (kp 12 (by kernel_rfl)).trans b12
      rw [vv12]
      refine does_value_g rfl (yl 9 123 true rfl p9 vv9) (by intro c h; cases h) (w' := W) ?_ (hS)
      · simp [execOp, go_sem, e12]
    | 13 =>
      simp only [List.getElem?_toArray, List.getElem?_cons_zero, List.getElem?_cons_succ, Option.some.injEq] at ho
      subst ho
      have p12 : b 12 = true := hd ⟨12, .data⟩ (by simp) rfl
      have p9 : b 9 = true := hd ⟨9, .guard⟩ (by simp) rfl
      have e126 := (ev 12 126 rfl p12).trans vv12
      have hcv := s2 W hS
      rw [vv13]
      refine does_value_g rfl (yl 9 123 true rfl p9 vv9) (by intro c h; cases h) (w' := W) ?_ (hS)
      · simp [execOp, go_sem, e126, hcv]
    | 14 =>
      simp only [List.getElem?_toArray, List.getElem?_cons_zero, List.getElem?_cons_succ, Option.some.injEq] at ho
      subst ho
      have p11 : b 11 = true := hd ⟨11, .data⟩ (by simp) rfl
      have p13 : b 13 = true := hd ⟨13, .data⟩ (by simp) rfl
      have p9 : b 9 = true := hd ⟨9, .guard⟩ (by simp) rfl
      have e125 := (ev 11 125 rfl p11).trans vv11
      have e127 := (ev 13 127 rfl p13).trans vv13
      rw [vv14]
      refine does_value_g rfl (yl 9 123 true rfl p9 vv9) (by intro c h; cases h) (w' := W) ?_ (hS)
      · simp [execOp, go_sem, e125, e127]
    | 15 =>
      simp only [List.getElem?_toArray, List.getElem?_cons_zero, List.getElem?_cons_succ, Option.some.injEq] at ho
      subst ho
      have p9 : b 9 = true := hd ⟨9, .data⟩ (by simp) rfl
      have p14 : b 14 = true := hd ⟨14, .data⟩ (by simp) rfl
      have e123 := (ev 9 123 rfl p9).trans vv9
      have e128 := (ev 14 128 rfl p14).trans vv14
      rw [vv15]
      refine does_value rfl (by intro c h; cases h) (w' := W) ?_ (hS)
      · simp [execOp, go_sem, e123, e128]
    | 16 =>
      simp only [List.getElem?_toArray, List.getElem?_cons_zero, List.getElem?_cons_succ, Option.some.injEq] at ho
      subst ho
      have p15 : b 15 = true := hd ⟨15, .data⟩ (by simp) rfl
      have e129 := (ev 15 129 rfl p15).trans vv15
      rw [vv16]
      refine does_value rfl (by intro c h; cases h) (w' := W) ?_ (hS)
      · simp [execOp, go_sem, e129]
    | 17 =>
      simp only [List.getElem?_toArray, List.getElem?_cons_zero, List.getElem?_cons_succ, Option.some.injEq] at ho
      subst ho
      have p16 : b 16 = true := hd ⟨16, .guard⟩ (by simp) rfl
      have e18 : a.tmps[18]?.getD undef = .int .i64 (q : Nat) := (kp 18 (by kernel_rfl)).trans b18
      rw [vv17]
      refine does_value_g rfl (yl 16 130 true rfl p16 vv16) (by intro c h; cases h) (w' := W) ?_ (hS)
      · simp [execOp, go_sem, e18]
    | 18 =>
      simp only [List.getElem?_toArray, List.getElem?_cons_zero, List.getElem?_cons_succ, Option.some.injEq] at ho
      subst ho
      have p16 : b 16 = true := hd ⟨16, .guard⟩ (by simp) rfl
      have e11 : a.tmps[11]?.getD undef = .int .i64 (size : Nat) := (kp 11 (by kernel_rfl)).trans b11
      rw [vv18]
      refine does_value_g rfl (yl 16 130 true rfl p16 vv16) (by intro c h; cases h) (w' := W) ?_ (hS)
      · simp [execOp, go_sem, e11]
    | 19 =>
      simp only [List.getElem?_toArray, List.getElem?_cons_zero, List.getElem?_cons_succ, Option.some.injEq] at ho
      subst ho
      have p18 : b 18 = true := hd ⟨18, .data⟩ (by simp) rfl
      have p16 : b 16 = true := hd ⟨16, .guard⟩ (by simp) rfl
      have e132 := (ev 18 132 rfl p18).trans vv18
      rw [vv19]
      refine does_call_g rfl (yl 16 130 true rfl p16 vv16) (by intro c h; cases h) (f := 17) (args := #[.int .i64 (size : Nat)]) ?_ ?_
      · simp [go_sem, e132]
      · exact (c1 W hS).mono (fun e w' h => ⟨h.1, by rw [h.2]; exact hS⟩)
    | 20 =>
      simp only [List.getElem?_toArray, List.getElem?_cons_zero, List.getElem?_cons_succ, Option.some.injEq] at ho
      subst ho
      have p17 : b 17 = true := hd ⟨17, .data⟩ (by simp) rfl
      have p19 : b 19 = true := hd ⟨19, .data⟩ (by simp) rfl
      have p16 : b 16 = true := hd ⟨16, .guard⟩ (by simp) rfl
      have e131 := (ev 17 131 rfl p17).trans vv17
      have e133 := (ev 19 133 rfl p19).trans vv19
      rw [vv20]
      refine does_value_g rfl (yl 16 130 true rfl p16 vv16) (by intro c h; cases h) (w' := W) ?_ (hS)
      · simp [execOp, go_sem, e131, e133]
    | 21 =>
      simp only [List.getElem?_toArray, List.getElem?_cons_zero, List.getElem?_cons_succ, Option.some.injEq] at ho
      subst ho
      have p16 : b 16 = true := hd ⟨16, .data⟩ (by simp) rfl
      have p20 : b 20 = true := hd ⟨20, .data⟩ (by simp) rfl
      have e130 := (ev 16 130 rfl p16).trans vv16
      have e134 := (ev 20 134 rfl p20).trans vv20
      rw [vv21]
      refine does_value rfl (by intro c h; cases h) (w' := W) ?_ (hS)
      · simp [execOp, go_sem, e130, e134]
    | 22 =>
      simp only [List.getElem?_toArray, List.getElem?_cons_zero, List.getElem?_cons_succ, Option.some.injEq] at ho
      subst ho
      have p21 : b 21 = true := hd ⟨21, .data⟩ (by simp) rfl
      have e135 := (ev 21 135 rfl p21).trans vv21
      rw [vv22]
      refine does_value rfl (by intro c h; cases h) (w' := W) ?_ (hS)
      · simp [execOp, go_sem, e135]
    | 23 =>
      simp only [List.getElem?_toArray, List.getElem?_cons_zero, List.getElem?_cons_succ, Option.some.injEq] at ho
      subst ho
      have p22 : b 22 = true := hd ⟨22, .guard⟩ (by simp) rfl
      have e19 : a.tmps[19]?.getD undef = .int .i64 0 := (kp 19 (by kernel_rfl)).trans b19
      rw [vv23]
      refine does_value_g rfl (yl 22 136 true rfl p22 vv22) (by intro c h; cases h) (w' := W) ?_ (hS)
      · simp [execOp, go_sem, e19]
    | 24 =>
      simp only [List.getElem?_toArray, List.getElem?_cons_zero, List.getElem?_cons_succ, Option.some.injEq] at ho
      subst ho
      have p23 : b 23 = true := hd ⟨23, .data⟩ (by simp) rfl
      have p22 : b 22 = true := hd ⟨22, .guard⟩ (by simp) rfl
      have e137 := (ev 23 137 rfl p23).trans vv23
      rw [vv24]
      refine does_value_g rfl (yl 22 136 true rfl p22 vv22) (by intro c h; cases h) (w' := W) ?_ (hS)
      · simp [execOp, go_sem, e137]
    | 25 =>
      simp only [List.getElem?_toArray, List.getElem?_cons_zero, List.getElem?_cons_succ, Option.some.injEq] at ho
      subst ho
      have p22 : b 22 = true := hd ⟨22, .data⟩ (by simp) rfl
      have p24 : b 24 = true := hd ⟨24, .data⟩ (by simp) rfl
      have e136 := (ev 22 136 rfl p22).trans vv22
      have e138 := (ev 24 138 rfl p24).trans vv24
      rw [vv25]
      refine does_value rfl (by intro c h; cases h) (w' := W) ?_ (hS)
      · simp [execOp, go_sem, e136, e138]
    | 26 =>
      simp only [List.getElem?_toArray, List.getElem?_cons_zero, List.getElem?_cons_succ, Option.some.injEq] at ho
      subst ho
      have p25 : b 25 = true := hd ⟨25, .data⟩ (by simp) rfl
      have e139 := (ev 25 139 rfl p25).trans vv25
      rw [vv26]
      refine does_value rfl (by intro c h; cases h) (w' := W) ?_ (hS)
      · simp [execOp, go_sem, e139]
    | 27 =>
      simp only [List.getElem?_toArray, List.getElem?_cons_zero, List.getElem?_cons_succ, Option.some.injEq] at ho
      subst ho
      have p26 : b 26 = true := hd ⟨26, .guard⟩ (by simp) rfl
      have e21 : a.tmps[21]?.getD undef = .int .i64 0 := (kp 21 (by kernel_rfl)).trans b21
      rw [vv27]
      refine does_value_g rfl (yl 26 140 true rfl p26 vv26) (by intro c h; cases h) (w' := W) ?_ (hS)
      · simp [execOp, go_sem, e21]
    | 28 =>
      simp only [List.getElem?_toArray, List.getElem?_cons_zero, List.getElem?_cons_succ, Option.some.injEq] at ho
      subst ho
      have p27 : b 27 = true := hd ⟨27, .data⟩ (by simp) rfl
      have p26 : b 26 = true := hd ⟨26, .guard⟩ (by simp) rfl
      have e141 := (ev 27 141 rfl p27).trans vv27
      rw [vv28]
      refine does_value_g rfl (yl 26 140 true rfl p26 vv26) (by intro c h; cases h) (w' := W) ?_ (hS)
      · simp [execOp, go_sem, e141]
    | 29 =>
      simp only [List.getElem?_toArray, List.getElem?_cons_zero, List.getElem?_cons_succ, Option.some.injEq] at ho
      subst ho
      have p26 : b 26 = true := hd ⟨26, .data⟩ (by simp) rfl
      have p28 : b 28 = true := hd ⟨28, .data⟩ (by simp) rfl
      have e140 := (ev 26 140 rfl p26).trans vv26
      have e142 := (ev 28 142 rfl p28).trans vv28
      rw [vv29]
      refine does_value rfl (by intro c h; cases h) (w' := W) ?_ (hS)
      · simp [execOp, go_sem, e140, e142]
    | 30 =>
      simp only [List.getElem?_toArray, List.getElem?_cons_zero, List.getElem?_cons_succ, Option.some.injEq] at ho
      subst ho
      have p29 : b 29 = true := hd ⟨29, .data⟩ (by simp) rfl
      have e143 := (ev 29 143 rfl p29).trans vv29
      rw [vv30]
      refine does_value rfl (by intro c h; cases h) (w' := W) ?_ (hS)
      · simp [execOp, go_sem, e143]
    | 31 =>
      simp only [List.getElem?_toArray, List.getElem?_cons_zero, List.getElem?_cons_succ, Option.some.injEq] at ho
      subst ho
      have p30 : b 30 = true := hd ⟨30, .guard⟩ (by simp) rfl
      have e20 : a.tmps[20]?.getD undef = .slice p8 hf cp8 := (kp 20 (by kernel_rfl)).trans b20
      rw [vv31]
      refine does_value_g rfl (yl 30 144 true rfl p30 vv30) (by intro c h; cases h) (w' := W) ?_ (hS)
      · simp [execOp, go_sem, e20]
    | 32 =>
      simp only [List.getElem?_toArray, List.getElem?_cons_zero, List.getElem?_cons_succ, Option.some.injEq] at ho
      subst ho
      have p31 : b 31 = true := hd ⟨31, .data⟩ (by simp) rfl
      have p30 : b 30 = true := hd ⟨30, .guard⟩ (by simp) rfl
      have e145 := (ev 31 145 rfl p31).trans vv31
      have hcv := s3 W hS
      rw [vv32]
      refine does_value_g rfl (yl 30 144 true rfl p30 vv30) (by intro c h; cases h) (w' := W) ?_ (hS)
      · simp [execOp, go_sem, e145, hcv]
    | 33 =>
      simp only [List.getElem?_toArray, List.getElem?_cons_zero, List.getElem?_cons_succ, Option.some.injEq] at ho
      subst ho
      have p30 : b 30 = true := hd ⟨30, .guard⟩ (by simp) rfl
      have e12 : a.tmps[12]?.getD undef = .slice (some ⟨g, 0, none⟩) size size := (kp 12 (by kernel_rfl)).trans b12
      rw [vv33]
      refine does_value_g rfl (yl 30 144 true rfl p30 vv30) (by intro c h; cases h) (w' := W) ?_ (hS)
      · simp [execOp, go_sem, e12]
    | 34 =>
      simp only [List.getElem?_toArray, List.getElem?_cons_zero, List.getElem?_cons_succ, Option.some.injEq] at ho
      subst ho
      have p30 : b 30 = true := hd ⟨30, .guard⟩ (by simp) rfl
      have e11 : a.tmps[11]?.getD undef = .int .i64 (size : Nat) := (kp 11 (by kernel_rfl)).trans b11
      rw [vv34]
      refine does_value_g rfl (yl 30 144 true rfl p30 vv30) (by intro c h; cases h) (w' := W) ?_ (hS)
      · simp [execOp, go_sem, e11]
    | 35 =>
      simp only [List.getElem?_toArray, List.getElem?_cons_zero, List.getElem?_cons_succ, Option.some.injEq] at ho
      subst ho
      have p34 : b 34 = true := hd ⟨34, .data⟩ (by simp) rfl
      have p30 : b 30 = true := hd ⟨30, .guard⟩ (by simp) rfl
      have e148 := (ev 34 148 rfl p34).trans vv34
      rw [vv35]
      refine does_value_g rfl (yl 30 144 true rfl p30 vv30) (by intro c h; cases h) (w' := W) ?_ (hS)
      · simp [execOp, go_sem, e148, hdv, hwf]
    | 36 =>
      simp only [List.getElem?_toArray, List.getElem?_cons_zero, List.getElem?_cons_succ, Option.some.injEq] at ho
      subst ho
      have p33 : b 33 = true := hd ⟨33, .data⟩ (by simp) rfl
      have p35 : b 35 = true := hd ⟨35, .data⟩ (by simp) rfl
      have p30 : b 30 = true := hd ⟨30, .guard⟩ (by simp) rfl
      have e147 := (ev 33 147 rfl p33).trans vv33
      have e149 := (ev 35 149 rfl p35).trans vv35
      rw [vv36]
      refine does_value_g rfl (yl 30 144 true rfl p30 vv30) (by intro c h; cases h) (w' := W) ?_ (hS)
      · simp [execOp, go_sem, e147, e149, hfs]
    | 37 =>
      simp only [List.getElem?_toArray, List.getElem?_cons_zero, List.getElem?_cons_succ, Option.some.injEq] at ho
      subst ho
      have p36 : b 36 = true := hd ⟨36, .data⟩ (by simp) rfl
      have p30 : b 30 = true := hd ⟨30, .guard⟩ (by simp) rfl
      have e150 := (ev 36 150 rfl p36).trans vv36
      have hcv := s4 W hS
      rw [vv37]
      refine does_value_g rfl (yl 30 144 true rfl p30 vv30) (by intro c h; cases h) (w' := W) ?_ (hS)
      · simp [execOp, go_sem, e150, hcv]
    | 38 =>
      simp only [List.getElem?_toArray, List.getElem?_cons_zero, List.getElem?_cons_succ, Option.some.injEq] at ho
      subst ho
      have p32 : b 32 = true := hd ⟨32, .data⟩ (by simp) rfl
      have p37 : b 37 = true := hd ⟨37, .data⟩ (by simp) rfl
      have p30 : b 30 = true := hd ⟨30, .guard⟩ (by simp) rfl
      have e146 := (ev 32 146 rfl p32).trans vv32
      have e151 := (ev 37 151 rfl p37).trans vv37
      rw [vv38]
      refine does_value_g rfl (yl 30 144 true rfl p30 vv30) (by intro c h; cases h) (w' := W) ?_ (hS)
      · simp [execOp, go_sem, e146, e151]
    | 39 =>
      simp only [List.getElem?_toArray, List.getElem?_cons_zero, List.getElem?_cons_succ, Option.some.injEq] at ho
      subst ho
      have p30 : b 30 = true := hd ⟨30, .data⟩ (by simp) rfl
      have p38 : b 38 = true := hd ⟨38, .data⟩ (by simp) rfl
      have e144 := (ev 30 144 rfl p30).trans vv30
      have e152 := (ev 38 152 rfl p38).trans vv38
      rw [vv39]
      refine does_value rfl (by intro c h; cases h) (w' := W) ?_ (hS)
      · simp [execOp, go_sem, e144, e152]
    | 40 =>
      simp only [List.getElem?_toArray, List.getElem?_cons_zero, List.getElem?_cons_succ, Option.some.injEq] at ho
      subst ho
      have p39 : b 39 = true := hd ⟨39, .data⟩ (by simp) rfl
      have e153 := (ev 39 153 rfl p39).trans vv39
      rw [vv40]
      refine does_value rfl (by intro c h; cases h) (w' := W) ?_ (hS)
      · simp [execOp, go_sem, e153]
    | 41 =>
      simp only [List.getElem?_toArray, List.getElem?_cons_zero, List.getElem?_cons_succ, Option.some.injEq] at ho
      subst ho
      have p40 : b 40 = true := hd ⟨40, .guard⟩ (by simp) rfl
      have e14 : a.tmps[14]?.getD undef = .int .i64 199 := (kp 14 (by kernel_rfl)).trans b14
      rw [vv41]
      refine does_value_g rfl (yl 40 154 true rfl p40 vv40) (by intro c h; cases h) (w' := W) ?_ (hS)
      · simp [execOp, go_sem, e14]
    | 42 =>
      simp only [List.getElem?_toArray, List.getElem?_cons_zero, List.getElem?_cons_succ, Option.some.injEq] at ho
      subst ho
      have p40 : b 40 = true := hd ⟨40, .guard⟩ (by simp) rfl
      have e9 : a.tmps[9]?.getD undef = .pointer (some ⟨s + 1, 0, none⟩) := (kp 9 (by kernel_rfl)).trans b9
      rw [vv42]
      refine does_value_g rfl (yl 40 154 true rfl p40 vv40) (by intro c h; cases h) (w' := W) ?_ (hS)
      · simp [execOp, go_sem, e9]
    | 43 =>
      simp only [List.getElem?_toArray, List.getElem?_cons_zero, List.getElem?_cons_succ, Option.some.injEq] at ho
      subst ho
      have p42 : b 42 = true := hd ⟨42, .data⟩ (by simp) rfl
      have p40 : b 40 = true := hd ⟨40, .guard⟩ (by simp) rfl
      have e156 := (ev 42 156 rfl p42).trans vv42
      rw [vv43]
      refine does_call_g rfl (yl 40 154 true rfl p40 vv40) (by intro c h; cases h) (f := 9) (args := #[.pointer (some ⟨s + 1, 0, none⟩)]) ?_ ?_
      · simp [go_sem, e156]
      · exact (c3 W hS).mono (fun e w' h => ⟨h.1, by rw [h.2]; exact hS⟩)
    | 44 =>
      simp only [List.getElem?_toArray, List.getElem?_cons_zero, List.getElem?_cons_succ, Option.some.injEq] at ho
      subst ho
      have p41 : b 41 = true := hd ⟨41, .data⟩ (by simp) rfl
      have p43 : b 43 = true := hd ⟨43, .data⟩ (by simp) rfl
      have p40 : b 40 = true := hd ⟨40, .guard⟩ (by simp) rfl
      have e155 := (ev 41 155 rfl p41).trans vv41
      have e157 := (ev 43 157 rfl p43).trans vv43
      rw [vv44]
      refine does_value_g rfl (yl 40 154 true rfl p40 vv40) (by intro c h; cases h) (w' := W) ?_ (hS)
      · simp [execOp, go_sem, e155, e157, hsub, hwd]
    | 45 =>
      simp only [List.getElem?_toArray, List.getElem?_cons_zero, List.getElem?_cons_succ, Option.some.injEq] at ho
      subst ho
      have p40 : b 40 = true := hd ⟨40, .guard⟩ (by simp) rfl
      have e11 : a.tmps[11]?.getD undef = .int .i64 (size : Nat) := (kp 11 (by kernel_rfl)).trans b11
      rw [vv45]
      refine does_value_g rfl (yl 40 154 true rfl p40 vv40) (by intro c h; cases h) (w' := W) ?_ (hS)
      · simp [execOp, go_sem, e11]
    | 46 =>
      simp only [List.getElem?_toArray, List.getElem?_cons_zero, List.getElem?_cons_succ, Option.some.injEq] at ho
      subst ho
      have p45 : b 45 = true := hd ⟨45, .data⟩ (by simp) rfl
      have p40 : b 40 = true := hd ⟨40, .guard⟩ (by simp) rfl
      have e159 := (ev 45 159 rfl p45).trans vv45
      rw [vv46]
      refine does_value_g rfl (yl 40 154 true rfl p40 vv40) (by intro c h; cases h) (w' := W) ?_ (hS)
      · simp [execOp, go_sem, e159, hdv, hwf]
    | 47 =>
      simp only [List.getElem?_toArray, List.getElem?_cons_zero, List.getElem?_cons_succ, Option.some.injEq] at ho
      subst ho
      have p46 : b 46 = true := hd ⟨46, .data⟩ (by simp) rfl
      have p40 : b 40 = true := hd ⟨40, .guard⟩ (by simp) rfl
      have e160 := (ev 46 160 rfl p46).trans vv46
      rw [vv47]
      refine does_call_g rfl (yl 40 154 true rfl p40 vv40) (by intro c h; cases h) (f := 17) (args := #[.int .i64 (hf : Nat)]) ?_ ?_
      · simp [go_sem, e160]
      · exact (c2 W hS).mono (fun e w' h => ⟨h.1, by rw [h.2]; exact hS⟩)
    | 48 =>
      simp only [List.getElem?_toArray, List.getElem?_cons_zero, List.getElem?_cons_succ, Option.some.injEq] at ho
      subst ho
      have p44 : b 44 = true := hd ⟨44, .data⟩ (by simp) rfl
      have p47 : b 47 = true := hd ⟨47, .data⟩ (by simp) rfl
      have p40 : b 40 = true := hd ⟨40, .guard⟩ (by simp) rfl
      have e158 := (ev 44 158 rfl p44).trans vv44
      have e161 := (ev 47 161 rfl p47).trans vv47
      rw [vv48]
      refine does_value_g rfl (yl 40 154 true rfl p40 vv40) (by intro c h; cases h) (w' := W) ?_ (hS)
      · simp [execOp, go_sem, e158, e161, hle]
    | 49 =>
      simp only [List.getElem?_toArray, List.getElem?_cons_zero, List.getElem?_cons_succ, Option.some.injEq] at ho
      subst ho
      have p40 : b 40 = true := hd ⟨40, .data⟩ (by simp) rfl
      have p48 : b 48 = true := hd ⟨48, .data⟩ (by simp) rfl
      have e154 := (ev 40 154 rfl p40).trans vv40
      have e162 := (ev 48 162 rfl p48).trans vv48
      rw [vv49]
      refine does_value rfl (by intro c h; cases h) (w' := W) ?_ (hS)
      · simp [execOp, go_sem, e154, e162]
    | 50 =>
      simp only [List.getElem?_toArray, List.getElem?_cons_zero, List.getElem?_cons_succ, Option.some.injEq] at ho
      subst ho
      have p49 : b 49 = true := hd ⟨49, .data⟩ (by simp) rfl
      have e163 := (ev 49 163 rfl p49).trans vv49
      rw [vv50]
      refine does_value rfl (by intro c h; cases h) (w' := W) ?_ (hS)
      · simp [execOp, go_sem, e163]
    | k + 51 => simp at ho
  · intro b' W hS _
    subst hLe
    exact hQ W hS

end Go.Proofs.YtebdgcoandfocaaGreatDoor

/-
  InodeEdges: the law.
-/
namespace Go.Proofs.YtebdgcoandfocaaGreatDoor
open Go.RowKit Go.Maps Go.Sort Go.Shelf

theorem range_getD (bs : By) (n : Nat) (hn : n ≤ bs.length) : (List.range n).map (fun i => bs.getD (0 + i) 0) = bs.take n := by
  apply List.ext_getElem?
  intro i
  rw [List.getElem?_map, List.getElem?_take]
  by_cases hi : i < n
  · rw [List.getElem?_range hi, if_pos hi]
    simp only [Option.map_some, Nat.zero_add]
    rw [List.getD_eq_getElem?_getD, List.getElem?_eq_getElem (by omega)]; rfl
  · rw [List.getElem?_eq_none (by simp; omega), if_neg hi]; rfl
theorem range_cut (bs : By) (n : Nat) (hn : n ≤ bs.length) : (List.range n).map (fun i => cutW (fun i => bs.getD i 0) n (0 + i)) = bs.take n := by
  rw [← range_getD bs n hn]
  refine List.map_congr_left fun i hi => ?_
  have := List.mem_range.1 hi
  unfold cutW
  rw [if_pos (by omega)]

set_option maxRecDepth 8000 in
set_option maxHeartbeats 16000000 in
theorem edges_ok (bl size : Nat) (by_ : Int) (x : BitVec 8) (w : World) (ht : Tab w) (ht6 : Bm.Tab64 w) (hbl : bl ≤ 128) (hb1 : -2 ≤ by_) (hb2 : by_ ≤ 2) (hsz : (bl : Int) * 512 + by_ = (size : Nat)) (hmax : size ≤ 65536) :
    Calls Tryz.prog 5 #[.int .i64 (bl : Nat), .int .i64 by_, .int .u8 (x.toNat : Int)] w fun e w' => e = .returned (.bool true) ∧ Below w.heap.size w w' := by
  have cb := begun9_true w ht ht6
  have HT := hide (⟨ht, ht6⟩ : _ ∧ _)
  have h6 := ht6.lt
  clear ht ht6
  have k1 : ¬ ((bl : Int) < 0) := by omega
  have k2 : ¬ ((128 : Int) < (bl : Int)) := by omega
  have k3 : ¬ (by_ < -2) := by omega
  have k4 : ¬ (2 < by_) := by omega
  have k5 : ¬ ((size : Int) < 0) := by omega
  have k6 : ¬ ((65536 : Int) < (size : Int)) := by omega
  go_enter Tryz.func5, Tryz.ntmps5
  go_wp2_with (go_at_call 6; refine cb.mono ?_; rintro e w1 ⟨rfl, hB1⟩; clear cb; refine Stop.out ?_)
  refine Stop.mk ?_
  have cD : Calls Tryz.prog 7 #[.int .i64 200] w1 _ := disk_any 200 w1 (below_tab hB1 HT.out.1.lt HT.out.1) (HT.out.2.below hB1) (by omega) (by omega)
  have hs1 := hB1.size
  have H1 := hide hB1
  clear hB1
  go_wp2_with (go_at_call 7; refine cD.mono ?_; rintro e w2 ⟨c, s, vs, rfl, hC2, hnb, hcont, hm2, hsl, hB2⟩; clear cD; refine Stop.out ?_)
  refine Stop.mk ?_
  have cN := inew_any w2
  have H2 := hide (⟨hC2, hnb, hm2, hsl, hB2⟩ : _ ∧ _ ∧ _ ∧ _ ∧ _)
  clear hC2 hnb hcont hm2 hsl hB2
  go_wp2_with (go_at_call 8; refine cN.mono ?_; rintro e w3 ⟨rfl, hi3, hB3⟩; clear cN; refine Stop.out ?_)
  refine Stop.mk ?_
  obtain ⟨hC2, hnb, hm2, hsl, hB2⟩ := H2.out
  obtain ⟨a, ha⟩ : ∃ a, w2.heap.size = a := ⟨_, rfl⟩
  rw [ha] at hi3 ⊢
  have F3 := Fil.start (by omega) hC2 hnb hm2 hB3 hi3
  have hal : w1.heap.size ≤ a := by rw [← ha]; exact hB2.size
  have hB13 : Below w1.heap.size w1 w3 := hB2.trans (hB3.mono hB2.size)
  have H3 := hide (⟨F3, hB13, hal, hsl⟩ : _ ∧ _ ∧ _ ∧ _)
  clear hC2 hnb hm2 hsl hB2 hi3 hB3 F3 hal hB13 H2 ha
  obtain ⟨g, hg⟩ : ∃ g, w3.heap.size = g := ⟨_, rfl⟩
  obtain ⟨w4, hw4⟩ : ∃ w4, w4 = w3.alloc (.cells (List.replicate size (Value.int .u8 0)).toArray 5) := ⟨_, rfl⟩
  have hmk : (Instr.makeSlice 30 (.int .i64 (size : Nat)) (.int .i64 (size : Nat))).run Tryz.prog w3 = .ok (.slice (some ⟨g, 0, none⟩) size size) w4 := by rw [hw4, ← hg]; exact imake w3 size (by omega)
  have hr4 : w4.heap[g]? = some (.cells ((partB x size 0).map u8v).toArray 5 (0, 0)) := by
    rw [partB_zero, List.map_replicate, hw4, ← hg]; exact heap_alloc_new w3 _
  have hB4 : Below w3.heap.size w3 w4 := by rw [hw4]; exact (Below.refl _ w3).alloc (Nat.le_refl _) _
  have HW := hide (⟨hr4, hB4, hg⟩ : _ ∧ _ ∧ _)
  clear hw4 hr4 hB4 hg
  go_wp2_with fail
  clear hmk
  go_loopw [13] (fun ix wr => ∃ k : Nat, k ≤ size ∧ ix = .int .i64 k ∧ Hid (wr.heap[g]? = some (.cells ((partB x size k).map u8v).toArray 5 (0, 0)) ∧ Below w3.heap.size w3 wr)) (fun ix _ => size - (intOf ix).toNat)
  case atStart => exact ⟨0, Nat.zero_le _, rfl, HW.out.1, HW.out.2.1⟩
  case round =>
    obtain ⟨k, hk, rfl, HK⟩ := hrel
    by_cases hlt : k < size
    · have hltI : (k : Int) < size := by omega
      have c2 : wr.cell? ⟨g, k, none⟩ = some (.int .u8 0) := by
        rw [cellOf HK.out.1 k]
        unfold partB
        simp [hlt, u8v]
      have f2 : wr.frozen? ⟨g, k, none⟩ = false := frozenOf HK.out.1 k
      go_wp2_with fail
      refine ⟨⟨k + 1, by omega, by go_num, ⟨?_, HK.out.2.setCell (p := ⟨g, k, none⟩) (by rw [HW.out.2.2]; exact Nat.le_refl _) _⟩⟩, by simp [intOf]; omega⟩
      have hbo := HK.out.1
      rw [← partB_step x size k hlt, evB_val]
      simp [World.setCell, Array.getElem?_modify, hbo]
    · have hnl : ¬ ((k : Int) < (size : Int)) := by omega
      have hke : k = size := by omega
      obtain ⟨hrow, hBr⟩ := HK.out
      rw [hke, partB_all] at hrow
      obtain ⟨F3, hB13, hal, hsl⟩ := H3.out
      have Fr := F3.below hBr
      have hB1r : Below w1.heap.size w1 wr := hB13.trans (hBr.mono hB13.size)
      have cF := free_F Fr
      rw [show Ino.cnt (fun _ => 0) = 0 by decide] at cF
      have cF' : Calls Tryz.prog 9 #[.pointer (some ⟨s + 1, 0, none⟩)] wr fun e w' => e = .returned (.int .i64 199) ∧ w' = wr := cF
      have cW : Calls Tryz.prog 11 #[.pointer (some ⟨a, 0, none⟩), ep c, .pointer (some ⟨s + 1, 0, none⟩), .int .i64 0, .slice (some ⟨g, 0, none⟩) (edgeB x size).length size] wr _ := write_all Fr (by omega) rfl ((HT.out.2.below H1.out).below hB1r) (Nat.lt_of_lt_of_le h6 hs1) g size (edgeB x size) hrow (by rw [edgeB_length]; exact Nat.le_refl _) (by rw [edgeB_length]; exact hmax)
      rw [edgeB_length] at cW
      have HR := hide (⟨hrow, Fr, hB1r, hal, hsl, hmax, hke⟩ : _ ∧ _ ∧ _ ∧ _ ∧ _ ∧ _ ∧ _)
      clear hrow hBr F3 hB13 hal hsl Fr hB1r cF HK H3 HW hke hmax hk
      go_wp2_with (first
        | (go_at_call 9; refine Calls_on cF' ?_; clear cF')
        | (go_at_call 11; refine cW.mono ?_; rintro e w5 ⟨rfl, hb5, m5, G5, V5, ea, eb, en, F5, q5⟩; clear cW; refine Stop.out ?_))
      refine Stop.mk ?_
      obtain ⟨hrow, Fr, hB1r, hal, hsl, hmax, hke⟩ := HR.out
      have ea' : m5.a = s + 1 := ea
      have eb' : m5.b = s := eb
      have en' : m5.n = 200 := en
      have hrow5 := Fr.row hb5 hrow
      have hB15 : Below w1.heap.size w1 w5 := hB1r.trans (Fil.lowB hb5 hB1r.size hsl hal)
      have cR : Calls Tryz.prog 14 #[.pointer (some ⟨a, 0, none⟩), ep c, .int .i64 0, .int .i64 65536] w5 _ := read_B F5 (by omega) 0 65536 size (by omega) (by omega) (by omega)
      have HR5 := hide (⟨hrow5, F5, hB15, hal, hsl, ea', eb', en', q5, hmax⟩ : _ ∧ _ ∧ _ ∧ _ ∧ _ ∧ _ ∧ _ ∧ _ ∧ _ ∧ _)
      clear HR hrow Fr hB1r hal hsl hmax hke ea eb en ea' eb' en' hrow5 hB15 F5 q5 hb5
      go_wp2_with (go_at_call 14; refine cR.mono ?_; rintro e w6 ⟨p6, cp6, rfl, F6, hb6, hr6⟩; clear cR; refine Stop.out ?_)
      refine Stop.mk ?_
      obtain ⟨hrow5, F5, hB15, hal, hsl, ea', eb', en', q5, hmax⟩ := HR5.out
      rw [range_getD (edgeB x size) size (by rw [edgeB_length]; exact Nat.le_refl _), List.take_of_length_le (by rw [edgeB_length]; exact Nat.le_refl _)] at hr6
      have hrow6 := F5.rowC hb6 hrow5
      have hB16 : Below w1.heap.size w1 w6 := hB15.trans (Fil.lowC hb6 hB15.size)
      have cF6 := free_F F6
      rw [ea', en', q5] at cF6
      obtain ⟨q, hq⟩ : ∃ q, Ino.costB ((size + 511) / 512) = q := ⟨_, rfl⟩
      rw [hq] at cF6
      have hq131 : q ≤ 131 := by
        have h1 : Ino.costB ((size + 511) / 512) ≤ Ino.costB 128 := Ino.costB_mono (by omega)
        rw [hq, show Ino.costB 128 = 131 by decide] at h1; exact h1
      obtain ⟨u, hu⟩ : ∃ u, 200 - 1 - q = u := ⟨_, rfl⟩
      rw [hu] at cF6
      have e1 : (199 : Int) - (u : Int) = (q : Nat) := by omega
      have hu2 : u < 200 := by omega
      obtain ⟨hf, hhf⟩ : ∃ hf, size / 2 = hf := ⟨_, rfl⟩
      have ehf : (size : Int) / 2 = (hf : Nat) := by omega
      have cT := trunc_F F6 (by omega) hf (by omega)
      rw [ea'] at cT
      have HR6 := hide (⟨hrow6, hr6, F6, hB16, hal, hsl, eb', en', hq, hmax, hhf, hq131⟩ : _ ∧ _ ∧ _ ∧ _ ∧ _ ∧ _ ∧ _ ∧ _ ∧ _ ∧ _ ∧ _ ∧ _)
      clear HR5 hrow5 F5 hB15 hal hsl ea' eb' en' q5 hmax hr6 hrow6 hB16 F6 hq hu hhf hb6 hq131
      go_wp2_with (first
        | (go_at_call 9; refine Calls_on cF6 ?_; clear cF6)
        | (go_at_call 13; refine cT.mono ?_; rintro e w7 ⟨hb7, rfl, m7, G7, V7, a7, b7, n7, F7⟩; clear cT; refine Stop.out ?_))
      refine Stop.mk ?_
      obtain ⟨hrow6, hr6, F6, hB16, hal, hsl, eb', en', hq, hmax, hhf, hq131⟩ := HR6.out
      have hrow7 := F6.row hb7 hrow6
      have hr7 : RowB w7 p6 (edgeB x size) := hr6.keep fun g cs fr hg => F6.row hb7 hg
      have hB17 : Below w1.heap.size w1 w7 := hB16.trans (Fil.lowB hb7 hB16.size (by rw [eb']; exact hsl) hal)
      have cR2 : Calls Tryz.prog 14 #[.pointer (some ⟨a, 0, none⟩), ep c, .int .i64 0, .int .i64 65536] w7 _ := read_B F7 (by omega) 0 65536 hf (by omega) (by omega) (by omega)
      have HR7 := hide (⟨hrow7, hr7, F7, hB17, a7, n7, en', hq, hmax, hhf, hq131⟩ : _ ∧ _ ∧ _ ∧ _ ∧ _ ∧ _ ∧ _ ∧ _ ∧ _ ∧ _ ∧ _)
      clear HR6 hrow6 hr6 F6 hB16 hal hsl eb' en' hq hmax hhf hq131 hrow7 hr7 hB17 F7 a7 n7 b7 hb7
      go_wp2_with (go_at_call 14; refine cR2.mono ?_; rintro e w8 ⟨p8, cp8, rfl, F8, hb8, hr8⟩; clear cR2; refine Stop.out ?_)
      refine Stop.mk ?_
      obtain ⟨hrow7, hr7, F7, hB17, a7, n7, en', hq, hmax, hhf, hq131⟩ := HR7.out
      rw [range_cut (edgeB x size) hf (by rw [edgeB_length]; omega)] at hr8
      have hrow8 := F7.rowC hb8 hrow7
      have hr78 : RowB w8 p6 (edgeB x size) := hr7.keep fun g cs fr hg => F7.rowC hb8 hg
      have hB18 : Below w1.heap.size w1 w8 := hB17.trans (Fil.lowC hb8 hB17.size)
      have hlh : ((edgeB x size).take hf).length = hf := by rw [List.length_take, edgeB_length]; omega
      have s1 : ∀ W, Below w8.heap.size w8 W → (convert 30 9 (.slice p6 size cp6)).run Tryz.prog W = .ok (.string (strOf (edgeB x size))) W := fun W hW => by
        have := run_str W p6 (edgeB x size) cp6 (hr78.below hW).is
        rw [edgeB_length] at this
        exact this
      have s2 : ∀ W, Below w8.heap.size w8 W → (convert 30 9 (.slice (some ⟨g, 0, none⟩) size size)).run Tryz.prog W = .ok (.string (strOf (edgeB x size))) W := fun W hW => by
        have := run_str W (some ⟨g, 0, none⟩) (edgeB x size) size ((RowB.block hrow8).below hW).is
        rw [edgeB_length] at this
        exact this
      have s3 : ∀ W, Below w8.heap.size w8 W → (convert 30 9 (.slice p8 hf cp8)).run Tryz.prog W = .ok (.string (strOf ((edgeB x size).take hf))) W := fun W hW => by
        have := run_str W p8 ((edgeB x size).take hf) cp8 (hr8.below hW).is
        rw [hlh] at this
        exact this
      have s4 : ∀ W, Below w8.heap.size w8 W → (convert 30 9 (.slice (some ⟨g, 0, none⟩) hf size)).run Tryz.prog W = .ok (.string (strOf ((edgeB x size).take hf))) W := fun W hW => by
        have := run_str W (some ⟨g, 0, none⟩) ((edgeB x size).take hf) size (((RowB.block hrow8).below hW).take hf).is
        rw [hlh] at this
        exact this
      have cC1 : ∀ W, Below w8.heap.size w8 W → Calls Tryz.prog 17 #[.int .i64 (size : Nat)] W fun e w' => e = .returned (.int .i64 (q : Nat)) ∧ w' = W := fun W _ => by
        have := rcost_any (size : Nat) W
        rw [costI_B size hmax, hq] at this
        exact this
      obtain ⟨r, hr⟩ : ∃ r, Ino.costB ((hf + 511) / 512) = r := ⟨_, rfl⟩
      have cC2 : ∀ W, Below w8.heap.size w8 W → Calls Tryz.prog 17 #[.int .i64 (hf : Nat)] W fun e w' => e = .returned (.int .i64 (r : Nat)) ∧ w' = W := fun W _ => by
        have := rcost_any (hf : Nat) W
        rw [costI_B hf (by omega), hr] at this
        exact this
      have hcl := F8.file.cost
      rw [hr] at hcl
      have hcn := F8.cntLe
      obtain ⟨v, hv⟩ : ∃ v, 200 - 1 - Ino.cnt G7 = v := ⟨_, rfl⟩
      have n7' : m7.n = 200 := n7.trans en'
      have cF8 : ∀ W, Below w8.heap.size w8 W → Calls Tryz.prog 9 #[.pointer (some ⟨s + 1, 0, none⟩)] W fun e w' => e = .returned (.int .i64 (v : Nat)) ∧ w' = W := fun W hW => by
        have := free_F (F8.below hW)
        rw [a7, n7', hv] at this
        exact this
      rw [n7'] at hcn
      obtain ⟨d, hd⟩ : ∃ d, 199 - v = d := ⟨_, rfl⟩
      have hdr : d ≤ r := by omega
      have hsub : (199 : Int) - (v : Int) = (d : Nat) := by omega
      have hwd : IntKind.i64.wrap (d : Int) = (d : Int) := by rw [IntKind.wrap_i64]; omega
      have hwf : IntKind.i64.wrap (hf : Int) = (hf : Int) := by rw [IntKind.wrap_i64]; omega
      have hdv : Int.tdiv (size : Int) 2 = (hf : Nat) := by rw [Int.tdiv_eq_ediv_of_nonneg (by omega)]; omega
      have hfs : hf ≤ size := by omega
      have H8 := hide hB18
      generalize strOf (edgeB x size) = S1 at s1 s2
      generalize strOf ((edgeB x size).take hf) = S2 at s3 s4
      clear HR7 hrow7 hr7 F7 hB17 a7 n7 en' hq hmax hhf hr8 hrow8 hr78 hB18 F8 hb8 hcl hcn hv hr n7' hlh hq131 hd
      go_wp2_with fail
      refine edges_reg (by kernel_rfl) g s size hf q v d r cp6 cp8 p6 p8 S1 S2 w8 rfl rfl rfl rfl rfl rfl rfl rfl rfl rfl rfl rfl rfl s1 s2 s3 s4 cC1 cC2 cF8 hdv hwf hsub hwd hdr hfs ?_
      intro W hW
      have HF := hide (H1.out.trans ((H8.out.trans (hW.mono H8.out.size)).mono H1.out.size))
      clear hW s1 s2 s3 s4 cC1 cC2 cF8 H8
      unfold edgesL
      simp only [putAll, List.setIfInBounds_toArray, List.set_cons_zero, List.set_cons_succ]
      go_wp2
      go_ret
      exact ⟨rfl, HF.out⟩

theorem edges_law (blocks by_ : Int) (x : BitVec 8) (w : World) (ht : Tab w) (ht6 : Bm.Tab64 w) :
    Calls Tryz.prog 5 #[.int .i64 blocks, .int .i64 by_, .int .u8 (x.toNat : Int)] w fun e w' => e = .returned (.bool true) ∧ Below w.heap.size w w' := by
  by_cases h : blocks < 0 ∨ 128 < blocks ∨ by_ < -2 ∨ 2 < by_ ∨ blocks * 512 + by_ < 0 ∨ 65536 < blocks * 512 + by_
  · exact edges_bad blocks by_ _ w ht ht6 h
  · obtain ⟨n, rfl⟩ : ∃ n : Nat, blocks = n := ⟨blocks.toNat, by omega⟩
    exact edges_ok n ((n : Int) * 512 + by_).toNat by_ x w ht ht6 (by omega) (by omega) (by omega) (by omega) (by omega)

end Go.Proofs.YtebdgcoandfocaaGreatDoor

namespace Go.Proofs.YtebdgcoandfocaaGreatDoor
open Go.ChangeShapes Go.WideShapes Go.ChangeAt Go.RowKit Go.Deep

set_option maxRecDepth 100000 in
theorem iedges_contract (H : Type) (enc : TypeId × Value → H) (W : World) (base : Nat) (args : Array Value) (ds gs : List (DataW H)) (before : List MemPlace)
    (hval : ∀ (j : Nat) t v, Tryz.f5.params[j]? = some t → args[j]? = some v → Value.okWide Tryz.prog W .any base t v)
    (hW : DataW.Whole enc Tryz.prog Tryz.f5.params.toList Rows.inodeEdgesSpec.vars false W args.toList ds gs before)
    (hL : laidMetH Tryz.prog Rows.inodeEdgesRow.laid W) :
    Calls Tryz.prog 5 args W fun e W' => ∃ v, e = .returned v ∧ Rows.inodeEdgesSpec.post enc Tryz.prog Tryz.f5 false true false false W args v W' := by
  have hW' := hW
  obtain ⟨p, q, hA0, hV, rfl, hfz, hnd⟩ := hW
  have hA : DataW.TrodAll enc Tryz.prog W 0 (fun _ => true) true Tryz.f5.params.toList args.toList ds p := hA0
  rw [Tryz.params5] at hA hval
  obtain ⟨v0, vs0, d0, ds0, p0, q0, hargs, rfl, rfl, h0, r0⟩ := trodAll_cons hA
  obtain ⟨v1, vs1, d1, ds1, p1, q1, rfl, rfl, rfl, h1, r1⟩ := trodAll_cons r0
  obtain ⟨v2, vs2, d2, ds2, p2, q2, rfl, rfl, rfl, h2, r2⟩ := trodAll_cons r1
  obtain ⟨rfl, rfl, rfl⟩ := trodAll_nil r2
  obtain rfl : args = #[v0, v1, v2] := by cases args; simp_all
  obtain ⟨rfl, rfl⟩ := trodVars_none hV
  obtain ⟨a0, rfl, rfl, rfl, w0⟩ := open_int Tryz.underlying3 (hval 0 3 v0 rfl rfl) h0
  obtain ⟨a1, rfl, rfl, rfl, w1⟩ := open_int Tryz.underlying3 (hval 1 3 v1 rfl rfl) h1
  obtain ⟨a2, rfl, rfl, rfl, w2⟩ := open_int Tryz.underlying5 (hval 2 5 v2 rfl rfl) h2
  clear hA0
  have hx := w2
  simp [Lit.wf] at hx
  have hx0 : 0 ≤ a2 := hx.1
  have hx1 : a2 ≤ 255 := hx.2
  obtain ⟨x, hxe⟩ : ∃ x : BitVec 8, a2 = (x.toNat : Int) := ⟨BitVec.ofNat 8 a2.toNat, by rw [BitVec.toNat_ofNat, Nat.mod_eq_of_lt (by omega)]; omega⟩
  subst hxe
  refine (edges_law a0 a1 x W (tabs_of_laid hL).1 (tabs_of_laid hL).2).mono fun e W' ⟨he, bel⟩ => ?_
  subst he
  exact ⟨_, rfl, _, _, _, [], _, [], hW', trodAll_mk1 (shut_bool Tryz.underlying4 _), (trodAll_cons_mk (shut_int Tryz.underlying3 w0) (trodAll_cons_mk (shut_int Tryz.underlying3 w1) (trodAll_cons_mk (shut_int Tryz.underlying5 w2) trodAll_mk0))), rfl, bel.frame _, fun h => by cases h⟩

theorem iedges_laid_met (os : Os) : laidMet Tryz.prog Rows.inodeEdgesRow.laid ((World.doorLaid Tryz.prog 400 os).forCall (fun _ _ => 0) ⟨#[], #[.int .i64 0, .int .i64 0, .int .u8 0], []⟩).memory :=
  laidMet_of_run' 20 (by kernel_rfl) (by kernel_rfl)
theorem iedges_reads (os : Os) {H : Type} (enc : TypeId × Value → H) : ∃ places, DataW.whole enc Tryz.prog ((World.doorLaid Tryz.prog 400 os).forCall (fun _ _ => 0) ⟨#[], #[.int .i64 0, .int .i64 0, .int .u8 0], []⟩).memory Tryz.f5.params.toList Rows.inodeEdgesSpec.vars false (#[.int .i64 0, .int .i64 0, .int .u8 0] : Array Value).toList 8 = some ([.lit (.int .i64 0), .lit (.int .i64 0), .lit (.int .u8 0)], [], places) :=
  ⟨[], by kernel_rfl⟩

set_option maxRecDepth 100000 in
theorem iedges_lifted (os : Os) (started : os.Started) (H : Type) (enc : TypeId × Value → H) (F : Stop.Interp) :
    ReturnsInHanded {} Tryz.checked os 5 .any ((OpenSpec.ofChange Rows.inodeEdgesSpec).preRow enc Tryz.prog Tryz.f5 Rows.inodeEdgesRow.domain false Rows.inodeEdgesRow.laid) (((OpenSpec.ofChange Rows.inodeEdgesSpec).at F).post enc Tryz.prog Tryz.f5 false true false false) := by
  obtain ⟨places, hx⟩ := iedges_reads os enc
  refine returnsInHanded_of_row (C := Tryz.checked) (s := OpenSpec.ofChange Rows.inodeEdgesSpec) own started (by kernel_rfl) Tryz.func5
    (witness_row_at (enc := enc) (C := Tryz.checked) false (World.doorLaid Tryz.prog 400 os) #[.int .i64 0, .int .i64 0, .int .u8 0] rfl (by kernel_rfl) (by kernel_rfl) (by kernel_rfl)
      (OpenSpec.preRow_of_cond 8 hx (by kernel_rfl) (fun k hk => by cases hk) (by kernel_rfl) (iedges_laid_met os))) ?_
  intro W base args ds gs before hval hW _ _ _ hL _ _
  exact iedges_contract H enc W base args ds gs before hval hW hL

theorem iedges_said : Rows.InodeEdgesSaid :=
  OpenClaim.holds_of_cond 5 Tryz.f5 rfl rfl rfl rfl rfl rfl rfl ⟨rfl, rfl, rfl, rfl, rfl⟩ rfl rfl rfl rfl rfl (by kernel_rfl) Tryz.func5 (by kernel_rfl)
    (of_decide_eq_true (by kernel_rfl)) (by unfold Func.isWrapper; first | (rw [if_pos (by decide +kernel)]; kernel_rfl) | (rw [if_neg (by decide +kernel)]; exact ⟨rfl, rfl⟩))
    (fun os started H enc _ F => by rw [OpenClaim.pre_eq_preRow]; exact iedges_lifted os started H enc F)

theorem iedges_plain (f : FuncId) (fn : Func) (hf : Tryz.pinned.checked.prog.funcNamed "lagoon/lagoonlaw9.InodeEdges" = some f) (hfn : Tryz.pinned.checked.prog.funcs[f]? = some fn) :
    true = Tryz.pinned.checked.prog.looks [] ∧ ∀ (j : Nat) t, fn.params[j]? = some t → Tryz.pinned.checked.prog.wantsStandIn t = false := by
  obtain rfl : f = 5 := Option.some.inj ((show Tryz.prog.funcNamed "lagoon/lagoonlaw9.InodeEdges" = some 5 by kernel_rfl).symm.trans hf) |>.symm
  obtain rfl : fn = Tryz.f5 := (Option.some.inj (Tryz.func5.symm.trans hfn)).symm
  refine ⟨by kernel_rfl, fun j t ht => ?_⟩
  rw [Tryz.params5] at ht
  have hm : t ∈ [3, 3, 5] := by simpa using Array.mem_of_getElem? ht
  have hall : ([3, 3, 5].all fun u => !Tryz.prog.wantsStandIn u) = true := by kernel_rfl
  exact (show Tryz.prog.wantsStandIn t = false by simpa using List.all_eq_true.1 hall t hm)

theorem inodeEdges_holds : Rows.InodeEdgesCardSaid :=
  Claim7.holds_tied_plain_at .later [] _ _ _ _ iedges_said (fun _ h => by cases h) (by kernel_rfl) (fun _ h => by cases h) inodeEdges_row_tie rfl ⟨rfl, rfl⟩ (by kernel_rfl) rfl iedges_plain (by kernel_rfl)

#print axioms inodeEdges_holds
end Go.Proofs.YtebdgcoandfocaaGreatDoor
