/-
  What the proof leans on, part 16.
-/
import Derived.Test.YtebdgcoandfocaaGreatDoorQ14
import Derived.Test.YtebdgcoandfocaaGreatDoorQ00
import Derived.Test.YtebdgcoandfocaaGreatDoorQ13
import Derived.Test.YtebdgcoandfocaaGreatDoorQ11

/-
  Package inode: through, over what open, level, give and put do.
-/
namespace Go.Proofs.YtebdgcoandfocaaGreatDoor
open Go.RowKit

/-- A region of a body, by its number. -/
def regI (n : Nat) : Code → Option (Array Oper)
  | .region k ops _ => if k = n then some ops else none
  | .seq a b => match regI n a with | some x => some x | none => regI n b
  | .cond _ a b => match regI n a with | some x => some x | none => regI n b
  | .block _ b => regI n b
  | .loop b => regI n b
  | .scope b => regI n b
  | .rangeFunc _ _ a b => match regI n a with | some x => some x | none => regI n b
  | _ => none

def thrL (k c : Nat) (n1 : BitVec 32) (now : List (BitVec 32)) (g : Nat) : List (Option Tmp × Value) := [(some 54, .pointer (some ⟨k, 0, none⟩)), (some 55, .pointer (some ⟨k, 0, none⟩)), (some 56, .pointer (some ⟨k, 0, none⟩)), (some 57, .pointer (some ⟨c, 0, none⟩)), (some 58, .int .u32 (n1.toNat : Int)), (some 59, .agg (rowT now)), (some 60, .slice (some ⟨g, 0, none⟩) 512 512), (some 61, .tuple #[])]

set_option maxRecDepth 8000 in
set_option maxHeartbeats 4000000 in
theorem through_put {Q : Exit → Act → World → Prop} {base : Array Value} {dd : List Deferred} {ops : Array Oper} (hops : Tryz.f67.body.bind (regI 14) = some ops) (hsz : base.size = 63) (k c b1 : Nat) (n1 : BitVec 32) (now : List (BitVec 32)) (w6 : World) (D : World → Prop)
    (b0 : base.getD 0 undef = .pointer (some ⟨k, 0, none⟩)) (b2 : base.getD 2 undef = .int .u32 (n1.toNat : Int)) (b12 : base.getD 12 undef = .pointer (some ⟨b1, 0, none⟩))
    (k0 : w6.cell? ⟨k, 0, none⟩ = some (.pointer (some ⟨c, 0, none⟩))) (hkl : k < w6.heap.size) (hT : TabAt w6 b1 now) (hl : now.length = 64)
    (hP : ∀ W g, Below w6.heap.size w6 W → w6.heap.size ≤ g → W.heap[g]? = some (.cells ((Ino.tabB now).map u8v).toArray 5 (0, 0)) → Calls Tryz.prog 64 #[.pointer (some ⟨c, 0, none⟩), .int .u32 (n1.toNat : Int), .slice (some ⟨g, 0, none⟩) 512 512] W fun e w' => e = .returned (.tuple #[]) ∧ D w')
    (hQ : ∀ W g, D W → Q .normal ⟨putAll base (thrL k c n1 now g), dd⟩ W) :
    (Code.region 14 ops true).wp Tryz.prog Q ⟨base, dd⟩ w6 := by
  have hmix : Tryz.prog.follows .mixedOrders = true := by kernel_rfl
  have h2 := (show Tryz.f67.body.bind (regI 14) = some _ from rfl).symm.trans hops
  obtain rfl := Option.some.inj h2
  clear h2 hops
  have vv0 : ∀ g, vals (thrL k c n1 now g) 0 = .pointer (some ⟨k, 0, none⟩) := fun _ => rfl
  have vv1 : ∀ g, vals (thrL k c n1 now g) 1 = .pointer (some ⟨k, 0, none⟩) := fun _ => rfl
  have vv2 : ∀ g, vals (thrL k c n1 now g) 2 = .pointer (some ⟨k, 0, none⟩) := fun _ => rfl
  have vv3 : ∀ g, vals (thrL k c n1 now g) 3 = .pointer (some ⟨c, 0, none⟩) := fun _ => rfl
  have vv4 : ∀ g, vals (thrL k c n1 now g) 4 = .int .u32 (n1.toNat : Int) := fun _ => rfl
  have vv5 : ∀ g, vals (thrL k c n1 now g) 5 = .agg (rowT now) := fun _ => rfl
  have vv6 : ∀ g, vals (thrL k c n1 now g) 6 = .slice (some ⟨g, 0, none⟩) 512 512 := fun _ => rfl
  have vv7 : ∀ g, vals (thrL k c n1 now g) 7 = .tuple #[] := fun _ => rfl
  refine region_laidg hmix (by kernel_rfl) 63 hsz (by kernel_rfl) 0 (thrL k c n1 now) (fun _ => rfl) (fun g b W => (b 7 = true → D W) ∧ (b 7 = false → Below w6.heap.size w6 W ∧ (b 6 = true → w6.heap.size ≤ g ∧ W.heap[g]? = some (.cells ((Ino.tabB now).map u8v).toArray 5 (0, 0))))) ⟨fun h => absurd h (by simp), fun _ => ⟨(Below.refl _ w6).drew, fun h => absurd h (by simp)⟩⟩ ?_ ?_
  · intro g b W io o a hS hcl ho hb hd ev kp yl
    have h73 : b 7 = true → b 3 = true := fun h => hcl 7 _ rfl h ⟨3, .data⟩ (by simp) rfl
    have h74 : b 7 = true → b 4 = true := fun h => hcl 7 _ rfl h ⟨4, .data⟩ (by simp) rfl
    have h76 : b 7 = true → b 6 = true := fun h => hcl 7 _ rfl h ⟨6, .data⟩ (by simp) rfl
    have h65 : b 6 = true → b 5 = true := fun h => hcl 6 _ rfl h ⟨5, .data⟩ (by simp) rfl
    have h32 : b 3 = true → b 2 = true := fun h => hcl 3 _ rfl h ⟨2, .data⟩ (by simp) rfl
    have h21 : b 2 = true → b 1 = true := fun h => hcl 2 _ rfl h ⟨1, .data⟩ (by simp) rfl
    have h10 : b 1 = true → b 0 = true := fun h => hcl 1 _ rfl h ⟨0, .data⟩ (by simp) rfl
    have no7 : (b 7 = true → False) → b 7 = false := fun h => by cases hx : b 7 with | false => rfl | true => exact absurd hx h
    match io with
    | 0 =>
      simp only [List.getElem?_toArray, List.getElem?_cons_zero, Option.some.injEq] at ho
      subst ho
      have z7 : b 7 = false := no7 fun h => by rw [h10 (h21 (h32 (h73 h)))] at hb; cases hb
      obtain ⟨hW, hS6⟩ := hS.2 z7
      have e0 : a.tmps[0]?.getD undef = .pointer (some ⟨k, 0, none⟩) := (kp 0 (none_till (by kernel_rfl))).trans b0
      refine doesg_value rfl (by intro c h; cases h) (v := .pointer (some ⟨k, 0, none⟩)) (w' := W) ?_ ⟨g, fun _ _ => rfl, (vv0 g).symm, ?_⟩
      · simp [execOp, go_sem, e0]
      · refine ⟨fun h => absurd (show b 7 = true from by simpa [did] using h) (by rw [z7]; simp), fun _ => ⟨hW, fun h => hS6 (by simpa [did] using h)⟩⟩
    | 1 =>
      simp only [List.getElem?_toArray, List.getElem?_cons_zero, List.getElem?_cons_succ, Option.some.injEq] at ho
      subst ho
      have p0 : b 0 = true := hd ⟨0, .data⟩ (by simp) rfl
      have e54 := (ev 0 54 rfl p0).trans (vv0 g)
      have z7 : b 7 = false := no7 fun h => by rw [h21 (h32 (h73 h))] at hb; cases hb
      obtain ⟨hW, hS6⟩ := hS.2 z7
      refine doesg_value rfl (by intro c h; cases h) (v := .pointer (some ⟨k, 0, none⟩)) (w' := W) ?_ ⟨g, fun _ _ => rfl, (vv1 g).symm, ?_⟩
      · simp [execOp, go_sem, e54]
      · refine ⟨fun h => absurd (show b 7 = true from by simpa [did] using h) (by rw [z7]; simp), fun _ => ⟨hW, fun h => hS6 (by simpa [did] using h)⟩⟩
    | 2 =>
      simp only [List.getElem?_toArray, List.getElem?_cons_zero, List.getElem?_cons_succ, Option.some.injEq] at ho
      subst ho
      have p1 : b 1 = true := hd ⟨1, .data⟩ (by simp) rfl
      have e55 := (ev 1 55 rfl p1).trans (vv1 g)
      have z7 : b 7 = false := no7 fun h => by rw [h32 (h73 h)] at hb; cases hb
      obtain ⟨hW, hS6⟩ := hS.2 z7
      refine doesg_value rfl (by intro c h; cases h) (v := .pointer (some ⟨k, 0, none⟩)) (w' := W) ?_ ⟨g, fun _ _ => rfl, (vv2 g).symm, ?_⟩
      · simp [execOp, go_sem, e55]
      · refine ⟨fun h => absurd (show b 7 = true from by simpa [did] using h) (by rw [z7]; simp), fun _ => ⟨hW, fun h => hS6 (by simpa [did] using h)⟩⟩
    | 3 =>
      simp only [List.getElem?_toArray, List.getElem?_cons_zero, List.getElem?_cons_succ, Option.some.injEq] at ho
      subst ho
      have p2 : b 2 = true := hd ⟨2, .data⟩ (by simp) rfl
      have e56 := (ev 2 56 rfl p2).trans (vv2 g)
      have z7 : b 7 = false := no7 fun h => by rw [h73 h] at hb; cases hb
      obtain ⟨hW, hS6⟩ := hS.2 z7
      have d0 := (hW.cell (p := ⟨k, 0, none⟩) hkl).trans k0
      refine doesg_value rfl (by intro c h; cases h) (v := .pointer (some ⟨c, 0, none⟩)) (w' := W) ?_ ⟨g, fun _ _ => rfl, (vv3 g).symm, ?_⟩
      · simp [execOp, go_sem, e56, d0]
      · refine ⟨fun h => absurd (show b 7 = true from by simpa [did] using h) (by rw [z7]; simp), fun _ => ⟨hW, fun h => hS6 (by simpa [did] using h)⟩⟩
    | 4 =>
      simp only [List.getElem?_toArray, List.getElem?_cons_zero, List.getElem?_cons_succ, Option.some.injEq] at ho
      subst ho
      have z7 : b 7 = false := no7 fun h => by rw [h74 h] at hb; cases hb
      obtain ⟨hW, hS6⟩ := hS.2 z7
      have e2 : a.tmps[2]?.getD undef = .int .u32 (n1.toNat : Int) := (kp 2 (none_till (by kernel_rfl))).trans b2
      refine doesg_value rfl (by intro c h; cases h) (v := .int .u32 (n1.toNat : Int)) (w' := W) ?_ ⟨g, fun _ _ => rfl, (vv4 g).symm, ?_⟩
      · simp [execOp, go_sem, e2]
      · refine ⟨fun h => absurd (show b 7 = true from by simpa [did] using h) (by rw [z7]; simp), fun _ => ⟨hW, fun h => hS6 (by simpa [did] using h)⟩⟩
    | 5 =>
      simp only [List.getElem?_toArray, List.getElem?_cons_zero, List.getElem?_cons_succ, Option.some.injEq] at ho
      subst ho
      have z7 : b 7 = false := no7 fun h => by rw [h65 (h76 h)] at hb; cases hb
      obtain ⟨hW, hS6⟩ := hS.2 z7
      have e12 : a.tmps[12]?.getD undef = .pointer (some ⟨b1, 0, none⟩) := (kp 12 (none_till (by kernel_rfl))).trans b12
      have hT' : TabAt W b1 now := (hW.block b1 hT.lt).trans hT
      have hld := run_loadVar_row (P := Tryz.prog) W b1 145 145 (rowT now) (0, 0) _ hT' Tryz.underlying145 rfl (by rw [rowT_size, hl]; exact Tryz.infoTable)
      refine doesg_value rfl (by intro c h; cases h) (v := .agg (rowT now)) (w' := W) ?_ ⟨g, fun _ _ => rfl, (vv5 g).symm, ?_⟩
      · have e12' : a.eval (.tmp 12) = .pointer (some ⟨b1, 0, none⟩) := by simpa [Act.eval] using e12
        unfold execOp
        simp only [e12', Sem.run_bind, Instr.loadAt, Instr.sureAddr, Sem.run_pure, Result.andThen_ok, hld]
      · refine ⟨fun h => absurd (show b 7 = true from by simpa [did] using h) (by rw [z7]; simp), fun _ => ⟨hW, fun h => hS6 (by simpa [did] using h)⟩⟩
    | 6 =>
      simp only [List.getElem?_toArray, List.getElem?_cons_zero, List.getElem?_cons_succ, Option.some.injEq] at ho
      subst ho
      have p5 : b 5 = true := hd ⟨5, .data⟩ (by simp) rfl
      have e59 := (ev 5 59 rfl p5).trans (vv5 g)
      have z7 : b 7 = false := no7 fun h => by rw [h76 h] at hb; cases hb
      obtain ⟨hW, hS6⟩ := hS.2 z7
      refine doesg_call rfl (by intro c h; cases h) (f := 89) (args := #[.agg (rowT now)]) ?_ ?_
      · simp [go_sem, e59]
      · refine (tblock_any now hl W).mono ?_
        rintro e w' ⟨rfl, hg, hB⟩
        have hsz' := hW.size
        refine ⟨_, rfl, W.heap.size + 1, fun j hj => ?_, (vv6 _).symm, fun h => absurd (show b 7 = true from by simpa [did] using h) (by rw [z7]; simp), fun _ => ⟨hW.trans (hB.mono hsz'), fun _ => ⟨by omega, hg⟩⟩⟩
        have hj6 : j ≠ 6 := fun e => by rw [e, hb] at hj; cases hj
        unfold vals thrL
        rcases j with _ | _ | _ | _ | _ | _ | _ | j
        · rfl
        · rfl
        · rfl
        · rfl
        · rfl
        · rfl
        · exact absurd rfl hj6
        · rfl
    | 7 =>
      simp only [List.getElem?_toArray, List.getElem?_cons_zero, List.getElem?_cons_succ, Option.some.injEq] at ho
      subst ho
      have p3 : b 3 = true := hd ⟨3, .data⟩ (by simp) rfl
      have p4 : b 4 = true := hd ⟨4, .data⟩ (by simp) rfl
      have p6 : b 6 = true := hd ⟨6, .data⟩ (by simp) rfl
      have e57 := (ev 3 57 rfl p3).trans (vv3 g)
      have e58 := (ev 4 58 rfl p4).trans (vv4 g)
      have e60 := (ev 6 60 rfl p6).trans (vv6 g)
      obtain ⟨hW, hS6⟩ := hS.2 hb
      obtain ⟨h1, h2⟩ := hS6 p6
      refine doesg_call rfl (by intro c h; cases h) (f := 64) (args := #[.pointer (some ⟨c, 0, none⟩), .int .u32 (n1.toNat : Int), .slice (some ⟨g, 0, none⟩) 512 512]) ?_ ?_
      · simp [go_sem, e57, e58, e60]
      · refine (hP W g hW h1 h2).mono ?_
        rintro e w' ⟨rfl, hD⟩
        exact ⟨_, rfl, g, fun _ _ => rfl, (vv7 _).symm, fun _ => hD, fun h => absurd h (by simp [did])⟩
    | j + 8 => simp at ho
  · intro g b W hS hall
    exact hQ W g (hS.1 (hall 7 (by decide)))

set_option maxRecDepth 8000 in
set_option maxHeartbeats 2000000 in
theorem through_any (k place q f t c : Nat) (n : BitVec 32) (vis : Value) (holes : Bool) (w : World) (E : Int → World → Prop) (O : BitVec 32 → List (BitVec 32) → World → Prop) (M : BitVec 32 → List (BitVec 32) → List (BitVec 32) → World → Prop) (D : BitVec 32 → World → Prop) (hk : WalkAt w k (.pointer (some ⟨c, 0, none⟩)) f t holes vis) (hnz : n ≠ 0 ∨ holes = true)
    (hO : Calls Tryz.prog 88 #[.pointer (some ⟨k, 0, none⟩), u32v n] w fun e w1 => ∃ (n1 : BitVec 32) (was : List (BitVec 32)) (er : Int), e = .returned (.tuple #[u32v n1, .agg (rowT was), .int .i64 er]) ∧ was.length = 64 ∧ ((er ≠ 0 ∧ E er w1) ∨ (er = 0 ∧ O n1 was w1)))
    (hX : ∀ er w1 w2, E er w1 → Below w1.heap.size w1 w2 → E er w2)
    (hL : ∀ n1 was w1, was.length = 64 → O n1 was w1 → ∀ w5 b, w1.heap.size = b → Below b w1 w5 → TabAt w5 (b + 1) was → w5.heap.size = b + 2 → TabAt w5 b was → Calls Tryz.prog 46 #[.pointer (some ⟨k, 0, none⟩), .slice (some ⟨b + 1, 0, none⟩) 64 64, .int .i64 (place : Nat), .int .i64 (q : Nat)] w5 fun e w6 => ∃ er : Int, e = .returned (.int .i64 er) ∧ ((er ≠ 0 ∧ E er w6) ∨ (er = 0 ∧ ∃ now, now.length = 64 ∧ TabAt w6 (b + 1) now ∧ w6.heap[b]? = w5.heap[b]? ∧ WalkAt w6 k (.pointer (some ⟨c, 0, none⟩)) f t holes vis ∧ M n1 was now w6)))
    (hG : ∀ n1 was now w6, M n1 was now w6 → now = Ino.zT → Calls Tryz.prog 45 #[.pointer (some ⟨c, 0, none⟩), u32v n1] w6 fun e w7 => e = .returned (.tuple #[]) ∧ D 0 w7)
    (hP : ∀ n1 was now w6, M n1 was now w6 → now.length = 64 → now ≠ Ino.zT → now ≠ was → ∀ w7 g, Below w6.heap.size w6 w7 → w6.heap.size ≤ g → w7.heap[g]? = some (.cells ((Ino.tabB now).map u8v).toArray 5 (0, 0)) → Calls Tryz.prog 64 #[.pointer (some ⟨c, 0, none⟩), u32v n1, .slice (some ⟨g, 0, none⟩) 512 512] w7 fun e w8 => e = .returned (.tuple #[]) ∧ D n1 w8)
    (hS : ∀ n1 was now w6, M n1 was now w6 → now ≠ Ino.zT → now = was → D n1 w6) :
    Calls Tryz.prog 67 #[.pointer (some ⟨k, 0, none⟩), .int .i64 (place : Nat), u32v n, .int .i64 (q : Nat)] w fun e w' => ∃ (n' : BitVec 32) (er : Int), e = .returned (.tuple #[u32v n', .int .i64 er]) ∧ ((er ≠ 0 ∧ n' = 0 ∧ E er w') ∨ (er = 0 ∧ D n' w')) := by
  have k3 : w.cell? ⟨k, 3, none⟩ = some (.bool holes) := by rw [cellOf hk 3]; rfl
  have HL := hide hL
  have HX := hide hX
  have HG := hide hG
  have HP := hide hP
  have HS := hide hS
  clear hL hX hG hP hS hk
  unfold u32v at hO ⊢
  by_cases hz : n = 0
  · have hho : holes = true := by
      rcases hnz with h | h
      · exact absurd hz h
      · exact h
    rw [hho] at k3
    subst hz
    clear hnz hho
    go_enter Tryz.func67, Tryz.ntmps67
    go_wp2_with (go_at_call 88; refine hO.mono ?_; rintro e w1 ⟨n1, was, er, rfl, hwas, hres⟩; refine Stop.out ?_)
    refine Stop.mk ?_
    clear hO k3
    obtain ⟨b, hb⟩ : ∃ b, w1.heap.size = b := ⟨_, rfl⟩
    have HB : Hid (w1.heap.size = b) := hb
    clear hb
    have hsl : ∀ W, (Instr.sliceAt 145 (.pointer (some ⟨b + 1, 0, none⟩)) none none none).run Tryz.prog W = .ok (.slice (some ⟨b + 1, 0, none⟩) 64 64) W := fun W => sliceT _ W
    go_wp2_with (first | (refine wpList_allocT rfl rfl b HB ?_; intro w2 H2; refine Stop.out ?_))
    refine Stop.mk ?_
    have H2' : Hid (TabAt w2 b Ino.zT ∧ Ino.zT.length = 64) := ⟨H2.out.1, rfl⟩
    go_wp2_with (first | (refine wpList_setT rfl _ _ rfl b rfl Ino.zT was rfl H2' hwas ?_; intro w3 H3; refine Stop.out ?_))
    refine Stop.mk ?_
    have H3s : Hid (w3.heap.size = b + 1) := H3.out.2.2.trans H2.out.2.2
    have H3w : Hid (Below b w1 w3) := H2.out.2.1.trans H3.out.2.1
    clear H2'
    by_cases her : er = 0
    · subst her
      have HO : Hid (O n1 was w1) := by
        rcases hres with ⟨h, _⟩ | ⟨_, h⟩
        · exact absurd rfl h
        · exact h
      clear hres
      have H3b : Hid (TabAt w3 b was ∧ was.length = 64) := ⟨H3.out.1, hwas⟩
      go_wp2_with (first | (refine wpList_loadT rfl _ rfl b rfl was H3b ?_) | (refine wpList_allocT rfl rfl (b + 1) H3s ?_; intro w4 H4; refine Stop.out ?_))
      refine Stop.mk ?_
      have H4b : Hid (TabAt w4 b was ∧ was.length = 64) := ⟨(H4.out.2.1.block b (by omega)).trans H3.out.1, hwas⟩
      have H4n : Hid (TabAt w4 (b + 1) Ino.zT ∧ Ino.zT.length = 64) := ⟨H4.out.1, rfl⟩
      go_wp2_with (first | (refine wpList_setT rfl _ _ rfl (b + 1) rfl Ino.zT was rfl H4n hwas ?_; intro w5 H5; refine Stop.out ?_))
      refine Stop.mk ?_
      have HB5 : Hid (Below b w1 w5 ∧ w5.heap.size = b + 2 ∧ TabAt w5 b was) := ⟨(H3w.out.trans (H4.out.2.1.mono (Nat.le_succ _))).trans (H5.out.2.1.mono (Nat.le_succ _)), H5.out.2.2.trans H4.out.2.2, (H5.out.2.1.block b (by omega)).trans H4b.out.1⟩
      have cL := HL.out n1 was w1 hwas HO.out w5 b HB.out HB5.out.1 H5.out.1 HB5.out.2.1 HB5.out.2.2
      clear H2 H3 H3s H3b H3w H4 H4b H4n
      go_wp2_with (go_at_call 46; refine cL.mono ?_; rintro e w6 ⟨er, rfl, hres⟩; refine Stop.out ?_)
      refine Stop.mk ?_
      clear cL hsl
      by_cases her : er = 0
      · subst her
        obtain ⟨now, hnow, hT6, hb6, hk6, hM⟩ : ∃ now, now.length = 64 ∧ TabAt w6 (b + 1) now ∧ w6.heap[b]? = w5.heap[b]? ∧ WalkAt w6 k (.pointer (some ⟨c, 0, none⟩)) f t holes vis ∧ M n1 was now w6 := by
          rcases hres with ⟨h, _⟩ | ⟨_, h⟩
          · exact absurd rfl h
          · exact h
        clear hres
        have H6 : Hid (TabAt w6 (b + 1) now ∧ now.length = 64) := ⟨hT6, hnow⟩
        have H6b : Hid (TabAt w6 b was ∧ was.length = 64) := ⟨hb6.trans HB5.out.2.2, hwas⟩
        have k0 : w6.cell? ⟨k, 0, none⟩ = some (.pointer (some ⟨c, 0, none⟩)) := by rw [cellOf hk6 0]; rfl
        have hk6l : k < w6.heap.size := (Array.getElem?_eq_some_iff.1 hk6).1
        have HM : Hid (M n1 was now w6) := hM
        clear hT6 hb6 hk6 hM
        by_cases hz0 : now = Ino.zT
        · have hd : decide (now = Ino.zT) = true := decide_eq_true hz0
          have cG := HG.out n1 was now w6 HM.out hz0
          unfold u32v at cG
          clear hz0
          go_wp2_with (first | (refine wpList_loadT rfl _ rfl (b + 1) rfl now H6 ?_) | (refine wpList_eqlT rfl _ _ rfl now Ino.zT rfl rfl H6.out.2 rfl ?_; rw [hd]) | (go_at_call 45; refine cG.mono ?_; rintro e w7 ⟨rfl, hD⟩; refine Stop.out ?_))
          refine Stop.mk ?_
          have HD : Hid (D 0 w7) := hD
          clear cG hD k0
          go_wp2
          go_ret2
          exact ⟨0, 0, rfl, .inr ⟨rfl, HD.out⟩⟩
        · have hd : decide (now = Ino.zT) = false := decide_eq_false hz0
          have HZ : Hid (now ≠ Ino.zT) := hz0
          clear hz0
          go_wp2_with (first | (refine wpList_loadT rfl _ rfl (b + 1) rfl now H6 ?_) | (refine wpList_eqlT rfl _ _ rfl now Ino.zT rfl rfl H6.out.2 rfl ?_; rw [hd]; refine Stop.out ?_))
          refine Stop.mk ?_
          clear hd
          by_cases hw0 : now = was
          · have hd : (!decide (now = was)) = false := by rw [decide_eq_true hw0]; rfl
            have HD : Hid (D n1 w6) := HS.out n1 was now w6 HM.out HZ.out hw0
            clear hw0
            go_wp2_with (first | (refine wpList_loadT rfl _ rfl (b + 1) rfl now H6 ?_) | (refine wpList_loadT rfl _ rfl b rfl was H6b ?_) | (refine wpList_neqT rfl _ _ rfl now was rfl rfl H6.out.2 H6b.out.2 ?_; rw [hd]))
            go_ret2
            exact ⟨n1, 0, rfl, .inr ⟨rfl, HD.out⟩⟩
          · have hd : (!decide (now = was)) = true := by rw [decide_eq_false hw0]; rfl
            have HP' := hide (HP.out n1 was now w6 HM.out H6.out.2 HZ.out hw0)
            have HT6 : Hid (TabAt w6 (b + 1) now ∧ now.length = 64 ∧ k < w6.heap.size) := ⟨H6.out.1, H6.out.2, hk6l⟩
            have K0 : Hid (w6.cell? ⟨k, 0, none⟩ = some (.pointer (some ⟨c, 0, none⟩))) := k0
            clear hw0
            go_wp2_with (first | (refine wpList_loadT rfl _ rfl (b + 1) rfl now H6 ?_) | (refine wpList_loadT rfl _ rfl b rfl was H6b ?_) | (refine wpList_neqT rfl _ _ rfl now was rfl rfl H6.out.2 H6b.out.2 ?_; rw [hd]))
            clear k0 HM H6 H6b HB5 hd
            refine through_put (by kernel_rfl) rfl k c (b + 1) n1 now w6 (D n1) rfl rfl rfl K0.out HT6.out.2.2 HT6.out.1 HT6.out.2.1 (fun W g hW hg hd => HP'.out W g hW hg hd) ?_
            intro w7 g hD
            have HD : Hid (D n1 w7) := hD
            clear hD HP' HT6 K0
            unfold thrL putAll putAll putAll putAll putAll putAll putAll putAll putAll
            go_wp2
            go_ret2
            exact ⟨n1, 0, rfl, .inr ⟨rfl, HD.out⟩⟩
      · have H6 : Hid (E er w6) := by
          rcases hres with ⟨_, h⟩ | ⟨h, _⟩
          · exact h
          · exact absurd h her
        have q1 : (er != 0) = true := by simp [her]
        have q2 : (er == 0) = false := by simp [her]
        clear hres
        go_wp2
        go_ret2
        exact ⟨0, er, rfl, .inl ⟨her, rfl, H6.out⟩⟩
    · have H6 : Hid (E er w3) := by
        rcases hres with ⟨_, h⟩ | ⟨h, _⟩
        · exact HX.out er w1 w3 h (by rw [HB.out]; exact H3w.out)
        · exact absurd h her
      have q1 : (er != 0) = true := by simp [her]
      have q2 : (er == 0) = false := by simp [her]
      clear hres
      go_wp2
      go_ret2
      exact ⟨0, er, rfl, .inl ⟨her, rfl, H6.out⟩⟩
  · have q0 : ¬ (n.toNat : Int) = 0 := fun h => hz (BitVec.eq_of_toNat_eq (by simpa using h))
    have q3 : ((n.toNat : Int) == 0) = false := by rw [beq_eq_false_iff_ne]; exact q0
    clear hnz hz q0
    go_enter Tryz.func67, Tryz.ntmps67
    go_wp2_with (go_at_call 88; refine hO.mono ?_; rintro e w1 ⟨n1, was, er, rfl, hwas, hres⟩; refine Stop.out ?_)
    refine Stop.mk ?_
    clear hO k3
    obtain ⟨b, hb⟩ : ∃ b, w1.heap.size = b := ⟨_, rfl⟩
    have HB : Hid (w1.heap.size = b) := hb
    clear hb
    have hsl : ∀ W, (Instr.sliceAt 145 (.pointer (some ⟨b + 1, 0, none⟩)) none none none).run Tryz.prog W = .ok (.slice (some ⟨b + 1, 0, none⟩) 64 64) W := fun W => sliceT _ W
    go_wp2_with (first | (refine wpList_allocT rfl rfl b HB ?_; intro w2 H2; refine Stop.out ?_))
    refine Stop.mk ?_
    have H2' : Hid (TabAt w2 b Ino.zT ∧ Ino.zT.length = 64) := ⟨H2.out.1, rfl⟩
    go_wp2_with (first | (refine wpList_setT rfl _ _ rfl b rfl Ino.zT was rfl H2' hwas ?_; intro w3 H3; refine Stop.out ?_))
    refine Stop.mk ?_
    have H3s : Hid (w3.heap.size = b + 1) := H3.out.2.2.trans H2.out.2.2
    have H3w : Hid (Below b w1 w3) := H2.out.2.1.trans H3.out.2.1
    clear H2'
    by_cases her : er = 0
    · subst her
      have HO : Hid (O n1 was w1) := by
        rcases hres with ⟨h, _⟩ | ⟨_, h⟩
        · exact absurd rfl h
        · exact h
      clear hres
      have H3b : Hid (TabAt w3 b was ∧ was.length = 64) := ⟨H3.out.1, hwas⟩
      go_wp2_with (first | (refine wpList_loadT rfl _ rfl b rfl was H3b ?_) | (refine wpList_allocT rfl rfl (b + 1) H3s ?_; intro w4 H4; refine Stop.out ?_))
      refine Stop.mk ?_
      have H4b : Hid (TabAt w4 b was ∧ was.length = 64) := ⟨(H4.out.2.1.block b (by omega)).trans H3.out.1, hwas⟩
      have H4n : Hid (TabAt w4 (b + 1) Ino.zT ∧ Ino.zT.length = 64) := ⟨H4.out.1, rfl⟩
      go_wp2_with (first | (refine wpList_setT rfl _ _ rfl (b + 1) rfl Ino.zT was rfl H4n hwas ?_; intro w5 H5; refine Stop.out ?_))
      refine Stop.mk ?_
      have HB5 : Hid (Below b w1 w5 ∧ w5.heap.size = b + 2 ∧ TabAt w5 b was) := ⟨(H3w.out.trans (H4.out.2.1.mono (Nat.le_succ _))).trans (H5.out.2.1.mono (Nat.le_succ _)), H5.out.2.2.trans H4.out.2.2, (H5.out.2.1.block b (by omega)).trans H4b.out.1⟩
      have cL := HL.out n1 was w1 hwas HO.out w5 b HB.out HB5.out.1 H5.out.1 HB5.out.2.1 HB5.out.2.2
      clear H2 H3 H3s H3b H3w H4 H4b H4n
      go_wp2_with (go_at_call 46; refine cL.mono ?_; rintro e w6 ⟨er, rfl, hres⟩; refine Stop.out ?_)
      refine Stop.mk ?_
      clear cL hsl
      by_cases her : er = 0
      · subst her
        obtain ⟨now, hnow, hT6, hb6, hk6, hM⟩ : ∃ now, now.length = 64 ∧ TabAt w6 (b + 1) now ∧ w6.heap[b]? = w5.heap[b]? ∧ WalkAt w6 k (.pointer (some ⟨c, 0, none⟩)) f t holes vis ∧ M n1 was now w6 := by
          rcases hres with ⟨h, _⟩ | ⟨_, h⟩
          · exact absurd rfl h
          · exact h
        clear hres
        have H6 : Hid (TabAt w6 (b + 1) now ∧ now.length = 64) := ⟨hT6, hnow⟩
        have H6b : Hid (TabAt w6 b was ∧ was.length = 64) := ⟨hb6.trans HB5.out.2.2, hwas⟩
        have k0 : w6.cell? ⟨k, 0, none⟩ = some (.pointer (some ⟨c, 0, none⟩)) := by rw [cellOf hk6 0]; rfl
        have hk6l : k < w6.heap.size := (Array.getElem?_eq_some_iff.1 hk6).1
        have HM : Hid (M n1 was now w6) := hM
        clear hT6 hb6 hk6 hM
        by_cases hz0 : now = Ino.zT
        · have hd : decide (now = Ino.zT) = true := decide_eq_true hz0
          have cG := HG.out n1 was now w6 HM.out hz0
          unfold u32v at cG
          clear hz0
          go_wp2_with (first | (refine wpList_loadT rfl _ rfl (b + 1) rfl now H6 ?_) | (refine wpList_eqlT rfl _ _ rfl now Ino.zT rfl rfl H6.out.2 rfl ?_; rw [hd]) | (go_at_call 45; refine cG.mono ?_; rintro e w7 ⟨rfl, hD⟩; refine Stop.out ?_))
          refine Stop.mk ?_
          have HD : Hid (D 0 w7) := hD
          clear cG hD k0
          go_wp2
          go_ret2
          exact ⟨0, 0, rfl, .inr ⟨rfl, HD.out⟩⟩
        · have hd : decide (now = Ino.zT) = false := decide_eq_false hz0
          have HZ : Hid (now ≠ Ino.zT) := hz0
          clear hz0
          go_wp2_with (first | (refine wpList_loadT rfl _ rfl (b + 1) rfl now H6 ?_) | (refine wpList_eqlT rfl _ _ rfl now Ino.zT rfl rfl H6.out.2 rfl ?_; rw [hd]; refine Stop.out ?_))
          refine Stop.mk ?_
          clear hd
          by_cases hw0 : now = was
          · have hd : (!decide (now = was)) = false := by rw [decide_eq_true hw0]; rfl
            have HD : Hid (D n1 w6) := HS.out n1 was now w6 HM.out HZ.out hw0
            clear hw0
            go_wp2_with (first | (refine wpList_loadT rfl _ rfl (b + 1) rfl now H6 ?_) | (refine wpList_loadT rfl _ rfl b rfl was H6b ?_) | (refine wpList_neqT rfl _ _ rfl now was rfl rfl H6.out.2 H6b.out.2 ?_; rw [hd]))
            go_ret2
            exact ⟨n1, 0, rfl, .inr ⟨rfl, HD.out⟩⟩
          · have hd : (!decide (now = was)) = true := by rw [decide_eq_false hw0]; rfl
            have HP' := hide (HP.out n1 was now w6 HM.out H6.out.2 HZ.out hw0)
            have HT6 : Hid (TabAt w6 (b + 1) now ∧ now.length = 64 ∧ k < w6.heap.size) := ⟨H6.out.1, H6.out.2, hk6l⟩
            have K0 : Hid (w6.cell? ⟨k, 0, none⟩ = some (.pointer (some ⟨c, 0, none⟩))) := k0
            clear hw0
            go_wp2_with (first | (refine wpList_loadT rfl _ rfl (b + 1) rfl now H6 ?_) | (refine wpList_loadT rfl _ rfl b rfl was H6b ?_) | (refine wpList_neqT rfl _ _ rfl now was rfl rfl H6.out.2 H6b.out.2 ?_; rw [hd]))
            clear k0 HM H6 H6b HB5 hd
            refine through_put (by kernel_rfl) rfl k c (b + 1) n1 now w6 (D n1) rfl rfl rfl K0.out HT6.out.2.2 HT6.out.1 HT6.out.2.1 (fun W g hW hg hd => HP'.out W g hW hg hd) ?_
            intro w7 g hD
            have HD : Hid (D n1 w7) := hD
            clear hD HP' HT6 K0
            unfold thrL putAll putAll putAll putAll putAll putAll putAll putAll putAll
            go_wp2
            go_ret2
            exact ⟨n1, 0, rfl, .inr ⟨rfl, HD.out⟩⟩
      · have H6 : Hid (E er w6) := by
          rcases hres with ⟨_, h⟩ | ⟨h, _⟩
          · exact h
          · exact absurd h her
        have q1 : (er != 0) = true := by simp [her]
        have q2 : (er == 0) = false := by simp [her]
        clear hres
        go_wp2
        go_ret2
        exact ⟨0, er, rfl, .inl ⟨her, rfl, H6.out⟩⟩
    · have H6 : Hid (E er w3) := by
        rcases hres with ⟨_, h⟩ | ⟨h, _⟩
        · exact HX.out er w1 w3 h (by rw [HB.out]; exact H3w.out)
        · exact absurd h her
      have q1 : (er != 0) = true := by simp [her]
      have q2 : (er == 0) = false := by simp [her]
      clear hres
      go_wp2
      go_ret2
      exact ⟨0, er, rfl, .inl ⟨her, rfl, H6.out⟩⟩

end Go.Proofs.YtebdgcoandfocaaGreatDoor

/-
  A walk over numbers as a function. Pure: no program.
-/
namespace Go.Proofs.YtebdgcoandfocaaGreatDoor
namespace Ino

abbrev Stp (σ : Type) := Nat → Num → σ → Num × Int × σ

def lev {σ : Type} (step : Stp σ) (f t first sp : Nat) : List Num → Nat → σ → List Num × Int × σ
  | [], _, s => ([], 0, s)
  | n :: l, i, s =>
    if first + i * sp + sp ≤ f ∨ t ≤ first + i * sp then (n :: (lev step f t first sp l (i + 1) s).1, (lev step f t first sp l (i + 1) s).2)
    else if (step (first + i * sp) n s).2.1 = 0 then ((step (first + i * sp) n s).1 :: (lev step f t first sp l (i + 1) (step (first + i * sp) n s).2.2).1, (lev step f t first sp l (i + 1) (step (first + i * sp) n s).2.2).2)
    else ((step (first + i * sp) n s).1 :: l, (step (first + i * sp) n s).2.1, (step (first + i * sp) n s).2.2)

section
variable {σ : Type} {step : Stp σ} {f t first sp : Nat}
theorem lev_nil (i : Nat) (s : σ) : lev step f t first sp [] i s = ([], 0, s) := rfl
theorem lev_skip {n : Num} {l : List Num} {i : Nat} {s : σ} (h : first + i * sp + sp ≤ f ∨ t ≤ first + i * sp) : lev step f t first sp (n :: l) i s = (n :: (lev step f t first sp l (i + 1) s).1, (lev step f t first sp l (i + 1) s).2) := by
  rw [lev, if_pos h]
theorem lev_step {n n' : Num} {l : List Num} {i : Nat} {s s' : σ} (h : ¬ (first + i * sp + sp ≤ f ∨ t ≤ first + i * sp)) (hs : step (first + i * sp) n s = (n', 0, s')) : lev step f t first sp (n :: l) i s = (n' :: (lev step f t first sp l (i + 1) s').1, (lev step f t first sp l (i + 1) s').2) := by
  rw [lev, if_neg h, hs]; rfl
theorem lev_fail {n n' : Num} {l : List Num} {i : Nat} {s s' : σ} {er : Int} (h : ¬ (first + i * sp + sp ≤ f ∨ t ≤ first + i * sp)) (hs : step (first + i * sp) n s = (n', er, s')) (he : er ≠ 0) : lev step f t first sp (n :: l) i s = (n' :: l, er, s') := by
  rw [lev, if_neg h, hs]; exact if_neg he
theorem lev_length : ∀ (l : List Num) (i : Nat) (s : σ), (lev step f t first sp l i s).1.length = l.length
  | [], _, _ => rfl
  | n :: l, i, s => by
    rw [lev]
    split
    · simp [lev_length l]
    · split
      · simp [lev_length l]
      · simp

theorem lev_cost (m : σ → Nat) (K : Nat) (hK : ∀ p n s, m (step p n s).2.2 ≤ m s + K) : ∀ (l : List Num) (i : Nat) (s : σ), m (lev step f t first sp l i s).2.2 ≤ m s + l.length * K
  | [], _, _ => by rw [lev_nil]; exact Nat.le_add_right _ _
  | n :: l, i, s => by
    have hk := hK (first + i * sp) n s
    rw [List.length_cons, Nat.add_mul, Nat.one_mul, lev]
    split
    · have := lev_cost m K hK l (i + 1) s
      show m (lev step f t first sp l (i + 1) s).2.2 ≤ _
      omega
    · split
      · have := lev_cost m K hK l (i + 1) (step (first + i * sp) n s).2.2
        show m (lev step f t first sp l (i + 1) (step (first + i * sp) n s).2.2).2.2 ≤ _
        omega
      · show m (step (first + i * sp) n s).2.2 ≤ _
        omega

/-- What is known of a level at place i: pre is done. -/
def At (step : Stp σ) (f t first sp : Nat) (seg : List Num) (s0 : σ) (i : Nat) (pre : List Num) (s : σ) : Prop :=
  i ≤ seg.length ∧ pre.length = i ∧ lev step f t first sp seg 0 s0 = (pre ++ (lev step f t first sp (seg.drop i) i s).1, (lev step f t first sp (seg.drop i) i s).2)
theorem At.start (seg : List Num) (s0 : σ) : At step f t first sp seg s0 0 [] s0 := ⟨Nat.zero_le _, rfl, by simp⟩
theorem At.skip {seg pre : List Num} {s0 s : σ} {i : Nat} {n : Num} (h : At step f t first sp seg s0 i pre s) (hn : seg[i]? = some n) (hc : first + i * sp + sp ≤ f ∨ t ≤ first + i * sp) : At step f t first sp seg s0 (i + 1) (pre ++ [n]) s := by
  obtain ⟨hi, he⟩ := List.getElem?_eq_some_iff.1 hn
  obtain ⟨h1, h2, h3⟩ := h
  refine ⟨hi, by simp [h2], ?_⟩
  rw [h3, List.drop_eq_getElem_cons hi, he, lev_skip hc]
  simp
theorem At.go {seg pre : List Num} {s0 s s' : σ} {i : Nat} {n n' : Num} (h : At step f t first sp seg s0 i pre s) (hn : seg[i]? = some n) (hc : ¬ (first + i * sp + sp ≤ f ∨ t ≤ first + i * sp)) (hs : step (first + i * sp) n s = (n', 0, s')) : At step f t first sp seg s0 (i + 1) (pre ++ [n']) s' := by
  obtain ⟨hi, he⟩ := List.getElem?_eq_some_iff.1 hn
  obtain ⟨h1, h2, h3⟩ := h
  refine ⟨hi, by simp [h2], ?_⟩
  rw [h3, List.drop_eq_getElem_cons hi, he, lev_step hc hs]
  simp
theorem At.err {seg pre : List Num} {s0 s s' : σ} {i : Nat} {n n' : Num} {er : Int} (h : At step f t first sp seg s0 i pre s) (hn : seg[i]? = some n) (hc : ¬ (first + i * sp + sp ≤ f ∨ t ≤ first + i * sp)) (hs : step (first + i * sp) n s = (n', er, s')) (hx : er ≠ 0) : (lev step f t first sp seg 0 s0).2 = (er, s') := by
  obtain ⟨hi, he⟩ := List.getElem?_eq_some_iff.1 hn
  obtain ⟨h1, h2, h3⟩ := h
  rw [h3, List.drop_eq_getElem_cons hi, he, lev_fail hc hs hx]
theorem At.done {seg pre : List Num} {s0 s : σ} {i : Nat} (h : At step f t first sp seg s0 i pre s) (hi : i = seg.length) : lev step f t first sp seg 0 s0 = (pre, 0, s) := by
  subst hi
  obtain ⟨h1, h2, h3⟩ := h
  rw [h3, List.drop_length, lev_nil, List.append_nil]
end

/-- What a walk's hands do. -/
structure Ops (σ : Type) where
  take : σ → Num × Int × σ
  get : σ → Num → List Num × Int × σ
  give : σ → Num → σ
  put : σ → Num → By → σ

def opn {σ : Type} (o : Ops σ) (n : Num) (s : σ) : Num × List Num × Int × σ :=
  if n = 0 then ((o.take s).1, zT, (o.take s).2) else if (o.get s n).2.1 = 0 then (n, o.get s n) else (0, zT, (o.get s n).2)
def thr {σ : Type} (o : Ops σ) (holes : Bool) (lv : List Num → σ → List Num × Int × σ) (n : Num) (s : σ) : Num × Int × σ :=
  if n = 0 ∧ holes = false then (0, 0, s) else
  if (opn o n s).2.2.1 ≠ 0 then (0, (opn o n s).2.2) else
  if (lv (opn o n s).2.1 (opn o n s).2.2.2).2.1 ≠ 0 then (0, (lv (opn o n s).2.1 (opn o n s).2.2.2).2) else
  if (lv (opn o n s).2.1 (opn o n s).2.2.2).1 = zT then (0, 0, o.give (lv (opn o n s).2.1 (opn o n s).2.2.2).2.2 (opn o n s).1) else
  if (lv (opn o n s).2.1 (opn o n s).2.2.2).1 = (opn o n s).2.1 then ((opn o n s).1, 0, (lv (opn o n s).2.1 (opn o n s).2.2.2).2.2) else
  ((opn o n s).1, 0, o.put (lv (opn o n s).2.1 (opn o n s).2.2.2).2.2 (opn o n s).1 (tabB (lv (opn o n s).2.1 (opn o n s).2.2.2).1))

section
variable {σ : Type} {o : Ops σ} {holes : Bool} {lv : List Num → σ → List Num × Int × σ} {n n1 : Num} {s s1 s2 : σ} {was now : List Num} {er : Int}
theorem thr_hole (h : n = 0) (hh : holes = false) : thr o holes lv n s = (0, 0, s) := if_pos ⟨h, hh⟩
theorem thr_open (h : ¬ (n = 0 ∧ holes = false)) (ho : opn o n s = (n1, was, er, s1)) (he : er ≠ 0) : thr o holes lv n s = (0, er, s1) := by
  rw [thr, if_neg h, ho, if_pos he]
theorem thr_level (h : ¬ (n = 0 ∧ holes = false)) (ho : opn o n s = (n1, was, 0, s1)) (hl : lv was s1 = (now, er, s2)) (he : er ≠ 0) : thr o holes lv n s = (0, er, s2) := by
  rw [thr, if_neg h, ho, if_neg (by simp), hl, if_pos he]
theorem thr_give (h : ¬ (n = 0 ∧ holes = false)) (ho : opn o n s = (n1, was, 0, s1)) (hl : lv was s1 = (now, 0, s2)) (hz : now = zT) : thr o holes lv n s = (0, 0, o.give s2 n1) := by
  rw [thr, if_neg h, ho, if_neg (by simp), hl, if_neg (by simp), if_pos hz]
theorem thr_same (h : ¬ (n = 0 ∧ holes = false)) (ho : opn o n s = (n1, was, 0, s1)) (hl : lv was s1 = (now, 0, s2)) (hz : now ≠ zT) (hw : now = was) : thr o holes lv n s = (n1, 0, s2) := by
  rw [thr, if_neg h, ho, if_neg (by simp), hl, if_neg (by simp), if_neg hz, if_pos hw]
theorem thr_put (h : ¬ (n = 0 ∧ holes = false)) (ho : opn o n s = (n1, was, 0, s1)) (hl : lv was s1 = (now, 0, s2)) (hz : now ≠ zT) (hw : now ≠ was) : thr o holes lv n s = (n1, 0, o.put s2 n1 (tabB now)) := by
  rw [thr, if_neg h, ho, if_neg (by simp), hl, if_neg (by simp), if_neg hz, if_neg hw]
end

/-- Each of the hands costs one. -/
structure Cost {σ : Type} (o : Ops σ) (m : σ → Nat) : Prop where
  take : ∀ s, m (o.take s).2.2 ≤ m s + 1
  get : ∀ s n, m (o.get s n).2.2 ≤ m s + 1
  give : ∀ s n, m (o.give s n) ≤ m s + 1
  put : ∀ s n b, m (o.put s n b) ≤ m s + 1
theorem opn_cost {σ : Type} {o : Ops σ} {m : σ → Nat} (h : Cost o m) (n : Num) (s : σ) : m (opn o n s).2.2.2 ≤ m s + 1 := by
  unfold opn
  split
  · exact h.take s
  · split
    · exact h.get s n
    · exact h.get s n
theorem thr_cost {σ : Type} {o : Ops σ} {m : σ → Nat} (h : Cost o m) {holes : Bool} {lv : List Num → σ → List Num × Int × σ} {K : Nat} (hl : ∀ l s, (l.length = 64 → m (lv l s).2.2 ≤ m s + K)) (hg : ∀ s n, (o.get s n).1.length = 64 ∨ (o.get s n).2.1 ≠ 0) (n : Num) (s : σ) : m (thr o holes lv n s).2.2 ≤ m s + (K + 2) := by
  have h1 := opn_cost h n s
  have hlen : (opn o n s).2.1.length = 64 := by
    unfold opn
    split
    · rfl
    · split
      · rename_i he
        rcases hg s n with h | h
        · exact h
        · exact absurd he h
      · rfl
  have h2 := hl (opn o n s).2.1 (opn o n s).2.2.2 hlen
  have h3 := h.give (lv (opn o n s).2.1 (opn o n s).2.2.2).2.2 (opn o n s).1
  have h4 := h.put (lv (opn o n s).2.1 (opn o n s).2.2.2).2.2 (opn o n s).1 (tabB (lv (opn o n s).2.1 (opn o n s).2.2.2).1)
  unfold thr
  split
  · show m s ≤ _; omega
  split
  · show m (opn o n s).2.2.2 ≤ _; omega
  split
  · show m (lv (opn o n s).2.1 (opn o n s).2.2.2).2.2 ≤ _; omega
  split
  · show m (o.give (lv (opn o n s).2.1 (opn o n s).2.2.2).2.2 (opn o n s).1) ≤ _; omega
  split
  · show m (lv (opn o n s).2.1 (opn o n s).2.2.2).2.2 ≤ _; omega
  · show m (o.put (lv (opn o n s).2.1 (opn o n s).2.2.2).2.2 (opn o n s).1 (tabB (lv (opn o n s).2.1 (opn o n s).2.2.2).1)) ≤ _; omega

def thr1 {σ : Type} (o : Ops σ) (holes : Bool) (f t : Nat) (vis : Stp σ) : Stp σ := fun place n s => thr o holes (fun l s => lev vis f t place 1 l 0 s) n s
def thr2 {σ : Type} (o : Ops σ) (holes : Bool) (f t : Nat) (vis : Stp σ) : Stp σ := fun place n s => thr o holes (fun l s => lev (thr1 o holes f t vis) f t place 64 l 0 s) n s

/-- All numbers of an inode. -/
def ovr {σ : Type} (o : Ops σ) (holes : Bool) (f t : Nat) (vis : Stp σ) (ns : List Num) (s : σ) : List Num × Int × σ :=
  let a := lev vis f t 0 1 (ns.take 8) 0 s
  if a.2.1 ≠ 0 then (ns, a.2) else
  let b := lev (thr1 o holes f t vis) f t 8 64 ((ns.drop 8).take 1) 0 a.2.2
  if b.2.1 ≠ 0 then (ns, b.2) else
  let c := lev (thr2 o holes f t vis) f t 72 4096 (ns.drop 9) 0 b.2.2
  if c.2.1 ≠ 0 then (ns, c.2) else (a.1 ++ b.1 ++ c.1, 0, c.2.2)

end Ino
end Go.Proofs.YtebdgcoandfocaaGreatDoor

/-
  Package inode: a walk over hands of which all is known: level, through, over as functions.
-/
namespace Go.Proofs.YtebdgcoandfocaaGreatDoor
open Go.RowKit

theorem results_row3 {fn : Func} {p t u : Tmp} {ty : TypeId} {P : Program} (h : fn.results = #[.tmp t, .cell p ty, .tmp u]) (tmps : Array Value) (w : World) (g : Nat) (cs : Array Value)
    (hp : tmps.getD p undef = .pointer (some ⟨g, 0, none⟩)) (hld : (loadVar ty ⟨g, 0, none⟩).run P w = .ok (.agg cs) w) :
    (results fn tmps).run P w = .ok (.tuple #[tmps.getD t undef, .agg cs, tmps.getD u undef]) w := by
  have hp' : tmps[p]?.getD undef = .pointer (some ⟨g, 0, none⟩) := by simpa using hp
  simp [results, h, hp', asAddr, hld]
theorem loadT {w : World} {g : Nat} {ns : List (BitVec 32)} (h : TabAt w g ns) (hl : ns.length = 64) : (loadVar 145 ⟨g, 0, none⟩).run Tryz.prog w = .ok (.agg (rowT ns)) w :=
  run_loadVar_row (P := Tryz.prog) w g 145 145 (rowT ns) (0, 0) _ h Tryz.underlying145 rfl (by rw [rowT_size, hl]; exact Tryz.infoTable)

set_option maxRecDepth 8000 in
set_option maxHeartbeats 1000000 in
theorem open_any (k f t c : Nat) (n : BitVec 32) (holes : Bool) (vis : Value) (w : World) (E : Int → World → Prop) (O : BitVec 32 → List (BitVec 32) → World → Prop) (hk : WalkAt w k (.pointer (some ⟨c, 0, none⟩)) f t holes vis)
    (hT : n = 0 → ∀ W, Below w.heap.size w W → TabAt W w.heap.size Ino.zT → Calls Tryz.prog 63 #[.pointer (some ⟨c, 0, none⟩)] W fun e w1 => ∃ (r : BitVec 32) (er : Int), e = .returned (.tuple #[u32v r, .int .i64 er]) ∧ w.heap.size < w1.heap.size ∧ w1.heap[w.heap.size]? = W.heap[w.heap.size]? ∧ ∀ w2, But (fun j => j = w.heap.size) w1 w2 → ((er ≠ 0 ∧ E er w2) ∨ (er = 0 ∧ O r Ino.zT w2)))
    (hG : n ≠ 0 → ∀ W, Below w.heap.size w W → TabAt W w.heap.size Ino.zT → Calls Tryz.prog 47 #[.pointer (some ⟨c, 0, none⟩), u32v n] W fun e w1 => w1.heap[w.heap.size]? = W.heap[w.heap.size]? ∧ ((∃ bs g cap, e = .returned (.tuple #[.slice (some ⟨g, 0, none⟩) 512 cap, .int .i64 0]) ∧ Bytes w1 (some ⟨g, 0, none⟩) bs ∧ bs.length = 512 ∧ 512 ≤ cap ∧ ∀ w2, But (fun j => j = w.heap.size) w1 w2 → O n (tabOf bs) w2) ∨ (∃ v er, er ≠ 0 ∧ e = .returned (.tuple #[v, .int .i64 er]) ∧ ∀ w2, But (fun j => j = w.heap.size) w1 w2 → E er w2))) :
    Calls Tryz.prog 88 #[.pointer (some ⟨k, 0, none⟩), u32v n] w fun e w1 => ∃ (n1 : BitVec 32) (was : List (BitVec 32)) (er : Int), e = .returned (.tuple #[u32v n1, .agg (rowT was), .int .i64 er]) ∧ was.length = 64 ∧ ((er ≠ 0 ∧ E er w1) ∨ (er = 0 ∧ O n1 was w1)) := by
  have HZ : Hid (w.heap.size = w.heap.size) := rfl
  have HK : Hid (WalkAt w k (.pointer (some ⟨c, 0, none⟩)) f t holes vis) := hk
  have HT := hide hT
  have HG := hide hG
  clear hT hG hk
  have hi64 : (rowT Ino.zT).size = 64 := rfl
  by_cases hz : n = 0
  · subst hz
    have HT2 := hide (HT.out rfl)
    clear HT
    unfold u32v
    go_enter Tryz.func88, Tryz.ntmps88
    go_wp2_with (first | (refine wpList_allocT rfl rfl w.heap.size HZ ?_; intro w1 H1; refine Stop.out ?_))
    refine Stop.mk ?_
    have hk1 : WalkAt w1 k (.pointer (some ⟨c, 0, none⟩)) f t holes vis := (H1.out.2.1.block k HK.out.lt).trans HK.out
    have k0 : w1.cell? ⟨k, 0, none⟩ = some (.pointer (some ⟨c, 0, none⟩)) := by rw [cellOf hk1 0]; rfl
    have cT := HT2.out w1 H1.out.2.1 H1.out.1
    unfold u32v at cT
    clear HT2 HG hk1
    go_wp2_with (go_at_call 63; refine cT.mono ?_; rintro e w2 ⟨r, er, rfl, hl2, hb2, hO⟩; clear cT; refine Stop.out ?_)
    refine Stop.mk ?_
    have H2 : Hid (TabAt w2 w.heap.size Ino.zT ∧ Ino.zT.length = 64) := ⟨hb2.trans H1.out.1, rfl⟩
    have HO := hide hO
    clear hO hb2 k0
    go_wp2_with (first | (refine wpList_storeT rfl _ _ rfl w.heap.size rfl Ino.zT Ino.zT rfl H2 rfl ?_; intro H3; refine Stop.out ?_))
    refine Stop.mk ?_
    have hb : But (fun j => j = w.heap.size) w2 (w2.setRow w.heap.size (rowT Ino.zT)) := ⟨rfl, rfl, rfl, by simp, fun q _ hq => setRow_other w2 w.heap.size q _ hq⟩
    have HR := hide (HO.out _ hb)
    obtain ⟨w3, hw3⟩ : ∃ w3, w2.setRow w.heap.size (rowT Ino.zT) = w3 := ⟨_, rfl⟩
    rw [hw3] at HR H3 ⊢
    clear HO hb hw3 H2
    go_wp2
    refine bodyPost_ret (v := .tuple #[u32v r, .agg (rowT Ino.zT), .int .i64 er]) ?_ rfl ⟨r, Ino.zT, er, rfl, rfl, HR.out⟩
    refine (results_row3 rfl _ _ w.heap.size (rowT Ino.zT) rfl (loadT H3.out rfl)).trans ?_
    rfl
  · have q0 : ¬ (n.toNat : Int) = 0 := fun h => hz (BitVec.eq_of_toNat_eq (by simpa using h))
    have q3 : ((n.toNat : Int) == 0) = false := by rw [beq_eq_false_iff_ne]; exact q0
    have HG' := hide (HG.out hz)
    clear hz q0 HG HT
    unfold u32v
    go_enter Tryz.func88, Tryz.ntmps88
    go_wp2_with (first | (refine wpList_allocT rfl rfl w.heap.size HZ ?_; intro w1 H1; refine Stop.out ?_))
    refine Stop.mk ?_
    have hk1 : WalkAt w1 k (.pointer (some ⟨c, 0, none⟩)) f t holes vis := (H1.out.2.1.block k HK.out.lt).trans HK.out
    have k0 : w1.cell? ⟨k, 0, none⟩ = some (.pointer (some ⟨c, 0, none⟩)) := by rw [cellOf hk1 0]; rfl
    have cG := HG'.out w1 H1.out.2.1 H1.out.1
    unfold u32v at cG
    clear HG' hk1
    go_wp2_with (go_at_call 47; refine cG.mono ?_; rintro e w2 ⟨hb2, ⟨bs, g, cap, rfl, hby, hbl, hcap, hO⟩ | ⟨v, er, her, rfl, hO⟩⟩ <;> clear cG <;> refine Stop.out ?_)
    · refine Stop.mk ?_
      have H2 : Hid (TabAt w2 w.heap.size Ino.zT ∧ Ino.zT.length = 64) := ⟨hb2.trans H1.out.1, rfl⟩
      clear k0 hb2
      have cB := tableOf_any (some ⟨g, 0, none⟩) bs cap w2 hby (by omega) hbl
      have HO := hide hO
      have hlt : (tabOf bs).length = 64 := by simp [tabOf]
      clear hO hby hbl
      go_wp2_with (first | (go_at_call 108; refine cB.mono ?_; rintro e w3 ⟨rfl, hB3⟩; refine Stop.out ?_))
      refine Stop.mk ?_
      have H3 : Hid (TabAt w3 w.heap.size Ino.zT ∧ Ino.zT.length = 64) := ⟨(hB3.block _ H2.out.1.lt).trans H2.out.1, rfl⟩
      have HB3 := hide hB3
      clear cB hB3
      go_wp2_with (first | (refine wpList_storeT rfl _ _ rfl w.heap.size rfl Ino.zT (tabOf bs) rfl H3 hlt ?_; intro H4; refine Stop.out ?_))
      refine Stop.mk ?_
      have hb : But (fun j => j = w.heap.size) w2 (w3.setRow w.heap.size (rowT (tabOf bs))) := (But.of_below HB3.out).trans ⟨rfl, rfl, rfl, by simp, fun q _ hq => setRow_other w3 w.heap.size q _ hq⟩
      have HR := hide (HO.out _ hb)
      obtain ⟨w4, hw4⟩ : ∃ w4, w3.setRow w.heap.size (rowT (tabOf bs)) = w4 := ⟨_, rfl⟩
      rw [hw4] at HR H4 ⊢
      clear HO hb hw4 H2 H3
      go_wp2
      refine bodyPost_ret (v := .tuple #[u32v n, .agg (rowT (tabOf bs)), .int .i64 0]) ?_ rfl ⟨n, tabOf bs, 0, rfl, hlt, .inr ⟨rfl, HR.out⟩⟩
      refine (results_row3 rfl _ _ w.heap.size (rowT (tabOf bs)) rfl (loadT H4.out hlt)).trans ?_
      rfl
    · refine Stop.mk ?_
      have H2 : Hid (TabAt w2 w.heap.size Ino.zT ∧ Ino.zT.length = 64) := ⟨hb2.trans H1.out.1, rfl⟩
      clear k0 hb2
      have HO := hide hO
      have q1 : (er != 0) = true := by simp [her]
      have q2 : (er == 0) = false := by simp [her]
      clear hO
      go_wp2_with (first | (refine wpList_storeT rfl _ _ rfl w.heap.size rfl Ino.zT Ino.zT rfl H2 rfl ?_; intro H3; refine Stop.out ?_))
      refine Stop.mk ?_
      have hb : But (fun j => j = w.heap.size) w2 (w2.setRow w.heap.size (rowT Ino.zT)) := ⟨rfl, rfl, rfl, by simp, fun q _ hq => setRow_other w2 w.heap.size q _ hq⟩
      have HR := hide (HO.out _ hb)
      obtain ⟨w3, hw3⟩ : ∃ w3, w2.setRow w.heap.size (rowT Ino.zT) = w3 := ⟨_, rfl⟩
      rw [hw3] at HR H3 ⊢
      clear HO hb hw3 H2
      go_wp2
      refine bodyPost_ret (v := .tuple #[u32v 0, .agg (rowT Ino.zT), .int .i64 er]) ?_ rfl ⟨0, Ino.zT, er, rfl, rfl, .inl ⟨her, HR.out⟩⟩
      refine (results_row3 rfl _ _ w.heap.size (rowT Ino.zT) rfl (loadT H3.out rfl)).trans ?_
      rfl

end Go.Proofs.YtebdgcoandfocaaGreatDoor
