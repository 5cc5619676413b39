/-
  CacheAll's law: a block of the volume against the document's.
-/
import Derived.Test.YtlcojcldbdikgaaGreatDoorSr
import Derived.Test.YtlcojcldbdikgaaGreatDoorWord
namespace Go.Proofs.YtlcojcldbdikgaaGreatDoor.Rc
open Go.RowKit Go.Maps

attribute [local go_sem] Oper.semAt_some

theorem str_at {W : World} {p : Option Addr} {bs : List (BitVec 8)} {c n : Nat} (hl : bs.length = n) (h : Bytes W p bs) : (convert 33 9 (.slice p n c)).run Tryz.prog W = .ok (.string (strOf bs)) W := by
  subst hl
  exact run_str W p bs c h
theorem bytes_kept {w W : World} {p : Option Addr} {bs : List (BitVec 8)} (h : Bytes w p bs) (hb : Below w.heap.size w W) : Bytes W p bs := fun hl => by
  obtain ⟨b, o, e, hc⟩ := h hl
  exact ⟨b, o, e, fun j x hj => (hb.cell (p := ⟨b, o + j, none⟩) (cell_lt (hc j x hj))).trans (hc j x hj)⟩

set_option maxRecDepth 8000 in
set_option maxHeartbeats 4000000 in
theorem law_reg56 {Q : Exit → Act → World → Prop} {base : Array Value} {d : List Deferred} {ops : Array Oper} (hops : Tryz.f3.body.bind (regs 56) = some ops) (r k n c1 c2 gV nV cV : Nat) (p1 p2 : Option Addr) (bs : List (BitVec 8)) (w1 : World) (hsz : base.size = 216)
    (b31 : base.getD 31 undef = .int .i64 0) (b30 : base.getD 30 undef = .slice p1 n c1) (b10 : base.getD 10 undef = .pointer (some ⟨r, 0, none⟩)) (b29 : base.getD 29 undef = .int .i64 (k : Nat))
    (c0 : w1.cell? ⟨r, 0, none⟩ = some (.slice (some ⟨gV, 0, none⟩) nV cV)) (hk : k < nV) (cS : w1.cell? ⟨gV, k, none⟩ = some (.slice p2 n c2)) (hn : bs.length = n) (h1 : Bytes w1 p1 bs) (h2 : Bytes w1 p2 bs)
    (hQ : ∀ W, Below w1.heap.size w1 W → Q .normal ⟨putAll base [(some 200, .int .i64 0), (some 201, .bool false), (some 202, .bool false), (some 203, .slice p1 n c1), (some 204, .string (strOf bs)), (some 205, .pointer (some ⟨r, 0, none⟩)), (some 206, .pointer (some ⟨r, 0, none⟩)), (some 207, .pointer (some ⟨r, 0, none⟩)), (some 208, .slice (some ⟨gV, 0, none⟩) nV cV), (some 209, .int .i64 (k : Nat)), (some 210, .pointer (some ⟨gV, k, none⟩)), (some 211, .slice p2 n c2), (some 212, .string (strOf bs)), (some 213, .bool false), (some 214, .bool false)], d⟩ W) :
    (Code.region 56 ops true).wp Tryz.prog Q ⟨base, d⟩ w1 := by
  have hmix : Tryz.prog.follows .mixedOrders = true := by kernel_rfl
  have hx := (show Tryz.f3.body.bind (regs 56) = some _ from rfl).symm.trans hops
  obtain rfl := Option.some.inj hx
  clear hx hops
  have below1 : Below w1.heap.size w1 w1.drew := (Below.refl _ _).drew
  obtain ⟨LL, hLe⟩ : ∃ LL : List (Option Tmp × Value), LL = [(some 200, .int .i64 0), (some 201, .bool false), (some 202, .bool false), (some 203, .slice p1 n c1), (some 204, .string (strOf bs)), (some 205, .pointer (some ⟨r, 0, none⟩)), (some 206, .pointer (some ⟨r, 0, none⟩)), (some 207, .pointer (some ⟨r, 0, none⟩)), (some 208, .slice (some ⟨gV, 0, none⟩) nV cV), (some 209, .int .i64 (k : Nat)), (some 210, .pointer (some ⟨gV, k, none⟩)), (some 211, .slice p2 n c2), (some 212, .string (strOf bs)), (some 213, .bool false), (some 214, .bool false)] := ⟨_, rfl⟩
  have vv0 : vals LL 0 = .int .i64 0 := by rw [hLe]; rfl
  have vv1 : vals LL 1 = .bool false := by rw [hLe]; rfl
  have vv2 : vals LL 2 = .bool false := by rw [hLe]; rfl
  have vv3 : vals LL 3 = .slice p1 n c1 := by rw [hLe]; rfl
  have vv4 : vals LL 4 = .string (strOf bs) := by rw [hLe]; rfl
  have vv5 : vals LL 5 = .pointer (some ⟨r, 0, none⟩) := by rw [hLe]; rfl
  have vv6 : vals LL 6 = .pointer (some ⟨r, 0, none⟩) := by rw [hLe]; rfl
  have vv7 : vals LL 7 = .pointer (some ⟨r, 0, none⟩) := by rw [hLe]; rfl
  have vv8 : vals LL 8 = .slice (some ⟨gV, 0, none⟩) nV cV := by rw [hLe]; rfl
  have vv9 : vals LL 9 = .int .i64 (k : Nat) := by rw [hLe]; rfl
  have vv10 : vals LL 10 = .pointer (some ⟨gV, k, none⟩) := by rw [hLe]; rfl
  have vv11 : vals LL 11 = .slice p2 n c2 := by rw [hLe]; rfl
  have vv12 : vals LL 12 = .string (strOf bs) := by rw [hLe]; rfl
  have vv13 : vals LL 13 = .bool false := by rw [hLe]; rfl
  have vv14 : vals LL 14 = .bool false := by rw [hLe]; rfl
  refine region_laid hmix (by kernel_rfl) 216 hsz (by kernel_rfl) LL (by rw [hLe]; rfl) (fun _ W => Below w1.heap.size w1 W) below1 ?_ ?_
  · intro b W i o a hS hcl ho hb hd ev kp yl
    match i with
    | 0 =>
      simp only [List.getElem?_toArray, List.getElem?_cons_zero, Option.some.injEq] at ho
      subst ho
      have e31 : a.tmps[31]?.getD undef = .int .i64 0 := (kp 31 (by kernel_rfl)).trans b31
      rw [vv0]
      refine does_value rfl (by intro c h; cases h) (w' := W) ?_ (hS)
      · simp [execOp, go_sem, e31]
    | 1 =>
      simp only [List.getElem?_toArray, List.getElem?_cons_zero, List.getElem?_cons_succ, Option.some.injEq] at ho
      subst ho
      have p0 : b 0 = true := hd ⟨0, .data⟩ (by simp) rfl
      have e200 := (ev 0 200 rfl p0).trans vv0
      rw [vv1]
      refine does_value rfl (by intro c h; cases h) (w' := W) ?_ (hS)
      · simp [execOp, go_sem, e200]
    | 2 =>
      simp only [List.getElem?_toArray, List.getElem?_cons_zero, List.getElem?_cons_succ, Option.some.injEq] at ho
      subst ho
      have p1 : b 1 = true := hd ⟨1, .data⟩ (by simp) rfl
      have e201 := (ev 1 201 rfl p1).trans vv1
      rw [vv2]
      refine does_value rfl (by intro c h; cases h) (w' := W) ?_ (hS)
      · simp [execOp, go_sem, e201]
    | 3 =>
      simp only [List.getElem?_toArray, List.getElem?_cons_zero, List.getElem?_cons_succ, Option.some.injEq] at ho
      subst ho
      have p2 : b 2 = true := hd ⟨2, .guard⟩ (by simp) rfl
      have e30 : a.tmps[30]?.getD undef = .slice p1 n c1 := (kp 30 (by kernel_rfl)).trans b30
      rw [vv3]
      refine does_value_g rfl (yl 2 202 false rfl p2 vv2) (by intro c h; cases h) (w' := W) ?_ (hS)
      · simp [execOp, go_sem, e30]
    | 4 =>
      simp only [List.getElem?_toArray, List.getElem?_cons_zero, List.getElem?_cons_succ, Option.some.injEq] at ho
      subst ho
      have p3 : b 3 = true := hd ⟨3, .data⟩ (by simp) rfl
      have p2 : b 2 = true := hd ⟨2, .guard⟩ (by simp) rfl
      have e203 := (ev 3 203 rfl p3).trans vv3
      have hcv := str_at (c := c1) hn (bytes_kept h1 hS)
      rw [vv4]
      refine does_value_g rfl (yl 2 202 false rfl p2 vv2) (by intro c h; cases h) (w' := W) ?_ (hS)
      · simp [execOp, go_sem, e203, hcv]
    | 5 =>
      simp only [List.getElem?_toArray, List.getElem?_cons_zero, List.getElem?_cons_succ, Option.some.injEq] at ho
      subst ho
      have p2 : b 2 = true := hd ⟨2, .guard⟩ (by simp) rfl
      have e10 : a.tmps[10]?.getD undef = .pointer (some ⟨r, 0, none⟩) := (kp 10 (by kernel_rfl)).trans b10
      rw [vv5]
      refine does_value_g rfl (yl 2 202 false rfl p2 vv2) (by intro c h; cases h) (w' := W) ?_ (hS)
      · simp [execOp, go_sem, e10]
    | 6 =>
      simp only [List.getElem?_toArray, List.getElem?_cons_zero, List.getElem?_cons_succ, Option.some.injEq] at ho
      subst ho
      have p5 : b 5 = true := hd ⟨5, .data⟩ (by simp) rfl
      have p2 : b 2 = true := hd ⟨2, .guard⟩ (by simp) rfl
      have e205 := (ev 5 205 rfl p5).trans vv5
      rw [vv6]
      refine does_value_g rfl (yl 2 202 false rfl p2 vv2) (by intro c h; cases h) (w' := W) ?_ (hS)
      · simp [execOp, go_sem, e205]
    | 7 =>
      simp only [List.getElem?_toArray, List.getElem?_cons_zero, List.getElem?_cons_succ, Option.some.injEq] at ho
      subst ho
      have p6 : b 6 = true := hd ⟨6, .data⟩ (by simp) rfl
      have p2 : b 2 = true := hd ⟨2, .guard⟩ (by simp) rfl
      have e206 := (ev 6 206 rfl p6).trans vv6
      rw [vv7]
      refine does_value_g rfl (yl 2 202 false rfl p2 vv2) (by intro c h; cases h) (w' := W) ?_ (hS)
      · simp [execOp, go_sem, e206]
    | 8 =>
      simp only [List.getElem?_toArray, List.getElem?_cons_zero, List.getElem?_cons_succ, Option.some.injEq] at ho
      subst ho
      have p7 : b 7 = true := hd ⟨7, .data⟩ (by simp) rfl
      have p2 : b 2 = true := hd ⟨2, .guard⟩ (by simp) rfl
      have e207 := (ev 7 207 rfl p7).trans vv7
      have hl := (hS.cell (p := ⟨r, 0, none⟩) (cell_lt c0)).trans c0
      rw [vv8]
      refine does_value_g rfl (yl 2 202 false rfl p2 vv2) (by intro c h; cases h) (w' := W) ?_ (hS)
      · simp [execOp, go_sem, e207, hl]
    | 9 =>
      simp only [List.getElem?_toArray, List.getElem?_cons_zero, List.getElem?_cons_succ, Option.some.injEq] at ho
      subst ho
      have p2 : b 2 = true := hd ⟨2, .guard⟩ (by simp) rfl
      have e29 : a.tmps[29]?.getD undef = .int .i64 (k : Nat) := (kp 29 (by kernel_rfl)).trans b29
      rw [vv9]
      refine does_value_g rfl (yl 2 202 false rfl p2 vv2) (by intro c h; cases h) (w' := W) ?_ (hS)
      · simp [execOp, go_sem, e29]
    | 10 =>
      simp only [List.getElem?_toArray, List.getElem?_cons_zero, List.getElem?_cons_succ, Option.some.injEq] at ho
      subst ho
      have p8 : b 8 = true := hd ⟨8, .data⟩ (by simp) rfl
      have p9 : b 9 = true := hd ⟨9, .data⟩ (by simp) rfl
      have p2 : b 2 = true := hd ⟨2, .guard⟩ (by simp) rfl
      have e208 := (ev 8 208 rfl p8).trans vv8
      have e209 := (ev 9 209 rfl p9).trans vv9
      rw [vv10]
      refine does_value_g rfl (yl 2 202 false rfl p2 vv2) (by intro c h; cases h) (w' := W) ?_ (hS)
      · simp [execOp, go_sem, e208, e209, hk]
    | 11 =>
      simp only [List.getElem?_toArray, List.getElem?_cons_zero, List.getElem?_cons_succ, Option.some.injEq] at ho
      subst ho
      have p10 : b 10 = true := hd ⟨10, .data⟩ (by simp) rfl
      have p2 : b 2 = true := hd ⟨2, .guard⟩ (by simp) rfl
      have e210 := (ev 10 210 rfl p10).trans vv10
      have hl := (hS.cell (p := ⟨gV, k, none⟩) (cell_lt cS)).trans cS
      rw [vv11]
      refine does_value_g rfl (yl 2 202 false rfl p2 vv2) (by intro c h; cases h) (w' := W) ?_ (hS)
      · simp [execOp, go_sem, e210, hl]
    | 12 =>
      simp only [List.getElem?_toArray, List.getElem?_cons_zero, List.getElem?_cons_succ, Option.some.injEq] at ho
      subst ho
      have p11 : b 11 = true := hd ⟨11, .data⟩ (by simp) rfl
      have p2 : b 2 = true := hd ⟨2, .guard⟩ (by simp) rfl
      have e211 := (ev 11 211 rfl p11).trans vv11
      have hcv := str_at (c := c2) hn (bytes_kept h2 hS)
      rw [vv12]
      refine does_value_g rfl (yl 2 202 false rfl p2 vv2) (by intro c h; cases h) (w' := W) ?_ (hS)
      · simp [execOp, go_sem, e211, hcv]
    | 13 =>
      simp only [List.getElem?_toArray, List.getElem?_cons_zero, List.getElem?_cons_succ, Option.some.injEq] at ho
      subst ho
      have p4 : b 4 = true := hd ⟨4, .data⟩ (by simp) rfl
      have p12 : b 12 = true := hd ⟨12, .data⟩ (by simp) rfl
      have p2 : b 2 = true := hd ⟨2, .guard⟩ (by simp) rfl
      have e204 := (ev 4 204 rfl p4).trans vv4
      have e212 := (ev 12 212 rfl p12).trans vv12
      rw [vv13]
      refine does_value_g rfl (yl 2 202 false rfl p2 vv2) (by intro c h; cases h) (w' := W) ?_ (hS)
      · simp [execOp, go_sem, e204, e212]
    | 14 =>
      simp only [List.getElem?_toArray, List.getElem?_cons_zero, List.getElem?_cons_succ, Option.some.injEq] at ho
      subst ho
      have p2 : b 2 = true := hd ⟨2, .data⟩ (by simp) rfl
      have p13 : b 13 = true := hd ⟨13, .data⟩ (by simp) rfl
      have e202 := (ev 2 202 rfl p2).trans vv2
      have e213 := (ev 13 213 rfl p13).trans vv13
      rw [vv14]
      refine does_value rfl (by intro c h; cases h) (w' := W) ?_ (hS)
      · simp [execOp, go_sem, e202, e213]
    | k + 15 => simp at ho
  · intro b' W hS _
    subst hLe
    exact hQ W hS

end Go.Proofs.YtlcojcldbdikgaaGreatDoor.Rc
