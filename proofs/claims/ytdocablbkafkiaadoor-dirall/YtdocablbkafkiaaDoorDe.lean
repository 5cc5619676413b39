/-
  Where a name is sought first.
-/
import Derived.Test.YtdocablbkafkiaaDoorDd
import Derived.Test.YtdocablbkafkiaaDoorRg
import Derived.Laws.IdiomStrings
namespace Go.Proofs.YtdocablbkafkiaaDoor.Cd
open Go.RowKit

/-- A region in which three operations turn the world, one behind the other. -/
structure FS (w w1 w2 W : World) (b1 b2 b3 : Bool) : Prop where
  bel : Below w.heap.size w W
  s21 : b2 = true → b1 = true
  s32 : b3 = true → b2 = true
  w0 : b1 = false → W = w.drew
  w1 : b1 = true → b2 = false → W = w1
  w2 : b2 = true → b3 = false → W = w2

theorem FS.go1 {w w1 w2 W : World} {b1 b2 b3 : Bool} (h : FS w w1 w2 W b1 b2 b3) (hb : b1 = false) (hbel : Below w.heap.size w w1) : FS w w1 w2 w1 true b2 b3 :=
  ⟨hbel, fun _ => rfl, h.s32, (fun e => by cases e), fun _ _ => rfl, fun e => by have := h.s21 e; rw [hb] at this; cases this⟩
theorem FS.go2 {w w1 w2 : World} {b1 b3 : Bool} (hp : b1 = true) (hbel : Below w.heap.size w w2) : FS w w1 w2 w2 b1 true b3 :=
  ⟨hbel, fun _ => hp, fun _ => rfl, (fun e => by rw [hp] at e; cases e), (fun _ e => by cases e), fun _ _ => rfl⟩
theorem FS.go3 {w w1 w2 W W' : World} {b1 b2 b3 : Bool} (h : FS w w1 w2 W b1 b2 b3) (hp : b2 = true) (hbel : Below w.heap.size w W') : FS w w1 w2 W' b1 b2 true :=
  ⟨hbel, h.s21, fun _ => hp, (fun e => by have := h.s21 hp; rw [this] at e; cases e), (fun _ e => by rw [hp] at e; cases e), (fun _ e => by cases e)⟩

theorem bytesRow_cell (s : ByteArray) (n j : Nat) (x : BitVec 8) (h : (bits8 s.data.toList)[j]? = some x) : (bytesRow s n)[j]? = some (u8v x) := by
  unfold bits8 at h
  rw [List.getElem?_map] at h
  obtain ⟨y, hy, rfl⟩ := Option.map_eq_some_iff.1 h
  have hj := (List.getElem?_eq_some_iff.1 hy).1
  unfold bytesRow
  simp only [Array.length_toList] at hj
  rw [Array.getElem?_append_left (by simpa using hj)]
  simp at hy ⊢
  exact ⟨y, hy, rfl⟩

set_option maxRecDepth 8000 in
set_option maxHeartbeats 2000000 in
theorem first_any (da n c : Nat) (p : Option Addr) (s : ByteArray) (w : World) (ht : Tab w) (h : w.cell? ⟨da, 1, none⟩ = some (.slice p n c)) (hn : 0 < n) (hn2 : n < 100000) (hs : s.size < 1000000) :
    Calls Tryd.prog 37 #[.pointer (some ⟨da, 0, none⟩), .string s] w fun e w' => e = .returned (.int .i64 (H1 s.data.toList n : Nat)) ∧ Below w.heap.size w w' := by
  have hcv := run_bytes_of_string (P := Tryd.prog) w.drew 9 36 5 s (by kernel_rfl) (by kernel_rfl) (by kernel_rfl)
  have hmix : Tryd.prog.follows .mixedOrders = true := by kernel_rfl
  obtain ⟨K, hK⟩ : ∃ K, grownCap w.drew s.size 0 5 = K := ⟨_, rfl⟩
  have hKs : s.size ≤ K := by rw [← hK]; exact grownCap_ge _ _ _ _
  rw [hK] at hcv
  obtain ⟨R, hR⟩ : ∃ R, bytesRow s K = R := ⟨_, rfl⟩
  rw [hR] at hcv
  have hbel0 : Below w.heap.size w w.drew := (Below.refl _ w).drew
  obtain ⟨w1, hw1⟩ : ∃ w1, w1 = w.drew.drew.alloc (.cells R 5 (R.size, R.size + 1)) := ⟨_, rfl⟩
  have hbel1 : Below w.heap.size w w1 := by rw [hw1]; exact (hbel0.drew).alloc (Nat.le_refl _) _
  have hsz1 : w1.heap.size = w.heap.size + 1 := by rw [hw1]; simp [World.alloc]
  rw [← hw1] at hcv
  obtain ⟨w2, hw2⟩ : ∃ w2, w2 = w1.alloc (.cells #[.slice (some ⟨w.heap.size, 0, none⟩) s.size K] 36) := ⟨_, rfl⟩
  have hbel2 : Below w.heap.size w w2 := by rw [hw2]; exact hbel1.alloc (by omega) _
  have hby : Bytes w2 (some ⟨w.heap.size, 0, none⟩) (bits8 s.data.toList) := by
    intro _
    refine ⟨_, _, rfl, fun j x hj => ?_⟩
    have e : w2.cell? ⟨w.heap.size, 0 + j, none⟩ = w1.cell? ⟨w.heap.size, 0 + j, none⟩ := by
      rw [hw2]; exact World.cell?_alloc_past _ _ _ (by omega)
    rw [e, hw1, Nat.zero_add]
    refine (cellOf (heap_alloc_new w.drew.drew (.cells R 5 (R.size, R.size + 1))) j).trans ?_
    rw [← hR]
    exact bytesRow_cell s K j x hj
  have hOf := of_any (some ⟨w.heap.size + 1, 0, none⟩) [⟨some ⟨w.heap.size, 0, none⟩, K, bits8 s.data.toList⟩] 1 w2 (below_tab hbel2 ht.lt ht) (by simp) ⟨fun _ => ⟨_, _, rfl, fun j x hj => by
    cases j with
    | zero =>
      simp at hj; subst hj
      rw [hw2, ← hsz1, World.cell?_alloc_at (w := w1) _ _ w1.heap.size 0 rfl, bits8_length]
      simp [Array.length_toList]
    | succ j => simp at hj⟩, fun j x hj => by
    cases j with
    | zero => simp at hj; subst hj; exact ⟨by rw [bits8_length, Array.length_toList]; have : s.size = s.data.size := rfl; omega, hby⟩
    | succ j => simp at hj⟩
  have hal : allBytes [⟨some ⟨w.heap.size, 0, none⟩, K, bits8 s.data.toList⟩] = bits8 s.data.toList := by simp [allBytes]
  rw [hal] at hOf
  obtain ⟨q, hq⟩ : ∃ q, crcSum (bits8 s.data.toList) = q := ⟨_, rfl⟩
  obtain ⟨r, hr⟩ : ∃ r, q.toNat % n = r := ⟨_, rfl⟩
  have hrn : r < n := by rw [← hr]; exact Nat.mod_lt _ hn
  have HE : Hid (H1 s.data.toList n = r) := by show H1 _ _ = _; unfold H1; rw [hq, hr]
  have htm : (q.toNat : Int).tmod (n : Int) = (r : Int) := by rw [Int.tmod_eq_emod_of_nonneg (by omega), ← hr]; rfl
  have hw64 : IntKind.i64.wrap (r : Int) = (r : Int) := by rw [IntKind.wrap_i64]; omega
  have hn0 : ¬ n = 0 := by omega
  rw [hq] at hOf
  have hcell : ∀ W, Below w.heap.size w W → W.cell? ⟨da, 1, none⟩ = some (.slice p n c) := fun W hb => (hb.cell (p := ⟨da, 1, none⟩) (cell_lt h)).trans h
  have hnu : IntKind.u32.wrap (n : Int) = (n : Int) := by rw [IntKind.wrap_u32]; omega
  go_enter Tryd.func37, Tryd.ntmps37
  go_wp2_with fail
  obtain ⟨LL, hLe⟩ : ∃ LL : List (Option Tmp × Value), LL = [(some 5, .string s), (some 6, .slice (some ⟨w.heap.size, 0, none⟩) s.size K), (some 7, .slice (some ⟨w.heap.size + 1, 0, none⟩) 1 1), (some 8, u32v q), (some 9, .pointer (some ⟨da, 0, none⟩)), (some 10, .pointer (some ⟨da, 0, none⟩)), (some 11, .pointer (some ⟨da, 1, none⟩)), (some 12, .slice p n c), (some 13, .int .i64 (n : Nat)), (some 14, .int .u32 (n : Nat)), (some 15, .int .u32 (r : Nat)), (some 16, .int .i64 (r : Nat)), (some 4, .int .i64 (r : Nat))] := ⟨_, rfl⟩
  have vv0 : vals LL 0 = .string s := by rw [hLe]; rfl
  have vv1 : vals LL 1 = .slice (some ⟨w.heap.size, 0, none⟩) s.size K := by rw [hLe]; rfl
  have vv2 : vals LL 2 = .slice (some ⟨w.heap.size + 1, 0, none⟩) 1 1 := by rw [hLe]; rfl
  have vv3 : vals LL 3 = u32v q := by rw [hLe]; rfl
  have vv4 : vals LL 4 = .pointer (some ⟨da, 0, none⟩) := by rw [hLe]; rfl
  have vv5 : vals LL 5 = .pointer (some ⟨da, 0, none⟩) := by rw [hLe]; rfl
  have vv6 : vals LL 6 = .pointer (some ⟨da, 1, none⟩) := by rw [hLe]; rfl
  have vv7 : vals LL 7 = .slice p n c := by rw [hLe]; rfl
  have vv8 : vals LL 8 = .int .i64 (n : Nat) := by rw [hLe]; rfl
  have vv9 : vals LL 9 = .int .u32 (n : Nat) := by rw [hLe]; rfl
  have vv10 : vals LL 10 = .int .u32 (r : Nat) := by rw [hLe]; rfl
  have vv11 : vals LL 11 = .int .i64 (r : Nat) := by rw [hLe]; rfl
  have vv12 : vals LL 12 = .int .i64 (r : Nat) := by rw [hLe]; rfl
  refine region_laid hmix (by kernel_rfl) 17 rfl (by kernel_rfl) LL (by rw [hLe]; rfl) (fun b W => FS w w1 w2 W (b 1) (b 2) (b 3)) ⟨hbel0, (fun h => by cases h), (fun h => by cases h), (fun _ => rfl), (fun h => by cases h), (fun h => by cases h)⟩ ?_ ?_
  · intro b W i o a hS hcl ho hb hd ev kp yl
    match i with
    | 0 =>
      simp only [List.getElem?_toArray, List.getElem?_cons_zero, Option.some.injEq] at ho
      subst ho
      have e1 : a.tmps[1]?.getD undef = .string s := kp 1 (by kernel_rfl)
      rw [vv0]
      refine does_value rfl (by intro c h; cases h) (w' := W) ?_ (by simpa [did] using hS)
      · simp [execOp, go_sem, e1]
    | 1 =>
      simp only [List.getElem?_toArray, List.getElem?_cons_zero, List.getElem?_cons_succ, Option.some.injEq] at ho
      subst ho
      have p0 : b 0 = true := hd ⟨0, .data⟩ (by simp) rfl
      have e5 := (ev 0 5 rfl p0).trans vv0
      have e0 := hS.w0 hb
      rw [e0]
      rw [vv1]
      refine does_value rfl (by intro c h; cases h) (w' := w1) ?_ (by simpa [did] using hS.go1 hb hbel1)
      · simp [execOp, go_sem, e5, hcv]
    | 2 =>
      simp only [List.getElem?_toArray, List.getElem?_cons_zero, List.getElem?_cons_succ, Option.some.injEq] at ho
      subst ho
      have p1 : b 1 = true := hd ⟨1, .data⟩ (by simp) rfl
      have e6 := (ev 1 6 rfl p1).trans vv1
      have e0 := hS.w1 p1 hb
      rw [e0]
      rw [vv2]
      refine does_value rfl (by intro c h; cases h) (w' := w2) ?_ (by simpa [did] using FS.go2 (w := w) (w1 := w1) (b3 := b 3) p1 hbel2)
      · simp [execOp, go_sem, e6, hw2, hsz1]
    | 3 =>
      simp only [List.getElem?_toArray, List.getElem?_cons_zero, List.getElem?_cons_succ, Option.some.injEq] at ho
      subst ho
      have p2 : b 2 = true := hd ⟨2, .data⟩ (by simp) rfl
      have e7 := (ev 2 7 rfl p2).trans vv2
      rw [vv3]
      refine does_call rfl (by intro c h; cases h) (f := 58) (args := #[.slice (some ⟨w.heap.size + 1, 0, none⟩) 1 1]) ?_ ?_
      · simp [go_sem, e7]
      · (rw [hS.w2 p2 hb]; refine hOf.mono (fun e w' ⟨he, h⟩ => ⟨he, ?_⟩); simpa [did] using hS.go3 p2 (hbel2.trans (h.mono hbel2.size)))
    | 4 =>
      simp only [List.getElem?_toArray, List.getElem?_cons_zero, List.getElem?_cons_succ, Option.some.injEq] at ho
      subst ho
      have e0 : a.tmps[0]?.getD undef = .pointer (some ⟨da, 0, none⟩) := kp 0 (by kernel_rfl)
      rw [vv4]
      refine does_value rfl (by intro c h; cases h) (w' := W) ?_ (by simpa [did] using hS)
      · simp [execOp, go_sem, e0]
    | 5 =>
      simp only [List.getElem?_toArray, List.getElem?_cons_zero, List.getElem?_cons_succ, Option.some.injEq] at ho
      subst ho
      have p4 : b 4 = true := hd ⟨4, .data⟩ (by simp) rfl
      have e9 := (ev 4 9 rfl p4).trans vv4
      rw [vv5]
      refine does_value rfl (by intro c h; cases h) (w' := W) ?_ (by simpa [did] using hS)
      · simp [execOp, go_sem, e9]
    | 6 =>
      simp only [List.getElem?_toArray, List.getElem?_cons_zero, List.getElem?_cons_succ, Option.some.injEq] at ho
      subst ho
      have p5 : b 5 = true := hd ⟨5, .data⟩ (by simp) rfl
      have e10 := (ev 5 10 rfl p5).trans vv5
      rw [vv6]
      refine does_value rfl (by intro c h; cases h) (w' := W) ?_ (by simpa [did] using hS)
      · simp [execOp, go_sem, e10]
    | 7 =>
      simp only [List.getElem?_toArray, List.getElem?_cons_zero, List.getElem?_cons_succ, Option.some.injEq] at ho
      subst ho
      have p6 : b 6 = true := hd ⟨6, .data⟩ (by simp) rfl
      have e11 := (ev 6 11 rfl p6).trans vv6
      rw [vv7]
      refine does_value rfl (by intro c h; cases h) (w' := W) ?_ (by simpa [did] using hS)
      · simp [execOp, go_sem, e11, hcell W hS.bel]
    | 8 =>
      simp only [List.getElem?_toArray, List.getElem?_cons_zero, List.getElem?_cons_succ, Option.some.injEq] at ho
      subst ho
      have p7 : b 7 = true := hd ⟨7, .data⟩ (by simp) rfl
      have e12 := (ev 7 12 rfl p7).trans vv7
      rw [vv8]
      refine does_value rfl (by intro c h; cases h) (w' := W) ?_ (by simpa [did] using hS)
      · simp [go_sem, e12]
    | 9 =>
      simp only [List.getElem?_toArray, List.getElem?_cons_zero, List.getElem?_cons_succ, Option.some.injEq] at ho
      subst ho
      have p8 : b 8 = true := hd ⟨8, .data⟩ (by simp) rfl
      have e13 := (ev 8 13 rfl p8).trans vv8
      rw [vv9]
      refine does_value rfl (by intro c h; cases h) (w' := W) ?_ (by simpa [did] using hS)
      · simp [execOp, go_sem, e13, hnu]
    | 10 =>
      simp only [List.getElem?_toArray, List.getElem?_cons_zero, List.getElem?_cons_succ, Option.some.injEq] at ho
      subst ho
      have p3 : b 3 = true := hd ⟨3, .data⟩ (by simp) rfl
      have p9 : b 9 = true := hd ⟨9, .data⟩ (by simp) rfl
      have e8 := (ev 3 8 rfl p3).trans vv3
      have e14 := (ev 9 14 rfl p9).trans vv9
      rw [vv10]
      refine does_value rfl (by intro c h; cases h) (w' := W) ?_ (by simpa [did] using hS)
      · simp [execOp, go_sem, e8, e14, u32v, hn0, htm]
    | 11 =>
      simp only [List.getElem?_toArray, List.getElem?_cons_zero, List.getElem?_cons_succ, Option.some.injEq] at ho
      subst ho
      have p10 : b 10 = true := hd ⟨10, .data⟩ (by simp) rfl
      have e15 := (ev 10 15 rfl p10).trans vv10
      rw [vv11]
      refine does_value rfl (by intro c h; cases h) (w' := W) ?_ (by simpa [did] using hS)
      · simp [execOp, go_sem, e15, hw64]
    | 12 =>
      simp only [List.getElem?_toArray, List.getElem?_cons_zero, List.getElem?_cons_succ, Option.some.injEq] at ho
      subst ho
      have p11 : b 11 = true := hd ⟨11, .data⟩ (by simp) rfl
      have e16 := (ev 11 16 rfl p11).trans vv11
      rw [vv12]
      refine does_value rfl (by intro c h; cases h) (w' := W) ?_ (by simpa [did] using hS)
      · simp [execOp, go_sem, e16]
    | k + 13 => simp at ho
  · intro b W hS hall
    rw [hLe]
    simp only [putAll, List.setIfInBounds_toArray, List.set_cons_zero, List.set_cons_succ]
    go_wp2
    go_ret
    exact ⟨by rw [HE.out]; rfl, hS.bel⟩

end Go.Proofs.YtdocablbkafkiaaDoor.Cd
