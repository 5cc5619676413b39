/-
  TrailingZeros64 and OnesCount64 of package math/bits.
-/
import Derived.Test.YtndefmchaohikaaDoorMturn
import Derived.Laws.Bits128
namespace Go.Proofs.YtndefmchaohikaaDoor
open Go.RowKit

/-- The table of package math/bits lies in block 0. -/
def Tab64 (w : World) : Prop := ∀ j, j < 64 → w.cell? ⟨0, j, none⟩ = some (.int .u8 (Lib.deBruijn64tab.getD j 0 : Nat))
theorem Tab64.drewN {w : World} (h : Tab64 w) (k : Nat) : Tab64 (w.drewN k) := h
theorem Tab64.lt {w : World} (h : Tab64 w) : 0 < w.heap.size := cell_lt (h 0 (by decide))
theorem Tab64.keep {S : Nat → Prop} {w w' : World} (h : Tab64 w) (ho : Only S w w') (hn : ¬ S 0) : Tab64 w' := fun j hj =>
  (World.cell?_of_block (w := w) (ho.block 0 h.lt hn)).trans (h j hj)
theorem Tab64.below {w w' : World} (h : Tab64 w) (hb : Below w.heap.size w w') : Tab64 w' := h.keep (Below.only hb (fun _ => False)) (fun h => h)

/-- Where the table lies there are bytes. -/
theorem Tab64.ne {w : World} (h : Tab64 w) {b : Nat} {cs : Array Value} {t : TypeId} {f : Nat × Nat} (hb : w.heap[b]? = some (.cells cs t f)) (v : Value) (h0 : cs[0]? = some v ∨ cs[0]? = none) (hv : ∀ z, v ≠ .int .u8 z) : b ≠ 0 := by
  rintro rfl
  have := h 0 (by decide)
  rw [cellOf hb 0] at this
  rcases h0 with h0 | h0
  · rw [h0] at this; exact hv _ (Option.some.inj this)
  · rw [h0] at this; cases this

/-- The lowest bit of x. -/
structure Low (x k : Nat) : Prop where
  lt : k < 64
  at_ : x.testBit k = true
  below : ∀ j, j < k → x.testBit j = false
theorem low_ctz {x : Nat} (hx : x < 18446744073709551616) (h0 : x ≠ 0) : Low x (Lib.ctz 64 x) := by
  obtain ⟨m, hm, hk⟩ := Lib.ctzFrom_spec 64 x (by omega) hx
  have e : Lib.ctz 64 x = Lib.ctzFrom 64 x := by simp [Lib.ctz, h0]
  rw [e]
  generalize Lib.ctzFrom 64 x = k at *
  refine ⟨hk, ?_, fun j hj => ?_⟩
  · rw [hm, Nat.mul_comm, Nat.testBit_mul_two_pow]
    simp
  · rw [hm, Nat.mul_comm, Nat.testBit_mul_two_pow]
    simp; omega

theorem tz_key (x a : Nat) (hx : x < 18446744073709551616) (hx0 : x ≠ 0) (hlow : x &&& (18446744073709551616 - x) = a) :
    IntKind.u64.wrap (bits BinOp.and IntKind.u64 (x : Int) (IntKind.u64.wrap (-(x : Int))) * 285870213051353865) / 288230376151711744 = ((a * 285870213051353865 % 18446744073709551616 / 288230376151711744 : Nat) : Int) := by
  have e1 : IntKind.u64.wrap (-(x : Int)) = ((18446744073709551616 - x : Nat) : Int) := by rw [IntKind.wrap_u64]; omega
  rw [e1, u64_and_nat x _ hx (by omega), hlow, IntKind.wrap_u64]
  omega

set_option maxRecDepth 8000 in
set_option maxHeartbeats 400000 in
theorem tz_core (x k idx : Nat) (w : World) (hx0 : ((x : Int) == 0) = false)
    (key : IntKind.u64.wrap (bits BinOp.and IntKind.u64 (x : Int) (IntKind.u64.wrap (-(x : Int))) * 285870213051353865) / 288230376151711744 = (idx : Int))
    (hi : idx < 64) (hk : k < 64) (hcell : w.cell? ⟨0, idx, none⟩ = some (.int .u8 k)) :
    Calls Tryd.prog 32 #[.int .u64 x] w fun e w' => e = .returned (.int .i64 k) ∧ w' = w := by
  go_enter Tryd.func32, Tryd.ntmps32
  go_wp2_with (simp only [key])
  go_ret
  exact ⟨rfl, rfl⟩
theorem tz_any (x : Nat) (hx : x < 18446744073709551616) (h0 : x ≠ 0) (w : World) (ht : Tab64 w) : Calls Tryd.prog 32 #[.int .u64 x] w fun e w' => e = .returned (.int .i64 (Lib.ctz 64 x : Nat)) ∧ w' = w := by
  obtain ⟨hlow, hk⟩ := Lib.lowest_bit 64 x h0 hx
  obtain ⟨hi, htab⟩ := Lib.deBruijn64_at _ hk
  have hcell := ht _ hi
  rw [htab] at hcell
  exact tz_core x _ _ w (by simp; omega) (tz_key x _ hx h0 hlow) hi hk hcell

theorem wrapu {q : Nat} (h : q < 18446744073709551616) : IntKind.u64.wrap (q : Int) = (q : Int) := by
  rw [IntKind.wrap_u64]; omega

theorem wrap64_mod (z : Int) : wrap64 z % 128 = z % 128 := by unfold wrap64; omega
set_option maxRecDepth 8000 in
set_option maxHeartbeats 400000 in
theorem ones_any (x : Nat) (hx : x < 18446744073709551616) (w : World) : Calls Tryd.prog 28 #[.int .u64 x] w fun e w' => e = .returned (.int .i64 (popN x 64 : Nat)) ∧ w' = w := by
  obtain ⟨x1, x2, s, x3, x4, x5, x6, P⟩ := pop_all x hx
  have k1 : bits .and .u64 ((x : Int) / 2) 6148914691236517205 = ((x / 2 &&& 6148914691236517205 : Nat) : Int) := u64_and_nat (x / 2) 6148914691236517205 (by omega) (by decide)
  have k2 : bits .and .u64 (x : Int) 6148914691236517205 = ((x &&& 6148914691236517205 : Nat) : Int) := u64_and_nat x 6148914691236517205 hx (by decide)
  have w1 : IntKind.u64.wrap (((x / 2 &&& 6148914691236517205 : Nat) : Int) + ((x &&& 6148914691236517205 : Nat) : Int)) = (x1 : Int) := by
    have := wrapu P.l1; rw [P.e1, Int.natCast_add] at this; rw [this, P.e1, Int.natCast_add]
  have k3 : bits .and .u64 ((x1 : Int) / 4) 3689348814741910323 = ((x1 / 4 &&& 3689348814741910323 : Nat) : Int) := u64_and_nat (x1 / 4) 3689348814741910323 (by have := P.l1; omega) (by decide)
  have k4 : bits .and .u64 (x1 : Int) 3689348814741910323 = ((x1 &&& 3689348814741910323 : Nat) : Int) := u64_and_nat x1 3689348814741910323 P.l1 (by decide)
  have w2 : IntKind.u64.wrap (((x1 / 4 &&& 3689348814741910323 : Nat) : Int) + ((x1 &&& 3689348814741910323 : Nat) : Int)) = (x2 : Int) := by
    have := wrapu P.l2; rw [P.e2, Int.natCast_add] at this; rw [this, P.e2, Int.natCast_add]
  have ws : IntKind.u64.wrap ((x2 : Int) / 16 + (x2 : Int)) = (s : Int) := by
    have := wrapu P.ls; rw [P.es, Int.natCast_add] at this; rw [P.es, Int.natCast_add]; exact this
  have k5 : bits .and .u64 (s : Int) 1085102592571150095 = (x3 : Int) := by rw [P.e3]; exact u64_and_nat s 1085102592571150095 P.ls (by decide)
  have w4 : IntKind.u64.wrap ((x3 : Int) + (x3 : Int) / 256) = (x4 : Int) := by
    have := wrapu P.l4; rw [P.e4, Int.natCast_add] at this; rw [P.e4, Int.natCast_add]; exact this
  have w5 : IntKind.u64.wrap ((x4 : Int) + (x4 : Int) / 65536) = (x5 : Int) := by
    have := wrapu P.l5; rw [P.e5, Int.natCast_add] at this; rw [P.e5, Int.natCast_add]; exact this
  have w6 : IntKind.u64.wrap ((x5 : Int) + (x5 : Int) / 4294967296) = (x6 : Int) := by
    have := wrapu P.l6; rw [P.e6, Int.natCast_add] at this; rw [P.e6, Int.natCast_add]; exact this
  have l6 := P.l6
  have e7 : wrap64 (x6 : Int) % 128 = (popN x 64 : Int) := by
    rw [wrap64_mod, ← P.e7]; rfl
  have e8 : bits .and .i64 (wrap64 (x6 : Int)) 127 = (popN x 64 : Int) := by rw [i64_and127]; exact e7
  clear P e7
  generalize (x / 2 &&& 6148914691236517205) = y1 at *
  generalize (x &&& 6148914691236517205) = y2 at *
  generalize (x1 / 4 &&& 3689348814741910323) = y3 at *
  generalize (x1 &&& 3689348814741910323) = y4 at *
  generalize popN x 64 = k at *
  go_enter Tryd.func28, Tryd.ntmps28
  go_wp2_with (first | simp only [k1, k2] | simp only [w1] | simp only [k3, k4] | simp only [w2] | simp only [ws] | simp only [k5] | simp only [w4] | simp only [w5] | simp only [w6] | simp only [e8])
  go_ret
  exact ⟨rfl, rfl⟩

end Go.Proofs.YtndefmchaohikaaDoor
