/-
  Bytes of package bitmap.
-/
import Derived.Test.YtebdgcoandfocaaGreatDoorProg
import Derived.WalkKit
import Derived.WalkSpells
import Derived.WalkLawsBesides
import Derived.Maps.OwnSet
import Derived.Laws.CopyOwn
import Derived.Laws.BitsAllLaws
import Derived.Laws.Small
import Derived.Deep.LoopGhost
import Derived.Deep.QuietTactic
import Derived.Deep.RegionHeld3
import Derived.BigQuiet
import Derived.RegionTactic
import Derived.Lib.TrailingZeros
import Derived.Laws.Bits128
import Derived.Lib.SliceRun

/-
  Of no program: how many bits of a number of 64 bits are 1, as package math/bits counts them.
-/
namespace Go.Proofs.YtebdgcoandfocaaGreatDoor.Bm

/-- How many of the first k bits of x are 1. -/
def popN (x : Nat) : Nat → Nat
  | 0 => 0
  | k + 1 => popN x k + (x.testBit k).toNat

theorem popN_le (x k : Nat) : popN x k ≤ k := by
  induction k with
  | zero => exact Nat.le_refl _
  | succ k ih => unfold popN; have : (x.testBit k).toNat ≤ 1 := by cases x.testBit k <;> decide
                 omega

theorem testBit_low (c r i : Nat) (hc : c < 256) (hi : i < 8) : (c + 256 * r).testBit i = c.testBit i := by
  have := Nat.testBit_two_pow_mul_add r (b := c) (i := 8) hc i
  rw [if_pos hi] at this
  rw [← this, Nat.add_comm]
theorem testBit_high (c r i : Nat) (hc : c < 256) : (c + 256 * r).testBit (8 + i) = r.testBit i := by
  have := Nat.testBit_two_pow_mul_add r (b := c) (i := 8) hc (8 + i)
  rw [if_neg (by omega), show 8 + i - 8 = i by omega] at this
  rw [← this, Nat.add_comm]

theorem popN_low (c r : Nat) (hc : c < 256) (k : Nat) (hk : k ≤ 8) : popN (c + 256 * r) k = popN c k := by
  induction k with
  | zero => rfl
  | succ k ih => unfold popN; rw [ih (by omega), testBit_low c r k hc (by omega)]
theorem popN_split (c r : Nat) (hc : c < 256) (k : Nat) : popN (c + 256 * r) (8 + k) = popN c 8 + popN r k := by
  induction k with
  | zero => exact popN_low c r hc 8 (Nat.le_refl _)
  | succ k ih => show popN (c + 256 * r) (8 + k) + ((c + 256 * r).testBit (8 + k)).toNat = popN c 8 + (popN r k + (r.testBit k).toNat); rw [ih, testBit_high c r k hc]; omega

/-- The bits of two numbers, byte by byte. -/
theorem and_split (a m r s : Nat) (ha : a < 256) (hm : m < 256) : (a + 256 * r) &&& (m + 256 * s) = (a &&& m) + 256 * (r &&& s) := by
  have hx : a &&& m < 256 := Nat.and_lt_two_pow (n := 8) _ hm
  apply Nat.eq_of_testBit_eq
  intro i
  by_cases hi : i < 8
  · rw [Nat.testBit_and, testBit_low _ _ _ ha hi, testBit_low _ _ _ hm hi, testBit_low _ _ _ hx hi, Nat.testBit_and]
  · obtain ⟨j, rfl⟩ : ∃ j, i = 8 + j := ⟨i - 8, by omega⟩
    rw [Nat.testBit_and, testBit_high _ _ _ ha, testBit_high _ _ _ hm, testBit_high _ _ _ hx, Nat.testBit_and]

/-- Eight bytes. -/
def eight (a b c d e f g h : Nat) : Nat := a + 256 * (b + 256 * (c + 256 * (d + 256 * (e + 256 * (f + 256 * (g + 256 * h))))))

theorem and_eight (a b c d e f g h m : Nat) (hm : m < 256) (h0 : a < 256) (h1 : b < 256) (h2 : c < 256) (h3 : d < 256) (h4 : e < 256) (h5 : f < 256) (h6 : g < 256) :
    eight a b c d e f g h &&& eight m m m m m m m m = eight (a &&& m) (b &&& m) (c &&& m) (d &&& m) (e &&& m) (f &&& m) (g &&& m) (h &&& m) := by
  unfold eight
  rw [and_split _ _ _ _ h0 hm, and_split _ _ _ _ h1 hm, and_split _ _ _ _ h2 hm, and_split _ _ _ _ h3 hm, and_split _ _ _ _ h4 hm, and_split _ _ _ _ h5 hm, and_split _ _ _ _ h6 hm]

theorem eight_of (x : Nat) (hx : x < 18446744073709551616) : ∃ a b c d e f g h, x = eight a b c d e f g h ∧ a < 256 ∧ b < 256 ∧ c < 256 ∧ d < 256 ∧ e < 256 ∧ f < 256 ∧ g < 256 ∧ h < 256 := by
  refine ⟨x % 256, x / 256 % 256, x / 256 / 256 % 256, x / 256 / 256 / 256 % 256, x / 256 / 256 / 256 / 256 % 256, x / 256 / 256 / 256 / 256 / 256 % 256, x / 256 / 256 / 256 / 256 / 256 / 256 % 256, x / 256 / 256 / 256 / 256 / 256 / 256 / 256, ?_, ?_, ?_, ?_, ?_, ?_, ?_, ?_, ?_⟩
  · unfold eight; omega
  all_goals omega

theorem pop_eight (a b c d e f g h : Nat) (h0 : a < 256) (h1 : b < 256) (h2 : c < 256) (h3 : d < 256) (h4 : e < 256) (h5 : f < 256) (h6 : g < 256) :
    popN (eight a b c d e f g h) 64 = popN a 8 + popN b 8 + popN c 8 + popN d 8 + popN e 8 + popN f 8 + popN g 8 + popN h 8 := by
  unfold eight
  rw [popN_split a _ h0 56, popN_split b _ h1 48, popN_split c _ h2 40, popN_split d _ h3 32, popN_split e _ h4 24, popN_split f _ h5 16, popN_split g _ h6 8]
  omega

/- The first three steps, of one byte. -/
def pf1 (c : Nat) : Nat := (c / 2 &&& 85) + (c &&& 85)
def pf2 (c : Nat) : Nat := (c / 4 &&& 51) + (c &&& 51)
def pf3 (c : Nat) : Nat := (c / 16 + c) % 16
theorem pf1_lt : ∀ c, c < 256 → pf1 c < 256 := by decide +kernel
theorem pf2_lt : ∀ c, c < 256 → pf2 c < 256 := by decide +kernel
theorem pf2_low : ∀ c, c < 256 → pf2 (pf1 c) / 16 ≤ 4 ∧ pf2 (pf1 c) % 16 ≤ 4 := by decide +kernel
theorem pf_pop : ∀ c, c < 256 → pf3 (pf2 (pf1 c)) = popN c 8 := by decide +kernel
theorem pf1_mask : ∀ c, c < 256 → ∀ b, b < 2 → (c / 2 + 128 * b) &&& 85 = (c / 2) &&& 85 := by decide +kernel
theorem pf2_mask : ∀ c, c < 256 → ∀ b, b < 4 → (c / 4 + 64 * b) &&& 51 = (c / 4) &&& 51 := by decide +kernel

theorem half_eight (a b c d e f g h : Nat) : eight a b c d e f g h / 2 = eight (a / 2 + 128 * (b % 2)) (b / 2 + 128 * (c % 2)) (c / 2 + 128 * (d % 2)) (d / 2 + 128 * (e % 2)) (e / 2 + 128 * (f % 2)) (f / 2 + 128 * (g % 2)) (g / 2 + 128 * (h % 2)) (h / 2) := by
  unfold eight; omega
theorem fourth_eight (a b c d e f g h : Nat) : eight a b c d e f g h / 4 = eight (a / 4 + 64 * (b % 4)) (b / 4 + 64 * (c % 4)) (c / 4 + 64 * (d % 4)) (d / 4 + 64 * (e % 4)) (e / 4 + 64 * (f % 4)) (f / 4 + 64 * (g % 4)) (g / 4 + 64 * (h % 4)) (h / 4) := by
  unfold eight; omega
theorem part_eight (a b c d e f g h : Nat) : eight a b c d e f g h / 16 = eight (a / 16 + 16 * (b % 16)) (b / 16 + 16 * (c % 16)) (c / 16 + 16 * (d % 16)) (d / 16 + 16 * (e % 16)) (e / 16 + 16 * (f % 16)) (f / 16 + 16 * (g % 16)) (g / 16 + 16 * (h % 16)) (h / 16) := by
  unfold eight; omega
theorem add_eight (a b c d e f g h a' b' c' d' e' f' g' h' : Nat) : eight a b c d e f g h + eight a' b' c' d' e' f' g' h' = eight (a + a') (b + b') (c + c') (d + d') (e + e') (f + f') (g + g') (h + h') := by
  unfold eight; omega

theorem pop_step1 (a b c d e f g h : Nat) (h0 : a < 256) (h1 : b < 256) (h2 : c < 256) (h3 : d < 256) (h4 : e < 256) (h5 : f < 256) (h6 : g < 256) :
    (eight a b c d e f g h / 2 &&& 6148914691236517205) + (eight a b c d e f g h &&& 6148914691236517205) = eight (pf1 a) (pf1 b) (pf1 c) (pf1 d) (pf1 e) (pf1 f) (pf1 g) (pf1 h) := by
  have hm : 6148914691236517205 = eight 85 85 85 85 85 85 85 85 := by decide
  rw [hm, half_eight, and_eight _ _ _ _ _ _ _ _ 85 (by decide) (by omega) (by omega) (by omega) (by omega) (by omega) (by omega) (by omega), and_eight _ _ _ _ _ _ _ _ 85 (by decide) h0 h1 h2 h3 h4 h5 h6, add_eight,
    pf1_mask a h0 _ (by omega), pf1_mask b h1 _ (by omega), pf1_mask c h2 _ (by omega), pf1_mask d h3 _ (by omega), pf1_mask e h4 _ (by omega), pf1_mask f h5 _ (by omega), pf1_mask g h6 _ (by omega)]
  rfl
theorem pop_step2 (a b c d e f g h : Nat) (h0 : a < 256) (h1 : b < 256) (h2 : c < 256) (h3 : d < 256) (h4 : e < 256) (h5 : f < 256) (h6 : g < 256) :
    (eight a b c d e f g h / 4 &&& 3689348814741910323) + (eight a b c d e f g h &&& 3689348814741910323) = eight (pf2 a) (pf2 b) (pf2 c) (pf2 d) (pf2 e) (pf2 f) (pf2 g) (pf2 h) := by
  have hm : 3689348814741910323 = eight 51 51 51 51 51 51 51 51 := by decide
  rw [hm, fourth_eight, and_eight _ _ _ _ _ _ _ _ 51 (by decide) (by omega) (by omega) (by omega) (by omega) (by omega) (by omega) (by omega), and_eight _ _ _ _ _ _ _ _ 51 (by decide) h0 h1 h2 h3 h4 h5 h6, add_eight,
    pf2_mask a h0 _ (by omega), pf2_mask b h1 _ (by omega), pf2_mask c h2 _ (by omega), pf2_mask d h3 _ (by omega), pf2_mask e h4 _ (by omega), pf2_mask f h5 _ (by omega), pf2_mask g h6 _ (by omega)]
  rfl
theorem and15 (x : Nat) : x &&& 15 = x % 16 := Nat.and_two_pow_sub_one_eq_mod x 4
theorem pf3_of (x t : Nat) : (x / 16 + 16 * t + x) % 16 = pf3 x := by unfold pf3; omega
theorem pop_step3 (a b c d e f g h : Nat) (h0 : a / 16 ≤ 4 ∧ a % 16 ≤ 4) (h1 : b / 16 ≤ 4 ∧ b % 16 ≤ 4) (h2 : c / 16 ≤ 4 ∧ c % 16 ≤ 4) (h3 : d / 16 ≤ 4 ∧ d % 16 ≤ 4) (h4 : e / 16 ≤ 4 ∧ e % 16 ≤ 4) (h5 : f / 16 ≤ 4 ∧ f % 16 ≤ 4) (h6 : g / 16 ≤ 4 ∧ g % 16 ≤ 4) (h7 : h / 16 ≤ 4 ∧ h % 16 ≤ 4) :
    (eight a b c d e f g h / 16 + eight a b c d e f g h) &&& 1085102592571150095 = eight (pf3 a) (pf3 b) (pf3 c) (pf3 d) (pf3 e) (pf3 f) (pf3 g) (pf3 h) := by
  have hm : 1085102592571150095 = eight 15 15 15 15 15 15 15 15 := by decide
  rw [hm, part_eight, add_eight, and_eight _ _ _ _ _ _ _ _ 15 (by decide) (by omega) (by omega) (by omega) (by omega) (by omega) (by omega) (by omega)]
  simp only [and15, pf3_of]
  rfl

theorem pop_end (a b c d e f g h : Nat) (h0 : a ≤ 8) (h1 : b ≤ 8) (h2 : c ≤ 8) (h3 : d ≤ 8) (h4 : e ≤ 8) (h5 : f ≤ 8) (h6 : g ≤ 8) (h7 : h ≤ 8) (x4 x5 x6 : Nat)
    (e4 : x4 = eight a b c d e f g h + eight a b c d e f g h / 256) (e5 : x5 = x4 + x4 / 65536) (e6 : x6 = x5 + x5 / 4294967296) : x6 < 18446744073709551616 ∧ x5 < 18446744073709551616 ∧ x4 < 18446744073709551616 ∧ x6 % 128 = a + b + c + d + e + f + g + h := by
  have d4 : eight a b c d e f g h / 256 = eight b c d e f g h 0 := by unfold eight; omega
  rw [d4, add_eight] at e4
  have d5 : x4 / 65536 = eight (c + d) (d + e) (e + f) (f + g) (g + h) (h + 0) 0 0 := by rw [e4]; unfold eight; omega
  rw [d5, e4, add_eight] at e5
  have d6 : x5 / 4294967296 = eight (e + f + (g + h)) (f + g + (h + 0)) (g + h + 0) (h + 0 + 0) 0 0 0 0 := by rw [e5]; unfold eight; omega
  rw [d6, e5, add_eight] at e6
  subst e6 e5 e4
  unfold eight
  refine ⟨?_, ?_, ?_, ?_⟩ <;> omega

theorem eight_lt (a b c d e f g h : Nat) (h0 : a < 256) (h1 : b < 256) (h2 : c < 256) (h3 : d < 256) (h4 : e < 256) (h5 : f < 256) (h6 : g < 256) (h7 : h < 256) : eight a b c d e f g h < 18446744073709551616 := by
  unfold eight; omega
theorem part_lt (a b c d e f g h : Nat) (h0 : a / 16 ≤ 4 ∧ a % 16 ≤ 4) (h1 : b / 16 ≤ 4 ∧ b % 16 ≤ 4) (h2 : c / 16 ≤ 4 ∧ c % 16 ≤ 4) (h3 : d / 16 ≤ 4 ∧ d % 16 ≤ 4) (h4 : e / 16 ≤ 4 ∧ e % 16 ≤ 4) (h5 : f / 16 ≤ 4 ∧ f % 16 ≤ 4) (h6 : g / 16 ≤ 4 ∧ g % 16 ≤ 4) (h7 : h / 16 ≤ 4 ∧ h % 16 ≤ 4) :
    eight a b c d e f g h / 16 + eight a b c d e f g h < 18446744073709551616 := by
  rw [part_eight, add_eight]
  exact eight_lt _ _ _ _ _ _ _ _ (by omega) (by omega) (by omega) (by omega) (by omega) (by omega) (by omega) (by omega)

/-- The steps of the count. -/
structure Pops (x x1 x2 s x3 x4 x5 x6 : Nat) : Prop where
  e1 : x1 = (x / 2 &&& 6148914691236517205) + (x &&& 6148914691236517205)
  l1 : x1 < 18446744073709551616
  e2 : x2 = (x1 / 4 &&& 3689348814741910323) + (x1 &&& 3689348814741910323)
  l2 : x2 < 18446744073709551616
  es : s = x2 / 16 + x2
  ls : s < 18446744073709551616
  e3 : x3 = s &&& 1085102592571150095
  e4 : x4 = x3 + x3 / 256
  l4 : x4 < 18446744073709551616
  e5 : x5 = x4 + x4 / 65536
  l5 : x5 < 18446744073709551616
  e6 : x6 = x5 + x5 / 4294967296
  l6 : x6 < 18446744073709551616
  e7 : x6 % 128 = popN x 64

/-- All steps of the count. -/
theorem pop_all (x : Nat) (hx : x < 18446744073709551616) : ∃ x1 x2 s x3 x4 x5 x6 : Nat, Pops x x1 x2 s x3 x4 x5 x6 := by
  obtain ⟨a, b, c, d, e, f, g, h, rfl, h0, h1, h2, h3, h4, h5, h6, h7⟩ := eight_of x hx
  have s1 := pop_step1 a b c d e f g h h0 h1 h2 h3 h4 h5 h6
  have s2 := pop_step2 _ _ _ _ _ _ _ (pf1 h) (pf1_lt a h0) (pf1_lt b h1) (pf1_lt c h2) (pf1_lt d h3) (pf1_lt e h4) (pf1_lt f h5) (pf1_lt g h6)
  have s3 := pop_step3 _ _ _ _ _ _ _ _ (pf2_low a h0) (pf2_low b h1) (pf2_low c h2) (pf2_low d h3) (pf2_low e h4) (pf2_low f h5) (pf2_low g h6) (pf2_low h h7)
  have ls := part_lt _ _ _ _ _ _ _ _ (pf2_low a h0) (pf2_low b h1) (pf2_low c h2) (pf2_low d h3) (pf2_low e h4) (pf2_low f h5) (pf2_low g h6) (pf2_low h h7)
  have l1 := eight_lt _ _ _ _ _ _ _ _ (pf1_lt a h0) (pf1_lt b h1) (pf1_lt c h2) (pf1_lt d h3) (pf1_lt e h4) (pf1_lt f h5) (pf1_lt g h6) (pf1_lt h h7)
  have l2 := eight_lt _ _ _ _ _ _ _ _ (pf2_lt _ (pf1_lt a h0)) (pf2_lt _ (pf1_lt b h1)) (pf2_lt _ (pf1_lt c h2)) (pf2_lt _ (pf1_lt d h3)) (pf2_lt _ (pf1_lt e h4)) (pf2_lt _ (pf1_lt f h5)) (pf2_lt _ (pf1_lt g h6)) (pf2_lt _ (pf1_lt h h7))
  rw [pf_pop a h0, pf_pop b h1, pf_pop c h2, pf_pop d h3, pf_pop e h4, pf_pop f h5, pf_pop g h6, pf_pop h h7] at s3
  obtain ⟨q6, q5, q4, q⟩ := pop_end _ _ _ _ _ _ _ _ (popN_le a 8) (popN_le b 8) (popN_le c 8) (popN_le d 8) (popN_le e 8) (popN_le f 8) (popN_le g 8) (popN_le h 8) _ _ _ rfl rfl rfl
  have p := pop_eight a b c d e f g h h0 h1 h2 h3 h4 h5 h6
  exact ⟨_, _, _, _, _, _, _, s1.symm, l1, s2.symm, l2, rfl, ls, s3.symm, rfl, q4, rfl, q5, rfl, q6, q.trans p.symm⟩

end Go.Proofs.YtebdgcoandfocaaGreatDoor.Bm

/-
  The small functions of package bitmap: what each call answers and does to memory.
-/
namespace Go.Proofs.YtebdgcoandfocaaGreatDoor.Bm
open Go.RowKit

theorem cellOf {w : World} {b : Nat} {cs : Array Value} {t : TypeId} {f : Nat × Nat} (h : w.heap[b]? = some (.cells cs t f)) (j : Nat) :
    w.cell? ⟨b, j, none⟩ = cs[j]? := by
  simp [World.cell?, h]
theorem frozenOf {w : World} {b : Nat} {cs : Array Value} {t : TypeId} (h : w.heap[b]? = some (.cells cs t (0, 0))) (j : Nat) :
    w.frozen? ⟨b, j, none⟩ = false := by
  simp [World.frozen?, h]
theorem cell_lt {w : World} {b k : Nat} {v : Value} (h : w.cell? ⟨b, k, none⟩ = some v) : b < w.heap.size := by
  by_cases hb : b < w.heap.size
  · exact hb
  · simp [World.cell?, Array.getElem?_eq_none (Nat.not_lt.1 hb)] at h
theorem block_lt {w : World} {b : Nat} {o : Obj} (h : w.heap[b]? = some o) : b < w.heap.size := (Array.getElem?_eq_some_iff.1 h).1
theorem heap_set_same {w : World} {a k : Nat} {cs : Array Value} {t : TypeId} {f : Nat × Nat} (h : w.heap[a]? = some (.cells cs t f)) (u : Value) : (w.setCell ⟨a, k, none⟩ u).heap[a]? = some (.cells (cs.setIfInBounds k u) t f) := by
  simp [World.setCell, Array.getElem?_modify, h]
theorem below_new (w : World) (o : Obj) : Hid (Below w.heap.size w (w.alloc o)) := (Below.refl _ _).alloc (Nat.le_refl _) _

/-- A callee that leaves the world as it was, met at its call. -/
theorem Calls_on {P : Program} {f : Nat} {args : Array Value} {w : World} {v : Ending} {K : Ending → World → Prop}
    (h : Calls P f args w fun e w' => e = v ∧ w' = w) (hk : K v w) : Calls P f args w K :=
  h.mono (by rintro e w' ⟨rfl, rfl⟩; exact hk)

/-- Outside S nothing turns. -/
structure Only (S : Nat → Prop) (w w' : World) : Prop where
  os : w'.os = w.os
  tape : w'.tape = w.tape
  output : w'.output = w.output
  size : w.heap.size ≤ w'.heap.size
  block : ∀ k, k < w.heap.size → ¬ S k → w'.heap[k]? = w.heap[k]?

theorem Only.refl (S : Nat → Prop) (w : World) : Only S w w := ⟨rfl, rfl, rfl, Nat.le_refl _, fun _ _ _ => rfl⟩
theorem Only.trans {S T : Nat → Prop} {a b c : World} (h : Only S a b) (k : Only T b c) (hs : ∀ i, T i → S i ∨ a.heap.size ≤ i) : Only S a c :=
  ⟨k.os.trans h.os, k.tape.trans h.tape, k.output.trans h.output, Nat.le_trans h.size k.size, fun i hi hn =>
    (k.block i (Nat.lt_of_lt_of_le hi h.size) (fun e => by rcases hs i e with h | h; exact hn h; omega)).trans (h.block i hi hn)⟩
theorem Only.next {S : Nat → Prop} {a b c : World} (h : Only S a b) (k : Only S b c) : Only S a c := h.trans k (fun _ h => .inl h)
theorem Below.only {w w' : World} (h : Below w.heap.size w w') (S : Nat → Prop) : Only S w w' :=
  ⟨h.os, h.tape, h.output, h.size, fun k hk _ => h.block k hk⟩
theorem Only.alloc (S : Nat → Prop) (w : World) (o : Obj) : Only S w (w.alloc o) :=
  ⟨rfl, rfl, rfl, by simp, fun k hk _ => Below.heap_alloc _ _ _ hk⟩
theorem Only.setCell {S : Nat → Prop} (w : World) (p : Addr) (u : Value) (h : S p.block) : Only S w (w.setCell p u) :=
  ⟨rfl, rfl, rfl, by simp [World.setCell], fun k _ hk => Below.heap_setCell _ _ _ _ (fun e => hk (e ▸ h))⟩
theorem Only.drew {S : Nat → Prop} {w w' : World} (h : Only S w w') : Only S w w'.drew := ⟨h.os, h.tape, h.output, h.size, h.block⟩

/- Words of 64 bits. -/

/-- Whether the number i is used. -/
def used (ws : List Nat) (i : Nat) : Bool := (ws.getD (i / 64) 0).testBit (i % 64)

/-- A map: where its struct and its words lie, how many numbers, the words and their room. -/
structure MS where
  a : Nat
  b : Nat
  n : Nat
  c : Nat
  ws : List Nat

/-- The words lie in block b. -/
def RowAt (w : World) (b : Nat) (ws : List Nat) : Prop := ∃ cs, w.heap[b]? = some (.cells cs 61 (0, 0)) ∧ ∀ (j x : Nat), ws[j]? = some x → cs[j]? = some (Value.int .u64 (x : Int))

/-- As many words as n numbers take, each of 64 bits. -/
structure Fit (n : Nat) (ws : List Nat) : Prop where
  len : ws.length = (n + 63) / 64
  most : n ≤ 65536
  small : ∀ (j x : Nat), ws[j]? = some x → x < 18446744073709551616

/-- No bit behind the last number. -/
def Tight (n : Nat) (ws : List Nat) : Prop := ∀ i, n ≤ i → used ws i = false

structure MapAt (w : World) (m : MS) : Prop where
  st : w.heap[m.a]? = some (.cells #[.int .i64 m.n, .slice (some ⟨m.b, 0, none⟩) m.ws.length m.c] 60 (0, 0))
  row : RowAt w m.b m.ws
  fit : Fit m.n m.ws
  pos : 1 < m.b

theorem RowAt.cell {w : World} {b : Nat} {ws : List Nat} (h : RowAt w b ws) {j x : Nat} (hj : ws[j]? = some x) : w.cell? ⟨b, j, none⟩ = some (.int .u64 (x : Int)) := by
  obtain ⟨cs, h1, h2⟩ := h
  rw [cellOf h1 j, h2 j x hj]
theorem RowAt.frozen {w : World} {b : Nat} {ws : List Nat} (h : RowAt w b ws) (j : Nat) : w.frozen? ⟨b, j, none⟩ = false := by
  obtain ⟨cs, h1, h2⟩ := h
  exact frozenOf h1 j
theorem RowAt.lt {w : World} {b : Nat} {ws : List Nat} (h : RowAt w b ws) : b < w.heap.size := by
  obtain ⟨cs, h1, h2⟩ := h
  exact block_lt h1
theorem RowAt.set {w : World} {b : Nat} {ws : List Nat} (h : RowAt w b ws) (j x : Nat) : RowAt (w.setCell ⟨b, j, none⟩ (.int .u64 (x : Int))) b (ws.set j x) := by
  obtain ⟨cs, h1, h2⟩ := h
  refine ⟨_, heap_set_same h1 _, fun k y hk => ?_⟩
  rw [List.getElem?_set] at hk
  rw [Array.getElem?_setIfInBounds]
  split at hk
  · rename_i hjk
    subst hjk
    split at hk
    · rename_i hl
      cases hk
      obtain ⟨z, hz⟩ : ∃ z, ws[j]? = some z := ⟨_, List.getElem?_eq_getElem hl⟩
      have := (Array.getElem?_eq_some_iff.1 (h2 j z hz)).1
      rw [if_pos rfl, if_pos this]
    · cases hk
  · rename_i hjk
    rw [if_neg hjk]
    exact h2 k y hk
theorem RowAt.keep {S : Nat → Prop} {w w' : World} {b : Nat} {ws : List Nat} (h : RowAt w b ws) (ho : Only S w w') (hn : ¬ S b) : RowAt w' b ws := by
  have hl := h.lt
  obtain ⟨cs, h1, h2⟩ := h
  exact ⟨cs, (ho.block b hl hn).trans h1, h2⟩

theorem MapAt.c0 {w : World} {m : MS} (h : MapAt w m) : w.cell? ⟨m.a, 0, none⟩ = some (.int .i64 m.n) := cellOf h.st 0
theorem MapAt.c1 {w : World} {m : MS} (h : MapAt w m) : w.cell? ⟨m.a, 1, none⟩ = some (.slice (some ⟨m.b, 0, none⟩) m.ws.length m.c) := cellOf h.st 1
theorem MapAt.ne {w : World} {m : MS} (h : MapAt w m) : m.a ≠ m.b := by
  intro e
  obtain ⟨cs, h1, h2⟩ := h.row
  have := h.st
  rw [e, h1] at this
  simp at this
theorem MapAt.keep {S : Nat → Prop} {w w' : World} {m : MS} (h : MapAt w m) (ho : Only S w w') (ha : ¬ S m.a) (hb : ¬ S m.b) : MapAt w' m :=
  ⟨(ho.block m.a (block_lt h.st) ha).trans h.st, h.row.keep ho hb, h.fit, h.pos⟩
theorem MapAt.below {w w' : World} {m : MS} (h : MapAt w m) (hb : Below w.heap.size w w') : MapAt w' m := h.keep (Below.only hb (fun _ => False)) (fun h => h) (fun h => h)
theorem MapAt.drew {w : World} {m : MS} (h : MapAt w m) : MapAt w.drew m := ⟨h.st, h.row, h.fit, h.pos⟩

set_option maxRecDepth 8000 in
set_option maxHeartbeats 400000 in
theorem size_nil (w : World) : Calls Tryz.prog 60 #[.pointer none] w fun e w' => e = .returned (.int .i64 0) ∧ w' = w := by
  go_enter Tryz.func60, Tryz.ntmps60
  go_wp2
  go_ret
  exact ⟨rfl, rfl⟩
set_option maxRecDepth 8000 in
set_option maxHeartbeats 400000 in
theorem size_any (m : MS) (w : World) (h : MapAt w m) : Calls Tryz.prog 60 #[.pointer (some ⟨m.a, 0, none⟩)] w fun e w' => e = .returned (.int .i64 m.n) ∧ w' = w := by
  have h0 := h.c0
  clear h
  go_enter Tryz.func60, Tryz.ntmps60
  go_wp2
  go_ret
  exact ⟨rfl, rfl⟩

set_option maxRecDepth 8000 in
set_option maxHeartbeats 400000 in
theorem has_nil (i : Int) (w : World) : Calls Tryz.prog 37 #[.pointer none, .int .i64 i] w fun e w' => e = .returned (.bool false) ∧ w' = w := by
  by_cases h : 0 ≤ i
  · go_enter Tryz.func37, Tryz.ntmps37
    go_wp2_with (go_at_call 60; refine Calls_on (size_nil _) ?_)
    go_ret
    exact ⟨by simp; omega, rfl⟩
  · go_enter Tryz.func37, Tryz.ntmps37
    go_wp2_with (go_at_call 60; refine Calls_on (size_nil _) ?_)
    go_ret
    exact ⟨rfl, rfl⟩
set_option maxRecDepth 8000 in
set_option maxHeartbeats 400000 in
theorem has_any (i : Int) (m : MS) (w : World) (h : MapAt w m) : Calls Tryz.prog 37 #[.pointer (some ⟨m.a, 0, none⟩), .int .i64 i] w fun e w' => e = .returned (.bool (decide (0 ≤ i ∧ i < m.n))) ∧ w' = w := by
  have hs := size_any m w h
  clear h
  by_cases h : 0 ≤ i
  · go_enter Tryz.func37, Tryz.ntmps37
    go_wp2_with (go_at_call 60; refine Calls_on hs ?_)
    go_ret
    exact ⟨by simp [h], rfl⟩
  · go_enter Tryz.func37, Tryz.ntmps37
    go_wp2_with (go_at_call 60; refine Calls_on hs ?_)
    go_ret
    exact ⟨by simp; omega, rfl⟩

theorem pow_bit (i : Nat) : 2 ^ (i % 64) < 18446744073709551616 := Nat.pow_lt_pow_right (by decide) (show i % 64 < 64 by omega)
set_option maxRecDepth 8000 in
set_option maxHeartbeats 400000 in
theorem bit_any (i : Nat) (hi : i < 9223372036854775808) (w : World) : Calls Tryz.prog 61 #[.int .i64 i] w fun e w' => e = .returned (.int .u64 ((2 ^ (i % 64) : Nat) : Int)) ∧ w' = w := by
  go_enter Tryz.func61, Tryz.ntmps61
  go_wp2
  go_ret
  refine ⟨?_, rfl⟩
  have hp := pow_bit i
  have hw : IntKind.u64.wrap ((2 ^ (i % 64) : Nat) : Int) = ((2 ^ (i % 64) : Nat) : Int) := by
    generalize 2 ^ (i % 64) = p at hp
    rw [IntKind.wrap_u64]; omega
  simpa using hw

/- A bit is turned. -/

theorem used_set {ws : List Nat} {q x : Nat} (hq : q < ws.length) (i : Nat) : used (ws.set q x) i = if i / 64 = q then x.testBit (i % 64) else used ws i := by
  unfold used
  rw [List.getD, List.getD, List.getElem?_set]
  by_cases h : q = i / 64
  · rw [if_pos h, if_pos hq, if_pos h.symm]; rfl
  · rw [if_neg h, if_neg (fun e => h e.symm)]
def turned (ws : List Nat) (i : Nat) : List Nat := ws.set (i / 64) (ws.getD (i / 64) 0 ^^^ 2 ^ (i % 64))
theorem turned_used {ws : List Nat} {i : Nat} (hi : i / 64 < ws.length) (j : Nat) : used (turned ws i) j = if j = i then !used ws i else used ws j := by
  unfold turned
  rw [used_set hi, Nat.testBit_xor, Nat.testBit_two_pow]
  by_cases h : j = i
  · subst h; simp [used]
  · rw [if_neg h]
    by_cases hq : j / 64 = i / 64
    · rw [if_pos hq]
      have : ¬ i % 64 = j % 64 := by omega
      simp [this, used, hq]
    · rw [if_neg hq]
theorem turned_length (ws : List Nat) (i : Nat) : (turned ws i).length = ws.length := by simp [turned]
theorem Fit.word {n : Nat} {ws : List Nat} (h : Fit n ws) (q : Nat) : ws.getD q 0 < 18446744073709551616 := by
  rw [List.getD]
  rcases hq : ws[q]? with _ | x
  · simp
  · exact h.small q x hq
theorem Fit.turned {n : Nat} {ws : List Nat} (h : Fit n ws) (i : Nat) : Fit n (turned ws i) := by
  refine ⟨by rw [turned_length]; exact h.len, h.most, fun j x hj => ?_⟩
  unfold Go.Proofs.YtebdgcoandfocaaGreatDoor.Bm.turned at hj
  rw [List.getElem?_set] at hj
  split at hj
  · split at hj
    · cases hj
      exact Nat.xor_lt_two_pow (n := 64) (h.word _) (pow_bit i)
    · cases hj
  · exact h.small j x hj
theorem Fit.div {n : Nat} {ws : List Nat} (h : Fit n ws) {i : Nat} (hi : i < n) : i / 64 < ws.length := by rw [h.len]; omega
theorem Tight.turned {n : Nat} {ws : List Nat} (h : Tight n ws) (hf : Fit n ws) {i : Nat} (hi : i < n) : Tight n (turned ws i) := by
  intro j hj
  rw [turned_used (hf.div hi), if_neg (by omega)]
  exact h j hj
theorem getD_some {ws : List Nat} {q : Nat} (hq : q < ws.length) : ws[q]? = some (ws.getD q 0) := by
  rw [List.getD, List.getElem?_eq_getElem hq]; rfl

/-- The map behind a turn. -/
def MS.turn (m : MS) (i : Nat) : MS := { m with ws := turned m.ws i }
theorem MapAt.turn {w : World} {m : MS} (h : MapAt w m) (i : Nat) : MapAt (w.setCell ⟨m.b, i / 64, none⟩ (.int .u64 ((m.ws.getD (i / 64) 0 ^^^ 2 ^ (i % 64) : Nat) : Int))) (m.turn i) := by
  refine ⟨?_, h.row.set _ _, h.fit.turned i, h.pos⟩
  have := Below.heap_setCell w ⟨m.b, i / 64, none⟩ (.int .u64 ((m.ws.getD (i / 64) 0 ^^^ 2 ^ (i % 64) : Nat) : Int)) m.a h.ne
  refine this.trans (h.st.trans ?_)
  unfold MS.turn
  simp only [turned_length]

end Go.Proofs.YtebdgcoandfocaaGreatDoor.Bm

/-
  turn, Used, tooLong of package bitmap.
-/
namespace Go.Proofs.YtebdgcoandfocaaGreatDoor.Bm
open Go.RowKit

/-- A halt for the walk. -/
structure Stop (p : Prop) : Prop where
  out : p

theorem wrapi {q : Nat} (h : q < 9223372036854775808) : IntKind.i64.wrap (q : Int) = (q : Int) := by
  simp [IntKind.wrap, IntKind.signed, IntKind.bits]; omega

set_option maxRecDepth 8000 in
set_option maxHeartbeats 400000 in
theorem turn_any (i : Nat) (m : MS) (w : World) (h : MapAt w m) (hi : i < m.n) : Calls Tryz.prog 39 #[.pointer (some ⟨m.a, 0, none⟩), .int .i64 i] w fun e w' => e = .returned (.tuple #[]) ∧ MapAt w' (m.turn i) ∧ Only (· = m.b) w w' := by
  have hm : m.n ≤ 65536 := h.fit.most
  have c1 := h.c1
  have hd := h.fit.div hi
  have c2 := h.row.cell (getD_some hd)
  have f2 := h.row.frozen (i / 64)
  have cb : ∀ W, Calls Tryz.prog 61 #[.int .i64 i] W fun e w' => e = .returned (.int .u64 ((2 ^ (i % 64) : Nat) : Int)) ∧ w' = W := fun W => bit_any i (by omega) W
  have ex : bits .xor .u64 ((m.ws.getD (i / 64) 0 : Nat) : Int) ((2 ^ (i % 64) : Nat) : Int) = ((m.ws.getD (i / 64) 0 ^^^ 2 ^ (i % 64) : Nat) : Int) := u64_xor_nat _ _ (h.fit.word _) (pow_bit i)
  have HT : Hid (MapAt (w.setCell ⟨m.b, i / 64, none⟩ (.int .u64 ((m.ws.getD (i / 64) 0 ^^^ 2 ^ (i % 64) : Nat) : Int))) (m.turn i)) := h.turn i
  generalize hx : m.ws.getD (i / 64) 0 = x at *
  generalize hp : 2 ^ (i % 64) = p at *
  generalize hy : x ^^^ p = y at *
  obtain ⟨q, hq⟩ : ∃ q, i / 64 = q := ⟨_, rfl⟩
  rw [hq] at hd c2 f2 HT
  have eq : (i : Int) / 64 = (q : Int) := by omega
  have hdI : (q : Int) < (m.ws.length : Int) := by omega
  have hwq : IntKind.i64.wrap (q : Int) = (q : Int) := wrapi (by omega)
  clear h hx hp hy hq
  go_enter Tryz.func39, Tryz.ntmps39
  go_wp2
  go_region_with (go_at_call 61; refine Calls_on (cb _) ?_)
  all_goals go_wp2
  all_goals go_end0
  all_goals exact ⟨rfl, HT.out.drew, (Only.setCell (S := (· = m.b)) w ⟨m.b, q, none⟩ _ rfl).drew⟩

theorem MapAt.drewN {w : World} {m : MS} (h : MapAt w m) (k : Nat) : MapAt (w.drewN k) m := ⟨h.st, h.row, h.fit, h.pos⟩
theorem Only.drewN {S : Nat → Prop} {w w' : World} (h : Only S w w') (k : Nat) : Only S w (w'.drewN k) := ⟨h.os, h.tape, h.output, h.size, h.block⟩

/-- A bit, as a mask tells it. -/
theorem mask_bit (x i : Nat) : (((x &&& 2 ^ i : Nat) : Int) != 0) = x.testBit i := by
  rw [nat_bit]
  have hp : 0 < 2 ^ i := Nat.two_pow_pos i
  have ht : x.testBit i = decide (x / 2 ^ i % 2 = 1) := Nat.testBit_eq_decide_div_mod_eq
  rw [ht]
  rcases Nat.mod_two_eq_zero_or_one (x / 2 ^ i) with h | h
  · rw [h]; simp
  · rw [h, Nat.one_mul]
    generalize 2 ^ i = p at hp
    simp
    omega

set_option maxRecDepth 8000 in
set_option maxHeartbeats 400000 in
theorem used_in (i : Nat) (m : MS) (w : World) (h : MapAt w m) (hi : i < m.n) : Calls Tryz.prog 38 #[.pointer (some ⟨m.a, 0, none⟩), .int .i64 i] w fun e w' => e = .returned (.bool (used m.ws i)) ∧ ∃ k, w' = w.drewN k := by
  have hm : m.n ≤ 65536 := h.fit.most
  have c1 := h.c1
  have hd := h.fit.div hi
  have c2 := h.row.cell (getD_some hd)
  have cb : ∀ W, Calls Tryz.prog 61 #[.int .i64 i] W fun e w' => e = .returned (.int .u64 ((2 ^ (i % 64) : Nat) : Int)) ∧ w' = W := fun W => bit_any i (by omega) W
  have ch : ∀ k, Calls Tryz.prog 37 #[.pointer (some ⟨m.a, 0, none⟩), .int .i64 i] (w.drewN k) fun e w' => e = .returned (.bool true) ∧ w' = w.drewN k := fun k => by
    have := has_any i m (w.drewN k) (h.drewN k)
    rwa [show decide (0 ≤ (i : Int) ∧ (i : Int) < m.n) = true by simp; omega] at this
  have ex : bits .and .u64 ((m.ws.getD (i / 64) 0 : Nat) : Int) ((2 ^ (i % 64) : Nat) : Int) = ((m.ws.getD (i / 64) 0 &&& 2 ^ (i % 64) : Nat) : Int) := u64_and_nat _ _ (h.fit.word _) (pow_bit i)
  have HU : Hid ((((m.ws.getD (i / 64) 0 &&& 2 ^ (i % 64) : Nat) : Int) != 0) = used m.ws i) := mask_bit _ _
  generalize hx : m.ws.getD (i / 64) 0 = x at *
  generalize hp : 2 ^ (i % 64) = p at *
  generalize hy : x &&& p = y at *
  obtain ⟨q, hq⟩ : ∃ q, i / 64 = q := ⟨_, rfl⟩
  rw [hq] at hd c2
  have eq : (i : Int) / 64 = (q : Int) := by omega
  have hdI : (q : Int) < (m.ws.length : Int) := by omega
  have hwq : IntKind.i64.wrap (q : Int) = (q : Int) := wrapi (by omega)
  clear h hx hp hy hq
  go_enter Tryz.func38, Tryz.ntmps38
  go_wp2_with fail
  go_quiet ((first | (go_at_call 37; exact Calls.quiet_of_same (ch _)) | (go_at_call 61; exact Calls.quiet_of_same (cb _))))
  go_wp2
  go_ret
  exact ⟨by rw [HU.out]; rfl, _, rfl⟩

end Go.Proofs.YtebdgcoandfocaaGreatDoor.Bm

/-
  TrailingZeros64 and OnesCount64 of package math/bits.
-/
namespace Go.Proofs.YtebdgcoandfocaaGreatDoor.Bm
open Go.RowKit

/-- The table of package math/bits lies in block 0. -/
def Tab64 (w : World) : Prop := ∀ j, j < 64 → w.cell? ⟨1, j, none⟩ = some (.int .u8 (Lib.deBruijn64tab.getD j 0 : Nat))
theorem Tab64.lt {w : World} (h : Tab64 w) : 1 < w.heap.size := cell_lt (h 0 (by decide))
theorem Tab64.keep {S : Nat → Prop} {w w' : World} (h : Tab64 w) (ho : Only S w w') (hn : ¬ S 1) : Tab64 w' := fun j hj =>
  (World.cell?_of_block (w := w) (ho.block 1 h.lt hn)).trans (h j hj)
theorem Tab64.below {w w' : World} (h : Tab64 w) (hb : Below w.heap.size w w') : Tab64 w' := h.keep (Below.only hb (fun _ => False)) (fun h => h)

/-- The lowest bit of x. -/
structure Low (x k : Nat) : Prop where
  lt : k < 64
  at_ : x.testBit k = true
  below : ∀ j, j < k → x.testBit j = false
theorem low_ctz {x : Nat} (hx : x < 18446744073709551616) (h0 : x ≠ 0) : Low x (Lib.ctz 64 x) := by
  obtain ⟨m, hm, hk⟩ := Lib.ctzFrom_spec 64 x (by omega) hx
  have e : Lib.ctz 64 x = Lib.ctzFrom 64 x := by simp [Lib.ctz, h0]
  rw [e]
  generalize Lib.ctzFrom 64 x = k at *
  refine ⟨hk, ?_, fun j hj => ?_⟩
  · rw [hm, Nat.mul_comm, Nat.testBit_mul_two_pow]
    simp
  · rw [hm, Nat.mul_comm, Nat.testBit_mul_two_pow]
    simp; omega

theorem tz_key (x a : Nat) (hx : x < 18446744073709551616) (hx0 : x ≠ 0) (hlow : x &&& (18446744073709551616 - x) = a) :
    IntKind.u64.wrap (bits BinOp.and IntKind.u64 (x : Int) (IntKind.u64.wrap (-(x : Int))) * 285870213051353865) / 288230376151711744 = ((a * 285870213051353865 % 18446744073709551616 / 288230376151711744 : Nat) : Int) := by
  have e1 : IntKind.u64.wrap (-(x : Int)) = ((18446744073709551616 - x : Nat) : Int) := by rw [IntKind.wrap_u64]; omega
  rw [e1, u64_and_nat x _ hx (by omega), hlow, IntKind.wrap_u64]
  omega

set_option maxRecDepth 8000 in
set_option maxHeartbeats 400000 in
theorem tz_core (x k idx : Nat) (w : World) (hx0 : ((x : Int) == 0) = false)
    (key : IntKind.u64.wrap (bits BinOp.and IntKind.u64 (x : Int) (IntKind.u64.wrap (-(x : Int))) * 285870213051353865) / 288230376151711744 = (idx : Int))
    (hi : idx < 64) (hk : k < 64) (hcell : w.cell? ⟨1, idx, none⟩ = some (.int .u8 k)) :
    Calls Tryz.prog 138 #[.int .u64 x] w fun e w' => e = .returned (.int .i64 k) ∧ w' = w := by
  go_enter Tryz.func138, Tryz.ntmps138
  go_wp2_with (simp only [key])
  go_ret
  exact ⟨rfl, rfl⟩
theorem tz_any (x : Nat) (hx : x < 18446744073709551616) (h0 : x ≠ 0) (w : World) (ht : Tab64 w) : Calls Tryz.prog 138 #[.int .u64 x] w fun e w' => e = .returned (.int .i64 (Lib.ctz 64 x : Nat)) ∧ w' = w := by
  obtain ⟨hlow, hk⟩ := Lib.lowest_bit 64 x h0 hx
  obtain ⟨hi, htab⟩ := Lib.deBruijn64_at _ hk
  have hcell := ht _ hi
  rw [htab] at hcell
  exact tz_core x _ _ w (by simp; omega) (tz_key x _ hx h0 hlow) hi hk hcell

theorem wrapu {q : Nat} (h : q < 18446744073709551616) : IntKind.u64.wrap (q : Int) = (q : Int) := by
  rw [IntKind.wrap_u64]; omega

theorem wrap64_mod (z : Int) : wrap64 z % 128 = z % 128 := by unfold wrap64; omega
set_option maxRecDepth 8000 in
set_option maxHeartbeats 400000 in
theorem ones_any (x : Nat) (hx : x < 18446744073709551616) (w : World) : Calls Tryz.prog 24 #[.int .u64 x] w fun e w' => e = .returned (.int .i64 (popN x 64 : Nat)) ∧ w' = w := by
  obtain ⟨x1, x2, s, x3, x4, x5, x6, P⟩ := pop_all x hx
  have k1 : bits .and .u64 ((x : Int) / 2) 6148914691236517205 = ((x / 2 &&& 6148914691236517205 : Nat) : Int) := u64_and_nat (x / 2) 6148914691236517205 (by omega) (by decide)
  have k2 : bits .and .u64 (x : Int) 6148914691236517205 = ((x &&& 6148914691236517205 : Nat) : Int) := u64_and_nat x 6148914691236517205 hx (by decide)
  have w1 : IntKind.u64.wrap (((x / 2 &&& 6148914691236517205 : Nat) : Int) + ((x &&& 6148914691236517205 : Nat) : Int)) = (x1 : Int) := by
    have := wrapu P.l1; rw [P.e1, Int.natCast_add] at this; rw [this, P.e1, Int.natCast_add]
  have k3 : bits .and .u64 ((x1 : Int) / 4) 3689348814741910323 = ((x1 / 4 &&& 3689348814741910323 : Nat) : Int) := u64_and_nat (x1 / 4) 3689348814741910323 (by have := P.l1; omega) (by decide)
  have k4 : bits .and .u64 (x1 : Int) 3689348814741910323 = ((x1 &&& 3689348814741910323 : Nat) : Int) := u64_and_nat x1 3689348814741910323 P.l1 (by decide)
  have w2 : IntKind.u64.wrap (((x1 / 4 &&& 3689348814741910323 : Nat) : Int) + ((x1 &&& 3689348814741910323 : Nat) : Int)) = (x2 : Int) := by
    have := wrapu P.l2; rw [P.e2, Int.natCast_add] at this; rw [this, P.e2, Int.natCast_add]
  have ws : IntKind.u64.wrap ((x2 : Int) / 16 + (x2 : Int)) = (s : Int) := by
    have := wrapu P.ls; rw [P.es, Int.natCast_add] at this; rw [P.es, Int.natCast_add]; exact this
  have k5 : bits .and .u64 (s : Int) 1085102592571150095 = (x3 : Int) := by rw [P.e3]; exact u64_and_nat s 1085102592571150095 P.ls (by decide)
  have w4 : IntKind.u64.wrap ((x3 : Int) + (x3 : Int) / 256) = (x4 : Int) := by
    have := wrapu P.l4; rw [P.e4, Int.natCast_add] at this; rw [P.e4, Int.natCast_add]; exact this
  have w5 : IntKind.u64.wrap ((x4 : Int) + (x4 : Int) / 65536) = (x5 : Int) := by
    have := wrapu P.l5; rw [P.e5, Int.natCast_add] at this; rw [P.e5, Int.natCast_add]; exact this
  have w6 : IntKind.u64.wrap ((x5 : Int) + (x5 : Int) / 4294967296) = (x6 : Int) := by
    have := wrapu P.l6; rw [P.e6, Int.natCast_add] at this; rw [P.e6, Int.natCast_add]; exact this
  have l6 := P.l6
  have e7 : wrap64 (x6 : Int) % 128 = (popN x 64 : Int) := by
    rw [wrap64_mod, ← P.e7]; rfl
  have e8 : bits .and .i64 (wrap64 (x6 : Int)) 127 = (popN x 64 : Int) := by rw [i64_and127]; exact e7
  clear P e7
  generalize (x / 2 &&& 6148914691236517205) = y1 at *
  generalize (x &&& 6148914691236517205) = y2 at *
  generalize (x1 / 4 &&& 3689348814741910323) = y3 at *
  generalize (x1 &&& 3689348814741910323) = y4 at *
  generalize popN x 64 = k at *
  go_enter Tryz.func24, Tryz.ntmps24
  go_wp2_with (first | simp only [k1, k2] | simp only [w1] | simp only [k3, k4] | simp only [w2] | simp only [ws] | simp only [k5] | simp only [w4] | simp only [w5] | simp only [w6] | simp only [e8])
  go_ret
  exact ⟨rfl, rfl⟩

end Go.Proofs.YtebdgcoandfocaaGreatDoor.Bm

/-
  next, nextFree, nextUsed, row of package bitmap.
-/
namespace Go.Proofs.YtebdgcoandfocaaGreatDoor.Bm
open Go.RowKit

/-- The first number from f on, below n, of which P is true; n, if there is none. -/
structure Found (n : Nat) (P : Nat → Bool) (f r : Nat) : Prop where
  low : f ≤ r
  high : r ≤ n
  not : ∀ i, f ≤ i → i < r → P i = false
  yes : r < n → P r = true

/-- Bits turned by F. -/
def hit (ws : List Nat) (F : Nat) (i : Nat) : Bool := used ws i ^^ F.testBit (i % 64)
theorem hit_free (ws : List Nat) : hit ws 18446744073709551615 = fun i => !used ws i := by
  funext i
  have : (18446744073709551615 : Nat).testBit (i % 64) = true := by
    have := Nat.testBit_two_pow_sub_one 64 (i % 64)
    rw [show (18446744073709551615 : Nat) = 2 ^ 64 - 1 from rfl, this]
    simp; omega
  simp [hit, this]

/-- One word, turned and shifted. -/
theorem word_bit (ws : List Nat) (F f j : Nat) (hj : f % 64 + j < 64) : ((ws.getD (f / 64) 0 ^^^ F) / 2 ^ (f % 64)).testBit j = hit ws F (f + j) := by
  rw [Nat.testBit_div_two_pow, Nat.testBit_xor]
  unfold hit used
  rw [show (f + j) / 64 = f / 64 by omega, show (f + j) % 64 = j + f % 64 by omega]
theorem word_end (y f j : Nat) (hy : y < 18446744073709551616) (hj : 64 ≤ f % 64 + j) : (y / 2 ^ (f % 64)).testBit j = false := by
  rw [Nat.testBit_div_two_pow]
  exact Nat.testBit_lt_two_pow (Nat.lt_of_lt_of_le hy (show 2 ^ 64 ≤ _ from Nat.pow_le_pow_right (by decide) (by omega)))

/-- Nothing in this word. -/
theorem none_here {ws : List Nat} {F f : Nat} (hz : (ws.getD (f / 64) 0 ^^^ F) / 2 ^ (f % 64) = 0) (i : Nat) (h1 : f ≤ i) (h2 : i < f + (64 - f % 64)) : hit ws F i = false := by
  have := word_bit ws F f (i - f) (by omega)
  rw [hz, Nat.zero_testBit, show f + (i - f) = i by omega] at this
  exact this.symm
/-- The first in this word. -/
theorem some_here {ws : List Nat} {F f n k : Nat} (hy : (ws.getD (f / 64) 0 ^^^ F) < 18446744073709551616) (hk : Low ((ws.getD (f / 64) 0 ^^^ F) / 2 ^ (f % 64)) k) (hf : f < n) :
    Found n (hit ws F) f (min (f + k) n) := by
  have hin : f % 64 + k < 64 := by
    apply Nat.lt_of_not_le
    intro h
    have := word_end _ f k hy h
    rw [hk.at_] at this
    cases this
  refine ⟨by omega, by omega, fun i h1 h2 => ?_, fun h => ?_⟩
  · have := word_bit ws F f (i - f) (by omega)
    rw [hk.below _ (by omega), show f + (i - f) = i by omega] at this
    exact this.symm
  · have := word_bit ws F f k hin
    rw [hk.at_] at this
    rw [show min (f + k) n = f + k by omega]
    exact this.symm
theorem Found.back {n : Nat} {P : Nat → Bool} {f f' r : Nat} (h : Found n P f' r) (hf : f ≤ f') (hn : ∀ i, f ≤ i → i < f' → P i = false) : Found n P f r :=
  ⟨Nat.le_trans hf h.low, h.high, fun i h1 h2 => by by_cases hi : i < f'; exact hn i h1 hi; exact h.not i (by omega) h2, h.yes⟩

theorem drew_some {w wr : World} (h : ∃ k, wr = w.drewN k) : ∃ k, wr.drew = w.drewN k := by
  obtain ⟨k, rfl⟩ := h
  exact ⟨k + 1, rfl⟩

set_option maxRecDepth 8000 in
set_option maxHeartbeats 1000000 in
theorem next_any (f F : Nat) (m : MS) (w : World) (h : MapAt w m) (ht : Tab64 w) (hF : F < 18446744073709551616) (hf : f ≤ m.n) :
    Calls Tryz.prog 121 #[.pointer (some ⟨m.a, 0, none⟩), .int .i64 f, .int .u64 F] w fun e w' => ∃ r : Nat, e = .returned (.int .i64 r) ∧ Found m.n (hit m.ws F) f r ∧ ∃ k, w' = w.drewN k := by
  have hm : m.n ≤ 65536 := h.fit.most
  have HM : Hid (MapAt w m ∧ Tab64 w ∧ F < 18446744073709551616) := ⟨h, ht, hF⟩
  clear h ht hF
  go_enter Tryz.func121, Tryz.ntmps121
  go_wp2_with fail
  go_loopw [1] (fun ii wr => ∃ g : Nat, ii = .int .i64 g ∧ f ≤ g ∧ g ≤ 65600 ∧ Hid (∃ k, wr = w.drewN k) ∧ Hid (∀ i, f ≤ i → i < g → i < m.n → hit m.ws F i = false)) (fun ii _ => 65600 - (intOf ii).toNat)
  case atStart => exact ⟨f, rfl, Nat.le_refl _, by omega, ⟨0, rfl⟩, fun i h1 h2 => absurd h2 (by omega)⟩
  case round =>
    obtain ⟨g, rfl, hg, hg2, HW, HN⟩ := hrel
    obtain ⟨k, hk⟩ := HW.out
    have h : MapAt wr m := by rw [hk]; exact HM.out.1.drewN k
    have ht : Tab64 wr := by rw [hk]; exact HM.out.2.1
    clear hk
    have ch := has_any g m wr h
    by_cases hlt : g < m.n
    · rw [show decide (0 ≤ (g : Int) ∧ (g : Int) < m.n) = true by simp; omega] at ch
      have c0 := h.c0
      have c1 := h.c1
      have hd := h.fit.div hlt
      have c2 := h.row.cell (getD_some hd)
      have hy : m.ws.getD (g / 64) 0 ^^^ F < 18446744073709551616 := Nat.xor_lt_two_pow (n := 64) (h.fit.word _) HM.out.2.2
      have ex : bits .xor .u64 ((m.ws.getD (g / 64) 0 : Nat) : Int) (F : Int) = ((m.ws.getD (g / 64) 0 ^^^ F : Nat) : Int) := u64_xor_nat _ _ (h.fit.word _) HM.out.2.2
      have hzl : (m.ws.getD (g / 64) 0 ^^^ F) / 2 ^ (g % 64) < 18446744073709551616 := Nat.lt_of_le_of_lt (Nat.div_le_self _ _) hy
      have HL : Hid ((m.ws.getD (g / 64) 0 ^^^ F) / 2 ^ (g % 64) ≠ 0 → Found m.n (hit m.ws F) g (min (g + Lib.ctz 64 ((m.ws.getD (g / 64) 0 ^^^ F) / 2 ^ (g % 64))) m.n)) := fun h0 => some_here hy (low_ctz hzl h0) hlt
      have HZ : Hid ((m.ws.getD (g / 64) 0 ^^^ F) / 2 ^ (g % 64) = 0 → ∀ i, g ≤ i → i < g + (64 - g % 64) → hit m.ws F i = false) := fun hz i => none_here hz i
      have ez : ((m.ws.getD (g / 64) 0 ^^^ F : Nat) : Int) / 2 ^ (g % 64) = (((m.ws.getD (g / 64) 0 ^^^ F) / 2 ^ (g % 64) : Nat) : Int) := by simp
      generalize (m.ws.getD (g / 64) 0 ^^^ F) / 2 ^ (g % 64) = z at *
      generalize m.ws.getD (g / 64) 0 ^^^ F = y at *
      generalize m.ws.getD (g / 64) 0 = x at *
      obtain ⟨q, hq⟩ : ∃ q, g / 64 = q := ⟨_, rfl⟩
      obtain ⟨r, hr⟩ : ∃ r, g % 64 = r := ⟨_, rfl⟩
      rw [hq] at hd c2
      rw [hr] at ez HZ
      have eq : (g : Int) / 64 = (q : Int) := by omega
      have er : (g : Int) % 64 = (r : Int) := by omega
      have hr64 : r < 64 := by omega
      by_cases h0 : z = 0
      · have HZ' : Hid (∀ i, g ≤ i → i < g + (64 - r) → hit m.ws F i = false) := HZ.out h0
        subst h0
        have ez0 : (y : Int) / 2 ^ r = 0 := ez
        clear h ht HZ HL ez hzl hy
        go_wp2_with (go_at_call 37; refine Calls_on ch ?_; clear ch)
        refine ⟨⟨g + (64 - r), ?_, by omega, by omega, HW, ?_⟩, ?_⟩
        · have : (g : Int) + (64 - (r : Int)) = ((g + (64 - r) : Nat) : Int) := by omega
          rw [this]
        · intro i h1 h2 h3
          by_cases hi : i < g
          · exact HN.out i h1 hi h3
          · exact HZ'.out i (by omega) h2
        · simp [intOf]; omega
      · have ct : ∀ W, Tab64 W → Calls Tryz.prog 138 #[.int .u64 z] W fun e w' => e = .returned (.int .i64 (Lib.ctz 64 z : Nat)) ∧ w' = W := fun W hW => tz_any z hzl h0 W hW
        have HL' := HL.out h0
        have hk64 : Lib.ctz 64 z < 64 := (low_ctz hzl h0).lt
        have h0' : ((z : Int) != 0) = true := by simp; omega
        generalize Lib.ctz 64 z = t at *
        have ht' : Tab64 wr.drew := ht
        have ct' := ct wr.drew ht'
        have HF : Hid (Found m.n (hit m.ws F) f (min (g + t) m.n)) := HL'.back hg (fun i h1 h2 => HN.out i h1 h2 (by omega))
        obtain ⟨u, hu⟩ : ∃ u, g + t = u := ⟨_, rfl⟩
        rw [hu] at HF
        have hgt : IntKind.i64.wrap ((g : Int) + (t : Int)) = (u : Int) := by rw [← Int.natCast_add, hu]; exact wrapi (by omega)
        clear h ht HZ HL hzl hy HL' ct h0 ht' hu
        by_cases hmn : (m.n : Int) < (u : Int)
        · rw [show min u m.n = m.n by omega] at HF
          go_wp2_with (go_at_call 37; refine Calls_on ch ?_; clear ch)
          go_region_with (go_at_call 138; refine Calls_on ct' ?_)
          all_goals go_wp2
          all_goals go_ret
          all_goals exact ⟨_, rfl, HF.out, drew_some HW.out⟩
        · rw [show min u m.n = u by omega] at HF
          go_wp2_with (go_at_call 37; refine Calls_on ch ?_; clear ch)
          go_region_with (go_at_call 138; refine Calls_on ct' ?_)
          all_goals go_wp2
          all_goals go_ret
          all_goals exact ⟨_, rfl, HF.out, drew_some HW.out⟩
    · rw [show decide (0 ≤ (g : Int) ∧ (g : Int) < m.n) = false by simp; omega] at ch
      have cs := size_any m wr h
      clear h ht
      go_wp2_with (first | (go_at_call 37; refine Calls_on ch ?_; clear ch) | (go_at_call 60; refine Calls_on cs ?_; clear cs))
      go_ret
      exact ⟨m.n, rfl, ⟨hf, Nat.le_refl _, fun i h1 h2 => HN.out i h1 (by omega) h2, fun h => absurd h (by omega)⟩, HW.out⟩

/-- The first free number, the first used one. -/
def FreeFrom (m : MS) (f r : Nat) : Prop := Found m.n (fun i => !used m.ws i) f r
set_option maxRecDepth 8000 in
set_option maxHeartbeats 400000 in
theorem nextFree_any (f : Nat) (m : MS) (w : World) (h : MapAt w m) (ht : Tab64 w) (hf : f ≤ m.n) :
    Calls Tryz.prog 105 #[.pointer (some ⟨m.a, 0, none⟩), .int .i64 f] w fun e w' => ∃ r : Nat, e = .returned (.int .i64 r) ∧ FreeFrom m f r ∧ ∃ k, w' = w.drewN k := by
  have cn := next_any f 18446744073709551615 m w h ht (by decide) hf
  rw [hit_free] at cn
  clear h ht hf
  go_enter Tryz.func105, Tryz.ntmps105
  go_wp2_with (go_at_call 121; refine cn.mono ?_; rintro e w' ⟨r, rfl, h1, h2⟩; have H : Hid (FreeFrom m f r ∧ ∃ k, w' = w.drewN k) := ⟨h1, h2⟩; clear h1 h2 cn)
  go_ret
  exact ⟨r, rfl, H.out⟩
/- Rows of free numbers. -/

end Go.Proofs.YtebdgcoandfocaaGreatDoor.Bm

/-
  Take, Run, Set, Give of package bitmap.
-/
namespace Go.Proofs.YtebdgcoandfocaaGreatDoor.Bm
open Go.RowKit

theorem only_drewN {S : Nat → Prop} {w w' : World} (h : ∃ k, w' = w.drewN k) : Only S w w' := by
  obtain ⟨k, rfl⟩ := h
  exact (Only.refl S w).drewN k
theorem MapAt.still {w w' : World} {m : MS} (h : MapAt w m) (hk : ∃ k, w' = w.drewN k) : MapAt w' m := by
  obtain ⟨k, rfl⟩ := hk
  exact h.drewN k
/-- Take, of what the numbers are used for: the least free one, and it is used then. -/
def TakeOut (m : MS) (e : Ending) (m' : MS) : Prop :=
  ∃ r, FreeFrom m 0 r ∧ ((r = m.n ∧ e = .returned (.tuple #[.int .i64 0, .int .i64 28]) ∧ m' = m) ∨ (r < m.n ∧ e = .returned (.tuple #[.int .i64 r, .int .i64 0]) ∧ m' = m.turn r))

set_option maxRecDepth 8000 in
set_option maxHeartbeats 400000 in
theorem take_any (m : MS) (w : World) (h : MapAt w m) (ht : Tab64 w) : Calls Tryz.prog 84 #[.pointer (some ⟨m.a, 0, none⟩)] w fun e w' => ∃ m', TakeOut m e m' ∧ MapAt w' m' ∧ Only (· = m.b) w w' := by
  have hm : m.n ≤ 65536 := h.fit.most
  have cn := nextFree_any 0 m w h ht (Nat.zero_le _)
  have HM : Hid (MapAt w m ∧ Tab64 w) := ⟨h, ht⟩
  clear h ht
  go_enter Tryz.func84, Tryz.ntmps84
  go_wp2_with (go_at_call 105; refine cn.mono ?_; rintro e w1 ⟨r, rfl, h1, h2⟩; have H : Hid (FreeFrom m 0 r ∧ ∃ k, w1 = w.drewN k) := ⟨h1, h2⟩; clear h1 h2 cn; refine Stop.out ?_)
  refine Stop.mk ?_
  have h1 := HM.out.1.still H.out.2
  have ch := has_any r m w1 h1
  have hr := H.out.1.high
  by_cases hlt : r < m.n
  · rw [show decide (0 ≤ (r : Int) ∧ (r : Int) < m.n) = true by simp; omega] at ch
    have ct := turn_any r m w1 h1 hlt
    clear h1
    go_wp2_with (first | (go_at_call 37; refine Calls_on ch ?_; clear ch) | (go_at_call 39; refine ct.mono ?_; rintro e w2 ⟨rfl, h2, o2⟩; have H2 : Hid (MapAt w2 (m.turn r) ∧ Only (· = m.b) w1 w2) := ⟨h2, o2⟩; clear h2 o2 ct))
    go_ret2
    exact ⟨_, ⟨r, H.out.1, .inr ⟨hlt, rfl, rfl⟩⟩, H2.out.1, (only_drewN H.out.2).next H2.out.2⟩
  · rw [show decide (0 ≤ (r : Int) ∧ (r : Int) < m.n) = false by simp; omega] at ch
    have H1 : Hid (MapAt w1 m) := h1
    clear h1
    go_wp2_with (go_at_call 37; refine Calls_on ch ?_; clear ch)
    go_ret2
    exact ⟨_, ⟨r, H.out.1, .inl ⟨by omega, rfl, rfl⟩⟩, H1.out, only_drewN H.out.2⟩

/-- Set and Give of a number of the map: refused, or the bit is turned. -/
def PutOut (m : MS) (i : Nat) (b : Bool) (no : Int) (e : Ending) (m' : MS) : Prop :=
  (used m.ws i = b ∧ e = .returned (.int .i64 no) ∧ m' = m) ∨ (used m.ws i = !b ∧ e = .returned (.int .i64 0) ∧ m' = m.turn i)

set_option maxRecDepth 8000 in
set_option maxHeartbeats 400000 in
theorem set_in (i : Nat) (m : MS) (w : World) (h : MapAt w m) (hi : i < m.n) : Calls Tryz.prog 23 #[.pointer (some ⟨m.a, 0, none⟩), .int .i64 i] w fun e w' => ∃ m', PutOut m i true 16 e m' ∧ MapAt w' m' ∧ Only (· = m.b) w w' := by
  have ch := has_any i m w h
  rw [show decide (0 ≤ (i : Int) ∧ (i : Int) < m.n) = true by simp; omega] at ch
  have cu := used_in i m w h hi
  have HM : Hid (MapAt w m) := h
  clear h
  cases hb : used m.ws i with
  | true =>
    rw [hb] at cu
    have HB : Hid (used m.ws i = true) := hb
    clear hb
    go_enter Tryz.func23, Tryz.ntmps23
    go_wp2_with (first | (go_at_call 37; refine Calls_on ch ?_) | (go_at_call 38; refine cu.mono ?_; rintro e w1 ⟨rfl, h1⟩; have H : Hid (∃ k, w1 = w.drewN k) := h1; clear h1 cu))
    go_ret
    exact ⟨m, .inl ⟨HB.out, rfl, rfl⟩, HM.out.still H.out, only_drewN H.out⟩
  | false =>
    rw [hb] at cu
    have HB : Hid (used m.ws i = false) := hb
    clear hb
    go_enter Tryz.func23, Tryz.ntmps23
    go_wp2_with (first | (go_at_call 37; refine Calls_on ch ?_) | (go_at_call 38; refine cu.mono ?_; rintro e w1 ⟨rfl, h1⟩; have H : Hid (∃ k, w1 = w.drewN k) := h1; clear h1 cu; refine Stop.out ?_))
    refine Stop.mk ?_
    have ct := turn_any i m w1 (HM.out.still H.out) hi
    go_wp2_with (go_at_call 39; refine ct.mono ?_; rintro e w2 ⟨rfl, h2, o2⟩; have H2 : Hid (MapAt w2 (m.turn i) ∧ Only (· = m.b) w1 w2) := ⟨h2, o2⟩; clear h2 o2 ct)
    go_ret
    exact ⟨_, .inr ⟨HB.out, rfl, rfl⟩, H2.out.1, (only_drewN H.out).next H2.out.2⟩

set_option maxRecDepth 8000 in
set_option maxHeartbeats 400000 in
theorem give_in (i : Nat) (m : MS) (w : World) (h : MapAt w m) (hi : i < m.n) : Calls Tryz.prog 66 #[.pointer (some ⟨m.a, 0, none⟩), .int .i64 i] w fun e w' => ∃ m', PutOut m i false 2 e m' ∧ MapAt w' m' ∧ Only (· = m.b) w w' := by
  have ch := has_any i m w h
  rw [show decide (0 ≤ (i : Int) ∧ (i : Int) < m.n) = true by simp; omega] at ch
  have cu := used_in i m w h hi
  have HM : Hid (MapAt w m) := h
  clear h
  cases hb : used m.ws i with
  | false =>
    rw [hb] at cu
    have HB : Hid (used m.ws i = false) := hb
    clear hb
    go_enter Tryz.func66, Tryz.ntmps66
    go_wp2_with (first | (go_at_call 37; refine Calls_on ch ?_) | (go_at_call 38; refine cu.mono ?_; rintro e w1 ⟨rfl, h1⟩; have H : Hid (∃ k, w1 = w.drewN k) := h1; clear h1 cu))
    go_ret
    exact ⟨m, .inl ⟨HB.out, rfl, rfl⟩, HM.out.still H.out, only_drewN H.out⟩
  | true =>
    rw [hb] at cu
    have HB : Hid (used m.ws i = true) := hb
    clear hb
    go_enter Tryz.func66, Tryz.ntmps66
    go_wp2_with (first | (go_at_call 37; refine Calls_on ch ?_) | (go_at_call 38; refine cu.mono ?_; rintro e w1 ⟨rfl, h1⟩; have H : Hid (∃ k, w1 = w.drewN k) := h1; clear h1 cu; refine Stop.out ?_))
    refine Stop.mk ?_
    have ct := turn_any i m w1 (HM.out.still H.out) hi
    go_wp2_with (go_at_call 39; refine ct.mono ?_; rintro e w2 ⟨rfl, h2, o2⟩; have H2 : Hid (MapAt w2 (m.turn i) ∧ Only (· = m.b) w1 w2) := ⟨h2, o2⟩; clear h2 o2 ct)
    go_ret
    exact ⟨_, .inr ⟨HB.out, rfl, rfl⟩, H2.out.1, (only_drewN H.out).next H2.out.2⟩

/- Run. -/

end Go.Proofs.YtebdgcoandfocaaGreatDoor.Bm

/-
  New and Free of package bitmap.
-/
namespace Go.Proofs.YtebdgcoandfocaaGreatDoor.Bm
open Go.RowKit

theorem Tryz.info5 : (Tryz.prog.info? 5).map (fun i => (i.zero, i.size, i.bytes)) = some (some (.int .u8 0), 1, 1) := by kernel_rfl
theorem Tryz.infoU64 : (Tryz.prog.info? 61).map (fun i => (i.zero, i.size, i.bytes)) = some (some (.int .u64 0), 1, 8) := by kernel_rfl

theorem madeCells_one (z : Value) (n : Nat) : madeCells #[z] n = (List.replicate n z).toArray := by
  rw [← toList_madeCells_one]
/-- make of n cells of a type of one cell. -/
theorem run_make_rep (w : World) (t e : TypeId) (z : Value) (bytes : Nat) (ht : Tryz.prog.underlying t = some (.slice e)) (hi : (Tryz.prog.info? e).map (fun i => (i.zero, i.size, i.bytes)) = some (some z, 1, bytes)) (hz : z.cells = #[z]) (n : Nat) (hn : bytes * n ≤ 281474976710656) (h63 : n ≤ 9223372036854775807) :
    (Instr.makeSlice t (.int .i64 n) (.int .i64 n)).run Tryz.prog w = .ok (.slice (some ⟨w.heap.size, 0, none⟩) n n) (w.alloc (.cells (List.replicate n z).toArray e)) := by
  obtain ⟨i0, hi0, hz0, hz1, hz2⟩ := info_parts hi
  have hb : (bytes : Int) * (n : Int) ≤ 281474976710656 := by
    have h : ((bytes * n : Nat) : Int) ≤ 281474976710656 := by omega
    rwa [Int.natCast_mul] at h
  have := run_make (P := Tryz.prog) w t e i0 z ht hi0 hz0 .i64 .i64 n n (by omega) (Int.le_refl _) (by rw [hz2]; exact hb) (by omega)
  rw [this, hz1, hz, Int.toNat_natCast, Nat.mul_one, madeCells_one]

theorem used_zero (k i : Nat) : used (List.replicate k 0) i = false := by
  unfold used
  rw [List.getD, List.getElem?_replicate]
  split <;> simp

def newMS (s n : Nat) : MS := ⟨s + 1, s, n, (n + 63) / 64, List.replicate ((n + 63) / 64) 0⟩

set_option maxRecDepth 8000 in
set_option maxHeartbeats 400000 in
theorem new_in (n : Nat) (w : World) (hn : n ≤ 65536) (h0 : 1 < w.heap.size) : Calls Tryz.prog 22 #[.int .i64 n] w fun e w' => e = .returned (.pointer (some ⟨w.heap.size + 1, 0, none⟩)) ∧ MapAt w' (newMS w.heap.size n) ∧ Below w.heap.size w w' := by
  obtain ⟨q, hq⟩ : ∃ q, (n + 63) / 64 = q := ⟨_, rfl⟩
  have hmk := run_make_rep w 58 61 (.int .u64 0) 8 Tryz.underlying58 Tryz.infoU64 rfl q (by omega) (by omega)
  have eq : ((n : Int) + 64 - 1) / 64 = (q : Int) := by omega
  have H0 : Hid (1 < w.heap.size ∧ (n + 63) / 64 = q) := ⟨h0, hq⟩
  obtain ⟨w1, hw1⟩ : ∃ w1, w1 = w.alloc (.cells (List.replicate q (.int .u64 0)).toArray 61) := ⟨_, rfl⟩
  rw [← hw1] at hmk
  have hs1 : w1.heap.size = w.heap.size + 1 := by rw [hw1]; simp
  have H1 : Hid (w1.heap[w.heap.size]? = some (.cells (List.replicate q (.int .u64 0)).toArray 61 (0, 0)) ∧ Below w.heap.size w w1) := by
    rw [hw1]; exact ⟨heap_alloc_new w _, (below_new _ _).out⟩
  clear h0 hq hw1
  go_enter Tryz.func22, Tryz.ntmps22
  go_wp2
  go_ret
  obtain ⟨hpos, hq⟩ := H0.out
  obtain ⟨hr, hB⟩ := H1.out
  refine ⟨rfl, ⟨?_, ?_, ?_, hpos⟩, hB.trans ((below_new w1 _).out.mono (by omega))⟩
  · have := heap_alloc_new w1 (.cells #[.int .i64 n, .slice (some ⟨w.heap.size, 0, none⟩) q q] 60 (0, 0))
    rw [hs1] at this
    show _[w.heap.size + 1]? = _
    unfold newMS
    rw [List.length_replicate, hq]
    exact this
  · show RowAt _ w.heap.size (List.replicate ((n + 63) / 64) 0)
    refine ⟨_, (Below.heap_alloc w1 _ w.heap.size (by omega)).trans hr, fun j x hj => ?_⟩
    rw [hq, List.getElem?_replicate] at hj
    split at hj
    · cases hj
      simp [*]
    · cases hj
  · refine ⟨by simp [newMS], hn, fun j x hj => ?_⟩
    simp only [newMS, List.getElem?_replicate] at hj
    split at hj
    · cases hj; decide
    · cases hj

/- Free. -/

/-- How many of the first k are used. -/
def cnt (U : Nat → Bool) : Nat → Nat
  | 0 => 0
  | k + 1 => cnt U k + (U k).toNat
theorem cnt_le (U : Nat → Bool) (k : Nat) : cnt U k ≤ k := by
  induction k with
  | zero => exact Nat.le_refl _
  | succ k ih => unfold cnt; have : (U k).toNat ≤ 1 := by cases U k <;> decide
                 omega
theorem cnt_tight {U : Nat → Bool} {n : Nat} (h : ∀ i, n ≤ i → U i = false) (k : Nat) : cnt U (n + k) = cnt U n := by
  induction k with
  | zero => rfl
  | succ k ih => show cnt U (n + k) + (U (n + k)).toNat = _; rw [ih, h _ (by omega)]; rfl
theorem cnt_word (ws : List Nat) (j k : Nat) (hk : k ≤ 64) : cnt (used ws) (64 * j + k) = cnt (used ws) (64 * j) + popN (ws.getD j 0) k := by
  induction k with
  | zero => rfl
  | succ k ih =>
    show cnt (used ws) (64 * j + k) + (used ws (64 * j + k)).toNat = _
    have hu : used ws (64 * j + k) = (ws.getD j 0).testBit k := by
      unfold used
      rw [show (64 * j + k) / 64 = j by omega, show (64 * j + k) % 64 = k by omega]
    rw [ih (by omega), hu]
    show _ = _ + (popN (ws.getD j 0) k + ((ws.getD j 0).testBit k).toNat)
    omega
theorem cnt_all {n : Nat} {ws : List Nat} (h : Fit n ws) (ht : Tight n ws) : cnt (used ws) (64 * ws.length) = cnt (used ws) n := by
  have := cnt_tight ht (64 * ws.length - n)
  rwa [show n + (64 * ws.length - n) = 64 * ws.length by rw [h.len]; omega] at this

set_option maxRecDepth 8000 in
set_option maxHeartbeats 400000 in
theorem free_any (m : MS) (w : World) (h : MapAt w m) (ht : Tight m.n m.ws) : Calls Tryz.prog 9 #[.pointer (some ⟨m.a, 0, none⟩)] w fun e w' => e = .returned (.int .i64 (m.n - cnt (used m.ws) m.n : Nat)) ∧ w' = w := by
  have hm : m.n ≤ 65536 := h.fit.most
  have c0 := h.c0
  have c1 := h.c1
  have hlen : m.ws.length ≤ 1024 := by rw [h.fit.len]; omega
  have hc := cnt_le (used m.ws) m.n
  have HM : Hid (MapAt w m ∧ Tight m.n m.ws) := ⟨h, ht⟩
  clear h ht
  go_enter Tryz.func9, Tryz.ntmps9
  go_wp2
  go_loop [3, 17] (fun ff ii => ∃ i : Nat, i ≤ m.ws.length ∧ ii = .int .i64 i ∧ ff = .int .i64 ((m.n : Int) - cnt (used m.ws) (64 * i) )) (fun _ ii => m.ws.length - (intOf ii).toNat)
  case atStart => exact ⟨0, Nat.zero_le _, rfl, by simp [cnt]⟩
  case round =>
    obtain ⟨i, hi, rfl, rfl⟩ := hrel
    by_cases hlt : i < m.ws.length
    · have c2 := HM.out.1.row.cell (getD_some hlt)
      have co := ones_any (m.ws.getD i 0) (HM.out.1.fit.word i) w
      have hw := cnt_word m.ws i 64 (Nat.le_refl _)
      have hp := popN_le (m.ws.getD i 0) 64
      have hcl := cnt_le (used m.ws) (64 * i)
      have hltI : (i : Int) < m.ws.length := by omega
      generalize popN (m.ws.getD i 0) 64 = p at *
      generalize m.ws.getD i 0 = x at *
      obtain ⟨c, hcc⟩ : ∃ c, cnt (used m.ws) (64 * i) = c := ⟨_, rfl⟩
      rw [hcc] at hw hcl
      rw [hcc]
      have hcb : c ≤ 65536 := by omega
      have HX : Hid (cnt (used m.ws) (64 * i + 64) = c + p) := hw
      clear hw hcl hcc
      go_wp2_with (go_at_call 24; refine Calls_on co ?_)
      go_round
      case rel =>
        refine ⟨i + 1, by omega, by go_num, ?_⟩
        rw [show 64 * (i + 1) = 64 * i + 64 by omega, HX.out, Int.natCast_add]
        congr 1
        omega
      case measure => simp [intOf]; omega
    · obtain rfl : i = m.ws.length := by omega
      have hall : Hid (cnt (used m.ws) (64 * m.ws.length) = cnt (used m.ws) m.n) := cnt_all HM.out.1.fit HM.out.2
      go_wp2
      go_ret
      refine ⟨?_, rfl⟩
      show Ending.returned (.int .i64 _) = _
      rw [hall.out, Int.natCast_sub hc]

end Go.Proofs.YtebdgcoandfocaaGreatDoor.Bm

namespace Go.Proofs.YtebdgcoandfocaaGreatDoor.Bm
open Go.RowKit

/-- A byte as a value. -/
def u8v (b : BitVec 8) : Value := .int .u8 (b.toNat : Int)
/-- The bytes bs lie from p on. -/
def Bytes (w : World) (p : Option Addr) (bs : List (BitVec 8)) : Prop :=
  0 < bs.length → ∃ b o, p = some ⟨b, o, none⟩ ∧ ∀ (j : Nat) x, bs[j]? = some x → w.cell? ⟨b, o + j, none⟩ = some (u8v x)
/-- Byte i of the words. -/
def byteAt (ws : List Nat) (i : Nat) : BitVec 8 := BitVec.ofNat 8 (ws.getD (i / 8) 0 / 2 ^ (i % 8 * 8))
/-- The first k of n bytes. -/
def fillB (ws : List Nat) (n k : Nat) : List (BitVec 8) := (List.range n).map fun i => if i < k then byteAt ws i else 0#8
/- Copy. -/

theorem u64_one (ws : List Nat) : ∀ u ∈ ws.map (fun (x : Nat) => Value.int .u64 (x : Int)), u.oneCell' = true := by
  intro u hu
  obtain ⟨x, _, rfl⟩ := List.mem_map.1 hu
  rfl

/-- append, of which the run is known. -/
theorem wpList_append_run {W W' : World} {ops : Array Oper} {rest : List Oper} {o : Oper} {a : Act} {Q : Exit → Act → World → Prop} (hgd : o.guard = none) (s x : Operand) (t t' ty : TypeId)
    (ho : o.op = .call { callee := .builtin .append, args := #[s, x], argTypes := #[t, t'] }) (hty : o.type = ty) (v u v' : Value) (hs : a.eval s = v) (hx : a.eval x = u)
    (hr : (Builtin.append_ #[t, t'] ty #[v, u]).run Tryz.prog W = .ok v' W') (h : wpList Tryz.prog ops Q rest (a.put o.dst v') W') : wpList Tryz.prog ops Q (o :: rest) a W := by
  refine wpList_plain hgd fun K hK => ?_
  subst hty
  unfold Oper.wp execOp
  simp only [ho, resolve, invoke, builtin, Sem.run_bind, Sem.run_pure, Result.andThen_ok, List.map_toArray, List.map_cons, List.map_nil, hs, hx, hr]
  exact hK _ _ h
theorem below_of_drew {B : Nat} {w w' : World} (h : Below B w.drew w') : Below B w w' := ⟨h.os, h.tape, h.output, h.size, h.block⟩

set_option maxRecDepth 8000 in
set_option maxHeartbeats 400000 in
theorem clone_any (b : Nat) (ws : List Nat) (c : Nat) (w : World) (h : RowAt w b ws) (hl : ws.length ≤ 1024) : Calls Tryz.prog 62 #[.slice (some ⟨b, 0, none⟩) ws.length c] w fun e w' => ∃ g cap, e = .returned (.slice (some ⟨g, 0, none⟩) ws.length cap) ∧ w.heap.size ≤ g ∧ RowAt w' g ws ∧ Below w.heap.size w w' := by
  obtain ⟨i0, hi0, hz0, hz1, hz2⟩ := info_parts Tryz.infoU64
  obtain ⟨w1, hw1⟩ : ∃ w1, w1 = w.alloc (.cells #[] 61) := ⟨_, rfl⟩
  have hB1 : Below w.heap.size w w1 := by rw [hw1]; exact (below_new _ _).out
  have hs1 : w1.heap.size = w.heap.size + 1 := by rw [hw1]; simp
  have hown : w1.ownsRow w.heap.size 61 1 (.slice (some ⟨w.heap.size, 0, none⟩) 0 0) 0 [] := by
    rw [hw1]
    exact World.ownsRow_lit w #[] 0 (Nat.le_refl _) (by decide) rfl
  have h1 : RowAt w1 b ws := h.keep (Below.only hB1 (fun _ => False)) (fun h => h)
  obtain ⟨v', w2, hr, h2, h3, h4⟩ := run_append_own (P := Tryz.prog) w1 w.heap.size 58 58 61 i0 (.int .u64 0) 1 8 Tryz.underlying58 hi0 hz0 hz1 hz2 rfl (by decide) _ 0 [] hown ⟨b, 0, none⟩ ws.length c (ws.map (fun (x : Nat) => Value.int .u64 (x : Int))) (by simp)
    (fun j u hj => by
      rw [List.getElem?_map] at hj
      obtain ⟨x, hx, rfl⟩ := Option.map_eq_some_iff.1 hj
      rw [Addr.add_lit, Nat.zero_add]
      exact h1.cell hx) (u64_one ws) (by unfold maxLen; omega) (by omega) (by omega)
  have HR : Hid (∃ g cap, v' = .slice (some ⟨g, 0, none⟩) ws.length cap ∧ w.heap.size ≤ g ∧ RowAt w2 g ws) := by
    rcases h2.2 with ⟨e, _⟩ | ⟨g, cap, cur, e, hg, hblk, hcap, _, hcs, htk⟩
    · have := (h4.1 e).1
      cases this
    · rw [Nat.zero_add] at e
      refine ⟨g, cap, e, hg, cur, hblk, fun j x hj => ?_⟩
      have hjl := (List.getElem?_eq_some_iff.1 hj).1
      have : (cur.toList.take ((0 + ws.length) * 1))[j]? = some (.int .u64 (x : Int)) := by rw [htk]; simp [hj]
      rw [List.getElem?_take, if_pos (by omega)] at this
      simpa using this
  have HB : Hid (Below w.heap.size w w2) := (hB1.grown h3 (by omega) (by intro k hk; simp [Value.ownBlock] at hk; omega))
  clear h h1 h2 h3 h4 hown hB1 hs1 hi0 hz0 hz1 hz2
  obtain ⟨g, cap, rfl, h5, h6⟩ := HR.out
  have H5 : Hid (w.heap.size ≤ g ∧ RowAt w2 g ws) := ⟨h5, h6⟩
  clear h5 h6 HR
  have hnil : (binOp .eql 58 (.slice (some ⟨b, 0, none⟩) ws.length c) (.slice none 0 0)).run Tryz.prog w = .ok (.bool false) w := Lib.run_eql_slice_nil w 58 61 _ _ _ _ _ Tryz.underlying58
  go_enter Tryz.func62, Tryz.ntmps62
  go_wp2_with (at_builtin; rw [← hw1]; refine wpList_append_run rfl _ _ 58 58 58 rfl rfl _ _ _ rfl rfl hr ?_; clear hr hw1)
  go_ret
  exact ⟨g, cap, rfl, H5.out.1, H5.out.2, HB.out⟩

theorem copy_at {w w2 : World} {m : MS} {g cap : Nat} (h : MapAt w m) (hr : RowAt w2 g m.ws) (h0 : 1 < w.heap.size) (hg : w.heap.size ≤ g) :
    MapAt (w2.alloc (.cells #[.int .i64 m.n, .slice (some ⟨g, 0, none⟩) m.ws.length cap] 60)) ⟨w2.heap.size, g, m.n, cap, m.ws⟩ :=
  ⟨heap_alloc_new w2 _, hr.keep (Only.alloc (fun _ => False) w2 _) (fun h => h), h.fit, Nat.lt_of_lt_of_le h0 hg⟩

set_option maxRecDepth 8000 in
set_option maxHeartbeats 400000 in
theorem copy_any (m : MS) (w : World) (h : MapAt w m) (h0 : 1 < w.heap.size) : Calls Tryz.prog 40 #[.pointer (some ⟨m.a, 0, none⟩)] w fun e w' => ∃ m', e = .returned (.pointer (some ⟨m'.a, 0, none⟩)) ∧ m'.n = m.n ∧ m'.ws = m.ws ∧ MapAt w' m' ∧ w.heap.size ≤ m'.a ∧ w.heap.size ≤ m'.b ∧ Below w.heap.size w w' := by
  have c0 := h.c0
  have c1 := h.c1
  have hm := h.fit.most
  have cc := clone_any m.b m.ws m.c w.drew h.row (by rw [h.fit.len]; omega)
  have HM : Hid (MapAt w m ∧ 1 < w.heap.size) := ⟨h, h0⟩
  clear h h0
  go_enter Tryz.func40, Tryz.ntmps40
  go_wp2_with fail
  go_region_with (go_at_call 62; refine cc.mono ?_; rintro e w2 ⟨g, cap, rfl, h1, h2, h3⟩; have H : Hid (w.heap.size ≤ g ∧ RowAt w2 g m.ws ∧ Below w.heap.size w w2) := ⟨h1, h2, below_of_drew h3⟩; have d0 := (HM.out.1.below (below_of_drew h3)).c0; have d1 := (HM.out.1.below (below_of_drew h3)).c1; clear h1 h2 h3)
  all_goals go_wp2
  all_goals go_ret
  all_goals exact ⟨⟨w2.heap.size, g, m.n, cap, m.ws⟩, rfl, rfl, rfl, copy_at HM.out.1 H.out.2.1 HM.out.2 H.out.1, H.out.2.2.size, H.out.1, H.out.2.2.trans ((below_new w2 _).out.mono H.out.2.2.size)⟩

end Go.Proofs.YtebdgcoandfocaaGreatDoor.Bm
