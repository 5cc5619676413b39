/-
  Of no program: how many bits of a number of 64 bits are 1, as package math/bits counts them.
-/
namespace Go.Proofs.YtndefmchaohikaaDoor

/-- How many of the first k bits of x are 1. -/
def popN (x : Nat) : Nat → Nat
  | 0 => 0
  | k + 1 => popN x k + (x.testBit k).toNat

theorem popN_zero (k : Nat) : popN 0 k = 0 := by
  induction k with
  | zero => rfl
  | succ k ih => simp [popN, ih]
theorem popN_le (x k : Nat) : popN x k ≤ k := by
  induction k with
  | zero => exact Nat.le_refl _
  | succ k ih => unfold popN; have : (x.testBit k).toNat ≤ 1 := by cases x.testBit k <;> decide
                 omega

theorem testBit_low (c r i : Nat) (hc : c < 256) (hi : i < 8) : (c + 256 * r).testBit i = c.testBit i := by
  have := Nat.testBit_two_pow_mul_add r (b := c) (i := 8) hc i
  rw [if_pos hi] at this
  rw [← this, Nat.add_comm]
theorem testBit_high (c r i : Nat) (hc : c < 256) : (c + 256 * r).testBit (8 + i) = r.testBit i := by
  have := Nat.testBit_two_pow_mul_add r (b := c) (i := 8) hc (8 + i)
  rw [if_neg (by omega), show 8 + i - 8 = i by omega] at this
  rw [← this, Nat.add_comm]

theorem popN_low (c r : Nat) (hc : c < 256) (k : Nat) (hk : k ≤ 8) : popN (c + 256 * r) k = popN c k := by
  induction k with
  | zero => rfl
  | succ k ih => unfold popN; rw [ih (by omega), testBit_low c r k hc (by omega)]
theorem popN_split (c r : Nat) (hc : c < 256) (k : Nat) : popN (c + 256 * r) (8 + k) = popN c 8 + popN r k := by
  induction k with
  | zero => exact popN_low c r hc 8 (Nat.le_refl _)
  | succ k ih => show popN (c + 256 * r) (8 + k) + ((c + 256 * r).testBit (8 + k)).toNat = popN c 8 + (popN r k + (r.testBit k).toNat); rw [ih, testBit_high c r k hc]; omega

/-- The bits of two numbers, byte by byte. -/
theorem and_split (a m r s : Nat) (ha : a < 256) (hm : m < 256) : (a + 256 * r) &&& (m + 256 * s) = (a &&& m) + 256 * (r &&& s) := by
  have hx : a &&& m < 256 := Nat.and_lt_two_pow (n := 8) _ hm
  apply Nat.eq_of_testBit_eq
  intro i
  by_cases hi : i < 8
  · rw [Nat.testBit_and, testBit_low _ _ _ ha hi, testBit_low _ _ _ hm hi, testBit_low _ _ _ hx hi, Nat.testBit_and]
  · obtain ⟨j, rfl⟩ : ∃ j, i = 8 + j := ⟨i - 8, by omega⟩
    rw [Nat.testBit_and, testBit_high _ _ _ ha, testBit_high _ _ _ hm, testBit_high _ _ _ hx, Nat.testBit_and]

/-- Eight bytes. -/
def eight (a b c d e f g h : Nat) : Nat := a + 256 * (b + 256 * (c + 256 * (d + 256 * (e + 256 * (f + 256 * (g + 256 * h))))))

theorem and_eight (a b c d e f g h m : Nat) (hm : m < 256) (h0 : a < 256) (h1 : b < 256) (h2 : c < 256) (h3 : d < 256) (h4 : e < 256) (h5 : f < 256) (h6 : g < 256) :
    eight a b c d e f g h &&& eight m m m m m m m m = eight (a &&& m) (b &&& m) (c &&& m) (d &&& m) (e &&& m) (f &&& m) (g &&& m) (h &&& m) := by
  unfold eight
  rw [and_split _ _ _ _ h0 hm, and_split _ _ _ _ h1 hm, and_split _ _ _ _ h2 hm, and_split _ _ _ _ h3 hm, and_split _ _ _ _ h4 hm, and_split _ _ _ _ h5 hm, and_split _ _ _ _ h6 hm]

theorem eight_of (x : Nat) (hx : x < 18446744073709551616) : ∃ a b c d e f g h, x = eight a b c d e f g h ∧ a < 256 ∧ b < 256 ∧ c < 256 ∧ d < 256 ∧ e < 256 ∧ f < 256 ∧ g < 256 ∧ h < 256 := by
  refine ⟨x % 256, x / 256 % 256, x / 256 / 256 % 256, x / 256 / 256 / 256 % 256, x / 256 / 256 / 256 / 256 % 256, x / 256 / 256 / 256 / 256 / 256 % 256, x / 256 / 256 / 256 / 256 / 256 / 256 % 256, x / 256 / 256 / 256 / 256 / 256 / 256 / 256, ?_, ?_, ?_, ?_, ?_, ?_, ?_, ?_, ?_⟩
  · unfold eight; omega
  all_goals omega

theorem pop_eight (a b c d e f g h : Nat) (h0 : a < 256) (h1 : b < 256) (h2 : c < 256) (h3 : d < 256) (h4 : e < 256) (h5 : f < 256) (h6 : g < 256) :
    popN (eight a b c d e f g h) 64 = popN a 8 + popN b 8 + popN c 8 + popN d 8 + popN e 8 + popN f 8 + popN g 8 + popN h 8 := by
  unfold eight
  rw [popN_split a _ h0 56, popN_split b _ h1 48, popN_split c _ h2 40, popN_split d _ h3 32, popN_split e _ h4 24, popN_split f _ h5 16, popN_split g _ h6 8]
  omega

/- The first three steps, of one byte. -/
def pf1 (c : Nat) : Nat := (c / 2 &&& 85) + (c &&& 85)
def pf2 (c : Nat) : Nat := (c / 4 &&& 51) + (c &&& 51)
def pf3 (c : Nat) : Nat := (c / 16 + c) % 16
theorem pf1_lt : ∀ c, c < 256 → pf1 c < 256 := by decide +kernel
theorem pf2_lt : ∀ c, c < 256 → pf2 c < 256 := by decide +kernel
theorem pf2_low : ∀ c, c < 256 → pf2 (pf1 c) / 16 ≤ 4 ∧ pf2 (pf1 c) % 16 ≤ 4 := by decide +kernel
theorem pf_pop : ∀ c, c < 256 → pf3 (pf2 (pf1 c)) = popN c 8 := by decide +kernel
theorem pf1_mask : ∀ c, c < 256 → ∀ b, b < 2 → (c / 2 + 128 * b) &&& 85 = (c / 2) &&& 85 := by decide +kernel
theorem pf2_mask : ∀ c, c < 256 → ∀ b, b < 4 → (c / 4 + 64 * b) &&& 51 = (c / 4) &&& 51 := by decide +kernel

theorem half_eight (a b c d e f g h : Nat) : eight a b c d e f g h / 2 = eight (a / 2 + 128 * (b % 2)) (b / 2 + 128 * (c % 2)) (c / 2 + 128 * (d % 2)) (d / 2 + 128 * (e % 2)) (e / 2 + 128 * (f % 2)) (f / 2 + 128 * (g % 2)) (g / 2 + 128 * (h % 2)) (h / 2) := by
  unfold eight; omega
theorem fourth_eight (a b c d e f g h : Nat) : eight a b c d e f g h / 4 = eight (a / 4 + 64 * (b % 4)) (b / 4 + 64 * (c % 4)) (c / 4 + 64 * (d % 4)) (d / 4 + 64 * (e % 4)) (e / 4 + 64 * (f % 4)) (f / 4 + 64 * (g % 4)) (g / 4 + 64 * (h % 4)) (h / 4) := by
  unfold eight; omega
theorem part_eight (a b c d e f g h : Nat) : eight a b c d e f g h / 16 = eight (a / 16 + 16 * (b % 16)) (b / 16 + 16 * (c % 16)) (c / 16 + 16 * (d % 16)) (d / 16 + 16 * (e % 16)) (e / 16 + 16 * (f % 16)) (f / 16 + 16 * (g % 16)) (g / 16 + 16 * (h % 16)) (h / 16) := by
  unfold eight; omega
theorem add_eight (a b c d e f g h a' b' c' d' e' f' g' h' : Nat) : eight a b c d e f g h + eight a' b' c' d' e' f' g' h' = eight (a + a') (b + b') (c + c') (d + d') (e + e') (f + f') (g + g') (h + h') := by
  unfold eight; omega

theorem pop_step1 (a b c d e f g h : Nat) (h0 : a < 256) (h1 : b < 256) (h2 : c < 256) (h3 : d < 256) (h4 : e < 256) (h5 : f < 256) (h6 : g < 256) :
    (eight a b c d e f g h / 2 &&& 6148914691236517205) + (eight a b c d e f g h &&& 6148914691236517205) = eight (pf1 a) (pf1 b) (pf1 c) (pf1 d) (pf1 e) (pf1 f) (pf1 g) (pf1 h) := by
  have hm : 6148914691236517205 = eight 85 85 85 85 85 85 85 85 := by decide
  rw [hm, half_eight, and_eight _ _ _ _ _ _ _ _ 85 (by decide) (by omega) (by omega) (by omega) (by omega) (by omega) (by omega) (by omega), and_eight _ _ _ _ _ _ _ _ 85 (by decide) h0 h1 h2 h3 h4 h5 h6, add_eight,
    pf1_mask a h0 _ (by omega), pf1_mask b h1 _ (by omega), pf1_mask c h2 _ (by omega), pf1_mask d h3 _ (by omega), pf1_mask e h4 _ (by omega), pf1_mask f h5 _ (by omega), pf1_mask g h6 _ (by omega)]
  rfl
theorem pop_step2 (a b c d e f g h : Nat) (h0 : a < 256) (h1 : b < 256) (h2 : c < 256) (h3 : d < 256) (h4 : e < 256) (h5 : f < 256) (h6 : g < 256) :
    (eight a b c d e f g h / 4 &&& 3689348814741910323) + (eight a b c d e f g h &&& 3689348814741910323) = eight (pf2 a) (pf2 b) (pf2 c) (pf2 d) (pf2 e) (pf2 f) (pf2 g) (pf2 h) := by
  have hm : 3689348814741910323 = eight 51 51 51 51 51 51 51 51 := by decide
  rw [hm, fourth_eight, and_eight _ _ _ _ _ _ _ _ 51 (by decide) (by omega) (by omega) (by omega) (by omega) (by omega) (by omega) (by omega), and_eight _ _ _ _ _ _ _ _ 51 (by decide) h0 h1 h2 h3 h4 h5 h6, add_eight,
    pf2_mask a h0 _ (by omega), pf2_mask b h1 _ (by omega), pf2_mask c h2 _ (by omega), pf2_mask d h3 _ (by omega), pf2_mask e h4 _ (by omega), pf2_mask f h5 _ (by omega), pf2_mask g h6 _ (by omega)]
  rfl
theorem and15 (x : Nat) : x &&& 15 = x % 16 := Nat.and_two_pow_sub_one_eq_mod x 4
theorem pf3_of (x t : Nat) : (x / 16 + 16 * t + x) % 16 = pf3 x := by unfold pf3; omega
theorem pop_step3 (a b c d e f g h : Nat) (h0 : a / 16 ≤ 4 ∧ a % 16 ≤ 4) (h1 : b / 16 ≤ 4 ∧ b % 16 ≤ 4) (h2 : c / 16 ≤ 4 ∧ c % 16 ≤ 4) (h3 : d / 16 ≤ 4 ∧ d % 16 ≤ 4) (h4 : e / 16 ≤ 4 ∧ e % 16 ≤ 4) (h5 : f / 16 ≤ 4 ∧ f % 16 ≤ 4) (h6 : g / 16 ≤ 4 ∧ g % 16 ≤ 4) (h7 : h / 16 ≤ 4 ∧ h % 16 ≤ 4) :
    (eight a b c d e f g h / 16 + eight a b c d e f g h) &&& 1085102592571150095 = eight (pf3 a) (pf3 b) (pf3 c) (pf3 d) (pf3 e) (pf3 f) (pf3 g) (pf3 h) := by
  have hm : 1085102592571150095 = eight 15 15 15 15 15 15 15 15 := by decide
  rw [hm, part_eight, add_eight, and_eight _ _ _ _ _ _ _ _ 15 (by decide) (by omega) (by omega) (by omega) (by omega) (by omega) (by omega) (by omega)]
  simp only [and15, pf3_of]
  rfl

theorem pop_end (a b c d e f g h : Nat) (h0 : a ≤ 8) (h1 : b ≤ 8) (h2 : c ≤ 8) (h3 : d ≤ 8) (h4 : e ≤ 8) (h5 : f ≤ 8) (h6 : g ≤ 8) (h7 : h ≤ 8) (x4 x5 x6 : Nat)
    (e4 : x4 = eight a b c d e f g h + eight a b c d e f g h / 256) (e5 : x5 = x4 + x4 / 65536) (e6 : x6 = x5 + x5 / 4294967296) : x6 < 18446744073709551616 ∧ x5 < 18446744073709551616 ∧ x4 < 18446744073709551616 ∧ x6 % 128 = a + b + c + d + e + f + g + h := by
  have d4 : eight a b c d e f g h / 256 = eight b c d e f g h 0 := by unfold eight; omega
  rw [d4, add_eight] at e4
  have d5 : x4 / 65536 = eight (c + d) (d + e) (e + f) (f + g) (g + h) (h + 0) 0 0 := by rw [e4]; unfold eight; omega
  rw [d5, e4, add_eight] at e5
  have d6 : x5 / 4294967296 = eight (e + f + (g + h)) (f + g + (h + 0)) (g + h + 0) (h + 0 + 0) 0 0 0 0 := by rw [e5]; unfold eight; omega
  rw [d6, e5, add_eight] at e6
  subst e6 e5 e4
  unfold eight
  refine ⟨?_, ?_, ?_, ?_⟩ <;> omega

theorem eight_lt (a b c d e f g h : Nat) (h0 : a < 256) (h1 : b < 256) (h2 : c < 256) (h3 : d < 256) (h4 : e < 256) (h5 : f < 256) (h6 : g < 256) (h7 : h < 256) : eight a b c d e f g h < 18446744073709551616 := by
  unfold eight; omega
theorem part_lt (a b c d e f g h : Nat) (h0 : a / 16 ≤ 4 ∧ a % 16 ≤ 4) (h1 : b / 16 ≤ 4 ∧ b % 16 ≤ 4) (h2 : c / 16 ≤ 4 ∧ c % 16 ≤ 4) (h3 : d / 16 ≤ 4 ∧ d % 16 ≤ 4) (h4 : e / 16 ≤ 4 ∧ e % 16 ≤ 4) (h5 : f / 16 ≤ 4 ∧ f % 16 ≤ 4) (h6 : g / 16 ≤ 4 ∧ g % 16 ≤ 4) (h7 : h / 16 ≤ 4 ∧ h % 16 ≤ 4) :
    eight a b c d e f g h / 16 + eight a b c d e f g h < 18446744073709551616 := by
  rw [part_eight, add_eight]
  exact eight_lt _ _ _ _ _ _ _ _ (by omega) (by omega) (by omega) (by omega) (by omega) (by omega) (by omega) (by omega)

/-- The steps of the count. -/
structure Pops (x x1 x2 s x3 x4 x5 x6 : Nat) : Prop where
  e1 : x1 = (x / 2 &&& 6148914691236517205) + (x &&& 6148914691236517205)
  l1 : x1 < 18446744073709551616
  e2 : x2 = (x1 / 4 &&& 3689348814741910323) + (x1 &&& 3689348814741910323)
  l2 : x2 < 18446744073709551616
  es : s = x2 / 16 + x2
  ls : s < 18446744073709551616
  e3 : x3 = s &&& 1085102592571150095
  e4 : x4 = x3 + x3 / 256
  l4 : x4 < 18446744073709551616
  e5 : x5 = x4 + x4 / 65536
  l5 : x5 < 18446744073709551616
  e6 : x6 = x5 + x5 / 4294967296
  l6 : x6 < 18446744073709551616
  e7 : x6 % 128 = popN x 64

/-- All steps of the count. -/
theorem pop_all (x : Nat) (hx : x < 18446744073709551616) : ∃ x1 x2 s x3 x4 x5 x6 : Nat, Pops x x1 x2 s x3 x4 x5 x6 := by
  obtain ⟨a, b, c, d, e, f, g, h, rfl, h0, h1, h2, h3, h4, h5, h6, h7⟩ := eight_of x hx
  have s1 := pop_step1 a b c d e f g h h0 h1 h2 h3 h4 h5 h6
  have s2 := pop_step2 _ _ _ _ _ _ _ (pf1 h) (pf1_lt a h0) (pf1_lt b h1) (pf1_lt c h2) (pf1_lt d h3) (pf1_lt e h4) (pf1_lt f h5) (pf1_lt g h6)
  have s3 := pop_step3 _ _ _ _ _ _ _ _ (pf2_low a h0) (pf2_low b h1) (pf2_low c h2) (pf2_low d h3) (pf2_low e h4) (pf2_low f h5) (pf2_low g h6) (pf2_low h h7)
  have ls := part_lt _ _ _ _ _ _ _ _ (pf2_low a h0) (pf2_low b h1) (pf2_low c h2) (pf2_low d h3) (pf2_low e h4) (pf2_low f h5) (pf2_low g h6) (pf2_low h h7)
  have l1 := eight_lt _ _ _ _ _ _ _ _ (pf1_lt a h0) (pf1_lt b h1) (pf1_lt c h2) (pf1_lt d h3) (pf1_lt e h4) (pf1_lt f h5) (pf1_lt g h6) (pf1_lt h h7)
  have l2 := eight_lt _ _ _ _ _ _ _ _ (pf2_lt _ (pf1_lt a h0)) (pf2_lt _ (pf1_lt b h1)) (pf2_lt _ (pf1_lt c h2)) (pf2_lt _ (pf1_lt d h3)) (pf2_lt _ (pf1_lt e h4)) (pf2_lt _ (pf1_lt f h5)) (pf2_lt _ (pf1_lt g h6)) (pf2_lt _ (pf1_lt h h7))
  rw [pf_pop a h0, pf_pop b h1, pf_pop c h2, pf_pop d h3, pf_pop e h4, pf_pop f h5, pf_pop g h6, pf_pop h h7] at s3
  obtain ⟨q6, q5, q4, q⟩ := pop_end _ _ _ _ _ _ _ _ (popN_le a 8) (popN_le b 8) (popN_le c 8) (popN_le d 8) (popN_le e 8) (popN_le f 8) (popN_le g 8) (popN_le h 8) _ _ _ rfl rfl rfl
  have p := pop_eight a b c d e f g h h0 h1 h2 h3 h4 h5 h6
  exact ⟨_, _, _, _, _, _, _, s1.symm, l1, s2.symm, l2, rfl, ls, s3.symm, rfl, q4, rfl, q5, rfl, q6, q.trans p.symm⟩

end Go.Proofs.YtndefmchaohikaaDoor
