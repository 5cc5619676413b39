/-
  turn, Used, tooLong of package bitmap.
-/
import Derived.Test.YtndefmchaohikaaDoorMbase
namespace Go.Proofs.YtndefmchaohikaaDoor
open Go.RowKit

/-- A halt for the walk. -/
structure Stop (p : Prop) : Prop where
  out : p

theorem wrapi {q : Nat} (h : q < 9223372036854775808) : IntKind.i64.wrap (q : Int) = (q : Int) := by
  simp [IntKind.wrap, IntKind.signed, IntKind.bits]; omega

set_option maxRecDepth 8000 in
set_option maxHeartbeats 400000 in
theorem turn_any (i : Nat) (m : MS) (w : World) (h : MapAt w m) (hi : i < m.n) : Calls Tryd.prog 23 #[.pointer (some ⟨m.a, 0, none⟩), .int .i64 i] w fun e w' => e = .returned (.tuple #[]) ∧ MapAt w' (m.turn i) ∧ Only (· = m.b) w w' := by
  have hm : m.n ≤ 65536 := h.fit.most
  have c1 := h.c1
  have hd := h.fit.div hi
  have c2 := h.row.cell (getD_some hd)
  have f2 := h.row.frozen (i / 64)
  have cb : ∀ W, Calls Tryd.prog 29 #[.int .i64 i] W fun e w' => e = .returned (.int .u64 ((2 ^ (i % 64) : Nat) : Int)) ∧ w' = W := fun W => bit_any i (by omega) W
  have ex : bits .xor .u64 ((m.ws.getD (i / 64) 0 : Nat) : Int) ((2 ^ (i % 64) : Nat) : Int) = ((m.ws.getD (i / 64) 0 ^^^ 2 ^ (i % 64) : Nat) : Int) := u64_xor_nat _ _ (h.fit.word _) (pow_bit i)
  have HT : Hid (MapAt (w.setCell ⟨m.b, i / 64, none⟩ (.int .u64 ((m.ws.getD (i / 64) 0 ^^^ 2 ^ (i % 64) : Nat) : Int))) (m.turn i)) := h.turn i
  generalize hx : m.ws.getD (i / 64) 0 = x at *
  generalize hp : 2 ^ (i % 64) = p at *
  generalize hy : x ^^^ p = y at *
  obtain ⟨q, hq⟩ : ∃ q, i / 64 = q := ⟨_, rfl⟩
  rw [hq] at hd c2 f2 HT
  have eq : (i : Int) / 64 = (q : Int) := by omega
  have hdI : (q : Int) < (m.ws.length : Int) := by omega
  have hwq : IntKind.i64.wrap (q : Int) = (q : Int) := wrapi (by omega)
  clear h hx hp hy hq
  go_enter Tryd.func23, Tryd.ntmps23
  go_wp2
  go_region_with (go_at_call 29; refine Calls_on (cb _) ?_)
  all_goals go_wp2
  all_goals go_end0
  all_goals exact ⟨rfl, HT.out.drew, (Only.setCell (S := (· = m.b)) w ⟨m.b, q, none⟩ _ rfl).drew⟩

theorem MapAt.drewN {w : World} {m : MS} (h : MapAt w m) (k : Nat) : MapAt (w.drewN k) m := ⟨h.st, h.row, h.fit, h.pos⟩
theorem Only.drewN {S : Nat → Prop} {w w' : World} (h : Only S w w') (k : Nat) : Only S w (w'.drewN k) := ⟨h.os, h.tape, h.output, h.size, h.block⟩

/-- A bit, as a mask tells it. -/
theorem mask_bit (x i : Nat) : (((x &&& 2 ^ i : Nat) : Int) != 0) = x.testBit i := by
  rw [nat_bit]
  have hp : 0 < 2 ^ i := Nat.two_pow_pos i
  have ht : x.testBit i = decide (x / 2 ^ i % 2 = 1) := Nat.testBit_eq_decide_div_mod_eq
  rw [ht]
  rcases Nat.mod_two_eq_zero_or_one (x / 2 ^ i) with h | h
  · rw [h]; simp
  · rw [h, Nat.one_mul]
    generalize 2 ^ i = p at hp
    simp
    omega

set_option maxRecDepth 8000 in
set_option maxHeartbeats 400000 in
theorem used_in (i : Nat) (m : MS) (w : World) (h : MapAt w m) (hi : i < m.n) : Calls Tryd.prog 20 #[.pointer (some ⟨m.a, 0, none⟩), .int .i64 i] w fun e w' => e = .returned (.bool (used m.ws i)) ∧ ∃ k, w' = w.drewN k := by
  have hm : m.n ≤ 65536 := h.fit.most
  have c1 := h.c1
  have hd := h.fit.div hi
  have c2 := h.row.cell (getD_some hd)
  have cb : ∀ W, Calls Tryd.prog 29 #[.int .i64 i] W fun e w' => e = .returned (.int .u64 ((2 ^ (i % 64) : Nat) : Int)) ∧ w' = W := fun W => bit_any i (by omega) W
  have ch : ∀ k, Calls Tryd.prog 22 #[.pointer (some ⟨m.a, 0, none⟩), .int .i64 i] (w.drewN k) fun e w' => e = .returned (.bool true) ∧ w' = w.drewN k := fun k => by
    have := has_any i m (w.drewN k) (h.drewN k)
    rwa [show decide (0 ≤ (i : Int) ∧ (i : Int) < m.n) = true by simp; omega] at this
  have ex : bits .and .u64 ((m.ws.getD (i / 64) 0 : Nat) : Int) ((2 ^ (i % 64) : Nat) : Int) = ((m.ws.getD (i / 64) 0 &&& 2 ^ (i % 64) : Nat) : Int) := u64_and_nat _ _ (h.fit.word _) (pow_bit i)
  have HU : Hid ((((m.ws.getD (i / 64) 0 &&& 2 ^ (i % 64) : Nat) : Int) != 0) = used m.ws i) := mask_bit _ _
  generalize hx : m.ws.getD (i / 64) 0 = x at *
  generalize hp : 2 ^ (i % 64) = p at *
  generalize hy : x &&& p = y at *
  obtain ⟨q, hq⟩ : ∃ q, i / 64 = q := ⟨_, rfl⟩
  rw [hq] at hd c2
  have eq : (i : Int) / 64 = (q : Int) := by omega
  have hdI : (q : Int) < (m.ws.length : Int) := by omega
  have hwq : IntKind.i64.wrap (q : Int) = (q : Int) := wrapi (by omega)
  clear h hx hp hy hq
  go_enter Tryd.func20, Tryd.ntmps20
  go_wp2_with fail
  go_quiet ((first | (go_at_call 22; exact Calls.quiet_of_same (ch _)) | (go_at_call 29; exact Calls.quiet_of_same (cb _))))
  go_wp2
  go_ret
  exact ⟨by rw [HU.out]; rfl, _, rfl⟩

set_option maxRecDepth 8000 in
set_option maxHeartbeats 400000 in
theorem used_out (i : Int) (m : MS) (w : World) (h : MapAt w m) (hi : ¬ (0 ≤ i ∧ i < m.n)) : Calls Tryd.prog 20 #[.pointer (some ⟨m.a, 0, none⟩), .int .i64 i] w fun e w' => e = .returned (.bool false) ∧ ∃ k, w' = w.drewN k := by
  have ch : ∀ k, Calls Tryd.prog 22 #[.pointer (some ⟨m.a, 0, none⟩), .int .i64 i] (w.drewN k) fun e w' => e = .returned (.bool false) ∧ w' = w.drewN k := fun k => by
    have := has_any i m (w.drewN k) (h.drewN k)
    rwa [show decide (0 ≤ (i : Int) ∧ (i : Int) < m.n) = false by simpa using hi] at this
  clear h hi
  go_enter Tryd.func20, Tryd.ntmps20
  go_wp2_with fail
  go_quiet ((go_at_call 22; exact Calls.quiet_of_same (ch _)))
  go_wp2
  go_ret
  exact ⟨rfl, _, rfl⟩

set_option maxRecDepth 8000 in
set_option maxHeartbeats 400000 in
theorem used_nil (i : Int) (w : World) : Calls Tryd.prog 20 #[.pointer none, .int .i64 i] w fun e w' => e = .returned (.bool false) ∧ ∃ k, w' = w.drewN k := by
  have ch : ∀ k, Calls Tryd.prog 22 #[.pointer none, .int .i64 i] (w.drewN k) fun e w' => e = .returned (.bool false) ∧ w' = w.drewN k := fun k => has_nil i (w.drewN k)
  go_enter Tryd.func20, Tryd.ntmps20
  go_wp2_with fail
  go_quiet ((go_at_call 22; exact Calls.quiet_of_same (ch _)))
  go_wp2
  go_ret
  exact ⟨rfl, _, rfl⟩

/-- Whether a bit behind the last number is 1. -/
def tooLongB (n : Nat) (ws : List Nat) : Bool := if n % 64 = 0 then false else (((ws.getD (n / 64) 0 : Nat) : Int) / 2 ^ (n % 64) != 0)

theorem tight_iff {n : Nat} {ws : List Nat} (h : Fit n ws) : tooLongB n ws = false ↔ Tight n ws := by
  unfold tooLongB Tight
  by_cases h0 : n % 64 = 0
  · rw [if_pos h0]
    refine ⟨fun _ i hi => ?_, fun _ => rfl⟩
    unfold used
    rw [List.getD, List.getElem?_eq_none (by rw [h.len]; omega)]
    simp
  · rw [if_neg h0]
    have hc : (((ws.getD (n / 64) 0 : Nat) : Int) / 2 ^ (n % 64) != 0) = (ws.getD (n / 64) 0 / 2 ^ (n % 64) != 0) := by
      have : ((ws.getD (n / 64) 0 : Nat) : Int) / 2 ^ (n % 64) = ((ws.getD (n / 64) 0 / 2 ^ (n % 64) : Nat) : Int) := by simp
      rw [this, Bool.eq_iff_iff]
      simp only [bne_iff_ne, ne_eq]
      omega
    rw [hc]
    constructor
    · intro hz i hi
      have hz' : ws.getD (n / 64) 0 / 2 ^ (n % 64) = 0 := by simpa using hz
      unfold used
      by_cases hl : i / 64 < ws.length
      · have e : i / 64 = n / 64 := by rw [h.len] at hl; omega
        rw [e]
        have hb : (ws.getD (n / 64) 0 / 2 ^ (n % 64)).testBit (i % 64 - n % 64) = false := by rw [hz']; simp
        rw [Nat.testBit_div_two_pow] at hb
        rwa [show i % 64 - n % 64 + n % 64 = i % 64 by omega] at hb
      · rw [List.getD, List.getElem?_eq_none (by omega)]; simp
    · intro hT
      have : ws.getD (n / 64) 0 / 2 ^ (n % 64) = 0 := by
        apply Nat.eq_of_testBit_eq
        intro j
        rw [Nat.testBit_div_two_pow, Nat.zero_testBit, Nat.add_comm]
        by_cases hj : n % 64 + j < 64
        · have := hT (n / 64 * 64 + (n % 64 + j)) (by omega)
          unfold used at this
          rwa [show (n / 64 * 64 + (n % 64 + j)) / 64 = n / 64 by omega, show (n / 64 * 64 + (n % 64 + j)) % 64 = n % 64 + j by omega] at this
        · exact Nat.testBit_lt_two_pow (Nat.lt_of_lt_of_le (h.word _) (show 2 ^ 64 ≤ _ from Nat.pow_le_pow_right (by decide) (by omega)))
      simpa using this

set_option maxRecDepth 8000 in
set_option maxHeartbeats 400000 in
theorem tooLong_any (m : MS) (w : World) (h : MapAt w m) : Calls Tryd.prog 26 #[.pointer (some ⟨m.a, 0, none⟩)] w fun e w' => e = .returned (.bool (tooLongB m.n m.ws)) ∧ ∃ k, w' = w.drewN k := by
  have hm : m.n ≤ 65536 := h.fit.most
  have c0 := h.c0
  have c1 := h.c1
  unfold tooLongB
  by_cases h0 : m.n % 64 = 0
  · rw [if_pos h0]
    have e0 : (m.n : Int) % 64 = 0 := by omega
    clear h h0
    go_enter Tryd.func26, Tryd.ntmps26
    go_wp2_with fail
    go_quiet (fail)
    go_wp2
    go_ret
    exact ⟨rfl, _, rfl⟩
  · rw [if_neg h0]
    have hd : m.n / 64 < m.ws.length := by rw [h.fit.len]; omega
    have c2 := h.row.cell (getD_some hd)
    generalize hx : m.ws.getD (m.n / 64) 0 = x at *
    obtain ⟨q, hq⟩ : ∃ q, m.n / 64 = q := ⟨_, rfl⟩
    obtain ⟨r, hr⟩ : ∃ r, m.n % 64 = r := ⟨_, rfl⟩
    rw [hr] at h0
    rw [hq] at hd c2
    have eq : (m.n : Int) / 64 = (q : Int) := by omega
    have er : (m.n : Int) % 64 = (r : Int) := by omega
    have hdI : (q : Int) < (m.ws.length : Int) := by omega
    have hwq : IntKind.i64.wrap (q : Int) = (q : Int) := wrapi (by omega)
    have hr64 : r ≤ 64 := by omega
    have hr0 : ((r : Int) != 0) = true := by simpa using h0
    rw [hr]
    clear h hx hq hr h0
    go_enter Tryd.func26, Tryd.ntmps26
    go_wp2_with fail
    go_quiet (fail)
    go_wp2
    go_ret
    exact ⟨rfl, _, rfl⟩

end Go.Proofs.YtndefmchaohikaaDoor
