/-
  No file; ContentNone.
-/
import Derived.Test.YteimjkicinjcgaaKLy

namespace Go.Proofs.Yteimjkicinjcgaa.Ck.Y.L
open Go.RowKit Go.Maps Go.Lib

theorem zop_in (w : World) : WIn w ⟨0, 0, 0, 0, 0, 0, 0, 0, ⟨#[]⟩, none, 0, 0, none, 0, 0⟩ [] [] := ⟨fun h => absurd h (by simp), rfl, by simp, by simp, fun h => absurd h (by simp), rfl, by simp, by simp, Nat.zero_le _⟩
set_option maxRecDepth 8000 in
set_option maxHeartbeats 1000000 in
theorem add_nil (o : OG) (w : World) : Calls Try.prog 10 #[.pointer none, opgv o] w fun e w' => e = .returned (.int .i64 22) ∧ Below w.heap.size w w' := by
  have HB : Hid (∀ x, Below w.heap.size w (w.alloc x)) := fun x => (below_new w x).out
  obtain ⟨t, n, sq, kd, ot, on, pt, pn, nm, dp, dl, dc, sp, sl, sc⟩ := o
  simp only [opgv, opgC] at *
  go_enter Try.func10, Try.ntmps10
  go_wp2
  go_ret
  exact ⟨rfl, HB.out _⟩
theorem heads_nil (w : World) : Calls Try.prog 14 #[.pointer none] w fun e w' => e = .returned (.slice none 0 0) ∧ Below w.heap.size w w' := by
  go_enter Try.func14, Try.ntmps14
  go_wp2
  go_ret
  exact ⟨rfl, Below.refl _ _⟩
theorem last_nil (w : World) : Calls Try.prog 35 #[.pointer none] w fun e w' => e = .returned (.agg #[.int .i64 0, .int .i64 0, .int .i64 0, .slice none 0 0, .slice none 0 0]) ∧ Below w.heap.size w w' := by
  go_enter Try.func35, Try.ntmps35
  go_wp2
  refine bodyPost_ret (v := .agg #[.int .i64 0, .int .i64 0, .int .i64 0, .slice none 0 0, .slice none 0 0]) (by simp [results, Try.results35, go_sem]) rfl ?_
  exact ⟨rfl, (below_new w _).out⟩
theorem value_nil (w : World) : Calls Try.prog 15 #[.pointer none] w fun e w' => e = .returned (.slice none 0 0) ∧ Below w.heap.size w w' := by
  have c1 := last_nil w
  have f3 := fld3
  have HC : Hid (∀ W, Calls Try.prog 34 #[.slice none 0 0] W fun e w' => e = .returned (.slice none 0 0) ∧ Below W.heap.size W w') := fun W => by
    have qT : ∀ (w : World) (a : Option Addr) (n c n' c' : Nat), (binOp .eql 31 (.slice a n c) (.slice none n' c')).run Try.prog w = .ok (.bool a.isNone) w := fun w a n c n' c' => Lib.run_eql_slice_nil w _ _ a n c n' c' Try.underlying31
    clear c1 f3
    go_enter Try.func34, Try.ntmps34
    go_wp2
    go_ret
    exact ⟨rfl, Below.refl _ _⟩
  go_enter Try.func15, Try.ntmps15
  go_wp2_with (first
    | (go_at_call 35; refine Calls_new c1 ?_; clear c1; intro w1 HB1)
    | (go_at_call 34; refine Calls_new (HC.out _) ?_; clear HC; intro w2 HB2))
  go_ret
  exact ⟨rfl, below_thenH HB1.out HB2.out⟩
theorem size_nil (w : World) : Calls Try.prog 16 #[.pointer none] w fun e w' => e = .returned (.int .i64 0) ∧ Below w.heap.size w w' := by
  have c1 := last_nil w
  have f3 := fld3
  go_enter Try.func16, Try.ntmps16
  go_wp2_with (go_at_call 35; refine Calls_new c1 ?_; clear c1; intro w1 HB1)
  go_ret
  exact ⟨rfl, HB1.out⟩
theorem len_nilf (w : World) : Calls Try.prog 17 #[.pointer none] w fun e w' => e = .returned (.int .i64 0) ∧ Below w.heap.size w w' := by
  go_enter Try.func17, Try.ntmps17
  go_wp2
  go_ret
  exact ⟨rfl, Below.refl _ _⟩
theorem hd_nil : IsHd [] [] := ⟨List.Pairwise.nil, fun x => by simp⟩
theorem heads_zero {F : Nat → Prop} {w : World} {fb : Nat} (h : FileS F w fb []) : Calls Try.prog 14 #[.pointer (some ⟨fb, 0, none⟩)] w fun e w' => ∃ p c, e = .returned (.slice p 0 c) ∧ Below w.heap.size w w' := by
  refine (fheads h (by simp) hd_nil).mono ?_
  rintro e w' ⟨v, M, rfl, hr, hm, _, hb⟩
  obtain ⟨p, c, rfl, _⟩ := hr.shape
  have hM : M = [] := by simpa using hm
  subst hM
  exact ⟨p, c, rfl, hb⟩
def zop : OG := ⟨0, 0, 0, 0, 0, 0, 0, 0, ⟨#[]⟩, none, 0, 0, none, 0, 0⟩
theorem zop_kd : zop.kd ≠ 4 := by unfold zop; simp
theorem add_zop (fb : Nat) (w : World) : Calls Try.prog 10 #[.pointer (some ⟨fb, 0, none⟩), opgv zop] w fun e w' => e = .returned (.int .i64 22) ∧ Below w.heap.size w w' := add_bad (o := zop) (ns := []) (bs := []) (zop_in w) (Or.inl zop_kd)
theorem add_zero (fb : Nat) (w : World) : Calls Try.prog 10 #[.pointer (some ⟨fb, 0, none⟩), .agg #[.int .i64 0, .int .i64 0, .int .i64 0, .int .i64 0, .int .i64 0, .int .i64 0, .int .i64 0, .int .i64 0, .string ⟨#[]⟩, .slice none 0 0, .slice none 0 0]] w fun e w' => e = .returned (.int .i64 22) ∧ Below w.heap.size w w' := add_zop fb w
theorem add_zero_nil (w : World) : Calls Try.prog 10 #[.pointer none, .agg #[.int .i64 0, .int .i64 0, .int .i64 0, .int .i64 0, .int .i64 0, .int .i64 0, .int .i64 0, .int .i64 0, .string ⟨#[]⟩, .slice none 0 0, .slice none 0 0]] w fun e w' => e = .returned (.int .i64 22) ∧ Below w.heap.size w w' :=
  add_nil ⟨0, 0, 0, 0, 0, 0, 0, 0, ⟨#[]⟩, none, 0, 0, none, 0, 0⟩ w

set_option maxRecDepth 8000 in
set_option maxHeartbeats 4000000 in
theorem none_law (w : World) : Calls Try.prog 5 #[] w fun e w' => e = .returned (.bool true) ∧ Below w.heap.size w w' := by
  have c1 := new_any w
  obtain ⟨fb, hfb⟩ : ∃ fb, w.heap.size = fb := ⟨_, rfl⟩
  rw [hfb] at c1
  have HN : Hid (w.heap.size = fb) := hfb
  have tok1 : True := trivial
  have tok2 : True := trivial
  have tok3 : True := trivial
  have tok4 : True := trivial
  clear hfb
  go_enter Try.func5, Try.ntmps5
  go_wp2_with (first
    | (go_at_call 8; refine c1.mono ?_; clear c1; rintro e w1 ⟨rfl, hb1, hf1⟩; have H1 : Hid (FileS (fun b => b = fb) w1 fb [] ∧ Below w.heap.size w w1) := ⟨hf1, by rw [HN.out]; exact hb1⟩; clear hb1 hf1)
    | (go_at_call 7; refine Calls_new (begun_any _) ?_; intro w2 HB2)
    | (go_at_call 10; have tk := tok1; clear tok1; refine Calls_new (add_zero_nil _) ?_; clear tk; intro w3 HB3)
    | (go_at_call 14; have tk := tok3; clear tok3; refine Calls_new (heads_nil _) ?_; clear tk; intro w4 HB4)
    | (go_at_call 15; refine Calls_new (value_nil _) ?_; intro w5 HB5)
    | (go_at_call 16; refine Calls_new (size_nil _) ?_; intro w6 HB6)
    | (go_at_call 17; refine Calls_new (len_nilf _) ?_; intro w7 HB7)
    | (go_at_call 10; have tk := tok2; clear tok2; refine Calls_new (add_zero _ _) ?_; clear tk; intro w8 HB8; have H8 : Hid (Below w1.heap.size w1 w8) := below_thenH HB2.out (below_thenH HB3.out (below_thenH HB4.out (below_thenH HB5.out (below_thenH HB6.out (below_thenH HB7.out HB8.out))))))
    | (go_at_call 14; have tk := tok4; clear tok4; refine (heads_zero (H1.out.1.below H8.out)).mono ?_; rintro e w9 ⟨p9, c9, rfl, hb9⟩; have H9 : Hid (Below w8.heap.size w8 w9) := hb9; clear hb9 tk))
  go_ret
  exact ⟨by first | rfl | (simp; done), below_thenH H1.out.2 (below_thenH H8.out H9.out)⟩

end Go.Proofs.Yteimjkicinjcgaa.Ck.Y.L
