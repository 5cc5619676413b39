/-
  A writer: numbers, bytes, texts, truths; Done; a copy of bytes.
-/
import Derived.Test.YteimjkicinjcgaaKKwput

namespace Go.Proofs.Yteimjkicinjcgaa.Cd
open Go.RowKit

/-- A copy of bytes, in new memory. -/
def Cloned (w : World) (bs : List (BitVec 8)) (v : Value) (w' : World) : Prop := w'.ownsRow w.heap.size 5 1 v bs.length (bs.map u8v) ∧ Below w.heap.size w w'

set_option maxRecDepth 8000 in
set_option maxRecDepth 8000 in
set_option maxHeartbeats 400000 in
theorem clone_any (p : Option Addr) (bs : List (BitVec 8)) (cp : Nat) (w : World) (hl : bs.length ≤ 1000000000) (hb : Bytes w p bs) :
    Calls Try.prog 34 #[.slice p bs.length cp] w fun e w' => ∃ v, e = .returned v ∧ Cloned w bs v w' := by
  have qT : ∀ (w : World) (a : Option Addr) (n c n' c' : Nat), (binOp .eql 31 (.slice a n c) (.slice none n' c')).run Try.prog w = .ok (.bool a.isNone) w := fun w a n c n' c' => Lib.run_eql_slice_nil w _ _ a n c n' c' Try.underlying31
  rcases p with _ | ad
  · have h0 : bs = [] := by
      by_cases hl : 0 < bs.length
      · obtain ⟨_, _, h, _⟩ := hb hl; cases h
      · exact List.eq_nil_of_length_eq_zero (by omega)
    subst h0
    clear hl hb
    go_enter Try.func34, Try.ntmps34
    go_wp2
    go_ret
    exact ⟨_, rfl, World.ownsRow_nil _ _ _ _, Below.refl _ _⟩
  · have HB : Hid (Bytes w (some ad) bs) := hb
    have HL : Hid (0 + bs.length ≤ 1099511627776) := by show _ ≤ _; omega
    have tok : True := trivial
    have HO : Hid ((w.alloc (.cells #[] 5)).ownsRow w.heap.size 5 1 (.slice (some ⟨w.heap.size, 0, none⟩) 0 0) 0 []) := World.ownsRow_lit w #[] 0 (Nat.le_refl _) (by decide) rfl
    have HB1 : Hid (Bytes (w.alloc (.cells #[] 5)) (some ad) bs) := below_bytes (below_new _ _).out hb
    have HZ : Hid (w.heap.size ≤ (w.alloc (.cells #[] 5)).heap.size) := by show _ ≤ _; simp
    clear hl hb
    go_enter Try.func34, Try.ntmps34
    go_wp2_with (have tk := tok; refine wpList_append_bytes rfl _ _ rfl w.heap.size _ 0 [] rfl HO.out _ bs _ rfl HB1.out HL.out HZ.out ?_; clear tk tok; intro v' w1 hown hg _; have HC : Hid (Cloned w bs v' w1) := ⟨by simpa using hown, (below_new w _).out.grown hg (by simp) (by intro k hk; cases hk; exact Nat.le_refl _)⟩; clear hown hg)
    go_ret
    exact ⟨_, rfl, HC.out⟩

end Go.Proofs.Yteimjkicinjcgaa.Cd
