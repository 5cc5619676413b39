/-
  Is and Same of the document's own text, where they say yes; Done of its reader.
-/
import Derived.Test.YtegjageenofbjaaGreatKqvec
import Derived.Test.YtegjageenofbjaaGreatKqnum
namespace Go.Proofs.YtegjageenofbjaaGreat.Cd
open Go.RowKit

set_option maxRecDepth 8000 in
set_option maxRecDepth 8000 in
set_option maxHeartbeats 400000 in
theorem is_true (p q : Option Addr) (xs bs : List Int) (cp cq : Nat) (w : World) (h : normOf bs = xs) (hl : xs.length ≤ 1000) (hp : Lies w p (xs.map iv)) (hq : Lies w q (bs.map iv)) :
    Calls Tryz.prog 15 #[.slice p xs.length cp, .slice q bs.length cq] w fun e w' => e = .returned (.bool true) ∧ Below w.heap.size w w' := by
  have c59 := norm_any q bs cq w hq
  rw [h] at c59
  have HP : Hid (Lies w p (xs.map iv)) := hp
  clear h hp hq
  go_enter Tryz.func15, Tryz.ntmps15
  go_wp2_with fail
  refine c59.mono ?_
  rintro e w1 ⟨g, c, rfl, hg, hlies, hB⟩
  have HL : Hid (Lies w1 (some ⟨g, 0, none⟩) (xs.map iv)) := hlies
  have HB : Hid (Below w.heap.size w w1) := hB
  have HPP : Hid (Lies w1 p (xs.map iv)) := below_lies hB HP.out
  have hne : ((xs.length : Int) != xs.length) = false := by simp
  clear c59 hlies hB hg
  go_wp2_with fail
  go_loopw [6] (fun ii wr => ∃ i : Nat, ii = .int .i64 i ∧ i ≤ xs.length ∧ Hid (Below w1.heap.size w1 wr)) (fun ii _ => xs.length - (intOf ii).toNat)
  case atStart => exact ⟨0, rfl, by omega, Below.refl _ _⟩
  case round =>
    obtain ⟨i, rfl, hi, HBW⟩ := hrel
    by_cases hlt : i < xs.length
    · have hltI : (i : Int) < xs.length := by omega
      obtain ⟨pb, po, rfl, hpc⟩ := HPP.out (by simp; omega)
      obtain ⟨gb, go, e, hgc⟩ := HL.out (by simp; omega)
      cases e
      obtain ⟨x, hx⟩ : ∃ x, xs[i]? = some x := ⟨_, List.getElem?_eq_getElem hlt⟩
      have c1 := hpc i (iv x) (by rw [List.getElem?_map, hx]; rfl)
      have c2 := hgc i (iv x) (by rw [List.getElem?_map, hx]; rfl)
      have d1 : wr.cell? ⟨pb, po + i, none⟩ = some (.int .i64 x) := (HBW.out.cell (p := ⟨pb, po + i, none⟩) (cell_lt c1)).trans c1
      have d2 : wr.cell? ⟨g, i, none⟩ = some (.int .i64 x) := by rw [Nat.zero_add] at c2; exact (HBW.out.cell (p := ⟨g, i, none⟩) (cell_lt c2)).trans c2
      have hxx : (x != x) = false := by simp
      clear hx hpc hgc c1 c2
      go_wp2
      go_region
      go_wp2
      go_roundw
      case rel => exact ⟨i + 1, by go_num, by omega, HBW.out.drew⟩
      case measure => simp [intOf]; omega
    · obtain rfl : i = xs.length := by omega
      clear hlt
      go_wp2
      go_ret
      exact ⟨rfl, HB.out.trans (HBW.out.mono HB.out.size)⟩

set_option maxRecDepth 8000 in
set_option maxHeartbeats 400000 in
theorem same_true (t n : Int) (w : World) :
    Calls Tryz.prog 25 #[.agg #[.int .i64 t, .int .i64 n], .agg #[.int .i64 t, .int .i64 n]] w fun e w' => e = .returned (.bool true) ∧ Below w.heap.size w w' := by
  go_enter Tryz.func25, Tryz.ntmps25
  go_wp2
  go_ret
  exact ⟨rfl, ((Below.refl _ _).alloc (Nat.le_refl _) _).alloc (by simp) _⟩

set_option maxRecDepth 8000 in
set_option maxHeartbeats 400000 in
theorem qdone_any (a : Nat) (s : St) (w : World) (h : Rd 76 w a s) : Calls Tryz.prog 59 #[.pointer (some ⟨a, 0, none⟩)] w fun e w' => e = .returned (.bool (decide (s = some []))) ∧ w' = w := by
  obtain ⟨p, c, hpl, h1, _, _⟩ := h.at_
  have c0 : w.cell? ⟨a, 0, none⟩ = some (.slice p (s.getD []).length c) := cellOf h1 0
  have c1 : w.cell? ⟨a, 1, none⟩ = some (.bool s.isNone) := cellOf h1 1
  clear h1 h hpl
  cases s with
  | none =>
    rw [show (none : St).isNone = true from rfl] at c1
    rw [decide_eq_false (by simp)]
    go_enter Tryz.func59, Tryz.ntmps59
    go_wp2
    go_ret
    exact ⟨rfl, rfl⟩
  | some bs =>
    rw [show (some bs : St).isNone = false from rfl] at c1
    rw [show (some bs : St).getD [] = bs from rfl] at c0
    have HE : Hid (decide ((some bs : St) = some []) = ((bs.length : Int) == 0)) := by
      show _ = _
      cases bs with
      | nil => rfl
      | cons x l => rw [decide_eq_false (by simp), List.length_cons]; symm; simp; omega
    rw [HE.out]
    generalize bs.length = k at c0
    go_enter Tryz.func59, Tryz.ntmps59
    go_wp2
    go_ret
    exact ⟨rfl, rfl⟩

end Go.Proofs.YtegjageenofbjaaGreat.Cd
