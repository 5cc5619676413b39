/-
  The document's own text: Leq, Eq, Ahead, Is; the statement's Cut.
-/
import Derived.Test.YtegjageenofbjaaGreatVrfn
namespace Go.Proofs.YtegjageenofbjaaGreat.Vc
open Go.RowKit

set_option maxRecDepth 8000 in
set_option maxRecDepth 8000 in
set_option maxHeartbeats 400000 in
theorem rleq_any (p q : Option Addr) (a b : List Int) (cp cq : Nat) (w : World) (hp : Lies w p (a.map iv)) (hq : Lies w q (b.map iv)) :
    Calls Tryz.prog 81 #[.slice p a.length cp, .slice q b.length cq] w fun e w' => e = .returned (.bool (leqB a b)) ∧ w' = w := by
  have CA : Hid (∀ (k : Nat), k < 64 → Calls Tryz.prog 24 #[.slice p a.length cp, .int .i64 k] w fun e w'' => e = .returned (.int .i64 (atOf a k)) ∧ w'' = w) :=
    fun k hk => rat_nat p a cp k w hp hk
  have CB : Hid (∀ (k : Nat), k < 64 → Calls Tryz.prog 24 #[.slice q b.length cq, .int .i64 k] w fun e w'' => e = .returned (.int .i64 (atOf b k)) ∧ w'' = w) :=
    fun k hk => rat_nat q b cq k w hq hk
  clear hp hq
  generalize a.length = la at *
  generalize b.length = lb at *
  go_enter Tryz.func81, Tryz.ntmps81
  go_wp2
  go_loop [5] (fun ii => ∃ i : Nat, ii = .int .i64 i ∧ i ≤ 64 ∧ Hid (leqTo a b i = true)) (fun ii => 64 - (intOf ii).toNat)
  case atStart => exact ⟨0, rfl, by omega, rfl⟩
  case round =>
    obtain ⟨i, rfl, hi, HA⟩ := hrel
    by_cases hlt : i < 64
    · have hltI : (i : Int) < 64 := by omega
      have ca := CA.out i hlt
      have cb := CB.out i hlt
      by_cases hn : atOf b i < atOf a i
      · have HF : Hid (leqB a b = false) := leqB_false hlt (by omega)
        generalize atOf a i = x at *
        generalize atOf b i = y at *
        go_wp2_with (first | (go_at_call 24; refine Calls_on ca ?_; clear ca) | (go_at_call 24; refine Calls_on cb ?_; clear cb))
        go_ret
        rw [HF.out]
        exact ⟨rfl, rfl⟩
      · have HN : Hid (leqTo a b (i + 1) = true) := by show _ = _; rw [leqTo, HA.out, decide_eq_true (by omega)]; rfl
        generalize atOf a i = x at *
        generalize atOf b i = y at *
        go_wp2_with (first | (go_at_call 24; refine Calls_on ca ?_; clear ca) | (go_at_call 24; refine Calls_on cb ?_; clear cb))
        go_round
        case rel => exact ⟨i + 1, by go_num, by omega, HN⟩
        case measure => simp [intOf]; omega
    · obtain rfl : i = 64 := by omega
      have HT : Hid (leqB a b = true) := HA
      clear hlt
      go_wp2
      go_ret
      rw [HT.out]
      exact ⟨rfl, rfl⟩

set_option maxRecDepth 8000 in
set_option maxHeartbeats 400000 in
theorem req_any (p q : Option Addr) (a b : List Int) (cp cq : Nat) (w : World) (hp : Lies w p (a.map iv)) (hq : Lies w q (b.map iv)) :
    Calls Tryz.prog 46 #[.slice p a.length cp, .slice q b.length cq] w fun e w' => e = .returned (.bool (eqB a b)) ∧ w' = w := by
  have ca := rleq_any p q a b cp cq w hp hq
  have cb := rleq_any q p b a cq cp w hq hp
  rw [eqB_leq]
  generalize a.length = la at *
  generalize b.length = lb at *
  clear hp hq
  cases h1 : leqB a b with
  | false =>
    rw [h1] at ca
    clear cb h1
    go_enter Tryz.func46, Tryz.ntmps46
    go_wp2_with (go_at_call 81; refine Calls_on ca ?_)
    go_ret
    exact ⟨rfl, rfl⟩
  | true =>
    rw [h1] at ca
    clear h1
    generalize leqB b a = r at cb
    go_enter Tryz.func46, Tryz.ntmps46
    go_wp2_with (first | (go_at_call 81; refine Calls_on ca ?_; clear ca) | (go_at_call 81; refine Calls_on cb ?_))
    go_ret
    exact ⟨by simp, rfl⟩

set_option maxRecDepth 8000 in
set_option maxRecDepth 8000 in
set_option maxHeartbeats 400000 in
theorem is_true (p q : Option Addr) (xs bs : List Int) (cp cq : Nat) (w : World) (h : vec (atOf bs) = xs) (hl : xs.length ≤ 1000) (hp : Lies w p (xs.map iv)) (hq : Lies w q (bs.map iv)) :
    Calls Tryz.prog 15 #[.slice p xs.length cp, .slice q bs.length cq] w fun e w' => e = .returned (.bool true) ∧ Below w.heap.size w w' := by
  have c26 := rnorm_any q bs cq w hq
  rw [h] at c26
  have HP : Hid (Lies w p (xs.map iv)) := hp
  clear h hp hq
  have hne : ((xs.length : Int) != xs.length) = false := by simp
  go_enter Tryz.func15, Tryz.ntmps15
  go_wp2_with (go_at_call 54; refine Calls_ans c26 ?_; intro p1 c1 w1 HL HB; clear c26)
  have HPP : Hid (Lies w1 p (xs.map iv)) := below_lies HB.out HP.out
  go_loopw [6] (fun ii wr => ∃ i : Nat, ii = .int .i64 i ∧ i ≤ xs.length ∧ Hid (Below w1.heap.size w1 wr)) (fun ii _ => xs.length - (intOf ii).toNat)
  case atStart => exact ⟨0, rfl, by omega, Below.refl _ _⟩
  case round =>
    obtain ⟨i, rfl, hi, HBW⟩ := hrel
    by_cases hlt : i < xs.length
    · have hltI : (i : Int) < xs.length := by omega
      obtain ⟨x, hx⟩ : ∃ x, xs[i]? = some x := ⟨_, List.getElem?_eq_getElem hlt⟩
      obtain ⟨pb, po, rfl, d1⟩ := lies_at (below_lies HBW.out HPP.out) hx
      obtain ⟨gb, go, rfl, d2⟩ := lies_at (below_lies HBW.out HL.out) hx
      have hxx : (x != x) = false := by simp
      clear hx
      go_wp2
      go_region
      go_wp2
      go_roundw
      case rel => exact ⟨i + 1, by go_num, by omega, HBW.out.drew⟩
      case measure => simp [intOf]; omega
    · obtain rfl : i = xs.length := by omega
      clear hlt
      go_wp2
      go_ret
      exact ⟨rfl, Below.then HB.out HBW.out (Nat.le_refl _)⟩

def cut (ns : List Int) : List Int := ns.take 80
theorem cut_le (ns : List Int) : (cut ns).length ≤ 80 := by unfold cut; rw [List.length_take]; omega
set_option maxRecDepth 8000 in
set_option maxHeartbeats 400000 in
theorem cut_any (p : Option Addr) (ns : List Int) (cp : Nat) (w : World) (hl : ns.length ≤ cp) (hm : ns.length ≤ maxLen) :
    Calls Tryz.prog 21 #[.slice p ns.length cp] w fun e w' => e = .returned (.slice p (cut ns).length cp) ∧ w' = w := by
  unfold maxLen at hm
  by_cases h : 80 < ns.length
  · have hI : (80 : Int) < ns.length := by omega
    have HC : Hid ((cut ns).length = 80) := by show _ = _; unfold cut; rw [List.length_take]; omega
    generalize ns.length = n at *
    go_enter Tryz.func21, Tryz.ntmps21
    go_wp2
    go_ret
    rw [HC.out]
    exact ⟨rfl, rfl⟩
  · have hI : ¬ (80 : Int) < ns.length := by omega
    have HC : Hid ((cut ns).length = ns.length) := by show _ = _; unfold cut; rw [List.length_take]; omega
    go_enter Tryz.func21, Tryz.ntmps21
    go_wp2
    go_ret
    rw [HC.out]
    exact ⟨rfl, rfl⟩

end Go.Proofs.YtegjageenofbjaaGreat.Vc
