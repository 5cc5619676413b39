/-
  Max of two and of three vectors, as a call lays them; the statements' own beginning.
-/
import Derived.Test.YtflmlojdjegnkaaMax
import Derived.Test.YtflmlojdjegnkaaRcm
namespace Go.Proofs.Ytflmlojdjegnkaa
open Go.RowKit

theorem vecs_new {W : World} {vals : List Value} {vss : List (List Int)} (h : ∀ (j : Nat) (v : List Int), vss[j]? = some v → ∃ p c, vals[j]? = some (.slice p v.length c) ∧ Lies W p (v.map iv)) :
    Vecs (W.alloc (.cells vals.toArray 23)) (some ⟨W.heap.size, 0, none⟩) vss := by
  intro j v hv
  obtain ⟨p, c, he, hl⟩ := h j v hv
  refine ⟨W.heap.size, 0, p, c, rfl, ?_, below_lies ((Below.refl _ _).alloc (Nat.le_refl _) _) hl⟩
  rw [cellOf (heap_alloc_new W _), Nat.zero_add]
  simpa using he
theorem max_two (p q : Option Addr) (a b : List Int) (cp cq : Nat) (W : World) (g : Nat) (hg : W.heap.size = g) (hp : Lies W p (a.map iv)) (hq : Lies W q (b.map iv)) :
    Calls Try.prog 15 #[.slice (some ⟨g, 0, none⟩) 2 2] (W.alloc (.cells #[.slice p a.length cp, .slice q b.length cq] 23)) (Ans W (vec (maxAt [a, b]))) := by
  subst hg
  have hv : Vecs (W.alloc (.cells #[.slice p a.length cp, .slice q b.length cq] 23)) (some ⟨W.heap.size, 0, none⟩) [a, b] := by
    refine vecs_new (vals := [.slice p a.length cp, .slice q b.length cq]) (fun j v hj => ?_)
    match j, hj with
    | 0, hj => cases hj; exact ⟨p, cp, rfl, hp⟩
    | 1, hj => cases hj; exact ⟨q, cq, rfl, hq⟩
  refine (max_any _ [a, b] 2 _ (by simp) hv).mono ?_
  intro e w' h
  exact Ans.after ((Below.refl _ _).alloc (Nat.le_refl _) _) h
theorem max_three (p q r : Option Addr) (a b c : List Int) (cp cq cr : Nat) (W : World) (g : Nat) (hg : W.heap.size = g) (hp : Lies W p (a.map iv)) (hq : Lies W q (b.map iv)) (hr : Lies W r (c.map iv)) :
    Calls Try.prog 15 #[.slice (some ⟨g, 0, none⟩) 3 3] (W.alloc (.cells #[.slice p a.length cp, .slice q b.length cq, .slice r c.length cr] 23)) (Ans W (vec (maxAt [a, b, c]))) := by
  subst hg
  have hv : Vecs (W.alloc (.cells #[.slice p a.length cp, .slice q b.length cq, .slice r c.length cr] 23)) (some ⟨W.heap.size, 0, none⟩) [a, b, c] := by
    refine vecs_new (vals := [.slice p a.length cp, .slice q b.length cq, .slice r c.length cr]) (fun j v hj => ?_)
    match j, hj with
    | 0, hj => cases hj; exact ⟨p, cp, rfl, hp⟩
    | 1, hj => cases hj; exact ⟨q, cq, rfl, hq⟩
    | 2, hj => cases hj; exact ⟨r, cr, rfl, hr⟩
  refine (max_any _ [a, b, c] 3 _ (by simp) hv).mono ?_
  intro e w' h
  exact Ans.after ((Below.refl _ _).alloc (Nat.le_refl _) _) h
theorem max_zero (cq : Nat) (W : World) : Calls Try.prog 15 #[.slice none 0 cq] W (Ans W []) := by
  have := max_any none [] cq W (by decide) (fun j v hj => by simp at hj)
  rw [max_none] at this
  exact this

/-- A callee that answers a vector, its answer told from an earlier world. -/
theorem Calls_ansAt {f : Nat} {args : Array Value} {W w : World} {ns : List Int} {K : Ending → World → Prop} (h : Calls Try.prog f args w (Ans W ns))
    (hk : ∀ p c w', Hid (Lies w' p (ns.map iv)) → Hid (Below W.heap.size W w') → K (.returned (.slice p ns.length c)) w') : Calls Try.prog f args w K :=
  h.mono (by rintro e w' ⟨p, c, rfl, hl, hb⟩; exact hk p c w' hl hb)

theorem with_five : vec (withAt [] 2 5) = [0, 0, 5] := by decide
theorem max_five : vec (maxAt [[0, 0, 5], [1]]) = [1, 0, 5] := by decide

theorem lies_one (w : World) (y : Int) : Lies (w.alloc (.cells #[.int .i64 y] 2)) (some ⟨w.heap.size, 0, none⟩) ([y].map iv) := by
  refine fun _ => ⟨w.heap.size, 0, rfl, fun j x hj => ?_⟩
  rw [cellOf (heap_alloc_new w _), Nat.zero_add]
  simpa using hj

set_option maxRecDepth 8000 in
set_option maxHeartbeats 400000 in
theorem begun_any (w : World) : Calls Try.prog 5 #[] w fun e w' => e = .returned (.bool true) ∧ Below w.heap.size w w' := by
  have c13 := with_any none [] 0 2 5 w (lies_nil _ _)
  rw [with_five] at c13
  have t15 : True := trivial
  have t19 : True := trivial
  have t19' : True := trivial
  go_enter Try.func5, Try.ntmps5
  go_wp2_with (first
    | (go_at_call 13; refine Calls_ans c13 ?_; intro p c w1 HL HB; clear c13)
    | (go_at_call 15
       have tk := t15
       have c15 := max_two p (some ⟨w1.heap.size, 0, none⟩) [0, 0, 5] [1] c 1 (w1.alloc (.cells #[.int .i64 1] 2)) (w1.heap.size + 1) (by simp) (below_lies ((Below.refl _ _).alloc (Nat.le_refl _) _) HL.out) (lies_one w1 1)
       rw [max_five] at c15
       refine Calls_ansAt c15 ?_
       intro p2 c2 w2 HL2 HB2'
       clear tk t15 c15
       have HB2 : Hid (Below w1.heap.size w1 w2) := Below.then ((Below.refl w1.heap.size w1).alloc (Nat.le_refl _) _) HB2'.out (Nat.le_refl _)
       have HL1 : Hid (Lies w2 p ([0, 0, 5].map iv)) := below_lies HB2.out HL.out
       have HBB : Hid (Below w.heap.size w w2) := Below.then HB.out HB2.out (Nat.le_refl _)
       obtain ⟨b, o, rfl, d2⟩ := lies_at (ns := [0, 0, 5]) HL1.out (k := 2) (x := 5) rfl
       obtain ⟨b2, o2, rfl, e0⟩ := lies_at (ns := [1, 0, 5]) HL2.out (k := 0) (x := 1) rfl
       rw [Nat.add_zero] at e0
       clear HL HB2' HB)
    | (go_at_call 19; have tk := t19; refine Calls_on (v := .returned (.bool true)) (leq_any _ _ [0, 0, 5] [1, 0, 5] c c2 w2 HL1.out HL2.out) ?_; clear tk t19)
    | (go_at_call 19; have tk := t19'; refine Calls_on (v := .returned (.bool false)) (leq_any _ _ [1, 0, 5] [0, 0, 5] c2 c w2 HL2.out HL1.out) ?_; clear tk t19')
    | (go_at_call 12; refine Calls_on (v := .returned (.int .i64 5)) (at_any _ [1, 0, 5] c2 2 w2 HL2.out) ?_)
    | (go_at_call 24; refine Calls_new (v := .returned (.int .i64 6)) (sum_any _ [1, 0, 5] c2 w2 HL2.out) ?_; intro w3 HB3))
  go_ret
  exact ⟨rfl, Below.then HBB.out HB3.out (Nat.le_refl _)⟩

end Go.Proofs.Ytflmlojdjegnkaa
