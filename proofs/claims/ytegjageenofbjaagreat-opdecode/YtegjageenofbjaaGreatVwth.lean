/-
  With, Min.
-/
import Derived.Test.YtegjageenofbjaaGreatVvct
namespace Go.Proofs.YtegjageenofbjaaGreat.Vc
open Go.RowKit

/-- A callee that answers a vector, met at its call. -/
theorem Calls_ans {f : Nat} {args : Array Value} {w : World} {ns : List Int} {K : Ending → World → Prop} (h : Calls Tryz.prog f args w (Ans w ns))
    (hk : ∀ p c w', Hid (Lies w' p (ns.map iv)) → Hid (Below w.heap.size w w') → K (.returned (.slice p ns.length c)) w') : Calls Tryz.prog f args w K :=
  h.mono (by rintro e w' ⟨p, c, rfl, hl, hb⟩; exact hk p c w' hl hb)
/-- A callee that answers a value and makes new memory alone. -/
theorem Calls_new {f : Nat} {args : Array Value} {w : World} {v : Ending} {K : Ending → World → Prop} (h : Calls Tryz.prog f args w fun e w' => e = v ∧ Below w.heap.size w w')
    (hk : ∀ w', Hid (Below w.heap.size w w') → K v w') : Calls Tryz.prog f args w K :=
  h.mono (by rintro e w' ⟨rfl, hb⟩; exact hk w' hb)

/-- A new block of zeros, in a world of its own name. -/
theorem wpList_new38 {w : World} {ops : Array Oper} {rest : List Oper} {o : Oper} {a : Act} {Q : Exit → Act → World → Prop} (hgd : o.guard = none) (ho : o.op = .alloc 89)
    (h : ∀ w', Hid (Blk w' w.heap.size zeros) → Hid (Below w.heap.size w w') → wpList Tryz.prog ops Q rest (a.put o.dst (.pointer (some ⟨w.heap.size, 0, none⟩))) w') : wpList Tryz.prog ops Q (o :: rest) a w :=
  wpList_alloc38 hgd ho (h _ (Blk.made w zeros) ((Below.refl _ _).alloc (Nat.le_refl _) _))
/-- A whole array into its block, in a world of its own name. -/
theorem wpList_put38 {w : World} {ops : Array Oper} {rest : List Oper} {o : Oper} {a : Act} {Q : Exit → Act → World → Prop} (hgd : o.guard = none) (x y : Operand) (ho : o.op = .store 89 x y)
    (g : Nat) (hx : a.eval x = .pointer (some ⟨g, 0, none⟩)) (ns ms : List Int) (hy : a.eval y = .agg (row ms)) (hb : Hid (Blk w g ns)) (hl : Hid (ns.length = 64)) (hm : Hid (ms.length = 64))
    (h : ∀ w', Hid (Blk w' g ms) → Hid (Below g w w') → wpList Tryz.prog ops Q rest (a.put o.dst undef) w') : wpList Tryz.prog ops Q (o :: rest) a w :=
  wpList_store38 hgd x y ho g hx ns ms hy hb hl hm (fun hB => h _ hB (Below.row (Below.refl g w) (Nat.le_refl _) _))

theorem withAt_no {v : List Int} {z n : Int} (h : nodeB z = false ∨ okN n = false) (k : Nat) : withAt v z n k = atOf v k := by
  unfold withAt
  rw [if_neg]
  rintro ⟨h0, h1, h2, _⟩
  rcases h with h | h
  · rw [show nodeB z = true by simp [nodeB, h0, h1]] at h; cases h
  · rw [h2] at h; cases h
theorem withAt_set {v : List Int} {k : Nat} {n : Int} (hk : k < 64) (hn : okN n = true) : (nums (atOf v)).set k n = nums (withAt v k n) := by
  apply List.ext_getElem?
  intro i
  rw [List.getElem?_set]
  by_cases hi : k = i
  · subst hi
    rw [if_pos rfl, if_pos (by rw [nums_length]; exact hk), nums_get _ hk]
    unfold withAt
    rw [if_pos ⟨by omega, by omega, hn, rfl⟩]
  · rw [if_neg hi]
    by_cases hl : i < 64
    · rw [nums_get _ hl, nums_get _ hl]
      unfold withAt
      rw [if_neg (by omega)]
    · rw [List.getElem?_eq_none (by rw [nums_length]; omega), List.getElem?_eq_none (by rw [nums_length]; omega)]

end Go.Proofs.YtegjageenofbjaaGreat.Vc
