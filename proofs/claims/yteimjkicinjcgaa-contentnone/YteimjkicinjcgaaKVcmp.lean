/-
  Leq, Apart, Sum, Ahead.
-/
import Derived.Test.YteimjkicinjcgaaKVwth

namespace Go.Proofs.Yteimjkicinjcgaa.Vc
open Go.RowKit

set_option maxRecDepth 8000 in
set_option maxRecDepth 8000 in
set_option maxHeartbeats 400000 in
theorem leq_any (p q : Option Addr) (a b : List Int) (cp cq : Nat) (w : World) (hp : Lies w p (a.map iv)) (hq : Lies w q (b.map iv)) :
    Calls Try.prog 50 #[.slice p a.length cp, .slice q b.length cq] w fun e w' => e = .returned (.bool (leqB a b)) ∧ w' = w := by
  have C : Hid (∀ k : Nat, k < 64 → Calls Try.prog 68 #[.slice p a.length cp, .slice q b.length cq, .int .i64 k] w fun e w' => e = .returned (.bool (decide (atOf b k < atOf a k))) ∧ w' = w) :=
    fun k hk => isAhead_any p q a b cp cq k w hp hq hk
  clear hp hq
  go_enter Try.func50, Try.ntmps50
  go_wp2
  go_loop [6] (fun ii => ∃ i : Nat, ii = .int .i64 i ∧ i ≤ 64 ∧ Hid (leqTo a b i = true)) (fun ii => 64 - (intOf ii).toNat)
  case atStart => exact ⟨0, rfl, by omega, rfl⟩
  case round =>
    obtain ⟨i, rfl, hi, HA⟩ := hrel
    by_cases hlt : i < 64
    · have hltI : (i : Int) < 64 := by omega
      have c25 := C.out i hlt
      by_cases hn : atOf b i < atOf a i
      · rw [decide_eq_true hn] at c25
        have HF : Hid (leqB a b = false) := leqB_false hlt (by omega)
        clear hn
        go_wp2_with (go_at_call 68; refine Calls_on c25 ?_)
        go_ret
        rw [HF.out]
        exact ⟨rfl, rfl⟩
      · rw [decide_eq_false hn] at c25
        have HN : Hid (leqTo a b (i + 1) = true) := by show _ = _; rw [leqTo, HA.out, decide_eq_true (by omega)]; rfl
        clear hn
        go_wp2_with (go_at_call 68; refine Calls_on c25 ?_)
        go_round
        case rel => exact ⟨i + 1, by go_num, by omega, HN⟩
        case measure => simp [intOf]; omega
    · obtain rfl : i = 64 := by omega
      have HT : Hid (leqB a b = true) := HA
      clear hlt
      go_wp2
      go_ret
      rw [HT.out]
      exact ⟨rfl, rfl⟩

theorem wpList_append_num {W : World} {ops : Array Oper} {rest : List Oper} {o : Oper} {a : Act} {Q : Exit → Act → World → Prop} (hgd : o.guard = none) (s x : Operand) (t e : TypeId)
    (ho : o.op = .call { callee := .builtin .append, args := #[s, x], argTypes := #[t, t] }) (ht : Try.prog.underlying t = some (.slice e)) (hie : (Try.prog.info? e).map (fun i => (i.zero, i.size, i.bytes)) = some (some (.int .i64 0), 1, 8))
    (base : Nat) (v : Value) (n : Nat) (xs : List Value) (hs : a.eval s = v) (W0 : World) (y : Int) (hW : W = W0.alloc (.cells #[.int .i64 y] e)) (hown : Hid (W0.ownsRow base e 1 v n xs))
    (hx : a.eval x = .slice (some ⟨W0.heap.size, 0, none⟩) 1 1) (h63 : Hid (n ≤ 1000000)) (hbase : Hid (base ≤ W0.heap.size))
    (h : ∀ v' w', Hid (w'.ownsRow base e 1 v' (n + 1) (xs ++ [.int .i64 y])) → Hid (W.grownBy w' v.ownBlock) → wpList Try.prog ops Q rest (a.put o.dst v') w') :
    wpList Try.prog ops Q (o :: rest) a W := by
  obtain ⟨i0, hi0, hz0, hz1, hz2⟩ := info_parts hie
  subst hW
  refine wpList_append_own_at _ hgd s x t ho base e i0 (.int .i64 0) 1 8 ht hi0 hz0 hz1 hz2 rfl (by decide) v n xs hs (hown.out.alloc _) ⟨W0.heap.size, 0, none⟩ 1 1 [.int .i64 y] hx rfl (cell_one_new _ _ _) (by simp [Value.oneCell'])
    (by have := h63.out; unfold maxLen; omega) (by have := h63.out; omega) (by have := hbase.out; simp; omega) ?_
  intro v' w' h1 h2 _ h4
  exact h v' w' h1 h2

end Go.Proofs.Yteimjkicinjcgaa.Vc
