/-
  Leq, Apart, Sum, Ahead.
-/
import Derived.Test.YtflmlojdjegnkaaWth
namespace Go.Proofs.Ytflmlojdjegnkaa
open Go.RowKit

set_option maxRecDepth 8000 in
set_option maxHeartbeats 400000 in
theorem leq_any (p q : Option Addr) (a b : List Int) (cp cq : Nat) (w : World) (hp : Lies w p (a.map iv)) (hq : Lies w q (b.map iv)) :
    Calls Try.prog 19 #[.slice p a.length cp, .slice q b.length cq] w fun e w' => e = .returned (.bool (leqB a b)) ∧ w' = w := by
  have C : Hid (∀ k : Nat, k < 64 → Calls Try.prog 25 #[.slice p a.length cp, .slice q b.length cq, .int .i64 k] w fun e w' => e = .returned (.bool (decide (atOf b k < atOf a k))) ∧ w' = w) :=
    fun k hk => isAhead_any p q a b cp cq k w hp hq hk
  clear hp hq
  go_enter Try.func19, Try.ntmps19
  go_wp2
  go_loop [6] (fun ii => ∃ i : Nat, ii = .int .i64 i ∧ i ≤ 64 ∧ Hid (leqTo a b i = true)) (fun ii => 64 - (intOf ii).toNat)
  case atStart => exact ⟨0, rfl, by omega, rfl⟩
  case round =>
    obtain ⟨i, rfl, hi, HA⟩ := hrel
    by_cases hlt : i < 64
    · have hltI : (i : Int) < 64 := by omega
      have c25 := C.out i hlt
      by_cases hn : atOf b i < atOf a i
      · rw [decide_eq_true hn] at c25
        have HF : Hid (leqB a b = false) := leqB_false hlt (by omega)
        clear hn
        go_wp2_with (go_at_call 25; refine Calls_on c25 ?_)
        go_ret
        rw [HF.out]
        exact ⟨rfl, rfl⟩
      · rw [decide_eq_false hn] at c25
        have HN : Hid (leqTo a b (i + 1) = true) := by show _ = _; rw [leqTo, HA.out, decide_eq_true (by omega)]; rfl
        clear hn
        go_wp2_with (go_at_call 25; refine Calls_on c25 ?_)
        go_round
        case rel => exact ⟨i + 1, by go_num, by omega, HN⟩
        case measure => simp [intOf]; omega
    · obtain rfl : i = 64 := by omega
      have HT : Hid (leqB a b = true) := HA
      clear hlt
      go_wp2
      go_ret
      rw [HT.out]
      exact ⟨rfl, rfl⟩

set_option maxHeartbeats 400000 in
theorem apart_any (p q : Option Addr) (a b : List Int) (cp cq : Nat) (w : World) (hp : Lies w p (a.map iv)) (hq : Lies w q (b.map iv)) :
    Calls Try.prog 23 #[.slice p a.length cp, .slice q b.length cq] w fun e w' => e = .returned (.bool (!leqB a b && !leqB b a)) ∧ w' = w := by
  have ca := leq_any p q a b cp cq w hp hq
  have cb := leq_any q p b a cq cp w hq hp
  generalize a.length = la at *
  generalize b.length = lb at *
  clear hp hq
  cases h1 : leqB a b with
  | true =>
    rw [h1] at ca
    clear cb h1
    go_enter Try.func23, Try.ntmps23
    go_wp2_with (go_at_call 19; refine Calls_on ca ?_)
    go_ret
    exact ⟨rfl, rfl⟩
  | false =>
    rw [h1] at ca
    clear h1
    generalize leqB b a = r at cb
    go_enter Try.func23, Try.ntmps23
    go_wp2_with (first | (go_at_call 19; refine Calls_on ca ?_; clear ca) | (go_at_call 19; refine Calls_on cb ?_))
    go_ret
    exact ⟨by simp, rfl⟩

set_option maxRecDepth 8000 in
set_option maxHeartbeats 400000 in
theorem sum_any (p : Option Addr) (ns : List Int) (cp : Nat) (w : World) (hp : Lies w p (ns.map iv)) :
    Calls Try.prog 24 #[.slice p ns.length cp] w fun e w' => e = .returned (.int .i64 (sumTo ns 64)) ∧ Below w.heap.size w w' := by
  have c27 := countsOf_any p ns cp w hp
  obtain ⟨xs, hxs⟩ : ∃ xs, nums (atOf ns) = xs := ⟨_, rfl⟩
  have HXL : Hid (xs.length = 64) := by show _ = _; rw [← hxs]; exact nums_length _
  have HX : Hid (nums (atOf ns) = xs) := hxs
  rw [hxs] at c27
  clear hp hxs
  go_enter Try.func24, Try.ntmps24
  go_wp2_with (go_at_call 27; refine Calls_new c27 ?_; intro w1 HB; clear c27)
  go_loop [3, 8] (fun ss ii => ∃ i : Nat, ii = .int .i64 i ∧ i ≤ 64 ∧ ss = .int .i64 (sumTo ns i)) (fun _ ii => 64 - (intOf ii).toNat)
  case atStart => exact ⟨0, rfl, by omega, rfl⟩
  case round =>
    obtain ⟨i, rfl, hi, rfl⟩ := hrel
    by_cases hlt : i < 64
    · have hltI : (i : Int) < 64 := by omega
      have hx : xs[i]? = some (atOf ns i) := by rw [← HX.out]; exact nums_get _ hlt
      have hix := index38 HXL.out hx
      have r1 := sumTo_range ns i
      have r2 := atOf_range ns i
      have HS : Hid (sumTo ns (i + 1) = if (4611686018427387904 : Int) < sumTo ns i + atOf ns i then 4611686018427387904 else sumTo ns i + atOf ns i) := by
        show _ = _
        rw [sumTo]
        split <;> omega
      generalize sumTo ns i = s at *
      generalize atOf ns i = x at *
      obtain ⟨r11, r12⟩ := r1
      obtain ⟨r21, r22⟩ := r2
      clear hx
      go_wp2
      go_round
      case rel => exact ⟨i + 1, by go_num, by omega, by rw [HS.out]⟩
      case measure => simp [intOf]; omega
    · obtain rfl : i = 64 := by omega
      obtain ⟨s, hs⟩ : ∃ s, sumTo ns 64 = s := ⟨_, rfl⟩
      have HS : Hid (sumTo ns 64 = s) := hs
      rw [hs]
      clear hlt hs
      go_wp2
      go_ret
      rw [HS.out]
      exact ⟨rfl, HB.out⟩

theorem wpList_append_num {W : World} {ops : Array Oper} {rest : List Oper} {o : Oper} {a : Act} {Q : Exit → Act → World → Prop} (hgd : o.guard = none) (s x : Operand) (t e : TypeId)
    (ho : o.op = .call { callee := .builtin .append, args := #[s, x], argTypes := #[t, t] }) (ht : Try.prog.underlying t = some (.slice e)) (hie : (Try.prog.info? e).map (fun i => (i.zero, i.size, i.bytes)) = some (some (.int .i64 0), 1, 8))
    (base : Nat) (v : Value) (n : Nat) (xs : List Value) (hs : a.eval s = v) (W0 : World) (y : Int) (hW : W = W0.alloc (.cells #[.int .i64 y] e)) (hown : Hid (W0.ownsRow base e 1 v n xs))
    (hx : a.eval x = .slice (some ⟨W0.heap.size, 0, none⟩) 1 1) (h63 : Hid (n ≤ 1000000)) (hbase : Hid (base ≤ W0.heap.size))
    (h : ∀ v' w', Hid (w'.ownsRow base e 1 v' (n + 1) (xs ++ [.int .i64 y])) → Hid (W.grownBy w' v.ownBlock) → wpList Try.prog ops Q rest (a.put o.dst v') w') :
    wpList Try.prog ops Q (o :: rest) a W := by
  obtain ⟨i0, hi0, hz0, hz1, hz2⟩ := info_parts hie
  subst hW
  refine wpList_append_own_at _ hgd s x t ho base e i0 (.int .i64 0) 1 8 ht hi0 hz0 hz1 hz2 rfl (by decide) v n xs hs (hown.out.alloc _) ⟨W0.heap.size, 0, none⟩ 1 1 [.int .i64 y] hx rfl (cell_one_new _ _ _) (by simp [Value.oneCell'])
    (by have := h63.out; unfold maxLen; omega) (by have := h63.out; omega) (by have := hbase.out; simp; omega) ?_
  intro v' w' h1 h2 _ h4
  exact h v' w' h1 h2

/-- What a row's growth leaves of the old world. -/
theorem below_grown {W w' wr : World} {B e n : Nat} {v : Value} {xs : List Value} {o : Obj} (hB : Below B W wr) (hb : B ≤ W.heap.size) (ho : wr.ownsRow B e 1 v n xs) (hg : (wr.alloc o).grownBy w' v.ownBlock) : Below B W w' :=
  (hB.alloc (Nat.le_trans hb hB.size) _).grown hg (by have := hB.size; simp; omega) (fun _ hk => (own_lt ho hk).1)

set_option maxRecDepth 8000 in
set_option maxHeartbeats 400000 in
theorem ahead_any (p q : Option Addr) (a b : List Int) (cp cq : Nat) (w : World) (hp : Lies w p (a.map iv)) (hq : Lies w q (b.map iv)) :
    Calls Try.prog 8 #[.slice p a.length cp, .slice q b.length cq] w (Ans w (aheadTo a b 64)) := by
  have C : Hid (∀ (w' : World) (k : Nat), Below w.heap.size w w' → k < 64 → Calls Try.prog 25 #[.slice p a.length cp, .slice q b.length cq, .int .i64 k] w' fun e w'' => e = .returned (.bool (decide (atOf b k < atOf a k))) ∧ w'' = w') :=
    fun w' k hB hk => isAhead_any p q a b cp cq k w' (below_lies hB hp) (below_lies hB hq) hk
  clear hp hq
  go_enter Try.func8, Try.ntmps8
  go_wp2
  go_loopw [5, 7] (fun vv ii wr => ∃ (i n : Nat), ii = .int .i64 i ∧ i ≤ 64 ∧ Hid (wr.ownsRow w.heap.size 3 1 vv n ((aheadTo a b i).map iv)) ∧ Hid (Below w.heap.size w wr)) (fun _ ii _ => 64 - (intOf ii).toNat)
  case atStart => exact ⟨0, 0, rfl, by omega, World.ownsRow_nil _ _ _ _, Below.refl _ _⟩
  case round =>
    obtain ⟨i, n, rfl, hi, HO, HB⟩ := hrel
    by_cases hlt : i < 64
    · have hltI : (i : Int) < 64 := by omega
      have c25 := C.out wr i HB.out hlt
      by_cases hn : atOf b i < atOf a i
      · rw [decide_eq_true hn] at c25
        have HA : Hid (aheadTo a b (i + 1) = aheadTo a b i ++ [(i : Int)]) := by show _ = _; rw [aheadTo, if_pos hn]
        have H1 : Hid (n ≤ 1000000) := by show _ ≤ _; have := HO.out.1; have := aheadTo_le a b i; simp at *; omega
        have H2 : Hid (w.heap.size ≤ wr.heap.size) := HB.out.size
        have tok : True := trivial
        clear hn
        go_wp2_with (first
          | (go_at_call 25; refine Calls_on c25 ?_)
          | (have tk := tok; refine wpList_append_num rfl _ _ 27 3 rfl Try.underlying27 Try.info3 w.heap.size _ n _ rfl wr (i : Int) rfl HO rfl H1 H2 ?_; clear tk tok; intro v' w1 K1 K2))
        go_roundw
        case rel =>
          refine ⟨i + 1, n + 1, by go_num, by omega, ?_, below_grown HB.out (Nat.le_refl _) HO.out K2.out⟩
          rw [HA.out, List.map_append]
          exact K1
        case measure => simp [intOf]; omega
      · rw [decide_eq_false hn] at c25
        have HA : Hid (aheadTo a b (i + 1) = aheadTo a b i) := by show _ = _; rw [aheadTo, if_neg hn]
        clear hn
        go_wp2_with (go_at_call 25; refine Calls_on c25 ?_)
        go_roundw
        case rel => exact ⟨i + 1, n, by go_num, by omega, by rw [HA.out]; exact HO, HB⟩
        case measure => simp [intOf]; omega
    · obtain rfl : i = 64 := by omega
      obtain ⟨_, p', c', rfl, _, hlies⟩ := owns_lies HO.out
      have HL : Hid (Lies wr p' ((aheadTo a b 64).map iv)) := hlies
      rw [List.length_map]
      clear hlt hlies HO
      generalize aheadTo a b 64 = l at *
      go_wp2
      go_ret
      exact ⟨p', c', rfl, HL.out, HB.out⟩

end Go.Proofs.Ytflmlojdjegnkaa
