/-
  Vectors of the document's own text: At, short, Norm, May, Is; Same of two IDs.
-/
import Derived.Test.YteimjkicinjcgaaKKtrim
import Derived.Test.YteimjkicinjcgaaKKcodm

namespace Go.Proofs.Yteimjkicinjcgaa.Cd
open Go.RowKit

def okN (x : Int) : Bool := decide (0 ≤ x) && decide (x ≤ 1152921504606846976)
def atOf (ns : List Int) (k : Nat) : Int := match ns[k]? with
  | some x => if okN x then x else 0
  | none => 0
def allOf (ns : List Int) (n : Nat) : List Int := (List.range n).map (atOf ns)
def normOf (ns : List Int) : List Int := (allOf ns 64).take (tl (allOf ns 64) 64)
def mayB (ns : List Int) : Bool := decide (tl ns ns.length ≤ 64) && (ns.take (tl ns ns.length)).all okN

set_option maxRecDepth 8000 in
set_option maxRecDepth 8000 in
set_option maxHeartbeats 400000 in
theorem at_any (p : Option Addr) (ns : List Int) (cp k : Nat) (w : World) (hp : Lies w p (ns.map iv)) (hk : k < 64) :
    Calls Try.prog 22 #[.slice p ns.length cp, .int .i64 k] w fun e w' => e = .returned (.int .i64 (atOf ns k)) ∧ w' = w := by
  have h0 : ¬ (k : Int) < 0 := by omega
  have h1 : ¬ (64 : Int) ≤ k := by omega
  by_cases hl : k < ns.length
  · obtain ⟨b, o, rfl, hx⟩ := hp (by simp; omega)
    obtain ⟨x, hxx⟩ : ∃ x, ns[k]? = some x := ⟨_, List.getElem?_eq_getElem hl⟩
    have c1 := hx k (iv x) (by rw [List.getElem?_map, hxx]; rfl)
    have HE : Hid (atOf ns k = if okN x then x else 0) := by show atOf ns k = _; unfold atOf; rw [hxx]
    have hl' : ¬ (ns.length : Int) ≤ k := by omega
    clear hx hxx hp
    by_cases hn : x < 0
    · have HO : Hid (okN x = false) := by simp [Hid, okN]; omega
      go_enter Try.func22, Try.ntmps22
      go_wp2
      go_ret
      rw [HE.out, HO.out]
      exact ⟨rfl, rfl⟩
    · by_cases hm : (1152921504606846976 : Int) < x
      · have HO : Hid (okN x = false) := by simp [Hid, okN]; omega
        go_enter Try.func22, Try.ntmps22
        go_wp2
        go_ret
        rw [HE.out, HO.out]
        exact ⟨rfl, rfl⟩
      · have HO : Hid (okN x = true) := by simp [Hid, okN]; omega
        go_enter Try.func22, Try.ntmps22
        go_wp2
        go_ret
        rw [HE.out, HO.out]
        exact ⟨rfl, rfl⟩
  · have HE : Hid (atOf ns k = 0) := by show atOf ns k = _; unfold atOf; rw [List.getElem?_eq_none (by omega)]
    have hl' : (ns.length : Int) ≤ k := by omega
    clear hp
    go_enter Try.func22, Try.ntmps22
    go_wp2
    go_ret
    rw [HE.out]
    exact ⟨rfl, rfl⟩

set_option maxRecDepth 8000 in
set_option maxRecDepth 8000 in
set_option maxHeartbeats 400000 in
theorem qshort_any (g : Nat) (ns : List Int) (cp : Nat) (w : World) (hl : ns.length ≤ cp) (hl1 : ns.length ≤ 1000) (hp : Lies w (some ⟨g, 0, none⟩) (ns.map iv)) :
    Calls Try.prog 38 #[.slice (some ⟨g, 0, none⟩) ns.length cp] w fun e w' => e = .returned (.slice (some ⟨g, 0, none⟩) (tl ns ns.length) (tl ns ns.length)) ∧ w' = w := by
  have HP : Hid (Lies w (some ⟨g, 0, none⟩) (ns.map iv)) := hp
  clear hp
  go_enter Try.func38, Try.ntmps38
  go_wp2_with fail
  go_loop [3] (fun vv => ∃ k : Nat, vv = .int .i64 k ∧ k ≤ ns.length ∧ Hid (tl ns k = tl ns ns.length)) (fun vv => (intOf vv).toNat)
  case atStart => exact ⟨_, rfl, Nat.le_refl _, rfl⟩
  case round =>
    obtain ⟨k, rfl, hk, HE⟩ := hrel
    cases k with
    | zero =>
      go_wp2
      go_ret
      refine ⟨?_, rfl⟩
      have := HE.out
      rw [tl] at this
      rw [← this]
      rfl
    | succ k =>
      obtain ⟨b, o, e, hc⟩ := HP.out (by simp; omega)
      cases e
      obtain ⟨x, hx⟩ : ∃ x, ns[k]? = some x := ⟨_, List.getElem?_eq_getElem (by omega)⟩
      have c1 := hc k (iv x) (by rw [List.getElem?_map, hx]; rfl)
      rw [Nat.zero_add] at c1
      have HX : Hid (ns[k]? = some x) := hx
      clear hc hx
      by_cases hz : x = 0
      · subst hz
        go_wp2
        go_round
        case rel =>
          refine ⟨k, by go_num, by omega, ?_⟩
          have := HE.out
          rw [tl, if_pos HX.out] at this
          exact this
        case measure => simp [intOf]
      · have hz' : (x == 0) = false := by simpa using hz
        go_wp2
        go_ret
        refine ⟨?_, rfl⟩
        have := HE.out
        rw [tl, if_neg (by rw [HX.out]; intro e; cases e; exact hz rfl)] at this
        rw [← this]
        rfl

theorem allOf_succ (ns : List Int) (n : Nat) : allOf ns (n + 1) = allOf ns n ++ [atOf ns n] := by simp [allOf, List.range_succ]
theorem allOf_length (ns : List Int) (n : Nat) : (allOf ns n).length = n := by simp [allOf]

theorem wpList_append_num {W : World} {ops : Array Oper} {rest : List Oper} {o : Oper} {a : Act} {Q : Exit → Act → World → Prop} (hgd : o.guard = none) (s x : Operand) (t e : TypeId)
    (ho : o.op = .call { callee := .builtin .append, args := #[s, x], argTypes := #[t, t] }) (ht : Try.prog.underlying t = some (.slice e)) (hie : (Try.prog.info? e).map (fun i => (i.zero, i.size, i.bytes)) = some (some (.int .i64 0), 1, 8))
    (base : Nat) (v : Value) (n : Nat) (xs : List Value) (hs : a.eval s = v) (W0 : World) (y : Int) (hW : W = W0.alloc (.cells #[.int .i64 y] e)) (hown : Hid (W0.ownsRow base e 1 v n xs))
    (hx : a.eval x = .slice (some ⟨W0.heap.size, 0, none⟩) 1 1) (h63 : Hid (n ≤ 1000000)) (hbase : Hid (base ≤ W0.heap.size))
    (h : ∀ v' w', Hid (w'.ownsRow base e 1 v' (n + 1) (xs ++ [.int .i64 y])) → Hid (W.grownBy w' v.ownBlock) → Hid (v'.ownBlock = v.ownBlock ∨ v'.ownBlock = some W.heap.size) → wpList Try.prog ops Q rest (a.put o.dst v') w') :
    wpList Try.prog ops Q (o :: rest) a W := by
  obtain ⟨i0, hi0, hz0, hz1, hz2⟩ := info_parts hie
  subst hW
  refine wpList_append_own_at _ hgd s x t ho base e i0 (.int .i64 0) 1 8 ht hi0 hz0 hz1 hz2 rfl (by decide) v n xs hs (hown.out.alloc _) ⟨W0.heap.size, 0, none⟩ 1 1 [.int .i64 y] hx rfl (cell_one_new _ _ _) (by simp [Value.oneCell'])
    (by have := h63.out; unfold maxLen; omega) (by have := h63.out; omega) (by have := hbase.out; simp; omega) ?_
  intro v' w' h1 h2 _ h4
  exact h v' w' h1 h2 h4

set_option maxRecDepth 8000 in
set_option maxRecDepth 8000 in
set_option maxHeartbeats 400000 in
theorem norm_any (p : Option Addr) (ns : List Int) (cp : Nat) (w : World) (hp : Lies w p (ns.map iv)) :
    Calls Try.prog 37 #[.slice p ns.length cp] w fun e w' => ∃ g c, e = .returned (.slice (some ⟨g, 0, none⟩) (normOf ns).length c) ∧ w.heap.size ≤ g ∧ Lies w' (some ⟨g, 0, none⟩) ((normOf ns).map iv) ∧ Below w.heap.size w w' := by
  have HP : Hid (Lies w p (ns.map iv)) := hp
  clear hp
  go_enter Try.func37, Try.ntmps37
  go_wp2_with fail
  go_loopw [3, 4] (fun vv ii wr => ∃ i : Nat, ii = .int .i64 i ∧ i ≤ 64 ∧ Hid (wr.ownsRow w.heap.size 2 1 vv i ((allOf ns i).map iv)) ∧ Hid (Below w.heap.size w wr)) (fun _ ii _ => 64 - (intOf ii).toNat)
  case atStart => exact ⟨0, rfl, by omega, World.ownsRow_nil _ _ _ _, Below.refl _ _⟩
  case round =>
    obtain ⟨i, rfl, hi, HO, HB⟩ := hrel
    by_cases hlt : i < 64
    · have hltI : (i : Int) < 64 := by omega
      have c66 := at_any p ns cp i wr (below_lies HB.out HP.out) hlt
      generalize hy : atOf ns i = y at c66
      have HY : Hid (atOf ns i = y) := hy
      have H1 : Hid (i ≤ 1000000) := by show _ ≤ _; omega
      have H2 : Hid (w.heap.size ≤ wr.heap.size) := HB.out.size
      have tok : True := trivial
      clear hy
      go_wp2_with (first
        | (go_at_call 22; refine Calls_on c66 ?_)
        | (have tk := tok; refine wpList_append_num rfl _ _ 33 2 rfl Try.underlying33 Try.info2 w.heap.size _ i _ rfl wr y rfl HO rfl H1 H2 ?_; clear tk tok; intro v' w1 K1 K2 K3))
      go_roundw
      case rel =>
        refine ⟨i + 1, by go_num, by omega, ?_, ?_⟩
        · rw [allOf_succ, List.map_append, HY.out]; exact K1
        · exact (HB.out.alloc HB.out.size _).grown K2.out (by have := H2.out; simp; omega) (fun k hk => (own_lt HO.out hk).1)
      case measure => simp [intOf]; omega
    · obtain rfl : i = 64 := by omega
      have hown := HO.out
      obtain ⟨g, cap, hv, hg, _⟩ := hown.form (by decide)
      subst hv
      obtain ⟨hl0, p', c', e1, hc', hlies, hob⟩ := owns_lies hown
      simp only [Value.slice.injEq] at e1
      obtain ⟨rfl, e2, rfl⟩ := e1
      have c67 := qshort_any g (allOf ns 64) cap wr (by rw [allOf_length]; simpa [allOf_length] using hc') (by rw [allOf_length]; decide) hlies
      rw [allOf_length] at c67
      have HL : Hid (Lies wr (some ⟨g, 0, none⟩) ((allOf ns 64).map iv)) := hlies
      have HG : Hid (w.heap.size ≤ g) := hg
      have HN : Hid ((normOf ns).length = tl (allOf ns 64) 64) := by
        show _ = _
        unfold normOf; rw [List.length_take, allOf_length]; exact Nat.min_eq_left (tl_le _ _)
      have HBW : Hid (Below w.heap.size w wr) := HB
      obtain ⟨t, ht⟩ : ∃ t, tl (allOf ns 64) 64 = t := ⟨_, rfl⟩
      rw [ht] at c67 HN
      clear hown hc' hlies hlt e2 hg ht hi HO hl0 hob
      go_wp2_with (go_at_call 38; refine Calls_on c67 ?_)
      go_ret
      refine ⟨g, _, by rw [HN.out]; rfl, HG.out, ?_, HB.out⟩
      unfold normOf
      rw [List.map_take]
      have := HL.out
      intro hl
      obtain ⟨b, o, e, hx⟩ := this (by simp [allOf_length])
      refine ⟨b, o, e, fun j x hj => hx j x ?_⟩
      rw [List.getElem?_take] at hj
      split at hj
      · exact hj
      · cases hj

end Go.Proofs.Yteimjkicinjcgaa.Cd
