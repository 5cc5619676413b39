/-
  vector: sixty-four numbers as a list in normal form; Norm.
-/
import Derived.Test.YteimjkicinjcgaaKVcnt

namespace Go.Proofs.Yteimjkicinjcgaa.Vc
open Go.RowKit

theorem append_23_22 (ty : TypeId) (p : Option Addr) (n c : Nat) (x : Value) (w : World) : (Builtin.append_ #[33, 32] ty #[.slice p n c, x]).run Try.prog w = (Builtin.append_ #[33, 33] ty #[.slice p n c, x]).run Try.prog w := by
  simp [Builtin.append_, run_underlying Try.underlying33, run_underlying Try.underlying32, Try.sizeOf2]

theorem slice38 (g : Nat) {z : Int} {n : Nat} (hz : z = n) (hn : n ≤ 64) (w : World) : (Instr.sliceAt 87 (.pointer (some ⟨g, 0, none⟩)) none (some (.int .i64 z)) none).run Try.prog w = .ok (.slice (some ⟨g, 0, none⟩) n 64) w := by
  subst hz
  simp [Instr.sliceAt, run_underlying Try.underlying87, Instr.sureAddr, Instr.sliceBounds, Instr.sliceBound, Try.sizeOf2, asIntOf, Addr.add_lit]
  omega

/-- The first numbers of a block, appended to nothing. -/
theorem wpList_append_front {w : World} {ops : Array Oper} {rest : List Oper} {o : Oper} {a : Act} {Q : Exit → Act → World → Prop} (hgd : o.guard = none) (s x : Operand)
    (ho : o.op = .call { callee := .builtin .append, args := #[s, x], argTypes := #[33, 32] }) (base : Nat) (hs : a.eval s = .slice none 0 0) (g n c : Nat) (ns : List Int) (hx : a.eval x = .slice (some ⟨g, 0, none⟩) n c)
    (hb : Hid (Blk w g ns)) (hl : Hid (ns.length = 64)) (hn : Hid (n ≤ 64)) (hbase : Hid (base ≤ w.heap.size))
    (h : ∀ p c' w', Hid (Lies w' p ((ns.take n).map iv)) → Hid (Below base w w') → wpList Try.prog ops Q rest (a.put o.dst (.slice p (ns.take n).length c')) w') :
    wpList Try.prog ops Q (o :: rest) a w := by
  refine wpList_plain hgd fun K hK => ?_
  obtain ⟨i0, hi0, hz0, hz1, hz2⟩ := info_parts Try.info2
  have hlen : ((ns.take n).map iv).length = n := by have := hl.out; have := hn.out; simp; omega
  obtain ⟨v', w', hr, h2, h3, _, h5⟩ := run_append_own_at (P := Try.prog) w base 33 o.type 2 i0 (.int .i64 0) 1 8 Try.underlying33 hi0 hz0 hz1 hz2 rfl (by decide) (.slice none 0 0) 0 [] (World.ownsRow_nil _ _ _ _) ⟨g, 0, none⟩ n c ((ns.take n).map iv) (by omega)
    (fun j u hj => by
      rw [Addr.add_lit]
      obtain ⟨b, o', e, hc⟩ := lies_take hb.out.lies n (Nat.lt_of_le_of_lt (Nat.zero_le _) (List.getElem?_eq_some_iff.1 hj).1)
      cases e
      exact hc j u hj) (iv_one _) (by have := hn.out; unfold maxLen; omega) (by have := hn.out; omega) hbase.out
  obtain ⟨_, p', c', rfl, _, hlies⟩ := owns_lies h2
  unfold Oper.wp execOp
  simp only [ho, resolve, invoke, builtin, Sem.run_bind, Sem.run_pure, Result.andThen_ok, List.map_toArray, List.map_cons, List.map_nil, hs, hx, append_23_22, hr]
  refine hK _ _ ?_
  rw [List.nil_append] at hlies ⊢
  rw [List.length_map]
  exact h p' c' w' hlies ⟨h3.os, h3.tape, h3.output, h3.size, fun k hk => h3.block k (Nat.lt_of_lt_of_le hk hbase.out) (fun e => by cases e)⟩

set_option maxRecDepth 8000 in
set_option maxRecDepth 8000 in
set_option maxHeartbeats 400000 in
theorem vector_any (f : Nat → Int) (w : World) :
    Calls Try.prog 70 #[.agg (row (nums f))] w (Ans w (vec f)) := by
  obtain ⟨xs, hxs⟩ : ∃ xs, xs = nums f := ⟨_, rfl⟩
  have HXL : Hid (xs.length = 64) := by show _ = _; rw [hxs]; exact nums_length _
  obtain ⟨ys, hys⟩ : ∃ ys, ys = vec f := ⟨_, rfl⟩
  rw [← hys, ← hxs]
  have HV : Hid (ys = xs.take (tl xs 64)) := by show _ = _; rw [hys, hxs]; rfl
  clear hys hxs
  have HM : Hid (Blk (w.alloc (.cells (row xs) 87)) w.heap.size xs) := Blk.made w xs
  go_enter Try.func70, Try.ntmps70
  go_wp2_with (refine wpList_box38 rfl _ rfl xs rfl ?_)
  go_loop [3] (fun vv => ∃ k : Nat, vv = .int .i64 k ∧ k ≤ 64 ∧ Hid (tl xs k = tl xs 64)) (fun vv => (intOf vv).toNat)
  case atStart => exact ⟨64, rfl, Nat.le_refl _, rfl⟩
  case round =>
    obtain ⟨k, rfl, hk, HE⟩ := hrel
    by_cases hend : k = 0 ∨ ∃ j x, k = j + 1 ∧ xs[j]? = some x ∧ x ≠ 0
    · have HT : Hid (tl xs 64 = k) := by
        show _ = _
        rw [← HE.out]
        rcases hend with rfl | ⟨j, x, rfl, hx, hz⟩
        · rfl
        · rw [tl, if_neg (by rw [hx]; intro e; cases e; exact hz rfl)]
      have HK : Hid (k ≤ 64) := hk
      have HBS : Hid (w.heap.size ≤ (w.alloc (.cells (row xs) 87)).heap.size) := by show _ ≤ _; simp
      have HV' : Hid (xs.take k = ys) := by show _ = _; rw [HV.out, HT.out]
      clear HE HT
      rcases hend with rfl | ⟨j, x, rfl, hx, hz⟩
      · go_wp2_with (refine wpList_append_front rfl _ _ rfl w.heap.size rfl w.heap.size _ _ xs rfl HM HXL HK HBS ?_; intro p c w1 HL HB)
        have HL' := HL.out
        rw [HV'.out] at HL'
        go_ret
        exact Ans.mk rfl (by rw [← HV'.out]; simp) HL' (((Below.refl _ _).alloc (Nat.le_refl _) _).trans HB.out)
      · have cx := HM.out.cell hx
        have hz' : (x == 0) = false := by simpa using hz
        have hs := fun w' => slice38 w.heap.size (z := (j : Int) + 1) (n := j + 1) (by omega) hk w'
        clear hx hz
        go_wp2_with (refine wpList_append_front rfl _ _ rfl w.heap.size rfl w.heap.size _ _ xs rfl HM HXL HK HBS ?_; intro p c w1 HL HB)
        have HL' := HL.out
        rw [HV'.out] at HL'
        go_ret
        exact Ans.mk rfl (by rw [← HV'.out]; simp) HL' (((Below.refl _ _).alloc (Nat.le_refl _) _).trans HB.out)
    · obtain ⟨j, rfl⟩ : ∃ j, k = j + 1 := ⟨k - 1, by rcases Nat.eq_zero_or_pos k with h | h; exact absurd (.inl h) hend; omega⟩
      obtain ⟨x, hx⟩ : ∃ x, xs[j]? = some x := ⟨_, List.getElem?_eq_getElem (by rw [HXL.out]; omega)⟩
      have hz : x = 0 := Decidable.byContradiction fun h => hend (.inr ⟨j, x, rfl, hx, h⟩)
      subst hz
      have cx := HM.out.cell hx
      have HX : Hid (xs[j]? = some 0) := hx
      clear hx hend
      go_wp2
      go_round
      case rel =>
        refine ⟨j, by go_num, by omega, ?_⟩
        have := HE.out
        rw [tl, if_pos HX.out] at this
        exact this
      case measure => simp [intOf]

theorem Below.then {B : Nat} {u v w : World} (h : Below B u v) (k : Below v.heap.size v w) (hB : B ≤ u.heap.size) : Below B u w := h.trans (k.mono (Nat.le_trans hB h.size))
theorem Ans.after {u v w : World} {ns : List Int} {e : Ending} (h : Below u.heap.size u v) (k : Ans v ns e w) : Ans u ns e w := by
  obtain ⟨p, c, he, hl, hb⟩ := k
  exact ⟨p, c, he, hl, Below.then h hb (Nat.le_refl _)⟩

set_option maxRecDepth 8000 in
set_option maxHeartbeats 400000 in
theorem norm_any (p : Option Addr) (ns : List Int) (cp : Nat) (w : World) (hp : Lies w p (ns.map iv)) :
    Calls Try.prog 77 #[.slice p ns.length cp] w (Ans w (vec (atOf ns))) := by
  have c27 := countsOf_any p ns cp w hp
  obtain ⟨f, hf⟩ : ∃ f, atOf ns = f := ⟨_, rfl⟩
  rw [hf] at c27 ⊢
  clear hp hf
  go_enter Try.func77, Try.ntmps77
  go_wp2_with (first
    | (go_at_call 69; refine c27.mono ?_; rintro e w1 ⟨rfl, hB⟩; have HB : Hid (Below w.heap.size w w1) := hB; clear hB c27)
    | (go_at_call 70; refine (vector_any f w1).mono ?_; rintro e w2 ⟨p', c', rfl, hl, hb⟩; have HA : Hid (Ans w1 (vec f) (.returned (.slice p' (vec f).length c')) w2) := ⟨p', c', rfl, hl, hb⟩; clear hl hb))
  go_ret
  exact HA.out.after HB.out

end Go.Proofs.Yteimjkicinjcgaa.Vc
