/-
  With, Min.
-/
import Derived.Test.YtflmlojdjegnkaaVct
namespace Go.Proofs.Ytflmlojdjegnkaa
open Go.RowKit

/-- A callee that answers a vector, met at its call. -/
theorem Calls_ans {f : Nat} {args : Array Value} {w : World} {ns : List Int} {K : Ending → World → Prop} (h : Calls Try.prog f args w (Ans w ns))
    (hk : ∀ p c w', Hid (Lies w' p (ns.map iv)) → Hid (Below w.heap.size w w') → K (.returned (.slice p ns.length c)) w') : Calls Try.prog f args w K :=
  h.mono (by rintro e w' ⟨p, c, rfl, hl, hb⟩; exact hk p c w' hl hb)
/-- A callee that answers a value and makes new memory alone. -/
theorem Calls_new {f : Nat} {args : Array Value} {w : World} {v : Ending} {K : Ending → World → Prop} (h : Calls Try.prog f args w fun e w' => e = v ∧ Below w.heap.size w w')
    (hk : ∀ w', Hid (Below w.heap.size w w') → K v w') : Calls Try.prog f args w K :=
  h.mono (by rintro e w' ⟨rfl, hb⟩; exact hk w' hb)

/-- A new block of zeros, in a world of its own name. -/
theorem wpList_new38 {w : World} {ops : Array Oper} {rest : List Oper} {o : Oper} {a : Act} {Q : Exit → Act → World → Prop} (hgd : o.guard = none) (ho : o.op = .alloc 38)
    (h : ∀ w', Hid (Blk w' w.heap.size zeros) → Hid (Below w.heap.size w w') → wpList Try.prog ops Q rest (a.put o.dst (.pointer (some ⟨w.heap.size, 0, none⟩))) w') : wpList Try.prog ops Q (o :: rest) a w :=
  wpList_alloc38 hgd ho (h _ (Blk.made w zeros) ((Below.refl _ _).alloc (Nat.le_refl _) _))
/-- A whole array into its block, in a world of its own name. -/
theorem wpList_put38 {w : World} {ops : Array Oper} {rest : List Oper} {o : Oper} {a : Act} {Q : Exit → Act → World → Prop} (hgd : o.guard = none) (x y : Operand) (ho : o.op = .store 38 x y)
    (g : Nat) (hx : a.eval x = .pointer (some ⟨g, 0, none⟩)) (ns ms : List Int) (hy : a.eval y = .agg (row ms)) (hb : Hid (Blk w g ns)) (hl : Hid (ns.length = 64)) (hm : Hid (ms.length = 64))
    (h : ∀ w', Hid (Blk w' g ms) → Hid (Below g w w') → wpList Try.prog ops Q rest (a.put o.dst undef) w') : wpList Try.prog ops Q (o :: rest) a w :=
  wpList_store38 hgd x y ho g hx ns ms hy hb hl hm (fun hB => h _ hB (Below.row (Below.refl g w) (Nat.le_refl _) _))

theorem withAt_no {v : List Int} {z n : Int} (h : nodeB z = false ∨ okN n = false) (k : Nat) : withAt v z n k = atOf v k := by
  unfold withAt
  rw [if_neg]
  rintro ⟨h0, h1, h2, _⟩
  rcases h with h | h
  · rw [show nodeB z = true by simp [nodeB, h0, h1]] at h; cases h
  · rw [h2] at h; cases h
theorem withAt_set {v : List Int} {k : Nat} {n : Int} (hk : k < 64) (hn : okN n = true) : (nums (atOf v)).set k n = nums (withAt v k n) := by
  apply List.ext_getElem?
  intro i
  rw [List.getElem?_set]
  by_cases hi : k = i
  · subst hi
    rw [if_pos rfl, if_pos (by rw [nums_length]; exact hk), nums_get _ hk]
    unfold withAt
    rw [if_pos ⟨by omega, by omega, hn, rfl⟩]
  · rw [if_neg hi]
    by_cases hl : i < 64
    · rw [nums_get _ hl, nums_get _ hl]
      unfold withAt
      rw [if_neg (by omega)]
    · rw [List.getElem?_eq_none (by rw [nums_length]; omega), List.getElem?_eq_none (by rw [nums_length]; omega)]

set_option maxRecDepth 8000 in
set_option maxHeartbeats 400000 in
theorem with_any (p : Option Addr) (ns : List Int) (cp : Nat) (z n : Int) (w : World) (hp : Lies w p (ns.map iv)) :
    Calls Try.prog 13 #[.slice p ns.length cp, .int .i64 z, .int .i64 n] w (Ans w (vec (withAt ns z n))) := by
  have c27 := countsOf_any p ns cp w hp
  have HZL : Hid (zeros.length = 64) := zeros_length
  clear hp
  by_cases hin : nodeB z = true ∧ okN n = true
  · obtain ⟨hz, hn⟩ := hin
    obtain ⟨k, rfl⟩ : ∃ k : Nat, z = k := by
      simp [nodeB] at hz
      exact Int.eq_ofNat_of_zero_le hz.1
    have hk : k < 64 := by simp [nodeB] at hz; omega
    obtain ⟨xs, hxs⟩ : ∃ xs, nums (atOf ns) = xs := ⟨_, rfl⟩
    have HXL : Hid (xs.length = 64) := by show _ = _; rw [← hxs]; exact nums_length _
    have HS : Hid (xs.set k n = nums (withAt ns k n)) := by show _ = _; rw [← hxs]; exact withAt_set hk hn
    generalize withAt ns k n = f at HS
    rw [hxs] at c27
    have c29 := fun w => isNode_any k w
    have c30 := fun w => isCount_any n w
    rw [hz] at c29
    rw [hn] at c30
    have hkI : (k : Int) < 64 := by omega
    clear hxs hz hn
    go_enter Try.func13, Try.ntmps13
    obtain ⟨x0, hx0⟩ : ∃ x0, xs[k]? = some x0 := ⟨_, List.getElem?_eq_getElem (by rw [HXL.out]; exact hk)⟩
    have HX0 : Hid (xs[k]? = some x0) := hx0
    have HNL : Hid ((nums f).length = 64) := nums_length f
    clear hx0
    go_wp2_with (first
      | (go_at_call 27; refine Calls_new c27 ?_; intro w1 HB; clear c27)
      | (refine wpList_new38 rfl rfl ?_; intro w2 HM HB2)
      | (refine wpList_put38 rfl _ _ rfl w1.heap.size rfl zeros xs rfl HM HZL HXL ?_; intro w3 HX HB3; have cx := HX.out.cell HX0.out; have fx := HX.out.frozen k)
      | (go_at_call 29; refine Calls_on (c29 _) ?_)
      | (go_at_call 30; refine Calls_on (c30 _) ?_)
      | (refine wpList_load38 rfl _ rfl w1.heap.size rfl (nums f) (by show Blk _ _ _; rw [← HS.out]; exact HX.out.set k n) HNL ?_)
      | (go_at_call 28; refine Calls_ans (vector_any f _) ?_; intro p' c' w4 HL HB4))
    go_ret
    exact ⟨p', c', rfl, HL.out, Below.then ((Below.then HB.out HB2.out (Nat.le_refl _)).trans ((HB3.out.setCell (Nat.le_refl _) _).mono HB.out.size)) HB4.out (Nat.le_refl _)⟩
  · have hno : nodeB z = false ∨ okN n = false := by
      cases h1 : nodeB z with
      | false => exact .inl rfl
      | true =>
        cases h2 : okN n with
        | false => exact .inr rfl
        | true => exact absurd ⟨h1, h2⟩ hin
    rw [vec_congr (fun k _ => withAt_no hno k)]
    have HXL : Hid ((nums (atOf ns)).length = 64) := nums_length _
    generalize atOf ns = f at c27 HXL
    have c29 := fun w => isNode_any z w
    have c30 := fun w => isCount_any n w
    clear hin
    rcases hno with h | h
    · rw [h] at c29
      clear h
      go_enter Try.func13, Try.ntmps13
      go_wp2_with (first
        | (go_at_call 27; refine Calls_new c27 ?_; intro w1 HB; clear c27)
        | (refine wpList_new38 rfl rfl ?_; intro w2 HM HB2)
        | (refine wpList_put38 rfl _ _ rfl w1.heap.size rfl zeros (nums f) rfl HM HZL HXL ?_; intro w3 HX HB3)
        | (go_at_call 29; refine Calls_on (c29 _) ?_)
        | (refine wpList_load38 rfl _ rfl w1.heap.size rfl (nums f) HX HXL ?_)
        | (go_at_call 28; refine Calls_ans (vector_any f _) ?_; intro p' c' w4 HL HB4))
      go_ret
      exact ⟨p', c', rfl, HL.out, Below.then ((Below.then HB.out HB2.out (Nat.le_refl _)).trans (HB3.out.mono HB.out.size)) HB4.out (Nat.le_refl _)⟩
    · rw [h] at c30
      clear h
      cases h29 : nodeB z with
      | true =>
        rw [h29] at c29
        clear h29
        go_enter Try.func13, Try.ntmps13
        go_wp2_with (first
          | (go_at_call 27; refine Calls_new c27 ?_; intro w1 HB; clear c27)
          | (refine wpList_new38 rfl rfl ?_; intro w2 HM HB2)
          | (refine wpList_put38 rfl _ _ rfl w1.heap.size rfl zeros (nums f) rfl HM HZL HXL ?_; intro w3 HX HB3)
          | (go_at_call 29; refine Calls_on (c29 _) ?_)
          | (go_at_call 30; refine Calls_on (c30 _) ?_)
          | (refine wpList_load38 rfl _ rfl w1.heap.size rfl (nums f) HX HXL ?_)
          | (go_at_call 28; refine Calls_ans (vector_any f _) ?_; intro p' c' w4 HL HB4))
        go_ret
        exact ⟨p', c', rfl, HL.out, Below.then ((Below.then HB.out HB2.out (Nat.le_refl _)).trans (HB3.out.mono HB.out.size)) HB4.out (Nat.le_refl _)⟩
      | false =>
        rw [h29] at c29
        clear h29
        go_enter Try.func13, Try.ntmps13
        go_wp2_with (first
          | (go_at_call 27; refine Calls_new c27 ?_; intro w1 HB; clear c27)
          | (refine wpList_new38 rfl rfl ?_; intro w2 HM HB2)
          | (refine wpList_put38 rfl _ _ rfl w1.heap.size rfl zeros (nums f) rfl HM HZL HXL ?_; intro w3 HX HB3)
          | (go_at_call 29; refine Calls_on (c29 _) ?_)
          | (refine wpList_load38 rfl _ rfl w1.heap.size rfl (nums f) HX HXL ?_)
          | (go_at_call 28; refine Calls_ans (vector_any f _) ?_; intro p' c' w4 HL HB4))
        go_ret
        exact ⟨p', c', rfl, HL.out, Below.then ((Below.then HB.out HB2.out (Nat.le_refl _)).trans (HB3.out.mono HB.out.size)) HB4.out (Nat.le_refl _)⟩

end Go.Proofs.Ytflmlojdjegnkaa
