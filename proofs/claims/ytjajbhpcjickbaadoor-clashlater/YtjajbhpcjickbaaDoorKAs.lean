/-
  The region of ClashLater that makes longer lists, in whatever order.
-/
import Derived.Test.YtjajbhpcjickbaaDoorKAq
import Derived.Test.YtjajbhpcjickbaaDoorKZr

namespace Go.Proofs.YtjajbhpcjickbaaDoor.Ck.Sh
open Go.RowKit Go.Lib Go.Maps

attribute [local go_sem] Oper.semAt_some

structure G7 where
  a1 : Value
  a2 : Value
  a3 : Value
  b1 : Value
  b2 : Value
  b3 : Value
  r : Value
/-- What is there of both lists, by what is done. -/
structure LSt (w1 : World) (n : Nat) (X1 X2 X3 Y1 Y2 Y3 : List Value) (Fin : Value → World → Prop) (g : G7) (b : Nat → Bool) (W : World) : Prop where
  bel : Below w1.heap.size w1 W
  a1 : b 1 = true → b 4 = false → W.ownsRow w1.heap.size 29 2 g.a1 n X1
  a2 : b 3 = true → b 4 = false → W.ownsRow w1.heap.size 29 2 g.a2 1 X2
  a3 : b 4 = true → W.ownsRow w1.heap.size 29 2 g.a3 (n + 1) X3
  b1 : b 6 = true → b 9 = false → W.ownsRow w1.heap.size 9 1 g.b1 n Y1
  b2 : b 8 = true → b 9 = false → W.ownsRow w1.heap.size 9 1 g.b2 1 Y2
  b3 : b 9 = true → W.ownsRow w1.heap.size 9 1 g.b3 (n + 1) Y3
  r : b 10 = true → Fin g.r W
theorem own_none {w w' : World} {b1 : Nat} {e1 : TypeId} {s1 n1 : Nat} {v1 : Value} {x1 : List Value} (h1 : w.ownsRow b1 e1 s1 v1 n1 x1) (hg : w.grownBy w' none) : w'.ownsRow b1 e1 s1 v1 n1 x1 := by
  obtain ⟨hl, h | ⟨g, cap, cur, rfl, k1, hb, k2⟩⟩ := h1
  · exact ⟨hl, .inl h⟩
  · exact ⟨hl, .inr ⟨g, cap, cur, rfl, k1, (hg.block g (block_lt hb) (fun e => by cases e)).trans hb, k2⟩⟩
theorem nil_row (w : World) (b : Nat) (e : TypeId) (s : Nat) : w.ownsRow b e s (.slice none 0 0) 0 [] := ⟨by simp, .inl ⟨rfl, rfl⟩⟩
theorem below_none {w0 w w' : World} (h : Below w0.heap.size w0 w) (hg : w.grownBy w' none) : Below w0.heap.size w0 w' := grown_low (base := w0.heap.size) (e := 0) (sz := 1) (n := 0) (v := .slice none 0 0) (xs := []) h (nil_row w _ _ _) hg (Nat.le_refl _)
section
variable {w1 : World} {n : Nat} {X1 X2 X3 Y1 Y2 Y3 : List Value} {Fin : Value → World → Prop} {g : G7} {b : Nat → Bool} {W : World}
theorem LSt.same (h : LSt w1 n X1 X2 X3 Y1 Y2 Y3 Fin g b W) {i : Nat} (hi : i ≠ 1 ∧ i ≠ 3 ∧ i ≠ 4 ∧ i ≠ 6 ∧ i ≠ 8 ∧ i ≠ 9 ∧ i ≠ 10) : LSt w1 n X1 X2 X3 Y1 Y2 Y3 Fin g (did b i) W := by
  have e : ∀ k, k ≠ i → did b i k = b k := fun k hk => if_neg hk
  refine ⟨h.bel, ?_, ?_, ?_, ?_, ?_, ?_, ?_⟩
  · rw [e 1 (by omega), e 4 (by omega)]; exact h.a1
  · rw [e 3 (by omega), e 4 (by omega)]; exact h.a2
  · rw [e 4 (by omega)]; exact h.a3
  · rw [e 6 (by omega), e 9 (by omega)]; exact h.b1
  · rw [e 8 (by omega), e 9 (by omega)]; exact h.b2
  · rw [e 9 (by omega)]; exact h.b3
  · rw [e 10 (by omega)]; exact h.r
end

set_option maxRecDepth 8000 in
set_option maxRecDepth 8000 in
set_option maxHeartbeats 4000000 in
theorem lt14 {Q : Exit → Act → World → Prop} {base : Array Value} {dd : List Deferred} {ops : Array Oper} (hops : Tryd.f6.body.bind (regs 14) = some ops) (p1 p2 : Option Addr) (n c1 c2 bi : Nat) (nm : List UInt8) (T N : Int) (ids : List (Int × Int)) (names : List (List UInt8)) (Fin : Value → World → Prop) (w9 : World) (hsz : base.size = 109)
    (b0 : base.getD 0 undef = .slice p1 n c1)
    (b1 : base.getD 1 undef = .slice p2 n c2)
    (b2 : base.getD 2 undef = .string (bas nm))
    (b8 : base.getD 8 undef = .pointer (some ⟨bi, 0, none⟩))
    (hid : IdC w9 bi T N) (h1 : Ids w9 p1 ids) (h2 : Nms w9 p2 names) (hl1 : ids.length = n) (hl2 : names.length = n) (hn : n < 1000000000)
    (hc : ∀ (v v' : Value) W, Below w9.heap.size w9 W → W.ownsRow w9.heap.size 29 2 v (n + 1) (idsC (ids ++ [(T, N)])) → W.ownsRow w9.heap.size 9 1 v' (n + 1) (strs (names ++ [nm])) → Calls Tryd.prog 8 #[v, v'] W fun e w' => ∃ x, e = .returned x ∧ Below W.heap.size W w' ∧ Fin x w')
    (hQ : ∀ (g : G7) (W : World), Below w9.heap.size w9 W → Fin g.r W → Q .normal ⟨putAll base ((fun g : G7 => ([(some 52, .slice p1 n c1), (some 53, g.a1), (some 54, .agg #[.int .i64 T, .int .i64 N]), (some 55, g.a2), (some 56, g.a3), (some 57, .slice p2 n c2), (some 58, g.b1), (some 59, .string (bas nm)), (some 60, g.b2), (some 61, g.b3), (some 62, g.r), (some 11, g.r)] : List (Option Tmp × Value))) g), dd⟩ W) :
    (Code.region 14 ops true).wp Tryd.prog Q ⟨base, dd⟩ w9 := by
  have hmix : Tryd.prog.follows .mixedOrders = true := by kernel_rfl
  have h3 := (show Tryd.f6.body.bind (regs 14) = some _ from rfl).symm.trans hops
  obtain rfl := Option.some.inj h3
  clear h3 hops
  obtain ⟨LL, hLe⟩ : ∃ LL : G7 → List (Option Tmp × Value), LL = (fun g : G7 => ([(some 52, .slice p1 n c1), (some 53, g.a1), (some 54, .agg #[.int .i64 T, .int .i64 N]), (some 55, g.a2), (some 56, g.a3), (some 57, .slice p2 n c2), (some 58, g.b1), (some 59, .string (bas nm)), (some 60, g.b2), (some 61, g.b3), (some 62, g.r), (some 11, g.r)] : List (Option Tmp × Value))) := ⟨_, rfl⟩
  have vv0 : ∀ g, vals (LL g) 0 = .slice p1 n c1 := fun g => by rw [hLe]; rfl
  have vv1 : ∀ g, vals (LL g) 1 = g.a1 := fun g => by rw [hLe]; rfl
  have vv2 : ∀ g, vals (LL g) 2 = .agg #[.int .i64 T, .int .i64 N] := fun g => by rw [hLe]; rfl
  have vv3 : ∀ g, vals (LL g) 3 = g.a2 := fun g => by rw [hLe]; rfl
  have vv4 : ∀ g, vals (LL g) 4 = g.a3 := fun g => by rw [hLe]; rfl
  have vv5 : ∀ g, vals (LL g) 5 = .slice p2 n c2 := fun g => by rw [hLe]; rfl
  have vv6 : ∀ g, vals (LL g) 6 = g.b1 := fun g => by rw [hLe]; rfl
  have vv7 : ∀ g, vals (LL g) 7 = .string (bas nm) := fun g => by rw [hLe]; rfl
  have vv8 : ∀ g, vals (LL g) 8 = g.b2 := fun g => by rw [hLe]; rfl
  have vv9 : ∀ g, vals (LL g) 9 = g.b3 := fun g => by rw [hLe]; rfl
  have vv10 : ∀ g, vals (LL g) 10 = g.r := fun g => by rw [hLe]; rfl
  have vv11 : ∀ g, vals (LL g) 11 = g.r := fun g => by rw [hLe]; rfl
  refine region_laidg hmix (by kernel_rfl) 109 hsz (by kernel_rfl) ⟨undef, undef, undef, undef, undef, undef, undef⟩ LL (fun g => by rw [hLe]; rfl) (LSt w9 n (idsC ids) [.int .i64 T, .int .i64 N] (idsC (ids ++ [(T, N)])) (strs names) [.string (bas nm)] (strs (names ++ [nm])) Fin) ?_ ?_ ?_
  · exact ⟨(Below.refl _ _).drew, (fun h => by cases h), (fun h => by cases h), (fun h => by cases h), (fun h => by cases h), (fun h => by cases h), (fun h => by cases h), (fun h => by cases h)⟩
  · intro g b W io o a hS hcl ho hb hd ev kp yl
    match io with
    | 0 =>
      simp only [List.getElem?_toArray, List.getElem?_cons_zero, Option.some.injEq] at ho
      subst ho
      have e0 : a.tmps[0]?.getD undef = .slice p1 n c1 := (kp 0 (none_till (by kernel_rfl))).trans b0
      refine doesg_value rfl (by intro c h; cases h) (v := .slice p1 n c1) (w' := W) ?_ ⟨g, fun _ _ => rfl, (vv0 g).symm, hS.same (by decide)⟩
      simp [execOp, go_sem, e0]
    | 1 =>
      simp only [List.getElem?_toArray, List.getElem?_cons_zero, List.getElem?_cons_succ, Option.some.injEq] at ho
      subst ho
      have p0 : b 0 = true := hd ⟨0, .data⟩ (by simp) rfl
      have e52 := (ev 0 52 rfl p0).trans (vv0 g)
      have n4 : b 4 = false := by cases h : b 4 with | false => rfl | true => (have := hcl 4 _ rfl h ⟨1, .data⟩ (by simp) rfl; rw [hb] at this; cases this)
      obtain ⟨p', c', W', hr, ho1, hg1⟩ := app_run Tryd.underlying22 ti_id 22 W w9.heap.size (.slice none 0 0) 0 n [] (idsC ids) p1 c1 (nil_row W _ _ _) (cs_of_ids (h1.below hS.bel)) (by rw [idsC_length, hl1]) (idsC_one ids) (by omega) (by omega) hS.bel.size
      rw [List.nil_append, Nat.zero_add] at ho1
      rw [Nat.zero_add] at hr
      have hg1' : W.grownBy W' none := hg1
      refine doesg_value rfl (by intro c h; cases h) (v := .slice p' n c') (w' := W') ?_ ⟨{ g with a1 := .slice p' n c' }, ?_, (by rw [vv1]), ?_⟩
      · have hs0 : a.eval (.const (.slice none 0 0)) = .slice none 0 0 := by simp [Act.eval]
        have hs52 := (show a.eval (.tmp 52) = a.tmps[52]?.getD undef by simp [Act.eval]).trans e52; simp only [execOp, resolve, invoke, builtin, Sem.run_bind, Sem.run_pure, Result.andThen_ok, List.map_toArray, List.map_cons, List.map_nil, hs0, hs52, hr]
      · intro j hj
        match j, hj with
        | 0, _ => rw [vv0, vv0]
        | 1, h => rw [hb] at h; cases h
        | 2, _ => rw [vv2, vv2]
        | 3, _ => rw [vv3, vv3]
        | 4, _ => rw [vv4, vv4]
        | 5, _ => rw [vv5, vv5]
        | 6, _ => rw [vv6, vv6]
        | 7, _ => rw [vv7, vv7]
        | 8, _ => rw [vv8, vv8]
        | 9, _ => rw [vv9, vv9]
        | 10, _ => rw [vv10, vv10]
        | 11, _ => rw [vv11, vv11]
        | k + 12, _ => rw [hLe]; rfl
      · have dd_ : ∀ k, k ≠ 1 → did b 1 k = b k := fun k hk => if_neg hk
        refine ⟨below_none hS.bel hg1', ?_, ?_, ?_, ?_, ?_, ?_, ?_⟩
        · exact fun _ _ => ho1
        · exact fun h h' => own_none (hS.a2 (by rwa [dd_ 3 (by decide)] at h) (by rwa [dd_ 4 (by decide)] at h')) hg1'
        · exact fun h => own_none (hS.a3 (by rwa [dd_ 4 (by decide)] at h)) hg1'
        · exact fun h h' => own_none (hS.b1 (by rwa [dd_ 6 (by decide)] at h) (by rwa [dd_ 9 (by decide)] at h')) hg1'
        · exact fun h h' => own_none (hS.b2 (by rwa [dd_ 8 (by decide)] at h) (by rwa [dd_ 9 (by decide)] at h')) hg1'
        · exact fun h => own_none (hS.b3 (by rwa [dd_ 9 (by decide)] at h)) hg1'
        · intro h
          have n10 : b 10 = true := by rwa [dd_ 10 (by decide)] at h
          have := hcl 10 _ rfl n10 ⟨4, .data⟩ (by simp) rfl
          rw [n4] at this
          cases this
    | 2 =>
      simp only [List.getElem?_toArray, List.getElem?_cons_zero, List.getElem?_cons_succ, Option.some.injEq] at ho
      subst ho
      have e8 : a.tmps[8]?.getD undef = .pointer (some ⟨bi, 0, none⟩) := (kp 8 (none_till (by kernel_rfl))).trans b8
      have hI := hid.below hS.bel
      have d0 := hI.c0
      have d1 := hI.c1
      refine doesg_value rfl (by intro c h; cases h) (v := .agg #[.int .i64 T, .int .i64 N]) (w' := W) ?_ ⟨g, fun _ _ => rfl, (vv2 g).symm, hS.same (by decide)⟩
      simp [execOp, go_sem, e8, d0, d1]
    | 3 =>
      simp only [List.getElem?_toArray, List.getElem?_cons_zero, List.getElem?_cons_succ, Option.some.injEq] at ho
      subst ho
      have p2 : b 2 = true := hd ⟨2, .data⟩ (by simp) rfl
      have e54 := (ev 2 54 rfl p2).trans (vv2 g)
      have n4 : b 4 = false := by cases h : b 4 with | false => rfl | true => (have := hcl 4 _ rfl h ⟨3, .data⟩ (by simp) rfl; rw [hb] at this; cases this)
      have hbn := (below_new W (.cells #[.int .i64 T, .int .i64 N] 29)).out
      refine doesg_value rfl (by intro c h; cases h) (v := .slice (some ⟨W.heap.size, 0, none⟩) 1 1) (w' := W.alloc (.cells #[.int .i64 T, .int .i64 N] 29)) ?_ ⟨{ g with a2 := .slice (some ⟨W.heap.size, 0, none⟩) 1 1 }, ?_, (by rw [vv3]), ?_⟩
      · simp [execOp, go_sem, e54]
      · intro j hj
        match j, hj with
        | 0, _ => rw [vv0, vv0]
        | 1, _ => rw [vv1, vv1]
        | 2, _ => rw [vv2, vv2]
        | 3, h => rw [hb] at h; cases h
        | 4, _ => rw [vv4, vv4]
        | 5, _ => rw [vv5, vv5]
        | 6, _ => rw [vv6, vv6]
        | 7, _ => rw [vv7, vv7]
        | 8, _ => rw [vv8, vv8]
        | 9, _ => rw [vv9, vv9]
        | 10, _ => rw [vv10, vv10]
        | 11, _ => rw [vv11, vv11]
        | k + 12, _ => rw [hLe]; rfl
      · have dd_ : ∀ k, k ≠ 3 → did b 3 k = b k := fun k hk => if_neg hk
        refine ⟨below_then hS.bel hbn, ?_, ?_, ?_, ?_, ?_, ?_, ?_⟩
        · exact fun h h' => own_below (hS.a1 (by rwa [dd_ 1 (by decide)] at h) (by rwa [dd_ 4 (by decide)] at h')) hbn
        · exact fun _ _ => ⟨rfl, .inr ⟨W.heap.size, 1, _, rfl, hS.bel.size, heap_alloc_new W _, Nat.le_refl _, by decide, rfl, rfl⟩⟩
        · exact fun h => own_below (hS.a3 (by rwa [dd_ 4 (by decide)] at h)) hbn
        · exact fun h h' => own_below (hS.b1 (by rwa [dd_ 6 (by decide)] at h) (by rwa [dd_ 9 (by decide)] at h')) hbn
        · exact fun h h' => own_below (hS.b2 (by rwa [dd_ 8 (by decide)] at h) (by rwa [dd_ 9 (by decide)] at h')) hbn
        · exact fun h => own_below (hS.b3 (by rwa [dd_ 9 (by decide)] at h)) hbn
        · intro h
          have n10 : b 10 = true := by rwa [dd_ 10 (by decide)] at h
          have := hcl 10 _ rfl n10 ⟨4, .data⟩ (by simp) rfl
          rw [n4] at this
          cases this
    | 4 =>
      simp only [List.getElem?_toArray, List.getElem?_cons_zero, List.getElem?_cons_succ, Option.some.injEq] at ho
      subst ho
      have p1 : b 1 = true := hd ⟨1, .data⟩ (by simp) rfl
      have p3 : b 3 = true := hd ⟨3, .data⟩ (by simp) rfl
      have e53 := (ev 1 53 rfl p1).trans (vv1 g)
      have e55 := (ev 3 55 rfl p3).trans (vv3 g)
      have n10 : b 10 = false := by cases h : b 10 with | false => rfl | true => (have := hcl 10 _ rfl h ⟨4, .data⟩ (by simp) rfl; rw [hb] at this; cases this)
      have r1 := hS.a1 p1 hb
      have r2 := hS.a2 p3 hb
      obtain ⟨q2, d2, e2, hcs2⟩ := Cs.of_own r2
      rw [e2] at e55
      obtain ⟨p', c', W', hr, ho1, hg1⟩ := app_run Tryd.underlying22 ti_id 22 W w9.heap.size g.a1 n 1 (idsC ids) [.int .i64 T, .int .i64 N] q2 d2 r1 hcs2 rfl (idsC_one [(T, N)]) (by omega) (by omega) hS.bel.size
      have ho2 : W'.ownsRow w9.heap.size 29 2 (.slice p' (n + 1) c') (n + 1) (idsC (ids ++ [(T, N)])) := by rw [idsC_append]; exact ho1
      refine doesg_value rfl (by intro c h; cases h) (v := .slice p' (n + 1) c') (w' := W') ?_ ⟨{ g with a3 := .slice p' (n + 1) c' }, ?_, (by rw [vv4]), ?_⟩
      · have hs53 := (show a.eval (.tmp 53) = a.tmps[53]?.getD undef by simp [Act.eval]).trans e53; have hs55 := (show a.eval (.tmp 55) = a.tmps[55]?.getD undef by simp [Act.eval]).trans e55; simp only [execOp, resolve, invoke, builtin, Sem.run_bind, Sem.run_pure, Result.andThen_ok, List.map_toArray, List.map_cons, List.map_nil, hs53, hs55, hr]
      · intro j hj
        match j, hj with
        | 0, _ => rw [vv0, vv0]
        | 1, _ => rw [vv1, vv1]
        | 2, _ => rw [vv2, vv2]
        | 3, _ => rw [vv3, vv3]
        | 4, h => rw [hb] at h; cases h
        | 5, _ => rw [vv5, vv5]
        | 6, _ => rw [vv6, vv6]
        | 7, _ => rw [vv7, vv7]
        | 8, _ => rw [vv8, vv8]
        | 9, _ => rw [vv9, vv9]
        | 10, _ => rw [vv10, vv10]
        | 11, _ => rw [vv11, vv11]
        | k + 12, _ => rw [hLe]; rfl
      · have dd_ : ∀ k, k ≠ 4 → did b 4 k = b k := fun k hk => if_neg hk
        have d_ : did b 4 4 = true := if_pos rfl
        refine ⟨grown_low hS.bel r1 hg1 (Nat.le_refl _), ?_, ?_, ?_, ?_, ?_, ?_, ?_⟩
        · intro _ h
          rw [d_] at h
          cases h
        · intro _ h
          rw [d_] at h
          cases h
        · exact fun _ => ho2
        · exact fun h h' => own_other (hS.b1 (by rwa [dd_ 6 (by decide)] at h) (by rwa [dd_ 9 (by decide)] at h')) r1 (by decide) hg1
        · exact fun h h' => own_other (hS.b2 (by rwa [dd_ 8 (by decide)] at h) (by rwa [dd_ 9 (by decide)] at h')) r1 (by decide) hg1
        · exact fun h => own_other (hS.b3 (by rwa [dd_ 9 (by decide)] at h)) r1 (by decide) hg1
        · intro h
          rw [dd_ 10 (by decide), n10] at h
          cases h
    | 5 =>
      simp only [List.getElem?_toArray, List.getElem?_cons_zero, List.getElem?_cons_succ, Option.some.injEq] at ho
      subst ho
      have e1 : a.tmps[1]?.getD undef = .slice p2 n c2 := (kp 1 (none_till (by kernel_rfl))).trans b1
      refine doesg_value rfl (by intro c h; cases h) (v := .slice p2 n c2) (w' := W) ?_ ⟨g, fun _ _ => rfl, (vv5 g).symm, hS.same (by decide)⟩
      simp [execOp, go_sem, e1]
    | 6 =>
      simp only [List.getElem?_toArray, List.getElem?_cons_zero, List.getElem?_cons_succ, Option.some.injEq] at ho
      subst ho
      have p5 : b 5 = true := hd ⟨5, .data⟩ (by simp) rfl
      have e57 := (ev 5 57 rfl p5).trans (vv5 g)
      have n9 : b 9 = false := by cases h : b 9 with | false => rfl | true => (have := hcl 9 _ rfl h ⟨6, .data⟩ (by simp) rfl; rw [hb] at this; cases this)
      obtain ⟨p', c', W', hr, ho1, hg1⟩ := app_run Tryd.underlying23 ti_str 23 W w9.heap.size (.slice none 0 0) 0 n [] (strs names) p2 c2 (nil_row W _ _ _) (cs_of_nms (h2.below hS.bel)) (by simp [strs, hl2]) (strs_one names) (by omega) (by omega) hS.bel.size
      rw [List.nil_append, Nat.zero_add] at ho1
      rw [Nat.zero_add] at hr
      have hg1' : W.grownBy W' none := hg1
      refine doesg_value rfl (by intro c h; cases h) (v := .slice p' n c') (w' := W') ?_ ⟨{ g with b1 := .slice p' n c' }, ?_, (by rw [vv6]), ?_⟩
      · have hs0 : a.eval (.const (.slice none 0 0)) = .slice none 0 0 := by simp [Act.eval]
        have hs57 := (show a.eval (.tmp 57) = a.tmps[57]?.getD undef by simp [Act.eval]).trans e57; simp only [execOp, resolve, invoke, builtin, Sem.run_bind, Sem.run_pure, Result.andThen_ok, List.map_toArray, List.map_cons, List.map_nil, hs0, hs57, hr]
      · intro j hj
        match j, hj with
        | 0, _ => rw [vv0, vv0]
        | 1, _ => rw [vv1, vv1]
        | 2, _ => rw [vv2, vv2]
        | 3, _ => rw [vv3, vv3]
        | 4, _ => rw [vv4, vv4]
        | 5, _ => rw [vv5, vv5]
        | 6, h => rw [hb] at h; cases h
        | 7, _ => rw [vv7, vv7]
        | 8, _ => rw [vv8, vv8]
        | 9, _ => rw [vv9, vv9]
        | 10, _ => rw [vv10, vv10]
        | 11, _ => rw [vv11, vv11]
        | k + 12, _ => rw [hLe]; rfl
      · have dd_ : ∀ k, k ≠ 6 → did b 6 k = b k := fun k hk => if_neg hk
        refine ⟨below_none hS.bel hg1', ?_, ?_, ?_, ?_, ?_, ?_, ?_⟩
        · exact fun h h' => own_none (hS.a1 (by rwa [dd_ 1 (by decide)] at h) (by rwa [dd_ 4 (by decide)] at h')) hg1'
        · exact fun h h' => own_none (hS.a2 (by rwa [dd_ 3 (by decide)] at h) (by rwa [dd_ 4 (by decide)] at h')) hg1'
        · exact fun h => own_none (hS.a3 (by rwa [dd_ 4 (by decide)] at h)) hg1'
        · exact fun _ _ => ho1
        · exact fun h h' => own_none (hS.b2 (by rwa [dd_ 8 (by decide)] at h) (by rwa [dd_ 9 (by decide)] at h')) hg1'
        · exact fun h => own_none (hS.b3 (by rwa [dd_ 9 (by decide)] at h)) hg1'
        · intro h
          have n10 : b 10 = true := by rwa [dd_ 10 (by decide)] at h
          have := hcl 10 _ rfl n10 ⟨9, .data⟩ (by simp) rfl
          rw [n9] at this
          cases this
    | 7 =>
      simp only [List.getElem?_toArray, List.getElem?_cons_zero, List.getElem?_cons_succ, Option.some.injEq] at ho
      subst ho
      have e2 : a.tmps[2]?.getD undef = .string (bas nm) := (kp 2 (none_till (by kernel_rfl))).trans b2
      refine doesg_value rfl (by intro c h; cases h) (v := .string (bas nm)) (w' := W) ?_ ⟨g, fun _ _ => rfl, (vv7 g).symm, hS.same (by decide)⟩
      simp [execOp, go_sem, e2]
    | 8 =>
      simp only [List.getElem?_toArray, List.getElem?_cons_zero, List.getElem?_cons_succ, Option.some.injEq] at ho
      subst ho
      have p7 : b 7 = true := hd ⟨7, .data⟩ (by simp) rfl
      have e59 := (ev 7 59 rfl p7).trans (vv7 g)
      have n9 : b 9 = false := by cases h : b 9 with | false => rfl | true => (have := hcl 9 _ rfl h ⟨8, .data⟩ (by simp) rfl; rw [hb] at this; cases this)
      have hbn := (below_new W (.cells #[.string (bas nm)] 9)).out
      refine doesg_value rfl (by intro c h; cases h) (v := .slice (some ⟨W.heap.size, 0, none⟩) 1 1) (w' := W.alloc (.cells #[.string (bas nm)] 9)) ?_ ⟨{ g with b2 := .slice (some ⟨W.heap.size, 0, none⟩) 1 1 }, ?_, (by rw [vv8]), ?_⟩
      · simp [execOp, go_sem, e59]
      · intro j hj
        match j, hj with
        | 0, _ => rw [vv0, vv0]
        | 1, _ => rw [vv1, vv1]
        | 2, _ => rw [vv2, vv2]
        | 3, _ => rw [vv3, vv3]
        | 4, _ => rw [vv4, vv4]
        | 5, _ => rw [vv5, vv5]
        | 6, _ => rw [vv6, vv6]
        | 7, _ => rw [vv7, vv7]
        | 8, h => rw [hb] at h; cases h
        | 9, _ => rw [vv9, vv9]
        | 10, _ => rw [vv10, vv10]
        | 11, _ => rw [vv11, vv11]
        | k + 12, _ => rw [hLe]; rfl
      · have dd_ : ∀ k, k ≠ 8 → did b 8 k = b k := fun k hk => if_neg hk
        refine ⟨below_then hS.bel hbn, ?_, ?_, ?_, ?_, ?_, ?_, ?_⟩
        · exact fun h h' => own_below (hS.a1 (by rwa [dd_ 1 (by decide)] at h) (by rwa [dd_ 4 (by decide)] at h')) hbn
        · exact fun h h' => own_below (hS.a2 (by rwa [dd_ 3 (by decide)] at h) (by rwa [dd_ 4 (by decide)] at h')) hbn
        · exact fun h => own_below (hS.a3 (by rwa [dd_ 4 (by decide)] at h)) hbn
        · exact fun h h' => own_below (hS.b1 (by rwa [dd_ 6 (by decide)] at h) (by rwa [dd_ 9 (by decide)] at h')) hbn
        · exact fun _ _ => ⟨rfl, .inr ⟨W.heap.size, 1, _, rfl, hS.bel.size, heap_alloc_new W _, Nat.le_refl _, by decide, rfl, rfl⟩⟩
        · exact fun h => own_below (hS.b3 (by rwa [dd_ 9 (by decide)] at h)) hbn
        · intro h
          have n10 : b 10 = true := by rwa [dd_ 10 (by decide)] at h
          have := hcl 10 _ rfl n10 ⟨9, .data⟩ (by simp) rfl
          rw [n9] at this
          cases this
    | 9 =>
      simp only [List.getElem?_toArray, List.getElem?_cons_zero, List.getElem?_cons_succ, Option.some.injEq] at ho
      subst ho
      have p6 : b 6 = true := hd ⟨6, .data⟩ (by simp) rfl
      have p8 : b 8 = true := hd ⟨8, .data⟩ (by simp) rfl
      have e58 := (ev 6 58 rfl p6).trans (vv6 g)
      have e60 := (ev 8 60 rfl p8).trans (vv8 g)
      have n10 : b 10 = false := by cases h : b 10 with | false => rfl | true => (have := hcl 10 _ rfl h ⟨9, .data⟩ (by simp) rfl; rw [hb] at this; cases this)
      have r1 := hS.b1 p6 hb
      have r2 := hS.b2 p8 hb
      obtain ⟨q2, d2, e2, hcs2⟩ := Cs.of_own r2
      rw [e2] at e60
      obtain ⟨p', c', W', hr, ho1, hg1⟩ := app_run Tryd.underlying23 ti_str 23 W w9.heap.size g.b1 n 1 (strs names) [.string (bas nm)] q2 d2 r1 hcs2 rfl (strs_one [nm]) (by omega) (by omega) hS.bel.size
      have ho2 : W'.ownsRow w9.heap.size 9 1 (.slice p' (n + 1) c') (n + 1) (strs (names ++ [nm])) := by unfold strs; rw [List.map_append]; exact ho1
      refine doesg_value rfl (by intro c h; cases h) (v := .slice p' (n + 1) c') (w' := W') ?_ ⟨{ g with b3 := .slice p' (n + 1) c' }, ?_, (by rw [vv9]), ?_⟩
      · have hs58 := (show a.eval (.tmp 58) = a.tmps[58]?.getD undef by simp [Act.eval]).trans e58; have hs60 := (show a.eval (.tmp 60) = a.tmps[60]?.getD undef by simp [Act.eval]).trans e60; simp only [execOp, resolve, invoke, builtin, Sem.run_bind, Sem.run_pure, Result.andThen_ok, List.map_toArray, List.map_cons, List.map_nil, hs58, hs60, hr]
      · intro j hj
        match j, hj with
        | 0, _ => rw [vv0, vv0]
        | 1, _ => rw [vv1, vv1]
        | 2, _ => rw [vv2, vv2]
        | 3, _ => rw [vv3, vv3]
        | 4, _ => rw [vv4, vv4]
        | 5, _ => rw [vv5, vv5]
        | 6, _ => rw [vv6, vv6]
        | 7, _ => rw [vv7, vv7]
        | 8, _ => rw [vv8, vv8]
        | 9, h => rw [hb] at h; cases h
        | 10, _ => rw [vv10, vv10]
        | 11, _ => rw [vv11, vv11]
        | k + 12, _ => rw [hLe]; rfl
      · have dd_ : ∀ k, k ≠ 9 → did b 9 k = b k := fun k hk => if_neg hk
        have d_ : did b 9 9 = true := if_pos rfl
        refine ⟨grown_low hS.bel r1 hg1 (Nat.le_refl _), ?_, ?_, ?_, ?_, ?_, ?_, ?_⟩
        · exact fun h h' => own_other (hS.a1 (by rwa [dd_ 1 (by decide)] at h) (by rwa [dd_ 4 (by decide)] at h')) r1 (by decide) hg1
        · exact fun h h' => own_other (hS.a2 (by rwa [dd_ 3 (by decide)] at h) (by rwa [dd_ 4 (by decide)] at h')) r1 (by decide) hg1
        · exact fun h => own_other (hS.a3 (by rwa [dd_ 4 (by decide)] at h)) r1 (by decide) hg1
        · intro _ h
          rw [d_] at h
          cases h
        · intro _ h
          rw [d_] at h
          cases h
        · exact fun _ => ho2
        · intro h
          rw [dd_ 10 (by decide), n10] at h
          cases h
    | 10 =>
      simp only [List.getElem?_toArray, List.getElem?_cons_zero, List.getElem?_cons_succ, Option.some.injEq] at ho
      subst ho
      have p4 : b 4 = true := hd ⟨4, .data⟩ (by simp) rfl
      have p9 : b 9 = true := hd ⟨9, .data⟩ (by simp) rfl
      have e56 := (ev 4 56 rfl p4).trans (vv4 g)
      have e61 := (ev 9 61 rfl p9).trans (vv9 g)
      refine doesg_call rfl (by intro c h; cases h) (f := 8) (args := #[g.a3, g.b3]) ?_ ?_
      · simp [go_sem, e56, e61]
      · refine (hc g.a3 g.b3 W hS.bel (hS.a3 p4) (hS.b3 p9)).mono ?_
        rintro e W' ⟨x, rfl, hbw, hfin⟩
        refine ⟨x, rfl, { g with r := x }, ?_, (by rw [vv10]), ?_⟩
        · intro j hj
          match j, hj with
          | 0, _ => rw [vv0, vv0]
          | 1, _ => rw [vv1, vv1]
          | 2, _ => rw [vv2, vv2]
          | 3, _ => rw [vv3, vv3]
          | 4, _ => rw [vv4, vv4]
          | 5, _ => rw [vv5, vv5]
          | 6, _ => rw [vv6, vv6]
          | 7, _ => rw [vv7, vv7]
          | 8, _ => rw [vv8, vv8]
          | 9, _ => rw [vv9, vv9]
          | 10, h => rw [hb] at h; cases h
          | 11, h => have := hcl 11 _ rfl h ⟨10, .data⟩ (by simp) rfl; rw [hb] at this; cases this
          | k + 12, _ => rw [hLe]; rfl
        · have dd_ : ∀ k, k ≠ 10 → did b 10 k = b k := fun k hk => if_neg hk
          refine ⟨below_then hS.bel hbw, ?_, ?_, ?_, ?_, ?_, ?_, fun _ => hfin⟩
          · exact fun h h' => own_below (hS.a1 (by rwa [dd_ 1 (by decide)] at h) (by rwa [dd_ 4 (by decide)] at h')) hbw
          · exact fun h h' => own_below (hS.a2 (by rwa [dd_ 3 (by decide)] at h) (by rwa [dd_ 4 (by decide)] at h')) hbw
          · exact fun h => own_below (hS.a3 (by rwa [dd_ 4 (by decide)] at h)) hbw
          · exact fun h h' => own_below (hS.b1 (by rwa [dd_ 6 (by decide)] at h) (by rwa [dd_ 9 (by decide)] at h')) hbw
          · exact fun h h' => own_below (hS.b2 (by rwa [dd_ 8 (by decide)] at h) (by rwa [dd_ 9 (by decide)] at h')) hbw
          · exact fun h => own_below (hS.b3 (by rwa [dd_ 9 (by decide)] at h)) hbw
    | 11 =>
      simp only [List.getElem?_toArray, List.getElem?_cons_zero, List.getElem?_cons_succ, Option.some.injEq] at ho
      subst ho
      have p10 : b 10 = true := hd ⟨10, .data⟩ (by simp) rfl
      have e62 := (ev 10 62 rfl p10).trans (vv10 g)
      refine doesg_value rfl (by intro c h; cases h) (v := g.r) (w' := W) ?_ ⟨g, fun _ _ => rfl, (vv11 g).symm, hS.same (by decide)⟩
      simp [execOp, go_sem, e62]
    | k + 12 => simp at ho
  · intro g b W hS hall
    subst hLe
    exact hQ g W hS.bel (hS.r (hall 10 (by decide)))

end Go.Proofs.YtjajbhpcjickbaaDoor.Ck.Sh
