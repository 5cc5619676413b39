/-
  The law's is: versions that are those of operations.
-/
import Derived.Test.YteimjkicinjcgaaQOd
import Derived.Test.YteimjkicinjcgaaQLk

/-
  The document's side: Same, root, trash, older, which operations may be.
-/
namespace Go.Proofs.Yteimjkicinjcgaa.Cd
open Go.RowKit Go.Maps

attribute [local go_sem] Oper.semAt_some

set_option maxRecDepth 8000 in
set_option maxHeartbeats 1000000 in
theorem rsame_any (a b x y : Int) (w : World) : Calls Try.prog 21 #[idv a b, idv x y] w fun e w' => e = .returned (.bool (sameB a b x y)) ∧ Below w.heap.size w w' := by
  have B0 : Hid (∀ x y, Below w.heap.size w ((w.alloc x).alloc y)) := fun x y => ((Below.refl _ _).alloc (Nat.le_refl _) _).alloc (by simp) _
  unfold sameB
  by_cases h1 : a = x
  · by_cases h2 : b = y
    · rw [decide_eq_true h1, decide_eq_true h2]
      subst h1 h2
      go_enter Try.func21, Try.ntmps21
      go_wp2
      go_ret
      exact ⟨rfl, B0.out _ _⟩
    · rw [decide_eq_true h1, decide_eq_false h2]
      subst h1
      go_enter Try.func21, Try.ntmps21
      go_wp2
      go_ret
      exact ⟨by first | rfl | simp [h2], B0.out _ _⟩
  · rw [decide_eq_false h1]
    go_enter Try.func21, Try.ntmps21
    go_wp2
    go_ret
    exact ⟨rfl, B0.out _ _⟩
set_option maxRecDepth 8000 in
set_option maxHeartbeats 1000000 in
theorem rroot_any (a b : Int) (w : World) : Calls Try.prog 43 #[idv a b] w fun e w' => e = .returned (.bool (rootB a b)) ∧ Below w.heap.size w w' := by
  have B0 : Hid (∀ x, Below w.heap.size w (w.alloc x)) := fun x => (below_new w x).out
  unfold rootB
  by_cases h1 : a = 0
  · by_cases h2 : b = 0
    · rw [decide_eq_true h1, decide_eq_true h2]
      subst h1 h2
      go_enter Try.func43, Try.ntmps43
      go_wp2
      go_ret
      exact ⟨rfl, B0.out _⟩
    · rw [decide_eq_true h1, decide_eq_false h2]
      subst h1
      go_enter Try.func43, Try.ntmps43
      go_wp2
      go_ret
      exact ⟨by simp [h2], B0.out _⟩
  · rw [decide_eq_false h1]
    go_enter Try.func43, Try.ntmps43
    go_wp2
    go_ret
    exact ⟨rfl, B0.out _⟩
set_option maxRecDepth 8000 in
set_option maxHeartbeats 1000000 in
theorem rtrash_any (a b : Int) (w : World) : Calls Try.prog 46 #[idv a b] w fun e w' => e = .returned (.bool (trashB a b)) ∧ Below w.heap.size w w' := by
  have B0 : Hid (∀ x, Below w.heap.size w (w.alloc x)) := fun x => (below_new w x).out
  unfold trashB
  by_cases h1 : a = 0
  · by_cases h2 : b = 1
    · rw [decide_eq_true h1, decide_eq_true h2]
      subst h1 h2
      go_enter Try.func46, Try.ntmps46
      go_wp2
      go_ret
      exact ⟨rfl, B0.out _⟩
    · rw [decide_eq_true h1, decide_eq_false h2]
      subst h1
      go_enter Try.func46, Try.ntmps46
      go_wp2
      go_ret
      exact ⟨by simp [h2], B0.out _⟩
  · rw [decide_eq_false h1]
    go_enter Try.func46, Try.ntmps46
    go_wp2
    go_ret
    exact ⟨rfl, B0.out _⟩
set_option maxRecDepth 8000 in
set_option maxHeartbeats 1000000 in
theorem rolder_any (a b x y : Int) (w : World) : Calls Try.prog 44 #[idv a b, idv x y] w fun e w' => e = .returned (.bool (olderB a b x y)) ∧ Below w.heap.size w w' := by
  have B0 : Hid (∀ x y, Below w.heap.size w ((w.alloc x).alloc y)) := fun x y => ((Below.refl _ _).alloc (Nat.le_refl _) _).alloc (by simp) _
  have HI : Hid (((w.alloc (.cells #[.int .i64 a, .int .i64 b] 30)).alloc (.cells #[.int .i64 x, .int .i64 y] 30)).heap[w.heap.size]? = some (.cells #[.int .i64 a, .int .i64 b] 30 (0, 0))) := by
    show _ = _
    rw [Below.heap_alloc _ _ _ (by simp)]; exact heap_alloc_new w _
  have HJ : Hid (((w.alloc (.cells #[.int .i64 a, .int .i64 b] 30)).alloc (.cells #[.int .i64 x, .int .i64 y] 30)).heap[w.heap.size + 1]? = some (.cells #[.int .i64 x, .int .i64 y] 30 (0, 0))) := by
    have := heap_alloc_new (w.alloc (.cells #[.int .i64 a, .int .i64 b] 30)) (.cells #[.int .i64 x, .int .i64 y] 30)
    rwa [show (w.alloc (.cells #[.int .i64 a, .int .i64 b] 30)).heap.size = w.heap.size + 1 by simp] at this
  have c1 := fun W => Ck.rvalid_any a b W
  have c2 := fun W => Ck.rless_any a b x y W
  unfold olderB
  generalize Ck.validB a b = u at *
  generalize Ck.lessB a b x y = v at *
  cases u with
  | true =>
    go_enter Try.func44, Try.ntmps44
    go_wp2_with (first | (go_at_call 41; refine Calls_new (c1 _) ?_; clear c1; intro w2 hb; have i0 : w2.cell? ⟨w.heap.size, 0, none⟩ = some (.int .i64 a) := cellOf ((hb.out.block _ (block_lt HI.out)).trans HI.out) 0; have i1 : w2.cell? ⟨w.heap.size, 1, none⟩ = some (.int .i64 b) := cellOf ((hb.out.block _ (block_lt HI.out)).trans HI.out) 1; have j0 : w2.cell? ⟨w.heap.size + 1, 0, none⟩ = some (.int .i64 x) := cellOf ((hb.out.block _ (block_lt HJ.out)).trans HJ.out) 0; have j1 : w2.cell? ⟨w.heap.size + 1, 1, none⟩ = some (.int .i64 y) := cellOf ((hb.out.block _ (block_lt HJ.out)).trans HJ.out) 1) | (go_at_call 31; refine Calls_new (c2 _) ?_; clear c2; intro w3 hb3))
    go_ret
    exact ⟨rfl, ((B0.out _ _).trans (hb.out.mono (B0.out _ _).size)).trans (hb3.out.mono (Nat.le_trans (B0.out _ _).size hb.out.size))⟩
  | false =>
    go_enter Try.func44, Try.ntmps44
    go_wp2_with (go_at_call 41; refine Calls_new (c1 _) ?_; clear c1; intro w2 hb)
    go_ret
    exact ⟨rfl, (B0.out _ _).trans (hb.out.mono (B0.out _ _).size)⟩

/-- An operation's block, and what lies below. -/
def OpX (w W : World) (g : Nat) (t n sq kd ot on pt pn : Int) (nm : List UInt8) (p q : Option Addr) (l c m d : Nat) : Prop := OpB W g t n sq kd ot on pt pn nm p q l c m d ∧ Below w.heap.size w W
theorem OpX.step {w W W' : World} {g : Nat} {t n sq kd ot on pt pn : Int} {nm : List UInt8} {p q : Option Addr} {l c m d : Nat} (h : Hid (OpX w W g t n sq kd ot on pt pn nm p q l c m d)) (hb : Hid (Below W.heap.size W W')) : Hid (OpX w W' g t n sq kd ot on pt pn nm p q l c m d) :=
  ⟨h.out.1.below hb.out, h.out.2.trans (hb.out.mono h.out.2.size)⟩

set_option maxRecDepth 8000 in
set_option maxHeartbeats 8000000 in
theorem rmay_any (t n sq kd ot on pt pn : Int) (nm : List UInt8) (p q : Option Addr) (l c m d : Nat) (ns : List Int) (w : World) (hs : nm.length < 1000000000000000) (hll : l < 9000000000000000000) (hm : ns.length = m) (hml : ns.length ≤ 1000) (hq : Lies w q (ns.map iv)) :
    Calls Try.prog 26 #[.agg #[.int .i64 t, .int .i64 n, .int .i64 sq, .int .i64 kd, .int .i64 ot, .int .i64 on, .int .i64 pt, .int .i64 pn, .string (bas nm), .slice p l c, .slice q m d]] w fun e w' => e = .returned (.bool (mayO t n sq kd ot on pt pn nm l ns)) ∧ Below w.heap.size w w' := by
  have H9 : Hid (OpB (w.alloc (.cells #[.int .i64 t, .int .i64 n, .int .i64 sq, .int .i64 kd, .int .i64 ot, .int .i64 on, .int .i64 pt, .int .i64 pn, .string (bas nm), .slice p l c, .slice q m d] 35)) w.heap.size t n sq kd ot on pt pn nm p q l c m d) := OpB.made w t n sq kd ot on pt pn nm p q l c m d
  have B0 : Hid (∀ o, Below w.heap.size w (w.alloc o)) := fun o => (below_new w o).out
  have HG : Hid (∀ o W, Below (w.alloc o).heap.size (w.alloc o) W → Below w.heap.size w W) := fun o W h => (B0.out o).trans (h.mono (B0.out o).size)
  have HV : Hid (∀ W, Calls Try.prog 41 #[idv t n] W fun e w' => e = .returned (.bool (Ck.validB t n)) ∧ Below W.heap.size W w') := fun W => Ck.rvalid_any t n W
  have HMV : Hid (∀ W, Below w.heap.size w W → Calls Try.prog 42 #[.slice q m d] W fun e w' => e = .returned (.bool (mayB ns)) ∧ Below W.heap.size W w') := fun W hW => by
    have := may_any q ns d W hml (below_lies hW hq)
    rw [hm] at this
    exact quiet_new this
  have HAT : Hid (∀ W, Below w.heap.size w W → Calls Try.prog 22 #[.slice q m d, .int .i64 n] W fun e w' => e = .returned (.int .i64 (Vc.atZ ns n)) ∧ Below W.heap.size W w') := fun W hW => by
    have := Vc.rat_any q ns d n W (below_lies hW hq)
    rw [hm] at this
    exact quiet_new this
  clear hm hml hq
  unfold mayO countB
  generalize Ck.validB t n = x0 at *
  cases x0 with
  | false =>
    simp only [Bool.false_and]
    go_enter Try.func26, Try.ntmps26
    go_wp2_with fail
    refine rmay_stamp (by kernel_rfl) w.heap.size t n sq kd ot on pt pn nm p q l c m d _ rfl rfl H9.out (fun W _ => HV.out W) ?_
    intro W hS
    have HB : Hid (Below w.heap.size w W) := HG.out _ W hS
    clear hS
    simp only [putAll, List.setIfInBounds_toArray, List.set_cons_zero, List.set_cons_succ]
    go_wp2
    go_ret
    exact ⟨rfl, HB.out⟩
  | true =>
  by_cases h1 : 1 ≤ sq
  rotate_left
  · rw [decide_eq_false h1]
    simp only [Bool.false_and, Bool.and_false]
    have H1 : Hid (sq < 1) := by show _ < _; omega
    clear h1
    go_enter Try.func26, Try.ntmps26
    go_wp2_with fail
    refine rmay_low (by kernel_rfl) w.heap.size t n sq kd ot on pt pn nm p q l c m d _ rfl rfl H9.out (fun W _ => HV.out W) H1.out ?_
    intro W hS
    have HB : Hid (Below w.heap.size w W) := HG.out _ W hS
    clear hS
    simp only [putAll, List.setIfInBounds_toArray, List.set_cons_zero, List.set_cons_succ]
    go_wp2
    go_ret
    exact ⟨rfl, HB.out⟩
  by_cases h2 : sq ≤ 1152921504606846976
  rotate_left
  · rw [decide_eq_false h2]
    simp only [Bool.false_and, Bool.and_false]
    have H1 : Hid (1 ≤ sq) := h1
    have H2 : Hid (1152921504606846976 < sq) := by show _ < _; omega
    clear h1 h2
    go_enter Try.func26, Try.ntmps26
    go_wp2_with fail
    refine rmay_high (by kernel_rfl) w.heap.size t n sq kd ot on pt pn nm p q l c m d _ rfl rfl H9.out (fun W _ => HV.out W) (by have := H1.out; omega) H2.out ?_
    intro W hS
    have HB : Hid (Below w.heap.size w W) := HG.out _ W hS
    clear hS
    simp only [putAll, List.setIfInBounds_toArray, List.set_cons_zero, List.set_cons_succ]
    go_wp2
    go_ret
    exact ⟨rfl, HB.out⟩
  rw [decide_eq_true h1, decide_eq_true h2]
  have H1 : Hid (1 ≤ sq) := h1
  have H2 : Hid (sq ≤ 1152921504606846976) := h2
  clear h1 h2
  generalize mayB ns = x1 at *
  cases x1 with
  | false =>
    simp only [Bool.false_and, Bool.and_false]
    go_enter Try.func26, Try.ntmps26
    go_wp2_with fail
    refine rmay_vec (by kernel_rfl) w.heap.size t n sq kd ot on pt pn nm p q l c m d _ rfl rfl H9.out (fun W _ => HV.out W) (by have := H1.out; omega) (by have := H2.out; omega) (fun W hW => HMV.out W (HG.out _ W hW)) ?_
    intro W hS
    have HB : Hid (Below w.heap.size w W) := HG.out _ W hS
    clear hS
    simp only [putAll, List.setIfInBounds_toArray, List.set_cons_zero, List.set_cons_succ]
    go_wp2
    go_ret
    exact ⟨rfl, HB.out⟩
  | true =>
  generalize Vc.atZ ns n = z at *
  by_cases hz : z = sq - 1
  rotate_left
  · rw [decide_eq_false hz]
    simp only [Bool.false_and, Bool.and_false]
    have HZ : Hid ((z != sq - 1) = true) := by show _ = _; simpa using hz
    clear hz
    go_enter Try.func26, Try.ntmps26
    go_wp2_with fail
    refine rmay_at (by kernel_rfl) w.heap.size t n sq kd ot on pt pn nm p q l c m d _ rfl rfl H9.out (fun W _ => HV.out W) (by have := H1.out; omega) (by have := H2.out; omega) z (fun W hW => HMV.out W (HG.out _ W hW)) (fun W hW => HAT.out W (HG.out _ W hW)) ?_
    intro W hS
    have HB : Hid (Below w.heap.size w W) := HG.out _ W hS
    clear hS
    simp only [putAll, List.setIfInBounds_toArray, List.set_cons_zero, List.set_cons_succ, HZ.out]
    go_wp2
    go_ret
    exact ⟨rfl, HB.out⟩
  subst hz
  simp only [decide_true, Bool.true_and, Bool.and_true]
  have HZ : Hid ((sq - 1 != sq - 1) = false) := by show _ = _; simp
  have HS : Hid (∀ W, Calls Try.prog 21 #[idv ot on, idv t n] W fun e w' => e = .returned (.bool (sameB ot on t n)) ∧ Below W.heap.size W w') := fun W => rsame_any ot on t n W
  have HR : Hid (∀ W, Calls Try.prog 43 #[idv pt pn] W fun e w' => e = .returned (.bool (rootB pt pn)) ∧ Below W.heap.size W w') := fun W => rroot_any pt pn W
  have HT : Hid (∀ W, Calls Try.prog 46 #[idv pt pn] W fun e w' => e = .returned (.bool (trashB pt pn)) ∧ Below W.heap.size W w') := fun W => rtrash_any pt pn W
  have HO : Hid (∀ W, Calls Try.prog 44 #[idv pt pn, idv t n] W fun e w' => e = .returned (.bool (olderB pt pn t n)) ∧ Below W.heap.size W w') := fun W => rolder_any pt pn t n W
  have HE : Hid (∀ W, Calls Try.prog 44 #[idv ot on, idv t n] W fun e w' => e = .returned (.bool (olderB ot on t n)) ∧ Below W.heap.size W w') := fun W => rolder_any ot on t n W
  have HN : Hid (∀ W, Calls Try.prog 45 #[.string (bas nm)] W fun e w' => e = .returned (.int .i64 (nameN nm)) ∧ w' = W) := fun W => rname_any nm W hs
  have HX0 : True := trivial
  clear hs
  by_cases h12 : kd = 1 ∨ kd = 2
  · have HF : Hid (kindB t n kd ot on pt pn nm l = (sameB ot on t n && (rootB pt pn || olderB pt pn t n) && (decide (nameN nm = 0) && decide (l = 0)))) := by show _ = _; unfold kindB placedB; rw [if_pos h12]
    rw [HF.out]
    clear HF HT HE
    generalize sameB ot on t n = xs at *
    generalize rootB pt pn = xr at *
    generalize olderB pt pn t n = xo at *
    generalize nameN nm = x at *
    rcases h12 with rfl | rfl
    · have tk : True := trivial
      cases xs with
      | false =>
        go_enter Try.func26, Try.ntmps26
        go_wp2_with fail
        refine rmay_at (by kernel_rfl) w.heap.size t n sq 1 ot on pt pn nm p q l c m d _ rfl rfl H9.out (fun W _ => HV.out W) (by have := H1.out; omega) (by have := H2.out; omega) (sq - 1) (fun W hW => HMV.out W (HG.out _ W hW)) (fun W hW => HAT.out W (HG.out _ W hW)) ?_
        intro W hS
        have HX : Hid (OpX w W w.heap.size t n sq 1 ot on pt pn nm p q l c m d) := ⟨H9.out.below hS, HG.out _ W hS⟩
        have ⟨d0, d1, d2, d3, d4, d5, d6, d7, d8, d9, d10⟩ := HX.out.1.cells
        clear hS
        simp only [putAll, List.setIfInBounds_toArray, List.set_cons_zero, List.set_cons_succ, HZ.out]
        go_wp2_with (first | (go_at_call 21; refine Calls_new (HS.out _) ?_; clear HS; intro w2 hb2; have HX := OpX.step HX hb2; have ⟨d0, d1, d2, d3, d4, d5, d6, d7, d8, d9, d10⟩ := HX.out.1.cells; clear hb2) | (go_at_call 43; refine Calls_new (HR.out _) ?_; clear HR; intro w2 hb2; have HX := OpX.step HX hb2; have ⟨d0, d1, d2, d3, d4, d5, d6, d7, d8, d9, d10⟩ := HX.out.1.cells; clear hb2) | (go_at_call 44; refine Calls_new (HO.out _) ?_; clear HO; intro w2 hb2; have HX := OpX.step HX hb2; have ⟨d0, d1, d2, d3, d4, d5, d6, d7, d8, d9, d10⟩ := HX.out.1.cells; clear hb2) | (go_at_call 45; refine Calls_on (HN.out _) ?_; clear HN))
        go_ret
        exact ⟨by first | rfl | (simp; done) | (simp; omega), HX.out.2⟩
      | true =>
        cases xr with
        | false =>
          cases xo with
          | false =>
            go_enter Try.func26, Try.ntmps26
            go_wp2_with fail
            refine rmay_at (by kernel_rfl) w.heap.size t n sq 1 ot on pt pn nm p q l c m d _ rfl rfl H9.out (fun W _ => HV.out W) (by have := H1.out; omega) (by have := H2.out; omega) (sq - 1) (fun W hW => HMV.out W (HG.out _ W hW)) (fun W hW => HAT.out W (HG.out _ W hW)) ?_
            intro W hS
            have HX : Hid (OpX w W w.heap.size t n sq 1 ot on pt pn nm p q l c m d) := ⟨H9.out.below hS, HG.out _ W hS⟩
            have ⟨d0, d1, d2, d3, d4, d5, d6, d7, d8, d9, d10⟩ := HX.out.1.cells
            clear hS
            simp only [putAll, List.setIfInBounds_toArray, List.set_cons_zero, List.set_cons_succ, HZ.out]
            go_wp2_with (first | (go_at_call 21; refine Calls_new (HS.out _) ?_; clear HS; intro w2 hb2; have HX := OpX.step HX hb2; have ⟨d0, d1, d2, d3, d4, d5, d6, d7, d8, d9, d10⟩ := HX.out.1.cells; clear hb2) | (go_at_call 43; refine Calls_new (HR.out _) ?_; clear HR; intro w2 hb2; have HX := OpX.step HX hb2; have ⟨d0, d1, d2, d3, d4, d5, d6, d7, d8, d9, d10⟩ := HX.out.1.cells; clear hb2) | (go_at_call 44; refine Calls_new (HO.out _) ?_; clear HO; intro w2 hb2; have HX := OpX.step HX hb2; have ⟨d0, d1, d2, d3, d4, d5, d6, d7, d8, d9, d10⟩ := HX.out.1.cells; clear hb2) | (go_at_call 45; refine Calls_on (HN.out _) ?_; clear HN))
            go_ret
            exact ⟨by first | rfl | (simp; done) | (simp; omega), HX.out.2⟩
          | true =>
            by_cases hx : x = 0
            · subst hx
              by_cases hl : l = 0
              · have hlI : (l : Int) = 0 := by omega
                rw [decide_eq_true hl]
                clear hl
                go_enter Try.func26, Try.ntmps26
                go_wp2_with fail
                refine rmay_at (by kernel_rfl) w.heap.size t n sq 1 ot on pt pn nm p q l c m d _ rfl rfl H9.out (fun W _ => HV.out W) (by have := H1.out; omega) (by have := H2.out; omega) (sq - 1) (fun W hW => HMV.out W (HG.out _ W hW)) (fun W hW => HAT.out W (HG.out _ W hW)) ?_
                intro W hS
                have HX : Hid (OpX w W w.heap.size t n sq 1 ot on pt pn nm p q l c m d) := ⟨H9.out.below hS, HG.out _ W hS⟩
                have ⟨d0, d1, d2, d3, d4, d5, d6, d7, d8, d9, d10⟩ := HX.out.1.cells
                clear hS
                simp only [putAll, List.setIfInBounds_toArray, List.set_cons_zero, List.set_cons_succ, HZ.out]
                go_wp2_with (first | (go_at_call 21; refine Calls_new (HS.out _) ?_; clear HS; intro w2 hb2; have HX := OpX.step HX hb2; have ⟨d0, d1, d2, d3, d4, d5, d6, d7, d8, d9, d10⟩ := HX.out.1.cells; clear hb2) | (go_at_call 43; refine Calls_new (HR.out _) ?_; clear HR; intro w2 hb2; have HX := OpX.step HX hb2; have ⟨d0, d1, d2, d3, d4, d5, d6, d7, d8, d9, d10⟩ := HX.out.1.cells; clear hb2) | (go_at_call 44; refine Calls_new (HO.out _) ?_; clear HO; intro w2 hb2; have HX := OpX.step HX hb2; have ⟨d0, d1, d2, d3, d4, d5, d6, d7, d8, d9, d10⟩ := HX.out.1.cells; clear hb2) | (go_at_call 45; refine Calls_on (HN.out _) ?_; clear HN))
                go_ret
                exact ⟨by first | rfl | (simp; done) | (simp; omega), HX.out.2⟩
              · have hlI : ¬ (l : Int) = 0 := by omega
                rw [decide_eq_false hl]
                clear hl
                go_enter Try.func26, Try.ntmps26
                go_wp2_with fail
                refine rmay_at (by kernel_rfl) w.heap.size t n sq 1 ot on pt pn nm p q l c m d _ rfl rfl H9.out (fun W _ => HV.out W) (by have := H1.out; omega) (by have := H2.out; omega) (sq - 1) (fun W hW => HMV.out W (HG.out _ W hW)) (fun W hW => HAT.out W (HG.out _ W hW)) ?_
                intro W hS
                have HX : Hid (OpX w W w.heap.size t n sq 1 ot on pt pn nm p q l c m d) := ⟨H9.out.below hS, HG.out _ W hS⟩
                have ⟨d0, d1, d2, d3, d4, d5, d6, d7, d8, d9, d10⟩ := HX.out.1.cells
                clear hS
                simp only [putAll, List.setIfInBounds_toArray, List.set_cons_zero, List.set_cons_succ, HZ.out]
                go_wp2_with (first | (go_at_call 21; refine Calls_new (HS.out _) ?_; clear HS; intro w2 hb2; have HX := OpX.step HX hb2; have ⟨d0, d1, d2, d3, d4, d5, d6, d7, d8, d9, d10⟩ := HX.out.1.cells; clear hb2) | (go_at_call 43; refine Calls_new (HR.out _) ?_; clear HR; intro w2 hb2; have HX := OpX.step HX hb2; have ⟨d0, d1, d2, d3, d4, d5, d6, d7, d8, d9, d10⟩ := HX.out.1.cells; clear hb2) | (go_at_call 44; refine Calls_new (HO.out _) ?_; clear HO; intro w2 hb2; have HX := OpX.step HX hb2; have ⟨d0, d1, d2, d3, d4, d5, d6, d7, d8, d9, d10⟩ := HX.out.1.cells; clear hb2) | (go_at_call 45; refine Calls_on (HN.out _) ?_; clear HN))
                go_ret
                exact ⟨by first | rfl | (simp; done) | (simp; omega), HX.out.2⟩
            · rw [decide_eq_false hx]
              go_enter Try.func26, Try.ntmps26
              go_wp2_with fail
              refine rmay_at (by kernel_rfl) w.heap.size t n sq 1 ot on pt pn nm p q l c m d _ rfl rfl H9.out (fun W _ => HV.out W) (by have := H1.out; omega) (by have := H2.out; omega) (sq - 1) (fun W hW => HMV.out W (HG.out _ W hW)) (fun W hW => HAT.out W (HG.out _ W hW)) ?_
              intro W hS
              have HX : Hid (OpX w W w.heap.size t n sq 1 ot on pt pn nm p q l c m d) := ⟨H9.out.below hS, HG.out _ W hS⟩
              have ⟨d0, d1, d2, d3, d4, d5, d6, d7, d8, d9, d10⟩ := HX.out.1.cells
              clear hS
              simp only [putAll, List.setIfInBounds_toArray, List.set_cons_zero, List.set_cons_succ, HZ.out]
              go_wp2_with (first | (go_at_call 21; refine Calls_new (HS.out _) ?_; clear HS; intro w2 hb2; have HX := OpX.step HX hb2; have ⟨d0, d1, d2, d3, d4, d5, d6, d7, d8, d9, d10⟩ := HX.out.1.cells; clear hb2) | (go_at_call 43; refine Calls_new (HR.out _) ?_; clear HR; intro w2 hb2; have HX := OpX.step HX hb2; have ⟨d0, d1, d2, d3, d4, d5, d6, d7, d8, d9, d10⟩ := HX.out.1.cells; clear hb2) | (go_at_call 44; refine Calls_new (HO.out _) ?_; clear HO; intro w2 hb2; have HX := OpX.step HX hb2; have ⟨d0, d1, d2, d3, d4, d5, d6, d7, d8, d9, d10⟩ := HX.out.1.cells; clear hb2) | (go_at_call 45; refine Calls_on (HN.out _) ?_; clear HN))
              go_ret
              exact ⟨by first | rfl | (simp; done) | (simp; omega), HX.out.2⟩
        | true =>
          by_cases hx : x = 0
          · subst hx
            by_cases hl : l = 0
            · have hlI : (l : Int) = 0 := by omega
              rw [decide_eq_true hl]
              clear hl
              go_enter Try.func26, Try.ntmps26
              go_wp2_with fail
              refine rmay_at (by kernel_rfl) w.heap.size t n sq 1 ot on pt pn nm p q l c m d _ rfl rfl H9.out (fun W _ => HV.out W) (by have := H1.out; omega) (by have := H2.out; omega) (sq - 1) (fun W hW => HMV.out W (HG.out _ W hW)) (fun W hW => HAT.out W (HG.out _ W hW)) ?_
              intro W hS
              have HX : Hid (OpX w W w.heap.size t n sq 1 ot on pt pn nm p q l c m d) := ⟨H9.out.below hS, HG.out _ W hS⟩
              have ⟨d0, d1, d2, d3, d4, d5, d6, d7, d8, d9, d10⟩ := HX.out.1.cells
              clear hS
              simp only [putAll, List.setIfInBounds_toArray, List.set_cons_zero, List.set_cons_succ, HZ.out]
              go_wp2_with (first | (go_at_call 21; refine Calls_new (HS.out _) ?_; clear HS; intro w2 hb2; have HX := OpX.step HX hb2; have ⟨d0, d1, d2, d3, d4, d5, d6, d7, d8, d9, d10⟩ := HX.out.1.cells; clear hb2) | (go_at_call 43; refine Calls_new (HR.out _) ?_; clear HR; intro w2 hb2; have HX := OpX.step HX hb2; have ⟨d0, d1, d2, d3, d4, d5, d6, d7, d8, d9, d10⟩ := HX.out.1.cells; clear hb2) | (go_at_call 44; refine Calls_new (HO.out _) ?_; clear HO; intro w2 hb2; have HX := OpX.step HX hb2; have ⟨d0, d1, d2, d3, d4, d5, d6, d7, d8, d9, d10⟩ := HX.out.1.cells; clear hb2) | (go_at_call 45; refine Calls_on (HN.out _) ?_; clear HN))
              go_ret
              exact ⟨by first | rfl | (simp; done) | (simp; omega), HX.out.2⟩
            · have hlI : ¬ (l : Int) = 0 := by omega
              rw [decide_eq_false hl]
              clear hl
              go_enter Try.func26, Try.ntmps26
              go_wp2_with fail
              refine rmay_at (by kernel_rfl) w.heap.size t n sq 1 ot on pt pn nm p q l c m d _ rfl rfl H9.out (fun W _ => HV.out W) (by have := H1.out; omega) (by have := H2.out; omega) (sq - 1) (fun W hW => HMV.out W (HG.out _ W hW)) (fun W hW => HAT.out W (HG.out _ W hW)) ?_
              intro W hS
              have HX : Hid (OpX w W w.heap.size t n sq 1 ot on pt pn nm p q l c m d) := ⟨H9.out.below hS, HG.out _ W hS⟩
              have ⟨d0, d1, d2, d3, d4, d5, d6, d7, d8, d9, d10⟩ := HX.out.1.cells
              clear hS
              simp only [putAll, List.setIfInBounds_toArray, List.set_cons_zero, List.set_cons_succ, HZ.out]
              go_wp2_with (first | (go_at_call 21; refine Calls_new (HS.out _) ?_; clear HS; intro w2 hb2; have HX := OpX.step HX hb2; have ⟨d0, d1, d2, d3, d4, d5, d6, d7, d8, d9, d10⟩ := HX.out.1.cells; clear hb2) | (go_at_call 43; refine Calls_new (HR.out _) ?_; clear HR; intro w2 hb2; have HX := OpX.step HX hb2; have ⟨d0, d1, d2, d3, d4, d5, d6, d7, d8, d9, d10⟩ := HX.out.1.cells; clear hb2) | (go_at_call 44; refine Calls_new (HO.out _) ?_; clear HO; intro w2 hb2; have HX := OpX.step HX hb2; have ⟨d0, d1, d2, d3, d4, d5, d6, d7, d8, d9, d10⟩ := HX.out.1.cells; clear hb2) | (go_at_call 45; refine Calls_on (HN.out _) ?_; clear HN))
              go_ret
              exact ⟨by first | rfl | (simp; done) | (simp; omega), HX.out.2⟩
          · rw [decide_eq_false hx]
            go_enter Try.func26, Try.ntmps26
            go_wp2_with fail
            refine rmay_at (by kernel_rfl) w.heap.size t n sq 1 ot on pt pn nm p q l c m d _ rfl rfl H9.out (fun W _ => HV.out W) (by have := H1.out; omega) (by have := H2.out; omega) (sq - 1) (fun W hW => HMV.out W (HG.out _ W hW)) (fun W hW => HAT.out W (HG.out _ W hW)) ?_
            intro W hS
            have HX : Hid (OpX w W w.heap.size t n sq 1 ot on pt pn nm p q l c m d) := ⟨H9.out.below hS, HG.out _ W hS⟩
            have ⟨d0, d1, d2, d3, d4, d5, d6, d7, d8, d9, d10⟩ := HX.out.1.cells
            clear hS
            simp only [putAll, List.setIfInBounds_toArray, List.set_cons_zero, List.set_cons_succ, HZ.out]
            go_wp2_with (first | (go_at_call 21; refine Calls_new (HS.out _) ?_; clear HS; intro w2 hb2; have HX := OpX.step HX hb2; have ⟨d0, d1, d2, d3, d4, d5, d6, d7, d8, d9, d10⟩ := HX.out.1.cells; clear hb2) | (go_at_call 43; refine Calls_new (HR.out _) ?_; clear HR; intro w2 hb2; have HX := OpX.step HX hb2; have ⟨d0, d1, d2, d3, d4, d5, d6, d7, d8, d9, d10⟩ := HX.out.1.cells; clear hb2) | (go_at_call 44; refine Calls_new (HO.out _) ?_; clear HO; intro w2 hb2; have HX := OpX.step HX hb2; have ⟨d0, d1, d2, d3, d4, d5, d6, d7, d8, d9, d10⟩ := HX.out.1.cells; clear hb2) | (go_at_call 45; refine Calls_on (HN.out _) ?_; clear HN))
            go_ret
            exact ⟨by first | rfl | (simp; done) | (simp; omega), HX.out.2⟩
    · have tk : True := trivial
      cases xs with
      | false =>
        go_enter Try.func26, Try.ntmps26
        go_wp2_with fail
        refine rmay_at (by kernel_rfl) w.heap.size t n sq 2 ot on pt pn nm p q l c m d _ rfl rfl H9.out (fun W _ => HV.out W) (by have := H1.out; omega) (by have := H2.out; omega) (sq - 1) (fun W hW => HMV.out W (HG.out _ W hW)) (fun W hW => HAT.out W (HG.out _ W hW)) ?_
        intro W hS
        have HX : Hid (OpX w W w.heap.size t n sq 2 ot on pt pn nm p q l c m d) := ⟨H9.out.below hS, HG.out _ W hS⟩
        have ⟨d0, d1, d2, d3, d4, d5, d6, d7, d8, d9, d10⟩ := HX.out.1.cells
        clear hS
        simp only [putAll, List.setIfInBounds_toArray, List.set_cons_zero, List.set_cons_succ, HZ.out]
        go_wp2_with (first | (go_at_call 21; refine Calls_new (HS.out _) ?_; clear HS; intro w2 hb2; have HX := OpX.step HX hb2; have ⟨d0, d1, d2, d3, d4, d5, d6, d7, d8, d9, d10⟩ := HX.out.1.cells; clear hb2) | (go_at_call 43; refine Calls_new (HR.out _) ?_; clear HR; intro w2 hb2; have HX := OpX.step HX hb2; have ⟨d0, d1, d2, d3, d4, d5, d6, d7, d8, d9, d10⟩ := HX.out.1.cells; clear hb2) | (go_at_call 44; refine Calls_new (HO.out _) ?_; clear HO; intro w2 hb2; have HX := OpX.step HX hb2; have ⟨d0, d1, d2, d3, d4, d5, d6, d7, d8, d9, d10⟩ := HX.out.1.cells; clear hb2) | (go_at_call 45; refine Calls_on (HN.out _) ?_; clear HN))
        go_ret
        exact ⟨by first | rfl | (simp; done) | (simp; omega), HX.out.2⟩
      | true =>
        cases xr with
        | false =>
          cases xo with
          | false =>
            go_enter Try.func26, Try.ntmps26
            go_wp2_with fail
            refine rmay_at (by kernel_rfl) w.heap.size t n sq 2 ot on pt pn nm p q l c m d _ rfl rfl H9.out (fun W _ => HV.out W) (by have := H1.out; omega) (by have := H2.out; omega) (sq - 1) (fun W hW => HMV.out W (HG.out _ W hW)) (fun W hW => HAT.out W (HG.out _ W hW)) ?_
            intro W hS
            have HX : Hid (OpX w W w.heap.size t n sq 2 ot on pt pn nm p q l c m d) := ⟨H9.out.below hS, HG.out _ W hS⟩
            have ⟨d0, d1, d2, d3, d4, d5, d6, d7, d8, d9, d10⟩ := HX.out.1.cells
            clear hS
            simp only [putAll, List.setIfInBounds_toArray, List.set_cons_zero, List.set_cons_succ, HZ.out]
            go_wp2_with (first | (go_at_call 21; refine Calls_new (HS.out _) ?_; clear HS; intro w2 hb2; have HX := OpX.step HX hb2; have ⟨d0, d1, d2, d3, d4, d5, d6, d7, d8, d9, d10⟩ := HX.out.1.cells; clear hb2) | (go_at_call 43; refine Calls_new (HR.out _) ?_; clear HR; intro w2 hb2; have HX := OpX.step HX hb2; have ⟨d0, d1, d2, d3, d4, d5, d6, d7, d8, d9, d10⟩ := HX.out.1.cells; clear hb2) | (go_at_call 44; refine Calls_new (HO.out _) ?_; clear HO; intro w2 hb2; have HX := OpX.step HX hb2; have ⟨d0, d1, d2, d3, d4, d5, d6, d7, d8, d9, d10⟩ := HX.out.1.cells; clear hb2) | (go_at_call 45; refine Calls_on (HN.out _) ?_; clear HN))
            go_ret
            exact ⟨by first | rfl | (simp; done) | (simp; omega), HX.out.2⟩
          | true =>
            by_cases hx : x = 0
            · subst hx
              by_cases hl : l = 0
              · have hlI : (l : Int) = 0 := by omega
                rw [decide_eq_true hl]
                clear hl
                go_enter Try.func26, Try.ntmps26
                go_wp2_with fail
                refine rmay_at (by kernel_rfl) w.heap.size t n sq 2 ot on pt pn nm p q l c m d _ rfl rfl H9.out (fun W _ => HV.out W) (by have := H1.out; omega) (by have := H2.out; omega) (sq - 1) (fun W hW => HMV.out W (HG.out _ W hW)) (fun W hW => HAT.out W (HG.out _ W hW)) ?_
                intro W hS
                have HX : Hid (OpX w W w.heap.size t n sq 2 ot on pt pn nm p q l c m d) := ⟨H9.out.below hS, HG.out _ W hS⟩
                have ⟨d0, d1, d2, d3, d4, d5, d6, d7, d8, d9, d10⟩ := HX.out.1.cells
                clear hS
                simp only [putAll, List.setIfInBounds_toArray, List.set_cons_zero, List.set_cons_succ, HZ.out]
                go_wp2_with (first | (go_at_call 21; refine Calls_new (HS.out _) ?_; clear HS; intro w2 hb2; have HX := OpX.step HX hb2; have ⟨d0, d1, d2, d3, d4, d5, d6, d7, d8, d9, d10⟩ := HX.out.1.cells; clear hb2) | (go_at_call 43; refine Calls_new (HR.out _) ?_; clear HR; intro w2 hb2; have HX := OpX.step HX hb2; have ⟨d0, d1, d2, d3, d4, d5, d6, d7, d8, d9, d10⟩ := HX.out.1.cells; clear hb2) | (go_at_call 44; refine Calls_new (HO.out _) ?_; clear HO; intro w2 hb2; have HX := OpX.step HX hb2; have ⟨d0, d1, d2, d3, d4, d5, d6, d7, d8, d9, d10⟩ := HX.out.1.cells; clear hb2) | (go_at_call 45; refine Calls_on (HN.out _) ?_; clear HN))
                go_ret
                exact ⟨by first | rfl | (simp; done) | (simp; omega), HX.out.2⟩
              · have hlI : ¬ (l : Int) = 0 := by omega
                rw [decide_eq_false hl]
                clear hl
                go_enter Try.func26, Try.ntmps26
                go_wp2_with fail
                refine rmay_at (by kernel_rfl) w.heap.size t n sq 2 ot on pt pn nm p q l c m d _ rfl rfl H9.out (fun W _ => HV.out W) (by have := H1.out; omega) (by have := H2.out; omega) (sq - 1) (fun W hW => HMV.out W (HG.out _ W hW)) (fun W hW => HAT.out W (HG.out _ W hW)) ?_
                intro W hS
                have HX : Hid (OpX w W w.heap.size t n sq 2 ot on pt pn nm p q l c m d) := ⟨H9.out.below hS, HG.out _ W hS⟩
                have ⟨d0, d1, d2, d3, d4, d5, d6, d7, d8, d9, d10⟩ := HX.out.1.cells
                clear hS
                simp only [putAll, List.setIfInBounds_toArray, List.set_cons_zero, List.set_cons_succ, HZ.out]
                go_wp2_with (first | (go_at_call 21; refine Calls_new (HS.out _) ?_; clear HS; intro w2 hb2; have HX := OpX.step HX hb2; have ⟨d0, d1, d2, d3, d4, d5, d6, d7, d8, d9, d10⟩ := HX.out.1.cells; clear hb2) | (go_at_call 43; refine Calls_new (HR.out _) ?_; clear HR; intro w2 hb2; have HX := OpX.step HX hb2; have ⟨d0, d1, d2, d3, d4, d5, d6, d7, d8, d9, d10⟩ := HX.out.1.cells; clear hb2) | (go_at_call 44; refine Calls_new (HO.out _) ?_; clear HO; intro w2 hb2; have HX := OpX.step HX hb2; have ⟨d0, d1, d2, d3, d4, d5, d6, d7, d8, d9, d10⟩ := HX.out.1.cells; clear hb2) | (go_at_call 45; refine Calls_on (HN.out _) ?_; clear HN))
                go_ret
                exact ⟨by first | rfl | (simp; done) | (simp; omega), HX.out.2⟩
            · rw [decide_eq_false hx]
              go_enter Try.func26, Try.ntmps26
              go_wp2_with fail
              refine rmay_at (by kernel_rfl) w.heap.size t n sq 2 ot on pt pn nm p q l c m d _ rfl rfl H9.out (fun W _ => HV.out W) (by have := H1.out; omega) (by have := H2.out; omega) (sq - 1) (fun W hW => HMV.out W (HG.out _ W hW)) (fun W hW => HAT.out W (HG.out _ W hW)) ?_
              intro W hS
              have HX : Hid (OpX w W w.heap.size t n sq 2 ot on pt pn nm p q l c m d) := ⟨H9.out.below hS, HG.out _ W hS⟩
              have ⟨d0, d1, d2, d3, d4, d5, d6, d7, d8, d9, d10⟩ := HX.out.1.cells
              clear hS
              simp only [putAll, List.setIfInBounds_toArray, List.set_cons_zero, List.set_cons_succ, HZ.out]
              go_wp2_with (first | (go_at_call 21; refine Calls_new (HS.out _) ?_; clear HS; intro w2 hb2; have HX := OpX.step HX hb2; have ⟨d0, d1, d2, d3, d4, d5, d6, d7, d8, d9, d10⟩ := HX.out.1.cells; clear hb2) | (go_at_call 43; refine Calls_new (HR.out _) ?_; clear HR; intro w2 hb2; have HX := OpX.step HX hb2; have ⟨d0, d1, d2, d3, d4, d5, d6, d7, d8, d9, d10⟩ := HX.out.1.cells; clear hb2) | (go_at_call 44; refine Calls_new (HO.out _) ?_; clear HO; intro w2 hb2; have HX := OpX.step HX hb2; have ⟨d0, d1, d2, d3, d4, d5, d6, d7, d8, d9, d10⟩ := HX.out.1.cells; clear hb2) | (go_at_call 45; refine Calls_on (HN.out _) ?_; clear HN))
              go_ret
              exact ⟨by first | rfl | (simp; done) | (simp; omega), HX.out.2⟩
        | true =>
          by_cases hx : x = 0
          · subst hx
            by_cases hl : l = 0
            · have hlI : (l : Int) = 0 := by omega
              rw [decide_eq_true hl]
              clear hl
              go_enter Try.func26, Try.ntmps26
              go_wp2_with fail
              refine rmay_at (by kernel_rfl) w.heap.size t n sq 2 ot on pt pn nm p q l c m d _ rfl rfl H9.out (fun W _ => HV.out W) (by have := H1.out; omega) (by have := H2.out; omega) (sq - 1) (fun W hW => HMV.out W (HG.out _ W hW)) (fun W hW => HAT.out W (HG.out _ W hW)) ?_
              intro W hS
              have HX : Hid (OpX w W w.heap.size t n sq 2 ot on pt pn nm p q l c m d) := ⟨H9.out.below hS, HG.out _ W hS⟩
              have ⟨d0, d1, d2, d3, d4, d5, d6, d7, d8, d9, d10⟩ := HX.out.1.cells
              clear hS
              simp only [putAll, List.setIfInBounds_toArray, List.set_cons_zero, List.set_cons_succ, HZ.out]
              go_wp2_with (first | (go_at_call 21; refine Calls_new (HS.out _) ?_; clear HS; intro w2 hb2; have HX := OpX.step HX hb2; have ⟨d0, d1, d2, d3, d4, d5, d6, d7, d8, d9, d10⟩ := HX.out.1.cells; clear hb2) | (go_at_call 43; refine Calls_new (HR.out _) ?_; clear HR; intro w2 hb2; have HX := OpX.step HX hb2; have ⟨d0, d1, d2, d3, d4, d5, d6, d7, d8, d9, d10⟩ := HX.out.1.cells; clear hb2) | (go_at_call 44; refine Calls_new (HO.out _) ?_; clear HO; intro w2 hb2; have HX := OpX.step HX hb2; have ⟨d0, d1, d2, d3, d4, d5, d6, d7, d8, d9, d10⟩ := HX.out.1.cells; clear hb2) | (go_at_call 45; refine Calls_on (HN.out _) ?_; clear HN))
              go_ret
              exact ⟨by first | rfl | (simp; done) | (simp; omega), HX.out.2⟩
            · have hlI : ¬ (l : Int) = 0 := by omega
              rw [decide_eq_false hl]
              clear hl
              go_enter Try.func26, Try.ntmps26
              go_wp2_with fail
              refine rmay_at (by kernel_rfl) w.heap.size t n sq 2 ot on pt pn nm p q l c m d _ rfl rfl H9.out (fun W _ => HV.out W) (by have := H1.out; omega) (by have := H2.out; omega) (sq - 1) (fun W hW => HMV.out W (HG.out _ W hW)) (fun W hW => HAT.out W (HG.out _ W hW)) ?_
              intro W hS
              have HX : Hid (OpX w W w.heap.size t n sq 2 ot on pt pn nm p q l c m d) := ⟨H9.out.below hS, HG.out _ W hS⟩
              have ⟨d0, d1, d2, d3, d4, d5, d6, d7, d8, d9, d10⟩ := HX.out.1.cells
              clear hS
              simp only [putAll, List.setIfInBounds_toArray, List.set_cons_zero, List.set_cons_succ, HZ.out]
              go_wp2_with (first | (go_at_call 21; refine Calls_new (HS.out _) ?_; clear HS; intro w2 hb2; have HX := OpX.step HX hb2; have ⟨d0, d1, d2, d3, d4, d5, d6, d7, d8, d9, d10⟩ := HX.out.1.cells; clear hb2) | (go_at_call 43; refine Calls_new (HR.out _) ?_; clear HR; intro w2 hb2; have HX := OpX.step HX hb2; have ⟨d0, d1, d2, d3, d4, d5, d6, d7, d8, d9, d10⟩ := HX.out.1.cells; clear hb2) | (go_at_call 44; refine Calls_new (HO.out _) ?_; clear HO; intro w2 hb2; have HX := OpX.step HX hb2; have ⟨d0, d1, d2, d3, d4, d5, d6, d7, d8, d9, d10⟩ := HX.out.1.cells; clear hb2) | (go_at_call 45; refine Calls_on (HN.out _) ?_; clear HN))
              go_ret
              exact ⟨by first | rfl | (simp; done) | (simp; omega), HX.out.2⟩
          · rw [decide_eq_false hx]
            go_enter Try.func26, Try.ntmps26
            go_wp2_with fail
            refine rmay_at (by kernel_rfl) w.heap.size t n sq 2 ot on pt pn nm p q l c m d _ rfl rfl H9.out (fun W _ => HV.out W) (by have := H1.out; omega) (by have := H2.out; omega) (sq - 1) (fun W hW => HMV.out W (HG.out _ W hW)) (fun W hW => HAT.out W (HG.out _ W hW)) ?_
            intro W hS
            have HX : Hid (OpX w W w.heap.size t n sq 2 ot on pt pn nm p q l c m d) := ⟨H9.out.below hS, HG.out _ W hS⟩
            have ⟨d0, d1, d2, d3, d4, d5, d6, d7, d8, d9, d10⟩ := HX.out.1.cells
            clear hS
            simp only [putAll, List.setIfInBounds_toArray, List.set_cons_zero, List.set_cons_succ, HZ.out]
            go_wp2_with (first | (go_at_call 21; refine Calls_new (HS.out _) ?_; clear HS; intro w2 hb2; have HX := OpX.step HX hb2; have ⟨d0, d1, d2, d3, d4, d5, d6, d7, d8, d9, d10⟩ := HX.out.1.cells; clear hb2) | (go_at_call 43; refine Calls_new (HR.out _) ?_; clear HR; intro w2 hb2; have HX := OpX.step HX hb2; have ⟨d0, d1, d2, d3, d4, d5, d6, d7, d8, d9, d10⟩ := HX.out.1.cells; clear hb2) | (go_at_call 44; refine Calls_new (HO.out _) ?_; clear HO; intro w2 hb2; have HX := OpX.step HX hb2; have ⟨d0, d1, d2, d3, d4, d5, d6, d7, d8, d9, d10⟩ := HX.out.1.cells; clear hb2) | (go_at_call 45; refine Calls_on (HN.out _) ?_; clear HN))
            go_ret
            exact ⟨by first | rfl | (simp; done) | (simp; omega), HX.out.2⟩
  by_cases h3 : kd = 3
  · have HF : Hid (kindB t n kd ot on pt pn nm l = (olderB ot on t n && (rootB pt pn || olderB pt pn t n || trashB pt pn) && (decide (nameN nm = 0) && decide (l = 0)))) := by show _ = _; unfold kindB placedB; rw [if_neg h12, if_pos h3]
    rw [HF.out]
    clear HF HS h12
    generalize olderB ot on t n = xe at *
    generalize rootB pt pn = xr at *
    generalize trashB pt pn = xt at *
    generalize olderB pt pn t n = xo at *
    generalize nameN nm = x at *
    subst h3
    cases xe with
    | false =>
      go_enter Try.func26, Try.ntmps26
      go_wp2_with fail
      refine rmay_at (by kernel_rfl) w.heap.size t n sq 3 ot on pt pn nm p q l c m d _ rfl rfl H9.out (fun W _ => HV.out W) (by have := H1.out; omega) (by have := H2.out; omega) (sq - 1) (fun W hW => HMV.out W (HG.out _ W hW)) (fun W hW => HAT.out W (HG.out _ W hW)) ?_
      intro W hS
      have HX : Hid (OpX w W w.heap.size t n sq 3 ot on pt pn nm p q l c m d) := ⟨H9.out.below hS, HG.out _ W hS⟩
      have ⟨d0, d1, d2, d3, d4, d5, d6, d7, d8, d9, d10⟩ := HX.out.1.cells
      clear hS
      simp only [putAll, List.setIfInBounds_toArray, List.set_cons_zero, List.set_cons_succ, HZ.out]
      go_wp2_with (first | (go_at_call 44; refine Calls_new (HE.out _) ?_; clear HE; intro w2 hb2; have HX := OpX.step HX hb2; have ⟨d0, d1, d2, d3, d4, d5, d6, d7, d8, d9, d10⟩ := HX.out.1.cells; clear hb2) | (go_at_call 43; refine Calls_new (HR.out _) ?_; clear HR; intro w2 hb2; have HX := OpX.step HX hb2; have ⟨d0, d1, d2, d3, d4, d5, d6, d7, d8, d9, d10⟩ := HX.out.1.cells; clear hb2) | (go_at_call 46; refine Calls_new (HT.out _) ?_; clear HT; intro w2 hb2; have HX := OpX.step HX hb2; have ⟨d0, d1, d2, d3, d4, d5, d6, d7, d8, d9, d10⟩ := HX.out.1.cells; clear hb2) | (go_at_call 44; refine Calls_new (HO.out _) ?_; clear HO; intro w2 hb2; have HX := OpX.step HX hb2; have ⟨d0, d1, d2, d3, d4, d5, d6, d7, d8, d9, d10⟩ := HX.out.1.cells; clear hb2) | (go_at_call 45; refine Calls_on (HN.out _) ?_; clear HN))
      go_ret
      exact ⟨by first | rfl | (simp; done) | (simp; omega), HX.out.2⟩
    | true =>
      cases xr with
      | false =>
        cases xt with
        | false =>
          cases xo with
          | false =>
            go_enter Try.func26, Try.ntmps26
            go_wp2_with fail
            refine rmay_at (by kernel_rfl) w.heap.size t n sq 3 ot on pt pn nm p q l c m d _ rfl rfl H9.out (fun W _ => HV.out W) (by have := H1.out; omega) (by have := H2.out; omega) (sq - 1) (fun W hW => HMV.out W (HG.out _ W hW)) (fun W hW => HAT.out W (HG.out _ W hW)) ?_
            intro W hS
            have HX : Hid (OpX w W w.heap.size t n sq 3 ot on pt pn nm p q l c m d) := ⟨H9.out.below hS, HG.out _ W hS⟩
            have ⟨d0, d1, d2, d3, d4, d5, d6, d7, d8, d9, d10⟩ := HX.out.1.cells
            clear hS
            simp only [putAll, List.setIfInBounds_toArray, List.set_cons_zero, List.set_cons_succ, HZ.out]
            go_wp2_with (first | (go_at_call 44; refine Calls_new (HE.out _) ?_; clear HE; intro w2 hb2; have HX := OpX.step HX hb2; have ⟨d0, d1, d2, d3, d4, d5, d6, d7, d8, d9, d10⟩ := HX.out.1.cells; clear hb2) | (go_at_call 43; refine Calls_new (HR.out _) ?_; clear HR; intro w2 hb2; have HX := OpX.step HX hb2; have ⟨d0, d1, d2, d3, d4, d5, d6, d7, d8, d9, d10⟩ := HX.out.1.cells; clear hb2) | (go_at_call 46; refine Calls_new (HT.out _) ?_; clear HT; intro w2 hb2; have HX := OpX.step HX hb2; have ⟨d0, d1, d2, d3, d4, d5, d6, d7, d8, d9, d10⟩ := HX.out.1.cells; clear hb2) | (go_at_call 44; refine Calls_new (HO.out _) ?_; clear HO; intro w2 hb2; have HX := OpX.step HX hb2; have ⟨d0, d1, d2, d3, d4, d5, d6, d7, d8, d9, d10⟩ := HX.out.1.cells; clear hb2) | (go_at_call 45; refine Calls_on (HN.out _) ?_; clear HN))
            go_ret
            exact ⟨by first | rfl | (simp; done) | (simp; omega), HX.out.2⟩
          | true =>
            by_cases hx : x = 0
            · subst hx
              by_cases hl : l = 0
              · have hlI : (l : Int) = 0 := by omega
                rw [decide_eq_true hl]
                clear hl
                go_enter Try.func26, Try.ntmps26
                go_wp2_with fail
                refine rmay_at (by kernel_rfl) w.heap.size t n sq 3 ot on pt pn nm p q l c m d _ rfl rfl H9.out (fun W _ => HV.out W) (by have := H1.out; omega) (by have := H2.out; omega) (sq - 1) (fun W hW => HMV.out W (HG.out _ W hW)) (fun W hW => HAT.out W (HG.out _ W hW)) ?_
                intro W hS
                have HX : Hid (OpX w W w.heap.size t n sq 3 ot on pt pn nm p q l c m d) := ⟨H9.out.below hS, HG.out _ W hS⟩
                have ⟨d0, d1, d2, d3, d4, d5, d6, d7, d8, d9, d10⟩ := HX.out.1.cells
                clear hS
                simp only [putAll, List.setIfInBounds_toArray, List.set_cons_zero, List.set_cons_succ, HZ.out]
                go_wp2_with (first | (go_at_call 44; refine Calls_new (HE.out _) ?_; clear HE; intro w2 hb2; have HX := OpX.step HX hb2; have ⟨d0, d1, d2, d3, d4, d5, d6, d7, d8, d9, d10⟩ := HX.out.1.cells; clear hb2) | (go_at_call 43; refine Calls_new (HR.out _) ?_; clear HR; intro w2 hb2; have HX := OpX.step HX hb2; have ⟨d0, d1, d2, d3, d4, d5, d6, d7, d8, d9, d10⟩ := HX.out.1.cells; clear hb2) | (go_at_call 46; refine Calls_new (HT.out _) ?_; clear HT; intro w2 hb2; have HX := OpX.step HX hb2; have ⟨d0, d1, d2, d3, d4, d5, d6, d7, d8, d9, d10⟩ := HX.out.1.cells; clear hb2) | (go_at_call 44; refine Calls_new (HO.out _) ?_; clear HO; intro w2 hb2; have HX := OpX.step HX hb2; have ⟨d0, d1, d2, d3, d4, d5, d6, d7, d8, d9, d10⟩ := HX.out.1.cells; clear hb2) | (go_at_call 45; refine Calls_on (HN.out _) ?_; clear HN))
                go_ret
                exact ⟨by first | rfl | (simp; done) | (simp; omega), HX.out.2⟩
              · have hlI : ¬ (l : Int) = 0 := by omega
                rw [decide_eq_false hl]
                clear hl
                go_enter Try.func26, Try.ntmps26
                go_wp2_with fail
                refine rmay_at (by kernel_rfl) w.heap.size t n sq 3 ot on pt pn nm p q l c m d _ rfl rfl H9.out (fun W _ => HV.out W) (by have := H1.out; omega) (by have := H2.out; omega) (sq - 1) (fun W hW => HMV.out W (HG.out _ W hW)) (fun W hW => HAT.out W (HG.out _ W hW)) ?_
                intro W hS
                have HX : Hid (OpX w W w.heap.size t n sq 3 ot on pt pn nm p q l c m d) := ⟨H9.out.below hS, HG.out _ W hS⟩
                have ⟨d0, d1, d2, d3, d4, d5, d6, d7, d8, d9, d10⟩ := HX.out.1.cells
                clear hS
                simp only [putAll, List.setIfInBounds_toArray, List.set_cons_zero, List.set_cons_succ, HZ.out]
                go_wp2_with (first | (go_at_call 44; refine Calls_new (HE.out _) ?_; clear HE; intro w2 hb2; have HX := OpX.step HX hb2; have ⟨d0, d1, d2, d3, d4, d5, d6, d7, d8, d9, d10⟩ := HX.out.1.cells; clear hb2) | (go_at_call 43; refine Calls_new (HR.out _) ?_; clear HR; intro w2 hb2; have HX := OpX.step HX hb2; have ⟨d0, d1, d2, d3, d4, d5, d6, d7, d8, d9, d10⟩ := HX.out.1.cells; clear hb2) | (go_at_call 46; refine Calls_new (HT.out _) ?_; clear HT; intro w2 hb2; have HX := OpX.step HX hb2; have ⟨d0, d1, d2, d3, d4, d5, d6, d7, d8, d9, d10⟩ := HX.out.1.cells; clear hb2) | (go_at_call 44; refine Calls_new (HO.out _) ?_; clear HO; intro w2 hb2; have HX := OpX.step HX hb2; have ⟨d0, d1, d2, d3, d4, d5, d6, d7, d8, d9, d10⟩ := HX.out.1.cells; clear hb2) | (go_at_call 45; refine Calls_on (HN.out _) ?_; clear HN))
                go_ret
                exact ⟨by first | rfl | (simp; done) | (simp; omega), HX.out.2⟩
            · rw [decide_eq_false hx]
              go_enter Try.func26, Try.ntmps26
              go_wp2_with fail
              refine rmay_at (by kernel_rfl) w.heap.size t n sq 3 ot on pt pn nm p q l c m d _ rfl rfl H9.out (fun W _ => HV.out W) (by have := H1.out; omega) (by have := H2.out; omega) (sq - 1) (fun W hW => HMV.out W (HG.out _ W hW)) (fun W hW => HAT.out W (HG.out _ W hW)) ?_
              intro W hS
              have HX : Hid (OpX w W w.heap.size t n sq 3 ot on pt pn nm p q l c m d) := ⟨H9.out.below hS, HG.out _ W hS⟩
              have ⟨d0, d1, d2, d3, d4, d5, d6, d7, d8, d9, d10⟩ := HX.out.1.cells
              clear hS
              simp only [putAll, List.setIfInBounds_toArray, List.set_cons_zero, List.set_cons_succ, HZ.out]
              go_wp2_with (first | (go_at_call 44; refine Calls_new (HE.out _) ?_; clear HE; intro w2 hb2; have HX := OpX.step HX hb2; have ⟨d0, d1, d2, d3, d4, d5, d6, d7, d8, d9, d10⟩ := HX.out.1.cells; clear hb2) | (go_at_call 43; refine Calls_new (HR.out _) ?_; clear HR; intro w2 hb2; have HX := OpX.step HX hb2; have ⟨d0, d1, d2, d3, d4, d5, d6, d7, d8, d9, d10⟩ := HX.out.1.cells; clear hb2) | (go_at_call 46; refine Calls_new (HT.out _) ?_; clear HT; intro w2 hb2; have HX := OpX.step HX hb2; have ⟨d0, d1, d2, d3, d4, d5, d6, d7, d8, d9, d10⟩ := HX.out.1.cells; clear hb2) | (go_at_call 44; refine Calls_new (HO.out _) ?_; clear HO; intro w2 hb2; have HX := OpX.step HX hb2; have ⟨d0, d1, d2, d3, d4, d5, d6, d7, d8, d9, d10⟩ := HX.out.1.cells; clear hb2) | (go_at_call 45; refine Calls_on (HN.out _) ?_; clear HN))
              go_ret
              exact ⟨by first | rfl | (simp; done) | (simp; omega), HX.out.2⟩
        | true =>
          by_cases hx : x = 0
          · subst hx
            by_cases hl : l = 0
            · have hlI : (l : Int) = 0 := by omega
              rw [decide_eq_true hl]
              clear hl
              go_enter Try.func26, Try.ntmps26
              go_wp2_with fail
              refine rmay_at (by kernel_rfl) w.heap.size t n sq 3 ot on pt pn nm p q l c m d _ rfl rfl H9.out (fun W _ => HV.out W) (by have := H1.out; omega) (by have := H2.out; omega) (sq - 1) (fun W hW => HMV.out W (HG.out _ W hW)) (fun W hW => HAT.out W (HG.out _ W hW)) ?_
              intro W hS
              have HX : Hid (OpX w W w.heap.size t n sq 3 ot on pt pn nm p q l c m d) := ⟨H9.out.below hS, HG.out _ W hS⟩
              have ⟨d0, d1, d2, d3, d4, d5, d6, d7, d8, d9, d10⟩ := HX.out.1.cells
              clear hS
              simp only [putAll, List.setIfInBounds_toArray, List.set_cons_zero, List.set_cons_succ, HZ.out]
              go_wp2_with (first | (go_at_call 44; refine Calls_new (HE.out _) ?_; clear HE; intro w2 hb2; have HX := OpX.step HX hb2; have ⟨d0, d1, d2, d3, d4, d5, d6, d7, d8, d9, d10⟩ := HX.out.1.cells; clear hb2) | (go_at_call 43; refine Calls_new (HR.out _) ?_; clear HR; intro w2 hb2; have HX := OpX.step HX hb2; have ⟨d0, d1, d2, d3, d4, d5, d6, d7, d8, d9, d10⟩ := HX.out.1.cells; clear hb2) | (go_at_call 46; refine Calls_new (HT.out _) ?_; clear HT; intro w2 hb2; have HX := OpX.step HX hb2; have ⟨d0, d1, d2, d3, d4, d5, d6, d7, d8, d9, d10⟩ := HX.out.1.cells; clear hb2) | (go_at_call 44; refine Calls_new (HO.out _) ?_; clear HO; intro w2 hb2; have HX := OpX.step HX hb2; have ⟨d0, d1, d2, d3, d4, d5, d6, d7, d8, d9, d10⟩ := HX.out.1.cells; clear hb2) | (go_at_call 45; refine Calls_on (HN.out _) ?_; clear HN))
              go_ret
              exact ⟨by first | rfl | (simp; done) | (simp; omega), HX.out.2⟩
            · have hlI : ¬ (l : Int) = 0 := by omega
              rw [decide_eq_false hl]
              clear hl
              go_enter Try.func26, Try.ntmps26
              go_wp2_with fail
              refine rmay_at (by kernel_rfl) w.heap.size t n sq 3 ot on pt pn nm p q l c m d _ rfl rfl H9.out (fun W _ => HV.out W) (by have := H1.out; omega) (by have := H2.out; omega) (sq - 1) (fun W hW => HMV.out W (HG.out _ W hW)) (fun W hW => HAT.out W (HG.out _ W hW)) ?_
              intro W hS
              have HX : Hid (OpX w W w.heap.size t n sq 3 ot on pt pn nm p q l c m d) := ⟨H9.out.below hS, HG.out _ W hS⟩
              have ⟨d0, d1, d2, d3, d4, d5, d6, d7, d8, d9, d10⟩ := HX.out.1.cells
              clear hS
              simp only [putAll, List.setIfInBounds_toArray, List.set_cons_zero, List.set_cons_succ, HZ.out]
              go_wp2_with (first | (go_at_call 44; refine Calls_new (HE.out _) ?_; clear HE; intro w2 hb2; have HX := OpX.step HX hb2; have ⟨d0, d1, d2, d3, d4, d5, d6, d7, d8, d9, d10⟩ := HX.out.1.cells; clear hb2) | (go_at_call 43; refine Calls_new (HR.out _) ?_; clear HR; intro w2 hb2; have HX := OpX.step HX hb2; have ⟨d0, d1, d2, d3, d4, d5, d6, d7, d8, d9, d10⟩ := HX.out.1.cells; clear hb2) | (go_at_call 46; refine Calls_new (HT.out _) ?_; clear HT; intro w2 hb2; have HX := OpX.step HX hb2; have ⟨d0, d1, d2, d3, d4, d5, d6, d7, d8, d9, d10⟩ := HX.out.1.cells; clear hb2) | (go_at_call 44; refine Calls_new (HO.out _) ?_; clear HO; intro w2 hb2; have HX := OpX.step HX hb2; have ⟨d0, d1, d2, d3, d4, d5, d6, d7, d8, d9, d10⟩ := HX.out.1.cells; clear hb2) | (go_at_call 45; refine Calls_on (HN.out _) ?_; clear HN))
              go_ret
              exact ⟨by first | rfl | (simp; done) | (simp; omega), HX.out.2⟩
          · rw [decide_eq_false hx]
            go_enter Try.func26, Try.ntmps26
            go_wp2_with fail
            refine rmay_at (by kernel_rfl) w.heap.size t n sq 3 ot on pt pn nm p q l c m d _ rfl rfl H9.out (fun W _ => HV.out W) (by have := H1.out; omega) (by have := H2.out; omega) (sq - 1) (fun W hW => HMV.out W (HG.out _ W hW)) (fun W hW => HAT.out W (HG.out _ W hW)) ?_
            intro W hS
            have HX : Hid (OpX w W w.heap.size t n sq 3 ot on pt pn nm p q l c m d) := ⟨H9.out.below hS, HG.out _ W hS⟩
            have ⟨d0, d1, d2, d3, d4, d5, d6, d7, d8, d9, d10⟩ := HX.out.1.cells
            clear hS
            simp only [putAll, List.setIfInBounds_toArray, List.set_cons_zero, List.set_cons_succ, HZ.out]
            go_wp2_with (first | (go_at_call 44; refine Calls_new (HE.out _) ?_; clear HE; intro w2 hb2; have HX := OpX.step HX hb2; have ⟨d0, d1, d2, d3, d4, d5, d6, d7, d8, d9, d10⟩ := HX.out.1.cells; clear hb2) | (go_at_call 43; refine Calls_new (HR.out _) ?_; clear HR; intro w2 hb2; have HX := OpX.step HX hb2; have ⟨d0, d1, d2, d3, d4, d5, d6, d7, d8, d9, d10⟩ := HX.out.1.cells; clear hb2) | (go_at_call 46; refine Calls_new (HT.out _) ?_; clear HT; intro w2 hb2; have HX := OpX.step HX hb2; have ⟨d0, d1, d2, d3, d4, d5, d6, d7, d8, d9, d10⟩ := HX.out.1.cells; clear hb2) | (go_at_call 44; refine Calls_new (HO.out _) ?_; clear HO; intro w2 hb2; have HX := OpX.step HX hb2; have ⟨d0, d1, d2, d3, d4, d5, d6, d7, d8, d9, d10⟩ := HX.out.1.cells; clear hb2) | (go_at_call 45; refine Calls_on (HN.out _) ?_; clear HN))
            go_ret
            exact ⟨by first | rfl | (simp; done) | (simp; omega), HX.out.2⟩
      | true =>
        by_cases hx : x = 0
        · subst hx
          by_cases hl : l = 0
          · have hlI : (l : Int) = 0 := by omega
            rw [decide_eq_true hl]
            clear hl
            go_enter Try.func26, Try.ntmps26
            go_wp2_with fail
            refine rmay_at (by kernel_rfl) w.heap.size t n sq 3 ot on pt pn nm p q l c m d _ rfl rfl H9.out (fun W _ => HV.out W) (by have := H1.out; omega) (by have := H2.out; omega) (sq - 1) (fun W hW => HMV.out W (HG.out _ W hW)) (fun W hW => HAT.out W (HG.out _ W hW)) ?_
            intro W hS
            have HX : Hid (OpX w W w.heap.size t n sq 3 ot on pt pn nm p q l c m d) := ⟨H9.out.below hS, HG.out _ W hS⟩
            have ⟨d0, d1, d2, d3, d4, d5, d6, d7, d8, d9, d10⟩ := HX.out.1.cells
            clear hS
            simp only [putAll, List.setIfInBounds_toArray, List.set_cons_zero, List.set_cons_succ, HZ.out]
            go_wp2_with (first | (go_at_call 44; refine Calls_new (HE.out _) ?_; clear HE; intro w2 hb2; have HX := OpX.step HX hb2; have ⟨d0, d1, d2, d3, d4, d5, d6, d7, d8, d9, d10⟩ := HX.out.1.cells; clear hb2) | (go_at_call 43; refine Calls_new (HR.out _) ?_; clear HR; intro w2 hb2; have HX := OpX.step HX hb2; have ⟨d0, d1, d2, d3, d4, d5, d6, d7, d8, d9, d10⟩ := HX.out.1.cells; clear hb2) | (go_at_call 46; refine Calls_new (HT.out _) ?_; clear HT; intro w2 hb2; have HX := OpX.step HX hb2; have ⟨d0, d1, d2, d3, d4, d5, d6, d7, d8, d9, d10⟩ := HX.out.1.cells; clear hb2) | (go_at_call 44; refine Calls_new (HO.out _) ?_; clear HO; intro w2 hb2; have HX := OpX.step HX hb2; have ⟨d0, d1, d2, d3, d4, d5, d6, d7, d8, d9, d10⟩ := HX.out.1.cells; clear hb2) | (go_at_call 45; refine Calls_on (HN.out _) ?_; clear HN))
            go_ret
            exact ⟨by first | rfl | (simp; done) | (simp; omega), HX.out.2⟩
          · have hlI : ¬ (l : Int) = 0 := by omega
            rw [decide_eq_false hl]
            clear hl
            go_enter Try.func26, Try.ntmps26
            go_wp2_with fail
            refine rmay_at (by kernel_rfl) w.heap.size t n sq 3 ot on pt pn nm p q l c m d _ rfl rfl H9.out (fun W _ => HV.out W) (by have := H1.out; omega) (by have := H2.out; omega) (sq - 1) (fun W hW => HMV.out W (HG.out _ W hW)) (fun W hW => HAT.out W (HG.out _ W hW)) ?_
            intro W hS
            have HX : Hid (OpX w W w.heap.size t n sq 3 ot on pt pn nm p q l c m d) := ⟨H9.out.below hS, HG.out _ W hS⟩
            have ⟨d0, d1, d2, d3, d4, d5, d6, d7, d8, d9, d10⟩ := HX.out.1.cells
            clear hS
            simp only [putAll, List.setIfInBounds_toArray, List.set_cons_zero, List.set_cons_succ, HZ.out]
            go_wp2_with (first | (go_at_call 44; refine Calls_new (HE.out _) ?_; clear HE; intro w2 hb2; have HX := OpX.step HX hb2; have ⟨d0, d1, d2, d3, d4, d5, d6, d7, d8, d9, d10⟩ := HX.out.1.cells; clear hb2) | (go_at_call 43; refine Calls_new (HR.out _) ?_; clear HR; intro w2 hb2; have HX := OpX.step HX hb2; have ⟨d0, d1, d2, d3, d4, d5, d6, d7, d8, d9, d10⟩ := HX.out.1.cells; clear hb2) | (go_at_call 46; refine Calls_new (HT.out _) ?_; clear HT; intro w2 hb2; have HX := OpX.step HX hb2; have ⟨d0, d1, d2, d3, d4, d5, d6, d7, d8, d9, d10⟩ := HX.out.1.cells; clear hb2) | (go_at_call 44; refine Calls_new (HO.out _) ?_; clear HO; intro w2 hb2; have HX := OpX.step HX hb2; have ⟨d0, d1, d2, d3, d4, d5, d6, d7, d8, d9, d10⟩ := HX.out.1.cells; clear hb2) | (go_at_call 45; refine Calls_on (HN.out _) ?_; clear HN))
            go_ret
            exact ⟨by first | rfl | (simp; done) | (simp; omega), HX.out.2⟩
        · rw [decide_eq_false hx]
          go_enter Try.func26, Try.ntmps26
          go_wp2_with fail
          refine rmay_at (by kernel_rfl) w.heap.size t n sq 3 ot on pt pn nm p q l c m d _ rfl rfl H9.out (fun W _ => HV.out W) (by have := H1.out; omega) (by have := H2.out; omega) (sq - 1) (fun W hW => HMV.out W (HG.out _ W hW)) (fun W hW => HAT.out W (HG.out _ W hW)) ?_
          intro W hS
          have HX : Hid (OpX w W w.heap.size t n sq 3 ot on pt pn nm p q l c m d) := ⟨H9.out.below hS, HG.out _ W hS⟩
          have ⟨d0, d1, d2, d3, d4, d5, d6, d7, d8, d9, d10⟩ := HX.out.1.cells
          clear hS
          simp only [putAll, List.setIfInBounds_toArray, List.set_cons_zero, List.set_cons_succ, HZ.out]
          go_wp2_with (first | (go_at_call 44; refine Calls_new (HE.out _) ?_; clear HE; intro w2 hb2; have HX := OpX.step HX hb2; have ⟨d0, d1, d2, d3, d4, d5, d6, d7, d8, d9, d10⟩ := HX.out.1.cells; clear hb2) | (go_at_call 43; refine Calls_new (HR.out _) ?_; clear HR; intro w2 hb2; have HX := OpX.step HX hb2; have ⟨d0, d1, d2, d3, d4, d5, d6, d7, d8, d9, d10⟩ := HX.out.1.cells; clear hb2) | (go_at_call 46; refine Calls_new (HT.out _) ?_; clear HT; intro w2 hb2; have HX := OpX.step HX hb2; have ⟨d0, d1, d2, d3, d4, d5, d6, d7, d8, d9, d10⟩ := HX.out.1.cells; clear hb2) | (go_at_call 44; refine Calls_new (HO.out _) ?_; clear HO; intro w2 hb2; have HX := OpX.step HX hb2; have ⟨d0, d1, d2, d3, d4, d5, d6, d7, d8, d9, d10⟩ := HX.out.1.cells; clear hb2) | (go_at_call 45; refine Calls_on (HN.out _) ?_; clear HN))
          go_ret
          exact ⟨by first | rfl | (simp; done) | (simp; omega), HX.out.2⟩
  by_cases h4 : kd = 4
  · have HF : Hid (kindB t n kd ot on pt pn nm l = (olderB ot on t n && rootB pt pn && decide (nm = []) && decide (l ≤ 65536))) := by show _ = _; unfold kindB; rw [if_neg h12, if_neg h3, if_pos h4]
    rw [HF.out]
    clear HF HS HT HO HN h12 h3
    generalize olderB ot on t n = xe at *
    generalize rootB pt pn = xr at *
    subst h4
    cases xe with
    | false =>
      go_enter Try.func26, Try.ntmps26
      go_wp2_with fail
      refine rmay_at (by kernel_rfl) w.heap.size t n sq 4 ot on pt pn nm p q l c m d _ rfl rfl H9.out (fun W _ => HV.out W) (by have := H1.out; omega) (by have := H2.out; omega) (sq - 1) (fun W hW => HMV.out W (HG.out _ W hW)) (fun W hW => HAT.out W (HG.out _ W hW)) ?_
      intro W hS
      have HX : Hid (OpX w W w.heap.size t n sq 4 ot on pt pn nm p q l c m d) := ⟨H9.out.below hS, HG.out _ W hS⟩
      have ⟨d0, d1, d2, d3, d4, d5, d6, d7, d8, d9, d10⟩ := HX.out.1.cells
      clear hS
      simp only [putAll, List.setIfInBounds_toArray, List.set_cons_zero, List.set_cons_succ, HZ.out]
      go_wp2_with (first | (go_at_call 44; refine Calls_new (HE.out _) ?_; clear HE; intro w2 hb2; have HX := OpX.step HX hb2; have ⟨d0, d1, d2, d3, d4, d5, d6, d7, d8, d9, d10⟩ := HX.out.1.cells; clear hb2) | (go_at_call 43; refine Calls_new (HR.out _) ?_; clear HR; intro w2 hb2; have HX := OpX.step HX hb2; have ⟨d0, d1, d2, d3, d4, d5, d6, d7, d8, d9, d10⟩ := HX.out.1.cells; clear hb2))
      go_ret
      exact ⟨by first | rfl | (simp; done) | (simp; omega), HX.out.2⟩
    | true =>
      cases xr with
      | false =>
        go_enter Try.func26, Try.ntmps26
        go_wp2_with fail
        refine rmay_at (by kernel_rfl) w.heap.size t n sq 4 ot on pt pn nm p q l c m d _ rfl rfl H9.out (fun W _ => HV.out W) (by have := H1.out; omega) (by have := H2.out; omega) (sq - 1) (fun W hW => HMV.out W (HG.out _ W hW)) (fun W hW => HAT.out W (HG.out _ W hW)) ?_
        intro W hS
        have HX : Hid (OpX w W w.heap.size t n sq 4 ot on pt pn nm p q l c m d) := ⟨H9.out.below hS, HG.out _ W hS⟩
        have ⟨d0, d1, d2, d3, d4, d5, d6, d7, d8, d9, d10⟩ := HX.out.1.cells
        clear hS
        simp only [putAll, List.setIfInBounds_toArray, List.set_cons_zero, List.set_cons_succ, HZ.out]
        go_wp2_with (first | (go_at_call 44; refine Calls_new (HE.out _) ?_; clear HE; intro w2 hb2; have HX := OpX.step HX hb2; have ⟨d0, d1, d2, d3, d4, d5, d6, d7, d8, d9, d10⟩ := HX.out.1.cells; clear hb2) | (go_at_call 43; refine Calls_new (HR.out _) ?_; clear HR; intro w2 hb2; have HX := OpX.step HX hb2; have ⟨d0, d1, d2, d3, d4, d5, d6, d7, d8, d9, d10⟩ := HX.out.1.cells; clear hb2))
        go_ret
        exact ⟨by first | rfl | (simp; done) | (simp; omega), HX.out.2⟩
      | true =>
        by_cases hn : nm = []
        · subst hn
          have e0 : bas [] = ⟨#[]⟩ := rfl
          by_cases hl : l ≤ 65536
          · have hlI : (l : Int) ≤ 65536 := by omega
            rw [decide_eq_true hl]
            go_enter Try.func26, Try.ntmps26
            go_wp2_with fail
            refine rmay_at (by kernel_rfl) w.heap.size t n sq 4 ot on pt pn [] p q l c m d _ rfl rfl H9.out (fun W _ => HV.out W) (by have := H1.out; omega) (by have := H2.out; omega) (sq - 1) (fun W hW => HMV.out W (HG.out _ W hW)) (fun W hW => HAT.out W (HG.out _ W hW)) ?_
            intro W hS
            have HX : Hid (OpX w W w.heap.size t n sq 4 ot on pt pn [] p q l c m d) := ⟨H9.out.below hS, HG.out _ W hS⟩
            have ⟨d0, d1, d2, d3, d4, d5, d6, d7, d8, d9, d10⟩ := HX.out.1.cells
            clear hS
            simp only [putAll, List.setIfInBounds_toArray, List.set_cons_zero, List.set_cons_succ, HZ.out]
            go_wp2_with (first | (go_at_call 44; refine Calls_new (HE.out _) ?_; clear HE; intro w2 hb2; have HX := OpX.step HX hb2; have ⟨d0, d1, d2, d3, d4, d5, d6, d7, d8, d9, d10⟩ := HX.out.1.cells; clear hb2) | (go_at_call 43; refine Calls_new (HR.out _) ?_; clear HR; intro w2 hb2; have HX := OpX.step HX hb2; have ⟨d0, d1, d2, d3, d4, d5, d6, d7, d8, d9, d10⟩ := HX.out.1.cells; clear hb2))
            go_ret
            exact ⟨by first | rfl | (simp; done) | (simp; omega), HX.out.2⟩
          · have hlI : ¬ (l : Int) ≤ 65536 := by omega
            rw [decide_eq_false hl]
            go_enter Try.func26, Try.ntmps26
            go_wp2_with fail
            refine rmay_at (by kernel_rfl) w.heap.size t n sq 4 ot on pt pn [] p q l c m d _ rfl rfl H9.out (fun W _ => HV.out W) (by have := H1.out; omega) (by have := H2.out; omega) (sq - 1) (fun W hW => HMV.out W (HG.out _ W hW)) (fun W hW => HAT.out W (HG.out _ W hW)) ?_
            intro W hS
            have HX : Hid (OpX w W w.heap.size t n sq 4 ot on pt pn [] p q l c m d) := ⟨H9.out.below hS, HG.out _ W hS⟩
            have ⟨d0, d1, d2, d3, d4, d5, d6, d7, d8, d9, d10⟩ := HX.out.1.cells
            clear hS
            simp only [putAll, List.setIfInBounds_toArray, List.set_cons_zero, List.set_cons_succ, HZ.out]
            go_wp2_with (first | (go_at_call 44; refine Calls_new (HE.out _) ?_; clear HE; intro w2 hb2; have HX := OpX.step HX hb2; have ⟨d0, d1, d2, d3, d4, d5, d6, d7, d8, d9, d10⟩ := HX.out.1.cells; clear hb2) | (go_at_call 43; refine Calls_new (HR.out _) ?_; clear HR; intro w2 hb2; have HX := OpX.step HX hb2; have ⟨d0, d1, d2, d3, d4, d5, d6, d7, d8, d9, d10⟩ := HX.out.1.cells; clear hb2))
            go_ret
            exact ⟨by first | rfl | (simp; done) | (simp; omega), HX.out.2⟩
        · have e1 : (bas nm).toList.isEmpty = false := by rw [bas_toList]; simpa using hn
          rw [decide_eq_false hn]
          clear hn
          go_enter Try.func26, Try.ntmps26
          go_wp2_with fail
          refine rmay_at (by kernel_rfl) w.heap.size t n sq 4 ot on pt pn nm p q l c m d _ rfl rfl H9.out (fun W _ => HV.out W) (by have := H1.out; omega) (by have := H2.out; omega) (sq - 1) (fun W hW => HMV.out W (HG.out _ W hW)) (fun W hW => HAT.out W (HG.out _ W hW)) ?_
          intro W hS
          have HX : Hid (OpX w W w.heap.size t n sq 4 ot on pt pn nm p q l c m d) := ⟨H9.out.below hS, HG.out _ W hS⟩
          have ⟨d0, d1, d2, d3, d4, d5, d6, d7, d8, d9, d10⟩ := HX.out.1.cells
          clear hS
          simp only [putAll, List.setIfInBounds_toArray, List.set_cons_zero, List.set_cons_succ, HZ.out]
          go_wp2_with (first | (go_at_call 44; refine Calls_new (HE.out _) ?_; clear HE; intro w2 hb2; have HX := OpX.step HX hb2; have ⟨d0, d1, d2, d3, d4, d5, d6, d7, d8, d9, d10⟩ := HX.out.1.cells; clear hb2) | (go_at_call 43; refine Calls_new (HR.out _) ?_; clear HR; intro w2 hb2; have HX := OpX.step HX hb2; have ⟨d0, d1, d2, d3, d4, d5, d6, d7, d8, d9, d10⟩ := HX.out.1.cells; clear hb2))
          go_ret
          exact ⟨by first | rfl | (simp; done) | (simp; omega), HX.out.2⟩
  have HF : Hid (kindB t n kd ot on pt pn nm l = false) := by show _ = _; unfold kindB; rw [if_neg h12, if_neg h3, if_neg h4]
  rw [HF.out]
  have n1 : ¬ kd = 1 := fun h => h12 (.inl h)
  have n2 : ¬ kd = 2 := fun h => h12 (.inr h)
  clear HF h12
  go_enter Try.func26, Try.ntmps26
  go_wp2_with fail
  refine rmay_at (by kernel_rfl) w.heap.size t n sq kd ot on pt pn nm p q l c m d _ rfl rfl H9.out (fun W _ => HV.out W) (by have := H1.out; omega) (by have := H2.out; omega) (sq - 1) (fun W hW => HMV.out W (HG.out _ W hW)) (fun W hW => HAT.out W (HG.out _ W hW)) ?_
  intro W hS
  have HX : Hid (OpX w W w.heap.size t n sq kd ot on pt pn nm p q l c m d) := ⟨H9.out.below hS, HG.out _ W hS⟩
  have ⟨d0, d1, d2, d3, d4, d5, d6, d7, d8, d9, d10⟩ := HX.out.1.cells
  clear hS
  simp only [putAll, List.setIfInBounds_toArray, List.set_cons_zero, List.set_cons_succ, HZ.out]
  go_wp2_with (fail)
  go_ret
  exact ⟨by first | rfl | (simp; done) | (simp; omega), HX.out.2⟩

end Go.Proofs.Yteimjkicinjcgaa.Cd

/-
  Drawn regions of the document's Heads, of the law's is.
-/
namespace Go.Proofs.Yteimjkicinjcgaa.Ck.Y.L
open Go.RowKit Go.Lib Go.Maps

attribute [local go_sem] Oper.semAt_some

set_option maxRecDepth 8000 in
set_option maxHeartbeats 4000000 in
theorem rh9 {Q : Exit → Act → World → Prop} {base : Array Value} {dd : List Deferred} {ops : Array Oper} (hops : Try.f11.body.bind (regs 9) = some ops) (gl m cl I K : Nat) (x y : OG) (r : Bool) (w9 : World) (hsz : base.size = 42)
    (b0 : base.getD 0 undef = .slice (some ⟨gl, 0, none⟩) m cl)
    (b4 : base.getD 4 undef = .int .i64 (I : Nat))
    (b6 : base.getD 6 undef = .int .i64 (K : Nat))
    (hI : I < m) (hK : K < m) (hne : ¬ (K : Int) = (I : Int))
    (ha0 : w9.cell? ⟨gl, I * 11, none⟩ = some (.int .i64 x.t)) (ha1 : w9.cell? ⟨gl, I * 11 + 1, none⟩ = some (.int .i64 x.n)) (ha2 : w9.cell? ⟨gl, I * 11 + 2, none⟩ = some (.int .i64 x.sq)) (ha3 : w9.cell? ⟨gl, I * 11 + 3, none⟩ = some (.int .i64 x.kd)) (ha4 : w9.cell? ⟨gl, I * 11 + 4, none⟩ = some (.int .i64 x.ot)) (ha5 : w9.cell? ⟨gl, I * 11 + 5, none⟩ = some (.int .i64 x.on)) (ha6 : w9.cell? ⟨gl, I * 11 + 6, none⟩ = some (.int .i64 x.pt)) (ha7 : w9.cell? ⟨gl, I * 11 + 7, none⟩ = some (.int .i64 x.pn)) (ha8 : w9.cell? ⟨gl, I * 11 + 8, none⟩ = some (.string x.nm)) (ha9 : w9.cell? ⟨gl, I * 11 + 9, none⟩ = some (.slice x.dp x.dl x.dc)) (ha10 : w9.cell? ⟨gl, I * 11 + 10, none⟩ = some (.slice x.sp x.sl x.sc))
    (hd0 : w9.cell? ⟨gl, K * 11, none⟩ = some (.int .i64 y.t)) (hd1 : w9.cell? ⟨gl, K * 11 + 1, none⟩ = some (.int .i64 y.n)) (hd2 : w9.cell? ⟨gl, K * 11 + 2, none⟩ = some (.int .i64 y.sq)) (hd3 : w9.cell? ⟨gl, K * 11 + 3, none⟩ = some (.int .i64 y.kd)) (hd4 : w9.cell? ⟨gl, K * 11 + 4, none⟩ = some (.int .i64 y.ot)) (hd5 : w9.cell? ⟨gl, K * 11 + 5, none⟩ = some (.int .i64 y.on)) (hd6 : w9.cell? ⟨gl, K * 11 + 6, none⟩ = some (.int .i64 y.pt)) (hd7 : w9.cell? ⟨gl, K * 11 + 7, none⟩ = some (.int .i64 y.pn)) (hd8 : w9.cell? ⟨gl, K * 11 + 8, none⟩ = some (.string y.nm)) (hd9 : w9.cell? ⟨gl, K * 11 + 9, none⟩ = some (.slice y.dp y.dl y.dc)) (hd10 : w9.cell? ⟨gl, K * 11 + 10, none⟩ = some (.slice y.sp y.sl y.sc))
    (cK : ∀ W, Below w9.heap.size w9 W → Calls Try.prog 20 #[.agg #[.int .i64 x.t, .int .i64 x.n, .int .i64 x.sq, .int .i64 x.kd, .int .i64 x.ot, .int .i64 x.on, .int .i64 x.pt, .int .i64 x.pn, .string x.nm, .slice x.dp x.dl x.dc, .slice x.sp x.sl x.sc], .agg #[.int .i64 y.t, .int .i64 y.n, .int .i64 y.sq, .int .i64 y.kd, .int .i64 y.ot, .int .i64 y.on, .int .i64 y.pt, .int .i64 y.pn, .string y.nm, .slice y.dp y.dl y.dc, .slice y.sp y.sl y.sc]] W fun e w' => e = .returned (.bool r) ∧ Below W.heap.size W w')
    (hQ : ∀ W, Below w9.heap.size w9 W → Q .normal ⟨putAll base [(some 19, .int .i64 (K : Nat)), (some 20, .int .i64 (I : Nat)), (some 21, .bool true), (some 22, .bool true), (some 23, .slice (some ⟨gl, 0, none⟩) m cl), (some 24, .int .i64 (I : Nat)), (some 25, .pointer (some ⟨gl, I * 11, none⟩)), (some 26, .agg #[.int .i64 x.t, .int .i64 x.n, .int .i64 x.sq, .int .i64 x.kd, .int .i64 x.ot, .int .i64 x.on, .int .i64 x.pt, .int .i64 x.pn, .string x.nm, .slice x.dp x.dl x.dc, .slice x.sp x.sl x.sc]), (some 27, .slice (some ⟨gl, 0, none⟩) m cl), (some 28, .int .i64 (K : Nat)), (some 29, .pointer (some ⟨gl, K * 11, none⟩)), (some 30, .agg #[.int .i64 y.t, .int .i64 y.n, .int .i64 y.sq, .int .i64 y.kd, .int .i64 y.ot, .int .i64 y.on, .int .i64 y.pt, .int .i64 y.pn, .string y.nm, .slice y.dp y.dl y.dc, .slice y.sp y.sl y.sc]), (some 31, .bool r), (some 32, .bool r)], dd⟩ W) :
    (Code.region 9 ops true).wp Try.prog Q ⟨base, dd⟩ w9 := by
  have hmix : Try.prog.follows .mixedOrders = true := by kernel_rfl
  have h2 := (show Try.f11.body.bind (regs 9) = some _ from rfl).symm.trans hops
  obtain rfl := Option.some.inj h2
  clear h2 hops
  have below9 : Below w9.heap.size w9 w9.drew := (Below.refl _ _).drew
  obtain ⟨LL, hLe⟩ : ∃ LL : List (Option Tmp × Value), LL = [(some 19, .int .i64 (K : Nat)), (some 20, .int .i64 (I : Nat)), (some 21, .bool true), (some 22, .bool true), (some 23, .slice (some ⟨gl, 0, none⟩) m cl), (some 24, .int .i64 (I : Nat)), (some 25, .pointer (some ⟨gl, I * 11, none⟩)), (some 26, .agg #[.int .i64 x.t, .int .i64 x.n, .int .i64 x.sq, .int .i64 x.kd, .int .i64 x.ot, .int .i64 x.on, .int .i64 x.pt, .int .i64 x.pn, .string x.nm, .slice x.dp x.dl x.dc, .slice x.sp x.sl x.sc]), (some 27, .slice (some ⟨gl, 0, none⟩) m cl), (some 28, .int .i64 (K : Nat)), (some 29, .pointer (some ⟨gl, K * 11, none⟩)), (some 30, .agg #[.int .i64 y.t, .int .i64 y.n, .int .i64 y.sq, .int .i64 y.kd, .int .i64 y.ot, .int .i64 y.on, .int .i64 y.pt, .int .i64 y.pn, .string y.nm, .slice y.dp y.dl y.dc, .slice y.sp y.sl y.sc]), (some 31, .bool r), (some 32, .bool r)] := ⟨_, rfl⟩
  have vv0 : vals LL 0 = .int .i64 (K : Nat) := by rw [hLe]; rfl
  have vv1 : vals LL 1 = .int .i64 (I : Nat) := by rw [hLe]; rfl
  have vv2 : vals LL 2 = .bool true := by rw [hLe]; rfl
  have vv3 : vals LL 3 = .bool true := by rw [hLe]; rfl
  have vv4 : vals LL 4 = .slice (some ⟨gl, 0, none⟩) m cl := by rw [hLe]; rfl
  have vv5 : vals LL 5 = .int .i64 (I : Nat) := by rw [hLe]; rfl
  have vv6 : vals LL 6 = .pointer (some ⟨gl, I * 11, none⟩) := by rw [hLe]; rfl
  have vv7 : vals LL 7 = .agg #[.int .i64 x.t, .int .i64 x.n, .int .i64 x.sq, .int .i64 x.kd, .int .i64 x.ot, .int .i64 x.on, .int .i64 x.pt, .int .i64 x.pn, .string x.nm, .slice x.dp x.dl x.dc, .slice x.sp x.sl x.sc] := by rw [hLe]; rfl
  have vv8 : vals LL 8 = .slice (some ⟨gl, 0, none⟩) m cl := by rw [hLe]; rfl
  have vv9 : vals LL 9 = .int .i64 (K : Nat) := by rw [hLe]; rfl
  have vv10 : vals LL 10 = .pointer (some ⟨gl, K * 11, none⟩) := by rw [hLe]; rfl
  have vv11 : vals LL 11 = .agg #[.int .i64 y.t, .int .i64 y.n, .int .i64 y.sq, .int .i64 y.kd, .int .i64 y.ot, .int .i64 y.on, .int .i64 y.pt, .int .i64 y.pn, .string y.nm, .slice y.dp y.dl y.dc, .slice y.sp y.sl y.sc] := by rw [hLe]; rfl
  have vv12 : vals LL 12 = .bool r := by rw [hLe]; rfl
  have vv13 : vals LL 13 = .bool r := by rw [hLe]; rfl
  refine region_laid hmix (by kernel_rfl) 42 hsz (by kernel_rfl) LL (by rw [hLe]; rfl) (fun _ W => Below w9.heap.size w9 W) below9 ?_ ?_
  · intro b W i o a hS hcl ho hb hd ev kp yl
    match i with
    | 0 =>
      simp only [List.getElem?_toArray, List.getElem?_cons_zero, Option.some.injEq] at ho
      subst ho
      have e6 : a.tmps[6]?.getD undef = .int .i64 (K : Nat) := (kp 6 (by kernel_rfl)).trans b6
      rw [vv0]
      refine does_value rfl (by intro c h; cases h) (w' := W) ?_ (hS)
      · simp [execOp, go_sem, e6]
    | 1 =>
      simp only [List.getElem?_toArray, List.getElem?_cons_zero, List.getElem?_cons_succ, Option.some.injEq] at ho
      subst ho
      have e4 : a.tmps[4]?.getD undef = .int .i64 (I : Nat) := (kp 4 (by kernel_rfl)).trans b4
      rw [vv1]
      refine does_value rfl (by intro c h; cases h) (w' := W) ?_ (hS)
      · simp [execOp, go_sem, e4]
    | 2 =>
      simp only [List.getElem?_toArray, List.getElem?_cons_zero, List.getElem?_cons_succ, Option.some.injEq] at ho
      subst ho
      have p0 : b 0 = true := hd ⟨0, .data⟩ (by simp) rfl
      have p1 : b 1 = true := hd ⟨1, .data⟩ (by simp) rfl
      have e19 := (ev 0 19 rfl p0).trans vv0
      have e20 := (ev 1 20 rfl p1).trans vv1
      rw [vv2]
      refine does_value rfl (by intro c h; cases h) (w' := W) ?_ (hS)
      · simp [execOp, go_sem, e19, e20, hne]
    | 3 =>
      simp only [List.getElem?_toArray, List.getElem?_cons_zero, List.getElem?_cons_succ, Option.some.injEq] at ho
      subst ho
      have p2 : b 2 = true := hd ⟨2, .data⟩ (by simp) rfl
      have e21 := (ev 2 21 rfl p2).trans vv2
      rw [vv3]
      refine does_value rfl (by intro c h; cases h) (w' := W) ?_ (hS)
      · simp [execOp, go_sem, e21]
    | 4 =>
      simp only [List.getElem?_toArray, List.getElem?_cons_zero, List.getElem?_cons_succ, Option.some.injEq] at ho
      subst ho
      have p3 : b 3 = true := hd ⟨3, .guard⟩ (by simp) rfl
      have e0 : a.tmps[0]?.getD undef = .slice (some ⟨gl, 0, none⟩) m cl := (kp 0 (by kernel_rfl)).trans b0
      rw [vv4]
      refine does_value_g rfl (yl 3 22 true rfl p3 vv3) (by intro c h; cases h) (w' := W) ?_ (hS)
      · simp [execOp, go_sem, e0]
    | 5 =>
      simp only [List.getElem?_toArray, List.getElem?_cons_zero, List.getElem?_cons_succ, Option.some.injEq] at ho
      subst ho
      have p3 : b 3 = true := hd ⟨3, .guard⟩ (by simp) rfl
      have e4 : a.tmps[4]?.getD undef = .int .i64 (I : Nat) := (kp 4 (by kernel_rfl)).trans b4
      rw [vv5]
      refine does_value_g rfl (yl 3 22 true rfl p3 vv3) (by intro c h; cases h) (w' := W) ?_ (hS)
      · simp [execOp, go_sem, e4]
    | 6 =>
      simp only [List.getElem?_toArray, List.getElem?_cons_zero, List.getElem?_cons_succ, Option.some.injEq] at ho
      subst ho
      have p4 : b 4 = true := hd ⟨4, .data⟩ (by simp) rfl
      have p5 : b 5 = true := hd ⟨5, .data⟩ (by simp) rfl
      have p3 : b 3 = true := hd ⟨3, .guard⟩ (by simp) rfl
      have e23 := (ev 4 23 rfl p4).trans vv4
      have e24 := (ev 5 24 rfl p5).trans vv5
      rw [vv6]
      refine does_value_g rfl (yl 3 22 true rfl p3 vv3) (by intro c h; cases h) (w' := W) ?_ (hS)
      · simp [execOp, go_sem, e23, e24, hI]
    | 7 =>
      simp only [List.getElem?_toArray, List.getElem?_cons_zero, List.getElem?_cons_succ, Option.some.injEq] at ho
      subst ho
      have p6 : b 6 = true := hd ⟨6, .data⟩ (by simp) rfl
      have p3 : b 3 = true := hd ⟨3, .guard⟩ (by simp) rfl
      have e25 := (ev 6 25 rfl p6).trans vv6
      have d9_0 := (hS.cell (p := ⟨gl, I * 11, none⟩) (cell_lt ha0)).trans ha0
      have d9_1 := (hS.cell (p := ⟨gl, I * 11 + 1, none⟩) (cell_lt ha1)).trans ha1
      have d9_2 := (hS.cell (p := ⟨gl, I * 11 + 2, none⟩) (cell_lt ha2)).trans ha2
      have d9_3 := (hS.cell (p := ⟨gl, I * 11 + 3, none⟩) (cell_lt ha3)).trans ha3
      have d9_4 := (hS.cell (p := ⟨gl, I * 11 + 4, none⟩) (cell_lt ha4)).trans ha4
      have d9_5 := (hS.cell (p := ⟨gl, I * 11 + 5, none⟩) (cell_lt ha5)).trans ha5
      have d9_6 := (hS.cell (p := ⟨gl, I * 11 + 6, none⟩) (cell_lt ha6)).trans ha6
      have d9_7 := (hS.cell (p := ⟨gl, I * 11 + 7, none⟩) (cell_lt ha7)).trans ha7
      have d9_8 := (hS.cell (p := ⟨gl, I * 11 + 8, none⟩) (cell_lt ha8)).trans ha8
      have d9_9 := (hS.cell (p := ⟨gl, I * 11 + 9, none⟩) (cell_lt ha9)).trans ha9
      have d9_10 := (hS.cell (p := ⟨gl, I * 11 + 10, none⟩) (cell_lt ha10)).trans ha10
      rw [vv7]
      refine does_value_g rfl (yl 3 22 true rfl p3 vv3) (by intro c h; cases h) (w' := W) ?_ (hS)
      · simp [execOp, go_sem, e25, d9_0, d9_1, d9_2, d9_3, d9_4, d9_5, d9_6, d9_7, d9_8, d9_9, d9_10]
    | 8 =>
      simp only [List.getElem?_toArray, List.getElem?_cons_zero, List.getElem?_cons_succ, Option.some.injEq] at ho
      subst ho
      have p3 : b 3 = true := hd ⟨3, .guard⟩ (by simp) rfl
      have e0 : a.tmps[0]?.getD undef = .slice (some ⟨gl, 0, none⟩) m cl := (kp 0 (by kernel_rfl)).trans b0
      rw [vv8]
      refine does_value_g rfl (yl 3 22 true rfl p3 vv3) (by intro c h; cases h) (w' := W) ?_ (hS)
      · simp [execOp, go_sem, e0]
    | 9 =>
      simp only [List.getElem?_toArray, List.getElem?_cons_zero, List.getElem?_cons_succ, Option.some.injEq] at ho
      subst ho
      have p3 : b 3 = true := hd ⟨3, .guard⟩ (by simp) rfl
      have e6 : a.tmps[6]?.getD undef = .int .i64 (K : Nat) := (kp 6 (by kernel_rfl)).trans b6
      rw [vv9]
      refine does_value_g rfl (yl 3 22 true rfl p3 vv3) (by intro c h; cases h) (w' := W) ?_ (hS)
      · simp [execOp, go_sem, e6]
    | 10 =>
      simp only [List.getElem?_toArray, List.getElem?_cons_zero, List.getElem?_cons_succ, Option.some.injEq] at ho
      subst ho
      have p8 : b 8 = true := hd ⟨8, .data⟩ (by simp) rfl
      have p9 : b 9 = true := hd ⟨9, .data⟩ (by simp) rfl
      have p3 : b 3 = true := hd ⟨3, .guard⟩ (by simp) rfl
      have e27 := (ev 8 27 rfl p8).trans vv8
      have e28 := (ev 9 28 rfl p9).trans vv9
      rw [vv10]
      refine does_value_g rfl (yl 3 22 true rfl p3 vv3) (by intro c h; cases h) (w' := W) ?_ (hS)
      · simp [execOp, go_sem, e27, e28, hK]
    | 11 =>
      simp only [List.getElem?_toArray, List.getElem?_cons_zero, List.getElem?_cons_succ, Option.some.injEq] at ho
      subst ho
      have p10 : b 10 = true := hd ⟨10, .data⟩ (by simp) rfl
      have p3 : b 3 = true := hd ⟨3, .guard⟩ (by simp) rfl
      have e29 := (ev 10 29 rfl p10).trans vv10
      have d9_0 := (hS.cell (p := ⟨gl, K * 11, none⟩) (cell_lt hd0)).trans hd0
      have d9_1 := (hS.cell (p := ⟨gl, K * 11 + 1, none⟩) (cell_lt hd1)).trans hd1
      have d9_2 := (hS.cell (p := ⟨gl, K * 11 + 2, none⟩) (cell_lt hd2)).trans hd2
      have d9_3 := (hS.cell (p := ⟨gl, K * 11 + 3, none⟩) (cell_lt hd3)).trans hd3
      have d9_4 := (hS.cell (p := ⟨gl, K * 11 + 4, none⟩) (cell_lt hd4)).trans hd4
      have d9_5 := (hS.cell (p := ⟨gl, K * 11 + 5, none⟩) (cell_lt hd5)).trans hd5
      have d9_6 := (hS.cell (p := ⟨gl, K * 11 + 6, none⟩) (cell_lt hd6)).trans hd6
      have d9_7 := (hS.cell (p := ⟨gl, K * 11 + 7, none⟩) (cell_lt hd7)).trans hd7
      have d9_8 := (hS.cell (p := ⟨gl, K * 11 + 8, none⟩) (cell_lt hd8)).trans hd8
      have d9_9 := (hS.cell (p := ⟨gl, K * 11 + 9, none⟩) (cell_lt hd9)).trans hd9
      have d9_10 := (hS.cell (p := ⟨gl, K * 11 + 10, none⟩) (cell_lt hd10)).trans hd10
      rw [vv11]
      refine does_value_g rfl (yl 3 22 true rfl p3 vv3) (by intro c h; cases h) (w' := W) ?_ (hS)
      · simp [execOp, go_sem, e29, d9_0, d9_1, d9_2, d9_3, d9_4, d9_5, d9_6, d9_7, d9_8, d9_9, d9_10]
    | 12 =>
      simp only [List.getElem?_toArray, List.getElem?_cons_zero, List.getElem?_cons_succ, Option.some.injEq] at ho
      subst ho
      have p7 : b 7 = true := hd ⟨7, .data⟩ (by simp) rfl
      have p11 : b 11 = true := hd ⟨11, .data⟩ (by simp) rfl
      have p3 : b 3 = true := hd ⟨3, .guard⟩ (by simp) rfl
      have e26 := (ev 7 26 rfl p7).trans vv7
      have e30 := (ev 11 30 rfl p11).trans vv11
      rw [vv12]
      refine does_call_g rfl (yl 3 22 true rfl p3 vv3) (by intro c h; cases h) (f := 20) (args := #[.agg #[.int .i64 x.t, .int .i64 x.n, .int .i64 x.sq, .int .i64 x.kd, .int .i64 x.ot, .int .i64 x.on, .int .i64 x.pt, .int .i64 x.pn, .string x.nm, .slice x.dp x.dl x.dc, .slice x.sp x.sl x.sc], .agg #[.int .i64 y.t, .int .i64 y.n, .int .i64 y.sq, .int .i64 y.kd, .int .i64 y.ot, .int .i64 y.on, .int .i64 y.pt, .int .i64 y.pn, .string y.nm, .slice y.dp y.dl y.dc, .slice y.sp y.sl y.sc]]) ?_ ?_
      · simp [go_sem, e26, e30]
      · exact (cK W hS).mono (fun e w' h => ⟨h.1, hS.trans (h.2.mono hS.size)⟩)
    | 13 =>
      simp only [List.getElem?_toArray, List.getElem?_cons_zero, List.getElem?_cons_succ, Option.some.injEq] at ho
      subst ho
      have p3 : b 3 = true := hd ⟨3, .data⟩ (by simp) rfl
      have p12 : b 12 = true := hd ⟨12, .data⟩ (by simp) rfl
      have e22 := (ev 3 22 rfl p3).trans vv3
      have e31 := (ev 12 31 rfl p12).trans vv12
      rw [vv13]
      refine does_value rfl (by intro c h; cases h) (w' := W) ?_ (hS)
      · simp [execOp, go_sem, e22, e31]
    | k + 14 => simp at ho
  · intro b' W hS _
    subst hLe
    exact hQ W hS

set_option maxRecDepth 8000 in
set_option maxHeartbeats 4000000 in
theorem is6 {Q : Exit → Act → World → Prop} {base : Array Value} {dd : List Deferred} {ops : Array Oper} (hops : Try.f13.body.bind (regs 6) = some ops) (gv go m mm cv0 co0 I l1 c1 l2 c2 k1 d1 k2 d2 : Nat) (p1 p2 q1 q2 : Option Addr) (t n sq : Int) (z : ByteArray) (w9 : World) (hsz : base.size = 71)
    (b0 : base.getD 0 undef = .slice (some ⟨gv, 0, none⟩) m cv0)
    (b1 : base.getD 1 undef = .slice (some ⟨go, 0, none⟩) mm co0)
    (b5 : base.getD 5 undef = .int .i64 (I : Nat))
    (hI : I < m) (hJ : I < mm)
    (hv0 : w9.cell? ⟨gv, I * 5, none⟩ = some (.int .i64 t)) (hv1 : w9.cell? ⟨gv, I * 5 + 1, none⟩ = some (.int .i64 n)) (hv2 : w9.cell? ⟨gv, I * 5 + 2, none⟩ = some (.int .i64 sq)) (hv3 : w9.cell? ⟨gv, I * 5 + 3, none⟩ = some (.slice p1 l1 c1)) (hv4 : w9.cell? ⟨gv, I * 5 + 4, none⟩ = some (.slice p2 l2 c2))
    (ho0 : w9.cell? ⟨go, I * 11, none⟩ = some (.int .i64 t)) (ho1 : w9.cell? ⟨go, I * 11 + 1, none⟩ = some (.int .i64 n)) (ho2 : w9.cell? ⟨go, I * 11 + 2, none⟩ = some (.int .i64 sq)) (ho10 : w9.cell? ⟨go, I * 11 + 10, none⟩ = some (.slice q1 k1 d1)) (ho9 : w9.cell? ⟨go, I * 11 + 9, none⟩ = some (.slice q2 k2 d2))
    (cS : ∀ W, Below w9.heap.size w9 W → Calls Try.prog 21 #[idv t n, idv t n] W fun e w' => e = .returned (.bool true) ∧ Below W.heap.size W w')
    (cE : ∀ W, Below w9.heap.size w9 W → Calls Try.prog 32 #[.slice p1 l1 c1, .slice q1 k1 d1] W fun e w' => e = .returned (.bool true) ∧ Below W.heap.size W w')
    (cv : ∀ W, Below w9.heap.size w9 W → (convert 31 9 (.slice p2 l2 c2)).run Try.prog W = .ok (.string z) W)
    (co : ∀ W, Below w9.heap.size w9 W → (convert 31 9 (.slice q2 k2 d2)).run Try.prog W = .ok (.string z) W)
    (hQ : ∀ W, Below w9.heap.size w9 W → Q .normal ⟨putAll base [(some 17, .slice (some ⟨gv, 0, none⟩) m cv0), (some 18, .int .i64 (I : Nat)), (some 19, .pointer (some ⟨gv, I * 5, none⟩)), (some 20, .pointer (some ⟨gv, I * 5, none⟩)), (some 21, .agg #[.int .i64 t, .int .i64 n]), (some 22, .slice (some ⟨go, 0, none⟩) mm co0), (some 23, .int .i64 (I : Nat)), (some 24, .pointer (some ⟨go, I * 11, none⟩)), (some 25, .pointer (some ⟨go, I * 11, none⟩)), (some 26, .agg #[.int .i64 t, .int .i64 n]), (some 27, .bool true), (some 28, .bool false), (some 29, .bool false), (some 30, .slice (some ⟨gv, 0, none⟩) m cv0), (some 31, .int .i64 (I : Nat)), (some 32, .pointer (some ⟨gv, I * 5, none⟩)), (some 33, .pointer (some ⟨gv, I * 5 + 2, none⟩)), (some 34, .int .i64 sq), (some 35, .slice (some ⟨go, 0, none⟩) mm co0), (some 36, .int .i64 (I : Nat)), (some 37, .pointer (some ⟨go, I * 11, none⟩)), (some 38, .pointer (some ⟨go, I * 11 + 2, none⟩)), (some 39, .int .i64 sq), (some 40, .bool false), (some 41, .bool false), (some 42, .bool false), (some 43, .slice (some ⟨gv, 0, none⟩) m cv0), (some 44, .int .i64 (I : Nat)), (some 45, .pointer (some ⟨gv, I * 5, none⟩)), (some 46, .pointer (some ⟨gv, I * 5 + 3, none⟩)), (some 47, .slice p1 l1 c1), (some 48, .slice (some ⟨go, 0, none⟩) mm co0), (some 49, .int .i64 (I : Nat)), (some 50, .pointer (some ⟨go, I * 11, none⟩)), (some 51, .pointer (some ⟨go, I * 11 + 10, none⟩)), (some 52, .slice q1 k1 d1), (some 53, .bool true), (some 54, .bool false), (some 55, .bool false), (some 56, .bool false), (some 57, .slice (some ⟨gv, 0, none⟩) m cv0), (some 58, .int .i64 (I : Nat)), (some 59, .pointer (some ⟨gv, I * 5, none⟩)), (some 60, .pointer (some ⟨gv, I * 5 + 4, none⟩)), (some 61, .slice p2 l2 c2), (some 62, .string z), (some 63, .slice (some ⟨go, 0, none⟩) mm co0), (some 64, .int .i64 (I : Nat)), (some 65, .pointer (some ⟨go, I * 11, none⟩)), (some 66, .pointer (some ⟨go, I * 11 + 9, none⟩)), (some 67, .slice q2 k2 d2), (some 68, .string z), (some 69, .bool false), (some 70, .bool false)], dd⟩ W) :
    (Code.region 6 ops true).wp Try.prog Q ⟨base, dd⟩ w9 := by
  have hmix : Try.prog.follows .mixedOrders = true := by kernel_rfl
  have h2 := (show Try.f13.body.bind (regs 6) = some _ from rfl).symm.trans hops
  obtain rfl := Option.some.inj h2
  clear h2 hops
  have below9 : Below w9.heap.size w9 w9.drew := (Below.refl _ _).drew
  obtain ⟨LL, hLe⟩ : ∃ LL : List (Option Tmp × Value), LL = [(some 17, .slice (some ⟨gv, 0, none⟩) m cv0), (some 18, .int .i64 (I : Nat)), (some 19, .pointer (some ⟨gv, I * 5, none⟩)), (some 20, .pointer (some ⟨gv, I * 5, none⟩)), (some 21, .agg #[.int .i64 t, .int .i64 n]), (some 22, .slice (some ⟨go, 0, none⟩) mm co0), (some 23, .int .i64 (I : Nat)), (some 24, .pointer (some ⟨go, I * 11, none⟩)), (some 25, .pointer (some ⟨go, I * 11, none⟩)), (some 26, .agg #[.int .i64 t, .int .i64 n]), (some 27, .bool true), (some 28, .bool false), (some 29, .bool false), (some 30, .slice (some ⟨gv, 0, none⟩) m cv0), (some 31, .int .i64 (I : Nat)), (some 32, .pointer (some ⟨gv, I * 5, none⟩)), (some 33, .pointer (some ⟨gv, I * 5 + 2, none⟩)), (some 34, .int .i64 sq), (some 35, .slice (some ⟨go, 0, none⟩) mm co0), (some 36, .int .i64 (I : Nat)), (some 37, .pointer (some ⟨go, I * 11, none⟩)), (some 38, .pointer (some ⟨go, I * 11 + 2, none⟩)), (some 39, .int .i64 sq), (some 40, .bool false), (some 41, .bool false), (some 42, .bool false), (some 43, .slice (some ⟨gv, 0, none⟩) m cv0), (some 44, .int .i64 (I : Nat)), (some 45, .pointer (some ⟨gv, I * 5, none⟩)), (some 46, .pointer (some ⟨gv, I * 5 + 3, none⟩)), (some 47, .slice p1 l1 c1), (some 48, .slice (some ⟨go, 0, none⟩) mm co0), (some 49, .int .i64 (I : Nat)), (some 50, .pointer (some ⟨go, I * 11, none⟩)), (some 51, .pointer (some ⟨go, I * 11 + 10, none⟩)), (some 52, .slice q1 k1 d1), (some 53, .bool true), (some 54, .bool false), (some 55, .bool false), (some 56, .bool false), (some 57, .slice (some ⟨gv, 0, none⟩) m cv0), (some 58, .int .i64 (I : Nat)), (some 59, .pointer (some ⟨gv, I * 5, none⟩)), (some 60, .pointer (some ⟨gv, I * 5 + 4, none⟩)), (some 61, .slice p2 l2 c2), (some 62, .string z), (some 63, .slice (some ⟨go, 0, none⟩) mm co0), (some 64, .int .i64 (I : Nat)), (some 65, .pointer (some ⟨go, I * 11, none⟩)), (some 66, .pointer (some ⟨go, I * 11 + 9, none⟩)), (some 67, .slice q2 k2 d2), (some 68, .string z), (some 69, .bool false), (some 70, .bool false)] := ⟨_, rfl⟩
  have vv0 : vals LL 0 = .slice (some ⟨gv, 0, none⟩) m cv0 := by rw [hLe]; rfl
  have vv1 : vals LL 1 = .int .i64 (I : Nat) := by rw [hLe]; rfl
  have vv2 : vals LL 2 = .pointer (some ⟨gv, I * 5, none⟩) := by rw [hLe]; rfl
  have vv3 : vals LL 3 = .pointer (some ⟨gv, I * 5, none⟩) := by rw [hLe]; rfl
  have vv4 : vals LL 4 = .agg #[.int .i64 t, .int .i64 n] := by rw [hLe]; rfl
  have vv5 : vals LL 5 = .slice (some ⟨go, 0, none⟩) mm co0 := by rw [hLe]; rfl
  have vv6 : vals LL 6 = .int .i64 (I : Nat) := by rw [hLe]; rfl
  have vv7 : vals LL 7 = .pointer (some ⟨go, I * 11, none⟩) := by rw [hLe]; rfl
  have vv8 : vals LL 8 = .pointer (some ⟨go, I * 11, none⟩) := by rw [hLe]; rfl
  have vv9 : vals LL 9 = .agg #[.int .i64 t, .int .i64 n] := by rw [hLe]; rfl
  have vv10 : vals LL 10 = .bool true := by rw [hLe]; rfl
  have vv11 : vals LL 11 = .bool false := by rw [hLe]; rfl
  have vv12 : vals LL 12 = .bool false := by rw [hLe]; rfl
  have vv13 : vals LL 13 = .slice (some ⟨gv, 0, none⟩) m cv0 := by rw [hLe]; rfl
  have vv14 : vals LL 14 = .int .i64 (I : Nat) := by rw [hLe]; rfl
  have vv15 : vals LL 15 = .pointer (some ⟨gv, I * 5, none⟩) := by rw [hLe]; rfl
  have vv16 : vals LL 16 = .pointer (some ⟨gv, I * 5 + 2, none⟩) := by rw [hLe]; rfl
  have vv17 : vals LL 17 = .int .i64 sq := by rw [hLe]; rfl
  have vv18 : vals LL 18 = .slice (some ⟨go, 0, none⟩) mm co0 := by rw [hLe]; rfl
  have vv19 : vals LL 19 = .int .i64 (I : Nat) := by rw [hLe]; rfl
  have vv20 : vals LL 20 = .pointer (some ⟨go, I * 11, none⟩) := by rw [hLe]; rfl
  have vv21 : vals LL 21 = .pointer (some ⟨go, I * 11 + 2, none⟩) := by rw [hLe]; rfl
  have vv22 : vals LL 22 = .int .i64 sq := by rw [hLe]; rfl
  have vv23 : vals LL 23 = .bool false := by rw [hLe]; rfl
  have vv24 : vals LL 24 = .bool false := by rw [hLe]; rfl
  have vv25 : vals LL 25 = .bool false := by rw [hLe]; rfl
  have vv26 : vals LL 26 = .slice (some ⟨gv, 0, none⟩) m cv0 := by rw [hLe]; rfl
  have vv27 : vals LL 27 = .int .i64 (I : Nat) := by rw [hLe]; rfl
  have vv28 : vals LL 28 = .pointer (some ⟨gv, I * 5, none⟩) := by rw [hLe]; rfl
  have vv29 : vals LL 29 = .pointer (some ⟨gv, I * 5 + 3, none⟩) := by rw [hLe]; rfl
  have vv30 : vals LL 30 = .slice p1 l1 c1 := by rw [hLe]; rfl
  have vv31 : vals LL 31 = .slice (some ⟨go, 0, none⟩) mm co0 := by rw [hLe]; rfl
  have vv32 : vals LL 32 = .int .i64 (I : Nat) := by rw [hLe]; rfl
  have vv33 : vals LL 33 = .pointer (some ⟨go, I * 11, none⟩) := by rw [hLe]; rfl
  have vv34 : vals LL 34 = .pointer (some ⟨go, I * 11 + 10, none⟩) := by rw [hLe]; rfl
  have vv35 : vals LL 35 = .slice q1 k1 d1 := by rw [hLe]; rfl
  have vv36 : vals LL 36 = .bool true := by rw [hLe]; rfl
  have vv37 : vals LL 37 = .bool false := by rw [hLe]; rfl
  have vv38 : vals LL 38 = .bool false := by rw [hLe]; rfl
  have vv39 : vals LL 39 = .bool false := by rw [hLe]; rfl
  have vv40 : vals LL 40 = .slice (some ⟨gv, 0, none⟩) m cv0 := by rw [hLe]; rfl
  have vv41 : vals LL 41 = .int .i64 (I : Nat) := by rw [hLe]; rfl
  have vv42 : vals LL 42 = .pointer (some ⟨gv, I * 5, none⟩) := by rw [hLe]; rfl
  have vv43 : vals LL 43 = .pointer (some ⟨gv, I * 5 + 4, none⟩) := by rw [hLe]; rfl
  have vv44 : vals LL 44 = .slice p2 l2 c2 := by rw [hLe]; rfl
  have vv45 : vals LL 45 = .string z := by rw [hLe]; rfl
  have vv46 : vals LL 46 = .slice (some ⟨go, 0, none⟩) mm co0 := by rw [hLe]; rfl
  have vv47 : vals LL 47 = .int .i64 (I : Nat) := by rw [hLe]; rfl
  have vv48 : vals LL 48 = .pointer (some ⟨go, I * 11, none⟩) := by rw [hLe]; rfl
  have vv49 : vals LL 49 = .pointer (some ⟨go, I * 11 + 9, none⟩) := by rw [hLe]; rfl
  have vv50 : vals LL 50 = .slice q2 k2 d2 := by rw [hLe]; rfl
  have vv51 : vals LL 51 = .string z := by rw [hLe]; rfl
  have vv52 : vals LL 52 = .bool false := by rw [hLe]; rfl
  have vv53 : vals LL 53 = .bool false := by rw [hLe]; rfl
  refine region_laid hmix (by kernel_rfl) 71 hsz (by kernel_rfl) LL (by rw [hLe]; rfl) (fun _ W => Below w9.heap.size w9 W) below9 ?_ ?_
  · intro b W i o a hS hcl ho hb hd ev kp yl
    match i with
    | 0 =>
      simp only [List.getElem?_toArray, List.getElem?_cons_zero, Option.some.injEq] at ho
      subst ho
      have e0 : a.tmps[0]?.getD undef = .slice (some ⟨gv, 0, none⟩) m cv0 := (kp 0 (by kernel_rfl)).trans b0
      rw [vv0]
      refine does_value rfl (by intro c h; cases h) (w' := W) ?_ (hS)
      · simp [execOp, go_sem, e0]
    | 1 =>
      simp only [List.getElem?_toArray, List.getElem?_cons_zero, List.getElem?_cons_succ, Option.some.injEq] at ho
      subst ho
      have e5 : a.tmps[5]?.getD undef = .int .i64 (I : Nat) := (kp 5 (by kernel_rfl)).trans b5
      rw [vv1]
      refine does_value rfl (by intro c h; cases h) (w' := W) ?_ (hS)
      · simp [execOp, go_sem, e5]
    | 2 =>
      simp only [List.getElem?_toArray, List.getElem?_cons_zero, List.getElem?_cons_succ, Option.some.injEq] at ho
      subst ho
      have p0 : b 0 = true := hd ⟨0, .data⟩ (by simp) rfl
      have p1 : b 1 = true := hd ⟨1, .data⟩ (by simp) rfl
      have e17 := (ev 0 17 rfl p0).trans vv0
      have e18 := (ev 1 18 rfl p1).trans vv1
      rw [vv2]
      refine does_value rfl (by intro c h; cases h) (w' := W) ?_ (hS)
      · simp [execOp, go_sem, e17, e18, hI]
    | 3 =>
      simp only [List.getElem?_toArray, List.getElem?_cons_zero, List.getElem?_cons_succ, Option.some.injEq] at ho
      subst ho
      have p2 : b 2 = true := hd ⟨2, .data⟩ (by simp) rfl
      have e19 := (ev 2 19 rfl p2).trans vv2
      rw [vv3]
      refine does_value rfl (by intro c h; cases h) (w' := W) ?_ (hS)
      · simp [execOp, go_sem, e19]
    | 4 =>
      simp only [List.getElem?_toArray, List.getElem?_cons_zero, List.getElem?_cons_succ, Option.some.injEq] at ho
      subst ho
      have p3 : b 3 = true := hd ⟨3, .data⟩ (by simp) rfl
      have e20 := (ev 3 20 rfl p3).trans vv3
      have d9_0 := (hS.cell (p := ⟨gv, I * 5, none⟩) (cell_lt hv0)).trans hv0
      have d9_1 := (hS.cell (p := ⟨gv, I * 5 + 1, none⟩) (cell_lt hv1)).trans hv1
      rw [vv4]
      refine does_value rfl (by intro c h; cases h) (w' := W) ?_ (hS)
      · simp [execOp, go_sem, e20, d9_0, d9_1]
    | 5 =>
      simp only [List.getElem?_toArray, List.getElem?_cons_zero, List.getElem?_cons_succ, Option.some.injEq] at ho
      subst ho
      have e1 : a.tmps[1]?.getD undef = .slice (some ⟨go, 0, none⟩) mm co0 := (kp 1 (by kernel_rfl)).trans b1
      rw [vv5]
      refine does_value rfl (by intro c h; cases h) (w' := W) ?_ (hS)
      · simp [execOp, go_sem, e1]
    | 6 =>
      simp only [List.getElem?_toArray, List.getElem?_cons_zero, List.getElem?_cons_succ, Option.some.injEq] at ho
      subst ho
      have e5 : a.tmps[5]?.getD undef = .int .i64 (I : Nat) := (kp 5 (by kernel_rfl)).trans b5
      rw [vv6]
      refine does_value rfl (by intro c h; cases h) (w' := W) ?_ (hS)
      · simp [execOp, go_sem, e5]
    | 7 =>
      simp only [List.getElem?_toArray, List.getElem?_cons_zero, List.getElem?_cons_succ, Option.some.injEq] at ho
      subst ho
      have p5 : b 5 = true := hd ⟨5, .data⟩ (by simp) rfl
      have p6 : b 6 = true := hd ⟨6, .data⟩ (by simp) rfl
      have e22 := (ev 5 22 rfl p5).trans vv5
      have e23 := (ev 6 23 rfl p6).trans vv6
      rw [vv7]
      refine does_value rfl (by intro c h; cases h) (w' := W) ?_ (hS)
      · simp [execOp, go_sem, e22, e23, hJ]
    | 8 =>
      simp only [List.getElem?_toArray, List.getElem?_cons_zero, List.getElem?_cons_succ, Option.some.injEq] at ho
      subst ho
      have p7 : b 7 = true := hd ⟨7, .data⟩ (by simp) rfl
      have e24 := (ev 7 24 rfl p7).trans vv7
      rw [vv8]
      refine does_value rfl (by intro c h; cases h) (w' := W) ?_ (hS)
      · simp [execOp, go_sem, e24]
    | 9 =>
      simp only [List.getElem?_toArray, List.getElem?_cons_zero, List.getElem?_cons_succ, Option.some.injEq] at ho
      subst ho
      have p8 : b 8 = true := hd ⟨8, .data⟩ (by simp) rfl
      have e25 := (ev 8 25 rfl p8).trans vv8
      have d9_0 := (hS.cell (p := ⟨go, I * 11, none⟩) (cell_lt ho0)).trans ho0
      have d9_1 := (hS.cell (p := ⟨go, I * 11 + 1, none⟩) (cell_lt ho1)).trans ho1
      rw [vv9]
      refine does_value rfl (by intro c h; cases h) (w' := W) ?_ (hS)
      · simp [execOp, go_sem, e25, d9_0, d9_1]
    | 10 =>
      simp only [List.getElem?_toArray, List.getElem?_cons_zero, List.getElem?_cons_succ, Option.some.injEq] at ho
      subst ho
      have p4 : b 4 = true := hd ⟨4, .data⟩ (by simp) rfl
      have p9 : b 9 = true := hd ⟨9, .data⟩ (by simp) rfl
      have e21 := (ev 4 21 rfl p4).trans vv4
      have e26 := (ev 9 26 rfl p9).trans vv9
      rw [vv10]
      refine does_call rfl (by intro c h; cases h) (f := 21) (args := #[.agg #[.int .i64 t, .int .i64 n], .agg #[.int .i64 t, .int .i64 n]]) ?_ ?_
      · simp [go_sem, e21, e26]
      · exact (cS W hS).mono (fun e w' h => ⟨h.1, hS.trans (h.2.mono hS.size)⟩)
    | 11 =>
      simp only [List.getElem?_toArray, List.getElem?_cons_zero, List.getElem?_cons_succ, Option.some.injEq] at ho
      subst ho
      have p10 : b 10 = true := hd ⟨10, .data⟩ (by simp) rfl
      have e27 := (ev 10 27 rfl p10).trans vv10
      rw [vv11]
      refine does_value rfl (by intro c h; cases h) (w' := W) ?_ (hS)
      · simp [execOp, go_sem, e27]
    | 12 =>
      simp only [List.getElem?_toArray, List.getElem?_cons_zero, List.getElem?_cons_succ, Option.some.injEq] at ho
      subst ho
      have p11 : b 11 = true := hd ⟨11, .data⟩ (by simp) rfl
      have e28 := (ev 11 28 rfl p11).trans vv11
      rw [vv12]
      refine does_value rfl (by intro c h; cases h) (w' := W) ?_ (hS)
      · simp [execOp, go_sem, e28]
    | 13 =>
      simp only [List.getElem?_toArray, List.getElem?_cons_zero, List.getElem?_cons_succ, Option.some.injEq] at ho
      subst ho
      have p12 : b 12 = true := hd ⟨12, .guard⟩ (by simp) rfl
      have e0 : a.tmps[0]?.getD undef = .slice (some ⟨gv, 0, none⟩) m cv0 := (kp 0 (by kernel_rfl)).trans b0
      rw [vv13]
      refine does_value_g rfl (yl 12 29 false rfl p12 vv12) (by intro c h; cases h) (w' := W) ?_ (hS)
      · simp [execOp, go_sem, e0]
    | 14 =>
      simp only [List.getElem?_toArray, List.getElem?_cons_zero, List.getElem?_cons_succ, Option.some.injEq] at ho
      subst ho
      have p12 : b 12 = true := hd ⟨12, .guard⟩ (by simp) rfl
      have e5 : a.tmps[5]?.getD undef = .int .i64 (I : Nat) := (kp 5 (by kernel_rfl)).trans b5
      rw [vv14]
      refine does_value_g rfl (yl 12 29 false rfl p12 vv12) (by intro c h; cases h) (w' := W) ?_ (hS)
      · simp [execOp, go_sem, e5]
    | 15 =>
      simp only [List.getElem?_toArray, List.getElem?_cons_zero, List.getElem?_cons_succ, Option.some.injEq] at ho
      subst ho
      have p13 : b 13 = true := hd ⟨13, .data⟩ (by simp) rfl
      have p14 : b 14 = true := hd ⟨14, .data⟩ (by simp) rfl
      have p12 : b 12 = true := hd ⟨12, .guard⟩ (by simp) rfl
      have e30 := (ev 13 30 rfl p13).trans vv13
      have e31 := (ev 14 31 rfl p14).trans vv14
      rw [vv15]
      refine does_value_g rfl (yl 12 29 false rfl p12 vv12) (by intro c h; cases h) (w' := W) ?_ (hS)
      · simp [execOp, go_sem, e30, e31, hI]
    | 16 =>
      simp only [List.getElem?_toArray, List.getElem?_cons_zero, List.getElem?_cons_succ, Option.some.injEq] at ho
      subst ho
      have p15 : b 15 = true := hd ⟨15, .data⟩ (by simp) rfl
      have p12 : b 12 = true := hd ⟨12, .guard⟩ (by simp) rfl
      have e32 := (ev 15 32 rfl p15).trans vv15
      rw [vv16]
      refine does_value_g rfl (yl 12 29 false rfl p12 vv12) (by intro c h; cases h) (w' := W) ?_ (hS)
      · simp [execOp, go_sem, e32]
    | 17 =>
      simp only [List.getElem?_toArray, List.getElem?_cons_zero, List.getElem?_cons_succ, Option.some.injEq] at ho
      subst ho
      have p16 : b 16 = true := hd ⟨16, .data⟩ (by simp) rfl
      have p12 : b 12 = true := hd ⟨12, .guard⟩ (by simp) rfl
      have e33 := (ev 16 33 rfl p16).trans vv16
      have d9_0 := (hS.cell (p := ⟨gv, I * 5 + 2, none⟩) (cell_lt hv2)).trans hv2
      rw [vv17]
      refine does_value_g rfl (yl 12 29 false rfl p12 vv12) (by intro c h; cases h) (w' := W) ?_ (hS)
      · simp [execOp, go_sem, e33, d9_0]
    | 18 =>
      simp only [List.getElem?_toArray, List.getElem?_cons_zero, List.getElem?_cons_succ, Option.some.injEq] at ho
      subst ho
      have p12 : b 12 = true := hd ⟨12, .guard⟩ (by simp) rfl
      have e1 : a.tmps[1]?.getD undef = .slice (some ⟨go, 0, none⟩) mm co0 := (kp 1 (by kernel_rfl)).trans b1
      rw [vv18]
      refine does_value_g rfl (yl 12 29 false rfl p12 vv12) (by intro c h; cases h) (w' := W) ?_ (hS)
      · simp [execOp, go_sem, e1]
    | 19 =>
      simp only [List.getElem?_toArray, List.getElem?_cons_zero, List.getElem?_cons_succ, Option.some.injEq] at ho
      subst ho
      have p12 : b 12 = true := hd ⟨12, .guard⟩ (by simp) rfl
      have e5 : a.tmps[5]?.getD undef = .int .i64 (I : Nat) := (kp 5 (by kernel_rfl)).trans b5
      rw [vv19]
      refine does_value_g rfl (yl 12 29 false rfl p12 vv12) (by intro c h; cases h) (w' := W) ?_ (hS)
      · simp [execOp, go_sem, e5]
    | 20 =>
      simp only [List.getElem?_toArray, List.getElem?_cons_zero, List.getElem?_cons_succ, Option.some.injEq] at ho
      subst ho
      have p18 : b 18 = true := hd ⟨18, .data⟩ (by simp) rfl
      have p19 : b 19 = true := hd ⟨19, .data⟩ (by simp) rfl
      have p12 : b 12 = true := hd ⟨12, .guard⟩ (by simp) rfl
      have e35 := (ev 18 35 rfl p18).trans vv18
      have e36 := (ev 19 36 rfl p19).trans vv19
      rw [vv20]
      refine does_value_g rfl (yl 12 29 false rfl p12 vv12) (by intro c h; cases h) (w' := W) ?_ (hS)
      · simp [execOp, go_sem, e35, e36, hJ]
    | 21 =>
      simp only [List.getElem?_toArray, List.getElem?_cons_zero, List.getElem?_cons_succ, Option.some.injEq] at ho
      subst ho
      have p20 : b 20 = true := hd ⟨20, .data⟩ (by simp) rfl
      have p12 : b 12 = true := hd ⟨12, .guard⟩ (by simp) rfl
      have e37 := (ev 20 37 rfl p20).trans vv20
      rw [vv21]
      refine does_value_g rfl (yl 12 29 false rfl p12 vv12) (by intro c h; cases h) (w' := W) ?_ (hS)
      · simp [execOp, go_sem, e37]
    | 22 =>
      simp only [List.getElem?_toArray, List.getElem?_cons_zero, List.getElem?_cons_succ, Option.some.injEq] at ho
      subst ho
      have p21 : b 21 = true := hd ⟨21, .data⟩ (by simp) rfl
      have p12 : b 12 = true := hd ⟨12, .guard⟩ (by simp) rfl
      have e38 := (ev 21 38 rfl p21).trans vv21
      have d9_0 := (hS.cell (p := ⟨go, I * 11 + 2, none⟩) (cell_lt ho2)).trans ho2
      rw [vv22]
      refine does_value_g rfl (yl 12 29 false rfl p12 vv12) (by intro c h; cases h) (w' := W) ?_ (hS)
      · simp [execOp, go_sem, e38, d9_0]
    | 23 =>
      simp only [List.getElem?_toArray, List.getElem?_cons_zero, List.getElem?_cons_succ, Option.some.injEq] at ho
      subst ho
      have p17 : b 17 = true := hd ⟨17, .data⟩ (by simp) rfl
      have p22 : b 22 = true := hd ⟨22, .data⟩ (by simp) rfl
      have p12 : b 12 = true := hd ⟨12, .guard⟩ (by simp) rfl
      have e34 := (ev 17 34 rfl p17).trans vv17
      have e39 := (ev 22 39 rfl p22).trans vv22
      rw [vv23]
      refine does_value_g rfl (yl 12 29 false rfl p12 vv12) (by intro c h; cases h) (w' := W) ?_ (hS)
      · simp [execOp, go_sem, e34, e39]
    | 24 =>
      simp only [List.getElem?_toArray, List.getElem?_cons_zero, List.getElem?_cons_succ, Option.some.injEq] at ho
      subst ho
      have p12 : b 12 = true := hd ⟨12, .data⟩ (by simp) rfl
      have p23 : b 23 = true := hd ⟨23, .data⟩ (by simp) rfl
      have e29 := (ev 12 29 rfl p12).trans vv12
      have e40 := (ev 23 40 rfl p23).trans vv23
      rw [vv24]
      refine does_value rfl (by intro c h; cases h) (w' := W) ?_ (hS)
      · simp [execOp, go_sem, e29, e40]
    | 25 =>
      simp only [List.getElem?_toArray, List.getElem?_cons_zero, List.getElem?_cons_succ, Option.some.injEq] at ho
      subst ho
      have p24 : b 24 = true := hd ⟨24, .data⟩ (by simp) rfl
      have e41 := (ev 24 41 rfl p24).trans vv24
      rw [vv25]
      refine does_value rfl (by intro c h; cases h) (w' := W) ?_ (hS)
      · simp [execOp, go_sem, e41]
    | 26 =>
      simp only [List.getElem?_toArray, List.getElem?_cons_zero, List.getElem?_cons_succ, Option.some.injEq] at ho
      subst ho
      have p25 : b 25 = true := hd ⟨25, .guard⟩ (by simp) rfl
      have e0 : a.tmps[0]?.getD undef = .slice (some ⟨gv, 0, none⟩) m cv0 := (kp 0 (by kernel_rfl)).trans b0
      rw [vv26]
      refine does_value_g rfl (yl 25 42 false rfl p25 vv25) (by intro c h; cases h) (w' := W) ?_ (hS)
      · simp [execOp, go_sem, e0]
    | 27 =>
      simp only [List.getElem?_toArray, List.getElem?_cons_zero, List.getElem?_cons_succ, Option.some.injEq] at ho
      subst ho
      have p25 : b 25 = true := hd ⟨25, .guard⟩ (by simp) rfl
      have e5 : a.tmps[5]?.getD undef = .int .i64 (I : Nat) := (kp 5 (by kernel_rfl)).trans b5
      rw [vv27]
      refine does_value_g rfl (yl 25 42 false rfl p25 vv25) (by intro c h; cases h) (w' := W) ?_ (hS)
      · simp [execOp, go_sem, e5]
    | 28 =>
      simp only [List.getElem?_toArray, List.getElem?_cons_zero, List.getElem?_cons_succ, Option.some.injEq] at ho
      subst ho
      have p26 : b 26 = true := hd ⟨26, .data⟩ (by simp) rfl
      have p27 : b 27 = true := hd ⟨27, .data⟩ (by simp) rfl
      have p25 : b 25 = true := hd ⟨25, .guard⟩ (by simp) rfl
      have e43 := (ev 26 43 rfl p26).trans vv26
      have e44 := (ev 27 44 rfl p27).trans vv27
      rw [vv28]
      refine does_value_g rfl (yl 25 42 false rfl p25 vv25) (by intro c h; cases h) (w' := W) ?_ (hS)
      · simp [execOp, go_sem, e43, e44, hI]
    | 29 =>
      simp only [List.getElem?_toArray, List.getElem?_cons_zero, List.getElem?_cons_succ, Option.some.injEq] at ho
      subst ho
      have p28 : b 28 = true := hd ⟨28, .data⟩ (by simp) rfl
      have p25 : b 25 = true := hd ⟨25, .guard⟩ (by simp) rfl
      have e45 := (ev 28 45 rfl p28).trans vv28
      rw [vv29]
      refine does_value_g rfl (yl 25 42 false rfl p25 vv25) (by intro c h; cases h) (w' := W) ?_ (hS)
      · simp [execOp, go_sem, e45]
    | 30 =>
      simp only [List.getElem?_toArray, List.getElem?_cons_zero, List.getElem?_cons_succ, Option.some.injEq] at ho
      subst ho
      have p29 : b 29 = true := hd ⟨29, .data⟩ (by simp) rfl
      have p25 : b 25 = true := hd ⟨25, .guard⟩ (by simp) rfl
      have e46 := (ev 29 46 rfl p29).trans vv29
      have d9_0 := (hS.cell (p := ⟨gv, I * 5 + 3, none⟩) (cell_lt hv3)).trans hv3
      rw [vv30]
      refine does_value_g rfl (yl 25 42 false rfl p25 vv25) (by intro c h; cases h) (w' := W) ?_ (hS)
      · simp [execOp, go_sem, e46, d9_0]
    | 31 =>
      simp only [List.getElem?_toArray, List.getElem?_cons_zero, List.getElem?_cons_succ, Option.some.injEq] at ho
      subst ho
      have p25 : b 25 = true := hd ⟨25, .guard⟩ (by simp) rfl
      have e1 : a.tmps[1]?.getD undef = .slice (some ⟨go, 0, none⟩) mm co0 := (kp 1 (by kernel_rfl)).trans b1
      rw [vv31]
      refine does_value_g rfl (yl 25 42 false rfl p25 vv25) (by intro c h; cases h) (w' := W) ?_ (hS)
      · simp [execOp, go_sem, e1]
    | 32 =>
      simp only [List.getElem?_toArray, List.getElem?_cons_zero, List.getElem?_cons_succ, Option.some.injEq] at ho
      subst ho
      have p25 : b 25 = true := hd ⟨25, .guard⟩ (by simp) rfl
      have e5 : a.tmps[5]?.getD undef = .int .i64 (I : Nat) := (kp 5 (by kernel_rfl)).trans b5
      rw [vv32]
      refine does_value_g rfl (yl 25 42 false rfl p25 vv25) (by intro c h; cases h) (w' := W) ?_ (hS)
      · simp [execOp, go_sem, e5]
    | 33 =>
      simp only [List.getElem?_toArray, List.getElem?_cons_zero, List.getElem?_cons_succ, Option.some.injEq] at ho
      subst ho
      have p31 : b 31 = true := hd ⟨31, .data⟩ (by simp) rfl
      have p32 : b 32 = true := hd ⟨32, .data⟩ (by simp) rfl
      have p25 : b 25 = true := hd ⟨25, .guard⟩ (by simp) rfl
      have e48 := (ev 31 48 rfl p31).trans vv31
      have e49 := (ev 32 49 rfl p32).trans vv32
      rw [vv33]
      refine does_value_g rfl (yl 25 42 false rfl p25 vv25) (by intro c h; cases h) (w' := W) ?_ (hS)
      · simp [execOp, go_sem, e48, e49, hJ]
    | 34 =>
      simp only [List.getElem?_toArray, List.getElem?_cons_zero, List.getElem?_cons_succ, Option.some.injEq] at ho
      subst ho
      have p33 : b 33 = true := hd ⟨33, .data⟩ (by simp) rfl
      have p25 : b 25 = true := hd ⟨25, .guard⟩ (by simp) rfl
      have e50 := (ev 33 50 rfl p33).trans vv33
      rw [vv34]
      refine does_value_g rfl (yl 25 42 false rfl p25 vv25) (by intro c h; cases h) (w' := W) ?_ (hS)
      · simp [execOp, go_sem, e50]
    | 35 =>
      simp only [List.getElem?_toArray, List.getElem?_cons_zero, List.getElem?_cons_succ, Option.some.injEq] at ho
      subst ho
      have p34 : b 34 = true := hd ⟨34, .data⟩ (by simp) rfl
      have p25 : b 25 = true := hd ⟨25, .guard⟩ (by simp) rfl
      have e51 := (ev 34 51 rfl p34).trans vv34
      have d9_0 := (hS.cell (p := ⟨go, I * 11 + 10, none⟩) (cell_lt ho10)).trans ho10
      rw [vv35]
      refine does_value_g rfl (yl 25 42 false rfl p25 vv25) (by intro c h; cases h) (w' := W) ?_ (hS)
      · simp [execOp, go_sem, e51, d9_0]
    | 36 =>
      simp only [List.getElem?_toArray, List.getElem?_cons_zero, List.getElem?_cons_succ, Option.some.injEq] at ho
      subst ho
      have p30 : b 30 = true := hd ⟨30, .data⟩ (by simp) rfl
      have p35 : b 35 = true := hd ⟨35, .data⟩ (by simp) rfl
      have p25 : b 25 = true := hd ⟨25, .guard⟩ (by simp) rfl
      have e47 := (ev 30 47 rfl p30).trans vv30
      have e52 := (ev 35 52 rfl p35).trans vv35
      rw [vv36]
      refine does_call_g rfl (yl 25 42 false rfl p25 vv25) (by intro c h; cases h) (f := 32) (args := #[.slice p1 l1 c1, .slice q1 k1 d1]) ?_ ?_
      · simp [go_sem, e47, e52]
      · exact (cE W hS).mono (fun e w' h => ⟨h.1, hS.trans (h.2.mono hS.size)⟩)
    | 37 =>
      simp only [List.getElem?_toArray, List.getElem?_cons_zero, List.getElem?_cons_succ, Option.some.injEq] at ho
      subst ho
      have p36 : b 36 = true := hd ⟨36, .data⟩ (by simp) rfl
      have p25 : b 25 = true := hd ⟨25, .guard⟩ (by simp) rfl
      have e53 := (ev 36 53 rfl p36).trans vv36
      rw [vv37]
      refine does_value_g rfl (yl 25 42 false rfl p25 vv25) (by intro c h; cases h) (w' := W) ?_ (hS)
      · simp [execOp, go_sem, e53]
    | 38 =>
      simp only [List.getElem?_toArray, List.getElem?_cons_zero, List.getElem?_cons_succ, Option.some.injEq] at ho
      subst ho
      have p25 : b 25 = true := hd ⟨25, .data⟩ (by simp) rfl
      have p37 : b 37 = true := hd ⟨37, .data⟩ (by simp) rfl
      have e42 := (ev 25 42 rfl p25).trans vv25
      have e54 := (ev 37 54 rfl p37).trans vv37
      rw [vv38]
      refine does_value rfl (by intro c h; cases h) (w' := W) ?_ (hS)
      · simp [execOp, go_sem, e42, e54]
    | 39 =>
      simp only [List.getElem?_toArray, List.getElem?_cons_zero, List.getElem?_cons_succ, Option.some.injEq] at ho
      subst ho
      have p38 : b 38 = true := hd ⟨38, .data⟩ (by simp) rfl
      have e55 := (ev 38 55 rfl p38).trans vv38
      rw [vv39]
      refine does_value rfl (by intro c h; cases h) (w' := W) ?_ (hS)
      · simp [execOp, go_sem, e55]
    | 40 =>
      simp only [List.getElem?_toArray, List.getElem?_cons_zero, List.getElem?_cons_succ, Option.some.injEq] at ho
      subst ho
      have p39 : b 39 = true := hd ⟨39, .guard⟩ (by simp) rfl
      have e0 : a.tmps[0]?.getD undef = .slice (some ⟨gv, 0, none⟩) m cv0 := (kp 0 (by kernel_rfl)).trans b0
      rw [vv40]
      refine does_value_g rfl (yl 39 56 false rfl p39 vv39) (by intro c h; cases h) (w' := W) ?_ (hS)
      · simp [execOp, go_sem, e0]
    | 41 =>
      simp only [List.getElem?_toArray, List.getElem?_cons_zero, List.getElem?_cons_succ, Option.some.injEq] at ho
      subst ho
      have p39 : b 39 = true := hd ⟨39, .guard⟩ (by simp) rfl
      have e5 : a.tmps[5]?.getD undef = .int .i64 (I : Nat) := (kp 5 (by kernel_rfl)).trans b5
      rw [vv41]
      refine does_value_g rfl (yl 39 56 false rfl p39 vv39) (by intro c h; cases h) (w' := W) ?_ (hS)
      · simp [execOp, go_sem, e5]
    | 42 =>
      simp only [List.getElem?_toArray, List.getElem?_cons_zero, List.getElem?_cons_succ, Option.some.injEq] at ho
      subst ho
      have p40 : b 40 = true := hd ⟨40, .data⟩ (by simp) rfl
      have p41 : b 41 = true := hd ⟨41, .data⟩ (by simp) rfl
      have p39 : b 39 = true := hd ⟨39, .guard⟩ (by simp) rfl
      have e57 := (ev 40 57 rfl p40).trans vv40
      have e58 := (ev 41 58 rfl p41).trans vv41
      rw [vv42]
      refine does_value_g rfl (yl 39 56 false rfl p39 vv39) (by intro c h; cases h) (w' := W) ?_ (hS)
      · simp [execOp, go_sem, e57, e58, hI]
    | 43 =>
      simp only [List.getElem?_toArray, List.getElem?_cons_zero, List.getElem?_cons_succ, Option.some.injEq] at ho
      subst ho
      have p42 : b 42 = true := hd ⟨42, .data⟩ (by simp) rfl
      have p39 : b 39 = true := hd ⟨39, .guard⟩ (by simp) rfl
      have e59 := (ev 42 59 rfl p42).trans vv42
      rw [vv43]
      refine does_value_g rfl (yl 39 56 false rfl p39 vv39) (by intro c h; cases h) (w' := W) ?_ (hS)
      · simp [execOp, go_sem, e59]
    | 44 =>
      simp only [List.getElem?_toArray, List.getElem?_cons_zero, List.getElem?_cons_succ, Option.some.injEq] at ho
      subst ho
      have p43 : b 43 = true := hd ⟨43, .data⟩ (by simp) rfl
      have p39 : b 39 = true := hd ⟨39, .guard⟩ (by simp) rfl
      have e60 := (ev 43 60 rfl p43).trans vv43
      have d9_0 := (hS.cell (p := ⟨gv, I * 5 + 4, none⟩) (cell_lt hv4)).trans hv4
      rw [vv44]
      refine does_value_g rfl (yl 39 56 false rfl p39 vv39) (by intro c h; cases h) (w' := W) ?_ (hS)
      · simp [execOp, go_sem, e60, d9_0]
    | 45 =>
      simp only [List.getElem?_toArray, List.getElem?_cons_zero, List.getElem?_cons_succ, Option.some.injEq] at ho
      subst ho
      have p44 : b 44 = true := hd ⟨44, .data⟩ (by simp) rfl
      have p39 : b 39 = true := hd ⟨39, .guard⟩ (by simp) rfl
      have e61 := (ev 44 61 rfl p44).trans vv44
      rw [vv45]
      refine does_value_g rfl (yl 39 56 false rfl p39 vv39) (by intro c h; cases h) (w' := W) ?_ (hS)
      · simp [execOp, go_sem, e61, cv W hS]
    | 46 =>
      simp only [List.getElem?_toArray, List.getElem?_cons_zero, List.getElem?_cons_succ, Option.some.injEq] at ho
      subst ho
      have p39 : b 39 = true := hd ⟨39, .guard⟩ (by simp) rfl
      have e1 : a.tmps[1]?.getD undef = .slice (some ⟨go, 0, none⟩) mm co0 := (kp 1 (by kernel_rfl)).trans b1
      rw [vv46]
      refine does_value_g rfl (yl 39 56 false rfl p39 vv39) (by intro c h; cases h) (w' := W) ?_ (hS)
      · simp [execOp, go_sem, e1]
    | 47 =>
      simp only [List.getElem?_toArray, List.getElem?_cons_zero, List.getElem?_cons_succ, Option.some.injEq] at ho
      subst ho
      have p39 : b 39 = true := hd ⟨39, .guard⟩ (by simp) rfl
      have e5 : a.tmps[5]?.getD undef = .int .i64 (I : Nat) := (kp 5 (by kernel_rfl)).trans b5
      rw [vv47]
      refine does_value_g rfl (yl 39 56 false rfl p39 vv39) (by intro c h; cases h) (w' := W) ?_ (hS)
      · simp [execOp, go_sem, e5]
    | 48 =>
      simp only [List.getElem?_toArray, List.getElem?_cons_zero, List.getElem?_cons_succ, Option.some.injEq] at ho
      subst ho
      have p46 : b 46 = true := hd ⟨46, .data⟩ (by simp) rfl
      have p47 : b 47 = true := hd ⟨47, .data⟩ (by simp) rfl
      have p39 : b 39 = true := hd ⟨39, .guard⟩ (by simp) rfl
      have e63 := (ev 46 63 rfl p46).trans vv46
      have e64 := (ev 47 64 rfl p47).trans vv47
      rw [vv48]
      refine does_value_g rfl (yl 39 56 false rfl p39 vv39) (by intro c h; cases h) (w' := W) ?_ (hS)
      · simp [execOp, go_sem, e63, e64, hJ]
    | 49 =>
      simp only [List.getElem?_toArray, List.getElem?_cons_zero, List.getElem?_cons_succ, Option.some.injEq] at ho
      subst ho
      have p48 : b 48 = true := hd ⟨48, .data⟩ (by simp) rfl
      have p39 : b 39 = true := hd ⟨39, .guard⟩ (by simp) rfl
      have e65 := (ev 48 65 rfl p48).trans vv48
      rw [vv49]
      refine does_value_g rfl (yl 39 56 false rfl p39 vv39) (by intro c h; cases h) (w' := W) ?_ (hS)
      · simp [execOp, go_sem, e65]
    | 50 =>
      simp only [List.getElem?_toArray, List.getElem?_cons_zero, List.getElem?_cons_succ, Option.some.injEq] at ho
      subst ho
      have p49 : b 49 = true := hd ⟨49, .data⟩ (by simp) rfl
      have p39 : b 39 = true := hd ⟨39, .guard⟩ (by simp) rfl
      have e66 := (ev 49 66 rfl p49).trans vv49
      have d9_0 := (hS.cell (p := ⟨go, I * 11 + 9, none⟩) (cell_lt ho9)).trans ho9
      rw [vv50]
      refine does_value_g rfl (yl 39 56 false rfl p39 vv39) (by intro c h; cases h) (w' := W) ?_ (hS)
      · simp [execOp, go_sem, e66, d9_0]
    | 51 =>
      simp only [List.getElem?_toArray, List.getElem?_cons_zero, List.getElem?_cons_succ, Option.some.injEq] at ho
      subst ho
      have p50 : b 50 = true := hd ⟨50, .data⟩ (by simp) rfl
      have p39 : b 39 = true := hd ⟨39, .guard⟩ (by simp) rfl
      have e67 := (ev 50 67 rfl p50).trans vv50
      rw [vv51]
      refine does_value_g rfl (yl 39 56 false rfl p39 vv39) (by intro c h; cases h) (w' := W) ?_ (hS)
      · simp [execOp, go_sem, e67, co W hS]
    | 52 =>
      simp only [List.getElem?_toArray, List.getElem?_cons_zero, List.getElem?_cons_succ, Option.some.injEq] at ho
      subst ho
      have p45 : b 45 = true := hd ⟨45, .data⟩ (by simp) rfl
      have p51 : b 51 = true := hd ⟨51, .data⟩ (by simp) rfl
      have p39 : b 39 = true := hd ⟨39, .guard⟩ (by simp) rfl
      have e62 := (ev 45 62 rfl p45).trans vv45
      have e68 := (ev 51 68 rfl p51).trans vv51
      rw [vv52]
      refine does_value_g rfl (yl 39 56 false rfl p39 vv39) (by intro c h; cases h) (w' := W) ?_ (hS)
      · simp [execOp, go_sem, e62, e68]
    | 53 =>
      simp only [List.getElem?_toArray, List.getElem?_cons_zero, List.getElem?_cons_succ, Option.some.injEq] at ho
      subst ho
      have p39 : b 39 = true := hd ⟨39, .data⟩ (by simp) rfl
      have p52 : b 52 = true := hd ⟨52, .data⟩ (by simp) rfl
      have e56 := (ev 39 56 rfl p39).trans vv39
      have e69 := (ev 52 69 rfl p52).trans vv52
      rw [vv53]
      refine does_value rfl (by intro c h; cases h) (w' := W) ?_ (hS)
      · simp [execOp, go_sem, e56, e69]
    | k + 54 => simp at ho
  · intro b' W hS _
    subst hLe
    exact hQ W hS

end Go.Proofs.Yteimjkicinjcgaa.Ck.Y.L

/-
  The document's Heads.
-/
namespace Go.Proofs.Yteimjkicinjcgaa.Ck.Y.L
open Go.RowKit Go.Maps Go.Lib

/-- Of those of l up to k none has seen x. -/
def unseen (nsf : OG → List Int) (x : OG) (l : List OG) : Bool := l.all fun y => !seenB x.sq x.n (nsf y)
def headsG (nsf : OG → List Int) (l : List OG) : List OG := l.filter fun x => unseen nsf x l
theorem unseen_snoc (nsf : OG → List Int) (x y : OG) (l : List OG) : unseen nsf x (l ++ [y]) = (unseen nsf x l && !seenB x.sq x.n (nsf y)) := by simp [unseen]
theorem RowG.caps {w : World} {base : Nat} {v : Value} {l : List OG} (h : RowG w base v l) : ∃ p c, v = .slice p l.length c ∧ ∀ (i : Nat) (x : OG), l[i]? = some x → ∃ g, p = some ⟨g, 0, none⟩ ∧
    w.cell? ⟨g, i * 11, none⟩ = some (.int .i64 x.t) ∧ w.cell? ⟨g, i * 11 + 1, none⟩ = some (.int .i64 x.n) ∧ w.cell? ⟨g, i * 11 + 2, none⟩ = some (.int .i64 x.sq) ∧ w.cell? ⟨g, i * 11 + 3, none⟩ = some (.int .i64 x.kd) ∧ w.cell? ⟨g, i * 11 + 4, none⟩ = some (.int .i64 x.ot) ∧ w.cell? ⟨g, i * 11 + 5, none⟩ = some (.int .i64 x.on) ∧ w.cell? ⟨g, i * 11 + 6, none⟩ = some (.int .i64 x.pt) ∧ w.cell? ⟨g, i * 11 + 7, none⟩ = some (.int .i64 x.pn) ∧ w.cell? ⟨g, i * 11 + 8, none⟩ = some (.string x.nm) ∧ w.cell? ⟨g, i * 11 + 9, none⟩ = some (.slice x.dp x.dl x.dc) ∧ w.cell? ⟨g, i * 11 + 10, none⟩ = some (.slice x.sp x.sl x.sc) := by
  rcases h.2 with ⟨rfl, h0⟩ | ⟨g, cap, cur, rfl, hb, hg, hn, hm, hs, ht⟩
  · exact ⟨none, 0, by rw [h0], fun i x hx => by have := List.eq_nil_of_length_eq_zero h0; subst this; simp at hx⟩
  · exact ⟨_, cap, rfl, fun i x hx => ⟨g, rfl, RowG.cells h hx⟩⟩
/-- What the outer loop keeps. -/
def RhI (w wr : World) (nsf : OG → List Int) (l : List OG) (v : Value) (M : List OG) (i : Nat) : Prop := RowG wr w.heap.size v M ∧ M = (l.take i).filter (fun x => unseen nsf x l) ∧ Below w.heap.size w wr
theorem RhI.step {w wr w2 w3 : World} {nsf : OG → List Int} {l M : List OG} {v : Value} {i : Nat} (h : RhI w wr nsf l v M i) {x : OG} (hx : l[i]? = some x) (hu : unseen nsf x l = true) (b2 : Below wr.heap.size wr w2) {p : Option Addr} {c : Nat}
    (ha : RowG w3 w.heap.size (.slice p (M.length + 1) c) (M ++ [x]) ∧ (w2.alloc (.cells (opgC x) 35)).grownBy w3 v.ownBlock) : RhI w w3 nsf l (.slice p (M.length + 1) c) (M ++ [x]) (i + 1) := by
  obtain ⟨h1, h2, h4⟩ := h
  obtain ⟨a1, a2⟩ := ha
  have b3 : Below w2.heap.size w2 (w2.alloc (.cells (opgC x) 35)) := (below_new _ _).out
  have hO : Only (fun b => v.ownBlock = some b) (w2.alloc (.cells (opgC x) 35)) w3 := ⟨a2.os, a2.tape, a2.output, a2.size, fun k hk hn => a2.block k hk (fun e => hn e.symm)⟩
  have hr2 := (h1.below b2).below b3
  refine ⟨a1, ?_, ?_⟩
  · rw [List.take_add_one, hx, List.filter_append, ← h2]
    simp [hu]
  · have s2 := below_thenH h4 (below_thenH b2 b3)
    refine s2.trans (hO.below s2.size fun b hb => ?_)
    obtain ⟨_, _, hbase⟩ := hr2.tag hb
    exact hbase
theorem RhI.skip {w wr w2 : World} {nsf : OG → List Int} {l M : List OG} {v : Value} {i : Nat} (h : RhI w wr nsf l v M i) {x : OG} (hx : l[i]? = some x) (hu : unseen nsf x l = false) (b2 : Below wr.heap.size wr w2) : RhI w w2 nsf l v M (i + 1) := by
  obtain ⟨h1, h2, h4⟩ := h
  refine ⟨h1.below b2, ?_, below_thenH h4 b2⟩
  rw [List.take_add_one, hx, List.filter_append, ← h2]
  simp [hu]

set_option maxRecDepth 8000 in
set_option maxHeartbeats 8000000 in
theorem rheads_any (base : Nat) (v : Value) (l : List OG) (nsf : OG → List Int) (w : World) (hr : RowG w base v l) (hl : l.length ≤ 1000) (hw : ∀ o ∈ l, Cd.Lies w o.sp ((nsf o).map Cd.iv) ∧ (nsf o).length = o.sl) (hown : ∀ o ∈ l, seenB o.sq o.n (nsf o) = false) :
    Calls Try.prog 11 #[v] w fun e w' => ∃ v', e = .returned v' ∧ RowG w' w.heap.size v' (headsG nsf l) ∧ Below w.heap.size w w' := by
  obtain ⟨p, c, rfl, _⟩ := RowG.caps hr
  have HR : Hid (RowG w base (.slice p l.length c) l) := hr
  have HL : Hid (l.length ≤ 1000) := hl
  have HW : Hid ((∀ o ∈ l, Cd.Lies w o.sp ((nsf o).map Cd.iv) ∧ (nsf o).length = o.sl) ∧ ∀ o ∈ l, seenB o.sq o.n (nsf o) = false) := ⟨hw, hown⟩
  have HI0 : Hid (RhI w w nsf l (.slice none 0 0) [] 0) := ⟨RowG.nil _ _, by simp, Below.refl _ _⟩
  clear hr hw hown hl
  go_enter Try.func11, Try.ntmps11
  go_wp2
  go_loopw [3, 4] (fun ll ii wr => ∃ (i : Nat) (M : List OG) (p' : Option Addr) (c' : Nat), ll = .slice p' M.length c' ∧ ii = .int .i64 i ∧ i ≤ l.length ∧ Hid (RhI w wr nsf l (.slice p' M.length c') M i)) (fun _ ii _ => l.length - (RowKit.intOf ii).toNat)
  case atStart => exact ⟨0, [], none, 0, rfl, rfl, by omega, HI0⟩
  case round =>
    obtain ⟨i, M, p', c', rfl, rfl, hi, HI⟩ := hrel
    generalize wr = wo at *
    by_cases hlt : i < l.length
    · have hltI : (i : Int) < l.length := by omega
      have HLT : Hid (i < l.length) := hlt
      have hi9 : i ≤ 1000 := by have := HL.out; omega
      obtain ⟨x, hx⟩ : ∃ x, l[i]? = some x := ⟨_, List.getElem?_eq_getElem hlt⟩
      have HX : Hid (l[i]? = some x) := hx
      clear hx hlt
      go_wp2_with fail
      go_loopw [5, 6] (fun bb kk wr => ∃ (k : Nat) (b : Bool), bb = .bool b ∧ kk = .int .i64 k ∧ k ≤ l.length ∧ Hid (b = unseen nsf x (l.take k)) ∧ Hid (Below wo.heap.size wo wr)) (fun _ kk _ => l.length - (RowKit.intOf kk).toNat)
      case atStart => exact ⟨0, true, rfl, rfl, by omega, (show true = _ by simp [unseen]), Below.refl _ _⟩
      case round =>
        obtain ⟨k, b, rfl, rfl, hk, HU, HB⟩ := hrel
        have hbx := below_thenH HI.out.2.2 HB.out
        have HBX : Hid (Below w.heap.size w wr) := hbx
        clear hbx
        by_cases hkt : k < l.length
        · have hktI : (k : Int) < l.length := by omega
          have HKT : Hid (k < l.length) := hkt
          have hk9 : k ≤ 1000 := by have := HL.out; omega
          obtain ⟨y, hy⟩ : ∃ y, l[k]? = some y := ⟨_, List.getElem?_eq_getElem hkt⟩
          have HY : Hid (l[k]? = some y) := hy
          clear hy hkt
          by_cases hki : k = i
          · subst hki
            have HN : Hid (b = unseen nsf x (l.take (k + 1))) := by
              have e : y = x := by have := HX.out; rw [HY.out] at this; exact Option.some.inj this
              show _ = _
              rw [List.take_add_one, HX.out, Option.toList_some, unseen_snoc, ← HU.out, HW.out.2 x (List.mem_of_getElem? HX.out)]
              simp
            go_wp2_with fail
            go_quiet (fail)
            go_wp2_with fail
            go_roundw
            case rel => exact ⟨k + 1, b, rfl, by go_num, HKT.out, HN, below_thenH HB.out (below_drewNH _ _)⟩
            case measure => have := HKT.out; simp [RowKit.intOf]; omega
          · obtain ⟨p1, c1, e1, hc⟩ := RowG.caps (HR.out.below HBX.out)
            cases e1
            obtain ⟨g, rfl, a0, a1, a2, a3, a4, a5, a6, a7, a8, a9, a10⟩ := hc i x HX.out
            obtain ⟨g', e2, d0, d1, d2, d3, d4, d5, d6, d7, d8, d9, d10⟩ := hc k y HY.out
            cases e2
            have hcall : ∀ W, Below wr.heap.size wr W → Calls Try.prog 20 #[opgv x, opgv y] W fun e w' => e = .returned (.bool (seenB x.sq x.n (nsf y))) ∧ Below W.heap.size W w' := fun W hW => by
              obtain ⟨h1, h2⟩ := HW.out.1 y (List.mem_of_getElem? HY.out)
              exact rbehind_any x y (nsf y) W h2 (Cd.below_lies (below_thenH HBX.out hW) h1)
            have hkiI : ¬ (k : Int) = i := by omega
            obtain ⟨r, hr⟩ : ∃ r, seenB x.sq x.n (nsf y) = r := ⟨_, rfl⟩
            have HN : Hid ((b && !r) = unseen nsf x (l.take (k + 1))) := by
              show _ = _
              rw [List.take_add_one, HY.out, Option.toList_some, unseen_snoc, ← HU.out, hr]
            rw [hr] at hcall
            clear hc hr hki
            simp only [opgv, opgC] at hcall
            cases r with
            | false =>
              have HN' : Hid (b = unseen nsf x (l.take (k + 1))) := by have e := HN.out; rw [Bool.not_false, Bool.and_true] at e; exact e
              go_wp2_with fail
              refine rh9 (by kernel_rfl) g l.length _ i k x y false _ rfl rfl rfl rfl HLT.out HKT.out hkiI a0 a1 a2 a3 a4 a5 a6 a7 a8 a9 a10 d0 d1 d2 d3 d4 d5 d6 d7 d8 d9 d10 hcall ?_
              intro w3 hb3
              have HB2 : Hid (Below wr.heap.size wr w3) := hb3
              clear hb3 a0 a1 a2 a3 a4 a5 a6 a7 a8 a9 a10 d0 d1 d2 d3 d4 d5 d6 d7 d8 d9 d10 hcall
              simp only [putAll, List.setIfInBounds_toArray, List.set_cons_zero, List.set_cons_succ]
              go_wp2_with fail
              go_roundw
              case rel => exact ⟨k + 1, b, rfl, by go_num, HKT.out, HN', below_thenH HB.out HB2.out⟩
              case measure => have := HKT.out; simp [RowKit.intOf]; omega
            | true =>
              have HN' : Hid (false = unseen nsf x (l.take (k + 1))) := by have e := HN.out; rw [Bool.not_true, Bool.and_false] at e; exact e
              go_wp2_with fail
              refine rh9 (by kernel_rfl) g l.length _ i k x y true _ rfl rfl rfl rfl HLT.out HKT.out hkiI a0 a1 a2 a3 a4 a5 a6 a7 a8 a9 a10 d0 d1 d2 d3 d4 d5 d6 d7 d8 d9 d10 hcall ?_
              intro w3 hb3
              have HB2 : Hid (Below wr.heap.size wr w3) := hb3
              clear hb3 a0 a1 a2 a3 a4 a5 a6 a7 a8 a9 a10 d0 d1 d2 d3 d4 d5 d6 d7 d8 d9 d10 hcall
              simp only [putAll, List.setIfInBounds_toArray, List.set_cons_zero, List.set_cons_succ]
              go_wp2_with fail
              go_roundw
              case rel => exact ⟨k + 1, false, rfl, by go_num, HKT.out, HN', below_thenH HB.out HB2.out⟩
              case measure => have := HKT.out; simp [RowKit.intOf]; omega
        · obtain rfl : k = l.length := by omega
          rw [List.take_length] at HU
          obtain ⟨p1, c1, e1, hc⟩ := RowG.caps (HR.out.below HBX.out)
          cases e1
          obtain ⟨g, rfl, a0, a1, a2, a3, a4, a5, a6, a7, a8, a9, a10⟩ := hc i x HX.out
          clear hc hkt
          cases b with
          | true =>
            go_wp2_with (at_builtin; refine wpList_appG rfl _ _ rfl w.heap.size _ M x rfl wr.heap.size rfl ⟨(HI.out.1.below HB.out).below (below_new _ _).out, heap_alloc_new wr _, by have h1 := congrArg List.length HI.out.2.1; have h2 := List.length_filter_le (fun x => unseen nsf x l) (l.take i); have := HL.out; rw [List.length_take] at h2; omega, by have := HBX.out.size; simp; omega⟩ ?_; intro p4 c4 w3 H4)
            go_roundw
            case rel =>
              refine ⟨i + 1, M ++ [x], p4, c4, ?_, by go_num, HLT.out, ?_⟩
              · rw [List.length_append]; rfl
              · have := HI.out.step HX.out HU.out.symm HB.out ⟨H4.out.1, H4.out.2.1⟩
                show RhI w w3 nsf l (.slice p4 (M ++ [x]).length c4) (M ++ [x]) (i + 1)
                rw [List.length_append]
                exact this
            case measure => have := HLT.out; simp [RowKit.intOf]; omega
          | false =>
            clear a0 a1 a2 a3 a4 a5 a6 a7 a8 a9 a10
            go_wp2_with fail
            go_roundw
            case rel =>
              exact ⟨i + 1, M, p', c', rfl, by go_num, HLT.out, HI.out.skip HX.out HU.out.symm HB.out⟩
            case measure => have := HLT.out; simp [RowKit.intOf]; omega
    · obtain rfl : i = l.length := by omega
      go_wp2
      go_ret
      obtain ⟨h1, h2, h3⟩ := HI.out
      rw [List.take_length] at h2
      subst h2
      exact ⟨_, rfl, h1, h3⟩

end Go.Proofs.Yteimjkicinjcgaa.Ck.Y.L

namespace Go.Proofs.Yteimjkicinjcgaa.Ck.Y.L
open Go.RowKit Go.Maps Go.Lib

theorem eqB_self (ns : List Int) : Vc.eqB ns ns = true := Vc.eqB_true fun _ _ => rfl
set_option maxRecDepth 8000 in
set_option maxHeartbeats 2000000 in
theorem is_true (bv bo : Nat) (v v' : Value) (M : List VG) (l : List OG) (nsf : OG → List Int) (bsf : OG → List (BitVec 8)) (w : World) (hv : RowV w bv v M) (ho : RowG w bo v' l) (hM : ∀ x ∈ M, VIn w x) (hO : ∀ o ∈ l, WIn w o (nsf o) (bsf o)) (hc : M.map VG.c = l.map fun o => vcOf o (nsf o) (bsf o)) (hl : l.length ≤ 1000) :
    Calls Try.prog 13 #[v, v'] w fun e w' => e = .returned (.bool true) ∧ Below w.heap.size w w' := by
  have hlen : M.length = l.length := by have := congrArg List.length hc; simpa using this
  obtain ⟨p, c, rfl, _⟩ := hv.caps
  obtain ⟨p', c', rfl, _⟩ := RowG.caps ho
  have HV : Hid (RowV w bv (.slice p M.length c) M) := hv
  have HO : Hid (RowG w bo (.slice p' l.length c') l) := ho
  have HC : Hid ((∀ x ∈ M, VIn w x) ∧ (∀ o ∈ l, WIn w o (nsf o) (bsf o)) ∧ M.map VG.c = l.map (fun o => vcOf o (nsf o) (bsf o)) ∧ M.length = l.length) := ⟨hM, hO, hc, hlen⟩
  clear hv ho hM hO hc
  rw [hlen]
  have HL : Hid (l.length ≤ 1000) := hl
  clear hlen hl
  go_enter Try.func13, Try.ntmps13
  go_wp2
  go_loopw [5] (fun ii wr => ∃ i : Nat, ii = .int .i64 i ∧ i ≤ l.length ∧ Hid (Below w.heap.size w wr)) (fun ii _ => l.length - (RowKit.intOf ii).toNat)
  case atStart => exact ⟨0, rfl, by omega, Below.refl _ _⟩
  case round =>
    obtain ⟨i, rfl, hi, HB⟩ := hrel
    by_cases hlt : i < l.length
    · have hltI : (i : Int) < l.length := by omega
      have HLT : Hid (i < l.length) := hlt
      have hi9 : i ≤ 1000 := by have := HL.out; omega
      obtain ⟨o, ho⟩ : ∃ o, l[i]? = some o := ⟨_, List.getElem?_eq_getElem hlt⟩
      obtain ⟨x, hx⟩ : ∃ x, M[i]? = some x := ⟨_, List.getElem?_eq_getElem (by rw [HC.out.2.2.2]; exact hlt)⟩
      have hxo : x.c = vcOf o (nsf o) (bsf o) := by
        have := congrArg (fun L => L[i]?) HC.out.2.2.1
        simp only [List.getElem?_map, hx, ho, Option.map_some, Option.some.injEq] at this
        exact this
      have hxi := (HC.out.1 x (List.mem_of_getElem? hx)).below HB.out
      have hoi := (HC.out.2.1 o (List.mem_of_getElem? ho)).below HB.out
      obtain ⟨p1, c1, e1, h1⟩ := (HV.out.below HB.out).caps
      cases e1
      obtain ⟨gv, rfl, a0, a1, a2, a3, a4⟩ := h1 i x hx
      obtain ⟨p2, c2, e2, h2⟩ := RowG.caps (HO.out.below HB.out)
      cases e2
      obtain ⟨g, rfl, d0, d1, d2, d3, d4, d5, d6, d7, d8, d9, d10⟩ := h2 i o ho
      injection hxo with z1 z2 z3 z4 z5
      have cS : ∀ W, Below wr.heap.size wr W → Calls Try.prog 21 #[idv x.t x.n, idv x.t x.n] W fun e w' => e = .returned (.bool true) ∧ Below W.heap.size W w' := fun W _ => by
        have := same_any x.t x.n x.t x.n W
        rwa [show sameB x.t x.n x.t x.n = true by simp [sameB]] at this
      have cE : ∀ W, Below wr.heap.size wr W → Calls Try.prog 32 #[.slice x.sp x.ns.length x.sc, .slice o.sp o.sl o.sc] W fun e w' => e = .returned (.bool true) ∧ Below W.heap.size W w' := fun W hW => by
        have := Vc.req_any x.sp o.sp x.ns (nsf o) x.sc o.sc W (Cd.below_lies hW hxi.seen) (Cd.below_lies hW hoi.seen)
        rw [z4, eqB_self, hoi.sl] at this
        rw [z4, hoi.sl]
        exact Calls_fresh this
      have cv : ∀ W, Below wr.heap.size wr W → (convert 31 9 (.slice x.dp x.bs.length x.dc)).run Try.prog W = .ok (.string (Cd.strOf x.bs)) W := fun W hW => Cd.run_str W x.dp x.bs x.dc (Cd.below_bytes hW hxi.data)
      have co : ∀ W, Below wr.heap.size wr W → (convert 31 9 (.slice o.dp o.dl o.dc)).run Try.prog W = .ok (.string (Cd.strOf x.bs)) W := fun W hW => by
        have := Cd.run_str W o.dp (bsf o) o.dc (Cd.below_bytes hW hoi.data)
        rw [hoi.dl] at this
        rw [z5]; exact this
      rw [← z1] at d0
      rw [← z2] at d1
      rw [← z3] at d2
      have hlm : i < M.length := by rw [HC.out.2.2.2]; exact hlt
      clear h1 h2 hx ho hxi hoi z1 z2 z3 z4 z5 hlt d3 d4 d5 d6 d7 d8
      go_wp2_with fail
      refine is6 (by kernel_rfl) gv g l.length l.length _ _ i x.ns.length x.sc x.bs.length x.dc o.sl o.sc o.dl o.dc x.sp x.dp o.sp o.dp x.t x.n x.sq (Cd.strOf x.bs) _ rfl rfl rfl rfl HLT.out HLT.out a0 a1 a2 a3 a4 d0 d1 d2 d10 d9 cS cE cv co ?_
      intro w3 hb3
      have HB2 : Hid (Below wr.heap.size wr w3) := hb3
      clear hb3 a0 a1 a2 a3 a4 d0 d1 d2 d9 d10 cS cE cv co hlm
      simp only [putAll, List.setIfInBounds_toArray, List.set_cons_zero, List.set_cons_succ]
      go_wp2_with fail
      go_roundw
      case rel => exact ⟨i + 1, by go_num, HLT.out, below_thenH HB.out HB2.out⟩
      case measure => have := HLT.out; simp [RowKit.intOf]; omega
    · obtain rfl : i = l.length := by omega
      go_wp2
      go_ret
      exact ⟨rfl, HB.out⟩

end Go.Proofs.Yteimjkicinjcgaa.Ck.Y.L
