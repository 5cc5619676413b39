import Derived.Test.YtgpbphjplbhfmaaGreatQOd

namespace Go.Proofs.YtgpbphjplbhfmaaGreat.Cd
open Go.RowKit Go.Maps
attribute [local go_sem] Oper.semAt_some
set_option maxRecDepth 8000 in
set_option maxHeartbeats 1000000 in
theorem rsame_any (a b x y : Int) (w : World) : Calls Tryz.prog 12 #[idv a b, idv x y] w fun e w' => e = .returned (.bool (sameB a b x y)) ∧ Below w.heap.size w w' := by
  have B0 : Hid (∀ x y, Below w.heap.size w ((w.alloc x).alloc y)) := fun x y => ((Below.refl _ _).alloc (Nat.le_refl _) _).alloc (by simp) _
  unfold sameB
  by_cases h1 : a = x
  · by_cases h2 : b = y
    · rw [decide_eq_true h1, decide_eq_true h2]
      subst h1 h2
      go_enter Tryz.func12, Tryz.ntmps12
      go_wp2
      go_ret
      exact ⟨rfl, B0.out _ _⟩
    · rw [decide_eq_true h1, decide_eq_false h2]
      subst h1
      go_enter Tryz.func12, Tryz.ntmps12
      go_wp2
      go_ret
      exact ⟨by first | rfl | simp [h2], B0.out _ _⟩
  · rw [decide_eq_false h1]
    go_enter Tryz.func12, Tryz.ntmps12
    go_wp2
    go_ret
    exact ⟨rfl, B0.out _ _⟩
set_option maxRecDepth 8000 in
set_option maxHeartbeats 1000000 in
theorem rroot_any (a b : Int) (w : World) : Calls Tryz.prog 44 #[idv a b] w fun e w' => e = .returned (.bool (rootB a b)) ∧ Below w.heap.size w w' := by
  have B0 : Hid (∀ x, Below w.heap.size w (w.alloc x)) := fun x => (below_new w x).out
  unfold rootB
  by_cases h1 : a = 0
  · by_cases h2 : b = 0
    · rw [decide_eq_true h1, decide_eq_true h2]
      subst h1 h2
      go_enter Tryz.func44, Tryz.ntmps44
      go_wp2
      go_ret
      exact ⟨rfl, B0.out _⟩
    · rw [decide_eq_true h1, decide_eq_false h2]
      subst h1
      go_enter Tryz.func44, Tryz.ntmps44
      go_wp2
      go_ret
      exact ⟨by simp [h2], B0.out _⟩
  · rw [decide_eq_false h1]
    go_enter Tryz.func44, Tryz.ntmps44
    go_wp2
    go_ret
    exact ⟨rfl, B0.out _⟩
set_option maxRecDepth 8000 in
set_option maxHeartbeats 1000000 in
theorem rtrash_any (a b : Int) (w : World) : Calls Tryz.prog 47 #[idv a b] w fun e w' => e = .returned (.bool (trashB a b)) ∧ Below w.heap.size w w' := by
  have B0 : Hid (∀ x, Below w.heap.size w (w.alloc x)) := fun x => (below_new w x).out
  unfold trashB
  by_cases h1 : a = 0
  · by_cases h2 : b = 1
    · rw [decide_eq_true h1, decide_eq_true h2]
      subst h1 h2
      go_enter Tryz.func47, Tryz.ntmps47
      go_wp2
      go_ret
      exact ⟨rfl, B0.out _⟩
    · rw [decide_eq_true h1, decide_eq_false h2]
      subst h1
      go_enter Tryz.func47, Tryz.ntmps47
      go_wp2
      go_ret
      exact ⟨by simp [h2], B0.out _⟩
  · rw [decide_eq_false h1]
    go_enter Tryz.func47, Tryz.ntmps47
    go_wp2
    go_ret
    exact ⟨rfl, B0.out _⟩
set_option maxRecDepth 8000 in
set_option maxHeartbeats 1000000 in
theorem rolder_any (a b x y : Int) (w : World) : Calls Tryz.prog 45 #[idv a b, idv x y] w fun e w' => e = .returned (.bool (olderB a b x y)) ∧ Below w.heap.size w w' := by
  have B0 : Hid (∀ x y, Below w.heap.size w ((w.alloc x).alloc y)) := fun x y => ((Below.refl _ _).alloc (Nat.le_refl _) _).alloc (by simp) _
  have HI : Hid (((w.alloc (.cells #[.int .i64 a, .int .i64 b] 29)).alloc (.cells #[.int .i64 x, .int .i64 y] 29)).heap[w.heap.size]? = some (.cells #[.int .i64 a, .int .i64 b] 29 (0, 0))) := by
    show _ = _
    rw [Below.heap_alloc _ _ _ (by simp)]; exact heap_alloc_new w _
  have HJ : Hid (((w.alloc (.cells #[.int .i64 a, .int .i64 b] 29)).alloc (.cells #[.int .i64 x, .int .i64 y] 29)).heap[w.heap.size + 1]? = some (.cells #[.int .i64 x, .int .i64 y] 29 (0, 0))) := by
    have := heap_alloc_new (w.alloc (.cells #[.int .i64 a, .int .i64 b] 29)) (.cells #[.int .i64 x, .int .i64 y] 29)
    rwa [show (w.alloc (.cells #[.int .i64 a, .int .i64 b] 29)).heap.size = w.heap.size + 1 by simp] at this
  have c1 := fun W => Ck.rvalid_any a b W
  have c2 := fun W => Ck.rless_any a b x y W
  unfold olderB
  generalize Ck.validB a b = u at *
  generalize Ck.lessB a b x y = v at *
  cases u with
  | true =>
    go_enter Tryz.func45, Tryz.ntmps45
    go_wp2_with (first | (go_at_call 41; refine Calls_new (c1 _) ?_; clear c1; intro w2 hb; have i0 : w2.cell? ⟨w.heap.size, 0, none⟩ = some (.int .i64 a) := cellOf ((hb.out.block _ (block_lt HI.out)).trans HI.out) 0; have i1 : w2.cell? ⟨w.heap.size, 1, none⟩ = some (.int .i64 b) := cellOf ((hb.out.block _ (block_lt HI.out)).trans HI.out) 1; have j0 : w2.cell? ⟨w.heap.size + 1, 0, none⟩ = some (.int .i64 x) := cellOf ((hb.out.block _ (block_lt HJ.out)).trans HJ.out) 0; have j1 : w2.cell? ⟨w.heap.size + 1, 1, none⟩ = some (.int .i64 y) := cellOf ((hb.out.block _ (block_lt HJ.out)).trans HJ.out) 1) | (go_at_call 8; refine Calls_new (c2 _) ?_; clear c2; intro w3 hb3))
    go_ret
    exact ⟨rfl, ((B0.out _ _).trans (hb.out.mono (B0.out _ _).size)).trans (hb3.out.mono (Nat.le_trans (B0.out _ _).size hb.out.size))⟩
  | false =>
    go_enter Tryz.func45, Tryz.ntmps45
    go_wp2_with (go_at_call 41; refine Calls_new (c1 _) ?_; clear c1; intro w2 hb)
    go_ret
    exact ⟨rfl, (B0.out _ _).trans (hb.out.mono (B0.out _ _).size)⟩
def OpX (w W : World) (g : Nat) (t n sq kd ot on pt pn : Int) (nm : List UInt8) (p q : Option Addr) (l c m d : Nat) : Prop := OpB W g t n sq kd ot on pt pn nm p q l c m d ∧ Below w.heap.size w W
theorem OpX.step {w W W' : World} {g : Nat} {t n sq kd ot on pt pn : Int} {nm : List UInt8} {p q : Option Addr} {l c m d : Nat} (h : Hid (OpX w W g t n sq kd ot on pt pn nm p q l c m d)) (hb : Hid (Below W.heap.size W W')) : Hid (OpX w W' g t n sq kd ot on pt pn nm p q l c m d) :=
  ⟨h.out.1.below hb.out, h.out.2.trans (hb.out.mono h.out.2.size)⟩
set_option maxRecDepth 8000 in
set_option maxHeartbeats 8000000 in
theorem rmay_any (t n sq kd ot on pt pn : Int) (nm : List UInt8) (p q : Option Addr) (l c m d : Nat) (ns : List Int) (w : World) (hs : nm.length < 1000000000000000) (hll : l < 9000000000000000000) (hm : ns.length = m) (hml : ns.length ≤ 1000) (hq : Lies w q (ns.map iv)) :
    Calls Tryz.prog 21 #[.agg #[.int .i64 t, .int .i64 n, .int .i64 sq, .int .i64 kd, .int .i64 ot, .int .i64 on, .int .i64 pt, .int .i64 pn, .string (bas nm), .slice p l c, .slice q m d]] w fun e w' => e = .returned (.bool (mayO t n sq kd ot on pt pn nm l ns)) ∧ Below w.heap.size w w' := by
  have H9 : Hid (OpB (w.alloc (.cells #[.int .i64 t, .int .i64 n, .int .i64 sq, .int .i64 kd, .int .i64 ot, .int .i64 on, .int .i64 pt, .int .i64 pn, .string (bas nm), .slice p l c, .slice q m d] 34)) w.heap.size t n sq kd ot on pt pn nm p q l c m d) := OpB.made w t n sq kd ot on pt pn nm p q l c m d
  have B0 : Hid (∀ o, Below w.heap.size w (w.alloc o)) := fun o => (below_new w o).out
  have HG : Hid (∀ o W, Below (w.alloc o).heap.size (w.alloc o) W → Below w.heap.size w W) := fun o W h => (B0.out o).trans (h.mono (B0.out o).size)
  have HV : Hid (∀ W, Calls Tryz.prog 41 #[idv t n] W fun e w' => e = .returned (.bool (Ck.validB t n)) ∧ Below W.heap.size W w') := fun W => Ck.rvalid_any t n W
  have HMV : Hid (∀ W, Below w.heap.size w W → Calls Tryz.prog 42 #[.slice q m d] W fun e w' => e = .returned (.bool (mayB ns)) ∧ Below W.heap.size W w') := fun W hW => by
    have := may_any q ns d W hml (below_lies hW hq)
    rw [hm] at this
    exact quiet_new this
  have HAT : Hid (∀ W, Below w.heap.size w W → Calls Tryz.prog 43 #[.slice q m d, .int .i64 n] W fun e w' => e = .returned (.int .i64 (Vc.atZ ns n)) ∧ Below W.heap.size W w') := fun W hW => by
    have := Vc.rat_any q ns d n W (below_lies hW hq)
    rw [hm] at this
    exact quiet_new this
  clear hm hml hq
  unfold mayO countB
  generalize Ck.validB t n = x0 at *
  cases x0 with
  | false =>
    simp only [Bool.false_and]
    go_enter Tryz.func21, Tryz.ntmps21
    go_wp2_with fail
    refine rmay_stamp (by kernel_rfl) w.heap.size t n sq kd ot on pt pn nm p q l c m d _ rfl rfl H9.out (fun W _ => HV.out W) ?_
    intro W hS
    have HB : Hid (Below w.heap.size w W) := HG.out _ W hS
    clear hS
    simp only [putAll, sA, sB, sC]
    go_wp2
    go_ret
    exact ⟨rfl, HB.out⟩
  | true =>
  by_cases h1 : 1 ≤ sq
  rotate_left
  · rw [decide_eq_false h1]
    simp only [Bool.false_and, Bool.and_false]
    have H1 : Hid (sq < 1) := by show _ < _; omega
    clear h1
    go_enter Tryz.func21, Tryz.ntmps21
    go_wp2_with fail
    refine rmay_low (by kernel_rfl) w.heap.size t n sq kd ot on pt pn nm p q l c m d _ rfl rfl H9.out (fun W _ => HV.out W) H1.out ?_
    intro W hS
    have HB : Hid (Below w.heap.size w W) := HG.out _ W hS
    clear hS
    simp only [putAll, sA, sB, sC]
    go_wp2
    go_ret
    exact ⟨rfl, HB.out⟩
  by_cases h2 : sq ≤ 1152921504606846976
  rotate_left
  · rw [decide_eq_false h2]
    simp only [Bool.false_and, Bool.and_false]
    have H1 : Hid (1 ≤ sq) := h1
    have H2 : Hid (1152921504606846976 < sq) := by show _ < _; omega
    clear h1 h2
    go_enter Tryz.func21, Tryz.ntmps21
    go_wp2_with fail
    refine rmay_high (by kernel_rfl) w.heap.size t n sq kd ot on pt pn nm p q l c m d _ rfl rfl H9.out (fun W _ => HV.out W) (by have := H1.out; omega) H2.out ?_
    intro W hS
    have HB : Hid (Below w.heap.size w W) := HG.out _ W hS
    clear hS
    simp only [putAll, sA, sB, sC]
    go_wp2
    go_ret
    exact ⟨rfl, HB.out⟩
  rw [decide_eq_true h1, decide_eq_true h2]
  have H1 : Hid (1 ≤ sq) := h1
  have H2 : Hid (sq ≤ 1152921504606846976) := h2
  clear h1 h2
  generalize mayB ns = x1 at *
  cases x1 with
  | false =>
    simp only [Bool.false_and, Bool.and_false]
    go_enter Tryz.func21, Tryz.ntmps21
    go_wp2_with fail
    refine rmay_vec (by kernel_rfl) w.heap.size t n sq kd ot on pt pn nm p q l c m d _ rfl rfl H9.out (fun W _ => HV.out W) (by have := H1.out; omega) (by have := H2.out; omega) (fun W hW => HMV.out W (HG.out _ W hW)) ?_
    intro W hS
    have HB : Hid (Below w.heap.size w W) := HG.out _ W hS
    clear hS
    simp only [putAll, sA, sB, sC]
    go_wp2
    go_ret
    exact ⟨rfl, HB.out⟩
  | true =>
  generalize Vc.atZ ns n = z at *
  by_cases hz : z = sq - 1
  rotate_left
  · rw [decide_eq_false hz]
    simp only [Bool.false_and, Bool.and_false]
    have HZ : Hid ((z != sq - 1) = true) := by show _ = _; simpa using hz
    clear hz
    go_enter Tryz.func21, Tryz.ntmps21
    go_wp2_with fail
    refine rmay_at (by kernel_rfl) w.heap.size t n sq kd ot on pt pn nm p q l c m d _ rfl rfl H9.out (fun W _ => HV.out W) (by have := H1.out; omega) (by have := H2.out; omega) z (fun W hW => HMV.out W (HG.out _ W hW)) (fun W hW => HAT.out W (HG.out _ W hW)) ?_
    intro W hS
    have HB : Hid (Below w.heap.size w W) := HG.out _ W hS
    clear hS
    simp only [putAll, sA, sB, sC, HZ.out]
    go_wp2
    go_ret
    exact ⟨rfl, HB.out⟩
  subst hz
  simp only [decide_true, Bool.true_and, Bool.and_true]
  have HZ : Hid ((sq - 1 != sq - 1) = false) := by show _ = _; simp
  have HS : Hid (∀ W, Calls Tryz.prog 12 #[idv ot on, idv t n] W fun e w' => e = .returned (.bool (sameB ot on t n)) ∧ Below W.heap.size W w') := fun W => rsame_any ot on t n W
  have HR : Hid (∀ W, Calls Tryz.prog 44 #[idv pt pn] W fun e w' => e = .returned (.bool (rootB pt pn)) ∧ Below W.heap.size W w') := fun W => rroot_any pt pn W
  have HT : Hid (∀ W, Calls Tryz.prog 47 #[idv pt pn] W fun e w' => e = .returned (.bool (trashB pt pn)) ∧ Below W.heap.size W w') := fun W => rtrash_any pt pn W
  have HO : Hid (∀ W, Calls Tryz.prog 45 #[idv pt pn, idv t n] W fun e w' => e = .returned (.bool (olderB pt pn t n)) ∧ Below W.heap.size W w') := fun W => rolder_any pt pn t n W
  have HE : Hid (∀ W, Calls Tryz.prog 45 #[idv ot on, idv t n] W fun e w' => e = .returned (.bool (olderB ot on t n)) ∧ Below W.heap.size W w') := fun W => rolder_any ot on t n W
  have HN : Hid (∀ W, Calls Tryz.prog 46 #[.string (bas nm)] W fun e w' => e = .returned (.int .i64 (nameN nm)) ∧ w' = W) := fun W => rname_any nm W hs
  have HX0 : True := trivial
  clear hs
  by_cases h12 : kd = 1 ∨ kd = 2
  · have HF : Hid (kindB t n kd ot on pt pn nm l = (sameB ot on t n && (rootB pt pn || olderB pt pn t n) && (decide (nameN nm = 0) && decide (l = 0)))) := by show _ = _; unfold kindB placedB; rw [if_pos h12]
    rw [HF.out]
    clear HF HT HE
    generalize sameB ot on t n = xs at *
    generalize rootB pt pn = xr at *
    generalize olderB pt pn t n = xo at *
    generalize nameN nm = x at *
    rcases h12 with rfl | rfl
    · have tk : True := trivial
      cases xs with
      | false =>
        go_enter Tryz.func21, Tryz.ntmps21
        go_wp2_with fail
        refine rmay_at (by kernel_rfl) w.heap.size t n sq 1 ot on pt pn nm p q l c m d _ rfl rfl H9.out (fun W _ => HV.out W) (by have := H1.out; omega) (by have := H2.out; omega) (sq - 1) (fun W hW => HMV.out W (HG.out _ W hW)) (fun W hW => HAT.out W (HG.out _ W hW)) ?_
        intro W hS
        have HX : Hid (OpX w W w.heap.size t n sq 1 ot on pt pn nm p q l c m d) := ⟨H9.out.below hS, HG.out _ W hS⟩
        have ⟨d0, d1, d2, d3, d4, d5, d6, d7, d8, d9, d10⟩ := HX.out.1.cells
        clear hS
        simp only [putAll, sA, sB, sC, HZ.out]
        go_wp2_with (first | (go_at_call 12; refine Calls_new (HS.out _) ?_; clear HS; intro w2 hb2; have HX := OpX.step HX hb2; have ⟨d0, d1, d2, d3, d4, d5, d6, d7, d8, d9, d10⟩ := HX.out.1.cells; clear hb2) | (go_at_call 44; refine Calls_new (HR.out _) ?_; clear HR; intro w2 hb2; have HX := OpX.step HX hb2; have ⟨d0, d1, d2, d3, d4, d5, d6, d7, d8, d9, d10⟩ := HX.out.1.cells; clear hb2) | (go_at_call 45; refine Calls_new (HO.out _) ?_; clear HO; intro w2 hb2; have HX := OpX.step HX hb2; have ⟨d0, d1, d2, d3, d4, d5, d6, d7, d8, d9, d10⟩ := HX.out.1.cells; clear hb2) | (go_at_call 46; refine Calls_on (HN.out _) ?_; clear HN))
        go_ret
        exact ⟨by first | rfl | (simp; done) | (simp; omega), HX.out.2⟩
      | true =>
        cases xr with
        | false =>
          cases xo with
          | false =>
            go_enter Tryz.func21, Tryz.ntmps21
            go_wp2_with fail
            refine rmay_at (by kernel_rfl) w.heap.size t n sq 1 ot on pt pn nm p q l c m d _ rfl rfl H9.out (fun W _ => HV.out W) (by have := H1.out; omega) (by have := H2.out; omega) (sq - 1) (fun W hW => HMV.out W (HG.out _ W hW)) (fun W hW => HAT.out W (HG.out _ W hW)) ?_
            intro W hS
            have HX : Hid (OpX w W w.heap.size t n sq 1 ot on pt pn nm p q l c m d) := ⟨H9.out.below hS, HG.out _ W hS⟩
            have ⟨d0, d1, d2, d3, d4, d5, d6, d7, d8, d9, d10⟩ := HX.out.1.cells
            clear hS
            simp only [putAll, sA, sB, sC, HZ.out]
            go_wp2_with (first | (go_at_call 12; refine Calls_new (HS.out _) ?_; clear HS; intro w2 hb2; have HX := OpX.step HX hb2; have ⟨d0, d1, d2, d3, d4, d5, d6, d7, d8, d9, d10⟩ := HX.out.1.cells; clear hb2) | (go_at_call 44; refine Calls_new (HR.out _) ?_; clear HR; intro w2 hb2; have HX := OpX.step HX hb2; have ⟨d0, d1, d2, d3, d4, d5, d6, d7, d8, d9, d10⟩ := HX.out.1.cells; clear hb2) | (go_at_call 45; refine Calls_new (HO.out _) ?_; clear HO; intro w2 hb2; have HX := OpX.step HX hb2; have ⟨d0, d1, d2, d3, d4, d5, d6, d7, d8, d9, d10⟩ := HX.out.1.cells; clear hb2) | (go_at_call 46; refine Calls_on (HN.out _) ?_; clear HN))
            go_ret
            exact ⟨by first | rfl | (simp; done) | (simp; omega), HX.out.2⟩
          | true =>
            by_cases hx : x = 0
            · subst hx
              by_cases hl : l = 0
              · have hlI : (l : Int) = 0 := by omega
                rw [decide_eq_true hl]
                clear hl
                go_enter Tryz.func21, Tryz.ntmps21
                go_wp2_with fail
                refine rmay_at (by kernel_rfl) w.heap.size t n sq 1 ot on pt pn nm p q l c m d _ rfl rfl H9.out (fun W _ => HV.out W) (by have := H1.out; omega) (by have := H2.out; omega) (sq - 1) (fun W hW => HMV.out W (HG.out _ W hW)) (fun W hW => HAT.out W (HG.out _ W hW)) ?_
                intro W hS
                have HX : Hid (OpX w W w.heap.size t n sq 1 ot on pt pn nm p q l c m d) := ⟨H9.out.below hS, HG.out _ W hS⟩
                have ⟨d0, d1, d2, d3, d4, d5, d6, d7, d8, d9, d10⟩ := HX.out.1.cells
                clear hS
                simp only [putAll, sA, sB, sC, HZ.out]
                go_wp2_with (first | (go_at_call 12; refine Calls_new (HS.out _) ?_; clear HS; intro w2 hb2; have HX := OpX.step HX hb2; have ⟨d0, d1, d2, d3, d4, d5, d6, d7, d8, d9, d10⟩ := HX.out.1.cells; clear hb2) | (go_at_call 44; refine Calls_new (HR.out _) ?_; clear HR; intro w2 hb2; have HX := OpX.step HX hb2; have ⟨d0, d1, d2, d3, d4, d5, d6, d7, d8, d9, d10⟩ := HX.out.1.cells; clear hb2) | (go_at_call 45; refine Calls_new (HO.out _) ?_; clear HO; intro w2 hb2; have HX := OpX.step HX hb2; have ⟨d0, d1, d2, d3, d4, d5, d6, d7, d8, d9, d10⟩ := HX.out.1.cells; clear hb2) | (go_at_call 46; refine Calls_on (HN.out _) ?_; clear HN))
                go_ret
                exact ⟨by first | rfl | (simp; done) | (simp; omega), HX.out.2⟩
              · have hlI : ¬ (l : Int) = 0 := by omega
                rw [decide_eq_false hl]
                clear hl
                go_enter Tryz.func21, Tryz.ntmps21
                go_wp2_with fail
                refine rmay_at (by kernel_rfl) w.heap.size t n sq 1 ot on pt pn nm p q l c m d _ rfl rfl H9.out (fun W _ => HV.out W) (by have := H1.out; omega) (by have := H2.out; omega) (sq - 1) (fun W hW => HMV.out W (HG.out _ W hW)) (fun W hW => HAT.out W (HG.out _ W hW)) ?_
                intro W hS
                have HX : Hid (OpX w W w.heap.size t n sq 1 ot on pt pn nm p q l c m d) := ⟨H9.out.below hS, HG.out _ W hS⟩
                have ⟨d0, d1, d2, d3, d4, d5, d6, d7, d8, d9, d10⟩ := HX.out.1.cells
                clear hS
                simp only [putAll, sA, sB, sC, HZ.out]
                go_wp2_with (first | (go_at_call 12; refine Calls_new (HS.out _) ?_; clear HS; intro w2 hb2; have HX := OpX.step HX hb2; have ⟨d0, d1, d2, d3, d4, d5, d6, d7, d8, d9, d10⟩ := HX.out.1.cells; clear hb2) | (go_at_call 44; refine Calls_new (HR.out _) ?_; clear HR; intro w2 hb2; have HX := OpX.step HX hb2; have ⟨d0, d1, d2, d3, d4, d5, d6, d7, d8, d9, d10⟩ := HX.out.1.cells; clear hb2) | (go_at_call 45; refine Calls_new (HO.out _) ?_; clear HO; intro w2 hb2; have HX := OpX.step HX hb2; have ⟨d0, d1, d2, d3, d4, d5, d6, d7, d8, d9, d10⟩ := HX.out.1.cells; clear hb2) | (go_at_call 46; refine Calls_on (HN.out _) ?_; clear HN))
                go_ret
                exact ⟨by first | rfl | (simp; done) | (simp; omega), HX.out.2⟩
            · rw [decide_eq_false hx]
              go_enter Tryz.func21, Tryz.ntmps21
              go_wp2_with fail
              refine rmay_at (by kernel_rfl) w.heap.size t n sq 1 ot on pt pn nm p q l c m d _ rfl rfl H9.out (fun W _ => HV.out W) (by have := H1.out; omega) (by have := H2.out; omega) (sq - 1) (fun W hW => HMV.out W (HG.out _ W hW)) (fun W hW => HAT.out W (HG.out _ W hW)) ?_
              intro W hS
              have HX : Hid (OpX w W w.heap.size t n sq 1 ot on pt pn nm p q l c m d) := ⟨H9.out.below hS, HG.out _ W hS⟩
              have ⟨d0, d1, d2, d3, d4, d5, d6, d7, d8, d9, d10⟩ := HX.out.1.cells
              clear hS
              simp only [putAll, sA, sB, sC, HZ.out]
              go_wp2_with (first | (go_at_call 12; refine Calls_new (HS.out _) ?_; clear HS; intro w2 hb2; have HX := OpX.step HX hb2; have ⟨d0, d1, d2, d3, d4, d5, d6, d7, d8, d9, d10⟩ := HX.out.1.cells; clear hb2) | (go_at_call 44; refine Calls_new (HR.out _) ?_; clear HR; intro w2 hb2; have HX := OpX.step HX hb2; have ⟨d0, d1, d2, d3, d4, d5, d6, d7, d8, d9, d10⟩ := HX.out.1.cells; clear hb2) | (go_at_call 45; refine Calls_new (HO.out _) ?_; clear HO; intro w2 hb2; have HX := OpX.step HX hb2; have ⟨d0, d1, d2, d3, d4, d5, d6, d7, d8, d9, d10⟩ := HX.out.1.cells; clear hb2) | (go_at_call 46; refine Calls_on (HN.out _) ?_; clear HN))
              go_ret
              exact ⟨by first | rfl | (simp; done) | (simp; omega), HX.out.2⟩
        | true =>
          by_cases hx : x = 0
          · subst hx
            by_cases hl : l = 0
            · have hlI : (l : Int) = 0 := by omega
              rw [decide_eq_true hl]
              clear hl
              go_enter Tryz.func21, Tryz.ntmps21
              go_wp2_with fail
              refine rmay_at (by kernel_rfl) w.heap.size t n sq 1 ot on pt pn nm p q l c m d _ rfl rfl H9.out (fun W _ => HV.out W) (by have := H1.out; omega) (by have := H2.out; omega) (sq - 1) (fun W hW => HMV.out W (HG.out _ W hW)) (fun W hW => HAT.out W (HG.out _ W hW)) ?_
              intro W hS
              have HX : Hid (OpX w W w.heap.size t n sq 1 ot on pt pn nm p q l c m d) := ⟨H9.out.below hS, HG.out _ W hS⟩
              have ⟨d0, d1, d2, d3, d4, d5, d6, d7, d8, d9, d10⟩ := HX.out.1.cells
              clear hS
              simp only [putAll, sA, sB, sC, HZ.out]
              go_wp2_with (first | (go_at_call 12; refine Calls_new (HS.out _) ?_; clear HS; intro w2 hb2; have HX := OpX.step HX hb2; have ⟨d0, d1, d2, d3, d4, d5, d6, d7, d8, d9, d10⟩ := HX.out.1.cells; clear hb2) | (go_at_call 44; refine Calls_new (HR.out _) ?_; clear HR; intro w2 hb2; have HX := OpX.step HX hb2; have ⟨d0, d1, d2, d3, d4, d5, d6, d7, d8, d9, d10⟩ := HX.out.1.cells; clear hb2) | (go_at_call 45; refine Calls_new (HO.out _) ?_; clear HO; intro w2 hb2; have HX := OpX.step HX hb2; have ⟨d0, d1, d2, d3, d4, d5, d6, d7, d8, d9, d10⟩ := HX.out.1.cells; clear hb2) | (go_at_call 46; refine Calls_on (HN.out _) ?_; clear HN))
              go_ret
              exact ⟨by first | rfl | (simp; done) | (simp; omega), HX.out.2⟩
            · have hlI : ¬ (l : Int) = 0 := by omega
              rw [decide_eq_false hl]
              clear hl
              go_enter Tryz.func21, Tryz.ntmps21
              go_wp2_with fail
              refine rmay_at (by kernel_rfl) w.heap.size t n sq 1 ot on pt pn nm p q l c m d _ rfl rfl H9.out (fun W _ => HV.out W) (by have := H1.out; omega) (by have := H2.out; omega) (sq - 1) (fun W hW => HMV.out W (HG.out _ W hW)) (fun W hW => HAT.out W (HG.out _ W hW)) ?_
              intro W hS
              have HX : Hid (OpX w W w.heap.size t n sq 1 ot on pt pn nm p q l c m d) := ⟨H9.out.below hS, HG.out _ W hS⟩
              have ⟨d0, d1, d2, d3, d4, d5, d6, d7, d8, d9, d10⟩ := HX.out.1.cells
              clear hS
              simp only [putAll, sA, sB, sC, HZ.out]
              go_wp2_with (first | (go_at_call 12; refine Calls_new (HS.out _) ?_; clear HS; intro w2 hb2; have HX := OpX.step HX hb2; have ⟨d0, d1, d2, d3, d4, d5, d6, d7, d8, d9, d10⟩ := HX.out.1.cells; clear hb2) | (go_at_call 44; refine Calls_new (HR.out _) ?_; clear HR; intro w2 hb2; have HX := OpX.step HX hb2; have ⟨d0, d1, d2, d3, d4, d5, d6, d7, d8, d9, d10⟩ := HX.out.1.cells; clear hb2) | (go_at_call 45; refine Calls_new (HO.out _) ?_; clear HO; intro w2 hb2; have HX := OpX.step HX hb2; have ⟨d0, d1, d2, d3, d4, d5, d6, d7, d8, d9, d10⟩ := HX.out.1.cells; clear hb2) | (go_at_call 46; refine Calls_on (HN.out _) ?_; clear HN))
              go_ret
              exact ⟨by first | rfl | (simp; done) | (simp; omega), HX.out.2⟩
          · rw [decide_eq_false hx]
            go_enter Tryz.func21, Tryz.ntmps21
            go_wp2_with fail
            refine rmay_at (by kernel_rfl) w.heap.size t n sq 1 ot on pt pn nm p q l c m d _ rfl rfl H9.out (fun W _ => HV.out W) (by have := H1.out; omega) (by have := H2.out; omega) (sq - 1) (fun W hW => HMV.out W (HG.out _ W hW)) (fun W hW => HAT.out W (HG.out _ W hW)) ?_
            intro W hS
            have HX : Hid (OpX w W w.heap.size t n sq 1 ot on pt pn nm p q l c m d) := ⟨H9.out.below hS, HG.out _ W hS⟩
            have ⟨d0, d1, d2, d3, d4, d5, d6, d7, d8, d9, d10⟩ := HX.out.1.cells
            clear hS
            simp only [putAll, sA, sB, sC, HZ.out]
            go_wp2_with (first | (go_at_call 12; refine Calls_new (HS.out _) ?_; clear HS; intro w2 hb2; have HX := OpX.step HX hb2; have ⟨d0, d1, d2, d3, d4, d5, d6, d7, d8, d9, d10⟩ := HX.out.1.cells; clear hb2) | (go_at_call 44; refine Calls_new (HR.out _) ?_; clear HR; intro w2 hb2; have HX := OpX.step HX hb2; have ⟨d0, d1, d2, d3, d4, d5, d6, d7, d8, d9, d10⟩ := HX.out.1.cells; clear hb2) | (go_at_call 45; refine Calls_new (HO.out _) ?_; clear HO; intro w2 hb2; have HX := OpX.step HX hb2; have ⟨d0, d1, d2, d3, d4, d5, d6, d7, d8, d9, d10⟩ := HX.out.1.cells; clear hb2) | (go_at_call 46; refine Calls_on (HN.out _) ?_; clear HN))
            go_ret
            exact ⟨by first | rfl | (simp; done) | (simp; omega), HX.out.2⟩
    · have tk : True := trivial
      cases xs with
      | false =>
        go_enter Tryz.func21, Tryz.ntmps21
        go_wp2_with fail
        refine rmay_at (by kernel_rfl) w.heap.size t n sq 2 ot on pt pn nm p q l c m d _ rfl rfl H9.out (fun W _ => HV.out W) (by have := H1.out; omega) (by have := H2.out; omega) (sq - 1) (fun W hW => HMV.out W (HG.out _ W hW)) (fun W hW => HAT.out W (HG.out _ W hW)) ?_
        intro W hS
        have HX : Hid (OpX w W w.heap.size t n sq 2 ot on pt pn nm p q l c m d) := ⟨H9.out.below hS, HG.out _ W hS⟩
        have ⟨d0, d1, d2, d3, d4, d5, d6, d7, d8, d9, d10⟩ := HX.out.1.cells
        clear hS
        simp only [putAll, sA, sB, sC, HZ.out]
        go_wp2_with (first | (go_at_call 12; refine Calls_new (HS.out _) ?_; clear HS; intro w2 hb2; have HX := OpX.step HX hb2; have ⟨d0, d1, d2, d3, d4, d5, d6, d7, d8, d9, d10⟩ := HX.out.1.cells; clear hb2) | (go_at_call 44; refine Calls_new (HR.out _) ?_; clear HR; intro w2 hb2; have HX := OpX.step HX hb2; have ⟨d0, d1, d2, d3, d4, d5, d6, d7, d8, d9, d10⟩ := HX.out.1.cells; clear hb2) | (go_at_call 45; refine Calls_new (HO.out _) ?_; clear HO; intro w2 hb2; have HX := OpX.step HX hb2; have ⟨d0, d1, d2, d3, d4, d5, d6, d7, d8, d9, d10⟩ := HX.out.1.cells; clear hb2) | (go_at_call 46; refine Calls_on (HN.out _) ?_; clear HN))
        go_ret
        exact ⟨by first | rfl | (simp; done) | (simp; omega), HX.out.2⟩
      | true =>
        cases xr with
        | false =>
          cases xo with
          | false =>
            go_enter Tryz.func21, Tryz.ntmps21
            go_wp2_with fail
            refine rmay_at (by kernel_rfl) w.heap.size t n sq 2 ot on pt pn nm p q l c m d _ rfl rfl H9.out (fun W _ => HV.out W) (by have := H1.out; omega) (by have := H2.out; omega) (sq - 1) (fun W hW => HMV.out W (HG.out _ W hW)) (fun W hW => HAT.out W (HG.out _ W hW)) ?_
            intro W hS
            have HX : Hid (OpX w W w.heap.size t n sq 2 ot on pt pn nm p q l c m d) := ⟨H9.out.below hS, HG.out _ W hS⟩
            have ⟨d0, d1, d2, d3, d4, d5, d6, d7, d8, d9, d10⟩ := HX.out.1.cells
            clear hS
            simp only [putAll, sA, sB, sC, HZ.out]
            go_wp2_with (first | (go_at_call 12; refine Calls_new (HS.out _) ?_; clear HS; intro w2 hb2; have HX := OpX.step HX hb2; have ⟨d0, d1, d2, d3, d4, d5, d6, d7, d8, d9, d10⟩ := HX.out.1.cells; clear hb2) | (go_at_call 44; refine Calls_new (HR.out _) ?_; clear HR; intro w2 hb2; have HX := OpX.step HX hb2; have ⟨d0, d1, d2, d3, d4, d5, d6, d7, d8, d9, d10⟩ := HX.out.1.cells; clear hb2) | (go_at_call 45; refine Calls_new (HO.out _) ?_; clear HO; intro w2 hb2; have HX := OpX.step HX hb2; have ⟨d0, d1, d2, d3, d4, d5, d6, d7, d8, d9, d10⟩ := HX.out.1.cells; clear hb2) | (go_at_call 46; refine Calls_on (HN.out _) ?_; clear HN))
            go_ret
            exact ⟨by first | rfl | (simp; done) | (simp; omega), HX.out.2⟩
          | true =>
            by_cases hx : x = 0
            · subst hx
              by_cases hl : l = 0
              · have hlI : (l : Int) = 0 := by omega
                rw [decide_eq_true hl]
                clear hl
                go_enter Tryz.func21, Tryz.ntmps21
                go_wp2_with fail
                refine rmay_at (by kernel_rfl) w.heap.size t n sq 2 ot on pt pn nm p q l c m d _ rfl rfl H9.out (fun W _ => HV.out W) (by have := H1.out; omega) (by have := H2.out; omega) (sq - 1) (fun W hW => HMV.out W (HG.out _ W hW)) (fun W hW => HAT.out W (HG.out _ W hW)) ?_
                intro W hS
                have HX : Hid (OpX w W w.heap.size t n sq 2 ot on pt pn nm p q l c m d) := ⟨H9.out.below hS, HG.out _ W hS⟩
                have ⟨d0, d1, d2, d3, d4, d5, d6, d7, d8, d9, d10⟩ := HX.out.1.cells
                clear hS
                simp only [putAll, sA, sB, sC, HZ.out]
                go_wp2_with (first | (go_at_call 12; refine Calls_new (HS.out _) ?_; clear HS; intro w2 hb2; have HX := OpX.step HX hb2; have ⟨d0, d1, d2, d3, d4, d5, d6, d7, d8, d9, d10⟩ := HX.out.1.cells; clear hb2) | (go_at_call 44; refine Calls_new (HR.out _) ?_; clear HR; intro w2 hb2; have HX := OpX.step HX hb2; have ⟨d0, d1, d2, d3, d4, d5, d6, d7, d8, d9, d10⟩ := HX.out.1.cells; clear hb2) | (go_at_call 45; refine Calls_new (HO.out _) ?_; clear HO; intro w2 hb2; have HX := OpX.step HX hb2; have ⟨d0, d1, d2, d3, d4, d5, d6, d7, d8, d9, d10⟩ := HX.out.1.cells; clear hb2) | (go_at_call 46; refine Calls_on (HN.out _) ?_; clear HN))
                go_ret
                exact ⟨by first | rfl | (simp; done) | (simp; omega), HX.out.2⟩
              · have hlI : ¬ (l : Int) = 0 := by omega
                rw [decide_eq_false hl]
                clear hl
                go_enter Tryz.func21, Tryz.ntmps21
                go_wp2_with fail
                refine rmay_at (by kernel_rfl) w.heap.size t n sq 2 ot on pt pn nm p q l c m d _ rfl rfl H9.out (fun W _ => HV.out W) (by have := H1.out; omega) (by have := H2.out; omega) (sq - 1) (fun W hW => HMV.out W (HG.out _ W hW)) (fun W hW => HAT.out W (HG.out _ W hW)) ?_
                intro W hS
                have HX : Hid (OpX w W w.heap.size t n sq 2 ot on pt pn nm p q l c m d) := ⟨H9.out.below hS, HG.out _ W hS⟩
                have ⟨d0, d1, d2, d3, d4, d5, d6, d7, d8, d9, d10⟩ := HX.out.1.cells
                clear hS
                simp only [putAll, sA, sB, sC, HZ.out]
                go_wp2_with (first | (go_at_call 12; refine Calls_new (HS.out _) ?_; clear HS; intro w2 hb2; have HX := OpX.step HX hb2; have ⟨d0, d1, d2, d3, d4, d5, d6, d7, d8, d9, d10⟩ := HX.out.1.cells; clear hb2) | (go_at_call 44; refine Calls_new (HR.out _) ?_; clear HR; intro w2 hb2; have HX := OpX.step HX hb2; have ⟨d0, d1, d2, d3, d4, d5, d6, d7, d8, d9, d10⟩ := HX.out.1.cells; clear hb2) | (go_at_call 45; refine Calls_new (HO.out _) ?_; clear HO; intro w2 hb2; have HX := OpX.step HX hb2; have ⟨d0, d1, d2, d3, d4, d5, d6, d7, d8, d9, d10⟩ := HX.out.1.cells; clear hb2) | (go_at_call 46; refine Calls_on (HN.out _) ?_; clear HN))
                go_ret
                exact ⟨by first | rfl | (simp; done) | (simp; omega), HX.out.2⟩
            · rw [decide_eq_false hx]
              go_enter Tryz.func21, Tryz.ntmps21
              go_wp2_with fail
              refine rmay_at (by kernel_rfl) w.heap.size t n sq 2 ot on pt pn nm p q l c m d _ rfl rfl H9.out (fun W _ => HV.out W) (by have := H1.out; omega) (by have := H2.out; omega) (sq - 1) (fun W hW => HMV.out W (HG.out _ W hW)) (fun W hW => HAT.out W (HG.out _ W hW)) ?_
              intro W hS
              have HX : Hid (OpX w W w.heap.size t n sq 2 ot on pt pn nm p q l c m d) := ⟨H9.out.below hS, HG.out _ W hS⟩
              have ⟨d0, d1, d2, d3, d4, d5, d6, d7, d8, d9, d10⟩ := HX.out.1.cells
              clear hS
              simp only [putAll, sA, sB, sC, HZ.out]
              go_wp2_with (first | (go_at_call 12; refine Calls_new (HS.out _) ?_; clear HS; intro w2 hb2; have HX := OpX.step HX hb2; have ⟨d0, d1, d2, d3, d4, d5, d6, d7, d8, d9, d10⟩ := HX.out.1.cells; clear hb2) | (go_at_call 44; refine Calls_new (HR.out _) ?_; clear HR; intro w2 hb2; have HX := OpX.step HX hb2; have ⟨d0, d1, d2, d3, d4, d5, d6, d7, d8, d9, d10⟩ := HX.out.1.cells; clear hb2) | (go_at_call 45; refine Calls_new (HO.out _) ?_; clear HO; intro w2 hb2; have HX := OpX.step HX hb2; have ⟨d0, d1, d2, d3, d4, d5, d6, d7, d8, d9, d10⟩ := HX.out.1.cells; clear hb2) | (go_at_call 46; refine Calls_on (HN.out _) ?_; clear HN))
              go_ret
              exact ⟨by first | rfl | (simp; done) | (simp; omega), HX.out.2⟩
        | true =>
          by_cases hx : x = 0
          · subst hx
            by_cases hl : l = 0
            · have hlI : (l : Int) = 0 := by omega
              rw [decide_eq_true hl]
              clear hl
              go_enter Tryz.func21, Tryz.ntmps21
              go_wp2_with fail
              refine rmay_at (by kernel_rfl) w.heap.size t n sq 2 ot on pt pn nm p q l c m d _ rfl rfl H9.out (fun W _ => HV.out W) (by have := H1.out; omega) (by have := H2.out; omega) (sq - 1) (fun W hW => HMV.out W (HG.out _ W hW)) (fun W hW => HAT.out W (HG.out _ W hW)) ?_
              intro W hS
              have HX : Hid (OpX w W w.heap.size t n sq 2 ot on pt pn nm p q l c m d) := ⟨H9.out.below hS, HG.out _ W hS⟩
              have ⟨d0, d1, d2, d3, d4, d5, d6, d7, d8, d9, d10⟩ := HX.out.1.cells
              clear hS
              simp only [putAll, sA, sB, sC, HZ.out]
              go_wp2_with (first | (go_at_call 12; refine Calls_new (HS.out _) ?_; clear HS; intro w2 hb2; have HX := OpX.step HX hb2; have ⟨d0, d1, d2, d3, d4, d5, d6, d7, d8, d9, d10⟩ := HX.out.1.cells; clear hb2) | (go_at_call 44; refine Calls_new (HR.out _) ?_; clear HR; intro w2 hb2; have HX := OpX.step HX hb2; have ⟨d0, d1, d2, d3, d4, d5, d6, d7, d8, d9, d10⟩ := HX.out.1.cells; clear hb2) | (go_at_call 45; refine Calls_new (HO.out _) ?_; clear HO; intro w2 hb2; have HX := OpX.step HX hb2; have ⟨d0, d1, d2, d3, d4, d5, d6, d7, d8, d9, d10⟩ := HX.out.1.cells; clear hb2) | (go_at_call 46; refine Calls_on (HN.out _) ?_; clear HN))
              go_ret
              exact ⟨by first | rfl | (simp; done) | (simp; omega), HX.out.2⟩
            · have hlI : ¬ (l : Int) = 0 := by omega
              rw [decide_eq_false hl]
              clear hl
              go_enter Tryz.func21, Tryz.ntmps21
              go_wp2_with fail
              refine rmay_at (by kernel_rfl) w.heap.size t n sq 2 ot on pt pn nm p q l c m d _ rfl rfl H9.out (fun W _ => HV.out W) (by have := H1.out; omega) (by have := H2.out; omega) (sq - 1) (fun W hW => HMV.out W (HG.out _ W hW)) (fun W hW => HAT.out W (HG.out _ W hW)) ?_
              intro W hS
              have HX : Hid (OpX w W w.heap.size t n sq 2 ot on pt pn nm p q l c m d) := ⟨H9.out.below hS, HG.out _ W hS⟩
              have ⟨d0, d1, d2, d3, d4, d5, d6, d7, d8, d9, d10⟩ := HX.out.1.cells
              clear hS
              simp only [putAll, sA, sB, sC, HZ.out]
              go_wp2_with (first | (go_at_call 12; refine Calls_new (HS.out _) ?_; clear HS; intro w2 hb2; have HX := OpX.step HX hb2; have ⟨d0, d1, d2, d3, d4, d5, d6, d7, d8, d9, d10⟩ := HX.out.1.cells; clear hb2) | (go_at_call 44; refine Calls_new (HR.out _) ?_; clear HR; intro w2 hb2; have HX := OpX.step HX hb2; have ⟨d0, d1, d2, d3, d4, d5, d6, d7, d8, d9, d10⟩ := HX.out.1.cells; clear hb2) | (go_at_call 45; refine Calls_new (HO.out _) ?_; clear HO; intro w2 hb2; have HX := OpX.step HX hb2; have ⟨d0, d1, d2, d3, d4, d5, d6, d7, d8, d9, d10⟩ := HX.out.1.cells; clear hb2) | (go_at_call 46; refine Calls_on (HN.out _) ?_; clear HN))
              go_ret
              exact ⟨by first | rfl | (simp; done) | (simp; omega), HX.out.2⟩
          · rw [decide_eq_false hx]
            go_enter Tryz.func21, Tryz.ntmps21
            go_wp2_with fail
            refine rmay_at (by kernel_rfl) w.heap.size t n sq 2 ot on pt pn nm p q l c m d _ rfl rfl H9.out (fun W _ => HV.out W) (by have := H1.out; omega) (by have := H2.out; omega) (sq - 1) (fun W hW => HMV.out W (HG.out _ W hW)) (fun W hW => HAT.out W (HG.out _ W hW)) ?_
            intro W hS
            have HX : Hid (OpX w W w.heap.size t n sq 2 ot on pt pn nm p q l c m d) := ⟨H9.out.below hS, HG.out _ W hS⟩
            have ⟨d0, d1, d2, d3, d4, d5, d6, d7, d8, d9, d10⟩ := HX.out.1.cells
            clear hS
            simp only [putAll, sA, sB, sC, HZ.out]
            go_wp2_with (first | (go_at_call 12; refine Calls_new (HS.out _) ?_; clear HS; intro w2 hb2; have HX := OpX.step HX hb2; have ⟨d0, d1, d2, d3, d4, d5, d6, d7, d8, d9, d10⟩ := HX.out.1.cells; clear hb2) | (go_at_call 44; refine Calls_new (HR.out _) ?_; clear HR; intro w2 hb2; have HX := OpX.step HX hb2; have ⟨d0, d1, d2, d3, d4, d5, d6, d7, d8, d9, d10⟩ := HX.out.1.cells; clear hb2) | (go_at_call 45; refine Calls_new (HO.out _) ?_; clear HO; intro w2 hb2; have HX := OpX.step HX hb2; have ⟨d0, d1, d2, d3, d4, d5, d6, d7, d8, d9, d10⟩ := HX.out.1.cells; clear hb2) | (go_at_call 46; refine Calls_on (HN.out _) ?_; clear HN))
            go_ret
            exact ⟨by first | rfl | (simp; done) | (simp; omega), HX.out.2⟩
  by_cases h3 : kd = 3
  · have HF : Hid (kindB t n kd ot on pt pn nm l = (olderB ot on t n && (rootB pt pn || olderB pt pn t n || trashB pt pn) && (decide (nameN nm = 0) && decide (l = 0)))) := by show _ = _; unfold kindB placedB; rw [if_neg h12, if_pos h3]
    rw [HF.out]
    clear HF HS h12
    generalize olderB ot on t n = xe at *
    generalize rootB pt pn = xr at *
    generalize trashB pt pn = xt at *
    generalize olderB pt pn t n = xo at *
    generalize nameN nm = x at *
    subst h3
    cases xe with
    | false =>
      go_enter Tryz.func21, Tryz.ntmps21
      go_wp2_with fail
      refine rmay_at (by kernel_rfl) w.heap.size t n sq 3 ot on pt pn nm p q l c m d _ rfl rfl H9.out (fun W _ => HV.out W) (by have := H1.out; omega) (by have := H2.out; omega) (sq - 1) (fun W hW => HMV.out W (HG.out _ W hW)) (fun W hW => HAT.out W (HG.out _ W hW)) ?_
      intro W hS
      have HX : Hid (OpX w W w.heap.size t n sq 3 ot on pt pn nm p q l c m d) := ⟨H9.out.below hS, HG.out _ W hS⟩
      have ⟨d0, d1, d2, d3, d4, d5, d6, d7, d8, d9, d10⟩ := HX.out.1.cells
      clear hS
      simp only [putAll, sA, sB, sC, HZ.out]
      go_wp2_with (first | (go_at_call 45; refine Calls_new (HE.out _) ?_; clear HE; intro w2 hb2; have HX := OpX.step HX hb2; have ⟨d0, d1, d2, d3, d4, d5, d6, d7, d8, d9, d10⟩ := HX.out.1.cells; clear hb2) | (go_at_call 44; refine Calls_new (HR.out _) ?_; clear HR; intro w2 hb2; have HX := OpX.step HX hb2; have ⟨d0, d1, d2, d3, d4, d5, d6, d7, d8, d9, d10⟩ := HX.out.1.cells; clear hb2) | (go_at_call 47; refine Calls_new (HT.out _) ?_; clear HT; intro w2 hb2; have HX := OpX.step HX hb2; have ⟨d0, d1, d2, d3, d4, d5, d6, d7, d8, d9, d10⟩ := HX.out.1.cells; clear hb2) | (go_at_call 45; refine Calls_new (HO.out _) ?_; clear HO; intro w2 hb2; have HX := OpX.step HX hb2; have ⟨d0, d1, d2, d3, d4, d5, d6, d7, d8, d9, d10⟩ := HX.out.1.cells; clear hb2) | (go_at_call 46; refine Calls_on (HN.out _) ?_; clear HN))
      go_ret
      exact ⟨by first | rfl | (simp; done) | (simp; omega), HX.out.2⟩
    | true =>
      cases xr with
      | false =>
        cases xt with
        | false =>
          cases xo with
          | false =>
            go_enter Tryz.func21, Tryz.ntmps21
            go_wp2_with fail
            refine rmay_at (by kernel_rfl) w.heap.size t n sq 3 ot on pt pn nm p q l c m d _ rfl rfl H9.out (fun W _ => HV.out W) (by have := H1.out; omega) (by have := H2.out; omega) (sq - 1) (fun W hW => HMV.out W (HG.out _ W hW)) (fun W hW => HAT.out W (HG.out _ W hW)) ?_
            intro W hS
            have HX : Hid (OpX w W w.heap.size t n sq 3 ot on pt pn nm p q l c m d) := ⟨H9.out.below hS, HG.out _ W hS⟩
            have ⟨d0, d1, d2, d3, d4, d5, d6, d7, d8, d9, d10⟩ := HX.out.1.cells
            clear hS
            simp only [putAll, sA, sB, sC, HZ.out]
            go_wp2_with (first | (go_at_call 45; refine Calls_new (HE.out _) ?_; clear HE; intro w2 hb2; have HX := OpX.step HX hb2; have ⟨d0, d1, d2, d3, d4, d5, d6, d7, d8, d9, d10⟩ := HX.out.1.cells; clear hb2) | (go_at_call 44; refine Calls_new (HR.out _) ?_; clear HR; intro w2 hb2; have HX := OpX.step HX hb2; have ⟨d0, d1, d2, d3, d4, d5, d6, d7, d8, d9, d10⟩ := HX.out.1.cells; clear hb2) | (go_at_call 47; refine Calls_new (HT.out _) ?_; clear HT; intro w2 hb2; have HX := OpX.step HX hb2; have ⟨d0, d1, d2, d3, d4, d5, d6, d7, d8, d9, d10⟩ := HX.out.1.cells; clear hb2) | (go_at_call 45; refine Calls_new (HO.out _) ?_; clear HO; intro w2 hb2; have HX := OpX.step HX hb2; have ⟨d0, d1, d2, d3, d4, d5, d6, d7, d8, d9, d10⟩ := HX.out.1.cells; clear hb2) | (go_at_call 46; refine Calls_on (HN.out _) ?_; clear HN))
            go_ret
            exact ⟨by first | rfl | (simp; done) | (simp; omega), HX.out.2⟩
          | true =>
            by_cases hx : x = 0
            · subst hx
              by_cases hl : l = 0
              · have hlI : (l : Int) = 0 := by omega
                rw [decide_eq_true hl]
                clear hl
                go_enter Tryz.func21, Tryz.ntmps21
                go_wp2_with fail
                refine rmay_at (by kernel_rfl) w.heap.size t n sq 3 ot on pt pn nm p q l c m d _ rfl rfl H9.out (fun W _ => HV.out W) (by have := H1.out; omega) (by have := H2.out; omega) (sq - 1) (fun W hW => HMV.out W (HG.out _ W hW)) (fun W hW => HAT.out W (HG.out _ W hW)) ?_
                intro W hS
                have HX : Hid (OpX w W w.heap.size t n sq 3 ot on pt pn nm p q l c m d) := ⟨H9.out.below hS, HG.out _ W hS⟩
                have ⟨d0, d1, d2, d3, d4, d5, d6, d7, d8, d9, d10⟩ := HX.out.1.cells
                clear hS
                simp only [putAll, sA, sB, sC, HZ.out]
                go_wp2_with (first | (go_at_call 45; refine Calls_new (HE.out _) ?_; clear HE; intro w2 hb2; have HX := OpX.step HX hb2; have ⟨d0, d1, d2, d3, d4, d5, d6, d7, d8, d9, d10⟩ := HX.out.1.cells; clear hb2) | (go_at_call 44; refine Calls_new (HR.out _) ?_; clear HR; intro w2 hb2; have HX := OpX.step HX hb2; have ⟨d0, d1, d2, d3, d4, d5, d6, d7, d8, d9, d10⟩ := HX.out.1.cells; clear hb2) | (go_at_call 47; refine Calls_new (HT.out _) ?_; clear HT; intro w2 hb2; have HX := OpX.step HX hb2; have ⟨d0, d1, d2, d3, d4, d5, d6, d7, d8, d9, d10⟩ := HX.out.1.cells; clear hb2) | (go_at_call 45; refine Calls_new (HO.out _) ?_; clear HO; intro w2 hb2; have HX := OpX.step HX hb2; have ⟨d0, d1, d2, d3, d4, d5, d6, d7, d8, d9, d10⟩ := HX.out.1.cells; clear hb2) | (go_at_call 46; refine Calls_on (HN.out _) ?_; clear HN))
                go_ret
                exact ⟨by first | rfl | (simp; done) | (simp; omega), HX.out.2⟩
              · have hlI : ¬ (l : Int) = 0 := by omega
                rw [decide_eq_false hl]
                clear hl
                go_enter Tryz.func21, Tryz.ntmps21
                go_wp2_with fail
                refine rmay_at (by kernel_rfl) w.heap.size t n sq 3 ot on pt pn nm p q l c m d _ rfl rfl H9.out (fun W _ => HV.out W) (by have := H1.out; omega) (by have := H2.out; omega) (sq - 1) (fun W hW => HMV.out W (HG.out _ W hW)) (fun W hW => HAT.out W (HG.out _ W hW)) ?_
                intro W hS
                have HX : Hid (OpX w W w.heap.size t n sq 3 ot on pt pn nm p q l c m d) := ⟨H9.out.below hS, HG.out _ W hS⟩
                have ⟨d0, d1, d2, d3, d4, d5, d6, d7, d8, d9, d10⟩ := HX.out.1.cells
                clear hS
                simp only [putAll, sA, sB, sC, HZ.out]
                go_wp2_with (first | (go_at_call 45; refine Calls_new (HE.out _) ?_; clear HE; intro w2 hb2; have HX := OpX.step HX hb2; have ⟨d0, d1, d2, d3, d4, d5, d6, d7, d8, d9, d10⟩ := HX.out.1.cells; clear hb2) | (go_at_call 44; refine Calls_new (HR.out _) ?_; clear HR; intro w2 hb2; have HX := OpX.step HX hb2; have ⟨d0, d1, d2, d3, d4, d5, d6, d7, d8, d9, d10⟩ := HX.out.1.cells; clear hb2) | (go_at_call 47; refine Calls_new (HT.out _) ?_; clear HT; intro w2 hb2; have HX := OpX.step HX hb2; have ⟨d0, d1, d2, d3, d4, d5, d6, d7, d8, d9, d10⟩ := HX.out.1.cells; clear hb2) | (go_at_call 45; refine Calls_new (HO.out _) ?_; clear HO; intro w2 hb2; have HX := OpX.step HX hb2; have ⟨d0, d1, d2, d3, d4, d5, d6, d7, d8, d9, d10⟩ := HX.out.1.cells; clear hb2) | (go_at_call 46; refine Calls_on (HN.out _) ?_; clear HN))
                go_ret
                exact ⟨by first | rfl | (simp; done) | (simp; omega), HX.out.2⟩
            · rw [decide_eq_false hx]
              go_enter Tryz.func21, Tryz.ntmps21
              go_wp2_with fail
              refine rmay_at (by kernel_rfl) w.heap.size t n sq 3 ot on pt pn nm p q l c m d _ rfl rfl H9.out (fun W _ => HV.out W) (by have := H1.out; omega) (by have := H2.out; omega) (sq - 1) (fun W hW => HMV.out W (HG.out _ W hW)) (fun W hW => HAT.out W (HG.out _ W hW)) ?_
              intro W hS
              have HX : Hid (OpX w W w.heap.size t n sq 3 ot on pt pn nm p q l c m d) := ⟨H9.out.below hS, HG.out _ W hS⟩
              have ⟨d0, d1, d2, d3, d4, d5, d6, d7, d8, d9, d10⟩ := HX.out.1.cells
              clear hS
              simp only [putAll, sA, sB, sC, HZ.out]
              go_wp2_with (first | (go_at_call 45; refine Calls_new (HE.out _) ?_; clear HE; intro w2 hb2; have HX := OpX.step HX hb2; have ⟨d0, d1, d2, d3, d4, d5, d6, d7, d8, d9, d10⟩ := HX.out.1.cells; clear hb2) | (go_at_call 44; refine Calls_new (HR.out _) ?_; clear HR; intro w2 hb2; have HX := OpX.step HX hb2; have ⟨d0, d1, d2, d3, d4, d5, d6, d7, d8, d9, d10⟩ := HX.out.1.cells; clear hb2) | (go_at_call 47; refine Calls_new (HT.out _) ?_; clear HT; intro w2 hb2; have HX := OpX.step HX hb2; have ⟨d0, d1, d2, d3, d4, d5, d6, d7, d8, d9, d10⟩ := HX.out.1.cells; clear hb2) | (go_at_call 45; refine Calls_new (HO.out _) ?_; clear HO; intro w2 hb2; have HX := OpX.step HX hb2; have ⟨d0, d1, d2, d3, d4, d5, d6, d7, d8, d9, d10⟩ := HX.out.1.cells; clear hb2) | (go_at_call 46; refine Calls_on (HN.out _) ?_; clear HN))
              go_ret
              exact ⟨by first | rfl | (simp; done) | (simp; omega), HX.out.2⟩
        | true =>
          by_cases hx : x = 0
          · subst hx
            by_cases hl : l = 0
            · have hlI : (l : Int) = 0 := by omega
              rw [decide_eq_true hl]
              clear hl
              go_enter Tryz.func21, Tryz.ntmps21
              go_wp2_with fail
              refine rmay_at (by kernel_rfl) w.heap.size t n sq 3 ot on pt pn nm p q l c m d _ rfl rfl H9.out (fun W _ => HV.out W) (by have := H1.out; omega) (by have := H2.out; omega) (sq - 1) (fun W hW => HMV.out W (HG.out _ W hW)) (fun W hW => HAT.out W (HG.out _ W hW)) ?_
              intro W hS
              have HX : Hid (OpX w W w.heap.size t n sq 3 ot on pt pn nm p q l c m d) := ⟨H9.out.below hS, HG.out _ W hS⟩
              have ⟨d0, d1, d2, d3, d4, d5, d6, d7, d8, d9, d10⟩ := HX.out.1.cells
              clear hS
              simp only [putAll, sA, sB, sC, HZ.out]
              go_wp2_with (first | (go_at_call 45; refine Calls_new (HE.out _) ?_; clear HE; intro w2 hb2; have HX := OpX.step HX hb2; have ⟨d0, d1, d2, d3, d4, d5, d6, d7, d8, d9, d10⟩ := HX.out.1.cells; clear hb2) | (go_at_call 44; refine Calls_new (HR.out _) ?_; clear HR; intro w2 hb2; have HX := OpX.step HX hb2; have ⟨d0, d1, d2, d3, d4, d5, d6, d7, d8, d9, d10⟩ := HX.out.1.cells; clear hb2) | (go_at_call 47; refine Calls_new (HT.out _) ?_; clear HT; intro w2 hb2; have HX := OpX.step HX hb2; have ⟨d0, d1, d2, d3, d4, d5, d6, d7, d8, d9, d10⟩ := HX.out.1.cells; clear hb2) | (go_at_call 45; refine Calls_new (HO.out _) ?_; clear HO; intro w2 hb2; have HX := OpX.step HX hb2; have ⟨d0, d1, d2, d3, d4, d5, d6, d7, d8, d9, d10⟩ := HX.out.1.cells; clear hb2) | (go_at_call 46; refine Calls_on (HN.out _) ?_; clear HN))
              go_ret
              exact ⟨by first | rfl | (simp; done) | (simp; omega), HX.out.2⟩
            · have hlI : ¬ (l : Int) = 0 := by omega
              rw [decide_eq_false hl]
              clear hl
              go_enter Tryz.func21, Tryz.ntmps21
              go_wp2_with fail
              refine rmay_at (by kernel_rfl) w.heap.size t n sq 3 ot on pt pn nm p q l c m d _ rfl rfl H9.out (fun W _ => HV.out W) (by have := H1.out; omega) (by have := H2.out; omega) (sq - 1) (fun W hW => HMV.out W (HG.out _ W hW)) (fun W hW => HAT.out W (HG.out _ W hW)) ?_
              intro W hS
              have HX : Hid (OpX w W w.heap.size t n sq 3 ot on pt pn nm p q l c m d) := ⟨H9.out.below hS, HG.out _ W hS⟩
              have ⟨d0, d1, d2, d3, d4, d5, d6, d7, d8, d9, d10⟩ := HX.out.1.cells
              clear hS
              simp only [putAll, sA, sB, sC, HZ.out]
              go_wp2_with (first | (go_at_call 45; refine Calls_new (HE.out _) ?_; clear HE; intro w2 hb2; have HX := OpX.step HX hb2; have ⟨d0, d1, d2, d3, d4, d5, d6, d7, d8, d9, d10⟩ := HX.out.1.cells; clear hb2) | (go_at_call 44; refine Calls_new (HR.out _) ?_; clear HR; intro w2 hb2; have HX := OpX.step HX hb2; have ⟨d0, d1, d2, d3, d4, d5, d6, d7, d8, d9, d10⟩ := HX.out.1.cells; clear hb2) | (go_at_call 47; refine Calls_new (HT.out _) ?_; clear HT; intro w2 hb2; have HX := OpX.step HX hb2; have ⟨d0, d1, d2, d3, d4, d5, d6, d7, d8, d9, d10⟩ := HX.out.1.cells; clear hb2) | (go_at_call 45; refine Calls_new (HO.out _) ?_; clear HO; intro w2 hb2; have HX := OpX.step HX hb2; have ⟨d0, d1, d2, d3, d4, d5, d6, d7, d8, d9, d10⟩ := HX.out.1.cells; clear hb2) | (go_at_call 46; refine Calls_on (HN.out _) ?_; clear HN))
              go_ret
              exact ⟨by first | rfl | (simp; done) | (simp; omega), HX.out.2⟩
          · rw [decide_eq_false hx]
            go_enter Tryz.func21, Tryz.ntmps21
            go_wp2_with fail
            refine rmay_at (by kernel_rfl) w.heap.size t n sq 3 ot on pt pn nm p q l c m d _ rfl rfl H9.out (fun W _ => HV.out W) (by have := H1.out; omega) (by have := H2.out; omega) (sq - 1) (fun W hW => HMV.out W (HG.out _ W hW)) (fun W hW => HAT.out W (HG.out _ W hW)) ?_
            intro W hS
            have HX : Hid (OpX w W w.heap.size t n sq 3 ot on pt pn nm p q l c m d) := ⟨H9.out.below hS, HG.out _ W hS⟩
            have ⟨d0, d1, d2, d3, d4, d5, d6, d7, d8, d9, d10⟩ := HX.out.1.cells
            clear hS
            simp only [putAll, sA, sB, sC, HZ.out]
            go_wp2_with (first | (go_at_call 45; refine Calls_new (HE.out _) ?_; clear HE; intro w2 hb2; have HX := OpX.step HX hb2; have ⟨d0, d1, d2, d3, d4, d5, d6, d7, d8, d9, d10⟩ := HX.out.1.cells; clear hb2) | (go_at_call 44; refine Calls_new (HR.out _) ?_; clear HR; intro w2 hb2; have HX := OpX.step HX hb2; have ⟨d0, d1, d2, d3, d4, d5, d6, d7, d8, d9, d10⟩ := HX.out.1.cells; clear hb2) | (go_at_call 47; refine Calls_new (HT.out _) ?_; clear HT; intro w2 hb2; have HX := OpX.step HX hb2; have ⟨d0, d1, d2, d3, d4, d5, d6, d7, d8, d9, d10⟩ := HX.out.1.cells; clear hb2) | (go_at_call 45; refine Calls_new (HO.out _) ?_; clear HO; intro w2 hb2; have HX := OpX.step HX hb2; have ⟨d0, d1, d2, d3, d4, d5, d6, d7, d8, d9, d10⟩ := HX.out.1.cells; clear hb2) | (go_at_call 46; refine Calls_on (HN.out _) ?_; clear HN))
            go_ret
            exact ⟨by first | rfl | (simp; done) | (simp; omega), HX.out.2⟩
      | true =>
        by_cases hx : x = 0
        · subst hx
          by_cases hl : l = 0
          · have hlI : (l : Int) = 0 := by omega
            rw [decide_eq_true hl]
            clear hl
            go_enter Tryz.func21, Tryz.ntmps21
            go_wp2_with fail
            refine rmay_at (by kernel_rfl) w.heap.size t n sq 3 ot on pt pn nm p q l c m d _ rfl rfl H9.out (fun W _ => HV.out W) (by have := H1.out; omega) (by have := H2.out; omega) (sq - 1) (fun W hW => HMV.out W (HG.out _ W hW)) (fun W hW => HAT.out W (HG.out _ W hW)) ?_
            intro W hS
            have HX : Hid (OpX w W w.heap.size t n sq 3 ot on pt pn nm p q l c m d) := ⟨H9.out.below hS, HG.out _ W hS⟩
            have ⟨d0, d1, d2, d3, d4, d5, d6, d7, d8, d9, d10⟩ := HX.out.1.cells
            clear hS
            simp only [putAll, sA, sB, sC, HZ.out]
            go_wp2_with (first | (go_at_call 45; refine Calls_new (HE.out _) ?_; clear HE; intro w2 hb2; have HX := OpX.step HX hb2; have ⟨d0, d1, d2, d3, d4, d5, d6, d7, d8, d9, d10⟩ := HX.out.1.cells; clear hb2) | (go_at_call 44; refine Calls_new (HR.out _) ?_; clear HR; intro w2 hb2; have HX := OpX.step HX hb2; have ⟨d0, d1, d2, d3, d4, d5, d6, d7, d8, d9, d10⟩ := HX.out.1.cells; clear hb2) | (go_at_call 47; refine Calls_new (HT.out _) ?_; clear HT; intro w2 hb2; have HX := OpX.step HX hb2; have ⟨d0, d1, d2, d3, d4, d5, d6, d7, d8, d9, d10⟩ := HX.out.1.cells; clear hb2) | (go_at_call 45; refine Calls_new (HO.out _) ?_; clear HO; intro w2 hb2; have HX := OpX.step HX hb2; have ⟨d0, d1, d2, d3, d4, d5, d6, d7, d8, d9, d10⟩ := HX.out.1.cells; clear hb2) | (go_at_call 46; refine Calls_on (HN.out _) ?_; clear HN))
            go_ret
            exact ⟨by first | rfl | (simp; done) | (simp; omega), HX.out.2⟩
          · have hlI : ¬ (l : Int) = 0 := by omega
            rw [decide_eq_false hl]
            clear hl
            go_enter Tryz.func21, Tryz.ntmps21
            go_wp2_with fail
            refine rmay_at (by kernel_rfl) w.heap.size t n sq 3 ot on pt pn nm p q l c m d _ rfl rfl H9.out (fun W _ => HV.out W) (by have := H1.out; omega) (by have := H2.out; omega) (sq - 1) (fun W hW => HMV.out W (HG.out _ W hW)) (fun W hW => HAT.out W (HG.out _ W hW)) ?_
            intro W hS
            have HX : Hid (OpX w W w.heap.size t n sq 3 ot on pt pn nm p q l c m d) := ⟨H9.out.below hS, HG.out _ W hS⟩
            have ⟨d0, d1, d2, d3, d4, d5, d6, d7, d8, d9, d10⟩ := HX.out.1.cells
            clear hS
            simp only [putAll, sA, sB, sC, HZ.out]
            go_wp2_with (first | (go_at_call 45; refine Calls_new (HE.out _) ?_; clear HE; intro w2 hb2; have HX := OpX.step HX hb2; have ⟨d0, d1, d2, d3, d4, d5, d6, d7, d8, d9, d10⟩ := HX.out.1.cells; clear hb2) | (go_at_call 44; refine Calls_new (HR.out _) ?_; clear HR; intro w2 hb2; have HX := OpX.step HX hb2; have ⟨d0, d1, d2, d3, d4, d5, d6, d7, d8, d9, d10⟩ := HX.out.1.cells; clear hb2) | (go_at_call 47; refine Calls_new (HT.out _) ?_; clear HT; intro w2 hb2; have HX := OpX.step HX hb2; have ⟨d0, d1, d2, d3, d4, d5, d6, d7, d8, d9, d10⟩ := HX.out.1.cells; clear hb2) | (go_at_call 45; refine Calls_new (HO.out _) ?_; clear HO; intro w2 hb2; have HX := OpX.step HX hb2; have ⟨d0, d1, d2, d3, d4, d5, d6, d7, d8, d9, d10⟩ := HX.out.1.cells; clear hb2) | (go_at_call 46; refine Calls_on (HN.out _) ?_; clear HN))
            go_ret
            exact ⟨by first | rfl | (simp; done) | (simp; omega), HX.out.2⟩
        · rw [decide_eq_false hx]
          go_enter Tryz.func21, Tryz.ntmps21
          go_wp2_with fail
          refine rmay_at (by kernel_rfl) w.heap.size t n sq 3 ot on pt pn nm p q l c m d _ rfl rfl H9.out (fun W _ => HV.out W) (by have := H1.out; omega) (by have := H2.out; omega) (sq - 1) (fun W hW => HMV.out W (HG.out _ W hW)) (fun W hW => HAT.out W (HG.out _ W hW)) ?_
          intro W hS
          have HX : Hid (OpX w W w.heap.size t n sq 3 ot on pt pn nm p q l c m d) := ⟨H9.out.below hS, HG.out _ W hS⟩
          have ⟨d0, d1, d2, d3, d4, d5, d6, d7, d8, d9, d10⟩ := HX.out.1.cells
          clear hS
          simp only [putAll, sA, sB, sC, HZ.out]
          go_wp2_with (first | (go_at_call 45; refine Calls_new (HE.out _) ?_; clear HE; intro w2 hb2; have HX := OpX.step HX hb2; have ⟨d0, d1, d2, d3, d4, d5, d6, d7, d8, d9, d10⟩ := HX.out.1.cells; clear hb2) | (go_at_call 44; refine Calls_new (HR.out _) ?_; clear HR; intro w2 hb2; have HX := OpX.step HX hb2; have ⟨d0, d1, d2, d3, d4, d5, d6, d7, d8, d9, d10⟩ := HX.out.1.cells; clear hb2) | (go_at_call 47; refine Calls_new (HT.out _) ?_; clear HT; intro w2 hb2; have HX := OpX.step HX hb2; have ⟨d0, d1, d2, d3, d4, d5, d6, d7, d8, d9, d10⟩ := HX.out.1.cells; clear hb2) | (go_at_call 45; refine Calls_new (HO.out _) ?_; clear HO; intro w2 hb2; have HX := OpX.step HX hb2; have ⟨d0, d1, d2, d3, d4, d5, d6, d7, d8, d9, d10⟩ := HX.out.1.cells; clear hb2) | (go_at_call 46; refine Calls_on (HN.out _) ?_; clear HN))
          go_ret
          exact ⟨by first | rfl | (simp; done) | (simp; omega), HX.out.2⟩
  by_cases h4 : kd = 4
  · have HF : Hid (kindB t n kd ot on pt pn nm l = (olderB ot on t n && rootB pt pn && decide (nm = []) && decide (l ≤ 65536))) := by show _ = _; unfold kindB; rw [if_neg h12, if_neg h3, if_pos h4]
    rw [HF.out]
    clear HF HS HT HO HN h12 h3
    generalize olderB ot on t n = xe at *
    generalize rootB pt pn = xr at *
    subst h4
    cases xe with
    | false =>
      go_enter Tryz.func21, Tryz.ntmps21
      go_wp2_with fail
      refine rmay_at (by kernel_rfl) w.heap.size t n sq 4 ot on pt pn nm p q l c m d _ rfl rfl H9.out (fun W _ => HV.out W) (by have := H1.out; omega) (by have := H2.out; omega) (sq - 1) (fun W hW => HMV.out W (HG.out _ W hW)) (fun W hW => HAT.out W (HG.out _ W hW)) ?_
      intro W hS
      have HX : Hid (OpX w W w.heap.size t n sq 4 ot on pt pn nm p q l c m d) := ⟨H9.out.below hS, HG.out _ W hS⟩
      have ⟨d0, d1, d2, d3, d4, d5, d6, d7, d8, d9, d10⟩ := HX.out.1.cells
      clear hS
      simp only [putAll, sA, sB, sC, HZ.out]
      go_wp2_with (first | (go_at_call 45; refine Calls_new (HE.out _) ?_; clear HE; intro w2 hb2; have HX := OpX.step HX hb2; have ⟨d0, d1, d2, d3, d4, d5, d6, d7, d8, d9, d10⟩ := HX.out.1.cells; clear hb2) | (go_at_call 44; refine Calls_new (HR.out _) ?_; clear HR; intro w2 hb2; have HX := OpX.step HX hb2; have ⟨d0, d1, d2, d3, d4, d5, d6, d7, d8, d9, d10⟩ := HX.out.1.cells; clear hb2))
      go_ret
      exact ⟨by first | rfl | (simp; done) | (simp; omega), HX.out.2⟩
    | true =>
      cases xr with
      | false =>
        go_enter Tryz.func21, Tryz.ntmps21
        go_wp2_with fail
        refine rmay_at (by kernel_rfl) w.heap.size t n sq 4 ot on pt pn nm p q l c m d _ rfl rfl H9.out (fun W _ => HV.out W) (by have := H1.out; omega) (by have := H2.out; omega) (sq - 1) (fun W hW => HMV.out W (HG.out _ W hW)) (fun W hW => HAT.out W (HG.out _ W hW)) ?_
        intro W hS
        have HX : Hid (OpX w W w.heap.size t n sq 4 ot on pt pn nm p q l c m d) := ⟨H9.out.below hS, HG.out _ W hS⟩
        have ⟨d0, d1, d2, d3, d4, d5, d6, d7, d8, d9, d10⟩ := HX.out.1.cells
        clear hS
        simp only [putAll, sA, sB, sC, HZ.out]
        go_wp2_with (first | (go_at_call 45; refine Calls_new (HE.out _) ?_; clear HE; intro w2 hb2; have HX := OpX.step HX hb2; have ⟨d0, d1, d2, d3, d4, d5, d6, d7, d8, d9, d10⟩ := HX.out.1.cells; clear hb2) | (go_at_call 44; refine Calls_new (HR.out _) ?_; clear HR; intro w2 hb2; have HX := OpX.step HX hb2; have ⟨d0, d1, d2, d3, d4, d5, d6, d7, d8, d9, d10⟩ := HX.out.1.cells; clear hb2))
        go_ret
        exact ⟨by first | rfl | (simp; done) | (simp; omega), HX.out.2⟩
      | true =>
        by_cases hn : nm = []
        · subst hn
          have e0 : bas [] = ⟨#[]⟩ := rfl
          by_cases hl : l ≤ 65536
          · have hlI : (l : Int) ≤ 65536 := by omega
            rw [decide_eq_true hl]
            go_enter Tryz.func21, Tryz.ntmps21
            go_wp2_with fail
            refine rmay_at (by kernel_rfl) w.heap.size t n sq 4 ot on pt pn [] p q l c m d _ rfl rfl H9.out (fun W _ => HV.out W) (by have := H1.out; omega) (by have := H2.out; omega) (sq - 1) (fun W hW => HMV.out W (HG.out _ W hW)) (fun W hW => HAT.out W (HG.out _ W hW)) ?_
            intro W hS
            have HX : Hid (OpX w W w.heap.size t n sq 4 ot on pt pn [] p q l c m d) := ⟨H9.out.below hS, HG.out _ W hS⟩
            have ⟨d0, d1, d2, d3, d4, d5, d6, d7, d8, d9, d10⟩ := HX.out.1.cells
            clear hS
            simp only [putAll, sA, sB, sC, HZ.out]
            go_wp2_with (first | (go_at_call 45; refine Calls_new (HE.out _) ?_; clear HE; intro w2 hb2; have HX := OpX.step HX hb2; have ⟨d0, d1, d2, d3, d4, d5, d6, d7, d8, d9, d10⟩ := HX.out.1.cells; clear hb2) | (go_at_call 44; refine Calls_new (HR.out _) ?_; clear HR; intro w2 hb2; have HX := OpX.step HX hb2; have ⟨d0, d1, d2, d3, d4, d5, d6, d7, d8, d9, d10⟩ := HX.out.1.cells; clear hb2))
            go_ret
            exact ⟨by first | rfl | (simp; done) | (simp; omega), HX.out.2⟩
          · have hlI : ¬ (l : Int) ≤ 65536 := by omega
            rw [decide_eq_false hl]
            go_enter Tryz.func21, Tryz.ntmps21
            go_wp2_with fail
            refine rmay_at (by kernel_rfl) w.heap.size t n sq 4 ot on pt pn [] p q l c m d _ rfl rfl H9.out (fun W _ => HV.out W) (by have := H1.out; omega) (by have := H2.out; omega) (sq - 1) (fun W hW => HMV.out W (HG.out _ W hW)) (fun W hW => HAT.out W (HG.out _ W hW)) ?_
            intro W hS
            have HX : Hid (OpX w W w.heap.size t n sq 4 ot on pt pn [] p q l c m d) := ⟨H9.out.below hS, HG.out _ W hS⟩
            have ⟨d0, d1, d2, d3, d4, d5, d6, d7, d8, d9, d10⟩ := HX.out.1.cells
            clear hS
            simp only [putAll, sA, sB, sC, HZ.out]
            go_wp2_with (first | (go_at_call 45; refine Calls_new (HE.out _) ?_; clear HE; intro w2 hb2; have HX := OpX.step HX hb2; have ⟨d0, d1, d2, d3, d4, d5, d6, d7, d8, d9, d10⟩ := HX.out.1.cells; clear hb2) | (go_at_call 44; refine Calls_new (HR.out _) ?_; clear HR; intro w2 hb2; have HX := OpX.step HX hb2; have ⟨d0, d1, d2, d3, d4, d5, d6, d7, d8, d9, d10⟩ := HX.out.1.cells; clear hb2))
            go_ret
            exact ⟨by first | rfl | (simp; done) | (simp; omega), HX.out.2⟩
        · have e1 : (bas nm).toList.isEmpty = false := by rw [bas_toList]; simpa using hn
          rw [decide_eq_false hn]
          clear hn
          go_enter Tryz.func21, Tryz.ntmps21
          go_wp2_with fail
          refine rmay_at (by kernel_rfl) w.heap.size t n sq 4 ot on pt pn nm p q l c m d _ rfl rfl H9.out (fun W _ => HV.out W) (by have := H1.out; omega) (by have := H2.out; omega) (sq - 1) (fun W hW => HMV.out W (HG.out _ W hW)) (fun W hW => HAT.out W (HG.out _ W hW)) ?_
          intro W hS
          have HX : Hid (OpX w W w.heap.size t n sq 4 ot on pt pn nm p q l c m d) := ⟨H9.out.below hS, HG.out _ W hS⟩
          have ⟨d0, d1, d2, d3, d4, d5, d6, d7, d8, d9, d10⟩ := HX.out.1.cells
          clear hS
          simp only [putAll, sA, sB, sC, HZ.out]
          go_wp2_with (first | (go_at_call 45; refine Calls_new (HE.out _) ?_; clear HE; intro w2 hb2; have HX := OpX.step HX hb2; have ⟨d0, d1, d2, d3, d4, d5, d6, d7, d8, d9, d10⟩ := HX.out.1.cells; clear hb2) | (go_at_call 44; refine Calls_new (HR.out _) ?_; clear HR; intro w2 hb2; have HX := OpX.step HX hb2; have ⟨d0, d1, d2, d3, d4, d5, d6, d7, d8, d9, d10⟩ := HX.out.1.cells; clear hb2))
          go_ret
          exact ⟨by first | rfl | (simp; done) | (simp; omega), HX.out.2⟩
  have HF : Hid (kindB t n kd ot on pt pn nm l = false) := by show _ = _; unfold kindB; rw [if_neg h12, if_neg h3, if_neg h4]
  rw [HF.out]
  have n1 : ¬ kd = 1 := fun h => h12 (.inl h)
  have n2 : ¬ kd = 2 := fun h => h12 (.inr h)
  clear HF h12
  go_enter Tryz.func21, Tryz.ntmps21
  go_wp2_with fail
  refine rmay_at (by kernel_rfl) w.heap.size t n sq kd ot on pt pn nm p q l c m d _ rfl rfl H9.out (fun W _ => HV.out W) (by have := H1.out; omega) (by have := H2.out; omega) (sq - 1) (fun W hW => HMV.out W (HG.out _ W hW)) (fun W hW => HAT.out W (HG.out _ W hW)) ?_
  intro W hS
  have HX : Hid (OpX w W w.heap.size t n sq kd ot on pt pn nm p q l c m d) := ⟨H9.out.below hS, HG.out _ W hS⟩
  have ⟨d0, d1, d2, d3, d4, d5, d6, d7, d8, d9, d10⟩ := HX.out.1.cells
  clear hS
  simp only [putAll, sA, sB, sC, HZ.out]
  go_wp2_with (fail)
  go_ret
  exact ⟨by first | rfl | (simp; done) | (simp; omega), HX.out.2⟩
end Go.Proofs.YtgpbphjplbhfmaaGreat.Cd

namespace Go.Proofs.YtgpbphjplbhfmaaGreat.Cd
open Go.RowKit Go.Maps
attribute [local go_sem] Oper.semAt_some
set_option maxRecDepth 8000 in
set_option maxHeartbeats 400000 in
theorem short_le (p : Option Addr) (l c : Nat) (n : Nat) (w : World) (h : l ≤ n) :
    Calls Tryz.prog 39 #[.slice p l c, .int .i64 n] w fun e w' => e = .returned (.slice p l c) ∧ w' = w := by
  have hI : ¬ (n : Int) < l := by omega
  go_enter Tryz.func39, Tryz.ntmps39
  go_wp2
  go_ret
  exact ⟨rfl, rfl⟩
set_option maxRecDepth 8000 in
set_option maxHeartbeats 400000 in
theorem short_gt (g o : Nat) (l c : Nat) (n : Nat) (w : World) (h : n < l) (hn : n < 1000000) (hc : l ≤ c) :
    Calls Tryz.prog 39 #[.slice (some ⟨g, o, none⟩) l c, .int .i64 n] w fun e w' => e = .returned (.slice (some ⟨g, o, none⟩) n c) ∧ w' = w := by
  have hI : (n : Int) < l := by omega
  go_enter Tryz.func39, Tryz.ntmps39
  go_wp2
  go_ret
  exact ⟨rfl, rfl⟩
theorem short_any (p : Option Addr) (bs : List (BitVec 8)) (c n : Nat) (w : World) (hc : bs.length ≤ c) (hn6 : n < 1000000) (hb : Bytes w p bs) :
    (Calls Tryz.prog 39 #[.slice p bs.length c, .int .i64 n] w fun e w' => e = .returned (.slice p (bs.take n).length c) ∧ w' = w) ∧ Bytes w p (bs.take n) ∧ (bs.take n).length ≤ c ∧ (bs.take n).length ≤ n := by
  refine ⟨?_, bytes_take hb n, by simp; omega, by simp; omega⟩
  by_cases h : bs.length ≤ n
  · rw [List.take_of_length_le h]
    exact short_le p bs.length c n w h
  · obtain ⟨g, o, rfl, _⟩ := hb (by omega)
    rw [List.length_take, Nat.min_eq_left (by omega)]
    exact short_gt g o bs.length c n w (by omega) hn6 hc
set_option maxRecDepth 8000 in
set_option maxHeartbeats 4000000 in
theorem cut12_any (t n sq kd ot on pt pn : Int) (nm : List UInt8) (p q : Option Addr) (l c m d : Nat) (data : List (BitVec 8)) (ns : List Int) (w : World) (hl : l = data.length) (hlc : data.length ≤ c) (hm : m = ns.length) (hmd : ns.length ≤ d) (hml : ns.length ≤ maxLen) (hp : Bytes w p data) :
    Calls Tryz.prog 20 #[.agg #[.int .i64 t, .int .i64 n, .int .i64 sq, .int .i64 kd, .int .i64 ot, .int .i64 on, .int .i64 pt, .int .i64 pn, .string (bas nm), .slice p l c, .slice q m d]] w fun e w' => e = .returned (.agg #[.int .i64 t, .int .i64 n, .int .i64 sq, .int .i64 kd, .int .i64 ot, .int .i64 on, .int .i64 pt, .int .i64 pn, .string (bas (nm.take 100)), .slice p (data.take 3000).length c, .slice q (Vc.cut ns).length d]) ∧ Below w.heap.size w w' := by
  have B0 : Below w.heap.size w ((w.alloc (.cells #[.int .i64 t, .int .i64 n, .int .i64 sq, .int .i64 kd, .int .i64 ot, .int .i64 on, .int .i64 pt, .int .i64 pn, .string (bas nm), .slice p l c, .slice q m d] 34)).alloc (.cells #[.int .i64 0, .int .i64 0, .int .i64 0, .int .i64 0, .int .i64 0, .int .i64 0, .int .i64 0, .int .i64 0, .string ⟨#[]⟩, .slice none 0 0, .slice none 0 0] 34)) := ((Below.refl _ _).alloc (Nat.le_refl _) _).alloc (by simp) _
  have H1 : ((w.alloc (.cells #[.int .i64 t, .int .i64 n, .int .i64 sq, .int .i64 kd, .int .i64 ot, .int .i64 on, .int .i64 pt, .int .i64 pn, .string (bas nm), .slice p l c, .slice q m d] 34)).alloc (.cells #[.int .i64 0, .int .i64 0, .int .i64 0, .int .i64 0, .int .i64 0, .int .i64 0, .int .i64 0, .int .i64 0, .string ⟨#[]⟩, .slice none 0 0, .slice none 0 0] 34)).heap[w.heap.size]? = some (.cells #[.int .i64 t, .int .i64 n, .int .i64 sq, .int .i64 kd, .int .i64 ot, .int .i64 on, .int .i64 pt, .int .i64 pn, .string (bas nm), .slice p l c, .slice q m d] 34 (0, 0)) := by rw [Below.heap_alloc _ _ _ (by simp)]; exact heap_alloc_new w _
  have H2 : ((w.alloc (.cells #[.int .i64 t, .int .i64 n, .int .i64 sq, .int .i64 kd, .int .i64 ot, .int .i64 on, .int .i64 pt, .int .i64 pn, .string (bas nm), .slice p l c, .slice q m d] 34)).alloc (.cells #[.int .i64 0, .int .i64 0, .int .i64 0, .int .i64 0, .int .i64 0, .int .i64 0, .int .i64 0, .int .i64 0, .string ⟨#[]⟩, .slice none 0 0, .slice none 0 0] 34)).heap[w.heap.size + 1]? = some (.cells #[.int .i64 0, .int .i64 0, .int .i64 0, .int .i64 0, .int .i64 0, .int .i64 0, .int .i64 0, .int .i64 0, .string ⟨#[]⟩, .slice none 0 0, .slice none 0 0] 34 (0, 0)) := by
    have := heap_alloc_new (w.alloc (.cells #[.int .i64 t, .int .i64 n, .int .i64 sq, .int .i64 kd, .int .i64 ot, .int .i64 on, .int .i64 pt, .int .i64 pn, .string (bas nm), .slice p l c, .slice q m d] 34)) (.cells #[.int .i64 0, .int .i64 0, .int .i64 0, .int .i64 0, .int .i64 0, .int .i64 0, .int .i64 0, .int .i64 0, .string ⟨#[]⟩, .slice none 0 0, .slice none 0 0] 34)
    rwa [show (w.alloc (.cells #[.int .i64 t, .int .i64 n, .int .i64 sq, .int .i64 kd, .int .i64 ot, .int .i64 on, .int .i64 pt, .int .i64 pn, .string (bas nm), .slice p l c, .slice q m d] 34)).heap.size = w.heap.size + 1 by simp] at this
  obtain ⟨cS, _⟩ := short_any p data c 3000 ((w.alloc (.cells #[.int .i64 t, .int .i64 n, .int .i64 sq, .int .i64 kd, .int .i64 ot, .int .i64 on, .int .i64 pt, .int .i64 pn, .string (bas nm), .slice p l c, .slice q m d] 34)).alloc (.cells #[.int .i64 0, .int .i64 0, .int .i64 0, .int .i64 0, .int .i64 0, .int .i64 0, .int .i64 0, .int .i64 0, .string ⟨#[]⟩, .slice none 0 0, .slice none 0 0] 34)) hlc (by decide) (below_bytes B0 hp)
  have cC := fun W => Vc.cut_any q ns d W hmd hml
  rw [← hl] at cS
  rw [← hm] at cC
  obtain ⟨l1, hl1⟩ : ∃ l1, (data.take 3000).length = l1 := ⟨_, rfl⟩
  obtain ⟨m1, hm1⟩ : ∃ m1, (Vc.cut ns).length = m1 := ⟨_, rfl⟩
  rw [hl1] at cS
  rw [hm1] at cC
  rw [hl1, hm1]
  have HO : Hid (Below w.heap.size w ((w.alloc (.cells #[.int .i64 t, .int .i64 n, .int .i64 sq, .int .i64 kd, .int .i64 ot, .int .i64 on, .int .i64 pt, .int .i64 pn, .string (bas nm), .slice p l c, .slice q m d] 34)).alloc (.cells #[.int .i64 0, .int .i64 0, .int .i64 0, .int .i64 0, .int .i64 0, .int .i64 0, .int .i64 0, .int .i64 0, .string ⟨#[]⟩, .slice none 0 0, .slice none 0 0] 34)) ∧ ((w.alloc (.cells #[.int .i64 t, .int .i64 n, .int .i64 sq, .int .i64 kd, .int .i64 ot, .int .i64 on, .int .i64 pt, .int .i64 pn, .string (bas nm), .slice p l c, .slice q m d] 34)).alloc (.cells #[.int .i64 0, .int .i64 0, .int .i64 0, .int .i64 0, .int .i64 0, .int .i64 0, .int .i64 0, .int .i64 0, .string ⟨#[]⟩, .slice none 0 0, .slice none 0 0] 34)).heap[w.heap.size]? = some (.cells #[.int .i64 t, .int .i64 n, .int .i64 sq, .int .i64 kd, .int .i64 ot, .int .i64 on, .int .i64 pt, .int .i64 pn, .string (bas nm), .slice p l c, .slice q m d] 34 (0, 0)) ∧ ((w.alloc (.cells #[.int .i64 t, .int .i64 n, .int .i64 sq, .int .i64 kd, .int .i64 ot, .int .i64 on, .int .i64 pt, .int .i64 pn, .string (bas nm), .slice p l c, .slice q m d] 34)).alloc (.cells #[.int .i64 0, .int .i64 0, .int .i64 0, .int .i64 0, .int .i64 0, .int .i64 0, .int .i64 0, .int .i64 0, .string ⟨#[]⟩, .slice none 0 0, .slice none 0 0] 34)).heap[w.heap.size + 1]? = some (.cells #[.int .i64 0, .int .i64 0, .int .i64 0, .int .i64 0, .int .i64 0, .int .i64 0, .int .i64 0, .int .i64 0, .string ⟨#[]⟩, .slice none 0 0, .slice none 0 0] 34 (0, 0))) := ⟨B0, H1, H2⟩
  have hsz := bas_size nm
  clear hl1 hm1 hl hlc hm hmd hml hp
  have ⟨x0, x1, x2, x3, x4, x5, x6, x7, x8, x9, x10⟩ : ((w.alloc (.cells #[.int .i64 t, .int .i64 n, .int .i64 sq, .int .i64 kd, .int .i64 ot, .int .i64 on, .int .i64 pt, .int .i64 pn, .string (bas nm), .slice p l c, .slice q m d] 34)).alloc (.cells #[.int .i64 0, .int .i64 0, .int .i64 0, .int .i64 0, .int .i64 0, .int .i64 0, .int .i64 0, .int .i64 0, .string ⟨#[]⟩, .slice none 0 0, .slice none 0 0] 34)).cell? ⟨w.heap.size, 0, none⟩ = some (.int .i64 t) ∧ ((w.alloc (.cells #[.int .i64 t, .int .i64 n, .int .i64 sq, .int .i64 kd, .int .i64 ot, .int .i64 on, .int .i64 pt, .int .i64 pn, .string (bas nm), .slice p l c, .slice q m d] 34)).alloc (.cells #[.int .i64 0, .int .i64 0, .int .i64 0, .int .i64 0, .int .i64 0, .int .i64 0, .int .i64 0, .int .i64 0, .string ⟨#[]⟩, .slice none 0 0, .slice none 0 0] 34)).cell? ⟨w.heap.size, 1, none⟩ = some (.int .i64 n) ∧ ((w.alloc (.cells #[.int .i64 t, .int .i64 n, .int .i64 sq, .int .i64 kd, .int .i64 ot, .int .i64 on, .int .i64 pt, .int .i64 pn, .string (bas nm), .slice p l c, .slice q m d] 34)).alloc (.cells #[.int .i64 0, .int .i64 0, .int .i64 0, .int .i64 0, .int .i64 0, .int .i64 0, .int .i64 0, .int .i64 0, .string ⟨#[]⟩, .slice none 0 0, .slice none 0 0] 34)).cell? ⟨w.heap.size, 2, none⟩ = some (.int .i64 sq) ∧ ((w.alloc (.cells #[.int .i64 t, .int .i64 n, .int .i64 sq, .int .i64 kd, .int .i64 ot, .int .i64 on, .int .i64 pt, .int .i64 pn, .string (bas nm), .slice p l c, .slice q m d] 34)).alloc (.cells #[.int .i64 0, .int .i64 0, .int .i64 0, .int .i64 0, .int .i64 0, .int .i64 0, .int .i64 0, .int .i64 0, .string ⟨#[]⟩, .slice none 0 0, .slice none 0 0] 34)).cell? ⟨w.heap.size, 3, none⟩ = some (.int .i64 kd) ∧ ((w.alloc (.cells #[.int .i64 t, .int .i64 n, .int .i64 sq, .int .i64 kd, .int .i64 ot, .int .i64 on, .int .i64 pt, .int .i64 pn, .string (bas nm), .slice p l c, .slice q m d] 34)).alloc (.cells #[.int .i64 0, .int .i64 0, .int .i64 0, .int .i64 0, .int .i64 0, .int .i64 0, .int .i64 0, .int .i64 0, .string ⟨#[]⟩, .slice none 0 0, .slice none 0 0] 34)).cell? ⟨w.heap.size, 4, none⟩ = some (.int .i64 ot) ∧ ((w.alloc (.cells #[.int .i64 t, .int .i64 n, .int .i64 sq, .int .i64 kd, .int .i64 ot, .int .i64 on, .int .i64 pt, .int .i64 pn, .string (bas nm), .slice p l c, .slice q m d] 34)).alloc (.cells #[.int .i64 0, .int .i64 0, .int .i64 0, .int .i64 0, .int .i64 0, .int .i64 0, .int .i64 0, .int .i64 0, .string ⟨#[]⟩, .slice none 0 0, .slice none 0 0] 34)).cell? ⟨w.heap.size, 5, none⟩ = some (.int .i64 on) ∧ ((w.alloc (.cells #[.int .i64 t, .int .i64 n, .int .i64 sq, .int .i64 kd, .int .i64 ot, .int .i64 on, .int .i64 pt, .int .i64 pn, .string (bas nm), .slice p l c, .slice q m d] 34)).alloc (.cells #[.int .i64 0, .int .i64 0, .int .i64 0, .int .i64 0, .int .i64 0, .int .i64 0, .int .i64 0, .int .i64 0, .string ⟨#[]⟩, .slice none 0 0, .slice none 0 0] 34)).cell? ⟨w.heap.size, 6, none⟩ = some (.int .i64 pt) ∧ ((w.alloc (.cells #[.int .i64 t, .int .i64 n, .int .i64 sq, .int .i64 kd, .int .i64 ot, .int .i64 on, .int .i64 pt, .int .i64 pn, .string (bas nm), .slice p l c, .slice q m d] 34)).alloc (.cells #[.int .i64 0, .int .i64 0, .int .i64 0, .int .i64 0, .int .i64 0, .int .i64 0, .int .i64 0, .int .i64 0, .string ⟨#[]⟩, .slice none 0 0, .slice none 0 0] 34)).cell? ⟨w.heap.size, 7, none⟩ = some (.int .i64 pn) ∧ ((w.alloc (.cells #[.int .i64 t, .int .i64 n, .int .i64 sq, .int .i64 kd, .int .i64 ot, .int .i64 on, .int .i64 pt, .int .i64 pn, .string (bas nm), .slice p l c, .slice q m d] 34)).alloc (.cells #[.int .i64 0, .int .i64 0, .int .i64 0, .int .i64 0, .int .i64 0, .int .i64 0, .int .i64 0, .int .i64 0, .string ⟨#[]⟩, .slice none 0 0, .slice none 0 0] 34)).cell? ⟨w.heap.size, 8, none⟩ = some (.string (bas nm)) ∧ ((w.alloc (.cells #[.int .i64 t, .int .i64 n, .int .i64 sq, .int .i64 kd, .int .i64 ot, .int .i64 on, .int .i64 pt, .int .i64 pn, .string (bas nm), .slice p l c, .slice q m d] 34)).alloc (.cells #[.int .i64 0, .int .i64 0, .int .i64 0, .int .i64 0, .int .i64 0, .int .i64 0, .int .i64 0, .int .i64 0, .string ⟨#[]⟩, .slice none 0 0, .slice none 0 0] 34)).cell? ⟨w.heap.size, 9, none⟩ = some (.slice p l c) ∧ ((w.alloc (.cells #[.int .i64 t, .int .i64 n, .int .i64 sq, .int .i64 kd, .int .i64 ot, .int .i64 on, .int .i64 pt, .int .i64 pn, .string (bas nm), .slice p l c, .slice q m d] 34)).alloc (.cells #[.int .i64 0, .int .i64 0, .int .i64 0, .int .i64 0, .int .i64 0, .int .i64 0, .int .i64 0, .int .i64 0, .string ⟨#[]⟩, .slice none 0 0, .slice none 0 0] 34)).cell? ⟨w.heap.size, 10, none⟩ = some (.slice q m d) := ⟨cellOf H1 0, cellOf H1 1, cellOf H1 2, cellOf H1 3, cellOf H1 4, cellOf H1 5, cellOf H1 6, cellOf H1 7, cellOf H1 8, cellOf H1 9, cellOf H1 10⟩
  have f9 : ((w.alloc (.cells #[.int .i64 t, .int .i64 n, .int .i64 sq, .int .i64 kd, .int .i64 ot, .int .i64 on, .int .i64 pt, .int .i64 pn, .string (bas nm), .slice p l c, .slice q m d] 34)).alloc (.cells #[.int .i64 0, .int .i64 0, .int .i64 0, .int .i64 0, .int .i64 0, .int .i64 0, .int .i64 0, .int .i64 0, .string ⟨#[]⟩, .slice none 0 0, .slice none 0 0] 34)).frozen? ⟨w.heap.size, 9, none⟩ = false := frozenOf H1 9
  have f8 : ((w.alloc (.cells #[.int .i64 t, .int .i64 n, .int .i64 sq, .int .i64 kd, .int .i64 ot, .int .i64 on, .int .i64 pt, .int .i64 pn, .string (bas nm), .slice p l c, .slice q m d] 34)).alloc (.cells #[.int .i64 0, .int .i64 0, .int .i64 0, .int .i64 0, .int .i64 0, .int .i64 0, .int .i64 0, .int .i64 0, .string ⟨#[]⟩, .slice none 0 0, .slice none 0 0] 34)).frozen? ⟨w.heap.size, 8, none⟩ = false := frozenOf H1 8
  have f10 : ((w.alloc (.cells #[.int .i64 t, .int .i64 n, .int .i64 sq, .int .i64 kd, .int .i64 ot, .int .i64 on, .int .i64 pt, .int .i64 pn, .string (bas nm), .slice p l c, .slice q m d] 34)).alloc (.cells #[.int .i64 0, .int .i64 0, .int .i64 0, .int .i64 0, .int .i64 0, .int .i64 0, .int .i64 0, .int .i64 0, .string ⟨#[]⟩, .slice none 0 0, .slice none 0 0] 34)).frozen? ⟨w.heap.size, 10, none⟩ = false := frozenOf H1 10
  have ⟨z0, z1, z2, z3, z4, z5, z6, z7, z8, z9, z10⟩ : ((w.alloc (.cells #[.int .i64 t, .int .i64 n, .int .i64 sq, .int .i64 kd, .int .i64 ot, .int .i64 on, .int .i64 pt, .int .i64 pn, .string (bas nm), .slice p l c, .slice q m d] 34)).alloc (.cells #[.int .i64 0, .int .i64 0, .int .i64 0, .int .i64 0, .int .i64 0, .int .i64 0, .int .i64 0, .int .i64 0, .string ⟨#[]⟩, .slice none 0 0, .slice none 0 0] 34)).cell? ⟨w.heap.size + 1, 0, none⟩ = some (.int .i64 0) ∧ ((w.alloc (.cells #[.int .i64 t, .int .i64 n, .int .i64 sq, .int .i64 kd, .int .i64 ot, .int .i64 on, .int .i64 pt, .int .i64 pn, .string (bas nm), .slice p l c, .slice q m d] 34)).alloc (.cells #[.int .i64 0, .int .i64 0, .int .i64 0, .int .i64 0, .int .i64 0, .int .i64 0, .int .i64 0, .int .i64 0, .string ⟨#[]⟩, .slice none 0 0, .slice none 0 0] 34)).cell? ⟨w.heap.size + 1, 1, none⟩ = some (.int .i64 0) ∧ ((w.alloc (.cells #[.int .i64 t, .int .i64 n, .int .i64 sq, .int .i64 kd, .int .i64 ot, .int .i64 on, .int .i64 pt, .int .i64 pn, .string (bas nm), .slice p l c, .slice q m d] 34)).alloc (.cells #[.int .i64 0, .int .i64 0, .int .i64 0, .int .i64 0, .int .i64 0, .int .i64 0, .int .i64 0, .int .i64 0, .string ⟨#[]⟩, .slice none 0 0, .slice none 0 0] 34)).cell? ⟨w.heap.size + 1, 2, none⟩ = some (.int .i64 0) ∧ ((w.alloc (.cells #[.int .i64 t, .int .i64 n, .int .i64 sq, .int .i64 kd, .int .i64 ot, .int .i64 on, .int .i64 pt, .int .i64 pn, .string (bas nm), .slice p l c, .slice q m d] 34)).alloc (.cells #[.int .i64 0, .int .i64 0, .int .i64 0, .int .i64 0, .int .i64 0, .int .i64 0, .int .i64 0, .int .i64 0, .string ⟨#[]⟩, .slice none 0 0, .slice none 0 0] 34)).cell? ⟨w.heap.size + 1, 3, none⟩ = some (.int .i64 0) ∧ ((w.alloc (.cells #[.int .i64 t, .int .i64 n, .int .i64 sq, .int .i64 kd, .int .i64 ot, .int .i64 on, .int .i64 pt, .int .i64 pn, .string (bas nm), .slice p l c, .slice q m d] 34)).alloc (.cells #[.int .i64 0, .int .i64 0, .int .i64 0, .int .i64 0, .int .i64 0, .int .i64 0, .int .i64 0, .int .i64 0, .string ⟨#[]⟩, .slice none 0 0, .slice none 0 0] 34)).cell? ⟨w.heap.size + 1, 4, none⟩ = some (.int .i64 0) ∧ ((w.alloc (.cells #[.int .i64 t, .int .i64 n, .int .i64 sq, .int .i64 kd, .int .i64 ot, .int .i64 on, .int .i64 pt, .int .i64 pn, .string (bas nm), .slice p l c, .slice q m d] 34)).alloc (.cells #[.int .i64 0, .int .i64 0, .int .i64 0, .int .i64 0, .int .i64 0, .int .i64 0, .int .i64 0, .int .i64 0, .string ⟨#[]⟩, .slice none 0 0, .slice none 0 0] 34)).cell? ⟨w.heap.size + 1, 5, none⟩ = some (.int .i64 0) ∧ ((w.alloc (.cells #[.int .i64 t, .int .i64 n, .int .i64 sq, .int .i64 kd, .int .i64 ot, .int .i64 on, .int .i64 pt, .int .i64 pn, .string (bas nm), .slice p l c, .slice q m d] 34)).alloc (.cells #[.int .i64 0, .int .i64 0, .int .i64 0, .int .i64 0, .int .i64 0, .int .i64 0, .int .i64 0, .int .i64 0, .string ⟨#[]⟩, .slice none 0 0, .slice none 0 0] 34)).cell? ⟨w.heap.size + 1, 6, none⟩ = some (.int .i64 0) ∧ ((w.alloc (.cells #[.int .i64 t, .int .i64 n, .int .i64 sq, .int .i64 kd, .int .i64 ot, .int .i64 on, .int .i64 pt, .int .i64 pn, .string (bas nm), .slice p l c, .slice q m d] 34)).alloc (.cells #[.int .i64 0, .int .i64 0, .int .i64 0, .int .i64 0, .int .i64 0, .int .i64 0, .int .i64 0, .int .i64 0, .string ⟨#[]⟩, .slice none 0 0, .slice none 0 0] 34)).cell? ⟨w.heap.size + 1, 7, none⟩ = some (.int .i64 0) ∧ ((w.alloc (.cells #[.int .i64 t, .int .i64 n, .int .i64 sq, .int .i64 kd, .int .i64 ot, .int .i64 on, .int .i64 pt, .int .i64 pn, .string (bas nm), .slice p l c, .slice q m d] 34)).alloc (.cells #[.int .i64 0, .int .i64 0, .int .i64 0, .int .i64 0, .int .i64 0, .int .i64 0, .int .i64 0, .int .i64 0, .string ⟨#[]⟩, .slice none 0 0, .slice none 0 0] 34)).cell? ⟨w.heap.size + 1, 8, none⟩ = some (.string ⟨#[]⟩) ∧ ((w.alloc (.cells #[.int .i64 t, .int .i64 n, .int .i64 sq, .int .i64 kd, .int .i64 ot, .int .i64 on, .int .i64 pt, .int .i64 pn, .string (bas nm), .slice p l c, .slice q m d] 34)).alloc (.cells #[.int .i64 0, .int .i64 0, .int .i64 0, .int .i64 0, .int .i64 0, .int .i64 0, .int .i64 0, .int .i64 0, .string ⟨#[]⟩, .slice none 0 0, .slice none 0 0] 34)).cell? ⟨w.heap.size + 1, 9, none⟩ = some (.slice none 0 0) ∧ ((w.alloc (.cells #[.int .i64 t, .int .i64 n, .int .i64 sq, .int .i64 kd, .int .i64 ot, .int .i64 on, .int .i64 pt, .int .i64 pn, .string (bas nm), .slice p l c, .slice q m d] 34)).alloc (.cells #[.int .i64 0, .int .i64 0, .int .i64 0, .int .i64 0, .int .i64 0, .int .i64 0, .int .i64 0, .int .i64 0, .string ⟨#[]⟩, .slice none 0 0, .slice none 0 0] 34)).cell? ⟨w.heap.size + 1, 10, none⟩ = some (.slice none 0 0) := ⟨cellOf H2 0, cellOf H2 1, cellOf H2 2, cellOf H2 3, cellOf H2 4, cellOf H2 5, cellOf H2 6, cellOf H2 7, cellOf H2 8, cellOf H2 9, cellOf H2 10⟩
  have fz : ∀ k, ((w.alloc (.cells #[.int .i64 t, .int .i64 n, .int .i64 sq, .int .i64 kd, .int .i64 ot, .int .i64 on, .int .i64 pt, .int .i64 pn, .string (bas nm), .slice p l c, .slice q m d] 34)).alloc (.cells #[.int .i64 0, .int .i64 0, .int .i64 0, .int .i64 0, .int .i64 0, .int .i64 0, .int .i64 0, .int .i64 0, .string ⟨#[]⟩, .slice none 0 0, .slice none 0 0] 34)).frozen? ⟨w.heap.size + 1, k, none⟩ = false := fun k => frozenOf H2 k
  have ⟨y0, y1, y2, y3, y4, y5, y6, y7, y8, y9, y10⟩ := (⟨fz 0, fz 1, fz 2, fz 3, fz 4, fz 5, fz 6, fz 7, fz 8, fz 9, fz 10⟩ : ((w.alloc (.cells #[.int .i64 t, .int .i64 n, .int .i64 sq, .int .i64 kd, .int .i64 ot, .int .i64 on, .int .i64 pt, .int .i64 pn, .string (bas nm), .slice p l c, .slice q m d] 34)).alloc (.cells #[.int .i64 0, .int .i64 0, .int .i64 0, .int .i64 0, .int .i64 0, .int .i64 0, .int .i64 0, .int .i64 0, .string ⟨#[]⟩, .slice none 0 0, .slice none 0 0] 34)).frozen? ⟨w.heap.size + 1, 0, none⟩ = false ∧ ((w.alloc (.cells #[.int .i64 t, .int .i64 n, .int .i64 sq, .int .i64 kd, .int .i64 ot, .int .i64 on, .int .i64 pt, .int .i64 pn, .string (bas nm), .slice p l c, .slice q m d] 34)).alloc (.cells #[.int .i64 0, .int .i64 0, .int .i64 0, .int .i64 0, .int .i64 0, .int .i64 0, .int .i64 0, .int .i64 0, .string ⟨#[]⟩, .slice none 0 0, .slice none 0 0] 34)).frozen? ⟨w.heap.size + 1, 1, none⟩ = false ∧ ((w.alloc (.cells #[.int .i64 t, .int .i64 n, .int .i64 sq, .int .i64 kd, .int .i64 ot, .int .i64 on, .int .i64 pt, .int .i64 pn, .string (bas nm), .slice p l c, .slice q m d] 34)).alloc (.cells #[.int .i64 0, .int .i64 0, .int .i64 0, .int .i64 0, .int .i64 0, .int .i64 0, .int .i64 0, .int .i64 0, .string ⟨#[]⟩, .slice none 0 0, .slice none 0 0] 34)).frozen? ⟨w.heap.size + 1, 2, none⟩ = false ∧ ((w.alloc (.cells #[.int .i64 t, .int .i64 n, .int .i64 sq, .int .i64 kd, .int .i64 ot, .int .i64 on, .int .i64 pt, .int .i64 pn, .string (bas nm), .slice p l c, .slice q m d] 34)).alloc (.cells #[.int .i64 0, .int .i64 0, .int .i64 0, .int .i64 0, .int .i64 0, .int .i64 0, .int .i64 0, .int .i64 0, .string ⟨#[]⟩, .slice none 0 0, .slice none 0 0] 34)).frozen? ⟨w.heap.size + 1, 3, none⟩ = false ∧ ((w.alloc (.cells #[.int .i64 t, .int .i64 n, .int .i64 sq, .int .i64 kd, .int .i64 ot, .int .i64 on, .int .i64 pt, .int .i64 pn, .string (bas nm), .slice p l c, .slice q m d] 34)).alloc (.cells #[.int .i64 0, .int .i64 0, .int .i64 0, .int .i64 0, .int .i64 0, .int .i64 0, .int .i64 0, .int .i64 0, .string ⟨#[]⟩, .slice none 0 0, .slice none 0 0] 34)).frozen? ⟨w.heap.size + 1, 4, none⟩ = false ∧ ((w.alloc (.cells #[.int .i64 t, .int .i64 n, .int .i64 sq, .int .i64 kd, .int .i64 ot, .int .i64 on, .int .i64 pt, .int .i64 pn, .string (bas nm), .slice p l c, .slice q m d] 34)).alloc (.cells #[.int .i64 0, .int .i64 0, .int .i64 0, .int .i64 0, .int .i64 0, .int .i64 0, .int .i64 0, .int .i64 0, .string ⟨#[]⟩, .slice none 0 0, .slice none 0 0] 34)).frozen? ⟨w.heap.size + 1, 5, none⟩ = false ∧ ((w.alloc (.cells #[.int .i64 t, .int .i64 n, .int .i64 sq, .int .i64 kd, .int .i64 ot, .int .i64 on, .int .i64 pt, .int .i64 pn, .string (bas nm), .slice p l c, .slice q m d] 34)).alloc (.cells #[.int .i64 0, .int .i64 0, .int .i64 0, .int .i64 0, .int .i64 0, .int .i64 0, .int .i64 0, .int .i64 0, .string ⟨#[]⟩, .slice none 0 0, .slice none 0 0] 34)).frozen? ⟨w.heap.size + 1, 6, none⟩ = false ∧ ((w.alloc (.cells #[.int .i64 t, .int .i64 n, .int .i64 sq, .int .i64 kd, .int .i64 ot, .int .i64 on, .int .i64 pt, .int .i64 pn, .string (bas nm), .slice p l c, .slice q m d] 34)).alloc (.cells #[.int .i64 0, .int .i64 0, .int .i64 0, .int .i64 0, .int .i64 0, .int .i64 0, .int .i64 0, .int .i64 0, .string ⟨#[]⟩, .slice none 0 0, .slice none 0 0] 34)).frozen? ⟨w.heap.size + 1, 7, none⟩ = false ∧ ((w.alloc (.cells #[.int .i64 t, .int .i64 n, .int .i64 sq, .int .i64 kd, .int .i64 ot, .int .i64 on, .int .i64 pt, .int .i64 pn, .string (bas nm), .slice p l c, .slice q m d] 34)).alloc (.cells #[.int .i64 0, .int .i64 0, .int .i64 0, .int .i64 0, .int .i64 0, .int .i64 0, .int .i64 0, .int .i64 0, .string ⟨#[]⟩, .slice none 0 0, .slice none 0 0] 34)).frozen? ⟨w.heap.size + 1, 8, none⟩ = false ∧ ((w.alloc (.cells #[.int .i64 t, .int .i64 n, .int .i64 sq, .int .i64 kd, .int .i64 ot, .int .i64 on, .int .i64 pt, .int .i64 pn, .string (bas nm), .slice p l c, .slice q m d] 34)).alloc (.cells #[.int .i64 0, .int .i64 0, .int .i64 0, .int .i64 0, .int .i64 0, .int .i64 0, .int .i64 0, .int .i64 0, .string ⟨#[]⟩, .slice none 0 0, .slice none 0 0] 34)).frozen? ⟨w.heap.size + 1, 9, none⟩ = false ∧ ((w.alloc (.cells #[.int .i64 t, .int .i64 n, .int .i64 sq, .int .i64 kd, .int .i64 ot, .int .i64 on, .int .i64 pt, .int .i64 pn, .string (bas nm), .slice p l c, .slice q m d] 34)).alloc (.cells #[.int .i64 0, .int .i64 0, .int .i64 0, .int .i64 0, .int .i64 0, .int .i64 0, .int .i64 0, .int .i64 0, .string ⟨#[]⟩, .slice none 0 0, .slice none 0 0] 34)).frozen? ⟨w.heap.size + 1, 10, none⟩ = false)
  clear B0 H1 H2 fz
  by_cases h : 100 < nm.length
  · have hI : (100 : Int) < (nm.length : Int) := by omega
    have h90 : 100 ≤ (bas nm).size := by omega
    have HN : Hid ((bas nm).extract 0 100 = bas (nm.take 100)) := by
      show _ = _
      unfold bas
      rw [show ((⟨nm.toArray⟩ : ByteArray).extract 0 100) = ⟨(nm.toArray).extract 0 100⟩ by ext1; simp [ByteArray.data_extract]]
      simp
    go_enter Tryz.func20, Tryz.ntmps20
    go_wp2_with (first | (go_at_call 39; refine Calls_on cS ?_; clear cS) | (go_at_call 40; refine Calls_on (cC _) ?_))
    refine bodyPost_ret (v := .agg #[.int .i64 t, .int .i64 n, .int .i64 sq, .int .i64 kd, .int .i64 ot, .int .i64 on, .int .i64 pt, .int .i64 pn, .string ((bas nm).extract 0 100), .slice p l1 c, .slice q m1 d]) (by simp [results, Tryz.results20, go_sem]) rfl ?_
    refine ⟨by rw [HN.out], ?_⟩
    exact ((Below.refl _ _).alloc (Nat.le_refl _) _).alloc (by simp) _
  · have hI : ¬ (100 : Int) < (nm.length : Int) := by omega
    have HN : Hid (nm.take 100 = nm) := List.take_of_length_le (by omega)
    rw [HN.out]
    go_enter Tryz.func20, Tryz.ntmps20
    go_wp2_with (first | (go_at_call 39; refine Calls_on cS ?_; clear cS) | (go_at_call 40; refine Calls_on (cC _) ?_))
    refine bodyPost_ret (v := .agg #[.int .i64 t, .int .i64 n, .int .i64 sq, .int .i64 kd, .int .i64 ot, .int .i64 on, .int .i64 pt, .int .i64 pn, .string (bas nm), .slice p l1 c, .slice q m1 d]) (by simp [results, Tryz.results20, go_sem]) rfl ?_
    refine ⟨rfl, ?_⟩
    exact ((Below.refl _ _).alloc (Nat.le_refl _) _).alloc (by simp) _
end Go.Proofs.YtgpbphjplbhfmaaGreat.Cd
