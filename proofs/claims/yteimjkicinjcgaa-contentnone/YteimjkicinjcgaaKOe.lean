/-
  Which operations may be: ops.May.
-/
import Derived.Test.YteimjkicinjcgaaKOc
import Derived.Test.YteimjkicinjcgaaKOd

namespace Go.Proofs.Yteimjkicinjcgaa.Cd
open Go.RowKit Go.Maps

attribute [local go_sem] Oper.semAt_some

def rootB (a b : Int) : Bool := decide (a = 0) && decide (b = 0)
def trashB (a b : Int) : Bool := decide (a = 0) && decide (b = 1)
def sameB (a b x y : Int) : Bool := decide (a = x) && decide (b = y)
def countB (n sq : Int) (ns : List Int) : Bool := decide (1 ≤ sq) && decide (sq ≤ 1152921504606846976) && mayB ns && decide (Vc.atZ ns n = sq - 1)
def kindB (t n kd ot on pt pn : Int) (nm : List UInt8) (l : Nat) : Bool :=
  if kd = 1 ∨ kd = 2 then sameB ot on t n && (rootB pt pn || olderB pt pn t n) && placedB nm l
  else if kd = 3 then olderB ot on t n && (rootB pt pn || olderB pt pn t n || trashB pt pn) && placedB nm l
  else if kd = 4 then olderB ot on t n && rootB pt pn && decide (nm = []) && decide (l ≤ 65536)
  else false
def mayO (t n sq kd ot on pt pn : Int) (nm : List UInt8) (l : Nat) (ns : List Int) : Bool := Ck.validB t n && countB n sq ns && kindB t n kd ot on pt pn nm l
theorem quiet_new {f : Nat} {args : Array Value} {w : World} {v : Ending} (h : Calls Try.prog f args w fun e w' => e = v ∧ w' = w) : Calls Try.prog f args w fun e w' => e = v ∧ Below w.heap.size w w' :=
  h.mono (by rintro e w' ⟨rfl, rfl⟩; exact ⟨rfl, Below.refl _ _⟩)

set_option maxRecDepth 8000 in
set_option maxHeartbeats 1000000 in
theorem hold_any (t n sq kd ot on pt pn : Int) (nm : List UInt8) (p q : Option Addr) (l c m d : Nat) (w : World) :
    Calls Try.prog 64 #[.agg #[.int .i64 t, .int .i64 n, .int .i64 sq, .int .i64 kd, .int .i64 ot, .int .i64 on, .int .i64 pt, .int .i64 pn, .string (bas nm), .slice p l c, .slice q m d]] w fun e w' => e = .returned (.bool (rootB pt pn || olderB pt pn t n)) ∧ Below w.heap.size w w' := by
  have H9 : Hid (OpB (w.alloc (.cells #[.int .i64 t, .int .i64 n, .int .i64 sq, .int .i64 kd, .int .i64 ot, .int .i64 on, .int .i64 pt, .int .i64 pn, .string (bas nm), .slice p l c, .slice q m d] 35)) w.heap.size t n sq kd ot on pt pn nm p q l c m d) := OpB.made w t n sq kd ot on pt pn nm p q l c m d
  have B0 : Hid (∀ o, Below w.heap.size w (w.alloc o)) := fun o => (below_new w o).out
  have HE : Hid (∀ W, Calls Try.prog 66 #[idv pt pn, .agg #[.int .i64 t, .int .i64 n, .int .i64 sq, .int .i64 kd, .int .i64 ot, .int .i64 on, .int .i64 pt, .int .i64 pn, .string (bas nm), .slice p l c, .slice q m d]] W fun e w' => e = .returned (.bool (olderB pt pn t n)) ∧ Below W.heap.size W w') := fun W => earlier_any pt pn t n sq kd ot on pt pn nm p q l c m d W
  by_cases hr : pt = 0 ∧ pn = 0
  · have HF : Hid ((rootB pt pn || olderB pt pn t n) = true) := by show _ = _; simp [rootB, hr]
    have HR : Hid (pt = 0 ∧ pn = 0) := hr
    clear hr
    go_enter Try.func64, Try.ntmps64
    go_wp2_with fail
    refine hold_root (by kernel_rfl) w.heap.size t n sq kd ot on pt pn nm p q l c m d _ rfl rfl H9.out (fun W _ => root_any W) HR.out ?_
    intro W hS
    have HS : Hid (Below w.heap.size w W) := (B0.out _).trans (hS.mono (B0.out _).size)
    clear hS
    simp only [putAll, List.setIfInBounds_toArray, List.set_cons_zero, List.set_cons_succ]
    go_wp2
    go_ret
    rw [HF.out]
    exact ⟨rfl, HS.out⟩
  · have HF : Hid ((rootB pt pn || olderB pt pn t n) = olderB pt pn t n) := by
      show _ = _
      have : rootB pt pn = false := by
        unfold rootB
        by_cases h1 : pt = 0
        · have : ¬ pn = 0 := fun h2 => hr ⟨h1, h2⟩
          simp [this]
        · simp [h1]
      rw [this, Bool.false_or]
    have HR : Hid (¬ pt = 0 ∨ ¬ pn = 0) := by
      by_cases h1 : pt = 0
      · exact .inr (fun h2 => hr ⟨h1, h2⟩)
      · exact .inl h1
    clear hr
    obtain ⟨x, hx⟩ : ∃ x, olderB pt pn t n = x := ⟨_, rfl⟩
    rw [hx] at HE HF
    rw [hx]
    clear hx
    go_enter Try.func64, Try.ntmps64
    go_wp2_with fail
    refine hold_not (by kernel_rfl) w.heap.size t n sq kd ot on pt pn nm p q l c m d _ rfl rfl H9.out (fun W _ => root_any W) HR.out x (fun W _ => HE.out W) ?_
    intro W hS
    have HS : Hid (Below w.heap.size w W) := (B0.out _).trans (hS.mono (B0.out _).size)
    clear hS
    simp only [putAll, List.setIfInBounds_toArray, List.set_cons_zero, List.set_cons_succ]
    go_wp2
    go_ret
    rw [HF.out]
    exact ⟨rfl, HS.out⟩

set_option maxRecDepth 8000 in
set_option maxHeartbeats 1000000 in
theorem counted_any (t n sq kd ot on pt pn : Int) (nm : List UInt8) (p q : Option Addr) (l c m d : Nat) (ns : List Int) (w : World) (hm : ns.length = m) (hl : ns.length ≤ 1000000) (hd : ns.length ≤ d) (hq : Lies w q (ns.map iv)) :
    Calls Try.prog 48 #[.agg #[.int .i64 t, .int .i64 n, .int .i64 sq, .int .i64 kd, .int .i64 ot, .int .i64 on, .int .i64 pt, .int .i64 pn, .string (bas nm), .slice p l c, .slice q m d]] w fun e w' => e = .returned (.bool (countB n sq ns)) ∧ Below w.heap.size w w' := by
  have H9 : Hid (OpB (w.alloc (.cells #[.int .i64 t, .int .i64 n, .int .i64 sq, .int .i64 kd, .int .i64 ot, .int .i64 on, .int .i64 pt, .int .i64 pn, .string (bas nm), .slice p l c, .slice q m d] 35)) w.heap.size t n sq kd ot on pt pn nm p q l c m d) := OpB.made w t n sq kd ot on pt pn nm p q l c m d
  have B0 : Hid (∀ o, Below w.heap.size w (w.alloc o)) := fun o => (below_new w o).out
  have HV : Hid (∀ W, Below w.heap.size w W → Calls Try.prog 63 #[.slice q m d] W fun e w' => e = .returned (.bool (mayB ns)) ∧ Below W.heap.size W w') := fun W hW => by
    have := vector_may q ns d W hl hd (below_lies hW hq)
    rwa [hm] at this
  have HA : Hid (∀ W, Below w.heap.size w W → Calls Try.prog 59 #[.slice q m d, .int .i64 n] W fun e w' => e = .returned (.int .i64 (Vc.atZ ns n)) ∧ Below W.heap.size W w') := fun W hW => by
    have := Vc.at_any q ns d n W (below_lies hW hq)
    rw [hm] at this
    exact quiet_new this
  clear hm hl hd hq
  have HG : Hid (∀ o W, Below (w.alloc o).heap.size (w.alloc o) W → Below w.heap.size w W) := fun o W h => (B0.out o).trans (h.mono (B0.out o).size)
  by_cases h1 : 1 ≤ sq
  · by_cases h2 : sq ≤ 1152921504606846976
    · have HF : Hid (countB n sq ns = (mayB ns && decide (Vc.atZ ns n = sq - 1))) := by show _ = _; simp [countB, h1, h2]
      have H1 : Hid (1 ≤ sq) := h1
      have H2 : Hid (sq ≤ 1152921504606846976) := h2
      cases hv : mayB ns with
      | true =>
        rw [hv] at HV HF
        obtain ⟨z, hz⟩ : ∃ z, Vc.atZ ns n = z := ⟨_, rfl⟩
        rw [hz] at HA HF
        clear hv hz h1 h2
        go_enter Try.func48, Try.ntmps48
        go_wp2_with fail
        refine cnt_at (by kernel_rfl) w.heap.size t n sq kd ot on pt pn nm p q l c m d _ rfl rfl H9.out H1.out H2.out z (fun W hW => HV.out W (HG.out _ W hW)) (fun W hW => HA.out W (HG.out _ W hW)) ?_
        intro W hS
        have HS : Hid (Below w.heap.size w W) := HG.out _ W hS
        clear hS
        simp only [putAll, List.setIfInBounds_toArray, List.set_cons_zero, List.set_cons_succ]
        go_wp2
        go_ret
        rw [HF.out]
        refine ⟨?_, HS.out⟩
        rw [Bool.true_and]
        rfl
      | false =>
        rw [hv] at HV HF
        clear hv h1 h2
        go_enter Try.func48, Try.ntmps48
        go_wp2_with fail
        refine cnt_vec (by kernel_rfl) w.heap.size t n sq kd ot on pt pn nm p q l c m d _ rfl rfl H9.out H1.out H2.out (fun W hW => HV.out W (HG.out _ W hW)) ?_
        intro W hS
        have HS : Hid (Below w.heap.size w W) := HG.out _ W hS
        clear hS
        simp only [putAll, List.setIfInBounds_toArray, List.set_cons_zero, List.set_cons_succ]
        go_wp2
        go_ret
        rw [HF.out]
        exact ⟨rfl, HS.out⟩
    · have HF : Hid (countB n sq ns = false) := by show _ = _; simp [countB, h2]
      have H1 : Hid (1 ≤ sq) := h1
      have H2 : Hid (¬ sq ≤ 1152921504606846976) := h2
      clear h1 h2
      go_enter Try.func48, Try.ntmps48
      go_wp2_with fail
      refine cnt_high (by kernel_rfl) w.heap.size t n sq kd ot on pt pn nm p q l c m d _ rfl rfl H9.out (by have := H1.out; omega) (by have := H2.out; omega) ?_
      intro W hS
      have HS : Hid (Below w.heap.size w W) := HG.out _ W hS
      clear hS
      simp only [putAll, List.setIfInBounds_toArray, List.set_cons_zero, List.set_cons_succ]
      go_wp2
      go_ret
      rw [HF.out]
      exact ⟨rfl, HS.out⟩
  · have HF : Hid (countB n sq ns = false) := by show _ = _; simp [countB, h1]
    have H1 : Hid (¬ 1 ≤ sq) := h1
    clear h1
    go_enter Try.func48, Try.ntmps48
    go_wp2_with fail
    refine cnt_low (by kernel_rfl) w.heap.size t n sq kd ot on pt pn nm p q l c m d _ rfl rfl H9.out (by have := H1.out; omega) ?_
    intro W hS
    have HS : Hid (Below w.heap.size w W) := HG.out _ W hS
    clear hS
    simp only [putAll, List.setIfInBounds_toArray, List.set_cons_zero, List.set_cons_succ]
    go_wp2
    go_ret
    rw [HF.out]
    exact ⟨rfl, HS.out⟩

theorem sameB_true {a b x y : Int} : sameB a b x y = true ↔ a = x ∧ b = y := by simp [sameB]
theorem rootB_true {a b : Int} : rootB a b = true ↔ a = 0 ∧ b = 0 := by simp [rootB]
theorem trashB_true {a b : Int} : trashB a b = true ↔ a = 0 ∧ b = 1 := by simp [trashB]
theorem not_two {a b x y : Int} (h : ¬ (a = x ∧ b = y)) : ¬ a = x ∨ ¬ b = y := by
  by_cases h1 : a = x
  · exact .inr (fun h2 => h ⟨h1, h2⟩)
  · exact .inl h1

set_option maxRecDepth 8000 in
set_option maxHeartbeats 4000000 in
theorem kind_any (t n sq kd ot on pt pn : Int) (nm : List UInt8) (p q : Option Addr) (l c m d : Nat) (w : World) (hs : nm.length < 1000000000000000) (hl : l < 9000000000000000000) :
    Calls Try.prog 49 #[.agg #[.int .i64 t, .int .i64 n, .int .i64 sq, .int .i64 kd, .int .i64 ot, .int .i64 on, .int .i64 pt, .int .i64 pn, .string (bas nm), .slice p l c, .slice q m d]] w fun e w' => e = .returned (.bool (kindB t n kd ot on pt pn nm l)) ∧ Below w.heap.size w w' := by
  have H9 : Hid (OpB (w.alloc (.cells #[.int .i64 t, .int .i64 n, .int .i64 sq, .int .i64 kd, .int .i64 ot, .int .i64 on, .int .i64 pt, .int .i64 pn, .string (bas nm), .slice p l c, .slice q m d] 35)) w.heap.size t n sq kd ot on pt pn nm p q l c m d) := OpB.made w t n sq kd ot on pt pn nm p q l c m d
  have B0 : Hid (∀ o, Below w.heap.size w (w.alloc o)) := fun o => (below_new w o).out
  have HG : Hid (∀ o W, Below (w.alloc o).heap.size (w.alloc o) W → Below w.heap.size w W) := fun o W h => (B0.out o).trans (h.mono (B0.out o).size)
  have HE : Hid (∀ W, Calls Try.prog 66 #[idv ot on, .agg #[.int .i64 t, .int .i64 n, .int .i64 sq, .int .i64 kd, .int .i64 ot, .int .i64 on, .int .i64 pt, .int .i64 pn, .string (bas nm), .slice p l c, .slice q m d]] W fun e w' => e = .returned (.bool (olderB ot on t n)) ∧ Below W.heap.size W w') := fun W => earlier_any ot on t n sq kd ot on pt pn nm p q l c m d W
  have HH : Hid (∀ W, Calls Try.prog 64 #[.agg #[.int .i64 t, .int .i64 n, .int .i64 sq, .int .i64 kd, .int .i64 ot, .int .i64 on, .int .i64 pt, .int .i64 pn, .string (bas nm), .slice p l c, .slice q m d]] W fun e w' => e = .returned (.bool (rootB pt pn || olderB pt pn t n)) ∧ Below W.heap.size W w') := fun W => hold_any t n sq kd ot on pt pn nm p q l c m d W
  have HP : Hid (∀ W, Calls Try.prog 65 #[.agg #[.int .i64 t, .int .i64 n, .int .i64 sq, .int .i64 kd, .int .i64 ot, .int .i64 on, .int .i64 pt, .int .i64 pn, .string (bas nm), .slice p l c, .slice q m d]] W fun e w' => e = .returned (.bool (placedB nm l)) ∧ Below W.heap.size W w') := fun W => placed_any t n sq kd ot on pt pn nm p q l c m d W hs
  have HK : Hid (∀ W, OpB W w.heap.size t n sq kd ot on pt pn nm p q l c m d → W.cell? ⟨w.heap.size, 0, none⟩ = some (.int .i64 t) ∧ W.cell? ⟨w.heap.size, 1, none⟩ = some (.int .i64 n) ∧ W.cell? ⟨w.heap.size, 2, none⟩ = some (.int .i64 sq) ∧ W.cell? ⟨w.heap.size, 3, none⟩ = some (.int .i64 kd) ∧ W.cell? ⟨w.heap.size, 4, none⟩ = some (.int .i64 ot) ∧ W.cell? ⟨w.heap.size, 5, none⟩ = some (.int .i64 on) ∧ W.cell? ⟨w.heap.size, 6, none⟩ = some (.int .i64 pt) ∧ W.cell? ⟨w.heap.size, 7, none⟩ = some (.int .i64 pn) ∧ W.cell? ⟨w.heap.size, 8, none⟩ = some (.string (bas nm)) ∧ W.cell? ⟨w.heap.size, 9, none⟩ = some (.slice p l c) ∧ W.cell? ⟨w.heap.size, 10, none⟩ = some (.slice q m d)) := fun W h => h.cells
  by_cases h12 : kd = 1 ∨ kd = 2
  · have HF : Hid (kindB t n kd ot on pt pn nm l = (sameB ot on t n && (rootB pt pn || olderB pt pn t n) && placedB nm l)) := by show _ = _; unfold kindB; rw [if_pos h12]
    rw [HF.out]
    clear HF
    generalize (rootB pt pn || olderB pt pn t n) = x1 at *
    generalize placedB nm l = x2 at *
    by_cases hs1 : ot = t ∧ on = n
    · rw [sameB_true.2 hs1]
      obtain ⟨rfl, rfl⟩ := hs1
      cases x1 with
      | true =>
        rcases h12 with rfl | rfl
        all_goals
          go_enter Try.func49, Try.ntmps49
          go_wp2_with (first | (go_at_call 64; refine Calls_new (HH.out _) ?_; clear HH; intro w2 hb2; have ⟨d0, d1, d2, d3, d4, d5, d6, d7, d8, d9, d10⟩ := HK.out _ (H9.out.below hb2.out)) | (go_at_call 65; refine Calls_new (HP.out _) ?_; clear HP; intro w3 hb3))
          go_ret
          exact ⟨rfl, HG.out _ _ (hb2.out.trans (hb3.out.mono hb2.out.size))⟩
      | false =>
        rcases h12 with rfl | rfl
        all_goals
          go_enter Try.func49, Try.ntmps49
          go_wp2_with (first | (go_at_call 64; refine Calls_new (HH.out _) ?_; clear HH; intro w2 hb2) | (go_at_call 65; refine Calls_new (HP.out _) ?_; clear HP; intro w3 hb3))
          go_ret
          exact ⟨rfl, HG.out _ _ hb2.out⟩
    · have e1 : sameB ot on t n = false := by
        cases h : sameB ot on t n with
        | false => rfl
        | true => exact absurd (sameB_true.1 h) hs1
      rw [e1]
      have hn := not_two hs1
      clear hs1 e1
      rcases h12 with rfl | rfl
      all_goals
        rcases hn with h | h
        all_goals
          go_enter Try.func49, Try.ntmps49
          go_wp2
          go_ret
          exact ⟨rfl, B0.out _⟩
  · have n1 : ¬ kd = 1 := fun h => h12 (.inl h)
    have n2 : ¬ kd = 2 := fun h => h12 (.inr h)
    by_cases h3 : kd = 3
    · have HF : Hid (kindB t n kd ot on pt pn nm l = (olderB ot on t n && (rootB pt pn || olderB pt pn t n || trashB pt pn) && placedB nm l)) := by show _ = _; unfold kindB; rw [if_neg h12, if_pos h3]
      rw [HF.out]
      clear HF h12 n1 n2
      subst h3
      generalize olderB ot on t n = x0 at *
      generalize (rootB pt pn || olderB pt pn t n) = x1 at *
      generalize placedB nm l = x2 at *
      cases x0 with
      | false =>
        go_enter Try.func49, Try.ntmps49
        go_wp2_with fail
        refine kind_no (by kernel_rfl) w.heap.size t n sq 3 ot on pt pn nm p q l c m d _ rfl rfl H9.out (fun W _ => HE.out W) ?_
        intro W hS
        have HS : Hid (Below w.heap.size w W) := HG.out _ W hS
        clear hS
        simp only [putAll, List.setIfInBounds_toArray, List.set_cons_zero, List.set_cons_succ]
        go_wp2
        go_ret
        exact ⟨rfl, HS.out⟩
      | true =>
        cases x1 with
        | true =>
          go_enter Try.func49, Try.ntmps49
          go_wp2_with fail
          refine kind_hold (by kernel_rfl) w.heap.size t n sq 3 ot on pt pn nm p q l c m d _ rfl rfl H9.out x2 (fun W _ => HE.out W) (fun W _ => HH.out W) (fun W _ => HP.out W) ?_
          intro W hS
          have HS : Hid (Below w.heap.size w W) := HG.out _ W hS
          clear hS
          simp only [putAll, List.setIfInBounds_toArray, List.set_cons_zero, List.set_cons_succ]
          go_wp2
          go_ret
          exact ⟨rfl, HS.out⟩
        | false =>
          by_cases hr : pt = 0 ∧ pn = 1
          · rw [trashB_true.2 hr]
            have HR : Hid (pt = 0 ∧ pn = 1) := hr
            clear hr
            go_enter Try.func49, Try.ntmps49
            go_wp2_with fail
            refine kind_trash (by kernel_rfl) w.heap.size t n sq 3 ot on pt pn nm p q l c m d _ rfl rfl H9.out x2 (fun W _ => HE.out W) (fun W _ => HH.out W) (fun W _ => trash_any W) HR.out (fun W _ => HP.out W) ?_
            intro W hS
            have HS : Hid (Below w.heap.size w W) := HG.out _ W hS
            clear hS
            simp only [putAll, List.setIfInBounds_toArray, List.set_cons_zero, List.set_cons_succ]
            go_wp2
            go_ret
            exact ⟨rfl, HS.out⟩
          · have e1 : trashB pt pn = false := by
              cases h : trashB pt pn with
              | false => rfl
              | true => exact absurd (trashB_true.1 h) hr
            rw [e1]
            have HR : Hid (¬ pt = 0 ∨ ¬ pn = 1) := not_two hr
            clear hr e1
            go_enter Try.func49, Try.ntmps49
            go_wp2_with fail
            refine kind_nowhere (by kernel_rfl) w.heap.size t n sq 3 ot on pt pn nm p q l c m d _ rfl rfl H9.out (fun W _ => HE.out W) (fun W _ => HH.out W) (fun W _ => trash_any W) HR.out ?_
            intro W hS
            have HS : Hid (Below w.heap.size w W) := HG.out _ W hS
            clear hS
            simp only [putAll, List.setIfInBounds_toArray, List.set_cons_zero, List.set_cons_succ]
            go_wp2
            go_ret
            exact ⟨rfl, HS.out⟩
    · by_cases h4 : kd = 4
      · have HF : Hid (kindB t n kd ot on pt pn nm l = (olderB ot on t n && rootB pt pn && decide (nm = []) && decide (l ≤ 65536))) := by show _ = _; unfold kindB; rw [if_neg h12, if_neg h3, if_pos h4]
        rw [HF.out]
        clear HF h12 h3 n1 n2
        subst h4
        generalize olderB ot on t n = x0 at *
        cases x0 with
        | false =>
          go_enter Try.func49, Try.ntmps49
          go_wp2_with (go_at_call 66; refine Calls_new (HE.out _) ?_; clear HE; intro w2 hb2)
          go_ret
          exact ⟨rfl, HG.out _ _ hb2.out⟩
        | true =>
          by_cases hr : pt = 0 ∧ pn = 0
          · rw [rootB_true.2 hr]
            obtain ⟨rfl, rfl⟩ := hr
            by_cases hn : nm = []
            · subst hn
              have e0 : bas [] = ⟨#[]⟩ := rfl
              by_cases h6 : l ≤ 65536
              · have h6I : (l : Int) ≤ 65536 := by omega
                rw [decide_eq_true h6]
                go_enter Try.func49, Try.ntmps49
                go_wp2_with (go_at_call 66; refine Calls_new (HE.out _) ?_; clear HE; intro w2 hb2; have ⟨d0, d1, d2, d3, d4, d5, d6, d7, d8, d9, d10⟩ := HK.out _ (H9.out.below hb2.out); clear HK H9)
                go_ret
                exact ⟨rfl, HG.out _ _ hb2.out⟩
              · have h6I : ¬ (l : Int) ≤ 65536 := by omega
                rw [decide_eq_false h6]
                go_enter Try.func49, Try.ntmps49
                go_wp2_with (go_at_call 66; refine Calls_new (HE.out _) ?_; clear HE; intro w2 hb2; have ⟨d0, d1, d2, d3, d4, d5, d6, d7, d8, d9, d10⟩ := HK.out _ (H9.out.below hb2.out); clear HK H9)
                go_ret
                exact ⟨by first | rfl | (simp; omega), HG.out _ _ hb2.out⟩
            · have e1 : (bas nm).toList.isEmpty = false := by rw [bas_toList]; simpa using hn
              rw [decide_eq_false hn]
              clear hn
              go_enter Try.func49, Try.ntmps49
              go_wp2_with (go_at_call 66; refine Calls_new (HE.out _) ?_; clear HE; intro w2 hb2; have ⟨d0, d1, d2, d3, d4, d5, d6, d7, d8, d9, d10⟩ := HK.out _ (H9.out.below hb2.out); clear HK H9)
              go_ret
              exact ⟨rfl, HG.out _ _ hb2.out⟩
          · have e1 : rootB pt pn = false := by
              cases h : rootB pt pn with
              | false => rfl
              | true => exact absurd (rootB_true.1 h) hr
            rw [e1]
            have hn := not_two hr
            clear hr e1
            rcases hn with h | h
            all_goals
              go_enter Try.func49, Try.ntmps49
              go_wp2_with (go_at_call 66; refine Calls_new (HE.out _) ?_; clear HE; intro w2 hb2; have ⟨d0, d1, d2, d3, d4, d5, d6, d7, d8, d9, d10⟩ := HK.out _ (H9.out.below hb2.out); clear HK H9)
              go_ret
              exact ⟨rfl, HG.out _ _ hb2.out⟩
      · have HF : Hid (kindB t n kd ot on pt pn nm l = false) := by show _ = _; unfold kindB; rw [if_neg h12, if_neg h3, if_neg h4]
        rw [HF.out]
        clear HF h12
        go_enter Try.func49, Try.ntmps49
        go_wp2
        go_ret
        exact ⟨rfl, B0.out _⟩

set_option maxRecDepth 8000 in
set_option maxHeartbeats 1000000 in
theorem omay_any (t n sq kd ot on pt pn : Int) (nm : List UInt8) (p q : Option Addr) (l c m d : Nat) (ns : List Int) (w : World) (hs : nm.length < 1000000000000000) (hl : l < 9000000000000000000) (hm : ns.length = m) (hml : ns.length ≤ 1000000) (hd : ns.length ≤ d) (hq : Lies w q (ns.map iv)) :
    Calls Try.prog 27 #[.agg #[.int .i64 t, .int .i64 n, .int .i64 sq, .int .i64 kd, .int .i64 ot, .int .i64 on, .int .i64 pt, .int .i64 pn, .string (bas nm), .slice p l c, .slice q m d]] w fun e w' => e = .returned (.bool (mayO t n sq kd ot on pt pn nm l ns)) ∧ Below w.heap.size w w' := by
  have H9 : Hid (OpB (w.alloc (.cells #[.int .i64 t, .int .i64 n, .int .i64 sq, .int .i64 kd, .int .i64 ot, .int .i64 on, .int .i64 pt, .int .i64 pn, .string (bas nm), .slice p l c, .slice q m d] 35)) w.heap.size t n sq kd ot on pt pn nm p q l c m d) := OpB.made w t n sq kd ot on pt pn nm p q l c m d
  have B0 : Hid (∀ o, Below w.heap.size w (w.alloc o)) := fun o => (below_new w o).out
  have HG : Hid (∀ o W, Below (w.alloc o).heap.size (w.alloc o) W → Below w.heap.size w W) := fun o W h => (B0.out o).trans (h.mono (B0.out o).size)
  have HK : Hid (∀ W, OpB W w.heap.size t n sq kd ot on pt pn nm p q l c m d → W.cell? ⟨w.heap.size, 0, none⟩ = some (.int .i64 t) ∧ W.cell? ⟨w.heap.size, 1, none⟩ = some (.int .i64 n) ∧ W.cell? ⟨w.heap.size, 2, none⟩ = some (.int .i64 sq) ∧ W.cell? ⟨w.heap.size, 3, none⟩ = some (.int .i64 kd) ∧ W.cell? ⟨w.heap.size, 4, none⟩ = some (.int .i64 ot) ∧ W.cell? ⟨w.heap.size, 5, none⟩ = some (.int .i64 on) ∧ W.cell? ⟨w.heap.size, 6, none⟩ = some (.int .i64 pt) ∧ W.cell? ⟨w.heap.size, 7, none⟩ = some (.int .i64 pn) ∧ W.cell? ⟨w.heap.size, 8, none⟩ = some (.string (bas nm)) ∧ W.cell? ⟨w.heap.size, 9, none⟩ = some (.slice p l c) ∧ W.cell? ⟨w.heap.size, 10, none⟩ = some (.slice q m d)) := fun W h => h.cells
  have c1 := fun W => Ck.valid_any t n W
  have HC : Hid (∀ W, Below w.heap.size w W → Calls Try.prog 48 #[.agg #[.int .i64 t, .int .i64 n, .int .i64 sq, .int .i64 kd, .int .i64 ot, .int .i64 on, .int .i64 pt, .int .i64 pn, .string (bas nm), .slice p l c, .slice q m d]] W fun e w' => e = .returned (.bool (countB n sq ns)) ∧ Below W.heap.size W w') := fun W hW => counted_any t n sq kd ot on pt pn nm p q l c m d ns W hm hml hd (below_lies hW hq)
  have HD : Hid (∀ W, Calls Try.prog 49 #[.agg #[.int .i64 t, .int .i64 n, .int .i64 sq, .int .i64 kd, .int .i64 ot, .int .i64 on, .int .i64 pt, .int .i64 pn, .string (bas nm), .slice p l c, .slice q m d]] W fun e w' => e = .returned (.bool (kindB t n kd ot on pt pn nm l)) ∧ Below W.heap.size W w') := fun W => kind_any t n sq kd ot on pt pn nm p q l c m d W hs hl
  unfold mayO
  clear hs hl hm hml hd hq
  generalize Ck.validB t n = x0 at *
  generalize countB n sq ns = x1 at *
  generalize kindB t n kd ot on pt pn nm l = x2 at *
  cases x0 with
  | false =>
    go_enter Try.func27, Try.ntmps27
    go_wp2_with (go_at_call 47; refine Calls_new (c1 _) ?_; clear c1; intro w2 hb2)
    go_ret
    exact ⟨rfl, HG.out _ _ hb2.out⟩
  | true =>
    cases x1 with
    | false =>
      go_enter Try.func27, Try.ntmps27
      go_wp2_with (first | (go_at_call 47; refine Calls_new (c1 _) ?_; clear c1; intro w2 hb2; have ⟨d0, d1, d2, d3, d4, d5, d6, d7, d8, d9, d10⟩ := HK.out _ (H9.out.below hb2.out)) | (go_at_call 48; refine Calls_new (HC.out _ (HG.out _ _ hb2.out)) ?_; clear HC; intro w3 hb3))
      go_ret
      exact ⟨rfl, HG.out _ _ (hb2.out.trans (hb3.out.mono hb2.out.size))⟩
    | true =>
      go_enter Try.func27, Try.ntmps27
      go_wp2_with (first | (go_at_call 47; refine Calls_new (c1 _) ?_; clear c1; intro w2 hb2; have ⟨d0, d1, d2, d3, d4, d5, d6, d7, d8, d9, d10⟩ := HK.out _ (H9.out.below hb2.out)) | (go_at_call 48; refine Calls_new (HC.out _ (HG.out _ _ hb2.out)) ?_; clear HC; intro w3 hb3; have ⟨g0, g1, g2, g3, g4, g5, g6, g7, g8, g9, g10⟩ := HK.out _ ((H9.out.below hb2.out).below hb3.out)) | (go_at_call 49; refine Calls_new (HD.out _) ?_; clear HD; intro w4 hb4))
      go_ret
      exact ⟨rfl, HG.out _ _ ((hb2.out.trans (hb3.out.mono hb2.out.size)).trans (hb4.out.mono (Nat.le_trans hb2.out.size hb3.out.size)))⟩

end Go.Proofs.Yteimjkicinjcgaa.Cd
