/-
  Next and See of the program.
-/
import Derived.Test.YteodfodfdffmjaaClk
namespace Go.Proofs.Yteodfodfdffmjaa
open Go.RowKit

/-- What Next answers and does. -/
def nxT (tm : Int) : Int := if tm = 1152921504606846976 then 0 else tm + 1
def nxN (tm nd : Int) : Int := if tm = 1152921504606846976 then 0 else nd
def nxB (tm ls : Int) : Bool := if tm = 1152921504606846976 then false else upB (tm + 1) ls
def nxE (tm : Int) : Int := if tm = 1152921504606846976 then 75 else 0
def stT (tm : Int) : Int := if tm = 1152921504606846976 then tm else tm + 1
def stL (tm ls : Int) : Int := if tm = 1152921504606846976 then ls else upL (tm + 1) ls
def Nx (ty : TypeId) (w : World) (a : Nat) (nd tm ls : Int) (e : Ending) (w' : World) : Prop :=
  e = .returned (.tuple #[idv (nxT tm) (nxN tm nd), .bool (nxB tm ls), .int .i64 (nxE tm)]) ∧ Clk ty w' a nd (stT tm) (stL tm ls) ∧ Only (· = a) w w'
theorem nx_fit {tm ls : Int} (h : Fit tm ls) : Fit (stT tm) (stL tm ls) := by
  obtain ⟨h0, h1, h2⟩ := h
  unfold stT stL
  split
  · exact ⟨h0, h1, h2⟩
  · exact fit_up (by omega) (by omega) h2
theorem nx_top {ty : TypeId} {w : World} {a : Nat} {nd tm ls : Int} {e : Ending} {w' : World} (ht : tm = 1152921504606846976)
    (he : e = .returned (.tuple #[idv 0 0, .bool false, .int .i64 75])) (hc : Clk ty w' a nd tm ls) (ho : Only (· = a) w w') : Nx ty w a nd tm ls e w' := by
  unfold Nx nxT nxN nxB nxE stT stL
  simp only [if_pos ht]
  exact ⟨he, hc, ho⟩
theorem nx_step {ty : TypeId} {w : World} {a : Nat} {nd tm ls : Int} {e : Ending} {w' : World} (ht : ¬ tm = 1152921504606846976)
    (he : e = .returned (.tuple #[idv (tm + 1) nd, .bool (upB (tm + 1) ls), .int .i64 0])) (hc : Clk ty w' a nd (tm + 1) (upL (tm + 1) ls)) (ho : Only (· = a) w w') : Nx ty w a nd tm ls e w' := by
  unfold Nx nxT nxN nxB nxE stT stL
  simp only [if_neg ht]
  exact ⟨he, hc, ho⟩

/-- What See answers and does. -/
def seE (t n : Int) : Int := if validB t n = true then 0 else 22
def seT (tm t n : Int) : Int := if validB t n = true ∧ tm < t then t else tm
def seL (tm ls t n : Int) : Int := upL (seT tm t n) ls
def seB (tm ls t n : Int) : Bool := upB (seT tm t n) ls
def Sx (ty : TypeId) (w : World) (a : Nat) (nd tm ls t n : Int) (e : Ending) (w' : World) : Prop :=
  e = .returned (.tuple #[.bool (seB tm ls t n), .int .i64 (seE t n)]) ∧ Clk ty w' a nd (seT tm t n) (seL tm ls t n) ∧ Only (· = a) w w'
theorem se_fit {tm ls t n : Int} (h : Fit tm ls) : Fit (seT tm t n) (seL tm ls t n) := by
  obtain ⟨h0, h1, h2⟩ := h
  unfold seT seL seT
  split
  · rename_i hv
    obtain ⟨v1, v2, _, _⟩ := validB_true.1 hv.1
    exact fit_up (by omega) v2 h2
  · rw [upL_no h1]
    exact ⟨h0, h1, h2⟩
/-- Nothing is seen. -/
theorem sx_not {ty : TypeId} {w : World} {a : Nat} {nd tm ls t n : Int} {e : Ending} {w' : World} (hf : tm ≤ ls) (hv : validB t n = false)
    (he : e = .returned (.tuple #[.bool false, .int .i64 22])) (hc : Clk ty w' a nd tm ls) (ho : Only (· = a) w w') : Sx ty w a nd tm ls t n e w' := by
  unfold Sx seB seE seL seT
  rw [hv]
  simp only [Bool.false_eq_true, false_and, if_false]
  rw [upB_no hf, upL_no hf]
  exact ⟨he, hc, ho⟩
/-- It is seen. -/
theorem sx_step {ty : TypeId} {w : World} {a : Nat} {nd tm ls t n x : Int} {e : Ending} {w' : World} (hv : validB t n = true) (hx : (if t > tm then t else tm) = x)
    (he : e = .returned (.tuple #[.bool (upB x ls), .int .i64 0])) (hc : Clk ty w' a nd x (upL x ls)) (ho : Only (· = a) w w') : Sx ty w a nd tm ls t n e w' := by
  have hx' : seT tm t n = x := by
    unfold seT
    rw [hv]
    simp only [true_and]
    exact hx
  unfold Sx seB seE seL
  rw [hx', hv]
  exact ⟨he, hc, ho⟩

set_option maxHeartbeats 400000 in
theorem next_nil (w : World) : Calls Try.prog 15 #[.pointer none] w fun e w' => e = .returned (.tuple #[idv 0 0, .bool false, .int .i64 75]) ∧ Below w.heap.size w w' := by
  go_enter Try.func15, Try.ntmps15
  go_wp2
  exact bodyPost_ret (v := .tuple #[idv 0 0, .bool false, .int .i64 75]) (by simp [results, Try.results15, go_sem]) rfl ⟨rfl, (below_new w _).out⟩

set_option maxHeartbeats 400000 in
theorem see_nil (t n : Int) (w : World) : Calls Try.prog 13 #[.pointer none, idv t n] w fun e w' => e = .returned (.tuple #[.bool false, .int .i64 22]) ∧ Below w.heap.size w w' := by
  go_enter Try.func13, Try.ntmps13
  go_wp2
  go_ret2
  exact ⟨rfl, (below_new w _).out⟩

/-- A call on a clock behind some new memory, and ahead of a store into that memory. -/
theorem only_new {w w1 w2 : World} {a : Nat} (hb : Below w.heap.size w w1) (ho : Only (· = a) w1 w2) : Only (· = a) w w2 := (Below.only hb _).next ho

/-- A store into new memory leaves the clock. -/
theorem clk_beside {ty : TypeId} {w2 : World} {a g : Nat} {nd tm ls : Int} {u v : Value} (h : Clk ty w2 a nd tm ls) (hne : a ≠ g) : Clk ty ((w2.setCell ⟨g, 0, none⟩ u).setCell ⟨g, 1, none⟩ v).drew a nd tm ls := by
  have h1 := h.keep (Only.setCell (S := (· = g)) w2 ⟨g, 0, none⟩ u rfl) hne
  have h2 := h1.keep (Only.setCell (S := (· = g)) _ ⟨g, 1, none⟩ v rfl) hne
  exact h2
theorem only_beside {w w2 : World} {a g : Nat} {u v : Value} (h : Only (· = a) w w2) (hg : w.heap.size ≤ g) : Only (· = a) w ((w2.setCell ⟨g, 0, none⟩ u).setCell ⟨g, 1, none⟩ v).drew :=
  (h.trans (Only.next (Only.setCell (S := (· = g)) w2 ⟨g, 0, none⟩ u rfl) (Only.setCell (S := (· = g)) _ ⟨g, 1, none⟩ v rfl)) (fun i hi => .inr (by omega))).drew

set_option maxRecDepth 8000 in
set_option maxHeartbeats 400000 in
theorem next_any (a : Nat) (nd tm ls : Int) (w : World) (h : Clk 49 w a nd tm ls) (hf : Fit tm ls) : Calls Try.prog 15 #[.pointer (some ⟨a, 0, none⟩)] w (Nx 49 w a nd tm ls) := by
  obtain ⟨w1, hw1⟩ : ∃ w1, w1 = w.alloc (.cells #[.int .i64 0, .int .i64 0] 23) := ⟨_, rfl⟩
  have hB1 : Below w.heap.size w w1 := by rw [hw1]; exact (below_new _ _).out
  have hb1 : w1.heap[w.heap.size]? = some (.cells #[.int .i64 0, .int .i64 0] 23 (0, 0)) := by rw [hw1]; exact heap_alloc_new w _
  have h1 := h.below hB1
  have hlt := h.lt
  have c1 := h.cell1
  by_cases ht : tm = 1152921504606846976
  · have hd : (tm == 1152921504606846976) = true := by simp [ht]
    have HN : Hid (Nx 49 w a nd tm ls (.returned (.tuple #[idv 0 0, .bool false, .int .i64 75])) w1) := nx_top ht rfl h1 (Below.only hB1 _)
    have k1 := h1.cell1
    have e0 : w1.cell? ⟨w.heap.size, 0, none⟩ = some (.int .i64 0) := cellOf hb1 0
    have e1 : w1.cell? ⟨w.heap.size, 1, none⟩ = some (.int .i64 0) := cellOf hb1 1
    clear h hf hB1 hb1 h1 ht
    go_enter Try.func15, Try.ntmps15
    go_wp2
    rw [← hw1]
    exact bodyPost_ret (v := .tuple #[idv 0 0, .bool false, .int .i64 75]) (by simp [results, Try.results15, go_sem, e0, e1]) rfl HN.out
  · have hd : (tm == 1152921504606846976) = false := by simp [ht]
    have hd1 : ¬ tm = 1152921504606846976 := ht
    obtain ⟨f0, f1, f2⟩ := hf
    have c25 := reach_any a nd tm ls (tm + 1) (tm + 1) w1 h1 (if_pos (by omega)) (by omega) (by omega)
    have HT : Hid (¬ tm = 1152921504606846976) := ht
    have HB1 : Hid (Below w.heap.size w w1) := hB1
    have HBK : Hid (w1.heap[w.heap.size]? = some (.cells #[.int .i64 0, .int .i64 0] 23 (0, 0))) := hb1
    have hle : tm ≤ 1152921504606846976 := by omega
    clear h h1 hB1 hb1 f1 f2 hd1 ht
    go_enter Try.func15, Try.ntmps15
    go_wp2_with fail
    rw [← hw1]
    refine c25.mono ?_
    rintro e w2 ⟨rfl, h2, o2⟩
    have hb2 : w2.heap[w.heap.size]? = some (.cells #[.int .i64 0, .int .i64 0] 23 (0, 0)) := (o2.block _ (block_lt HBK.out) (by omega)).trans HBK.out
    have k0 := h2.cell0
    have k1 := h2.cell1
    have e0 : w2.cell? ⟨w.heap.size, 0, none⟩ = some (.int .i64 0) := cellOf hb2 0
    have e1 : w2.cell? ⟨w.heap.size, 1, none⟩ = some (.int .i64 0) := cellOf hb2 1
    have g0 := frozenOf hb2 0
    have g1 := frozenOf hb2 1
    have H2 : Hid (Clk 49 w2 a nd (tm + 1) (upL (tm + 1) ls)) := h2
    have O2 : Hid (Only (· = a) w w2) := only_new HB1.out o2
    obtain ⟨bb, hbb⟩ : ∃ bb, upB (tm + 1) ls = bb := ⟨_, rfl⟩
    have HBB : Hid (upB (tm + 1) ls = bb) := hbb
    rw [hbb]
    clear hbb
    clear c25 h2 o2 hb2 hw1
    go_wp2
    go_region
    go_wp2
    refine bodyPost_ret (v := .tuple #[idv (tm + 1) nd, .bool bb, .int .i64 0]) (by simp [results, Try.results15, go_sem, e0, e1]) rfl ?_
    exact nx_step HT.out (by rw [HBB.out]) (clk_beside H2.out (by omega)) (only_beside O2.out (by omega))

set_option maxRecDepth 8000 in
set_option maxHeartbeats 400000 in
theorem see_any (a : Nat) (nd tm ls t n : Int) (w : World) (h : Clk 49 w a nd tm ls) (hf : Fit tm ls) : Calls Try.prog 13 #[.pointer (some ⟨a, 0, none⟩), idv t n] w (Sx 49 w a nd tm ls t n) := by
  have hlt := h.lt
  obtain ⟨f0, f1, f2⟩ := hf
  obtain ⟨w1, hw1⟩ : ∃ w1, w1 = w.alloc (.cells #[.int .i64 t, .int .i64 n] 23) := ⟨_, rfl⟩
  have hB1 : Below w.heap.size w w1 := by rw [hw1]; exact (below_new _ _).out
  have hb1 : w1.heap[w.heap.size]? = some (.cells #[.int .i64 t, .int .i64 n] 23 (0, 0)) := by rw [hw1]; exact heap_alloc_new w _
  have c10 := valid_any t n w1
  have HB1 : Hid (Below w.heap.size w w1) := hB1
  have HBK : Hid (w1.heap[w.heap.size]? = some (.cells #[.int .i64 t, .int .i64 n] 23 (0, 0))) := hb1
  have H : Hid (Clk 49 w a nd tm ls) := h
  cases hv : validB t n with
  | false =>
    rw [hv] at c10
    have HV : Hid (validB t n = false) := hv
    have HF : Hid (tm ≤ ls) := f1
    clear h hB1 hb1 hv f0 f1 f2
    go_enter Try.func13, Try.ntmps13
    go_wp2_with fail
    rw [← hw1]
    refine c10.mono ?_
    rintro e w2 ⟨rfl, hB2⟩
    have HB2 : Hid (Below w.heap.size w w2) := HB1.out.trans (hB2.mono HB1.out.size)
    clear hw1 c10 hB2
    go_wp2
    go_ret2
    exact sx_not HF.out HV.out rfl (H.out.below HB2.out) (Below.only HB2.out _)
  | true =>
    rw [hv] at c10
    have HV : Hid (validB t n = true) := hv
    obtain ⟨v1, v2, _, _⟩ := validB_true.1 hv
    obtain ⟨x, hx⟩ : ∃ x, (if t > tm then t else tm) = x := ⟨_, rfl⟩
    have hx0 : 0 ≤ x := by rw [← hx]; split <;> omega
    have hx1 : x ≤ 1152921504606846976 := by rw [← hx]; split <;> omega
    have HX : Hid ((if t > tm then t else tm) = x ∧ 0 ≤ x ∧ x ≤ 1152921504606846976) := ⟨hx, hx0, hx1⟩
    clear h hB1 hb1 hv f0 f1 f2 hx hx0 hx1 v1 v2
    go_enter Try.func13, Try.ntmps13
    go_wp2_with fail
    rw [← hw1]
    refine c10.mono ?_
    rintro e w2 ⟨rfl, hB2⟩
    have hB02 : Below w.heap.size w w2 := HB1.out.trans (hB2.mono HB1.out.size)
    have h2 := H.out.below hB02
    have hb2 : w2.heap[w.heap.size]? = some (.cells #[.int .i64 t, .int .i64 n] 23 (0, 0)) := (hB2.block _ (block_lt HBK.out)).trans HBK.out
    have e0 : w2.cell? ⟨w.heap.size, 0, none⟩ = some (.int .i64 t) := cellOf hb2 0
    have c25 := reach_any a nd tm ls t x w2 h2 HX.out.1 HX.out.2.1 HX.out.2.2
    have HB2 : Hid (Below w.heap.size w w2) := hB02
    clear hw1 c10 hB2 hB02 h2 hb2
    go_wp2_with fail
    refine c25.mono ?_
    rintro e w3 ⟨rfl, h3, o3⟩
    have H3 : Hid (Clk 49 w3 a nd x (upL x ls)) := h3
    have O3 : Hid (Only (· = a) w w3) := only_new HB2.out o3
    obtain ⟨bb, hbb⟩ : ∃ bb, upB x ls = bb := ⟨_, rfl⟩
    have HBB : Hid (upB x ls = bb) := hbb
    rw [hbb]
    clear c25 h3 o3 hbb e0
    go_wp2
    go_ret2
    exact sx_step HV.out HX.out.1 (by rw [HBB.out]; rfl) H3.out O3.out

end Go.Proofs.Yteodfodfdffmjaa
