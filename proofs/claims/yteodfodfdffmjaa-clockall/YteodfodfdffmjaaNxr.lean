/-
  A clock of the document's own text: raise, Next, See.
-/
import Derived.Test.YteodfodfdffmjaaNxt
namespace Go.Proofs.Yteodfodfdffmjaa
open Go.RowKit

theorem did_top {ty : TypeId} {w : World} {a : Nat} {nd tm t ls l m : Int} (h : Clk ty w a nd tm ls) (hn : ¬ t ≤ ls) (hl : upL t ls = l) : Did ty w a nd t ls (.returned (.bool true)) (((w.setCell ⟨a, 1, none⟩ (.int .i64 t)).setCell ⟨a, 2, none⟩ (.int .i64 m)).setCell ⟨a, 2, none⟩ (.int .i64 l)) := by
  refine ⟨by rw [upB_yes hn], ?_, Only.next (Only.next (Only.setCell (S := (· = a)) w ⟨a, 1, none⟩ _ rfl) (Only.setCell (S := (· = a)) _ ⟨a, 2, none⟩ _ rfl)) (Only.setCell (S := (· = a)) _ ⟨a, 2, none⟩ _ rfl)⟩
  rw [hl]
  exact ((h.set1 t).set2 m).set2 l

set_option maxRecDepth 8000 in
set_option maxHeartbeats 400000 in
theorem raise_any (a : Nat) (nd tm ls t : Int) (w : World) (h : Clk 33 w a nd tm ls) (h0 : 0 ≤ t) (h1 : t ≤ 1152921504606846976) :
    Calls Try.prog 26 #[.pointer (some ⟨a, 0, none⟩), .int .i64 t] w (Did 33 w a nd t ls) := by
  have c1 := h.cell1
  have c2 := h.cell2
  have f1 := h.frozen 1
  have f2 := h.frozen 2
  by_cases hn : t ≤ ls
  · have HD : Hid (Did 33 w a nd t ls (.returned (.bool false)) (w.setCell ⟨a, 1, none⟩ (.int .i64 t))) := did_no h hn
    clear h
    go_enter Try.func26, Try.ntmps26
    go_wp2
    go_ret
    exact HD.out
  · by_cases hm : (1152921504606846976 : Int) < t + 4096
    · have HD : Hid (∀ m, Did 33 w a nd t ls (.returned (.bool true)) (((w.setCell ⟨a, 1, none⟩ (.int .i64 t)).setCell ⟨a, 2, none⟩ (.int .i64 m)).setCell ⟨a, 2, none⟩ (.int .i64 1152921504606846976))) := fun m => did_top h hn (upL_top hn hm)
      clear h
      go_enter Try.func26, Try.ntmps26
      go_wp2
      go_ret
      exact HD.out _
    · have HD : Hid (Did 33 w a nd t ls (.returned (.bool true)) ((w.setCell ⟨a, 1, none⟩ (.int .i64 t)).setCell ⟨a, 2, none⟩ (.int .i64 (t + 4096)))) := did_yes h hn (upL_yes hn hm)
      clear h
      go_enter Try.func26, Try.ntmps26
      go_wp2
      go_ret
      exact HD.out

set_option maxRecDepth 8000 in
set_option maxHeartbeats 400000 in
theorem rnext_any (a : Nat) (nd tm ls : Int) (w : World) (h : Clk 33 w a nd tm ls) (hf : Fit tm ls) : Calls Try.prog 16 #[.pointer (some ⟨a, 0, none⟩)] w (Nx 33 w a nd tm ls) := by
  obtain ⟨w1, hw1⟩ : ∃ w1, w1 = w.alloc (.cells #[.int .i64 0, .int .i64 0] 23) := ⟨_, rfl⟩
  have hB1 : Below w.heap.size w w1 := by rw [hw1]; exact (below_new _ _).out
  have hb1 : w1.heap[w.heap.size]? = some (.cells #[.int .i64 0, .int .i64 0] 23 (0, 0)) := by rw [hw1]; exact heap_alloc_new w _
  have h1 := h.below hB1
  have hlt := h.lt
  have c1 := h.cell1
  obtain ⟨f0, f1, f2⟩ := hf
  by_cases ht : tm = 1152921504606846976
  · have hd : (1152921504606846976 : Int) ≤ tm := by omega
    have HN : Hid (Nx 33 w a nd tm ls (.returned (.tuple #[idv 0 0, .bool false, .int .i64 75])) w1) := nx_top ht rfl h1 (Below.only hB1 _)
    have e0 : w1.cell? ⟨w.heap.size, 0, none⟩ = some (.int .i64 0) := cellOf hb1 0
    have e1 : w1.cell? ⟨w.heap.size, 1, none⟩ = some (.int .i64 0) := cellOf hb1 1
    clear h f0 f1 f2 hB1 hb1 h1 ht
    go_enter Try.func16, Try.ntmps16
    go_wp2
    rw [← hw1]
    exact bodyPost_ret (v := .tuple #[idv 0 0, .bool false, .int .i64 75]) (by simp [results, Try.results16, go_sem, e0, e1]) rfl HN.out
  · have hd : ¬ (1152921504606846976 : Int) ≤ tm := by omega
    have c26 := raise_any a nd tm ls (tm + 1) w1 h1 (by omega) (by omega)
    have HT : Hid (¬ tm = 1152921504606846976) := ht
    have HB1 : Hid (Below w.heap.size w w1) := hB1
    have HBK : Hid (w1.heap[w.heap.size]? = some (.cells #[.int .i64 0, .int .i64 0] 23 (0, 0))) := hb1
    clear h h1 hB1 hb1 f1 f2 ht
    go_enter Try.func16, Try.ntmps16
    go_wp2_with fail
    rw [← hw1]
    refine c26.mono ?_
    rintro e w2 ⟨rfl, h2, o2⟩
    have hb2 : w2.heap[w.heap.size]? = some (.cells #[.int .i64 0, .int .i64 0] 23 (0, 0)) := (o2.block _ (block_lt HBK.out) (by omega)).trans HBK.out
    have k0 := h2.cell0
    have k1 := h2.cell1
    have e0 : w2.cell? ⟨w.heap.size, 0, none⟩ = some (.int .i64 0) := cellOf hb2 0
    have e1 : w2.cell? ⟨w.heap.size, 1, none⟩ = some (.int .i64 0) := cellOf hb2 1
    have g0 := frozenOf hb2 0
    have g1 := frozenOf hb2 1
    have H2 : Hid (Clk 33 w2 a nd (tm + 1) (upL (tm + 1) ls)) := h2
    have O2 : Hid (Only (· = a) w w2) := only_new HB1.out o2
    obtain ⟨bb, hbb⟩ : ∃ bb, upB (tm + 1) ls = bb := ⟨_, rfl⟩
    have HBB : Hid (upB (tm + 1) ls = bb) := hbb
    rw [hbb]
    clear hbb
    clear c26 h2 o2 hb2 hw1
    go_wp2
    go_region
    go_wp2
    refine bodyPost_ret (v := .tuple #[idv (tm + 1) nd, .bool bb, .int .i64 0]) (by simp [results, Try.results16, go_sem, e0, e1]) rfl ?_
    exact nx_step HT.out (by rw [HBB.out]) (clk_beside H2.out (by omega)) (only_beside O2.out (by omega))

set_option maxRecDepth 8000 in
set_option maxHeartbeats 400000 in
theorem rsee_any (a : Nat) (nd tm ls t n : Int) (w : World) (h : Clk 33 w a nd tm ls) (hf : Fit tm ls) : Calls Try.prog 14 #[.pointer (some ⟨a, 0, none⟩), idv t n] w (Sx 33 w a nd tm ls t n) := by
  have hlt := h.lt
  obtain ⟨f0, f1, f2⟩ := hf
  obtain ⟨w1, hw1⟩ : ∃ w1, w1 = w.alloc (.cells #[.int .i64 t, .int .i64 n] 23) := ⟨_, rfl⟩
  have hB1 : Below w.heap.size w w1 := by rw [hw1]; exact (below_new _ _).out
  have hb1 : w1.heap[w.heap.size]? = some (.cells #[.int .i64 t, .int .i64 n] 23 (0, 0)) := by rw [hw1]; exact heap_alloc_new w _
  have c11 := rvalid_any t n w1
  have HB1 : Hid (Below w.heap.size w w1) := hB1
  have HBK : Hid (w1.heap[w.heap.size]? = some (.cells #[.int .i64 t, .int .i64 n] 23 (0, 0))) := hb1
  have H : Hid (Clk 33 w a nd tm ls) := h
  cases hv : validB t n with
  | false =>
    rw [hv] at c11
    have HV : Hid (validB t n = false) := hv
    have HF : Hid (tm ≤ ls) := f1
    clear h hB1 hb1 hv f0 f1 f2
    go_enter Try.func14, Try.ntmps14
    go_wp2_with fail
    rw [← hw1]
    refine c11.mono ?_
    rintro e w2 ⟨rfl, hB2⟩
    have HB2 : Hid (Below w.heap.size w w2) := HB1.out.trans (hB2.mono HB1.out.size)
    clear hw1 c11 hB2
    go_wp2
    go_ret2
    exact sx_not HF.out HV.out rfl (H.out.below HB2.out) (Below.only HB2.out _)
  | true =>
    rw [hv] at c11
    have HV : Hid (validB t n = true) := hv
    obtain ⟨v1, v2, _, _⟩ := validB_true.1 hv
    have HF : Hid (0 ≤ tm ∧ tm ≤ ls ∧ 1 ≤ t ∧ t ≤ 1152921504606846976) := ⟨f0, f1, v1, v2⟩
    clear h hB1 hb1 hv f0 f1 f2 v1 v2
    go_enter Try.func14, Try.ntmps14
    go_wp2_with fail
    rw [← hw1]
    refine c11.mono ?_
    rintro e w2 ⟨rfl, hB2⟩
    have hB02 : Below w.heap.size w w2 := HB1.out.trans (hB2.mono HB1.out.size)
    have h2 := H.out.below hB02
    have hb2 : w2.heap[w.heap.size]? = some (.cells #[.int .i64 t, .int .i64 n] 23 (0, 0)) := (hB2.block _ (block_lt HBK.out)).trans HBK.out
    have e0 : w2.cell? ⟨w.heap.size, 0, none⟩ = some (.int .i64 t) := cellOf hb2 0
    have k1 := h2.cell1
    have c26 := raise_any a nd tm ls t w2.drew h2 (by have := HF.out; omega) (by have := HF.out; omega)
    have HB2 : Hid (Below w.heap.size w w2) := hB02
    have H2 : Hid (Clk 33 w2 a nd tm ls) := h2
    clear hw1 c11 hB2 hB02 h2 hb2
    by_cases hle : t ≤ tm
    · have HLE : Hid (t ≤ tm) := hle
      clear c26
      go_wp2
      go_region
      go_wp2
      go_ret2
      refine sx_step HV.out (if_neg (by have := HLE.out; omega)) ?_ ?_ (Below.only HB2.out _).drew
      · rw [upB_no HF.out.2.1]; rfl
      · rw [upL_no HF.out.2.1]; exact H2.out
    · have HLE : Hid (¬ t ≤ tm) := hle
      go_wp2
      go_region
      go_wp2_with fail
      refine c26.mono ?_
      rintro e w3 ⟨rfl, h3, o3⟩
      have H3 : Hid (Clk 33 w3 a nd t (upL t ls)) := h3
      have O3 : Hid (Only (· = a) w w3) := only_new HB2.out.drew o3
      obtain ⟨bb, hbb⟩ : ∃ bb, upB t ls = bb := ⟨_, rfl⟩
      have HBB : Hid (upB t ls = bb) := hbb
      rw [hbb]
      clear c26 h3 o3 hbb e0 k1
      go_wp2
      go_ret2
      exact sx_step HV.out (if_pos (by have := HLE.out; omega)) (by rw [HBB.out]; rfl) H3.out O3.out

end Go.Proofs.Yteodfodfdffmjaa
