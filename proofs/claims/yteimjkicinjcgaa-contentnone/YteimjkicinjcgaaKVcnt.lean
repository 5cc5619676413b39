/-
  countsOf: a list as sixty-four numbers.
-/
import Derived.Test.YteimjkicinjcgaaKVats

namespace Go.Proofs.Yteimjkicinjcgaa.Vc
open Go.RowKit

theorem Blk.made_next (w : World) (o : Obj) (xs : List Int) : Blk ((w.alloc o).alloc (.cells (Vc.row xs) 87)) (w.heap.size + 1) xs := by
  have := Blk.made (w.alloc o) xs
  simpa using this
theorem Blk.step {w : World} {g j : Nat} {ys xs : List Int} (h : Blk w g (mix ys xs j)) (hy : ys.length = 64) (hx : xs.length = 64) (hj : j < 64) {y : Int} (e : ys[j]? = some y) : Blk (w.setCell ⟨g, j, none⟩ (.int .i64 y)) g (mix ys xs (j + 1)) := by
  have := h.set j y
  rw [mix_set hy hx hj e] at this
  exact this

set_option maxRecDepth 8000 in
set_option maxRecDepth 8000 in
set_option maxHeartbeats 400000 in
theorem countsOf_any (p : Option Addr) (ns : List Int) (cp : Nat) (w : World) (hp : Lies w p (ns.map iv)) :
    Calls Try.prog 69 #[.slice p ns.length cp] w fun e w' => e = .returned (.agg (row (nums (atOf ns)))) ∧ Below w.heap.size w w' := by
  have HP : Hid (Lies w p (ns.map iv)) := hp
  clear hp
  obtain ⟨ys, hys⟩ : ∃ ys, ys = nums (atOf ns) := ⟨_, rfl⟩
  have hyl : ys.length = 64 := by rw [hys]; exact nums_length _
  have HY : Hid (ys = nums (atOf ns)) := hys
  have HYL : Hid (ys.length = 64) := hyl
  rw [← hys]
  clear hys hyl
  go_enter Try.func69, Try.ntmps69
  go_wp2_with (refine wpList_alloc38 rfl rfl ?_)
  go_loopw [5] (fun ii wr => ∃ i : Nat, ii = .int .i64 i ∧ i ≤ 64 ∧ Hid (Blk wr w.heap.size zeros) ∧ Hid (Blk wr (w.heap.size + 1) (mix ys zeros i)) ∧ Hid (Below w.heap.size w wr)) (fun ii _ => 64 - (intOf ii).toNat)
  case atStart =>
    refine ⟨0, rfl, by omega, (Blk.made w zeros).alloc _, ?_, ((Below.refl _ _).alloc (Nat.le_refl _) _).alloc (by simp) _⟩
    rw [mix_zero]
    exact Blk.made_next w _ zeros
  case round =>
    obtain ⟨i, rfl, hi, HZ, HM, HB⟩ := hrel
    by_cases hlt : i < 64
    · have hltI : (i : Int) < 64 := by omega
      have c12 := at_nat p ns cp i wr (below_lies HB.out HP.out) hlt
      have hy : ys[i]? = some (atOf ns i) := by rw [HY.out]; exact nums_get _ hlt
      obtain ⟨z, hz⟩ : ∃ z, (mix ys zeros i)[i]? = some z := ⟨0, by rw [mix_get HYL.out hi]; exact nums_get _ hlt⟩
      have cz := HM.out.cell hz
      have fz := HM.out.frozen i
      generalize atOf ns i = y at c12 hy
      have HE : Hid (ys[i]? = some y) := hy
      clear hy hz
      go_wp2_with (go_at_call 59; refine Calls_on c12 ?_)
      go_roundw
      case rel =>
        refine ⟨i + 1, by go_num, by omega, HZ.out.set_other _ _ (by omega), HM.out.step HYL.out zeros_length hlt HE.out, HB.out.setCell (by simp) _⟩
      case measure => simp [intOf]; omega
    · obtain rfl : i = 64 := by omega
      have HM' : Hid (Blk wr (w.heap.size + 1) ys) := by have := HM.out; rw [mix_full HYL.out zeros_length] at this; exact this
      have HZL : Hid (zeros.length = 64) := zeros_length
      clear hlt HM
      go_wp2_with (first | (refine wpList_load38 rfl _ rfl _ rfl ys HM' HYL ?_) | (refine wpList_store38 rfl _ _ rfl _ rfl zeros ys rfl HZ HZL HYL ?_; intro HS))
      refine bodyPost_ret (v := .agg (row ys)) ?_ rfl ⟨rfl, Below.row HB.out (Nat.le_refl _) _⟩
      exact results_cell_row rfl _ _ w.heap.size 87 (row ys) (0, 0) _ rfl HS.out Try.underlying87 rfl (by rw [row_size, HYL.out]; exact Try.size87)

end Go.Proofs.Yteimjkicinjcgaa.Vc
