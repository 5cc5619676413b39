/-
  Min, Max.
-/
import Derived.Test.YtflmlojdjegnkaaWth
namespace Go.Proofs.Ytflmlojdjegnkaa
open Go.RowKit

set_option maxRecDepth 8000 in
set_option maxHeartbeats 400000 in
theorem min_any (p q : Option Addr) (a b : List Int) (cp cq : Nat) (w : World) (hp : Lies w p (a.map iv)) (hq : Lies w q (b.map iv)) :
    Calls Try.prog 17 #[.slice p a.length cp, .slice q b.length cq] w (Ans w (vec (minAt a b))) := by
  have ca := countsOf_any p a cp w hp
  have cb := fun w' (h : Below w.heap.size w w') => countsOf_any q b cq w' (below_lies h hq)
  obtain ⟨xs, hxs⟩ : ∃ xs, nums (atOf a) = xs := ⟨_, rfl⟩
  obtain ⟨zs, hzs⟩ : ∃ zs, nums (atOf b) = zs := ⟨_, rfl⟩
  have HXL : Hid (xs.length = 64) := by show _ = _; rw [← hxs]; exact nums_length _
  have HZL : Hid (zs.length = 64) := by show _ = _; rw [← hzs]; exact nums_length _
  have HX : Hid (nums (atOf a) = xs) := hxs
  have HZ : Hid (nums (atOf b) = zs) := hzs
  have HOL : Hid (zeros.length = 64) := zeros_length
  have HYL : Hid ((nums (minAt a b)).length = 64) := nums_length _
  rw [hxs] at ca
  rw [hzs] at cb
  have CB : Hid (∀ w', Below w.heap.size w w' → Calls Try.prog 27 #[.slice q b.length cq] w' fun e w'' => e = .returned (.agg (row zs)) ∧ Below w'.heap.size w' w'') := cb
  clear cb hp hq hxs hzs
  go_enter Try.func17, Try.ntmps17
  go_wp2_with (first
    | (go_at_call 27; refine Calls_new ca ?_; intro w1 HB; clear ca)
    | (refine wpList_new38 rfl rfl ?_; intro w2 HM HB2)
    | (refine wpList_put38 rfl _ _ rfl w1.heap.size rfl zeros xs rfl HM HOL HXL ?_; intro w3 HX3 HB3; have HBB : Hid (Below w.heap.size w w3) := (Below.then HB.out HB2.out (Nat.le_refl _)).trans (HB3.out.mono HB.out.size))
    | (go_at_call 27; refine Calls_new (CB.out w3 HBB.out) ?_; intro w4 HB4; clear CB))
  have H4 : Hid (Below w.heap.size w w4) := Below.then HBB.out HB4.out (Nat.le_refl _)
  have HX4 : Hid (Blk w4 w1.heap.size xs) := HX3.out.below HB4.out
  have HG : Hid (w.heap.size ≤ w1.heap.size) := HB.out.size
  generalize w1.heap.size = g at *
  clear HB HB2 HB3 HBB HB4 HM HX3
  go_loopw [12] (fun ii wr => ∃ i : Nat, ii = .int .i64 i ∧ i ≤ 64 ∧ Hid (Blk wr g (mix (nums (minAt a b)) xs i)) ∧ Hid (Below w.heap.size w wr)) (fun ii _ => 64 - (intOf ii).toNat)
  case atStart => exact ⟨0, rfl, by omega, by rw [mix_zero]; exact HX4, H4⟩
  case round =>
    obtain ⟨i, rfl, hi, HM, HB⟩ := hrel
    by_cases hlt : i < 64
    · have hltI : (i : Int) < 64 := by omega
      have hx : xs[i]? = some (atOf a i) := by rw [← HX.out]; exact nums_get _ hlt
      have hz : zs[i]? = some (atOf b i) := by rw [← HZ.out]; exact nums_get _ hlt
      have hy : (nums (minAt a b))[i]? = some (if atOf b i < atOf a i then atOf b i else atOf a i) := by
        rw [nums_get _ hlt]; congr 1; unfold minAt; split <;> omega
      generalize atOf a i = x at hx hy
      generalize atOf b i = z at hz hy
      have hix := index38 HZL.out hz
      have cx := HM.out.cell (k := i) (x := x) (by rw [mix_get HYL.out hi]; exact hx)
      have fx := HM.out.frozen i
      have HE : Hid ((nums (minAt a b))[i]? = some (if z < x then z else x)) := hy
      clear hx hz hy
      go_wp2
      go_roundw
      case rel => exact ⟨i + 1, by go_num, by omega, HM.out.step HYL.out HXL.out hlt HE.out, HB.out.setCell HG.out _⟩
      case measure => simp [intOf]; omega
    · obtain rfl : i = 64 := by omega
      have HM' : Hid (Blk wr g (nums (minAt a b))) := by have := HM.out; rw [mix_full HYL.out HXL.out] at this; exact this
      clear hlt HM
      go_wp2_with (first
        | (refine wpList_load38 rfl _ rfl g rfl (nums (minAt a b)) HM' HYL ?_)
        | (go_at_call 28; refine Calls_ans (vector_any (minAt a b) _) ?_; intro p' c' w5 HL HB5))
      go_ret
      exact ⟨p', c', rfl, HL.out, Below.then HB.out HB5.out (Nat.le_refl _)⟩

end Go.Proofs.Ytflmlojdjegnkaa
