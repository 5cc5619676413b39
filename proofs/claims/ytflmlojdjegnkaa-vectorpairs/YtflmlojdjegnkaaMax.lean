/-
  Max, of any number of vectors.
-/
import Derived.Test.YtflmlojdjegnkaaMnx
namespace Go.Proofs.Ytflmlojdjegnkaa
open Go.RowKit

/-- Vectors vss lie from q on. -/
def Vecs (w : World) (q : Option Addr) (vss : List (List Int)) : Prop :=
  ∀ j v, vss[j]? = some v → ∃ b o p c, q = some ⟨b, o, none⟩ ∧ w.cell? ⟨b, o + j, none⟩ = some (.slice p v.length c) ∧ Lies w p (v.map iv)
theorem Vecs.below {w w' : World} {q : Option Addr} {vss : List (List Int)} (h : Vecs w q vss) (hb : Below w.heap.size w w') : Vecs w' q vss := by
  intro j v hv
  obtain ⟨b, o, p, c, rfl, hc, hl⟩ := h j v hv
  exact ⟨b, o, p, c, rfl, (hb.cell (p := ⟨b, o + j, none⟩) (cell_lt hc)).trans hc, below_lies hb hl⟩
theorem zeros_max : zeros = nums (maxAt []) := rfl

set_option maxRecDepth 8000 in
set_option maxHeartbeats 400000 in
theorem max_any (q : Option Addr) (vss : List (List Int)) (cq : Nat) (w : World) (hl : vss.length ≤ 1000) (hq : Vecs w q vss) :
    Calls Try.prog 15 #[.slice q vss.length cq] w (Ans w (vec (maxAt vss))) := by
  have HQ : Hid (Vecs w q vss) := hq
  clear hq
  obtain ⟨g, hg⟩ : ∃ g, w.heap.size = g := ⟨_, rfl⟩
  have HG : Hid (w.heap.size = g) := hg
  clear hg
  go_enter Try.func15, Try.ntmps15
  go_wp2_with (refine wpList_new38 rfl rfl ?_; intro w1 HM HB1)
  rw [HG.out]
  have HM1 : Hid (Blk w1 g (nums (maxAt []))) := by rw [← HG.out, ← zeros_max]; exact HM
  clear HM
  go_loopw [10] (fun ii wr => ∃ i : Nat, ii = .int .i64 i ∧ i ≤ vss.length ∧ Hid (Blk wr g (nums (maxAt (vss.take i)))) ∧ Hid (Below w.heap.size w wr)) (fun ii _ => vss.length - (intOf ii).toNat)
  case atStart => exact ⟨0, rfl, by omega, HM1, HB1⟩
  case round =>
    obtain ⟨i, rfl, hi, HM, HB⟩ := hrel
    by_cases hlt : i < vss.length
    · have hltI : (i : Int) < vss.length := by omega
      obtain ⟨v, hv⟩ : ∃ v, vss[i]? = some v := ⟨_, List.getElem?_eq_getElem hlt⟩
      obtain ⟨b, o, p, c, rfl, hc, hlies⟩ := (HQ.out.below HB.out) i v hv
      have HT : Hid (vss.take (i + 1) = vss.take i ++ [v]) := by show _ = _; rw [List.take_add_one, hv]; rfl
      have cv := countsOf_any p v c wr hlies
      obtain ⟨xs, hxs⟩ : ∃ xs, nums (maxAt (vss.take i)) = xs := ⟨_, rfl⟩
      obtain ⟨ys, hys⟩ : ∃ ys, nums (maxAt (vss.take (i + 1))) = ys := ⟨_, rfl⟩
      obtain ⟨zs, hzs⟩ : ∃ zs, nums (atOf v) = zs := ⟨_, rfl⟩
      have HXL : Hid (xs.length = 64) := by show _ = _; rw [← hxs]; exact nums_length _
      have HYL : Hid (ys.length = 64) := by show _ = _; rw [← hys]; exact nums_length _
      have HZL : Hid (zs.length = 64) := by show _ = _; rw [← hzs]; exact nums_length _
      have HX : Hid (nums (maxAt (vss.take i)) = xs) := hxs
      have HY : Hid (nums (maxAt (vss.take (i + 1))) = ys) := hys
      have HZ : Hid (nums (atOf v) = zs) := hzs
      rw [hxs] at HM
      rw [hzs] at cv
      clear hv hlies hxs hys hzs
      go_wp2_with (go_at_call 27; refine Calls_new cv ?_; intro w2 HB2; clear cv)
      have H2 : Hid (Below w.heap.size w w2) := Below.then HB.out HB2.out (Nat.le_refl _)
      have HM2 : Hid (Blk w2 g xs) := HM.out.below HB2.out
      clear HB2 HM hc
      go_loopw [16] (fun jj wx => ∃ j : Nat, jj = .int .i64 j ∧ j ≤ 64 ∧ Hid (Blk wx g (mix ys xs j)) ∧ Hid (Below w.heap.size w wx)) (fun jj _ => 64 - (intOf jj).toNat)
      case atStart => exact ⟨0, rfl, by omega, by rw [mix_zero]; exact HM2, H2⟩
      case round =>
        obtain ⟨j, rfl, hj, HMj, HBj⟩ := hrel
        by_cases hlj : j < 64
        · have hljI : (j : Int) < 64 := by omega
          have hx : xs[j]? = some (maxAt (vss.take i) j) := by rw [← HX.out]; exact nums_get _ hlj
          have hz : zs[j]? = some (atOf v j) := by rw [← HZ.out]; exact nums_get _ hlj
          have hy : ys[j]? = some (if maxAt (vss.take i) j < atOf v j then atOf v j else maxAt (vss.take i) j) := by
            rw [← HY.out, nums_get _ hlj, HT.out, maxAt_snoc]; congr 1; split <;> omega
          generalize maxAt (vss.take i) j = x at hx hy
          generalize atOf v j = z at hz hy
          have hix := index38 HZL.out hz
          have cx := HMj.out.cell (k := j) (x := x) (by rw [mix_get HYL.out hj]; exact hx)
          have fx := HMj.out.frozen j
          have HE : Hid (ys[j]? = some (if x < z then z else x)) := hy
          clear hx hz hy
          go_wp2
          go_roundw
          case rel => exact ⟨j + 1, by go_num, by omega, HMj.out.step HYL.out HXL.out hlj HE.out, HBj.out.setCell (Nat.le_of_eq HG.out) _⟩
          case measure => simp [intOf]; omega
        · obtain rfl : j = 64 := by omega
          have HM' : Hid (Blk wr g (nums (maxAt (vss.take (i + 1))))) := by have := HMj.out; rw [mix_full HYL.out HXL.out, ← HY.out] at this; exact this
          clear hlj HMj
          go_wp2
          go_roundw
          case rel => exact ⟨i + 1, by go_num, by omega, HM', HBj⟩
          case measure => simp [intOf]; omega
    · obtain rfl : i = vss.length := by omega
      rw [List.take_length] at HM
      have HNL : Hid ((nums (maxAt vss)).length = 64) := nums_length _
      clear hlt
      go_wp2_with (first
        | (refine wpList_load38 rfl _ rfl g rfl (nums (maxAt vss)) HM HNL ?_)
        | (go_at_call 28; refine Calls_ans (vector_any (maxAt vss) _) ?_; intro p' c' w5 HL HB5))
      go_ret
      exact ⟨p', c', rfl, HL.out, Below.then HB.out HB5.out (Nat.le_refl _)⟩

end Go.Proofs.Ytflmlojdjegnkaa
