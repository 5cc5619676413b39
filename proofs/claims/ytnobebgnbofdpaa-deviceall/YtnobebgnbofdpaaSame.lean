/-
  same of the law's package: all that both devices tell is the same.
-/
import Derived.Test.YtnobebgnbofdpaaBoth
import Derived.Laws.BytesArg
import Derived.Deep.QuietTactic
import Derived.BigQuiet
namespace Go.Proofs.Ytnobebgnbofdpaa
open Go.RowKit Go.Maps Go.Sort Go.Shelf

/-- string(z), z a slice of 512 bytes. -/
theorem run_str512 (W : World) (g c : Nat) (arr : Array Value) (x : List Int) (h : W.heap[g]? = some (.cells arr 5 (0, 0))) (htk : arr.toList.take 512 = x.map u8) (hx : x.length = 512) :
    (convert 28 9 (.slice (some ⟨g, 0, none⟩) 512 c)).run Try.prog W = .ok (.string (strOfNums x)) W := by
  refine run_convert_bytes_arg W 28 5 Try.underlying28 Try.underlying5 g 0 512 c x hx (fun i hi => ?_) 9 Try.underlying9
  rw [Nat.zero_add, cellOf h i]
  have h1 : (arr.toList.take 512)[i]? = some (.int .u8 (x.getD i 0)) := by
    rw [htk, List.getElem?_map, List.getElem?_eq_getElem (by omega)]
    simp [List.getD, List.getElem?_eq_getElem (show i < x.length by omega), u8]
  rw [List.getElem?_take, if_pos hi] at h1
  simpa using h1

theorem take_all (x : List Int) (hx : x.length = 512) : ((x.map u8).toArray.toList.take 512) = x.map u8 := by
  rw [List.take_of_length_le (by simp; omega)]

/-- What both devices answer to Read(i), and the texts of what they answer. -/
theorem reads {W : World} {t : St} {lim : Nat} (h : Both W t lim) (i : Int) :
    ∃ p l c p2 l2 c2 ec str,
      (Calls Try.prog 20 #[.pointer (some ⟨t.a, 0, none⟩), .int .i64 i] W fun e w' => e = .returned (.tuple #[.slice p l c, .int .i64 ec]) ∧
        (∀ k, (convert 28 9 (.slice p l c)).run Try.prog (w'.drewN k) = .ok (.string str) (w'.drewN k)) ∧ (∀ k, (convert 28 9 (.slice p2 l2 c2)).run Try.prog (w'.drewN k) = .ok (.string str) (w'.drewN k)) ∧ Below W.heap.size W w') ∧
      (∀ W', Below W.heap.size W W' → Calls Try.prog 33 #[.pointer (some ⟨t.r, 0, none⟩), .int .i64 i] W' fun e w' => e = .returned (.tuple #[.slice p2 l2 c2, .int .i64 ec]) ∧ w' = W') := by
  by_cases hi : 0 ≤ i ∧ i < t.n
  · obtain ⟨j, rfl⟩ := Int.eq_ofNat_of_zero_le hi.1
    have hj : j < t.n := by omega
    obtain ⟨now, safe, q, vN, vS, h1, h2, h3, ⟨g, c, arr, rfl, hg, htk, hx⟩, _⟩ := h.blk j hj
    refine ⟨some ⟨W.heap.size, 0, none⟩, 512, 512, some ⟨g, 0, none⟩, 512, c, 0, strOfNums now, ?_, ?_⟩
    · refine (read_yes j t.a t.s t.n t.c t.m t.fused t.left t.count t.cur q (now.map u8) W h.dv.dev h.dv.row hj h1 h2).mono ?_
      rintro e w' ⟨rfl, hb, hB⟩
      refine ⟨rfl, fun k => ?_, fun k => ?_, hB⟩
      · exact run_str512 (w'.drewN k) _ _ _ now hb (take_all now hx) hx
      · exact run_str512 (w'.drewN k) g c arr now ((hB.block g (Array.getElem?_eq_some_iff.1 hg).1).trans hg) htk hx
    · intro W' hB
      have hr := (h.frame hB).rv
      exact rread_yes j t.r t.sN _ _ t.n t.cN t.lef t.count t.aN _ _ _ W' hr.ref hj hr.rN h3
  · refine ⟨none, 0, 0, none, 0, 0, 22, ByteArray.empty, ?_, ?_⟩
    · refine (read_no i t.a _ t.n t.c t.m t.fused t.left t.count W h.dv.dev hi).mono ?_
      rintro e w' ⟨rfl, rfl⟩
      exact ⟨rfl, fun k => run_convert_bytes_nil _ 28 5 Try.underlying28 Try.underlying5 0 0 9 Try.underlying9, fun k => run_convert_bytes_nil _ 28 5 Try.underlying28 Try.underlying5 0 0 9 Try.underlying9, Below.refl _ _⟩
    · intro W' hB
      exact rread_no i t.r _ _ _ t.n t.cN t.lef t.count W' (h.frame hB).rv.ref hi

set_option maxHeartbeats 2000000 in
theorem same_any (i : Int) (W : World) (t : St) (lim : Nat) (hlim : lim ≤ 1000) (h : Both W t lim) :
    Calls Try.prog 19 #[.pointer (some ⟨t.a, 0, none⟩), .pointer (some ⟨t.r, 0, none⟩), .int .i64 i] W fun e w' => e = .returned (.bool true) ∧ Below W.heap.size W w' := by
  obtain ⟨p, l, c, p2, l2, c2, ec, str, c20, c33⟩ := reads h i
  have c22 : ∀ W', Below W.heap.size W W' → Calls Try.prog 22 #[.pointer (some ⟨t.a, 0, none⟩)] W' fun e w' => e = .returned (.int .i64 t.n) ∧ w' = W' := fun W' hB => blocks_any t.a _ t.n t.c t.m t.fused t.left t.count W' (h.frame hB).dv.dev
  have c21 : ∀ W', Below W.heap.size W W' → Calls Try.prog 21 #[.pointer (some ⟨t.a, 0, none⟩)] W' fun e w' => e = .returned (.bool (t.lef == 0)) ∧ w' = W' := fun W' hB => by
    rw [h.fuse.dead]; exact dead_any t.a _ t.m t.fused t.left t.count W' (h.frame hB).dv.dev
  have c29 : ∀ W', Below W.heap.size W W' → Calls Try.prog 29 #[.pointer (some ⟨t.r, 0, none⟩)] W' fun e w' => e = .returned (.bool (t.lef == 0)) ∧ w' = W' := fun W' hB => rdead_any t.r _ _ _ t.lef t.count W' (h.frame hB).rv.ref
  have c23 : ∀ W', Below W.heap.size W W' → Calls Try.prog 23 #[.pointer (some ⟨t.a, 0, none⟩)] W' fun e w' => e = .returned (.int .i64 t.count) ∧ w' = W' := fun W' hB => count_any t.a _ t.m t.fused t.left t.count W' (h.frame hB).dv.dev
  generalize (t.lef == 0) = dd at c21 c29
  go_enter Try.func19, Try.ntmps19
  go_wp2_with fail
  refine c20.mono ?_
  rintro e w1 ⟨rfl, hs1, hs2, hB1⟩
  go_wp2_with fail
  refine Calls_on (c33 _ hB1) ?_
  have k1 : w1.cell? ⟨t.r, 1, none⟩ = some (.slice (some ⟨t.sN, 0, none⟩) t.n t.cN) := by have := cellOf (h.frame hB1).rv.ref 1; simpa [refCells] using this
  have k4 : w1.cell? ⟨t.r, 4, none⟩ = some (.int .i64 t.count) := by have := cellOf (h.frame hB1).rv.ref 4; simpa [refCells] using this
  have hdr : ∀ k, Below W.heap.size W (w1.drewN k) := fun k => ⟨hB1.os, hB1.tape, hB1.output, hB1.size, hB1.block⟩
  go_wp2_with fail
  go_quiet ((first
    | (go_at_call 22; exact Calls.quiet_of_same (c22 _ (hdr _)))
    | (go_at_call 21; exact Calls.quiet_of_same (c21 _ (hdr _)))
    | (go_at_call 29; exact Calls.quiet_of_same (c29 _ (hdr _)))
    | (go_at_call 23; exact Calls.quiet_of_same (c23 _ (hdr _)))))
  have hBq := hdr nq
  have hq := h.frame hBq
  have hsz : Maps.size t.D ≤ 1000 := Nat.le_trans hq.dv.own.size_le (Nat.le_trans h.nnb hlim)
  have c24 := loose_keys t.a _ t.m t.nn t.D t.fused t.left t.count (w1.drewN nq) hq.dv.dev hq.dv.own (by unfold maxLen; omega) (by omega)
  have hkeys := keys_eq hq.dv.own h.rng
  have hklen : (keys t.D).length = (looseList t.D t.n).length := by rw [hkeys, List.length_map]
  rw [hklen] at c24
  clear c20 c33 c22 c21 c29 c23 hdr hs1 hs2 k1 k4 hsz
  go_wp2_with fail
  refine c24.mono ?_
  rintro e w2 ⟨p3, cp3, rfl, hsrc, hB2⟩
  clear c24
  have hB2' : Below W.heap.size W w2 := hBq.trans (hB2.mono hBq.size)
  have h2 := h.frame hB2'
  have k2 : w2.cell? ⟨t.r, 2, none⟩ = some (.slice (some ⟨t.sL, 0, none⟩) t.n t.cL) := by have := cellOf h2.rv.ref 2; simpa [refCells] using this
  have hL : ∀ j, j < t.n → w2.cell? ⟨t.sL, j, none⟩ = some (.bool (Maps.has t.D (.int .i64 j))) := fun j hj => by
    obtain ⟨_, _, _, _, _, _, _, _, _, _, _, h7, _⟩ := h2.blk j hj
    exact (cellOf h2.rv.rL j).trans h7
  have hlen30 : (looseList t.D t.n).length ≤ 30 := Nat.le_trans (List.length_filter_le _ _) (by simpa using h.n30)
  have hsrc' : ∀ j, j < t.n → Maps.has t.D (.int .i64 j) = true → ∃ g, p3 = some ⟨g, 0, none⟩ ∧ (looseList t.D j).length < (looseList t.D t.n).length ∧
      w2.cell? ⟨g, (looseList t.D j).length, none⟩ = some (.int .i64 j) := fun j hj hh => by
    have hat : (looseList t.D t.n)[(looseList t.D j).length]? = some j := filter_at (fun j : Nat => Maps.has t.D (.int .i64 j)) j t.n hj hh
    have hlt := (List.getElem?_eq_some_iff.1 hat).1
    obtain ⟨g, cur, hp, _, hb, hc⟩ := hsrc (Nat.lt_of_le_of_lt (Nat.zero_le _) hlt)
    refine ⟨g, hp, hlt, ?_⟩
    rw [cellOf hb]
    refine hc _ _ ?_
    rw [hkeys, List.getElem?_map]
    rw [hat]; rfl
  have hn30 := h.n30
  clear hsrc hkeys hklen h2 hB2 hBq hB1 hq h
  generalize hLN : (looseList t.D t.n).length = LN at hlen30 hsrc' ⊢
  have HLN : Hid ((looseList t.D t.n).length = LN) := hLN
  clear hLN
  go_wp2_with fail
  go_loop [12, 13] (fun kk jj => ∃ j : Nat, j ≤ t.n ∧ jj = .int .i64 j ∧ ∃ k : Nat, k ≤ j ∧ kk = .int .i64 k ∧ Hid ((looseList t.D j).length = k)) (fun _ jj => t.n - (intOf jj).toNat)
  case atStart => exact ⟨0, Nat.zero_le _, rfl, 0, Nat.le_refl _, rfl, rfl⟩
  case round =>
    obtain ⟨j, hj, rfl, k, hkj, rfl, HK⟩ := hrel
    by_cases hlt : j < t.n
    · have e1 := hL j hlt
      have hltI : (j : Int) < t.n := by omega
      cases hh : Maps.has t.D (.int .i64 j)
      · rw [hh] at e1
        have HH : Hid (Maps.has t.D (.int .i64 j) = false) := hh
        clear hh hsrc' hL
        go_wp2
        go_round
        case rel =>
          refine ⟨j + 1, by omega, by go_num, k, by omega, rfl, ?_⟩
          show _ = _
          rw [looseList, filter_succ, if_neg (by rw [HH.out]; decide), List.append_nil]
          exact HK.out
        case measure => simp [intOf]; omega
      · rw [hh] at e1
        obtain ⟨g, hp, hlk, hc⟩ := hsrc' j hlt hh
        rw [HK.out] at hlk hc
        subst hp
        have HH : Hid (Maps.has t.D (.int .i64 j) = true) := hh
        have hlkI : (k : Int) < LN := by omega
        clear hh hsrc' hL
        go_wp2
        go_round
        case rel =>
          refine ⟨j + 1, by omega, by go_num, k + 1, by omega, by go_num, ?_⟩
          show _ = _
          rw [looseList, filter_succ, if_pos HH.out, List.length_append]
          exact congrArg (· + 1) HK.out
        case measure => simp [intOf]; omega
    · obtain rfl : j = t.n := by omega
      have hkl : k = LN := by rw [← HK.out, ← HLN.out]
      subst hkl
      clear hL hsrc'
      go_wp2
      go_ret
      exact ⟨by simp, hB2'⟩

end Go.Proofs.Ytnobebgnbofdpaa
