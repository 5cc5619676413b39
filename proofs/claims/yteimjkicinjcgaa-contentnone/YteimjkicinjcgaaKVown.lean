/-
  Max once more: its answer is a row of its own.
-/
import Derived.Test.YteimjkicinjcgaaKVmax

namespace Go.Proofs.Yteimjkicinjcgaa.Vc
open Go.RowKit

/-- An answer that is a row of the call's own. -/
def AnsO (w : World) (ns : List Int) (e : Ending) (w' : World) : Prop := ∃ p c, e = .returned (.slice p ns.length c) ∧ w'.ownsRow w.heap.size 2 1 (.slice p ns.length c) ns.length (ns.map iv) ∧ Below w.heap.size w w'
theorem AnsO.mk {w w' : World} {ns ms : List Int} {p : Option Addr} {n c : Nat} {e : Ending} (he : e = .returned (.slice p n c)) (hm : n = ms.length) (hn : ms = ns) (hl : w'.ownsRow w.heap.size 2 1 (.slice p ms.length c) ms.length (ms.map iv)) (hb : Below w.heap.size w w') : AnsO w ns e w' := by
  subst hn; subst hm
  exact ⟨p, c, he, hl, hb⟩
theorem own_base {w : World} {b b' : Nat} {e : TypeId} {v : Value} {n : Nat} {xs : List Value} (h : w.ownsRow b e 1 v n xs) (hb : b' ≤ b) : w.ownsRow b' e 1 v n xs := by
  refine ⟨h.1, ?_⟩
  rcases h.2 with h0 | ⟨g, cap, cur, hv, hb2, r⟩
  · exact .inl h0
  · exact .inr ⟨g, cap, cur, hv, by omega, r⟩

theorem wpList_append_ownf {w : World} {ops : Array Oper} {rest : List Oper} {o : Oper} {a : Act} {Q : Exit → Act → World → Prop} (hgd : o.guard = none) (s x : Operand)
    (ho : o.op = .call { callee := .builtin .append, args := #[s, x], argTypes := #[33, 32] }) (base : Nat) (hs : a.eval s = .slice none 0 0) (g n c : Nat) (ns : List Int) (hx : a.eval x = .slice (some ⟨g, 0, none⟩) n c)
    (hb : Hid (Blk w g ns)) (hl : Hid (ns.length = 64)) (hn : Hid (n ≤ 64)) (hbase : Hid (base ≤ w.heap.size))
    (h : ∀ p c' w', Hid (w'.ownsRow base 2 1 (.slice p (ns.take n).length c') (ns.take n).length ((ns.take n).map iv)) → Hid (Below base w w') → wpList Try.prog ops Q rest (a.put o.dst (.slice p (ns.take n).length c')) w') :
    wpList Try.prog ops Q (o :: rest) a w := by
  refine wpList_plain hgd fun K hK => ?_
  obtain ⟨i0, hi0, hz0, hz1, hz2⟩ := info_parts Try.info2
  have hlen : ((ns.take n).map iv).length = n := by have := hl.out; have := hn.out; simp; omega
  obtain ⟨v', w', hr, h2, h3, _, h5⟩ := run_append_own_at (P := Try.prog) w base 33 o.type 2 i0 (.int .i64 0) 1 8 Try.underlying33 hi0 hz0 hz1 hz2 rfl (by decide) (.slice none 0 0) 0 [] (World.ownsRow_nil _ _ _ _) ⟨g, 0, none⟩ n c ((ns.take n).map iv) (by omega)
    (fun j u hj => by
      rw [Addr.add_lit]
      obtain ⟨b, o', e, hc⟩ := lies_take hb.out.lies n (Nat.lt_of_le_of_lt (Nat.zero_le _) (List.getElem?_eq_some_iff.1 hj).1)
      cases e
      exact hc j u hj) (iv_one _) (by have := hn.out; unfold maxLen; omega) (by have := hn.out; omega) hbase.out
  have hlen2 : (ns.take n).length = n := by simpa using hlen
  rw [List.nil_append, Nat.zero_add] at h2
  obtain ⟨p', c', rfl⟩ : ∃ p' c', v' = .slice p' n c' := by
    rcases h2.2 with ⟨e, h0⟩ | ⟨g', cap, cur, e, _⟩
    · exact ⟨none, 0, by rw [e, h0]⟩
    · exact ⟨_, cap, e⟩
  unfold Oper.wp execOp
  simp only [ho, resolve, invoke, builtin, Sem.run_bind, Sem.run_pure, Result.andThen_ok, List.map_toArray, List.map_cons, List.map_nil, hs, hx, append_23_22, hr]
  refine hK _ _ ?_
  have := h p' c' w'
  rw [hlen2] at this
  exact this h2 ⟨h3.os, h3.tape, h3.output, h3.size, fun k hk => h3.block k (Nat.lt_of_lt_of_le hk hbase.out) (fun e => by cases e)⟩

set_option maxRecDepth 8000 in
set_option maxRecDepth 8000 in
set_option maxHeartbeats 400000 in
theorem vector_own (f : Nat → Int) (w : World) :
    Calls Try.prog 70 #[.agg (row (nums f))] w (AnsO w (vec f)) := by
  obtain ⟨xs, hxs⟩ : ∃ xs, xs = nums f := ⟨_, rfl⟩
  have HXL : Hid (xs.length = 64) := by show _ = _; rw [hxs]; exact nums_length _
  obtain ⟨ys, hys⟩ : ∃ ys, ys = vec f := ⟨_, rfl⟩
  rw [← hys, ← hxs]
  have HV : Hid (ys = xs.take (tl xs 64)) := by show _ = _; rw [hys, hxs]; rfl
  clear hys hxs
  have HM : Hid (Blk (w.alloc (.cells (row xs) 87)) w.heap.size xs) := Blk.made w xs
  go_enter Try.func70, Try.ntmps70
  go_wp2_with (refine wpList_box38 rfl _ rfl xs rfl ?_)
  go_loop [3] (fun vv => ∃ k : Nat, vv = .int .i64 k ∧ k ≤ 64 ∧ Hid (tl xs k = tl xs 64)) (fun vv => (intOf vv).toNat)
  case atStart => exact ⟨64, rfl, Nat.le_refl _, rfl⟩
  case round =>
    obtain ⟨k, rfl, hk, HE⟩ := hrel
    by_cases hend : k = 0 ∨ ∃ j x, k = j + 1 ∧ xs[j]? = some x ∧ x ≠ 0
    · have HT : Hid (tl xs 64 = k) := by
        show _ = _
        rw [← HE.out]
        rcases hend with rfl | ⟨j, x, rfl, hx, hz⟩
        · rfl
        · rw [tl, if_neg (by rw [hx]; intro e; cases e; exact hz rfl)]
      have HK : Hid (k ≤ 64) := hk
      have HBS : Hid (w.heap.size ≤ (w.alloc (.cells (row xs) 87)).heap.size) := by show _ ≤ _; simp
      have HV' : Hid (xs.take k = ys) := by show _ = _; rw [HV.out, HT.out]
      clear HE HT
      rcases hend with rfl | ⟨j, x, rfl, hx, hz⟩
      · go_wp2_with (refine wpList_append_ownf rfl _ _ rfl w.heap.size rfl w.heap.size _ _ xs rfl HM HXL HK HBS ?_; intro p c w1 HL HB)
        go_ret
        exact AnsO.mk rfl (by simp) HV'.out HL.out (((Below.refl _ _).alloc (Nat.le_refl _) _).trans HB.out)
      · have cx := HM.out.cell hx
        have hz' : (x == 0) = false := by simpa using hz
        have hs := fun w' => slice38 w.heap.size (z := (j : Int) + 1) (n := j + 1) (by omega) hk w'
        clear hx hz
        go_wp2_with (refine wpList_append_ownf rfl _ _ rfl w.heap.size rfl w.heap.size _ _ xs rfl HM HXL HK HBS ?_; intro p c w1 HL HB)
        go_ret
        exact AnsO.mk rfl (by simp) HV'.out HL.out (((Below.refl _ _).alloc (Nat.le_refl _) _).trans HB.out)
    · obtain ⟨j, rfl⟩ : ∃ j, k = j + 1 := ⟨k - 1, by rcases Nat.eq_zero_or_pos k with h | h; exact absurd (.inl h) hend; omega⟩
      obtain ⟨x, hx⟩ : ∃ x, xs[j]? = some x := ⟨_, List.getElem?_eq_getElem (by rw [HXL.out]; omega)⟩
      have hz : x = 0 := Decidable.byContradiction fun h => hend (.inr ⟨j, x, rfl, hx, h⟩)
      subst hz
      have cx := HM.out.cell hx
      have HX : Hid (xs[j]? = some 0) := hx
      clear hx hend
      go_wp2
      go_round
      case rel =>
        refine ⟨j, by go_num, by omega, ?_⟩
        have := HE.out
        rw [tl, if_pos HX.out] at this
        exact this
      case measure => simp [intOf]

set_option maxRecDepth 8000 in
set_option maxRecDepth 8000 in
set_option maxHeartbeats 400000 in
theorem max_own (q : Option Addr) (vss : List (List Int)) (cq : Nat) (w : World) (hl : vss.length ≤ 1000) (hq : Vecs w q vss) :
    Calls Try.prog 51 #[.slice q vss.length cq] w (AnsO w (vec (maxAt vss))) := by
  have HQ : Hid (Vecs w q vss) := hq
  clear hq
  obtain ⟨g, hg⟩ : ∃ g, w.heap.size = g := ⟨_, rfl⟩
  have HG : Hid (w.heap.size = g) := hg
  clear hg
  go_enter Try.func51, Try.ntmps51
  go_wp2_with (refine wpList_new38 rfl rfl ?_; intro w1 HM HB1)
  rw [HG.out]
  have HM1 : Hid (Blk w1 g (nums (maxAt []))) := by rw [← HG.out, ← zeros_max]; exact HM
  clear HM
  go_loopw [10] (fun ii wr => ∃ i : Nat, ii = .int .i64 i ∧ i ≤ vss.length ∧ Hid (Blk wr g (nums (maxAt (vss.take i)))) ∧ Hid (Below w.heap.size w wr)) (fun ii _ => vss.length - (intOf ii).toNat)
  case atStart => exact ⟨0, rfl, by omega, HM1, HB1⟩
  case round =>
    obtain ⟨i, rfl, hi, HM, HB⟩ := hrel
    by_cases hlt : i < vss.length
    · have hltI : (i : Int) < vss.length := by omega
      obtain ⟨v, hv⟩ : ∃ v, vss[i]? = some v := ⟨_, List.getElem?_eq_getElem hlt⟩
      obtain ⟨b, o, p, c, rfl, hc, hlies⟩ := (HQ.out.below HB.out) i v hv
      have HT : Hid (vss.take (i + 1) = vss.take i ++ [v]) := by show _ = _; rw [List.take_add_one, hv]; rfl
      have cv := countsOf_any p v c wr hlies
      obtain ⟨xs, hxs⟩ : ∃ xs, nums (maxAt (vss.take i)) = xs := ⟨_, rfl⟩
      obtain ⟨ys, hys⟩ : ∃ ys, nums (maxAt (vss.take (i + 1))) = ys := ⟨_, rfl⟩
      obtain ⟨zs, hzs⟩ : ∃ zs, nums (atOf v) = zs := ⟨_, rfl⟩
      have HXL : Hid (xs.length = 64) := by show _ = _; rw [← hxs]; exact nums_length _
      have HYL : Hid (ys.length = 64) := by show _ = _; rw [← hys]; exact nums_length _
      have HZL : Hid (zs.length = 64) := by show _ = _; rw [← hzs]; exact nums_length _
      have HX : Hid (nums (maxAt (vss.take i)) = xs) := hxs
      have HY : Hid (nums (maxAt (vss.take (i + 1))) = ys) := hys
      have HZ : Hid (nums (atOf v) = zs) := hzs
      rw [hxs] at HM
      rw [hzs] at cv
      clear hv hlies hxs hys hzs
      go_wp2_with (go_at_call 69; refine Calls_new cv ?_; intro w2 HB2; clear cv)
      have H2 : Hid (Below w.heap.size w w2) := Below.then HB.out HB2.out (Nat.le_refl _)
      have HM2 : Hid (Blk w2 g xs) := HM.out.below HB2.out
      clear HB2 HM hc
      go_loopw [16] (fun jj wx => ∃ j : Nat, jj = .int .i64 j ∧ j ≤ 64 ∧ Hid (Blk wx g (mix ys xs j)) ∧ Hid (Below w.heap.size w wx)) (fun jj _ => 64 - (intOf jj).toNat)
      case atStart => exact ⟨0, rfl, by omega, by rw [mix_zero]; exact HM2, H2⟩
      case round =>
        obtain ⟨j, rfl, hj, HMj, HBj⟩ := hrel
        by_cases hlj : j < 64
        · have hljI : (j : Int) < 64 := by omega
          have hx : xs[j]? = some (maxAt (vss.take i) j) := by rw [← HX.out]; exact nums_get _ hlj
          have hz : zs[j]? = some (atOf v j) := by rw [← HZ.out]; exact nums_get _ hlj
          have hy : ys[j]? = some (if maxAt (vss.take i) j < atOf v j then atOf v j else maxAt (vss.take i) j) := by
            rw [← HY.out, nums_get _ hlj, HT.out, maxAt_snoc]; congr 1; split <;> omega
          generalize maxAt (vss.take i) j = x at hx hy
          generalize atOf v j = z at hz hy
          have hix := index38 HZL.out hz
          have cx := HMj.out.cell (k := j) (x := x) (by rw [mix_get HYL.out hj]; exact hx)
          have fx := HMj.out.frozen j
          have HE : Hid (ys[j]? = some (if x < z then z else x)) := hy
          clear hx hz hy
          go_wp2
          go_roundw
          case rel => exact ⟨j + 1, by go_num, by omega, HMj.out.step HYL.out HXL.out hlj HE.out, HBj.out.setCell (Nat.le_of_eq HG.out) _⟩
          case measure => simp [intOf]; omega
        · obtain rfl : j = 64 := by omega
          have HM' : Hid (Blk wr g (nums (maxAt (vss.take (i + 1))))) := by have := HMj.out; rw [mix_full HYL.out HXL.out, ← HY.out] at this; exact this
          clear hlj HMj
          go_wp2
          go_roundw
          case rel => exact ⟨i + 1, by go_num, by omega, HM', HBj⟩
          case measure => simp [intOf]; omega
    · obtain rfl : i = vss.length := by omega
      rw [List.take_length] at HM
      have HNL : Hid ((nums (maxAt vss)).length = 64) := nums_length _
      clear hlt
      go_wp2_with (first
        | (refine wpList_load38 rfl _ rfl g rfl (nums (maxAt vss)) HM HNL ?_)
        | (go_at_call 70; refine (vector_own (maxAt vss) _).mono ?_; rintro e w5 ⟨p', c', rfl, hl5, hb5⟩; have HL : Hid (w5.ownsRow _ 2 1 _ _ _) := hl5; have HB5 : Hid (Below _ _ w5) := hb5; clear hl5 hb5))
      go_ret
      exact ⟨p', c', rfl, own_base HL.out HB.out.size, Below.then HB.out HB5.out (Nat.le_refl _)⟩

end Go.Proofs.Yteimjkicinjcgaa.Vc
