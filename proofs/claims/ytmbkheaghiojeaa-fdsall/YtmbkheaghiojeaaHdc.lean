/-
  Push and Pop of container/heap over a table's heap of numbers; add, least.
-/
import Derived.Test.YtmbkheaghiojeaaHdb
namespace Go.Proofs.Ytmbkheaghiojeaa.Ck
open Go.RowKit

theorem TM.same {w : World} {c : Nat} {F : Nat → FE} {m : Nat} {I : List Nat} (h : TM w c F m I) {i : Nat} (hi : i < I.length) :
    TM ((w.setCell ⟨c, 161 + i, none⟩ (.int .i64 (I.getD i 0 : Nat))).setCell ⟨c, 161 + i, none⟩ (.int .i64 (I.getD i 0 : Nat))) c F m I := by
  obtain ⟨cs, hb, hc⟩ := h
  have hl := hc.len
  refine ⟨_, heap_set_same (heap_set_same hb _) _, ?_⟩
  have h1 : CS (cs.setIfInBounds (161 + i) (.int .i64 (I.getD i 0 : Nat))) F m I := hc.put i _ (by omega) rfl fun k hk => by
    by_cases e : k = i
    · subst e; simp
    · rw [if_neg e]
  exact h1.put i _ (by omega) rfl fun k hk => by
    by_cases e : k = i
    · subst e; simp
    · rw [if_neg e]

set_option maxRecDepth 8000 in
set_option maxHeartbeats 4000000 in
theorem fnSwap_same (c : Nat) (F : Nat → FE) (m : Nat) (I : List Nat) (i : Nat) (w : World) (h : TM w c F m I) (hi : i < I.length) :
    Calls Try.prog 46 #[np c, .int .i64 i, .int .i64 i] w fun e w' => e = .returned (.tuple #[]) ∧ TM w' c F m I ∧ OnC c w w' := by
  have HF : Hid (TM ((w.setCell ⟨c, 161 + i, none⟩ (.int .i64 (I.getD i 0 : Nat))).setCell ⟨c, 161 + i, none⟩ (.int .i64 (I.getD i 0 : Nat))) c F m I ∧ OnC c w ((w.setCell ⟨c, 161 + i, none⟩ (.int .i64 (I.getD i 0 : Nat))).setCell ⟨c, 161 + i, none⟩ (.int .i64 (I.getD i 0 : Nat)))) := ⟨h.same hi, (OnC.set _ _ _ _).next (OnC.set _ _ _ _)⟩
  obtain ⟨cs, hb, hc⟩ := h
  have c1 := (cellOf hb (161 + i)).trans (hc.row i hi)
  have f1 := frozenOf hb (161 + i)
  have hlen := hc.len
  have b1 : (0 : Int) ≤ (i : Int) := by omega
  have b3 : (i : Int) < 32 := by omega
  generalize I.getD i 0 = x at *
  clear hb hc
  go_enter Try.func46, Try.ntmps46
  go_wp2_with fail
  go_region
  all_goals go_wp2_with fail
  go_end0
  exact ⟨rfl, HF.out.1.drew, HF.out.2.drew⟩

theorem FixOk.cut {f g : Nat → Nat} {m n i : Nat} (h : FixOk f m i) (hnm : n ≤ m) (hg : ∀ k, k < n → k ≠ i → g k = f k) : FixOk g n i := by
  refine ⟨fun k k0 kn ki kp => ?_, fun k k0 kn kp i0 => ?_⟩
  · have hk := par_lt k0
    rw [hg k kn ki, hg (par k) (by omega) kp]; exact h.1 k k0 (by omega) ki kp
  · have hk := par_lt k0
    have hp := par_lt i0
    rw [hg k kn (by omega), hg (par i) (by omega) (by omega)]
    exact h.2 k k0 (by omega) kp i0
theorem HeapF.toFix {f : Nat → Nat} {n i : Nat} (h : HeapF f n) (hi : i < n) : FixOk f n i := h.fix (Nat.le_refl _) hi fun _ _ _ => rfl
theorem snoc_of {I : List Nat} {n a : Nat} (hl : I.length = n + 1) (ha : I.getD n 0 = a) : ∃ J, I = J ++ [a] ∧ J.length = n := by
  refine ⟨I.take n, ?_, by simp; omega⟩
  have h1 : I.take (n + 1) = I := List.take_of_length_le (by omega)
  have h2 := List.take_succ_eq_append_getElem (l := I) (i := n) (by omega)
  have h3 : I[n]'(by omega) = a := by rw [← ha]; simp [List.getD, hl]
  rw [h1, h3] at h2
  exact h2

set_option maxRecDepth 8000 in
set_option maxHeartbeats 1000000 in
theorem hpush_any (c : Nat) (F : Nat → FE) (mt a : Nat) (I : List Nat) (w : World) (h : TM w c F mt I) (hl1 : I.length < 32) (hh : HeapF (kvOf idN I) I.length) :
    Calls Try.prog 23 #[hI c, .iface 3 (.int .i64 a)] w fun e w' => e = .returned (.tuple #[]) ∧ ∃ I', TM w' c F mt I' ∧ I'.Perm (I ++ [a]) ∧ HeapF (kvOf idN I') I'.length ∧ OnC c w w' := by
  have m0 := (gmeth c w).2.2.2.1
  have cP := fnPush_any c F mt a I w h hl1
  have hl : (I ++ [a]).length = I.length + 1 := by simp
  clear h
  unfold hI
  go_enter Try.func23, Try.ntmps23
  go_wp2_with (go_at_call 45; refine cP.mono ?_; rintro e w1 ⟨rfl, h1, b1⟩; clear cP m0; refine Stop.out ?_)
  refine Stop.mk ?_
  have m1 := (gmeth c w1).2.2.1
  have cN := fnLen_any c F mt (I ++ [a]) w1 h1
  rw [hl] at cN
  have cU := gup_any c F mt (I ++ [a]) (I.length + 1) I.length w1 h1 (by omega) (by omega) (hh.push fun k hk => by unfold kvOf; simp [List.getD, List.getElem?_append_left hk])
  unfold hI at cU
  have H1 : Hid (OnC c w w1) := b1
  have e1 : ((I.length + 1 : Nat) : Int) - 1 = (I.length : Int) := by omega
  clear h1 b1 hh hl
  go_wp2_with (first
    | (go_at_call 21; refine Calls_on cN ?_)
    | (go_at_call 25; refine cU.mono ?_; rintro e w2 ⟨rfl, I2, h2, hp2, hh2, _, hb2⟩; clear cU m1; have H2 : Hid (TM w2 c F mt I2 ∧ I2.Perm (I ++ [a]) ∧ HeapF (kvOf idN I2) (I.length + 1) ∧ OnC c w1 w2) := ⟨h2, hp2, hh2, hb2⟩; clear h2 hp2 hh2 hb2))
  go_end0
  obtain ⟨h2, hp2, hh2, hb2⟩ := H2.out
  have hl2 : I2.length = I.length + 1 := hp2.length_eq.trans (by simp)
  exact ⟨rfl, I2, h2, hp2, by rw [hl2]; exact hh2, H1.out.next hb2⟩

set_option maxRecDepth 8000 in
set_option maxHeartbeats 1000000 in
theorem gdown_one (c : Nat) (w : World) :
    Calls Try.prog 26 #[hI c, .int .i64 0, .int .i64 0] w fun e w' => e = .returned (.bool false) ∧ w' = w := by
  unfold hI
  go_enter Try.func26, Try.ntmps26
  go_wp2_with fail
  go_loopw [7] (fun ii wr => ii = .int .i64 0 ∧ wr = w) (fun _ _ => 0)
  case atStart => exact ⟨rfl, rfl⟩
  case round =>
    obtain ⟨rfl, rfl⟩ := hrel
    go_wp2_with fail
    go_ret
    exact ⟨rfl, rfl⟩

set_option maxRecDepth 8000 in
set_option maxHeartbeats 2000000 in
theorem hpop_any (c : Nat) (F : Nat → FE) (mt : Nat) (I : List Nat) (w : World) (h : TM w c F mt I) (hi : 0 < I.length) (hh : HeapF (kvOf idN I) I.length) :
    Calls Try.prog 24 #[hI c] w fun e w' => e = .returned (.iface 3 (.int .i64 (I.getD 0 0 : Nat))) ∧ ∃ I', TM w' c F mt I' ∧ (I' ++ [I.getD 0 0]).Perm I ∧ HeapF (kvOf idN I') I'.length ∧ OnC c w w' := by
  obtain ⟨n, hn⟩ : ∃ n, I.length = n + 1 := ⟨I.length - 1, by omega⟩
  have m0 := (gmeth c w).2.2.1
  have cN := fnLen_any c F mt I w h
  rw [hn] at cN
  have hlen := h.len
  have e1 : ((n + 1 : Nat) : Int) - 1 = (n : Int) := by omega
  have m1 := (gmeth c w).2.1
  by_cases hn0 : n = 0
  · subst hn0
    obtain ⟨a, rfl⟩ := List.length_eq_one_iff.1 hn
    have cS := fnSwap_same c F mt [a] 0 w h hi
    show Calls Try.prog 24 #[hI c] w fun e w' => e = .returned (.iface 3 (.int .i64 (a : Nat))) ∧ ∃ I', TM w' c F mt I' ∧ (I' ++ [a]).Perm [a] ∧ HeapF (kvOf idN I') I'.length ∧ OnC c w w'
    clear h hi hn hh hlen
    unfold hI
    go_enter Try.func24, Try.ntmps24
    go_wp2_with (first
      | (go_at_call 21; refine Calls_on cN ?_)
      | (go_at_call 46; refine cS.mono ?_; rintro e w1 ⟨rfl, h1, b1⟩; clear cS m0 m1; have H1 : Hid (OnC c w w1) := b1; have cD := gdown_one c w1; unfold hI at cD; have cP := fnPop_any c F mt a [] w1 h1; have mP := (gmeth c w1).2.2.2.2; clear h1 b1)
      | (go_at_call 26; refine Calls_on cD ?_; clear cD)
      | (go_at_call 44; refine cP.mono ?_; rintro e w2 ⟨rfl, h2, b2⟩; clear cP mP; have H2 : Hid (TM w2 c F mt [] ∧ OnC c w1 w2) := ⟨h2, b2⟩; clear h2 b2))
    go_ret
    exact ⟨rfl, [], H2.out.1, List.Perm.refl _, fun k k0 kn => absurd kn (by simp), H1.out.next H2.out.2⟩
  · have cS := gSwap_hq c F mt I 0 n (n + 1) w h hn (by omega) (by omega) (Ne.symm hn0)
    have hI2 : n < I.length := by omega
    have hf2 : FixOk (kvOf idN (swapL I 0 n)) n 0 := by
      have hf := hh.toFix hi
      rw [hn] at hf
      refine hf.cut (by omega) fun k hk hki => ?_
      rw [kvOf_swap _ _ _ _ hi hI2, swF_o _ _ _ _ hki (by omega)]
    have hlast : (swapL I 0 n).getD n 0 = I.getD 0 0 := by rw [swapL_getD I 0 n n hi hI2, if_pos rfl]
    have hperm := swapL_perm I 0 n hi hI2
    have hl2 : (swapL I 0 n).length = n + 1 := by rw [swapL_length]; exact hn
    generalize swapL I 0 n = I1 at *
    generalize I.getD 0 0 = a at *
    have HA : Hid (FixOk (kvOf idN I1) n 0 ∧ I1.getD n 0 = a ∧ I1.Perm I) := ⟨hf2, hlast, hperm⟩
    have hlt : 0 < n := by omega
    clear h hf2 hlast hperm hi hI2 hh hn0
    unfold hI
    go_enter Try.func24, Try.ntmps24
    go_wp2_with (first
      | (go_at_call 21; refine Calls_on cN ?_)
      | (go_at_call 46; refine cS.mono ?_; rintro e w1 ⟨rfl, h1, b1⟩; clear cS m0 m1; have cD := gdown_any c F mt I1 n 0 w1 h1 (by omega) hlt HA.out.1; unfold hI at cD; have H1 : Hid (OnC c w w1) := b1; clear h1 b1)
      | (go_at_call 26; refine cD.mono ?_; rintro e w2 ⟨I2, r, rfl, h2⟩; clear cD; refine Stop.out ?_))
    refine Stop.mk ?_
    have hl3 : I2.length = n + 1 := h2.perm.length_eq.trans hl2
    have hlast2 : I2.getD n 0 = a := (h2.far n (Nat.le_refl _)).trans HA.out.2.1
    obtain ⟨J, rfl, hJ⟩ := snoc_of hl3 hlast2
    have mP := (gmeth c w2).2.2.2.2
    have cP := fnPop_any c F mt a J w2 h2.hp
    have hh : HeapF (kvOf idN J) J.length := by
      have h3 : HeapF (kvOf idN (J ++ [a])) n := by
        cases r
        · exact (h2.no rfl).done (.inl rfl)
        · exact h2.yes rfl
      rw [hJ]
      exact h3.less (Nat.le_refl _) fun k hk => by unfold kvOf; simp [List.getD, List.getElem?_append_left (show k < J.length by omega)]
    have H2 : Hid (DnE w1 w2 c F mt I1 (J ++ [a]) n 0 r ∧ HeapF (kvOf idN J) J.length) := ⟨h2, hh⟩
    clear h2 hlast2 hh
    go_wp2_with (go_at_call 44; refine cP.mono ?_; rintro e w4 ⟨rfl, h4, b4⟩; clear cP mP; have H4 : Hid (TM w4 c F mt J ∧ OnC c w2 w4) := ⟨h4, b4⟩; clear h4 b4)
    go_ret
    exact ⟨rfl, J, H4.out.1, H2.out.1.perm.trans HA.out.2.2, H2.out.2, (H1.out.next H2.out.1.but).next H4.out.2⟩

set_option maxRecDepth 8000 in
set_option maxHeartbeats 1000000 in
theorem fnAdd_any (c : Nat) (F : Nat → FE) (mt a : Nat) (I : List Nat) (w : World) (h : TM w c F mt I) (hl1 : I.length < 32) (hh : HeapF (kvOf idN I) I.length) :
    Calls Try.prog 20 #[np c, .int .i64 a] w fun e w' => e = .returned (.tuple #[]) ∧ ∃ I', TM w' c F mt I' ∧ I'.Perm (I ++ [a]) ∧ HeapF (kvOf idN I') I'.length ∧ OnC c w w' := by
  have cP := hpush_any c F mt a I w h hl1 hh
  unfold hI at cP
  clear h hh
  go_enter Try.func20, Try.ntmps20
  go_wp2_with (go_at_call 23; refine cP.mono ?_; rintro e w1 ⟨rfl, h1⟩; clear cP; have H1 : Hid (∃ I', TM w1 c F mt I' ∧ I'.Perm (I ++ [a]) ∧ HeapF (kvOf idN I') I'.length ∧ OnC c w w1) := h1; clear h1)
  go_end0
  exact ⟨rfl, H1.out⟩

set_option maxRecDepth 8000 in
set_option maxHeartbeats 1000000 in
theorem fnLeast_any (c : Nat) (F : Nat → FE) (mt : Nat) (I : List Nat) (w : World) (h : TM w c F mt I) (hi : 0 < I.length) (hh : HeapF (kvOf idN I) I.length) :
    Calls Try.prog 22 #[np c] w fun e w' => e = .returned (.int .i64 (I.getD 0 0 : Nat)) ∧ ∃ I', TM w' c F mt I' ∧ (I' ++ [I.getD 0 0]).Perm I ∧ HeapF (kvOf idN I') I'.length ∧ OnC c w w' := by
  have cP := hpop_any c F mt I w h hi hh
  unfold hI at cP
  have m1 := assert_int (I.getD 0 0)
  generalize I.getD 0 0 = a at *
  clear h hh
  go_enter Try.func22, Try.ntmps22
  go_wp2_with (go_at_call 24; refine cP.mono ?_; rintro e w1 ⟨rfl, h1⟩; clear cP; have H1 : Hid (∃ I', TM w1 c F mt I' ∧ (I' ++ [a]).Perm I ∧ HeapF (kvOf idN I') I'.length ∧ OnC c w w1) := h1; clear h1)
  go_wp2
  go_ret
  exact ⟨rfl, H1.out⟩

end Go.Proofs.Ytmbkheaghiojeaa.Ck
