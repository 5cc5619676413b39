/-
  Push and Remove of container/heap over a queue's heap.
-/
import Derived.Test.YtgophojgofmkeaaZe
namespace Go.Proofs.Ytgophojgofmkeaa.Ck
open Go.RowKit Go.Maps

theorem FixOk.cut {f g : Nat → Nat} {m n i : Nat} (h : FixOk f m i) (hnm : n ≤ m) (hg : ∀ k, k < n → k ≠ i → g k = f k) : FixOk g n i := by
  refine ⟨fun k k0 kn ki kp => ?_, fun k k0 kn kp i0 => ?_⟩
  · have hk := par_lt k0
    rw [hg k kn ki, hg (par k) (by omega) kp]; exact h.1 k k0 (by omega) ki kp
  · have hk := par_lt k0
    have hp := par_lt i0
    rw [hg k kn (by omega), hg (par i) (by omega) (by omega)]
    exact h.2 k k0 (by omega) kp i0
theorem FixOk.last {f g : Nat → Nat} {n : Nat} (h : FixOk f (n + 1) n) (hg : ∀ k, k < n → g k = f k) : HeapF g n := by
  intro k k0 kn
  have hk := par_lt k0
  rw [hg k kn, hg (par k) (by omega)]
  exact h.1 k k0 (by omega) (by omega) (by omega)
theorem HeapF.toFix {f : Nat → Nat} {n i : Nat} (h : HeapF f n) (hi : i < n) : FixOk f n i := h.fix (Nat.le_refl _) hi fun _ _ _ => rfl
theorem snoc_of {I : List Nat} {n a : Nat} (hl : I.length = n + 1) (ha : I.getD n 0 = a) : ∃ J, I = J ++ [a] ∧ J.length = n := by
  refine ⟨I.take n, ?_, by simp; omega⟩
  have h1 : I.take (n + 1) = I := List.take_of_length_le (by omega)
  have h2 := List.take_succ_eq_append_getElem (l := I) (i := n) (by omega)
  have h3 : I[n]'(by omega) = a := by rw [← ha]; simp [List.getD, hl]
  rw [h1, h3] at h2
  exact h2

set_option maxRecDepth 8000 in
set_option maxHeartbeats 1000000 in
theorem ghPush_any (q : QP) (p : Option Addr) (cap a : Nat) (I : List Nat) (U : Nat → QE) (w : World) (h : HQ w q p cap I U) (ha : IsHeld w a (U a)) (hna : a ∉ I) (hla : q.base ≤ a) (hoka : (U a).ok) (hl1 : I.length + 1 < 1000000) (hh : HeapF (kvOf (keyQ q U) I) I.length) :
    Calls Try.prog 25 #[hI q.c, .iface 53 (ep a)] w fun e w' => e = .returned (.tuple #[]) ∧ ∃ p' cap' I', HQ w' q p' cap' I' U ∧ I'.Perm (I ++ [a]) ∧ HeapF (kvOf (keyQ q U) I') I'.length ∧ Fm q.base w w' := by
  have m0 := (gmeth q.c w).2.2.2.1
  have cP := gpPush_any q p cap a I U w h ha hna hla hoka hl1
  have hl : (I ++ [a]).length = I.length + 1 := by simp
  clear h ha
  go_enter Try.func25, Try.ntmps25
  go_wp2_with (go_at_call 59; refine cP.mono ?_; rintro e w1 ⟨rfl, p', cap', h1, b1⟩; clear cP m0; refine Stop.out ?_)
  refine Stop.mk ?_
  have m1 := (gmeth q.c w1).2.2.1
  have cN := gpLen_any q p' cap' (I ++ [a]) U w1 h1
  rw [hl] at cN
  have cU := gup_any q p' cap' (I ++ [a]) U (I.length + 1) I.length w1 h1 (by omega) (by omega) (hh.push fun k hk => by unfold kvOf; simp [List.getD, List.getElem?_append_left hk])
  have H1 : Hid (Fm q.base w w1) := b1
  have e1 : ((I.length + 1 : Nat) : Int) - 1 = (I.length : Int) := by omega
  clear h1 b1 hh hl
  go_wp2_with (first
    | (go_at_call 23; refine Calls_on cN ?_)
    | (go_at_call 34; refine cU.mono ?_; rintro e w2 ⟨rfl, I2, h2, hp2, hh2, _, hb2⟩; clear cU m1; have H2 : Hid (HQ w2 q p' cap' I2 U ∧ I2.Perm (I ++ [a]) ∧ HeapF (kvOf (keyQ q U) I2) (I.length + 1) ∧ Fm q.base w1 w2) := ⟨h2, hp2, hh2, hb2⟩; clear h2 hp2 hh2 hb2))
  go_end0
  obtain ⟨h2, hp2, hh2, hb2⟩ := H2.out
  have hl2 : I2.length = I.length + 1 := hp2.length_eq.trans (by simp)
  exact ⟨rfl, p', cap', I2, h2, hp2, by rw [hl2]; exact hh2, H1.out.next hb2⟩

set_option maxRecDepth 8000 in
set_option maxHeartbeats 2000000 in
theorem ghRemove_any (q : QP) (p : Option Addr) (cap : Nat) (I : List Nat) (U : Nat → QE) (i a : Nat) (w : World) (h : HQ w q p cap I U) (hi : i < I.length) (ha : I.getD i 0 = a) (hf : FixOk (kvOf (keyQ q U) I) I.length i) :
    Calls Try.prog 30 #[hI q.c, .int .i64 i] w fun e w' => e = .returned (.iface 53 (ep a)) ∧ ∃ I', HQ w' q p cap I' U ∧ (I' ++ [a]).Perm I ∧ HeapF (kvOf (keyQ q U) I') I'.length ∧ IsHeld w' a (U a) ∧ Fm q.base w w' := by
  obtain ⟨n, hn⟩ : ∃ n, I.length = n + 1 := ⟨I.length - 1, by omega⟩
  have m0 := (gmeth q.c w).2.2.1
  have cN := gpLen_any q p cap I U w h
  rw [hn] at cN
  have hlen := h.len
  have e1 : ((n + 1 : Nat) : Int) - 1 = (n : Int) := by omega
  by_cases hin : i = n
  · subst hin
    obtain ⟨J, rfl, hJ⟩ := snoc_of hn ha
    have e2 : ((i : Int) != (i : Int)) = false := by simp
    have mP := (gmeth q.c w).2.2.2.2
    have cP := gpPop_any q p cap a J U w h
    have hh : HeapF (kvOf (keyQ q U) J) J.length := by
      rw [hn] at hf
      rw [hJ]
      exact hf.last fun k hk => by unfold kvOf; simp [List.getD, List.getElem?_append_left (show k < J.length by omega)]
    have HH : Hid (HeapF (kvOf (keyQ q U) J) J.length) := hh
    clear h hf hn ha hh
    go_enter Try.func30, Try.ntmps30
    go_wp2_with (first
      | (go_at_call 23; refine Calls_on cN ?_)
      | (go_at_call 58; refine cP.mono ?_; rintro e w1 ⟨rfl, h1, hE1, b1⟩; clear cP m0; have H1 : Hid (HQ w1 q p cap J U ∧ IsHeld w1 a (U a) ∧ Fm q.base w w1) := ⟨h1, hE1, b1⟩; clear h1 hE1 b1))
    go_ret
    exact ⟨rfl, J, H1.out.1, List.Perm.refl _, HH.out, H1.out.2.1, H1.out.2.2⟩
  · have hlt : i < n := by omega
    have e2 : ((n : Int) != (i : Int)) = true := by rw [bne_iff_ne]; omega
    have m1 := (gmeth q.c w).2.1
    have cS := gSwap_hq q p cap I U i n (n + 1) w h hn (by omega) (by omega) hin
    have hI1 : i < I.length := hi
    have hI2 : n < I.length := by omega
    have hf2 : FixOk (kvOf (keyQ q U) (swapL I i n)) n i := by
      rw [hn] at hf
      refine hf.cut (by omega) fun k hk hki => ?_
      rw [kvOf_swap _ _ _ _ hI1 hI2, swF_o _ _ _ _ hki (by omega)]
    have hlast : (swapL I i n).getD n 0 = a := by rw [swapL_getD I i n n hI1 hI2, if_pos rfl]; exact ha
    have hperm := swapL_perm I i n hI1 hI2
    have hl2 : (swapL I i n).length = n + 1 := by rw [swapL_length]; exact hn
    generalize swapL I i n = I1 at *
    have HA : Hid (FixOk (kvOf (keyQ q U) I1) n i ∧ I1.getD n 0 = a ∧ I1.Perm I) := ⟨hf2, hlast, hperm⟩
    clear h hf hf2 hlast hperm hI1 hI2 ha hi
    go_enter Try.func30, Try.ntmps30
    go_wp2_with (first
      | (go_at_call 23; refine Calls_on cN ?_)
      | (go_at_call 60; refine cS.mono ?_; rintro e w1 ⟨rfl, h1, b1⟩; clear cS m0 m1; have cD := gdown_any q p cap I1 U n i w1 h1 (by omega) hlt HA.out.1; have H1 : Hid (Fm q.base w w1) := b1; clear h1 b1)
      | (go_at_call 37; refine cD.mono ?_; rintro e w2 ⟨I2, r, rfl, h2⟩; clear cD; refine Stop.out ?_))
    refine Stop.mk ?_
    have hl3 : I2.length = n + 1 := h2.perm.length_eq.trans hl2
    have hlast2 : I2.getD n 0 = a := (h2.far n (Nat.le_refl _)).trans HA.out.2.1
    cases r
    · have cU := gup_any q p cap I2 U n i w2 h2.hp (by omega) hlt (h2.no rfl)
      have H2 : Hid (DnE w1 w2 q p cap I1 I2 U n i false ∧ I2.getD n 0 = a) := ⟨h2, hlast2⟩
      clear h2 hlast2
      go_wp2_with (first
        | (go_at_call 34; refine cU.mono ?_; rintro e w3 ⟨rfl, I3, h3, hp3, hh3, hf3, hb3⟩; clear cU; refine Stop.out ?_))
      refine Stop.mk ?_
      have hl4 : I3.length = n + 1 := hp3.length_eq.trans hl3
      obtain ⟨J, rfl, hJ⟩ := snoc_of hl4 ((hf3 n (Nat.le_refl _)).trans H2.out.2)
      have mP := (gmeth q.c w3).2.2.2.2
      have cP := gpPop_any q p cap a J U w3 h3
      have hh : HeapF (kvOf (keyQ q U) J) J.length := by
        rw [hJ]
        exact hh3.less (Nat.le_refl _) fun k hk => by unfold kvOf; simp [List.getD, List.getElem?_append_left (show k < J.length by omega)]
      have H3 : Hid ((J ++ [a]).Perm I2 ∧ HeapF (kvOf (keyQ q U) J) J.length ∧ Fm q.base w2 w3) := ⟨hp3, hh, hb3⟩
      clear h3 hp3 hh3 hf3 hb3 hh
      go_wp2_with (go_at_call 58; refine cP.mono ?_; rintro e w4 ⟨rfl, h4, hE4, b4⟩; clear cP mP; have H4 : Hid (HQ w4 q p cap J U ∧ IsHeld w4 a (U a) ∧ Fm q.base w3 w4) := ⟨h4, hE4, b4⟩; clear h4 hE4 b4)
      go_ret
      obtain ⟨q1, q2, q3⟩ := H3.out
      exact ⟨rfl, J, H4.out.1, q1.trans (H2.out.1.perm.trans HA.out.2.2), q2, H4.out.2.1, ((H1.out.next H2.out.1.but).next q3).next H4.out.2.2⟩
    · obtain ⟨J, rfl, hJ⟩ := snoc_of hl3 hlast2
      have mP := (gmeth q.c w2).2.2.2.2
      have cP := gpPop_any q p cap a J U w2 h2.hp
      have hh : HeapF (kvOf (keyQ q U) J) J.length := by
        rw [hJ]
        exact (h2.yes rfl).less (Nat.le_refl _) fun k hk => by unfold kvOf; simp [List.getD, List.getElem?_append_left (show k < J.length by omega)]
      have H2 : Hid (DnE w1 w2 q p cap I1 (J ++ [a]) U n i true ∧ HeapF (kvOf (keyQ q U) J) J.length) := ⟨h2, hh⟩
      clear h2 hlast2 hh
      go_wp2_with (go_at_call 58; refine cP.mono ?_; rintro e w4 ⟨rfl, h4, hE4, b4⟩; clear cP mP; have H4 : Hid (HQ w4 q p cap J U ∧ IsHeld w4 a (U a) ∧ Fm q.base w2 w4) := ⟨h4, hE4, b4⟩; clear h4 hE4 b4)
      go_ret
      exact ⟨rfl, J, H4.out.1, H2.out.1.perm.trans HA.out.2.2, H2.out.2, H4.out.2.1, (H1.out.next H2.out.1.but).next H4.out.2.2⟩

end Go.Proofs.Ytgophojgofmkeaa.Ck
