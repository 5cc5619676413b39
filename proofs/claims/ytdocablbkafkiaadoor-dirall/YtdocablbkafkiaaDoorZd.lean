/-
  Short and Local of the law's packages.
-/
import Derived.Test.YtdocablbkafkiaaDoorZc
import Derived.Recover

/-
  down of container/heap over package bcache's heap. (Printed by mkdown.py.)
-/
namespace Go.Proofs.YtdocablbkafkiaaDoor.Cd
open Go.RowKit Go.Maps

/-- What down's loop keeps. -/
structure DnI (w0 wr : World) (base kb : Nat) (p : Option Addr) (cap : Nat) (I I' : List Nat) (U : Nat → En) (n i0 i : Nat) : Prop where
  hp : HQ wr base kb p cap I' U
  fix : FixOk (kvOf keyZ I') n i
  perm : I'.Perm I
  far : ∀ k, n ≤ k → I'.getD k 0 = I.getD k 0
  but : Only (Fq kb p) w0 wr
  way : i = i0 ∨ (i0 < i ∧ kvOf keyZ I' (par i) ≤ kvOf keyZ I' i)
theorem DnI.step {w0 wr w1 w2 : World} {base kb : Nat} {p : Option Addr} {cap : Nat} {I I' : List Nat} {U : Nat → En} {n i0 i j : Nat} (h : DnI w0 wr base kb p cap I I' U n i0 i) (hn : n ≤ I'.length) (hi0 : i0 ≤ i) (hj : par j = i) (hj0 : 0 < j) (hjn : j < n)
    (hlt : kvOf keyZ I' j < kvOf keyZ I' i) (hmin : ∀ k, 0 < k → k < n → par k = i → kvOf keyZ I' j ≤ kvOf keyZ I' k) (hb1 : Only (fun _ => False) wr w1) (h2 : HQ w2 base kb p cap (swapL I' i j) U) (hb2 : Only (Fq kb p) w1 w2) : DnI w0 w2 base kb p cap I (swapL I' i j) U n i0 j := by
  have hp := par_lt hj0
  obtain ⟨f1, f2⟩ := h.fix.step hj hj0 hjn hlt hmin
  have e := kvOf_swap (keyZ) I' i j (by omega) (by omega)
  refine ⟨h2, by rw [e]; exact f1, (swapL_perm I' i j (by omega) (by omega)).trans h.perm, fun k hk => ?_, h.but.next ((Only.weak hb1 (fun _ _ h => h.elim)).next hb2), .inr ⟨by omega, by rw [e]; exact f2⟩⟩
  · rw [swapL_getD I' _ _ k (by omega) (by omega), if_neg (by omega), if_neg (by omega)]
    exact h.far k hk
/-- What down answers. -/
structure DnE (w0 w' : World) (base kb : Nat) (p : Option Addr) (cap : Nat) (I I' : List Nat) (U : Nat → En) (n i0 : Nat) (r : Bool) : Prop where
  hp : HQ w' base kb p cap I' U
  perm : I'.Perm I
  far : ∀ k, n ≤ k → I'.getD k 0 = I.getD k 0
  but : Only (Fq kb p) w0 w'
  yes : r = true → HeapF (kvOf keyZ I') n
  no : r = false → UpOk (kvOf keyZ I') n i0
theorem DnI.stop {w0 wr w1 : World} {base kb : Nat} {p : Option Addr} {cap : Nat} {I I' : List Nat} {U : Nat → En} {n i0 i : Nat} (h : DnI w0 wr base kb p cap I I' U n i0 i) (hmin : ∀ k, 0 < k → k < n → par k = i → kvOf keyZ I' i ≤ kvOf keyZ I' k) (h1 : HQ w1 base kb p cap I' U) (hb1 : Only (fun _ => False) wr w1) :
    DnE w0 w1 base kb p cap I I' U n i0 (decide (i > i0)) := by
  have hu := h.fix.stay hmin
  refine ⟨h1, h.perm, h.far, h.but.next (Only.weak hb1 (fun _ _ h => h.elim)), fun hr => ?_, fun hr => ?_⟩
  · have : i0 < i := by simpa using hr
    rcases h.way with e | ⟨_, e⟩
    · omega
    · exact hu.done (.inr e)
  · have : ¬ i0 < i := by simpa using hr
    rcases h.way with e | ⟨e, _⟩
    · subst e; exact hu
    · omega

set_option maxRecDepth 8000 in
set_option maxHeartbeats 4000000 in
theorem zdown_any (base kb : Nat) (p : Option Addr) (cap : Nat) (I : List Nat) (U : Nat → En) (n i0 : Nat) (w : World) (h : HQ w base kb p cap I U) (hn : n ≤ I.length) (hi0 : i0 < n) (hf : FixOk (kvOf keyZ I) n i0) :
    Calls Tryd.prog 70 #[hI kb, .int .i64 i0, .int .i64 n] w fun e w' => ∃ I' r, e = .returned (.bool r) ∧ DnE w w' base kb p cap I I' U n i0 r := by
  have hlen := h.len
  have HJ : Hid (DnI w w base kb p cap I I U n i0 i0) := ⟨h, hf, List.Perm.refl _, fun _ _ => rfl, Only.refl _ _, .inl rfl⟩
  clear h hf
  unfold hI
  go_enter Tryd.func70, Tryd.ntmps70
  go_wp2_with fail
  go_loopw [7] (fun ii wr => ∃ (i : Nat) (I' : List Nat), ii = .int .i64 i ∧ i0 ≤ i ∧ i < n ∧ I'.length = I.length ∧ Hid (DnI w wr base kb p cap I I' U n i0 i)) (fun ii _ => n - (intOf ii).toNat)
  case atStart => exact ⟨i0, I, rfl, Nat.le_refl _, hi0, rfl, HJ⟩
  case round =>
    clear HJ
    obtain ⟨i, I', rfl, hii, hin, hl, HI⟩ := hrel
    have B0 : Only (fun _ => False) wr wr := Only.refl _ _
    by_cases hA : n ≤ 2 * i + 1
    · have hAI : (2 : Int) * (i : Int) + 1 ≥ (n : Int) := by omega
      go_wp2_with fail
      go_ret
      exact ⟨I', _, rfl, by
        have := HI.out.stop (fun k k0 kn kp => by rcases par_child kp k0 with e | e <;> omega) HI.out.hp B0
        simpa using this⟩
    · have a1 : ¬ (2 : Int) * (i : Int) + 1 ≥ (n : Int) := by omega
      have a2 : ¬ (2 : Int) * (i : Int) + 1 < 0 := by omega
      have q1 : (2 : Int) * (i : Int) + 1 = ((2 * i + 1 : Nat) : Int) := by omega
      have q2 : ((2 * i + 1 : Nat) : Int) + 1 = ((2 * i + 2 : Nat) : Int) := by omega
      have p1 : par (2 * i + 1) = i := by unfold par; omega
      have p2 : par (2 * i + 2) = i := by unfold par; omega
      have m1 := zm_less base kb p cap I' U I.length wr HI.out.hp hl
      by_cases hB : 2 * i + 2 < n
      · by_cases hc : kvOf keyZ I' (2 * i + 2) < kvOf keyZ I' (2 * i + 1)
        · generalize hj1 : 2 * i + 1 = j1 at *
          generalize hj2 : 2 * i + 2 = j2 at *
          have cL1 := zLess_hq base kb p cap I' U j2 j1 I.length wr HI.out.hp hl (by omega) (by omega) true (by simpa using hc)
          have hk : (j2 : Int) < (n : Int) := by omega
          have Hj : Hid (2 * i + 1 = j1 ∧ 2 * i + 2 = j2) := ⟨hj1, hj2⟩
          have hb1 : j1 < n := by omega
          have hb2 : i < j1 := by omega
          have hb3 : j2 = j1 + 1 := by omega
          clear hj1 hj2 hb3 hA B0
          by_cases hd : kvOf keyZ I' j2 < kvOf keyZ I' i
          · go_wp2_with (first
              | (go_at_call 103; refine cL1.mono ?_; rintro e w1 ⟨rfl, h1, b1⟩; clear cL1 m1; have H1 : Hid (HQ w1 base kb p cap I' U ∧ Only (fun _ => False) wr w1) := ⟨h1, b1⟩; clear h1 b1; have m2 := zm_less base kb p cap I' U I.length w1 H1.out.1 hl; have cL2 := zLess_hq base kb p cap I' U j2 i I.length w1 H1.out.1 hl (by omega) (by omega) true (by simpa using hd))
              | (go_at_call 103; refine cL2.mono ?_; rintro e w2 ⟨rfl, h2, b2⟩; clear cL2 m2; have H2 : Hid (HQ w2 base kb p cap I' U ∧ Only (fun _ => False) wr w2) := ⟨h2, H1.out.2.next b2⟩; clear h2 b2 H1; have m3 := zm_swap base kb p cap I' U I.length w2 H2.out.1 hl; have cS := zSwap_hq base kb p cap I' U i j2 I.length w2 H2.out.1 hl (by omega) (by omega) (by omega))
              | (go_at_call 106; refine cS.mono ?_; rintro e w3 ⟨rfl, h3, b3⟩; clear cS m3; have H3 : Hid (HQ w3 base kb p cap (swapL I' i j2) U ∧ Only (Fq kb p) w2 w3) := ⟨h3, b3⟩; clear h3 b3))
            go_roundw
            case rel =>
              obtain ⟨rfl, rfl⟩ := Hj.out
              exact ⟨_, _, rfl, by omega, by omega, by rw [swapL_length]; exact hl, HI.out.step (by omega) hii (by first | exact p1 | exact p2) (by omega) (by omega) hd (fun k k0 kn kp => by rcases par_child kp k0 with rfl | rfl <;> omega) H2.out.2 H3.out.1 H3.out.2⟩
            case measure => simp [intOf]; omega
          · go_wp2_with (first
              | (go_at_call 103; refine cL1.mono ?_; rintro e w1 ⟨rfl, h1, b1⟩; clear cL1 m1; have H1 : Hid (HQ w1 base kb p cap I' U ∧ Only (fun _ => False) wr w1) := ⟨h1, b1⟩; clear h1 b1; have m2 := zm_less base kb p cap I' U I.length w1 H1.out.1 hl; have cL2 := zLess_hq base kb p cap I' U j2 i I.length w1 H1.out.1 hl (by omega) (by omega) false (by simpa using hd))
              | (go_at_call 103; refine cL2.mono ?_; rintro e w2 ⟨rfl, h2, b2⟩; clear cL2 m2; have H2 : Hid (HQ w2 base kb p cap I' U ∧ Only (fun _ => False) wr w2) := ⟨h2, H1.out.2.next b2⟩; clear h2 b2 H1))
            go_ret
            obtain ⟨rfl, rfl⟩ := Hj.out
            exact ⟨I', _, rfl, by
              have := HI.out.stop (fun k k0 kn kp => by rcases par_child kp k0 with rfl | rfl <;> omega) H2.out.1 H2.out.2
              simpa using this⟩
        · generalize hj1 : 2 * i + 1 = j1 at *
          generalize hj2 : 2 * i + 2 = j2 at *
          have cL1 := zLess_hq base kb p cap I' U j2 j1 I.length wr HI.out.hp hl (by omega) (by omega) false (by simpa using hc)
          have hk : (j2 : Int) < (n : Int) := by omega
          have Hj : Hid (2 * i + 1 = j1 ∧ 2 * i + 2 = j2) := ⟨hj1, hj2⟩
          have hb1 : j1 < n := by omega
          have hb2 : i < j1 := by omega
          have hb3 : j2 = j1 + 1 := by omega
          clear hj1 hj2 hb3 hA B0
          by_cases hd : kvOf keyZ I' j1 < kvOf keyZ I' i
          · go_wp2_with (first
              | (go_at_call 103; refine cL1.mono ?_; rintro e w1 ⟨rfl, h1, b1⟩; clear cL1 m1; have H1 : Hid (HQ w1 base kb p cap I' U ∧ Only (fun _ => False) wr w1) := ⟨h1, b1⟩; clear h1 b1; have m2 := zm_less base kb p cap I' U I.length w1 H1.out.1 hl; have cL2 := zLess_hq base kb p cap I' U j1 i I.length w1 H1.out.1 hl (by omega) (by omega) true (by simpa using hd))
              | (go_at_call 103; refine cL2.mono ?_; rintro e w2 ⟨rfl, h2, b2⟩; clear cL2 m2; have H2 : Hid (HQ w2 base kb p cap I' U ∧ Only (fun _ => False) wr w2) := ⟨h2, H1.out.2.next b2⟩; clear h2 b2 H1; have m3 := zm_swap base kb p cap I' U I.length w2 H2.out.1 hl; have cS := zSwap_hq base kb p cap I' U i j1 I.length w2 H2.out.1 hl (by omega) (by omega) (by omega))
              | (go_at_call 106; refine cS.mono ?_; rintro e w3 ⟨rfl, h3, b3⟩; clear cS m3; have H3 : Hid (HQ w3 base kb p cap (swapL I' i j1) U ∧ Only (Fq kb p) w2 w3) := ⟨h3, b3⟩; clear h3 b3))
            go_roundw
            case rel =>
              obtain ⟨rfl, rfl⟩ := Hj.out
              exact ⟨_, _, rfl, by omega, by omega, by rw [swapL_length]; exact hl, HI.out.step (by omega) hii (by first | exact p1 | exact p2) (by omega) (by omega) hd (fun k k0 kn kp => by rcases par_child kp k0 with rfl | rfl <;> omega) H2.out.2 H3.out.1 H3.out.2⟩
            case measure => simp [intOf]; omega
          · go_wp2_with (first
              | (go_at_call 103; refine cL1.mono ?_; rintro e w1 ⟨rfl, h1, b1⟩; clear cL1 m1; have H1 : Hid (HQ w1 base kb p cap I' U ∧ Only (fun _ => False) wr w1) := ⟨h1, b1⟩; clear h1 b1; have m2 := zm_less base kb p cap I' U I.length w1 H1.out.1 hl; have cL2 := zLess_hq base kb p cap I' U j1 i I.length w1 H1.out.1 hl (by omega) (by omega) false (by simpa using hd))
              | (go_at_call 103; refine cL2.mono ?_; rintro e w2 ⟨rfl, h2, b2⟩; clear cL2 m2; have H2 : Hid (HQ w2 base kb p cap I' U ∧ Only (fun _ => False) wr w2) := ⟨h2, H1.out.2.next b2⟩; clear h2 b2 H1))
            go_ret
            obtain ⟨rfl, rfl⟩ := Hj.out
            exact ⟨I', _, rfl, by
              have := HI.out.stop (fun k k0 kn kp => by rcases par_child kp k0 with rfl | rfl <;> omega) H2.out.1 H2.out.2
              simpa using this⟩
      · generalize hj1 : 2 * i + 1 = j1 at *
        generalize hj2 : 2 * i + 2 = j2 at *
        have H1 : Hid (HQ wr base kb p cap I' U ∧ Only (fun _ => False) wr wr) := ⟨HI.out.hp, B0⟩
        have hk : ¬ (j2 : Int) < (n : Int) := by omega
        have Hj : Hid (2 * i + 1 = j1 ∧ 2 * i + 2 = j2) := ⟨hj1, hj2⟩
        have hb1 : j1 < n := by omega
        have hb2 : i < j1 := by omega
        have hb3 : j2 = j1 + 1 := by omega
        clear hj1 hj2 hb3 hA B0
        by_cases hd : kvOf keyZ I' j1 < kvOf keyZ I' i
        · have cL2 := zLess_hq base kb p cap I' U j1 i I.length wr H1.out.1 hl (by omega) (by omega) true (by simpa using hd)
          go_wp2_with (first
            | (go_at_call 103; refine cL2.mono ?_; rintro e w2 ⟨rfl, h2, b2⟩; clear cL2 m1; have H2 : Hid (HQ w2 base kb p cap I' U ∧ Only (fun _ => False) wr w2) := ⟨h2, H1.out.2.next b2⟩; clear h2 b2 H1; have m3 := zm_swap base kb p cap I' U I.length w2 H2.out.1 hl; have cS := zSwap_hq base kb p cap I' U i j1 I.length w2 H2.out.1 hl (by omega) (by omega) (by omega))
            | (go_at_call 106; refine cS.mono ?_; rintro e w3 ⟨rfl, h3, b3⟩; clear cS m3; have H3 : Hid (HQ w3 base kb p cap (swapL I' i j1) U ∧ Only (Fq kb p) w2 w3) := ⟨h3, b3⟩; clear h3 b3))
          go_roundw
          case rel =>
            obtain ⟨rfl, rfl⟩ := Hj.out
            exact ⟨_, _, rfl, by omega, by omega, by rw [swapL_length]; exact hl, HI.out.step (by omega) hii (by first | exact p1 | exact p2) (by omega) (by omega) hd (fun k k0 kn kp => by rcases par_child kp k0 with rfl | rfl <;> omega) H2.out.2 H3.out.1 H3.out.2⟩
          case measure => simp [intOf]; omega
        · have cL2 := zLess_hq base kb p cap I' U j1 i I.length wr H1.out.1 hl (by omega) (by omega) false (by simpa using hd)
          go_wp2_with (first
            | (go_at_call 103; refine cL2.mono ?_; rintro e w2 ⟨rfl, h2, b2⟩; clear cL2 m1; have H2 : Hid (HQ w2 base kb p cap I' U ∧ Only (fun _ => False) wr w2) := ⟨h2, H1.out.2.next b2⟩; clear h2 b2 H1))
          go_ret
          obtain ⟨rfl, rfl⟩ := Hj.out
          exact ⟨I', _, rfl, by
            have := HI.out.stop (fun k k0 kn kp => by rcases par_child kp k0 with rfl | rfl <;> omega) H2.out.1 H2.out.2
            simpa using this⟩

end Go.Proofs.YtdocablbkafkiaaDoor.Cd

/-
  heap.Push and heap.Pop over the heap by name; add and least.
-/
namespace Go.Proofs.YtdocablbkafkiaaDoor.Cd
open Go.RowKit Go.Maps

attribute [local go_sem] Oper.semAt_some

theorem FixOk.last {f g : Nat → Nat} {n : Nat} (h : FixOk f (n + 1) n) (hg : ∀ k, k < n → g k = f k) : HeapF g n := by
  intro k k0 kn
  have hk := par_lt k0
  rw [hg k kn, hg (par k) (by omega)]
  exact h.1 k k0 (by omega) (by omega) (by omega)
theorem FixOk.cut {f g : Nat → Nat} {m n i : Nat} (h : FixOk f m i) (hnm : n ≤ m) (hg : ∀ k, k < n → k ≠ i → g k = f k) : FixOk g n i := by
  refine ⟨fun k k0 kn ki kp => ?_, fun k k0 kn kp i0 => ?_⟩
  · have hk := par_lt k0
    rw [hg k kn ki, hg (par k) (by omega) kp]; exact h.1 k k0 (by omega) ki kp
  · have hk := par_lt k0
    have hp := par_lt i0
    rw [hg k kn (by omega), hg (par i) (by omega) (by omega)]
    exact h.2 k k0 (by omega) kp i0
theorem snoc_of {I : List Nat} {n a : Nat} (hl : I.length = n + 1) (ha : I.getD n 0 = a) : ∃ J, I = J ++ [a] ∧ J.length = n := by
  refine ⟨I.take n, ?_, by simp; omega⟩
  have h1 : I.take (n + 1) = I := List.take_of_length_le (by omega)
  have h2 := List.take_succ_eq_append_getElem (l := I) (i := n) (by omega)
  have h3 : I[n]'(by omega) = a := by rw [← ha]; simp [List.getD, hl]
  rw [h1, h3] at h2
  exact h2
/-- A heap that is in order. -/
structure HO (w : World) (base kb : Nat) (p : Option Addr) (cap : Nat) (I : List Nat) (U : Nat → En) : Prop where
  hq : HQ w base kb p cap I U
  heap : HeapF (kvOf keyZ I) I.length
theorem Fq_hS {kb : Nat} {p : Option Addr} {n c k : Nat} (h : Fq kb p k) : hS kb (.slice p n c) k := by
  rcases h with h | ⟨ad, rfl, h⟩
  · exact .inl h
  · exact .inr (by simp [Value.ownBlock, h])
theorem HQ.toBelow {w w' : World} {base kb : Nat} {p : Option Addr} {cap : Nat} {I : List Nat} {U : Nat → En} (h : HQ w base kb p cap I U) (ho : Only (Fq kb p) w w') (hbw : base ≤ w.heap.size) : Below base w w' :=
  h.hb.toBelow (Only.weak ho (fun _ _ hk => Fq_hS hk)) hbw

set_option maxRecDepth 8000 in
set_option maxHeartbeats 1000000 in
theorem zhpush_any (base kb : Nat) (p : Option Addr) (cap a : Nat) (I : List Nat) (U : Nat → En) (w : World) (h : HO w base kb p cap I U) (hl1 : I.length + 1 < 1000000) (hbw : base ≤ w.heap.size)
    (hord : ∀ b ∈ I ++ [a], ∀ c ∈ I ++ [a], Op.bytesLess (U b).name (U c).name = decide (b < c)) :
    Calls Tryd.prog 55 #[hI kb, .iface 55 (enV (U a))] w fun e w' => e = .returned (.tuple #[]) ∧ (∃ p' cap' I', HO w' base kb p' cap' I' U ∧ I'.Perm (I ++ [a])) ∧ Below base w w' := by
  have m0 := zmeth_push kb w
  have cP := zpush_any base kb _ (I.map U) (U a) w h.hq.hb (by simp; omega) hbw
  have hh := h.heap
  have hqb := h.hq.hb
  have hl : (I ++ [a]).length = I.length + 1 := by simp
  clear h
  unfold hI
  go_enter Tryd.func55, Tryd.ntmps55
  go_wp2_with fail
  refine cP.mono ?_
  rintro e w1 ⟨rfl, ⟨v1, h1⟩, b1⟩
  clear cP m0
  have hb1 := hqb.toBelow b1 hbw
  obtain ⟨p', cap', rfl, _⟩ := h1.blk.form
  have hq1 : HQ w1 base kb p' cap' (I ++ [a]) U := by
    refine ⟨?_, by simp; omega, hord⟩
    have e : I.map U ++ [U a] = (I ++ [a]).map U := by simp
    rw [e, List.length_map] at h1
    exact h1
  have m1 := zm_len base kb p' cap' (I ++ [a]) U (I.length + 1) w1 hq1 hl
  have cU := zup_any base kb p' cap' (I ++ [a]) U (I.length + 1) I.length w1 hq1 (by omega) (by omega) (hh.push fun k hk => by unfold kvOf; simp [List.getD, List.getElem?_append_left hk])
  unfold hI at cU
  have H1 : Hid (Below base w w1 ∧ HQ w1 base kb p' cap' (I ++ [a]) U) := ⟨hb1, hq1⟩
  have e1 : ((I.length + 1 : Nat) : Int) - 1 = (I.length : Int) := by omega
  clear h1 b1 hb1 hh hl hq1 hqb hord
  go_wp2_with (first
    | (go_at_call 34; refine Calls_on (zlen_any _ _ _ _) ?_)
    | (go_at_call 69; refine cU.mono ?_; rintro e w2 ⟨rfl, I2, h2, hp2, hh2, _, hb2⟩; clear cU m1; have H2 : Hid (HQ w2 base kb p' cap' I2 U ∧ I2.Perm (I ++ [a]) ∧ HeapF (kvOf keyZ I2) (I.length + 1) ∧ Only (Fq kb p') w1 w2) := ⟨h2, hp2, hh2, hb2⟩; clear h2 hp2 hh2 hb2))
  go_end0
  obtain ⟨h2, hp2, hh2, hb2⟩ := H2.out
  have hl2 : I2.length = I.length + 1 := hp2.length_eq.trans (by simp)
  exact ⟨rfl, ⟨p', cap', I2, ⟨h2, by rw [hl2]; exact hh2⟩, hp2⟩, H1.out.1.trans (H1.out.2.toBelow hb2 (Nat.le_trans hbw H1.out.1.size))⟩

theorem zpop_hq (base kb : Nat) (p : Option Addr) (cap a : Nat) (J : List Nat) (U : Nat → En) (w : World) (h : HQ w base kb p cap (J ++ [a]) U) :
    Calls Tryd.prog 104 #[.pointer (some ⟨kb, 0, none⟩)] w fun e w' => e = .returned (.iface 55 (enV (U a))) ∧ HQ w' base kb p cap J U ∧ Only (Fq kb p) w w' := by
  have hlen := h.len
  have hb := h.hb
  have e : (J ++ [a]).map U = J.map U ++ [U a] := by simp
  rw [e] at hb
  refine (zpop_any base kb _ (J.map U) (U a) w hb (by simp at hlen ⊢; omega)).mono ?_
  rintro e w' ⟨rfl, ⟨v', h1, _, h2⟩, h3⟩
  refine ⟨rfl, ⟨?_, by simp at hlen; omega, fun b hb c hc => h.ord b (by simp [hb]) c (by simp [hc])⟩, Only.weak h3 (fun _ _ hk => hS_fq hk)⟩
  rw [h2 _ _ _ rfl, List.length_map] at h1
  exact h1

end Go.Proofs.YtdocablbkafkiaaDoor.Cd

/-
  heap.Pop over the heap by name, whatever it holds; add and least.
-/
namespace Go.Proofs.YtdocablbkafkiaaDoor.Cd
open Go.RowKit Go.Maps

attribute [local go_sem] Oper.semAt_some

/-- One is taken off: the least. -/
structure Popd (w w' : World) (base kb : Nat) (p : Option Addr) (cap : Nat) (I : List Nat) (U : Nat → En) (a : Nat) (I' : List Nat) : Prop where
  ho : HO w' base kb p cap I' U
  perm : (I' ++ [a]).Perm I
  least : ∀ b ∈ I, a ≤ b
  only : Only (Fq kb p) w w'
theorem heap_least {I : List Nat} (h : HeapF (kvOf keyZ I) I.length) : ∀ b ∈ I, I.getD 0 0 ≤ b := by
  intro b hb
  obtain ⟨i, hi⟩ := List.getElem?_of_mem hb
  have hil := (List.getElem?_eq_some_iff.1 hi).1
  have := HeapF.least h i hil
  unfold kvOf keyZ at this
  rw [show I.getD i 0 = b by simp [List.getD, hi]] at this
  exact this

set_option maxRecDepth 8000 in
set_option maxHeartbeats 2000000 in
theorem zhpop_any (base kb : Nat) (p : Option Addr) (cap : Nat) (I : List Nat) (U : Nat → En) (w : World) (h : HO w base kb p cap I U) (h0 : 0 < I.length) :
    Calls Tryd.prog 57 #[hI kb] w fun e w' => ∃ a I', e = .returned (.iface 55 (enV (U a))) ∧ Popd w w' base kb p cap I U a I' := by
  obtain ⟨n, hn⟩ : ∃ n, I.length = n + 1 := ⟨I.length - 1, by omega⟩
  by_cases h1 : n = 0
  · subst h1
    obtain ⟨a, rfl⟩ : ∃ a, I = [a] := by
      match I, hn with
      | [a], _ => exact ⟨a, rfl⟩
    have hb := h.hq.hb
    have hq := h.hq
    have cP := zhpop_one base kb _ (U a) w hb
    refine cP.mono ?_
    rintro e w' ⟨rfl, ⟨v', hv', _, hv2⟩, ho⟩
    rw [hv2 _ _ _ rfl] at hv'
    exact ⟨a, [], rfl, ⟨⟨hv', by simp, fun b hb => by simp at hb⟩, fun k _ hk => by simp at hk⟩, List.Perm.refl _, fun b hb => by simp at hb; omega, Only.weak ho (fun _ _ hk => hS_fq hk)⟩
  · have hnp : 0 < n := by omega
    have hlen := h.hq.len
    have m0 := zm_len base kb p cap I U (n + 1) w h.hq hn
    have m1 := zm_swap base kb p cap I U (n + 1) w h.hq hn
    have cS := zSwap_hq base kb p cap I U 0 n (n + 1) w h.hq hn (by omega) (by omega) (by omega)
    have e1 : ((n + 1 : Nat) : Int) - 1 = (n : Int) := by omega
    have hI1 : 0 < I.length := h0
    have hI2 : n < I.length := by omega
    obtain ⟨a, ha⟩ : ∃ a, I.getD 0 0 = a := ⟨_, rfl⟩
    have hleast := heap_least h.heap
    rw [ha] at hleast
    have hf2 : FixOk (kvOf keyZ (swapL I 0 n)) n 0 := by
      have := h.heap
      rw [hn] at this
      refine this.fix (i := 0) (by omega) (by omega) fun k hk hki => ?_
      rw [kvOf_swap _ _ _ _ hI1 hI2, swF_o _ _ _ _ hki (by omega)]
    have hlast : (swapL I 0 n).getD n 0 = a := by rw [swapL_getD I 0 n n hI1 hI2, if_pos rfl]; exact ha
    have hperm := swapL_perm I 0 n hI1 hI2
    have hl2 : (swapL I 0 n).length = n + 1 := by rw [swapL_length]; exact hn
    generalize swapL I 0 n = I1 at *
    have HA : Hid (FixOk (kvOf keyZ I1) n 0 ∧ I1.getD n 0 = a ∧ I1.Perm I ∧ (∀ b ∈ I, a ≤ b) ∧ I1.length = n + 1) := ⟨hf2, hlast, hperm, hleast, hl2⟩
    clear h hf2 hlast hperm hI1 hI2 ha hl2 hleast
    unfold hI
    go_enter Tryd.func57, Tryd.ntmps57
    go_wp2_with (go_at_call 34; refine Calls_on (zlen_any _ _ _ _) ?_)
    refine cS.mono ?_
    rintro e w1 ⟨rfl, h1, b1⟩
    have cD := zdown_any base kb p cap I1 U n 0 w1 h1 (by have := HA.out.2.2.2.2; omega) hnp HA.out.1
    unfold hI at cD
    have H1 : Hid (Only (Fq kb p) w w1) := b1
    clear h1 b1 cS m0 m1
    go_wp2_with fail
    refine cD.mono ?_
    rintro e w2 ⟨I2, r, rfl, h2⟩
    clear cD
    have hl3 : I2.length = n + 1 := h2.perm.length_eq.trans HA.out.2.2.2.2
    have hh2 : HeapF (kvOf keyZ I2) n := by
      cases r
      · exact (h2.no rfl).done (.inl rfl)
      · exact h2.yes rfl
    obtain ⟨J, rfl, hJ⟩ := snoc_of hl3 ((h2.far n (Nat.le_refl _)).trans HA.out.2.1)
    have mP := zmeth_pop kb w2
    have cP := zpop_hq base kb p cap a J U w2 h2.hp
    have H2 : Hid (Only (Fq kb p) w w2 ∧ (J ++ [a]).Perm I ∧ HeapF (kvOf keyZ J) J.length) := by
      refine ⟨H1.out.next h2.but, h2.perm.trans HA.out.2.2.1, ?_⟩
      rw [hJ]
      exact HeapF.less hh2 (Nat.le_refl _) (fun k hk => by unfold kvOf; simp [List.getD, List.getElem?_append_left (show k < J.length by omega)])
    clear h2 hh2
    go_wp2_with fail
    refine cP.mono ?_
    rintro e w3 ⟨rfl, h3, b3⟩
    have H3 : Hid (Popd w w3 base kb p cap I U a J) := ⟨⟨h3, H2.out.2.2⟩, H2.out.2.1, HA.out.2.2.2.1, H2.out.1.next b3⟩
    clear h3 b3 cP mP
    go_wp2
    go_ret
    exact ⟨a, J, rfl, H3.out⟩

theorem HO.below {w w' : World} {base kb : Nat} {p : Option Addr} {cap : Nat} {I : List Nat} {U : Nat → En} (h : HO w base kb p cap I U) (hb : Below w.heap.size w w') : HO w' base kb p cap I U :=
  ⟨⟨h.hq.hb.below hb, h.hq.len, h.hq.ord⟩, h.heap⟩
theorem zhadd_any (base kb : Nat) (p : Option Addr) (cap a : Nat) (I : List Nat) (U : Nat → En) (w : World) (h : HO w base kb p cap I U) (hl1 : I.length + 1 < 1000000) (hbw : base ≤ w.heap.size)
    (hord : ∀ b ∈ I ++ [a], ∀ c ∈ I ++ [a], Op.bytesLess (U b).name (U c).name = decide (b < c)) :
    Calls Tryd.prog 33 #[.pointer (some ⟨kb, 0, none⟩), enV (U a)] w fun e w' => e = .returned (.tuple #[]) ∧ (∃ p' cap' I', HO w' base kb p' cap' I' U ∧ I'.Perm (I ++ [a])) ∧ Below base w w' := by
  have hb0 : Below w.heap.size w (w.alloc (.cells #[.string (bas (U a).name), .int .i64 ((U a).num : Nat)] 55)) := (Below.refl _ w).alloc (Nat.le_refl _) _
  have cP := zhpush_any base kb p cap a I U _ (h.below hb0) hl1 (by simp; omega) hord
  unfold hI enV at *
  clear h hord
  go_enter Tryd.func33, Tryd.ntmps33
  go_wp2_with fail
  refine cP.mono ?_
  rintro e w1 ⟨rfl, h1, hb1⟩
  have HF : Hid ((∃ p' cap' I', HO w1 base kb p' cap' I' U ∧ I'.Perm (I ++ [a])) ∧ Below base w w1) := ⟨h1, (hb0.mono hbw).trans hb1⟩
  clear h1 hb1 cP
  go_wp2
  go_end0
  exact ⟨rfl, HF.out⟩
set_option maxRecDepth 8000 in
set_option maxHeartbeats 1000000 in
theorem zleast_any (base kb : Nat) (p : Option Addr) (cap : Nat) (I : List Nat) (U : Nat → En) (w : World) (h : HO w base kb p cap I U) (h0 : 0 < I.length) :
    Calls Tryd.prog 36 #[.pointer (some ⟨kb, 0, none⟩)] w fun e w' => ∃ a I', e = .returned (enV (U a)) ∧ Popd w w' base kb p cap I U a I' := by
  obtain ⟨W0, hW0⟩ : ∃ W0, W0 = w.alloc (.cells #[.string ⟨#[]⟩, .int .i64 0] 55) := ⟨_, rfl⟩
  have hb0 : Below w.heap.size w W0 := by rw [hW0]; exact (Below.refl _ w).alloc (Nat.le_refl _) _
  have hr0 : W0.heap[w.heap.size]? = some (.cells #[.string ⟨#[]⟩, .int .i64 0] 55 (0, 0)) := by rw [hW0]; exact heap_alloc_new w _
  have cP := zhpop_any base kb p cap I U W0 (h.below hb0) h0
  have hta := assert_ent
  have hnot : ¬ Fq kb p w.heap.size := by
    intro hk
    rcases Fq_hS (n := I.length) (c := cap) hk with e | e
    · have := block_lt h.hq.hb.box; omega
    · have := (h.hq.hb.blk.tag e).2.1; omega
  rw [hW0] at cP
  unfold hI enV at *
  clear h
  go_enter Tryd.func36, Tryd.ntmps36
  go_wp2_with fail
  refine cP.mono ?_
  rintro e w1 ⟨a, I', rfl, hp1⟩
  rw [← hW0] at hp1
  have hr1 := (hp1.only.block _ (block_lt hr0) hnot).trans hr0
  have x0 : w1.cell? ⟨w.heap.size, 0, none⟩ = some (.string ⟨#[]⟩) := cellOf hr1 0
  have x1 : w1.cell? ⟨w.heap.size, 1, none⟩ = some (.int .i64 0) := cellOf hr1 1
  have f0 := frozenOf hr1 0
  have f1 := frozenOf hr1 1
  generalize hx : U a = x at *
  obtain ⟨W2, hW2⟩ : ∃ W2, W2 = (w1.setCell ⟨w.heap.size, 0, none⟩ (.string (bas x.name))).setCell ⟨w.heap.size, 1, none⟩ (.int .i64 (x.num : Nat)) := ⟨_, rfl⟩
  have ho2 : Only (· = w.heap.size) w1 W2 := by rw [hW2]; exact (Only.setCell (S := (· = w.heap.size)) w1 ⟨w.heap.size, 0, none⟩ _ rfl).next (Only.setCell (S := (· = w.heap.size)) _ ⟨w.heap.size, 1, none⟩ _ rfl)
  have hr2 : W2.heap[w.heap.size]? = some (.cells #[.string (bas x.name), .int .i64 (x.num : Nat)] 55 (0, 0)) := by rw [hW2]; simp [World.setCell, Array.getElem?_modify, hr1]
  have y0 : W2.cell? ⟨w.heap.size, 0, none⟩ = some (.string (bas x.name)) := cellOf hr2 0
  have y1 : W2.cell? ⟨w.heap.size, 1, none⟩ = some (.int .i64 (x.num : Nat)) := cellOf hr2 1
  have HF : Hid (Popd w W2 base kb p cap I U a I') := by
    have h1 := hp1.ho.hq.hb
    refine ⟨⟨⟨⟨h1.lo, (ho2.block kb (block_lt h1.box) (fun e => hnot (.inl e.symm))).trans h1.box, h1.blk.kept ho2 (fun j hj e => hnot ?_)⟩, hp1.ho.hq.len, hp1.ho.hq.ord⟩, hp1.ho.heap⟩, hp1.perm, hp1.least, ?_⟩
    · have : j = w.heap.size := e
      rw [← this]
      exact hS_fq (n := I'.length) (c := cap) (.inr hj)
    · exact ((Below.only hb0 _).next hp1.only).trans ho2 (fun i hi => .inr (by have : i = w.heap.size := hi; omega))
  clear ho2 hr1 hr2 hr0 hnot hb0 cP hp1
  go_wp2
  rw [← hW2]
  refine bodyPost_ret (v := .agg #[.string (bas x.name), .int .i64 (x.num : Nat)]) (by simp [results, Tryd.results36, go_sem, y0, y1]) rfl ?_
  exact ⟨a, I', by rw [hx], HF.out⟩

end Go.Proofs.YtdocablbkafkiaaDoor.Cd

/-
  Each, whatever the directory holds: its entries are told in the order of their names.
-/
namespace Go.Proofs.YtdocablbkafkiaaDoor.Cd
open Go.RowKit Go.Maps

attribute [local go_sem] Oper.semAt_some

theorem ins_perm (l : List En) (a : En) : (ins l a).Perm (a :: l) := by
  unfold ins
  have h := List.perm_middle (a := a) (l₁ := l.take (lb l a.name)) (l₂ := l.drop (lb l a.name))
  rw [List.take_append_drop] at h
  exact h
/-- Entries whose names are apart can be put in order. -/
theorem sorted_of : ∀ (l : List En), l.Pairwise (fun x y => x.name ≠ y.name) → ∃ E : List En, E.Perm l ∧ Srt E
  | [], _ => ⟨[], List.Perm.refl _, List.Pairwise.nil⟩
  | a :: l, h => by
    have h' := List.pairwise_cons.1 h
    obtain ⟨E, h1, h2⟩ := sorted_of l h'.2
    exact ⟨ins E a, (ins_perm E a).trans (h1.cons a), ins_srt h2 (fun x hx => (h'.1 x (h1.mem_iff.1 hx)).symm)⟩
/-- The entry of number k. -/
def Uof (E : List En) (k : Nat) : En := E.getD k ⟨[], 0⟩
theorem Uof_at {E : List En} {k : Nat} (h : k < E.length) : E[k]? = some (Uof E k) := by simp [Uof, List.getD, h]
theorem Uof_lt {E : List En} (hs : Srt E) {a b : Nat} (ha : a < E.length) (hb : b < E.length) (hab : a < b) : (Uof E a).lt (Uof E b) := by
  have := List.pairwise_iff_getElem.1 hs a b ha hb hab
  have e1 := List.getElem?_eq_some_iff.1 (Uof_at ha)
  have e2 := List.getElem?_eq_some_iff.1 (Uof_at hb)
  rw [e1.2, e2.2] at this
  exact this
theorem Uof_ord {E : List En} (hs : Srt E) {a b : Nat} (ha : a < E.length) (hb : b < E.length) : Op.bytesLess (Uof E a).name (Uof E b).name = decide (a < b) := by
  rcases Nat.lt_trichotomy a b with h | h | h
  · rw [decide_eq_true h]; exact Uof_lt hs ha hb h
  · subst h; rw [less_irrefl]; simp
  · rw [decide_eq_false (by omega)]; exact less_asymm (Uof_lt hs hb ha h)
theorem Uof_inj {E : List En} (hs : Srt E) {a b : Nat} (ha : a < E.length) (hb : b < E.length) (h : Uof E a = Uof E b) : a = b := by
  rcases Nat.lt_trichotomy a b with h1 | h1 | h1
  · have := Uof_lt hs ha hb h1; rw [h] at this; exact absurd this (En.lt_irrefl _)
  · exact h1
  · have := Uof_lt hs hb ha h1; rw [h] at this; exact absurd this (En.lt_irrefl _)
theorem Uof_mem {E : List En} {x : En} (h : x ∈ E) : ∃ a, a < E.length ∧ Uof E a = x := by
  obtain ⟨a, ha⟩ := List.getElem?_of_mem h
  have hl := (List.getElem?_eq_some_iff.1 ha).1
  refine ⟨a, hl, ?_⟩
  have := Uof_at hl
  rw [ha] at this
  exact (Option.some.inj this).symm
/-- The heap holds all numbers. -/
theorem all_numbers {E l : List En} (hs : Srt E) (hp : E.Perm l) {I : List Nat} (hI : (I.map (Uof E)).Perm l) (hlt : ∀ a ∈ I, a < E.length) : I.Perm (List.range' 0 E.length) := by
  have hpe : (I.map (Uof E)).Perm E := hI.trans hp.symm
  have hnd : I.Nodup := by
    have h1 : (I.map (Uof E)).Nodup := hpe.nodup_iff.2 (srt_nodup hs)
    unfold List.Nodup at h1 ⊢
    rw [List.pairwise_map] at h1
    exact h1.imp (fun {a b} h e => h (by rw [e]))
  refine (List.perm_ext_iff_of_nodup hnd List.nodup_range').2 (fun a => ?_)
  rw [List.mem_range'_1]
  constructor
  · intro ha; have := hlt a ha; omega
  · intro ha
    have : Uof E a ∈ I.map (Uof E) := hpe.mem_iff.2 (List.mem_of_getElem? (Uof_at (by omega)))
    obtain ⟨b, hb, e⟩ := List.mem_map.1 this
    rw [← Uof_inj hs (hlt b hb) (by omega) e]
    exact hb
theorem perm_next {I I' : List Nat} {t m a : Nat} (h : I.Perm (List.range' t (m + 1))) (h' : (I' ++ [a]).Perm I) (hl : ∀ b ∈ I, a ≤ b) : a = t ∧ I'.Perm (List.range' (t + 1) m) := by
  have ha : a ∈ I := h'.mem_iff.1 (by simp)
  have h1 := (List.mem_range'_1).1 (h.mem_iff.1 ha)
  have h2 := hl t (h.mem_iff.2 ((List.mem_range'_1).2 ⟨Nat.le_refl _, by omega⟩))
  obtain rfl : a = t := by omega
  refine ⟨rfl, ?_⟩
  have h3 : (a :: I').Perm (a :: List.range' (a + 1) m) := ((List.perm_append_singleton a I').symm.trans h').trans (by rw [← List.range'_succ]; exact h)
  exact h3.cons_inv

/-- Blocks of the types that a heap is made of. -/
def HT (o : Option Obj) : Prop := ∃ cs t f, o = some (.cells cs t f) ∧ (t = 69 ∨ t = 55)
theorem HQ.ht {w : World} {base kb : Nat} {p : Option Addr} {cap : Nat} {I : List Nat} {U : Nat → En} (h : HQ w base kb p cap I U) {k : Nat} (hk : Fq kb p k) : HT w.heap[k]? := by
  rcases Fq_hS (n := I.length) (c := cap) hk with rfl | e
  · exact ⟨_, _, _, h.hb.box, .inl rfl⟩
  · obtain ⟨_, _, cur, hc⟩ := h.hb.blk.tag e
    exact ⟨_, _, _, hc, .inr rfl⟩

theorem HQ.lo {w : World} {base kb : Nat} {p : Option Addr} {cap : Nat} {I : List Nat} {U : Nat → En} (h : HQ w base kb p cap I U) {k : Nat} (hk : Fq kb p k) : base ≤ k := by
  rcases Fq_hS (n := I.length) (c := cap) hk with rfl | e
  · exact h.hb.lo
  · exact (h.hb.blk.tag e).1

/-- What holds while the heap is filled. -/
structure WJ (w : World) (base a : Nat) (count : Nat) (bv : Value) (vs : List Value) (D : List (List En)) (hb kb : Nat) (E : List En) (l : List En) (W : World) : Prop where
  dir : DirAt W base a count bv vs D
  bel : Below w.heap.size w W
  heap : ∃ p cap I, HO W hb kb p cap I (Uof E) ∧ (I.map (Uof E)).Perm l ∧ ∀ a ∈ I, a < E.length

set_option maxRecDepth 8000 in
set_option maxHeartbeats 2000000 in
theorem each_any (base a : Nat) (D : List (List En)) (E : List En) (hE : E.Perm D.flatten) (hs : Srt E) (k : Nat) (pv : Value) (w : World) (h : DirOk w base a D) (J : Nat → World → Prop)
    (hent : ∀ args w, (callFunc k args).run Tryd.prog w = .ok (.enter k args) w) (hJ : ∀ t W W', J t W → Only (fun k => w.heap.size ≤ k ∧ HT W.heap[k]?) W W' → J t W') (hJ0 : J 0 w)
    (hc : ∀ t x W, E[t]? = some x → J t W → w.heap.size ≤ W.heap.size → Calls Tryd.prog k #[pv, .string (bas x.name), .int .i64 (x.num : Nat)] W fun e w' => e = .returned (.tuple #[]) ∧ J (t + 1) w' ∧ Only (fun k => ¬ HT W.heap[k]?) W w') :
    Calls Tryd.prog 18 #[.pointer (some ⟨a, 0, none⟩), .func (.func k) #[pv] #[]] w fun e w' => e = .returned (.tuple #[]) ∧ J E.length w' := by
  have hq := eql_visit
  have hmf := mkf
  have hadd : ∀ args w, (callFunc 33 args).run Tryd.prog w = .ok (.enter 33 args) w := fun args w => by simp [callFunc, Tryd.func33, go_sem]; rfl
  have hEl : E.length = total D := by unfold total; exact hE.length_eq
  have HH : Hid (DirOk w base a D ∧ E.Perm D.flatten ∧ Srt E ∧ (∀ t W W', J t W → Only (fun k => w.heap.size ≤ k ∧ HT W.heap[k]?) W W' → J t W') ∧ J 0 w ∧ ∀ t x W, E[t]? = some x → J t W → w.heap.size ≤ W.heap.size → Calls Tryd.prog k #[pv, .string (bas x.name), .int .i64 (x.num : Nat)] W fun e w' => e = .returned (.tuple #[]) ∧ J (t + 1) w' ∧ Only (fun k => ¬ HT W.heap[k]?) W w') := ⟨h, hE, hs, hJ, hJ0, hc⟩
  have hmost := h.2.most
  clear h hE hs hJ hJ0 hc
  go_enter Tryd.func18, Tryd.ntmps18
  go_wp2_with fail
  obtain ⟨w0, hw0⟩ : ∃ w0, w0 = (w.alloc (.cells #[] 55)).alloc (.cells #[.slice (some ⟨w.heap.size, 0, none⟩) 0 0] 69) := ⟨_, rfl⟩
  rw [← hw0]
  have hb0 : Below w.heap.size w w0 := by rw [hw0]; exact ((Below.refl _ w).alloc (Nat.le_refl _) _).alloc (by simp) _
  have hB0 : HB w0 w.heap.size (w.heap.size + 1) (.slice (some ⟨w.heap.size, 0, none⟩) 0 0) [] := by
    refine ⟨by omega, ?_, rfl, .inr ⟨w.heap.size, 0, #[], rfl, Nat.le_refl _, ?_, Nat.le_refl _, Nat.zero_le _, rfl, rfl⟩⟩
    · rw [hw0]
      have := heap_alloc_new (w.alloc (.cells #[] 55)) (.cells #[.slice (some ⟨w.heap.size, 0, none⟩) 0 0] 69)
      rw [World.size_alloc] at this
      exact this
    · rw [hw0]; exact (Below.heap_alloc _ _ _ (by simp)).trans (heap_alloc_new w _)
  obtain ⟨⟨bv, vs, hdir⟩, hgood⟩ := HH.out.1
  have hO0 : HO w0 w.heap.size (w.heap.size + 1) (some ⟨w.heap.size, 0, none⟩) 0 [] (Uof E) := ⟨⟨hB0, by simp, fun b hb => by simp at hb⟩, fun k _ hk => by simp at hk⟩
  have cW := walk_any base a (total D) bv vs D 33 (.pointer (some ⟨w.heap.size + 1, 0, none⟩)) (WJ w base a (total D) bv vs D w.heap.size (w.heap.size + 1) E) w0 (fun _ _ h => h.dir)
    (fun l W W' h hb => ⟨h.dir.below hb, h.bel.trans (hb.mono h.bel.size), by obtain ⟨p, cap, I, hv, h2⟩ := h.heap; exact ⟨p, cap, I, hv.below hb, h2⟩⟩)
    (fun l y W hi hl => by
      obtain ⟨m, hm⟩ := hl
      obtain ⟨p, cap, I, hv, hp, hlt⟩ := hi.heap
      have hyE : y ∈ E := HH.out.2.1.mem_iff.2 (by rw [hm]; simp)
      obtain ⟨b, hbl, rfl⟩ := Uof_mem hyE
      have hlen : I.length + 1 ≤ total D := by
        have := hp.length_eq
        rw [List.length_map] at this
        unfold total
        rw [this, hm]; simp
      have hlt' : ∀ c ∈ I ++ [b], c < E.length := fun c hc => by
        rcases List.mem_append.1 hc with hc | hc
        · exact hlt c hc
        · rw [List.mem_singleton.1 hc]; exact hbl
      refine (zhadd_any w.heap.size (w.heap.size + 1) p cap b I (Uof E) W hv (by omega) hi.bel.size (fun c hc d hd => Uof_ord HH.out.2.2.1 (hlt' c hc) (hlt' d hd))).mono ?_
      rintro e W' ⟨rfl, ⟨p', cap', I', hv', hp'⟩, hbb⟩
      refine ⟨rfl, hdir.below (hi.bel.trans hbb), hi.bel.trans hbb, p', cap', I', hv', ?_, fun c hc => hlt' c (hp'.mem_iff.1 hc)⟩
      refine (hp'.map (Uof E)).trans ?_
      rw [List.map_append]
      exact hp.append (List.Perm.refl _))
    hadd (by have := hgood.small; omega) (fun j b hj => hgood.wf.room j b hj) ⟨hdir.below hb0, hb0, _, _, [], hO0, List.Perm.refl _, fun a ha => by simp at ha⟩
  clear hB0 hb0 hw0 hdir hgood hO0
  refine cW.mono ?_
  rintro e w1 ⟨rfl, hw1⟩
  clear cW
  have H1 : Hid (∃ t p cap I, t + I.length = E.length ∧ HO w1 w.heap.size (w.heap.size + 1) p cap I (Uof E) ∧ I.Perm (List.range' t (E.length - t)) ∧ J t w1 ∧ w.heap.size ≤ w1.heap.size) := by
    obtain ⟨p, cap, I, hv, hp, hlt⟩ := hw1.heap
    have hall := all_numbers HH.out.2.2.1 HH.out.2.1 hp hlt
    refine ⟨0, p, cap, I, ?_, hv, hall, HH.out.2.2.2.1 _ _ _ HH.out.2.2.2.2.1 (Below.only hw1.bel _), hw1.bel.size⟩
    have := hall.length_eq
    rw [List.length_range'] at this
    omega
  clear hw1
  go_wp2_with fail
  go_loopw [13] (fun _ wr => Hid (∃ t p cap I, t + I.length = E.length ∧ HO wr w.heap.size (w.heap.size + 1) p cap I (Uof E) ∧ I.Perm (List.range' t (E.length - t)) ∧ J t wr ∧ w.heap.size ≤ wr.heap.size)) (fun _ wr => hlen (w.heap.size + 1) wr)
  case atStart => exact H1
  case round =>
    obtain ⟨t, p, cap, I, htl, hv, hp, hJt, hsz⟩ := hrel.out
    have hlen1 := hv.hq.hb.len
    rw [List.length_map] at hlen1
    have c0 := hv.hq.cell
    by_cases h0 : 0 < I.length
    · have h0I : (0 : Int) < (I.length : Int) := by omega
      have cL := zleast_any w.heap.size (w.heap.size + 1) p cap I (Uof E) wr hv h0
      obtain ⟨m, hm⟩ : ∃ m, E.length - t = m + 1 := ⟨E.length - t - 1, by omega⟩
      rw [hm] at hp
      have HX : Hid (HQ wr w.heap.size (w.heap.size + 1) p cap I (Uof E) ∧ I.Perm (List.range' t (m + 1)) ∧ J t wr) := ⟨hv.hq, hp, hJt⟩
      clear hv hp hJt hrel
      go_wp2_with (go_at_call 34; refine Calls_on (zlen_any _ _ _ _) ?_)
      refine cL.mono ?_
      rintro e w2 ⟨b, I', rfl, hpd⟩
      obtain ⟨hbt, hI'⟩ := perm_next HX.out.2.1 hpd.perm hpd.least
      subst hbt
      have hb2 : Below w.heap.size wr w2 := HX.out.1.toBelow hpd.only hsz
      have hba : Below w2.heap.size w2 (w2.alloc (.cells #[.string (bas (Uof E b).name), .int .i64 ((Uof E b).num : Nat)] 55)) := (Below.refl _ w2).alloc (Nat.le_refl _) _
      have hs2 : w.heap.size ≤ w2.heap.size := Nat.le_trans hsz hb2.size
      have hJa : J b (w2.alloc (.cells #[.string (bas (Uof E b).name), .int .i64 ((Uof E b).num : Nat)] 55)) := HH.out.2.2.2.1 _ _ _ (HH.out.2.2.2.1 _ _ _ HX.out.2.2 (Only.weak hpd.only (fun k _ hk => ⟨HX.out.1.lo hk, HX.out.1.ht hk⟩))) (Below.only hba _)
      have cT := tell_fn k pv (Uof E b) w2 (fun w' => J (b + 1) w' ∧ HO w' w.heap.size (w.heap.size + 1) p cap I' (Uof E) ∧ w.heap.size ≤ w'.heap.size) hent (by
        refine (HH.out.2.2.2.2.2 b _ _ (Uof_at (by omega)) hJa (Nat.le_trans hs2 hba.size)).mono ?_
        rintro e w3 ⟨rfl, hJ', ho⟩
        have hva := hpd.ho.below hba
        have hh := hva.hq.hb
        refine ⟨rfl, hJ', ⟨⟨⟨hh.lo, (ho.block _ (block_lt hh.box) (fun hn => hn (hva.hq.ht (.inl rfl)))).trans hh.box, hh.blk.kept ho (fun j hj hn => hn (hva.hq.ht (hS_fq (n := I'.length) (c := cap) (.inr hj))))⟩, hva.hq.len, hva.hq.ord⟩, hva.heap⟩, Nat.le_trans (Nat.le_trans hs2 hba.size) ho.size⟩)
      have HI' : Hid (I'.Perm (List.range' (b + 1) m)) := hI'
      have hl' : I'.length + 1 = I.length := by have := hpd.perm.length_eq; simpa using this
      clear hpd hb2 hba hJa cL hI'
      go_wp2_with fail
      refine cT.mono ?_
      rintro e w3 ⟨rfl, hJ3, hO3, hs3⟩
      have H3 : Hid (J (b + 1) w3 ∧ HO w3 w.heap.size (w.heap.size + 1) p cap I' (Uof E) ∧ w.heap.size ≤ w3.heap.size) := ⟨hJ3, hO3, hs3⟩
      have hl3 := hO3.hq.hb.len
      rw [List.length_map] at hl3
      clear hJ3 hO3 hs3 cT
      go_wp2
      go_roundw
      case rel => exact ⟨b + 1, p, cap, I', by omega, H3.out.2.1, by rw [show E.length - (b + 1) = m by omega]; exact HI'.out, H3.out.1, H3.out.2.2⟩
      case measure => rw [hl3, hlen1]; omega
    · have hI0 : I.length = 0 := by omega
      have HJ : Hid (J E.length wr) := by
        have : t = E.length := by omega
        rw [← this]; exact hJt
      rw [hI0] at c0
      clear hv hp hJt hrel hI0 h0 hlen1 htl
      go_wp2_with (go_at_call 34; refine Calls_on (zlen_any _ _ _ _) ?_)
      go_end0
      exact ⟨rfl, HJ.out⟩

end Go.Proofs.YtdocablbkafkiaaDoor.Cd

/-
  Each, with a closure of four captured variables.
-/
namespace Go.Proofs.YtdocablbkafkiaaDoor.Cd
open Go.RowKit Go.Maps

attribute [local go_sem] Oper.semAt_some

set_option maxRecDepth 8000 in
set_option maxHeartbeats 400000 in
theorem tell_clo (k : Nat) (k1 k2 k3 k4 : Value) (x : En) (w : World) (R : World → Prop) (hent : ∀ args w, (callFunc k args).run Tryd.prog w = .ok (.enter k args) w)
    (hc : Calls Tryd.prog k #[.string (bas x.name), .int .i64 (x.num : Nat), k1, k2, k3, k4] (w.alloc (.cells #[.string (bas x.name), .int .i64 (x.num : Nat)] 55)) fun e w' => e = .returned (.tuple #[]) ∧ R w') :
    Calls Tryd.prog 35 #[.func (.func k) #[] #[k1, k2, k3, k4], enV x] w fun e w' => e = .returned (.tuple #[]) ∧ R w' := by
  unfold enV
  go_enter_defers Tryd.func35, Tryd.ntmps35
  go_wp2_with fail
  refine hc.mono ?_
  rintro e w' ⟨rfl, hQ⟩
  go_wp2
  refine leaves_cons (f := 56) (args := #[]) (by simp) (by simp [go_sem]) ?_
  refine (catch_tell _).mono ?_
  rintro e u' w'' ⟨rfl, rfl, rfl⟩
  exact ⟨_, results_none rfl _ _ _, rfl, hQ⟩

set_option maxRecDepth 8000 in
set_option maxHeartbeats 2000000 in
theorem each_clo (base a : Nat) (D : List (List En)) (E : List En) (hE : E.Perm D.flatten) (hs : Srt E) (k : Nat) (k1 k2 k3 k4 : Value) (w : World) (h : DirOk w base a D) (J : Nat → World → Prop)
    (hent : ∀ args w, (callFunc k args).run Tryd.prog w = .ok (.enter k args) w) (hJ : ∀ t W W', J t W → Only (fun k => w.heap.size ≤ k ∧ HT W.heap[k]?) W W' → J t W') (hJ0 : J 0 w)
    (hc : ∀ t x W, E[t]? = some x → J t W → w.heap.size ≤ W.heap.size → Calls Tryd.prog k #[.string (bas x.name), .int .i64 (x.num : Nat), k1, k2, k3, k4] W fun e w' => e = .returned (.tuple #[]) ∧ J (t + 1) w' ∧ Only (fun k => ¬ HT W.heap[k]?) W w') :
    Calls Tryd.prog 18 #[.pointer (some ⟨a, 0, none⟩), .func (.func k) #[] #[k1, k2, k3, k4]] w fun e w' => e = .returned (.tuple #[]) ∧ J E.length w' := by
  have hq := eql_visit
  have hmf := mkf
  have hadd : ∀ args w, (callFunc 33 args).run Tryd.prog w = .ok (.enter 33 args) w := fun args w => by simp [callFunc, Tryd.func33, go_sem]; rfl
  have hEl : E.length = total D := by unfold total; exact hE.length_eq
  have HH : Hid (DirOk w base a D ∧ E.Perm D.flatten ∧ Srt E ∧ (∀ t W W', J t W → Only (fun k => w.heap.size ≤ k ∧ HT W.heap[k]?) W W' → J t W') ∧ J 0 w ∧ ∀ t x W, E[t]? = some x → J t W → w.heap.size ≤ W.heap.size → Calls Tryd.prog k #[.string (bas x.name), .int .i64 (x.num : Nat), k1, k2, k3, k4] W fun e w' => e = .returned (.tuple #[]) ∧ J (t + 1) w' ∧ Only (fun k => ¬ HT W.heap[k]?) W w') := ⟨h, hE, hs, hJ, hJ0, hc⟩
  have hmost := h.2.most
  clear h hE hs hJ hJ0 hc
  go_enter Tryd.func18, Tryd.ntmps18
  go_wp2_with fail
  obtain ⟨w0, hw0⟩ : ∃ w0, w0 = (w.alloc (.cells #[] 55)).alloc (.cells #[.slice (some ⟨w.heap.size, 0, none⟩) 0 0] 69) := ⟨_, rfl⟩
  rw [← hw0]
  have hb0 : Below w.heap.size w w0 := by rw [hw0]; exact ((Below.refl _ w).alloc (Nat.le_refl _) _).alloc (by simp) _
  have hB0 : HB w0 w.heap.size (w.heap.size + 1) (.slice (some ⟨w.heap.size, 0, none⟩) 0 0) [] := by
    refine ⟨by omega, ?_, rfl, .inr ⟨w.heap.size, 0, #[], rfl, Nat.le_refl _, ?_, Nat.le_refl _, Nat.zero_le _, rfl, rfl⟩⟩
    · rw [hw0]
      have := heap_alloc_new (w.alloc (.cells #[] 55)) (.cells #[.slice (some ⟨w.heap.size, 0, none⟩) 0 0] 69)
      rw [World.size_alloc] at this
      exact this
    · rw [hw0]; exact (Below.heap_alloc _ _ _ (by simp)).trans (heap_alloc_new w _)
  obtain ⟨⟨bv, vs, hdir⟩, hgood⟩ := HH.out.1
  have hO0 : HO w0 w.heap.size (w.heap.size + 1) (some ⟨w.heap.size, 0, none⟩) 0 [] (Uof E) := ⟨⟨hB0, by simp, fun b hb => by simp at hb⟩, fun k _ hk => by simp at hk⟩
  have cW := walk_any base a (total D) bv vs D 33 (.pointer (some ⟨w.heap.size + 1, 0, none⟩)) (WJ w base a (total D) bv vs D w.heap.size (w.heap.size + 1) E) w0 (fun _ _ h => h.dir)
    (fun l W W' h hb => ⟨h.dir.below hb, h.bel.trans (hb.mono h.bel.size), by obtain ⟨p, cap, I, hv, h2⟩ := h.heap; exact ⟨p, cap, I, hv.below hb, h2⟩⟩)
    (fun l y W hi hl => by
      obtain ⟨m, hm⟩ := hl
      obtain ⟨p, cap, I, hv, hp, hlt⟩ := hi.heap
      have hyE : y ∈ E := HH.out.2.1.mem_iff.2 (by rw [hm]; simp)
      obtain ⟨b, hbl, rfl⟩ := Uof_mem hyE
      have hlen : I.length + 1 ≤ total D := by
        have := hp.length_eq
        rw [List.length_map] at this
        unfold total
        rw [this, hm]; simp
      have hlt' : ∀ c ∈ I ++ [b], c < E.length := fun c hc => by
        rcases List.mem_append.1 hc with hc | hc
        · exact hlt c hc
        · rw [List.mem_singleton.1 hc]; exact hbl
      refine (zhadd_any w.heap.size (w.heap.size + 1) p cap b I (Uof E) W hv (by omega) hi.bel.size (fun c hc d hd => Uof_ord HH.out.2.2.1 (hlt' c hc) (hlt' d hd))).mono ?_
      rintro e W' ⟨rfl, ⟨p', cap', I', hv', hp'⟩, hbb⟩
      refine ⟨rfl, hdir.below (hi.bel.trans hbb), hi.bel.trans hbb, p', cap', I', hv', ?_, fun c hc => hlt' c (hp'.mem_iff.1 hc)⟩
      refine (hp'.map (Uof E)).trans ?_
      rw [List.map_append]
      exact hp.append (List.Perm.refl _))
    hadd (by have := hgood.small; omega) (fun j b hj => hgood.wf.room j b hj) ⟨hdir.below hb0, hb0, _, _, [], hO0, List.Perm.refl _, fun a ha => by simp at ha⟩
  clear hB0 hb0 hw0 hdir hgood hO0
  refine cW.mono ?_
  rintro e w1 ⟨rfl, hw1⟩
  clear cW
  have H1 : Hid (∃ t p cap I, t + I.length = E.length ∧ HO w1 w.heap.size (w.heap.size + 1) p cap I (Uof E) ∧ I.Perm (List.range' t (E.length - t)) ∧ J t w1 ∧ w.heap.size ≤ w1.heap.size) := by
    obtain ⟨p, cap, I, hv, hp, hlt⟩ := hw1.heap
    have hall := all_numbers HH.out.2.2.1 HH.out.2.1 hp hlt
    refine ⟨0, p, cap, I, ?_, hv, hall, HH.out.2.2.2.1 _ _ _ HH.out.2.2.2.2.1 (Below.only hw1.bel _), hw1.bel.size⟩
    have := hall.length_eq
    rw [List.length_range'] at this
    omega
  clear hw1
  go_wp2_with fail
  go_loopw [13] (fun _ wr => Hid (∃ t p cap I, t + I.length = E.length ∧ HO wr w.heap.size (w.heap.size + 1) p cap I (Uof E) ∧ I.Perm (List.range' t (E.length - t)) ∧ J t wr ∧ w.heap.size ≤ wr.heap.size)) (fun _ wr => hlen (w.heap.size + 1) wr)
  case atStart => exact H1
  case round =>
    obtain ⟨t, p, cap, I, htl, hv, hp, hJt, hsz⟩ := hrel.out
    have hlen1 := hv.hq.hb.len
    rw [List.length_map] at hlen1
    have c0 := hv.hq.cell
    by_cases h0 : 0 < I.length
    · have h0I : (0 : Int) < (I.length : Int) := by omega
      have cL := zleast_any w.heap.size (w.heap.size + 1) p cap I (Uof E) wr hv h0
      obtain ⟨m, hm⟩ : ∃ m, E.length - t = m + 1 := ⟨E.length - t - 1, by omega⟩
      rw [hm] at hp
      have HX : Hid (HQ wr w.heap.size (w.heap.size + 1) p cap I (Uof E) ∧ I.Perm (List.range' t (m + 1)) ∧ J t wr) := ⟨hv.hq, hp, hJt⟩
      clear hv hp hJt hrel
      go_wp2_with (go_at_call 34; refine Calls_on (zlen_any _ _ _ _) ?_)
      refine cL.mono ?_
      rintro e w2 ⟨b, I', rfl, hpd⟩
      obtain ⟨hbt, hI'⟩ := perm_next HX.out.2.1 hpd.perm hpd.least
      subst hbt
      have hb2 : Below w.heap.size wr w2 := HX.out.1.toBelow hpd.only hsz
      have hba : Below w2.heap.size w2 (w2.alloc (.cells #[.string (bas (Uof E b).name), .int .i64 ((Uof E b).num : Nat)] 55)) := (Below.refl _ w2).alloc (Nat.le_refl _) _
      have hs2 : w.heap.size ≤ w2.heap.size := Nat.le_trans hsz hb2.size
      have hJa : J b (w2.alloc (.cells #[.string (bas (Uof E b).name), .int .i64 ((Uof E b).num : Nat)] 55)) := HH.out.2.2.2.1 _ _ _ (HH.out.2.2.2.1 _ _ _ HX.out.2.2 (Only.weak hpd.only (fun k _ hk => ⟨HX.out.1.lo hk, HX.out.1.ht hk⟩))) (Below.only hba _)
      have cT := tell_clo k k1 k2 k3 k4 (Uof E b) w2 (fun w' => J (b + 1) w' ∧ HO w' w.heap.size (w.heap.size + 1) p cap I' (Uof E) ∧ w.heap.size ≤ w'.heap.size) hent (by
        refine (HH.out.2.2.2.2.2 b _ _ (Uof_at (by omega)) hJa (Nat.le_trans hs2 hba.size)).mono ?_
        rintro e w3 ⟨rfl, hJ', ho⟩
        have hva := hpd.ho.below hba
        have hh := hva.hq.hb
        refine ⟨rfl, hJ', ⟨⟨⟨hh.lo, (ho.block _ (block_lt hh.box) (fun hn => hn (hva.hq.ht (.inl rfl)))).trans hh.box, hh.blk.kept ho (fun j hj hn => hn (hva.hq.ht (hS_fq (n := I'.length) (c := cap) (.inr hj))))⟩, hva.hq.len, hva.hq.ord⟩, hva.heap⟩, Nat.le_trans (Nat.le_trans hs2 hba.size) ho.size⟩)
      have HI' : Hid (I'.Perm (List.range' (b + 1) m)) := hI'
      have hl' : I'.length + 1 = I.length := by have := hpd.perm.length_eq; simpa using this
      clear hpd hb2 hba hJa cL hI'
      go_wp2_with fail
      refine cT.mono ?_
      rintro e w3 ⟨rfl, hJ3, hO3, hs3⟩
      have H3 : Hid (J (b + 1) w3 ∧ HO w3 w.heap.size (w.heap.size + 1) p cap I' (Uof E) ∧ w.heap.size ≤ w3.heap.size) := ⟨hJ3, hO3, hs3⟩
      have hl3 := hO3.hq.hb.len
      rw [List.length_map] at hl3
      clear hJ3 hO3 hs3 cT
      go_wp2
      go_roundw
      case rel => exact ⟨b + 1, p, cap, I', by omega, H3.out.2.1, by rw [show E.length - (b + 1) = m by omega]; exact HI'.out, H3.out.1, H3.out.2.2⟩
      case measure => rw [hl3, hlen1]; omega
    · have hI0 : I.length = 0 := by omega
      have HJ : Hid (J E.length wr) := by
        have : t = E.length := by omega
        rw [← this]; exact hJt
      rw [hI0] at c0
      clear hv hp hJt hrel hI0 h0 hlen1 htl
      go_wp2_with (go_at_call 34; refine Calls_on (zlen_any _ _ _ _) ?_)
      go_end0
      exact ⟨rfl, HJ.out⟩

end Go.Proofs.YtdocablbkafkiaaDoor.Cd

/-
  List, whatever the directory holds: the names in the order of their bytes.
-/
namespace Go.Proofs.YtdocablbkafkiaaDoor.Cd
open Go.RowKit Go.Maps

attribute [local go_sem] Oper.semAt_some

def namesOf (E : List En) : List ByteArray := E.map fun x => bas x.name
theorem LB.kept {w w' : World} {base kb : Nat} {v : Value} {L : List ByteArray} {S : Nat → Prop} (h : LB w base kb v L) (ho : Only S w w') (h1 : ¬ S kb) (h2 : ∀ j cur, w.heap[j]? = some (.cells cur 9 (0, 0)) → ¬ S j) : LB w' base kb v L :=
  ⟨h.lo, (ho.block kb (block_lt h.box) h1).trans h.box, Only.owns ho h.row (fun j hj => by obtain ⟨_, _, cur, hc⟩ := own_lt h.row hj; exact h2 j cur hc)⟩
theorem not_HT {w : World} {k t : Nat} {cs : Array Value} {f : Nat × Nat} (h : w.heap[k]? = some (.cells cs t f)) (h1 : t ≠ 69) (h2 : t ≠ 55) : ¬ HT w.heap[k]? := by
  rintro ⟨cs', t', f', e, ht⟩
  rw [h] at e
  cases e
  rcases ht with ht | ht
  · exact h1 ht
  · exact h2 ht

set_option maxRecDepth 8000 in
set_option maxHeartbeats 1000000 in
theorem list_any (base a : Nat) (D : List (List En)) (E : List En) (hE : E.Perm D.flatten) (hs : Srt E) (w : World) (h : DirOk w base a D) :
    Calls Tryd.prog 17 #[.pointer (some ⟨a, 0, none⟩)] w fun e w' => (∃ v kb, e = .returned v ∧ LB w' w.heap.size kb v (namesOf E)) ∧ Below w.heap.size w w' := by
  have hEl : E.length = total D := by unfold total; exact hE.length_eq
  have hmost := h.2.most
  obtain ⟨n, hn⟩ : ∃ n, total D = n := ⟨_, rfl⟩
  rw [hn] at hEl hmost
  have cN : Calls Tryd.prog 16 #[.pointer (some ⟨a, 0, none⟩)] w fun e w' => e = .returned (.int .i64 (n : Nat)) ∧ w' = w := by
    obtain ⟨⟨bv, vs, h1⟩, _⟩ := h
    have := len_any a (total D) w h1.c0
    rw [hn] at this
    exact this
  obtain ⟨k0, hk0, hx0, hx1, hx2⟩ := info_parts Tryd.info9
  obtain ⟨M, hM⟩ : ∃ M : Array Value, M = (List.replicate n (.string ⟨#[]⟩)).toArray := ⟨_, rfl⟩
  have hmk : (Instr.makeSlice 67 (.int .i64 0) (.int .i64 (n : Int))).run Tryd.prog w = .ok (.slice (some ⟨w.heap.size, 0, none⟩) 0 n) (w.alloc (.cells M 9)) := by
    have hh := run_make (P := Tryd.prog) w 67 9 k0 (.string ⟨#[]⟩) Tryd.underlying67 hk0 hx0 .i64 .i64 (0 : Int) (n : Int) (by omega) (by omega) (by rw [hx2]; omega) (by omega)
    have hM' : madeCells (Value.string ⟨#[]⟩).cells (((n : Nat) : Int).toNat * k0.size) = M := by
      rw [hM]
      apply Array.toList_inj.1
      rw [hx1, Int.toNat_natCast, Nat.mul_one]
      refine (toList_madeCells_one _ _).trans ?_
      simp
    rw [hM'] at hh
    simpa using hh
  have hmf := mkf
  have hla : ∀ args w, (callFunc 31 args).run Tryd.prog w = .ok (.enter 31 args) w := fun args w => by simp [callFunc, Tryd.func31, go_sem]; rfl
  obtain ⟨W1, hW1⟩ : ∃ W1, W1 = (w.alloc (.cells M 9)).alloc (.cells #[.slice (some ⟨w.heap.size, 0, none⟩) 0 n] 67) := ⟨_, rfl⟩
  have hb1 : Below w.heap.size w W1 := by rw [hW1]; exact ((Below.refl _ w).alloc (Nat.le_refl _) _).alloc (by simp) _
  have hs1 : W1.heap.size = w.heap.size + 2 := by rw [hW1]; simp
  have hL1 : LB W1 w.heap.size (w.heap.size + 1) (.slice (some ⟨w.heap.size, 0, none⟩) 0 n) [] := by
    refine ⟨by omega, ?_, rfl, .inr ⟨w.heap.size, n, M, rfl, Nat.le_refl _, ?_, by simp, by unfold maxLen; omega, by rw [hM]; simp, by simp⟩⟩
    · rw [hW1]
      have := heap_alloc_new (w.alloc (.cells M 9)) (.cells #[.slice (some ⟨w.heap.size, 0, none⟩) 0 n] 67)
      rw [World.size_alloc] at this
      exact this
    · rw [hW1]; exact (Below.heap_alloc _ _ _ (by simp)).trans (heap_alloc_new w _)
  have cE := each_any base a D E hE hs 31 (.pointer (some ⟨w.heap.size + 1, 0, none⟩)) W1 (h.below hb1) (fun t W => (∃ v, LB W w.heap.size (w.heap.size + 1) v (namesOf (E.take t))) ∧ Below w.heap.size w W) hla
    (fun t W W' hJ ho => by
      obtain ⟨⟨v, hv⟩, hz⟩ := hJ
      exact ⟨⟨v, hv.kept ho (fun hh => not_HT hv.box (by decide) (by decide) hh.2) (fun j cur hc hh => not_HT hc (by decide) (by decide) hh.2)⟩, hz.trans (ho.below hz.size (fun i hi => by have := hi.1; omega))⟩)
    ⟨⟨_, by simpa [namesOf] using hL1⟩, hb1⟩
    (fun t x W hx hJ hz => by
      obtain ⟨⟨v, hv⟩, hz'⟩ := hJ
      have htl := (List.getElem?_eq_some_iff.1 hx).1
      refine (listAdd_any w.heap.size (w.heap.size + 1) v _ (bas x.name) (x.num : Nat) W hv (by simp [namesOf]; omega) hz'.size).mono ?_
      rintro e w' ⟨rfl, ⟨v', hv'⟩, ho⟩
      refine ⟨rfl, ⟨⟨v', ?_⟩, hz'.trans (ho.below hz'.size (fun i hi => by rcases hi with rfl | hi; exact hv.lo; exact (own_lt hv.row hi).1))⟩, Only.weak ho (fun i _ hi => ?_)⟩
      · have e : namesOf (E.take (t + 1)) = namesOf (E.take t) ++ [bas x.name] := by
          rw [List.take_add_one, hx]; simp [namesOf]
        rw [e]; exact hv'
      · rcases hi with rfl | hi
        · exact not_HT hv.box (by decide) (by decide)
        · obtain ⟨_, _, cur, hc⟩ := own_lt hv.row hi
          exact not_HT hc (by decide) (by decide))
  rw [List.take_length] at cE
  rw [hW1] at cE
  clear h hL1 hb1 hs1 hk0 hx0 hx1 hx2 hE hs hW1 hM hEl hn
  go_enter Tryd.func17, Tryd.ntmps17
  go_wp2_with (go_at_call 16; refine Calls_on cN ?_; clear cN)
  refine cE.mono ?_
  rintro e w2 ⟨rfl, ⟨v, hv⟩, hb2⟩
  have c0 : w2.cell? ⟨w.heap.size + 1, 0, none⟩ = some v := by rw [cellOf hv.box 0]; rfl
  obtain ⟨p, l, c, rfl⟩ : ∃ p l c, v = .slice p l c := by
    rcases hv.row.2 with ⟨e1, _⟩ | ⟨q, cap, cur, e, _⟩
    · exact ⟨_, _, _, e1⟩
    · exact ⟨_, _, _, e⟩
  have HF : Hid (LB w2 w.heap.size (w.heap.size + 1) (.slice p l c) (namesOf E) ∧ Below w.heap.size w w2) := ⟨hv, hb2⟩
  clear hv hb2 cE
  go_wp2
  go_ret
  exact ⟨⟨_, _, rfl, HF.out.1⟩, HF.out.2⟩

end Go.Proofs.YtdocablbkafkiaaDoor.Cd

/-
  begun of the law's package: one name is kept.
-/
namespace Go.Proofs.YtdocablbkafkiaaDoor.Cd
open Go.RowKit Go.Maps

attribute [local go_sem] Oper.semAt_some

theorem dirB_inj {D E : List (List En)} (h : Good D) (k : Good E) (e : dirB D = dirB E) : D = E := by
  have hl : D.length = E.length := by
    have h1 := dirB_len h
    have h2 := dirB_len k
    rw [e] at h1
    omega
  have a1 := own_all h D.length (Nat.le_refl _)
  have a2 := own_all k E.length (Nat.le_refl _)
  rw [List.take_length] at a1 a2
  rw [e, hl, a2] at a1
  exact h.same k (fun q => by rw [← a1])
theorem RowB.bytes {w : World} {q : Nat} {bs : List (BitVec 8)} (h : RowB w q bs) : Bytes w (some ⟨q, 0, none⟩) bs := by
  intro _
  refine ⟨q, 0, rfl, fun j x hj => ?_⟩
  rw [Nat.zero_add, cellOf h]
  simp [hj]
/-- What Bytes gave is loaded: the same directory. -/
theorem load_own (base a : Nat) (D : List (List En)) (w : World) (ht : Tab w) (h : DirOk w base a D) :
    Calls Tryd.prog 13 #[.pointer (some ⟨a, 0, none⟩)] w fun e w1 => e = .returned (.slice (some ⟨w.heap.size, 0, none⟩) (D.length * 512) (D.length * 512)) ∧ Below w.heap.size w w1 ∧
      Calls Tryd.prog 14 #[.slice (some ⟨w.heap.size, 0, none⟩) (D.length * 512) (D.length * 512)] w1 fun e w2 => e = .returned (.tuple #[.pointer (some ⟨w1.heap.size + 2, 0, none⟩), .int .i64 0]) ∧ Below w1.heap.size w1 w2 ∧ DirOk w2 w1.heap.size (w1.heap.size + 2) D := by
  refine (dbytes_any base a D w h).mono ?_
  rintro e w1 ⟨rfl, hrow, hb⟩
  refine ⟨rfl, hb, ?_⟩
  have hl := dirB_len h.2
  have hsm := h.2.small
  have := load_all w.heap.size 0 (D.length * 512) (dirB D) w1 (below_tab hb ht.lt ht) hrow.bytes (by omega) (by omega)
  rw [hl] at this
  refine this.mono ?_
  rintro e w2 ⟨hb2, ⟨hn, _⟩ | ⟨D2, rfl, hd2, he⟩⟩
  · exact absurd ⟨D, h.2, rfl⟩ hn
  · refine ⟨rfl, hb2, ?_⟩
    rw [dirB_inj h.2 hd2.2 he]
    exact hd2

theorem one_of {D : List (List En)} {x : En} (h1 : total D = 1) (h2 : ∀ q, q ∈ D.flatten ↔ (False ∨ q = x)) : D.flatten = [x] := by
  unfold total at h1
  match hD : D.flatten, h1 with
  | [y], _ =>
    have := (h2 y).1 (by rw [hD]; simp)
    simp at this
    rw [this]

set_option maxRecDepth 8000 in
set_option maxHeartbeats 2000000 in
theorem begun10_true (w : World) (ht : Tab w) : Calls Tryd.prog 6 #[] w fun e w' => e = .returned (.bool true) ∧ Below w.heap.size w w' := by
  have cN := new_dir w
  obtain ⟨w1, hw1⟩ : ∃ w1, w1 = w.alloc (.cells #[.int .i64 0, .slice none 0 0] 49) := ⟨_, rfl⟩
  rw [← hw1] at cN
  have hb1 : Below w.heap.size w w1 := by rw [hw1]; exact (Below.refl _ w).alloc (Nat.le_refl _) _
  have hd1 : DirOk w1 w.heap.size w.heap.size [] := dir_new (Nat.le_refl _) (by rw [hw1]; exact heap_alloc_new w _)
  have cP := put_any w.heap.size w.heap.size [] ⟨#[97]⟩ 5 w1 (below_tab hb1 ht.lt ht) ht.lt hd1 (by decide)
  have HT : Hid (Tab w ∧ Below w.heap.size w w1) := ⟨ht, hb1⟩
  clear hw1 hd1 ht hb1
  go_enter Tryd.func6, Tryd.ntmps6
  go_wp2_with fail
  refine cN.mono ?_
  rintro e w1' ⟨rfl, rfl⟩
  clear cN
  go_wp2_with fail
  refine cP.mono ?_
  clear cP
  rintro e w2 ⟨hf, ⟨h1, _⟩ | ⟨_, h2, _⟩ | ⟨_, _, _, h4, _⟩ | ⟨_, _, h3, rfl, D, hD, hm, hA, hB⟩⟩
  · exact absurd (by decide) h1
  · exact absurd (by decide) h2
  · simp [total] at h4
  have hab : Absent [] ([97] : List UInt8) := fun j b h => by simp at h
  have hfl : D.flatten = [⟨[97], 5⟩] := one_of (hA hab) (fun q => by rw [hm q]; simp)
  have hb2 : Below w.heap.size w w2 := HT.out.2.trans (hf.toBelow HT.out.2.size)
  have cB := load_own w.heap.size w.heap.size D w2 (below_tab hb2 HT.out.1.lt HT.out.1) hD
  have H2 : Hid (Below w.heap.size w w2) := hb2
  clear hf h3 hm hA hB hb2 hD
  go_wp2_with fail
  refine cB.mono ?_
  rintro e w3 ⟨rfl, hb3, cL⟩
  have H3 : Hid (Below w.heap.size w w3) := H2.out.trans (hb3.mono H2.out.size)
  clear cB hb3
  go_wp2_with fail
  refine cL.mono ?_
  rintro e w4 ⟨rfl, hb4, hD4⟩
  clear cL
  have hb4' : Below w.heap.size w w4 := H3.out.trans (hb4.mono H3.out.size)
  have hlt3 : 1 < w3.heap.size := Nat.lt_of_lt_of_le HT.out.1.lt H3.out.size
  have cG := get_any w3.heap.size (w3.heap.size + 2) D ⟨#[97]⟩ w4 (below_tab hb4' HT.out.1.lt HT.out.1) hlt3 hD4 (by decide)
  have H4 : Hid (Below w.heap.size w w4 ∧ DirOk w4 w3.heap.size (w3.heap.size + 2) D) := ⟨hb4', hD4⟩
  clear hb4 hb4' hD4
  have cG' : Calls Tryd.prog 12 #[.pointer (some ⟨w3.heap.size + 2, 0, none⟩), .string ⟨#[97]⟩] w4 fun e w' => e = .returned (.tuple #[.int .i64 5, .bool true]) ∧ Below w4.heap.size w4 w' := by
    refine cG.mono ?_
    rintro e w5 ⟨hb5, ⟨x, hx, _, rfl⟩ | ⟨hA, _⟩⟩
    · rw [hfl] at hx
      simp at hx
      subst hx
      exact ⟨rfl, hb5⟩
    · exfalso
      have hx : (⟨[97], 5⟩ : En) ∈ D.flatten := by rw [hfl]; simp
      obtain ⟨b, hb, hxb⟩ := List.mem_flatten.1 hx
      obtain ⟨j, hj⟩ := List.getElem?_of_mem hb
      exact hA j b hj _ hxb rfl
  clear cG
  go_wp2_with fail
  refine cG'.mono ?_
  rintro e w5 ⟨rfl, hb5⟩
  have H5 : Hid (Below w.heap.size w w5) := H4.out.1.trans (hb5.mono H4.out.1.size)
  have cI := list_one w3.heap.size (w3.heap.size + 2) D ⟨[97], 5⟩ hfl w5 (H4.out.2.below hb5)
  clear cG' hb5
  go_wp2_with fail
  refine cI.mono ?_
  rintro e w6 ⟨⟨q, c, rfl, hc⟩, hb6⟩
  have H6 : Hid (Below w.heap.size w w6) := H5.out.trans (hb6.mono H5.out.size)
  have hbas : bas [97] = ⟨#[97]⟩ := by decide
  rw [hbas] at hc
  have cF := fine_any ⟨#[46, 46]⟩ w6 (by decide)
  have hfn : fineN (ByteArray.data ⟨#[46, 46]⟩).toList = 22 := by decide
  rw [hfn] at cF
  clear cI hb6 hfl
  go_wp2_with (go_at_call 15; refine Calls_on cF ?_)
  go_ret
  exact ⟨rfl, H6.out⟩

end Go.Proofs.YtdocablbkafkiaaDoor.Cd

namespace Go.Proofs.YtdocablbkafkiaaDoor.Cd
open Go.RowKit Go.Maps

attribute [local go_sem] Oper.semAt_some

set_option maxRecDepth 8000 in
set_option maxHeartbeats 1000000 in
theorem short10_any (s : ByteArray) (w : World) (hs : s.size < 1000000000000000) : Calls Tryd.prog 8 #[.string s] w fun e w' => (∃ s', e = .returned (.string s') ∧ s'.data.toList = s.data.toList.take 90) ∧ w' = w := by
  by_cases h : 90 < s.size
  · have hI : (90 : Int) < (s.size : Int) := by omega
    have h90 : 90 ≤ s.size := by omega
    go_enter Tryd.func8, Tryd.ntmps8
    go_wp2
    go_ret
    refine ⟨⟨s.extract 0 90, rfl, ?_⟩, rfl⟩
    simp [ByteArray.data_extract]
  · have hI : ¬ (90 : Int) < (s.size : Int) := by omega
    go_enter Tryd.func8, Tryd.ntmps8
    go_wp2
    go_ret
    exact ⟨⟨s, rfl, by rw [List.take_of_length_le (by rw [← Lib.size_eq]; omega)]⟩, rfl⟩

set_option maxRecDepth 8000 in
set_option maxHeartbeats 2000000 in
theorem local_any (s : ByteArray) (w : World) (hs : s.size < 1000000000000000) : Calls Tryd.prog 9 #[.string s] w fun e w' => e = .returned (.int .i64 (fineN s.data.toList)) ∧ w' = w := by
  obtain ⟨l, hl⟩ : ∃ l, s.data.toList = l := ⟨_, rfl⟩
  obtain rfl : s = bas l := by rw [← hl, bas_of]
  clear hl
  rw [bas_data]
  rw [bas_size] at hs
  by_cases h1 : l = [] ∨ l = [46] ∨ l = [46, 46]
  · have hf : fineN l = 22 := by unfold fineN; rw [if_pos h1]
    rw [hf]
    rcases h1 with rfl | rfl | rfl
    all_goals
      have e0 : bas [] = ⟨#[]⟩ := rfl
      have e1 : bas [46] = ⟨#[46]⟩ := rfl
      have e2 : bas [46, 46] = ⟨#[46, 46]⟩ := rfl
      go_enter Tryd.func9, Tryd.ntmps9
      go_wp2
      go_ret
      exact ⟨rfl, rfl⟩
  · have e1 : (bas l).toList.isEmpty = false := by rw [bas_toList]; simpa using fun e => h1 (.inl e)
    have e2 : ((bas l).toList == [46]) = false := by rw [bas_toList]; simpa using fun e => h1 (.inr (.inl e))
    have e3 : ((bas l).toList == [46, 46]) = false := by rw [bas_toList]; simpa using fun e => h1 (.inr (.inr e))
    have hsz := bas_size l
    have H1 : Hid (¬ (l = [] ∨ l = [46] ∨ l = [46, 46])) := h1
    clear h1
    go_enter Tryd.func9, Tryd.ntmps9
    go_wp2_with fail
    go_loopw [3] (fun ii wr => ∃ i : Nat, ii = .int .i64 i ∧ i ≤ l.length ∧ wr = w ∧ Hid (∀ j c, j < i → l[j]? = some c → c ≠ 0 ∧ c ≠ 47)) (fun ii _ => l.length - (intOf ii).toNat)
    case atStart => exact ⟨0, rfl, Nat.zero_le _, rfl, fun j c hj => by omega⟩
    case round =>
      obtain ⟨i, rfl, hi, rfl, HI⟩ := hrel
      by_cases hlt : i < l.length
      · have hltI : (i : Int) < (l.length : Int) := by omega
        obtain ⟨c, hc⟩ : ∃ c, l[i]? = some c := ⟨_, List.getElem?_eq_getElem hlt⟩
        have hci : ∀ h : i < (bas l).size, (bas l)[i]'h = c := fun h => by
          show (bas l).data[i] = c
          have := List.getElem?_eq_some_iff.1 hc
          exact this.2
        have hcm : c ∈ l := List.mem_of_getElem? hc
        obtain ⟨n, hn⟩ : ∃ n, c.toNat = n := ⟨_, rfl⟩
        by_cases h0 : n = 0
        · have HF : Hid (fineN l = 22) := by
            have : c = 0 := by apply UInt8.toNat_inj.1; rw [hn, h0]; rfl
            subst this
            show _ = _; unfold fineN; rw [if_neg H1.out, if_pos (.inl hcm)]
          subst h0
          have hq : ((0 : Nat) : Int) = 0 := rfl
          clear hc hcm
          go_wp2_with fail
          go_ret
          exact ⟨by rw [HF.out]; rfl, rfl⟩
        · have h0I : ((n : Int) == 0) = false := by rw [beq_eq_false_iff_ne]; omega
          by_cases h47 : n = 47
          · have HF : Hid (fineN l = 22) := by
              have : c = 47 := by apply UInt8.toNat_inj.1; rw [hn, h47]; rfl
              subst this
              show _ = _; unfold fineN; rw [if_neg H1.out, if_pos (.inr hcm)]
            subst h47
            clear hc hcm
            go_wp2_with fail
            go_ret
            exact ⟨by rw [HF.out]; rfl, rfl⟩
          · have h47I : ((n : Int) == 47) = false := by rw [beq_eq_false_iff_ne]; omega
            have HN : Hid (∀ j c, j < i + 1 → l[j]? = some c → c ≠ 0 ∧ c ≠ 47) := fun j d hj hd => by
              by_cases hji : j = i
              · subst hji
                rw [hc] at hd; cases hd
                exact ⟨fun e => by rw [e] at hn; exact h0 hn.symm, fun e => by rw [e] at hn; exact h47 hn.symm⟩
              · exact HI.out j d (by omega) hd
            clear hc hcm
            go_wp2_with fail
            exact ⟨⟨i + 1, by simp, by omega, trivial, HN⟩, by simp [intOf]; omega⟩
      · obtain rfl : i = l.length := by omega
        have hno : ¬ (0 ∈ l ∨ 47 ∈ l) := by
          rintro (h | h)
          · obtain ⟨j, hj⟩ := List.getElem?_of_mem h
            exact (HI.out j _ (List.getElem?_eq_some_iff.1 hj).1 hj).1 rfl
          · obtain ⟨j, hj⟩ := List.getElem?_of_mem h
            exact (HI.out j _ (List.getElem?_eq_some_iff.1 hj).1 hj).2 rfl
        by_cases h64 : 64 < l.length
        · have h64I : (64 : Int) < (l.length : Int) := by omega
          have HF : Hid (fineN l = 36) := by show _ = _; unfold fineN; rw [if_neg H1.out, if_neg hno, if_pos h64]
          clear hno
          go_wp2_with fail
          go_ret
          exact ⟨by rw [HF.out]; rfl, rfl⟩
        · have h64I : ¬ (64 : Int) < (l.length : Int) := by omega
          have HF : Hid (fineN l = 0) := by show _ = _; unfold fineN; rw [if_neg H1.out, if_neg hno, if_neg h64]
          clear hno
          go_wp2_with fail
          go_ret
          exact ⟨by rw [HF.out]; rfl, rfl⟩

end Go.Proofs.YtdocablbkafkiaaDoor.Cd
