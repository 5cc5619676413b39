/-
  up and down of container/heap over a queue's heap.
-/
import Derived.Test.YtgophojgofmkeaaZd
namespace Go.Proofs.Ytgophojgofmkeaa.Ck
open Go.RowKit Go.Maps

theorem dec_yes {p : Prop} [Decidable p] (h : p) : decide p = true := by simpa using h
theorem dec_no {p : Prop} [Decidable p] (h : ¬ p) : decide p = false := by simpa using h
abbrev hI (c : Nat) : Value := .iface 58 (ep c)
theorem gmeth (c : Nat) (w : World) : (method 196 58 (.pointer (some ⟨c, 0, none⟩)) "Less").run Try.prog w = .ok (57, .pointer (some ⟨c, 0, none⟩)) w ∧ (method 196 58 (.pointer (some ⟨c, 0, none⟩)) "Swap").run Try.prog w = .ok (60, .pointer (some ⟨c, 0, none⟩)) w ∧
    (method 196 58 (.pointer (some ⟨c, 0, none⟩)) "Len").run Try.prog w = .ok (23, .pointer (some ⟨c, 0, none⟩)) w ∧ (method 196 58 (.pointer (some ⟨c, 0, none⟩)) "Push").run Try.prog w = .ok (59, .pointer (some ⟨c, 0, none⟩)) w ∧ (method 196 58 (.pointer (some ⟨c, 0, none⟩)) "Pop").run Try.prog w = .ok (58, .pointer (some ⟨c, 0, none⟩)) w :=
  ⟨by kernel_rfl, by kernel_rfl, by kernel_rfl, by kernel_rfl, by kernel_rfl⟩
theorem gm_less (q : QP) (p : Option Addr) (cap : Nat) (I : List Nat) (U : Nat → QE) (m : Nat) (w : World) (_ : HQ w q p cap I U) (_ : I.length = m) : (method 196 58 (ep q.c) "Less").run Try.prog w = .ok (57, ep q.c) w := (gmeth q.c w).1
theorem gm_swap (q : QP) (p : Option Addr) (cap : Nat) (I : List Nat) (U : Nat → QE) (m : Nat) (w : World) (_ : HQ w q p cap I U) (_ : I.length = m) : (method 196 58 (ep q.c) "Swap").run Try.prog w = .ok (60, ep q.c) w := (gmeth q.c w).2.1
theorem gLess_hq (q : QP) (p : Option Addr) (cap : Nat) (I : List Nat) (U : Nat → QE) (i j m : Nat) (w : World) (h : HQ w q p cap I U) (hm : I.length = m) (hi : i < m) (hj : j < m) (r : Bool) (hr : decide (kvOf (keyQ q U) I i < kvOf (keyQ q U) I j) = r) :
    Calls Try.prog 57 #[ep q.c, .int .i64 i, .int .i64 j] w fun e w' => e = .returned (.bool r) ∧ HQ w' q p cap I U ∧ Fm q.base w w' := by
  subst hm
  rw [← hr]
  exact (gpLess_any q p cap I U i j w h hi hj).mono fun e w' ⟨h1, h2⟩ => ⟨h1, h.below h2, Fm.of_below h2⟩
theorem gSwap_hq (q : QP) (p : Option Addr) (cap : Nat) (I : List Nat) (U : Nat → QE) (i j m : Nat) (w : World) (h : HQ w q p cap I U) (hm : I.length = m) (hi : i < m) (hj : j < m) (hij : i ≠ j) :
    Calls Try.prog 60 #[ep q.c, .int .i64 i, .int .i64 j] w fun e w' => e = .returned (.tuple #[]) ∧ HQ w' q p cap (swapL I i j) U ∧ Fm q.base w w' := by
  subst hm
  exact gpSwap_any q p cap I U i j w h hi hj hij

set_option maxRecDepth 8000 in
set_option maxHeartbeats 2000000 in
theorem gup_any (q : QP) (p : Option Addr) (cap : Nat) (I : List Nat) (U : Nat → QE) (n j : Nat) (w : World) (h : HQ w q p cap I U) (hn : n ≤ I.length) (hj : j < n) (hu : UpOk (kvOf (keyQ q U) I) n j) :
    Calls Try.prog 34 #[hI q.c, .int .i64 j] w fun e w' => e = .returned (.tuple #[]) ∧ ∃ I', HQ w' q p cap I' U ∧ I'.Perm I ∧ HeapF (kvOf (keyQ q U) I') n ∧ (∀ k, n ≤ k → I'.getD k 0 = I.getD k 0) ∧ Fm q.base w w' := by
  have hlen := h.len
  have H0 : Hid (HQ w q p cap I U ∧ UpOk (kvOf (keyQ q U) I) n j) := ⟨h, hu⟩
  clear h hu
  unfold hI
  go_enter Try.func34, Try.ntmps34
  go_wp2_with fail
  go_loopw [1] (fun jj wr => ∃ (j : Nat) (I' : List Nat), jj = .int .i64 j ∧ j < n ∧ I'.length = I.length ∧ Hid (HQ wr q p cap I' U ∧ UpOk (kvOf (keyQ q U) I') n j ∧ I'.Perm I ∧ (∀ k, n ≤ k → I'.getD k 0 = I.getD k 0) ∧ Fm q.base w wr)) (fun jj _ => (intOf jj).toNat)
  case atStart => exact ⟨j, I, rfl, hj, rfl, H0.out.1, H0.out.2, List.Perm.refl _, fun _ _ => rfl, Fm.refl _ _⟩
  case round =>
    obtain ⟨j, I', rfl, hj, hl, HI⟩ := hrel
    have m1 := gm_less q p cap I' U I.length wr HI.out.1 hl
    by_cases h0 : j = 0
    · subst h0
      have e0 : ((0 : Nat) : Int) - 1 = -1 := by omega
      go_wp2_with fail
      go_end0
      obtain ⟨a1, a2, a3, a4, a5⟩ := HI.out
      exact ⟨rfl, I', a1, a3, a2.done (.inl rfl), a4, a5⟩
    · have e1 : Int.tdiv ((j : Int) - 1) 2 = ((par j : Nat) : Int) := by unfold par; rw [Int.tdiv_eq_ediv_of_nonneg (by omega)]; omega
      have e2 : ((j : Int) - 1) / 2 = ((par j : Nat) : Int) := by unfold par; omega
      have hp := par_lt (show 0 < j by omega)
      have e3 : (((par j : Nat) : Int) == (j : Int)) = false := by rw [beq_eq_false_iff_ne]; omega
      by_cases hlt : kvOf (keyQ q U) I' j < kvOf (keyQ q U) I' (par j)
      · have cL := gLess_hq q p cap I' U j (par j) I.length wr HI.out.1 hl (by omega) (by omega) true (by simpa using hlt)
        go_wp2_with (first
          | (go_at_call 57; refine cL.mono ?_; rintro e w1 ⟨rfl, h1, b1⟩; clear cL m1; have H1 : Hid (HQ w1 q p cap I' U ∧ Fm q.base wr w1) := ⟨h1, b1⟩; clear h1 b1; have m2 := gm_swap q p cap I' U I.length w1 H1.out.1 hl; have cS := gSwap_hq q p cap I' U (par j) j I.length w1 H1.out.1 hl (by omega) (by omega) (by omega))
          | (go_at_call 60; refine cS.mono ?_; rintro e w2 ⟨rfl, h2, b2⟩; clear cS m2; have H2 : Hid (HQ w2 q p cap (swapL I' (par j) j) U ∧ Fm q.base wr w2) := ⟨h2, H1.out.2.next b2⟩; clear h2 b2))
        go_roundw
        case rel =>
          obtain ⟨a1, a2, a3, a4, a5⟩ := HI.out
          have hpj : par j < I'.length := by omega
          have hjl : j < I'.length := by omega
          refine ⟨par j, swapL I' (par j) j, rfl, by omega, by rw [swapL_length]; exact hl, H2.out.1, ?_, (swapL_perm I' _ _ hpj hjl).trans a3, fun k hk => ?_, a5.next H2.out.2⟩
          · rw [kvOf_swap _ _ _ _ hpj hjl]
            exact a2.step (by omega) hj hlt
          · rw [swapL_getD I' _ _ k hpj hjl, if_neg (by omega), if_neg (by omega)]
            exact a4 k hk
        case measure => simp [intOf]; omega
      · have cL := gLess_hq q p cap I' U j (par j) I.length wr HI.out.1 hl (by omega) (by omega) false (by simpa using hlt)
        go_wp2_with (go_at_call 57; refine cL.mono ?_; rintro e w1 ⟨rfl, h1, b1⟩; clear cL m1; have H1 : Hid (HQ w1 q p cap I' U ∧ Fm q.base wr w1) := ⟨h1, b1⟩; clear h1 b1)
        go_end0
        obtain ⟨a1, a2, a3, a4, a5⟩ := HI.out
        exact ⟨rfl, I', H1.out.1, a3, a2.done (.inr (by omega)), a4, a5.next H1.out.2⟩

/-- What down's loop keeps. -/
structure DnI (w0 wr : World) (q : QP) (p : Option Addr) (cap : Nat) (I I' : List Nat) (U : Nat → QE) (n i0 i : Nat) : Prop where
  hp : HQ wr q p cap I' U
  fix : FixOk (kvOf (keyQ q U) I') n i
  perm : I'.Perm I
  far : ∀ k, n ≤ k → I'.getD k 0 = I.getD k 0
  but : Fm q.base w0 wr
  way : i = i0 ∨ (i0 < i ∧ kvOf (keyQ q U) I' (par i) ≤ kvOf (keyQ q U) I' i)
theorem DnI.step {w0 wr w1 w2 : World} {q : QP} {p : Option Addr} {cap : Nat} {I I' : List Nat} {U : Nat → QE} {n i0 i j : Nat} (h : DnI w0 wr q p cap I I' U n i0 i) (hn : n ≤ I'.length) (hi0 : i0 ≤ i) (hj : par j = i) (hj0 : 0 < j) (hjn : j < n)
    (hlt : kvOf (keyQ q U) I' j < kvOf (keyQ q U) I' i) (hmin : ∀ k, 0 < k → k < n → par k = i → kvOf (keyQ q U) I' j ≤ kvOf (keyQ q U) I' k) (hb1 : Fm q.base wr w1) (h2 : HQ w2 q p cap (swapL I' i j) U) (hb2 : Fm q.base w1 w2) : DnI w0 w2 q p cap I (swapL I' i j) U n i0 j := by
  have hp := par_lt hj0
  obtain ⟨f1, f2⟩ := h.fix.step hj hj0 hjn hlt hmin
  have e := kvOf_swap (keyQ q U) I' i j (by omega) (by omega)
  refine ⟨h2, by rw [e]; exact f1, (swapL_perm I' i j (by omega) (by omega)).trans h.perm, fun k hk => ?_, h.but.next (hb1.next hb2), .inr ⟨by omega, by rw [e]; exact f2⟩⟩
  · rw [swapL_getD I' _ _ k (by omega) (by omega), if_neg (by omega), if_neg (by omega)]
    exact h.far k hk
/-- What down answers. -/
structure DnE (w0 w' : World) (q : QP) (p : Option Addr) (cap : Nat) (I I' : List Nat) (U : Nat → QE) (n i0 : Nat) (r : Bool) : Prop where
  hp : HQ w' q p cap I' U
  perm : I'.Perm I
  far : ∀ k, n ≤ k → I'.getD k 0 = I.getD k 0
  but : Fm q.base w0 w'
  yes : r = true → HeapF (kvOf (keyQ q U) I') n
  no : r = false → UpOk (kvOf (keyQ q U) I') n i0
theorem DnI.stop {w0 wr w1 : World} {q : QP} {p : Option Addr} {cap : Nat} {I I' : List Nat} {U : Nat → QE} {n i0 i : Nat} (h : DnI w0 wr q p cap I I' U n i0 i) (hmin : ∀ k, 0 < k → k < n → par k = i → kvOf (keyQ q U) I' i ≤ kvOf (keyQ q U) I' k) (h1 : HQ w1 q p cap I' U) (hb1 : Fm q.base wr w1) :
    DnE w0 w1 q p cap I I' U n i0 (decide (i > i0)) := by
  have hu := h.fix.stay hmin
  refine ⟨h1, h.perm, h.far, h.but.next hb1, fun hr => ?_, fun hr => ?_⟩
  · have : i0 < i := by simpa using hr
    rcases h.way with e | ⟨_, e⟩
    · omega
    · exact hu.done (.inr e)
  · have : ¬ i0 < i := by simpa using hr
    rcases h.way with e | ⟨e, _⟩
    · subst e; exact hu
    · omega

set_option maxRecDepth 8000 in
set_option maxHeartbeats 4000000 in
theorem gdown_any (q : QP) (p : Option Addr) (cap : Nat) (I : List Nat) (U : Nat → QE) (n i0 : Nat) (w : World) (h : HQ w q p cap I U) (hn : n ≤ I.length) (hi0 : i0 < n) (hf : FixOk (kvOf (keyQ q U) I) n i0) :
    Calls Try.prog 37 #[hI q.c, .int .i64 i0, .int .i64 n] w fun e w' => ∃ I' r, e = .returned (.bool r) ∧ DnE w w' q p cap I I' U n i0 r := by
  have hlen := h.len
  have HJ : Hid (DnI w w q p cap I I U n i0 i0) := ⟨h, hf, List.Perm.refl _, fun _ _ => rfl, Fm.refl _ _, .inl rfl⟩
  clear h hf
  unfold hI
  go_enter Try.func37, Try.ntmps37
  go_wp2_with fail
  go_loopw [7] (fun ii wr => ∃ (i : Nat) (I' : List Nat), ii = .int .i64 i ∧ i0 ≤ i ∧ i < n ∧ I'.length = I.length ∧ Hid (DnI w wr q p cap I I' U n i0 i)) (fun ii _ => n - (intOf ii).toNat)
  case atStart => exact ⟨i0, I, rfl, Nat.le_refl _, hi0, rfl, HJ⟩
  case round =>
    clear HJ
    obtain ⟨i, I', rfl, hii, hin, hl, HI⟩ := hrel
    have B0 : Fm q.base wr wr := Fm.refl _ _
    by_cases hA : n ≤ 2 * i + 1
    · have hAI : (2 : Int) * (i : Int) + 1 ≥ (n : Int) := by omega
      go_wp2_with fail
      go_ret
      exact ⟨I', _, rfl, by
        have := HI.out.stop (fun k k0 kn kp => by rcases par_child kp k0 with e | e <;> omega) HI.out.hp B0
        simpa using this⟩
    · have a1 : ¬ (2 : Int) * (i : Int) + 1 ≥ (n : Int) := by omega
      have a2 : ¬ (2 : Int) * (i : Int) + 1 < 0 := by omega
      have qq1 : (2 : Int) * (i : Int) + 1 = ((2 * i + 1 : Nat) : Int) := by omega
      have qq2 : ((2 * i + 1 : Nat) : Int) + 1 = ((2 * i + 2 : Nat) : Int) := by omega
      have p1 : par (2 * i + 1) = i := by unfold par; omega
      have p2 : par (2 * i + 2) = i := by unfold par; omega
      have m1 := gm_less q p cap I' U I.length wr HI.out.hp hl
      by_cases hB : 2 * i + 2 < n
      · by_cases hc : kvOf (keyQ q U) I' (2 * i + 2) < kvOf (keyQ q U) I' (2 * i + 1)
        · generalize hj1 : 2 * i + 1 = j1 at *
          generalize hj2 : 2 * i + 2 = j2 at *
          have cL1 := gLess_hq q p cap I' U j2 j1 I.length wr HI.out.hp hl (by omega) (by omega) true (by simpa using hc)
          have hk : (j2 : Int) < (n : Int) := by omega
          have Hj : Hid (2 * i + 1 = j1 ∧ 2 * i + 2 = j2) := ⟨hj1, hj2⟩
          have hb1 : j1 < n := by omega
          have hb2 : i < j1 := by omega
          have hb3 : j2 = j1 + 1 := by omega
          clear hj1 hj2 hb3 hA B0
          by_cases hd : kvOf (keyQ q U) I' j2 < kvOf (keyQ q U) I' i
          · go_wp2_with (first
              | (go_at_call 57; refine cL1.mono ?_; rintro e w1 ⟨rfl, h1, b1⟩; clear cL1 m1; have H1 : Hid (HQ w1 q p cap I' U ∧ Fm q.base wr w1) := ⟨h1, b1⟩; clear h1 b1; have m2 := gm_less q p cap I' U I.length w1 H1.out.1 hl; have cL2 := gLess_hq q p cap I' U j2 i I.length w1 H1.out.1 hl (by omega) (by omega) true (by simpa using hd); refine Stop.out ?_))
            refine Stop.mk ?_
            go_wp2_with (first
              | (go_at_call 57; refine cL2.mono ?_; rintro e w2 ⟨rfl, h2, b2⟩; clear cL2 m2; have H2 : Hid (HQ w2 q p cap I' U ∧ Fm q.base wr w2) := ⟨h2, H1.out.2.next b2⟩; clear h2 b2 H1; have m3 := gm_swap q p cap I' U I.length w2 H2.out.1 hl; have cS := gSwap_hq q p cap I' U i j2 I.length w2 H2.out.1 hl (by omega) (by omega) (by omega))
              | (go_at_call 60; refine cS.mono ?_; rintro e w3 ⟨rfl, h3, b3⟩; clear cS m3; have H3 : Hid (HQ w3 q p cap (swapL I' i j2) U ∧ Fm q.base w2 w3) := ⟨h3, b3⟩; clear h3 b3))
            go_roundw
            case rel =>
              obtain ⟨rfl, rfl⟩ := Hj.out
              exact ⟨_, _, rfl, by omega, by omega, by rw [swapL_length]; exact hl, HI.out.step (by omega) hii (by first | exact p1 | exact p2) (by omega) (by omega) hd (fun k k0 kn kp => by rcases par_child kp k0 with rfl | rfl <;> omega) H2.out.2 H3.out.1 H3.out.2⟩
            case measure => simp [intOf]; omega
          · go_wp2_with (first
              | (go_at_call 57; refine cL1.mono ?_; rintro e w1 ⟨rfl, h1, b1⟩; clear cL1 m1; have H1 : Hid (HQ w1 q p cap I' U ∧ Fm q.base wr w1) := ⟨h1, b1⟩; clear h1 b1; have m2 := gm_less q p cap I' U I.length w1 H1.out.1 hl; have cL2 := gLess_hq q p cap I' U j2 i I.length w1 H1.out.1 hl (by omega) (by omega) false (by simpa using hd); refine Stop.out ?_))
            refine Stop.mk ?_
            go_wp2_with (first
              | (go_at_call 57; refine cL2.mono ?_; rintro e w2 ⟨rfl, h2, b2⟩; clear cL2 m2; have H2 : Hid (HQ w2 q p cap I' U ∧ Fm q.base wr w2) := ⟨h2, H1.out.2.next b2⟩; clear h2 b2 H1))
            go_ret
            obtain ⟨rfl, rfl⟩ := Hj.out
            exact ⟨I', _, rfl, by
              have := HI.out.stop (fun k k0 kn kp => by rcases par_child kp k0 with rfl | rfl <;> omega) H2.out.1 H2.out.2
              simpa using this⟩
        · generalize hj1 : 2 * i + 1 = j1 at *
          generalize hj2 : 2 * i + 2 = j2 at *
          have cL1 := gLess_hq q p cap I' U j2 j1 I.length wr HI.out.hp hl (by omega) (by omega) false (by simpa using hc)
          have hk : (j2 : Int) < (n : Int) := by omega
          have Hj : Hid (2 * i + 1 = j1 ∧ 2 * i + 2 = j2) := ⟨hj1, hj2⟩
          have hb1 : j1 < n := by omega
          have hb2 : i < j1 := by omega
          have hb3 : j2 = j1 + 1 := by omega
          clear hj1 hj2 hb3 hA B0
          by_cases hd : kvOf (keyQ q U) I' j1 < kvOf (keyQ q U) I' i
          · go_wp2_with (first
              | (go_at_call 57; refine cL1.mono ?_; rintro e w1 ⟨rfl, h1, b1⟩; clear cL1 m1; have H1 : Hid (HQ w1 q p cap I' U ∧ Fm q.base wr w1) := ⟨h1, b1⟩; clear h1 b1; have m2 := gm_less q p cap I' U I.length w1 H1.out.1 hl; have cL2 := gLess_hq q p cap I' U j1 i I.length w1 H1.out.1 hl (by omega) (by omega) true (by simpa using hd); refine Stop.out ?_))
            refine Stop.mk ?_
            go_wp2_with (first
              | (go_at_call 57; refine cL2.mono ?_; rintro e w2 ⟨rfl, h2, b2⟩; clear cL2 m2; have H2 : Hid (HQ w2 q p cap I' U ∧ Fm q.base wr w2) := ⟨h2, H1.out.2.next b2⟩; clear h2 b2 H1; have m3 := gm_swap q p cap I' U I.length w2 H2.out.1 hl; have cS := gSwap_hq q p cap I' U i j1 I.length w2 H2.out.1 hl (by omega) (by omega) (by omega))
              | (go_at_call 60; refine cS.mono ?_; rintro e w3 ⟨rfl, h3, b3⟩; clear cS m3; have H3 : Hid (HQ w3 q p cap (swapL I' i j1) U ∧ Fm q.base w2 w3) := ⟨h3, b3⟩; clear h3 b3))
            go_roundw
            case rel =>
              obtain ⟨rfl, rfl⟩ := Hj.out
              exact ⟨_, _, rfl, by omega, by omega, by rw [swapL_length]; exact hl, HI.out.step (by omega) hii (by first | exact p1 | exact p2) (by omega) (by omega) hd (fun k k0 kn kp => by rcases par_child kp k0 with rfl | rfl <;> omega) H2.out.2 H3.out.1 H3.out.2⟩
            case measure => simp [intOf]; omega
          · go_wp2_with (first
              | (go_at_call 57; refine cL1.mono ?_; rintro e w1 ⟨rfl, h1, b1⟩; clear cL1 m1; have H1 : Hid (HQ w1 q p cap I' U ∧ Fm q.base wr w1) := ⟨h1, b1⟩; clear h1 b1; have m2 := gm_less q p cap I' U I.length w1 H1.out.1 hl; have cL2 := gLess_hq q p cap I' U j1 i I.length w1 H1.out.1 hl (by omega) (by omega) false (by simpa using hd); refine Stop.out ?_))
            refine Stop.mk ?_
            go_wp2_with (first
              | (go_at_call 57; refine cL2.mono ?_; rintro e w2 ⟨rfl, h2, b2⟩; clear cL2 m2; have H2 : Hid (HQ w2 q p cap I' U ∧ Fm q.base wr w2) := ⟨h2, H1.out.2.next b2⟩; clear h2 b2 H1))
            go_ret
            obtain ⟨rfl, rfl⟩ := Hj.out
            exact ⟨I', _, rfl, by
              have := HI.out.stop (fun k k0 kn kp => by rcases par_child kp k0 with rfl | rfl <;> omega) H2.out.1 H2.out.2
              simpa using this⟩
      · generalize hj1 : 2 * i + 1 = j1 at *
        generalize hj2 : 2 * i + 2 = j2 at *
        have H1 : Hid (HQ wr q p cap I' U ∧ Fm q.base wr wr) := ⟨HI.out.hp, B0⟩
        have hk : ¬ (j2 : Int) < (n : Int) := by omega
        have Hj : Hid (2 * i + 1 = j1 ∧ 2 * i + 2 = j2) := ⟨hj1, hj2⟩
        have hb1 : j1 < n := by omega
        have hb2 : i < j1 := by omega
        have hb3 : j2 = j1 + 1 := by omega
        clear hj1 hj2 hb3 hA B0
        by_cases hd : kvOf (keyQ q U) I' j1 < kvOf (keyQ q U) I' i
        · have cL2 := gLess_hq q p cap I' U j1 i I.length wr H1.out.1 hl (by omega) (by omega) true (by simpa using hd)
          go_wp2_with (first
            | (go_at_call 57; refine cL2.mono ?_; rintro e w2 ⟨rfl, h2, b2⟩; clear cL2 m1; have H2 : Hid (HQ w2 q p cap I' U ∧ Fm q.base wr w2) := ⟨h2, H1.out.2.next b2⟩; clear h2 b2 H1; have m3 := gm_swap q p cap I' U I.length w2 H2.out.1 hl; have cS := gSwap_hq q p cap I' U i j1 I.length w2 H2.out.1 hl (by omega) (by omega) (by omega))
            | (go_at_call 60; refine cS.mono ?_; rintro e w3 ⟨rfl, h3, b3⟩; clear cS m3; have H3 : Hid (HQ w3 q p cap (swapL I' i j1) U ∧ Fm q.base w2 w3) := ⟨h3, b3⟩; clear h3 b3))
          go_roundw
          case rel =>
            obtain ⟨rfl, rfl⟩ := Hj.out
            exact ⟨_, _, rfl, by omega, by omega, by rw [swapL_length]; exact hl, HI.out.step (by omega) hii (by first | exact p1 | exact p2) (by omega) (by omega) hd (fun k k0 kn kp => by rcases par_child kp k0 with rfl | rfl <;> omega) H2.out.2 H3.out.1 H3.out.2⟩
          case measure => simp [intOf]; omega
        · have cL2 := gLess_hq q p cap I' U j1 i I.length wr H1.out.1 hl (by omega) (by omega) false (by simpa using hd)
          go_wp2_with (first
            | (go_at_call 57; refine cL2.mono ?_; rintro e w2 ⟨rfl, h2, b2⟩; clear cL2 m1; have H2 : Hid (HQ w2 q p cap I' U ∧ Fm q.base wr w2) := ⟨h2, H1.out.2.next b2⟩; clear h2 b2 H1))
          go_ret
          obtain ⟨rfl, rfl⟩ := Hj.out
          exact ⟨I', _, rfl, by
            have := HI.out.stop (fun k k0 kn kp => by rcases par_child kp k0 with rfl | rfl <;> omega) H2.out.1 H2.out.2
            simpa using this⟩

end Go.Proofs.Ytgophojgofmkeaa.Ck
