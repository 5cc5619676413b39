/-
  up and down of container/heap over a table's heap of numbers.
-/
import Derived.Test.YtmbkheaghiojeaaHda
namespace Go.Proofs.Ytmbkheaghiojeaa.Ck
open Go.RowKit

theorem dec_yes {p : Prop} [Decidable p] (h : p) : decide p = true := by simpa using h
theorem dec_no {p : Prop} [Decidable p] (h : ¬ p) : decide p = false := by simpa using h
/-- To halt a walk. -/
structure Stop (p : Prop) : Prop where
  out : p
def idN : Nat → Nat := fun a => a
abbrev hI (c : Nat) : Value := .iface 56 (np c)
theorem gmeth (c : Nat) (w : World) : (method 183 56 (np c) "Less").run Try.prog w = .ok (43, np c) w ∧ (method 183 56 (np c) "Swap").run Try.prog w = .ok (46, np c) w ∧
    (method 183 56 (np c) "Len").run Try.prog w = .ok (21, np c) w ∧ (method 183 56 (np c) "Push").run Try.prog w = .ok (45, np c) w ∧ (method 183 56 (np c) "Pop").run Try.prog w = .ok (44, np c) w :=
  ⟨by kernel_rfl, by kernel_rfl, by kernel_rfl, by kernel_rfl, by kernel_rfl⟩
theorem gm_less (c : Nat) (F : Nat → FE) (mt : Nat) (I : List Nat) (m : Nat) (w : World) (_ : TM w c F mt I) (_ : I.length = m) : (method 183 56 (np c) "Less").run Try.prog w = .ok (43, np c) w := (gmeth c w).1
theorem gm_swap (c : Nat) (F : Nat → FE) (mt : Nat) (I : List Nat) (m : Nat) (w : World) (_ : TM w c F mt I) (_ : I.length = m) : (method 183 56 (np c) "Swap").run Try.prog w = .ok (46, np c) w := (gmeth c w).2.1
theorem gLess_hq (c : Nat) (F : Nat → FE) (mt : Nat) (I : List Nat) (i j m : Nat) (w : World) (h : TM w c F mt I) (hm : I.length = m) (hi : i < m) (hj : j < m) (r : Bool) (hr : decide (kvOf idN I i < kvOf idN I j) = r) :
    Calls Try.prog 43 #[np c, .int .i64 i, .int .i64 j] w fun e w' => e = .returned (.bool r) ∧ TM w' c F mt I ∧ OnC c w w' := by
  subst hm
  rw [← hr]
  exact (fnLess_any c F mt I i j w h hi hj).mono fun e w' ⟨h1, h2⟩ => ⟨h1, h.below h2, OnC.of_below h2⟩
theorem gSwap_hq (c : Nat) (F : Nat → FE) (mt : Nat) (I : List Nat) (i j m : Nat) (w : World) (h : TM w c F mt I) (hm : I.length = m) (hi : i < m) (hj : j < m) (hij : i ≠ j) :
    Calls Try.prog 46 #[np c, .int .i64 i, .int .i64 j] w fun e w' => e = .returned (.tuple #[]) ∧ TM w' c F mt (swapL I i j) ∧ OnC c w w' := by
  subst hm
  exact fnSwap_any c F mt I i j w h hi hj hij

set_option maxRecDepth 8000 in
set_option maxHeartbeats 2000000 in
theorem gup_any (c : Nat) (F : Nat → FE) (mt : Nat) (I : List Nat) (n j : Nat) (w : World) (h : TM w c F mt I) (hn : n ≤ I.length) (hj : j < n) (hu : UpOk (kvOf idN I) n j) :
    Calls Try.prog 25 #[hI c, .int .i64 j] w fun e w' => e = .returned (.tuple #[]) ∧ ∃ I', TM w' c F mt I' ∧ I'.Perm I ∧ HeapF (kvOf idN I') n ∧ (∀ k, n ≤ k → I'.getD k 0 = I.getD k 0) ∧ OnC c w w' := by
  have hlen := h.len
  have H0 : Hid (TM w c F mt I ∧ UpOk (kvOf idN I) n j) := ⟨h, hu⟩
  clear h hu
  unfold hI
  go_enter Try.func25, Try.ntmps25
  go_wp2_with fail
  go_loopw [1] (fun jj wr => ∃ (j : Nat) (I' : List Nat), jj = .int .i64 j ∧ j < n ∧ I'.length = I.length ∧ Hid (TM wr c F mt I' ∧ UpOk (kvOf idN I') n j ∧ I'.Perm I ∧ (∀ k, n ≤ k → I'.getD k 0 = I.getD k 0) ∧ OnC c w wr)) (fun jj _ => (intOf jj).toNat)
  case atStart => exact ⟨j, I, rfl, hj, rfl, H0.out.1, H0.out.2, List.Perm.refl _, fun _ _ => rfl, OnC.refl _ _⟩
  case round =>
    obtain ⟨j, I', rfl, hj, hl, HI⟩ := hrel
    have m1 := gm_less c F mt I' I.length wr HI.out.1 hl
    by_cases h0 : j = 0
    · subst h0
      have e0 : ((0 : Nat) : Int) - 1 = -1 := by omega
      go_wp2_with fail
      go_end0
      obtain ⟨a1, a2, a3, a4, a5⟩ := HI.out
      exact ⟨rfl, I', a1, a3, a2.done (.inl rfl), a4, a5⟩
    · have e1 : Int.tdiv ((j : Int) - 1) 2 = ((par j : Nat) : Int) := by unfold par; rw [Int.tdiv_eq_ediv_of_nonneg (by omega)]; omega
      have e2 : ((j : Int) - 1) / 2 = ((par j : Nat) : Int) := by unfold par; omega
      have hp := par_lt (show 0 < j by omega)
      have e3 : (((par j : Nat) : Int) == (j : Int)) = false := by rw [beq_eq_false_iff_ne]; omega
      by_cases hlt : kvOf idN I' j < kvOf idN I' (par j)
      · have cL := gLess_hq c F mt I' j (par j) I.length wr HI.out.1 hl (by omega) (by omega) true (by simpa using hlt)
        go_wp2_with (first
          | (go_at_call 43; refine cL.mono ?_; rintro e w1 ⟨rfl, h1, b1⟩; clear cL m1; have H1 : Hid (TM w1 c F mt I' ∧ OnC c wr w1) := ⟨h1, b1⟩; clear h1 b1; have m2 := gm_swap c F mt I' I.length w1 H1.out.1 hl; have cS := gSwap_hq c F mt I' (par j) j I.length w1 H1.out.1 hl (by omega) (by omega) (by omega))
          | (go_at_call 46; refine cS.mono ?_; rintro e w2 ⟨rfl, h2, b2⟩; clear cS m2; have H2 : Hid (TM w2 c F mt (swapL I' (par j) j) ∧ OnC c wr w2) := ⟨h2, H1.out.2.next b2⟩; clear h2 b2))
        go_roundw
        case rel =>
          obtain ⟨a1, a2, a3, a4, a5⟩ := HI.out
          have hpj : par j < I'.length := by omega
          have hjl : j < I'.length := by omega
          refine ⟨par j, swapL I' (par j) j, rfl, by omega, by rw [swapL_length]; exact hl, H2.out.1, ?_, (swapL_perm I' _ _ hpj hjl).trans a3, fun k hk => ?_, a5.next H2.out.2⟩
          · rw [kvOf_swap _ _ _ _ hpj hjl]
            exact a2.step (by omega) hj hlt
          · rw [swapL_getD I' _ _ k hpj hjl, if_neg (by omega), if_neg (by omega)]
            exact a4 k hk
        case measure => simp [intOf]; omega
      · have cL := gLess_hq c F mt I' j (par j) I.length wr HI.out.1 hl (by omega) (by omega) false (by simpa using hlt)
        go_wp2_with (go_at_call 43; refine cL.mono ?_; rintro e w1 ⟨rfl, h1, b1⟩; clear cL m1; have H1 : Hid (TM w1 c F mt I' ∧ OnC c wr w1) := ⟨h1, b1⟩; clear h1 b1)
        go_end0
        obtain ⟨a1, a2, a3, a4, a5⟩ := HI.out
        exact ⟨rfl, I', H1.out.1, a3, a2.done (.inr (by omega)), a4, a5.next H1.out.2⟩

/-- What down's loop keeps. -/
structure DnI (w0 wr : World) (c : Nat) (F : Nat → FE) (mt : Nat) (I I' : List Nat) (n i0 i : Nat) : Prop where
  hp : TM wr c F mt I'
  fix : FixOk (kvOf idN I') n i
  perm : I'.Perm I
  far : ∀ k, n ≤ k → I'.getD k 0 = I.getD k 0
  but : OnC c w0 wr
  way : i = i0 ∨ (i0 < i ∧ kvOf idN I' (par i) ≤ kvOf idN I' i)
theorem DnI.step {w0 wr w1 w2 : World} {c : Nat} {F : Nat → FE} {mt : Nat} {I I' : List Nat} {n i0 i j : Nat} (h : DnI w0 wr c F mt I I' n i0 i) (hn : n ≤ I'.length) (hi0 : i0 ≤ i) (hj : par j = i) (hj0 : 0 < j) (hjn : j < n)
    (hlt : kvOf idN I' j < kvOf idN I' i) (hmin : ∀ k, 0 < k → k < n → par k = i → kvOf idN I' j ≤ kvOf idN I' k) (hb1 : OnC c wr w1) (h2 : TM w2 c F mt (swapL I' i j)) (hb2 : OnC c w1 w2) : DnI w0 w2 c F mt I (swapL I' i j) n i0 j := by
  have hp := par_lt hj0
  obtain ⟨f1, f2⟩ := h.fix.step hj hj0 hjn hlt hmin
  have e := kvOf_swap idN I' i j (by omega) (by omega)
  refine ⟨h2, by rw [e]; exact f1, (swapL_perm I' i j (by omega) (by omega)).trans h.perm, fun k hk => ?_, h.but.next (hb1.next hb2), .inr ⟨by omega, by rw [e]; exact f2⟩⟩
  · rw [swapL_getD I' _ _ k (by omega) (by omega), if_neg (by omega), if_neg (by omega)]
    exact h.far k hk
/-- What down answers. -/
structure DnE (w0 w' : World) (c : Nat) (F : Nat → FE) (mt : Nat) (I I' : List Nat) (n i0 : Nat) (r : Bool) : Prop where
  hp : TM w' c F mt I'
  perm : I'.Perm I
  far : ∀ k, n ≤ k → I'.getD k 0 = I.getD k 0
  but : OnC c w0 w'
  yes : r = true → HeapF (kvOf idN I') n
  no : r = false → UpOk (kvOf idN I') n i0
theorem DnI.stop {w0 wr w1 : World} {c : Nat} {F : Nat → FE} {mt : Nat} {I I' : List Nat} {n i0 i : Nat} (h : DnI w0 wr c F mt I I' n i0 i) (hmin : ∀ k, 0 < k → k < n → par k = i → kvOf idN I' i ≤ kvOf idN I' k) (h1 : TM w1 c F mt I') (hb1 : OnC c wr w1) :
    DnE w0 w1 c F mt I I' n i0 (decide (i > i0)) := by
  have hu := h.fix.stay hmin
  refine ⟨h1, h.perm, h.far, h.but.next hb1, fun hr => ?_, fun hr => ?_⟩
  · have : i0 < i := by simpa using hr
    rcases h.way with e | ⟨_, e⟩
    · omega
    · exact hu.done (.inr e)
  · have : ¬ i0 < i := by simpa using hr
    rcases h.way with e | ⟨e, _⟩
    · subst e; exact hu
    · omega

set_option maxRecDepth 8000 in
set_option maxHeartbeats 4000000 in
theorem gdown_any (c : Nat) (F : Nat → FE) (mt : Nat) (I : List Nat) (n i0 : Nat) (w : World) (h : TM w c F mt I) (hn : n ≤ I.length) (hi0 : i0 < n) (hf : FixOk (kvOf idN I) n i0) :
    Calls Try.prog 26 #[hI c, .int .i64 i0, .int .i64 n] w fun e w' => ∃ I' r, e = .returned (.bool r) ∧ DnE w w' c F mt I I' n i0 r := by
  have hlen := h.len
  have HJ : Hid (DnI w w c F mt I I n i0 i0) := ⟨h, hf, List.Perm.refl _, fun _ _ => rfl, OnC.refl _ _, .inl rfl⟩
  clear h hf
  unfold hI
  go_enter Try.func26, Try.ntmps26
  go_wp2_with fail
  go_loopw [7] (fun ii wr => ∃ (i : Nat) (I' : List Nat), ii = .int .i64 i ∧ i0 ≤ i ∧ i < n ∧ I'.length = I.length ∧ Hid (DnI w wr c F mt I I' n i0 i)) (fun ii _ => n - (intOf ii).toNat)
  case atStart => exact ⟨i0, I, rfl, Nat.le_refl _, hi0, rfl, HJ⟩
  case round =>
    clear HJ
    obtain ⟨i, I', rfl, hii, hin, hl, HI⟩ := hrel
    have B0 : OnC c wr wr := OnC.refl _ _
    by_cases hA : n ≤ 2 * i + 1
    · have hAI : (2 : Int) * (i : Int) + 1 ≥ (n : Int) := by omega
      go_wp2_with fail
      go_ret
      exact ⟨I', _, rfl, by
        have := HI.out.stop (fun k k0 kn kp => by rcases par_child kp k0 with e | e <;> omega) HI.out.hp B0
        simpa using this⟩
    · have a1 : ¬ (2 : Int) * (i : Int) + 1 ≥ (n : Int) := by omega
      have a2 : ¬ (2 : Int) * (i : Int) + 1 < 0 := by omega
      have qq1 : (2 : Int) * (i : Int) + 1 = ((2 * i + 1 : Nat) : Int) := by omega
      have qq2 : ((2 * i + 1 : Nat) : Int) + 1 = ((2 * i + 2 : Nat) : Int) := by omega
      have p1 : par (2 * i + 1) = i := by unfold par; omega
      have p2 : par (2 * i + 2) = i := by unfold par; omega
      have m1 := gm_less c F mt I' I.length wr HI.out.hp hl
      by_cases hB : 2 * i + 2 < n
      · by_cases hc : kvOf idN I' (2 * i + 2) < kvOf idN I' (2 * i + 1)
        · generalize hj1 : 2 * i + 1 = j1 at *
          generalize hj2 : 2 * i + 2 = j2 at *
          have cL1 := gLess_hq c F mt I' j2 j1 I.length wr HI.out.hp hl (by omega) (by omega) true (by simpa using hc)
          have hk : (j2 : Int) < (n : Int) := by omega
          have Hj : Hid (2 * i + 1 = j1 ∧ 2 * i + 2 = j2) := ⟨hj1, hj2⟩
          have hb1 : j1 < n := by omega
          have hb2 : i < j1 := by omega
          have hb3 : j2 = j1 + 1 := by omega
          clear hj1 hj2 hb3 hA B0
          by_cases hd : kvOf idN I' j2 < kvOf idN I' i
          · go_wp2_with (first
              | (go_at_call 43; refine cL1.mono ?_; rintro e w1 ⟨rfl, h1, b1⟩; clear cL1 m1; have H1 : Hid (TM w1 c F mt I' ∧ OnC c wr w1) := ⟨h1, b1⟩; clear h1 b1; have m2 := gm_less c F mt I' I.length w1 H1.out.1 hl; have cL2 := gLess_hq c F mt I' j2 i I.length w1 H1.out.1 hl (by omega) (by omega) true (by simpa using hd); refine Stop.out ?_))
            refine Stop.mk ?_
            go_wp2_with (first
              | (go_at_call 43; refine cL2.mono ?_; rintro e w2 ⟨rfl, h2, b2⟩; clear cL2 m2; have H2 : Hid (TM w2 c F mt I' ∧ OnC c wr w2) := ⟨h2, H1.out.2.next b2⟩; clear h2 b2 H1; have m3 := gm_swap c F mt I' I.length w2 H2.out.1 hl; have cS := gSwap_hq c F mt I' i j2 I.length w2 H2.out.1 hl (by omega) (by omega) (by omega))
              | (go_at_call 46; refine cS.mono ?_; rintro e w3 ⟨rfl, h3, b3⟩; clear cS m3; have H3 : Hid (TM w3 c F mt (swapL I' i j2) ∧ OnC c w2 w3) := ⟨h3, b3⟩; clear h3 b3))
            go_roundw
            case rel =>
              obtain ⟨rfl, rfl⟩ := Hj.out
              exact ⟨_, _, rfl, by omega, by omega, by rw [swapL_length]; exact hl, HI.out.step (by omega) hii (by first | exact p1 | exact p2) (by omega) (by omega) hd (fun k k0 kn kp => by rcases par_child kp k0 with rfl | rfl <;> omega) H2.out.2 H3.out.1 H3.out.2⟩
            case measure => simp [intOf]; omega
          · go_wp2_with (first
              | (go_at_call 43; refine cL1.mono ?_; rintro e w1 ⟨rfl, h1, b1⟩; clear cL1 m1; have H1 : Hid (TM w1 c F mt I' ∧ OnC c wr w1) := ⟨h1, b1⟩; clear h1 b1; have m2 := gm_less c F mt I' I.length w1 H1.out.1 hl; have cL2 := gLess_hq c F mt I' j2 i I.length w1 H1.out.1 hl (by omega) (by omega) false (by simpa using hd); refine Stop.out ?_))
            refine Stop.mk ?_
            go_wp2_with (first
              | (go_at_call 43; refine cL2.mono ?_; rintro e w2 ⟨rfl, h2, b2⟩; clear cL2 m2; have H2 : Hid (TM w2 c F mt I' ∧ OnC c wr w2) := ⟨h2, H1.out.2.next b2⟩; clear h2 b2 H1))
            go_ret
            obtain ⟨rfl, rfl⟩ := Hj.out
            exact ⟨I', _, rfl, by
              have := HI.out.stop (fun k k0 kn kp => by rcases par_child kp k0 with rfl | rfl <;> omega) H2.out.1 H2.out.2
              simpa using this⟩
        · generalize hj1 : 2 * i + 1 = j1 at *
          generalize hj2 : 2 * i + 2 = j2 at *
          have cL1 := gLess_hq c F mt I' j2 j1 I.length wr HI.out.hp hl (by omega) (by omega) false (by simpa using hc)
          have hk : (j2 : Int) < (n : Int) := by omega
          have Hj : Hid (2 * i + 1 = j1 ∧ 2 * i + 2 = j2) := ⟨hj1, hj2⟩
          have hb1 : j1 < n := by omega
          have hb2 : i < j1 := by omega
          have hb3 : j2 = j1 + 1 := by omega
          clear hj1 hj2 hb3 hA B0
          by_cases hd : kvOf idN I' j1 < kvOf idN I' i
          · go_wp2_with (first
              | (go_at_call 43; refine cL1.mono ?_; rintro e w1 ⟨rfl, h1, b1⟩; clear cL1 m1; have H1 : Hid (TM w1 c F mt I' ∧ OnC c wr w1) := ⟨h1, b1⟩; clear h1 b1; have m2 := gm_less c F mt I' I.length w1 H1.out.1 hl; have cL2 := gLess_hq c F mt I' j1 i I.length w1 H1.out.1 hl (by omega) (by omega) true (by simpa using hd); refine Stop.out ?_))
            refine Stop.mk ?_
            go_wp2_with (first
              | (go_at_call 43; refine cL2.mono ?_; rintro e w2 ⟨rfl, h2, b2⟩; clear cL2 m2; have H2 : Hid (TM w2 c F mt I' ∧ OnC c wr w2) := ⟨h2, H1.out.2.next b2⟩; clear h2 b2 H1; have m3 := gm_swap c F mt I' I.length w2 H2.out.1 hl; have cS := gSwap_hq c F mt I' i j1 I.length w2 H2.out.1 hl (by omega) (by omega) (by omega))
              | (go_at_call 46; refine cS.mono ?_; rintro e w3 ⟨rfl, h3, b3⟩; clear cS m3; have H3 : Hid (TM w3 c F mt (swapL I' i j1) ∧ OnC c w2 w3) := ⟨h3, b3⟩; clear h3 b3))
            go_roundw
            case rel =>
              obtain ⟨rfl, rfl⟩ := Hj.out
              exact ⟨_, _, rfl, by omega, by omega, by rw [swapL_length]; exact hl, HI.out.step (by omega) hii (by first | exact p1 | exact p2) (by omega) (by omega) hd (fun k k0 kn kp => by rcases par_child kp k0 with rfl | rfl <;> omega) H2.out.2 H3.out.1 H3.out.2⟩
            case measure => simp [intOf]; omega
          · go_wp2_with (first
              | (go_at_call 43; refine cL1.mono ?_; rintro e w1 ⟨rfl, h1, b1⟩; clear cL1 m1; have H1 : Hid (TM w1 c F mt I' ∧ OnC c wr w1) := ⟨h1, b1⟩; clear h1 b1; have m2 := gm_less c F mt I' I.length w1 H1.out.1 hl; have cL2 := gLess_hq c F mt I' j1 i I.length w1 H1.out.1 hl (by omega) (by omega) false (by simpa using hd); refine Stop.out ?_))
            refine Stop.mk ?_
            go_wp2_with (first
              | (go_at_call 43; refine cL2.mono ?_; rintro e w2 ⟨rfl, h2, b2⟩; clear cL2 m2; have H2 : Hid (TM w2 c F mt I' ∧ OnC c wr w2) := ⟨h2, H1.out.2.next b2⟩; clear h2 b2 H1))
            go_ret
            obtain ⟨rfl, rfl⟩ := Hj.out
            exact ⟨I', _, rfl, by
              have := HI.out.stop (fun k k0 kn kp => by rcases par_child kp k0 with rfl | rfl <;> omega) H2.out.1 H2.out.2
              simpa using this⟩
      · generalize hj1 : 2 * i + 1 = j1 at *
        generalize hj2 : 2 * i + 2 = j2 at *
        have H1 : Hid (TM wr c F mt I' ∧ OnC c wr wr) := ⟨HI.out.hp, B0⟩
        have hk : ¬ (j2 : Int) < (n : Int) := by omega
        have Hj : Hid (2 * i + 1 = j1 ∧ 2 * i + 2 = j2) := ⟨hj1, hj2⟩
        have hb1 : j1 < n := by omega
        have hb2 : i < j1 := by omega
        have hb3 : j2 = j1 + 1 := by omega
        clear hj1 hj2 hb3 hA B0
        by_cases hd : kvOf idN I' j1 < kvOf idN I' i
        · have cL2 := gLess_hq c F mt I' j1 i I.length wr H1.out.1 hl (by omega) (by omega) true (by simpa using hd)
          go_wp2_with (first
            | (go_at_call 43; refine cL2.mono ?_; rintro e w2 ⟨rfl, h2, b2⟩; clear cL2 m1; have H2 : Hid (TM w2 c F mt I' ∧ OnC c wr w2) := ⟨h2, H1.out.2.next b2⟩; clear h2 b2 H1; have m3 := gm_swap c F mt I' I.length w2 H2.out.1 hl; have cS := gSwap_hq c F mt I' i j1 I.length w2 H2.out.1 hl (by omega) (by omega) (by omega))
            | (go_at_call 46; refine cS.mono ?_; rintro e w3 ⟨rfl, h3, b3⟩; clear cS m3; have H3 : Hid (TM w3 c F mt (swapL I' i j1) ∧ OnC c w2 w3) := ⟨h3, b3⟩; clear h3 b3))
          go_roundw
          case rel =>
            obtain ⟨rfl, rfl⟩ := Hj.out
            exact ⟨_, _, rfl, by omega, by omega, by rw [swapL_length]; exact hl, HI.out.step (by omega) hii (by first | exact p1 | exact p2) (by omega) (by omega) hd (fun k k0 kn kp => by rcases par_child kp k0 with rfl | rfl <;> omega) H2.out.2 H3.out.1 H3.out.2⟩
          case measure => simp [intOf]; omega
        · have cL2 := gLess_hq c F mt I' j1 i I.length wr H1.out.1 hl (by omega) (by omega) false (by simpa using hd)
          go_wp2_with (first
            | (go_at_call 43; refine cL2.mono ?_; rintro e w2 ⟨rfl, h2, b2⟩; clear cL2 m1; have H2 : Hid (TM w2 c F mt I' ∧ OnC c wr w2) := ⟨h2, H1.out.2.next b2⟩; clear h2 b2 H1))
          go_ret
          obtain ⟨rfl, rfl⟩ := Hj.out
          exact ⟨I', _, rfl, by
            have := HI.out.stop (fun k k0 kn kp => by rcases par_child kp k0 with rfl | rfl <;> omega) H2.out.1 H2.out.2
            simpa using this⟩

end Go.Proofs.Ytmbkheaghiojeaa.Ck
