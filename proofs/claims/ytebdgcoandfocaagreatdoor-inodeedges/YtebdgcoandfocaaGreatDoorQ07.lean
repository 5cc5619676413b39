/-
  What the proof leans on, part 8.
-/
import Derived.Test.YtebdgcoandfocaaGreatDoorQ06
import Derived.Test.YtebdgcoandfocaaGreatDoorQ01

/-
  down of container/heap over package bcache's heap. (Printed by mkdown.py.)
-/
namespace Go.Proofs.YtebdgcoandfocaaGreatDoor
open Go.RowKit Go.Maps

theorem iLess_hp (c : Nat) (ck : CK) (p : Option Addr) (cap : Nat) (I : List Nat) (U : Nat → EV) (i j m : Nat) (w : World) (h : HP w c ck p cap I U) (hm : I.length = m) (hi : i < m) (hj : j < m) (r : Bool) (hr : decide (kvOf (keyU U) I i < kvOf (keyU U) I j) = r) :
    Calls Tryz.prog 177 #[.slice p m cap, .int .i64 i, .int .i64 j] w fun e w' => e = .returned (.bool r) ∧ HP w' c ck p cap I U ∧ But (fun _ => False) w w' := by
  subst hm
  refine (iLess_lt c ck p cap I U i j w h hi hj r hr).mono ?_
  rintro e w' ⟨rfl, q, rfl⟩
  exact ⟨rfl, h.drewN q, ⟨rfl, rfl, rfl, Nat.le_refl _, fun _ _ _ => rfl⟩⟩
theorem iSwap_hp (c : Nat) (ck : CK) (p : Option Addr) (cap : Nat) (I : List Nat) (U : Nat → EV) (i j m : Nat) (w : World) (h : HP w c ck p cap I U) (hm : I.length = m) (hi : i < m) (hj : j < m) (hij : i ≠ j) :
    Calls Tryz.prog 178 #[.slice p m cap, .int .i64 i, .int .i64 j] w fun e w' => e = .returned (.tuple #[]) ∧ HP w' c ck p cap (swapL I i j) U ∧ But (hpMine p I) w w' := by
  subst hm
  exact iSwap_any c ck p cap I U i j w h hi hj hij
theorem meth_less' (c : Nat) (ck : CK) (p : Option Addr) (cap : Nat) (I : List Nat) (U : Nat → EV) (m : Nat) (w : World) (h : HP w c ck p cap I U) (hm : I.length = m) : (method 341 182 (.pointer (some ⟨c, 4, none⟩)) "Less").run Tryz.prog w = .ok (177, .slice p m cap) w := by
  subst hm; exact meth_less c _ w h.cell4
theorem meth_swap' (c : Nat) (ck : CK) (p : Option Addr) (cap : Nat) (I : List Nat) (U : Nat → EV) (m : Nat) (w : World) (h : HP w c ck p cap I U) (hm : I.length = m) : (method 341 182 (.pointer (some ⟨c, 4, none⟩)) "Swap").run Tryz.prog w = .ok (178, .slice p m cap) w := by
  subst hm; exact meth_swap c _ w h.cell4
theorem meth_len' (c : Nat) (ck : CK) (p : Option Addr) (cap : Nat) (I : List Nat) (U : Nat → EV) (m : Nat) (w : World) (h : HP w c ck p cap I U) (hm : I.length = m) : (method 341 182 (.pointer (some ⟨c, 4, none⟩)) "Len").run Tryz.prog w = .ok (176, .slice p m cap) w := by
  subst hm; exact meth_len c _ w h.cell4

/-- What down's loop keeps. -/
structure DnI (w0 wr : World) (c : Nat) (ck : CK) (p : Option Addr) (cap : Nat) (I I' : List Nat) (U : Nat → EV) (n i0 i : Nat) : Prop where
  hp : HP wr c ck p cap I' U
  fix : FixOk (kvOf (keyU U) I') n i
  perm : I'.Perm I
  far : ∀ k, n ≤ k → I'.getD k 0 = I.getD k 0
  but : But (hpMine p I) w0 wr
  way : i = i0 ∨ (i0 < i ∧ kvOf (keyU U) I' (par i) ≤ kvOf (keyU U) I' i)
theorem DnI.step {w0 wr w1 w2 : World} {c : Nat} {ck : CK} {p : Option Addr} {cap : Nat} {I I' : List Nat} {U : Nat → EV} {n i0 i j : Nat} (h : DnI w0 wr c ck p cap I I' U n i0 i) (hn : n ≤ I'.length) (hi0 : i0 ≤ i) (hj : par j = i) (hj0 : 0 < j) (hjn : j < n)
    (hlt : kvOf (keyU U) I' j < kvOf (keyU U) I' i) (hmin : ∀ k, 0 < k → k < n → par k = i → kvOf (keyU U) I' j ≤ kvOf (keyU U) I' k) (hb1 : But (fun _ => False) wr w1) (h2 : HP w2 c ck p cap (swapL I' i j) U) (hb2 : But (hpMine p I') w1 w2) : DnI w0 w2 c ck p cap I (swapL I' i j) U n i0 j := by
  have hp := par_lt hj0
  obtain ⟨f1, f2⟩ := h.fix.step hj hj0 hjn hlt hmin
  have e := kvOf_swap (keyU U) I' i j (by omega) (by omega)
  refine ⟨h2, by rw [e]; exact f1, (swapL_perm I' i j (by omega) (by omega)).trans h.perm, fun k hk => ?_, h.but.trans ((hb1.mono fun _ _ h => h.elim).trans (hb2.mono fun k _ hk => ?_)), .inr ⟨by omega, by rw [e]; exact f2⟩⟩
  · rw [swapL_getD I' _ _ k (by omega) (by omega), if_neg (by omega), if_neg (by omega)]
    exact h.far k hk
  · rcases hk with hk | hk
    · exact .inl hk
    · exact .inr (h.perm.mem_iff.1 hk)
/-- What down answers. -/
structure DnE (w0 w' : World) (c : Nat) (ck : CK) (p : Option Addr) (cap : Nat) (I I' : List Nat) (U : Nat → EV) (n i0 : Nat) (r : Bool) : Prop where
  hp : HP w' c ck p cap I' U
  perm : I'.Perm I
  far : ∀ k, n ≤ k → I'.getD k 0 = I.getD k 0
  but : But (hpMine p I) w0 w'
  yes : r = true → HeapF (kvOf (keyU U) I') n
  no : r = false → UpOk (kvOf (keyU U) I') n i0
theorem DnI.stop {w0 wr w1 : World} {c : Nat} {ck : CK} {p : Option Addr} {cap : Nat} {I I' : List Nat} {U : Nat → EV} {n i0 i : Nat} (h : DnI w0 wr c ck p cap I I' U n i0 i) (hmin : ∀ k, 0 < k → k < n → par k = i → kvOf (keyU U) I' i ≤ kvOf (keyU U) I' k) (h1 : HP w1 c ck p cap I' U) (hb1 : But (fun _ => False) wr w1) :
    DnE w0 w1 c ck p cap I I' U n i0 (decide (i > i0)) := by
  have hu := h.fix.stay hmin
  refine ⟨h1, h.perm, h.far, h.but.trans (hb1.mono fun _ _ h => h.elim), fun hr => ?_, fun hr => ?_⟩
  · have : i0 < i := by simpa using hr
    rcases h.way with e | ⟨_, e⟩
    · omega
    · exact hu.done (.inr e)
  · have : ¬ i0 < i := by simpa using hr
    rcases h.way with e | ⟨e, _⟩
    · subst e; exact hu
    · omega

set_option maxRecDepth 8000 in
set_option maxHeartbeats 4000000 in
theorem hDown_any (c : Nat) (ck : CK) (p : Option Addr) (cap : Nat) (I : List Nat) (U : Nat → EV) (n i0 : Nat) (w : World) (h : HP w c ck p cap I U) (hn : n ≤ I.length) (hi0 : i0 < n) (hf : FixOk (kvOf (keyU U) I) n i0) :
    Calls Tryz.prog 139 #[hI c, .int .i64 i0, .int .i64 n] w fun e w' => ∃ I' r, e = .returned (.bool r) ∧ DnE w w' c ck p cap I I' U n i0 r := by
  have hlen := h.len
  have HJ : Hid (DnI w w c ck p cap I I U n i0 i0) := ⟨h, hf, List.Perm.refl _, fun _ _ => rfl, But.refl _ _, .inl rfl⟩
  clear h hf
  go_enter Tryz.func139, Tryz.ntmps139
  go_wp2_with fail
  go_loopw [7] (fun ii wr => ∃ (i : Nat) (I' : List Nat), ii = .int .i64 i ∧ i0 ≤ i ∧ i < n ∧ I'.length = I.length ∧ Hid (DnI w wr c ck p cap I I' U n i0 i)) (fun ii _ => n - (intOf ii).toNat)
  case atStart => exact ⟨i0, I, rfl, Nat.le_refl _, hi0, rfl, HJ⟩
  case round =>
    clear HJ
    obtain ⟨i, I', rfl, hii, hin, hl, HI⟩ := hrel
    have B0 : But (fun _ => False) wr wr := But.refl _ _
    by_cases hA : n ≤ 2 * i + 1
    · have hAI : (2 : Int) * (i : Int) + 1 ≥ (n : Int) := by omega
      go_wp2_with fail
      go_ret
      exact ⟨I', _, rfl, by
        have := HI.out.stop (fun k k0 kn kp => by rcases par_child kp k0 with e | e <;> omega) HI.out.hp B0
        simpa using this⟩
    · have a1 : ¬ (2 : Int) * (i : Int) + 1 ≥ (n : Int) := by omega
      have a2 : ¬ (2 : Int) * (i : Int) + 1 < 0 := by omega
      have q1 : (2 : Int) * (i : Int) + 1 = ((2 * i + 1 : Nat) : Int) := by omega
      have q2 : ((2 * i + 1 : Nat) : Int) + 1 = ((2 * i + 2 : Nat) : Int) := by omega
      have p1 : par (2 * i + 1) = i := by unfold par; omega
      have p2 : par (2 * i + 2) = i := by unfold par; omega
      have m1 := meth_less' c ck p cap I' U I.length wr HI.out.hp hl
      by_cases hB : 2 * i + 2 < n
      · by_cases hc : kvOf (keyU U) I' (2 * i + 2) < kvOf (keyU U) I' (2 * i + 1)
        · generalize hj1 : 2 * i + 1 = j1 at *
          generalize hj2 : 2 * i + 2 = j2 at *
          have cL1 := iLess_hp c ck p cap I' U j2 j1 I.length wr HI.out.hp hl (by omega) (by omega) true (by simpa using hc)
          have hk : (j2 : Int) < (n : Int) := by omega
          have Hj : Hid (2 * i + 1 = j1 ∧ 2 * i + 2 = j2) := ⟨hj1, hj2⟩
          have hb1 : j1 < n := by omega
          have hb2 : i < j1 := by omega
          have hb3 : j2 = j1 + 1 := by omega
          clear hj1 hj2 hb3 hA B0
          by_cases hd : kvOf (keyU U) I' j2 < kvOf (keyU U) I' i
          · go_wp2_with (first
              | (go_at_call 177; refine cL1.mono ?_; rintro e w1 ⟨rfl, h1, b1⟩; clear cL1 m1; have H1 : Hid (HP w1 c ck p cap I' U ∧ But (fun _ => False) wr w1) := ⟨h1, b1⟩; clear h1 b1; have m2 := meth_less' c ck p cap I' U I.length w1 H1.out.1 hl; have cL2 := iLess_hp c ck p cap I' U j2 i I.length w1 H1.out.1 hl (by omega) (by omega) true (by simpa using hd))
              | (go_at_call 177; refine cL2.mono ?_; rintro e w2 ⟨rfl, h2, b2⟩; clear cL2 m2; have H2 : Hid (HP w2 c ck p cap I' U ∧ But (fun _ => False) wr w2) := ⟨h2, H1.out.2.trans b2⟩; clear h2 b2 H1; have m3 := meth_swap' c ck p cap I' U I.length w2 H2.out.1 hl; have cS := iSwap_hp c ck p cap I' U i j2 I.length w2 H2.out.1 hl (by omega) (by omega) (by omega))
              | (go_at_call 178; refine cS.mono ?_; rintro e w3 ⟨rfl, h3, b3⟩; clear cS m3; have H3 : Hid (HP w3 c ck p cap (swapL I' i j2) U ∧ But (hpMine p I') w2 w3) := ⟨h3, b3⟩; clear h3 b3))
            go_roundw
            case rel =>
              obtain ⟨rfl, rfl⟩ := Hj.out
              exact ⟨_, _, rfl, by omega, by omega, by rw [swapL_length]; exact hl, HI.out.step (by omega) hii (by first | exact p1 | exact p2) (by omega) (by omega) hd (fun k k0 kn kp => by rcases par_child kp k0 with rfl | rfl <;> omega) H2.out.2 H3.out.1 H3.out.2⟩
            case measure => simp [intOf]; omega
          · go_wp2_with (first
              | (go_at_call 177; refine cL1.mono ?_; rintro e w1 ⟨rfl, h1, b1⟩; clear cL1 m1; have H1 : Hid (HP w1 c ck p cap I' U ∧ But (fun _ => False) wr w1) := ⟨h1, b1⟩; clear h1 b1; have m2 := meth_less' c ck p cap I' U I.length w1 H1.out.1 hl; have cL2 := iLess_hp c ck p cap I' U j2 i I.length w1 H1.out.1 hl (by omega) (by omega) false (by simpa using hd))
              | (go_at_call 177; refine cL2.mono ?_; rintro e w2 ⟨rfl, h2, b2⟩; clear cL2 m2; have H2 : Hid (HP w2 c ck p cap I' U ∧ But (fun _ => False) wr w2) := ⟨h2, H1.out.2.trans b2⟩; clear h2 b2 H1))
            go_ret
            obtain ⟨rfl, rfl⟩ := Hj.out
            exact ⟨I', _, rfl, by
              have := HI.out.stop (fun k k0 kn kp => by rcases par_child kp k0 with rfl | rfl <;> omega) H2.out.1 H2.out.2
              simpa using this⟩
        · generalize hj1 : 2 * i + 1 = j1 at *
          generalize hj2 : 2 * i + 2 = j2 at *
          have cL1 := iLess_hp c ck p cap I' U j2 j1 I.length wr HI.out.hp hl (by omega) (by omega) false (by simpa using hc)
          have hk : (j2 : Int) < (n : Int) := by omega
          have Hj : Hid (2 * i + 1 = j1 ∧ 2 * i + 2 = j2) := ⟨hj1, hj2⟩
          have hb1 : j1 < n := by omega
          have hb2 : i < j1 := by omega
          have hb3 : j2 = j1 + 1 := by omega
          clear hj1 hj2 hb3 hA B0
          by_cases hd : kvOf (keyU U) I' j1 < kvOf (keyU U) I' i
          · go_wp2_with (first
              | (go_at_call 177; refine cL1.mono ?_; rintro e w1 ⟨rfl, h1, b1⟩; clear cL1 m1; have H1 : Hid (HP w1 c ck p cap I' U ∧ But (fun _ => False) wr w1) := ⟨h1, b1⟩; clear h1 b1; have m2 := meth_less' c ck p cap I' U I.length w1 H1.out.1 hl; have cL2 := iLess_hp c ck p cap I' U j1 i I.length w1 H1.out.1 hl (by omega) (by omega) true (by simpa using hd))
              | (go_at_call 177; refine cL2.mono ?_; rintro e w2 ⟨rfl, h2, b2⟩; clear cL2 m2; have H2 : Hid (HP w2 c ck p cap I' U ∧ But (fun _ => False) wr w2) := ⟨h2, H1.out.2.trans b2⟩; clear h2 b2 H1; have m3 := meth_swap' c ck p cap I' U I.length w2 H2.out.1 hl; have cS := iSwap_hp c ck p cap I' U i j1 I.length w2 H2.out.1 hl (by omega) (by omega) (by omega))
              | (go_at_call 178; refine cS.mono ?_; rintro e w3 ⟨rfl, h3, b3⟩; clear cS m3; have H3 : Hid (HP w3 c ck p cap (swapL I' i j1) U ∧ But (hpMine p I') w2 w3) := ⟨h3, b3⟩; clear h3 b3))
            go_roundw
            case rel =>
              obtain ⟨rfl, rfl⟩ := Hj.out
              exact ⟨_, _, rfl, by omega, by omega, by rw [swapL_length]; exact hl, HI.out.step (by omega) hii (by first | exact p1 | exact p2) (by omega) (by omega) hd (fun k k0 kn kp => by rcases par_child kp k0 with rfl | rfl <;> omega) H2.out.2 H3.out.1 H3.out.2⟩
            case measure => simp [intOf]; omega
          · go_wp2_with (first
              | (go_at_call 177; refine cL1.mono ?_; rintro e w1 ⟨rfl, h1, b1⟩; clear cL1 m1; have H1 : Hid (HP w1 c ck p cap I' U ∧ But (fun _ => False) wr w1) := ⟨h1, b1⟩; clear h1 b1; have m2 := meth_less' c ck p cap I' U I.length w1 H1.out.1 hl; have cL2 := iLess_hp c ck p cap I' U j1 i I.length w1 H1.out.1 hl (by omega) (by omega) false (by simpa using hd))
              | (go_at_call 177; refine cL2.mono ?_; rintro e w2 ⟨rfl, h2, b2⟩; clear cL2 m2; have H2 : Hid (HP w2 c ck p cap I' U ∧ But (fun _ => False) wr w2) := ⟨h2, H1.out.2.trans b2⟩; clear h2 b2 H1))
            go_ret
            obtain ⟨rfl, rfl⟩ := Hj.out
            exact ⟨I', _, rfl, by
              have := HI.out.stop (fun k k0 kn kp => by rcases par_child kp k0 with rfl | rfl <;> omega) H2.out.1 H2.out.2
              simpa using this⟩
      · generalize hj1 : 2 * i + 1 = j1 at *
        generalize hj2 : 2 * i + 2 = j2 at *
        have H1 : Hid (HP wr c ck p cap I' U ∧ But (fun _ => False) wr wr) := ⟨HI.out.hp, B0⟩
        have hk : ¬ (j2 : Int) < (n : Int) := by omega
        have Hj : Hid (2 * i + 1 = j1 ∧ 2 * i + 2 = j2) := ⟨hj1, hj2⟩
        have hb1 : j1 < n := by omega
        have hb2 : i < j1 := by omega
        have hb3 : j2 = j1 + 1 := by omega
        clear hj1 hj2 hb3 hA B0
        by_cases hd : kvOf (keyU U) I' j1 < kvOf (keyU U) I' i
        · have cL2 := iLess_hp c ck p cap I' U j1 i I.length wr H1.out.1 hl (by omega) (by omega) true (by simpa using hd)
          go_wp2_with (first
            | (go_at_call 177; refine cL2.mono ?_; rintro e w2 ⟨rfl, h2, b2⟩; clear cL2 m1; have H2 : Hid (HP w2 c ck p cap I' U ∧ But (fun _ => False) wr w2) := ⟨h2, H1.out.2.trans b2⟩; clear h2 b2 H1; have m3 := meth_swap' c ck p cap I' U I.length w2 H2.out.1 hl; have cS := iSwap_hp c ck p cap I' U i j1 I.length w2 H2.out.1 hl (by omega) (by omega) (by omega))
            | (go_at_call 178; refine cS.mono ?_; rintro e w3 ⟨rfl, h3, b3⟩; clear cS m3; have H3 : Hid (HP w3 c ck p cap (swapL I' i j1) U ∧ But (hpMine p I') w2 w3) := ⟨h3, b3⟩; clear h3 b3))
          go_roundw
          case rel =>
            obtain ⟨rfl, rfl⟩ := Hj.out
            exact ⟨_, _, rfl, by omega, by omega, by rw [swapL_length]; exact hl, HI.out.step (by omega) hii (by first | exact p1 | exact p2) (by omega) (by omega) hd (fun k k0 kn kp => by rcases par_child kp k0 with rfl | rfl <;> omega) H2.out.2 H3.out.1 H3.out.2⟩
          case measure => simp [intOf]; omega
        · have cL2 := iLess_hp c ck p cap I' U j1 i I.length wr H1.out.1 hl (by omega) (by omega) false (by simpa using hd)
          go_wp2_with (first
            | (go_at_call 177; refine cL2.mono ?_; rintro e w2 ⟨rfl, h2, b2⟩; clear cL2 m1; have H2 : Hid (HP w2 c ck p cap I' U ∧ But (fun _ => False) wr w2) := ⟨h2, H1.out.2.trans b2⟩; clear h2 b2 H1))
          go_ret
          obtain ⟨rfl, rfl⟩ := Hj.out
          exact ⟨I', _, rfl, by
            have := HI.out.stop (fun k k0 kn kp => by rcases par_child kp k0 with rfl | rfl <;> omega) H2.out.1 H2.out.2
            simpa using this⟩

end Go.Proofs.YtebdgcoandfocaaGreatDoor

/-
  Fix, Push and Remove of container/heap over package bcache's heap.
-/
namespace Go.Proofs.YtebdgcoandfocaaGreatDoor
open Go.RowKit Go.Maps

theorem But.after {S T : Nat → Prop} {a b c : World} (h : But S a b) (k : But T b c) (hs : ∀ i, i < a.heap.size → T i → S i) : But S a c :=
  ⟨k.os.trans h.os, k.tape.trans h.tape, k.output.trans h.output, Nat.le_trans h.size k.size, fun i hi hn => (k.block i (Nat.lt_of_lt_of_le hi h.size) (fun ht => hn (hs i hi ht))).trans (h.block i hi hn)⟩
theorem FixOk.cut {f g : Nat → Nat} {m n i : Nat} (h : FixOk f m i) (hnm : n ≤ m) (hg : ∀ k, k < n → k ≠ i → g k = f k) : FixOk g n i := by
  refine ⟨fun k k0 kn ki kp => ?_, fun k k0 kn kp i0 => ?_⟩
  · have hk := par_lt k0
    rw [hg k kn ki, hg (par k) (by omega) kp]; exact h.1 k k0 (by omega) ki kp
  · have hk := par_lt k0
    have hp := par_lt i0
    rw [hg k kn (by omega), hg (par i) (by omega) (by omega)]
    exact h.2 k k0 (by omega) kp i0
theorem FixOk.last {f g : Nat → Nat} {n : Nat} (h : FixOk f (n + 1) n) (hg : ∀ k, k < n → g k = f k) : HeapF g n := by
  intro k k0 kn
  have hk := par_lt k0
  rw [hg k kn, hg (par k) (by omega)]
  exact h.1 k k0 (by omega) (by omega) (by omega)
theorem HeapF.toFix {f : Nat → Nat} {n i : Nat} (h : HeapF f n) (hi : i < n) : FixOk f n i := h.fix (Nat.le_refl _) hi fun _ _ _ => rfl
theorem snoc_of {I : List Nat} {n a : Nat} (hl : I.length = n + 1) (ha : I.getD n 0 = a) : ∃ J, I = J ++ [a] ∧ J.length = n := by
  refine ⟨I.take n, ?_, by simp; omega⟩
  have h1 : I.take (n + 1) = I := List.take_of_length_le (by omega)
  have h2 := List.take_succ_eq_append_getElem (l := I) (i := n) (by omega)
  have h3 : I[n]'(by omega) = a := by rw [← ha]; simp [List.getD, hl]
  rw [h1, h3] at h2
  exact h2

set_option maxRecDepth 8000 in
set_option maxHeartbeats 1000000 in
theorem hFix_any (c : Nat) (ck : CK) (p : Option Addr) (cap : Nat) (I : List Nat) (U : Nat → EV) (i : Nat) (w : World) (h : HP w c ck p cap I U) (hi : i < I.length) (hf : FixOk (kvOf (keyU U) I) I.length i) :
    Calls Tryz.prog 125 #[hI c, .int .i64 i] w fun e w' => e = .returned (.tuple #[]) ∧ ∃ I', HP w' c ck p cap I' U ∧ I'.Perm I ∧ HeapF (kvOf (keyU U) I') I'.length ∧ But (hpMine p I) w w' := by
  have m0 := meth_len' c ck p cap I U I.length w h rfl
  have cD := hDown_any c ck p cap I U I.length i w h (Nat.le_refl _) hi hf
  clear h hf
  go_enter Tryz.func125, Tryz.ntmps125
  go_wp2_with (first
    | (go_at_call 176; refine Calls_on (iLen_any _ _ _ _) ?_)
    | (go_at_call 139; refine cD.mono ?_; rintro e w1 ⟨I1, r, rfl, h1⟩; clear cD m0; refine Stop.out ?_))
  refine Stop.mk ?_
  have hl1 : I1.length = I.length := h1.perm.length_eq
  cases r
  · have cU := hUp_any c ck p cap I1 U I.length i w1 h1.hp (by omega) hi (h1.no rfl)
    have H1 : Hid (DnE w w1 c ck p cap I I1 U I.length i false) := h1
    clear h1
    go_wp2_with (go_at_call 140; refine cU.mono ?_; rintro e w2 ⟨rfl, I2, h2, hp2, hh2, _, hb2⟩; clear cU; have H2 : Hid (HP w2 c ck p cap I2 U ∧ I2.Perm I1 ∧ HeapF (kvOf (keyU U) I2) I.length ∧ But (hpMine p I1) w1 w2) := ⟨h2, hp2, hh2, hb2⟩; clear h2 hp2 hh2 hb2)
    go_end0
    obtain ⟨h2, hp2, hh2, hb2⟩ := H2.out
    have hl2 : I2.length = I.length := hp2.length_eq.trans hl1
    refine ⟨rfl, I2, h2, hp2.trans H1.out.perm, by rw [hl2]; exact hh2, H1.out.but.trans (hb2.mono fun k _ hk => ?_)⟩
    rcases hk with hk | hk
    · exact .inl hk
    · exact .inr (H1.out.perm.mem_iff.1 hk)
  · have H1 : Hid (DnE w w1 c ck p cap I I1 U I.length i true) := h1
    clear h1
    go_wp2_with fail
    go_end0
    exact ⟨rfl, I1, H1.out.hp, H1.out.perm, by rw [hl1]; exact H1.out.yes rfl, H1.out.but⟩

set_option maxRecDepth 8000 in
set_option maxHeartbeats 1000000 in
theorem hPush_any (c : Nat) (ck : CK) (p : Option Addr) (cap a : Nat) (I : List Nat) (U : Nat → EV) (x : Int) (w : World) (h : HP w c ck p cap I U) (ha : IsEnt w a (U a) x) (hna : a ∉ I) (hl1 : I.length + 1 < 1000000) (hh : HeapF (kvOf (keyU U) I) I.length) :
    Calls Tryz.prog 126 #[hI c, .iface 148 (ep a)] w fun e w' => e = .returned (.tuple #[]) ∧ ∃ p' cap' I', HP w' c ck p' cap' I' U ∧ I'.Perm (I ++ [a]) ∧ HeapF (kvOf (keyU U) I') I'.length ∧ But (fun k => k = c ∨ k = a ∨ hpMine p I k) w w' ∧ ∀ k, k < w.heap.size → p'.map Addr.block = some k → p.map Addr.block = some k := by
  have m0 := meth_push c w
  have cP := iPush_any c ck p cap a I U x w h ha hna hl1
  have hl : (I ++ [a]).length = I.length + 1 := by simp
  clear h ha
  go_enter Tryz.func126, Tryz.ntmps126
  go_wp2_with (go_at_call 180; refine cP.mono ?_; rintro e w1 ⟨rfl, p', cap', h1, b1, hp1⟩; clear cP m0; refine Stop.out ?_)
  refine Stop.mk ?_
  have m1 := meth_len' c ck p' cap' (I ++ [a]) U (I.length + 1) w1 h1 hl
  have cU := hUp_any c ck p' cap' (I ++ [a]) U (I.length + 1) I.length w1 h1 (by omega) (by omega) (hh.push fun k hk => by unfold kvOf; simp [List.getD, List.getElem?_append_left hk])
  have H1 : Hid (But (fun k => k = c ∨ k = a ∨ hpMine p I k) w w1 ∧ ∀ k, k < w.heap.size → p'.map Addr.block = some k → p.map Addr.block = some k) := ⟨b1, hp1⟩
  have e1 : ((I.length + 1 : Nat) : Int) - 1 = (I.length : Int) := by omega
  clear h1 b1 hp1 hh hl
  go_wp2_with (first
    | (go_at_call 176; refine Calls_on (iLen_any _ _ _ _) ?_)
    | (go_at_call 140; refine cU.mono ?_; rintro e w2 ⟨rfl, I2, h2, hp2, hh2, _, hb2⟩; clear cU m1; have H2 : Hid (HP w2 c ck p' cap' I2 U ∧ I2.Perm (I ++ [a]) ∧ HeapF (kvOf (keyU U) I2) (I.length + 1) ∧ But (hpMine p' (I ++ [a])) w1 w2) := ⟨h2, hp2, hh2, hb2⟩; clear h2 hp2 hh2 hb2))
  go_end0
  obtain ⟨h2, hp2, hh2, hb2⟩ := H2.out
  have hl2 : I2.length = I.length + 1 := hp2.length_eq.trans (by simp)
  refine ⟨rfl, p', cap', I2, h2, hp2, by rw [hl2]; exact hh2, H1.out.1.after hb2 (fun k hk ht => ?_), H1.out.2⟩
  rcases ht with ht | ht
  · exact .inr (.inr (.inl (H1.out.2 k hk ht)))
  · rcases List.mem_append.1 ht with ht | ht
    · exact .inr (.inr (.inr ht))
    · exact .inr (.inl (List.mem_singleton.1 ht))

set_option maxRecDepth 8000 in
set_option maxHeartbeats 2000000 in
theorem hRemove_any (c : Nat) (ck : CK) (p : Option Addr) (cap : Nat) (I : List Nat) (U : Nat → EV) (i a : Nat) (w : World) (h : HP w c ck p cap I U) (hi : i < I.length) (ha : I.getD i 0 = a) (hf : FixOk (kvOf (keyU U) I) I.length i) :
    Calls Tryz.prog 127 #[hI c, .int .i64 i] w fun e w' => e = .returned (.iface 148 (ep a)) ∧ ∃ I', HP w' c ck p cap I' U ∧ (I' ++ [a]).Perm I ∧ HeapF (kvOf (keyU U) I') I'.length ∧ IsEnt w' a (U a) (-1) ∧ But (fun k => k = c ∨ hpMine p I k) w w' := by
  obtain ⟨n, hn⟩ : ∃ n, I.length = n + 1 := ⟨I.length - 1, by omega⟩
  have m0 := meth_len' c ck p cap I U (n + 1) w h hn
  have hlen := h.len
  have e1 : ((n + 1 : Nat) : Int) - 1 = (n : Int) := by omega
  by_cases hin : i = n
  · subst hin
    obtain ⟨J, rfl, hJ⟩ := snoc_of hn ha
    have e2 : ((i : Int) != (i : Int)) = false := by simp
    have mP := meth_pop c w
    have cP := iPop_any c ck p cap a J U w h
    have hh : HeapF (kvOf (keyU U) J) J.length := by
      rw [hn] at hf
      rw [hJ]
      exact hf.last fun k hk => by unfold kvOf; simp [List.getD, List.getElem?_append_left (show k < J.length by omega)]
    clear h hf hn ha
    go_enter Tryz.func127, Tryz.ntmps127
    go_wp2_with (first
      | (go_at_call 176; refine Calls_on (iLen_any _ _ _ _) ?_)
      | (go_at_call 179; refine cP.mono ?_; rintro e w1 ⟨rfl, h1, hE1, b1⟩; clear cP m0))
    go_ret
    exact ⟨rfl, J, h1, List.Perm.refl _, hh, hE1, b1⟩
  · have hlt : i < n := by omega
    have e2 : ((n : Int) != (i : Int)) = true := by rw [bne_iff_ne]; omega
    have m1 := meth_swap' c ck p cap I U (n + 1) w h hn
    have cS := iSwap_hp c ck p cap I U i n (n + 1) w h hn (by omega) (by omega) hin
    have hI1 : i < I.length := hi
    have hI2 : n < I.length := by omega
    have hf2 : FixOk (kvOf (keyU U) (swapL I i n)) n i := by
      rw [hn] at hf
      refine hf.cut (by omega) fun k hk hki => ?_
      rw [kvOf_swap _ _ _ _ hI1 hI2, swF_o _ _ _ _ hki (by omega)]
    have hlast : (swapL I i n).getD n 0 = a := by rw [swapL_getD I i n n hI1 hI2, if_pos rfl]; exact ha
    have hperm := swapL_perm I i n hI1 hI2
    have hl2 : (swapL I i n).length = n + 1 := by rw [swapL_length]; exact hn
    generalize swapL I i n = I1 at *
    have HA : Hid (FixOk (kvOf (keyU U) I1) n i ∧ I1.getD n 0 = a ∧ I1.Perm I) := ⟨hf2, hlast, hperm⟩
    have mine1 : Hid (∀ k, hpMine p I1 k → hpMine p I k) := fun k hk => by
      rcases hk with hk | hk
      · exact .inl hk
      · exact .inr (hperm.mem_iff.1 hk)
    clear h hf hf2 hlast hperm hI1 hI2 ha hi
    go_enter Tryz.func127, Tryz.ntmps127
    go_wp2_with (first
      | (go_at_call 176; refine Calls_on (iLen_any _ _ _ _) ?_)
      | (go_at_call 178; refine cS.mono ?_; rintro e w1 ⟨rfl, h1, b1⟩; clear cS m0 m1; have cD := hDown_any c ck p cap I1 U n i w1 h1 (by omega) hlt HA.out.1; have H1 : Hid (But (hpMine p I) w w1) := b1; clear h1 b1)
      | (go_at_call 139; refine cD.mono ?_; rintro e w2 ⟨I2, r, rfl, h2⟩; clear cD; refine Stop.out ?_))
    refine Stop.mk ?_
    have hl3 : I2.length = n + 1 := h2.perm.length_eq.trans hl2
    have hlast2 : I2.getD n 0 = a := (h2.far n (Nat.le_refl _)).trans HA.out.2.1
    cases r
    · have cU := hUp_any c ck p cap I2 U n i w2 h2.hp (by omega) hlt (h2.no rfl)
      have H2 : Hid (DnE w1 w2 c ck p cap I1 I2 U n i false ∧ I2.getD n 0 = a) := ⟨h2, hlast2⟩
      clear h2 hlast2
      go_wp2_with (first
        | (go_at_call 140; refine cU.mono ?_; rintro e w3 ⟨rfl, I3, h3, hp3, hh3, hf3, hb3⟩; clear cU; refine Stop.out ?_))
      refine Stop.mk ?_
      have hl4 : I3.length = n + 1 := hp3.length_eq.trans hl3
      obtain ⟨J, rfl, hJ⟩ := snoc_of hl4 ((hf3 n (Nat.le_refl _)).trans H2.out.2)
      have mP := meth_pop c w3
      have cP := iPop_any c ck p cap a J U w3 h3
      have hh : HeapF (kvOf (keyU U) J) J.length := by
        rw [hJ]
        exact hh3.less (Nat.le_refl _) fun k hk => by unfold kvOf; simp [List.getD, List.getElem?_append_left (show k < J.length by omega)]
      have H3 : Hid ((J ++ [a]).Perm I2 ∧ HeapF (kvOf (keyU U) J) J.length ∧ But (hpMine p I2) w2 w3) := ⟨hp3, hh, hb3⟩
      clear h3 hp3 hh3 hf3 hb3 hh
      go_wp2_with (go_at_call 179; refine cP.mono ?_; rintro e w4 ⟨rfl, h4, hE4, b4⟩; clear cP mP)
      go_ret
      obtain ⟨q1, q2, q3⟩ := H3.out
      have pm : (J ++ [a]).Perm I := q1.trans (H2.out.1.perm.trans HA.out.2.2)
      refine ⟨rfl, J, h4, pm, q2, hE4, ?_⟩
      have mono : ∀ {L : List Nat}, L.Perm I → ∀ k, hpMine p L k → hpMine p I k := fun hL k hk => by
        rcases hk with hk | hk
        · exact .inl hk
        · exact .inr (hL.mem_iff.1 hk)
      refine ((((H1.out.mono fun k _ hk => .inr hk).trans (H2.out.1.but.mono fun k _ hk => .inr (mono HA.out.2.2 k hk))).trans (q3.mono fun k _ hk => .inr (mono (H2.out.1.perm.trans HA.out.2.2) k hk))).trans (b4.mono fun k _ hk => ?_))
      rcases hk with hk | hk
      · exact .inl hk
      · exact .inr (mono pm k hk)
    · obtain ⟨J, rfl, hJ⟩ := snoc_of hl3 hlast2
      have mP := meth_pop c w2
      have cP := iPop_any c ck p cap a J U w2 h2.hp
      have hh : HeapF (kvOf (keyU U) J) J.length := by
        rw [hJ]
        exact (h2.yes rfl).less (Nat.le_refl _) fun k hk => by unfold kvOf; simp [List.getD, List.getElem?_append_left (show k < J.length by omega)]
      have H2 : Hid (DnE w1 w2 c ck p cap I1 (J ++ [a]) U n i true ∧ HeapF (kvOf (keyU U) J) J.length) := ⟨h2, hh⟩
      clear h2 hlast2 hh
      go_wp2_with (go_at_call 179; refine cP.mono ?_; rintro e w4 ⟨rfl, h4, hE4, b4⟩; clear cP mP)
      go_ret
      have pm : (J ++ [a]).Perm I := H2.out.1.perm.trans HA.out.2.2
      refine ⟨rfl, J, h4, pm, H2.out.2, hE4, ?_⟩
      have mono : ∀ {L : List Nat}, L.Perm I → ∀ k, hpMine p L k → hpMine p I k := fun hL k hk => by
        rcases hk with hk | hk
        · exact .inl hk
        · exact .inr (hL.mem_iff.1 hk)
      refine (((H1.out.mono fun k _ hk => .inr hk).trans (H2.out.1.but.mono fun k _ hk => .inr (mono HA.out.2.2 k hk))).trans (b4.mono fun k _ hk => ?_))
      rcases hk with hk | hk
      · exact .inl hk
      · exact .inr (mono pm k hk)

end Go.Proofs.YtebdgcoandfocaaGreatDoor

/-
  A cache of package bcache in memory: its struct, its map, its entries, its rows.
-/
namespace Go.Proofs.YtebdgcoandfocaaGreatDoor
open Go.RowKit Go.Maps

theorem key_i64Z {x : Int} (h1 : -9223372036854775808 ≤ x) (h2 : x < 9223372036854775808) : keyOf Tryz.prog 3 (.int .i64 x) = some (.int .i64 x) :=
  keyOf_int_mk Tryz.underlying3 (WalkArith.wf_i64 ⟨by omega, by omega⟩)
theorem Tryz.zero148 (w : World) : (zeroValue 148).run Tryz.prog w = .ok (.pointer none) w := by kernel_rfl
theorem litK {i : Nat} (h : i < 1000000) : WideAt.IsKeyLit (Lit.int .i64 (i : Int)) := keyed.key (key_i64 (by omega))

theorem ptrD_inj {p q : Option Addr} (h : ptrD p = ptrD q) : p = q :=
  congrArg (fun d : DataW Value => match d with | .held (.pointer p) => p | _ => none) h
theorem lit_inj {x y : Int} (h : Lit.int .i64 x = Lit.int .i64 y) : x = y := by cases h; rfl
theorem but_turned {w w' : World} {h : Nat} (ht : w.mapTurned w' h) : But (fun k => k = h) w w' :=
  But.of_grown ht.grown (fun _ e => (Option.some.inj e).symm)

/-- The map of the entries that are held. -/
structure HM (w : World) (h nh : Nat) (F : DataW Value) (A : List Nat) (blk : Nat → Nat) : Prop where
  own : w.ownsMap Tryz.prog 3 ptrElem h nh F
  has : ∀ x : Int, Maps.has F (.int .i64 x) = true ↔ ∃ a ∈ A, (blk a : Int) = x
  val : ∀ a ∈ A, F.atKey (.int .i64 (blk a)) (ptrD none) = ptrD (some ⟨a, 0, none⟩)
  inj : ∀ a ∈ A, ∀ b ∈ A, blk a = blk b → a = b
  nodup : A.Nodup
  small : ∀ a ∈ A, blk a < 1000000
  size : Maps.size F = A.length

theorem HM.congr {w : World} {h nh : Nat} {F : DataW Value} {A : List Nat} {blk blk' : Nat → Nat} (hm : HM w h nh F A blk) (he : ∀ a ∈ A, blk' a = blk a) : HM w h nh F A blk' := by
  refine ⟨hm.own, fun x => ?_, fun a ha => by rw [he a ha]; exact hm.val a ha, fun a ha b hb e => hm.inj a ha b hb (by rw [← he a ha, ← he b hb]; exact e), hm.nodup, fun a ha => by rw [he a ha]; exact hm.small a ha, hm.size⟩
  rw [hm.has x]
  constructor
  · rintro ⟨a, ha, e⟩; exact ⟨a, ha, by rw [he a ha]; exact e⟩
  · rintro ⟨a, ha, e⟩; exact ⟨a, ha, by rw [← he a ha]; exact e⟩
theorem HM.but {w w' : World} {h nh : Nat} {F : DataW Value} {A : List Nat} {blk : Nat → Nat} (hm : HM w h nh F A blk) {S : Nat → Prop} (hb : But S w w') (hS : ¬ S h) : HM w' h nh F A blk := by
  refine ⟨?_, hm.has, hm.val, hm.inj, hm.nodup, hm.small, hm.size⟩
  have hlt := hm.own.lt
  obtain ⟨es, clock, he, r⟩ := hm.own
  exact ⟨es, clock, (hb.block h hlt hS).trans he, r⟩
theorem HM.empty {w : World} {h : Nat} (hh : w.heap[h]? = some (.map #[] 0)) (blk : Nat → Nat) : HM w h 0 (.map []) [] blk :=
  ⟨⟨#[], 0, hh, ⟨by simp, MapKept.stamped_empty 0, by simp⟩, Nat.le_refl _, rfl⟩, fun x => ⟨fun h => absurd (show false = true from h) (by decide), fun ⟨a, ha, _⟩ => by cases ha⟩, fun a ha => (by cases ha), fun a ha => (by cases ha), List.nodup_nil, fun a ha => (by cases ha), rfl⟩

/-- 'x, ok := held[block]', where it is held. -/
theorem HM.look_yes {w : World} {h nh : Nat} {F : DataW Value} {A : List Nat} {blk : Nat → Nat} (hm : HM w h nh F A blk) {a : Nat} (ha : a ∈ A) :
    (Instr.lookup 87 (.map (some h)) (.int .i64 (blk a : Nat)) true).run Tryz.prog w = .ok (.tuple #[.pointer (some ⟨a, 0, none⟩), .bool true]) w := by
  have hs := hm.small a ha
  obtain ⟨v, ps, hrun, hv⟩ := hm.own.look_ok keyed Tryz.underlying87 (Tryz.zero148 w) (zd := ptrD none) (zp := []) rfl (key_i64 (i := blk a) (by omega))
  obtain ⟨q, rfl, hz⟩ := ptrElem_inv hv
  simp only [Prod.mk.injEq] at hz
  have e := hm.val a ha
  rw [hz.1] at e
  have hq : q = some ⟨a, 0, none⟩ := ptrD_inj e
  rw [hrun, hq, (hm.has _).2 ⟨a, ha, rfl⟩]
/-- .. where it is not. -/
theorem HM.look_no {w : World} {h nh : Nat} {F : DataW Value} {A : List Nat} {blk : Nat → Nat} (hm : HM w h nh F A blk) {x : Int} (h1 : -9223372036854775808 ≤ x) (h2 : x < 9223372036854775808) (hx : ∀ a ∈ A, (blk a : Int) ≠ x) :
    (Instr.lookup 87 (.map (some h)) (.int .i64 x) true).run Tryz.prog w = .ok (.tuple #[.pointer none, .bool false]) w := by
  obtain ⟨v, ps, hrun, hv⟩ := hm.own.look_ok keyed Tryz.underlying87 (Tryz.zero148 w) (zd := ptrD none) (zp := []) rfl (key_i64Z h1 h2)
  obtain ⟨q, rfl, hz⟩ := ptrElem_inv hv
  simp only [Prod.mk.injEq] at hz
  have hno : Maps.has F (.int .i64 x) = false := by
    cases hh : Maps.has F (.int .i64 x) with
    | false => rfl
    | true =>
      obtain ⟨a, ha, e⟩ := (hm.has x).1 hh
      exact absurd e (hx a ha)
  have e := atKey_of_not_has hno (ptrD none)
  rw [hz.1] at e
  have hq : q = none := ptrD_inj e
  rw [hrun, hq, hno]
/-- 'held[block] = x', of a block that is not held. -/
theorem HM.ins {w : World} {h nh : Nat} {F : DataW Value} {A : List Nat} {blk : Nat → Nat} (hm : HM w h nh F A blk) {a : Nat} (ha : a ∉ A) (hb : blk a < 1000000) (hx : ∀ b ∈ A, blk b ≠ blk a) (hn : nh < 1000000) :
    ∃ w' F', (Instr.mapUpdate 87 (.map (some h)) (.int .i64 (blk a : Nat)) (.pointer (some ⟨a, 0, none⟩))).run Tryz.prog w = .ok () w' ∧ HM w' h (nh + 1) F' (A ++ [a]) blk ∧ But (fun k => k = h) w w' := by
  obtain ⟨w', hrun, hown, hturn⟩ := hm.own.store keyed Tryz.underlying87 (by unfold maxLen; omega) (key_i64 (i := blk a) (by omega)) (val := .pointer (some ⟨a, 0, none⟩)) (d := ptrD (some ⟨a, 0, none⟩)) (ps := []) rfl
  have hno : Maps.has F (.int .i64 (blk a : Nat)) = false := by
    cases hh : Maps.has F (.int .i64 (blk a : Nat)) with
    | false => rfl
    | true =>
      obtain ⟨b, hbm, e⟩ := (hm.has _).1 hh
      exact absurd (by omega) (hx b hbm)
  refine ⟨w', _, hrun, ⟨hown, fun x => ?_, fun b hbm => ?_, fun b hb1 b' hb2 e => ?_, ?_, fun b hbm => ?_, ?_⟩, but_turned hturn⟩
  · by_cases e : x = (blk a : Int)
    · subst e
      rw [has_put_same hm.own.isMap (litK hb)]
      simp
    · rw [has_put_other (fun e' => e (lit_inj e')), hm.has x]
      constructor
      · rintro ⟨b, hb1, e1⟩; exact ⟨b, by simp [hb1], e1⟩
      · rintro ⟨b, hb1, e1⟩
        rcases List.mem_append.1 hb1 with hb1 | hb1
        · exact ⟨b, hb1, e1⟩
        · rw [List.mem_singleton.1 hb1] at e1; exact absurd e1.symm e
  · rcases List.mem_append.1 hbm with hb1 | hb1
    · rw [atKey_put_other (fun e => hx b hb1 (by have := lit_inj e; omega))]
      exact hm.val b hb1
    · rw [List.mem_singleton.1 hb1]
      exact atKey_put_same hm.own.isMap (litK hb) _ _
  · rcases List.mem_append.1 hb1 with h1 | h1 <;> rcases List.mem_append.1 hb2 with h2 | h2
    · exact hm.inj b h1 b' h2 e
    · rw [List.mem_singleton.1 h2] at e; exact absurd e (hx b h1)
    · rw [List.mem_singleton.1 h1] at e; exact absurd e.symm (hx b' h2)
    · rw [List.mem_singleton.1 h1, List.mem_singleton.1 h2]
  · rw [List.nodup_append]
    exact ⟨hm.nodup, by simp, fun x hx y hy => by rw [List.mem_singleton.1 hy]; exact fun e => ha (e ▸ hx)⟩
  · rcases List.mem_append.1 hbm with hb1 | hb1
    · exact hm.small b hb1
    · rw [List.mem_singleton.1 hb1]; exact hb
  · rw [size_put (hm.own.tidy keyed), hno]
    simp [hm.size]
/-- 'delete(held, block)'. -/
theorem HM.del {w : World} {h nh : Nat} {F : DataW Value} {A : List Nat} {blk : Nat → Nat} (hm : HM w h nh F A blk) {a : Nat} (ha : a ∈ A) (ty : TypeId) :
    ∃ w' F', (Builtin.delete_ #[87, 3] ty #[.map (some h), .int .i64 (blk a : Nat)]).run Tryz.prog w = .ok (.tuple #[]) w' ∧ HM w' h nh F' (A.filter (fun b => b != a)) blk ∧ But (fun k => k = h) w w' := by
  have hs := hm.small a ha
  obtain ⟨w', hrun, hown, hturn⟩ := hm.own.drop keyed Tryz.underlying87 (key_i64 (i := blk a) (by omega)) ty
  have hmem : ∀ b, b ∈ A.filter (fun b => b != a) ↔ b ∈ A ∧ b ≠ a := fun b => by simp [List.mem_filter]
  refine ⟨w', _, hrun, ⟨hown, fun x => ?_, fun b hbm => ?_, fun b hb1 b' hb2 e => hm.inj b ((hmem b).1 hb1).1 b' ((hmem b').1 hb2).1 e, hm.nodup.filter _, fun b hbm => hm.small b ((hmem b).1 hbm).1, ?_⟩, but_turned hturn⟩
  · by_cases e : x = (blk a : Int)
    · subst e
      rw [has_del_same]
      constructor
      · intro h; cases h
      · rintro ⟨b, hb1, e1⟩
        exact absurd (hm.inj b ((hmem b).1 hb1).1 a ha (by omega)) ((hmem b).1 hb1).2
    · rw [has_del_other (fun e' => e (lit_inj e')), hm.has x]
      constructor
      · rintro ⟨b, hb1, e1⟩; exact ⟨b, (hmem b).2 ⟨hb1, fun e2 => e (by rw [← e1, e2])⟩, e1⟩
      · rintro ⟨b, hb1, e1⟩; exact ⟨b, ((hmem b).1 hb1).1, e1⟩
  · obtain ⟨h1, h2⟩ := (hmem b).1 hbm
    rw [atKey_del_other (fun e => h2 (hm.inj b h1 a ha (by have := lit_inj e; omega)))]
    exact hm.val b h1
  · have e1 := size_del (k := .int .i64 (blk a : Nat)) (hm.own.tidy keyed)
    rw [(hm.has _).2 ⟨a, ha, rfl⟩, if_pos rfl, hm.size] at e1
    have e2 : (A.filter (fun b => b != a)).length + 1 = A.length := by
      rw [← hm.nodup.erase_eq_filter a, List.length_erase_of_mem ha]
      have := List.length_pos_of_mem ha
      omega
    omega

end Go.Proofs.YtebdgcoandfocaaGreatDoor

/-
  A cache's state, and what its parts' steps make of it.
-/
namespace Go.Proofs.YtebdgcoandfocaaGreatDoor
open Go.RowKit Go.Maps

structure CS where
  c : Nat
  v : Nat
  room : Nat
  h : Nat
  nh : Nat
  F : DataW Value
  dq : Option Addr
  dcap : Nat
  D : List Nat
  ip : Option Addr
  icap : Nat
  I : List Nat
  A : List Nat
  U : Nat → EV
  uses : Nat
  met : Nat
  missed : Nat
  out : Nat

def CS.ck (s : CS) : CK := ⟨ep s.v, .int .i64 s.room, .map (some s.h), .slice s.dq s.D.length s.dcap, .int .i64 s.uses, .int .i64 s.met, .int .i64 s.missed, .int .i64 s.out⟩

/-- A cache in memory. -/
structure CM (w : World) (s : CS) : Prop where
  hp : HP w s.c s.ck s.ip s.icap s.I s.U
  rest : ∀ a ∈ s.A, a ∉ s.I → IsEnt w a (s.U a) (-1)
  sub : ∀ a ∈ s.I, a ∈ s.A
  hm : HM w s.h s.nh s.F s.A (fun a => (s.U a).block)
  row : w.ownsRow 0 148 1 (.slice s.dq s.D.length s.dcap) s.D.length (s.D.map ep)
  apart : ∀ k, s.dq.map Addr.block = some k → s.ip.map Addr.block ≠ some k
  lo : s.h < s.c ∧ (∀ a ∈ s.A, s.h < a) ∧ (∀ k, s.ip.map Addr.block = some k → s.h < k) ∧ ∀ k, s.dq.map Addr.block = some k → s.h < k

def cTag (t : TypeId) : Prop := t = 91 ∨ t = 148 ∨ t = 154
/-- The blocks that a call of a cache may turn. -/
def cMine (w : World) (h : Nat) : Nat → Prop := fun k => k = h ∨ (h ≤ k ∧ ∃ cs t fr, w.heap[k]? = some (.cells cs t fr) ∧ cTag t)

theorem cMine_trans {w w1 w2 : World} {h : Nat} (h1 : But (cMine w h) w w1) (h2 : But (cMine w1 h) w1 w2) : But (cMine w h) w w2 := by
  refine h1.after h2 fun i hi ht => ?_
  rcases ht with e | ⟨hle, cs, t, fr, hb, hc⟩
  · exact .inl e
  · apply Classical.byContradiction
    intro hn
    have := h1.block i hi hn
    rw [hb] at this
    exact hn (.inr ⟨hle, cs, t, fr, this.symm, hc⟩)

theorem own_but {w w' : World} {e : TypeId} {v : Value} {n : Nat} {xs : List Value} {S : Nat → Prop} (h : w.ownsRow 0 e 1 v n xs) (hb : But S w w') (hS : ∀ g cs fr, v.ownBlock = some g → w.heap[g]? = some (.cells cs e fr) → ¬ S g) : w'.ownsRow 0 e 1 v n xs := by
  refine ⟨h.1, ?_⟩
  rcases h.2 with h0 | ⟨g, cap, cur, hv, hg, hblk, r⟩
  · exact .inl h0
  · exact .inr ⟨g, cap, cur, hv, hg, (hb.block g (Array.getElem?_eq_some_iff.1 hblk).1 (hS g cur _ (by rw [hv]; rfl) hblk)).trans hblk, r⟩
theorem IsEnt.but {w w' : World} {a : Nat} {e : EV} {x : Int} {S : Nat → Prop} (h : IsEnt w a e x) (hb : But S w w') (hS : ¬ S a) : IsEnt w' a e x :=
  (hb.block a (Array.getElem?_eq_some_iff.1 h).1 hS).trans h

theorem CM.but {w w' : World} {s : CS} (h : CM w s) {S : Nat → Prop} (hb : But S w w') (hh : ¬ S s.h) (hS : ∀ k cs t fr, w.heap[k]? = some (.cells cs t fr) → cTag t → ¬ S k) : CM w' s :=
  ⟨⟨(hb.block s.c (Array.getElem?_eq_some_iff.1 h.hp.cell).1 (hS _ _ _ _ h.hp.cell (.inl rfl))).trans h.hp.cell, own_but h.hp.row hb (fun _ _ _ _ hk => hS _ _ _ _ hk (.inr (.inl rfl))), fun k hk => (h.hp.ents k hk).but hb (hS _ _ _ _ (h.hp.ents k hk) (.inr (.inr rfl))), h.hp.nodup, h.hp.len, h.hp.used⟩,
    fun a ha hi => (h.rest a ha hi).but hb (hS _ _ _ _ (h.rest a ha hi) (.inr (.inr rfl))), h.sub, h.hm.but hb hh, own_but h.row hb (fun _ _ _ _ hk => hS _ _ _ _ hk (.inr (.inl rfl))), h.apart, h.lo⟩
theorem CM.below {w w' : World} {s : CS} (h : CM w s) (hb : Below w.heap.size w w') : CM w' s :=
  h.but (S := fun _ => False) (But.of_below hb) (fun h => h) (fun _ _ _ _ _ _ h => h)
theorem CM.drewN {w : World} {s : CS} (h : CM w s) (q : Nat) : CM (w.drewN q) s := h.but (S := fun _ => False) ⟨rfl, rfl, rfl, Nat.le_refl _, fun _ _ _ => rfl⟩ (fun h => h) (fun _ _ _ _ _ _ h => h)

/-- Where an entry stands. -/
theorem CM.ent {w : World} {s : CS} (h : CM w s) {a : Nat} (ha : a ∈ s.A) : ∃ x : Int, IsEnt w a (s.U a) x ∧ (a ∈ s.I → ∃ k, k < s.I.length ∧ s.I.getD k 0 = a ∧ x = (k : Nat)) ∧ (a ∉ s.I → x = -1) := by
  by_cases hi : a ∈ s.I
  · obtain ⟨k, hk, e⟩ := List.getElem_of_mem hi
    have e' : s.I.getD k 0 = a := by simp [List.getD, hk, e]
    refine ⟨k, by have := h.hp.ents k hk; rw [e'] at this; exact this, fun _ => ⟨k, hk, e', rfl⟩, fun hn => absurd hi hn⟩
  · exact ⟨-1, h.rest a ha hi, fun hn => absurd hn hi, fun _ => rfl⟩
theorem CM.entAny {w : World} {s : CS} (h : CM w s) {a : Nat} (ha : a ∈ s.A) : ∃ x : Int, IsEnt w a (s.U a) x := (h.ent ha).imp fun _ hx => hx.1
theorem CM.alt {w : World} {s : CS} (h : CM w s) {a : Nat} (ha : a ∈ s.A) : a < w.heap.size := by
  obtain ⟨x, hx⟩ := h.entAny ha
  exact (Array.getElem?_eq_some_iff.1 hx).1
theorem CM.hne {w : World} {s : CS} (h : CM w s) {k : Nat} {cs : Array Value} {t : TypeId} {fr : Nat × Nat} (hk : w.heap[k]? = some (.cells cs t fr)) : s.h ≠ k := by
  obtain ⟨es, clock, hm, _⟩ := h.hm.own
  rintro rfl
  rw [hm] at hk
  cases hk

theorem CM.mineC {w : World} {s : CS} (h : CM w s) : cMine w s.h s.c := .inr ⟨Nat.le_of_lt h.lo.1, _, _, _, h.hp.cell, .inl rfl⟩
theorem CM.mineE {w : World} {s : CS} (h : CM w s) {a : Nat} (ha : a ∈ s.A) : cMine w s.h a := by
  obtain ⟨x, hx⟩ := h.entAny ha
  exact .inr ⟨Nat.le_of_lt (h.lo.2.1 a ha), _, _, _, hx, .inr (.inr rfl)⟩

def updU (U : Nat → EV) (a : Nat) (e : EV) : Nat → EV := fun k => if k = a then e else U k
theorem updU_same (U : Nat → EV) (a : Nat) (e : EV) : updU U a e a = e := by simp [updU]
theorem updU_other (U : Nat → EV) {a k : Nat} (e : EV) (h : k ≠ a) : updU U a e k = U k := by simp [updU, h]

/-- The cells of the cache's struct are turned: all else stays. -/
theorem CM.setC {w : World} {s : CS} (h : CM w s) (j : Nat) (v : Value) {uses met missed out : Nat}
    (hc : (s.ck.cells (.slice s.ip s.I.length s.icap)).setIfInBounds j v = (CS.ck { s with uses := uses, met := met, missed := missed, out := out }).cells (.slice s.ip s.I.length s.icap)) :
    CM (w.setCell ⟨s.c, j, none⟩ v) { s with uses := uses, met := met, missed := missed, out := out } := by
  have hb : But (fun k => k = s.c) w (w.setCell ⟨s.c, j, none⟩ v) := (But.refl (fun k => k = s.c) w).setCell _ rfl _
  have ne : ∀ {k : Nat} {cs : Array Value} {t : TypeId} {fr : Nat × Nat}, w.heap[k]? = some (.cells cs t fr) → t ≠ 91 → ¬ k = s.c := fun hk ht e => apart_tags hk h.hp.cell ht e
  refine ⟨⟨?_, own_but h.hp.row hb (fun _ _ _ _ hk => ne hk (by decide)), fun k hk => (h.hp.ents k hk).but hb (ne (h.hp.ents k hk) (by decide)), h.hp.nodup, h.hp.len, h.hp.used⟩, fun a ha hi => (h.rest a ha hi).but hb (ne (h.rest a ha hi) (by decide)), h.sub, h.hm.but hb (h.hne h.hp.cell), own_but h.row hb (fun _ _ _ _ hk => ne hk (by decide)), h.apart, h.lo⟩
  show (w.setCell ⟨s.c, j, none⟩ v).heap[s.c]? = _
  rw [heap_setCell_same w s.c j _ _ v h.hp.cell, hc]
theorem CM.setUses {w : World} {s : CS} (h : CM w s) (n : Nat) : CM (w.setCell ⟨s.c, 5, none⟩ (.int .i64 (n : Nat))) { s with uses := n } := h.setC 5 _ (uses := n) (met := s.met) (missed := s.missed) (out := s.out) rfl
theorem CM.setMet {w : World} {s : CS} (h : CM w s) (n : Nat) : CM (w.setCell ⟨s.c, 6, none⟩ (.int .i64 (n : Nat))) { s with met := n } := h.setC 6 _ (uses := s.uses) (met := n) (missed := s.missed) (out := s.out) rfl
theorem CM.setMissed {w : World} {s : CS} (h : CM w s) (n : Nat) : CM (w.setCell ⟨s.c, 7, none⟩ (.int .i64 (n : Nat))) { s with missed := n } := h.setC 7 _ (uses := s.uses) (met := s.met) (missed := n) (out := s.out) rfl
theorem CM.setOut {w : World} {s : CS} (h : CM w s) (n : Nat) : CM (w.setCell ⟨s.c, 8, none⟩ (.int .i64 (n : Nat))) { s with out := n } := h.setC 8 _ (uses := s.uses) (met := s.met) (missed := s.missed) (out := n) rfl

/-- A cell of an entry is turned. -/
theorem CM.setE {w : World} {s : CS} (h : CM w s) {a : Nat} (ha : a ∈ s.A) (j : Nat) (v : Value) (e' : EV) (he : ∀ x, (entCells (s.U a) x).setIfInBounds j v = entCells e' x) (hblk : e'.block = (s.U a).block) (hu : e'.used < 1000000000) :
    CM (w.setCell ⟨a, j, none⟩ v) { s with U := updU s.U a e' } := by
  have hb : But (fun k => k = a) w (w.setCell ⟨a, j, none⟩ v) := (But.refl (fun k => k = a) w).setCell _ rfl _
  obtain ⟨x0, hx0⟩ := h.entAny ha
  have ne : ∀ {k : Nat} {cs : Array Value} {t : TypeId} {fr : Nat × Nat}, w.heap[k]? = some (.cells cs t fr) → t ≠ 154 → ¬ k = a := fun hk ht e => apart_tags hk hx0 ht e
  have ent : ∀ k x, IsEnt w k (s.U k) x → IsEnt (w.setCell ⟨a, j, none⟩ v) k (updU s.U a e' k) x := fun k x hx => by
    by_cases e : k = a
    · subst e
      rw [updU_same]
      unfold IsEnt at *
      rw [heap_setCell_same w k j _ _ v hx, he]
    · rw [updU_other _ _ e]
      exact hx.other _ e _
  refine ⟨⟨(hb.block s.c (Array.getElem?_eq_some_iff.1 h.hp.cell).1 (ne h.hp.cell (by decide))).trans h.hp.cell, own_but h.hp.row hb (fun _ _ _ _ hk => ne hk (by decide)), fun k hk => ent _ _ (h.hp.ents k hk), h.hp.nodup, h.hp.len, fun k => ?_⟩, fun k hk hi => ent _ _ (h.rest k hk hi), h.sub, (h.hm.but hb (h.hne hx0)).congr fun k _ => ?_, own_but h.row hb (fun _ _ _ _ hk => ne hk (by decide)), h.apart, h.lo⟩
  · by_cases e : k = a
    · rw [e]; show (updU s.U a e' a).used < _; rw [updU_same]; exact hu
    · show (updU s.U a e' k).used < _; rw [updU_other _ _ e]; exact h.hp.used k
  · by_cases e : k = a
    · rw [e]; show (updU s.U a e' a).block = _; rw [updU_same]; exact hblk
    · show (updU s.U a e' k).block = _; rw [updU_other _ _ e]

/-- The heap was turned. -/
theorem CM.heap {w w' : World} {s : CS} (h : CM w s) {ip : Option Addr} {icap : Nat} {I' : List Nat} {S : Nat → Prop} (hp : HP w' s.c s.ck ip icap I' s.U) (hb : But S w w') (hh : ¬ S s.h)
    (hrest : ∀ a ∈ s.A, a ∉ I' → IsEnt w' a (s.U a) (-1)) (hsub : ∀ a ∈ I', a ∈ s.A) (hd : ∀ k, s.dq.map Addr.block = some k → ¬ S k) (hap : ∀ k, s.dq.map Addr.block = some k → ip.map Addr.block ≠ some k) (hil : ∀ k, ip.map Addr.block = some k → s.h < k) : CM w' { s with ip := ip, icap := icap, I := I' } := by
  refine ⟨hp, hrest, hsub, h.hm.but hb hh, own_but h.row hb (fun g cs fr hg hk => ?_), hap, h.lo.1, h.lo.2.1, hil, h.lo.2.2.2⟩
  refine hd g ?_
  cases hq : s.dq with
  | none => rw [hq] at hg; simp [Value.ownBlock] at hg
  | some a' =>
    rw [hq] at hg
    rcases h.row.2 with ⟨e, _⟩ | ⟨g', cap', cur, e, _⟩
    · rw [hq] at e; cases e
    · rw [hq] at e; cases e
      simpa [Value.ownBlock] using hg

/-- The blocks that the heap's methods turn are the cache's. -/
theorem CM.hpMine {w : World} {s : CS} (h : CM w s) {k : Nat} (hk : k = s.c ∨ hpMine s.ip s.I k) : cMine w s.h k ∧ k ≠ s.h ∧ ∀ g, s.dq.map Addr.block = some g → k ≠ g := by
  have dtag : ∀ g, s.dq.map Addr.block = some g → ∃ cs, w.heap[g]? = some (.cells cs 148 (0, 0)) := fun g hg => by
    rcases h.row.2 with ⟨e, _⟩ | ⟨g', cap', cur, e, _, hb, _⟩
    · cases hq : s.dq with
      | none => rw [hq] at hg; cases hg
      | some a' => rw [hq] at e; cases e
    · cases hq : s.dq with
      | none => rw [hq] at hg; cases hg
      | some a' =>
        rw [hq] at e hg
        cases e
        cases hg
        exact ⟨cur, hb⟩
  rcases hk with rfl | hk | hk
  · refine ⟨.inr ⟨Nat.le_of_lt h.lo.1, _, _, _, h.hp.cell, .inl rfl⟩, Ne.symm (h.hne h.hp.cell), fun g hg => ?_⟩
    obtain ⟨cs, hc⟩ := dtag g hg
    exact apart_tags h.hp.cell hc (by decide)
  · rcases h.hp.row.2 with ⟨e, _⟩ | ⟨g', cap', cur, e, _, hb, _⟩
    · cases hq : s.ip with
      | none => rw [hq] at hk; cases hk
      | some a' => rw [hq] at e; cases e
    · cases hq : s.ip with
      | none => rw [hq] at hk; cases hk
      | some a' =>
        have hk0 := hk
        rw [hq] at e hk
        cases e
        cases hk
        exact ⟨.inr ⟨Nat.le_of_lt (h.lo.2.2.1 _ hk0), _, _, _, hb, .inr (.inl rfl)⟩, Ne.symm (h.hne hb), fun g hg e => h.apart g hg (by rw [← e]; exact hk0)⟩
  · obtain ⟨x, hx⟩ := h.entAny (h.sub k hk)
    refine ⟨.inr ⟨Nat.le_of_lt (h.lo.2.1 k (h.sub k hk)), _, _, _, hx, .inr (.inr rfl)⟩, Ne.symm (h.hne hx), fun g hg => ?_⟩
    obtain ⟨cs, hc⟩ := dtag g hg
    exact apart_tags hx hc (by decide)

/-- An entry more, not in the heap. -/
theorem CM.ins {w w' : World} {s : CS} (h : CM w s) {e : EV} {nh : Nat} {F : DataW Value} (hu : e.used < 1000000000) (hhm : HM w' s.h nh F (s.A ++ [w.heap.size]) (fun a => (updU s.U w.heap.size e a).block)) (hb : But (fun k => k = s.h) (w.alloc (.cells (entCells e (-1)) 154)) w') :
    CM w' { s with nh := nh, F := F, A := s.A ++ [w.heap.size], U := updU s.U w.heap.size e } ∧ But (cMine w s.h) w w' := by
  have hA : ∀ a ∈ s.A, a ≠ w.heap.size := fun a ha => by have := h.alt ha; omega
  have hbw : But (fun k => k = s.h) w w' := ((But.refl _ w).alloc _).trans hb
  have hnew : (w.alloc (.cells (entCells e (-1)) 154)).heap[w.heap.size]? = some (.cells (entCells e (-1)) 154 (0, 0)) := heap_alloc_new w _
  have hlt := h.hm.own.lt
  have cell := h.hp.cell
  have hIA : w.heap.size ∉ s.I := fun hi => hA _ (h.sub _ hi) rfl
  refine ⟨⟨⟨(hbw.block s.c (Array.getElem?_eq_some_iff.1 cell).1 (Ne.symm (h.hne cell))).trans cell, own_but h.hp.row hbw (fun _ _ _ _ hk => Ne.symm (h.hne hk)), fun k hk => ?_, h.hp.nodup, h.hp.len, fun k => ?_⟩, fun a ha hi => ?_, fun a ha => List.mem_append.2 (.inl (h.sub a ha)), hhm, own_but h.row hbw (fun _ _ _ _ hk => Ne.symm (h.hne hk)), h.apart, h.lo.1, (fun a ha => by
    rcases List.mem_append.1 ha with ha | ha
    · exact h.lo.2.1 a ha
    · rw [List.mem_singleton.1 ha]; exact hlt), h.lo.2.2⟩, hbw.mono fun k _ hk => .inl hk⟩
  · have hz := h.hp.ents k hk
    have : s.I.getD k 0 ≠ w.heap.size := hA _ (h.sub _ (getD_mem hk))
    show IsEnt w' (s.I.getD k 0) (updU s.U w.heap.size e (s.I.getD k 0)) k
    rw [updU_other _ _ this]
    exact hz.but hbw (Ne.symm (h.hne hz))
  · show (updU s.U w.heap.size e k).used < _
    by_cases e' : k = w.heap.size
    · rw [e', updU_same]; exact hu
    · rw [updU_other _ _ e']; exact h.hp.used k
  · show IsEnt w' a (updU s.U w.heap.size e a) (-1)
    rcases List.mem_append.1 ha with ha | ha
    · rw [updU_other _ _ (hA a ha)]
      have hz := h.rest a ha hi
      exact hz.but hbw (Ne.symm (h.hne hz))
    · rw [List.mem_singleton.1 ha, updU_same]
      exact (hb.block _ (by simp) (by omega)).trans hnew

/-- An entry less, that was not in the heap. -/
theorem CM.del {w w' : World} {s : CS} (h : CM w s) {a : Nat} (ha : a ∉ s.I) {F : DataW Value} (hhm : HM w' s.h s.nh F (s.A.filter fun b => b != a) (fun a => (s.U a).block)) (hb : But (fun k => k = s.h) w w') :
    CM w' { s with F := F, A := s.A.filter fun b => b != a } := by
  have cell := h.hp.cell
  have hmem : ∀ b, b ∈ s.A.filter (fun b => b != a) ↔ b ∈ s.A ∧ b ≠ a := fun b => by simp [List.mem_filter]
  refine ⟨⟨(hb.block s.c (Array.getElem?_eq_some_iff.1 cell).1 (Ne.symm (h.hne cell))).trans cell, own_but h.hp.row hb (fun _ _ _ _ hk => Ne.symm (h.hne hk)), fun k hk => (h.hp.ents k hk).but hb (Ne.symm (h.hne (h.hp.ents k hk))), h.hp.nodup, h.hp.len, h.hp.used⟩,
    fun b hbm hi => (h.rest b ((hmem b).1 hbm).1 hi).but hb (Ne.symm (h.hne (h.rest b ((hmem b).1 hbm).1 hi))), fun b hbi => (hmem b).2 ⟨h.sub b hbi, fun e => ha (e ▸ hbi)⟩, hhm, own_but h.row hb (fun _ _ _ _ hk => Ne.symm (h.hne hk)), h.apart, h.lo.1, (fun b hbm => h.lo.2.1 b ((hmem b).1 hbm).1), h.lo.2.2⟩

end Go.Proofs.YtebdgcoandfocaaGreatDoor
