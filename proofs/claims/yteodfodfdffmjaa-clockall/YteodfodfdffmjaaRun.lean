/-
  The law ClockAll returns true, where there is a clock.
-/
import Derived.Test.YteodfodfdffmjaaAll
namespace Go.Proofs.Yteodfodfdffmjaa
open Go.RowKit

theorem see_J {w : World} {a r : Nat} {nd x y um us t n : Int} {W : World} (h : J w a r nd x y um us W) (hf : Fit x y) :
    Calls Try.prog 13 #[.pointer (some ⟨a, 0, none⟩), idv t n] W fun e w' => e = .returned (.tuple #[.bool (seB x y t n), .int .i64 (seE t n)]) ∧ J w a r nd (seT x t n) (seL x y t n) um us w' :=
  (see_any a nd x y t n W h.c hf).mono fun _ _ ⟨he, hc, ho⟩ => ⟨he, h.stepc hc ho⟩
theorem rsee_J {w : World} {a r : Nat} {nd tm ls x y t n : Int} {W : World} (h : J w a r nd tm ls x y W) (hf : Fit x y) :
    Calls Try.prog 14 #[.pointer (some ⟨r, 0, none⟩), idv t n] W fun e w' => e = .returned (.tuple #[.bool (seB x y t n), .int .i64 (seE t n)]) ∧ J w a r nd tm ls (seT x t n) (seL x y t n) w' :=
  (rsee_any r nd x y t n W h.d hf).mono fun _ _ ⟨he, hc, ho⟩ => ⟨he, h.stepd hc ho⟩
theorem next_J {w : World} {a r : Nat} {nd x y um us : Int} {W : World} (h : J w a r nd x y um us W) (hf : Fit x y) :
    Calls Try.prog 15 #[.pointer (some ⟨a, 0, none⟩)] W fun e w' => e = .returned (.tuple #[idv (nxT x) (nxN x nd), .bool (nxB x y), .int .i64 (nxE x)]) ∧ J w a r nd (stT x) (stL x y) um us w' :=
  (next_any a nd x y W h.c hf).mono fun _ _ ⟨he, hc, ho⟩ => ⟨he, h.stepc hc ho⟩
theorem rnext_J {w : World} {a r : Nat} {nd tm ls x y : Int} {W : World} (h : J w a r nd tm ls x y W) (hf : Fit x y) :
    Calls Try.prog 16 #[.pointer (some ⟨r, 0, none⟩)] W fun e w' => e = .returned (.tuple #[idv (nxT x) (nxN x nd), .bool (nxB x y), .int .i64 (nxE x)]) ∧ J w a r nd tm ls (stT x) (stL x y) w' ∧ Only (· = r) W w' :=
  (rnext_any r nd x y W h.d hf).mono fun _ _ ⟨he, hc, ho⟩ => ⟨he, h.stepd hc ho, ho⟩

set_option maxRecDepth 8000 in
set_option maxHeartbeats 2000000 in
theorem all_good (p : Option Addr) (its : List Cll) (cp : Nat) (nd tm ls : Int) (w : World) (h : ¬ bad nd tm ls) (hits : Clls w p its) :
    Calls Try.prog 4 #[.int .i64 nd, .int .i64 tm, .int .i64 ls, .slice p its.length cp] w fun e w' => e = .returned (.bool true) ∧ Below w.heap.size w w' := by
  have c6 := begun_any w
  have c12 : ∀ W, Calls Try.prog 12 #[.int .i64 nd, .int .i64 tm, .int .i64 ls] W fun e w' => e = .returned (.pointer (some ⟨W.heap.size, 0, none⟩)) ∧ Clk 49 w' W.heap.size nd tm ls ∧ Below W.heap.size W w' := fun W => new_clk nd tm ls W (good_new h)
  have h1 : ¬ nd < 0 := fun e => h (.inl e)
  have h2 : ¬ 64 ≤ nd := fun e => h (.inr (.inl e))
  have h3 : ¬ tm < 0 := fun e => h (.inr (.inr (.inl e)))
  have h4 : ¬ 1152921504606846976 < tm := fun e => h (.inr (.inr (.inr (.inl e))))
  have h5 : ¬ ls < tm := fun e => h (.inr (.inr (.inr (.inr (.inl e)))))
  have h6 : ¬ 1152921504606846976 < ls := fun e => h (.inr (.inr (.inr (.inr (.inr e)))))
  have HF : Hid (Fit tm ls) := ⟨by omega, by omega, by omega⟩
  have HI : Hid (Clls w p its) := hits
  clear h hits
  go_enter Try.func4, Try.ntmps4
  go_wp2_with fail
  refine c6.mono ?_
  rintro e w1 ⟨rfl, hB1⟩
  have HB1 : Hid (Below w.heap.size w w1) := hB1
  clear c6 hB1
  go_wp2_with fail
  refine (c12 w1).mono ?_
  rintro e w2 ⟨rfl, hc2, hB2⟩
  have hB02 : Below w.heap.size w w2 := HB1.out.trans (hB2.mono HB1.out.size)
  have HJ : Hid (J w w1.heap.size w2.heap.size nd tm ls tm ls (w2.alloc (.cells #[.int .i64 nd, .int .i64 tm, .int .i64 ls] 33))) :=
    ⟨hc2.below (below_new _ _).out, heap_alloc_new w2 _, HB1.out.size, hB02.size, hB02.trans ((below_new _ _).out.mono hB02.size)⟩
  clear c12 hB2 hB02 hc2
  go_wp2_with fail
  generalize w2.alloc (.cells #[.int .i64 nd, .int .i64 tm, .int .i64 ls] 33) = w3 at HJ ⊢
  generalize w1.heap.size = a at HJ ⊢
  generalize w2.heap.size = r at HJ ⊢
  clear h1 h2 h3 h4 h5 h6 HB1
  go_loopw [12] (fun ii wr => ∃ (i : Nat) (x y : Int), ii = .int .i64 i ∧ i ≤ its.length ∧ i ≤ 40 ∧ Hid (Fit x y) ∧ Hid (J w a r nd x y x y wr)) (fun ii _ => 40 - (intOf ii).toNat)
  case atStart => exact ⟨0, tm, ls, rfl, Nat.zero_le _, by omega, HF, HJ⟩
  case round =>
    clear HJ HF
    obtain ⟨i, x, y, rfl, hi, hi40, HF, HJ⟩ := hrel
    by_cases hlt : i < its.length ∧ i < 40
    · have hltI : (i : Int) < its.length := by omega
      have hlt40 : (i : Int) < 40 := by omega
      obtain ⟨ib, io, rfl, hrow⟩ := HI.out (by omega)
      obtain ⟨u, hu⟩ : ∃ u, its[i]? = some u := ⟨_, List.getElem?_eq_getElem hlt.1⟩
      have hcell : ∀ (k : Nat) (v : Value), u.cells[k]? = some v → w.cell? ⟨ib, io + i * 3 + k, none⟩ = some v := fun k v hk => hrow i u hu k v hk
      obtain ⟨see, t, n⟩ := u
      have l0 : w.cell? ⟨ib, io + i * 3, none⟩ = some (.bool see) := hcell 0 _ rfl
      have l1 : w.cell? ⟨ib, io + i * 3 + 1, none⟩ = some (.int .i64 t) := hcell 1 _ rfl
      have l2 : w.cell? ⟨ib, io + i * 3 + 2, none⟩ = some (.int .i64 n) := hcell 2 _ rfl
      have HL1 : Hid (w.cell? ⟨ib, io + i * 3 + 1, none⟩ = some (.int .i64 t)) := l1
      have HL2 : Hid (w.cell? ⟨ib, io + i * 3 + 2, none⟩ = some (.int .i64 n)) := l2
      have k0 := HJ.out.cell l0
      have k1 := HJ.out.cell l1
      have k2 := HJ.out.cell l2
      have HLT : Hid (i < its.length ∧ i < 40) := hlt
      clear hcell hrow hu HI hlt l0 l1 l2
      cases see with
      | true =>
        have c13 := see_J (t := t) (n := n) HJ.out HF.out
        have C14 : Hid (∀ W, J w a r nd (seT x t n) (seL x y t n) x y W → Calls Try.prog 14 #[.pointer (some ⟨r, 0, none⟩), idv t n] W fun e w' => e = .returned (.tuple #[.bool (seB x y t n), .int .i64 (seE t n)]) ∧ J w a r nd (seT x t n) (seL x y t n) (seT x t n) (seL x y t n) w') := fun W hW => rsee_J hW HF.out
        have HF' : Hid (Fit (seT x t n) (seL x y t n)) := se_fit HF.out
        generalize seT x t n = X at c13 C14 HF'
        generalize seL x y t n = Y at c13 C14 HF'
        generalize seB x y t n = bb at c13 C14
        generalize seE t n = ee at c13 C14
        have nb : (bb != bb) = false := by simp
        have ne : (ee != ee) = false := by simp
        have nX : (X != X) = false := by simp
        have nY : (Y != Y) = false := by simp
        go_wp2_with fail
        refine c13.mono ?_
        rintro e w4 ⟨rfl, j4⟩
        have c14 := C14.out w4 j4
        have m1 := j4.cell HL1.out
        have m2 := j4.cell HL2.out
        clear c13 C14 j4 k0 k1 k2
        go_wp2_with fail
        refine c14.mono ?_
        rintro e w5 ⟨rfl, j5⟩
        have c18 := fun k => now_any a nd X Y (w5.drewN k) (j5.c.below (below_drewN _ _))
        have c19 := fun k => lease_any a nd X Y (w5.drewN k) (j5.c.below (below_drewN _ _))
        have d1 := j5.d.cell1
        have d2 := j5.d.cell2
        have J5 : Hid (J w a r nd X Y X Y w5) := j5
        clear c14 m1 m2 j5
        go_wp2_with fail
        go_quiet ((first | (go_at_call 19; exact Calls.quiet_of_same (c19 _)) | (go_at_call 18; exact Calls.quiet_of_same (c18 _))))
        go_wp2
        go_roundw
        case rel => exact ⟨i + 1, X, Y, by go_num, by have := HLT.out; omega, by have := HLT.out; omega, HF', J5.out.below (below_drewN _ _)⟩
        case measure => simp [intOf]; have := HLT.out; omega
      | false =>
        have c15 := next_J HJ.out HF.out
        have C16 : Hid (∀ W, J w a r nd (stT x) (stL x y) x y W → Calls Try.prog 16 #[.pointer (some ⟨r, 0, none⟩)] W fun e w' => e = .returned (.tuple #[idv (nxT x) (nxN x nd), .bool (nxB x y), .int .i64 (nxE x)]) ∧ J w a r nd (stT x) (stL x y) (stT x) (stL x y) w' ∧ Only (· = r) W w') := fun W hW => rnext_J hW HF.out
        have HF' : Hid (Fit (stT x) (stL x y)) := nx_fit HF.out
        generalize stT x = X at c15 C16 HF'
        generalize stL x y = Y at c15 C16 HF'
        generalize nxB x y = bb at c15 C16
        generalize nxE x = ee at c15 C16
        generalize nxT x = P at c15 C16
        generalize nxN x nd = Q at c15 C16
        have nb : (bb != bb) = false := by simp
        have ne : (ee != ee) = false := by simp
        have nX : (X != X) = false := by simp
        have nY : (Y != Y) = false := by simp
        go_wp2_with fail
        refine c15.mono ?_
        rintro e w4 ⟨rfl, j4⟩
        obtain ⟨w5, hw5⟩ : ∃ w5, w5 = w4.alloc (.cells #[.int .i64 P, .int .i64 Q] 23) := ⟨_, rfl⟩
        have hB5 : Below w4.heap.size w4 w5 := by rw [hw5]; exact (below_new _ _).out
        have i5 : Idb w5 w4.heap.size P Q := by rw [hw5]; exact heap_alloc_new w4 _
        have c16 := C16.out w5 (j4.below hB5)
        have hrl : r < w4.heap.size := j4.d.lt
        have I5 : Hid (Idb w5 w4.heap.size P Q) := i5
        clear c15 C16 j4 k0 k1 k2 HL1 HL2 hB5 i5
        go_wp2_with fail
        rw [← hw5]
        refine c16.mono ?_
        rintro e w6 ⟨rfl, j6, o6⟩
        have i6 : Idb w6 w4.heap.size P Q := I5.out.keep o6 (by omega)
        obtain ⟨w7, hw7⟩ : ∃ w7, w7 = w6.alloc (.cells #[.int .i64 P, .int .i64 Q] 23) := ⟨_, rfl⟩
        have hB7 : Below w6.heap.size w6 w7 := by rw [hw7]; exact (below_new _ _).out
        have J7 : Hid (J w a r nd X Y X Y w7) := j6.below hB7
        have d0 := i6.cell0
        have d1 := i6.cell1
        have hlt6 : w4.heap.size < w6.heap.size := i6.lt
        have c17 := same_true P Q w7
        clear c16 hw5 I5 j6 o6 i6 hB7
        go_wp2_with fail
        rw [← hw7]
        refine c17.mono ?_
        rintro e w8 ⟨rfl, hB8⟩
        have j8 := J7.out.below hB8
        have c18 := fun k => now_any a nd X Y (w8.drewN k) (j8.c.below (below_drewN _ _))
        have c19 := fun k => lease_any a nd X Y (w8.drewN k) (j8.c.below (below_drewN _ _))
        have d1 := j8.d.cell1
        have d2 := j8.d.cell2
        have J8 : Hid (J w a r nd X Y X Y w8) := j8
        clear c17 hB8 j8 hw7 J7
        go_wp2_with fail
        go_quiet ((first | (go_at_call 19; exact Calls.quiet_of_same (c19 _)) | (go_at_call 18; exact Calls.quiet_of_same (c18 _))))
        go_wp2
        go_roundw
        case rel => exact ⟨i + 1, X, Y, by go_num, by have := HLT.out; omega, by have := HLT.out; omega, HF', J8.out.below (below_drewN _ _)⟩
        case measure => simp [intOf]; have := HLT.out; omega
    · by_cases hl : i < its.length
      · have hltI : (i : Int) < its.length := by omega
        obtain rfl : i = 40 := by omega
        clear hlt hl
        go_wp2
        go_ret
        exact ⟨rfl, HJ.out.b⟩
      · obtain rfl : i = its.length := by omega
        have hltI : ¬ (its.length : Int) < its.length := by omega
        clear hlt hl
        go_wp2
        go_ret
        exact ⟨rfl, HJ.out.b⟩

theorem all_any (p : Option Addr) (its : List Cll) (cp : Nat) (nd tm ls : Int) (w : World) (hits : Clls w p its) :
    Calls Try.prog 4 #[.int .i64 nd, .int .i64 tm, .int .i64 ls, .slice p its.length cp] w fun e w' => e = .returned (.bool true) ∧ Below w.heap.size w w' := by
  by_cases h : bad nd tm ls
  · exact all_bad p its.length cp nd tm ls w h
  · exact all_good p its cp nd tm ls w h hits

end Go.Proofs.Yteodfodfdffmjaa
