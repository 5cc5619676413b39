/-
  Flush and Crash of the document's device.
-/
import Derived.Test.YtnobebgnbofdpaaRefc
import Derived.BigRegion
namespace Go.Proofs.Ytnobebgnbofdpaa
open Go.RowKit Go.Maps

set_option maxHeartbeats 400000 in
theorem rflush_dead (r : Nat) (vS vN vL : Value) (cnt : Int) (w : World) (h : IsRefAt w r vS vN vL 0 cnt) :
    Calls Try.prog 13 #[.pointer (some ⟨r, 0, none⟩)] w fun e w' => e = .returned (.int .i64 5) ∧ w' = w := by
  have c29 := rdead_any r vS vN vL 0 cnt w h
  clear h
  go_enter Try.func13, Try.ntmps13
  go_wp2_with (go_at_call 29; refine Calls_on c29 ?_)
  go_ret
  exact ⟨rfl, rfl⟩

/-- What the loop of Flush has done behind k rounds. -/
structure FInv (w wr : World) (r n sS cS sN cN sL cL : Nat) (aS aN aL : Array Value) (lef cnt : Int) (k : Nat) (bS bL : Array Value) : Prop where
  rv : RV wr r n sS cS sN cN sL cL bS aN bL lef cnt
  szS : bS.size = aS.size
  szL : bL.size = aL.size
  doneS : ∀ j, j < k → bS[j]? = aN[j]?
  doneL : ∀ j, j < k → bL[j]? = some (.bool false)
  but : But (fun b => b = sS ∨ b = sL) w wr

theorem FInv.step {w wr : World} {r n sS cS sN cN sL cL : Nat} {aS aN aL : Array Value} {lef cnt : Int} {k : Nat} {bS bL : Array Value} (h : FInv w wr r n sS cS sN cN sL cL aS aN aL lef cnt k bS bL)
    (hS : k < aS.size) (hL : k < aL.size) {v : Value} (hv : aN[k]? = some v) :
    FInv w ((wr.setCell ⟨sS, k, none⟩ v).setCell ⟨sL, k, none⟩ (.bool false)) r n sS cS sN cN sL cL aS aN aL lef cnt (k + 1) (bS.setIfInBounds k v) (bL.setIfInBounds k (.bool false)) := by
  have rsS := ne_of_tag h.rv.ref h.rv.rS (by decide)
  have rsL := ne_of_tag h.rv.ref h.rv.rL (by decide)
  have nL := ne_of_tag h.rv.rN h.rv.rL (by decide)
  have sL' := ne_of_tag h.rv.rS h.rv.rL (by decide)
  have h1 := h.rv.rS
  have h2 : (wr.setCell ⟨sS, k, none⟩ v).heap[sL]? = some (.cells bL 4 (0, 0)) := (Below.heap_setCell wr ⟨sS, k, none⟩ v sL sL'.symm).trans h.rv.rL
  refine ⟨⟨?_, ?_, ?_, ?_, h.rv.ne⟩, by simpa using h.szS, by simpa using h.szL, fun j hj => ?_, fun j hj => ?_, (h.but.setCell ⟨sS, k, none⟩ (.inl rfl) _).setCell ⟨sL, k, none⟩ (.inr rfl) _⟩
  · exact (Below.heap_setCell _ ⟨sL, k, none⟩ _ r rsL).trans ((Below.heap_setCell _ ⟨sS, k, none⟩ _ r rsS).trans h.rv.ref)
  · rw [Below.heap_setCell _ ⟨sL, k, none⟩ _ sS sL']
    simp [World.setCell, Array.getElem?_modify, h1]
  · exact (Below.heap_setCell _ ⟨sL, k, none⟩ _ sN nL).trans ((Below.heap_setCell _ ⟨sS, k, none⟩ _ sN h.rv.ne.symm).trans h.rv.rN)
  · generalize wr.setCell ⟨sS, k, none⟩ v = W at h2
    simp [World.setCell, Array.getElem?_modify, h2]
  · rw [Array.getElem?_setIfInBounds]
    by_cases hkj : k = j
    · subst hkj; rw [if_pos rfl, if_pos (by rw [h.szS]; exact hS)]; exact hv.symm
    · rw [if_neg hkj]; exact h.doneS j (by omega)
  · rw [Array.getElem?_setIfInBounds]
    by_cases hkj : k = j
    · subst hkj; rw [if_pos rfl, if_pos (by rw [h.szL]; exact hL)]
    · rw [if_neg hkj]; exact h.doneL j (by omega)

theorem FInv.drew {w wr : World} {r n sS cS sN cN sL cL : Nat} {aS aN aL : Array Value} {lef cnt : Int} {k : Nat} {bS bL : Array Value} (h : FInv w wr r n sS cS sN cN sL cL aS aN aL lef cnt k bS bL) :
    FInv w wr.drew r n sS cS sN cN sL cL aS aN aL lef cnt k bS bL := ⟨⟨h.rv.ref, h.rv.rS, h.rv.rN, h.rv.rL, h.rv.ne⟩, h.szS, h.szL, h.doneS, h.doneL, h.but.drew⟩

set_option maxHeartbeats 1000000 in
theorem rflush_yes (r n sS cS sN cN sL cL : Nat) (aS aN aL : Array Value) (lef cnt : Int) (w : World) (h : RV w r n sS cS sN cN sL cL aS aN aL lef cnt) (hl : (lef == 0) = false)
    (hnS : n ≤ aS.size) (hnL : n ≤ aL.size) (hn : n ≤ 65536) (hNv : ∀ j, j < n → ∃ q l c, aN[j]? = some (.slice q l c))
    (hc0 : 0 ≤ cnt) (hc1 : cnt < 1000000000) (hlf : lef ≤ 9223372036854775807) :
    Calls Try.prog 13 #[.pointer (some ⟨r, 0, none⟩)] w fun e w' => ∃ bS bL, e = .returned (.int .i64 0) ∧ RV w' r n sS cS sN cN sL cL bS aN bL (rstepped lef) (cnt + 1) ∧ bS.size = aS.size ∧ bL.size = aL.size ∧
      (∀ j, j < n → bS[j]? = aN[j]?) ∧ (∀ j, j < n → bL[j]? = some (.bool false)) ∧ But (fun b => b = r ∨ b = sS ∨ b = sL) w w' := by
  have c29 := rdead_any r _ _ _ lef cnt w h.ref
  rw [hl] at c29
  have start : FInv w w r n sS cS sN cN sL cL aS aN aL lef cnt 0 aS aL := ⟨h, rfl, rfl, fun j hj => absurd hj (Nat.not_lt_zero _), fun j hj => absurd hj (Nat.not_lt_zero _), But.refl _ w⟩
  clear h hl
  go_enter Try.func13, Try.ntmps13
  go_wp2_with (go_at_call 29; refine Calls_on c29 ?_)
  clear c29
  go_loopw [3] (fun ix wr => ∃ k : Nat, k ≤ n ∧ ix = .int .i64 k ∧ ∃ bS bL, FInv w wr r n sS cS sN cN sL cL aS aN aL lef cnt k bS bL) (fun ix _ => n - (intOf ix).toNat)
  case atStart => exact ⟨0, Nat.zero_le _, rfl, _, _, start⟩
  case round =>
    clear start
    obtain ⟨k, hk, rfl, bS, bL, hinv⟩ := hrel
    have k0 := cellOf hinv.rv.ref 0
    have k1 := cellOf hinv.rv.ref 1
    have k2 := cellOf hinv.rv.ref 2
    simp [refCells] at k0 k1 k2
    by_cases hlt : k < n
    · obtain ⟨q, l, c, hv⟩ := hNv k hlt
      have rsS := ne_of_tag hinv.rv.ref hinv.rv.rS (by decide)
      have sL' := ne_of_tag hinv.rv.rS hinv.rv.rL (by decide)
      have e1 : wr.cell? ⟨sN, k, none⟩ = some (.slice q l c) := (cellOf hinv.rv.rN k).trans hv
      have hS : k < aS.size := by omega
      have hL : k < aL.size := by omega
      obtain ⟨u0, e2⟩ : ∃ u, wr.cell? ⟨sS, k, none⟩ = some u := ⟨bS[k]'(by rw [hinv.szS]; exact hS), by rw [cellOf hinv.rv.rS k]; simp [hinv.szS, hS]⟩
      have f2 := frozenOf hinv.rv.rS k
      obtain ⟨u1, e3⟩ : ∃ u, wr.cell? ⟨sL, k, none⟩ = some u := ⟨bL[k]'(by rw [hinv.szL]; exact hL), by rw [cellOf hinv.rv.rL k]; simp [hinv.szL, hL]⟩
      have f3 := frozenOf hinv.rv.rL k
      have d2 : (wr.setCell ⟨sS, k, none⟩ (.slice q l c)).cell? ⟨r, 2, none⟩ = some (.slice (some ⟨sL, 0, none⟩) n cL) := cell_set_other k2 rsS
      have d3 : (wr.setCell ⟨sS, k, none⟩ (.slice q l c)).cell? ⟨sL, k, none⟩ = some u1 := cell_set_other e3 sL'.symm
      have d4 : (wr.setCell ⟨sS, k, none⟩ (.slice q l c)).frozen? ⟨sL, k, none⟩ = false := frozen_set f3
      have HI : Hid (FInv w wr r n sS cS sN cN sL cL aS aN aL lef cnt k bS bL) := hinv
      have HV : Hid (aN[k]? = some (.slice q l c)) := hv
      have hltI : (k : Int) < n := by omega
      clear hinv hv hNv
      go_wp2
      go_region
      all_goals go_wp2
      all_goals exact ⟨⟨k + 1, by omega, by go_num, _, _, (HI.out.step hS hL HV.out).drew⟩, by simp [intOf]; omega⟩
    · obtain rfl : k = n := by omega
      have c30 := rstep_any r _ _ _ lef cnt wr hinv.rv.ref hc0 hc1 hlf
      have HI : Hid (FInv w wr r k sS cS sN cN sL cL aS aN aL lef cnt k bS bL) := hinv
      clear hinv
      go_wp2_with (go_at_call 30; refine c30.mono ?_; rintro e W4 ⟨rfl, href4, hg4, hsz4⟩)
      go_ret
      have hi := HI.out
      have rsS := ne_of_tag hi.rv.ref hi.rv.rS (by decide)
      have rsN := ne_of_tag hi.rv.ref hi.rv.rN (by decide)
      have rsL := ne_of_tag hi.rv.ref hi.rv.rL (by decide)
      refine ⟨bS, bL, rfl, ⟨href4, ?_, ?_, ?_, hi.rv.ne⟩, hi.szS, hi.szL, hi.doneS, hi.doneL, ?_⟩
      · exact (hg4.block _ hi.rv.Slt (by simpa using rsS.symm)).trans hi.rv.rS
      · exact (hg4.block _ hi.rv.Nlt (by simpa using rsN.symm)).trans hi.rv.rN
      · exact (hg4.block _ hi.rv.Llt (by simpa using rsL.symm)).trans hi.rv.rL
      · exact (hi.but.mono (fun b _ hb => .inr hb)).trans (But.of_grown hg4 (by intro k hk; cases hk; exact .inl rfl))

end Go.Proofs.Ytnobebgnbofdpaa
