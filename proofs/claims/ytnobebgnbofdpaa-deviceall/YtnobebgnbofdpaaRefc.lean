/-
  Write of the document's device.
-/
import Derived.Test.YtnobebgnbofdpaaRefb
import Derived.Deep.RegionHeld3
import Derived.Deep.RegionLawGrows
namespace Go.Proofs.Ytnobebgnbofdpaa
open Go.RowKit Go.Maps

/-- A device of the document's in memory: its struct, and its three rows. -/
structure RV (w : World) (r n sS cS sN cN sL cL : Nat) (aS aN aL : Array Value) (lef cnt : Int) : Prop where
  ref : IsRefAt w r (.slice (some ⟨sS, 0, none⟩) n cS) (.slice (some ⟨sN, 0, none⟩) n cN) (.slice (some ⟨sL, 0, none⟩) n cL) lef cnt
  rS : w.heap[sS]? = some (.cells aS 28 (0, 0))
  rN : w.heap[sN]? = some (.cells aN 28 (0, 0))
  rL : w.heap[sL]? = some (.cells aL 4 (0, 0))
  ne : sS ≠ sN

theorem ne_of_tag {w : World} {b c : Nat} {x y : Array Value} {t u : TypeId} {f g : Nat × Nat} (h : w.heap[b]? = some (.cells x t f)) (k : w.heap[c]? = some (.cells y u g)) (htu : t ≠ u) : b ≠ c := by
  rintro rfl
  rw [h] at k
  cases k
  exact htu rfl

section
variable {w w' : World} {r n sS cS sN cN sL cL : Nat} {aS aN aL : Array Value} {lef cnt : Int}
theorem RV.rlt (h : RV w r n sS cS sN cN sL cL aS aN aL lef cnt) : r < w.heap.size := (Array.getElem?_eq_some_iff.1 h.ref).1
theorem RV.Slt (h : RV w r n sS cS sN cN sL cL aS aN aL lef cnt) : sS < w.heap.size := (Array.getElem?_eq_some_iff.1 h.rS).1
theorem RV.Nlt (h : RV w r n sS cS sN cN sL cL aS aN aL lef cnt) : sN < w.heap.size := (Array.getElem?_eq_some_iff.1 h.rN).1
theorem RV.Llt (h : RV w r n sS cS sN cN sL cL aS aN aL lef cnt) : sL < w.heap.size := (Array.getElem?_eq_some_iff.1 h.rL).1
theorem RV.but (h : RV w r n sS cS sN cN sL cL aS aN aL lef cnt) {S : Nat → Prop} (hb : But S w w') (h0 : ¬ S r) (h1 : ¬ S sS) (h2 : ¬ S sN) (h3 : ¬ S sL) : RV w' r n sS cS sN cN sL cL aS aN aL lef cnt :=
  ⟨(hb.block _ h.rlt h0).trans h.ref, (hb.block _ h.Slt h1).trans h.rS, (hb.block _ h.Nlt h2).trans h.rN, (hb.block _ h.Llt h3).trans h.rL, h.ne⟩
end

theorem cell_set_other {W : World} {b c j k : Nat} {u v : Value} (h : W.cell? ⟨c, k, none⟩ = some v) (hne : c ≠ b) : (W.setCell ⟨b, j, none⟩ u).cell? ⟨c, k, none⟩ = some v :=
  (World.cell?_of_block (Below.heap_setCell W ⟨b, j, none⟩ u c hne)).trans h
theorem frozen_set {W : World} {b c j k : Nat} {u : Value} (h : W.frozen? ⟨c, k, none⟩ = false) : (W.setCell ⟨b, j, none⟩ u).frozen? ⟨c, k, none⟩ = false := by
  rw [World.frozen?_setCell]; exact h

set_option maxHeartbeats 400000 in
theorem rwrite_dead (i : Int) (p : Option Addr) (bl bc : Nat) (r : Nat) (vS vN vL : Value) (cnt : Int) (w : World) (h : IsRefAt w r vS vN vL 0 cnt) :
    Calls Try.prog 11 #[.pointer (some ⟨r, 0, none⟩), .int .i64 i, .slice p bl bc] w fun e w' => e = .returned (.int .i64 5) ∧ w' = w := by
  have c29 := rdead_any r vS vN vL 0 cnt w h
  clear h
  go_enter Try.func11, Try.ntmps11
  go_wp2_with (go_at_call 29; refine Calls_on c29 ?_)
  go_ret
  exact ⟨rfl, rfl⟩

set_option maxHeartbeats 400000 in
theorem rwrite_no (i : Int) (p : Option Addr) (bl bc : Nat) (r : Nat) (vS vL : Value) (q : Option Addr) (n c : Nat) (lef cnt : Int) (w : World) (h : IsRefAt w r vS (.slice q n c) vL lef cnt) (hl : (lef == 0) = false)
    (hi : ¬ (0 ≤ i ∧ i < n) ∨ bl ≠ 512) :
    Calls Try.prog 11 #[.pointer (some ⟨r, 0, none⟩), .int .i64 i, .slice p bl bc] w fun e w' => e = .returned (.int .i64 22) ∧ w' = w := by
  have c29 := rdead_any r vS _ vL lef cnt w h
  rw [hl] at c29
  have h1 := cellOf h 1
  simp [refCells] at h1
  clear h hl
  by_cases h0 : i < 0
  · clear hi
    go_enter Try.func11, Try.ntmps11
    go_wp2_with (go_at_call 29; refine Calls_on c29 ?_)
    go_ret
    exact ⟨rfl, rfl⟩
  · by_cases h2 : (n : Int) ≤ i
    · clear hi
      go_enter Try.func11, Try.ntmps11
      go_wp2_with (go_at_call 29; refine Calls_on c29 ?_)
      go_ret
      exact ⟨rfl, rfl⟩
    · have hb : bl ≠ 512 := by rcases hi with h | h; exact absurd ⟨by omega, by omega⟩ h; exact h
      have hb' : ((bl : Int) != 512) = true := by rw [bne_iff_ne]; omega
      clear hi
      go_enter Try.func11, Try.ntmps11
      go_wp2_with (go_at_call 29; refine Calls_on c29 ?_)
      go_ret
      exact ⟨rfl, rfl⟩

/-- v is a slice of 512 bytes, those of x. -/
def Bytes (w : World) (v : Value) (x : List Int) : Prop := ∃ g c arr, v = .slice (some ⟨g, 0, none⟩) 512 c ∧ w.heap[g]? = some (.cells arr 5 (0, 0)) ∧ arr.toList.take 512 = x.map u8 ∧ x.length = 512

set_option maxHeartbeats 1000000 in
theorem rwrite_yes (i : Nat) (bb bo bc : Nat) (x : List Int) (r n sS cS sN cN sL cL : Nat) (aS aN aL : Array Value) (lef cnt : Int) (w : World) (h : RV w r n sS cS sN cN sL cL aS aN aL lef cnt) (hl : (lef == 0) = false)
    (hi : i < n) (hiN : i < aN.size) (hiL : i < aL.size) (hxl : x.length = 512) (hb : ∀ j v, (x.map u8)[j]? = some v → w.cell? ⟨bb, bo + j, none⟩ = some v)
    (hc0 : 0 ≤ cnt) (hc1 : cnt < 1000000000) (hlf : lef ≤ 9223372036854775807) :
    Calls Try.prog 11 #[.pointer (some ⟨r, 0, none⟩), .int .i64 i, .slice (some ⟨bb, bo, none⟩) 512 bc] w fun e w' => ∃ v, e = .returned (.int .i64 0) ∧
      RV w' r n sS cS sN cN sL cL aS (aN.setIfInBounds i v) (aL.setIfInBounds i (.bool true)) (rstepped lef) (cnt + 1) ∧ Bytes w' v x ∧ But (fun k => k = r ∨ k = sN ∨ k = sL) w w' ∧ ∀ g c, v = .slice (some ⟨g, 0, none⟩) 512 c → w.heap.size ≤ g := by
  obtain ⟨i5, hi5, hz50, hz51, hz52⟩ := info_parts Try.info5
  have c29 := rdead_any r _ _ _ lef cnt w h.ref
  rw [hl] at c29
  have k1 := cellOf h.ref 1
  have k2 := cellOf h.ref 2
  simp [refCells] at k1 k2
  have rsN := ne_of_tag h.ref h.rN (by decide)
  have rsL := ne_of_tag h.ref h.rL (by decide)
  have nL := ne_of_tag h.rN h.rL (by decide)
  have sL' := ne_of_tag h.rS h.rL (by decide)
  have rS' := ne_of_tag h.ref h.rS (by decide)
  have rlt := h.rlt
  have Nlt := h.Nlt
  have Llt := h.Llt
  have Slt := h.Slt
  have hltI : (i : Int) < n := by omega
  have HB : Hid (∀ j v, (x.map u8)[j]? = some v → w.cell? ⟨bb, bo + j, none⟩ = some v) := hb
  have HR : Hid (RV w r n sS cS sN cN sL cL aS aN aL lef cnt) := h
  have vN0 : Hid (w.cell? ⟨sN, i, none⟩ = some aN[i]) := by show _ = _; rw [cellOf h.rN i]; simp [hiN]
  have vL0 : Hid (w.cell? ⟨sL, i, none⟩ = some aL[i]) := by show _ = _; rw [cellOf h.rL i]; simp [hiL]
  have hnb : ((512 : Int) != 512) = false := by decide
  clear h hl hb
  go_enter Try.func11, Try.ntmps11
  go_wp2_with (go_at_call 29; refine Calls_on c29 ?_)
  go_region_held3 (fun W => W.cell? ⟨r, 1, none⟩ = some (.slice (some ⟨sN, 0, none⟩) n cN)) (first | exact k1 | assumption | exact cell_set_other (by assumption) rsN)
    ((refine step_append_grows rfl _ _ 28 rfl 5 i5 (.int .u8 0) 1 1 Try.underlying28 hi5 hz50 hz51 hz52 rfl (by decide) none 0 0 [] rfl (fun _ => ⟨rfl, rfl⟩) rfl (fun _ hh => by cases hh) ⟨bb, bo, none⟩ 512 bc (x.map u8) rfl (by simpa using hxl)
        (fun j u hj => by rw [Addr.add_lit]; exact HB.out j u hj) (fun u hu => by obtain ⟨y, _, rfl⟩ := List.mem_map.1 hu; rfl) (by decide) (by unfold maxLen; omega) (by omega) ?_; intro v1 W1 hrow1 hg1; obtain ⟨g1, cap1, rfl⟩ := row_some hrow1 (by omega); have d1 := hg1.cell k1 (by simp); have d2 := hg1.cell vN0.out (by simp); have f2 : W1.frozen? ⟨sN, i, none⟩ = false := (World.frozen?_of_block (w := w) (hg1.block sN Nlt (by simp))).trans (frozenOf HR.out.rN i)))
  have d3 : (W1.setCell ⟨sN, i, none⟩ (.slice (some ⟨g1, 0, none⟩) 512 cap1)).cell? ⟨r, 2, none⟩ = some (.slice (some ⟨sL, 0, none⟩) n cL) := cell_set_other (hg1.cell k2 (by simp)) rsN
  have d4 : (W1.setCell ⟨sN, i, none⟩ (.slice (some ⟨g1, 0, none⟩) 512 cap1)).cell? ⟨sL, i, none⟩ = some aL[i] := cell_set_other (hg1.cell vL0.out (by simp)) nL.symm
  have f4 : (W1.setCell ⟨sN, i, none⟩ (.slice (some ⟨g1, 0, none⟩) 512 cap1)).frozen? ⟨sL, i, none⟩ = false := frozen_set ((World.frozen?_of_block (w := w) (hg1.block sL Llt (by simp))).trans (frozenOf HR.out.rL i))
  have HG : Hid (w.grownBy W1 none) := ⟨hg1.os, hg1.tape, hg1.output, hg1.size, hg1.block⟩
  have HROW : Hid (W1.ownsRow w.heap.size 5 1 (.slice (some ⟨g1, 0, none⟩) 512 cap1) 512 (x.map u8)) := by
    have hr := hrow1
    simp at hr
    exact hr
  clear hg1 hrow1
  generalize hW2 : W1.setCell ⟨sN, i, none⟩ (.slice (some ⟨g1, 0, none⟩) 512 cap1) = W2 at d3 d4 f4 ⊢
  have HW2 : Hid (W1.setCell ⟨sN, i, none⟩ (.slice (some ⟨g1, 0, none⟩) 512 cap1) = W2) := hW2
  clear hW2 d1 d2 f2
  have href3 : IsRefAt (W2.setCell ⟨sL, i, none⟩ (.bool true)) r (.slice (some ⟨sS, 0, none⟩) n cS) (.slice (some ⟨sN, 0, none⟩) n cN) (.slice (some ⟨sL, 0, none⟩) n cL) lef cnt := by
    refine (Below.heap_setCell W2 ⟨sL, i, none⟩ _ r rsL).trans ?_
    rw [← HW2.out]
    exact (Below.heap_setCell W1 ⟨sN, i, none⟩ _ r rsN).trans ((HG.out.block r rlt (by simp)).trans HR.out.ref)
  have c30 := rstep_any r _ _ _ lef cnt _ href3 hc0 hc1 hlf
  clear href3
  go_wp2_with (go_at_call 30; refine c30.mono ?_; rintro e W4 ⟨rfl, href4, hg4, hsz4⟩)
  go_ret
  have hs1 := HG.out.size
  have hz2 : W2.heap.size = W1.heap.size := by rw [← HW2.out, size_setCell]
  have hz3 : (W2.setCell ⟨sL, i, none⟩ (.bool true)).heap.size = W1.heap.size := by rw [size_setCell, hz2]
  have old : ∀ b, b < W1.heap.size → b ≠ r → b ≠ sN → b ≠ sL → W4.heap[b]? = W1.heap[b]? := fun b hb h1 h2 h3 => by
    rw [hg4.block b (by rw [hz3]; exact hb) (by simpa using h1), Below.heap_setCell W2 ⟨sL, i, none⟩ _ b h3, ← HW2.out, Below.heap_setCell W1 ⟨sN, i, none⟩ _ b h2]
  obtain ⟨hrl, hrow⟩ := HROW.out
  rcases hrow with ⟨hno, _⟩ | ⟨g, cap, arr, hv, hgw, hblk, _, _, _, htk⟩
  · cases hno
  cases hv
  have hglt := (Array.getElem?_eq_some_iff.1 hblk).1
  refine ⟨_, rfl, ⟨href4, ?_, ?_, ?_, HR.out.ne⟩, ⟨g1, cap1, arr, rfl, ?_, by simpa using htk, hxl⟩, ?_, fun g c e => by cases e; exact hgw⟩
  · rw [old sS (by omega) (Ne.symm rS') HR.out.ne sL']
    exact (HG.out.block sS Slt (by simp)).trans HR.out.rS
  · rw [hg4.block sN (by rw [hz3]; omega) (by simpa using rsN.symm), Below.heap_setCell W2 ⟨sL, i, none⟩ _ sN nL, ← HW2.out]
    have h1 := (HG.out.block sN Nlt (by simp)).trans HR.out.rN
    simp [World.setCell, Array.getElem?_modify, h1]
  · rw [hg4.block sL (by rw [hz3]; omega) (by simpa using rsL.symm)]
    have h1 : W2.heap[sL]? = some (.cells aL 4 (0, 0)) := by
      rw [← HW2.out]
      exact (Below.heap_setCell W1 ⟨sN, i, none⟩ _ sL nL.symm).trans ((HG.out.block sL Llt (by simp)).trans HR.out.rL)
    simp [World.setCell, Array.getElem?_modify, h1]
  · rw [old g1 hglt (by omega) (by omega) (by omega)]
    exact hblk
  · refine ⟨hg4.os.trans ?_, hg4.tape.trans ?_, hg4.output.trans ?_, by omega, fun b hb hn => ?_⟩
    · show W2.os = w.os; rw [← HW2.out]; exact HG.out.os
    · show W2.tape = w.tape; rw [← HW2.out]; exact HG.out.tape
    · show W2.output = w.output; rw [← HW2.out]; exact HG.out.output
    · rw [old b (by omega) (fun e => hn (.inl e)) (fun e => hn (.inr (.inl e))) (fun e => hn (.inr (.inr e)))]
      exact HG.out.block b hb (by simp)

end Go.Proofs.Ytnobebgnbofdpaa
