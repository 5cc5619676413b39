/-
  Heads.
-/
import Derived.Test.YteimjkicinjcgaaKLr

namespace Go.Proofs.Yteimjkicinjcgaa.Ck.Y.L
open Go.RowKit Go.Maps Go.Lib

/-- What Heads has made so far. -/
def HdsI (w wr : World) (v : Value) (H M : List VG) (i : Nat) : Prop := RowV wr w.heap.size v M ∧ M.map VG.c = (H.take i).map VG.c ∧ (∀ y ∈ M, VOwn wr w.heap.size y) ∧ Below w.heap.size w wr
theorem HdsI.step {w wr w2 w3 : World} {v : Value} {H M : List VG} {i : Nat} (h : HdsI w wr v H M i) {x y : VG} (hx : H[i]? = some x) (hc : y.c = x.c) (b2 : Below wr.heap.size wr w2) (hy : VOwn w2 w.heap.size y) {p : Option Addr} {c : Nat}
    (ha : RowV w3 w.heap.size (.slice p (M.length + 1) c) (M ++ [y]) ∧ (w2.alloc (.cells (vgC y) 43)).grownBy w3 v.ownBlock ∧ ((Value.slice p (M.length + 1) c).ownBlock = v.ownBlock ∨ (Value.slice p (M.length + 1) c).ownBlock = some (w2.alloc (.cells (vgC y) 43)).heap.size)) :
    HdsI w w3 (.slice p (M.length + 1) c) H (M ++ [y]) (i + 1) := by
  obtain ⟨h1, h2, h3, h4⟩ := h
  obtain ⟨a1, a2, a3⟩ := ha
  have b3 : Below w2.heap.size w2 (w2.alloc (.cells (vgC y) 43)) := (below_new _ _).out
  have hO : Only (fun b => v.ownBlock = some b) (w2.alloc (.cells (vgC y) 43)) w3 := ⟨a2.os, a2.tape, a2.output, a2.size, fun k hk hn => a2.block k hk (fun e => hn e.symm)⟩
  have hr2 := (h1.below b2).below b3
  have hard : Hard (w2.alloc (.cells (vgC y) 43)) (fun b => v.ownBlock = some b) := by
    intro b hb cs t ht
    obtain ⟨cs', hc', _⟩ := hr2.tag hb
    rw [hc'] at ht; cases ht; decide
  refine ⟨a1, ?_, fun z hz => ?_, ?_⟩
  · rw [List.map_append, h2, List.take_add_one, hx, List.map_append]
    simp [hc]
  · rcases List.mem_append.1 hz with hz | hz
    · exact (((h3 z hz).below b2).below b3).kept hO hard
    · have : z = y := by simpa using hz
      subst this
      exact (hy.below b3).kept hO hard
  · have s2 := below_thenH h4 (below_thenH b2 b3)
    refine s2.trans (hO.below s2.size fun b hb => ?_)
    obtain ⟨_, _, hbase⟩ := hr2.tag hb
    exact hbase

set_option maxRecDepth 8000 in
set_option maxHeartbeats 2000000 in
theorem heads_any {w : World} {fb : Nat} {E : List KP} {sn : List Int} {H : List VG} {mv : Value} {sp : Option Addr} {sc : Nat} {hv : Value} (h : FMem w fb E sn H mv sp sc hv) :
    Calls Try.prog 14 #[.pointer (some ⟨fb, 0, none⟩)] w fun e w' => ∃ v M, e = .returned v ∧ RowV w' w.heap.size v M ∧ M.map VG.c = H.map VG.c ∧ (∀ y ∈ M, VOwn w' w.heap.size y) ∧ Below w.heap.size w w' := by
  obtain ⟨ph, ch, rfl, _⟩ := h.hrow.shape
  have f2 : w.cell? ⟨fb, 2, none⟩ = some (.slice ph H.length ch) := cellOf h.blk 2
  have HF : Hid (FMem w fb E sn H mv sp sc (.slice ph H.length ch)) := h
  have HL : Hid (H.length ≤ 900) := h.hl
  have HI0 : Hid (HdsI w w (.slice none 0 0) H [] 0) := ⟨RowV.nil _ _, by simp, fun y hy => by simp at hy, Below.refl _ _⟩
  clear h
  go_enter Try.func14, Try.ntmps14
  go_wp2
  go_loopw [3, 13] (fun ll ii wr => ∃ (i : Nat) (M : List VG) (p : Option Addr) (c : Nat), ll = .slice p M.length c ∧ ii = .int .i64 i ∧ i ≤ H.length ∧ Hid (M.length = i) ∧ Hid (HdsI w wr (.slice p M.length c) H M i)) (fun _ ii _ => H.length - (RowKit.intOf ii).toNat)
  case atStart => exact ⟨0, [], none, 0, rfl, rfl, by omega, rfl, HI0⟩
  case round =>
    obtain ⟨i, M, p, c, rfl, rfl, hi, HM, HI⟩ := hrel
    by_cases hlt : i < H.length
    · have hltI : (i : Int) < H.length := by omega
      obtain ⟨x, hx⟩ : ∃ x, H[i]? = some x := ⟨_, List.getElem?_eq_getElem hlt⟩
      obtain ⟨p', c', e', hc⟩ := (HF.out.hrow.below HI.out.2.2.2).caps
      cases e'
      obtain ⟨g, rfl, d0, d1, d2, d3, d4⟩ := hc i x hx
      have hv := ((HF.out.hown x (List.mem_of_getElem? hx)).below HI.out.2.2.2).comes
      have HX : Hid (H[i]? = some x) := hx
      have HLT : Hid (i < H.length) := hlt
      have hi9 : i ≤ 900 := by have := HL.out; omega
      have HCP : Hid (∀ W, Below wr.heap.size wr W → Calls Try.prog 33 #[vgv x] W fun e w' => ∃ y : VG, e = .returned (vgv y) ∧ y.c = x.c ∧ VOwn w' W.heap.size y ∧ Below W.heap.size W w') := fun W hW => copy_any x W (hv.below hW)
      clear hc hx hv
      simp only [vgv, vgC] at HCP
      go_wp2_with (first
        | (go_at_call 33; refine (HCP.out _ ((below_new wr _).out)).mono ?_; clear HCP; rintro e w2 ⟨y, rfl, hyc, hyo, hyb⟩; have H2 : Hid (y.c = x.c ∧ VOwn w2 w.heap.size y ∧ Below wr.heap.size wr w2) := ⟨hyc, hyo.base (Nat.le_trans HI.out.2.2.2.size (by simp)), below_thenH (below_new wr _).out hyb⟩; clear hyc hyo hyb d0 d1 d2 d3 d4)
        | (at_builtin; refine wpList_appV rfl _ _ rfl w.heap.size _ M y rfl w2.heap.size rfl ⟨(HI.out.1.below H2.out.2.2).below (below_new _ _).out, heap_alloc_new w2 _, by have := HM.out; have := HL.out; omega, by have := HI.out.2.2.2.size; have := H2.out.2.2.size; simp; omega⟩ ?_; intro p4 c4 w3 H4))
      go_roundw
      case rel =>
        refine ⟨i + 1, M ++ [y], p4, c4, ?_, by go_num, HLT.out, ?_, ?_⟩
        · rw [List.length_append]; rfl
        · show (M ++ [y]).length = i + 1
          rw [List.length_append, HM.out]; rfl
        · have := HI.out.step HX.out H2.out.1 H2.out.2.2 H2.out.2.1 H4.out
          show HdsI w w3 (.slice p4 (M ++ [y]).length c4) H (M ++ [y]) (i + 1)
          rw [List.length_append]
          exact this
      case measure => have := HLT.out; simp [RowKit.intOf]; omega
    · obtain rfl : i = H.length := by omega
      go_wp2
      go_ret
      obtain ⟨h1, h2, h3, h4⟩ := HI.out
      rw [List.take_length] at h2
      exact ⟨_, M, rfl, h1, h2, h3, h4⟩

end Go.Proofs.Yteimjkicinjcgaa.Ck.Y.L
