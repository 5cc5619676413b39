/-
  A device in memory, as one word.
-/
import Derived.Test.YtnobebgnbofdpaaNone
namespace Go.Proofs.Ytnobebgnbofdpaa
open Go.RowKit Go.Maps

/-- A device in memory: its struct, its row of blocks, its map. -/
structure DV (w : World) (a s n c m nn : Nat) (D : DataW Value) (cur : Array Value) (fused : Bool) (left count : Int) : Prop where
  dev : IsDevAt w a (.slice (some ⟨s, 0, none⟩) n c) m fused left count
  row : w.heap[s]? = some (.cells cur 53 (0, 0))
  own : w.ownsMap Try.prog 3 ptrElem m nn D

section
variable {w w' : World} {a s n c m nn : Nat} {D : DataW Value} {cur : Array Value} {fused : Bool} {left count : Int}
theorem DV.alt (h : DV w a s n c m nn D cur fused left count) : a < w.heap.size := (Array.getElem?_eq_some_iff.1 h.dev).1
theorem DV.slt (h : DV w a s n c m nn D cur fused left count) : s < w.heap.size := (Array.getElem?_eq_some_iff.1 h.row).1
theorem DV.mlt (h : DV w a s n c m nn D cur fused left count) : m < w.heap.size := h.own.lt
theorem DV.but (h : DV w a s n c m nn D cur fused left count) {S : Nat → Prop} (hb : But S w w') (ha : ¬ S a) (hs : ¬ S s) (hm : ¬ S m) : DV w' a s n c m nn D cur fused left count := by
  refine ⟨(hb.block a h.alt ha).trans h.dev, (hb.block s h.slt hs).trans h.row, ?_⟩
  have hlt := h.mlt
  obtain ⟨es, clock, he, r⟩ := h.own
  exact ⟨es, clock, (hb.block m hlt hm).trans he, r⟩
theorem DV.below (h : DV w a s n c m nn D cur fused left count) {B : Nat} (hb : Below B w w') (ha : a < B) (hs : s < B) (hm : m < B) : DV w' a s n c m nn D cur fused left count := by
  refine ⟨(hb.block a ha).trans h.dev, (hb.block s hs).trans h.row, ?_⟩
  obtain ⟨es, clock, he, r⟩ := h.own
  exact ⟨es, clock, (hb.block m hm).trans he, r⟩
end

end Go.Proofs.Ytnobebgnbofdpaa
