/-
  Write, Flush and Fuse of package device.
-/
import Derived.Test.YtebdgcoandfocaaGreatDoorKDbut

namespace Go.Proofs.YtebdgcoandfocaaGreatDoor
open Go.RowKit Go.Maps

/-- No fuse has burnt. -/
def alive (fused : Bool) (left : Int) : Prop := (fused && decide (left < 1)) = false

/-- The map's datum behind a Write of block i that held p. -/
def loosened (D : DataW Value) (i : Nat) (p : Option Addr) : DataW Value := if Maps.has D (.int .i64 i) then D else D.put (.int .i64 i) (ptrD p)

/-- What a Write that is done leaves behind. -/
structure Wrote (w w' : World) (a s n c m nn : Nat) (D : DataW Value) (cur : Array Value) (p : Option Addr) (i : Nat) (l : List Value) (fused : Bool) (left count : Int) (g : Nat) : Prop where
  lo : w.heap.size ≤ g
  blk : w'.heap[g]? = some (.cells l.toArray 158 (0, 0))
  dev : IsDevAt w' a (.slice (some ⟨s, 0, none⟩) n c) m fused (stepped fused left) (count + 1)
  row : w'.heap[s]? = some (.cells (cur.setIfInBounds i (.pointer (some ⟨g, 0, none⟩))) 155 (0, 0))
  own : w'.ownsMap Tryz.prog 3 ptrElem m (nn + 1) (loosened D i p)
  but : But (fun k => k = a ∨ k = s ∨ k = m) w w'

theorem map_ne_cells {w : World} {m b nn : Nat} {D : DataW Value} {cs : Array Value} {t : TypeId} {fr : Nat × Nat} (h : w.ownsMap Tryz.prog 3 ptrElem m nn D) (hb : w.heap[b]? = some (.cells cs t fr)) : b ≠ m := by
  rintro rfl
  obtain ⟨es, clock, hm, _⟩ := h
  rw [hm] at hb
  cases hb

theorem dev_store {w w2 : World} {a s : Nat} {v : Value} {m : Nat} {f : Bool} {l c : Int} (h : IsDevAt w a v m f l c) {B : Nat} (ha : a < B) (hb : Below B w w2) (has : a ≠ s) (j : Nat) (u : Value) :
    IsDevAt (w2.setCell ⟨s, j, none⟩ u) a v m f l c := by
  unfold IsDevAt at *
  rw [Below.heap_setCell _ _ _ _ has, hb.block a ha]
  exact h

theorem wrote_mk {w w1 w2 w3 : World} {a s n c m nn : Nat} {D : DataW Value} {cur : Array Value} {p : Option Addr} {i : Nat} {l : List Value} {fused : Bool} {left count : Int}
    (hbut : But (fun k => k = a ∨ k = s ∨ k = m) w w1) (hs : w1.heap[s]? = some (.cells cur 155 (0, 0))) (hown : w1.ownsMap Tryz.prog 3 ptrElem m (nn + 1) (loosened D i p)) (hl : l.length = 512)
    (hz : w2.heap[w1.heap.size]? = some (.cells (splice zeros 0 l).toArray 158 (0, 0))) (hb : Below w1.heap.size w1 w2) (has : a ≠ s) (hsm : s ≠ m) (am : a ≠ m)
    (ha : a < w1.heap.size) (hsl : s < w1.heap.size) (hm : m < w1.heap.size)
    (hdev : IsDevAt w3 a (.slice (some ⟨s, 0, none⟩) n c) m fused (stepped fused left) (count + 1)) (hg3 : (w2.setCell ⟨s, i, none⟩ (.pointer (some ⟨w1.heap.size, 0, none⟩))).grownBy w3 (some a)) :
    Wrote w w3 a s n c m nn D cur p i l fused left count w1.heap.size := by
  have hsz2 := hb.size
  have hz' : w2.heap[w1.heap.size]? = some (.cells l.toArray 158 (0, 0)) := by rw [hz, splice_all zeros l (by rw [hl, zeros_length])]
  have hlt : w1.heap.size < w2.heap.size := (Array.getElem?_eq_some_iff.1 hz').1
  have hszs : (w2.setCell ⟨s, i, none⟩ (.pointer (some ⟨w1.heap.size, 0, none⟩))).heap.size = w2.heap.size := by simp [World.setCell]
  refine ⟨hbut.size, ?_, hdev, ?_, ?_, ?_⟩
  · rw [hg3.block _ (by rw [hszs]; exact hlt) (by simp; omega), Below.heap_setCell _ _ _ _ (by simp; omega)]
    exact hz'
  · rw [hg3.block _ (by rw [hszs]; omega) (by simpa using has.symm)]
    have hs2 := (hb.block s hsl).trans hs
    simp [World.setCell, Array.getElem?_modify, hs2]
  · obtain ⟨es, clock, hm', r⟩ := hown
    refine ⟨es, clock, ?_, r⟩
    rw [hg3.block _ (by rw [hszs]; omega) (by simpa using am.symm), Below.heap_setCell _ _ _ _ (by simpa using hsm.symm), hb.block m hm]
    exact hm'
  · have b1 : But (fun k => k = a ∨ k = s ∨ k = m) w1 w2 := But.of_below hb
    exact ((hbut.trans b1).setCell _ (by simp) _).trans (But.of_grown hg3 (by intro k hk; cases hk; simp))

set_option maxRecDepth 8000 in
set_option maxHeartbeats 1000000 in
theorem write_yes (i : Nat) (bb bo bc : Nat) (l : List Value) (a s n c m nn : Nat) (D : DataW Value) (cur : Array Value) (p : Option Addr) (fused : Bool) (left count : Int) (w : World)
    (h : IsDevAt w a (.slice (some ⟨s, 0, none⟩) n c) m fused left count) (hs : w.heap[s]? = some (.cells cur 155 (0, 0))) (hown : w.ownsMap Tryz.prog 3 ptrElem m nn D) (hnn : nn < maxLen) (has : a ≠ s)
    (hi : i < n) (hn : n ≤ 65536) (hcur : cur[i]? = some (.pointer p)) (hl : l.length = 512) (hone : ∀ v ∈ l, v.oneCell' = true)
    (hb : ∀ j v, l[j]? = some v → w.cell? ⟨bb, bo + j, none⟩ = some v)
    (hd : alive fused left) (hc0 : 0 ≤ count) (hc1 : count < 1000000000) (hlf : fused = true → 1 ≤ left ∧ left ≤ 9223372036854775807) :
    Calls Tryz.prog 73 #[.pointer (some ⟨a, 0, none⟩), .int .i64 i, .slice (some ⟨bb, bo, none⟩) 512 bc] w fun e w' => ∃ g, e = .returned (.int .i64 0) ∧ Wrote w w' a s n c m nn D cur p i l fused left count g := by
  have c21 := dead_any a _ m fused left count w h
  have c27 := has_any i a _ n c m fused left count w h
  rw [hd] at c21
  rw [decide_eq_true (by omega)] at c27
  obtain ⟨q, hlk, hat⟩ := look_ok hown (i := i) (by omega)
  have ham := map_ne_cells hown h
  have hsm := map_ne_cells hown hs
  have k0 := cellOf h 0
  have k1 := cellOf h 1
  simp [devCells] at k0 k1
  have k2 : w.cell? ⟨s, i, none⟩ = some (.pointer p) := (cellOf hs i).trans hcur
  have hz59 := zc_tBlk
  have halt := (Array.getElem?_eq_some_iff.1 h).1
  have hslt := (Array.getElem?_eq_some_iff.1 hs).1
  have hmlt := hown.lt
  have HB : Hid (∀ j v, l[j]? = some v → w.cell? ⟨bb, bo + j, none⟩ = some v) := hb
  have HH : Hid (IsDevAt w a (.slice (some ⟨s, 0, none⟩) n c) m fused left count) := h
  have HS : Hid (w.heap[s]? = some (.cells cur 155 (0, 0))) := hs
  have HO : Hid (w.ownsMap Tryz.prog 3 ptrElem m nn D) := hown
  have hnb : ((512 : Int) != 512) = false := by decide
  clear hb h hs hown hcur hat
  by_cases hhas : Maps.has D (.int .i64 i) = true
  · rw [hhas] at hlk
    have HA : Hid (Maps.has D (.int .i64 i) = true) := hhas
    clear hhas
    have tok : True := trivial
    go_enter Tryz.func73, Tryz.ntmps73
    go_wp2_with (first
      | (go_at_call 71; refine Calls_on c21 ?_)
      | (go_at_call 93; refine Calls_on c27 ?_)
      | (have tk := tok; refine wpList_copy_splice rfl _ _ 30 30 rfl 5 Tryz.underlying30 Tryz.size5 (some ⟨w.heap.size, 0, none⟩) (some ⟨bb, bo, none⟩) 512 512 512 bc rfl rfl w.heap.size 0 zeros 158 (heap_alloc_new w _) l hl
          (fun _ => ⟨rfl, ⟨bb, bo, none⟩, rfl, fun j v hj => by rw [Addr.add_lit]; exact Lib.cell?_alloc_some _ (HB.out j v hj)⟩) (by rw [hl, zeros_length]; decide) hone w.heap.size w ((Below.refl _ w).alloc (Nat.le_refl _) _) (Nat.le_refl _) ?_
         clear tk tok; intro w2 hz2 hb2
         have e0 := (hb2.cell (p := ⟨a, 0, none⟩) halt).trans k0
         have e2 := (hb2.cell (p := ⟨s, i, none⟩) hslt).trans k2
         have f2 := (hb2.frozen (p := ⟨s, i, none⟩) hslt).trans (frozenOf HS.out i))
      | (go_at_call 72; refine (done_any a _ m fused left count _ (by exact dev_store HH.out halt hb2 has _ _) hc0 hc1 hlf).mono ?_; rintro e w3 ⟨rfl, hdev3, hg3, hsz3⟩))
    go_ret
    refine ⟨w.heap.size, rfl, wrote_mk (But.refl _ w) HS.out ?_ hl hz2.out hb2 has hsm ham halt hslt hmlt hdev3 hg3⟩
    unfold loosened
    rw [if_pos HA.out]
    exact HO.out.mono (Nat.le_succ _)
  · have hhas' : Maps.has D (.int .i64 i) = false := by simpa using hhas
    rw [hhas'] at hlk
    have HA : Hid (Maps.has D (.int .i64 i) = false) := hhas'
    clear hhas hhas'
    have tok : True := trivial
    obtain ⟨w1, hput, hown1, hturn⟩ := put_run (w := w.drew) HO.out hnn (i := i) (by omega) p
    have hg1 : w.grownBy w1 (some m) := ⟨hturn.grown.os, hturn.grown.tape, hturn.grown.output, hturn.grown.size, hturn.grown.block⟩
    have HH1 : Hid (IsDevAt w1 a (.slice (some ⟨s, 0, none⟩) n c) m fused left count) := (hg1.block a halt (by simpa using ham)).trans HH.out
    have HS1 : Hid (w1.heap[s]? = some (.cells cur 155 (0, 0))) := (hg1.block s hslt (by simpa using hsm)).trans HS.out
    have hz1 : w1.heap.size = w.heap.size := by obtain ⟨_, _, _, _, _, rfl⟩ := hturn; simp [ChangeMaps.setBlock]
    have k01 : w1.cell? ⟨a, 0, none⟩ = some (.slice (some ⟨s, 0, none⟩) n c) := by have := cellOf HH1.out 0; simpa [devCells] using this
    have k21 : w1.cell? ⟨s, i, none⟩ = some (.pointer p) := hg1.cell k2 (by simpa using hsm)
    have HB1 : Hid (∀ j v, l[j]? = some v → w1.cell? ⟨bb, bo + j, none⟩ = some v) := fun j v hj => hg1.cell (HB.out j v hj) (fun e => by
      have e' : bb = m := by simpa using e
      subst e'
      obtain ⟨es, clock, hm, _⟩ := HO.out
      have := HB.out j v hj
      simp [World.cell?, hm] at this)
    have HO1 : Hid (w1.ownsMap Tryz.prog 3 ptrElem m (nn + 1) (D.put (.int .i64 i) (ptrD p))) := hown1
    have HG1 : Hid (w.grownBy w1 (some m)) := hg1
    have HZ1 : Hid (w1.heap.size = w.heap.size) := hz1
    clear hown1 hg1 hturn hz1
    go_enter Tryz.func73, Tryz.ntmps73
    go_wp2_with (first
      | (go_at_call 71; refine Calls_on c21 ?_)
      | (go_at_call 93; refine Calls_on c27 ?_))
    go_region
    go_wp2_with (first
      | (have tk := tok; refine wpList_copy_splice rfl _ _ 30 30 rfl 5 Tryz.underlying30 Tryz.size5 (some ⟨w1.heap.size, 0, none⟩) (some ⟨bb, bo, none⟩) 512 512 512 bc rfl rfl w1.heap.size 0 zeros 158 (heap_alloc_new w1 _) l hl
          (fun _ => ⟨rfl, ⟨bb, bo, none⟩, rfl, fun j v hj => by rw [Addr.add_lit]; exact Lib.cell?_alloc_some _ (HB1.out j v hj)⟩) (by rw [hl, zeros_length]; decide) hone w1.heap.size w1 ((Below.refl _ w1).alloc (Nat.le_refl _) _) (Nat.le_refl _) ?_
         clear tk tok; intro w2 hz2 hb2
         have e0 := (hb2.cell (p := ⟨a, 0, none⟩) (HZ1.out ▸ halt)).trans k01
         have e2 := (hb2.cell (p := ⟨s, i, none⟩) (HZ1.out ▸ hslt)).trans k21
         have f2 := (hb2.frozen (p := ⟨s, i, none⟩) (HZ1.out ▸ hslt)).trans (frozenOf HS1.out i))
      | (go_at_call 72; refine (done_any a _ m fused left count _ (by exact dev_store HH1.out (HZ1.out ▸ halt) hb2 has _ _) hc0 hc1 hlf).mono ?_; rintro e w3 ⟨rfl, hdev3, hg3, hsz3⟩))
    go_ret
    refine ⟨w1.heap.size, rfl, wrote_mk (But.of_grown HG1.out (by intro k hk; cases hk; simp)) HS1.out ?_ hl hz2.out hb2 has hsm ham (HZ1.out ▸ halt) (HZ1.out ▸ hslt) (HZ1.out ▸ hmlt) hdev3 hg3⟩
    unfold loosened
    rw [if_neg (by rw [HA.out]; decide)]
    exact HO1.out

end Go.Proofs.YtebdgcoandfocaaGreatDoor
