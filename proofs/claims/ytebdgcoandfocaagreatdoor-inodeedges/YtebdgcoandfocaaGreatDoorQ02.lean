/-
  What the proof leans on, part 3.
-/
import Derived.Test.YtebdgcoandfocaaGreatDoorQ01
import Derived.Shelf.SlIterI.Nil
import Derived.Shelf.SortM.Plain
import Derived.Shelf.SortM.SortNone
import Derived.Shelf.SlicesE.Clone
import Derived.Shelf.SlicesQ.IndexFunc
import Derived.Ground.GgzProg
import Derived.Ground.SlgmProg
import Derived.Ground.SlgnProg
import Derived.Ground.SlgfProg
import Derived.Test.YtebdgcoandfocaaGreatDoorProg
import Derived.Recover
import Derived.Deep.RegionHeld3
import Derived.BigRegion
import Derived.Maps.AppendAt

/-
  Write, Flush and Fuse of package device.
-/
namespace Go.Proofs.YtebdgcoandfocaaGreatDoor
open Go.RowKit Go.Maps

/-- No fuse has burnt. -/
def alive (fused : Bool) (left : Int) : Prop := (fused && decide (left < 1)) = false

/-- The map's datum behind a Write of block i that held p. -/
def loosened (D : DataW Value) (i : Nat) (p : Option Addr) : DataW Value := if Maps.has D (.int .i64 i) then D else D.put (.int .i64 i) (ptrD p)

/-- What a Write that is done leaves behind. -/
structure Wrote (w w' : World) (a s n c m nn : Nat) (D : DataW Value) (cur : Array Value) (p : Option Addr) (i : Nat) (l : List Value) (fused : Bool) (left count : Int) (g : Nat) : Prop where
  lo : w.heap.size ≤ g
  blk : w'.heap[g]? = some (.cells l.toArray 158 (0, 0))
  dev : IsDevAt w' a (.slice (some ⟨s, 0, none⟩) n c) m fused (stepped fused left) (count + 1)
  row : w'.heap[s]? = some (.cells (cur.setIfInBounds i (.pointer (some ⟨g, 0, none⟩))) 155 (0, 0))
  own : w'.ownsMap Tryz.prog 3 ptrElem m (nn + 1) (loosened D i p)
  but : But (fun k => k = a ∨ k = s ∨ k = m) w w'

theorem map_ne_cells {w : World} {m b nn : Nat} {D : DataW Value} {cs : Array Value} {t : TypeId} {fr : Nat × Nat} (h : w.ownsMap Tryz.prog 3 ptrElem m nn D) (hb : w.heap[b]? = some (.cells cs t fr)) : b ≠ m := by
  rintro rfl
  obtain ⟨es, clock, hm, _⟩ := h
  rw [hm] at hb
  cases hb

theorem dev_store {w w2 : World} {a s : Nat} {v : Value} {m : Nat} {f : Bool} {l c : Int} (h : IsDevAt w a v m f l c) {B : Nat} (ha : a < B) (hb : Below B w w2) (has : a ≠ s) (j : Nat) (u : Value) :
    IsDevAt (w2.setCell ⟨s, j, none⟩ u) a v m f l c := by
  unfold IsDevAt at *
  rw [Below.heap_setCell _ _ _ _ has, hb.block a ha]
  exact h

theorem wrote_mk {w w1 w2 w3 : World} {a s n c m nn : Nat} {D : DataW Value} {cur : Array Value} {p : Option Addr} {i : Nat} {l : List Value} {fused : Bool} {left count : Int}
    (hbut : But (fun k => k = a ∨ k = s ∨ k = m) w w1) (hs : w1.heap[s]? = some (.cells cur 155 (0, 0))) (hown : w1.ownsMap Tryz.prog 3 ptrElem m (nn + 1) (loosened D i p)) (hl : l.length = 512)
    (hz : w2.heap[w1.heap.size]? = some (.cells (splice zeros 0 l).toArray 158 (0, 0))) (hb : Below w1.heap.size w1 w2) (has : a ≠ s) (hsm : s ≠ m) (am : a ≠ m)
    (ha : a < w1.heap.size) (hsl : s < w1.heap.size) (hm : m < w1.heap.size)
    (hdev : IsDevAt w3 a (.slice (some ⟨s, 0, none⟩) n c) m fused (stepped fused left) (count + 1)) (hg3 : (w2.setCell ⟨s, i, none⟩ (.pointer (some ⟨w1.heap.size, 0, none⟩))).grownBy w3 (some a)) :
    Wrote w w3 a s n c m nn D cur p i l fused left count w1.heap.size := by
  have hsz2 := hb.size
  have hz' : w2.heap[w1.heap.size]? = some (.cells l.toArray 158 (0, 0)) := by rw [hz, splice_all zeros l (by rw [hl, zeros_length])]
  have hlt : w1.heap.size < w2.heap.size := (Array.getElem?_eq_some_iff.1 hz').1
  have hszs : (w2.setCell ⟨s, i, none⟩ (.pointer (some ⟨w1.heap.size, 0, none⟩))).heap.size = w2.heap.size := by simp [World.setCell]
  refine ⟨hbut.size, ?_, hdev, ?_, ?_, ?_⟩
  · rw [hg3.block _ (by rw [hszs]; exact hlt) (by simp; omega), Below.heap_setCell _ _ _ _ (by simp; omega)]
    exact hz'
  · rw [hg3.block _ (by rw [hszs]; omega) (by simpa using has.symm)]
    have hs2 := (hb.block s hsl).trans hs
    simp [World.setCell, Array.getElem?_modify, hs2]
  · obtain ⟨es, clock, hm', r⟩ := hown
    refine ⟨es, clock, ?_, r⟩
    rw [hg3.block _ (by rw [hszs]; omega) (by simpa using am.symm), Below.heap_setCell _ _ _ _ (by simpa using hsm.symm), hb.block m hm]
    exact hm'
  · have b1 : But (fun k => k = a ∨ k = s ∨ k = m) w1 w2 := But.of_below hb
    exact ((hbut.trans b1).setCell _ (by simp) _).trans (But.of_grown hg3 (by intro k hk; cases hk; simp))

set_option maxRecDepth 8000 in
set_option maxHeartbeats 1000000 in
theorem write_yes (i : Nat) (bb bo bc : Nat) (l : List Value) (a s n c m nn : Nat) (D : DataW Value) (cur : Array Value) (p : Option Addr) (fused : Bool) (left count : Int) (w : World)
    (h : IsDevAt w a (.slice (some ⟨s, 0, none⟩) n c) m fused left count) (hs : w.heap[s]? = some (.cells cur 155 (0, 0))) (hown : w.ownsMap Tryz.prog 3 ptrElem m nn D) (hnn : nn < maxLen) (has : a ≠ s)
    (hi : i < n) (hn : n ≤ 65536) (hcur : cur[i]? = some (.pointer p)) (hl : l.length = 512) (hone : ∀ v ∈ l, v.oneCell' = true)
    (hb : ∀ j v, l[j]? = some v → w.cell? ⟨bb, bo + j, none⟩ = some v)
    (hd : alive fused left) (hc0 : 0 ≤ count) (hc1 : count < 1000000000) (hlf : fused = true → 1 ≤ left ∧ left ≤ 9223372036854775807) :
    Calls Tryz.prog 73 #[.pointer (some ⟨a, 0, none⟩), .int .i64 i, .slice (some ⟨bb, bo, none⟩) 512 bc] w fun e w' => ∃ g, e = .returned (.int .i64 0) ∧ Wrote w w' a s n c m nn D cur p i l fused left count g := by
  have c21 := dead_any a _ m fused left count w h
  have c27 := has_any i a _ n c m fused left count w h
  rw [hd] at c21
  rw [decide_eq_true (by omega)] at c27
  obtain ⟨q, hlk, hat⟩ := look_ok hown (i := i) (by omega)
  have ham := map_ne_cells hown h
  have hsm := map_ne_cells hown hs
  have k0 := cellOf h 0
  have k1 := cellOf h 1
  simp [devCells] at k0 k1
  have k2 : w.cell? ⟨s, i, none⟩ = some (.pointer p) := (cellOf hs i).trans hcur
  have hz59 := zc_tBlk
  have halt := (Array.getElem?_eq_some_iff.1 h).1
  have hslt := (Array.getElem?_eq_some_iff.1 hs).1
  have hmlt := hown.lt
  have HB : Hid (∀ j v, l[j]? = some v → w.cell? ⟨bb, bo + j, none⟩ = some v) := hb
  have HH : Hid (IsDevAt w a (.slice (some ⟨s, 0, none⟩) n c) m fused left count) := h
  have HS : Hid (w.heap[s]? = some (.cells cur 155 (0, 0))) := hs
  have HO : Hid (w.ownsMap Tryz.prog 3 ptrElem m nn D) := hown
  have hnb : ((512 : Int) != 512) = false := by decide
  clear hb h hs hown hcur hat
  by_cases hhas : Maps.has D (.int .i64 i) = true
  · rw [hhas] at hlk
    have HA : Hid (Maps.has D (.int .i64 i) = true) := hhas
    clear hhas
    have tok : True := trivial
    go_enter Tryz.func73, Tryz.ntmps73
    go_wp2_with (first
      | (go_at_call 71; refine Calls_on c21 ?_)
      | (go_at_call 93; refine Calls_on c27 ?_)
      | (have tk := tok; refine wpList_copy_splice rfl _ _ 30 30 rfl 5 Tryz.underlying30 Tryz.size5 (some ⟨w.heap.size, 0, none⟩) (some ⟨bb, bo, none⟩) 512 512 512 bc rfl rfl w.heap.size 0 zeros 158 (heap_alloc_new w _) l hl
          (fun _ => ⟨rfl, ⟨bb, bo, none⟩, rfl, fun j v hj => by rw [Addr.add_lit]; exact Lib.cell?_alloc_some _ (HB.out j v hj)⟩) (by rw [hl, zeros_length]; decide) hone w.heap.size w ((Below.refl _ w).alloc (Nat.le_refl _) _) (Nat.le_refl _) ?_
         clear tk tok; intro w2 hz2 hb2
         have e0 := (hb2.cell (p := ⟨a, 0, none⟩) halt).trans k0
         have e2 := (hb2.cell (p := ⟨s, i, none⟩) hslt).trans k2
         have f2 := (hb2.frozen (p := ⟨s, i, none⟩) hslt).trans (frozenOf HS.out i))
      | (go_at_call 72; refine (done_any a _ m fused left count _ (by exact dev_store HH.out halt hb2 has _ _) hc0 hc1 hlf).mono ?_; rintro e w3 ⟨rfl, hdev3, hg3, hsz3⟩))
    go_ret
    refine ⟨w.heap.size, rfl, wrote_mk (But.refl _ w) HS.out ?_ hl hz2.out hb2 has hsm ham halt hslt hmlt hdev3 hg3⟩
    unfold loosened
    rw [if_pos HA.out]
    exact HO.out.mono (Nat.le_succ _)
  · have hhas' : Maps.has D (.int .i64 i) = false := by simpa using hhas
    rw [hhas'] at hlk
    have HA : Hid (Maps.has D (.int .i64 i) = false) := hhas'
    clear hhas hhas'
    have tok : True := trivial
    obtain ⟨w1, hput, hown1, hturn⟩ := put_run (w := w.drew) HO.out hnn (i := i) (by omega) p
    have hg1 : w.grownBy w1 (some m) := ⟨hturn.grown.os, hturn.grown.tape, hturn.grown.output, hturn.grown.size, hturn.grown.block⟩
    have HH1 : Hid (IsDevAt w1 a (.slice (some ⟨s, 0, none⟩) n c) m fused left count) := (hg1.block a halt (by simpa using ham)).trans HH.out
    have HS1 : Hid (w1.heap[s]? = some (.cells cur 155 (0, 0))) := (hg1.block s hslt (by simpa using hsm)).trans HS.out
    have hz1 : w1.heap.size = w.heap.size := by obtain ⟨_, _, _, _, _, rfl⟩ := hturn; simp [ChangeMaps.setBlock]
    have k01 : w1.cell? ⟨a, 0, none⟩ = some (.slice (some ⟨s, 0, none⟩) n c) := by have := cellOf HH1.out 0; simpa [devCells] using this
    have k21 : w1.cell? ⟨s, i, none⟩ = some (.pointer p) := hg1.cell k2 (by simpa using hsm)
    have HB1 : Hid (∀ j v, l[j]? = some v → w1.cell? ⟨bb, bo + j, none⟩ = some v) := fun j v hj => hg1.cell (HB.out j v hj) (fun e => by
      have e' : bb = m := by simpa using e
      subst e'
      obtain ⟨es, clock, hm, _⟩ := HO.out
      have := HB.out j v hj
      simp [World.cell?, hm] at this)
    have HO1 : Hid (w1.ownsMap Tryz.prog 3 ptrElem m (nn + 1) (D.put (.int .i64 i) (ptrD p))) := hown1
    have HG1 : Hid (w.grownBy w1 (some m)) := hg1
    have HZ1 : Hid (w1.heap.size = w.heap.size) := hz1
    clear hown1 hg1 hturn hz1
    go_enter Tryz.func73, Tryz.ntmps73
    go_wp2_with (first
      | (go_at_call 71; refine Calls_on c21 ?_)
      | (go_at_call 93; refine Calls_on c27 ?_))
    go_region
    go_wp2_with (first
      | (have tk := tok; refine wpList_copy_splice rfl _ _ 30 30 rfl 5 Tryz.underlying30 Tryz.size5 (some ⟨w1.heap.size, 0, none⟩) (some ⟨bb, bo, none⟩) 512 512 512 bc rfl rfl w1.heap.size 0 zeros 158 (heap_alloc_new w1 _) l hl
          (fun _ => ⟨rfl, ⟨bb, bo, none⟩, rfl, fun j v hj => by rw [Addr.add_lit]; exact Lib.cell?_alloc_some _ (HB1.out j v hj)⟩) (by rw [hl, zeros_length]; decide) hone w1.heap.size w1 ((Below.refl _ w1).alloc (Nat.le_refl _) _) (Nat.le_refl _) ?_
         clear tk tok; intro w2 hz2 hb2
         have e0 := (hb2.cell (p := ⟨a, 0, none⟩) (HZ1.out ▸ halt)).trans k01
         have e2 := (hb2.cell (p := ⟨s, i, none⟩) (HZ1.out ▸ hslt)).trans k21
         have f2 := (hb2.frozen (p := ⟨s, i, none⟩) (HZ1.out ▸ hslt)).trans (frozenOf HS1.out i))
      | (go_at_call 72; refine (done_any a _ m fused left count _ (by exact dev_store HH1.out (HZ1.out ▸ halt) hb2 has _ _) hc0 hc1 hlf).mono ?_; rintro e w3 ⟨rfl, hdev3, hg3, hsz3⟩))
    go_ret
    refine ⟨w1.heap.size, rfl, wrote_mk (But.of_grown HG1.out (by intro k hk; cases hk; simp)) HS1.out ?_ hl hz2.out hb2 has hsm ham (HZ1.out ▸ halt) (HZ1.out ▸ hslt) (HZ1.out ▸ hmlt) hdev3 hg3⟩
    unfold loosened
    rw [if_neg (by rw [HA.out]; decide)]
    exact HO1.out

end Go.Proofs.YtebdgcoandfocaaGreatDoor

/-
  DERIVED: THE SHELF's CONTRACTS AT THIS DUMP, IN PLAIN WORDS (tools/lay-plain.mjs out of 'YtebdgcoandfocaaGreatDoorShelf.lean', which tools/lay-shelf.mjs wrote): THE SAME DECLARATIONS UNDER THE SAME NAMES: 'import', 'namespace', 'open', 'def', 'theorem' AND NOTHING ELSE: no command of the shelf's: FOR A HAND-IN. Each laying: the table of numbers ('.._ren') and one theorem, a field a fact of the dump's own or the kernel's comparison; each contract: ONE APPLICATION.
-/
namespace Go.Proofs
open Go.Shelf
def Tryz.keysA_ren : Go.Shelf.Ren := ⟨fun | 7 => 104 | 10 => 120 | n => n, fun | 23 => 125 | 26 => 3 | 3 => 155 | 28 => 167 | 0 => 0 | 27 => 166 | 33 => 97 | 4 => 4 | n => n, fun | n => n⟩
theorem Tryz.keysA : Go.Proofs.SlLaysZI.n7 Tryz.prog Tryz.keysA_ren := {
  mixed := by kernel_rfl
  f7 := ⟨Tryz.f104.name, by decide, Tryz.func104.trans (congrArg some (by kernel_rfl))⟩
  f10 := ⟨Tryz.f120.name, by decide, Tryz.func120.trans (congrArg some (by kernel_rfl))⟩
  t0 := Tryz.underlying0
  a0 := Tryz.isAgg0
  z0 := Tryz.sizeOf0
  v0 := Tryz.zeroValue0
  t4 := Tryz.underlying4
  a4 := Tryz.isAgg4
  z4 := Tryz.sizeOf4
  v4 := Tryz.zeroValue4
  t23 := Tryz.underlying125
  a23 := Tryz.isAgg125
  z23 := Tryz.sizeOf125
  v23 := Tryz.zeroValue125
  t26 := Tryz.underlying3
  a26 := Tryz.isAgg3
  z26 := Tryz.sizeOf3
  v26 := Tryz.zeroValue3
  t27 := Tryz.underlying166
  a27 := Tryz.isAgg166
  z27 := Tryz.sizeOf166
  v27 := Tryz.zeroValue166
  t28 := Tryz.underlying167
  a28 := Tryz.isAgg167
  z28 := Tryz.sizeOf167
  v28 := Tryz.zeroValue167
  t33 := Tryz.underlying97
  a33 := Tryz.isAgg97
  z33 := Tryz.sizeOf97
  v33 := Tryz.zeroValue97 }
def Tryz.sortedA_ren : Go.Shelf.Ren := ⟨fun | 6 => 103 | 8 => 118 | 9 => 119 | 11 => 135 | 13 => 137 | 12 => 136 | 23 => 150 | 24 => 151 | 14 => 141 | 15 => 142 | 16 => 143 | 17 => 144 | 18 => 145 | 19 => 146 | 20 => 147 | 21 => 148 | 22 => 149 | 25 => 152 | 26 => 153 | 27 => 154 | 28 => 155 | 29 => 156 | 30 => 157 | 31 => 158 | n => n, fun | 26 => 3 | 28 => 167 | 24 => 65 | 0 => 0 | 3 => 3 | 37 => 99 | 48 => 53 | 50 => 61 | 4 => 4 | 40 => 208 | 39 => 207 | 45 => 213 | 5 => 5 | 9 => 9 | 51 => 217 | 55 => 221 | 57 => 223 | 58 => 224 | 33 => 97 | n => n, fun | n => n⟩
theorem Tryz.sortedA : Go.Proofs.SlLaysZI.n6 Tryz.prog Tryz.sortedA_ren := {
  mixed := by kernel_rfl
  f6 := ⟨Tryz.f103.name, by decide, Tryz.func103.trans (congrArg some (by kernel_rfl))⟩
  f8 := ⟨Tryz.f118.name, by decide, Tryz.func118.trans (congrArg some (by kernel_rfl))⟩
  f11 := ⟨Tryz.f135.name, by decide, Tryz.func135.trans (congrArg some (by kernel_rfl))⟩
  t0 := Tryz.underlying0
  a0 := Tryz.isAgg0
  z0 := Tryz.sizeOf0
  v0 := Tryz.zeroValue0
  t24 := Tryz.underlying65
  a24 := Tryz.isAgg65
  z24 := Tryz.sizeOf65
  v24 := Tryz.zeroValue65
  t26 := Tryz.underlying3
  a26 := Tryz.isAgg3
  z26 := Tryz.sizeOf3
  v26 := Tryz.zeroValue3
  t28 := Tryz.underlying167
  a28 := Tryz.isAgg167
  z28 := Tryz.sizeOf167
  v28 := Tryz.zeroValue167
  i26 := by kernel_rfl }
def Tryz.sortA_ren : Go.Shelf.Ren := ⟨fun | 5 => 119 | 8 => 137 | 7 => 136 | 19 => 150 | 20 => 151 | 10 => 141 | 11 => 142 | 12 => 143 | 13 => 144 | 14 => 145 | 15 => 146 | 16 => 147 | 17 => 148 | 18 => 149 | 30 => 152 | 31 => 153 | 32 => 154 | 33 => 155 | 34 => 156 | 35 => 157 | 40 => 158 | n => n, fun | 23 => 65 | 25 => 3 | 3 => 3 | 32 => 99 | 22 => 65 | 0 => 0 | 44 => 53 | 46 => 61 | 4 => 4 | 36 => 208 | 35 => 207 | 41 => 213 | 5 => 5 | 9 => 9 | 53 => 217 | 57 => 221 | 63 => 223 | 64 => 224 | n => n, fun | n => n⟩
theorem Tryz.sortA : Go.Proofs.SlLaysM.n5 Tryz.prog Tryz.sortA_ren := {
  mixed := by kernel_rfl
  f5 := ⟨Tryz.f119.name, by decide, Tryz.func119.trans (congrArg some (by kernel_rfl))⟩
  f7 := ⟨Tryz.f136.name, by decide, Tryz.func136.trans (congrArg some (by kernel_rfl))⟩
  f8 := Tryz.func137.trans (congrArg some (by kernel_rfl))
  f10 := ⟨Tryz.f141.name, by decide, Tryz.func141.trans (congrArg some (by kernel_rfl))⟩
  f11 := ⟨Tryz.f142.name, by decide, Tryz.func142.trans (congrArg some (by kernel_rfl))⟩
  f12 := ⟨Tryz.f143.name, by decide, Tryz.func143.trans (congrArg some (by kernel_rfl))⟩
  f13 := ⟨Tryz.f144.name, by decide, Tryz.func144.trans (congrArg some (by kernel_rfl))⟩
  f14 := ⟨Tryz.f145.name, by decide, Tryz.func145.trans (congrArg some (by kernel_rfl))⟩
  f15 := ⟨Tryz.f146.name, by decide, Tryz.func146.trans (congrArg some (by kernel_rfl))⟩
  f16 := ⟨Tryz.f147.name, by decide, Tryz.func147.trans (congrArg some (by kernel_rfl))⟩
  f17 := ⟨Tryz.f148.name, by decide, Tryz.func148.trans (congrArg some (by kernel_rfl))⟩
  f18 := ⟨Tryz.f149.name, by decide, Tryz.func149.trans (congrArg some (by kernel_rfl))⟩
  f19 := Tryz.func150.trans (congrArg some (by kernel_rfl))
  f20 := Tryz.func151.trans (congrArg some (by kernel_rfl))
  f30 := ⟨Tryz.f152.name, by decide, Tryz.func152.trans (congrArg some (by kernel_rfl))⟩
  f31 := Tryz.func153.trans (congrArg some (by kernel_rfl))
  f32 := Tryz.func154.trans (congrArg some (by kernel_rfl))
  f33 := ⟨Tryz.f155.name, by decide, Tryz.func155.trans (congrArg some (by kernel_rfl))⟩
  f34 := ⟨Tryz.f156.name, by decide, Tryz.func156.trans (congrArg some (by kernel_rfl))⟩
  f35 := ⟨Tryz.f157.name, by decide, Tryz.func157.trans (congrArg some (by kernel_rfl))⟩
  f40 := ⟨Tryz.f158.name, by decide, Tryz.func158.trans (congrArg some (by kernel_rfl))⟩
  t0 := Tryz.underlying0
  a0 := Tryz.isAgg0
  z0 := Tryz.sizeOf0
  v0 := Tryz.zeroValue0
  t3 := Tryz.underlying3
  a3 := Tryz.isAgg3
  z3 := Tryz.sizeOf3
  v3 := Tryz.zeroValue3
  t4 := Tryz.underlying4
  a4 := Tryz.isAgg4
  z4 := Tryz.sizeOf4
  v4 := Tryz.zeroValue4
  t5 := Tryz.underlying5
  a5 := Tryz.isAgg5
  z5 := Tryz.sizeOf5
  v5 := Tryz.zeroValue5
  t9 := Tryz.underlying9
  a9 := Tryz.isAgg9
  z9 := Tryz.sizeOf9
  v9 := Tryz.zeroValue9
  t22 := Tryz.underlying65
  a22 := Tryz.isAgg65
  z22 := Tryz.sizeOf65
  v22 := Tryz.zeroValue65
  t23 := Tryz.underlying65
  a23 := Tryz.isAgg65
  z23 := Tryz.sizeOf65
  v23 := Tryz.zeroValue65
  t25 := Tryz.underlying3
  a25 := Tryz.isAgg3
  z25 := Tryz.sizeOf3
  v25 := Tryz.zeroValue3
  t32 := Tryz.underlying99
  a32 := Tryz.isAgg99
  z32 := Tryz.sizeOf99
  v32 := Tryz.zeroValue99
  t35 := Tryz.underlying207
  a35 := Tryz.isAgg207
  z35 := Tryz.sizeOf207
  v35 := Tryz.zeroValue207
  t36 := Tryz.underlying208
  a36 := Tryz.isAgg208
  z36 := Tryz.sizeOf208
  v36 := Tryz.zeroValue208
  t41 := Tryz.underlying213
  a41 := Tryz.isAgg213
  z41 := Tryz.sizeOf213
  v41 := Tryz.zeroValue213
  t44 := Tryz.underlying53
  a44 := Tryz.isAgg53
  z44 := Tryz.sizeOf53
  v44 := Tryz.zeroValue53
  t46 := Tryz.underlying61
  a46 := Tryz.isAgg61
  z46 := Tryz.sizeOf61
  v46 := Tryz.zeroValue61
  t53 := Tryz.underlying217
  a53 := Tryz.isAgg217
  z53 := Tryz.sizeOf217
  v53 := Tryz.zeroValue217
  t57 := Tryz.underlying221
  a57 := Tryz.isAgg221
  z57 := Tryz.sizeOf221
  v57 := Tryz.zeroValue221
  t63 := Tryz.underlying223
  a63 := Tryz.isAgg223
  z63 := Tryz.sizeOf223
  v63 := Tryz.zeroValue223
  t64 := Tryz.underlying224
  a64 := Tryz.isAgg224
  z64 := Tryz.sizeOf224
  v64 := Tryz.zeroValue224 }
def Tryz.cloneBy_ren : Go.Shelf.Ren := ⟨fun | 41 => 92 | n => n, fun | 22 => 30 | 23 => 5 | 4 => 4 | n => n, fun | n => n⟩
theorem Tryz.cloneBy : Go.Proofs.SlLaysE0.n41 Tryz.prog Tryz.cloneBy_ren := {
  mixed := by kernel_rfl
  f41 := ⟨Tryz.f92.name, by decide, Tryz.func92.trans (congrArg some (by kernel_rfl))⟩
  t4 := Tryz.underlying4
  a4 := Tryz.isAgg4
  z4 := Tryz.sizeOf4
  v4 := Tryz.zeroValue4
  t22 := Tryz.underlying30
  a22 := Tryz.isAgg30
  z22 := Tryz.sizeOf30
  v22 := Tryz.zeroValue30 }
def Tryz.containsA_ren : Go.Shelf.Ren := ⟨fun | 8 => 117 | 6 => 134 | n => n, fun | 22 => 66 | 23 => 143 | 25 => 177 | 4 => 4 | 3 => 3 | 0 => 0 | n => n, fun | n => n⟩
theorem Tryz.containsA : Go.Proofs.SlLaysH0.n8 Tryz.prog Tryz.containsA_ren := {
  mixed := by kernel_rfl
  f6 := ⟨Tryz.f134.name, by decide, Tryz.func134.trans (congrArg some (by kernel_rfl))⟩
  f8 := ⟨Tryz.f117.name, by decide, Tryz.func117.trans (congrArg some (by kernel_rfl))⟩
  t0 := Tryz.underlying0
  a0 := Tryz.isAgg0
  z0 := Tryz.sizeOf0
  v0 := Tryz.zeroValue0
  t3 := Tryz.underlying3
  a3 := Tryz.isAgg3
  z3 := Tryz.sizeOf3
  v3 := Tryz.zeroValue3
  t4 := Tryz.underlying4
  a4 := Tryz.isAgg4
  z4 := Tryz.sizeOf4
  v4 := Tryz.zeroValue4
  t22 := Tryz.underlying66
  a22 := Tryz.isAgg66
  z22 := Tryz.sizeOf66
  v22 := Tryz.zeroValue66
  t25 := Tryz.underlying177
  a25 := Tryz.isAgg177
  z25 := Tryz.sizeOf177
  v25 := Tryz.zeroValue177 }
end Go.Proofs

/-
  Loose of package device: the keys of its map, rising.
-/
namespace Go.Proofs.YtebdgcoandfocaaGreatDoor
open Go.RowKit Go.Maps Go.Sort Go.Shelf

/-- slices.Sort's two contracts at this program. -/
theorem sortsA (m : Nat) : AnyZI.SortsIn Tryz.prog Tryz.sortedA_ren Fence.wide m :=
  ⟨fun blk off cap ss W hH hblk hsz => callsIn_wide.2 (AnyM.slices_Sort_int Tryz.sortA blk off cap ss W hH hblk hsz),
   fun p cap W => callsIn_wide.2 (AnyM.slices_Sort_int_none Tryz.sortA p cap W)⟩

set_option maxRecDepth 8000 in
set_option maxHeartbeats 1000000 in
theorem loose_any (a : Nat) (v0 : Value) (b nn : Nat) (D0 : DataW Value) (fused : Bool) (left count : Int) (w : World) (h : IsDevAt w a v0 b fused left count)
    (hown : w.ownsMap Tryz.prog 3 ptrElem b nn D0) (hmax : Maps.size D0 ≤ maxLen) (hbytes : Maps.size D0 * 8 ≤ 140737488355328) :
    Calls Tryz.prog 83 #[.pointer (some ⟨a, 0, none⟩)] w fun e w' => ∃ (v : Value) (ss : List Int), e = .returned v ∧ ss.Perm (intKeys D0) ∧
      w'.ownsRow w.heap.size 3 1 v ss.length ((ss.mergeSort (fun x y => decide (x ≤ y))).map encZ) ∧ (v = .slice none 0 0 ↔ ss = []) ∧ Below w.heap.size w w' := by
  refine (callsIn_wide (n := 6)).1 ?_
  have hbl := hown.lt
  have k1 := cellOf h 1
  simp [devCells] at k1
  have hseq : SeqGives Fence.wide 2 Tryz.prog 120 #[.pointer (some ⟨w.heap.size, 0, none⟩)] encZ (fun ss => ss.Perm (intKeys D0)) (Maps.size D0) (w.alloc (.cells #[.map (some b)] 125)) :=
    AnyZI.keys_gives (ρ := Tryz.keysA_ren) { Tryz.keysA with } Fence.wide _ trivial rfl (by omega) w.heap.size b nn D0 _ (by simp) (by simp) (by
      obtain ⟨es, clock, hb, Ft, hs, hD⟩ := hown
      exact ⟨es, clock, (Below.heap_alloc _ _ b hbl).trans hb, Ft, hs, hD⟩)
  have cK : ∀ mb W, CallsIn Fence.wide 5 Tryz.prog 104 #[.map mb] W fun e w' => e = .returned (.func (.func 120) #[] #[.pointer (some ⟨W.heap.size, 0, none⟩)]) ∧ w' = W.alloc (.cells #[.map mb] 125) := fun mb W => AnyZI.keys_in Tryz.keysA Fence.wide 5 trivial rfl mb W
  have cS := AnyZI.sorted_in Tryz.sortedA Fence.wide 5 trivial trivial trivial trivial rfl (by omega) (sortsA _) (enters_of Tryz.func119 (by kernel_rfl) rfl) 120 #[.pointer (some ⟨w.heap.size, 0, none⟩)] trivial (enters_of Tryz.func120 (by kernel_rfl) rfl) _ _ hmax hbytes _ hseq
  change CallsIn _ _ Tryz.prog 103 _ _ _ at cS
  have hfK : Fence.wide.fn 104 := trivial
  have hfS : Fence.wide.fn 103 := trivial
  clear hown h hseq
  refine callsIn_of_wp Tryz.func83 rfl trivial ?_ rfl
  simp only [Tryz.ntmps83, List.size_toArray, List.length_cons, List.length_nil, Nat.reduceAdd, Nat.reduceSub, Array.replicate_succ, Array.replicate_zero, List.push_toArray, List.append_toArray, List.nil_append, List.cons_append]
  gi_wp2_with (first
    | (gi_at_call 104; refine (cK _ _).mono ?_; rintro e w' ⟨rfl, rfl⟩)
    | (gi_at_call 103; refine cS.mono ?_; rintro e w' ⟨v, ss, rfl, hS, hrow, hnil, hb⟩))
  go_ret
  exact ⟨v, ss, rfl, hS, ownsRow_base_a hrow (by simp), hnil, ((Below.refl _ w).alloc (Nat.le_refl _) _).trans (hb.mono (by simp))⟩

/-- The keys of the map, rising. -/
def keys (D : DataW Value) : List Int := (intKeys D).mergeSort (fun x y => decide (x ≤ y))

/-- Loose: a new slice that holds the keys, rising. -/
theorem loose_keys (a : Nat) (v0 : Value) (b nn : Nat) (D0 : DataW Value) (fused : Bool) (left count : Int) (w : World) (h : IsDevAt w a v0 b fused left count)
    (hown : w.ownsMap Tryz.prog 3 ptrElem b nn D0) (hmax : Maps.size D0 ≤ maxLen) (hbytes : Maps.size D0 * 8 ≤ 140737488355328) :
    Calls Tryz.prog 83 #[.pointer (some ⟨a, 0, none⟩)] w fun e w' => ∃ (p : Option Addr) (cp : Nat), e = .returned (.slice p (keys D0).length cp) ∧
      (0 < (keys D0).length → ∃ g cur, p = some ⟨g, 0, none⟩ ∧ w.heap.size ≤ g ∧ w'.heap[g]? = some (.cells cur 3 (0, 0)) ∧ ∀ (k : Nat) x, (keys D0)[k]? = some x → cur[k]? = some (.int .i64 x)) ∧ Below w.heap.size w w' := by
  refine (loose_any a v0 b nn D0 fused left count w h hown hmax hbytes).mono ?_
  rintro e w' ⟨v, ss, rfl, hperm, hrow, hnil, hb⟩
  have hk : ss.mergeSort (fun x y => decide (x ≤ y)) = keys D0 := mergeSort_of_perm_i hperm
  have hlen : ss.length = (keys D0).length := by rw [← hk]; simp
  rw [hk, hlen] at hrow
  obtain ⟨_, hrow⟩ := hrow
  rcases hrow with ⟨rfl, h0⟩ | ⟨g, cap, cur, rfl, hg, hblk, hcap, _, hsz, htk⟩
  · exact ⟨none, 0, by rw [h0], fun hp => by omega, hb⟩
  · refine ⟨_, cap, rfl, fun _ => ⟨g, cur, rfl, hg, hblk, fun k x hx => ?_⟩, hb⟩
    have h1 : (cur.toList.take ((keys D0).length * 1))[k]? = some (encZ x) := by rw [htk]; simp [hx]
    rw [List.getElem?_take] at h1
    split at h1
    · simpa [encZ] using h1
    · cases h1

end Go.Proofs.YtebdgcoandfocaaGreatDoor

/-
  Full of the law's package: n bytes of some bytes, over and over; Flush and Fuse of package device.
-/
namespace Go.Proofs.YtebdgcoandfocaaGreatDoor
open Go.RowKit Go.Maps

set_option maxRecDepth 8000 in
set_option maxHeartbeats 400000 in
theorem flush_yes (a : Nat) (v : Value) (m : Nat) (fused : Bool) (left count : Int) (w : World) (h : IsDevAt w a v m fused left count)
    (hd : alive fused left) (hc0 : 0 ≤ count) (hc1 : count < 1000000000) (hlf : fused = true → 1 ≤ left ∧ left ≤ 9223372036854775807) :
    Calls Tryz.prog 52 #[.pointer (some ⟨a, 0, none⟩)] w fun e w' => ∃ m', e = .returned (.int .i64 0) ∧ w.heap.size ≤ m' ∧ IsDevAt w' a v m' fused (stepped fused left) (count + 1) ∧
      w'.heap[m']? = some (.map #[] 0) ∧ But (fun k => k = a) w w' := by
  have c21 := dead_any a v m fused left count w h
  rw [hd] at c21
  have halt := (Array.getElem?_eq_some_iff.1 h).1
  have hmm := @run_makeMap Tryz.prog
  have k1 := cellOf h 1
  have f1 := frozenOf h 1
  simp [devCells] at k1
  have HH : Hid (IsDevAt w a v m fused left count) := h
  clear h hd
  have hdev : Hid (IsDevAt ((w.setCell ⟨a, 1, none⟩ (.map (some w.heap.size))).alloc (.map #[] 0)) a v w.heap.size fused left count) := by
    show _ = _
    have := HH.out.set1 w.heap.size
    rw [Below.heap_alloc _ _ _ (by simp [World.setCell]; exact halt)]
    exact this
  go_enter Tryz.func52, Tryz.ntmps52
  go_wp2_with (first
    | (go_at_call 71; refine Calls_on c21 ?_)
    | (go_at_call 72; refine (done_any a v w.heap.size fused left count _ hdev.out hc0 hc1 hlf).mono ?_; rintro e w3 ⟨rfl, hdev3, hg3, hsz3⟩))
  go_ret
  have hszs : ((w.setCell ⟨a, 1, none⟩ (.map (some w.heap.size))).alloc (.map #[] 0)).heap.size = w.heap.size + 1 := by simp [World.setCell]
  refine ⟨w.heap.size, rfl, Nat.le_refl _, hdev3, ?_, ?_⟩
  · rw [hg3.block _ (by rw [hszs]; omega) (by simp; omega)]
    have := (MapKept.heap_alloc (w.setCell ⟨a, 1, none⟩ (.map (some w.heap.size))) (.map #[] 0)).1
    simpa [World.setCell] using this
  · exact (((But.refl (fun k => k = a) w).setCell ⟨a, 1, none⟩ rfl _).alloc _).trans (But.of_grown hg3 (by intro k hk; cases hk; rfl))

end Go.Proofs.YtebdgcoandfocaaGreatDoor

/-
  How package wal writes numbers, blocks and records, as functions of lists of bytes. (No program is walked here.)
-/
namespace Go.Proofs.YtebdgcoandfocaaGreatDoor

abbrev By := List (BitVec 8)

/-- k bytes of a number, the lowest first. -/
def leK : Nat → Nat → By
  | 0, _ => []
  | k + 1, n => BitVec.ofNat 8 n :: leK k (n / 256)
def le8 (n : Nat) : By := leK 8 n
theorem leK_length (k n : Nat) : (leK k n).length = k := by
  induction k generalizing n with
  | zero => rfl
  | succ k ih => simp [leK, ih]
theorem le8_length (n : Nat) : (le8 n).length = 8 := leK_length 8 n
theorem leK_get (k n i : Nat) (h : i < k) : (leK k n)[i]? = some (BitVec.ofNat 8 (n / 256 ^ i)) := by
  induction k generalizing n i with
  | zero => omega
  | succ k ih =>
    cases i with
    | zero => simp [leK]
    | succ i =>
      rw [leK, List.getElem?_cons_succ, ih _ _ (by omega), Nat.div_div_eq_div_mul, Nat.pow_succ, Nat.mul_comm]
theorem leN_leK (k n : Nat) : leN (leK k n) = n % 256 ^ k := by
  induction k generalizing n with
  | zero => simp [leK, leN, Nat.mod_one]
  | succ k ih =>
    have e : 256 ^ (k + 1) = 256 * 256 ^ k := by rw [Nat.pow_succ, Nat.mul_comm]
    rw [leK, leN, ih, BitVec.toNat_ofNat, e, Nat.mod_mul]
theorem leN_le8 (n : Nat) (h : n < 18446744073709551616) : leN (le8 n) = n := by
  rw [le8, leN_leK]; exact Nat.mod_eq_of_lt (by simpa using h)

/-- Zeros up to 504 bytes. -/
def pad (c : By) : By := c ++ List.replicate (504 - c.length) 0#8
theorem pad_length (c : By) (h : c.length ≤ 504) : (pad c).length = 504 := by simp [pad]; omega
def sealed (c : By) : By := framed (pad c)
theorem sealed_length (c : By) (h : c.length ≤ 504) : (sealed c).length = 512 := by rw [sealed, framed_length, pad_length c h]

theorem framed_take (bs : By) : (framed bs).take 4 = le4 (BitVec.ofNat 32 bs.length) := rfl
theorem framed_mid (bs : By) : ((framed bs).drop 4).take 4 = le4 (crcSum bs) := rfl
theorem framed_drop (bs : By) : (framed bs).drop 8 = bs := rfl
theorem unf_framed (bs : By) (h : bs.length ≤ 1048576) : unf (framed bs) = (bs, 8 + bs.length, 0) := by
  have hn : (BitVec.ofNat 32 bs.length).toNat = bs.length := by rw [BitVec.toNat_ofNat]; exact Nat.mod_eq_of_lt (by omega)
  unfold unf
  rw [framed_length, if_neg (by omega), framed_take, framed_mid, framed_drop, leN_le4, leN_le4, hn, if_neg (by omega), List.take_of_length_le (Nat.le_refl _), if_neg (by simp)]

/-- What unseal gives. -/
def opened (b : By) : Option By := if (unf b).2.2 = 0 ∧ (unf b).1.length = 504 then some (unf b).1 else none
theorem opened_sealed (c : By) (h : c.length ≤ 504) : opened (sealed c) = some (pad c) := by
  have hl := pad_length c h
  unfold opened
  rw [sealed, unf_framed _ (by omega)]
  simp [hl]
def zeroB : By := List.replicate 512 0#8
theorem zeroB_length : zeroB.length = 512 := by rw [zeroB, List.length_replicate]
theorem opened_zero : opened zeroB = none := by
  unfold opened
  have h4 : zeroB.take 4 = [0#8, 0#8, 0#8, 0#8] := by decide
  have h8 : (zeroB.drop 4).take 4 = [0#8, 0#8, 0#8, 0#8] := by decide
  have hu : unf zeroB = ([], 8, 0) := by
    unfold unf
    rw [if_neg (by rw [zeroB_length]; omega), h4, h8]
    have : leN [0#8, 0#8, 0#8, 0#8] = 0 := by decide
    rw [this, if_neg (by omega), List.take_zero]
    rw [if_neg (by decide)]
  rw [hu]
  simp

/-- The word by which a head is known. -/
def mark : By := [108#8, 97#8, 103#8, 111#8, 111#8, 110#8, 58#8, 32#8, 97#8, 32#8, 118#8, 111#8, 108#8, 117#8, 109#8, 101#8, 32#8, 111#8, 102#8, 32#8, 98#8, 108#8, 111#8, 99#8, 107#8, 115#8]
def headC (t c n : Nat) : By := le8 t ++ (le8 c ++ (le8 n ++ mark))
theorem headC_length (t c n : Nat) : (headC t c n).length = 50 := by simp [headC, le8_length, mark]
def headB (t c n : Nat) : By := sealed (headC t c n)
theorem headB_length (t c n : Nat) : (headB t c n).length = 512 := sealed_length _ (by rw [headC_length]; omega)

/-- A commit's puts: block and data. -/
abbrev Rec := List (Nat × By)
def recBytes (ps : Rec) : By := le8 ps.length ++ (ps.map fun p => le8 p.1 ++ p.2).flatten
def pagesFor (k : Nat) : Nat := (8 + k * 520 + 495) / 496
def recP (ps : Rec) : By := recBytes ps ++ List.replicate (pagesFor ps.length * 496 - (recBytes ps).length) 0#8
/-- Page i of a record. -/
def body (ps : Rec) (i : Nat) : By := ((recP ps).drop (i * 496)).take 496
def pageB (t : Nat) (ps : Rec) (i : Nat) : By := framed (le8 t ++ body ps i)

/-- A record that a volume of nb blocks takes. -/
def okRec (nb : Nat) (ps : Rec) : Prop := 1 ≤ ps.length ∧ ps.length ≤ nb ∧ ∀ p ∈ ps, p.1 < nb ∧ p.2.length = 512

theorem flat_length (ps : Rec) (h : ∀ p ∈ ps, p.2.length = 512) : ((ps.map fun p => le8 p.1 ++ p.2).flatten).length = ps.length * 520 := by
  induction ps with
  | nil => rfl
  | cons p ps ih =>
    simp only [List.map_cons, List.flatten_cons, List.length_append, le8_length, List.length_cons]
    rw [h p (by simp), ih (fun q hq => h q (by simp [hq]))]
    omega
theorem rec_length (ps : Rec) (h : ∀ p ∈ ps, p.2.length = 512) : (recBytes ps).length = 8 + ps.length * 520 := by
  rw [recBytes, List.length_append, le8_length, flat_length ps h]
theorem pagesFor_ge (k : Nat) : 8 + k * 520 ≤ pagesFor k * 496 := by unfold pagesFor; omega
theorem pagesFor_lt (k : Nat) : pagesFor k * 496 < 8 + k * 520 + 496 := by unfold pagesFor; omega
theorem recP_length (ps : Rec) (h : ∀ p ∈ ps, p.2.length = 512) : (recP ps).length = pagesFor ps.length * 496 := by
  have h1 := rec_length ps h
  have h2 := pagesFor_ge ps.length
  simp [recP, h1]; omega
theorem body_length (ps : Rec) (h : ∀ p ∈ ps, p.2.length = 512) (i : Nat) (hi : i < pagesFor ps.length) : (body ps i).length = 496 := by
  rw [body, List.length_take, List.length_drop, recP_length ps h]
  have : (i + 1) * 496 ≤ pagesFor ps.length * 496 := Nat.mul_le_mul_right _ hi
  omega
theorem opened_pageB (t : Nat) (ps : Rec) (h : ∀ p ∈ ps, p.2.length = 512) (i : Nat) (hi : i < pagesFor ps.length) : opened (pageB t ps i) = some (le8 t ++ body ps i) := by
  have hl : (le8 t ++ body ps i).length = 504 := by rw [List.length_append, le8_length, body_length ps h i hi]
  unfold opened
  rw [pageB, unf_framed _ (by omega)]
  simp [body_length ps h i hi, le8_length]
/-- The blocks that some records hold: each as the last one has it. -/
def laidOn (st : Nat → Option By) (ps : Rec) : Nat → Option By := ps.foldl (fun st p => fun i => if i = p.1 then some p.2 else st i) st
theorem laidOn_append (st : Nat → Option By) (ps qs : Rec) : laidOn st (ps ++ qs) = laidOn (laidOn st ps) qs := List.foldl_append ..

end Go.Proofs.YtebdgcoandfocaaGreatDoor

/-
  Numbers of eight bytes: appendNumber and number of package wal.
-/
namespace Go.Proofs.YtebdgcoandfocaaGreatDoor
open Go.RowKit Go.Maps

/-- Where a walk shall halt. -/
structure Stop (p : Prop) : Prop where
  out : p

theorem owns_block {W : World} {base : Nat} {v : Value} {n : Nat} {xs : List Value} (h : W.ownsRow base 5 1 v n xs) : ∀ k, v.ownBlock = some k → base ≤ k := by
  intro k hk
  rcases h.2 with ⟨rfl, _⟩ | ⟨g, cap, cur, rfl, hg, _⟩
  · cases hk
  · cases hk; exact hg
theorem u8_of (n m : Nat) (z : Int) (hz : z = ((n / m : Nat) : Int) % 256) : Value.int .u8 z = u8v (BitVec.ofNat 8 (n / m)) := by
  unfold u8v
  rw [BitVec.toNat_ofNat, hz]
  congr 1

theorem bytes_one {W : World} {b : Nat} {z : Int} {x : BitVec 8} (h : W.cell? ⟨b, 0, none⟩ = some (.int .u8 z)) (hz : Value.int .u8 z = u8v x) : Bytes W (some ⟨b, 0, none⟩) [x] := by
  refine fun _ => ⟨b, 0, rfl, fun j y hj => ?_⟩
  cases j with
  | zero => simp at hj; subst hj; rw [← hz]; exact h
  | succ j => simp at hj

theorem bytes_new (w : World) (z : Int) (x : BitVec 8) (t : TypeId) (hz : Value.int .u8 z = u8v x) : Bytes (w.alloc (.cells #[.int .u8 z] t)) (some ⟨w.heap.size, 0, none⟩) [x] :=
  bytes_one (cellOf (heap_alloc_new w _) 0) hz

theorem le8_step (n i : Nat) (hi : i < 8) (x : BitVec 8) (hx : x = BitVec.ofNat 8 (n / 256 ^ i)) : (le8 n).take (i + 1) = (le8 n).take i ++ [x] := by
  rw [List.take_add_one, le8, leK_get 8 n i hi, hx]; rfl

set_option maxRecDepth 8000 in
set_option maxHeartbeats 2000000 in
theorem appendNumber_any (v : Value) (k : Nat) (bs : By) (n : Nat) (base : Nat) (w : World) (hown : w.ownsRow base 5 1 v k (bs.map u8v)) (hk : k ≤ 1073741824) (hn : n < 4611686018427387904) (hbase : base ≤ w.heap.size) :
    Calls Tryz.prog 94 #[v, .int .i64 n] w fun e w' => ∃ v', e = .returned v' ∧ w'.ownsRow base 5 1 v' (k + 8) ((bs ++ le8 n).map u8v) ∧ Below base w w' := by
  have HO : Hid (w.ownsRow base 5 1 v k (bs.map u8v)) := hown
  clear hown
  go_enter Tryz.func94, Tryz.ntmps94
  go_wp2_with fail
  go_loopw [0, 6] (fun vv ii wr => ∃ i : Nat, i ≤ 8 ∧ ii = .int .i64 i ∧ Hid (wr.ownsRow base 5 1 vv (k + i) ((bs ++ (le8 n).take i).map u8v) ∧ Below base w wr)) (fun _ ii _ => 8 - (intOf ii).toNat)
  case atStart => exact ⟨0, Nat.zero_le _, rfl, by simpa using HO.out, Below.refl _ _⟩
  case round =>
    obtain ⟨i, hi, rfl, HJ⟩ := hrel
    obtain ⟨p0, l0, c0, hv⟩ : ∃ p l c, u0 = Value.slice p l c := by
      rcases HJ.out.1.2 with ⟨e, _⟩ | ⟨g, cap, cur, e, _⟩ <;> exact ⟨_, _, _, e⟩
    subst hv
    have hj : i = 0 ∨ i = 1 ∨ i = 2 ∨ i = 3 ∨ i = 4 ∨ i = 5 ∨ i = 6 ∨ i = 7 ∨ i = 8 := by omega
    rcases hj with rfl | rfl | rfl | rfl | rfl | rfl | rfl | rfl | rfl
    · have HZ : Hid (Value.int .u8 ((n : Int) % 256) = u8v (BitVec.ofNat 8 (n / 256 ^ 0))) := u8_of n _ _ (by simp)
      have HST : Hid (_ = _) := le8_step n 0 (by omega) _ rfl
      go_wp2_with (at_builtin; refine wpList_append_bytes rfl _ _ rfl base _ (k + 0) _ rfl (HJ.out.1.alloc _) _ [BitVec.ofNat 8 (n / 256 ^ 0)] 1 rfl (bytes_new _ _ _ _ HZ.out) (by simp; omega) (by have := HJ.out.2.size; simp; omega) ?_; intro v' w1 hown1 hg1 _)
      refine ⟨⟨1, by omega, rfl, ?_, ?_⟩, by simp [intOf]⟩
      · rw [HST.out, ← List.append_assoc, List.map_append]; exact hown1
      · exact (HJ.out.2.alloc (by have := HJ.out.2.size; omega) _).grown hg1 (by have := HJ.out.2.size; simp; omega) (owns_block HJ.out.1)
    · have HZ : Hid (Value.int .u8 ((n : Int) / 256 % 256) = u8v (BitVec.ofNat 8 (n / 256 ^ 1))) := u8_of n _ _ (by simp)
      have HST : Hid (_ = _) := le8_step n 1 (by omega) _ rfl
      go_wp2_with (at_builtin; refine wpList_append_bytes rfl _ _ rfl base _ (k + 1) _ rfl (HJ.out.1.alloc _) _ [BitVec.ofNat 8 (n / 256 ^ 1)] 1 rfl (bytes_new _ _ _ _ HZ.out) (by simp; omega) (by have := HJ.out.2.size; simp; omega) ?_; intro v' w1 hown1 hg1 _)
      refine ⟨⟨2, by omega, rfl, ?_, ?_⟩, by simp [intOf]⟩
      · rw [HST.out, ← List.append_assoc, List.map_append]; exact hown1
      · exact (HJ.out.2.alloc (by have := HJ.out.2.size; omega) _).grown hg1 (by have := HJ.out.2.size; simp; omega) (owns_block HJ.out.1)
    · have HZ : Hid (Value.int .u8 ((n : Int) / 65536 % 256) = u8v (BitVec.ofNat 8 (n / 256 ^ 2))) := u8_of n _ _ (by simp)
      have HST : Hid (_ = _) := le8_step n 2 (by omega) _ rfl
      go_wp2_with (at_builtin; refine wpList_append_bytes rfl _ _ rfl base _ (k + 2) _ rfl (HJ.out.1.alloc _) _ [BitVec.ofNat 8 (n / 256 ^ 2)] 1 rfl (bytes_new _ _ _ _ HZ.out) (by simp; omega) (by have := HJ.out.2.size; simp; omega) ?_; intro v' w1 hown1 hg1 _)
      refine ⟨⟨3, by omega, rfl, ?_, ?_⟩, by simp [intOf]⟩
      · rw [HST.out, ← List.append_assoc, List.map_append]; exact hown1
      · exact (HJ.out.2.alloc (by have := HJ.out.2.size; omega) _).grown hg1 (by have := HJ.out.2.size; simp; omega) (owns_block HJ.out.1)
    · have HZ : Hid (Value.int .u8 ((n : Int) / 16777216 % 256) = u8v (BitVec.ofNat 8 (n / 256 ^ 3))) := u8_of n _ _ (by simp)
      have HST : Hid (_ = _) := le8_step n 3 (by omega) _ rfl
      go_wp2_with (at_builtin; refine wpList_append_bytes rfl _ _ rfl base _ (k + 3) _ rfl (HJ.out.1.alloc _) _ [BitVec.ofNat 8 (n / 256 ^ 3)] 1 rfl (bytes_new _ _ _ _ HZ.out) (by simp; omega) (by have := HJ.out.2.size; simp; omega) ?_; intro v' w1 hown1 hg1 _)
      refine ⟨⟨4, by omega, rfl, ?_, ?_⟩, by simp [intOf]⟩
      · rw [HST.out, ← List.append_assoc, List.map_append]; exact hown1
      · exact (HJ.out.2.alloc (by have := HJ.out.2.size; omega) _).grown hg1 (by have := HJ.out.2.size; simp; omega) (owns_block HJ.out.1)
    · have HZ : Hid (Value.int .u8 ((n : Int) / 4294967296 % 256) = u8v (BitVec.ofNat 8 (n / 256 ^ 4))) := u8_of n _ _ (by simp)
      have HST : Hid (_ = _) := le8_step n 4 (by omega) _ rfl
      go_wp2_with (at_builtin; refine wpList_append_bytes rfl _ _ rfl base _ (k + 4) _ rfl (HJ.out.1.alloc _) _ [BitVec.ofNat 8 (n / 256 ^ 4)] 1 rfl (bytes_new _ _ _ _ HZ.out) (by simp; omega) (by have := HJ.out.2.size; simp; omega) ?_; intro v' w1 hown1 hg1 _)
      refine ⟨⟨5, by omega, rfl, ?_, ?_⟩, by simp [intOf]⟩
      · rw [HST.out, ← List.append_assoc, List.map_append]; exact hown1
      · exact (HJ.out.2.alloc (by have := HJ.out.2.size; omega) _).grown hg1 (by have := HJ.out.2.size; simp; omega) (owns_block HJ.out.1)
    · have HZ : Hid (Value.int .u8 ((n : Int) / 1099511627776 % 256) = u8v (BitVec.ofNat 8 (n / 256 ^ 5))) := u8_of n _ _ (by simp)
      have HST : Hid (_ = _) := le8_step n 5 (by omega) _ rfl
      go_wp2_with (at_builtin; refine wpList_append_bytes rfl _ _ rfl base _ (k + 5) _ rfl (HJ.out.1.alloc _) _ [BitVec.ofNat 8 (n / 256 ^ 5)] 1 rfl (bytes_new _ _ _ _ HZ.out) (by simp; omega) (by have := HJ.out.2.size; simp; omega) ?_; intro v' w1 hown1 hg1 _)
      refine ⟨⟨6, by omega, rfl, ?_, ?_⟩, by simp [intOf]⟩
      · rw [HST.out, ← List.append_assoc, List.map_append]; exact hown1
      · exact (HJ.out.2.alloc (by have := HJ.out.2.size; omega) _).grown hg1 (by have := HJ.out.2.size; simp; omega) (owns_block HJ.out.1)
    · have HZ : Hid (Value.int .u8 ((n : Int) / 281474976710656 % 256) = u8v (BitVec.ofNat 8 (n / 256 ^ 6))) := u8_of n _ _ (by simp)
      have HST : Hid (_ = _) := le8_step n 6 (by omega) _ rfl
      go_wp2_with (at_builtin; refine wpList_append_bytes rfl _ _ rfl base _ (k + 6) _ rfl (HJ.out.1.alloc _) _ [BitVec.ofNat 8 (n / 256 ^ 6)] 1 rfl (bytes_new _ _ _ _ HZ.out) (by simp; omega) (by have := HJ.out.2.size; simp; omega) ?_; intro v' w1 hown1 hg1 _)
      refine ⟨⟨7, by omega, rfl, ?_, ?_⟩, by simp [intOf]⟩
      · rw [HST.out, ← List.append_assoc, List.map_append]; exact hown1
      · exact (HJ.out.2.alloc (by have := HJ.out.2.size; omega) _).grown hg1 (by have := HJ.out.2.size; simp; omega) (owns_block HJ.out.1)
    · have HZ : Hid (Value.int .u8 ((n : Int) / 72057594037927936) = u8v (BitVec.ofNat 8 (n / 256 ^ 7))) := u8_of n _ _ (by simp; omega)
      have HST : Hid (_ = _) := le8_step n 7 (by omega) _ rfl
      go_wp2_with (at_builtin; refine wpList_append_bytes rfl _ _ rfl base _ (k + 7) _ rfl (HJ.out.1.alloc _) _ [BitVec.ofNat 8 (n / 256 ^ 7)] 1 rfl (bytes_new _ _ _ _ HZ.out) (by simp; omega) (by have := HJ.out.2.size; simp; omega) ?_; intro v' w1 hown1 hg1 _)
      refine ⟨⟨8, by omega, rfl, ?_, ?_⟩, by simp [intOf]⟩
      · rw [HST.out, ← List.append_assoc, List.map_append]; exact hown1
      · exact (HJ.out.2.alloc (by have := HJ.out.2.size; omega) _).grown hg1 (by have := HJ.out.2.size; simp; omega) (owns_block HJ.out.1)
    · go_wp2
      go_ret
      have h8 : (le8 n).take 8 = le8 n := List.take_of_length_le (by rw [le8_length]; omega)
      have := HJ.out
      rw [h8] at this
      exact ⟨_, rfl, this.1, this.2⟩

theorem list8 {l : By} (h : l.length = 8) : ∃ b0 b1 b2 b3 b4 b5 b6 b7, l = [b0, b1, b2, b3, b4, b5, b6, b7] := by
  match l, h with
  | [b0, b1, b2, b3, b4, b5, b6, b7], _ => exact ⟨b0, b1, b2, b3, b4, b5, b6, b7, rfl⟩

set_option maxRecDepth 8000 in
set_option maxHeartbeats 2000000 in
theorem number_eight (g o l cp : Nat) (b0 b1 b2 b3 b4 b5 b6 b7 : BitVec 8) (w : World) (hcp : 8 ≤ cp) (h : Bytes w (some ⟨g, o, none⟩) [b0, b1, b2, b3, b4, b5, b6, b7]) (hN : leN [b0, b1, b2, b3, b4, b5, b6, b7] < 4611686018427387904) :
    Calls Tryz.prog 77 #[.slice (some ⟨g, o, none⟩) l cp] w fun e w' => e = .returned (.int .i64 (leN [b0, b1, b2, b3, b4, b5, b6, b7] : Nat)) ∧ w' = w := by
  obtain ⟨g', o', e, hx⟩ := h (by simp)
  cases e
  have c0 : w.cell? ⟨g, o, none⟩ = _ := hx 0 b0 rfl
  have c1 := hx 1 b1 rfl
  have c2 := hx 2 b2 rfl
  have c3 := hx 3 b3 rfl
  have c4 := hx 4 b4 rfl
  have c5 := hx 5 b5 rfl
  have c6 := hx 6 b6 rfl
  have c7 := hx 7 b7 rfl
  unfold u8v at c0 c1 c2 c3 c4 c5 c6 c7
  clear hx h
  have l0 : b0.toNat < 256 := b0.isLt
  have l1 : b1.toNat < 256 := b1.isLt
  have l2 : b2.toNat < 256 := b2.isLt
  have l3 : b3.toNat < 256 := b3.isLt
  have l4 : b4.toNat < 256 := b4.isLt
  have l5 : b5.toNat < 256 := b5.isLt
  have l6 : b6.toNat < 256 := b6.isLt
  have l7 : b7.toNat < 256 := b7.isLt
  simp only [leN] at hN
  have l7' : b7.toNat < 64 := by omega
  clear hN
  go_enter Tryz.func77, Tryz.ntmps77
  go_wp2_with fail
  go_loop [3, 9] (fun rr ii => ∃ i : Nat, i ≤ 8 ∧ ii = .int .i64 i ∧ rr = .int .i64 (leN ([b0, b1, b2, b3, b4, b5, b6, b7].take i) : Nat)) (fun _ ii => 8 - (intOf ii).toNat)
  case atStart => exact ⟨0, Nat.zero_le _, rfl, rfl⟩
  case round =>
    obtain ⟨i, hi, rfl, rfl⟩ := hrel
    have hj : i = 0 ∨ i = 1 ∨ i = 2 ∨ i = 3 ∨ i = 4 ∨ i = 5 ∨ i = 6 ∨ i = 7 ∨ i = 8 := by omega
    rcases hj with rfl | rfl | rfl | rfl | rfl | rfl | rfl | rfl | rfl
    · have HO : Hid (_ = _) := or64 (a := 0) (b := b0.toNat) (m := 1) (n := 0) rfl (by omega) (by omega) (by omega)
      go_wp2
      refine ⟨⟨1, by omega, rfl, ?_⟩, by simp [intOf]⟩
      have := HO.out
      simp [leN] at this ⊢
      try rw [this]
      try omega
    · have HO : Hid (_ = _) := or64 (a := leN [b0]) (b := b1.toNat) (m := 256) (n := 8) rfl (by simp [leN]; try omega) (by omega) (by omega)
      go_wp2
      refine ⟨⟨2, by omega, rfl, ?_⟩, by simp [intOf]⟩
      have := HO.out
      simp [leN] at this ⊢
      try rw [this]
      try omega
    · have HO : Hid (_ = _) := or64 (a := leN [b0, b1]) (b := b2.toNat) (m := 65536) (n := 16) rfl (by simp [leN]; try omega) (by omega) (by omega)
      go_wp2
      refine ⟨⟨3, by omega, rfl, ?_⟩, by simp [intOf]⟩
      have := HO.out
      simp [leN] at this ⊢
      try rw [this]
      try omega
    · have HO : Hid (_ = _) := or64 (a := leN [b0, b1, b2]) (b := b3.toNat) (m := 16777216) (n := 24) rfl (by simp [leN]; try omega) (by omega) (by omega)
      go_wp2
      refine ⟨⟨4, by omega, rfl, ?_⟩, by simp [intOf]⟩
      have := HO.out
      simp [leN] at this ⊢
      try rw [this]
      try omega
    · have HO : Hid (_ = _) := or64 (a := leN [b0, b1, b2, b3]) (b := b4.toNat) (m := 4294967296) (n := 32) rfl (by simp [leN]; try omega) (by omega) (by omega)
      go_wp2
      refine ⟨⟨5, by omega, rfl, ?_⟩, by simp [intOf]⟩
      have := HO.out
      simp [leN] at this ⊢
      try rw [this]
      try omega
    · have HO : Hid (_ = _) := or64 (a := leN [b0, b1, b2, b3, b4]) (b := b5.toNat) (m := 1099511627776) (n := 40) rfl (by simp [leN]; try omega) (by omega) (by omega)
      go_wp2
      refine ⟨⟨6, by omega, rfl, ?_⟩, by simp [intOf]⟩
      have := HO.out
      simp [leN] at this ⊢
      try rw [this]
      try omega
    · have HO : Hid (_ = _) := or64 (a := leN [b0, b1, b2, b3, b4, b5]) (b := b6.toNat) (m := 281474976710656) (n := 48) rfl (by simp [leN]; try omega) (by omega) (by omega)
      go_wp2
      refine ⟨⟨7, by omega, rfl, ?_⟩, by simp [intOf]⟩
      have := HO.out
      simp [leN] at this ⊢
      try rw [this]
      try omega
    · have HO : Hid (_ = _) := or64 (a := leN [b0, b1, b2, b3, b4, b5, b6]) (b := b7.toNat) (m := 72057594037927936) (n := 56) rfl (by simp [leN]; try omega) (by omega) (by omega)
      go_wp2
      refine ⟨⟨8, by omega, rfl, ?_⟩, by simp [intOf]⟩
      have := HO.out
      simp [leN] at this ⊢
      try rw [this]
      try omega
    · go_wp2
      go_ret
      exact ⟨rfl, rfl⟩

/-- The number with which some bytes begin. -/
theorem number_any (p : Option Addr) (bs : By) (cp : Nat) (w : World) (hcp : 8 ≤ cp) (h8 : 8 ≤ bs.length) (hb : Bytes w p bs) (hN : leN (bs.take 8) < 4611686018427387904) :
    Calls Tryz.prog 77 #[.slice p bs.length cp] w fun e w' => e = .returned (.int .i64 (leN (bs.take 8) : Nat)) ∧ w' = w := by
  obtain ⟨g, o, rfl, hx⟩ := hb (by omega)
  obtain ⟨b0, b1, b2, b3, b4, b5, b6, b7, e⟩ := list8 (l := bs.take 8) (by rw [List.length_take]; omega)
  rw [e] at hN ⊢
  refine number_eight g o bs.length cp b0 b1 b2 b3 b4 b5 b6 b7 w hcp (fun _ => ⟨g, o, rfl, fun j x hj => hx j x ?_⟩) hN
  rw [← e, List.getElem?_take] at hj
  split at hj
  · exact hj
  · cases hj

end Go.Proofs.YtebdgcoandfocaaGreatDoor

/-
  seal and unseal of package wal.
-/
namespace Go.Proofs.YtebdgcoandfocaaGreatDoor
open Go.RowKit Go.Maps

theorem splice_pad (c : By) : splice (List.replicate 504 (Value.int .u8 0)) 0 (c.map u8v) = (pad c).map u8v := by
  unfold splice pad
  simp only [List.take_zero, List.nil_append, List.length_map, Nat.zero_add, List.drop_replicate, List.map_append, List.map_replicate]
  rfl

/-- Bytes as the source of a copy. -/
theorem src_of {w : World} {p : Option Addr} {bs : By} (hb : Bytes w p bs) : 0 < (bs.map u8v).length → ∃ ad, p = some ad ∧ ∀ j v, (bs.map u8v)[j]? = some v → w.cell? (ad.add j) = some v := by
  intro hl
  obtain ⟨b, o, rfl, hx⟩ := hb (by simpa using hl)
  refine ⟨_, rfl, fun j v hj => ?_⟩
  rw [List.getElem?_map] at hj
  obtain ⟨x, hx', rfl⟩ := Option.map_eq_some_iff.1 hj
  rw [Addr.add_lit]
  exact hx j x hx'

set_option maxRecDepth 8000 in
set_option maxHeartbeats 1000000 in
theorem seal_any (p : Option Addr) (c : By) (cp : Nat) (w : World) (ht : Tab w) (hl : c.length ≤ 504) (hb : Bytes w p c) :
    Calls Tryz.prog 95 #[.slice p c.length cp] w fun e w' => ∃ g, e = .returned (.slice (some ⟨g, 0, none⟩) 512 512) ∧ w.heap.size ≤ g ∧
      w'.heap[g]? = some (.cells ((sealed c).map u8v).toArray 5 (0, 0)) ∧ Below w.heap.size w w' := by
  obtain ⟨i0, hi0, hz0, hz1, hz2⟩ := info_parts Tryz.info5
  have HT : Hid (Tab w) := ht
  have HB : Hid (Bytes w p c) := hb
  have hpl := pad_length c hl
  have cF : ∀ W : World, Below w.heap.size w W → W.heap[w.heap.size]? = some (.cells ((pad c).map u8v).toArray 5 (0, 0)) →
      Calls Tryz.prog 111 #[.slice (some ⟨w.heap.size, 0, none⟩) 504 504] W fun e w' => e = .returned (.tuple #[.slice (some ⟨W.heap.size, 0, none⟩) 512 512, .int .i64 0]) ∧
        w'.heap[W.heap.size]? = some (.cells ((sealed c).map u8v).toArray 5 (0, 0)) ∧ Below W.heap.size W w' := by
    intro W hB hW
    have := frame_yes (some ⟨w.heap.size, 0, none⟩) (pad c) 504 W (below_tab hB HT.out.lt HT.out) (by omega) (bytes_block hW)
    rw [hpl] at this
    exact this
  clear ht hb
  have tok : True := trivial
  go_enter Tryz.func95, Tryz.ntmps95
  go_wp2_with (first
    | (at_make; refine wpList_make_full _ rfl _ _ 30 rfl 0 5 i0 (.int .u8 0) 1 Tryz.underlying30 hi0 hz0 hz1 .i64 .i64 _ _ 504 rfl rfl rfl rfl (by rw [hz2]; omega) (by unfold maxLen; omega) (Nat.zero_le _) ?_; intro w1 hrow hg1; have hrep : Hid (w1.heap[w.heap.size]? = some (.cells (List.replicate 504 (.int .u8 0)).toArray 5 (0, 0))) := made_rep hrow; have HB1 : Hid (Below w.heap.size w w1) := (Below.refl _ w).grown hg1 (Nat.le_refl _) (by simp); clear hrow hg1)
    | (have tk := tok; refine wpList_copy_splice rfl _ _ 30 30 rfl 5 Tryz.underlying30 Tryz.size5 (some ⟨w.heap.size, 0, none⟩) p 504 504 c.length cp rfl rfl w.heap.size 0 (List.replicate 504 (.int .u8 0)) 5 hrep.out (c.map u8v) (by rw [List.length_map]; exact (Nat.min_eq_left hl).symm) (fun hp => ⟨rfl, src_of (below_bytes HB1.out HB.out) hp⟩) (by simp; omega) (u8v_one c) w.heap.size w HB1.out (Nat.le_refl _) ?_; clear tk tok; intro w2 hz2 hB2; have HZ2 : Hid (w2.heap[w.heap.size]? = some (.cells ((pad c).map u8v).toArray 5 (0, 0))) := by { have := hz2.out; rw [splice_pad] at this; exact this })
    | (go_at_call 111; refine (cF _ hB2 HZ2.out).mono ?_; rintro e w3 ⟨rfl, hg3, hB3⟩; clear cF))
  go_ret
  exact ⟨_, rfl, hB2.size, hg3, hB2.trans (hB3.mono hB2.size)⟩

/-- unseal: what was sealed, or false. -/
def Opens (w : World) (b : By) (e : Ending) (w' : World) : Prop :=
  Below w.heap.size w w' ∧ ((∃ q l c, e = .returned (.tuple #[.slice q l c, .bool false]) ∧ opened b = none) ∨
    ∃ q c, e = .returned (.tuple #[.slice q 504 504, .bool true]) ∧ opened b = some c ∧ c.length = 504 ∧ Bytes w' q c)

theorem unf_err (b : By) : (unf b).2.2 = 0 ∨ (unf b).2.2 = 22 ∨ (unf b).2.2 = 74 := by
  unfold unf
  split
  · exact .inr (.inl rfl)
  · split
    · exact .inr (.inl rfl)
    · split
      · exact .inr (.inr rfl)
      · exact .inl rfl

set_option maxRecDepth 8000 in
set_option maxHeartbeats 1000000 in
theorem unseal_any (p : Option Addr) (b : By) (cp : Nat) (w : World) (ht : Tab w) (hlen : b.length < 1099511627776) (hcap : b.length ≤ cp) (hb : Bytes w p b) :
    Calls Tryz.prog 76 #[.slice p b.length cp] w (Opens w b) := by
  have hu : Calls Tryz.prog 96 #[.slice p b.length cp] w (Unframed w b) := by
    by_cases h8 : b.length < 8
    · exact unframe_short p b cp w h8
    · obtain ⟨g, o, rfl, hx⟩ := hb (by omega)
      exact unframe_long g o b cp w ht (by omega) hlen hcap (fun _ => ⟨g, o, rfl, hx⟩)
  clear ht hb
  unfold Unframed at hu
  unfold Opens
  have HOP : Hid (opened b = if (unf b).2.2 = 0 ∧ (unf b).1.length = 504 then some (unf b).1 else none) := rfl
  obtain ⟨u1, h1⟩ : ∃ u1, (unf b).1 = u1 := ⟨_, rfl⟩
  obtain ⟨u2, h2⟩ : ∃ u2, (unf b).2.1 = u2 := ⟨_, rfl⟩
  obtain ⟨u3, h3⟩ : ∃ u3, (unf b).2.2 = u3 := ⟨_, rfl⟩
  have he := unf_err b
  rw [h1, h2, h3] at hu
  rw [h3] at he
  have HOP2 : Hid (opened b = if u3 = 0 ∧ u1.length = 504 then some u1 else none) := by
    have := HOP.out
    rw [h1, h3] at this
    exact this
  generalize opened b = ob at HOP HOP2 ⊢
  clear h1 h2 h3 HOP
  rcases he with rfl | rfl | rfl
  · by_cases hl : u1.length = 504
    · have hlI : ((u1.length : Int) == 504) = true := by simp; omega
      go_enter Tryz.func76, Tryz.ntmps76
      go_wp2_with (go_at_call 96; refine hu.mono ?_; rintro e w1 ⟨q, c, rfl, rfl, hb1, hB1⟩; clear hu)
      go_ret2
      refine ⟨hB1, .inr ⟨q, u1, ?_, ?_, hl, hb1⟩⟩
      · rfl
      · rw [HOP2.out]; simp [hl]
    · have hlI : ((u1.length : Int) == 504) = false := by simp; omega
      go_enter Tryz.func76, Tryz.ntmps76
      go_wp2_with (go_at_call 96; refine hu.mono ?_; rintro e w1 ⟨q, c, rfl, rfl, hb1, hB1⟩; clear hu)
      go_ret2
      refine ⟨hB1, .inl ⟨_, _, _, rfl, ?_⟩⟩
      rw [HOP2.out]; simp [hl]
  · go_enter Tryz.func76, Tryz.ntmps76
    go_wp2_with (go_at_call 96; refine hu.mono ?_; rintro e w1 ⟨q, c, rfl, rfl, hb1, hB1⟩; clear hu)
    go_ret2
    refine ⟨hB1, .inl ⟨_, _, _, rfl, ?_⟩⟩
    rw [HOP2.out]; simp
  · go_enter Tryz.func76, Tryz.ntmps76
    go_wp2_with (go_at_call 96; refine hu.mono ?_; rintro e w1 ⟨q, c, rfl, rfl, hb1, hB1⟩; clear hu)
    go_ret2
    refine ⟨hB1, .inl ⟨_, _, _, rfl, ?_⟩⟩
    rw [HOP2.out]; simp

end Go.Proofs.YtebdgcoandfocaaGreatDoor
