/-
  The law DeviceOwn returns true.
-/
import Derived.Test.YtnobebgnbofdpaaNone
import Derived.Laws.BytesArg
import Derived.Deep.RegionWith
namespace Go.Proofs.Ytnobebgnbofdpaa
open Go.RowKit Go.Maps Go.Sort Go.Shelf

/-- A device in memory: its struct, its row of blocks, its map. -/
structure DV (w : World) (a s n c m nn : Nat) (D : DataW Value) (cur : Array Value) (fused : Bool) (left count : Int) : Prop where
  dev : IsDevAt w a (.slice (some ⟨s, 0, none⟩) n c) m fused left count
  row : w.heap[s]? = some (.cells cur 53 (0, 0))
  own : w.ownsMap Try.prog 3 ptrElem m nn D

section
variable {w w' : World} {a s n c m nn : Nat} {D : DataW Value} {cur : Array Value} {fused : Bool} {left count : Int}
theorem DV.alt (h : DV w a s n c m nn D cur fused left count) : a < w.heap.size := (Array.getElem?_eq_some_iff.1 h.dev).1
theorem DV.slt (h : DV w a s n c m nn D cur fused left count) : s < w.heap.size := (Array.getElem?_eq_some_iff.1 h.row).1
theorem DV.mlt (h : DV w a s n c m nn D cur fused left count) : m < w.heap.size := h.own.lt
theorem DV.but (h : DV w a s n c m nn D cur fused left count) {S : Nat → Prop} (hb : But S w w') (ha : ¬ S a) (hs : ¬ S s) (hm : ¬ S m) : DV w' a s n c m nn D cur fused left count := by
  refine ⟨(hb.block a h.alt ha).trans h.dev, (hb.block s h.slt hs).trans h.row, ?_⟩
  have hlt := h.mlt
  obtain ⟨es, clock, he, r⟩ := h.own
  exact ⟨es, clock, (hb.block m hlt hm).trans he, r⟩
theorem DV.below (h : DV w a s n c m nn D cur fused left count) {B : Nat} (hb : Below B w w') (ha : a < B) (hs : s < B) (hm : m < B) : DV w' a s n c m nn D cur fused left count := by
  refine ⟨(hb.block a ha).trans h.dev, (hb.block s hs).trans h.row, ?_⟩
  obtain ⟨es, clock, he, r⟩ := h.own
  exact ⟨es, clock, (hb.block m hm).trans he, r⟩
end

/-- The bytes of a slice that came in, filled up to 512. -/
def bytesOf (bs : List Int) : List Value := (full bs 512).map u8
theorem bytesOf_length (bs : List Int) : (bytesOf bs).length = 512 := by rw [bytesOf, List.length_map, full_length]
theorem bytesOf_one (bs : List Int) : ∀ v ∈ bytesOf bs, v.oneCell' = true := by
  intro v hv
  obtain ⟨x, _, rfl⟩ := List.mem_map.1 hv
  rfl
theorem zeros_one : ∀ v ∈ zeros, v.oneCell' = true := by
  intro v hv
  obtain rfl := (List.mem_replicate.1 hv).2
  rfl

/-- string(z), z a slice over such a block. -/
theorem run_str (W : World) (g : Nat) (bs : List Int) (h : W.heap[g]? = some (.cells (bytesOf bs).toArray 5 (0, 0))) :
    (convert 28 9 (.slice (some ⟨g, 0, none⟩) 512 512)).run Try.prog W = .ok (.string (strOfNums (full bs 512))) W := by
  refine run_convert_bytes_arg W 28 5 Try.underlying28 Try.underlying5 g 0 512 512 (full bs 512) (full_length bs 512) (fun i hi => ?_) 9 Try.underlying9
  rw [Nat.zero_add, cellOf h i, List.getElem?_toArray, bytesOf, List.getElem?_map]
  have : i < (full bs 512).length := by rw [full_length]; exact hi
  simp [List.getD, List.getElem?_eq_getElem this, u8]

theorem row_set {W : World} {g k : Nat} {ys : List Int} {v : Int} (h : W.heap[g]? = some (.cells (ys.map u8).toArray 5 (0, 0))) :
    (W.setCell ⟨g, k, none⟩ (.int .u8 v)).heap[g]? = some (.cells ((ys.set k v).map u8).toArray 5 (0, 0)) := by
  simp [World.setCell, Array.getElem?_modify, h, List.map_set, u8]

/-- The datum of a map with one key. -/
def DI (i : Nat) : DataW Value := loosened (.map []) i none
theorem DI_keys (i : Nat) : keys (DI i) = [(i : Int)] := by
  have h : intKeys (DI i) = [(i : Int)] := by rfl
  unfold keys
  rw [h]
  exact List.mergeSort_of_pairwise (by simp)
theorem DI_size (i : Nat) : Maps.size (DI i) = 1 := by rfl

set_option maxHeartbeats 12000000 in
theorem own_in (bs : List Int) (bp : Option Addr) (bc i : Nat) (w : World) (hi : i ≤ 7) (hbl : bs.length < 9223372036854775808)
    (hsrc : 0 < bs.length → ∃ bb bo, bp = some ⟨bb, bo, none⟩ ∧ ∀ j x, bs[j]? = some x → w.cell? ⟨bb, bo + j, none⟩ = some (.int .u8 x)) :
    Calls Try.prog 5 #[.slice bp bs.length bc, .int .i64 i] w fun e w' => e = .returned (.bool true) ∧ Below w.heap.size w w' := by
  have cF : ∀ W, Below w.heap.size w W → Calls Try.prog 9 #[.slice bp bs.length bc, .int .i64 512] W fun e w' => e = .returned (.slice (some ⟨W.heap.size, 0, none⟩) 512 512) ∧
      w'.heap[W.heap.size]? = some (.cells (bytesOf bs).toArray 5 (0, 0)) ∧ Below W.heap.size W w' := fun W hB =>
    full_any bs bp bc 512 W (by omega) hbl (fun hp => by
      obtain ⟨bb, bo, e, hc⟩ := hsrc hp
      exact ⟨bb, bo, e, fun j x hj => (hB.cell (p := ⟨bb, bo + j, none⟩) (World.block_lt_of_cell? w _ (hc j x hj))).trans (hc j x hj)⟩)
  clear hsrc
  go_enter Try.func5, Try.ntmps5
  go_wp2_with fail
  refine (begun_any _).mono ?_
  rintro e w0 ⟨rfl, hB0⟩
  go_wp2_with fail
  refine (show Calls Try.prog 7 #[.int .i64 8] _ _ from new_yes 8 w0 (by omega) (by omega)).mono ?_
  rintro e w1 ⟨a, m, rfl, _, hsm, hma, ha, hdev, hrow, hmap, hB1⟩
  obtain ⟨cur, hcur⟩ : ∃ cur, cur = (List.replicate 8 (Value.pointer none)).toArray := ⟨_, rfl⟩
  rw [← hcur] at hrow
  have hd1 : DV w1 a w0.heap.size 8 8 m 0 (.map []) cur false 0 0 := ⟨hdev, hrow, ownsMap_empty hmap⟩
  have hci : cur[i]? = some (.pointer none) := by rw [hcur, List.getElem?_toArray, List.getElem?_replicate, if_pos (by omega)]
  have hcs : cur.size = 8 := by rw [hcur]; rfl
  have hcp : ∀ j, j < 8 → ∃ q, cur[j]? = some (.pointer q) := fun j hj => ⟨none, by rw [hcur, List.getElem?_toArray, List.getElem?_replicate, if_pos (by omega)]⟩
  clear hdev hrow hmap hcur
  have hs0 := hB0.size
  have hB1' : Below w.heap.size w w1 := hB0.trans (hB1.mono hs0)
  go_wp2_with fail
  refine (cF _ hB1').mono ?_
  rintro e w2 ⟨rfl, hb2, hB2⟩
  have hd2 := hd1.below hB2 ha (by omega) (by omega)
  have hc2 : ∀ j v, (bytesOf bs)[j]? = some v → w2.cell? ⟨w1.heap.size, 0 + j, none⟩ = some v := fun j v hj => by
    rw [Nat.zero_add, cellOf hb2 j, List.getElem?_toArray]
    exact hj
  go_wp2_with fail
  refine (write_yes i w1.heap.size 0 512 (bytesOf bs) a w0.heap.size 8 8 m 0 (.map []) cur none false 0 0 w2 hd2.dev hd2.row hd2.own (by unfold maxLen; omega) (by omega) (by omega) (by omega) hci (bytesOf_length bs) (bytesOf_one bs) hc2 rfl (by omega) (by omega) (by intro h; cases h)).mono ?_
  rintro e w3 ⟨g, rfl, hw3⟩
  obtain ⟨cu, hcu⟩ : ∃ cu, cu = cur.setIfInBounds i (.pointer (some ⟨g, 0, none⟩)) := ⟨_, rfl⟩
  have hd3 : DV w3 a w0.heap.size 8 8 m 1 (DI i) cu false 0 1 := ⟨hw3.dev, by rw [hcu]; exact hw3.row, hw3.own⟩
  have hcui : cu[i]? = some (.pointer (some ⟨g, 0, none⟩)) := by rw [hcu, Array.getElem?_setIfInBounds, if_pos rfl, if_pos (by omega)]
  have hcus : cu.size = 8 := by rw [hcu]; simpa using hcs
  have hcup : ∀ j, j < 8 → ∃ q, cu[j]? = some (.pointer q) := fun j hj => by
    rw [hcu, Array.getElem?_setIfInBounds]
    by_cases hij : i = j
    · rw [if_pos hij, if_pos (by omega)]; exact ⟨_, rfl⟩
    · rw [if_neg hij]; exact hcp j hj
  have hblk3 : w3.heap[g]? = some (.cells (bytesOf bs).toArray 59 (0, 0)) := hw3.blk
  have hglt3 := (Array.getElem?_eq_some_iff.1 hblk3).1
  have hs1 := hB1.size
  have hs2 := hB2.size
  have hs3 := hw3.but.size
  have hB3 : Below w.heap.size w w3 := (hB1'.trans (hB2.mono (by omega))).trans (hw3.but.below (by omega) (by rintro k (h | h | h) <;> omega))
  clear hcu hcp hcs hci hd1 hd2 hc2 hb2 hw3
  have rd : ∀ W, DV W a w0.heap.size 8 8 m 1 (DI i) cu false 0 1 → W.heap[g]? = some (.cells (bytesOf bs).toArray 59 (0, 0)) → Calls Try.prog 20 #[.pointer (some ⟨a, 0, none⟩), .int .i64 i] W fun e w' =>
      e = .returned (.tuple #[.slice (some ⟨W.heap.size, 0, none⟩) 512 512, .int .i64 0]) ∧ w'.heap[W.heap.size]? = some (.cells (bytesOf bs).toArray 5 (0, 0)) ∧ Below W.heap.size W w' := fun W hd hg =>
    read_yes i a w0.heap.size 8 8 m false 0 1 cu (some ⟨g, 0, none⟩) (bytesOf bs) W hd.dev hd.row (by omega) hcui (.inr ⟨g, rfl, hg, bytesOf_length bs, bytesOf_one bs⟩)
  go_wp2_with fail
  refine (rd w3 hd3 hblk3).mono ?_
  rintro e w4 ⟨rfl, hb4, hB4⟩
  go_wp2
  go_loopw [10] (fun ix wr => ∃ k : Nat, k ≤ 512 ∧ ix = .int .i64 k ∧ (∃ ys : List Int, ys.length = 512 ∧ wr.heap[w3.heap.size]? = some (.cells (ys.map u8).toArray 5 (0, 0))) ∧ Below w3.heap.size w3 wr) (fun ix _ => 512 - (intOf ix).toNat)
  case atStart => exact ⟨0, by omega, rfl, ⟨full bs 512, full_length bs 512, hb4⟩, hB4⟩
  case round =>
    clear hb4 hB4
    obtain ⟨k, hk, rfl, ⟨ys, hyl, hyb⟩, hBr⟩ := hrel
    by_cases hlt : k < 512
    · have hlt' : (k : Int) < 512 := by omega
      obtain ⟨y, hy⟩ : ∃ y, ys[k]? = some y := ⟨_, List.getElem?_eq_getElem (by omega)⟩
      have c1 : wr.cell? ⟨w3.heap.size, k, none⟩ = some (.int .u8 y) := by
        rw [cellOf hyb k, List.getElem?_toArray, List.getElem?_map, hy]
        rfl
      have f1 := frozenOf hyb k
      have HY : Hid (wr.heap[w3.heap.size]? = some (.cells (ys.map u8).toArray 5 (0, 0))) := hyb
      clear hyb hy
      go_wp2
      exact ⟨⟨k + 1, by omega, by go_num, ⟨ys.set k _, by rw [List.length_set]; exact hyl, row_set HY.out⟩, hBr.setCell (p := ⟨w3.heap.size, k, none⟩) (Nat.le_refl _) _⟩, by simp [intOf]; omega⟩
    · obtain rfl : k = 512 := by omega
      have hd5 := hd3.below hBr hd3.alt hd3.slt hd3.mlt
      have hblk5 := (hBr.block g hglt3).trans hblk3
      have hB5 := hB3.trans (hBr.mono (by omega))
      have hs5 := hBr.size
      have hz5 : w3.heap.size < wr.heap.size := (Array.getElem?_eq_some_iff.1 hyb).1
      clear hk hlt hyb
      have hcr := crash_any .nilFunc a w0.heap.size 8 8 m 1 (DI i) cu false 0 1 wr hd5.dev hd5.row hd5.own (by omega) (by omega) (by omega) hcup
        (by rw [DI_size]; unfold maxLen; omega) (by rw [DI_size]; omega) (by rw [DI_keys]; intro x hx; simp at hx; omega) (by rw [DI_keys]; simp)
        (fun _ => false) (fun _ => False) (fun _ h => h.elim) (fun _ _ => True) trivial (fun _ _ _ _ _ => trivial)
        (fun k x W _ _ => (kept_nil x W).mono (by rintro e W' ⟨rfl, rfl⟩; exact ⟨rfl, trivial, But.refl _ _⟩))
      go_wp2_with fail
      refine hcr.mono ?_
      rintro e w6 ⟨a', g', cap', m', rfl, hin, _⟩
      clear hcr
      have hd6 := hd5.but hin.but (fun h => h) (fun h => h) (fun h => h)
      have hs6 := hin.but.size
      have hblk6 := (hin.but.block g (by omega) (fun h => h)).trans hblk5
      have hB6 : Below w.heap.size w w6 := hB5.trans (hin.but.below (by omega) (fun _ h => h.elim))
      go_wp2_with fail
      refine (rd w6 hd6 hblk6).mono ?_
      rintro e w7 ⟨rfl, hz7, hB7⟩
      have hs7 := hB7.size
      obtain ⟨w8, hmk, hz8, hB8⟩ := make512 w7
      have hs8 := hB8.size
      have hz8lt := (Array.getElem?_eq_some_iff.1 hz8).1
      have ga := hin.ga
      have gg := hin.gg
      have gm := hin.gm
      have hag := hin.ag
      obtain ⟨curk, hr6, hn6, hrow6⟩ := hin.row
      obtain ⟨q, hq, _, _⟩ := hrow6 i (by omega)
      have old8 : ∀ b o, w6.heap[b]? = some o → w8.heap[b]? = some o := fun b o ho => by
        have hl := (Array.getElem?_eq_some_iff.1 ho).1
        exact (hB8.block b (by omega)).trans ((hB7.block b hl).trans ho)
      have hc8 : ∀ j v, zeros[j]? = some v → w8.cell? ⟨w7.heap.size, 0 + j, none⟩ = some v := fun j v hj => by
        rw [Nat.zero_add, cellOf hz8 j, List.getElem?_toArray]
        exact hj
      have cW := write_yes i w7.heap.size 0 512 zeros a' g' 8 cap' m' 0 (.map []) curk q false 0 0 w8 (old8 _ _ hin.dev) (old8 _ _ hr6) (ownsMap_empty (old8 _ _ hin.map)) (by unfold maxLen; omega) hag (by omega) (by omega) hq zeros_length zeros_one hc8 rfl (by omega) (by omega) (by intro h; cases h)
      have hda := hd5.alt
      have hds := hd5.slt
      have hdm := hd5.mlt
      clear hc8 hr6 hrow6 hq
      go_wp2_with fail
      refine cW.mono ?_
      rintro e w9 ⟨g9, rfl, hw9⟩
      have hs9 := hw9.but.size
      have hbut9 := hw9.but
      have hd8 : DV w8 a w0.heap.size 8 8 m 1 (DI i) cu false 0 1 := ⟨old8 _ _ hd6.dev, old8 _ _ hd6.row, by
        obtain ⟨es, clock, he, r⟩ := hd6.own
        exact ⟨es, clock, old8 _ _ he, r⟩⟩
      have hd9 : DV w9 a w0.heap.size 8 8 m 1 (DI i) cu false 0 1 := hd8.but hbut9 (by rintro (h | h | h) <;> omega) (by rintro (h | h | h) <;> omega) (by rintro (h | h | h) <;> omega)
      have hblk9 := (hbut9.block g (by omega) (by rintro (h | h | h) <;> omega)).trans (old8 _ _ hblk6)
      have hz9 := (hbut9.block w6.heap.size (by have := (Array.getElem?_eq_some_iff.1 hz7).1; omega) (by have h1 := (Array.getElem?_eq_some_iff.1 hin.dev).1; have h2 := (Array.getElem?_eq_some_iff.1 hin.map).1; obtain ⟨_, h3, _⟩ := hin.row; have h3 := (Array.getElem?_eq_some_iff.1 h3).1; rintro (h | h | h) <;> omega)).trans ((hB8.block _ (Array.getElem?_eq_some_iff.1 hz7).1).trans hz7)
      have hB9 : Below w.heap.size w w9 := ((hB6.trans (hB7.mono (by omega))).trans (hB8.mono (by omega))).trans (hbut9.below (by omega) (by rintro k (h | h | h) <;> omega))
      clear cW hw9 hd8 hd6 hblk6 old8 hz8 hz7 hB7 hB8 hmk
      go_wp2_with fail
      refine (rd w9 hd9 hblk9).mono ?_
      rintro e w10 ⟨rfl, hb10, hB10⟩
      have hd10 := hd9.below hB10 hd9.alt hd9.slt hd9.mlt
      have hz10 := (hB10.block _ (Array.getElem?_eq_some_iff.1 hz9).1).trans hz9
      have hB10' : Below w.heap.size w w10 := hB9.trans (hB10.mono (by omega))
      have cz : ∀ W, Below w10.heap.size w10 W → Sem.run Try.prog (convert 28 9 (.slice (some ⟨w6.heap.size, 0, none⟩) 512 512)) W = .ok (.string (strOfNums (full bs 512))) W := fun W hW =>
        run_str W w6.heap.size bs ((hW.block _ (Array.getElem?_eq_some_iff.1 hz10).1).trans hz10)
      have cw : ∀ W, Below w10.heap.size w10 W → Sem.run Try.prog (convert 28 9 (.slice (some ⟨w9.heap.size, 0, none⟩) 512 512)) W = .ok (.string (strOfNums (full bs 512))) W := fun W hW =>
        run_str W w9.heap.size bs ((hW.block _ (Array.getElem?_eq_some_iff.1 hb10).1).trans hb10)
      have cF' : ∀ W, Below w10.heap.size w10 W → Calls Try.prog 9 #[.slice bp bs.length bc, .int .i64 512] W fun e w' => e = .returned (.slice (some ⟨W.heap.size, 0, none⟩) 512 512) ∧
          Sem.run Try.prog (convert 28 9 (.slice (some ⟨W.heap.size, 0, none⟩) 512 512)) w' = .ok (.string (strOfNums (full bs 512))) w' ∧ Below w10.heap.size w10 w' := fun W hW =>
        (cF W (hB10'.trans (hW.mono hB10'.size))).mono (by
          rintro e w' ⟨rfl, h1, h2⟩
          exact ⟨rfl, run_str w' _ bs h1, hW.trans (h2.mono hW.size)⟩)
      have cL : ∀ W, Below w10.heap.size w10 W → Calls Try.prog 24 #[.pointer (some ⟨a, 0, none⟩)] W fun e w' => ∃ (p : Option Addr) (cp : Nat), e = .returned (.slice p 1 cp) ∧ Below w10.heap.size w10 w' := fun W hW => by
        have hdW := hd10.below hW hd10.alt hd10.slt hd10.mlt
        have := loose_keys a _ m 1 (DI i) false 0 1 W hdW.dev hdW.own (by rw [DI_size]; unfold maxLen; omega) (by rw [DI_size]; omega)
        rw [DI_keys] at this
        refine this.mono ?_
        rintro e w' ⟨p, cp, rfl, _, hb⟩
        exact ⟨p, cp, rfl, hW.trans (hb.mono hW.size)⟩
      generalize strOfNums (full bs 512) = str at cz cw cF'
      have hb0 : Below w10.heap.size w10 w10.drew := (Below.refl _ _).drew
      have HB : Hid (Below w.heap.size w w10) := hB10'
      clear rd cF hd10 hz10 hb10 hB10' hB10 hd9 hz9 hblk9 hB9 hd5 hblk5 hB5 hin hbut9 hB6 hBr hB3 hd3 hblk3 hcup hcui hB1' hB1 hB0 hB2
      go_wp2
      clear ha hma hsm hs0 hs1 hs2 hs3 hcus hglt3 hyl hs5 hz5 hs6 hs7 hs8 hz8lt ga gg gm hag hn6 hda hds hdm hs9 hbl hi
      generalize Value.tuple #[.slice (some ⟨w3.heap.size, 0, none⟩) 512 512, .int .i64 0] = z1
      generalize Value.tuple #[.slice (some ⟨w6.heap.size, 0, none⟩) 512 512, .int .i64 0] = z2
      generalize Value.tuple #[.slice (some ⟨w9.heap.size, 0, none⟩) 512 512, .int .i64 0] = z3
      generalize Value.slice (some ⟨w1.heap.size, 0, none⟩) 512 512 = z4
      generalize Value.slice (some ⟨w3.heap.size, 0, none⟩) 512 512 = z5
      generalize Value.slice (some ⟨w7.heap.size, 0, none⟩) 512 512 = z6
      generalize Value.pointer (some ⟨a', 0, none⟩) = z7
      generalize Value.int .i64 (i : Int) = z8
      generalize Value.bool (decide ((i : Int) < 0)) = z9
      generalize Value.bool (decide ((7 : Int) < (i : Int))) = z10
      generalize Value.bool (decide ((i : Int) < 0) || decide ((7 : Int) < (i : Int))) = z11
      rename_i hle hh K2 Q1 K1 a1 r1 l1 r2 K0 a0
      clear a1 K1 Q1 K2 hle hh r1 l1 r2
      go_region_with (first
        | (go_at_call 9; refine (cF' _ (by assumption)).mono ?_; rintro e W1 ⟨rfl, hcx0, hW1⟩; have hcx : Sem.run Try.prog (convert 28 9 (.slice (some ⟨w10.heap.size, 0, none⟩) 512 512)) W1 = .ok (.string str) W1 := hcx0; clear hcx0)
        | (go_at_call 24; refine (cL _ (by assumption)).mono ?_; rintro e W2 ⟨p2, cp2, rfl, hW2⟩))
      all_goals go_wp2
      all_goals go_ret
      all_goals exact ⟨rfl, HB.out.trans (hW2.mono HB.out.size)⟩

end Go.Proofs.Ytnobebgnbofdpaa
