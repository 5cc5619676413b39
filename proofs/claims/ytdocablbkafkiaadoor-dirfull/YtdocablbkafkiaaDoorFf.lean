/-
  The law of a full directory: 2,048 names.
-/
import Derived.Test.YtdocablbkafkiaaDoorFe
import Derived.Lib.SlBytesConst
namespace Go.Proofs.YtdocablbkafkiaaDoor.Cd
open Go.RowKit Go.Maps

attribute [local go_sem] Oper.semAt_some

/-- The name of number i. -/
def nm (i : Nat) : List UInt8 := [110, UInt8.ofNat (48 + i / 1000), UInt8.ofNat (48 + i / 100 % 10), UInt8.ofNat (48 + i / 10 % 10), UInt8.ofNat (48 + i % 10)]
theorem ofNat_inj8 {a b : Nat} (ha : a < 256) (hb : b < 256) (h : UInt8.ofNat a = UInt8.ofNat b) : a = b := by
  have := congrArg UInt8.toNat h
  simp [UInt8.toNat_ofNat'] at this
  omega
theorem nm_inj {i j : Nat} (hi : i < 2048) (hj : j < 2048) (h : nm i = nm j) : i = j := by
  unfold nm at h
  simp only [List.cons.injEq, and_true, true_and] at h
  obtain ⟨h1, h2, h3, h4⟩ := h
  have a1 := ofNat_inj8 (by omega) (by omega) h1
  have a2 := ofNat_inj8 (by omega) (by omega) h2
  have a3 := ofNat_inj8 (by omega) (by omega) h3
  have a4 := ofNat_inj8 (by omega) (by omega) h4
  omega
theorem digit_fine {n : Nat} (h1 : 48 ≤ n) (h2 : n < 58) : UInt8.ofNat n ≠ 0 ∧ UInt8.ofNat n ≠ 47 :=
  ⟨fun h => by have := ofNat_inj8 (a := n) (b := 0) (by omega) (by omega) h; omega, fun h => by have := ofNat_inj8 (a := n) (b := 47) (by omega) (by omega) h; omega⟩
theorem nm_fine {i : Nat} (hi : i < 2048) : fineN (nm i) = 0 := by
  unfold fineN
  have d1 := digit_fine (n := 48 + i / 1000) (by omega) (by omega)
  have d2 := digit_fine (n := 48 + i / 100 % 10) (by omega) (by omega)
  have d3 := digit_fine (n := 48 + i / 10 % 10) (by omega) (by omega)
  have d4 := digit_fine (n := 48 + i % 10) (by omega) (by omega)
  rw [if_neg (by unfold nm; simp), if_neg, if_neg (by unfold nm; simp)]
  unfold nm
  simp only [List.mem_cons, List.not_mem_nil, or_false, not_or]
  exact ⟨⟨by decide, d1.1.symm, d2.1.symm, d3.1.symm, d4.1.symm⟩, ⟨by decide, d1.2.symm, d2.2.symm, d3.2.symm, d4.2.symm⟩⟩
theorem nm_7 : nm 7 = [110, 48, 48, 48, 55] := by decide
theorem nm_2047 : nm 2047 = [110, 50, 48, 52, 55] := by decide

/-- The directory holds the first i names. -/
def Filled (D : List (List En)) (i : Nat) : Prop := total D = i ∧ ∀ q, q ∈ D.flatten ↔ ∃ k, k < i ∧ q = ⟨nm k, k + 1⟩
/-- What holds in each round. -/
structure FullI (w : World) (i : Nat) (W : World) : Prop where
  bel : Below w.heap.size w W
  row : ∃ x1 x2 x3 x4, W.heap[w.heap.size + 1]? = some (.cells #[.int .u8 110, x1, x2, x3, x4] 5 (5, 6))
  dir : ∃ D, DirOk W w.heap.size w.heap.size D ∧ Filled D i

def nmV (i : Nat) : Array Value := #[.int .u8 110, .int .u8 (48 + (i : Int) / 1000), .int .u8 (48 + (i : Int) / 100 % 10), .int .u8 (48 + (i : Int) / 10 % 10), .int .u8 (48 + (i : Int) % 10)]
theorem u8v_of (n : Nat) (h : n < 256) : u8v (UInt8.ofNat n).toBitVec = .int .u8 (n : Int) := by
  unfold u8v
  congr 1
  have : (UInt8.ofNat n).toBitVec.toNat = n := by
    show (UInt8.ofNat n).toNat = n
    simp [UInt8.toNat_ofNat']
    omega
  rw [this]
theorem nm_cells {i : Nat} (hi : i < 2048) : (bits8 (nm i)).map u8v = (nmV i).toList := by
  unfold bits8 nm nmV
  simp only [List.map_cons, List.map_nil]
  rw [u8v_of _ (by omega), u8v_of _ (by omega), u8v_of _ (by omega), u8v_of _ (by omega)]
  rfl
theorem nm_bytes {i : Nat} (hi : i < 2048) {w : World} {q : Nat} {f : Nat × Nat} (h : w.heap[q]? = some (.cells (nmV i) 5 f)) : Bytes w (some ⟨q, 0, none⟩) (bits8 (nm i)) := by
  intro _
  refine ⟨q, 0, rfl, fun j x hj => ?_⟩
  rw [Nat.zero_add, cellOf h]
  have := congrArg (fun l => l[j]?) (nm_cells hi)
  simp only [List.getElem?_map, hj, Option.map_some] at this
  rw [← Array.getElem?_toList]
  exact this.symm
theorem Filled.absent {D : List (List En)} {i : Nat} (h : Filled D i) (hi : i < 2048) : Absent D (nm i) := by
  intro j b hj x hx e
  obtain ⟨k, hk, rfl⟩ := (h.2 x).1 (List.mem_flatten.2 ⟨b, List.mem_of_getElem? hj, hx⟩)
  have := nm_inj (by omega) hi e
  omega
theorem not_absent {D : List (List En)} {x : En} (h : x ∈ D.flatten) : ¬ Absent D x.name := by
  obtain ⟨b, hb, hxb⟩ := List.mem_flatten.1 h
  obtain ⟨j, hj⟩ := List.getElem?_of_mem hb
  exact fun hA => hA j b hj _ hxb rfl
theorem Filled.next {D D' : List (List En)} {i : Nat} (h : Filled D i) (hi : i < 2048) (hm : ∀ q, q ∈ D'.flatten ↔ (q ∈ D.flatten ∧ q.name ≠ nm i) ∨ q = ⟨nm i, (1 + (i : Int)).toNat⟩) (ht : Absent D (nm i) → total D' = total D + 1) : Filled D' (i + 1) := by
  refine ⟨by rw [ht (h.absent hi), h.1], fun q => ?_⟩
  have e : (1 + (i : Int)).toNat = i + 1 := by omega
  rw [hm q, e, h.2 q]
  constructor
  · rintro (⟨⟨k, hk, rfl⟩, _⟩ | rfl)
    · exact ⟨k, by omega, rfl⟩
    · exact ⟨i, by omega, rfl⟩
  · rintro ⟨k, hk, rfl⟩
    by_cases hki : k = i
    · subst hki; exact .inr rfl
    · exact .inl ⟨⟨k, by omega, rfl⟩, fun e => hki (nm_inj (by omega) hi e)⟩

set_option maxRecDepth 8000 in
set_option maxHeartbeats 4000000 in
theorem full_true (w : World) (ht : Tab w) : Calls Tryd.prog 5 #[] w fun e w' => e = .returned (.bool true) ∧ Below w.heap.size w w' := by
  have cN := new_dir w
  obtain ⟨w1, hw1⟩ : ∃ w1, w1 = w.alloc (.cells #[.int .i64 0, .slice none 0 0] 49) := ⟨_, rfl⟩
  rw [← hw1] at cN
  have hb1 : Below w.heap.size w w1 := by rw [hw1]; exact (Below.refl _ w).alloc (Nat.le_refl _) _
  have hs1 : w1.heap.size = w.heap.size + 1 := by rw [hw1]; simp
  have hd1 : DirOk w1 w.heap.size w.heap.size [] := dir_new (Nat.le_refl _) (by rw [hw1]; exact heap_alloc_new w _)
  have HT : Hid (Tab w) := ht
  obtain ⟨w2, hw2⟩ : ∃ w2, w2 = w1.alloc (.cells #[.int .u8 110, .int .u8 48, .int .u8 48, .int .u8 48, .int .u8 48] 5 (5, 6)) := ⟨_, rfl⟩
  have hb2 : Below w1.heap.size w1 w2 := by rw [hw2]; exact (Below.refl _ w1).alloc (Nat.le_refl _) _
  have HI0 : Hid (FullI w 0 w2) := by
    refine ⟨hb1.trans (hb2.mono hb1.size), ⟨_, _, _, _, by rw [hw2, ← hs1]; exact heap_alloc_new w1 _⟩, [], hd1.below hb2, by simp [total], fun q => by simp⟩
  have kc := fun (w : World) (C : Array Value) (n c : Nat) => Lib.run_convert_bytes_const (P := Tryd.prog) w 36 5 C n c Tryd.underlying36 Tryd.underlying5
  have kc2 := kc w1 #[.int .u8 110, .int .u8 48, .int .u8 48, .int .u8 48, .int .u8 48] 5 5
  rw [hs1] at kc2
  clear hw1 hd1 ht hb1 hb2 kc
  go_enter Tryd.func5, Tryd.ntmps5
  go_wp2_with fail
  refine cN.mono ?_
  rintro e w1' ⟨rfl, rfl⟩
  clear cN
  go_wp2_with fail
  rw [← hw2]
  clear hw2
  go_loopw [3] (fun ii wr => ∃ i : Nat, ii = .int .i64 i ∧ i ≤ 2048 ∧ Hid (FullI w i wr)) (fun ii _ => 2048 - (intOf ii).toNat)
  case atStart => exact ⟨0, rfl, by omega, HI0.out⟩
  case round =>
    obtain ⟨i, rfl, hi, HI⟩ := hrel
    by_cases hlt : i < 2048
    · have hltI : (i : Int) < 2048 := by omega
      obtain ⟨x1, x2, x3, x4, hrow⟩ := HI.out.row
      have r1 : wr.cell? ⟨w.heap.size + 1, 1, none⟩ = some x1 := cellOf hrow 1
      have r2 : wr.cell? ⟨w.heap.size + 1, 2, none⟩ = some x2 := cellOf hrow 2
      have r3 : wr.cell? ⟨w.heap.size + 1, 3, none⟩ = some x3 := cellOf hrow 3
      have r4 : wr.cell? ⟨w.heap.size + 1, 4, none⟩ = some x4 := cellOf hrow 4
      have f1 : wr.frozen? ⟨w.heap.size + 1, 1, none⟩ = false := by simp [World.frozen?, hrow]
      have f2 : wr.frozen? ⟨w.heap.size + 1, 2, none⟩ = false := by simp [World.frozen?, hrow]
      have f3 : wr.frozen? ⟨w.heap.size + 1, 3, none⟩ = false := by simp [World.frozen?, hrow]
      have f4 : wr.frozen? ⟨w.heap.size + 1, 4, none⟩ = false := by simp [World.frozen?, hrow]
      obtain ⟨W5, hW5⟩ : ∃ W5, W5 = (((wr.setCell ⟨w.heap.size + 1, 1, none⟩ (.int .u8 (48 + (i : Int) / 1000))).setCell ⟨w.heap.size + 1, 2, none⟩ (.int .u8 (48 + (i : Int) / 100 % 10))).setCell ⟨w.heap.size + 1, 3, none⟩ (.int .u8 (48 + (i : Int) / 10 % 10))).setCell ⟨w.heap.size + 1, 4, none⟩ (.int .u8 (48 + (i : Int) % 10)) := ⟨_, rfl⟩
      have hrow5 : W5.heap[w.heap.size + 1]? = some (.cells (nmV i) 5 (5, 6)) := by
        rw [hW5]
        simp [World.setCell, Array.getElem?_modify, hrow, nmV]
      have ho5 : Only (· = w.heap.size + 1) wr W5 := by
        rw [hW5]
        exact (((Only.setCell (S := (· = w.heap.size + 1)) wr ⟨w.heap.size + 1, 1, none⟩ _ rfl).next (Only.setCell (S := (· = w.heap.size + 1)) _ ⟨w.heap.size + 1, 2, none⟩ _ rfl)).next (Only.setCell (S := (· = w.heap.size + 1)) _ ⟨w.heap.size + 1, 3, none⟩ _ rfl)).next (Only.setCell (S := (· = w.heap.size + 1)) _ ⟨w.heap.size + 1, 4, none⟩ _ rfl)
      have hb5 : Below w.heap.size w W5 := HI.out.bel.trans (ho5.below HI.out.bel.size (fun k hk => by have : k = w.heap.size + 1 := hk; omega))
      have hstr := run_str W5 (some ⟨w.heap.size + 1, 0, none⟩) (bits8 (nm i)) 5 (nm_bytes hlt hrow5)
      rw [strOf_bits8, bits8_length, show (nm i).length = 5 from rfl] at hstr
      obtain ⟨D, hD, hF⟩ := HI.out.dir
      have hD5 : DirOk W5 w.heap.size w.heap.size D := hD.but ho5 (fun k hk => by
        have : k = w.heap.size + 1 := hk
        rw [this]
        exact not_DT hrow (by decide) (by decide) (by decide))
      have cP := put_any w.heap.size w.heap.size D (bas (nm i)) (1 + (i : Int)) W5 (below_tab hb5 HT.out.lt HT.out) HT.out.lt hD5 (by rw [bas_size]; show 5 < 1000000; decide)
      rw [bas_data] at cP
      have cP' : Calls Tryd.prog 10 #[.pointer (some ⟨w.heap.size, 0, none⟩), .string (bas (nm i)), .int .i64 (1 + (i : Int))] W5 fun e w6 => e = .returned (.int .i64 0) ∧ FullI w (i + 1) w6 := by
        refine cP.mono ?_
        rintro e w6 ⟨hf, ⟨h1, _⟩ | ⟨_, h2, _⟩ | ⟨_, _, _, h4, _⟩ | ⟨_, _, h3, rfl, D', hD', hm, hA, _⟩⟩
        · exact absurd (nm_fine hlt) h1
        · exact absurd ⟨by omega, by omega⟩ h2
        · rw [hF.1] at h4; omega
        · exact ⟨rfl, hb5.trans (hf.toBelow hb5.size), ⟨_, _, _, _, hf.keep hrow5 (by decide) (by decide) (by decide)⟩, D', hD', hF.next hlt hm hA⟩
      rw [hW5] at hstr
      have hW5' : Hid (W5 = _) := hW5
      clear cP hD5 hF hD ho5 hb5 hrow5 hrow hW5
      go_wp2_with (go_at_call 10; rw [← hW5'.out]; refine cP'.mono ?_; rintro e w6 ⟨rfl, hF6⟩; clear cP')
      exact ⟨⟨i + 1, by simp, by omega, hF6⟩, by simp [intOf]; omega⟩
    · obtain rfl : i = 2048 := by omega
      obtain ⟨D, hD, hF⟩ := HI.out.dir
      have hbr := HI.out.bel
      have hbw : w.heap.size ≤ wr.heap.size := hbr.size
      have cP := put_any w.heap.size w.heap.size D ⟨#[109, 111, 114, 101]⟩ 5 wr (below_tab hbr HT.out.lt HT.out) HT.out.lt hD (by decide)
      have cP' : Calls Tryd.prog 10 #[.pointer (some ⟨w.heap.size, 0, none⟩), .string ⟨#[109, 111, 114, 101]⟩, .int .i64 5] wr fun e w3 => e = .returned (.int .i64 28) ∧ Hid (DirOk w3 w.heap.size w.heap.size D ∧ Below w.heap.size w w3) := by
        refine cP.mono ?_
        have hab : Absent D [109, 111, 114, 101] := by
          intro j b hj x hx e
          obtain ⟨k, hk, rfl⟩ := (hF.2 x).1 (List.mem_flatten.2 ⟨b, List.mem_of_getElem? hj, hx⟩)
          have := congrArg List.length e
          simp [nm] at this
        rintro e w6 ⟨hf, ⟨h1, _⟩ | ⟨_, h2, _⟩ | ⟨_, _, _, h4, rfl, h5⟩ | ⟨_, _, h3, _⟩⟩
        · exact absurd (by decide) h1
        · exact absurd (by decide) h2
        · exact ⟨rfl, h5, hbr.trans (hf.toBelow hbw)⟩
        · exact absurd ⟨hab, hF.1⟩ h3
      clear cP
      have HF : Hid (Filled D 2048) := hF
      clear hF hD hbr
      go_wp2_with fail
      refine cP'.mono ?_
      rintro e w3 ⟨rfl, H3⟩
      clear cP'
      have cQ := put_any w.heap.size w.heap.size D ⟨#[110, 48, 48, 48, 55]⟩ 9 w3 (below_tab H3.out.2 HT.out.lt HT.out) HT.out.lt H3.out.1 (by decide)
      have cQ' : Calls Tryd.prog 10 #[.pointer (some ⟨w.heap.size, 0, none⟩), .string ⟨#[110, 48, 48, 48, 55]⟩, .int .i64 9] w3 fun e w4 => e = .returned (.int .i64 0) ∧ Hid (∃ D', DirOk w4 w.heap.size w.heap.size D' ∧ Below w.heap.size w w4 ∧ total D' = 2048 ∧ ∀ q, q ∈ D'.flatten ↔ (q ∈ D.flatten ∧ q.name ≠ nm 7) ∨ q = ⟨nm 7, 9⟩) := by
        refine cQ.mono ?_
        have hna : ¬ Absent D [110, 48, 48, 48, 55] := by
          rw [← nm_7]
          exact not_absent (x := ⟨nm 7, 8⟩) ((HF.out.2 _).2 ⟨7, by decide, rfl⟩)
        rintro e w6 ⟨hf, ⟨h1, _⟩ | ⟨_, h2, _⟩ | ⟨_, _, h3, _⟩ | ⟨_, _, _, rfl, D', hD', hm, _, hB⟩⟩
        · exact absurd (by decide) h1
        · exact absurd (by decide) h2
        · exact absurd h3 hna
        · exact ⟨rfl, D', hD', H3.out.2.trans (hf.toBelow H3.out.2.size), (hB hna).trans HF.out.1, fun q => by rw [hm q, nm_7]; rfl⟩
      clear cQ
      go_wp2_with fail
      refine cQ'.mono ?_
      rintro e w4 ⟨rfl, D2, hD2, hb4, ht2, hm2⟩
      clear cQ'
      have cB := load_own w.heap.size w.heap.size D2 w4 (below_tab hb4 HT.out.lt HT.out) hD2
      have H4 : Hid (Below w.heap.size w w4) := hb4
      clear hb4 hD2
      go_wp2_with fail
      refine cB.mono ?_
      rintro e w5 ⟨rfl, hb5, cL⟩
      have H5 : Hid (Below w.heap.size w w5) := H4.out.trans (hb5.mono H4.out.size)
      clear cB hb5
      go_wp2_with fail
      refine cL.mono ?_
      rintro e w6 ⟨rfl, hb6, hD6⟩
      clear cL
      have hb6' : Below w.heap.size w w6 := H5.out.trans (hb6.mono H5.out.size)
      have hlt5 : 1 < w5.heap.size := Nat.lt_of_lt_of_le HT.out.lt H5.out.size
      have cG := get_any w5.heap.size (w5.heap.size + 2) D2 ⟨#[110, 48, 48, 48, 55]⟩ w6 (below_tab hb6' HT.out.lt HT.out) hlt5 hD6 (by decide)
      have H6 : Hid (Below w.heap.size w w6 ∧ DirOk w6 w5.heap.size (w5.heap.size + 2) D2) := ⟨hb6', hD6⟩
      have HM : Hid (∀ q, q ∈ D2.flatten ↔ (q ∈ D.flatten ∧ q.name ≠ nm 7) ∨ q = ⟨nm 7, 9⟩) := hm2
      clear hb6 hb6' hD6 hm2
      have cG' : Calls Tryd.prog 12 #[.pointer (some ⟨w5.heap.size + 2, 0, none⟩), .string ⟨#[110, 48, 48, 48, 55]⟩] w6 fun e w' => e = .returned (.tuple #[.int .i64 9, .bool true]) ∧ Below w6.heap.size w6 w' := by
        refine cG.mono ?_
        rintro e w7 ⟨hb7, ⟨x, hx, hn, rfl⟩ | ⟨hA, _⟩⟩
        · have hn' : x.name = nm 7 := hn.trans nm_7.symm
          rcases (HM.out x).1 hx with ⟨_, h⟩ | rfl
          · exact absurd hn' h
          · exact ⟨rfl, hb7⟩
        · refine absurd ?_ (not_absent (x := ⟨nm 7, 9⟩) ((HM.out _).2 (.inr rfl)))
          show Absent D2 (nm 7)
          rw [nm_7]; exact hA
      clear cG
      go_wp2_with fail
      refine cG'.mono ?_
      rintro e w7 ⟨rfl, hb7⟩
      have hb7' : Below w.heap.size w w7 := H6.out.1.trans (hb7.mono H6.out.1.size)
      have hD7 := H6.out.2.below hb7
      have cI := get_any w5.heap.size (w5.heap.size + 2) D2 ⟨#[110, 50, 48, 52, 55]⟩ w7 (below_tab hb7' HT.out.lt HT.out) hlt5 hD7 (by decide)
      have H7 : Hid (Below w.heap.size w w7 ∧ DirOk w7 w5.heap.size (w5.heap.size + 2) D2) := ⟨hb7', hD7⟩
      clear hb7 hb7' hD7 cG'
      have cI' : Calls Tryd.prog 12 #[.pointer (some ⟨w5.heap.size + 2, 0, none⟩), .string ⟨#[110, 50, 48, 52, 55]⟩] w7 fun e w' => e = .returned (.tuple #[.int .i64 2048, .bool true]) ∧ Below w7.heap.size w7 w' := by
        refine cI.mono ?_
        have hne : nm 2047 ≠ nm 7 := by decide
        rintro e w8 ⟨hb8, ⟨x, hx, hn, rfl⟩ | ⟨hA, _⟩⟩
        · have hn' : x.name = nm 2047 := hn.trans nm_2047.symm
          rcases (HM.out x).1 hx with ⟨h, _⟩ | rfl
          · obtain ⟨k, hk, rfl⟩ := (HF.out.2 x).1 h
            obtain rfl : k = 2047 := nm_inj hk (by decide) hn'
            exact ⟨rfl, hb8⟩
          · exact absurd hn'.symm hne
        · refine absurd ?_ (not_absent (x := ⟨nm 2047, 2048⟩) ((HM.out _).2 (.inl ⟨(HF.out.2 _).2 ⟨2047, by decide, rfl⟩, hne⟩)))
          show Absent D2 (nm 2047)
          rw [nm_2047]; exact hA
      clear cI
      go_wp2_with fail
      refine cI'.mono ?_
      rintro e w8 ⟨rfl, hb8⟩
      have hb8' : Below w.heap.size w w8 := H7.out.1.trans (hb8.mono H7.out.1.size)
      have cJ := begun10_true w8 (below_tab hb8' HT.out.lt HT.out)
      have H8 : Hid (DirOk w8 w5.heap.size (w5.heap.size + 2) D2 ∧ Below w.heap.size w w8) := ⟨H7.out.2.below hb8, hb8'⟩
      clear hb8 hb8' cI'
      go_wp2_with fail
      refine cJ.mono ?_
      rintro e w9 ⟨rfl, hb9⟩
      have cK : Calls Tryd.prog 16 #[.pointer (some ⟨w5.heap.size + 2, 0, none⟩)] w9 fun e w' => e = .returned (.int .i64 2048) ∧ w' = w9 := by
        obtain ⟨⟨bv, vs, h1⟩, _⟩ := H8.out.1.below hb9
        have := len_any _ (total D2) w9 h1.c0
        rw [ht2] at this
        exact this
      have H9 : Hid (Below w.heap.size w w9) := H8.out.2.trans (hb9.mono H8.out.2.size)
      clear cJ hb9
      go_wp2_with (go_at_call 16; refine Calls_on cK ?_; clear cK)
      go_ret
      exact ⟨rfl, H9.out⟩

end Go.Proofs.YtdocablbkafkiaaDoor.Cd
