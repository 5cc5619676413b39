/-
  What lies in the library's variables; numbers written and read, texts cut and copied, by the library.
-/
import Derived.Test.YtjggnmeeeofepaaDoorKAb
import Derived.Test.YtjggnmeeeofepaaDoorKAshelf
import Derived.Lib.AppendIntMem
import Derived.Lib.BufferWrite

namespace Go.Proofs.YtjggnmeeeofepaaDoor.Ck.Sh
open Go.RowKit Go.Lib

attribute [local go_sem] Oper.semAt_some

/-- What lies in the library's variables. -/
structure Lb (w : World) : Prop where
  tab : Lib.TabIs Tryd.prog w "internal/strconv.uint64pow10" .u64 Lib.pow10Tab
  syn : ∃ te pe, w.cell? ⟨3, 0, none⟩ = some (.iface te pe)
  rng : ∃ te pe, w.cell? ⟨4, 0, none⟩ = some (.iface te pe)
  len : ∃ m, w.cell? ⟨0, 0, none⟩ = some (.int .i64 m)
theorem cell_kept {w w' : World} {b k : Nat} {v : Value} (h : w.cell? ⟨b, k, none⟩ = some v) (hb : Below w.heap.size w w') : w'.cell? ⟨b, k, none⟩ = some v := by
  have hl := cell_lt h
  have hk := hb.block b hl
  unfold World.cell? at h ⊢
  simp only at h ⊢
  rw [hk]
  exact h
theorem Lb.below {w w' : World} (h : Lb w) (hb : Below w.heap.size w w') : Lb w' := by
  obtain ⟨tab, ⟨a, b, syn⟩, ⟨c, d, rng⟩, ⟨m, len⟩⟩ := h
  exact ⟨Lib.tabBelow_of_tabIs tab w' hb, ⟨a, b, cell_kept syn hb⟩, ⟨c, d, cell_kept rng hb⟩, ⟨m, cell_kept len hb⟩⟩
theorem below_then {a b c : World} (h : Below a.heap.size a b) (k : Below b.heap.size b c) : Below a.heap.size a c :=
  ⟨k.os.trans h.os, k.tape.trans h.tape, k.output.trans h.output, Nat.le_trans h.size k.size, fun i hi => (k.block i (Nat.lt_of_lt_of_le hi h.size)).trans (h.block i hi)⟩
theorem below_drewN (w : World) (n : Nat) : Below w.heap.size w (w.drewN n) := ⟨rfl, rfl, rfl, Nat.le_refl _, fun _ _ => rfl⟩

theorem fmt_any (z : Int) (h0 : -9223372036854775808 ≤ z) (h1 : z ≤ 9223372036854775807) (w : World) (h : Lb w) : Calls Tryd.prog 49 #[.int .i64 z, .int .i64 10] w fun e w' => e = .returned (.string (bas (itoa z))) ∧ Below w.heap.size w w' :=
  (Any.strconv_FormatInt_10 Tryd.laysM173 z h0 h1 w h.tab).mono fun _ _ ⟨he, k, os, hw⟩ => ⟨he, hw ▸ Lib.below_grow _ w (Nat.le_refl _) k os⟩
theorem itoa_any (z : Int) (h0 : -9223372036854775808 ≤ z) (h1 : z ≤ 9223372036854775807) (w : World) (h : Lb w) : Calls Tryd.prog 50 #[.int .i64 z] w fun e w' => e = .returned (.string (bas (itoa z))) ∧ Below w.heap.size w w' :=
  (Any.strconv_Itoa Tryd.laysM171 z h0 h1 w h.tab).mono fun _ _ ⟨he, k, os, hw⟩ => ⟨he, hw ▸ Lib.below_grow _ w (Nat.le_refl _) k os⟩
/-- A number, and some error. -/
def NumErr (e : Ending) (z : Int) : Prop := ∃ er, e = .returned (.tuple #[.int .i64 z, er])
theorem parse_any (l : List UInt8) (hl : l.length < 1000000000000000 / 10) (w : World) (h : Lb w) : Calls Tryd.prog 45 #[.string (bas l), .int .i64 10, .int .i64 64] w fun e w' => NumErr e (tv l) ∧ Below w.heap.size w w' := by
  have hs := bas_size l
  obtain ⟨te, pe, hsyn⟩ := h.syn
  obtain ⟨te', pe', hrng⟩ := h.rng
  cases hp : parseIntB 64 l with
  | ok v =>
    have ht : tv l = v := by unfold tv; rw [hp]
    rw [ht]
    refine (Any.strconv_ParseInt_10_at64_ok Tryd.laysC174 (bas l) (by omega) v (by rw [bas_data]; exact hp) w).mono fun e w' ⟨he, hw⟩ => ⟨⟨_, he⟩, ?_⟩
    rcases hw with rfl | ⟨t, rfl⟩
    · exact Below.refl _ _
    · exact Lib.bytesWorld_below ..
  | «syntax» =>
    have ht : tv l = 0 := by unfold tv; rw [hp]
    rw [ht]
    exact (Any.strconv_ParseInt_10_at64_syntax Tryd.laysC174 (bas l) (by omega) (by rw [bas_data]; exact hp) _ w hsyn (.inr ⟨_, _, rfl⟩)).mono fun e w' ⟨N, he, _, _, hb⟩ => ⟨⟨_, he⟩, hb⟩
  | range =>
    have ht : tv l = intSat 64 l := by unfold tv; rw [hp]
    rw [ht]
    have c := Any.strconv_ParseInt_10_at64_range Tryd.laysC174 (bas l) (by omega) (by rw [bas_data]; exact hp) _ w hrng (.inr ⟨_, _, rfl⟩)
    rw [bas_data] at c
    exact c.mono fun e w' ⟨N, he, _, _, hb⟩ => ⟨⟨_, he⟩, hb⟩
theorem atoi_any (l : List UInt8) (hl : l.length < 1000000000000000 / 10) (w : World) (h : Lb w) : Calls Tryd.prog 46 #[.string (bas l)] w fun e w' => NumErr e (nv l) ∧ Below w.heap.size w w' := by
  have hs := bas_size l
  obtain ⟨te, pe, hsyn⟩ := h.syn
  obtain ⟨te', pe', hrng⟩ := h.rng
  cases hp : atoiAll l with
  | ok v =>
    have ht : nv l = v := by unfold nv; rw [hp]
    rw [ht]
    refine (Any.strconv_Atoi_ok Tryd.laysC172 (bas l) (by omega) v (by rw [bas_data]; exact hp) w).mono fun e w' ⟨he, hw⟩ => ⟨⟨_, he⟩, ?_⟩
    rcases hw with rfl | ⟨t, rfl⟩
    · exact Below.refl _ _
    · exact Lib.bytesWorld_below ..
  | «syntax» =>
    have ht : nv l = 0 := by unfold nv; rw [hp]
    rw [ht]
    exact (Any.strconv_Atoi_syntax Tryd.laysC172 (bas l) (by omega) (by rw [bas_data]; exact hp) _ w hsyn (.inr ⟨_, _, rfl⟩)).mono fun e w' ⟨N, he, _, _, hb⟩ => ⟨⟨_, he⟩, hb⟩
  | range =>
    have ht : nv l = atoiSat l := by unfold nv; rw [hp]
    rw [ht]
    have c := Any.strconv_Atoi_range Tryd.laysC172 (bas l) (by omega) (by rw [bas_data]; exact hp) _ w hrng (.inr ⟨_, _, rfl⟩)
    rw [bas_data] at c
    exact c.mono fun e w' ⟨N, he, _, _, hb⟩ => ⟨⟨_, he⟩, hb⟩
theorem scut_any (l m : List UInt8) (hl : l.length < 4294967281) (w : World) (h : Lb w) : Calls Tryd.prog 34 #[.string (bas l), .string (bas m)] w fun e w' => e = .returned (.tuple #[.string (bas (Lib.cut l m).1), .string (bas (Lib.cut l m).2.1), .bool (Lib.cut l m).2.2]) ∧ Below w.heap.size w w' := by
  obtain ⟨k, hk⟩ := h.len
  have c := Any.strings_Cut Tryd.lays145 (bas l) (bas m) k w (by rw [bas_size]; exact hl) hk
  rw [bas_data, bas_data] at c
  exact c.mono fun e w' ⟨he, n, hw⟩ => ⟨he, hw ▸ below_drewN w n⟩

set_option maxRecDepth 8000 in
set_option maxHeartbeats 1000000 in
theorem lclone_any (s : ByteArray) (w : World) (hlim : s.size ≤ 200000000000000) : Calls Tryd.prog 33 #[.string s] w fun e w' => e = .returned (.string s) ∧ Below w.heap.size w w' := by
  by_cases h0 : s.size = 0
  · have hs : s = ⟨#[]⟩ := by
      apply ByteArray.ext
      exact Array.eq_empty_of_size_eq_zero h0
    subst hs
    go_enter Tryd.func33, Tryd.ntmps33
    go_wp2
    go_ret
    exact ⟨rfl, Below.refl _ _⟩
  · have e5 : (Tryd.prog.info? 5).map (fun i => (i.zero, i.size, i.bytes)) = some (some (.int .u8 0), 1, 1) := by kernel_rfl
    obtain ⟨i0, hi, he⟩ := Option.map_eq_some_iff.1 e5
    injection he with hz0 he
    injection he with hz1 hz2
    have hinfo : (Tryd.prog.info? 5).map (·.size) = some 1 := by rw [hi]; simp [hz1]
    have hco : Tryd.prog.cellsOf 5 = 1 := by simp [Program.cellsOf, hi, hz1]
    obtain ⟨M, hM⟩ : ∃ M, M = madeCells (Value.int .u8 0).cells (((s.size : Nat) : Int).toNat * i0.size) := ⟨_, rfl⟩
    have hMs : M.size = s.size := by rw [hM, size_madeCells, hz1]; simp
    have hmk : ∀ W : World, (Instr.makeSlice 44 (.int .i64 (s.size : Int)) (.int .i64 (s.size : Int))).run Tryd.prog W = .ok (.slice (some ⟨W.heap.size, 0, none⟩) s.size s.size) (W.alloc (.cells M 5)) := fun W => by
      have h := run_make (P := Tryd.prog) W 44 5 i0 (.int .u8 0) Tryd.underlying44 hi hz0 .i64 .i64 (s.size : Int) (s.size : Int) (by omega) (by omega) (by rw [hz2]; omega) (by omega)
      rw [← hM] at h
      simpa using h
    clear hM
    have hcp := Lib.run_copy_row_string (P := Tryd.prog) (w.alloc (.cells M 5)) 44 9 3 5 w.heap.size 0 s.size s.size s M 5 Tryd.underlying44 hinfo (heap_alloc_new w _) (Nat.le_refl _) (by omega)
    obtain ⟨Y, hY⟩ : ∃ Y, Y = (M.toList.take 0 ++ Lib.byteCells s.data.toList ++ M.toList.drop (0 + s.size)).toArray := ⟨_, rfl⟩
    rw [← hY] at hcp
    have hYl : Y.toList = Lib.byteCells s.data.toList := by
      rw [hY, List.toList_toArray, List.take_zero, List.nil_append, List.drop_of_length_le (by rw [Array.length_toList]; omega), List.append_nil]
    have hYs : Y.size = s.size := by rw [← Array.length_toList, hYl, Lib.byteCells_length, ← Lib.size_eq]
    have hgY : ((w.alloc (.cells M 5)).setRow w.heap.size Y).heap[w.heap.size]? = some (.cells Y 5 (0, 0)) := setRow_heap _ _ M _ 5 (0, 0) (heap_alloc_new w _)
    have hne : s.data.toList ≠ [] := fun e => h0 (by rw [Lib.size_eq, e]; rfl)
    have hUS := Lib.run_unsafeString_row (P := Tryd.prog) ((w.alloc (.cells M 5)).setRow w.heap.size Y) 59 3 9 5 Tryd.underlying59 hco w.heap.size Y.size (by unfold World.shape?; rw [hgY]) s.data.toList hne (by rw [← Lib.size_eq]; omega) (by rw [← Lib.size_eq]; omega)
      (fun j x hx => Lib.cells_of_row hgY Y.size j _ (by rw [List.take_of_length_le (by rw [Array.length_toList]; exact Nat.le_refl _), hYl]; simp [Lib.byteCells, hx]))
    rw [← Lib.size_eq] at hUS
    clear hY
    go_enter Tryd.func33, Tryd.ntmps33
    go_wp2
    go_ret
    have hb1 : Below w.heap.size w (w.alloc (.cells M 5)) := (Below.refl _ w).alloc (Nat.le_refl _) _
    have hb2 : Below w.heap.size (w.alloc (.cells M 5)) ((w.alloc (.cells M 5)).setRow w.heap.size Y) := ⟨rfl, rfl, rfl, by simp, fun k hk => setRow_other _ _ _ _ (by omega)⟩
    exact ⟨rfl, Lib.below_freeze (hb1.trans hb2) (p := ⟨w.heap.size, 0, none⟩) (Nat.le_refl _) _⟩
theorem sclone_any (s : ByteArray) (w : World) (hlim : s.size ≤ 200000000000000) : Calls Tryd.prog 23 #[.string s] w fun e w' => e = .returned (.string s) ∧ Below w.heap.size w w' := by
  have c := lclone_any s w hlim
  go_enter Tryd.func23, Tryd.ntmps23
  go_wp2_with (go_at_call 33; refine c.mono ?_; rintro e w1 ⟨rfl, hb⟩; have HB : Hid (Below w.heap.size w w1) := hb; clear hb)
  go_ret
  exact ⟨rfl, HB.out⟩

end Go.Proofs.YtjggnmeeeofepaaDoor.Ck.Sh
