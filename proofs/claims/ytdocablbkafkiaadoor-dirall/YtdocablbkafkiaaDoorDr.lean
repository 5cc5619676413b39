/-
  The number of a name: Get.
-/
import Derived.Test.YtdocablbkafkiaaDoorDq
namespace Go.Proofs.YtdocablbkafkiaaDoor.Cd
open Go.RowKit

set_option maxRecDepth 8000 in
set_option maxHeartbeats 1000000 in
theorem seek_zero (a : Nat) (s : ByteArray) (w : World) (h : w.cell? ⟨a, 0, none⟩ = some (.int .i64 0)) (D : List (List En)) (hD : total D = 0) : Calls Tryd.prog 21 #[.pointer (some ⟨a, 0, none⟩), .string s] w (Seek D s.data.toList w) := by
  have hal := cell_lt h
  have cL := len_any a 0 (w.alloc (.cells #[.int .i64 0, .int .i64 0] 51)) (by rw [World.cell?_alloc_past _ _ _ hal]; exact h)
  have HD : Hid (Absent D s.data.toList) := fun j b hb x hx => by
    have : x ∈ D.flatten := (mem_at x).2 ⟨j, b, hb, hx⟩
    have := List.length_pos_of_mem this
    unfold total at hD; omega
  clear hD
  go_enter Tryd.func21, Tryd.ntmps21
  go_wp2_with (go_at_call 16; refine Calls_on cL ?_; clear cL)
  refine bodyPost_ret (v := .tuple #[.agg #[.int .i64 0, .int .i64 0], .bool false]) (by simp [results, Tryd.results21, go_sem]) rfl ?_
  refine ⟨?_, .inr ⟨HD.out, rfl⟩⟩
  first
    | exact (Below.refl _ w).alloc (Nat.le_refl _) _
    | exact ((Only.alloc (fun _ => False) w (.cells #[.int .i64 0, .int .i64 0] 51)).trans (Only.next (Only.setCell (S := (· = w.heap.size)) _ ⟨w.heap.size, 0, none⟩ _ rfl) (Only.setCell (S := (· = w.heap.size)) _ ⟨w.heap.size, 1, none⟩ _ rfl)) (fun i hi => .inr (by omega))).below (Nat.le_refl _) (fun _ f => f.elim)

/-- A directory that holds what it should. -/
structure Good (D : List (List En)) : Prop where
  wf : WF H1 D.length D
  len : D.length = bfor (total D)
  most : total D ≤ 2048
  fine : ∀ x ∈ D.flatten, fineN x.name = 0 ∧ 1 ≤ x.num ∧ x.num ≤ 2147483647
def DirOk (w : World) (base a : Nat) (D : List (List En)) : Prop := (∃ bv vs, DirAt w base a (total D) bv vs D) ∧ Good D
theorem DirOk.below {w w' : World} {base a : Nat} {D : List (List En)} (h : DirOk w base a D) (hb : Below w.heap.size w w') : DirOk w' base a D := by
  obtain ⟨⟨bv, vs, h1⟩, h2⟩ := h
  exact ⟨⟨bv, vs, h1.below hb⟩, h2⟩
theorem DirOk.lt {w : World} {base a : Nat} {D : List (List En)} (h : DirOk w base a D) : base ≤ a ∧ a < w.heap.size := by
  obtain ⟨⟨bv, vs, h1⟩, h2⟩ := h
  exact ⟨h1.lo, block_lt h1.dir⟩
theorem fine_short {s : List UInt8} (h : fineN s = 0) : s.length ≤ 64 := by
  unfold fineN at h
  split at h
  · cases h
  · split at h
    · cases h
    · split at h
      · cases h
      · omega
theorem bfor_small (c : Nat) (h : c ≤ 2048) : bfor c ≤ 512 := by have := bfor_le c h; omega

theorem seek_ok (base a : Nat) (D : List (List En)) (s : ByteArray) (w : World) (ht : Tab w) (hgb : 1 < base) (h : DirOk w base a D) (hx : s.size < 1000000) :
    Calls Tryd.prog 21 #[.pointer (some ⟨a, 0, none⟩), .string s] w (Seek D s.data.toList w) := by
  obtain ⟨⟨bv, vs, h1⟩, h2⟩ := h
  rcases Nat.eq_zero_or_pos (total D) with h0 | h0
  · exact seek_zero a s w (by rw [h1.c0, h0]; rfl) D h0
  · exact seek_any base a (total D) bv vs D s w ht hgb h1 h2.wf (by rw [h2.len]; exact bfor_pos _ h2.most h0) (by rw [h2.len]; have := bfor_small _ h2.most; omega) h0 (by have := h2.most; omega) hx

/-- What Get answers. -/
def Got (D : List (List En)) (s : List UInt8) (w : World) (e : Ending) (w' : World) : Prop :=
  Below w.heap.size w w' ∧ ((∃ x ∈ D.flatten, x.name = s ∧ e = .returned (.tuple #[.int .i64 (x.num : Nat), .bool true])) ∨ (Absent D s ∧ e = .returned (.tuple #[.int .i64 0, .bool false])))

set_option maxRecDepth 8000 in
set_option maxHeartbeats 2000000 in
theorem get_any (base a : Nat) (D : List (List En)) (s : ByteArray) (w : World) (ht : Tab w) (hgb : 1 < base) (h : DirOk w base a D) (hx : s.size < 1000000) :
    Calls Tryd.prog 12 #[.pointer (some ⟨a, 0, none⟩), .string s] w (Got D s.data.toList w) := by
  have cS := seek_ok base a D s w ht hgb h hx
  have H : Hid (DirOk w base a D) := h
  clear h ht
  go_enter Tryd.func12, Tryd.ntmps12
  go_wp2_with fail
  refine cS.mono ?_
  clear cS
  rintro e w1 ⟨hb1, ⟨i, j, L, x, hL, hx', hn, rfl⟩ | ⟨hA, rfl⟩⟩
  · have hO := H.out.below hb1
    obtain ⟨⟨bv, vs, h1⟩, h2⟩ := hO
    obtain ⟨B, c, cur, v, hbv, hB, hcur, hv, hblk⟩ := h1.at_ hL
    obtain ⟨p, cv, rfl, hlc, _, he⟩ := hblk.form
    have hj := (List.getElem?_eq_some_iff.1 hx').1
    obtain ⟨g, o, rfl, hce⟩ := he (by omega)
    have d1 : w1.cell? ⟨a, 1, none⟩ = some (.slice (some ⟨B, 0, none⟩) D.length c) := by rw [h1.c1, hbv]
    have dB : w1.cell? ⟨B, i, none⟩ = some (.slice (some ⟨g, o, none⟩) L.length cv) := by rw [cellOf hB i]; exact hcur
    have dx : w1.cell? ⟨g, o + j * 2 + 1, none⟩ = some (.int .i64 (x.num : Nat)) := hce j 1 x hx' (by omega)
    have hiD := (List.getElem?_eq_some_iff.1 hL).1
    have hl7 := h2.wf.room i L hL
    have hDl : D.length ≤ 512 := by rw [h2.len]; exact bfor_small _ h2.most
    have HR : Hid (x ∈ D.flatten ∧ x.name = s.data.toList ∧ Below w.heap.size w w1) := ⟨(mem_at x).2 ⟨i, L, hL, List.mem_of_getElem? hx'⟩, hn, hb1⟩
    have hal := cell_lt d1
    have hBl := cell_lt dB
    have hgl := cell_lt dx
    generalize L.length = m at *
    generalize D.length = n at *
    have hiI : (i : Int) < n := by omega
    have hjI : (j : Int) < m := by omega
    clear h1 h2 hL hx' hn hbv hB hcur hv hblk hlc he hce hb1
    go_wp2_with fail
    go_quiet (fail)
    go_wp2
    go_ret2
    have hb : Below w.heap.size w (w1.alloc (.cells #[.int .i64 (i : Nat), .int .i64 (j : Nat)] 51)) := HR.out.2.2.alloc HR.out.2.2.size _
    refine ⟨⟨hb.os, hb.tape, hb.output, hb.size, hb.block⟩, .inl ⟨x, HR.out.1, HR.out.2.1, rfl⟩⟩
  · have HR : Hid (Absent D s.data.toList ∧ Below w.heap.size w w1) := ⟨hA, hb1⟩
    clear hA hb1
    go_wp2
    go_ret2
    exact ⟨HR.out.2.alloc HR.out.2.size _, .inr ⟨HR.out.1, rfl⟩⟩

end Go.Proofs.YtdocablbkafkiaaDoor.Cd
