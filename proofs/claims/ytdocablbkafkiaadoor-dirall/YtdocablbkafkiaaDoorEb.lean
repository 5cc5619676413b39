/-
  A directory as bytes: Bytes.
-/
import Derived.Test.YtdocablbkafkiaaDoorEa
namespace Go.Proofs.YtdocablbkafkiaaDoor.Cd
open Go.RowKit

def pad (l : List (BitVec 8)) : List (BitVec 8) := l ++ List.replicate (512 - l.length) 0#8
def dirB (D : List (List En)) : List (BitVec 8) := (D.map fun L => pad (imgB D.length L)).flatten
theorem pad_len {l : List (BitVec 8)} (h : l.length ≤ 512) : (pad l).length = 512 := by
  unfold pad; simp; omega
theorem flat512 : ∀ (M : List (List (BitVec 8))), (∀ l ∈ M, l.length = 512) → M.flatten.length = M.length * 512
  | [], _ => rfl
  | l :: M, h => by
    rw [List.flatten_cons, List.length_append, flat512 M (fun x hx => h x (List.mem_cons_of_mem _ hx)), h l (List.mem_cons_self ..), List.length_cons]
    omega
theorem Good.short {D : List (List En)} (h : Good D) {i : Nat} {L : List En} (hL : D[i]? = some L) : L.length ≤ 7 ∧ ∀ x ∈ L, x.name.length ≤ 64 ∧ x.num ≤ 2147483647 :=
  ⟨h.wf.room i L hL, fun x hx => by have := h.fine x ((mem_at x).2 ⟨i, L, hL, hx⟩); exact ⟨fine_short this.1, this.2.2⟩⟩
theorem Good.small {D : List (List En)} (h : Good D) : D.length ≤ 512 := by rw [h.len]; exact bfor_small _ h.most
theorem Good.pads {D : List (List En)} (h : Good D) : ∀ l ∈ D.map (fun L => pad (imgB D.length L)), l.length = 512 := fun l hl => by
  obtain ⟨L, hL, rfl⟩ := List.mem_map.1 hl
  obtain ⟨i, hi⟩ := List.mem_iff_getElem?.1 hL
  have := imgB_len h.small (h.short hi).1 (h.short hi).2
  exact pad_len (by omega)
theorem dirB_len {D : List (List En)} (h : Good D) : (dirB D).length = D.length * 512 := by
  unfold dirB
  rw [flat512 _ h.pads, List.length_map]

/-- The bytes of some blocks, zeros behind. -/
def rowTo (D : List (List En)) (i : Nat) : List (BitVec 8) := ((D.take i).map fun L => pad (imgB D.length L)).flatten ++ List.replicate ((D.length - i) * 512) 0#8
theorem front_len {D : List (List En)} (h : Good D) {i : Nat} (hi : i ≤ D.length) : (((D.take i).map fun L => pad (imgB D.length L)).flatten).length = i * 512 := by
  rw [flat512 _ (fun l hl => h.pads l (by
    rw [List.map_take] at hl; exact List.mem_of_mem_take hl)), List.length_map, List.length_take]
  congr 1; omega
theorem rowTo_len {D : List (List En)} (h : Good D) {i : Nat} (hi : i ≤ D.length) : (rowTo D i).length = D.length * 512 := by
  unfold rowTo
  rw [List.length_append, front_len h hi, List.length_replicate]
  omega
theorem rowTo_next {D : List (List En)} (h : Good D) {i : Nat} {L : List En} (hL : D[i]? = some L) : (rowTo D i).take (i * 512) ++ imgB D.length L ++ (rowTo D i).drop (i * 512 + (imgB D.length L).length) = rowTo D (i + 1) := by
  have hi := (List.getElem?_eq_some_iff.1 hL).1
  have hf := front_len h (i := i) (by omega)
  have hk := imgB_len h.small (h.short hL).1 (h.short hL).2
  unfold rowTo
  rw [List.take_left' hf, List.drop_append, List.drop_of_length_le (by omega), List.nil_append, hf, List.drop_replicate, List.take_add_one, hL]
  simp only [Option.toList_some, List.map_append, List.map_cons, List.map_nil, List.flatten_append, List.flatten_cons, List.flatten_nil, List.append_nil, List.append_assoc]
  congr 1
  unfold pad
  rw [List.append_assoc]
  congr 1
  rw [List.replicate_append_replicate]
  congr 1
  omega
theorem rowTo_end {D : List (List En)} : rowTo D D.length = dirB D := by
  unfold rowTo dirB
  rw [List.take_of_length_le (Nat.le_refl _)]
  simp

theorem bytes_nil_dir (w : World) : Calls Tryd.prog 13 #[.pointer none] w fun e w' => e = .returned (.slice none 0 0) ∧ w' = w := by
  go_enter Tryd.func13, Tryd.ntmps13
  go_wp2
  go_ret
  exact ⟨rfl, rfl⟩

/-- A row of bytes of its own. -/
def RowB (w : World) (N : Nat) (bs : List (BitVec 8)) : Prop := w.heap[N]? = some (.cells (bs.map u8v).toArray 5 (0, 0))

set_option maxRecDepth 8000 in
set_option maxHeartbeats 2000000 in
theorem dbytes_any (base da : Nat) (D : List (List En)) (w : World) (h : DirOk w base da D) :
    Calls Tryd.prog 13 #[.pointer (some ⟨da, 0, none⟩)] w fun e w' => e = .returned (.slice (some ⟨w.heap.size, 0, none⟩) (D.length * 512) (D.length * 512)) ∧ RowB w' w.heap.size (dirB D) ∧ Below w.heap.size w w' := by
  obtain ⟨⟨bv, vs, h1⟩, h2⟩ := h
  obtain ⟨p, c, rfl, hlc, hcm, _⟩ := h1.bform
  have hsm := h2.small
  obtain ⟨n, hn⟩ : ∃ n, D.length = n := ⟨_, rfl⟩
  obtain ⟨N0, hN0⟩ : ∃ N0, n * 512 = N0 := ⟨_, rfl⟩
  have hN0I : (n : Int) * 512 = (N0 : Nat) := by omega
  have e5 : (Tryd.prog.info? 5).map (fun i => (i.zero, i.size, i.bytes)) = some (some (.int .u8 0), 1, 1) := by kernel_rfl
  obtain ⟨i0, hi, he⟩ := Option.map_eq_some_iff.1 e5
  injection he with hz0 he
  injection he with hz1 hz2
  have hinfo : (Tryd.prog.info? 5).map (·.size) = some 1 := by rw [hi]; simp [hz1]
  have hmk : (Instr.makeSlice 36 (.int .i64 (N0 : Int)) (.int .i64 (N0 : Int))).run Tryd.prog w = .ok (.slice (some ⟨w.heap.size, 0, none⟩) N0 N0) (w.alloc (.cells ((List.replicate N0 0#8).map u8v).toArray 5)) := by
    have hh := run_make (P := Tryd.prog) w 36 5 i0 (.int .u8 0) Tryd.underlying36 hi hz0 .i64 .i64 (N0 : Int) (N0 : Int) (by omega) (by omega) (by rw [hz2]; omega) (by omega)
    have hM : madeCells (Value.int .u8 0).cells (((N0 : Nat) : Int).toNat * i0.size) = ((List.replicate N0 0#8).map u8v).toArray := by
      apply Array.toList_inj.1
      rw [hz1, Int.toNat_natCast, Nat.mul_one]
      refine (toList_madeCells_one _ _).trans ?_
      simp [u8v]
    rw [hM] at hh
    simpa using hh
  obtain ⟨w1, hw1⟩ : ∃ w1, w1 = w.alloc (.cells ((List.replicate N0 0#8).map u8v).toArray 5) := ⟨_, rfl⟩
  rw [← hw1] at hmk
  have hb1 : Below w.heap.size w w1 := by rw [hw1]; exact (Below.refl _ w).alloc (Nat.le_refl _) _
  have hr0 : rowTo D 0 = List.replicate N0 0#8 := by unfold rowTo; simp [hn, hN0]
  have H1 : Hid (RowB w1 w.heap.size (rowTo D 0) ∧ Below w.heap.size w w1) := ⟨by rw [hr0, hw1]; exact heap_alloc_new w _, hb1⟩
  have HD : Hid (DirAt w base da (total D) (.slice p D.length c) vs D ∧ Good D ∧ D.length = n ∧ n * 512 = N0) := ⟨h1, h2, hn, hN0⟩
  have c1 : w.cell? ⟨da, 1, none⟩ = some (.slice p n c) := by rw [h1.c1, hn]
  have c1' : w1.cell? ⟨da, 1, none⟩ = some (.slice p n c) := (hb1.cell (p := ⟨da, 1, none⟩) (cell_lt c1)).trans c1
  rw [hn] at hlc hsm
  rw [hn, hN0]
  clear h1 h2 hw1 hb1 hr0 hn hi hz0 hz1 hz2 e5 hN0 hcm
  go_enter Tryd.func13, Tryd.ntmps13
  go_wp2_with fail
  go_loopw [20] (fun ii wr => ∃ i : Nat, ii = .int .i64 i ∧ i ≤ n ∧ Hid (RowB wr w.heap.size (rowTo D i) ∧ Below w.heap.size w wr)) (fun ii _ => n - (intOf ii).toNat)
  case atStart => exact ⟨0, rfl, Nat.zero_le _, H1.out⟩
  case round =>
    obtain ⟨i, rfl, hin, HI⟩ := hrel
    by_cases hlt : i < n
    · have hltI : (i : Int) < n := by omega
      obtain ⟨L, hL⟩ : ∃ L, D[i]? = some L := ⟨_, List.getElem?_eq_getElem (by rw [HD.out.2.2.1]; exact hlt)⟩
      have hdw := HD.out.1.below HI.out.2
      obtain ⟨B, c', cur, v, hbv, hB, hcur, hv, hblk⟩ := hdw.at_ hL
      injection hbv with q1 q2 q3
      subst q1
      obtain ⟨pv, cv, rfl, _, _, _⟩ := hblk.form
      have dB : wr.cell? ⟨B, i, none⟩ = some (.slice pv L.length cv) := by rw [cellOf hB i]; exact hcur
      have d1 : wr.cell? ⟨da, 1, none⟩ = some (.slice (some ⟨B, 0, none⟩) n c) := (HI.out.2.cell (p := ⟨da, 1, none⟩) (cell_lt c1)).trans c1
      have hsh := HD.out.2.1.short hL
      obtain ⟨q, hq⟩ : ∃ q, i * 512 = q := ⟨_, rfl⟩
      have hqI : (i : Int) * 512 = (q : Nat) := by omega
      have hqN : q + 512 ≤ N0 := by have := HD.out.2.2.2; omega
      have hqNI : (q : Int) ≤ N0 := by omega
      have hqne : ¬ N0 = q := by omega
      have hqle : q ≤ N0 := by omega
      have hqne2 : ¬ q = N0 := by omega
      have hqlt : q < N0 := by omega
      have hqltI : (q : Int) < N0 := by omega
      have hq0 : (0 : Int) ≤ (q : Int) := by omega
      obtain ⟨k, hk⟩ : ∃ k, (imgB n L).length = k := ⟨_, rfl⟩
      have hk9 : k ≤ 493 := by rw [← hk]; exact imgB_len hsm hsh.1 hsh.2
      have cI : Calls Tryd.prog 26 #[.slice pv L.length cv, .int .i64 (n : Nat)] wr.drew fun e w3 => ∃ p3 c3 W, e = .returned (.slice p3 k c3) ∧ (∀ dc, (Builtin.copy_ #[36, 36] 3 #[.slice (some ⟨w.heap.size, q, none⟩) (N0 - q) dc, .slice p3 k c3]).run Tryd.prog w3 = .ok (goInt k) W) ∧ Below w.heap.size w w3 ∧ RowB W w.heap.size (rowTo D (i + 1)) ∧ Below w.heap.size w W := by
        refine (image_any base n _ L wr.drew hblk hsm hsh.1 hsh.2).mono ?_
        rintro e w3 ⟨p3, c3, rfl, hby, hb3, hkc⟩
        have hrow3 : w3.heap[w.heap.size]? = some (.cells ((rowTo D i).map u8v).toArray 5 (0, 0)) := (hb3.block _ (block_lt HI.out.1)).trans HI.out.1
        have hpos : 0 < (imgB n L).length := by unfold imgB; have := numB_pos n; simp; omega
        obtain ⟨b, o, rfl, hc3⟩ := hby hpos
        rw [hk]
        have hrl := rowTo_len HD.out.2.1 (i := i) (by rw [HD.out.2.2.1]; exact hin)
        rw [HD.out.2.2.1, HD.out.2.2.2] at hrl
        have hcp : ∀ dc, _ := fun dc => run_copy_row (P := Tryd.prog) w3 36 36 3 5 w.heap.size q (N0 - q) dc ⟨b, o, none⟩ k c3 ((rowTo D i).map u8v).toArray 5 ((imgB n L).map u8v) Tryd.underlying36 hinfo hrow3 (by rw [List.length_map, hk]; simp only [Nat.min_def]; split <;> omega)
          (fun j v hj => by
            rw [Addr.add_lit]
            rw [List.getElem?_map] at hj
            obtain ⟨y, hy, rfl⟩ := Option.map_eq_some_iff.1 hj
            exact hc3 j y hy) (by rw [List.length_map, hk, List.size_toArray, List.length_map, hrl]; omega) (u8v_one _)
        have hgi : goInt ((imgB n L).map u8v).length = goInt k := by rw [List.length_map, hk]
        refine ⟨some ⟨b, o, none⟩, c3, _, rfl, fun dc => (hcp dc).trans (by rw [hgi]), HI.out.2.trans ((below_of_drew hb3).mono HI.out.2.size), ?_, ?_⟩
        · have hnext := rowTo_next HD.out.2.1 hL
          rw [HD.out.2.2.1, hq] at hnext
          unfold RowB
          rw [setRow_heap _ _ _ _ 5 (0, 0) hrow3]
          congr 2
          rw [List.toList_toArray, ← hnext, List.map_append, List.map_append, List.map_take, List.map_drop, List.length_map]
        · have hb : Below w.heap.size w w3 := HI.out.2.trans ((below_of_drew hb3).mono HI.out.2.size)
          refine hb.trans ⟨rfl, rfl, rfl, by simp, fun j hj => setRow_other _ _ _ _ (by omega)⟩
      have hal : da < wr.heap.size := cell_lt d1
      clear hL hdw hB hcur hv hblk hsh hk q2 q3 hq
      generalize L.length = m at *
      go_wp2_with fail
      have hmix : Tryd.prog.follows .mixedOrders = true := by kernel_rfl
      have hwq : IntKind.i64.wrap ((i : Int) * 512) = (q : Nat) := by rw [IntKind.wrap_i64]; omega
      have vv0 : ∀ g, vals ((fun g : Option Addr × Nat => ([(some 25, .slice (some ⟨w.heap.size, 0, none⟩) N0 N0), (some 26, .int .i64 (i : Nat)), (some 27, .int .i64 (q : Nat)), (some 28, .slice (some ⟨w.heap.size, q, none⟩) (N0 - q) (N0 - q)), (some 29, .slice pv m cv), (some 30, .pointer (some ⟨da, 0, none⟩)), (some 31, .pointer (some ⟨da, 0, none⟩)), (some 32, .pointer (some ⟨da, 1, none⟩)), (some 33, .slice (some ⟨B, 0, none⟩) n c), (some 34, .int .i64 (n : Nat)), (some 35, .slice g.1 k g.2), (some 36, .int .i64 (k : Nat))] : List (Option Tmp × Value))) g) 0 = .slice (some ⟨w.heap.size, 0, none⟩) N0 N0 := fun g => rfl
      have vv1 : ∀ g, vals ((fun g : Option Addr × Nat => ([(some 25, .slice (some ⟨w.heap.size, 0, none⟩) N0 N0), (some 26, .int .i64 (i : Nat)), (some 27, .int .i64 (q : Nat)), (some 28, .slice (some ⟨w.heap.size, q, none⟩) (N0 - q) (N0 - q)), (some 29, .slice pv m cv), (some 30, .pointer (some ⟨da, 0, none⟩)), (some 31, .pointer (some ⟨da, 0, none⟩)), (some 32, .pointer (some ⟨da, 1, none⟩)), (some 33, .slice (some ⟨B, 0, none⟩) n c), (some 34, .int .i64 (n : Nat)), (some 35, .slice g.1 k g.2), (some 36, .int .i64 (k : Nat))] : List (Option Tmp × Value))) g) 1 = .int .i64 (i : Nat) := fun g => rfl
      have vv2 : ∀ g, vals ((fun g : Option Addr × Nat => ([(some 25, .slice (some ⟨w.heap.size, 0, none⟩) N0 N0), (some 26, .int .i64 (i : Nat)), (some 27, .int .i64 (q : Nat)), (some 28, .slice (some ⟨w.heap.size, q, none⟩) (N0 - q) (N0 - q)), (some 29, .slice pv m cv), (some 30, .pointer (some ⟨da, 0, none⟩)), (some 31, .pointer (some ⟨da, 0, none⟩)), (some 32, .pointer (some ⟨da, 1, none⟩)), (some 33, .slice (some ⟨B, 0, none⟩) n c), (some 34, .int .i64 (n : Nat)), (some 35, .slice g.1 k g.2), (some 36, .int .i64 (k : Nat))] : List (Option Tmp × Value))) g) 2 = .int .i64 (q : Nat) := fun g => rfl
      have vv3 : ∀ g, vals ((fun g : Option Addr × Nat => ([(some 25, .slice (some ⟨w.heap.size, 0, none⟩) N0 N0), (some 26, .int .i64 (i : Nat)), (some 27, .int .i64 (q : Nat)), (some 28, .slice (some ⟨w.heap.size, q, none⟩) (N0 - q) (N0 - q)), (some 29, .slice pv m cv), (some 30, .pointer (some ⟨da, 0, none⟩)), (some 31, .pointer (some ⟨da, 0, none⟩)), (some 32, .pointer (some ⟨da, 1, none⟩)), (some 33, .slice (some ⟨B, 0, none⟩) n c), (some 34, .int .i64 (n : Nat)), (some 35, .slice g.1 k g.2), (some 36, .int .i64 (k : Nat))] : List (Option Tmp × Value))) g) 3 = .slice (some ⟨w.heap.size, q, none⟩) (N0 - q) (N0 - q) := fun g => rfl
      have vv4 : ∀ g, vals ((fun g : Option Addr × Nat => ([(some 25, .slice (some ⟨w.heap.size, 0, none⟩) N0 N0), (some 26, .int .i64 (i : Nat)), (some 27, .int .i64 (q : Nat)), (some 28, .slice (some ⟨w.heap.size, q, none⟩) (N0 - q) (N0 - q)), (some 29, .slice pv m cv), (some 30, .pointer (some ⟨da, 0, none⟩)), (some 31, .pointer (some ⟨da, 0, none⟩)), (some 32, .pointer (some ⟨da, 1, none⟩)), (some 33, .slice (some ⟨B, 0, none⟩) n c), (some 34, .int .i64 (n : Nat)), (some 35, .slice g.1 k g.2), (some 36, .int .i64 (k : Nat))] : List (Option Tmp × Value))) g) 4 = .slice pv m cv := fun g => rfl
      have vv5 : ∀ g, vals ((fun g : Option Addr × Nat => ([(some 25, .slice (some ⟨w.heap.size, 0, none⟩) N0 N0), (some 26, .int .i64 (i : Nat)), (some 27, .int .i64 (q : Nat)), (some 28, .slice (some ⟨w.heap.size, q, none⟩) (N0 - q) (N0 - q)), (some 29, .slice pv m cv), (some 30, .pointer (some ⟨da, 0, none⟩)), (some 31, .pointer (some ⟨da, 0, none⟩)), (some 32, .pointer (some ⟨da, 1, none⟩)), (some 33, .slice (some ⟨B, 0, none⟩) n c), (some 34, .int .i64 (n : Nat)), (some 35, .slice g.1 k g.2), (some 36, .int .i64 (k : Nat))] : List (Option Tmp × Value))) g) 5 = .pointer (some ⟨da, 0, none⟩) := fun g => rfl
      have vv6 : ∀ g, vals ((fun g : Option Addr × Nat => ([(some 25, .slice (some ⟨w.heap.size, 0, none⟩) N0 N0), (some 26, .int .i64 (i : Nat)), (some 27, .int .i64 (q : Nat)), (some 28, .slice (some ⟨w.heap.size, q, none⟩) (N0 - q) (N0 - q)), (some 29, .slice pv m cv), (some 30, .pointer (some ⟨da, 0, none⟩)), (some 31, .pointer (some ⟨da, 0, none⟩)), (some 32, .pointer (some ⟨da, 1, none⟩)), (some 33, .slice (some ⟨B, 0, none⟩) n c), (some 34, .int .i64 (n : Nat)), (some 35, .slice g.1 k g.2), (some 36, .int .i64 (k : Nat))] : List (Option Tmp × Value))) g) 6 = .pointer (some ⟨da, 0, none⟩) := fun g => rfl
      have vv7 : ∀ g, vals ((fun g : Option Addr × Nat => ([(some 25, .slice (some ⟨w.heap.size, 0, none⟩) N0 N0), (some 26, .int .i64 (i : Nat)), (some 27, .int .i64 (q : Nat)), (some 28, .slice (some ⟨w.heap.size, q, none⟩) (N0 - q) (N0 - q)), (some 29, .slice pv m cv), (some 30, .pointer (some ⟨da, 0, none⟩)), (some 31, .pointer (some ⟨da, 0, none⟩)), (some 32, .pointer (some ⟨da, 1, none⟩)), (some 33, .slice (some ⟨B, 0, none⟩) n c), (some 34, .int .i64 (n : Nat)), (some 35, .slice g.1 k g.2), (some 36, .int .i64 (k : Nat))] : List (Option Tmp × Value))) g) 7 = .pointer (some ⟨da, 1, none⟩) := fun g => rfl
      have vv8 : ∀ g, vals ((fun g : Option Addr × Nat => ([(some 25, .slice (some ⟨w.heap.size, 0, none⟩) N0 N0), (some 26, .int .i64 (i : Nat)), (some 27, .int .i64 (q : Nat)), (some 28, .slice (some ⟨w.heap.size, q, none⟩) (N0 - q) (N0 - q)), (some 29, .slice pv m cv), (some 30, .pointer (some ⟨da, 0, none⟩)), (some 31, .pointer (some ⟨da, 0, none⟩)), (some 32, .pointer (some ⟨da, 1, none⟩)), (some 33, .slice (some ⟨B, 0, none⟩) n c), (some 34, .int .i64 (n : Nat)), (some 35, .slice g.1 k g.2), (some 36, .int .i64 (k : Nat))] : List (Option Tmp × Value))) g) 8 = .slice (some ⟨B, 0, none⟩) n c := fun g => rfl
      have vv9 : ∀ g, vals ((fun g : Option Addr × Nat => ([(some 25, .slice (some ⟨w.heap.size, 0, none⟩) N0 N0), (some 26, .int .i64 (i : Nat)), (some 27, .int .i64 (q : Nat)), (some 28, .slice (some ⟨w.heap.size, q, none⟩) (N0 - q) (N0 - q)), (some 29, .slice pv m cv), (some 30, .pointer (some ⟨da, 0, none⟩)), (some 31, .pointer (some ⟨da, 0, none⟩)), (some 32, .pointer (some ⟨da, 1, none⟩)), (some 33, .slice (some ⟨B, 0, none⟩) n c), (some 34, .int .i64 (n : Nat)), (some 35, .slice g.1 k g.2), (some 36, .int .i64 (k : Nat))] : List (Option Tmp × Value))) g) 9 = .int .i64 (n : Nat) := fun g => rfl
      have vv10 : ∀ g, vals ((fun g : Option Addr × Nat => ([(some 25, .slice (some ⟨w.heap.size, 0, none⟩) N0 N0), (some 26, .int .i64 (i : Nat)), (some 27, .int .i64 (q : Nat)), (some 28, .slice (some ⟨w.heap.size, q, none⟩) (N0 - q) (N0 - q)), (some 29, .slice pv m cv), (some 30, .pointer (some ⟨da, 0, none⟩)), (some 31, .pointer (some ⟨da, 0, none⟩)), (some 32, .pointer (some ⟨da, 1, none⟩)), (some 33, .slice (some ⟨B, 0, none⟩) n c), (some 34, .int .i64 (n : Nat)), (some 35, .slice g.1 k g.2), (some 36, .int .i64 (k : Nat))] : List (Option Tmp × Value))) g) 10 = .slice g.1 k g.2 := fun g => rfl
      have vv11 : ∀ g, vals ((fun g : Option Addr × Nat => ([(some 25, .slice (some ⟨w.heap.size, 0, none⟩) N0 N0), (some 26, .int .i64 (i : Nat)), (some 27, .int .i64 (q : Nat)), (some 28, .slice (some ⟨w.heap.size, q, none⟩) (N0 - q) (N0 - q)), (some 29, .slice pv m cv), (some 30, .pointer (some ⟨da, 0, none⟩)), (some 31, .pointer (some ⟨da, 0, none⟩)), (some 32, .pointer (some ⟨da, 1, none⟩)), (some 33, .slice (some ⟨B, 0, none⟩) n c), (some 34, .int .i64 (n : Nat)), (some 35, .slice g.1 k g.2), (some 36, .int .i64 (k : Nat))] : List (Option Tmp × Value))) g) 11 = .int .i64 (k : Nat) := fun g => rfl
      refine region_laidg hmix (by kernel_rfl) 39 rfl (by kernel_rfl) (none, 0) ((fun g : Option Addr × Nat => ([(some 25, .slice (some ⟨w.heap.size, 0, none⟩) N0 N0), (some 26, .int .i64 (i : Nat)), (some 27, .int .i64 (q : Nat)), (some 28, .slice (some ⟨w.heap.size, q, none⟩) (N0 - q) (N0 - q)), (some 29, .slice pv m cv), (some 30, .pointer (some ⟨da, 0, none⟩)), (some 31, .pointer (some ⟨da, 0, none⟩)), (some 32, .pointer (some ⟨da, 1, none⟩)), (some 33, .slice (some ⟨B, 0, none⟩) n c), (some 34, .int .i64 (n : Nat)), (some 35, .slice g.1 k g.2), (some 36, .int .i64 (k : Nat))] : List (Option Tmp × Value)))) (fun g => rfl) (fun (g : Option Addr × Nat) b W => Below w.heap.size w W ∧ (b 10 = false → W = wr.drew) ∧ (b 10 = true → b 11 = false → ∃ W', (∀ dc, (Builtin.copy_ #[36, 36] 3 #[.slice (some ⟨w.heap.size, q, none⟩) (N0 - q) dc, .slice g.1 k g.2]).run Tryd.prog W = .ok (goInt k) W') ∧ RowB W' w.heap.size (rowTo D (i + 1)) ∧ Below w.heap.size w W') ∧ (b 11 = true → RowB W w.heap.size (rowTo D (i + 1)) ∧ Below w.heap.size w W)) ⟨⟨HI.out.2.os, HI.out.2.tape, HI.out.2.output, HI.out.2.size, HI.out.2.block⟩, (fun _ => rfl), (fun h => by cases h), (fun h => by cases h)⟩ ?_ ?_
      · intro g b W io o a hS hcl ho hb hd ev kp yl
        match io with
        | 0 =>
          simp only [List.getElem?_toArray, List.getElem?_cons_zero, Option.some.injEq] at ho
          subst ho
          have e3 : a.tmps[3]?.getD undef = .slice (some ⟨w.heap.size, 0, none⟩) N0 N0 := kp 3 (none_till (by kernel_rfl))
          refine doesg_value rfl (by intro c h; cases h) (v := .slice (some ⟨w.heap.size, 0, none⟩) N0 N0) (w' := W) ?_ ⟨g, fun _ _ => rfl, (vv0 g).symm, ?_⟩
          · simp [execOp, go_sem, e3]
          · simpa [did] using hS
        | 1 =>
          simp only [List.getElem?_toArray, List.getElem?_cons_zero, List.getElem?_cons_succ, Option.some.injEq] at ho
          subst ho
          have e4 : a.tmps[4]?.getD undef = .int .i64 (i : Nat) := kp 4 (none_till (by kernel_rfl))
          refine doesg_value rfl (by intro c h; cases h) (v := .int .i64 (i : Nat)) (w' := W) ?_ ⟨g, fun _ _ => rfl, (vv1 g).symm, ?_⟩
          · simp [execOp, go_sem, e4]
          · simpa [did] using hS
        | 2 =>
          simp only [List.getElem?_toArray, List.getElem?_cons_zero, List.getElem?_cons_succ, Option.some.injEq] at ho
          subst ho
          have p1 : b 1 = true := hd ⟨1, .data⟩ (by simp) rfl
          have e26 := (ev 1 26 rfl p1).trans (vv1 g)
          refine doesg_value rfl (by intro c h; cases h) (v := .int .i64 (q : Nat)) (w' := W) ?_ ⟨g, fun _ _ => rfl, (vv2 g).symm, ?_⟩
          · simp [execOp, go_sem, e26, hwq]
          · simpa [did] using hS
        | 3 =>
          simp only [List.getElem?_toArray, List.getElem?_cons_zero, List.getElem?_cons_succ, Option.some.injEq] at ho
          subst ho
          have p0 : b 0 = true := hd ⟨0, .data⟩ (by simp) rfl
          have p2 : b 2 = true := hd ⟨2, .data⟩ (by simp) rfl
          have e25 := (ev 0 25 rfl p0).trans (vv0 g)
          have e27 := (ev 2 27 rfl p2).trans (vv2 g)
          refine doesg_value rfl (by intro c h; cases h) (v := .slice (some ⟨w.heap.size, q, none⟩) (N0 - q) (N0 - q)) (w' := W) ?_ ⟨g, fun _ _ => rfl, (vv3 g).symm, ?_⟩
          · simp [execOp, go_sem, e25, e27, hqle, hqne]
          · simpa [did] using hS
        | 4 =>
          simp only [List.getElem?_toArray, List.getElem?_cons_zero, List.getElem?_cons_succ, Option.some.injEq] at ho
          subst ho
          have e5 : a.tmps[5]?.getD undef = .slice pv m cv := kp 5 (none_till (by kernel_rfl))
          refine doesg_value rfl (by intro c h; cases h) (v := .slice pv m cv) (w' := W) ?_ ⟨g, fun _ _ => rfl, (vv4 g).symm, ?_⟩
          · simp [execOp, go_sem, e5]
          · simpa [did] using hS
        | 5 =>
          simp only [List.getElem?_toArray, List.getElem?_cons_zero, List.getElem?_cons_succ, Option.some.injEq] at ho
          subst ho
          have e0 : a.tmps[0]?.getD undef = .pointer (some ⟨da, 0, none⟩) := kp 0 (none_till (by kernel_rfl))
          refine doesg_value rfl (by intro c h; cases h) (v := .pointer (some ⟨da, 0, none⟩)) (w' := W) ?_ ⟨g, fun _ _ => rfl, (vv5 g).symm, ?_⟩
          · simp [execOp, go_sem, e0]
          · simpa [did] using hS
        | 6 =>
          simp only [List.getElem?_toArray, List.getElem?_cons_zero, List.getElem?_cons_succ, Option.some.injEq] at ho
          subst ho
          have p5 : b 5 = true := hd ⟨5, .data⟩ (by simp) rfl
          have e30 := (ev 5 30 rfl p5).trans (vv5 g)
          refine doesg_value rfl (by intro c h; cases h) (v := .pointer (some ⟨da, 0, none⟩)) (w' := W) ?_ ⟨g, fun _ _ => rfl, (vv6 g).symm, ?_⟩
          · simp [execOp, go_sem, e30]
          · simpa [did] using hS
        | 7 =>
          simp only [List.getElem?_toArray, List.getElem?_cons_zero, List.getElem?_cons_succ, Option.some.injEq] at ho
          subst ho
          have p6 : b 6 = true := hd ⟨6, .data⟩ (by simp) rfl
          have e31 := (ev 6 31 rfl p6).trans (vv6 g)
          refine doesg_value rfl (by intro c h; cases h) (v := .pointer (some ⟨da, 1, none⟩)) (w' := W) ?_ ⟨g, fun _ _ => rfl, (vv7 g).symm, ?_⟩
          · simp [execOp, go_sem, e31]
          · simpa [did] using hS
        | 8 =>
          simp only [List.getElem?_toArray, List.getElem?_cons_zero, List.getElem?_cons_succ, Option.some.injEq] at ho
          subst ho
          have p7 : b 7 = true := hd ⟨7, .data⟩ (by simp) rfl
          have e32 := (ev 7 32 rfl p7).trans (vv7 g)
          have hl := (hS.1.cell (p := ⟨da, 1, none⟩) (cell_lt c1)).trans c1
          refine doesg_value rfl (by intro c h; cases h) (v := .slice (some ⟨B, 0, none⟩) n c) (w' := W) ?_ ⟨g, fun _ _ => rfl, (vv8 g).symm, ?_⟩
          · simp [execOp, go_sem, e32, hl]
          · simpa [did] using hS
        | 9 =>
          simp only [List.getElem?_toArray, List.getElem?_cons_zero, List.getElem?_cons_succ, Option.some.injEq] at ho
          subst ho
          have p8 : b 8 = true := hd ⟨8, .data⟩ (by simp) rfl
          have e33 := (ev 8 33 rfl p8).trans (vv8 g)
          refine doesg_value rfl (by intro c h; cases h) (v := .int .i64 (n : Nat)) (w' := W) ?_ ⟨g, fun _ _ => rfl, (vv9 g).symm, ?_⟩
          · simp [go_sem, e33]
          · simpa [did] using hS
        | 10 =>
          simp only [List.getElem?_toArray, List.getElem?_cons_zero, List.getElem?_cons_succ, Option.some.injEq] at ho
          subst ho
          have p4 : b 4 = true := hd ⟨4, .data⟩ (by simp) rfl
          have p9 : b 9 = true := hd ⟨9, .data⟩ (by simp) rfl
          have e29 := (ev 4 29 rfl p4).trans (vv4 g)
          have e34 := (ev 9 34 rfl p9).trans (vv9 g)
          have h11 : b 11 = false := by cases h : b 11; rfl; rw [hcl 11 _ rfl h ⟨10, .data⟩ (by simp) rfl] at hb; cases hb
          refine doesg_call rfl (by intro c h; cases h) (f := 26) (args := #[.slice pv m cv, .int .i64 (n : Nat)]) ?_ ?_
          · simp [go_sem, e29, e34]
          · (rw [hS.2.1 hb]; refine cI.mono ?_; rintro e w3 ⟨p3, c3, W', rfl, hcp, hb3, hg1, hg2⟩; exact ⟨_, rfl, (p3, c3), (fun j hj => by match j, hj with | 0, _ => rfl | 1, _ => rfl | 2, _ => rfl | 3, _ => rfl | 4, _ => rfl | 5, _ => rfl | 6, _ => rfl | 7, _ => rfl | 8, _ => rfl | 9, _ => rfl | 10, h => rw [hb] at h; cases h | 11, h => rw [h11] at h; cases h | j + 12, _ => rfl), (vv10 (p3, c3)).symm, hb3, (fun h => by simp [did] at h), (fun _ _ => ⟨W', hcp, hg1, hg2⟩), (fun h => by simp [did, h11] at h)⟩)
        | 11 =>
          simp only [List.getElem?_toArray, List.getElem?_cons_zero, List.getElem?_cons_succ, Option.some.injEq] at ho
          subst ho
          have p3 : b 3 = true := hd ⟨3, .data⟩ (by simp) rfl
          have p10 : b 10 = true := hd ⟨10, .data⟩ (by simp) rfl
          have e28 := (ev 3 28 rfl p3).trans (vv3 g)
          have e35 := (ev 10 35 rfl p10).trans (vv10 g)
          obtain ⟨W', hcp, hg1, hg2⟩ := hS.2.2.1 p10 hb
          refine doesg_value rfl (by intro c h; cases h) (v := .int .i64 (k : Nat)) (w' := W') ?_ ⟨g, fun _ _ => rfl, (vv11 g).symm, ?_⟩
          · simp [go_sem, e28, e35, hcp, goInt]
          · exact ⟨hg2, (fun h => by simp [did, p10] at h), (fun _ h => by simp [did] at h), (fun _ => ⟨hg1, hg2⟩)⟩
        | k + 12 => simp at ho
      · intro g b' W hS hall
        have H3 : Hid (RowB W w.heap.size (rowTo D (i + 1)) ∧ Below w.heap.size w W) := hS.2.2.2 (hall 11 (by decide))
        clear hS hall
        simp only [putAll, List.setIfInBounds_toArray, List.set_cons_zero, List.set_cons_succ]
        go_wp2
        go_roundw
        case rel => exact ⟨i + 1, by go_num, by omega, H3.out⟩
        case measure => simp [intOf]; omega
    · obtain rfl : i = n := by omega
      have hge : ¬ (i : Int) < i := by omega
      have H3 : Hid (RowB wr w.heap.size (dirB D) ∧ Below w.heap.size w wr) := by
        have := HI.out
        rw [← HD.out.2.2.1, rowTo_end] at this
        exact this
      go_wp2
      go_ret
      exact ⟨rfl, H3.out⟩

end Go.Proofs.YtdocablbkafkiaaDoor.Cd
