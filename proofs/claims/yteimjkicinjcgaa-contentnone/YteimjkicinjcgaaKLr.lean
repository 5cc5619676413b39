/-
  New, Len, last, Value, Size.
-/
import Derived.Test.YteimjkicinjcgaaKLq

namespace Go.Proofs.Yteimjkicinjcgaa.Ck.Y.L
open Go.RowKit Go.Maps Go.Lib

theorem new_any (w : World) : Calls Try.prog 8 #[] w fun e w' => e = .returned (.pointer (some ⟨w.heap.size, 0, none⟩)) ∧ Below w.heap.size w w' ∧ FileS (fun b => b = w.heap.size) w' w.heap.size [] := by
  have H : Hid (FileS (fun b => b = w.heap.size) (w.alloc (.cells #[.map none, .slice none 0 0, .slice none 0 0] 55)) w.heap.size []) := by
    refine ⟨[], [], .map none, none, 0, .slice none 0 0, ⟨heap_alloc_new w _, World.ownsRow_nil _ _ _ _, by simp, .inl ⟨rfl, rfl⟩, RowV.nil _ _, fun x hx => by simp at hx, by simp⟩, HF.nil, ?_, by simp, by simp⟩
    funext b
    apply propext
    constructor
    · rintro rfl; exact .inl rfl
    · rintro (rfl | e | e)
      · rfl
      · cases e
      · cases e
  go_enter Try.func8, Try.ntmps8
  go_wp2
  go_ret
  exact ⟨rfl, (below_new w _).out, H.out⟩

set_option maxRecDepth 8000 in
set_option maxHeartbeats 1000000 in
theorem len_any {F : Nat → Prop} {w : World} {fb : Nat} {S : List VC} (h : FileS F w fb S) : Calls Try.prog 17 #[.pointer (some ⟨fb, 0, none⟩)] w fun e w' => e = .returned (.int .i64 (S.length : Nat)) ∧ Below w.heap.size w w' := by
  obtain ⟨sn, H, mv, sp, sc, hv, hfm, hhf, rfl, hlen, _⟩ := h
  have f0 := cellOf hfm.blk 0
  have hl : ∀ ty, (Builtin.len_ #[53] ty #[mv]).run Try.prog w = .ok (.int .i64 (S.length : Nat)) w := by
    intro ty
    rcases hfm.map with ⟨rfl, e⟩ | ⟨mb, rfl, hm⟩
    · have : S = [] := by simpa using e
      subst this
      exact len_nilmap w ty
    · have := len_map hm ty
      rwa [List.length_map] at this
  have F0 : w.cell? ⟨fb, 0, none⟩ = some mv := f0
  clear hfm hhf hlen f0
  generalize S.length = n at *
  go_enter Try.func17, Try.ntmps17
  go_wp2
  go_ret
  exact ⟨rfl, Below.refl _ _⟩

set_option maxRecDepth 8000 in
set_option maxHeartbeats 1000000 in
theorem last_none {w : World} {fb : Nat} {E : List KP} {sn : List Int} {mv : Value} {sp : Option Addr} {sc : Nat} {hv : Value} (h : FMem w fb E sn [] mv sp sc hv) : Calls Try.prog 35 #[.pointer (some ⟨fb, 0, none⟩)] w fun e w' => e = .returned (.agg #[.int .i64 0, .int .i64 0, .int .i64 0, .slice none 0 0, .slice none 0 0]) ∧ Below w.heap.size w w' := by
  obtain ⟨p, c, rfl, _⟩ := h.hrow.shape
  have f2 := cellOf h.blk 2
  obtain ⟨A, hA⟩ : ∃ A, A = w.alloc (.cells #[.int .i64 0, .int .i64 0, .int .i64 0, .slice none 0 0, .slice none 0 0] 43) := ⟨_, rfl⟩
  have hB : Below w.heap.size w A := by rw [hA]; exact (below_new w _).out
  have kA : A.heap[w.heap.size]? = some (.cells #[.int .i64 0, .int .i64 0, .int .i64 0, .slice none 0 0, .slice none 0 0] 43 (0, 0)) := by rw [hA]; exact heap_alloc_new w _
  have F2 : A.cell? ⟨fb, 2, none⟩ = some (.slice p 0 c) := cell_keptH f2 hB
  have hO := set5_only A w.heap.size (.int .i64 0) (.int .i64 0) (.int .i64 0) (.slice none 0 0) (.slice none 0 0)
  have hc := set5_cells kA (.int .i64 0) (.int .i64 0) (.int .i64 0) (.slice none 0 0) (.slice none 0 0)
  have HA : Hid (A = w.alloc (.cells #[.int .i64 0, .int .i64 0, .int .i64 0, .slice none 0 0, .slice none 0 0] 43)) := hA
  have HB : Hid (Below w.heap.size w A) := hB
  rw [hA] at F2
  clear h f2 hB kA hA hO hc
  go_enter Try.func35, Try.ntmps35
  go_wp2
  refine bodyPost_ret (v := .agg #[.int .i64 0, .int .i64 0, .int .i64 0, .slice none 0 0, .slice none 0 0]) (by simp [results, Try.results35, go_sem]) rfl ?_
  exact ⟨rfl, (below_new w _).out⟩

set_option maxRecDepth 8000 in
set_option maxHeartbeats 2000000 in
theorem last_some {w : World} {fb : Nat} {E : List KP} {sn : List Int} {H : List VG} {mv : Value} {sp : Option Addr} {sc : Nat} {hv : Value} (h : FMem w fb E sn H mv sp sc hv) {k : Nat} {x : VG} (hk : H.length = k + 1) (hx : H[k]? = some x) : Calls Try.prog 35 #[.pointer (some ⟨fb, 0, none⟩)] w fun e w' => e = .returned (vgv x) ∧ Below w.heap.size w w' := by
  obtain ⟨p, c, rfl, hc⟩ := h.hrow.caps
  obtain ⟨g, rfl, d0, d1, d2, d3, d4⟩ := hc k x hx
  have hl : k ≤ 900 := by have := h.hl; omega
  have f2 := cellOf h.blk 2
  rw [hk] at f2
  obtain ⟨A, hA⟩ : ∃ A, A = w.alloc (.cells #[.int .i64 0, .int .i64 0, .int .i64 0, .slice none 0 0, .slice none 0 0] 43) := ⟨_, rfl⟩
  have hB : Below w.heap.size w A := by rw [hA]; exact (below_new w _).out
  have F2 : A.cell? ⟨fb, 2, none⟩ = some (.slice (some ⟨g, 0, none⟩) (k + 1) c) := cell_keptH f2 hB
  have e0 := cell_keptH d0 hB
  have e1 := cell_keptH d1 hB
  have e2 := cell_keptH d2 hB
  have e3 := cell_keptH d3 hB
  have e4 := cell_keptH d4 hB
  have l1 : fb < w.heap.size := block_lt h.blk
  have l2 : g < w.heap.size := cell_lt d0
  have HA : Hid (A = w.alloc (.cells #[.int .i64 0, .int .i64 0, .int .i64 0, .slice none 0 0, .slice none 0 0] 43)) := hA
  have HB : Hid (Below w.heap.size w A) := hB
  rw [hA] at F2 e0 e1 e2 e3 e4
  have hne : ¬ ((k : Int) + 1 = 0) := by omega
  have hk1 : (k : Int) + 1 - 1 = k := by omega
  clear h f2 hB hA hc hx hk d0 d1 d2 d3 d4
  obtain ⟨t, n, sq, ns, sp0, sc0, bs, dp, dc⟩ := x
  simp only [vgv, vgC] at *
  generalize ns.length = nl at *
  generalize bs.length = bl at *
  go_enter Try.func35, Try.ntmps35
  go_wp2
  go_region
  go_wp2
  refine bodyPost_ret (v := .agg #[.int .i64 t, .int .i64 n, .int .i64 sq, .slice sp0 nl sc0, .slice dp bl dc]) (by simp [results, Try.results35, go_sem]) rfl ?_
  exact ⟨rfl, below_thenH (below_new w _).out (below_drewH _)⟩

theorem fld3 (a b c : Int) (p q : Option Addr) (n m k l : Nat) (w : World) : (Instr.field 43 (.agg #[.int .i64 a, .int .i64 b, .int .i64 c, .slice p n m, .slice q k l]) 3).run Try.prog w = .ok (.slice q k l) w := by
  simp [Instr.field, run_underlying Try.underlying43, go_sem, asAgg]
/-- The bytes of the last head. -/
def lastB (H : List VG) : List (BitVec 8) := match H.getLast? with
  | none => []
  | some x => x.bs
theorem last_at {H : List VG} {k : Nat} {x : VG} (hk : H.length = k + 1) (hx : H[k]? = some x) : lastB H = x.bs := by
  unfold lastB
  rw [List.getLast?_eq_getElem?, hk, Nat.add_sub_cancel, hx]

set_option maxRecDepth 8000 in
set_option maxHeartbeats 1000000 in
theorem value_any {w : World} {fb : Nat} {E : List KP} {sn : List Int} {H : List VG} {mv : Value} {sp : Option Addr} {sc : Nat} {hv : Value} (h : FMem w fb E sn H mv sp sc hv) :
    Calls Try.prog 15 #[.pointer (some ⟨fb, 0, none⟩)] w fun e w' => ∃ v, e = .returned v ∧ w'.ownsRow w.heap.size 5 1 v (lastB H).length ((lastB H).map Cd.u8v) ∧ Below w.heap.size w w' := by
  cases hl : H.length with
  | zero =>
    have : H = [] := List.eq_nil_of_length_eq_zero hl
    subst this
    have c1 := last_none h
    have HC : Hid (∀ W, Calls Try.prog 34 #[.slice none 0 0] W fun e w' => ∃ v, e = .returned v ∧ Cd.Cloned W [] v w') := fun W => Cd.clone_any none [] 0 W (by simp) (Cd.bytes_nil _ _)
    clear h hl
    have f3 := fld3
    go_enter Try.func15, Try.ntmps15
    go_wp2_with (first
      | (go_at_call 35; refine Calls_new c1 ?_; clear c1; intro w1 HB1)
      | (go_at_call 34; refine (HC.out _).mono ?_; clear HC; rintro e w2 ⟨v2, rfl, hc2⟩; have H2 : Hid (Cd.Cloned w1 [] v2 w2) := hc2; clear hc2))
    go_ret
    refine ⟨_, rfl, ?_, below_thenH HB1.out H2.out.2⟩
    exact Vc.own_base H2.out.1 HB1.out.size
  | succ k =>
    obtain ⟨x, hx⟩ : ∃ x, H[k]? = some x := ⟨_, List.getElem?_eq_getElem (by omega)⟩
    have c1 := last_some h hl hx
    rw [last_at hl hx]
    have hv := (h.hown x (List.mem_of_getElem? hx)).comes
    have HC : Hid (∀ W, Below w.heap.size w W → Calls Try.prog 34 #[.slice x.dp x.bs.length x.dc] W fun e w' => ∃ v, e = .returned v ∧ Cd.Cloned W x.bs v w') := fun W hW => Cd.clone_any x.dp x.bs x.dc W (by have := hv.bl; omega) (Cd.below_bytes hW hv.data)
    clear h hl hx hv
    obtain ⟨t, n, sq, ns, sp0, sc0, bs, dp, dc⟩ := x
    simp only [vgv, vgC] at *
    generalize ns.length = nl at *
    have f3 := fld3
    go_enter Try.func15, Try.ntmps15
    go_wp2_with (first
      | (go_at_call 35; refine Calls_new c1 ?_; clear c1; intro w1 HB1)
      | (go_at_call 34; refine (HC.out _ HB1.out).mono ?_; clear HC; rintro e w2 ⟨v2, rfl, hc2⟩; have H2 : Hid (Cd.Cloned w1 bs v2 w2) := hc2; clear hc2))
    go_ret
    refine ⟨_, rfl, ?_, below_thenH HB1.out H2.out.2⟩
    exact Vc.own_base H2.out.1 HB1.out.size

set_option maxRecDepth 8000 in
set_option maxHeartbeats 1000000 in
theorem size_any {w : World} {fb : Nat} {E : List KP} {sn : List Int} {H : List VG} {mv : Value} {sp : Option Addr} {sc : Nat} {hv : Value} (h : FMem w fb E sn H mv sp sc hv) :
    Calls Try.prog 16 #[.pointer (some ⟨fb, 0, none⟩)] w fun e w' => e = .returned (.int .i64 ((lastB H).length : Nat)) ∧ Below w.heap.size w w' := by
  cases hl : H.length with
  | zero =>
    have : H = [] := List.eq_nil_of_length_eq_zero hl
    subst this
    have c1 := last_none h
    clear h hl
    have f3 := fld3
    go_enter Try.func16, Try.ntmps16
    go_wp2_with (go_at_call 35; refine Calls_new c1 ?_; clear c1; intro w1 HB1)
    go_ret
    exact ⟨rfl, HB1.out⟩
  | succ k =>
    obtain ⟨x, hx⟩ : ∃ x, H[k]? = some x := ⟨_, List.getElem?_eq_getElem (by omega)⟩
    have c1 := last_some h hl hx
    rw [last_at hl hx]
    clear h hl hx
    obtain ⟨t, n, sq, ns, sp0, sc0, bs, dp, dc⟩ := x
    simp only [vgv, vgC] at *
    generalize ns.length = nl at *
    generalize bs.length = bl at *
    have f3 := fld3
    go_enter Try.func16, Try.ntmps16
    go_wp2_with (go_at_call 35; refine Calls_new c1 ?_; clear c1; intro w1 HB1)
    go_ret
    exact ⟨rfl, HB1.out⟩

end Go.Proofs.Yteimjkicinjcgaa.Ck.Y.L
