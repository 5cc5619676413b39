/-
  The spot of a name: seek.
-/
import Derived.Test.YtdocablbkafkiaaDoorDl
namespace Go.Proofs.YtdocablbkafkiaaDoor.Cd
open Go.RowKit

/-- The blocks that were sought are full of lesser names, and have not this one. -/
def Sought (D : List (List En)) (n h t : Nat) (s : List UInt8) : Prop := ∀ d, d < t → ∃ L, D[nx n h d]? = some L ∧ ∀ x ∈ L, x.name ≠ s
theorem sought_end {D : List (List En)} {n : Nat} (hw : WF H1 n D) {s : List UInt8} (hs : Sought D n (H1 s n) n s) (h0 : 0 < n) : Absent D s := by
  intro j b hb x hx e
  have hj : j < n := by rw [← hw.len]; exact (List.getElem?_eq_some_iff.1 hb).1
  have hh := H1_ok s n h0
  have a1 := @dist_cases n (H1 s n) j
  obtain ⟨L, hL, hno⟩ := hs (dist n (H1 s n) j) (by omega)
  have a2 := @nx_cases n (H1 s n) (dist n (H1 s n) j)
  rw [show nx n (H1 s n) (dist n (H1 s n) j) = j by omega, hb] at hL
  cases hL
  exact hno x hx e
theorem sought_stop {D : List (List En)} {n t : Nat} (hw : WF H1 n D) {s : List UInt8} (hs : Sought D n (H1 s n) t s) {L : List En} (hL : D[nx n (H1 s n) t]? = some L) (hno : hasB L s = false) (hlb : lb L s < 7) : Absent D s := by
  intro j b hb x hx e
  have hj : j < n := by rw [← hw.len]; exact (List.getElem?_eq_some_iff.1 hb).1
  have hh := H1_ok s n (by omega)
  have a1 := @dist_cases n (H1 s n) j
  have a2 := @nx_cases n (H1 s n) (dist n (H1 s n) j)
  have ej : nx n (H1 s n) (dist n (H1 s n) j) = j := by omega
  rcases Nat.lt_trichotomy (dist n (H1 s n) j) t with k | k | k
  · obtain ⟨L', hL', hno'⟩ := hs _ k
    rw [ej, hb] at hL'; cases hL'
    exact hno' x hx e
  · rw [← k, ej, hb] at hL; cases hL
    exact hasB_false (hw.srt j L hb) hno x hx e
  · have hp := hw.path j b hb x hx t (by rw [e]; exact k)
    rw [e] at hp
    obtain ⟨L', hL', h7, hlt⟩ := hp
    rw [hL] at hL'; cases hL'
    have : lb L s = L.length := by
      refine lb_eq (fun q y _ hy => ?_) (Nat.le_refl _) (fun y hy => by rw [List.getElem?_eq_none (Nat.le_refl _)] at hy; cases hy)
      have := hlt y (List.mem_of_getElem? hy)
      unfold En.lt at this; rwa [e] at this
    omega
theorem nx_nx {n h t : Nat} (hh : h < n) (ht : t + 1 ≤ n) : nx n (nx n h t) 1 = nx n h (t + 1) := by
  have a1 := @nx_cases n h t
  generalize nx n h t = k at *
  have a2 := @nx_cases n k 1
  have a3 := @nx_cases n h (t + 1)
  omega

/-- What seek answers. -/
def Seek (D : List (List En)) (s : List UInt8) (w : World) (e : Ending) (w' : World) : Prop :=
  Below w.heap.size w w' ∧ ((∃ (i j : Nat) (L : List En) (x : En), D[i]? = some L ∧ L[j]? = some x ∧ x.name = s ∧ e = .returned (.tuple #[.agg #[.int .i64 (i : Nat), .int .i64 (j : Nat)], .bool true])) ∨
    (Absent D s ∧ e = .returned (.tuple #[.agg #[.int .i64 0, .int .i64 0], .bool false])))

set_option maxRecDepth 8000 in
set_option maxHeartbeats 4000000 in
theorem seek_any (base a count : Nat) (bv : Value) (vs : List Value) (D : List (List En)) (s : ByteArray) (w : World) (ht : Tab w) (hgb : 1 < base) (h : DirAt w base a count bv vs D) (hw : WF H1 D.length D) (h0 : 0 < D.length) (hn : D.length < 100000) (hc : 0 < count) (hcs : count < 1000000) (hx : s.size < 1000000) :
    Calls Tryd.prog 21 #[.pointer (some ⟨a, 0, none⟩), .string s] w (Seek D s.data.toList w) := by
  obtain ⟨p, c, rfl, hlc, hcm, hpB⟩ := h.bform
  obtain ⟨B, rfl, hBlo, hBlt, _⟩ := hpB h0
  obtain ⟨w1, hw1⟩ : ∃ w1, w1 = w.alloc (.cells #[.int .i64 0, .int .i64 0] 51) := ⟨_, rfl⟩
  have hb1 : Below w.heap.size w w1 := by rw [hw1]; exact (Below.refl _ w).alloc (Nat.le_refl _) _
  have hr1 : w1.heap[w.heap.size]? = some (.cells #[.int .i64 0, .int .i64 0] 51 (0, 0)) := by rw [hw1]; exact heap_alloc_new w _
  have hsz1 : w1.heap.size = w.heap.size + 1 := by rw [hw1]; simp
  have e1 : w1.cell? ⟨a, 1, none⟩ = some (.slice (some ⟨B, 0, none⟩) D.length c) := (hb1.cell (p := ⟨a, 1, none⟩) (block_lt h.dir)).trans h.c1
  have cL := len_any a count w1 ((hb1.cell (p := ⟨a, 0, none⟩) (block_lt h.dir)).trans h.c0)
  have cF := first_any a D.length c (some ⟨B, 0, none⟩) s w1 (below_tab hb1 (by have := h.lo; have := block_lt h.dir; omega) ht) e1 h0 hn hx
  obtain ⟨h1, hh1⟩ : ∃ q, H1 s.data.toList D.length = q := ⟨_, rfl⟩
  rw [hh1] at cF
  obtain ⟨n, hnD⟩ : ∃ n, D.length = n := ⟨_, rfl⟩
  have hh1n : h1 < n := by rw [← hh1, ← hnD]; exact H1_ok _ _ h0
  have HH : Hid (H1 s.data.toList n = h1 ∧ D.length = n ∧ WF H1 n D ∧ DirAt w base a count (.slice (some ⟨B, 0, none⟩) D.length c) vs D ∧ Below w.heap.size w w1 ∧ w1.heap.size = w.heap.size + 1 ∧ w1.heap[w.heap.size]? = some (.cells #[.int .i64 0, .int .i64 0] 51 (0, 0))) := ⟨by rw [← hnD]; exact hh1, hnD, by rw [← hnD]; exact hw, h, hb1, hsz1, hr1⟩
  have r0 : w1.cell? ⟨w.heap.size, 0, none⟩ = some (.int .i64 0) := cellOf hr1 0
  have hcI : ¬ (count : Int) = 0 := by omega
  rw [hnD] at e1 hn h0 hlc
  clear h hw ht hh1 hb1 hr1 hsz1 hgb hBlo hBlt hcm hpB
  go_enter Tryd.func21, Tryd.ntmps21
  go_wp2_with fail
  rw [← hw1]
  clear hw1
  refine Calls_on cL ?_
  clear cL
  go_wp2_with fail
  refine cF.mono ?_
  rintro e w2 ⟨rfl, hb2⟩
  clear cF
  have HB2 : Hid (Below w1.heap.size w1 w2) := hb2
  have g1 : w2.cell? ⟨a, 1, none⟩ = some (.slice (some ⟨B, 0, none⟩) n c) := (hb2.cell (p := ⟨a, 1, none⟩) (cell_lt e1)).trans e1
  clear hb2 e1 r0
  go_wp2_with fail
  go_loopw [6, 21] (fun ii tt wr => ∃ i t : Nat, ii = .int .i64 i ∧ tt = .int .i64 t ∧ t ≤ n ∧ i < n ∧ Hid (i = nx n h1 t ∨ t = n) ∧ Hid (Sought D n h1 t s.data.toList ∧ Below w1.heap.size w1 wr)) (fun _ tt _ => n - (intOf tt).toNat)
  case atStart =>
    refine ⟨h1, 0, rfl, rfl, Nat.zero_le _, hh1n, .inl ?_, fun d hd => absurd hd (Nat.not_lt_zero d), HB2.out⟩
    have := @nx_cases n h1 0; omega
  case round =>
    obtain ⟨i, t, rfl, rfl, htn, hin, HT, HI⟩ := hrel
    have hinI : (i : Int) < n := by omega
    have d1 : wr.cell? ⟨a, 1, none⟩ = some (.slice (some ⟨B, 0, none⟩) n c) := by
      have : w1.cell? ⟨a, 1, none⟩ = some (.slice (some ⟨B, 0, none⟩) n c) := by
        rw [HH.out.2.2.2.2.1.cell (p := ⟨a, 1, none⟩) (block_lt HH.out.2.2.2.1.dir), HH.out.2.2.2.1.c1, HH.out.2.1]
      exact (HI.out.2.cell (p := ⟨a, 1, none⟩) (cell_lt this)).trans this
    have hrr : wr.heap[w.heap.size]? = some (.cells #[.int .i64 0, .int .i64 0] 51 (0, 0)) := (HI.out.2.block _ (block_lt HH.out.2.2.2.2.2.2)).trans HH.out.2.2.2.2.2.2
    have r0 : wr.cell? ⟨w.heap.size, 0, none⟩ = some (.int .i64 0) := cellOf hrr 0
    have r1 : wr.cell? ⟨w.heap.size, 1, none⟩ = some (.int .i64 0) := cellOf hrr 1
    have f0 : wr.frozen? ⟨w.heap.size, 0, none⟩ = false := frozenOf hrr 0
    have f1 : wr.frozen? ⟨w.heap.size, 1, none⟩ = false := frozenOf hrr 1
    have hrl : w.heap.size < wr.heap.size := block_lt hrr
    have HBw : Hid (Below w.heap.size w wr) := HH.out.2.2.2.2.1.trans (HI.out.2.mono HH.out.2.2.2.2.1.size)
    have hfin : ∀ (W : World), Below wr.heap.size wr W → ∀ x y, Below w.heap.size w ((W.setCell ⟨w.heap.size, 0, none⟩ x).setCell ⟨w.heap.size, 1, none⟩ y) := fun W hW x y => by
      have o1 : Only (fun k => k = w.heap.size) W ((W.setCell ⟨w.heap.size, 0, none⟩ x).setCell ⟨w.heap.size, 1, none⟩ y) := Only.next (Only.setCell _ _ _ rfl) (Only.setCell _ _ _ rfl)
      exact (HBw.out.trans (hW.mono HBw.out.size)).trans (o1.below (Nat.le_trans HBw.out.size hW.size) (fun k hk => by omega))
    have HFin : Hid (∀ (W : World), Below wr.heap.size wr W → ∀ x y, Below w.heap.size w ((W.setCell ⟨w.heap.size, 0, none⟩ x).setCell ⟨w.heap.size, 1, none⟩ y)) := hfin
    clear hrr hfin
    by_cases hlt : t < n
    · have hltI : (t : Int) < n := by omega
      have hit : i = nx n h1 t := HT.out.resolve_right (by omega)
      obtain ⟨L, hL⟩ : ∃ L, D[i]? = some L := ⟨_, List.getElem?_eq_getElem (by rw [HH.out.2.1]; exact hin)⟩
      have hdw := HH.out.2.2.2.1.below HBw.out
      obtain ⟨B', c', cur, v, hbv, hB, hcur, hv, hblk⟩ := hdw.at_ hL
      injection hbv with q1 q2 q3
      injection q1 with q1
      injection q1 with q1
      subst q1
      obtain ⟨pv, cv, rfl, _, _, _⟩ := hblk.form
      have dB : wr.cell? ⟨B, i, none⟩ = some (.slice pv L.length cv) := by rw [cellOf hB i]; exact hcur
      have cD := find_any base (.slice pv L.length cv) L s wr hblk (HH.out.2.2.1.srt i L hL) (by have := HH.out.2.2.1.room i L hL; omega)
      obtain ⟨k, hk⟩ : ∃ k, lb L s.data.toList = k := ⟨_, rfl⟩
      obtain ⟨hs_, hhs⟩ : ∃ q, hasB L s.data.toList = q := ⟨_, rfl⟩
      rw [hk, hhs] at cD
      have HL : Hid (D[i]? = some L ∧ lb L s.data.toList = k ∧ hasB L s.data.toList = hs_ ∧ i = nx n h1 t) := ⟨hL, hk, hhs, hit⟩
      have hk7 : k ≤ 7 := by have := HH.out.2.2.1.room i L hL; have := lb_le L s.data.toList; omega
      clear hL hdw hB hcur hv hblk hk hhs hit q2 q3
      cases hs_ with
      | true =>
        go_wp2_with (go_at_call 38; refine cD.mono ?_; rintro e w3 ⟨rfl, hb3⟩; have HB3 : Hid (Below wr.heap.size wr w3) := hb3; have r0' := (hb3.cell (p := ⟨w.heap.size, 0, none⟩) hrl).trans r0; have r1' := (hb3.cell (p := ⟨w.heap.size, 1, none⟩) hrl).trans r1; have f0' : w3.frozen? ⟨w.heap.size, 0, none⟩ = false := (World.frozen?_of_block (a := ⟨w.heap.size, 0, none⟩) (hb3.block _ hrl)).trans f0; have f1' : w3.frozen? ⟨w.heap.size, 1, none⟩ = false := (World.frozen?_of_block (a := ⟨w.heap.size, 1, none⟩) (hb3.block _ hrl)).trans f1; clear hb3 cD)
        refine bodyPost_ret (v := .tuple #[.agg #[.int .i64 (i : Nat), .int .i64 (k : Nat)], .bool true]) (by simp [results, Tryd.results21, go_sem, r0', r1']) rfl ?_
        obtain ⟨x, hx, e⟩ := hasB_true HL.out.2.2.1
        rw [HL.out.2.1] at hx
        exact ⟨HFin.out w3 HB3.out _ _, .inl ⟨i, k, L, x, HL.out.1, hx, e, rfl⟩⟩
      | false =>
        by_cases hk : k < 7
        · have hkI : (k : Int) < 7 := by omega
          go_wp2_with (go_at_call 38; refine cD.mono ?_; rintro e w3 ⟨rfl, hb3⟩; have HB3 : Hid (Below wr.heap.size wr w3) := hb3; have r0' := (hb3.cell (p := ⟨w.heap.size, 0, none⟩) hrl).trans r0; have r1' := (hb3.cell (p := ⟨w.heap.size, 1, none⟩) hrl).trans r1; have f0' : w3.frozen? ⟨w.heap.size, 0, none⟩ = false := (World.frozen?_of_block (a := ⟨w.heap.size, 0, none⟩) (hb3.block _ hrl)).trans f0; have f1' : w3.frozen? ⟨w.heap.size, 1, none⟩ = false := (World.frozen?_of_block (a := ⟨w.heap.size, 1, none⟩) (hb3.block _ hrl)).trans f1; clear hb3 cD)
          refine bodyPost_ret (v := .tuple #[.agg #[.int .i64 0, .int .i64 0], .bool false]) (by simp [results, Tryd.results21, go_sem, r0', r1']) rfl ?_
          refine ⟨HFin.out w3 HB3.out _ _, .inr ⟨?_, rfl⟩⟩
          refine sought_stop (t := t) HH.out.2.2.1 ?_ (L := L) ?_ HL.out.2.2.1 (by rw [HL.out.2.1]; exact hk)
          · rw [HH.out.1]; exact HI.out.1
          · rw [HH.out.1, ← HL.out.2.2.2]; exact HL.out.1
        · have hkI : ¬ (k : Int) < 7 := by omega
          have hal : a < wr.heap.size := cell_lt d1
          have cN : ∀ W, Below wr.heap.size wr W → _ := fun W hW => next_any a i n c (some ⟨B, 0, none⟩) W ((hW.cell (p := ⟨a, 1, none⟩) hal).trans d1) hin hn
          have HN : Hid (Sought D n h1 (t + 1) s.data.toList) := fun d hd => by
            by_cases e : d = t
            · rw [e]
              refine ⟨L, by rw [← HL.out.2.2.2]; exact HL.out.1, hasB_false (HH.out.2.2.1.srt i L HL.out.1) HL.out.2.2.1⟩
            · exact HI.out.1 d (by omega)
          have HX : Hid (nx n i 1 = nx n h1 (t + 1)) := by show _ = _; rw [HL.out.2.2.2]; exact nx_nx hh1n (by omega)
          have hxn : nx n i 1 < n := by have := @nx_cases n i 1; omega
          generalize nx n i 1 = i2 at cN HX hxn
          go_wp2_with (first
            | (go_at_call 38; refine cD.mono ?_; rintro e w3 ⟨rfl, hb3⟩; have HB3 : Hid (Below wr.heap.size wr w3) := hb3; clear hb3 cD)
            | (go_at_call 39; refine Calls_on (cN _ HB3.out) ?_))
          all_goals go_roundw
          case rel => exact ⟨i2, t + 1, rfl, by go_num, by omega, hxn, .inl HX.out, HN.out, HI.out.2.trans (HB3.out.mono HI.out.2.size)⟩
          case measure => simp [intOf]; omega
    · obtain rfl : t = n := by omega
      have hge : ¬ (t : Int) < t := by omega
      go_wp2
      refine bodyPost_ret (v := .tuple #[.agg #[.int .i64 0, .int .i64 0], .bool false]) (by simp [results, Tryd.results21, go_sem, r0, r1]) rfl ?_
      refine ⟨HFin.out wr (Below.refl _ _) _ _, .inr ⟨?_, rfl⟩⟩
      refine sought_end HH.out.2.2.1 ?_ h0
      rw [HH.out.1]; exact HI.out.1

end Go.Proofs.YtdocablbkafkiaaDoor.Cd
