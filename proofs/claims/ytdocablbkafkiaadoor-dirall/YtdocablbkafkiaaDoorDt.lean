/-
  All entries are laid down anew, if their count asks for another number of blocks: fit.
-/
import Derived.Test.YtdocablbkafkiaaDoorDn
import Derived.Test.YtdocablbkafkiaaDoorDs
import Derived.Laws.MakeOwn
import Derived.Deep.Onto
namespace Go.Proofs.YtdocablbkafkiaaDoor.Cd
open Go.RowKit

theorem WF.names {H : List UInt8 → Nat → Nat} {n : Nat} {D : List (List En)} (h : WF H n D) : D.flatten.Pairwise (fun x y => x.name ≠ y.name) := by
  rw [List.pairwise_flatten]
  refine ⟨fun l hl => ?_, ?_⟩
  · obtain ⟨j, hj⟩ := List.mem_iff_getElem?.1 hl
    exact (h.srt j l hj).imp (fun {a b} hab => less_ne hab)
  · rw [List.pairwise_iff_getElem]
    intro i j hi hj hij x hx y hy
    exact h.apart i j _ _ (List.getElem?_eq_getElem hi) (List.getElem?_eq_getElem hj) (by omega) x hx y hy
theorem DirAt.mono {w : World} {base base' a count : Nat} {bv : Value} {vs : List Value} {D : List (List En)} (h : DirAt w base a count bv vs D) (hb : base' ≤ base) : DirAt w base' a count bv vs D :=
  ⟨Nat.le_trans hb h.lo, h.dir, World.ownsRow.mono h.blocks hb, h.rows.len, fun i v L hv hL => World.ownsRow.mono (h.rows.row i v L hv hL) hb, h.rows.apart⟩

/-- A new directory of n empty blocks. -/
theorem dir_empty (w : World) (n N a : Nat) (M : Array Value) (hM : M.toList = List.replicate n (.slice none 0 0)) (hN : w.heap[N]? = some (.cells M 57 (0, 0))) (ha : w.heap[a]? = some (.cells #[.int .i64 0, .slice (some ⟨N, 0, none⟩) n n] 49 (0, 0))) (base : Nat) (h1 : base ≤ N) (h2 : base ≤ a) (hm : n ≤ maxLen) :
    DirAt w base a 0 (.slice (some ⟨N, 0, none⟩) n n) (List.replicate n (.slice none 0 0)) (List.replicate n []) := by
  refine ⟨h2, by simpa using ha, ⟨by simp, .inr ⟨N, n, M, by simp, h1, hN, by simp, hm, by rw [← Array.length_toList, hM]; simp, by rw [hM]; simp⟩⟩, by simp, fun i v L hv hL => ?_, fun i j v u g _ hv _ hg => ?_⟩
  · rw [List.getElem?_replicate] at hv hL
    split at hv
    · rw [if_pos (by assumption)] at hL
      cases hv; cases hL; exact Blk.nil _ _
    · cases hv
  · rw [List.getElem?_replicate] at hv
    split at hv
    · cases hv; cases hg
    · cases hv

/-- What holds while entries are laid down anew. -/
structure FI (base a count : Nat) (bv : Value) (vs : List Value) (D : List (List En)) (w : World) (to n : Nat) (bv1 : Value) (l : List En) (W : World) : Prop where
  old : DirAt W base a count bv vs D
  bel : Below w.heap.size w W
  new : ∃ vs' D', DirAt W w.heap.size to 0 bv1 vs' D' ∧ WF H1 n D' ∧ (∀ q, q ∈ D'.flatten ↔ q ∈ l) ∧ total D' = l.length

theorem FI.step {base a count : Nat} {bv : Value} {vs : List Value} {D : List (List En)} {w : World} {to n : Nat} {bv1 : Value} (hw : DirAt w base a count bv vs D) (hwf : WF H1 D.length D) (ht : Tab w) (hgb : 1 < base) (hn : n < 100000) (htot : total D ≤ 7 * n) (hshort : ∀ x ∈ D.flatten, x.name.length < 1000000)
    (l : List En) (x : En) (W : World) (h : FI base a count bv vs D w to n bv1 l W) (hx : ∃ m, D.flatten = l ++ x :: m) :
    Calls Tryd.prog 23 #[.pointer (some ⟨to, 0, none⟩), .agg #[.string (bas x.name), .int .i64 (x.num : Nat)]] W fun e W' => e = .returned (.tuple #[]) ∧ FI base a count bv vs D w to n bv1 (l ++ [x]) W' := by
  obtain ⟨vs', D', hd, hf, hmem, hto⟩ := h.new
  obtain ⟨m, hm⟩ := hx
  have haw : base ≤ w.heap.size := by have := hw.lo; have := block_lt hw.dir; omega
  have hlen : l.length < total D := by unfold total; rw [hm]; simp
  have hnm := hwf.names
  rw [hm, List.pairwise_append] at hnm
  have habs : Absent D' x.name := fun j b hb y hy => by
    have : y ∈ l := (hmem y).1 ((mem_at y).2 ⟨j, b, hb, hy⟩)
    exact hnm.2.2 y this x (by simp)
  have hDl := hf.len
  refine (place_any w.heap.size to 0 bv1 vs' D' x W (below_tab h.bel (by omega) ht) (by omega) hd (by rw [hDl]; exact hf) (by omega) (by omega) (by omega) habs (hshort x (by rw [hm]; simp))).mono ?_
  rintro e W' ⟨rfl, vs2, D2, q1, q2, q3, q4, q5⟩
  have hbl := q5.toBelow (by have := hd.lo; have := block_lt hd.dir; omega)
  have hb' : Below w.heap.size w W' := h.bel.trans hbl
  refine ⟨rfl, hw.below hb', hb', vs2, D2, q1, by rw [hDl] at q2; exact q2, fun q => ?_, ?_⟩
  · rw [q3, hmem]; simp [or_comm]
  · rw [q4, hto]; simp

/-- What fit leaves. -/
def Fitted (base a count : Nat) (D : List (List En)) (w w' : World) : Prop :=
  ∃ bv' vs' D', DirAt w' base a count bv' vs' D' ∧ WF H1 (bfor count) D' ∧ (∀ q, q ∈ D'.flatten ↔ q ∈ D.flatten) ∧ total D' = total D ∧ Fr base w w'

theorem blockInfo : ∃ i, Tryd.prog.info? 57 = some i ∧ i.zero = some (.slice none 0 0) ∧ i.size = 1 ∧ i.bytes = 24 := by
  have e : (Tryd.prog.info? 57).map (fun i => (i.zero, i.size, i.bytes)) = some (some (.slice none 0 0), 1, 24) := by kernel_rfl
  obtain ⟨i, hi, he⟩ := Option.map_eq_some_iff.1 e
  injection he with h1 h2
  injection h2 with h2 h3
  exact ⟨i, hi, h1, h2, h3⟩

set_option maxRecDepth 8000 in
set_option maxHeartbeats 2000000 in
theorem fit_any (base a count : Nat) (bv : Value) (vs : List Value) (D : List (List En)) (w : World) (ht : Tab w) (hgb : 1 < base) (h : DirAt w base a count bv vs D) (hwf : WF H1 D.length D) (hc : count ≤ 2048) (htot : total D ≤ count) (hDl : D.length < 100000) (hshort : ∀ x ∈ D.flatten, x.name.length < 1000000) :
    Calls Tryd.prog 22 #[.pointer (some ⟨a, 0, none⟩)] w fun e w' => e = .returned (.tuple #[]) ∧ Fitted base a count D w w' := by
  obtain ⟨p, c, rfl, hlc, hcm, _⟩ := h.bform
  have c0 := h.c0
  have c1 := h.c1
  have cB := for_any count w hc
  have haw : base ≤ w.heap.size := by have := h.lo; have := block_lt h.dir; omega
  obtain ⟨n, hn⟩ : ∃ n, bfor count = n := ⟨_, rfl⟩
  have hn512 : n ≤ 512 := by rw [← hn]; have := bfor_le count hc; omega
  have hroom : total D ≤ 7 * n := by rw [← hn]; have := bfor_room count hc; omega
  rw [hn] at cB
  obtain ⟨m, hm⟩ : ∃ m, D.length = m := ⟨_, rfl⟩
  by_cases heq : n = m
  · have H : Hid (Fitted base a count D w w) := ⟨_, _, D, h, by rw [hn, heq, ← hm]; exact hwf, fun _ => Iff.rfl, rfl, Fr.refl _ _⟩
    rw [hm] at c1
    clear h hwf hshort ht hroom htot
    subst heq
    go_enter Tryd.func22, Tryd.ntmps22
    go_wp2_with (go_at_call 40; refine Calls_on cB ?_; clear cB)
    refine bodyPost_ret (results_none rfl _ _ _) rfl ?_
    exact ⟨rfl, H.out⟩
  · have hneI : ¬ (n : Int) = (m : Int) := by omega
    obtain ⟨i0, hi0, hz0, hz1, hz2⟩ := blockInfo
    obtain ⟨M, hM⟩ : ∃ M, M = madeCells (Value.slice none 0 0).cells (((n : Nat) : Int).toNat * i0.size) := ⟨_, rfl⟩
    have hMl : M.toList = List.replicate n (.slice none 0 0) := by
      rw [hM, hz1, Int.toNat_natCast, Nat.mul_one]; exact toList_madeCells_one _ _
    have hmk : (Instr.makeSlice 47 (.int .i64 (n : Int)) (.int .i64 (n : Int))).run Tryd.prog w = .ok (.slice (some ⟨w.heap.size, 0, none⟩) n n) (w.alloc (.cells M 57)) := by
      have hh := run_make (P := Tryd.prog) w 47 57 i0 (.slice none 0 0) Tryd.underlying47 hi0 hz0 .i64 .i64 (n : Int) (n : Int) (by omega) (by omega) (by rw [hz2]; omega) (by omega)
      rw [← hM] at hh
      simpa using hh
    obtain ⟨w2, hw2⟩ : ∃ w2, w2 = (w.alloc (.cells M 57)).alloc (.cells #[.int .i64 0, .slice (some ⟨w.heap.size, 0, none⟩) n n] 49) := ⟨_, rfl⟩
    have hb2 : Below w.heap.size w w2 := by rw [hw2]; exact ((Below.refl _ w).alloc (Nat.le_refl _) _).alloc (by simp) _
    have hN2 : w2.heap[w.heap.size]? = some (.cells M 57 (0, 0)) := by rw [hw2, heap_alloc_old _ _ (by simp)]; exact heap_alloc_new w _
    have hT2 : w2.heap[w.heap.size + 1]? = some (.cells #[.int .i64 0, .slice (some ⟨w.heap.size, 0, none⟩) n n] 49 (0, 0)) := by
      rw [hw2]
      have := heap_alloc_new (w.alloc (.cells M 57)) (.cells #[.int .i64 0, .slice (some ⟨w.heap.size, 0, none⟩) n n] 49)
      simpa using this
    have hE := dir_empty w2 n w.heap.size (w.heap.size + 1) M hMl hN2 hT2 w.heap.size (Nat.le_refl _) (by omega) (by unfold maxLen; omega)
    have cW := walk_any base a count (.slice p D.length c) vs D 23 (.pointer (some ⟨w.heap.size + 1, 0, none⟩)) (FI base a count (.slice p D.length c) vs D w (w.heap.size + 1) n (.slice (some ⟨w.heap.size, 0, none⟩) n n)) w2 (fun l W hI => hI.old)
      (fun l W W' hI hb => ⟨hI.old.below hb, hI.bel.trans (hb.mono hI.bel.size), by obtain ⟨v1, v2, v3, v4⟩ := hI.new; exact ⟨v1, v2, v3.below hb, v4⟩⟩)
      (fun l x W hI hx => FI.step h hwf ht hgb (by omega) hroom hshort l x W hI hx)
      (fun args w => by simp [callFunc, Tryd.func23, go_sem]; rfl) hDl (fun j b hb => hwf.room j b hb)
      ⟨h.below hb2, hb2, _, _, hE, WF.empty H1 n, fun q => by simp, by simp [total]⟩
    have HE : Hid (∀ W, FI base a count (.slice p D.length c) vs D w (w.heap.size + 1) n (.slice (some ⟨w.heap.size, 0, none⟩) n n) D.flatten W → W.cell? ⟨w.heap.size + 1, 1, none⟩ = some (.slice (some ⟨w.heap.size, 0, none⟩) n n) ∧ W.cell? ⟨a, 1, none⟩ = some (.slice p D.length c) ∧ W.frozen? ⟨a, 1, none⟩ = false ∧ Fitted base a count D w (W.setCell ⟨a, 1, none⟩ (.slice (some ⟨w.heap.size, 0, none⟩) n n))) := fun W hI => by
      obtain ⟨v1, v2, v3, v4, v5, v6⟩ := hI.new
      have haW : a ≠ w.heap.size + 1 := by have := block_lt h.dir; omega
      refine ⟨v3.c1, hI.old.c1, frozenOf hI.old.dir 1, ?_⟩
      have hal := block_lt h.dir
      have ho : Only (fun k => k = a) W (W.setCell ⟨a, 1, none⟩ (.slice (some ⟨w.heap.size, 0, none⟩) n n)) := Only.setCell _ _ _ rfl
      refine ⟨.slice (some ⟨w.heap.size, 0, none⟩) n n, v1, v2, ⟨h.lo, ?_, ?_, v3.rows.len, fun i v L hv hL => ?_, v3.rows.apart⟩, by rw [hn]; exact v4, v5, v6, ?_⟩
      · rw [heap_set_same hI.old.dir]; rfl
      · refine World.ownsRow.mono (Only.ownsAny ho v3.blocks (fun b hb e => ?_)) haw
        have : w.heap.size = b := by injection hb
        omega
      · have hk := v3.rows.row i v L hv hL
        refine World.ownsRow.mono (hk.kept ho (fun g hg e => ?_)) haw
        have := (hk.tag hg).1
        omega
      · refine (Fr.below hI.bel).trans (Only.weak ho (fun k _ hk => ?_))
        rw [hk]
        exact ⟨h.lo, _, _, _, hI.old.dir, .inl rfl⟩
    rw [hm] at c1 HE cW
    clear h hwf hshort ht hroom htot hE hN2 hT2 hMl hM hi0 hz0 hz1 hz2
    go_enter Tryd.func22, Tryd.ntmps22
    go_wp2_with (first
      | (go_at_call 40; refine Calls_on cB ?_; clear cB)
      | fail)
    rw [← hw2]
    refine cW.mono ?_
    rintro e W ⟨rfl, hI⟩
    obtain ⟨y1, y2, y3, y4⟩ := HE.out W hI
    have HF : Hid (Fitted base a count D w (W.setCell ⟨a, 1, none⟩ (.slice (some ⟨w.heap.size, 0, none⟩) n n))) := y4
    clear cW hI HE hw2 hmk y4
    go_wp2
    refine bodyPost_end (results_none rfl _ _ _) rfl ?_
    exact ⟨rfl, HF.out⟩

end Go.Proofs.YtdocablbkafkiaaDoor.Cd
