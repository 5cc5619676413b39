/-
  New of the document's device.
-/
import Derived.Test.YtnobebgnbofdpaaRefa
import Derived.RangeFuncBox
namespace Go.Proofs.Ytnobebgnbofdpaa
open Go.RowKit Go.Maps

theorem Try.info4 : (Try.prog.info? 4).map (fun i => (i.zero, i.size, i.bytes)) = some (some (.bool false), 1, 1) := by kernel_rfl
theorem Try.info28 : (Try.prog.info? 28).map (fun i => (i.zero, i.size, i.bytes)) = some (some (.slice none 0 0), 1, 24) := by kernel_rfl

theorem made_bools {w : World} {base g n : Nat} (h : w.ownsRow base 4 1 (.slice (some ⟨g, 0, none⟩) n n) n (madeCells (Value.bool false).cells (n * 1)).toList) :
    w.heap[g]? = some (.cells (List.replicate n (.bool false)).toArray 4 (0, 0)) := by
  rw [show (Value.bool false).cells = #[.bool false] from rfl, Nat.mul_one, toList_madeCells_one] at h
  exact owns_whole h

/-- A value whose row, if it has one, lies elsewhere. -/
def Apart (v : Value) (b : Nat) : Prop := v.ownBlock ≠ some b

/-- Two rows of the call's own, neither in the other's block. -/
structure TwoRows (w : World) (base : Nat) (vS vN : Value) (k : Nat) (z : Value) : Prop where
  s : w.ownsRow base 28 1 vS k (List.replicate k z)
  n : w.ownsRow base 28 1 vN k (List.replicate k z)
  ne : vS.ownBlock = none ∨ vS.ownBlock ≠ vN.ownBlock

/-- What the loop of New has made behind k rounds. -/
structure NInv (w3 wr : World) (R n k : Nat) (zv vS vN : Value) (b : Nat) : Prop where
  ref : IsRefAt wr R vS vN (.slice (some ⟨b, 0, none⟩) n n) (-1) 0
  rows : TwoRows wr w3.heap.size vS vN k zv
  but : But (fun x => x = R) w3 wr

theorem NInv.first {w3 wr wa : World} {R n k : Nat} {zv vS vN : Value} {b : Nat} (h : NInv w3 wr R n k zv vS vN b) (hR : R < w3.heap.size) {o : Obj} (hg : (wr.alloc o).grownBy wa vS.ownBlock)
    (c0 : wr.cell? ⟨R, 0, none⟩ = some vS) (c1 : wr.cell? ⟨R, 1, none⟩ = some vN) (f0 : wr.frozen? ⟨R, 0, none⟩ = false) (f1 : wr.frozen? ⟨R, 1, none⟩ = false) :
    wa.cell? ⟨R, 0, none⟩ = some vS ∧ wa.cell? ⟨R, 1, none⟩ = some vN ∧ wa.frozen? ⟨R, 0, none⟩ = false ∧ wa.frozen? ⟨R, 1, none⟩ = false ∧ wa.ownsRow w3.heap.size 28 1 vN k (List.replicate k zv) := by
  have hsz := h.but.size
  have hne : some R ≠ vS.ownBlock := fun e => by have := (h.rows.s.lt R e.symm).1; omega
  have hb : wa.heap[R]? = wr.heap[R]? := (hg.block R (by rw [World.size_alloc]; omega) hne).trans (Below.heap_alloc _ _ _ (by omega))
  refine ⟨(World.cell?_of_block (w := wr) hb).trans c0, (World.cell?_of_block (w := wr) hb).trans c1, (World.frozen?_of_block (w := wr) hb).trans f0, (World.frozen?_of_block (w := wr) hb).trans f1, ?_⟩
  refine (h.rows.n.alloc o).kept hg ?_
  rcases h.rows.ne with h0 | h0
  · rw [h0]
    cases hv : vN.ownBlock with
    | none => exact .inl rfl
    | some x => exact .inr (by simp)
  · exact .inr (Ne.symm h0)

theorem row_some {w : World} {base e k : Nat} {v : Value} {xs : List Value} (h : w.ownsRow base e 1 v k xs) (hk : 1 ≤ k) : ∃ g c, v = .slice (some ⟨g, 0, none⟩) k c := by
  rcases h.2 with ⟨_, h0⟩ | ⟨g, cap, _, rfl, _⟩
  · omega
  · exact ⟨g, cap, rfl⟩
theorem row_base {w : World} {base base' e k : Nat} {v : Value} {xs : List Value} (h : w.ownsRow base e 1 v k xs) (hb : base' ≤ base) : w.ownsRow base' e 1 v k xs := by
  refine ⟨h.1, ?_⟩
  rcases h.2 with hn | ⟨g, cap, cur, hv, hbg, rest⟩
  · exact .inl hn
  · exact .inr ⟨g, cap, cur, hv, Nat.le_trans hb hbg, rest⟩

theorem size_setCell (w : World) (p : Addr) (u : Value) : (w.setCell p u).heap.size = w.heap.size := by simp [World.setCell]

theorem row_setCell {w : World} {base R k : Nat} {e : TypeId} {v : Value} {xs : List Value} (h : w.ownsRow base e 1 v k xs) (hR : R < base) (j : Nat) (u : Value) : (w.setCell ⟨R, j, none⟩ u).ownsRow base e 1 v k xs :=
  h.kept (grown_set w ⟨R, j, none⟩ u) (by
    cases hv : v.ownBlock with
    | none => exact .inl rfl
    | some x => exact .inr (fun e => by cases e; have := (h.lt R hv).1; omega))

theorem second_cell {w3 wr wa wb : World} {R k : Nat} {vN v' : Value} {xs : List Value} {o o' : Obj} (hN : wa.ownsRow w3.heap.size 28 1 vN k xs) (hR : R < w3.heap.size)
    (hg : ((wa.setCell ⟨R, 0, none⟩ v').alloc o).grownBy wb vN.ownBlock) (hsz : (wr.alloc o').heap.size ≤ wa.heap.size) (hszr : w3.heap.size ≤ wr.heap.size) {u : Value}
    (d1 : wa.cell? ⟨R, 1, none⟩ = some u) (e1 : wa.frozen? ⟨R, 1, none⟩ = false) : wb.cell? ⟨R, 1, none⟩ = some u ∧ wb.frozen? ⟨R, 1, none⟩ = false := by
  rw [World.size_alloc] at hsz
  have hne : some R ≠ vN.ownBlock := fun e => by have := (hN.lt R e.symm).1; omega
  have hb : wb.heap[R]? = (wa.setCell ⟨R, 0, none⟩ v').heap[R]? := (hg.block R (by rw [World.size_alloc, size_setCell]; omega) hne).trans (Below.heap_alloc _ _ _ (by rw [size_setCell]; omega))
  refine ⟨(World.cell?_of_block (w := wa.setCell ⟨R, 0, none⟩ v') hb).trans ?_, (World.frozen?_of_block (w := wa.setCell ⟨R, 0, none⟩ v') hb).trans ?_⟩
  · rw [World.cell?_setCell_other _ _ _ _ (by simp)]; exact d1
  · rw [World.frozen?_setCell]; exact e1

theorem NInv.step {w3 wr wa wb : World} {R n k : Nat} {zv vS vN : Value} {b : Nat} (h : NInv w3 wr R n k zv vS vN b) (hR : R < w3.heap.size) {o o' : Obj} {v' v2 : Value}
    (hg : (wr.alloc o).grownBy wa vS.ownBlock) (hown : wa.ownsRow w3.heap.size 28 1 v' (k + 1) (List.replicate k zv ++ [zv])) (hloc : v'.ownBlock = vS.ownBlock ∨ v'.ownBlock = some (wr.alloc o).heap.size)
    (hg2 : ((wa.setCell ⟨R, 0, none⟩ v').alloc o').grownBy wb vN.ownBlock) (hown2 : wb.ownsRow w3.heap.size 28 1 v2 (k + 1) (List.replicate k zv ++ [zv])) (hloc2 : v2.ownBlock = vN.ownBlock ∨ v2.ownBlock = some ((wa.setCell ⟨R, 0, none⟩ v').alloc o').heap.size)
    (hN : wa.ownsRow w3.heap.size 28 1 vN k (List.replicate k zv)) :
    NInv w3 (wb.setCell ⟨R, 1, none⟩ v2) R n (k + 1) zv v' v2 b := by
  have hszr := h.but.size
  have hs1 := hg.size
  have hs2 := hg2.size
  rw [World.size_alloc] at hs1 hs2
  rw [size_setCell] at hs2
  rw [World.size_alloc] at hloc hloc2
  rw [size_setCell] at hloc2
  rw [← List.replicate_succ'] at hown hown2
  have hneS : some R ≠ vS.ownBlock := fun e => by have := (h.rows.s.lt R e.symm).1; omega
  have hneN : some R ≠ vN.ownBlock := fun e => by have := (hN.lt R e.symm).1; omega
  have hNlt : ∀ x, vN.ownBlock = some x → x < wr.heap.size := fun x hx => (h.rows.n.lt x hx).2
  obtain ⟨g1, c1, rfl⟩ := ownsRow_succ hown
  obtain ⟨g2, c2, rfl⟩ := ownsRow_succ hown2
  have e1 : (Value.slice (some ⟨g1, 0, none⟩) (k + 1) c1).ownBlock = some g1 := rfl
  have e2 : (Value.slice (some ⟨g2, 0, none⟩) (k + 1) c2).ownBlock = some g2 := rfl
  rw [e1] at hloc
  rw [e2] at hloc2
  have hg1 : some g1 ≠ vN.ownBlock := by
    rcases hloc with hl | hl
    · rcases h.rows.ne with h0 | h0
      · rw [h0] at hl; cases hl
      · rw [hl]; exact h0
    · intro e
      have := hNlt g1 e.symm
      cases hl
      omega
  have hgg : g1 ≠ g2 := by
    rintro rfl
    rcases hloc2 with hl | hl
    · exact hg1 hl
    · cases hl
      have := (hown.lt _ e1).2
      omega
  have hbR : wb.heap[R]? = (wa.setCell ⟨R, 0, none⟩ (.slice (some ⟨g1, 0, none⟩) (k + 1) c1)).heap[R]? := (hg2.block R (by rw [World.size_alloc, size_setCell]; omega) hneN).trans (Below.heap_alloc _ _ _ (by rw [size_setCell]; omega))
  have haR : wa.heap[R]? = wr.heap[R]? := (hg.block R (by rw [World.size_alloc]; omega) hneS).trans (Below.heap_alloc _ _ _ (by omega))
  refine ⟨?_, ⟨?_, ?_, .inr ?_⟩, ?_⟩
  · have r1 : IsRefAt wa R vS vN (.slice (some ⟨b, 0, none⟩) n n) (-1) 0 := haR.trans h.ref
    have r2 : IsRefAt wb R (.slice (some ⟨g1, 0, none⟩) (k + 1) c1) vN (.slice (some ⟨b, 0, none⟩) n n) (-1) 0 := hbR.trans (r1.set0 _)
    exact r2.set1 _
  · refine row_setCell ?_ hR _ _
    refine ((row_setCell hown hR _ _).alloc o').kept hg2 (.inr ?_)
    rw [e1]; exact hg1
  · exact row_setCell hown2 hR _ _
  · rw [e1, e2]; simpa using hgg
  · refine ⟨hg2.os.trans (hg.os.trans h.but.os), hg2.tape.trans (hg.tape.trans h.but.tape), hg2.output.trans (hg.output.trans h.but.output), by rw [size_setCell]; omega, fun x hx hn => ?_⟩
    have hxS : some x ≠ vS.ownBlock := fun e => by have := (h.rows.s.lt x e.symm).1; omega
    have hxN : some x ≠ vN.ownBlock := fun e => by have := (hN.lt x e.symm).1; omega
    have hxR : x ≠ R := hn
    rw [Below.heap_setCell _ ⟨R, 1, none⟩ _ _ hxR, hg2.block x (by rw [World.size_alloc, size_setCell]; omega) hxN, Below.heap_alloc _ _ _ (by rw [size_setCell]; omega), Below.heap_setCell _ ⟨R, 0, none⟩ _ _ hxR,
      hg.block x (by rw [World.size_alloc]; omega) hxS, Below.heap_alloc _ _ _ (by omega)]
    exact h.but.block x hx hn

set_option maxHeartbeats 400000 in
theorem rnew_no (n : Int) (w : World) (h : n < 1 ∨ 65536 < n) :
    Calls Try.prog 8 #[.int .i64 n] w fun e w' => e = .returned (.pointer none) ∧ w' = w := by
  rcases h with h | h
  · go_enter Try.func8, Try.ntmps8
    go_wp2
    go_ret
    exact ⟨rfl, rfl⟩
  · have h' : ¬ n < 1 := by omega
    go_enter Try.func8, Try.ntmps8
    go_wp2
    go_ret
    exact ⟨rfl, rfl⟩

set_option maxHeartbeats 2000000 in
theorem rnew_yes (n : Nat) (w : World) (h1 : 1 ≤ n) (h2 : n ≤ 65536) :
    Calls Try.prog 8 #[.int .i64 n] w fun e w' => ∃ r z sS cS sN cN, e = .returned (.pointer (some ⟨r, 0, none⟩)) ∧ w.heap.size ≤ r ∧
      IsRefAt w' r (.slice (some ⟨sS, 0, none⟩) n cS) (.slice (some ⟨sN, 0, none⟩) n cN) (.slice (some ⟨w.heap.size, 0, none⟩) n n) (-1) 0 ∧
      w'.heap[z]? = some (.cells zeros.toArray 5 (0, 0)) ∧ TwoRows w' w.heap.size (.slice (some ⟨sS, 0, none⟩) n cS) (.slice (some ⟨sN, 0, none⟩) n cN) n (.slice (some ⟨z, 0, none⟩) 512 512) ∧
      w'.heap[w.heap.size]? = some (.cells (List.replicate n (.bool false)).toArray 4 (0, 0)) ∧ Below w.heap.size w w' := by
  obtain ⟨i0, hi, hz0, hz1, hz2⟩ := info_parts Try.info4
  obtain ⟨i5, hi5, hz50, hz51, hz52⟩ := info_parts Try.info5
  obtain ⟨i8, hi8, hz80, hz81, hz82⟩ := info_parts Try.info28
  have tok : True := trivial
  go_enter Try.func8, Try.ntmps8
  go_wp2_with (first
    | (at_make; have _t := tok; refine wpList_make_full _ rfl _ _ 29 rfl 0 4 i0 (.bool false) 1 Try.underlying29 hi hz0 hz1 .i64 .i64 _ _ n rfl rfl rfl rfl (by rw [hz2]; omega) (by unfold maxLen; omega) (Nat.zero_le _) ?_; clear tok; intro w1 hrow1 hg1)
    | (at_make; refine wpList_make_full _ rfl _ _ 28 rfl 0 5 i5 (.int .u8 0) 1 Try.underlying28 hi5 hz50 hz51 .i64 .i64 _ _ 512 rfl rfl rfl rfl (by rw [hz52]; omega) (by unfold maxLen; omega) (Nat.zero_le _) ?_; intro w3 hrow3 hg3))
  have hz1lt : w.heap.size < w1.heap.size := (Array.getElem?_eq_some_iff.1 (owns_whole hrow1)).1
  have hsz3 := hg3.size
  rw [World.size_alloc] at hsz3 hrow3
  have hZ := made_zeros hrow3
  have hZlt := (Array.getElem?_eq_some_iff.1 hZ).1
  have hbool3 : w3.heap[w.heap.size]? = some (.cells (List.replicate n (.bool false)).toArray 4 (0, 0)) :=
    (hg3.block _ (by rw [World.size_alloc]; omega) (by simp)).trans ((Below.heap_alloc _ _ _ hz1lt).trans (made_bools hrow1))
  have hR3 : IsRefAt w3 w1.heap.size (.slice none 0 0) (.slice none 0 0) (.slice (some ⟨w.heap.size, 0, none⟩) n n) (-1) 0 :=
    (hg3.block _ (by rw [World.size_alloc]; omega) (by simp)).trans (heap_alloc_new w1 _)
  have hB3 : Below w.heap.size w w3 := (((Below.refl _ w).grown hg1 (Nat.le_refl _) (by simp)).alloc (Nat.le_of_lt hz1lt) _).grown hg3 (by rw [World.size_alloc]; omega) (by simp)
  clear hrow1 hrow3 hg1 hg3
  generalize hR : w1.heap.size = R at hZlt hZ hR3 hsz3 hz1lt ⊢
  clear hR
  go_loopw [5] (fun ix wr => ∃ k : Nat, k ≤ n ∧ ix = .int .i64 k ∧ ∃ vS vN, NInv w3 wr R n k (.slice (some ⟨R + 1, 0, none⟩) 512 512) vS vN w.heap.size) (fun ix _ => n - (intOf ix).toNat)
  case atStart =>
    exact ⟨0, Nat.zero_le _, rfl, _, _, ⟨hR3, ⟨World.ownsRow_nil _ _ _ _, World.ownsRow_nil _ _ _ _, .inl rfl⟩, But.refl _ _⟩⟩
  case round =>
    obtain ⟨k, hk, rfl, vS, vN, hinv⟩ := hrel
    by_cases hlt : k < n
    · have hRlt : R < w3.heap.size := by omega
      have hszr := hinv.but.size
      have c0 := cellOf hinv.ref 0
      have c1 := cellOf hinv.ref 1
      have f0 := frozenOf hinv.ref 0
      have f1 := frozenOf hinv.ref 1
      simp [refCells] at c0 c1
      have tokA : True := trivial
      have HI : Hid (NInv w3 wr R n k (.slice (some ⟨R + 1, 0, none⟩) 512 512) vS vN w.heap.size) := hinv
      clear hinv
      go_wp2_with (first
        | (at_builtin; have _t := tokA; refine wpList_append_own_at _ rfl _ _ 38 rfl w3.heap.size 28 i8 (.slice none 0 0) 1 24 Try.underlying38 hi8 hz80 hz81 hz82 rfl (by decide) vS k (List.replicate k (.slice (some ⟨R + 1, 0, none⟩) 512 512)) rfl (HI.out.rows.s.alloc _) ⟨wr.heap.size, 0, none⟩ 1 1 [.slice (some ⟨R + 1, 0, none⟩) 512 512] rfl rfl (cell_one_new _ _ _) (by intro u hu; simp at hu; subst hu; rfl) (by unfold maxLen; omega) (by omega) (by rw [World.size_alloc]; omega) ?_
           clear tokA; intro v' wa hown' hgrow hnil hloc; obtain ⟨gS, capS, rfl⟩ := ownsRow_succ hown'
           obtain ⟨d0, d1, e0, e1, hrowN⟩ := HI.out.first hRlt hgrow c0 c1 f0 f1)
        | (at_builtin; refine wpList_append_own_at _ rfl _ _ 38 rfl w3.heap.size 28 i8 (.slice none 0 0) 1 24 Try.underlying38 hi8 hz80 hz81 hz82 rfl (by decide) vN k (List.replicate k (.slice (some ⟨R + 1, 0, none⟩) 512 512)) rfl ((row_setCell hrowN hRlt _ _).alloc _) ⟨wa.heap.size, 0, none⟩ 1 1 [.slice (some ⟨R + 1, 0, none⟩) 512 512] rfl rfl
            (fun j u hj => by have := cell_one_new (wa.setCell ⟨R, 0, none⟩ (.slice (some ⟨gS, 0, none⟩) (k + 1) capS)) (.slice (some ⟨R + 1, 0, none⟩) 512 512) 28 j u hj; rwa [size_setCell] at this) (by intro u hu; simp at hu; subst hu; rfl) (by unfold maxLen; omega) (by omega) (by rw [World.size_alloc, size_setCell]; have := hgrow.size; rw [World.size_alloc] at this; omega) ?_
           intro v2 wb hown2 hgrow2 hnil2 hloc2; obtain ⟨gN, capN, rfl⟩ := ownsRow_succ hown2
           obtain ⟨d2, f2⟩ := second_cell hrowN hRlt hgrow2 hgrow.size hszr d1 e1))
      exact ⟨⟨k + 1, by omega, by go_num, _, _, HI.out.step hRlt hgrow hown' hloc hgrow2 hown2 hloc2 hrowN⟩, by simp [intOf]; omega⟩
    · obtain rfl : k = n := by omega
      go_wp2
      go_ret
      obtain ⟨sS, cS, rfl⟩ := row_some hinv.rows.s h1
      obtain ⟨sN, cN, rfl⟩ := row_some hinv.rows.n h1
      have hb : ∀ x o, w3.heap[x]? = some o → x ≠ R → wr.heap[x]? = some o := fun x o ho hx => (hinv.but.block x (Array.getElem?_eq_some_iff.1 ho).1 hx).trans ho
      refine ⟨R, R + 1, sS, cS, sN, cN, rfl, by omega, hinv.ref, hb _ _ hZ (by omega), ⟨row_base hinv.rows.s (by omega), row_base hinv.rows.n (by omega), hinv.rows.ne⟩, hb _ _ hbool3 (by omega), ?_⟩
      exact hB3.trans (hinv.but.below (by omega) (by rintro k rfl; omega))

end Go.Proofs.Ytnobebgnbofdpaa
