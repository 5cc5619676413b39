/-
  A queue's heap: Swap, Pop, Push.
-/
import Derived.Test.YtgophojgofmkeaaZc
import Derived.Maps.AppendAt
namespace Go.Proofs.Ytgophojgofmkeaa.Ck
open Go.RowKit Go.Maps

theorem queue_slice {sl lv : Value} {cm : Nat} {ask : Bool} (v : Value) : (queueCells sl lv cm ask).setIfInBounds 0 v = queueCells v lv cm ask := rfl
theorem IsHeld.other {w : World} {a : Nat} {e : QE} (h : IsHeld w a e) (p : Addr) (hp : a ≠ p.block) (v : Value) : IsHeld (w.setCell p v) a e := (Below.heap_setCell _ _ _ _ hp).trans h

theorem HQ.swap {w : World} {q : QP} {g cap : Nat} {I : List Nat} {U : Nat → QE} (h : HQ w q (some ⟨g, 0, none⟩) cap I U) {i j : Nat} (hi : i < I.length) (hj : j < I.length) :
    HQ ((w.setCell ⟨g, i, none⟩ (ep (I.getD j 0))).setCell ⟨g, j, none⟩ (ep (I.getD i 0))) q (some ⟨g, 0, none⟩) cap (swapL I i j) U ∧ Fm q.base w ((w.setCell ⟨g, i, none⟩ (ep (I.getD j 0))).setCell ⟨g, j, none⟩ (ep (I.getD i 0))) := by
  obtain ⟨g', cur, e, hb, h1, h2, h3, h4, hlo⟩ := h.form (by omega)
  cases e
  have hc := h.cell
  have cg : q.c ≠ g := apart_tags hc hb (by decide)
  have e1 := heap_set_same (k := i) hb (ep (I.getD j 0))
  refine ⟨⟨?_, ?_, fun k hk => ?_, (swapL_perm I i j hi hj).nodup_iff.2 h.nodup, by rw [swapL_length]; exact h.len, h.lo, fun a ha => h.los a ((swapL_perm I i j hi hj).mem_iff.1 ha), fun a ha => h.ok a ((swapL_perm I i j hi hj).mem_iff.1 ha), h.less⟩, (Fm.setCell hlo hb (.inr (.inl rfl)) _).next (Fm.setCell hlo e1 (.inr (.inl rfl)) _)⟩
  · rw [Below.heap_setCell _ _ _ _ cg, Below.heap_setCell _ _ _ _ cg, swapL_length]
    exact hc
  · refine ⟨by simp, .inr ⟨g, cap, (cur.setIfInBounds i (ep (I.getD j 0))).setIfInBounds j (ep (I.getD i 0)), by rw [swapL_length], hlo, heap_set_same e1 _, by rw [swapL_length]; exact h1, h2, by simp [h3], ?_⟩⟩
    rw [swapL_length, Nat.mul_one, Array.toList_setIfInBounds, Array.toList_setIfInBounds, List.take_set, List.take_set, h4]
    unfold swapL
    rw [List.map_set, List.map_set]
  · rw [swapL_length] at hk
    have hm : (swapL I i j).getD k 0 ∈ I := (swapL_perm I i j hi hj).mem_iff.1 (getD_mem (by rw [swapL_length]; exact hk))
    obtain ⟨k', hk', e'⟩ := List.getElem_of_mem hm
    have hz := h.ents k' hk'
    have e2 : I.getD k' 0 = (swapL I i j).getD k 0 := by rw [← e']; simp [List.getD, hk']
    rw [e2] at hz
    have gz : (swapL I i j).getD k 0 ≠ g := apart_tags hz hb (by decide)
    exact (hz.other ⟨g, i, none⟩ gz _).other ⟨g, j, none⟩ gz _

theorem HQ.drew {w : World} {q : QP} {p : Option Addr} {cap : Nat} {I : List Nat} {U : Nat → QE} (h : HQ w q p cap I U) : HQ w.drew q p cap I U := h.below ⟨rfl, rfl, rfl, Nat.le_refl _, fun _ _ => rfl⟩
theorem Fm.drew {base : Nat} {w w' : World} (h : Fm base w w') : Fm base w w'.drew := h.next (Fm.of_below ⟨rfl, rfl, rfl, Nat.le_refl _, fun _ _ => rfl⟩)

set_option maxRecDepth 8000 in
set_option maxHeartbeats 4000000 in
theorem gpSwap_any (q : QP) (p : Option Addr) (cap : Nat) (I : List Nat) (U : Nat → QE) (i j : Nat) (w : World) (h : HQ w q p cap I U) (hi : i < I.length) (hj : j < I.length) (hij : i ≠ j) :
    Calls Try.prog 60 #[ep q.c, .int .i64 i, .int .i64 j] w fun e w' => e = .returned (.tuple #[]) ∧ HQ w' q p cap (swapL I i j) U ∧ Fm q.base w w' := by
  obtain ⟨g, cur, rfl, hb, h1, h2, h3, h4, _⟩ := h.form (by omega)
  have c0 := h.cell0
  have c1 := h.cellAt i hi
  have c2 := h.cellAt j hj
  have f1 := frozenOf hb i
  have f2 := frozenOf hb j
  have hlen := h.len
  have b1 : (0 : Int) ≤ (i : Int) := by omega
  have b2 : (0 : Int) ≤ (j : Int) := by omega
  have b3 : (i : Int) < (I.length : Int) := by omega
  have b4 : (j : Int) < (I.length : Int) := by omega
  have cg : ¬ q.c = g := apart_tags h.cell hb (by decide)
  have gc : ¬ g = q.c := fun e => cg e.symm
  have HS := h.swap hi hj
  have HF : Hid (HQ ((w.setCell ⟨g, i, none⟩ (ep (I.getD j 0))).setCell ⟨g, j, none⟩ (ep (I.getD i 0))) q (some ⟨g, 0, none⟩) cap (swapL I i j) U ∧ Fm q.base w ((w.setCell ⟨g, i, none⟩ (ep (I.getD j 0))).setCell ⟨g, j, none⟩ (ep (I.getD i 0)))) := HS
  generalize I.getD i 0 = x at *
  generalize I.getD j 0 = y at *
  have nij : ¬ i = j := hij
  have nji : ¬ j = i := fun e => hij e.symm
  generalize hqc : q.c = c at *
  clear h hb h1 h2 h3 h4 HS hij hqc
  generalize I.length = m at *
  go_enter Try.func60, Try.ntmps60
  go_wp2_with fail
  go_region
  all_goals go_wp2_with fail
  go_end0
  exact ⟨rfl, HF.out.1.drew, HF.out.2.drew⟩

/-- The last one is taken off. -/
theorem HQ.pop {w : World} {q : QP} {g cap a : Nat} {I : List Nat} {U : Nat → QE} (h : HQ w q (some ⟨g, 0, none⟩) cap (I ++ [a]) U) :
    HQ ((w.setCell ⟨g, I.length, none⟩ (.pointer none)).setCell ⟨q.c, 0, none⟩ (.slice (some ⟨g, 0, none⟩) I.length cap)) q (some ⟨g, 0, none⟩) cap I U ∧
    IsHeld ((w.setCell ⟨g, I.length, none⟩ (.pointer none)).setCell ⟨q.c, 0, none⟩ (.slice (some ⟨g, 0, none⟩) I.length cap)) a (U a) ∧ Fm q.base w ((w.setCell ⟨g, I.length, none⟩ (.pointer none)).setCell ⟨q.c, 0, none⟩ (.slice (some ⟨g, 0, none⟩) I.length cap)) := by
  have hl : (I ++ [a]).length = I.length + 1 := by simp
  obtain ⟨g', cur, e, hb, h1, h2, h3, h4, hlo⟩ := h.form (by omega)
  cases e
  have hc := h.cell
  have ha : IsHeld w a (U a) := by
    have := h.ents I.length (by omega)
    simpa [List.getD] using this
  have cg : q.c ≠ g := apart_tags hc hb (by decide)
  have hc1 : (w.setCell ⟨g, I.length, none⟩ (.pointer none)).heap[q.c]? = some (.cells (queueCells (.slice (some ⟨g, 0, none⟩) (I ++ [a]).length cap) q.lv q.cm false) 51 (0, 0)) := (Below.heap_setCell _ _ _ _ cg).trans hc
  have keep : ∀ b e, IsHeld w b e → IsHeld ((w.setCell ⟨g, I.length, none⟩ (.pointer none)).setCell ⟨q.c, 0, none⟩ (.slice (some ⟨g, 0, none⟩) I.length cap)) b e := fun b e hz =>
    (hz.other ⟨g, I.length, none⟩ (apart_tags hz hb (by decide)) _).other ⟨q.c, 0, none⟩ (apart_tags hz hc (by decide)) _
  refine ⟨⟨?_, ?_, fun k hk => ?_, (List.nodup_append.1 h.nodup).1, by have := h.len; omega, h.lo, fun b hb => h.los b (by simp [hb]), fun b hb => h.ok b (by simp [hb]), h.less⟩, keep _ _ ha, (Fm.setCell hlo hb (.inr (.inl rfl)) _).next (Fm.setCell h.lo hc1 (.inl rfl) _)⟩
  · rw [heap_set_same hc1]; rfl
  · refine ⟨by simp, .inr ⟨g, cap, cur.setIfInBounds I.length (.pointer none), rfl, hlo, ?_, by omega, h2, by simp [h3], ?_⟩⟩
    · rw [Below.heap_setCell _ _ _ _ (Ne.symm cg)]
      exact heap_set_same hb _
    · rw [Nat.mul_one, Array.toList_setIfInBounds, List.take_set_of_le (Nat.le_refl _)]
      have e2 : (cur.toList.take (I ++ [a]).length).take I.length = ((I ++ [a]).map ep).take I.length := by rw [h4]
      rw [List.take_take, hl, Nat.min_eq_left (by omega)] at e2
      rw [e2]
      simp
  · have hz := h.ents k (by omega)
    have ek : (I ++ [a]).getD k 0 = I.getD k 0 := by simp [List.getD, List.getElem?_append_left hk]
    rw [ek] at hz
    exact keep _ _ hz

set_option maxRecDepth 8000 in
set_option maxHeartbeats 1000000 in
theorem gpPop_any (q : QP) (p : Option Addr) (cap a : Nat) (I : List Nat) (U : Nat → QE) (w : World) (h : HQ w q p cap (I ++ [a]) U) :
    Calls Try.prog 58 #[ep q.c] w fun e w' => e = .returned (.iface 53 (ep a)) ∧ HQ w' q p cap I U ∧ IsHeld w' a (U a) ∧ Fm q.base w w' := by
  have hl : (I ++ [a]).length = I.length + 1 := by simp
  obtain ⟨g, cur, rfl, hb, h1, h2, h3, h4, _⟩ := h.form (by omega)
  have c0 := h.cell0
  have f0 := frozenOf h.cell 0
  have c1 := h.cellAt I.length (by omega)
  have ea : (I ++ [a]).getD I.length 0 = a := by simp [List.getD]
  rw [ea] at c1
  have f1 := frozenOf hb I.length
  have cg : ¬ q.c = g := apart_tags h.cell hb (by decide)
  have gc : ¬ g = q.c := fun e => cg e.symm
  have hlen := h.len
  have HS := h.pop
  have HF : Hid (HQ ((w.setCell ⟨g, I.length, none⟩ (.pointer none)).setCell ⟨q.c, 0, none⟩ (.slice (some ⟨g, 0, none⟩) I.length cap)) q (some ⟨g, 0, none⟩) cap I U ∧
    IsHeld ((w.setCell ⟨g, I.length, none⟩ (.pointer none)).setCell ⟨q.c, 0, none⟩ (.slice (some ⟨g, 0, none⟩) I.length cap)) a (U a) ∧ Fm q.base w ((w.setCell ⟨g, I.length, none⟩ (.pointer none)).setCell ⟨q.c, 0, none⟩ (.slice (some ⟨g, 0, none⟩) I.length cap))) := HS
  rw [hl] at c0 hlen h1
  generalize I.length = n at *
  generalize hqc : q.c = c at *
  have b1 : (0 : Int) ≤ (n : Int) := by omega
  have b2 : (n : Int) < ((n + 1 : Nat) : Int) := by omega
  have b3 : (n : Int) ≤ (cap : Int) := by omega
  clear h hb h2 h3 h4 HS hl ea hqc
  go_enter Try.func58, Try.ntmps58
  go_wp2_with fail
  go_ret
  exact ⟨rfl, HF.out⟩

theorem infoPH : ∃ i, Try.prog.info? 53 = some i ∧ i.zero = some (.pointer none) ∧ i.size = 1 ∧ i.bytes = 8 := by
  have e : (Try.prog.info? 53).map (fun i => (i.zero, i.size, i.bytes)) = some (some (.pointer none), 1, 8) := by kernel_rfl
  obtain ⟨i, hi, he⟩ := Option.map_eq_some_iff.1 e
  injection he with h1 h2
  injection h2 with h2 h3
  exact ⟨i, hi, h1, h2, h3⟩
theorem assert_held (a : Nat) (w : World) : (Instr.typeAssert (.iface 53 (ep a)) 20 53 false).run Try.prog w = .ok (ep a) w := by kernel_rfl
theorem own_slice {W : World} {base : Nat} {e : TypeId} {n : Nat} {v : Value} {xs : List Value} {s : Nat} (h : W.ownsRow base e s v n xs) : ∃ p cap, v = .slice p n cap := by
  rcases h.2 with ⟨rfl, h0⟩ | ⟨g', cap, cur, rfl, _⟩
  · exact ⟨none, 0, by rw [h0]⟩
  · exact ⟨_, _, rfl⟩

/-- One more at the end of the row. -/
structure Pushd (w w' : World) (q : QP) (p : Option Addr) (cap : Nat) (I : List Nat) (U : Nat → QE) : Prop where
  hq : HQ w' q p cap I U
  fm : Fm q.base w w'

theorem own_tagT {W : World} {base : Nat} {e : TypeId} {size : Nat} {v : Value} {n : Nat} {xs : List Value} (h : W.ownsRow base e size v n xs) {g : Nat} {cs : Array Value} {t : TypeId} {fr : Nat × Nat} (hg : v.ownBlock = some g) (hc : W.heap[g]? = some (.cells cs t fr)) : t = e ∧ base ≤ g := by
  rcases h.2 with ⟨rfl, _⟩ | ⟨g', cap, cur, rfl, hb, hblk, _⟩
  · simp [Value.ownBlock] at hg
  · have e' : g' = g := by simpa [Value.ownBlock] using hg
    subst e'
    rw [hc] at hblk
    simp only [Option.some.injEq, Obj.cells.injEq] at hblk
    exact ⟨hblk.2.1, hb⟩
theorem own_at {W : World} {base : Nat} {e : TypeId} {size : Nat} {v : Value} {n : Nat} {xs : List Value} (h : W.ownsRow base e size v n xs) {g : Nat} (hg : v.ownBlock = some g) : ∃ cs fr, W.heap[g]? = some (.cells cs e fr) ∧ base ≤ g := by
  rcases h.2 with ⟨rfl, _⟩ | ⟨g', cap, cur, rfl, hb, hblk, _⟩
  · simp [Value.ownBlock] at hg
  · have e' : g' = g := by simpa [Value.ownBlock] using hg
    subst e'
    exact ⟨cur, _, hblk, hb⟩

set_option maxRecDepth 8000 in
set_option maxHeartbeats 2000000 in
theorem gpPush_any (q : QP) (p : Option Addr) (cap a : Nat) (I : List Nat) (U : Nat → QE) (w : World) (h : HQ w q p cap I U) (ha : IsHeld w a (U a)) (hna : a ∉ I) (hla : q.base ≤ a) (hoka : (U a).ok) (hl1 : I.length + 1 < 1000000) :
    Calls Try.prog 59 #[ep q.c, .iface 53 (ep a)] w fun e w' => e = .returned (.tuple #[]) ∧ ∃ p' cap', HQ w' q p' cap' (I ++ [a]) U ∧ Fm q.base w w' := by
  obtain ⟨i0, hi0, hz0, hz1, hz2⟩ := infoPH
  have hbw : q.base ≤ w.heap.size := Nat.le_trans h.lo (Nat.le_of_lt (block_lt h.cell))
  obtain ⟨W1, hW1⟩ : ∃ W1, W1 = w.drew.alloc (.cells #[ep a] 53) := ⟨_, rfl⟩
  have hb1 : Below w.heap.size w W1 := by
    rw [hW1]
    have := (below_new w.drew (.cells #[ep a] 53)).out
    exact ⟨this.os, this.tape, this.output, this.size, this.block⟩
  have hs1 : W1.heap.size = w.heap.size + 1 := by rw [hW1]; simp
  have hn1 : W1.heap[w.heap.size]? = some (.cells #[ep a] 53 (0, 0)) := by rw [hW1]; exact heap_alloc_new w.drew _
  have h1 := h.below hb1
  obtain ⟨v1, W2, hrun, hown, hgr, _, hpl⟩ := run_append_own_at (P := Try.prog) (w := W1) q.base 47 47 53 i0 _ 1 _ Try.underlying47 hi0 hz0 hz1 hz2 rfl (by decide) (.slice p I.length cap) I.length (I.map ep) h1.row ⟨w.heap.size, 0, none⟩ 1 1 [ep a] rfl
    (fun j u hj => by
      rw [Addr.add_lit, Nat.zero_add, cellOf hn1 j]
      simpa using hj) (by intro u hu; rw [List.mem_singleton.1 hu]; rfl) (by unfold maxLen; omega) (by omega) (by omega)
  obtain ⟨p1, k1, rfl⟩ := own_slice hown
  have keep : ∀ (k : Nat) cs t fr, w.heap[k]? = some (.cells cs t fr) → t ≠ 53 → W2.heap[k]? = some (.cells cs t fr) := by
    intro k cs t fr hk ht
    have hk1 := (hb1.block k (block_lt hk)).trans hk
    exact (hgr.block k (block_lt hk1) (fun e => ht (own_tagT h1.row e.symm hk1).1)).trans hk1
  have hc2 := keep _ _ _ _ h.cell (by decide)
  obtain ⟨W3, hW3⟩ : ∃ W3, W3 = W2.setCell ⟨q.c, 0, none⟩ (.slice p1 (I.length + 1) k1) := ⟨_, rfl⟩
  have hO3 : Only (· = q.c) W2 W3 := by rw [hW3]; exact Only.setCell W2 ⟨q.c, 0, none⟩ _ rfl
  have keep3 : ∀ (k : Nat) cs t fr, w.heap[k]? = some (.cells cs t fr) → t ≠ 53 → t ≠ 51 → W3.heap[k]? = some (.cells cs t fr) := fun k cs t fr hk h1 h2 => by
    have := keep k cs t fr hk h1
    exact (hO3.block k (block_lt this) (apart_tags this hc2 h2)).trans this
  have hl : (I ++ [a]).length = I.length + 1 := by simp
  have H3 : Hid (HQ W3 q p1 k1 (I ++ [a]) U ∧ Fm q.base w W3) := by
    refine ⟨⟨?_, ?_, fun k hk => ?_, ?_, by omega, h.lo, fun b hb => ?_, fun b hb => ?_, h.less⟩, ?_⟩
    · rw [hl, hW3, heap_set_same hc2]; rfl
    · rw [hl, List.map_append]
      refine ⟨hown.1, ?_⟩
      rcases hown.2 with e | ⟨g, cp, cur, hv, hbs, hblk, r⟩
      · exact .inl e
      · exact .inr ⟨g, cp, cur, hv, hbs, (hO3.block g (block_lt hblk) (apart_tags hblk hc2 (by decide))).trans hblk, r⟩
    · by_cases e : k = I.length
      · subst e
        have ek : (I ++ [a]).getD I.length 0 = a := by simp [List.getD]
        rw [ek]
        exact keep3 _ _ _ _ ha (by decide) (by decide)
      · have hk' : k < I.length := by omega
        have ek : (I ++ [a]).getD k 0 = I.getD k 0 := by simp [List.getD, List.getElem?_append_left hk']
        rw [ek]
        exact keep3 _ _ _ _ (h.ents k hk') (by decide) (by decide)
    · rw [List.nodup_append]
      exact ⟨h.nodup, by simp, fun x hx y hy => by rw [List.mem_singleton.1 hy]; exact fun e => hna (e ▸ hx)⟩
    · rcases List.mem_append.1 hb with hb | hb
      · exact h.los b hb
      · rw [List.mem_singleton.1 hb]; exact hla
    · rcases List.mem_append.1 hb with hb | hb
      · exact h.ok b hb
      · rw [List.mem_singleton.1 hb]; exact hoka
    · refine ⟨hO3.os.trans (hgr.os.trans hb1.os), hO3.tape.trans (hgr.tape.trans hb1.tape), hO3.output.trans (hgr.output.trans hb1.output), Nat.le_trans (Nat.le_trans hb1.size hgr.size) hO3.size, fun k hk hn => ?_⟩
      have e1 := hb1.block k hk
      have hk1 : k < W1.heap.size := by omega
      have e2 := hgr.block k hk1 (fun e => by
        obtain ⟨cs, fr, hcs, hlo⟩ := own_at h1.row e.symm
        exact hn ⟨hlo, cs, _, fr, by rw [← e1]; exact hcs, .inr (.inl rfl)⟩)
      have e3 := hO3.block k (Nat.lt_of_lt_of_le hk1 hgr.size) (fun e => hn (by subst e; exact ⟨h.lo, _, _, _, h.cell, .inl rfl⟩))
      exact e3.trans (e2.trans e1)
  have c0 : w.drew.cell? ⟨q.c, 0, none⟩ = some (.slice p I.length cap) := h.cell0
  have c1 : W1.cell? ⟨q.c, 0, none⟩ = some (.slice p I.length cap) := h1.cell0
  have c2 : W2.cell? ⟨q.c, 0, none⟩ = some (.slice p I.length cap) := by rw [cellOf hc2 0]; rfl
  have f2 := frozenOf hc2 0
  have hta := assert_held a
  have hmix : Try.prog.follows .mixedOrders = true := by kernel_rfl
  generalize hnn : I.length = n at *
  generalize hqc : q.c = kb at *
  clear hnn hqc h h1 hown hgr hpl keep keep3 hc2 hO3 hn1 hs1 hb1 ha
  go_enter Try.func59, Try.ntmps59
  go_wp2_with fail
  have vv0 : ∀ g, vals ((fun g : Unit => ([(some 4, .pointer (some ⟨kb, 0, none⟩)), (some 5, .pointer (some ⟨kb, 0, none⟩)), (some 6, .pointer (some ⟨kb, 0, none⟩)), (some 7, .pointer (some ⟨kb, 0, none⟩)), (some 8, .slice p n cap), (some 9, .iface 53 (ep a)), (some 10, ep a), (some 11, .slice (some ⟨w.heap.size, 0, none⟩) 1 1), (some 12, .slice p1 (n + 1) k1), (some 13, .pointer (some ⟨kb, 0, none⟩)), (some 14, .pointer (some ⟨kb, 0, none⟩)), (none, undef)] : List (Option Tmp × Value))) g) 0 = .pointer (some ⟨kb, 0, none⟩) := fun g => rfl
  have vv1 : ∀ g, vals ((fun g : Unit => ([(some 4, .pointer (some ⟨kb, 0, none⟩)), (some 5, .pointer (some ⟨kb, 0, none⟩)), (some 6, .pointer (some ⟨kb, 0, none⟩)), (some 7, .pointer (some ⟨kb, 0, none⟩)), (some 8, .slice p n cap), (some 9, .iface 53 (ep a)), (some 10, ep a), (some 11, .slice (some ⟨w.heap.size, 0, none⟩) 1 1), (some 12, .slice p1 (n + 1) k1), (some 13, .pointer (some ⟨kb, 0, none⟩)), (some 14, .pointer (some ⟨kb, 0, none⟩)), (none, undef)] : List (Option Tmp × Value))) g) 1 = .pointer (some ⟨kb, 0, none⟩) := fun g => rfl
  have vv2 : ∀ g, vals ((fun g : Unit => ([(some 4, .pointer (some ⟨kb, 0, none⟩)), (some 5, .pointer (some ⟨kb, 0, none⟩)), (some 6, .pointer (some ⟨kb, 0, none⟩)), (some 7, .pointer (some ⟨kb, 0, none⟩)), (some 8, .slice p n cap), (some 9, .iface 53 (ep a)), (some 10, ep a), (some 11, .slice (some ⟨w.heap.size, 0, none⟩) 1 1), (some 12, .slice p1 (n + 1) k1), (some 13, .pointer (some ⟨kb, 0, none⟩)), (some 14, .pointer (some ⟨kb, 0, none⟩)), (none, undef)] : List (Option Tmp × Value))) g) 2 = .pointer (some ⟨kb, 0, none⟩) := fun g => rfl
  have vv3 : ∀ g, vals ((fun g : Unit => ([(some 4, .pointer (some ⟨kb, 0, none⟩)), (some 5, .pointer (some ⟨kb, 0, none⟩)), (some 6, .pointer (some ⟨kb, 0, none⟩)), (some 7, .pointer (some ⟨kb, 0, none⟩)), (some 8, .slice p n cap), (some 9, .iface 53 (ep a)), (some 10, ep a), (some 11, .slice (some ⟨w.heap.size, 0, none⟩) 1 1), (some 12, .slice p1 (n + 1) k1), (some 13, .pointer (some ⟨kb, 0, none⟩)), (some 14, .pointer (some ⟨kb, 0, none⟩)), (none, undef)] : List (Option Tmp × Value))) g) 3 = .pointer (some ⟨kb, 0, none⟩) := fun g => rfl
  have vv4 : ∀ g, vals ((fun g : Unit => ([(some 4, .pointer (some ⟨kb, 0, none⟩)), (some 5, .pointer (some ⟨kb, 0, none⟩)), (some 6, .pointer (some ⟨kb, 0, none⟩)), (some 7, .pointer (some ⟨kb, 0, none⟩)), (some 8, .slice p n cap), (some 9, .iface 53 (ep a)), (some 10, ep a), (some 11, .slice (some ⟨w.heap.size, 0, none⟩) 1 1), (some 12, .slice p1 (n + 1) k1), (some 13, .pointer (some ⟨kb, 0, none⟩)), (some 14, .pointer (some ⟨kb, 0, none⟩)), (none, undef)] : List (Option Tmp × Value))) g) 4 = .slice p n cap := fun g => rfl
  have vv5 : ∀ g, vals ((fun g : Unit => ([(some 4, .pointer (some ⟨kb, 0, none⟩)), (some 5, .pointer (some ⟨kb, 0, none⟩)), (some 6, .pointer (some ⟨kb, 0, none⟩)), (some 7, .pointer (some ⟨kb, 0, none⟩)), (some 8, .slice p n cap), (some 9, .iface 53 (ep a)), (some 10, ep a), (some 11, .slice (some ⟨w.heap.size, 0, none⟩) 1 1), (some 12, .slice p1 (n + 1) k1), (some 13, .pointer (some ⟨kb, 0, none⟩)), (some 14, .pointer (some ⟨kb, 0, none⟩)), (none, undef)] : List (Option Tmp × Value))) g) 5 = .iface 53 (ep a) := fun g => rfl
  have vv6 : ∀ g, vals ((fun g : Unit => ([(some 4, .pointer (some ⟨kb, 0, none⟩)), (some 5, .pointer (some ⟨kb, 0, none⟩)), (some 6, .pointer (some ⟨kb, 0, none⟩)), (some 7, .pointer (some ⟨kb, 0, none⟩)), (some 8, .slice p n cap), (some 9, .iface 53 (ep a)), (some 10, ep a), (some 11, .slice (some ⟨w.heap.size, 0, none⟩) 1 1), (some 12, .slice p1 (n + 1) k1), (some 13, .pointer (some ⟨kb, 0, none⟩)), (some 14, .pointer (some ⟨kb, 0, none⟩)), (none, undef)] : List (Option Tmp × Value))) g) 6 = ep a := fun g => rfl
  have vv7 : ∀ g, vals ((fun g : Unit => ([(some 4, .pointer (some ⟨kb, 0, none⟩)), (some 5, .pointer (some ⟨kb, 0, none⟩)), (some 6, .pointer (some ⟨kb, 0, none⟩)), (some 7, .pointer (some ⟨kb, 0, none⟩)), (some 8, .slice p n cap), (some 9, .iface 53 (ep a)), (some 10, ep a), (some 11, .slice (some ⟨w.heap.size, 0, none⟩) 1 1), (some 12, .slice p1 (n + 1) k1), (some 13, .pointer (some ⟨kb, 0, none⟩)), (some 14, .pointer (some ⟨kb, 0, none⟩)), (none, undef)] : List (Option Tmp × Value))) g) 7 = .slice (some ⟨w.heap.size, 0, none⟩) 1 1 := fun g => rfl
  have vv8 : ∀ g, vals ((fun g : Unit => ([(some 4, .pointer (some ⟨kb, 0, none⟩)), (some 5, .pointer (some ⟨kb, 0, none⟩)), (some 6, .pointer (some ⟨kb, 0, none⟩)), (some 7, .pointer (some ⟨kb, 0, none⟩)), (some 8, .slice p n cap), (some 9, .iface 53 (ep a)), (some 10, ep a), (some 11, .slice (some ⟨w.heap.size, 0, none⟩) 1 1), (some 12, .slice p1 (n + 1) k1), (some 13, .pointer (some ⟨kb, 0, none⟩)), (some 14, .pointer (some ⟨kb, 0, none⟩)), (none, undef)] : List (Option Tmp × Value))) g) 8 = .slice p1 (n + 1) k1 := fun g => rfl
  have vv9 : ∀ g, vals ((fun g : Unit => ([(some 4, .pointer (some ⟨kb, 0, none⟩)), (some 5, .pointer (some ⟨kb, 0, none⟩)), (some 6, .pointer (some ⟨kb, 0, none⟩)), (some 7, .pointer (some ⟨kb, 0, none⟩)), (some 8, .slice p n cap), (some 9, .iface 53 (ep a)), (some 10, ep a), (some 11, .slice (some ⟨w.heap.size, 0, none⟩) 1 1), (some 12, .slice p1 (n + 1) k1), (some 13, .pointer (some ⟨kb, 0, none⟩)), (some 14, .pointer (some ⟨kb, 0, none⟩)), (none, undef)] : List (Option Tmp × Value))) g) 9 = .pointer (some ⟨kb, 0, none⟩) := fun g => rfl
  have vv10 : ∀ g, vals ((fun g : Unit => ([(some 4, .pointer (some ⟨kb, 0, none⟩)), (some 5, .pointer (some ⟨kb, 0, none⟩)), (some 6, .pointer (some ⟨kb, 0, none⟩)), (some 7, .pointer (some ⟨kb, 0, none⟩)), (some 8, .slice p n cap), (some 9, .iface 53 (ep a)), (some 10, ep a), (some 11, .slice (some ⟨w.heap.size, 0, none⟩) 1 1), (some 12, .slice p1 (n + 1) k1), (some 13, .pointer (some ⟨kb, 0, none⟩)), (some 14, .pointer (some ⟨kb, 0, none⟩)), (none, undef)] : List (Option Tmp × Value))) g) 10 = .pointer (some ⟨kb, 0, none⟩) := fun g => rfl
  have vv11 : ∀ g, vals ((fun g : Unit => ([(some 4, .pointer (some ⟨kb, 0, none⟩)), (some 5, .pointer (some ⟨kb, 0, none⟩)), (some 6, .pointer (some ⟨kb, 0, none⟩)), (some 7, .pointer (some ⟨kb, 0, none⟩)), (some 8, .slice p n cap), (some 9, .iface 53 (ep a)), (some 10, ep a), (some 11, .slice (some ⟨w.heap.size, 0, none⟩) 1 1), (some 12, .slice p1 (n + 1) k1), (some 13, .pointer (some ⟨kb, 0, none⟩)), (some 14, .pointer (some ⟨kb, 0, none⟩)), (none, undef)] : List (Option Tmp × Value))) g) 11 = undef := fun g => rfl
  refine region_laidg hmix (by kernel_rfl) 15 rfl (by kernel_rfl) () ((fun g : Unit => ([(some 4, .pointer (some ⟨kb, 0, none⟩)), (some 5, .pointer (some ⟨kb, 0, none⟩)), (some 6, .pointer (some ⟨kb, 0, none⟩)), (some 7, .pointer (some ⟨kb, 0, none⟩)), (some 8, .slice p n cap), (some 9, .iface 53 (ep a)), (some 10, ep a), (some 11, .slice (some ⟨w.heap.size, 0, none⟩) 1 1), (some 12, .slice p1 (n + 1) k1), (some 13, .pointer (some ⟨kb, 0, none⟩)), (some 14, .pointer (some ⟨kb, 0, none⟩)), (none, undef)] : List (Option Tmp × Value)))) (fun g => rfl) (fun (g : Unit) b W => W = if b 11 = true then W3 else if b 8 = true then W2 else if b 7 = true then W1 else w.drew) rfl ?_ ?_
  · intro g b W io o a' hS hcl ho hb hd ev kp yl
    match io with
    | 0 =>
      simp only [List.getElem?_toArray, List.getElem?_cons_zero, Option.some.injEq] at ho
      subst ho
      have e0 : a'.tmps[0]?.getD undef = .pointer (some ⟨kb, 0, none⟩) := kp 0 (none_till (by kernel_rfl))
      refine doesg_value rfl (by intro c h; cases h) (v := .pointer (some ⟨kb, 0, none⟩)) (w' := W) ?_ ⟨g, fun _ _ => rfl, (vv0 g).symm, ?_⟩
      · simp [execOp, go_sem, e0]
      · simpa [did] using hS
    | 1 =>
      simp only [List.getElem?_toArray, List.getElem?_cons_zero, List.getElem?_cons_succ, Option.some.injEq] at ho
      subst ho
      have e0 : a'.tmps[0]?.getD undef = .pointer (some ⟨kb, 0, none⟩) := kp 0 (none_till (by kernel_rfl))
      refine doesg_value rfl (by intro c h; cases h) (v := .pointer (some ⟨kb, 0, none⟩)) (w' := W) ?_ ⟨g, fun _ _ => rfl, (vv1 g).symm, ?_⟩
      · simp [execOp, go_sem, e0]
      · simpa [did] using hS
    | 2 =>
      simp only [List.getElem?_toArray, List.getElem?_cons_zero, List.getElem?_cons_succ, Option.some.injEq] at ho
      subst ho
      have p1 : b 1 = true := hd ⟨1, .data⟩ (by simp) rfl
      have e5 := (ev 1 5 rfl p1).trans (vv1 g)
      refine doesg_value rfl (by intro c h; cases h) (v := .pointer (some ⟨kb, 0, none⟩)) (w' := W) ?_ ⟨g, fun _ _ => rfl, (vv2 g).symm, ?_⟩
      · simp [execOp, go_sem, e5]
      · simpa [did] using hS
    | 3 =>
      simp only [List.getElem?_toArray, List.getElem?_cons_zero, List.getElem?_cons_succ, Option.some.injEq] at ho
      subst ho
      have p2 : b 2 = true := hd ⟨2, .data⟩ (by simp) rfl
      have e6 := (ev 2 6 rfl p2).trans (vv2 g)
      refine doesg_value rfl (by intro c h; cases h) (v := .pointer (some ⟨kb, 0, none⟩)) (w' := W) ?_ ⟨g, fun _ _ => rfl, (vv3 g).symm, ?_⟩
      · simp [execOp, go_sem, e6]
      · simpa [did] using hS
    | 4 =>
      simp only [List.getElem?_toArray, List.getElem?_cons_zero, List.getElem?_cons_succ, Option.some.injEq] at ho
      subst ho
      have p3 : b 3 = true := hd ⟨3, .data⟩ (by simp) rfl
      have e7 := (ev 3 7 rfl p3).trans (vv3 g)
      have h97 : b 11 = true → b 8 = true := fun h => hcl 11 _ rfl h ⟨8, .data⟩ (by simp) rfl
      have h7 : b 8 = false := by cases h : b 8; rfl; rw [hcl 8 _ rfl h ⟨4, .data⟩ (by simp) rfl] at hb; cases hb
      have h9 : b 11 = false := by cases h : b 11; rfl; rw [h97 h] at h7; cases h7
      rw [h9, h7] at hS
      have hl : W.cell? ⟨kb, 0, none⟩ = some (.slice p n cap) := by (rw [hS]; cases b 7; exact c0; exact c1)
      refine doesg_value rfl (by intro c h; cases h) (v := .slice p n cap) (w' := W) ?_ ⟨g, fun _ _ => rfl, (vv4 g).symm, ?_⟩
      · simp [execOp, go_sem, e7, hl]
      · simpa [did, h9, h7] using hS
    | 5 =>
      simp only [List.getElem?_toArray, List.getElem?_cons_zero, List.getElem?_cons_succ, Option.some.injEq] at ho
      subst ho
      have e1 : a'.tmps[1]?.getD undef = .iface 53 (ep a) := kp 1 (none_till (by kernel_rfl))
      refine doesg_value rfl (by intro c h; cases h) (v := .iface 53 (ep a)) (w' := W) ?_ ⟨g, fun _ _ => rfl, (vv5 g).symm, ?_⟩
      · simp [execOp, go_sem, e1]
      · simpa [did] using hS
    | 6 =>
      simp only [List.getElem?_toArray, List.getElem?_cons_zero, List.getElem?_cons_succ, Option.some.injEq] at ho
      subst ho
      have p5 : b 5 = true := hd ⟨5, .data⟩ (by simp) rfl
      have e9 := (ev 5 9 rfl p5).trans (vv5 g)
      refine doesg_value rfl (by intro c h; cases h) (v := ep a) (w' := W) ?_ ⟨g, fun _ _ => rfl, (vv6 g).symm, ?_⟩
      · simp [execOp, go_sem, e9, hta]
      · simpa [did] using hS
    | 7 =>
      simp only [List.getElem?_toArray, List.getElem?_cons_zero, List.getElem?_cons_succ, Option.some.injEq] at ho
      subst ho
      have p6 : b 6 = true := hd ⟨6, .data⟩ (by simp) rfl
      have e10 := (ev 6 10 rfl p6).trans (vv6 g)
      have h97 : b 11 = true → b 8 = true := fun h => hcl 11 _ rfl h ⟨8, .data⟩ (by simp) rfl
      have h7 : b 8 = false := by cases h : b 8; rfl; rw [hcl 8 _ rfl h ⟨7, .data⟩ (by simp) rfl] at hb; cases hb
      have h9 : b 11 = false := by cases h : b 11; rfl; rw [h97 h] at h7; cases h7
      rw [h9, h7, hb] at hS
      have hW : W = w.drew := hS
      subst hW
      refine doesg_value rfl (by intro c h; cases h) (v := .slice (some ⟨w.heap.size, 0, none⟩) 1 1) (w' := W1) ?_ ⟨g, fun _ _ => rfl, (vv7 g).symm, ?_⟩
      · simp [execOp, go_sem, e10, hW1]
      · simp [did, h9, h7]
    | 8 =>
      simp only [List.getElem?_toArray, List.getElem?_cons_zero, List.getElem?_cons_succ, Option.some.injEq] at ho
      subst ho
      have p4 : b 4 = true := hd ⟨4, .data⟩ (by simp) rfl
      have p7 : b 7 = true := hd ⟨7, .data⟩ (by simp) rfl
      have e8 := (ev 4 8 rfl p4).trans (vv4 g)
      have e11 := (ev 7 11 rfl p7).trans (vv7 g)
      have h97 : b 11 = true → b 8 = true := fun h => hcl 11 _ rfl h ⟨8, .data⟩ (by simp) rfl
      have h9 : b 11 = false := by cases h : b 11; rfl; rw [h97 h] at hb; cases hb
      rw [h9, hb, p7] at hS
      have hW : W = W1 := hS
      subst hW
      have q7 : a'.eval (.tmp 8) = .slice p n cap := by simp [go_sem, e8]
      have q10 : a'.eval (.tmp 11) = .slice (some ⟨w.heap.size, 0, none⟩) 1 1 := by simp [go_sem, e11]
      refine doesg_value rfl (by intro c h; cases h) (v := .slice p1 (n + 1) k1) (w' := W2) ?_ ⟨g, fun _ _ => rfl, (vv8 g).symm, ?_⟩
      · simp only [execOp, resolve, invoke, builtin, Sem.run_bind, Sem.run_pure, Result.andThen_ok, List.map_toArray, List.map_cons, List.map_nil, q7, q10, hrun]
      · simp [did, h9]
    | 9 =>
      simp only [List.getElem?_toArray, List.getElem?_cons_zero, List.getElem?_cons_succ, Option.some.injEq] at ho
      subst ho
      have p0 : b 0 = true := hd ⟨0, .data⟩ (by simp) rfl
      have e4 := (ev 0 4 rfl p0).trans (vv0 g)
      refine doesg_value rfl (by intro c h; cases h) (v := .pointer (some ⟨kb, 0, none⟩)) (w' := W) ?_ ⟨g, fun _ _ => rfl, (vv9 g).symm, ?_⟩
      · simp [execOp, go_sem, e4]
      · simpa [did] using hS
    | 10 =>
      simp only [List.getElem?_toArray, List.getElem?_cons_zero, List.getElem?_cons_succ, Option.some.injEq] at ho
      subst ho
      have p9 : b 9 = true := hd ⟨9, .data⟩ (by simp) rfl
      have e13 := (ev 9 13 rfl p9).trans (vv9 g)
      refine doesg_value rfl (by intro c h; cases h) (v := .pointer (some ⟨kb, 0, none⟩)) (w' := W) ?_ ⟨g, fun _ _ => rfl, (vv10 g).symm, ?_⟩
      · simp [execOp, go_sem, e13]
      · simpa [did] using hS
    | 11 =>
      simp only [List.getElem?_toArray, List.getElem?_cons_zero, List.getElem?_cons_succ, Option.some.injEq] at ho
      subst ho
      have p10 : b 10 = true := hd ⟨10, .data⟩ (by simp) rfl
      have p8 : b 8 = true := hd ⟨8, .data⟩ (by simp) rfl
      have e14 := (ev 10 14 rfl p10).trans (vv10 g)
      have e12 := (ev 8 12 rfl p8).trans (vv8 g)
      rw [hb, p8] at hS
      have hW : W = W2 := hS
      subst hW
      refine doesg_skip rfl (by intro c h; cases h) (w' := W3) ?_ ⟨g, fun _ _ => rfl, (vv11 g).symm, ?_⟩
      · simp [execOp, go_sem, e14, e12, c2, f2, hW3]
      · exact by simp [did]
    | k + 12 => simp at ho
  · intro g b W hS hall
    rw [hall 11 (by decide)] at hS
    have hW : W = W3 := hS
    clear hS
    subst hW
    clear hW3 hall hrun c0 c1 c2 f2 hW1
    go_wp2
    go_end0
    exact ⟨rfl, ⟨_, _, H3.out.1⟩, H3.out.2⟩

end Go.Proofs.Ytgophojgofmkeaa.Ck
