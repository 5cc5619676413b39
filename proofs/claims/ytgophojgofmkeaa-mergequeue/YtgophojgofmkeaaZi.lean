/-
  A queue: Peek and Pop.
-/
import Derived.Test.YtgophojgofmkeaaZh
namespace Go.Proofs.Ytgophojgofmkeaa.Ck
open Go.RowKit Go.Maps

theorem below_set {B : Nat} {w w' : World} {p : Addr} {v : Value} (h : Below B w w') (hp : B ≤ p.block) : Below B w (w'.setCell p v) :=
  ⟨h.os, h.tape, h.output, by simpa [World.setCell] using h.size, fun k hk => (Below.heap_setCell _ _ _ _ (by omega)).trans (h.block k hk)⟩
/-- One that no other is less than, and that came first of such. -/
def Least (q : QP) (L : List QE) (e : QE) : Prop := e ∈ L ∧ ∀ x ∈ L, q.key e ≤ q.key x
theorem HQ.least {q : QP} {I : List Nat} {U : Nat → QE} {L : List QE} (hh : HeapF (kvOf (keyQ q U) I) I.length) (hL : (I.map U).Perm L) (hn : 0 < I.length) : Least q L (U (I.getD 0 0)) := by
  refine ⟨hL.mem_iff.1 (List.mem_map.2 ⟨_, getD_mem hn, rfl⟩), fun x hx => ?_⟩
  obtain ⟨b, hb, rfl⟩ := List.mem_map.1 (hL.mem_iff.2 hx)
  obtain ⟨i, hi, e⟩ := List.getElem_of_mem hb
  have := hh.least i hi
  unfold kvOf keyQ at this
  rw [show I.getD i 0 = b by rw [← e]; simp [List.getD, hi]] at this
  exact this

set_option maxRecDepth 8000 in
set_option maxHeartbeats 1000000 in
theorem peek_none (q : QP) (w : World) (h : QL w q []) : Calls Try.prog 14 #[ep q.c] w fun e w' => e = .returned (.tuple #[opv 0 0 0, .bool false]) ∧ Below w.heap.size w w' := by
  have HC : Hid (∀ o, Calls Try.prog 20 #[ep q.c] (w.alloc o) fun e w' => e = .returned (.bool true) ∧ w' = w.alloc o) := fun o => by
    have := closed_any q [] (w.alloc o) (h.below (below_new w o).out)
    simpa using this
  clear h
  go_enter Try.func14, Try.ntmps14
  go_wp2_with (go_at_call 20; refine Calls_on (HC.out _) ?_)
  refine bodyPost_ret (v := .tuple #[opv 0 0 0, .bool false]) (by simp [results, Try.results14, go_sem]) rfl ?_
  exact ⟨rfl, (below_new w _).out⟩
set_option maxRecDepth 8000 in
set_option maxHeartbeats 1000000 in
theorem pop_none (q : QP) (w : World) (h : QL w q []) : Calls Try.prog 15 #[ep q.c] w fun e w' => e = .returned (.tuple #[opv 0 0 0, .bool false]) ∧ Below w.heap.size w w' := by
  have HC : Hid (∀ o, Calls Try.prog 20 #[ep q.c] (w.alloc o) fun e w' => e = .returned (.bool true) ∧ w' = w.alloc o) := fun o => by
    have := closed_any q [] (w.alloc o) (h.below (below_new w o).out)
    simpa using this
  clear h
  go_enter Try.func15, Try.ntmps15
  go_wp2_with (go_at_call 20; refine Calls_on (HC.out _) ?_)
  refine bodyPost_ret (v := .tuple #[opv 0 0 0, .bool false]) (by simp [results, Try.results15, go_sem]) rfl ?_
  exact ⟨rfl, (below_new w _).out⟩
set_option maxRecDepth 8000 in
set_option maxHeartbeats 1000000 in
theorem pop_nil (w : World) : Calls Try.prog 15 #[.pointer none] w fun e w' => e = .returned (.tuple #[opv 0 0 0, .bool false]) ∧ Below w.heap.size w w' := by
  have HC := fun w => closed_nil w
  go_enter Try.func15, Try.ntmps15
  go_wp2_with (go_at_call 20; refine Calls_on (HC _) ?_)
  refine bodyPost_ret (v := .tuple #[opv 0 0 0, .bool false]) (by simp [results, Try.results15, go_sem]) rfl ?_
  exact ⟨rfl, (below_new w _).out⟩

set_option maxRecDepth 8000 in
set_option maxHeartbeats 4000000 in
theorem peek_some (q : QP) (L : List QE) (w : World) (h : QL w q L) (hL : L ≠ []) : Calls Try.prog 14 #[ep q.c] w fun e w' => ∃ x, e = .returned (.tuple #[opv x.t x.n x.k, .bool true]) ∧ Least q L x ∧ Below w.heap.size w w' := by
  obtain ⟨w1, hw1⟩ : ∃ w1, w1 = w.alloc (.cells #[.int .i64 0, .int .i64 0, .int .i64 0, .int .i64 0, .int .i64 0, .int .i64 0, .int .i64 0, .int .i64 0, .string ⟨#[]⟩, .slice none 0 0, .slice none 0 0] 33) := ⟨_, rfl⟩
  have hB1 : Below w.heap.size w w1 := by rw [hw1]; exact (below_new w _).out
  have hr1 : w1.heap[w.heap.size]? = some (.cells (opC 0 0 0) 33 (0, 0)) := by rw [hw1]; exact heap_alloc_new w _
  have hs1 : w1.heap.size = w.heap.size + 1 := by rw [hw1]; simp
  have h1 := h.below hB1
  have cC := closed_any q L w1 h1
  rw [show decide (L = []) = false by simpa using hL] at cC
  obtain ⟨p, cap, I, U, g1, g2, g3⟩ := h1
  have hn : 0 < I.length := by
    have := g3.length_eq
    rw [List.length_map] at this
    rw [this]
    exact List.length_pos_iff.2 hL
  have hle := HQ.least g2 g3 hn
  obtain ⟨g, cur, rfl, hb, _⟩ := g1.form hn
  have d0 := g1.cell0
  have e0 := g1.cellAt 0 hn
  have hE := g1.ents 0 hn
  have hlen := g1.len
  have hnI : (0 : Int) < (I.length : Int) := by omega
  have cF := first_any q.c _ q.lv q.cm w1.drew (show w1.drew.heap[q.c]? = _ from g1.cell)
  generalize I.getD 0 0 = a at *
  generalize U a = x at *
  obtain ⟨x0, x1, x2, x3, x4, x5, x6, x7, x8, x9, x10⟩ := held_cells hE
  have cO := copyOf_any x.t x.n x.k
  generalize I.length = m at *
  have HR : Hid (w1.heap[w.heap.size]? = some (.cells (opC 0 0 0) 33 (0, 0)) ∧ Below w.heap.size w w1 ∧ Least q L x ∧ w1.heap.size = w.heap.size + 1) := ⟨hr1, hB1, hle, hs1⟩
  have HW1 : Hid (w1 = w.alloc (.cells #[.int .i64 0, .int .i64 0, .int .i64 0, .int .i64 0, .int .i64 0, .int .i64 0, .int .i64 0, .int .i64 0, .string ⟨#[]⟩, .slice none 0 0, .slice none 0 0] 33)) := hw1
  rw [hw1] at cC
  clear h hL hw1 hB1 hr1 g1 g2 g3 hle hb hE hs1
  go_enter Try.func14, Try.ntmps14
  go_wp2_with (go_at_call 20; refine Calls_on cC ?_; rw [← HW1.out]; refine Stop.out ?_)
  refine Stop.mk ?_
  clear cC
  go_wp2_with fail
  go_region_with (first
    | (go_at_call 21; refine Calls_on cF ?_)
    | (go_at_call 19; refine Calls_new (cO _) ?_; intro w2 hb2; have hr2 := (hb2.out.block _ (block_lt HR.out.1)).trans HR.out.1; obtain ⟨z0, z1, z2, z3, z4, z5, z6, z7, z8, z9, z10⟩ := op_cells hr2; have f0 := fun j => frozenOf hr2 j; have H2 : Hid (Below w1.heap.size w1 w2) := ⟨hb2.out.os, hb2.out.tape, hb2.out.output, hb2.out.size, hb2.out.block⟩; clear hb2 hr2))
  all_goals go_wp2_with fail
  all_goals
    refine bodyPost_ret (v := .tuple #[opv x.t x.n x.k, .bool true]) (by simp [results, Try.results14, go_sem, z0, z1, z2, z3, z4, z5, z6, z7, z8, z9, z10]) rfl ?_
    refine ⟨x, rfl, HR.out.2.2.1, ?_⟩
    have hB : Below w.heap.size w w2 := HR.out.2.1.trans (H2.out.mono HR.out.2.1.size)
    iterate 11 refine below_set ?_ (Nat.le_refl _)
    exact hB

/-- What is left of a queue when one was taken out. -/
def popQ (q : QP) (L : List QE) : QP := { q with cm := if L = [] then 0 else q.cm }
theorem infoPile : (Try.prog.info? 49).map (·.size) = some 5 := by kernel_rfl
theorem queueC_one {lv : Value} {bk : Bool} (h : LessIs lv bk) (cm : Nat) (b : Bool) : (queueCells (.slice none 0 0) lv cm b).all (·.oneCell') = true := by
  rcases h with ⟨rfl, _⟩ | ⟨K, rfl, _⟩ <;> simp [queueCells, Value.oneCell']
/-- A queue whose last one was taken out begins anew. -/
theorem QL.anew {w w' : World} {q : QP} (h : QL w q []) (hc : w'.heap[q.c]? = some (.cells (queueCells (.slice none 0 0) q.lv 0 false) 51 (0, 0))) : QL w' { q with cm := 0 } [] := by
  obtain ⟨p, cap, I, U, h1, _⟩ := h
  exact QL.empty (q := { q with cm := 0 }) hc h1.lo h1.less

set_option maxRecDepth 8000 in
set_option maxHeartbeats 4000000 in
theorem pop_some (q : QP) (L : List QE) (w : World) (h : QL w q L) (hL : L ≠ []) : Calls Try.prog 15 #[ep q.c] w fun e w' => ∃ x L', e = .returned (.tuple #[opv x.t x.n x.k, .bool true]) ∧ Least q L x ∧ (L' ++ [x]).Perm L ∧ QL w' (popQ q L') L' ∧ Fm q.base w w' := by
  obtain ⟨w1, hw1⟩ : ∃ w1, w1 = w.alloc (.cells #[.int .i64 0, .int .i64 0, .int .i64 0, .int .i64 0, .int .i64 0, .int .i64 0, .int .i64 0, .int .i64 0, .string ⟨#[]⟩, .slice none 0 0, .slice none 0 0] 33) := ⟨_, rfl⟩
  have hB1 : Below w.heap.size w w1 := by rw [hw1]; exact (below_new w _).out
  have hr1 : w1.heap[w.heap.size]? = some (.cells (opC 0 0 0) 33 (0, 0)) := by rw [hw1]; exact heap_alloc_new w _
  have h1 := h.below hB1
  have cC := closed_any q L w1 h1
  rw [show decide (L = []) = false by simpa using hL] at cC
  obtain ⟨p, cap, I, U, g1, g2, g3⟩ := h1
  have hn : 0 < I.length := by
    have := g3.length_eq
    rw [List.length_map] at this
    rw [this]
    exact List.length_pos_iff.2 hL
  have hle := HQ.least g2 g3 hn
  have cT := take_any q p cap _ I U w1 g1 g2 hn rfl
  generalize I.getD 0 0 = a at *
  have hlo := g1.lo
  have hls := g1.less.1
  obtain ⟨x, hx⟩ : ∃ x, U a = x := ⟨_, rfl⟩
  have cT2 : Calls Try.prog 22 #[ep q.c] w1 fun e w' => e = .returned (opv x.t x.n x.k) ∧ ∃ L', QL w' q L' ∧ (L' ++ [x]).Perm L ∧ Fm q.base w w' := by
    refine cT.mono ?_
    rintro e w' ⟨rfl, I', k1, k2, k3, k4⟩
    refine ⟨by rw [hx], I'.map U, ⟨p, cap, I', U, k1, k3, List.Perm.refl _⟩, ?_, (Fm.of_below hB1).next k4⟩
    have := (k2.map U).trans g3
    rw [List.map_append, List.map_singleton, hx] at this
    exact this
  rw [hx] at hle
  have HR : Hid (w1.heap[w.heap.size]? = some (.cells (opC 0 0 0) 33 (0, 0)) ∧ Least q L x ∧ q.base ≤ q.c) := ⟨hr1, hle, hlo⟩
  have HW1 : Hid (w1 = w.alloc (.cells #[.int .i64 0, .int .i64 0, .int .i64 0, .int .i64 0, .int .i64 0, .int .i64 0, .int .i64 0, .int .i64 0, .string ⟨#[]⟩, .slice none 0 0, .slice none 0 0] 33)) := hw1
  have HT : Hid (Calls Try.prog 22 #[ep q.c] w1 fun e w' => e = .returned (opv x.t x.n x.k) ∧ ∃ L', QL w' q L' ∧ (L' ++ [x]).Perm L ∧ Fm q.base w w') := cT2
  have HL : Hid (∀ w', w1.heap[w.heap.size]? = some (.cells (opC 0 0 0) 33 (0, 0)) → Fm q.base w w' → w'.heap[w.heap.size]? = some (.cells (opC 0 0 0) 33 (0, 0)) ∨ True) := fun _ _ _ => .inr trivial
  have cT3 : Calls Try.prog 22 #[ep q.c] w1 fun e w' => e = .returned (opv x.t x.n x.k) ∧ Fm q.base w1 w' := cT.mono fun e w' hh => ⟨by rw [← hx]; exact hh.1, by obtain ⟨_, _, _, _, _, k⟩ := hh; exact k⟩
  have cT4 : Calls Try.prog 22 #[ep q.c] w1 fun e w' => e = .returned (opv x.t x.n x.k) ∧ ∃ L', QL w' q L' ∧ (L' ++ [x]).Perm L ∧ Fm q.base w w' ∧ w'.heap[w.heap.size]? = some (.cells (opC 0 0 0) 33 (0, 0)) := by
    refine cT.mono ?_
    rintro e w' ⟨rfl, I', k1, k2, k3, k4⟩
    refine ⟨by rw [hx], I'.map U, ⟨p, cap, I', U, k1, k3, List.Perm.refl _⟩, ?_, (Fm.of_below hB1).next k4, k4.keep hr1 (by decide) (by decide) (by decide)⟩
    have := (k2.map U).trans g3
    rw [List.map_append, List.map_singleton, hx] at this
    exact this
  have cT5 := cT4
  rw [hw1] at cC
  clear HT HL cT3 cT4 cT2 cT
  clear h hL hw1 hB1 hr1 g1 g2 g3 hle hx hlo
  go_enter Try.func15, Try.ntmps15
  go_wp2_with (first | (go_at_call 20; refine Calls_on cC ?_; rw [← HW1.out]) | (go_at_call 22; refine Stop.out ?_))
  refine Stop.mk ?_
  refine cT5.mono ?_
  rintro e w2 ⟨rfl, L', k1, k2, k3, k4⟩
  clear cC cT5 HW1
  have hB3 : Below w2.heap.size w2 (w2.alloc (.cells (opC x.t x.n x.k) 33)) := (below_new w2 _).out
  have q3 := k1.below hB3
  have cN := qlen_any q L' _ q3
  obtain ⟨sl, hc3⟩ := q3.cells
  have c1 : (w2.alloc (.cells (opC x.t x.n x.k) 33)).cell? ⟨q.c, 1, none⟩ = some q.lv := by rw [cellOf hc3 1]; rfl
  have hr3 : (w2.alloc (.cells (opC x.t x.n x.k) 33)).heap[w.heap.size]? = some (.cells (opC 0 0 0) 33 (0, 0)) := (hB3.block _ (block_lt k4)).trans k4
  have ho3 : (w2.alloc (.cells (opC x.t x.n x.k) 33)).heap[w2.heap.size]? = some (.cells (opC x.t x.n x.k) 33 (0, 0)) := heap_alloc_new w2 _
  have nw : w.heap.size ≠ w2.heap.size := by have := block_lt k4; omega
  have H3 : Hid (QL (w2.alloc (.cells (opC x.t x.n x.k) 33)) q L' ∧ (L' ++ [x]).Perm L ∧ Fm q.base w (w2.alloc (.cells (opC x.t x.n x.k) 33))) := ⟨q3, k2, k3.next (Fm.of_below hB3)⟩
  have HC3 : Hid ((w2.alloc (.cells (opC x.t x.n x.k) 33)).heap[q.c]? = some (.cells (queueCells sl q.lv q.cm false) 51 (0, 0))) := hc3
  have HR3 : Hid ((w2.alloc (.cells (opC x.t x.n x.k) 33)).heap[w.heap.size]? = some (.cells (opC 0 0 0) 33 (0, 0)) ∧ (w2.alloc (.cells (opC x.t x.n x.k) 33)).heap[w2.heap.size]? = some (.cells (opC x.t x.n x.k) 33 (0, 0))) := ⟨hr3, ho3⟩
  clear k1 k2 k3 k4 hB3 q3 hc3 hr3 ho3
  go_wp2_with (go_at_call 16; refine Stop.out ?_)
  refine Stop.mk ?_
  refine Calls_on cN ?_
  clear cN
  obtain ⟨w3, hw3⟩ : ∃ w3, w3 = w2.alloc (.cells (opC x.t x.n x.k) 33) := ⟨_, rfl⟩
  have hw3' : w2.alloc (.cells #[.int .i64 x.t, .int .i64 x.n, .int .i64 0, .int .i64 x.k, .int .i64 0, .int .i64 0, .int .i64 0, .int .i64 0, .string ⟨#[]⟩, .slice none 0 0, .slice none 0 0] 33) = w3 := hw3.symm
  rw [← hw3] at c1 H3 HC3 HR3
  rw [hw3']
  clear hw3 hw3'
  by_cases hL' : L' = []
  · subst hL'
    have e1 : (([] : List QE).length : Int) = 0 := rfl
    rw [e1]
    have cO := queueC_one hls 0 false
    have HO : Hid ((queueCells (.slice none 0 0) q.lv 0 false).all (·.oneCell') = true) := cO
    clear cO e1
    rcases hls with ⟨hlv, _⟩ | ⟨K, hlv, _⟩
    all_goals rw [hlv] at c1 HC3 HO
    all_goals
      go_wp2_with (first | (refine wpList_putR rfl 49 _ _ rfl q.c _ rfl rfl 51 _ HC3 infoPile rfl HO.out ?_; intro w4 H4; refine Stop.out ?_))
      refine Stop.mk ?_
      obtain ⟨j1, j2, j3⟩ := H4.out
      have hr4 := (j2.block _ (block_lt HR3.out.1) (apart_tags HR3.out.1 HC3.out (by decide))).trans HR3.out.1
      have ho4 := (j2.block _ (block_lt HR3.out.2) (apart_tags HR3.out.2 HC3.out (by decide))).trans HR3.out.2
      obtain ⟨y0, y1, y2, y3, y4, y5, y6, y7, y8, y9, y10⟩ := op_cells ho4
      have HR4 : Hid (w4.heap[w.heap.size]? = some (.cells (opC 0 0 0) 33 (0, 0))) := hr4
      have H5 : Hid (QL w4 { q with cm := 0 } [] ∧ Fm q.base w w4) := by
        refine ⟨H3.out.1.anew (by rw [hlv]; exact j1), H3.out.2.2.next ⟨j2.os, j2.tape, j2.output, j2.size, fun k hk hn => j2.block k hk (fun e => hn ?_)⟩⟩
        subst e
        exact ⟨HR.out.2.2, _, _, _, HC3.out, .inl rfl⟩
      clear j1 j2 j3 hr4 ho4 H4 c1 HO
      go_wp2_with (refine wpList_putR rfl 33 _ _ rfl w.heap.size (opC x.t x.n x.k) rfl rfl 33 (opC 0 0 0) HR4 infoOp rfl (opC_one _ _ _) ?_; intro w5 H6; refine Stop.out ?_)
      refine Stop.mk ?_
      obtain ⟨z0, z1, z2, z3, z4, z5, z6, z7, z8, z9, z10⟩ := op_cells H6.out.1
      go_wp2
      refine bodyPost_ret (v := .tuple #[opv x.t x.n x.k, .bool true]) (by simp [results, Try.results15, go_sem, z0, z1, z2, z3, z4, z5, z6, z7, z8, z9, z10]) rfl ?_
      obtain ⟨f1, f2, f3⟩ := H6.out
      refine ⟨x, [], rfl, HR.out.2.1, H3.out.2.1, ?_, ?_⟩
      · have : popQ q [] = { q with cm := 0 } := by simp [popQ]
        rw [this]
        exact H5.out.1.only f2 (fun g cs t fr hg hcs => by
          have hg' : g = w.heap.size := hg
          subst hg'
          rw [HR4.out] at hcs
          injection hcs with hcs
          injection hcs with _ hcs _
          subst hcs
          exact ⟨by decide, by decide, by decide⟩)
      · have F := H5.out.2
        exact ⟨f2.os.trans F.os, f2.tape.trans F.tape, f2.output.trans F.output, Nat.le_trans F.size f2.size, fun k hk hn => (f2.block k (Nat.lt_of_lt_of_le hk F.size) (by omega)).trans (F.block k hk hn)⟩
  · have hp : 0 < L'.length := List.length_pos_iff.2 hL'
    have HL' : Hid (L' ≠ []) := hL'
    obtain ⟨m, hm⟩ : ∃ m, L'.length = m := ⟨_, rfl⟩
    rw [hm] at hp ⊢
    have e1 : ((m : Int) == 0) = false := by rw [beq_eq_false_iff_ne]; omega
    have hr4 := HR3.out.1
    have ho4 := HR3.out.2
    obtain ⟨y0, y1, y2, y3, y4, y5, y6, y7, y8, y9, y10⟩ := op_cells ho4
    have HR4 : Hid (w3.heap[w.heap.size]? = some (.cells (opC 0 0 0) 33 (0, 0))) := hr4
    clear hr4 ho4 hL' hm c1
    go_wp2_with (refine wpList_putR rfl 33 _ _ rfl w.heap.size (opC x.t x.n x.k) rfl rfl 33 (opC 0 0 0) HR4 infoOp rfl (opC_one _ _ _) ?_; intro w5 H6; refine Stop.out ?_)
    refine Stop.mk ?_
    obtain ⟨z0, z1, z2, z3, z4, z5, z6, z7, z8, z9, z10⟩ := op_cells H6.out.1
    go_wp2
    refine bodyPost_ret (v := .tuple #[opv x.t x.n x.k, .bool true]) (by simp [results, Try.results15, go_sem, z0, z1, z2, z3, z4, z5, z6, z7, z8, z9, z10]) rfl ?_
    obtain ⟨f1, f2, f3⟩ := H6.out
    refine ⟨x, L', rfl, HR.out.2.1, H3.out.2.1, ?_, ?_⟩
    · have : popQ q L' = q := by simp [popQ, HL'.out]
      rw [this]
      exact H3.out.1.only f2 (fun g cs t fr hg hcs => by
        have hg' : g = w.heap.size := hg
        subst hg'
        rw [HR4.out] at hcs
        injection hcs with hcs
        injection hcs with _ hcs _
        subst hcs
        exact ⟨by decide, by decide, by decide⟩)
    · have F := H3.out.2.2
      exact ⟨f2.os.trans F.os, f2.tape.trans F.tape, f2.output.trans F.output, Nat.le_trans F.size f2.size, fun k hk hn => (f2.block k (Nat.lt_of_lt_of_le hk F.size) (by omega)).trans (F.block k hk hn)⟩
end Go.Proofs.Ytgophojgofmkeaa.Ck
