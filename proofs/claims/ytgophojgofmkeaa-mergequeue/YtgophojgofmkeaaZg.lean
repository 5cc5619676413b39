/-
  Operations of a stamp and a mark: at, copyOf; a queue's add, first, take.
-/
import Derived.Test.YtgophojgofmkeaaZf
namespace Go.Proofs.Ytgophojgofmkeaa.Ck
open Go.RowKit Go.Maps

set_option maxRecDepth 8000 in
set_option maxHeartbeats 1000000 in
theorem at_any (t n k : Int) (w : World) : Calls Try.prog 6 #[idv t n, .int .i64 k] w fun e w' => e = .returned (opv t n k) ∧ Below w.heap.size w w' := by
  go_enter Try.func6, Try.ntmps6
  go_wp2
  refine bodyPost_ret (v := opv t n k) (by simp [results, Try.results6, go_sem]) rfl ?_
  exact ⟨rfl, (below_two w _ _).out⟩
set_option maxRecDepth 8000 in
set_option maxHeartbeats 400000 in
theorem strl_any (w : World) : Calls Try.prog 35 #[.string ⟨#[]⟩] w fun e w' => e = .returned (.string ⟨#[]⟩) ∧ w' = w := by
  go_enter Try.func35, Try.ntmps35
  go_wp2
  go_ret
  exact ⟨rfl, rfl⟩
set_option maxRecDepth 8000 in
set_option maxHeartbeats 400000 in
theorem str_any (w : World) : Calls Try.prog 26 #[.string ⟨#[]⟩] w fun e w' => e = .returned (.string ⟨#[]⟩) ∧ w' = w := by
  have c := strl_any w
  go_enter Try.func26, Try.ntmps26
  go_wp2_with (go_at_call 35; refine Calls_on c ?_)
  go_ret
  exact ⟨rfl, rfl⟩
set_option maxRecDepth 8000 in
set_option maxHeartbeats 400000 in
theorem byc_any (w : World) : Calls Try.prog 27 #[.slice none 0 0] w fun e w' => e = .returned (.slice none 0 0) ∧ w' = w := by
  have qT : ∀ (w : World) (a : Option Addr) (n c n' c' : Nat), (binOp .eql 29 (.slice a n c) (.slice none n' c')).run Try.prog w = .ok (.bool a.isNone) w := fun w a n c n' c' => Lib.run_eql_slice_nil w _ _ a n c n' c' Try.underlying29
  go_enter Try.func27, Try.ntmps27
  go_wp2
  go_ret
  exact ⟨rfl, rfl⟩
set_option maxRecDepth 8000 in
set_option maxHeartbeats 400000 in
theorem vec_any (w : World) : Calls Try.prog 28 #[.slice none 0 0] w fun e w' => e = .returned (.slice none 0 0) ∧ w' = w := by
  have qT : ∀ (w : World) (a : Option Addr) (n c n' c' : Nat), (binOp .eql 31 (.slice a n c) (.slice none n' c')).run Try.prog w = .ok (.bool a.isNone) w := fun w a n c n' c' => Lib.run_eql_slice_nil w _ _ a n c n' c' Try.underlying31
  go_enter Try.func28, Try.ntmps28
  go_wp2
  go_ret
  exact ⟨rfl, rfl⟩
set_option maxRecDepth 8000 in
set_option maxHeartbeats 1000000 in
theorem copyOf_any (t n k : Int) (w : World) : Calls Try.prog 19 #[opv t n k] w fun e w' => e = .returned (opv t n k) ∧ Below w.heap.size w w' := by
  have c1 := str_any
  have c2 := byc_any
  have c3 := vec_any
  go_enter Try.func19, Try.ntmps19
  go_wp2_with (first | (go_at_call 26; refine Calls_on (c1 _) ?_) | (go_at_call 27; refine Calls_on (c2 _) ?_) | (go_at_call 28; refine Calls_on (c3 _) ?_))
  refine bodyPost_ret (v := opv t n k) (by simp [results, Try.results19, go_sem]) rfl ?_
  exact ⟨rfl, (below_two w _ _).out⟩

set_option maxRecDepth 8000 in
set_option maxHeartbeats 400000 in
theorem first_any (c : Nat) (sl lv : Value) (cm : Nat) (w : World) (hc : w.heap[c]? = some (.cells (queueCells sl lv cm false) 51 (0, 0))) :
    Calls Try.prog 21 #[ep c] w fun e w' => e = .returned (.int .i64 0) ∧ w' = w := by
  have c3 : w.cell? ⟨c, 3, none⟩ = some (.bool false) := by rw [cellOf hc 3]; rfl
  clear hc
  go_enter Try.func21, Try.ntmps21
  go_wp2
  go_ret
  exact ⟨rfl, rfl⟩

theorem HQ.congr {w : World} {q : QP} {p : Option Addr} {cap : Nat} {I : List Nat} {U U' : Nat → QE} (h : HQ w q p cap I U) (hu : ∀ a ∈ I, U' a = U a) : HQ w q p cap I U' :=
  ⟨h.cell, h.row, fun k hk => by rw [hu _ (getD_mem hk)]; exact h.ents k hk, h.nodup, h.len, h.lo, h.los, fun a ha => by rw [hu a ha]; exact h.ok a ha, h.less⟩
theorem heapF_congr {q : QP} {I : List Nat} {U U' : Nat → QE} (h : HeapF (kvOf (keyQ q U) I) I.length) (hu : ∀ a ∈ I, U' a = U a) : HeapF (kvOf (keyQ q U') I) I.length := by
  intro k k0 kn
  have hk := par_lt k0
  have := h k k0 kn
  unfold kvOf keyQ at *
  rw [hu _ (getD_mem kn), hu _ (getD_mem (show par k < I.length by omega))]
  exact this
/-- Another one came. -/
theorem HQ.came {w : World} {q : QP} {p : Option Addr} {cap : Nat} {I : List Nat} {U : Nat → QE} (h : HQ w q p cap I U) (m : Nat) :
    HQ (w.setCell ⟨q.c, 2, none⟩ (.int .i64 (m : Nat))) { q with cm := m } p cap I U ∧ Fm q.base w (w.setCell ⟨q.c, 2, none⟩ (.int .i64 (m : Nat))) := by
  have hO : Only (· = q.c) w (w.setCell ⟨q.c, 2, none⟩ (.int .i64 (m : Nat))) := Only.setCell w ⟨q.c, 2, none⟩ _ rfl
  refine ⟨⟨?_, ?_, fun k hk => ?_, h.nodup, h.len, h.lo, h.los, h.ok, h.less⟩, Fm.setCell h.lo h.cell (.inl rfl) _⟩
  · show (w.setCell ⟨q.c, 2, none⟩ (.int .i64 (m : Nat))).heap[q.c]? = _
    rw [heap_set_same h.cell]; rfl
  · refine ⟨h.row.1, ?_⟩
    rcases h.row.2 with e | ⟨g, cp, cur, hv, hbs, hblk, r⟩
    · exact .inl e
    · exact .inr ⟨g, cp, cur, hv, hbs, (hO.block g (block_lt hblk) (apart_tags hblk h.cell (by decide))).trans hblk, r⟩
  · have := h.ents k hk
    exact this.other ⟨q.c, 2, none⟩ (apart_tags this h.cell (by decide)) _

set_option maxRecDepth 8000 in
set_option maxHeartbeats 2000000 in
theorem add_any (q : QP) (p : Option Addr) (cap : Nat) (I : List Nat) (U : Nat → QE) (t n k : Int) (w : World) (h : HQ w q p cap I U) (hh : HeapF (kvOf (keyQ q U) I) I.length) (hok : Rng t n) (hcm : q.cm < 900000) (hl1 : I.length + 1 < 1000000) :
    Calls Try.prog 18 #[ep q.c, opv t n k] w fun e w' => e = .returned (.tuple #[]) ∧ ∃ p' cap' I' U' a, HQ w' { q with cm := q.cm + 1 } p' cap' I' U' ∧ I'.Perm (I ++ [a]) ∧ a ∉ I ∧ (∀ b ∈ I, U' b = U b) ∧ U' a = ⟨t, n, k, q.cm⟩ ∧ HeapF (kvOf (keyQ q U') I') I'.length ∧ Fm q.base w w' := by
  obtain ⟨w1, hw1⟩ : ∃ w1, w1 = w.alloc (.cells #[.int .i64 t, .int .i64 n, .int .i64 0, .int .i64 k, .int .i64 0, .int .i64 0, .int .i64 0, .int .i64 0, .string ⟨#[]⟩, .slice none 0 0, .slice none 0 0] 33) := ⟨_, rfl⟩
  have hB1 : Below w.heap.size w w1 := by rw [hw1]; exact (below_new w _).out
  have h1 := h.below hB1
  have c2 : w.cell? ⟨q.c, 2, none⟩ = some (.int .i64 (q.cm : Nat)) := by rw [cellOf h.cell 2]; rfl
  have lc : q.c < w.heap.size := block_lt h.cell
  have ne1 : ¬ w.heap.size = q.c := by omega
  have ne2 : ¬ q.c = w.heap.size := by omega
  obtain ⟨w2, hw2⟩ : ∃ w2, w2 = (w1.alloc (.cells (heldCells ⟨t, n, k, q.cm⟩) 55)).drew := ⟨_, rfl⟩
  have hB2 : Below w1.heap.size w1 w2 := by
    rw [hw2]
    have := (below_new w1 (.cells (heldCells ⟨t, n, k, q.cm⟩) 55)).out
    exact ⟨this.os, this.tape, this.output, this.size, this.block⟩
  have hs1 : w1.heap.size = w.heap.size + 1 := by rw [hw1]; simp
  obtain ⟨a, ha⟩ : ∃ a, a = w.heap.size + 1 := ⟨_, rfl⟩
  have hn2 : IsHeld w2 a ⟨t, n, k, q.cm⟩ := by rw [hw2, ha, ← hs1]; exact heap_alloc_new w1 _
  have hna : a ∉ I := fun hm => by
    obtain ⟨j, hj, e⟩ := List.getElem_of_mem hm
    have := block_lt (h.ents j hj)
    rw [show I.getD j 0 = a by rw [← e]; simp [List.getD, hj]] at this
    omega
  obtain ⟨U', hU'⟩ : ∃ U' : Nat → QE, U' = fun b => if b = a then ⟨t, n, k, q.cm⟩ else U b := ⟨_, rfl⟩
  have hUa : U' a = ⟨t, n, k, q.cm⟩ := by rw [hU']; simp
  have hUo : ∀ b ∈ I, U' b = U b := fun b hb => by rw [hU']; exact if_neg (by rintro rfl; exact hna hb)
  have h2 := (h1.below hB2).congr hUo
  have hh2 := heapF_congr hh hUo
  have cP := ghPush_any q p cap a I U' w2 h2 (by rw [hUa]; exact hn2) hna (by have := h.lo; omega) (by rw [hUa]; exact ⟨hok, by show q.cm < 1000000; omega⟩) hl1 hh2
  have F2 : Fm q.base w w2 := Fm.of_below (hB1.trans (hB2.mono hB1.size))
  have HW2 : Hid (w2 = ((w.alloc (.cells #[.int .i64 t, .int .i64 n, .int .i64 0, .int .i64 k, .int .i64 0, .int .i64 0, .int .i64 0, .int .i64 0, .string ⟨#[]⟩, .slice none 0 0, .slice none 0 0] 33)).alloc (.cells (heldCells ⟨t, n, k, q.cm⟩) 55)).drew) := by show _ = _; rw [hw2, hw1]
  have HB : Hid (Fm q.base w w2 ∧ a ∉ I ∧ (∀ b ∈ I, U' b = U b) ∧ U' a = ⟨t, n, k, q.cm⟩) := ⟨F2, hna, hUo, hUa⟩
  have cQ : Calls Try.prog 25 #[hI q.c, .iface 53 (ep a)] w2 fun e w' => e = .returned (.tuple #[]) ∧ w'.cell? ⟨q.c, 2, none⟩ = some (.int .i64 (q.cm : Nat)) ∧ w'.frozen? ⟨q.c, 2, none⟩ = false ∧ Hid (∃ p' cap' I', HQ w' q p' cap' I' U' ∧ I'.Perm (I ++ [a]) ∧ HeapF (kvOf (keyQ q U') I') I'.length ∧ Fm q.base w2 w') :=
    cP.mono fun e w' ⟨h1, p', cap', I', h2, h3⟩ => ⟨h1, by rw [cellOf h2.cell 2]; rfl, frozenOf h2.cell 2, p', cap', I', h2, h3⟩
  rw [hw2, hw1, ha] at cQ
  rw [← ha] at cQ
  clear hw1 hw2 hB1 hB2 h1 h2 hh2 cP F2 hna hUo hUa hU' hn2 hs1 h hh
  have cmI : (0 : Int) ≤ (q.cm : Int) := by omega
  have cmJ : (q.cm : Int) < 900000 := by omega
  go_enter Try.func18, Try.ntmps18
  go_wp2_with fail
  go_region_with (go_at_call 25; rw [← ha]; refine cQ.mono ?_; rintro e w3 ⟨rfl, d2, f2, H3⟩; clear cQ)
  all_goals go_wp2_with fail
  all_goals go_end0
  all_goals
    obtain ⟨p', cap', I', h3, h4, h5, h6⟩ := H3.out
    obtain ⟨b1, b2, b3, b4⟩ := HB.out
    rw [HW2.out] at b1
    have h7 := h3.came (q.cm + 1)
    rw [show ((q.cm + 1 : Nat) : Int) = (q.cm : Int) + 1 by omega] at h7
    exact ⟨rfl, p', cap', I', U', a, h7.1, h4, b2, b3, b4, h5, (b1.next h6).next h7.2⟩

/-- A whole block is written. -/
theorem wpList_putR {w : World} {ops : Array Oper} {rest : List Oper} {o : Oper} {a : Act} {Q : Exit → Act → World → Prop} (hgd : o.guard = none) (ty : TypeId) (x y : Operand) (ho : o.op = .store ty x y)
    (g : Nat) (cells : Array Value) (hx : a.eval x = .pointer (some ⟨g, 0, none⟩)) (hy : a.eval y = .agg cells) (t : TypeId) (old : Array Value) (hg : Hid (w.heap[g]? = some (.cells old t (0, 0)))) (hi : (Try.prog.info? ty).map (·.size) = some cells.size) (hold : old.size = cells.size) (h1 : cells.all (·.oneCell') = true)
    (h : ∀ w', Hid (w'.heap[g]? = some (.cells cells t (0, 0)) ∧ Only (· = g) w w' ∧ w'.heap.size = w.heap.size) → wpList Try.prog ops Q rest (a.put o.dst undef) w') : wpList Try.prog ops Q (o :: rest) a w :=
  wpList_store_row hgd ty x y ho g cells hx hy t old hg.out hi hold h1 (h _ ⟨setRow_heap w g _ _ t _ hg.out, ⟨rfl, rfl, rfl, by simp, fun k _ hk => setRow_other w g k cells hk⟩, by simp⟩)
theorem infoHeld : (Try.prog.info? 55).map (·.size) = some 15 := by kernel_rfl
theorem infoOp : (Try.prog.info? 33).map (·.size) = some 11 := by kernel_rfl
def opC (t n k : Int) : Array Value := #[.int .i64 t, .int .i64 n, .int .i64 0, .int .i64 k, .int .i64 0, .int .i64 0, .int .i64 0, .int .i64 0, .string ⟨#[]⟩, .slice none 0 0, .slice none 0 0]
def outC : Array Value := #[.int .i64 0, .int .i64 0, .int .i64 0, .int .i64 0, .int .i64 0, .int .i64 0, .int .i64 0, .int .i64 0, .string ⟨#[]⟩, .slice none 0 0, .slice none 0 0, .int .i64 0, .int .i64 0, .pointer none, .bool true]
theorem outC_one : outC.all (·.oneCell') = true := by simp [outC, Value.oneCell']
theorem opC_one (t n k : Int) : (opC t n k).all (·.oneCell') = true := by simp [opC, Value.oneCell']
theorem op_cells {w : World} {g : Nat} {T : TypeId} {fr : Nat × Nat} {t n k : Int} (h : w.heap[g]? = some (.cells (opC t n k) T fr)) :
    w.cell? ⟨g, 0, none⟩ = some (.int .i64 t) ∧ w.cell? ⟨g, 1, none⟩ = some (.int .i64 n) ∧ w.cell? ⟨g, 2, none⟩ = some (.int .i64 0) ∧ w.cell? ⟨g, 3, none⟩ = some (.int .i64 k) ∧ w.cell? ⟨g, 4, none⟩ = some (.int .i64 0) ∧ w.cell? ⟨g, 5, none⟩ = some (.int .i64 0) ∧ w.cell? ⟨g, 6, none⟩ = some (.int .i64 0) ∧ w.cell? ⟨g, 7, none⟩ = some (.int .i64 0) ∧ w.cell? ⟨g, 8, none⟩ = some (.string ⟨#[]⟩) ∧ w.cell? ⟨g, 9, none⟩ = some (.slice none 0 0) ∧ w.cell? ⟨g, 10, none⟩ = some (.slice none 0 0) :=
  ⟨cellOf h 0, cellOf h 1, cellOf h 2, cellOf h 3, cellOf h 4, cellOf h 5, cellOf h 6, cellOf h 7, cellOf h 8, cellOf h 9, cellOf h 10⟩
theorem held_cells {w : World} {g : Nat} {e : QE} (h : IsHeld w g e) :
    w.cell? ⟨g, 0, none⟩ = some (.int .i64 e.t) ∧ w.cell? ⟨g, 1, none⟩ = some (.int .i64 e.n) ∧ w.cell? ⟨g, 2, none⟩ = some (.int .i64 0) ∧ w.cell? ⟨g, 3, none⟩ = some (.int .i64 e.k) ∧ w.cell? ⟨g, 4, none⟩ = some (.int .i64 0) ∧ w.cell? ⟨g, 5, none⟩ = some (.int .i64 0) ∧ w.cell? ⟨g, 6, none⟩ = some (.int .i64 0) ∧ w.cell? ⟨g, 7, none⟩ = some (.int .i64 0) ∧ w.cell? ⟨g, 8, none⟩ = some (.string ⟨#[]⟩) ∧ w.cell? ⟨g, 9, none⟩ = some (.slice none 0 0) ∧ w.cell? ⟨g, 10, none⟩ = some (.slice none 0 0) :=
  ⟨cellOf h 0, cellOf h 1, cellOf h 2, cellOf h 3, cellOf h 4, cellOf h 5, cellOf h 6, cellOf h 7, cellOf h 8, cellOf h 9, cellOf h 10⟩
theorem assert_held' (a : Nat) (w : World) : (Instr.typeAssert (.iface 53 (.pointer (some ⟨a, 0, none⟩))) 20 53 false).run Try.prog w = .ok (.pointer (some ⟨a, 0, none⟩)) w := by kernel_rfl

set_option maxRecDepth 8000 in
set_option maxHeartbeats 2000000 in
theorem take_any (q : QP) (p : Option Addr) (cap a : Nat) (I : List Nat) (U : Nat → QE) (w : World) (h : HQ w q p cap I U) (hh : HeapF (kvOf (keyQ q U) I) I.length) (hn : 0 < I.length) (ha : I.getD 0 0 = a) :
    Calls Try.prog 22 #[ep q.c] w fun e w' => e = .returned (opv (U a).t (U a).n (U a).k) ∧ ∃ I', HQ w' q p cap I' U ∧ (I' ++ [a]).Perm I ∧ HeapF (kvOf (keyQ q U) I') I'.length ∧ Fm q.base w w' := by
  obtain ⟨w1, hw1⟩ : ∃ w1, w1 = w.alloc (.cells #[.int .i64 0, .int .i64 0, .int .i64 0, .int .i64 0, .int .i64 0, .int .i64 0, .int .i64 0, .int .i64 0, .string ⟨#[]⟩, .slice none 0 0, .slice none 0 0] 33) := ⟨_, rfl⟩
  have hB1 : Below w.heap.size w w1 := by rw [hw1]; exact (below_new w _).out
  have hr1 : w1.heap[w.heap.size]? = some (.cells (opC 0 0 0) 33 (0, 0)) := by rw [hw1]; exact heap_alloc_new w _
  have h1 := h.below hB1
  have cF := first_any q.c _ q.lv q.cm w1 h1.cell
  have cR := ghRemove_any q p cap I U 0 a w1 h1 hn ha (hh.fix (Nat.le_refl _) hn fun _ _ _ => rfl)
  have hnd := h.nodup
  have HP : q.base ≤ a := h.los a (ha ▸ getD_mem hn)
  have hta := assert_held'
  have HR : Hid (w1.heap[w.heap.size]? = some (.cells (opC 0 0 0) 33 (0, 0)) ∧ Fm q.base w w1) := ⟨hr1, Fm.of_below hB1⟩
  rw [hw1] at cF cR
  have HW1 : Hid (w1 = w.alloc (.cells #[.int .i64 0, .int .i64 0, .int .i64 0, .int .i64 0, .int .i64 0, .int .i64 0, .int .i64 0, .int .i64 0, .string ⟨#[]⟩, .slice none 0 0, .slice none 0 0] 33)) := hw1
  clear h hh hB1 h1 hr1 hw1
  go_enter Try.func22, Try.ntmps22
  go_wp2_with (first | (go_at_call 21; refine Calls_on cF ?_) | (go_at_call 30; refine Stop.out ?_))
  refine Stop.mk ?_
  refine cR.mono ?_
  rintro e w2 ⟨rfl, I', h2, hp2, hh2, hE2, hF2⟩
  rw [← HW1.out] at hF2
  have hr2 := hF2.keep HR.out.1 (by decide) (by decide) (by decide)
  obtain ⟨x0, x1, x2, x3, x4, x5, x6, x7, x8, x9, x10⟩ := held_cells hE2
  have H2 : Hid (HQ w2 q p cap I' U ∧ (I' ++ [a]).Perm I ∧ HeapF (kvOf (keyQ q U) I') I'.length ∧ Fm q.base w w2 ∧ IsHeld w2 a (U a) ∧ w2.heap[w.heap.size]? = some (.cells (opC 0 0 0) 33 (0, 0)) ∧ a ∉ I') := by
    refine ⟨h2, hp2, hh2, HR.out.2.next hF2, hE2, hr2, fun hm => ?_⟩
    have := hp2.nodup_iff.2 hnd
    rw [List.nodup_append] at this
    exact this.2.2 a hm a (by simp) rfl
  have HE : ∀ o, Hid ((w2.alloc o).heap[a]? = some (.cells (heldCells (U a)) 55 (0, 0))) := fun o => (Below.heap_alloc _ _ _ (block_lt hE2)).trans hE2
  clear cF cR h2 hp2 hh2 hE2 hF2 hr2 hnd HR HW1
  have HZ : Hid (∃ zt zn zk, (U a).t = zt ∧ (U a).n = zn ∧ (U a).k = zk) := ⟨_, _, _, rfl, rfl, rfl⟩
  obtain ⟨zt, zn, zk, u1, u2, u3⟩ := HZ.out
  have HU : Hid ((U a).t = zt ∧ (U a).n = zn ∧ (U a).k = zk) := ⟨u1, u2, u3⟩
  rw [u1] at x0
  rw [u2] at x1
  rw [u3] at x3
  clear u1 u2 u3 HZ
  go_wp2_with (refine wpList_putR rfl 55 _ _ rfl a outC rfl rfl 55 (heldCells (U a)) (HE _) infoHeld rfl outC_one ?_; intro w4 H4; refine Stop.out ?_)
  refine Stop.mk ?_
  obtain ⟨g1, g2, g3, g4, g5, g6, g7⟩ := H2.out
  obtain ⟨k1, k2, k3⟩ := H4.out
  have na2 : w2.heap.size ≠ a := by have := block_lt g5; omega
  have na0 : w.heap.size ≠ a := apart_tags g6 g5 (by decide)
  have hB3 : Below w2.heap.size w2 (w2.alloc (.cells (opC zt zn zk) 33)) := (below_new w2 _).out
  have hr4 : w4.heap[w.heap.size]? = some (.cells (opC 0 0 0) 33 (0, 0)) := (k2.block _ (Nat.lt_of_lt_of_le (block_lt g6) hB3.size) na0).trans ((hB3.block _ (block_lt g6)).trans g6)
  have ho4 : w4.heap[w2.heap.size]? = some (.cells (opC zt zn zk) 33 (0, 0)) := (k2.block _ (by simp) na2).trans (heap_alloc_new w2 _)
  obtain ⟨y0, y1, y2, y3, y4, y5, y6, y7, y8, y9, y10⟩ := op_cells ho4
  have HR4 : Hid (w4.heap[w.heap.size]? = some (.cells (opC 0 0 0) 33 (0, 0))) := hr4
  have H5 : Hid (HQ w4 q p cap I' U ∧ (I' ++ [a]).Perm I ∧ HeapF (kvOf (keyQ q U) I') I'.length ∧ Fm q.base w w4) := by
    have g1' := g1.below hB3
    refine ⟨⟨?_, ?_, fun k hk => ?_, g1.nodup, g1.len, g1.lo, g1.los, g1.ok, g1.less⟩, g2, g3, g4.next ((Fm.of_below hB3).next ⟨k2.os, k2.tape, k2.output, k2.size, fun k hk hn => k2.block k hk (fun e => hn ?_)⟩)⟩
    · exact (k2.block _ (block_lt g1'.cell) (apart_tags g1.cell g5 (by decide))).trans g1'.cell
    · refine ⟨g1.row.1, ?_⟩
      rcases g1'.row.2 with e | ⟨g, cp, cur, hv, hbs, hblk, r⟩
      · exact .inl e
      · exact .inr ⟨g, cp, cur, hv, hbs, (k2.block g (block_lt hblk) (apart_tags hblk (HE _).out (by decide))).trans hblk, r⟩
    · have := g1'.ents k hk
      exact (k2.block _ (block_lt this) (fun e => g7 (e ▸ getD_mem hk))).trans this
    · subst e
      exact ⟨HP, _, _, _, (HE _).out, .inr (.inr rfl)⟩
  clear g1 g2 g3 g4 g5 g6 g7 k1 k2 k3 hB3 hr4 ho4 H2 H4 HE x0 x1 x2 x3 x4 x5 x6 x7 x8 x9 x10
  go_wp2_with (refine wpList_putR rfl 33 _ _ rfl w.heap.size (opC zt zn zk) rfl rfl 33 (opC 0 0 0) HR4 infoOp rfl (opC_one _ _ _) ?_; intro w5 H6; refine Stop.out ?_)
  refine Stop.mk ?_
  obtain ⟨z0, z1, z2, z3, z4, z5, z6, z7, z8, z9, z10⟩ := op_cells H6.out.1
  go_wp2
  refine bodyPost_ret (v := opv zt zn zk) (by simp [results, Try.results22, go_sem, z0, z1, z2, z3, z4, z5, z6, z7, z8, z9, z10]) rfl ?_
  obtain ⟨e1, e2, e3, e4⟩ := H5.out
  obtain ⟨f1, f2, f3⟩ := H6.out
  have hB5 : ∀ (g : Nat) (cs : Array Value) (t : TypeId) (fr : Nat × Nat), w4.heap[g]? = some (.cells cs t fr) → t ≠ 33 → w5.heap[g]? = some (.cells cs t fr) := fun g cs t fr hg ht => (f2.block g (block_lt hg) (apart_tags hg HR4.out ht)).trans hg
  rw [HU.out.1, HU.out.2.1, HU.out.2.2]
  refine ⟨rfl, I', ⟨hB5 _ _ _ _ e1.cell (by decide), ?_, fun k hk => hB5 _ _ _ _ (e1.ents k hk) (by decide), e1.nodup, e1.len, e1.lo, e1.los, e1.ok, e1.less⟩, e2, e3, ?_⟩
  · refine ⟨e1.row.1, ?_⟩
    rcases e1.row.2 with e | ⟨g, cp, cur, hv, hbs, hblk, r⟩
    · exact .inl e
    · exact .inr ⟨g, cp, cur, hv, hbs, hB5 g _ _ _ hblk (by decide), r⟩
  · refine ⟨f2.os.trans e4.os, f2.tape.trans e4.tape, f2.output.trans e4.output, Nat.le_trans e4.size f2.size, fun k hk hn => (f2.block k (Nat.lt_of_lt_of_le hk e4.size) (by omega)).trans (e4.block k hk hn)⟩
end Go.Proofs.Ytgophojgofmkeaa.Ck
