/-
  A queue: New, Len, Push, Pop, Peek, as a list of those that are in it.
-/
import Derived.Test.YtgophojgofmkeaaZg
import Derived.Laws.EntriesVeiled
namespace Go.Proofs.Ytgophojgofmkeaa.Ck
open Go.RowKit Go.Maps

/-- A queue that holds just those of L. -/
def QL (w : World) (q : QP) (L : List QE) : Prop := ∃ p cap I U, HQ w q p cap I U ∧ HeapF (kvOf (keyQ q U) I) I.length ∧ (I.map U).Perm L
theorem QL.below {w w' : World} {q : QP} {L : List QE} (h : QL w q L) (hb : Below w.heap.size w w') : QL w' q L := by
  obtain ⟨p, cap, I, U, h1, h2, h3⟩ := h
  exact ⟨p, cap, I, U, h1.below hb, h2, h3⟩
/-- Nothing of the queue's is turned. -/
theorem QL.only {w w' : World} {q : QP} {L : List QE} {S : Nat → Prop} (h : QL w q L) (ho : Only S w w') (hs : ∀ g cs t fr, S g → w.heap[g]? = some (.cells cs t fr) → t ≠ 51 ∧ t ≠ 53 ∧ t ≠ 55) : QL w' q L := by
  obtain ⟨p, cap, I, U, h1, h2, h3⟩ := h
  have keep : ∀ (g : Nat) (cs : Array Value) (t : TypeId) (fr : Nat × Nat), w.heap[g]? = some (.cells cs t fr) → (t = 51 ∨ t = 53 ∨ t = 55) → w'.heap[g]? = some (.cells cs t fr) := fun g cs t fr hg ht =>
    (ho.block g (block_lt hg) (fun e => by
      have := hs g cs t fr e hg
      rcases ht with rfl | rfl | rfl
      · exact this.1 rfl
      · exact this.2.1 rfl
      · exact this.2.2 rfl)).trans hg
  refine ⟨p, cap, I, U, ⟨keep _ _ _ _ h1.cell (.inl rfl), ?_, fun k hk => keep _ _ _ _ (h1.ents k hk) (.inr (.inr rfl)), h1.nodup, h1.len, h1.lo, h1.los, h1.ok, h1.less⟩, h2, h3⟩
  refine ⟨h1.row.1, ?_⟩
  rcases h1.row.2 with e | ⟨g, cp, cur, hv, hbs, hblk, r⟩
  · exact .inl e
  · exact .inr ⟨g, cp, cur, hv, hbs, keep _ _ _ _ hblk (.inr (.inl rfl)), r⟩
theorem QL.size {w : World} {q : QP} {L : List QE} (h : QL w q L) : L.length < 1000000 ∧ q.base ≤ w.heap.size ∧ q.c < w.heap.size := by
  obtain ⟨p, cap, I, U, h1, h2, h3⟩ := h
  have := h1.len
  have e := h3.length_eq
  rw [List.length_map] at e
  have := block_lt h1.cell
  have := h1.lo
  exact ⟨by omega, by omega, by omega⟩

def mkQ (base c : Nat) (lv : Value) (bk : Bool) (cm : Nat) : QP := ⟨base, c, lv, bk, cm, keyE bk⟩
theorem mkQ_ok (base c : Nat) (lv : Value) (bk : Bool) (cm : Nat) : KeyOk (mkQ base c lv bk cm) := fun _ _ ha hb => keyE_lt ha hb
/-- An empty queue. -/
theorem QL.empty {w : World} {q : QP} (hc : w.heap[q.c]? = some (.cells (queueCells (.slice none 0 0) q.lv q.cm false) 51 (0, 0))) (hlo : q.base ≤ q.c) (hl : LessIs q.lv q.bk ∧ KeyOk q) : QL w q [] :=
  ⟨none, 0, [], fun _ => ⟨0, 0, 0, 0⟩, ⟨hc, ⟨rfl, .inl ⟨rfl, rfl⟩⟩, fun k hk => by simp at hk, List.nodup_nil, by simp, hlo, fun a ha => by simp at ha, fun a ha => by simp at ha, hl⟩, fun k _ hk => by simp at hk, List.Perm.refl _⟩

set_option maxRecDepth 8000 in
set_option maxHeartbeats 400000 in
theorem new_any (base : Nat) (lv : Value) (bk : Bool) (hl : LessIs lv bk) (w : World) (hb : base ≤ w.heap.size) :
    Calls Try.prog 12 #[lv] w fun e w' => e = .returned (ep w.heap.size) ∧ QL w' (mkQ base w.heap.size lv bk 0) [] ∧ Below w.heap.size w w' := by
  have HF : Hid (∀ w', w'.heap[w.heap.size]? = some (.cells (queueCells (.slice none 0 0) lv 0 false) 51 (0, 0)) → QL w' (mkQ base w.heap.size lv bk 0) []) := fun w' h => QL.empty (q := mkQ base w.heap.size lv bk 0) h hb ⟨hl, mkQ_ok _ _ _ _ _⟩
  have HB : Hid (∀ o, Below w.heap.size w (w.alloc o)) := fun o => (below_new w o).out
  rcases hl with ⟨rfl, _⟩ | ⟨K, rfl, _⟩
  · go_enter Try.func12, Try.ntmps12
    go_wp2
    go_ret
    exact ⟨rfl, HF.out _ (heap_alloc_new w _), HB.out _⟩
  · go_enter Try.func12, Try.ntmps12
    go_wp2
    go_ret
    exact ⟨rfl, HF.out _ (heap_alloc_new w _), HB.out _⟩

theorem QL.cells {w : World} {q : QP} {L : List QE} (h : QL w q L) : ∃ sl, w.heap[q.c]? = some (.cells (queueCells sl q.lv q.cm false) 51 (0, 0)) := by
  obtain ⟨p, cap, I, U, h1, _⟩ := h
  exact ⟨_, h1.cell⟩

set_option maxRecDepth 8000 in
set_option maxHeartbeats 400000 in
theorem qlen_any (q : QP) (L : List QE) (w : World) (h : QL w q L) : Calls Try.prog 16 #[ep q.c] w fun e w' => e = .returned (.int .i64 (L.length : Nat)) ∧ w' = w := by
  obtain ⟨p, cap, I, U, h1, h2, h3⟩ := h
  have e := h3.length_eq
  rw [List.length_map] at e
  have cN := gpLen_any q p cap I U w h1
  rw [e] at cN
  clear h1 h2 h3 e
  go_enter Try.func16, Try.ntmps16
  go_wp2_with (go_at_call 23; refine Calls_on cN ?_)
  go_ret
  exact ⟨rfl, rfl⟩
set_option maxRecDepth 8000 in
set_option maxHeartbeats 400000 in
theorem qlen_nil (w : World) : Calls Try.prog 16 #[.pointer none] w fun e w' => e = .returned (.int .i64 0) ∧ w' = w := by
  go_enter Try.func16, Try.ntmps16
  go_wp2
  go_ret
  exact ⟨rfl, rfl⟩
set_option maxRecDepth 8000 in
set_option maxHeartbeats 400000 in
theorem closed_any (q : QP) (L : List QE) (w : World) (h : QL w q L) : Calls Try.prog 20 #[ep q.c] w fun e w' => e = .returned (.bool (decide (L = []))) ∧ w' = w := by
  obtain ⟨sl, hc⟩ := h.cells
  have c4 : w.cell? ⟨q.c, 4, none⟩ = some (.bool false) := by rw [cellOf hc 4]; rfl
  have cN := qlen_any q L w h
  by_cases hL : L = []
  · subst hL
    have HD : Hid (decide (([] : List QE) = []) = true) := by show _ = _; simp
    have e1 : (([] : List QE).length : Int) = 0 := rfl
    rw [e1] at cN
    clear h hc
    go_enter Try.func20, Try.ntmps20
    go_wp2_with (go_at_call 16; refine Calls_on cN ?_)
    go_ret
    exact ⟨by simp, rfl⟩
  · have hp : 0 < L.length := List.length_pos_iff.2 hL
    have HD : Hid (decide (L = []) = false) := by show _ = _; simpa using hL
    generalize L.length = m at *
    have e1 : ((m : Int) == 0) = false := by rw [beq_eq_false_iff_ne]; omega
    clear h hc hL
    go_enter Try.func20, Try.ntmps20
    go_wp2_with (go_at_call 16; refine Calls_on cN ?_)
    go_ret
    exact ⟨by rw [HD.out]; rfl, rfl⟩
set_option maxRecDepth 8000 in
set_option maxHeartbeats 400000 in
theorem closed_nil (w : World) : Calls Try.prog 20 #[.pointer none] w fun e w' => e = .returned (.bool true) ∧ w' = w := by
  have cN := qlen_nil w
  go_enter Try.func20, Try.ntmps20
  go_wp2_with (go_at_call 16; refine Calls_on cN ?_)
  go_ret
  exact ⟨rfl, rfl⟩

set_option maxRecDepth 8000 in
set_option maxHeartbeats 1000000 in
theorem push_nil (t n k : Int) (w : World) : Calls Try.prog 13 #[.pointer none, opv t n k] w fun e w' => e = .returned (.tuple #[]) ∧ Below w.heap.size w w' := by
  go_enter Try.func13, Try.ntmps13
  go_wp2
  refine bodyPost_ret (results_none rfl _ _ _) rfl ?_
  exact ⟨rfl, (below_new w _).out⟩

/-- One more is in the queue. -/
theorem QL.add {q : QP} {L : List QE} {t n k : Int} {I : List Nat} {U U' : Nat → QE} {p' : Option Addr} {cap' a : Nat} {I' : List Nat} {w' : World} (hL : (I.map U).Perm L)
    (h1 : HQ w' { q with cm := q.cm + 1 } p' cap' I' U') (h2 : I'.Perm (I ++ [a])) (h4 : ∀ b ∈ I, U' b = U b) (h5 : U' a = ⟨t, n, k, q.cm⟩) (h6 : HeapF (kvOf (keyQ q U') I') I'.length) : QL w' { q with cm := q.cm + 1 } (L ++ [⟨t, n, k, q.cm⟩]) := by
  refine ⟨p', cap', I', U', h1, h6, ?_⟩
  refine (h2.map U').trans ?_
  rw [List.map_append, List.map_singleton, h5, List.map_congr_left h4]
  exact hL.append_right _

set_option maxRecDepth 8000 in
set_option maxHeartbeats 2000000 in
theorem push_any (q : QP) (L : List QE) (t n k : Int) (w : World) (h : QL w q L) (hok : Rng t n) (hcm : q.cm < 900000) (hl : L.length < 900000) :
    Calls Try.prog 13 #[ep q.c, opv t n k] w fun e w' => e = .returned (.tuple #[]) ∧ QL w' { q with cm := q.cm + 1 } (L ++ [⟨t, n, k, q.cm⟩]) ∧ Fm q.base w w' := by
  obtain ⟨p, cap, I, U, h1, h2, h3⟩ := h
  have e := h3.length_eq
  rw [List.length_map] at e
  have c4 : w.cell? ⟨q.c, 4, none⟩ = some (.bool false) := by rw [cellOf h1.cell 4]; rfl
  have lc := block_lt h1.cell
  have ne1 : ¬ w.heap.size = q.c := by omega
  have ne2 : ¬ q.c = w.heap.size := by omega
  have cC := copyOf_any t n k
  have HA : Hid (∀ W, Below w.heap.size w W → Calls Try.prog 18 #[ep q.c, opv t n k] W fun e w' => e = .returned (.tuple #[]) ∧ QL w' { q with cm := q.cm + 1 } (L ++ [⟨t, n, k, q.cm⟩]) ∧ Fm q.base w w') := fun W hW =>
    (add_any q p cap I U t n k W (h1.below hW) h2 hok hcm (by omega)).mono fun e w' ⟨g0, p', cap', I', U', a, g1, g2, g3, g4, g5, g6, g7⟩ => ⟨g0, QL.add h3 g1 g2 g4 g5 g6, (Fm.of_below hW).next g7⟩
  have HB : Hid (∀ o, Below w.heap.size w (w.alloc o).drew) := fun o => (below_new w o).out.trans ⟨rfl, rfl, rfl, Nat.le_refl _, fun _ _ => rfl⟩
  clear h1 h2 h3
  go_enter Try.func13, Try.ntmps13
  go_wp2_with fail
  go_region_with (first
    | (go_at_call 19; refine Calls_new (cC _) ?_; intro w2 hb2; have H2 : Hid (Below w.heap.size w w2) := (HB.out _).trans (hb2.out.mono (HB.out _).size); clear hb2)
    | (go_at_call 18; refine (HA.out _ H2.out).mono ?_; rintro e w3 ⟨rfl, h3, h4⟩; have H3 : Hid (QL w3 { q with cm := q.cm + 1 } (L ++ [⟨t, n, k, q.cm⟩]) ∧ Fm q.base w w3) := ⟨h3, h4⟩; clear h3 h4))
  all_goals go_wp2_with fail
  all_goals go_end0
  all_goals exact ⟨rfl, H3.out⟩
end Go.Proofs.Ytgophojgofmkeaa.Ck
