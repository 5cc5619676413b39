/-
  The heap by name: Len, Push (of any heap), Pop (of the last one), Swap of one with itself.
-/
import Derived.Test.YtdocablbkafkiaaDoorEe
import Derived.Maps.AppendAt
namespace Go.Proofs.YtdocablbkafkiaaDoor.Cd
open Go.RowKit Go.Maps

attribute [local go_sem] Oper.semAt_some

/-- A heap of entries: its box, and its row. -/
structure HB (w : World) (base kb : Nat) (v : Value) (L : List En) : Prop where
  lo : base ≤ kb
  box : w.heap[kb]? = some (.cells #[v] 69 (0, 0))
  blk : Blk w base v L
/-- The blocks of a heap. -/
def hS (kb : Nat) (v : Value) (k : Nat) : Prop := k = kb ∨ v.ownBlock = some k
theorem HB.toBelow {w w' : World} {base kb : Nat} {v : Value} {L : List En} (h : HB w base kb v L) (ho : Only (hS kb v) w w') (hbw : base ≤ w.heap.size) : Below base w w' :=
  Only.below ho hbw (fun i hi => by rcases hi with rfl | hi; exact h.lo; exact (h.blk.tag hi).1)
def hI (kb : Nat) : Value := .iface 68 (.pointer (some ⟨kb, 0, none⟩))
def enV (x : En) : Value := .agg #[.string (bas x.name), .int .i64 (x.num : Nat)]
theorem HB.below {w w' : World} {base kb : Nat} {v : Value} {L : List En} (h : HB w base kb v L) (hb : Below w.heap.size w w') : HB w' base kb v L :=
  ⟨h.lo, below_block h.box hb, h.blk.kept (Below.only hb (fun _ => False)) (fun _ _ h => h)⟩
theorem HB.cell {w : World} {base kb : Nat} {v : Value} {L : List En} (h : HB w base kb v L) : w.cell? ⟨kb, 0, none⟩ = some v := by rw [cellOf h.box 0]; rfl
theorem HB.froz {w : World} {base kb : Nat} {v : Value} {L : List En} (h : HB w base kb v L) : w.frozen? ⟨kb, 0, none⟩ = false := frozenOf h.box 0
theorem HB.ne {w : World} {base kb : Nat} {v : Value} {L : List En} (h : HB w base kb v L) {j : Nat} (hj : v.ownBlock = some j) : j ≠ kb := by
  rintro rfl
  obtain ⟨_, _, cur, hc⟩ := h.blk.tag hj
  rw [h.box] at hc
  injection hc with hc
  injection hc with _ hc
  cases hc
theorem zmeth_len (kb : Nat) (v : Value) (w : World) (h : w.cell? ⟨kb, 0, none⟩ = some v) : (method 245 68 (.pointer (some ⟨kb, 0, none⟩)) "Len").run Tryd.prog w = .ok (34, v) w := by
  have e : (method 245 68 (.pointer (some ⟨kb, 0, none⟩)) "Len").run Tryd.prog w = (do let x ← loadVar 69 ⟨kb, 0, none⟩; pure (34, x) : Sem (FuncId × Value)).run Tryd.prog w := by kernel_rfl
  rw [e]
  simp [go_sem, h]
theorem zmeth_swap (kb : Nat) (v : Value) (w : World) (h : w.cell? ⟨kb, 0, none⟩ = some v) : (method 245 68 (.pointer (some ⟨kb, 0, none⟩)) "Swap").run Tryd.prog w = .ok (106, v) w := by
  have e : (method 245 68 (.pointer (some ⟨kb, 0, none⟩)) "Swap").run Tryd.prog w = (do let x ← loadVar 69 ⟨kb, 0, none⟩; pure (106, x) : Sem (FuncId × Value)).run Tryd.prog w := by kernel_rfl
  rw [e]
  simp [go_sem, h]
theorem zmeth_less (kb : Nat) (v : Value) (w : World) (h : w.cell? ⟨kb, 0, none⟩ = some v) : (method 245 68 (.pointer (some ⟨kb, 0, none⟩)) "Less").run Tryd.prog w = .ok (103, v) w := by
  have e : (method 245 68 (.pointer (some ⟨kb, 0, none⟩)) "Less").run Tryd.prog w = (do let x ← loadVar 69 ⟨kb, 0, none⟩; pure (103, x) : Sem (FuncId × Value)).run Tryd.prog w := by kernel_rfl
  rw [e]
  simp [go_sem, h]
theorem zmeth_pop (kb : Nat) (w : World) : (method 245 68 (.pointer (some ⟨kb, 0, none⟩)) "Pop").run Tryd.prog w = .ok (104, .pointer (some ⟨kb, 0, none⟩)) w := by kernel_rfl
theorem zmeth_push (kb : Nat) (w : World) : (method 245 68 (.pointer (some ⟨kb, 0, none⟩)) "Push").run Tryd.prog w = .ok (105, .pointer (some ⟨kb, 0, none⟩)) w := by kernel_rfl
theorem assert_ent (v : Value) (w : World) : (Instr.typeAssert (.iface 55 v) 20 55 false).run Tryd.prog w = .ok v w := by kernel_rfl

theorem zlen_any (p : Option Addr) (n c : Nat) (w : World) : Calls Tryd.prog 34 #[.slice p n c] w fun e w' => e = .returned (.int .i64 (n : Nat)) ∧ w' = w := by
  go_enter Tryd.func34, Tryd.ntmps34
  go_wp2
  go_ret
  exact ⟨rfl, rfl⟩

set_option maxRecDepth 8000 in
set_option maxHeartbeats 2000000 in
theorem zpush_any (base kb : Nat) (v0 : Value) (L : List En) (x : En) (w : World) (h : HB w base kb v0 L) (hl : L.length < 1000000) (hbw : base ≤ w.heap.size) :
    Calls Tryd.prog 105 #[.pointer (some ⟨kb, 0, none⟩), .iface 55 (enV x)] w fun e w' => e = .returned (.tuple #[]) ∧ (∃ v', HB w' base kb v' (L ++ [x])) ∧ Only (hS kb v0) w w' := by
  obtain ⟨i0, hi0, hz0, hz1, hz2⟩ := entInfo
  obtain ⟨W1, hW1⟩ : ∃ W1, W1 = w.drew.alloc (.cells #[.string (bas x.name), .int .i64 (x.num : Nat)] 55) := ⟨_, rfl⟩
  have hb1 : Below w.heap.size w W1 := by rw [hW1]; exact below_of_drew ((Below.refl _ w.drew).alloc (Nat.le_refl _) _)
  have hs1 : W1.heap.size = w.heap.size + 1 := by rw [hW1]; simp
  have hn1 : W1.heap[w.heap.size]? = some (.cells #[.string (bas x.name), .int .i64 (x.num : Nat)] 55 (0, 0)) := by rw [hW1]; exact heap_alloc_new w.drew _
  have h1 := h.below hb1
  obtain ⟨v1, W2, hrun, hown, hgr, _, hpl⟩ := run_append_own_at (P := Tryd.prog) (w := W1) base 69 69 55 i0 _ 2 _ Tryd.underlying69 hi0 hz0 hz1 hz2 rfl (by decide) v0 L.length (ents L) h1.blk ⟨w.heap.size, 0, none⟩ 1 1 (entCells x) rfl
    (fun j u hj => by
      rw [Addr.add_lit, Nat.zero_add, cellOf hn1 j]
      simpa [entCells] using hj) (by intro u hu; simp [entCells] at hu; rcases hu with rfl | rfl <;> rfl) (by unfold maxLen; omega) (by omega) (by omega)
  obtain ⟨p1, k1, hv1, _⟩ := Blk.form (L := L ++ [x]) (Blk.ext hown (by simp) (by simp [ents]))
  have hbox2 : W2.heap[kb]? = some (.cells #[v0] 69 (0, 0)) := (hgr.block kb (block_lt h1.box) (fun e => h1.ne e.symm rfl)).trans h1.box
  obtain ⟨W3, hW3⟩ : ∃ W3, W3 = W2.setCell ⟨kb, 0, none⟩ v1 := ⟨_, rfl⟩
  have hv1kb : ∀ j, v1.ownBlock = some j → j ≠ kb := by
    intro j hj
    rcases hpl with e | e
    · rw [hj] at e; exact h1.ne e.symm
    · rw [hj] at e; cases e
      have := block_lt h.box
      omega
  have H3 : Hid (HB W3 base kb v1 (L ++ [x]) ∧ Only (hS kb v0) w W3) := by
    refine ⟨⟨h.lo, ?_, ?_⟩, ?_⟩
    · rw [hW3]; simp [World.setCell, Array.getElem?_modify, hbox2]
    · rw [hW3]
      refine Blk.kept (Blk.ext hown (by simp) (by simp [ents])) (Only.setCell (S := (· = kb)) _ _ _ rfl) (fun j hj e => hv1kb j hj e)
    · rw [hW3]
      exact ((Below.only hb1 _).next (Only.grown hgr (fun i hi => .inr hi))).next (Only.setCell _ _ _ (.inl rfl))
  have c0 := h.cell
  have c1 := h1.cell
  have c2 : W2.cell? ⟨kb, 0, none⟩ = some v0 := by rw [cellOf hbox2 0]; rfl
  have f2 : W2.frozen? ⟨kb, 0, none⟩ = false := frozenOf hbox2 0
  have hta := assert_ent
  unfold enV
  clear h h1 hown hgr hpl hbox2 hv1kb hb1 hn1 hi0 hz0 hz1 hz2 hs1
  go_enter Tryd.func105, Tryd.ntmps105
  have hmix : Tryd.prog.follows .mixedOrders = true := by kernel_rfl
  have vv0 : ∀ g, vals ((fun g : Unit => ([(some 4, .pointer (some ⟨kb, 0, none⟩)), (some 5, .pointer (some ⟨kb, 0, none⟩)), (some 6, .pointer (some ⟨kb, 0, none⟩)), (some 7, v0), (some 8, .iface 55 (.agg #[.string (bas x.name), .int .i64 (x.num : Nat)])), (some 9, .agg #[.string (bas x.name), .int .i64 (x.num : Nat)]), (some 10, .slice (some ⟨w.heap.size, 0, none⟩) 1 1), (some 11, v1), (some 12, .pointer (some ⟨kb, 0, none⟩)), (none, undef)] : List (Option Tmp × Value))) g) 0 = .pointer (some ⟨kb, 0, none⟩) := fun g => rfl
  have vv1 : ∀ g, vals ((fun g : Unit => ([(some 4, .pointer (some ⟨kb, 0, none⟩)), (some 5, .pointer (some ⟨kb, 0, none⟩)), (some 6, .pointer (some ⟨kb, 0, none⟩)), (some 7, v0), (some 8, .iface 55 (.agg #[.string (bas x.name), .int .i64 (x.num : Nat)])), (some 9, .agg #[.string (bas x.name), .int .i64 (x.num : Nat)]), (some 10, .slice (some ⟨w.heap.size, 0, none⟩) 1 1), (some 11, v1), (some 12, .pointer (some ⟨kb, 0, none⟩)), (none, undef)] : List (Option Tmp × Value))) g) 1 = .pointer (some ⟨kb, 0, none⟩) := fun g => rfl
  have vv2 : ∀ g, vals ((fun g : Unit => ([(some 4, .pointer (some ⟨kb, 0, none⟩)), (some 5, .pointer (some ⟨kb, 0, none⟩)), (some 6, .pointer (some ⟨kb, 0, none⟩)), (some 7, v0), (some 8, .iface 55 (.agg #[.string (bas x.name), .int .i64 (x.num : Nat)])), (some 9, .agg #[.string (bas x.name), .int .i64 (x.num : Nat)]), (some 10, .slice (some ⟨w.heap.size, 0, none⟩) 1 1), (some 11, v1), (some 12, .pointer (some ⟨kb, 0, none⟩)), (none, undef)] : List (Option Tmp × Value))) g) 2 = .pointer (some ⟨kb, 0, none⟩) := fun g => rfl
  have vv3 : ∀ g, vals ((fun g : Unit => ([(some 4, .pointer (some ⟨kb, 0, none⟩)), (some 5, .pointer (some ⟨kb, 0, none⟩)), (some 6, .pointer (some ⟨kb, 0, none⟩)), (some 7, v0), (some 8, .iface 55 (.agg #[.string (bas x.name), .int .i64 (x.num : Nat)])), (some 9, .agg #[.string (bas x.name), .int .i64 (x.num : Nat)]), (some 10, .slice (some ⟨w.heap.size, 0, none⟩) 1 1), (some 11, v1), (some 12, .pointer (some ⟨kb, 0, none⟩)), (none, undef)] : List (Option Tmp × Value))) g) 3 = v0 := fun g => rfl
  have vv4 : ∀ g, vals ((fun g : Unit => ([(some 4, .pointer (some ⟨kb, 0, none⟩)), (some 5, .pointer (some ⟨kb, 0, none⟩)), (some 6, .pointer (some ⟨kb, 0, none⟩)), (some 7, v0), (some 8, .iface 55 (.agg #[.string (bas x.name), .int .i64 (x.num : Nat)])), (some 9, .agg #[.string (bas x.name), .int .i64 (x.num : Nat)]), (some 10, .slice (some ⟨w.heap.size, 0, none⟩) 1 1), (some 11, v1), (some 12, .pointer (some ⟨kb, 0, none⟩)), (none, undef)] : List (Option Tmp × Value))) g) 4 = .iface 55 (.agg #[.string (bas x.name), .int .i64 (x.num : Nat)]) := fun g => rfl
  have vv5 : ∀ g, vals ((fun g : Unit => ([(some 4, .pointer (some ⟨kb, 0, none⟩)), (some 5, .pointer (some ⟨kb, 0, none⟩)), (some 6, .pointer (some ⟨kb, 0, none⟩)), (some 7, v0), (some 8, .iface 55 (.agg #[.string (bas x.name), .int .i64 (x.num : Nat)])), (some 9, .agg #[.string (bas x.name), .int .i64 (x.num : Nat)]), (some 10, .slice (some ⟨w.heap.size, 0, none⟩) 1 1), (some 11, v1), (some 12, .pointer (some ⟨kb, 0, none⟩)), (none, undef)] : List (Option Tmp × Value))) g) 5 = .agg #[.string (bas x.name), .int .i64 (x.num : Nat)] := fun g => rfl
  have vv6 : ∀ g, vals ((fun g : Unit => ([(some 4, .pointer (some ⟨kb, 0, none⟩)), (some 5, .pointer (some ⟨kb, 0, none⟩)), (some 6, .pointer (some ⟨kb, 0, none⟩)), (some 7, v0), (some 8, .iface 55 (.agg #[.string (bas x.name), .int .i64 (x.num : Nat)])), (some 9, .agg #[.string (bas x.name), .int .i64 (x.num : Nat)]), (some 10, .slice (some ⟨w.heap.size, 0, none⟩) 1 1), (some 11, v1), (some 12, .pointer (some ⟨kb, 0, none⟩)), (none, undef)] : List (Option Tmp × Value))) g) 6 = .slice (some ⟨w.heap.size, 0, none⟩) 1 1 := fun g => rfl
  have vv7 : ∀ g, vals ((fun g : Unit => ([(some 4, .pointer (some ⟨kb, 0, none⟩)), (some 5, .pointer (some ⟨kb, 0, none⟩)), (some 6, .pointer (some ⟨kb, 0, none⟩)), (some 7, v0), (some 8, .iface 55 (.agg #[.string (bas x.name), .int .i64 (x.num : Nat)])), (some 9, .agg #[.string (bas x.name), .int .i64 (x.num : Nat)]), (some 10, .slice (some ⟨w.heap.size, 0, none⟩) 1 1), (some 11, v1), (some 12, .pointer (some ⟨kb, 0, none⟩)), (none, undef)] : List (Option Tmp × Value))) g) 7 = v1 := fun g => rfl
  have vv8 : ∀ g, vals ((fun g : Unit => ([(some 4, .pointer (some ⟨kb, 0, none⟩)), (some 5, .pointer (some ⟨kb, 0, none⟩)), (some 6, .pointer (some ⟨kb, 0, none⟩)), (some 7, v0), (some 8, .iface 55 (.agg #[.string (bas x.name), .int .i64 (x.num : Nat)])), (some 9, .agg #[.string (bas x.name), .int .i64 (x.num : Nat)]), (some 10, .slice (some ⟨w.heap.size, 0, none⟩) 1 1), (some 11, v1), (some 12, .pointer (some ⟨kb, 0, none⟩)), (none, undef)] : List (Option Tmp × Value))) g) 8 = .pointer (some ⟨kb, 0, none⟩) := fun g => rfl
  have vv9 : ∀ g, vals ((fun g : Unit => ([(some 4, .pointer (some ⟨kb, 0, none⟩)), (some 5, .pointer (some ⟨kb, 0, none⟩)), (some 6, .pointer (some ⟨kb, 0, none⟩)), (some 7, v0), (some 8, .iface 55 (.agg #[.string (bas x.name), .int .i64 (x.num : Nat)])), (some 9, .agg #[.string (bas x.name), .int .i64 (x.num : Nat)]), (some 10, .slice (some ⟨w.heap.size, 0, none⟩) 1 1), (some 11, v1), (some 12, .pointer (some ⟨kb, 0, none⟩)), (none, undef)] : List (Option Tmp × Value))) g) 9 = undef := fun g => rfl
  refine region_laidg hmix (by kernel_rfl) 13 rfl (by kernel_rfl) () ((fun g : Unit => ([(some 4, .pointer (some ⟨kb, 0, none⟩)), (some 5, .pointer (some ⟨kb, 0, none⟩)), (some 6, .pointer (some ⟨kb, 0, none⟩)), (some 7, v0), (some 8, .iface 55 (.agg #[.string (bas x.name), .int .i64 (x.num : Nat)])), (some 9, .agg #[.string (bas x.name), .int .i64 (x.num : Nat)]), (some 10, .slice (some ⟨w.heap.size, 0, none⟩) 1 1), (some 11, v1), (some 12, .pointer (some ⟨kb, 0, none⟩)), (none, undef)] : List (Option Tmp × Value)))) (fun g => rfl) (fun (g : Unit) b W => W = if b 9 = true then W3 else if b 7 = true then W2 else if b 6 = true then W1 else w.drew) rfl ?_ ?_
  · intro g b W io o a hS hcl ho hb hd ev kp yl
    match io with
    | 0 =>
      simp only [List.getElem?_toArray, List.getElem?_cons_zero, Option.some.injEq] at ho
      subst ho
      have e0 : a.tmps[0]?.getD undef = .pointer (some ⟨kb, 0, none⟩) := kp 0 (none_till (by kernel_rfl))
      refine doesg_value rfl (by intro c h; cases h) (v := .pointer (some ⟨kb, 0, none⟩)) (w' := W) ?_ ⟨g, fun _ _ => rfl, (vv0 g).symm, ?_⟩
      · simp [execOp, go_sem, e0]
      · simpa [did] using hS
    | 1 =>
      simp only [List.getElem?_toArray, List.getElem?_cons_zero, List.getElem?_cons_succ, Option.some.injEq] at ho
      subst ho
      have e0 : a.tmps[0]?.getD undef = .pointer (some ⟨kb, 0, none⟩) := kp 0 (none_till (by kernel_rfl))
      refine doesg_value rfl (by intro c h; cases h) (v := .pointer (some ⟨kb, 0, none⟩)) (w' := W) ?_ ⟨g, fun _ _ => rfl, (vv1 g).symm, ?_⟩
      · simp [execOp, go_sem, e0]
      · simpa [did] using hS
    | 2 =>
      simp only [List.getElem?_toArray, List.getElem?_cons_zero, List.getElem?_cons_succ, Option.some.injEq] at ho
      subst ho
      have p1 : b 1 = true := hd ⟨1, .data⟩ (by simp) rfl
      have e5 := (ev 1 5 rfl p1).trans (vv1 g)
      refine doesg_value rfl (by intro c h; cases h) (v := .pointer (some ⟨kb, 0, none⟩)) (w' := W) ?_ ⟨g, fun _ _ => rfl, (vv2 g).symm, ?_⟩
      · simp [execOp, go_sem, e5]
      · simpa [did] using hS
    | 3 =>
      simp only [List.getElem?_toArray, List.getElem?_cons_zero, List.getElem?_cons_succ, Option.some.injEq] at ho
      subst ho
      have p2 : b 2 = true := hd ⟨2, .data⟩ (by simp) rfl
      have e6 := (ev 2 6 rfl p2).trans (vv2 g)
      have h97 : b 9 = true → b 7 = true := fun h => hcl 9 _ rfl h ⟨7, .data⟩ (by simp) rfl
      have h7 : b 7 = false := by cases h : b 7; rfl; rw [hcl 7 _ rfl h ⟨3, .data⟩ (by simp) rfl] at hb; cases hb
      have h9 : b 9 = false := by cases h : b 9; rfl; rw [h97 h] at h7; cases h7
      rw [h9, h7] at hS
      have hl : W.cell? ⟨kb, 0, none⟩ = some v0 := by (rw [hS]; cases b 6; exact c0; exact c1)
      refine doesg_value rfl (by intro c h; cases h) (v := v0) (w' := W) ?_ ⟨g, fun _ _ => rfl, (vv3 g).symm, ?_⟩
      · simp [execOp, go_sem, e6, hl]
      · simpa [did, h9, h7] using hS
    | 4 =>
      simp only [List.getElem?_toArray, List.getElem?_cons_zero, List.getElem?_cons_succ, Option.some.injEq] at ho
      subst ho
      have e1 : a.tmps[1]?.getD undef = .iface 55 (.agg #[.string (bas x.name), .int .i64 (x.num : Nat)]) := kp 1 (none_till (by kernel_rfl))
      refine doesg_value rfl (by intro c h; cases h) (v := .iface 55 (.agg #[.string (bas x.name), .int .i64 (x.num : Nat)])) (w' := W) ?_ ⟨g, fun _ _ => rfl, (vv4 g).symm, ?_⟩
      · simp [execOp, go_sem, e1]
      · simpa [did] using hS
    | 5 =>
      simp only [List.getElem?_toArray, List.getElem?_cons_zero, List.getElem?_cons_succ, Option.some.injEq] at ho
      subst ho
      have p4 : b 4 = true := hd ⟨4, .data⟩ (by simp) rfl
      have e8 := (ev 4 8 rfl p4).trans (vv4 g)
      refine doesg_value rfl (by intro c h; cases h) (v := .agg #[.string (bas x.name), .int .i64 (x.num : Nat)]) (w' := W) ?_ ⟨g, fun _ _ => rfl, (vv5 g).symm, ?_⟩
      · simp [execOp, go_sem, e8, hta]
      · simpa [did] using hS
    | 6 =>
      simp only [List.getElem?_toArray, List.getElem?_cons_zero, List.getElem?_cons_succ, Option.some.injEq] at ho
      subst ho
      have p5 : b 5 = true := hd ⟨5, .data⟩ (by simp) rfl
      have e9 := (ev 5 9 rfl p5).trans (vv5 g)
      have h97 : b 9 = true → b 7 = true := fun h => hcl 9 _ rfl h ⟨7, .data⟩ (by simp) rfl
      have h7 : b 7 = false := by cases h : b 7; rfl; rw [hcl 7 _ rfl h ⟨6, .data⟩ (by simp) rfl] at hb; cases hb
      have h9 : b 9 = false := by cases h : b 9; rfl; rw [h97 h] at h7; cases h7
      rw [h9, h7, hb] at hS
      have hW : W = w.drew := hS
      subst hW
      refine doesg_value rfl (by intro c h; cases h) (v := .slice (some ⟨w.heap.size, 0, none⟩) 1 1) (w' := W1) ?_ ⟨g, fun _ _ => rfl, (vv6 g).symm, ?_⟩
      · simp [execOp, go_sem, e9, hW1]
      · simp [did, h9, h7]
    | 7 =>
      simp only [List.getElem?_toArray, List.getElem?_cons_zero, List.getElem?_cons_succ, Option.some.injEq] at ho
      subst ho
      have p3 : b 3 = true := hd ⟨3, .data⟩ (by simp) rfl
      have p6 : b 6 = true := hd ⟨6, .data⟩ (by simp) rfl
      have e7 := (ev 3 7 rfl p3).trans (vv3 g)
      have e10 := (ev 6 10 rfl p6).trans (vv6 g)
      have h97 : b 9 = true → b 7 = true := fun h => hcl 9 _ rfl h ⟨7, .data⟩ (by simp) rfl
      have h9 : b 9 = false := by cases h : b 9; rfl; rw [h97 h] at hb; cases hb
      rw [h9, hb, p6] at hS
      have hW : W = W1 := hS
      subst hW
      have q7 : a.eval (.tmp 7) = v0 := by simp [go_sem, e7]
      have q10 : a.eval (.tmp 10) = .slice (some ⟨w.heap.size, 0, none⟩) 1 1 := by simp [go_sem, e10]
      refine doesg_value rfl (by intro c h; cases h) (v := v1) (w' := W2) ?_ ⟨g, fun _ _ => rfl, (vv7 g).symm, ?_⟩
      · simp only [execOp, resolve, invoke, builtin, Sem.run_bind, Sem.run_pure, Result.andThen_ok, List.map_toArray, List.map_cons, List.map_nil, q7, q10, hrun]
      · simp [did, h9]
    | 8 =>
      simp only [List.getElem?_toArray, List.getElem?_cons_zero, List.getElem?_cons_succ, Option.some.injEq] at ho
      subst ho
      have p0 : b 0 = true := hd ⟨0, .data⟩ (by simp) rfl
      have e4 := (ev 0 4 rfl p0).trans (vv0 g)
      refine doesg_value rfl (by intro c h; cases h) (v := .pointer (some ⟨kb, 0, none⟩)) (w' := W) ?_ ⟨g, fun _ _ => rfl, (vv8 g).symm, ?_⟩
      · simp [execOp, go_sem, e4]
      · simpa [did] using hS
    | 9 =>
      simp only [List.getElem?_toArray, List.getElem?_cons_zero, List.getElem?_cons_succ, Option.some.injEq] at ho
      subst ho
      have p8 : b 8 = true := hd ⟨8, .data⟩ (by simp) rfl
      have p7 : b 7 = true := hd ⟨7, .data⟩ (by simp) rfl
      have e12 := (ev 8 12 rfl p8).trans (vv8 g)
      have e11 := (ev 7 11 rfl p7).trans (vv7 g)
      rw [hb, p7] at hS
      have hW : W = W2 := hS
      subst hW
      refine doesg_skip rfl (by intro c h; cases h) (w' := W3) ?_ ⟨g, fun _ _ => rfl, (vv9 g).symm, ?_⟩
      · simp [execOp, go_sem, e12, e11, c2, f2, hW3, hv1]
      · exact by simp [did]
    | k + 10 => simp at ho
  · intro g b' W hS hall
    have h9 := hall 9 (by decide)
    rw [if_pos h9] at hS
    subst hS
    simp only [putAll, List.setIfInBounds_toArray, List.set_cons_zero, List.set_cons_succ]
    go_end0
    exact ⟨rfl, ⟨_, H3.out.1⟩, H3.out.2⟩

end Go.Proofs.YtdocablbkafkiaaDoor.Cd
