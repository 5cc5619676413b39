/-
  FdsAll of the law: what its loop holds, and a contract for each of its calls.
-/
import Derived.Test.YtmbkheaghiojeaaHdh
namespace Go.Proofs.Ytmbkheaghiojeaa.Ck
open Go.RowKit

/-- What the loop of FdsAll holds: the program's table, the document's, and that they say the same. -/
structure FI (w0 w : World) (c rc : Nat) (F G : Nat → FE) : Prop where
  td : ∃ m I, TD w c F m I
  rm : RM w rc G
  ne : c ≠ rc
  lk : ∀ k, k < 32 → (F k).op = (G k).op ∧ ((F k).op = true → F k = G k)
  low : Below w0.heap.size w0 w
  cl : w0.heap.size ≤ c
  rl : w0.heap.size ≤ rc
/-- One step. -/
structure OpV where
  kd : Int
  fd : Int
  n : Int
  t : Int
  nd : Int
def OpV.cells (x : OpV) : Array Value := #[.int .i64 x.kd, .int .i64 x.fd, .int .i64 x.n, .int .i64 x.t, .int .i64 x.nd]
/-- And the step's own block. -/
structure FO (w0 w : World) (c rc ob : Nat) (F G : Nat → FE) (x : OpV) : Prop where
  fi : FI w0 w c rc F G
  box : w.heap[ob]? = some (.cells x.cells 35 (0, 0))
  oc : ob ≠ c
  orr : ob ≠ rc

theorem FI.below {w0 w w' : World} {c rc : Nat} {F G : Nat → FE} (h : FI w0 w c rc F G) (hb : Below w.heap.size w w') : FI w0 w' c rc F G := by
  obtain ⟨m, I, ht⟩ := h.td
  exact ⟨⟨m, I, ht.below hb⟩, h.rm.below hb, h.ne, h.lk, h.low.trans (hb.mono h.low.size), h.cl, h.rl⟩
theorem FI.lt {w0 w : World} {c rc : Nat} {F G : Nat → FE} (h : FI w0 w c rc F G) : c < w.heap.size ∧ rc < w.heap.size := by
  obtain ⟨m, I, ht⟩ := h.td
  exact ⟨ht.mem.lt, h.rm.lt⟩
theorem FO.below {w0 w w' : World} {c rc ob : Nat} {F G : Nat → FE} {x : OpV} (h : FO w0 w c rc ob F G x) (hb : Below w.heap.size w w') : FO w0 w' c rc ob F G x :=
  ⟨h.fi.below hb, (hb.block _ (block_lt h.box)).trans h.box, h.oc, h.orr⟩
theorem FO.cell {w0 w : World} {c rc ob : Nat} {F G : Nat → FE} {x : OpV} (h : FO w0 w c rc ob F G x) :
    w.cell? ⟨ob, 0, none⟩ = some (.int .i64 x.kd) ∧ w.cell? ⟨ob, 1, none⟩ = some (.int .i64 x.fd) ∧ w.cell? ⟨ob, 2, none⟩ = some (.int .i64 x.n) ∧ w.cell? ⟨ob, 3, none⟩ = some (.int .i64 x.t) ∧ w.cell? ⟨ob, 4, none⟩ = some (.int .i64 x.nd) :=
  ⟨cellOf h.box 0, cellOf h.box 1, cellOf h.box 2, cellOf h.box 3, cellOf h.box 4⟩
theorem isO_lk {w0 w : World} {c rc : Nat} {F G : Nat → FE} (h : FI w0 w c rc F G) (fd : Int) : isO G fd = isO F fd := by
  unfold isO
  by_cases h0 : 0 ≤ fd ∧ fd < 32
  · rw [(h.lk fd.toNat (by omega)).1]
  · by_cases h1 : 0 ≤ fd
    · have : ¬ fd < 32 := by omega
      simp [this]
    · simp [h1]

theorem FO.is {w0 w : World} {c rc ob : Nat} {F G : Nat → FE} {x : OpV} (h : FO w0 w c rc ob F G x) :
    Calls Try.prog 7 #[ep rc, .int .i64 x.fd] w fun e w' => e = .returned (.bool (isO F x.fd)) ∧ w' = w := by
  rw [← isO_lk h.fi]
  exact rdIs_any rc G x.fd w h.fi.rm

/-- Between both Opens. -/
structure MidO (w0 w : World) (c rc ob : Nat) (F G : Nat → FE) (x : OpV) (r er : Int) : Prop where
  box : w.heap[ob]? = some (.cells x.cells 35 (0, 0))
  oc : ob ≠ c
  orr : ob ≠ rc
  rm : RM w rc G
  ne : c ≠ rc
  lk : ∀ k, k < 32 → (F k).op = (G k).op ∧ ((F k).op = true → F k = G k)
  low : Below w0.heap.size w0 w
  cl : w0.heap.size ≤ c
  rl : w0.heap.size ≤ rc
  res : (∃ (a m : Nat) (I : List Nat), a < 32 ∧ (F a).op = false ∧ (∀ k, k < a → (F k).op = true) ∧ r = a ∧ er = 0 ∧ TD w c (updF F a ⟨true, x.t, x.nd, x.n, 0⟩) m I) ∨
    (r = 0 ∧ er = 23 ∧ (∀ k, k < 32 → (F k).op = true) ∧ ∃ m I, TD w c F m I)
theorem MidO.cell {w0 w : World} {c rc ob : Nat} {F G : Nat → FE} {x : OpV} {r er : Int} (h : MidO w0 w c rc ob F G x r er) :
    w.cell? ⟨ob, 0, none⟩ = some (.int .i64 x.kd) ∧ w.cell? ⟨ob, 1, none⟩ = some (.int .i64 x.fd) ∧ w.cell? ⟨ob, 2, none⟩ = some (.int .i64 x.n) ∧ w.cell? ⟨ob, 3, none⟩ = some (.int .i64 x.t) ∧ w.cell? ⟨ob, 4, none⟩ = some (.int .i64 x.nd) :=
  ⟨cellOf h.box 0, cellOf h.box 1, cellOf h.box 2, cellOf h.box 3, cellOf h.box 4⟩

theorem FO.openA {w0 w : World} {c rc ob : Nat} {F G : Nat → FE} {x : OpV} (h : FO w0 w c rc ob F G x) :
    Calls Try.prog 8 #[ep c, .agg #[.int .i64 x.t, .int .i64 x.nd], .int .i64 x.n] w fun e w' => ∃ r er, e = .returned (.tuple #[.int .i64 r, .int .i64 er]) ∧ MidO w0 w' c rc ob F G x r er := by
  obtain ⟨m, I, ht⟩ := h.fi.td
  by_cases hr : m - I.length < 32
  · refine (fdOpen_any c F m I x.t x.nd x.n w ht hr).mono ?_
    rintro e w' ⟨a, m', I', rfl, h3, ha, hf, hl, ho⟩
    exact ⟨a, 0, rfl, (ho.block _ (block_lt h.box) h.oc).trans h.box, h.oc, h.orr, h.fi.rm.kept (ho.block _ h.fi.rm.lt (Ne.symm h.fi.ne)), h.fi.ne, h.fi.lk, h.fi.low.trans (ho.low h.fi.low.size h.fi.cl), h.fi.cl, h.fi.rl, .inl ⟨a, m', I', ha, hf, hl, rfl, rfl, h3⟩⟩
  · refine (fdOpen_full c F m I x.t x.nd x.n w ht hr).mono ?_
    rintro e w' ⟨rfl, hb⟩
    refine ⟨0, 23, rfl, (hb.block _ (block_lt h.box)).trans h.box, h.oc, h.orr, h.fi.rm.below hb, h.fi.ne, h.fi.lk, h.fi.low.trans (hb.mono h.fi.low.size), h.fi.cl, h.fi.rl, .inr ⟨rfl, rfl, fun k hk => ?_, m, I, ht.below hb⟩⟩
    cases hf : (F k).op
    · have := cntO_some hk hf
      rw [ht.count] at hr
      exact absurd this hr
    · rfl

theorem MidO.openB {w0 w : World} {c rc ob : Nat} {F G : Nat → FE} {x : OpV} {r er : Int} (h : MidO w0 w c rc ob F G x r er) :
    Calls Try.prog 9 #[ep rc, .agg #[.int .i64 x.t, .int .i64 x.nd], .int .i64 x.n] w fun e w' => e = .returned (.tuple #[.int .i64 r, .int .i64 er]) ∧ ∃ F' G', FO w0 w' c rc ob F' G' x := by
  refine (rdOpen_any rc G x.t x.nd x.n w h.rm).mono ?_
  rintro e w' (⟨b, hb, hgf, hgl, rfl, hR, ho⟩ | ⟨hfull, rfl, hb⟩)
  · rcases h.res with ⟨a, m, I, ha, hf, hl, rfl, rfl, ht⟩ | ⟨rfl, rfl, hF, _⟩
    · obtain rfl : a = b := by
        have h1 : ¬ a < b := fun z => by have := hgl a z; rw [← (h.lk a ha).1, hf] at this; exact absurd this (by simp)
        have h2 : ¬ b < a := fun z => by have := hl b z; rw [(h.lk b hb).1, hgf] at this; exact absurd this (by simp)
        omega
      refine ⟨rfl, updF F a ⟨true, x.t, x.nd, x.n, 0⟩, updF G a ⟨true, x.t, x.nd, x.n, 0⟩, ⟨⟨m, I, ht.kept (ho.block _ ht.mem.lt h.ne)⟩, hR, h.ne, fun k hk => ?_, h.low.trans (ho.low h.low.size h.rl), h.cl, h.rl⟩, (ho.block _ (block_lt h.box) h.orr).trans h.box, h.oc, h.orr⟩
      by_cases z : k = a
      · subst z
        rw [show updF F k ⟨true, x.t, x.nd, x.n, 0⟩ k = ⟨true, x.t, x.nd, x.n, 0⟩ from if_pos rfl, show updF G k ⟨true, x.t, x.nd, x.n, 0⟩ k = ⟨true, x.t, x.nd, x.n, 0⟩ from if_pos rfl]
        exact ⟨rfl, fun _ => rfl⟩
      · rw [show updF F a ⟨true, x.t, x.nd, x.n, 0⟩ k = F k from if_neg z, show updF G a ⟨true, x.t, x.nd, x.n, 0⟩ k = G k from if_neg z]
        exact h.lk k hk
    · have := hF b hb
      rw [(h.lk b hb).1, hgf] at this
      exact absurd this (by simp)
  · rcases h.res with ⟨a, m, I, ha, hf, hl, rfl, rfl, ht⟩ | ⟨rfl, rfl, hF, m, I, ht⟩
    · have := hfull a ha
      rw [← (h.lk a ha).1, hf] at this
      exact absurd this (by simp)
    · exact ⟨rfl, F, G, ⟨⟨m, I, ht.below hb⟩, h.rm.below hb, h.ne, h.lk, h.low.trans (hb.mono h.low.size), h.cl, h.rl⟩, (hb.block _ (block_lt h.box)).trans h.box, h.oc, h.orr⟩

/-- Ahead of a store into the document's table. -/
structure MidS (w0 w : World) (c rc ob : Nat) (G : Nat → FE) (x : OpV) (k : Nat) (off : Nat) (v : Value) : Prop where
  box : w.heap[ob]? = some (.cells x.cells 35 (0, 0))
  five : Five w rc k (G k)
  done : ∃ F' G', FO w0 (w.setCell ⟨rc, k * 5 + off, none⟩ v).drew c rc ob F' G' x
theorem MidS.cell {w0 w : World} {c rc ob : Nat} {G : Nat → FE} {x : OpV} {k off : Nat} {v : Value} (h : MidS w0 w c rc ob G x k off v) :
    w.cell? ⟨ob, 0, none⟩ = some (.int .i64 x.kd) ∧ w.cell? ⟨ob, 1, none⟩ = some (.int .i64 x.fd) ∧ w.cell? ⟨ob, 2, none⟩ = some (.int .i64 x.n) ∧ w.cell? ⟨ob, 3, none⟩ = some (.int .i64 x.t) ∧ w.cell? ⟨ob, 4, none⟩ = some (.int .i64 x.nd) :=
  ⟨cellOf h.box 0, cellOf h.box 1, cellOf h.box 2, cellOf h.box 3, cellOf h.box 4⟩

theorem FO.closeYes {w0 w : World} {c rc ob : Nat} {F G : Nat → FE} {x : OpV} (h : FO w0 w c rc ob F G x) {k : Nat} (hx : x.fd = k) (hk : k < 32) (hop : (F k).op = true) :
    Calls Try.prog 10 #[ep c, .int .i64 x.fd] w fun e w' => e = .returned (.int .i64 0) ∧ MidS w0 w' c rc ob G x k 0 (.bool false) := by
  obtain ⟨m, I, ht⟩ := h.fi.td
  rw [hx]
  refine (fdClose_any c F m I k w ht hk hop).mono ?_
  rintro e w' ⟨rfl, I', hs⟩
  have hrm : RM w' rc G := h.fi.rm.kept (hs.on.block _ h.fi.rm.lt (Ne.symm h.fi.ne))
  have hbx := (hs.on.block _ (block_lt h.box) h.oc).trans h.box
  have h1 := hrm.setOp hk false
  refine ⟨rfl, hbx, hrm.five hk, updF F k zE, updF G k { G k with op := false }, ⟨⟨m, I', (hs.td.kept (Below.heap_setCell _ _ _ _ h.fi.ne)).drew⟩, h1.below (bdrew _), h.fi.ne, fun j hj => ?_, ?_, h.fi.cl, h.fi.rl⟩, (Below.heap_setCell _ _ _ _ h.orr).trans hbx, h.oc, h.orr⟩
  · by_cases z : j = k
    · subst z
      rw [show updF F j zE j = zE from if_pos rfl, show updF G j { G j with op := false } j = { G j with op := false } from if_pos rfl]
      exact ⟨rfl, fun e => absurd e (by simp)⟩
    · rw [show updF F k zE j = F j from if_neg z, show updF G k { G k with op := false } j = G j from if_neg z]
      exact h.fi.lk j hj
  · exact (h.fi.low.trans (hs.on.low h.fi.low.size h.fi.cl)).trans ((((OnC.set rc _ _ _).drew).low (by have := h.fi.low.size; have := hs.on.size; omega) h.fi.rl))

theorem FO.closeNo {w0 w : World} {c rc ob : Nat} {F G : Nat → FE} {x : OpV} (h : FO w0 w c rc ob F G x) (ho : isO F x.fd = false) :
    Calls Try.prog 10 #[ep c, .int .i64 x.fd] w fun e w' => e = .returned (.int .i64 9) ∧ w' = w := by
  obtain ⟨m, I, ht⟩ := h.fi.td
  exact fdClose_no c F m I x.fd w ht ho

theorem FO.seekNo {w0 w : World} {c rc ob : Nat} {F G : Nat → FE} {x : OpV} (h : FO w0 w c rc ob F G x) {r : Int} (hr : seekE F x.fd x.n = r) (h0 : r ≠ 0) :
    Calls Try.prog 11 #[ep c, .int .i64 x.fd, .int .i64 x.n] w fun e w' => e = .returned (.int .i64 r) ∧ FO w0 w' c rc ob F G x := by
  obtain ⟨m, I, ht⟩ := h.fi.td
  refine (fdSeek_any c F m I x.fd x.n w ht).mono ?_
  rintro e w' ⟨rfl, h3, ho⟩
  rw [hr]
  have hF : seekF F x.fd x.n = F := by
    unfold seekF
    rw [hr, if_neg h0]
  rw [hF] at h3
  exact ⟨rfl, ⟨⟨m, I, h3⟩, h.fi.rm.kept (ho.block _ h.fi.rm.lt (Ne.symm h.fi.ne)), h.fi.ne, h.fi.lk, h.fi.low.trans (ho.low h.fi.low.size h.fi.cl), h.fi.cl, h.fi.rl⟩, (ho.block _ (block_lt h.box) h.oc).trans h.box, h.oc, h.orr⟩

theorem FO.seekYes {w0 w : World} {c rc ob : Nat} {F G : Nat → FE} {x : OpV} (h : FO w0 w c rc ob F G x) {k : Nat} (hx : x.fd = k) (hk : k < 32) (hop : (F k).op = true) (h1 : ¬ x.n < 0) (h2 : ¬ 1073741824 < x.n) :
    Calls Try.prog 11 #[ep c, .int .i64 x.fd, .int .i64 x.n] w fun e w' => e = .returned (.int .i64 0) ∧ MidS w0 w' c rc ob G x k 4 (.int .i64 x.n) := by
  obtain ⟨m, I, ht⟩ := h.fi.td
  have hE : seekE F x.fd x.n = 0 := by
    have : isO F x.fd = true := by rw [hx, isO_nat hk, hop]
    simp [seekE, this, h1, h2]
  have hF : seekF F x.fd x.n = updF F k { F k with at' := x.n } := by
    unfold seekF
    rw [hE, if_pos rfl, hx]
    rfl
  refine (fdSeek_any c F m I x.fd x.n w ht).mono ?_
  rintro e w' ⟨rfl, h3, ho⟩
  rw [hF] at h3
  rw [hE]
  have hrm : RM w' rc G := h.fi.rm.kept (ho.block _ h.fi.rm.lt (Ne.symm h.fi.ne))
  have hbx := (ho.block _ (block_lt h.box) h.oc).trans h.box
  have h4 := hrm.setAt hk x.n
  refine ⟨rfl, hbx, hrm.five hk, _, updF G k { G k with at' := x.n }, ⟨⟨m, I, (h3.kept (Below.heap_setCell _ _ _ _ h.fi.ne)).drew⟩, h4.below (bdrew _), h.fi.ne, fun j hj => ?_, ?_, h.fi.cl, h.fi.rl⟩, (Below.heap_setCell _ _ _ _ h.orr).trans hbx, h.oc, h.orr⟩
  · by_cases z : j = k
    · subst z
      rw [show updF F j { F j with at' := x.n } j = { F j with at' := x.n } from if_pos rfl, show updF G j { G j with at' := x.n } j = { G j with at' := x.n } from if_pos rfl]
      refine ⟨(h.fi.lk j hj).1, fun e => ?_⟩
      rw [(h.fi.lk j hj).2 e]
    · rw [show updF F k { F k with at' := x.n } j = F j from if_neg z, show updF G k { G k with at' := x.n } j = G j from if_neg z]
      exact h.fi.lk j hj
  · exact (h.fi.low.trans (ho.low h.fi.low.size h.fi.cl)).trans ((((OnC.set rc _ _ _).drew).low (by have := h.fi.low.size; have := ho.size; omega) h.fi.rl))

theorem FO.clear {w0 w : World} {c rc ob : Nat} {F G : Nat → FE} {x : OpV} (h : FO w0 w c rc ob F G x) :
    Calls Try.prog 12 #[ep c] w fun e w' => e = .returned (.tuple #[]) ∧ FO w0 (w'.alloc (.cells zR 33)) c w'.heap.size ob (fun _ => zE) (fun _ => zE) x := by
  obtain ⟨m, I, ht⟩ := h.fi.td
  refine (fdClear_any c F m I w ht).mono ?_
  rintro e w' ⟨rfl, h3, ho⟩
  have hb := (below_new w' (.cells zR 33)).out
  have hbx := (ho.block _ (block_lt h.box) h.oc).trans h.box
  have hlow := h.fi.low.trans (ho.low h.fi.low.size h.fi.cl)
  exact ⟨rfl, ⟨⟨0, [], h3.below hb⟩, ⟨zR, new_at _ _, CR.zero⟩, by have := h3.mem.lt; omega, fun k _ => ⟨rfl, fun _ => rfl⟩, hlow.trans (hb.mono hlow.size), h.fi.cl, hlow.size⟩, (hb.block _ (block_lt hbx)).trans hbx, h.oc, by have := block_lt hbx; omega⟩

theorem FO.getYes {w0 w : World} {c rc ob : Nat} {F G : Nat → FE} {x : OpV} (h : FO w0 w c rc ob F G x) {k : Nat} (hx : x.fd = k) (hk : k < 32) (hop : (F k).op = true) :
    Calls Try.prog 13 #[ep c, .int .i64 x.fd] w fun e w' => e = .returned (.tuple #[.agg #[.int .i64 (G k).t, .int .i64 (G k).n], .int .i64 (G k).fl, .int .i64 (G k).at', .int .i64 0]) ∧ Below w.heap.size w w' := by
  obtain ⟨m, I, ht⟩ := h.fi.td
  rw [hx, ← (h.fi.lk k hk).2 hop]
  exact fdGet_yes c F m I k w ht hk hop
theorem FO.getNo {w0 w : World} {c rc ob : Nat} {F G : Nat → FE} {x : OpV} (h : FO w0 w c rc ob F G x) (ho : isO F x.fd = false) :
    Calls Try.prog 13 #[ep c, .int .i64 x.fd] w fun e w' => e = .returned (.tuple #[.agg #[.int .i64 0, .int .i64 0], .int .i64 0, .int .i64 0, .int .i64 9]) ∧ Below w.heap.size w w' := by
  obtain ⟨m, I, ht⟩ := h.fi.td
  exact fdGet_no c F m I x.fd w ht ho
theorem FO.len {w0 w : World} {c rc ob : Nat} {F G : Nat → FE} {x : OpV} (h : FO w0 w c rc ob F G x) :
    Calls Try.prog 15 #[ep c] w fun e w' => e = .returned (.int .i64 (cntO F 32 : Nat)) ∧ Below w.heap.size w w' := by
  obtain ⟨m, I, ht⟩ := h.fi.td
  rw [← ht.count]
  exact fdLen_any c F m I w ht
theorem FO.room {w0 w : World} {c rc ob : Nat} {F G : Nat → FE} {x : OpV} (h : FO w0 w c rc ob F G x) :
    Calls Try.prog 17 #[ep c] w fun e w' => e = .returned (.bool (decide ((cntO F 32 : Nat) < (32 : Int)))) ∧ Below w.heap.size w w' := by
  obtain ⟨m, I, ht⟩ := h.fi.td
  have e : decide (((cntO F 32 : Nat) : Int) < (32 : Int)) = decide (m - I.length < 32) := by
    rw [ht.count]
    congr 1
    exact propext ⟨fun h => by omega, fun h => by omega⟩
  rw [e]
  exact fdRoom_any c F m I w ht
theorem FO.rlen {w0 w : World} {c rc ob : Nat} {F G : Nat → FE} {x : OpV} (h : FO w0 w c rc ob F G x) :
    Calls Try.prog 16 #[ep rc] w fun e w' => e = .returned (.int .i64 (cntO F 32 : Nat)) ∧ w' = w := by
  rw [cntO_congr fun k hk => (h.fi.lk k hk).1]
  exact rdLen_any rc G w h.fi.rm

end Go.Proofs.Ytmbkheaghiojeaa.Ck
