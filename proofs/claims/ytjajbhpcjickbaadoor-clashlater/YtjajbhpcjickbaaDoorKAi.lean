/-
  firstOf and Shown of the program.
-/
import Derived.Test.YtjajbhpcjickbaaDoorKAh

namespace Go.Proofs.YtjajbhpcjickbaaDoor.Ck.Sh
open Go.RowKit Go.Lib Go.Maps

attribute [local go_sem] Oper.semAt_some

/-- IDs in a row; texts in a row. -/
def Ids (w : World) (p : Option Addr) (ids : List (Int × Int)) : Prop := ∀ (j : Nat) (x : Int × Int), ids[j]? = some x → ∃ g o, p = some ⟨g, o, none⟩ ∧ w.cell? ⟨g, o + j * 2, none⟩ = some (.int .i64 x.1) ∧ w.cell? ⟨g, o + j * 2 + 1, none⟩ = some (.int .i64 x.2)
def Nms (w : World) (p : Option Addr) (names : List (List UInt8)) : Prop := ∀ (j : Nat) (x : List UInt8), names[j]? = some x → ∃ g o, p = some ⟨g, o, none⟩ ∧ w.cell? ⟨g, o + j, none⟩ = some (.string (bas x))
theorem Ids.below {w w' : World} {p : Option Addr} {ids : List (Int × Int)} (h : Ids w p ids) (hb : Below w.heap.size w w') : Ids w' p ids := fun j x hx => by
  obtain ⟨g, o, e, h1, h2⟩ := h j x hx
  exact ⟨g, o, e, cell_kept h1 hb, cell_kept h2 hb⟩
theorem Nms.below {w w' : World} {p : Option Addr} {names : List (List UInt8)} (h : Nms w p names) (hb : Below w.heap.size w w') : Nms w' p names := fun j x hx => by
  obtain ⟨g, o, e, h1⟩ := h j x hx
  exact ⟨g, o, e, cell_kept h1 hb⟩
theorem idA_of {ids : List (Int × Int)} {i : Nat} (h : i < ids.length) : ids[i]? = some (idA ids i) := by
  unfold idA
  rw [List.getD, List.getElem?_eq_getElem h]; rfl
theorem nmA_of {names : List (List UInt8)} {i : Nat} (h : i < names.length) : names[i]? = some (nmA names i) := by
  unfold nmA
  rw [List.getD, List.getElem?_eq_getElem h]; rfl
theorem map_new (w : World) : MapS (w.alloc (.map #[] 0)) w.heap.size [] := ⟨#[], 0, heap_alloc_new w _, rfl⟩
theorem below_only {w0 w w' : World} {b : Nat} (h : Below w0.heap.size w0 w) (ho : Only (· = b) w w') (hb : w0.heap.size ≤ b) : Below w0.heap.size w0 w' :=
  ⟨ho.os.trans h.os, ho.tape.trans h.tape, ho.output.trans h.output, Nat.le_trans h.size ho.size, fun i hi => (ho.block i (Nat.lt_of_lt_of_le hi h.size) (by omega)).trans (h.block i hi)⟩

/-- A place is laid at a text. -/
theorem wpList_putS {w : World} {ops : Array Oper} {rest : List Oper} {o : Oper} {a : Act} {Q : Exit → Act → World → Prop} (hgd : o.guard = none) (m x y : Operand) (ho : o.op = .mapUpdate 38 m x y)
    (mb j : Nat) (q : List UInt8) (E : List (List UInt8 × Nat)) (hm : a.eval m = .map (some mb)) (hx : a.eval x = .string (bas q)) (hy : a.eval y = .int .i64 (j : Nat)) (h : Hid (MapS w mb E))
    (hK : ∀ w' E', Hid (MapS w' mb E' ∧ (∀ x, atS E' x = if x = q then some j else atS E x) ∧ Only (· = mb) w w') → wpList Tryd.prog ops Q rest (a.put o.dst undef) w') : wpList Tryd.prog ops Q (o :: rest) a w := by
  obtain ⟨W, E', hr, h1, h2, h3, _⟩ := putS h.out q j
  refine wpList_plain hgd fun K hK' => ?_
  unfold Oper.wp execOp
  simp only [ho, hm, hx, hy, Sem.run_bind, Sem.run_pure, Result.andThen_ok, hr]
  exact hK' _ _ (hK W E' ⟨h1, h2, h3⟩)

set_option maxRecDepth 8000 in
set_option maxRecDepth 8000 in
set_option maxHeartbeats 2000000 in
theorem first_any (ids : List (Int × Int)) (names : List (List UInt8)) (p1 p2 : Option Addr) (n c1 c2 : Nat) (w : World) (h1 : Ids w p1 ids) (h2 : Nms w p2 names) (hn1 : n ≤ ids.length) (hn2 : n ≤ names.length) (hn : n < 1000000000000000) :
    Calls Tryd.prog 18 #[.slice p1 n c1, .slice p2 n c2] w fun e w' => ∃ E, e = .returned (.map (some w.heap.size)) ∧ Hid (MapS w' w.heap.size E ∧ FirstI ids names n E ∧ Below w.heap.size w w') := by
  have hmm := @run_makeMap Tryd.prog
  have H1 := Lib.hid h1
  have H2 := Lib.hid h2
  clear h1 h2
  go_enter Tryd.func18, Tryd.ntmps18
  go_wp2_with fail
  go_loopw [13] (fun ii wr => ∃ (i : Nat) (E : List (List UInt8 × Nat)), ii = .int .i64 i ∧ i ≤ n ∧ Hid (MapS wr w.heap.size E ∧ FirstI ids names i E ∧ Below w.heap.size w wr)) (fun ii _ => n - (RowKit.intOf ii).toNat)
  case atStart => exact ⟨0, [], rfl, Nat.zero_le _, map_new w, FirstI.nil _ _, (below_new w _).out⟩
  case round =>
    obtain ⟨i, E, rfl, hi, HI⟩ := hrel
    by_cases hlt : i < n
    · have hltI : (i : Int) < (n : Int) := by omega
      obtain ⟨g2, o2, rfl, hc2⟩ := (H2.out.below HI.out.2.2) i _ (nmA_of (by omega))
      obtain ⟨g1, o1, rfl, hc1, hc1'⟩ := (H1.out.below HI.out.2.2) i _ (idA_of (by omega))
      have HP : Hid (∀ p, p < n → wr.cell? ⟨g1, o1 + p * 2, none⟩ = some (.int .i64 (idA ids p).1) ∧ wr.cell? ⟨g1, o1 + p * 2 + 1, none⟩ = some (.int .i64 (idA ids p).2)) := fun p hp => by
        obtain ⟨g, o, e, h1, h2⟩ := (H1.out.below HI.out.2.2) p _ (idA_of (by omega))
        cases e
        exact ⟨h1, h2⟩
      have hlk := look_ok HI.out.1 (nmA names i)
      cases hq : atS E (nmA names i) with
      | none =>
        rw [hq] at hlk
        have hlk' : (Instr.lookup 38 (.map (some w.heap.size)) (.string (bas (nmA names i))) true).run Tryd.prog wr = .ok (.tuple #[.int .i64 0, .bool false]) wr := hlk
        have HQ := Lib.hid hq
        clear hlk hq
        go_wp2_with fail
        go_quiet (fail)
        go_wp2_with (refine wpList_putS rfl _ _ _ rfl w.heap.size i (nmA names i) E rfl rfl rfl (Lib.hid HI.out.1) ?_; intro w4 E' H4)
        exact ⟨⟨i + 1, E', by simp, by omega, H4.out.1, HI.out.2.1.put H4.out.2.1 (fun p hp => by rw [HQ.out] at hp; cases hp), below_only (below_then HI.out.2.2 (below_drewN wr _)) H4.out.2.2 (Nat.le_refl _)⟩, by simp [RowKit.intOf]; omega⟩
      | some p =>
        rw [hq] at hlk
        have hlk' : (Instr.lookup 38 (.map (some w.heap.size)) (.string (bas (nmA names i))) true).run Tryd.prog wr = .ok (.tuple #[.int .i64 (p : Nat), .bool true]) wr := hlk
        have hpn : p < n := by
          have := HI.out.2.1 (nmA names i)
          rw [hq] at this
          have := this.1
          omega
        have hpI : (p : Int) < (n : Int) := by omega
        obtain ⟨hcp, hcp'⟩ := HP.out p hpn
        have cl := fun W => less_any (idA ids i).1 (idA ids i).2 (idA ids p).1 (idA ids p).2 W
        have HLE : Hid (lessB (idA ids i).1 (idA ids i).2 (idA ids p).1 (idA ids p).2 = lsA (idA ids i) (idA ids p)) := rfl
        have HQ := Lib.hid hq
        rw [HLE.out] at cl
        clear hlk hq HP
        obtain ⟨t, ht⟩ : ∃ t, (idA ids i).1 = t := ⟨_, rfl⟩
        obtain ⟨u, hu⟩ : ∃ u, (idA ids i).2 = u := ⟨_, rfl⟩
        obtain ⟨t', ht'⟩ : ∃ t', (idA ids p).1 = t' := ⟨_, rfl⟩
        obtain ⟨u', hu'⟩ : ∃ u', (idA ids p).2 = u' := ⟨_, rfl⟩
        rw [ht, hu, ht', hu'] at cl
        rw [ht] at hc1
        rw [hu] at hc1'
        rw [ht'] at hcp
        rw [hu'] at hcp'
        clear ht hu ht' hu' HLE
        have HS : ∀ W W', (W.cell? ⟨g1, o1 + i * 2, none⟩ = some (.int .i64 t) ∧ W.cell? ⟨g1, o1 + i * 2 + 1, none⟩ = some (.int .i64 u) ∧ W.cell? ⟨g1, o1 + p * 2, none⟩ = some (.int .i64 t') ∧ W.cell? ⟨g1, o1 + p * 2 + 1, none⟩ = some (.int .i64 u') ∧ Hid (Below wr.heap.size wr W)) → Hid (Below W.heap.size W W') → W'.cell? ⟨g1, o1 + i * 2, none⟩ = some (.int .i64 t) ∧ W'.cell? ⟨g1, o1 + i * 2 + 1, none⟩ = some (.int .i64 u) ∧ W'.cell? ⟨g1, o1 + p * 2, none⟩ = some (.int .i64 t') ∧ W'.cell? ⟨g1, o1 + p * 2 + 1, none⟩ = some (.int .i64 u') ∧ Hid (Below wr.heap.size wr W') := fun W W' h1 h2 =>
          have hb := below_then h1.2.2.2.2.out h2.out
          ⟨cell_kept hc1 hb, cell_kept hc1' hb, cell_kept hcp hb, cell_kept hcp' hb, hb⟩
        have S1 : wr.drew.cell? ⟨g1, o1 + i * 2, none⟩ = some (.int .i64 t) ∧ wr.drew.cell? ⟨g1, o1 + i * 2 + 1, none⟩ = some (.int .i64 u) ∧ wr.drew.cell? ⟨g1, o1 + p * 2, none⟩ = some (.int .i64 t') ∧ wr.drew.cell? ⟨g1, o1 + p * 2 + 1, none⟩ = some (.int .i64 u') ∧ Hid (Below wr.heap.size wr wr.drew) := ⟨hc1, hc1', hcp, hcp', below_drewN wr 1⟩
        have S2 : wr.cell? ⟨g1, o1 + i * 2, none⟩ = some (.int .i64 t) ∧ wr.cell? ⟨g1, o1 + i * 2 + 1, none⟩ = some (.int .i64 u) ∧ wr.cell? ⟨g1, o1 + p * 2, none⟩ = some (.int .i64 t') ∧ wr.cell? ⟨g1, o1 + p * 2 + 1, none⟩ = some (.int .i64 u') ∧ Hid (Below wr.heap.size wr wr) := ⟨hc1, hc1', hcp, hcp', Below.refl _ _⟩
        have HF : ∀ W, (W.cell? ⟨g1, o1 + i * 2, none⟩ = some (.int .i64 t) ∧ W.cell? ⟨g1, o1 + i * 2 + 1, none⟩ = some (.int .i64 u) ∧ W.cell? ⟨g1, o1 + p * 2, none⟩ = some (.int .i64 t') ∧ W.cell? ⟨g1, o1 + p * 2 + 1, none⟩ = some (.int .i64 u') ∧ Hid (Below wr.heap.size wr W)) → Below wr.heap.size wr W := fun W hW => hW.2.2.2.2.out
        cases hls : lsA (idA ids i) (idA ids p) with
        | true =>
          rw [hls] at cl
          have HLS := Lib.hid hls
          clear hls
          go_wp2_with fail
          go_region_held3 (fun W => W.cell? ⟨g1, o1 + i * 2, none⟩ = some (.int .i64 t) ∧ W.cell? ⟨g1, o1 + i * 2 + 1, none⟩ = some (.int .i64 u) ∧ W.cell? ⟨g1, o1 + p * 2, none⟩ = some (.int .i64 t') ∧ W.cell? ⟨g1, o1 + p * 2 + 1, none⟩ = some (.int .i64 u') ∧ Hid (Below wr.heap.size wr W))
            (first | exact S1 | exact S2 | assumption | exact HS _ _ (by assumption) (by assumption))
            (first | (go_at_call 29; refine Calls_new (cl _) ?_; intro w3 HB3))
          have HW := Lib.hid (HF _ (by assumption))
          have HM := Lib.hid (HI.out.1.below HW.out)
          go_wp2_with (refine wpList_putS rfl _ _ _ rfl w.heap.size i (nmA names i) E rfl rfl rfl HM ?_; intro w4 E' H4)
          exact ⟨⟨i + 1, E', by simp, by omega, H4.out.1, HI.out.2.1.put H4.out.2.1 (fun p' hp' => by rw [HQ.out] at hp'; injection hp' with hp'; subst hp'; exact HLS.out), below_only (below_then HI.out.2.2 HW.out) H4.out.2.2 (Nat.le_refl _)⟩, by simp [RowKit.intOf]; omega⟩
        | false =>
          rw [hls] at cl
          have HLS := Lib.hid hls
          clear hls
          go_wp2_with fail
          go_region_held3 (fun W => W.cell? ⟨g1, o1 + i * 2, none⟩ = some (.int .i64 t) ∧ W.cell? ⟨g1, o1 + i * 2 + 1, none⟩ = some (.int .i64 u) ∧ W.cell? ⟨g1, o1 + p * 2, none⟩ = some (.int .i64 t') ∧ W.cell? ⟨g1, o1 + p * 2 + 1, none⟩ = some (.int .i64 u') ∧ Hid (Below wr.heap.size wr W))
            (first | exact S1 | exact S2 | assumption | exact HS _ _ (by assumption) (by assumption))
            (first | (go_at_call 29; refine Calls_new (cl _) ?_; intro w3 HB3))
          have HW := Lib.hid (HF _ (by assumption))
          go_wp2_with fail
          exact ⟨⟨i + 1, E, by simp, by omega, HI.out.1.below HW.out, HI.out.2.1.stay HQ.out HLS.out, below_then HI.out.2.2 HW.out⟩, by simp [RowKit.intOf]; omega⟩
    · obtain rfl : i = n := by omega
      go_wp2_with fail
      go_ret
      exact ⟨E, rfl, HI⟩

end Go.Proofs.YtjajbhpcjickbaaDoor.Ck.Sh
