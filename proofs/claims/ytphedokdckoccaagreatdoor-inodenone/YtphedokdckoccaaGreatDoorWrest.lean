/-
  restart of package wal: it is its steps.
-/
import Derived.Test.YtphedokdckoccaaGreatDoorRfixw
namespace Go.Proofs.YtphedokdckoccaaGreatDoor
open Go.RowKit Go.Maps Go.Sort Go.Shelf

/-- The steps of restart. -/
def rstSteps (a v n : Nat) : List (Nat × Value) := [(58, dp a), (179, dp v), (58, dp a), (102, dp n), (58, dp a)]
theorem rst_enters (a v n : Nat) : ∀ x ∈ rstSteps a v n, ∀ args w, (callFunc x.1 args).run Tryz.prog w = .ok (.enter x.1 args) w := by
  intro x hx
  simp only [rstSteps, List.mem_cons, List.not_mem_nil, or_false] at hx
  rcases hx with rfl | rfl | rfl | rfl | rfl
  · exact enters_of Tryz.func58 (by kernel_rfl) rfl
  · exact enters_of Tryz.func179 (by kernel_rfl) rfl
  · exact enters_of Tryz.func58 (by kernel_rfl) rfl
  · exact enters_of Tryz.func102 (by kernel_rfl) rfl
  · exact enters_of Tryz.func58 (by kernel_rfl) rfl

theorem IsVol.setD {w : World} {v : Nat} {d : Value} {commits turn next : Nat} {f : Option Nat} {count : Int} (h : IsVol w v d commits turn next f count) (x : Nat) : IsVol (w.setCell ⟨v, 0, none⟩ (dp x)) v (dp x) commits turn next f count := by
  unfold IsVol at *; simp [World.setCell, Array.getElem?_modify, h, volCells]

set_option maxRecDepth 8000 in
set_option maxHeartbeats 8000000 in
/-- restart where all its steps are done: the volume is what the new one is. -/
theorem restart_steps (v : Nat) (commits turn next f : Nat) (count : Int) (d : DS) (w : World) (h : IsVol w v (dp d.a) commits turn next (some f) count) (hd : Dev w d) (hn : 16 ≤ d.n) (htu : turn < 4000000000000000000)
    (Q : World → Prop)
    (hr : ∀ Wc : World, Below w.heap.size w Wc → Wc.heap[w.heap.size]? = some (.map #[] 0) → IsVol Wc (w.heap.size + 1) (dp d.a) commits (turn + 1) (1 + nbOf d.n) (some w.heap.size) 0 → (∃ cs, Wc.heap[w.heap.size + 2]? = some (.cells cs 42 (0, 0))) →
      Runs Tryz.prog (w.heap.size + 2) (rstSteps d.a v (w.heap.size + 1)) Wc (fun z W' => z = 0 ∧ Q W' ∧ IsVol W' (w.heap.size + 1) (dp d.a) commits (turn + 1) (1 + nbOf d.n) (some w.heap.size) 0 ∧ IsVol W' v (dp d.a) commits turn next (some f) count)) :
    Calls Tryz.prog 146 #[dp v] w fun e w' => e = .returned (.int .i64 0) ∧ ∃ W', Q W' ∧ IsVol w' v (dp d.a) commits (turn + 1) (1 + nbOf d.n) (some w.heap.size) 0 ∧ But (fun k => k = v) W' w' := by
  have hmm := @run_makeMap Tryz.prog
  have hmix : Tryz.prog.follows .mixedOrders = true := by kernel_rfl
  have hwr : IntKind.i64.wrap ((turn : Int) + 1) = (turn : Int) + 1 := by simp [IntKind.wrap, IntKind.bits, IntKind.signed]; omega
  have k0 := cellOf h 0
  have k1 := cellOf h 1
  have k2 := cellOf h 2
  simp [volCells] at k0 k1 k2
  obtain ⟨Wa, hWa⟩ : ∃ Wa, Wa = (w.alloc (.map #[] 0)).drew := ⟨_, rfl⟩
  have hBa : Below w.heap.size w Wa := by rw [hWa]; exact ((Below.refl _ w).alloc (Nat.le_refl _) _).drew
  have hsa : Wa.heap.size = w.heap.size + 1 := by rw [hWa]; show (w.alloc _).heap.size = _; simp
  have hma : Wa.heap[w.heap.size]? = some (.map #[] 0) := by rw [hWa]; exact (MapKept.heap_alloc w (.map #[] 0)).1
  have hva := h.below hBa
  have a0 := cellOf hva 0
  have a1 := cellOf hva 1
  have a2 := cellOf hva 2
  simp [volCells] at a0 a1 a2
  have cSt : ∀ W : World, W = w.drew → Calls Tryz.prog 114 #[dp v] W fun e w' => e = .returned (.int .i64 ((1 + nbOf d.n : Nat) : Int)) ∧ w' = W := by
    rintro W rfl
    exact vStart v commits turn next (some f) count d w.drew h hd.drew hn
  have cStA := vStart v commits turn next (some f) count d Wa hva (hd.below hBa) hn
  obtain ⟨Wb, hWb⟩ : ∃ Wb, Wb = Wa.alloc (.cells (volCells (dp d.a) commits (turn + 1) (1 + nbOf d.n) (some w.heap.size) 0) 97) := ⟨_, rfl⟩
  have hBb : Below w.heap.size w Wb := by rw [hWb]; exact hBa.alloc hBa.size _
  have hsb : Wb.heap.size = w.heap.size + 2 := by rw [hWb]; simp [hsa]
  have hmb : Wb.heap[w.heap.size]? = some (.map #[] 0) := by rw [hWb]; exact (Below.heap_alloc _ _ _ (by omega)).trans hma
  have hvb : IsVol Wb (w.heap.size + 1) (dp d.a) commits (turn + 1) (1 + nbOf d.n) (some w.heap.size) 0 := by rw [hWb, ← hsa]; exact heap_alloc_new Wa _
  have b0 := cellOf (h.below hBb) 0
  simp [volCells] at b0
  obtain ⟨Wc, hWc⟩ : ∃ Wc, Wc = (Wb.alloc (.cells ((rstSteps d.a v (w.heap.size + 1)).map stepV).toArray 42)).drew := ⟨_, rfl⟩
  have hBc : Below Wb.heap.size Wb Wc := by rw [hWc]; exact ((Below.refl _ Wb).alloc (Nat.le_refl _) _).drew
  have hgc : Wc.heap[w.heap.size + 2]? = some (.cells ((rstSteps d.a v (w.heap.size + 1)).map stepV).toArray 42 (0, 0)) := by rw [hWc, ← hsb]; exact heap_alloc_new Wb _
  have hIO := inOrder_any (w.heap.size + 2) (rstSteps d.a v (w.heap.size + 1)) 5 Wc _ (rst_enters _ _ _) (by simp [rstSteps]) hgc (hr Wc (hBb.trans (hBc.mono hBb.size)) (below_block hmb hBc) (hvb.below hBc) ⟨_, hgc⟩)
  have hlen : (rstSteps d.a v (w.heap.size + 1)).length = 5 := rfl
  rw [hlen] at hIO
  have hcs : ((rstSteps d.a v (w.heap.size + 1)).map stepV).toArray = #[.func (.func 58) #[dp d.a] #[], .func (.func 179) #[dp v] #[], .func (.func 58) #[dp d.a] #[], .func (.func 102) #[dp (w.heap.size + 1)] #[], .func (.func 58) #[dp d.a] #[]] := rfl
  rw [hcs] at hWc
  refine (callsIn_wide (n := 6)).1 ?_
  refine callsIn_of_wp Tryz.func146 rfl trivial ?_ rfl
  simp only [Tryz.ntmps146, List.size_toArray, List.length_cons, List.length_nil, Nat.reduceAdd, Nat.reduceSub, Array.replicate_succ, Array.replicate_zero, List.push_toArray, List.append_toArray, List.nil_append, List.cons_append]
  gi_wp2_with fail
  refine region_done hmix (by kernel_rfl) (fun b ac wd => ac = { tmps := #[dp v, undef, .int .i64 0, (if b 18 = true then .pointer (some ⟨w.heap.size + 1, 0, none⟩) else undef), undef, (if b 0 = true then dp v else undef), (if b 1 = true then dp v else undef), (if b 2 = true then .pointer (some ⟨v, 0, none⟩) else undef), (if b 3 = true then dp d.a else undef), (if b 4 = true then dp v else undef), (if b 5 = true then dp v else undef), (if b 6 = true then .pointer (some ⟨v, 1, none⟩) else undef), (if b 7 = true then .int .i64 commits else undef), (if b 8 = true then dp v else undef), (if b 9 = true then dp v else undef), (if b 10 = true then .pointer (some ⟨v, 2, none⟩) else undef), (if b 11 = true then .int .i64 turn else undef), (if b 12 = true then .int .i64 ((turn : Int) + 1) else undef), (if b 13 = true then dp v else undef), (if b 14 = true then .int .i64 ((1 + nbOf d.n : Nat) : Int) else undef), (if b 15 = true then .map (some w.heap.size) else undef), (if b 16 = true then .agg #[dp d.a, .int .i64 commits, .int .i64 ((turn : Int) + 1), .int .i64 ((1 + nbOf d.n : Nat) : Int), .map (some w.heap.size), .int .i64 0] else undef), (if b 17 = true then .pointer (some ⟨w.heap.size + 1, 0, none⟩) else undef), undef, undef, undef, undef, undef, undef, undef, undef, undef, undef, undef, undef, undef, undef, undef, undef, undef, undef, undef, undef, undef, undef, undef, undef, undef, undef, undef, undef, undef], defers := [] } ∧ wd = (if b 17 = true then Wb else if b 15 = true then Wa else w.drew)) ⟨rfl, rfl⟩ ?_ ?_
  · rintro b ac wd i op ⟨rfl, rfl⟩ hcl hop hbi hd
    have h163 : b 16 = true → b 3 = true := fun h => hcl 16 _ rfl h ⟨3, .data⟩ (by simp) rfl
    have h167 : b 16 = true → b 7 = true := fun h => hcl 16 _ rfl h ⟨7, .data⟩ (by simp) rfl
    have h1612 : b 16 = true → b 12 = true := fun h => hcl 16 _ rfl h ⟨12, .data⟩ (by simp) rfl
    have h1614 : b 16 = true → b 14 = true := fun h => hcl 16 _ rfl h ⟨14, .data⟩ (by simp) rfl
    have h1615 : b 16 = true → b 15 = true := fun h => hcl 16 _ rfl h ⟨15, .data⟩ (by simp) rfl
    have h1211 : b 12 = true → b 11 = true := fun h => hcl 12 _ rfl h ⟨11, .data⟩ (by simp) rfl
    have h1716 : b 17 = true → b 16 = true := fun h => hcl 17 _ rfl h ⟨16, .data⟩ (by simp) rfl
    match i with
    | 0 =>
      simp only [List.getElem?_toArray, List.getElem?_cons_zero, Option.some.injEq] at hop
      subst hop
      refine op_value_w rfl rfl (by intro c h; cases h) (v := dp v) (w' := if b 17 = true then Wb else if b 15 = true then Wa else w.drew) ?_ ?_
      · simp [execOp, go_sem]
      · exact ⟨by simp [Act.put, did], by simp [did]⟩
    | 1 =>
      simp only [List.getElem?_toArray, List.getElem?_cons_zero, List.getElem?_cons_succ, Option.some.injEq] at hop
      subst hop
      have p0 : b 0 = true := hd ⟨0, .data⟩ (by simp) rfl
      refine op_value_w rfl rfl (by intro c h; cases h) (v := dp v) (w' := if b 17 = true then Wb else if b 15 = true then Wa else w.drew) ?_ ?_
      · simp [execOp, go_sem, p0]
      · exact ⟨by simp [Act.put, did], by simp [did]⟩
    | 2 =>
      simp only [List.getElem?_toArray, List.getElem?_cons_zero, List.getElem?_cons_succ, Option.some.injEq] at hop
      subst hop
      have p1 : b 1 = true := hd ⟨1, .data⟩ (by simp) rfl
      refine op_value_w rfl rfl (by intro c h; cases h) (v := .pointer (some ⟨v, 0, none⟩)) (w' := if b 17 = true then Wb else if b 15 = true then Wa else w.drew) ?_ ?_
      · simp [execOp, go_sem, p1]
      · exact ⟨by simp [Act.put, did], by simp [did]⟩
    | 3 =>
      simp only [List.getElem?_toArray, List.getElem?_cons_zero, List.getElem?_cons_succ, Option.some.injEq] at hop
      subst hop
      have p2 : b 2 = true := hd ⟨2, .data⟩ (by simp) rfl
      have h16 : b 16 = false := by cases h : b 16; rfl; rw [h163 h] at hbi; cases hbi
      have h17 : b 17 = false := by cases h : b 17; rfl; rw [h1716 h] at h16; cases h16
      refine op_value_w rfl rfl (by intro c h; cases h) (v := dp d.a) (w' := if b 17 = true then Wb else if b 15 = true then Wa else w.drew) ?_ ?_
      · rw [h17]; cases b 15 <;> simp [execOp, go_sem, p2, k0, a0]
      · exact ⟨by simp [Act.put, did], by simp [did]⟩
    | 4 =>
      simp only [List.getElem?_toArray, List.getElem?_cons_zero, List.getElem?_cons_succ, Option.some.injEq] at hop
      subst hop
      refine op_value_w rfl rfl (by intro c h; cases h) (v := dp v) (w' := if b 17 = true then Wb else if b 15 = true then Wa else w.drew) ?_ ?_
      · simp [execOp, go_sem]
      · exact ⟨by simp [Act.put, did], by simp [did]⟩
    | 5 =>
      simp only [List.getElem?_toArray, List.getElem?_cons_zero, List.getElem?_cons_succ, Option.some.injEq] at hop
      subst hop
      have p4 : b 4 = true := hd ⟨4, .data⟩ (by simp) rfl
      refine op_value_w rfl rfl (by intro c h; cases h) (v := dp v) (w' := if b 17 = true then Wb else if b 15 = true then Wa else w.drew) ?_ ?_
      · simp [execOp, go_sem, p4]
      · exact ⟨by simp [Act.put, did], by simp [did]⟩
    | 6 =>
      simp only [List.getElem?_toArray, List.getElem?_cons_zero, List.getElem?_cons_succ, Option.some.injEq] at hop
      subst hop
      have p5 : b 5 = true := hd ⟨5, .data⟩ (by simp) rfl
      refine op_value_w rfl rfl (by intro c h; cases h) (v := .pointer (some ⟨v, 1, none⟩)) (w' := if b 17 = true then Wb else if b 15 = true then Wa else w.drew) ?_ ?_
      · simp [execOp, go_sem, p5]
      · exact ⟨by simp [Act.put, did], by simp [did]⟩
    | 7 =>
      simp only [List.getElem?_toArray, List.getElem?_cons_zero, List.getElem?_cons_succ, Option.some.injEq] at hop
      subst hop
      have p6 : b 6 = true := hd ⟨6, .data⟩ (by simp) rfl
      have h16 : b 16 = false := by cases h : b 16; rfl; rw [h167 h] at hbi; cases hbi
      have h17 : b 17 = false := by cases h : b 17; rfl; rw [h1716 h] at h16; cases h16
      refine op_value_w rfl rfl (by intro c h; cases h) (v := .int .i64 commits) (w' := if b 17 = true then Wb else if b 15 = true then Wa else w.drew) ?_ ?_
      · rw [h17]; cases b 15 <;> simp [execOp, go_sem, p6, k1, a1]
      · exact ⟨by simp [Act.put, did], by simp [did]⟩
    | 8 =>
      simp only [List.getElem?_toArray, List.getElem?_cons_zero, List.getElem?_cons_succ, Option.some.injEq] at hop
      subst hop
      refine op_value_w rfl rfl (by intro c h; cases h) (v := dp v) (w' := if b 17 = true then Wb else if b 15 = true then Wa else w.drew) ?_ ?_
      · simp [execOp, go_sem]
      · exact ⟨by simp [Act.put, did], by simp [did]⟩
    | 9 =>
      simp only [List.getElem?_toArray, List.getElem?_cons_zero, List.getElem?_cons_succ, Option.some.injEq] at hop
      subst hop
      have p8 : b 8 = true := hd ⟨8, .data⟩ (by simp) rfl
      refine op_value_w rfl rfl (by intro c h; cases h) (v := dp v) (w' := if b 17 = true then Wb else if b 15 = true then Wa else w.drew) ?_ ?_
      · simp [execOp, go_sem, p8]
      · exact ⟨by simp [Act.put, did], by simp [did]⟩
    | 10 =>
      simp only [List.getElem?_toArray, List.getElem?_cons_zero, List.getElem?_cons_succ, Option.some.injEq] at hop
      subst hop
      have p9 : b 9 = true := hd ⟨9, .data⟩ (by simp) rfl
      refine op_value_w rfl rfl (by intro c h; cases h) (v := .pointer (some ⟨v, 2, none⟩)) (w' := if b 17 = true then Wb else if b 15 = true then Wa else w.drew) ?_ ?_
      · simp [execOp, go_sem, p9]
      · exact ⟨by simp [Act.put, did], by simp [did]⟩
    | 11 =>
      simp only [List.getElem?_toArray, List.getElem?_cons_zero, List.getElem?_cons_succ, Option.some.injEq] at hop
      subst hop
      have p10 : b 10 = true := hd ⟨10, .data⟩ (by simp) rfl
      have h12 : b 12 = false := by cases h : b 12; rfl; rw [h1211 h] at hbi; cases hbi
      have h16 : b 16 = false := by cases h : b 16; rfl; rw [h1612 h] at h12; cases h12
      have h17 : b 17 = false := by cases h : b 17; rfl; rw [h1716 h] at h16; cases h16
      refine op_value_w rfl rfl (by intro c h; cases h) (v := .int .i64 turn) (w' := if b 17 = true then Wb else if b 15 = true then Wa else w.drew) ?_ ?_
      · rw [h17]; cases b 15 <;> simp [execOp, go_sem, p10, k2, a2]
      · exact ⟨by simp [Act.put, did], by simp [did]⟩
    | 12 =>
      simp only [List.getElem?_toArray, List.getElem?_cons_zero, List.getElem?_cons_succ, Option.some.injEq] at hop
      subst hop
      have p11 : b 11 = true := hd ⟨11, .data⟩ (by simp) rfl
      refine op_value_w rfl rfl (by intro c h; cases h) (v := .int .i64 ((turn : Int) + 1)) (w' := if b 17 = true then Wb else if b 15 = true then Wa else w.drew) ?_ ?_
      · simp [execOp, go_sem, p11, hwr]
      · exact ⟨by simp [Act.put, did], by simp [did]⟩
    | 13 =>
      simp only [List.getElem?_toArray, List.getElem?_cons_zero, List.getElem?_cons_succ, Option.some.injEq] at hop
      subst hop
      refine op_value_w rfl rfl (by intro c h; cases h) (v := dp v) (w' := if b 17 = true then Wb else if b 15 = true then Wa else w.drew) ?_ ?_
      · simp [execOp, go_sem]
      · exact ⟨by simp [Act.put, did], by simp [did]⟩
    | 14 =>
      simp only [List.getElem?_toArray, List.getElem?_cons_zero, List.getElem?_cons_succ, Option.some.injEq] at hop
      subst hop
      have p13 : b 13 = true := hd ⟨13, .data⟩ (by simp) rfl
      have h16 : b 16 = false := by cases h : b 16; rfl; rw [h1614 h] at hbi; cases hbi
      have h17 : b 17 = false := by cases h : b 17; rfl; rw [h1716 h] at h16; cases h16
      refine op_enter_w rfl rfl (by intro c h; cases h) (f := 114) (args := #[dp v]) (w' := if b 17 = true then Wb else if b 15 = true then Wa else w.drew) ?_ ?_
      · simp [execOp, go_sem, p13]
      · rw [h17]
        cases h15 : b 15
        · refine (cSt w.drew rfl).mono ?_
          rintro e w' ⟨rfl, rfl⟩
          exact ⟨_, rfl, by simp [Act.put, did, h17, h15], by simp [did, h17, h15]⟩
        · refine cStA.mono ?_
          rintro e w' ⟨rfl, rfl⟩
          exact ⟨_, rfl, by simp [Act.put, did, h17, h15], by simp [did, h17, h15]⟩
    | 15 =>
      simp only [List.getElem?_toArray, List.getElem?_cons_zero, List.getElem?_cons_succ, Option.some.injEq] at hop
      subst hop
      have h16 : b 16 = false := by cases h : b 16; rfl; rw [h1615 h] at hbi; cases hbi
      have h17 : b 17 = false := by cases h : b 17; rfl; rw [h1716 h] at h16; cases h16
      refine op_value_w rfl rfl (by intro c h; cases h) (v := .map (some w.heap.size)) (w' := Wa) ?_ ?_
      · rw [h17, hbi]; simp [execOp, go_sem, hmm, hWa]
      · exact ⟨by simp [Act.put, did], by simp [did, h17]⟩
    | 16 =>
      simp only [List.getElem?_toArray, List.getElem?_cons_zero, List.getElem?_cons_succ, Option.some.injEq] at hop
      subst hop
      have p3 : b 3 = true := hd ⟨3, .data⟩ (by simp) rfl
      have p7 : b 7 = true := hd ⟨7, .data⟩ (by simp) rfl
      have p12 : b 12 = true := hd ⟨12, .data⟩ (by simp) rfl
      have p14 : b 14 = true := hd ⟨14, .data⟩ (by simp) rfl
      have p15 : b 15 = true := hd ⟨15, .data⟩ (by simp) rfl
      refine op_value_w rfl rfl (by intro c h; cases h) (v := .agg #[dp d.a, .int .i64 commits, .int .i64 ((turn : Int) + 1), .int .i64 ((1 + nbOf d.n : Nat) : Int), .map (some w.heap.size), .int .i64 0]) (w' := if b 17 = true then Wb else if b 15 = true then Wa else w.drew) ?_ ?_
      · simp [execOp, go_sem, p3, p7, p12, p14, p15]
      · exact ⟨by simp [Act.put, did], by simp [did]⟩
    | 17 =>
      simp only [List.getElem?_toArray, List.getElem?_cons_zero, List.getElem?_cons_succ, Option.some.injEq] at hop
      subst hop
      have p16 : b 16 = true := hd ⟨16, .data⟩ (by simp) rfl
      have p15 : b 15 = true := h1615 p16
      refine op_value_w rfl rfl (by intro c h; cases h) (v := .pointer (some ⟨w.heap.size + 1, 0, none⟩)) (w' := Wb) ?_ ?_
      · rw [hbi, p15]; simp [execOp, go_sem, p16, hWb, hsa, volCells]
      · exact ⟨by simp [Act.put, did], by simp [did]⟩
    | 18 =>
      simp only [List.getElem?_toArray, List.getElem?_cons_zero, List.getElem?_cons_succ, Option.some.injEq] at hop
      subst hop
      have p17 : b 17 = true := hd ⟨17, .data⟩ (by simp) rfl
      refine op_value_w rfl rfl (by intro c h; cases h) (v := .pointer (some ⟨w.heap.size + 1, 0, none⟩)) (w' := if b 17 = true then Wb else if b 15 = true then Wa else w.drew) ?_ ?_
      · simp [execOp, go_sem, p17]
      · exact ⟨by simp [Act.put, did], by simp [did]⟩
    | k + 19 => simp at hop
  · rintro b ac wd ⟨rfl, rfl⟩ hall
    have q0 := hall 0 (by simp)
    have q1 := hall 1 (by simp)
    have q2 := hall 2 (by simp)
    have q3 := hall 3 (by simp)
    have q4 := hall 4 (by simp)
    have q5 := hall 5 (by simp)
    have q6 := hall 6 (by simp)
    have q7 := hall 7 (by simp)
    have q8 := hall 8 (by simp)
    have q9 := hall 9 (by simp)
    have q10 := hall 10 (by simp)
    have q11 := hall 11 (by simp)
    have q12 := hall 12 (by simp)
    have q13 := hall 13 (by simp)
    have q14 := hall 14 (by simp)
    have q15 := hall 15 (by simp)
    have q16 := hall 16 (by simp)
    have q17 := hall 17 (by simp)
    have q18 := hall 18 (by simp)
    simp only [q0, q1, q2, q3, q4, q5, q6, q7, q8, q9, q10, q11, q12, q13, q14, q15, q16, q17, q18, if_true]
    clear q0 q1 q2 q3 q4 q5 q6 q7 q8 q9 q10 q11 q12 q13 q14 q15 q16 q17 q18 hall b
    gi_wp2_with fail
    refine region_done hmix (by kernel_rfl) (fun b ac wd => ∃ z W', (b 20 = true → (z = 0 ∧ Q W' ∧ IsVol W' (w.heap.size + 1) (dp d.a) commits (turn + 1) (1 + nbOf d.n) (some w.heap.size) 0 ∧ IsVol W' v (dp d.a) commits turn next (some f) count)) ∧ ac = { tmps := #[dp v, undef, .int .i64 0, .pointer (some ⟨w.heap.size + 1, 0, none⟩), (if b 21 = true then .int .i64 z else undef), dp v, dp v, .pointer (some ⟨v, 0, none⟩), dp d.a, dp v, dp v, .pointer (some ⟨v, 1, none⟩), .int .i64 commits, dp v, dp v, .pointer (some ⟨v, 2, none⟩), .int .i64 turn, .int .i64 ((turn : Int) + 1), dp v, .int .i64 ((1 + nbOf d.n : Nat) : Int), .map (some w.heap.size), .agg #[dp d.a, .int .i64 commits, .int .i64 ((turn : Int) + 1), .int .i64 ((1 + nbOf d.n : Nat) : Int), .map (some w.heap.size), .int .i64 0], .pointer (some ⟨w.heap.size + 1, 0, none⟩), (if b 0 = true then dp v else undef), (if b 1 = true then dp v else undef), (if b 2 = true then .pointer (some ⟨v, 0, none⟩) else undef), (if b 3 = true then dp d.a else undef), (if b 4 = true then .func (.func 58) #[dp d.a] #[] else undef), (if b 5 = true then dp v else undef), (if b 6 = true then .func (.func 179) #[dp v] #[] else undef), (if b 7 = true then dp v else undef), (if b 8 = true then dp v else undef), (if b 9 = true then .pointer (some ⟨v, 0, none⟩) else undef), (if b 10 = true then dp d.a else undef), (if b 11 = true then .func (.func 58) #[dp d.a] #[] else undef), (if b 12 = true then .pointer (some ⟨w.heap.size + 1, 0, none⟩) else undef), (if b 13 = true then .func (.func 102) #[.pointer (some ⟨w.heap.size + 1, 0, none⟩)] #[] else undef), (if b 14 = true then dp v else undef), (if b 15 = true then dp v else undef), (if b 16 = true then .pointer (some ⟨v, 0, none⟩) else undef), (if b 17 = true then dp d.a else undef), (if b 18 = true then .func (.func 58) #[dp d.a] #[] else undef), (if b 19 = true then .slice (some ⟨w.heap.size + 2, 0, none⟩) 5 5 else undef), (if b 20 = true then .int .i64 z else undef), undef, undef, undef, undef, undef, undef, undef, undef], defers := [] } ∧ wd = (if b 20 = true then W' else if b 19 = true then Wc else Wb.drew)) ⟨0, w, fun h => by (cases h), rfl, rfl⟩ ?_ ?_
    · rintro b ac wd i op ⟨z, W', hz, rfl, rfl⟩ hcl hop hbi hd
      have h2019 : b 20 = true → b 19 = true := fun h => hcl 20 _ rfl h ⟨19, .data⟩ (by simp) rfl
      have h2120 : b 21 = true → b 20 = true := fun h => hcl 21 _ rfl h ⟨20, .data⟩ (by simp) rfl
      have h2120n : b 20 = false → b 21 = false := fun h => by cases h1 : b 21; rfl; rw [h2120 h1] at h; cases h
      have h194 : b 19 = true → b 4 = true := fun h => hcl 19 _ rfl h ⟨4, .data⟩ (by simp) rfl
      have h1911 : b 19 = true → b 11 = true := fun h => hcl 19 _ rfl h ⟨11, .data⟩ (by simp) rfl
      have h1918 : b 19 = true → b 18 = true := fun h => hcl 19 _ rfl h ⟨18, .data⟩ (by simp) rfl
      have h3L : b 19 = true → b 3 = true := fun h => hcl 4 _ rfl (h194 h) ⟨3, .data⟩ (by simp) rfl
      have h10L : b 19 = true → b 10 = true := fun h => hcl 11 _ rfl (h1911 h) ⟨10, .data⟩ (by simp) rfl
      have h17L : b 19 = true → b 17 = true := fun h => hcl 18 _ rfl (h1918 h) ⟨17, .data⟩ (by simp) rfl
      match i with
      | 0 =>
        simp only [List.getElem?_toArray, List.getElem?_cons_zero, Option.some.injEq] at hop
        subst hop
        refine op_value_w rfl rfl (by intro c h; cases h) (v := dp v) (w' := if b 20 = true then W' else if b 19 = true then Wc else Wb.drew) ?_ ?_
        · simp [execOp, go_sem]
        · exact ⟨z, W', fun h => hz (by simpa [did] using h), by simp [Act.put, did], by simp [did]⟩
      | 1 =>
        simp only [List.getElem?_toArray, List.getElem?_cons_zero, List.getElem?_cons_succ, Option.some.injEq] at hop
        subst hop
        have p0 : b 0 = true := hd ⟨0, .data⟩ (by simp) rfl
        refine op_value_w rfl rfl (by intro c h; cases h) (v := dp v) (w' := if b 20 = true then W' else if b 19 = true then Wc else Wb.drew) ?_ ?_
        · simp [execOp, go_sem, p0]
        · exact ⟨z, W', fun h => hz (by simpa [did] using h), by simp [Act.put, did], by simp [did]⟩
      | 2 =>
        simp only [List.getElem?_toArray, List.getElem?_cons_zero, List.getElem?_cons_succ, Option.some.injEq] at hop
        subst hop
        have p1 : b 1 = true := hd ⟨1, .data⟩ (by simp) rfl
        refine op_value_w rfl rfl (by intro c h; cases h) (v := .pointer (some ⟨v, 0, none⟩)) (w' := if b 20 = true then W' else if b 19 = true then Wc else Wb.drew) ?_ ?_
        · simp [execOp, go_sem, p1]
        · exact ⟨z, W', fun h => hz (by simpa [did] using h), by simp [Act.put, did], by simp [did]⟩
      | 3 =>
        simp only [List.getElem?_toArray, List.getElem?_cons_zero, List.getElem?_cons_succ, Option.some.injEq] at hop
        subst hop
        have p2 : b 2 = true := hd ⟨2, .data⟩ (by simp) rfl
        have h19 : b 19 = false := by cases h : b 19; rfl; rw [h3L h] at hbi; cases hbi
        have h20 : b 20 = false := by cases h : b 20; rfl; rw [h2019 h] at h19; cases h19
        refine op_value_w rfl rfl (by intro c h; cases h) (v := dp d.a) (w' := if b 20 = true then W' else if b 19 = true then Wc else Wb.drew) ?_ ?_
        · rw [h19, h20]; simp [execOp, go_sem, p2, b0]
        · exact ⟨z, W', fun h => hz (by simpa [did] using h), by simp [Act.put, did], by simp [did]⟩
      | 4 =>
        simp only [List.getElem?_toArray, List.getElem?_cons_zero, List.getElem?_cons_succ, Option.some.injEq] at hop
        subst hop
        have p3 : b 3 = true := hd ⟨3, .data⟩ (by simp) rfl
        refine op_value_w rfl rfl (by intro c h; cases h) (v := .func (.func 58) #[dp d.a] #[]) (w' := if b 20 = true then W' else if b 19 = true then Wc else Wb.drew) ?_ ?_
        · simp [execOp, go_sem, p3]
        · exact ⟨z, W', fun h => hz (by simpa [did] using h), by simp [Act.put, did], by simp [did]⟩
      | 5 =>
        simp only [List.getElem?_toArray, List.getElem?_cons_zero, List.getElem?_cons_succ, Option.some.injEq] at hop
        subst hop
        refine op_value_w rfl rfl (by intro c h; cases h) (v := dp v) (w' := if b 20 = true then W' else if b 19 = true then Wc else Wb.drew) ?_ ?_
        · simp [execOp, go_sem]
        · exact ⟨z, W', fun h => hz (by simpa [did] using h), by simp [Act.put, did], by simp [did]⟩
      | 6 =>
        simp only [List.getElem?_toArray, List.getElem?_cons_zero, List.getElem?_cons_succ, Option.some.injEq] at hop
        subst hop
        have p5 : b 5 = true := hd ⟨5, .data⟩ (by simp) rfl
        refine op_value_w rfl rfl (by intro c h; cases h) (v := .func (.func 179) #[dp v] #[]) (w' := if b 20 = true then W' else if b 19 = true then Wc else Wb.drew) ?_ ?_
        · simp [execOp, go_sem, p5]
        · exact ⟨z, W', fun h => hz (by simpa [did] using h), by simp [Act.put, did], by simp [did]⟩
      | 7 =>
        simp only [List.getElem?_toArray, List.getElem?_cons_zero, List.getElem?_cons_succ, Option.some.injEq] at hop
        subst hop
        refine op_value_w rfl rfl (by intro c h; cases h) (v := dp v) (w' := if b 20 = true then W' else if b 19 = true then Wc else Wb.drew) ?_ ?_
        · simp [execOp, go_sem]
        · exact ⟨z, W', fun h => hz (by simpa [did] using h), by simp [Act.put, did], by simp [did]⟩
      | 8 =>
        simp only [List.getElem?_toArray, List.getElem?_cons_zero, List.getElem?_cons_succ, Option.some.injEq] at hop
        subst hop
        have p7 : b 7 = true := hd ⟨7, .data⟩ (by simp) rfl
        refine op_value_w rfl rfl (by intro c h; cases h) (v := dp v) (w' := if b 20 = true then W' else if b 19 = true then Wc else Wb.drew) ?_ ?_
        · simp [execOp, go_sem, p7]
        · exact ⟨z, W', fun h => hz (by simpa [did] using h), by simp [Act.put, did], by simp [did]⟩
      | 9 =>
        simp only [List.getElem?_toArray, List.getElem?_cons_zero, List.getElem?_cons_succ, Option.some.injEq] at hop
        subst hop
        have p8 : b 8 = true := hd ⟨8, .data⟩ (by simp) rfl
        refine op_value_w rfl rfl (by intro c h; cases h) (v := .pointer (some ⟨v, 0, none⟩)) (w' := if b 20 = true then W' else if b 19 = true then Wc else Wb.drew) ?_ ?_
        · simp [execOp, go_sem, p8]
        · exact ⟨z, W', fun h => hz (by simpa [did] using h), by simp [Act.put, did], by simp [did]⟩
      | 10 =>
        simp only [List.getElem?_toArray, List.getElem?_cons_zero, List.getElem?_cons_succ, Option.some.injEq] at hop
        subst hop
        have p9 : b 9 = true := hd ⟨9, .data⟩ (by simp) rfl
        have h19 : b 19 = false := by cases h : b 19; rfl; rw [h10L h] at hbi; cases hbi
        have h20 : b 20 = false := by cases h : b 20; rfl; rw [h2019 h] at h19; cases h19
        refine op_value_w rfl rfl (by intro c h; cases h) (v := dp d.a) (w' := if b 20 = true then W' else if b 19 = true then Wc else Wb.drew) ?_ ?_
        · rw [h19, h20]; simp [execOp, go_sem, p9, b0]
        · exact ⟨z, W', fun h => hz (by simpa [did] using h), by simp [Act.put, did], by simp [did]⟩
      | 11 =>
        simp only [List.getElem?_toArray, List.getElem?_cons_zero, List.getElem?_cons_succ, Option.some.injEq] at hop
        subst hop
        have p10 : b 10 = true := hd ⟨10, .data⟩ (by simp) rfl
        refine op_value_w rfl rfl (by intro c h; cases h) (v := .func (.func 58) #[dp d.a] #[]) (w' := if b 20 = true then W' else if b 19 = true then Wc else Wb.drew) ?_ ?_
        · simp [execOp, go_sem, p10]
        · exact ⟨z, W', fun h => hz (by simpa [did] using h), by simp [Act.put, did], by simp [did]⟩
      | 12 =>
        simp only [List.getElem?_toArray, List.getElem?_cons_zero, List.getElem?_cons_succ, Option.some.injEq] at hop
        subst hop
        refine op_value_w rfl rfl (by intro c h; cases h) (v := .pointer (some ⟨w.heap.size + 1, 0, none⟩)) (w' := if b 20 = true then W' else if b 19 = true then Wc else Wb.drew) ?_ ?_
        · simp [execOp, go_sem]
        · exact ⟨z, W', fun h => hz (by simpa [did] using h), by simp [Act.put, did], by simp [did]⟩
      | 13 =>
        simp only [List.getElem?_toArray, List.getElem?_cons_zero, List.getElem?_cons_succ, Option.some.injEq] at hop
        subst hop
        have p12 : b 12 = true := hd ⟨12, .data⟩ (by simp) rfl
        refine op_value_w rfl rfl (by intro c h; cases h) (v := .func (.func 102) #[.pointer (some ⟨w.heap.size + 1, 0, none⟩)] #[]) (w' := if b 20 = true then W' else if b 19 = true then Wc else Wb.drew) ?_ ?_
        · simp [execOp, go_sem, p12]
        · exact ⟨z, W', fun h => hz (by simpa [did] using h), by simp [Act.put, did], by simp [did]⟩
      | 14 =>
        simp only [List.getElem?_toArray, List.getElem?_cons_zero, List.getElem?_cons_succ, Option.some.injEq] at hop
        subst hop
        refine op_value_w rfl rfl (by intro c h; cases h) (v := dp v) (w' := if b 20 = true then W' else if b 19 = true then Wc else Wb.drew) ?_ ?_
        · simp [execOp, go_sem]
        · exact ⟨z, W', fun h => hz (by simpa [did] using h), by simp [Act.put, did], by simp [did]⟩
      | 15 =>
        simp only [List.getElem?_toArray, List.getElem?_cons_zero, List.getElem?_cons_succ, Option.some.injEq] at hop
        subst hop
        have p14 : b 14 = true := hd ⟨14, .data⟩ (by simp) rfl
        refine op_value_w rfl rfl (by intro c h; cases h) (v := dp v) (w' := if b 20 = true then W' else if b 19 = true then Wc else Wb.drew) ?_ ?_
        · simp [execOp, go_sem, p14]
        · exact ⟨z, W', fun h => hz (by simpa [did] using h), by simp [Act.put, did], by simp [did]⟩
      | 16 =>
        simp only [List.getElem?_toArray, List.getElem?_cons_zero, List.getElem?_cons_succ, Option.some.injEq] at hop
        subst hop
        have p15 : b 15 = true := hd ⟨15, .data⟩ (by simp) rfl
        refine op_value_w rfl rfl (by intro c h; cases h) (v := .pointer (some ⟨v, 0, none⟩)) (w' := if b 20 = true then W' else if b 19 = true then Wc else Wb.drew) ?_ ?_
        · simp [execOp, go_sem, p15]
        · exact ⟨z, W', fun h => hz (by simpa [did] using h), by simp [Act.put, did], by simp [did]⟩
      | 17 =>
        simp only [List.getElem?_toArray, List.getElem?_cons_zero, List.getElem?_cons_succ, Option.some.injEq] at hop
        subst hop
        have p16 : b 16 = true := hd ⟨16, .data⟩ (by simp) rfl
        have h19 : b 19 = false := by cases h : b 19; rfl; rw [h17L h] at hbi; cases hbi
        have h20 : b 20 = false := by cases h : b 20; rfl; rw [h2019 h] at h19; cases h19
        refine op_value_w rfl rfl (by intro c h; cases h) (v := dp d.a) (w' := if b 20 = true then W' else if b 19 = true then Wc else Wb.drew) ?_ ?_
        · rw [h19, h20]; simp [execOp, go_sem, p16, b0]
        · exact ⟨z, W', fun h => hz (by simpa [did] using h), by simp [Act.put, did], by simp [did]⟩
      | 18 =>
        simp only [List.getElem?_toArray, List.getElem?_cons_zero, List.getElem?_cons_succ, Option.some.injEq] at hop
        subst hop
        have p17 : b 17 = true := hd ⟨17, .data⟩ (by simp) rfl
        refine op_value_w rfl rfl (by intro c h; cases h) (v := .func (.func 58) #[dp d.a] #[]) (w' := if b 20 = true then W' else if b 19 = true then Wc else Wb.drew) ?_ ?_
        · simp [execOp, go_sem, p17]
        · exact ⟨z, W', fun h => hz (by simpa [did] using h), by simp [Act.put, did], by simp [did]⟩
      | 19 =>
        simp only [List.getElem?_toArray, List.getElem?_cons_zero, List.getElem?_cons_succ, Option.some.injEq] at hop
        subst hop
        have p4 : b 4 = true := hd ⟨4, .data⟩ (by simp) rfl
        have p6 : b 6 = true := hd ⟨6, .data⟩ (by simp) rfl
        have p11 : b 11 = true := hd ⟨11, .data⟩ (by simp) rfl
        have p13 : b 13 = true := hd ⟨13, .data⟩ (by simp) rfl
        have p18 : b 18 = true := hd ⟨18, .data⟩ (by simp) rfl
        have h20 : b 20 = false := by cases h : b 20; rfl; rw [h2019 h] at hbi; cases hbi
        refine op_value_w rfl rfl (by intro c h; cases h) (v := .slice (some ⟨w.heap.size + 2, 0, none⟩) 5 5) (w' := Wc) ?_ ?_
        · rw [hbi, h20]; simp [execOp, go_sem, p4, p6, p11, p13, p18, hWc, hsb]
        · exact ⟨z, W', fun h => hz (by simpa [did] using h), by simp [Act.put, did], by simp [did, h20]⟩
      | 20 =>
        simp only [List.getElem?_toArray, List.getElem?_cons_zero, List.getElem?_cons_succ, Option.some.injEq] at hop
        subst hop
        have p19 : b 19 = true := hd ⟨19, .data⟩ (by simp) rfl
        refine op_enter_w rfl rfl (by intro c h; cases h) (f := 60) (args := #[.slice (some ⟨w.heap.size + 2, 0, none⟩) 5 5]) (w' := Wc) ?_ ?_
        · rw [hbi, p19]; simp [execOp, go_sem]
        · refine hIO.mono ?_
          rintro e w' ⟨z', rfl, hQ⟩
          exact ⟨_, rfl, z', w', fun _ => hQ, by simp [Act.put, did, hbi, h2120n hbi], by simp [did]⟩
      | 21 =>
        simp only [List.getElem?_toArray, List.getElem?_cons_zero, List.getElem?_cons_succ, Option.some.injEq] at hop
        subst hop
        have p20 : b 20 = true := hd ⟨20, .data⟩ (by simp) rfl
        refine op_value_w rfl rfl (by intro c h; cases h) (v := .int .i64 z) (w' := if b 20 = true then W' else if b 19 = true then Wc else Wb.drew) ?_ ?_
        · simp [execOp, go_sem, p20]
        · exact ⟨z, W', fun h => hz (by simpa [did] using h), by simp [Act.put, did], by simp [did]⟩
      | k + 22 => simp at hop
    · rintro b ac wd ⟨z, W', hz, rfl, rfl⟩ hall2
      have r0 := hall2 0 (by simp)
      have r1 := hall2 1 (by simp)
      have r2 := hall2 2 (by simp)
      have r3 := hall2 3 (by simp)
      have r4 := hall2 4 (by simp)
      have r5 := hall2 5 (by simp)
      have r6 := hall2 6 (by simp)
      have r7 := hall2 7 (by simp)
      have r8 := hall2 8 (by simp)
      have r9 := hall2 9 (by simp)
      have r10 := hall2 10 (by simp)
      have r11 := hall2 11 (by simp)
      have r12 := hall2 12 (by simp)
      have r13 := hall2 13 (by simp)
      have r14 := hall2 14 (by simp)
      have r15 := hall2 15 (by simp)
      have r16 := hall2 16 (by simp)
      have r17 := hall2 17 (by simp)
      have r18 := hall2 18 (by simp)
      have r19 := hall2 19 (by simp)
      have r20 := hall2 20 (by simp)
      have r21 := hall2 21 (by simp)
      obtain ⟨rfl, hQ, hvn, hvo⟩ := hz r20
      simp only [r0, r1, r2, r3, r4, r5, r6, r7, r8, r9, r10, r11, r12, r13, r14, r15, r16, r17, r18, r19, r20, r21, if_true]
      have n0 := cellOf hvn 0
      have n1 := cellOf hvn 1
      have n2 := cellOf hvn 2
      have n3 := cellOf hvn 3
      have n4 := cellOf hvn 4
      have n5 := cellOf hvn 5
      have o0 := cellOf hvo 0
      have o1 := cellOf hvo 1
      have o2 := cellOf hvo 2
      have o3 := cellOf hvo 3
      have o4 := cellOf hvo 4
      have o5 := cellOf hvo 5
      have g0 := frozenOf hvo 0
      have g1 := frozenOf hvo 1
      have g2 := frozenOf hvo 2
      have g3 := frozenOf hvo 3
      have g4 := frozenOf hvo 4
      have g5 := frozenOf hvo 5
      simp [volCells] at n0 n1 n2 n3 n4 n5 o0 o1 o2 o3 o4 o5
      have HQ : Hid (Q W') := hQ
      have HVO : Hid (IsVol W' v (dp d.a) commits turn next (some f) count) := hvo
      clear r0 r1 r2 r3 r4 r5 r6 r7 r8 r9 r10 r11 r12 r13 r14 r15 r16 r17 r18 r19 r20 r21 hall2 b hQ hIO hz
      gi_wp2
      go_ret
      refine ⟨rfl, W', HQ.out, ?_, ?_⟩
      · have := (((((HVO.out.setD d.a).setC commits).setT (turn + 1)).setN (1 + nbOf d.n)).setF w.heap.size).setK 0
        rw [show ((turn + 1 : Nat) : Int) = (turn : Int) + 1 by omega, show ((1 + nbOf d.n : Nat) : Int) = 1 + (nbOf d.n : Int) by omega] at this
        exact this
      · exact ((((((But.refl (fun k => k = v) W').setCell ⟨v, 0, none⟩ rfl _).setCell ⟨v, 1, none⟩ rfl _).setCell ⟨v, 2, none⟩ rfl _).setCell ⟨v, 3, none⟩ rfl _).setCell ⟨v, 4, none⟩ rfl _).setCell ⟨v, 5, none⟩ rfl _

end Go.Proofs.YtphedokdckoccaaGreatDoor
