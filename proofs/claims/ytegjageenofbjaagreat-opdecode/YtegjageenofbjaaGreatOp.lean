/-
  Operations held against each other: the document's Eq.
-/
import Derived.Test.YtegjageenofbjaaGreatOn
namespace Go.Proofs.YtegjageenofbjaaGreat.Cd
open Go.RowKit Go.Maps

attribute [local go_sem] Oper.semAt_some

/-- Two operations' blocks, and what lies below. -/
def OpY (w W : World) (g g' : Nat) (t n sq kd ot on pt pn : Int) (nm : List UInt8) (p q : Option Addr) (l c m d : Nat) (t' n' sq' kd' ot' on' pt' pn' : Int) (nm' : List UInt8) (p' q' : Option Addr) (l' c' m' d' : Nat) : Prop := OpB W g t n sq kd ot on pt pn nm p q l c m d ∧ OpB W g' t' n' sq' kd' ot' on' pt' pn' nm' p' q' l' c' m' d' ∧ Below w.heap.size w W
theorem OpY.step {w W W' : World} {g g' : Nat} {t n sq kd ot on pt pn : Int} {nm : List UInt8} {p q : Option Addr} {l c m d : Nat} {t' n' sq' kd' ot' on' pt' pn' : Int} {nm' : List UInt8} {p' q' : Option Addr} {l' c' m' d' : Nat} (h : Hid (OpY w W g g' t n sq kd ot on pt pn nm p q l c m d t' n' sq' kd' ot' on' pt' pn' nm' p' q' l' c' m' d')) (hb : Hid (Below W.heap.size W W')) : Hid (OpY w W' g g' t n sq kd ot on pt pn nm p q l c m d t' n' sq' kd' ot' on' pt' pn' nm' p' q' l' c' m' d') :=
  ⟨h.out.1.below hb.out, h.out.2.1.below hb.out, h.out.2.2.trans (hb.out.mono h.out.2.2.size)⟩
theorem str_ne {xs ys : List (BitVec 8)} (h : ¬ xs = ys) : ((strOf xs).toList == (strOf ys).toList) = false := by
  rw [Lib.toList_data, Lib.toList_data]
  have : (strOf xs).data.toList ≠ (strOf ys).data.toList := fun e => h (strOf_inj (by rw [← bas_of (strOf xs), ← bas_of (strOf ys), e]))
  exact beq_eq_false_iff_ne.2 this

set_option maxRecDepth 8000 in
set_option maxHeartbeats 4000000 in
theorem req12_any (t n sq kd ot on pt pn : Int) (nm : List UInt8) (p q : Option Addr) (l c m d : Nat) (data : List (BitVec 8)) (ns : List Int) (t' n' sq' kd' ot' on' pt' pn' : Int) (nm' : List UInt8) (p' q' : Option Addr) (l' c' m' d' : Nat) (data' : List (BitVec 8)) (ns' : List Int) (w : World)
    (hl : l = data.length) (hm : m = ns.length) (hl' : l' = data'.length) (hm' : m' = ns'.length) (hp : Bytes w p data) (hq : Lies w q (ns.map iv)) (hp' : Bytes w p' data') (hq' : Lies w q' (ns'.map iv)) :
    Calls Tryz.prog 13 #[.agg #[.int .i64 t, .int .i64 n, .int .i64 sq, .int .i64 kd, .int .i64 ot, .int .i64 on, .int .i64 pt, .int .i64 pn, .string (bas nm), .slice p l c, .slice q m d], .agg #[.int .i64 t', .int .i64 n', .int .i64 sq', .int .i64 kd', .int .i64 ot', .int .i64 on', .int .i64 pt', .int .i64 pn', .string (bas nm'), .slice p' l' c', .slice q' m' d']] w fun e w' => e = .returned (.bool (eqF t n sq kd ot on pt pn nm data ns t' n' sq' kd' ot' on' pt' pn' nm' data' ns')) ∧ Below w.heap.size w w' := by
  have HX : Hid (OpY w ((w.alloc (.cells #[.int .i64 t, .int .i64 n, .int .i64 sq, .int .i64 kd, .int .i64 ot, .int .i64 on, .int .i64 pt, .int .i64 pn, .string (bas nm), .slice p l c, .slice q m d] 28)).alloc (.cells #[.int .i64 t', .int .i64 n', .int .i64 sq', .int .i64 kd', .int .i64 ot', .int .i64 on', .int .i64 pt', .int .i64 pn', .string (bas nm'), .slice p' l' c', .slice q' m' d'] 28)) w.heap.size (w.heap.size + 1) t n sq kd ot on pt pn nm p q l c m d t' n' sq' kd' ot' on' pt' pn' nm' p' q' l' c' m' d') :=
    ⟨(OpB.made w t n sq kd ot on pt pn nm p q l c m d).below (below_new _ _).out, OpB.next w _ t' n' sq' kd' ot' on' pt' pn' nm' p' q' l' c' m' d', ((Below.refl _ _).alloc (Nat.le_refl _) _).alloc (by simp) _⟩
  have HR : Hid (∀ W, Below w.heap.size w W → (convert 24 9 (.slice p l c)).run Tryz.prog W = .ok (.string (strOf data)) W ∧ (convert 24 9 (.slice p' l' c')).run Tryz.prog W = .ok (.string (strOf data')) W) := fun W hW => by
    rw [hl, hl']
    exact ⟨run_str W p data c (below_bytes hW hp), run_str W p' data' c' (below_bytes hW hp')⟩
  have HV : Hid (∀ W, Below w.heap.size w W → Calls Tryz.prog 46 #[.slice q m d, .slice q' m' d'] W fun e w' => e = .returned (.bool (Vc.eqB ns ns')) ∧ w' = W) := fun W hW => by rw [hm, hm']; exact Vc.req_any q q' ns ns' d d' W (below_lies hW hq) (below_lies hW hq')
  have H1 : Hid (∀ W, Calls Tryz.prog 25 #[idv t n, idv t' n'] W fun e w' => e = .returned (.bool (sameB t n t' n')) ∧ Below W.heap.size W w') := fun W => rsame_any t n t' n' W
  have H2 : Hid (∀ W, Calls Tryz.prog 25 #[idv ot on, idv ot' on'] W fun e w' => e = .returned (.bool (sameB ot on ot' on')) ∧ Below W.heap.size W w') := fun W => rsame_any ot on ot' on' W
  have H3 : Hid (∀ W, Calls Tryz.prog 25 #[idv pt pn, idv pt' pn'] W fun e w' => e = .returned (.bool (sameB pt pn pt' pn')) ∧ Below W.heap.size W w') := fun W => rsame_any pt pn pt' pn' W
  have HF : Hid (eqF t n sq kd ot on pt pn nm data ns t' n' sq' kd' ot' on' pt' pn' nm' data' ns' = (sameB t n t' n' && decide (sq = sq') && decide (kd = kd') && sameB ot on ot' on' && sameB pt pn pt' pn' && decide (nm = nm') && decide (data = data') && Vc.eqB ns ns')) := by
    show _ = _
    unfold eqF sameB
    simp only [Bool.and_assoc]
  rw [HF.out]
  clear hl hm hl' hm' hp hq hp' hq' HF
  generalize Vc.eqB ns ns' = x at *
  generalize sameB t n t' n' = x1 at *
  generalize sameB ot on ot' on' = x2 at *
  generalize sameB pt pn pt' pn' = x3 at *
  cases x1 with
  | false =>
    go_enter Tryz.func13, Tryz.ntmps13
    go_wp2_with (first | (go_at_call 25; refine Calls_new (H1.out _) ?_; clear H1; intro w2 hb2; have HX := OpY.step HX hb2; have ⟨a0, a1, a2, a3, a4, a5, a6, a7, a8, a9, a10⟩ := HX.out.1.cells; have ⟨b0, b1, b2, b3, b4, b5, b6, b7, b8, b9, b10⟩ := HX.out.2.1.cells; clear hb2) | (go_at_call 25; refine Calls_new (H2.out _) ?_; clear H2; intro w2 hb2; have HX := OpY.step HX hb2; have ⟨a0, a1, a2, a3, a4, a5, a6, a7, a8, a9, a10⟩ := HX.out.1.cells; have ⟨b0, b1, b2, b3, b4, b5, b6, b7, b8, b9, b10⟩ := HX.out.2.1.cells; clear hb2) | (go_at_call 25; refine Calls_new (H3.out _) ?_; clear H3; intro w2 hb2; have HX := OpY.step HX hb2; have ⟨a0, a1, a2, a3, a4, a5, a6, a7, a8, a9, a10⟩ := HX.out.1.cells; have ⟨b0, b1, b2, b3, b4, b5, b6, b7, b8, b9, b10⟩ := HX.out.2.1.cells; clear hb2; have ⟨r1, r2⟩ := HR.out _ HX.out.2.2; clear HR) | (go_at_call 46; refine Calls_on (HV.out _ HX.out.2.2) ?_))
    go_ret
    exact ⟨by first | rfl | (simp; done) | (simp; omega), HX.out.2.2⟩
  | true =>
  by_cases h_sq : sq = sq'
  rotate_left
  · rw [decide_eq_false h_sq]
    go_enter Tryz.func13, Tryz.ntmps13
    go_wp2_with (first | (go_at_call 25; refine Calls_new (H1.out _) ?_; clear H1; intro w2 hb2; have HX := OpY.step HX hb2; have ⟨a0, a1, a2, a3, a4, a5, a6, a7, a8, a9, a10⟩ := HX.out.1.cells; have ⟨b0, b1, b2, b3, b4, b5, b6, b7, b8, b9, b10⟩ := HX.out.2.1.cells; clear hb2) | (go_at_call 25; refine Calls_new (H2.out _) ?_; clear H2; intro w2 hb2; have HX := OpY.step HX hb2; have ⟨a0, a1, a2, a3, a4, a5, a6, a7, a8, a9, a10⟩ := HX.out.1.cells; have ⟨b0, b1, b2, b3, b4, b5, b6, b7, b8, b9, b10⟩ := HX.out.2.1.cells; clear hb2) | (go_at_call 25; refine Calls_new (H3.out _) ?_; clear H3; intro w2 hb2; have HX := OpY.step HX hb2; have ⟨a0, a1, a2, a3, a4, a5, a6, a7, a8, a9, a10⟩ := HX.out.1.cells; have ⟨b0, b1, b2, b3, b4, b5, b6, b7, b8, b9, b10⟩ := HX.out.2.1.cells; clear hb2; have ⟨r1, r2⟩ := HR.out _ HX.out.2.2; clear HR) | (go_at_call 46; refine Calls_on (HV.out _ HX.out.2.2) ?_))
    go_ret
    exact ⟨by first | rfl | (simp; done) | (simp; omega), HX.out.2.2⟩
  rw [decide_eq_true h_sq]
  subst h_sq
  by_cases h_kd : kd = kd'
  rotate_left
  · rw [decide_eq_false h_kd]
    go_enter Tryz.func13, Tryz.ntmps13
    go_wp2_with (first | (go_at_call 25; refine Calls_new (H1.out _) ?_; clear H1; intro w2 hb2; have HX := OpY.step HX hb2; have ⟨a0, a1, a2, a3, a4, a5, a6, a7, a8, a9, a10⟩ := HX.out.1.cells; have ⟨b0, b1, b2, b3, b4, b5, b6, b7, b8, b9, b10⟩ := HX.out.2.1.cells; clear hb2) | (go_at_call 25; refine Calls_new (H2.out _) ?_; clear H2; intro w2 hb2; have HX := OpY.step HX hb2; have ⟨a0, a1, a2, a3, a4, a5, a6, a7, a8, a9, a10⟩ := HX.out.1.cells; have ⟨b0, b1, b2, b3, b4, b5, b6, b7, b8, b9, b10⟩ := HX.out.2.1.cells; clear hb2) | (go_at_call 25; refine Calls_new (H3.out _) ?_; clear H3; intro w2 hb2; have HX := OpY.step HX hb2; have ⟨a0, a1, a2, a3, a4, a5, a6, a7, a8, a9, a10⟩ := HX.out.1.cells; have ⟨b0, b1, b2, b3, b4, b5, b6, b7, b8, b9, b10⟩ := HX.out.2.1.cells; clear hb2; have ⟨r1, r2⟩ := HR.out _ HX.out.2.2; clear HR) | (go_at_call 46; refine Calls_on (HV.out _ HX.out.2.2) ?_))
    go_ret
    exact ⟨by first | rfl | (simp; done) | (simp; omega), HX.out.2.2⟩
  rw [decide_eq_true h_kd]
  subst h_kd
  cases x2 with
  | false =>
    go_enter Tryz.func13, Tryz.ntmps13
    go_wp2_with (first | (go_at_call 25; refine Calls_new (H1.out _) ?_; clear H1; intro w2 hb2; have HX := OpY.step HX hb2; have ⟨a0, a1, a2, a3, a4, a5, a6, a7, a8, a9, a10⟩ := HX.out.1.cells; have ⟨b0, b1, b2, b3, b4, b5, b6, b7, b8, b9, b10⟩ := HX.out.2.1.cells; clear hb2) | (go_at_call 25; refine Calls_new (H2.out _) ?_; clear H2; intro w2 hb2; have HX := OpY.step HX hb2; have ⟨a0, a1, a2, a3, a4, a5, a6, a7, a8, a9, a10⟩ := HX.out.1.cells; have ⟨b0, b1, b2, b3, b4, b5, b6, b7, b8, b9, b10⟩ := HX.out.2.1.cells; clear hb2) | (go_at_call 25; refine Calls_new (H3.out _) ?_; clear H3; intro w2 hb2; have HX := OpY.step HX hb2; have ⟨a0, a1, a2, a3, a4, a5, a6, a7, a8, a9, a10⟩ := HX.out.1.cells; have ⟨b0, b1, b2, b3, b4, b5, b6, b7, b8, b9, b10⟩ := HX.out.2.1.cells; clear hb2; have ⟨r1, r2⟩ := HR.out _ HX.out.2.2; clear HR) | (go_at_call 46; refine Calls_on (HV.out _ HX.out.2.2) ?_))
    go_ret
    exact ⟨by first | rfl | (simp; done) | (simp; omega), HX.out.2.2⟩
  | true =>
  cases x3 with
  | false =>
    go_enter Tryz.func13, Tryz.ntmps13
    go_wp2_with (first | (go_at_call 25; refine Calls_new (H1.out _) ?_; clear H1; intro w2 hb2; have HX := OpY.step HX hb2; have ⟨a0, a1, a2, a3, a4, a5, a6, a7, a8, a9, a10⟩ := HX.out.1.cells; have ⟨b0, b1, b2, b3, b4, b5, b6, b7, b8, b9, b10⟩ := HX.out.2.1.cells; clear hb2) | (go_at_call 25; refine Calls_new (H2.out _) ?_; clear H2; intro w2 hb2; have HX := OpY.step HX hb2; have ⟨a0, a1, a2, a3, a4, a5, a6, a7, a8, a9, a10⟩ := HX.out.1.cells; have ⟨b0, b1, b2, b3, b4, b5, b6, b7, b8, b9, b10⟩ := HX.out.2.1.cells; clear hb2) | (go_at_call 25; refine Calls_new (H3.out _) ?_; clear H3; intro w2 hb2; have HX := OpY.step HX hb2; have ⟨a0, a1, a2, a3, a4, a5, a6, a7, a8, a9, a10⟩ := HX.out.1.cells; have ⟨b0, b1, b2, b3, b4, b5, b6, b7, b8, b9, b10⟩ := HX.out.2.1.cells; clear hb2; have ⟨r1, r2⟩ := HR.out _ HX.out.2.2; clear HR) | (go_at_call 46; refine Calls_on (HV.out _ HX.out.2.2) ?_))
    go_ret
    exact ⟨by first | rfl | (simp; done) | (simp; omega), HX.out.2.2⟩
  | true =>
  by_cases h_nm : nm = nm'
  rotate_left
  · have e1 : ((bas nm).toList == (bas nm').toList) = false := by rw [bas_toList, bas_toList]; simpa using h_nm
    rw [decide_eq_false h_nm]
    clear h_nm
    go_enter Tryz.func13, Tryz.ntmps13
    go_wp2_with (first | (go_at_call 25; refine Calls_new (H1.out _) ?_; clear H1; intro w2 hb2; have HX := OpY.step HX hb2; have ⟨a0, a1, a2, a3, a4, a5, a6, a7, a8, a9, a10⟩ := HX.out.1.cells; have ⟨b0, b1, b2, b3, b4, b5, b6, b7, b8, b9, b10⟩ := HX.out.2.1.cells; clear hb2) | (go_at_call 25; refine Calls_new (H2.out _) ?_; clear H2; intro w2 hb2; have HX := OpY.step HX hb2; have ⟨a0, a1, a2, a3, a4, a5, a6, a7, a8, a9, a10⟩ := HX.out.1.cells; have ⟨b0, b1, b2, b3, b4, b5, b6, b7, b8, b9, b10⟩ := HX.out.2.1.cells; clear hb2) | (go_at_call 25; refine Calls_new (H3.out _) ?_; clear H3; intro w2 hb2; have HX := OpY.step HX hb2; have ⟨a0, a1, a2, a3, a4, a5, a6, a7, a8, a9, a10⟩ := HX.out.1.cells; have ⟨b0, b1, b2, b3, b4, b5, b6, b7, b8, b9, b10⟩ := HX.out.2.1.cells; clear hb2; have ⟨r1, r2⟩ := HR.out _ HX.out.2.2; clear HR) | (go_at_call 46; refine Calls_on (HV.out _ HX.out.2.2) ?_))
    go_ret
    exact ⟨by first | rfl | (simp; done) | (simp; omega), HX.out.2.2⟩
  rw [decide_eq_true h_nm]
  subst h_nm
  by_cases h_dt : data = data'
  rotate_left
  · have e1 := str_ne h_dt
    rw [decide_eq_false h_dt]
    clear h_dt
    go_enter Tryz.func13, Tryz.ntmps13
    go_wp2_with (first | (go_at_call 25; refine Calls_new (H1.out _) ?_; clear H1; intro w2 hb2; have HX := OpY.step HX hb2; have ⟨a0, a1, a2, a3, a4, a5, a6, a7, a8, a9, a10⟩ := HX.out.1.cells; have ⟨b0, b1, b2, b3, b4, b5, b6, b7, b8, b9, b10⟩ := HX.out.2.1.cells; clear hb2) | (go_at_call 25; refine Calls_new (H2.out _) ?_; clear H2; intro w2 hb2; have HX := OpY.step HX hb2; have ⟨a0, a1, a2, a3, a4, a5, a6, a7, a8, a9, a10⟩ := HX.out.1.cells; have ⟨b0, b1, b2, b3, b4, b5, b6, b7, b8, b9, b10⟩ := HX.out.2.1.cells; clear hb2) | (go_at_call 25; refine Calls_new (H3.out _) ?_; clear H3; intro w2 hb2; have HX := OpY.step HX hb2; have ⟨a0, a1, a2, a3, a4, a5, a6, a7, a8, a9, a10⟩ := HX.out.1.cells; have ⟨b0, b1, b2, b3, b4, b5, b6, b7, b8, b9, b10⟩ := HX.out.2.1.cells; clear hb2; have ⟨r1, r2⟩ := HR.out _ HX.out.2.2; clear HR) | (go_at_call 46; refine Calls_on (HV.out _ HX.out.2.2) ?_))
    go_ret
    exact ⟨by first | rfl | (simp; done) | (simp; omega), HX.out.2.2⟩
  rw [decide_eq_true h_dt]
  subst h_dt
  go_enter Tryz.func13, Tryz.ntmps13
  go_wp2_with (first | (go_at_call 25; refine Calls_new (H1.out _) ?_; clear H1; intro w2 hb2; have HX := OpY.step HX hb2; have ⟨a0, a1, a2, a3, a4, a5, a6, a7, a8, a9, a10⟩ := HX.out.1.cells; have ⟨b0, b1, b2, b3, b4, b5, b6, b7, b8, b9, b10⟩ := HX.out.2.1.cells; clear hb2) | (go_at_call 25; refine Calls_new (H2.out _) ?_; clear H2; intro w2 hb2; have HX := OpY.step HX hb2; have ⟨a0, a1, a2, a3, a4, a5, a6, a7, a8, a9, a10⟩ := HX.out.1.cells; have ⟨b0, b1, b2, b3, b4, b5, b6, b7, b8, b9, b10⟩ := HX.out.2.1.cells; clear hb2) | (go_at_call 25; refine Calls_new (H3.out _) ?_; clear H3; intro w2 hb2; have HX := OpY.step HX hb2; have ⟨a0, a1, a2, a3, a4, a5, a6, a7, a8, a9, a10⟩ := HX.out.1.cells; have ⟨b0, b1, b2, b3, b4, b5, b6, b7, b8, b9, b10⟩ := HX.out.2.1.cells; clear hb2; have ⟨r1, r2⟩ := HR.out _ HX.out.2.2; clear HR) | (go_at_call 46; refine Calls_on (HV.out _ HX.out.2.2) ?_))
  go_ret
  exact ⟨by first | rfl | (simp; done) | (simp; omega), HX.out.2.2⟩

end Go.Proofs.YtegjageenofbjaaGreat.Cd
