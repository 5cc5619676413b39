/-
  The document's table of descriptors: Is, Open, Len. No table of the program's.
-/
import Derived.Test.YtmbkheaghiojeaaHdf
namespace Go.Proofs.Ytmbkheaghiojeaa.Ck
open Go.RowKit

/-- The cells of the document's table. -/
structure CR (cs : Array Value) (F : Nat → FE) : Prop where
  size : cs.size = 160
  op : ∀ k, k < 32 → cs[k * 5]? = some (.bool (F k).op)
  t : ∀ k, k < 32 → cs[k * 5 + 1]? = some (.int .i64 (F k).t)
  n : ∀ k, k < 32 → cs[k * 5 + 2]? = some (.int .i64 (F k).n)
  fl : ∀ k, k < 32 → cs[k * 5 + 3]? = some (.int .i64 (F k).fl)
  at' : ∀ k, k < 32 → cs[k * 5 + 4]? = some (.int .i64 (F k).at')
def RM (w : World) (c : Nat) (F : Nat → FE) : Prop := ∃ cs, w.heap[c]? = some (.cells cs 33 (0, 0)) ∧ CR cs F
theorem RM.kept {w w' : World} {c : Nat} {F : Nat → FE} (h : RM w c F) (hb : w'.heap[c]? = w.heap[c]?) : RM w' c F := by
  obtain ⟨cs, h1, h2⟩ := h
  exact ⟨cs, hb.trans h1, h2⟩
theorem RM.lt {w : World} {c : Nat} {F : Nat → FE} (h : RM w c F) : c < w.heap.size := by
  obtain ⟨cs, hb, _⟩ := h
  exact block_lt hb
theorem RM.below {w w' : World} {c : Nat} {F : Nat → FE} (h : RM w c F) (hb : Below w.heap.size w w') : RM w' c F := h.kept (hb.block c h.lt)
theorem RM.five {w : World} {c : Nat} {F : Nat → FE} (h : RM w c F) {a : Nat} (ha : a < 32) : Five w c a (F a) := by
  obtain ⟨cs, hb, hc⟩ := h
  exact ⟨(cellOf hb _).trans (hc.op a ha), (cellOf hb _).trans (hc.t a ha), (cellOf hb _).trans (hc.n a ha), (cellOf hb _).trans (hc.fl a ha), (cellOf hb _).trans (hc.at' a ha), frozenOf hb _, frozenOf hb _, frozenOf hb _, frozenOf hb _, frozenOf hb _⟩

theorem RM.setFE {w : World} {c : Nat} {F : Nat → FE} (h : RM w c F) {a : Nat} (ha : a < 32) (e : FE) : RM (setFE w c a e) c (updF F a e) := by
  obtain ⟨cs, hb, hc⟩ := h
  have hs := hc.size
  refine ⟨_, heap_set_same (heap_set_same (heap_set_same (heap_set_same (heap_set_same hb _) _) _) _) _, ?_⟩
  generalize hC : ((((cs.setIfInBounds (a * 5) (.bool e.op)).setIfInBounds (a * 5 + 1) (.int .i64 e.t)).setIfInBounds (a * 5 + 2) (.int .i64 e.n)).setIfInBounds (a * 5 + 3) (.int .i64 e.fl)).setIfInBounds (a * 5 + 4) (.int .i64 e.at') = C
  have q : ∀ j, j < a * 5 ∨ a * 5 + 4 < j → C[j]? = cs[j]? := fun j hj => by
    rw [← hC, Array.getElem?_setIfInBounds_ne (by omega), Array.getElem?_setIfInBounds_ne (by omega), Array.getElem?_setIfInBounds_ne (by omega), Array.getElem?_setIfInBounds_ne (by omega), Array.getElem?_setIfInBounds_ne (by omega)]
  have v4 : C[a * 5 + 4]? = some (.int .i64 e.at') := by rw [← hC, Array.getElem?_setIfInBounds_self_of_lt (by simp; omega)]
  have v3 : C[a * 5 + 3]? = some (.int .i64 e.fl) := by rw [← hC, Array.getElem?_setIfInBounds_ne (by omega), Array.getElem?_setIfInBounds_self_of_lt (by simp; omega)]
  have v2 : C[a * 5 + 2]? = some (.int .i64 e.n) := by rw [← hC, Array.getElem?_setIfInBounds_ne (by omega), Array.getElem?_setIfInBounds_ne (by omega), Array.getElem?_setIfInBounds_self_of_lt (by simp; omega)]
  have v1 : C[a * 5 + 1]? = some (.int .i64 e.t) := by rw [← hC, Array.getElem?_setIfInBounds_ne (by omega), Array.getElem?_setIfInBounds_ne (by omega), Array.getElem?_setIfInBounds_ne (by omega), Array.getElem?_setIfInBounds_self_of_lt (by simp; omega)]
  have v0 : C[a * 5]? = some (.bool e.op) := by rw [← hC, Array.getElem?_setIfInBounds_ne (by omega), Array.getElem?_setIfInBounds_ne (by omega), Array.getElem?_setIfInBounds_ne (by omega), Array.getElem?_setIfInBounds_ne (by omega), Array.getElem?_setIfInBounds_self_of_lt (by omega)]
  have hC' : C.size = 160 := by rw [← hC]; simpa using hs
  have hF : ∀ k, k ≠ a → updF F a e k = F k := fun k hk => if_neg hk
  have hE : updF F a e a = e := if_pos rfl
  refine ⟨hC', fun k hk => ?_, fun k hk => ?_, fun k hk => ?_, fun k hk => ?_, fun k hk => ?_⟩
  · by_cases z : k = a
    · subst z; rw [hE]; exact v0
    · rw [q _ (by omega), hF k z]; exact hc.op k hk
  · by_cases z : k = a
    · subst z; rw [hE]; exact v1
    · rw [q _ (by omega), hF k z]; exact hc.t k hk
  · by_cases z : k = a
    · subst z; rw [hE]; exact v2
    · rw [q _ (by omega), hF k z]; exact hc.n k hk
  · by_cases z : k = a
    · subst z; rw [hE]; exact v3
    · rw [q _ (by omega), hF k z]; exact hc.fl k hk
  · by_cases z : k = a
    · subst z; rw [hE]; exact v4
    · rw [q _ (by omega), hF k z]; exact hc.at' k hk
/-- One cell of a file is another. -/
theorem RM.setOp {w : World} {c : Nat} {F : Nat → FE} (h : RM w c F) {a : Nat} (ha : a < 32) (b : Bool) : RM (w.setCell ⟨c, a * 5, none⟩ (.bool b)) c (updF F a { F a with op := b }) := by
  obtain ⟨cs, hb, hc⟩ := h
  have hs := hc.size
  have q : ∀ j, j ≠ a * 5 → (cs.setIfInBounds (a * 5) (.bool b))[j]? = cs[j]? := fun j hj => by rw [Array.getElem?_setIfInBounds_ne (Ne.symm hj)]
  have e2 : ∀ i, (updF F a { F a with op := b } i).t = (F i).t ∧ (updF F a { F a with op := b } i).n = (F i).n ∧ (updF F a { F a with op := b } i).fl = (F i).fl ∧ (updF F a { F a with op := b } i).at' = (F i).at' := fun i => by
    unfold updF; split
    · next e => subst e; exact ⟨rfl, rfl, rfl, rfl⟩
    · exact ⟨rfl, rfl, rfl, rfl⟩
  refine ⟨_, heap_set_same hb _, by simpa using hs, fun i hi => ?_, fun i hi => by rw [q _ (by omega), (e2 i).1]; exact hc.t i hi, fun i hi => by rw [q _ (by omega), (e2 i).2.1]; exact hc.n i hi, fun i hi => by rw [q _ (by omega), (e2 i).2.2.1]; exact hc.fl i hi, fun i hi => by rw [q _ (by omega), (e2 i).2.2.2]; exact hc.at' i hi⟩
  by_cases z : i = a
  · subst z
    rw [Array.getElem?_setIfInBounds_self_of_lt (by omega), show updF F i { F i with op := b } i = { F i with op := b } from if_pos rfl]
  · rw [q _ (by omega), show updF F a { F a with op := b } i = F i from if_neg z]
    exact hc.op i hi
theorem RM.setAt {w : World} {c : Nat} {F : Nat → FE} (h : RM w c F) {a : Nat} (ha : a < 32) (x : Int) : RM (w.setCell ⟨c, a * 5 + 4, none⟩ (.int .i64 x)) c (updF F a { F a with at' := x }) := by
  obtain ⟨cs, hb, hc⟩ := h
  have hs := hc.size
  have q : ∀ j, j ≠ a * 5 + 4 → (cs.setIfInBounds (a * 5 + 4) (.int .i64 x))[j]? = cs[j]? := fun j hj => by rw [Array.getElem?_setIfInBounds_ne (Ne.symm hj)]
  have e2 : ∀ i, (updF F a { F a with at' := x } i).op = (F i).op ∧ (updF F a { F a with at' := x } i).t = (F i).t ∧ (updF F a { F a with at' := x } i).n = (F i).n ∧ (updF F a { F a with at' := x } i).fl = (F i).fl := fun i => by
    unfold updF; split
    · next e => subst e; exact ⟨rfl, rfl, rfl, rfl⟩
    · exact ⟨rfl, rfl, rfl, rfl⟩
  refine ⟨_, heap_set_same hb _, by simpa using hs, fun i hi => by rw [q _ (by omega), (e2 i).1]; exact hc.op i hi, fun i hi => by rw [q _ (by omega), (e2 i).2.1]; exact hc.t i hi, fun i hi => by rw [q _ (by omega), (e2 i).2.2.1]; exact hc.n i hi, fun i hi => by rw [q _ (by omega), (e2 i).2.2.2]; exact hc.fl i hi, fun i hi => ?_⟩
  by_cases z : i = a
  · subst z
    rw [Array.getElem?_setIfInBounds_self_of_lt (by omega), show updF F i { F i with at' := x } i = { F i with at' := x } from if_pos rfl]
  · rw [q _ (by omega), show updF F a { F a with at' := x } i = F i from if_neg z]
    exact hc.at' i hi
def zR : Array Value := ((List.range 160).map zV).toArray
theorem zeroR (w : World) : (zeroValue 33).run Try.prog w = .ok (.agg zR) w := by kernel_rfl
theorem zR_at (j : Nat) (hj : j < 160) : zR[j]? = some (zV j) := by
  simp [zR, hj]
theorem CR.zero : CR zR (fun _ => zE) := by
  refine ⟨by simp [zR], fun k hk => ?_, fun k hk => ?_, fun k hk => ?_, fun k hk => ?_, fun k hk => ?_⟩
  · rw [zR_at _ (by omega), zV_bool _ (by omega) (by omega)]
  · rw [zR_at _ (by omega), zV_int _ (by omega)]
  · rw [zR_at _ (by omega), zV_int _ (by omega)]
  · rw [zR_at _ (by omega), zV_int _ (by omega)]
  · rw [zR_at _ (by omega), zV_int _ (by omega)]

set_option maxRecDepth 8000 in
set_option maxHeartbeats 400000 in
theorem rdIs_any (c : Nat) (F : Nat → FE) (fd : Int) (w : World) (h : RM w c F) :
    Calls Try.prog 7 #[ep c, .int .i64 fd] w fun e w' => e = .returned (.bool (isO F fd)) ∧ w' = w := by
  by_cases h0 : 0 ≤ fd
  · by_cases h1 : fd < 32
    · obtain ⟨k, rfl⟩ : ∃ k : Nat, fd = k := ⟨fd.toNat, by omega⟩
      have hk : k < 32 := by omega
      rw [isO_nat hk]
      have y0 := (h.five hk).y0
      generalize (F k).op = r at *
      have b1 : (0 : Int) ≤ (k : Int) := by omega
      have b2 : (k : Int) < 32 := by omega
      clear h h0 h1
      go_enter Try.func7, Try.ntmps7
      go_wp2_with fail
      go_ret
      exact ⟨rfl, rfl⟩
    · have e : isO F fd = false := by simp [isO, h1]
      rw [e]
      clear e h
      go_enter Try.func7, Try.ntmps7
      go_wp2_with fail
      go_ret
      exact ⟨rfl, rfl⟩
  · have e : isO F fd = false := by simp [isO, h0]
    rw [e]
    clear e h
    go_enter Try.func7, Try.ntmps7
    go_wp2_with fail
    go_ret
    exact ⟨rfl, rfl⟩

/-- How many of the first k numbers are open. -/
def cntO (F : Nat → FE) : Nat → Nat
  | 0 => 0
  | k + 1 => cntO F k + (if (F k).op then 1 else 0)
theorem cntO_s (F : Nat → FE) (k : Nat) : cntO F (k + 1) = cntO F k + (if (F k).op then 1 else 0) := rfl
theorem cntO_le (F : Nat → FE) (k : Nat) : cntO F k ≤ k := by
  induction k with
  | zero => exact Nat.le_refl _
  | succ k ih => unfold cntO; split <;> omega

set_option maxRecDepth 8000 in
set_option maxHeartbeats 1000000 in
theorem rdLen_any (c : Nat) (F : Nat → FE) (w : World) (h : RM w c F) :
    Calls Try.prog 16 #[ep c] w fun e w' => e = .returned (.int .i64 (cntO F 32 : Nat)) ∧ w' = w := by
  have HH : Hid (RM w c F) := h
  clear h
  go_enter Try.func16, Try.ntmps16
  go_wp2_with fail
  go_loopw [3, 4] (fun nn ii wr => ∃ i : Nat, nn = .int .i64 (cntO F i : Nat) ∧ ii = .int .i64 i ∧ i ≤ 32 ∧ wr = w) (fun _ ii _ => 32 - (intOf ii).toNat)
  case atStart => exact ⟨0, rfl, rfl, by omega, rfl⟩
  case round =>
    obtain ⟨i, rfl, rfl, hi, rfl⟩ := hrel
    have hle := cntO_le F i
    by_cases hlt : i < 32
    · have hltI : (i : Int) < 32 := by omega
      have b1 : (0 : Int) ≤ (i : Int) := by omega
      have y0 := (HH.out.five hlt).y0
      cases ho : (F i).op
      · rw [ho] at y0
        have he : cntO F (i + 1) = cntO F i := by rw [cntO_s, ho]; rfl
        have HE : Hid (cntO F (i + 1) = cntO F i) := he
        clear ho he
        generalize hn : cntO F i = n at *
        go_wp2_with fail
        go_roundw
        case rel => exact ⟨i + 1, by rw [HE.out], by go_num, by omega, trivial⟩
        case measure => simp [intOf]; omega
      · rw [ho] at y0
        have he : cntO F (i + 1) = cntO F i + 1 := by rw [cntO_s, ho]; rfl
        have HE : Hid (cntO F (i + 1) = cntO F i + 1) := he
        clear ho he
        generalize hn : cntO F i = n at *
        go_wp2_with fail
        go_roundw
        case rel => exact ⟨i + 1, by rw [HE.out]; go_num, by go_num, by omega, trivial⟩
        case measure => simp [intOf]; omega
    · obtain rfl : i = 32 := by omega
      go_wp2_with fail
      go_ret
      exact ⟨rfl, rfl⟩

set_option maxRecDepth 8000 in
set_option maxHeartbeats 2000000 in
theorem rdOpen_any (c : Nat) (F : Nat → FE) (t n fl : Int) (w : World) (h : RM w c F) :
    Calls Try.prog 9 #[ep c, .agg #[.int .i64 t, .int .i64 n], .int .i64 fl] w fun e w' => (∃ a : Nat, a < 32 ∧ (F a).op = false ∧ (∀ k, k < a → (F k).op = true) ∧ e = .returned (.tuple #[.int .i64 a, .int .i64 0]) ∧ RM w' c (updF F a ⟨true, t, n, fl, 0⟩) ∧ OnC c w w') ∨
      ((∀ k, k < 32 → (F k).op = true) ∧ e = .returned (.tuple #[.int .i64 0, .int .i64 23]) ∧ Below w.heap.size w w') := by
  have HW := below_new w (.cells #[.int .i64 t, .int .i64 n] 28)
  have HE : Hid ((w.alloc (.cells #[.int .i64 t, .int .i64 n] 28)).heap[w.heap.size]? = some (.cells #[.int .i64 t, .int .i64 n] 28 (0, 0)) ∧ RM (w.alloc (.cells #[.int .i64 t, .int .i64 n] 28)) c F) := ⟨new_at _ _, h.below HW.out⟩
  clear h
  go_enter Try.func9, Try.ntmps9
  go_wp2_with fail
  go_loopw [8] (fun ii wr => ∃ i : Nat, ii = .int .i64 i ∧ i ≤ 32 ∧ Hid (∀ k, k < i → (F k).op = true) ∧ wr = w.alloc (.cells #[.int .i64 t, .int .i64 n] 28)) (fun ii _ => 32 - (intOf ii).toNat)
  case atStart => exact ⟨0, rfl, by omega, fun k hk => absurd hk (by omega), rfl⟩
  case round =>
    obtain ⟨i, rfl, hi, HK, rfl⟩ := hrel
    by_cases hlt : i < 32
    · have hltI : (i : Int) < 32 := by omega
      have b1 : (0 : Int) ≤ (i : Int) := by omega
      cases ho : (F i).op
      · obtain ⟨y0, y1, y2, y3, y4, f0, f1, f2, f3, f4⟩ := HE.out.2.five hlt
        rw [ho] at y0
        have HX : Hid (RM (setFE (w.alloc (.cells #[.int .i64 t, .int .i64 n] 28)) c i ⟨true, t, n, fl, 0⟩).drew c (updF F i ⟨true, t, n, fl, 0⟩) ∧ OnC c w (setFE (w.alloc (.cells #[.int .i64 t, .int .i64 n] 28)) c i ⟨true, t, n, fl, 0⟩).drew ∧ (F i).op = false) := ⟨(HE.out.2.setFE hlt _).below ⟨rfl, rfl, rfl, Nat.le_refl _, fun _ _ => rfl⟩, ((OnC.of_below HW.out).next (OnC.setFE _ _ _ _)).drew, ho⟩
        unfold setFE at HX
        have x0 : (w.alloc (.cells #[.int .i64 t, .int .i64 n] 28)).cell? ⟨w.heap.size, 0, none⟩ = some (.int .i64 t) := cellOf HE.out.1 0
        have x1 : (w.alloc (.cells #[.int .i64 t, .int .i64 n] 28)).cell? ⟨w.heap.size, 1, none⟩ = some (.int .i64 n) := cellOf HE.out.1 1
        clear ho
        go_wp2_with fail
        go_region
        all_goals go_wp2_with fail
        all_goals
          go_ret2
          exact .inl ⟨i, hlt, HX.out.2.2, HK.out, rfl, HX.out.1, HX.out.2.1⟩
      · have y0 := (HE.out.2.five hlt).y0
        rw [ho] at y0
        have HO : Hid ((F i).op = true) := ho
        clear ho
        go_wp2_with fail
        go_roundw
        case rel => exact ⟨i + 1, by go_num, by omega, fun k hk => by
          by_cases z : k = i
          · subst z; exact HO.out
          · exact HK.out k (by omega), trivial⟩
        case measure => simp [intOf]; omega
    · obtain rfl : i = 32 := by omega
      go_wp2_with fail
      go_ret2
      exact .inr ⟨HK.out, rfl, HW.out⟩

theorem nopen (t n fl : Int) (w : World) : Calls Try.prog 8 #[.pointer none, .agg #[.int .i64 t, .int .i64 n], .int .i64 fl] w fun e w' => e = .returned (.tuple #[.int .i64 0, .int .i64 23]) ∧ Below w.heap.size w w' := by
  have HW := below_new w (.cells #[.int .i64 t, .int .i64 n] 28)
  have cR : ∀ W, Calls Try.prog 17 #[.pointer none] W fun e w' => e = .returned (.bool false) ∧ w' = W := fun W => by
    go_enter Try.func17, Try.ntmps17
    go_wp2_with fail
    go_ret
    exact ⟨rfl, rfl⟩
  go_enter Try.func8, Try.ntmps8
  go_wp2_with (go_at_call 17; refine Calls_on (cR _) ?_)
  go_ret2
  exact ⟨rfl, HW.out⟩
theorem nroom (w : World) : Calls Try.prog 17 #[.pointer none] w fun e w' => e = .returned (.bool false) ∧ w' = w := by
  go_enter Try.func17, Try.ntmps17
  go_wp2_with fail
  go_ret
  exact ⟨rfl, rfl⟩
theorem nlen (w : World) : Calls Try.prog 15 #[.pointer none] w fun e w' => e = .returned (.int .i64 0) ∧ w' = w := by
  go_enter Try.func15, Try.ntmps15
  go_wp2_with fail
  go_ret
  exact ⟨rfl, rfl⟩
theorem nhas (k : Int) (w : World) : Calls Try.prog 19 #[.pointer none, .int .i64 k] w fun e w' => e = .returned (.bool false) ∧ w' = w := by
  go_enter Try.func19, Try.ntmps19
  go_wp2_with fail
  go_ret
  exact ⟨rfl, rfl⟩
theorem nclose (k : Int) (w : World) : Calls Try.prog 10 #[.pointer none, .int .i64 k] w fun e w' => e = .returned (.int .i64 9) ∧ w' = w := by
  go_enter Try.func10, Try.ntmps10
  go_wp2_with (go_at_call 19; refine Calls_on (nhas _ _) ?_)
  go_ret
  exact ⟨rfl, rfl⟩
theorem nseek (k x : Int) (w : World) : Calls Try.prog 11 #[.pointer none, .int .i64 k, .int .i64 x] w fun e w' => e = .returned (.int .i64 9) ∧ w' = w := by
  go_enter Try.func11, Try.ntmps11
  go_wp2_with (go_at_call 19; refine Calls_on (nhas _ _) ?_)
  go_ret
  exact ⟨rfl, rfl⟩
theorem nget (k : Int) (w : World) : Calls Try.prog 13 #[.pointer none, .int .i64 k] w fun e w' => e = .returned (.tuple #[.agg #[.int .i64 0, .int .i64 0], .int .i64 0, .int .i64 0, .int .i64 9]) ∧ Below w.heap.size w w' := by
  have HW := below_new w (.cells #[.int .i64 0, .int .i64 0] 28)
  go_enter Try.func13, Try.ntmps13
  go_wp2_with (go_at_call 19; refine Calls_on (nhas _ _) ?_)
  exact bodyPost_ret (results_row4 rfl _ _ w.heap.size _ rfl (loadID (new_at _ _))) rfl ⟨rfl, HW.out⟩

end Go.Proofs.Ytmbkheaghiojeaa.Ck
