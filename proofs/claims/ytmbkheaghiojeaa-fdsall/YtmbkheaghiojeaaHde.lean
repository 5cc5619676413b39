/-
  A table of descriptors: Open, Seek, Close, Get.
-/
import Derived.Test.YtmbkheaghiojeaaHdd
import Derived.Laws.Tables
namespace Go.Proofs.Ytmbkheaghiojeaa.Ck
open Go.RowKit

theorem new_at (w : World) (o : Obj) : (w.alloc o).heap[w.heap.size]? = some o := by
  unfold World.alloc
  simp
def updF (F : Nat → FE) (a : Nat) (e : FE) : Nat → FE := fun k => if k = a then e else F k
def setFE (w : World) (c a : Nat) (e : FE) : World := ((((w.setCell ⟨c, a * 5, none⟩ (.bool e.op)).setCell ⟨c, a * 5 + 1, none⟩ (.int .i64 e.t)).setCell ⟨c, a * 5 + 2, none⟩ (.int .i64 e.n)).setCell ⟨c, a * 5 + 3, none⟩ (.int .i64 e.fl)).setCell ⟨c, a * 5 + 4, none⟩ (.int .i64 e.at')
theorem OnC.setFE (c a : Nat) (e : FE) (w : World) : OnC c w (setFE w c a e) := ((((OnC.set _ _ _ _).next (OnC.set _ _ _ _)).next (OnC.set _ _ _ _)).next (OnC.set _ _ _ _)).next (OnC.set _ _ _ _)

theorem TM.setFE {w : World} {c : Nat} {F : Nat → FE} {m : Nat} {I : List Nat} (h : TM w c F m I) {a : Nat} (ha : a < 32) (e : FE) : TM (setFE w c a e) c (updF F a e) m I := by
  obtain ⟨cs, hb, hc⟩ := h
  have hs := hc.size
  have hl := hc.len
  refine ⟨_, heap_set_same (heap_set_same (heap_set_same (heap_set_same (heap_set_same hb _) _) _) _) _, ?_⟩
  generalize hC : ((((cs.setIfInBounds (a * 5) (.bool e.op)).setIfInBounds (a * 5 + 1) (.int .i64 e.t)).setIfInBounds (a * 5 + 2) (.int .i64 e.n)).setIfInBounds (a * 5 + 3) (.int .i64 e.fl)).setIfInBounds (a * 5 + 4) (.int .i64 e.at') = C
  have q : ∀ j, j < a * 5 ∨ a * 5 + 4 < j → C[j]? = cs[j]? := fun j hj => by
    rw [← hC, Array.getElem?_setIfInBounds_ne (by omega), Array.getElem?_setIfInBounds_ne (by omega), Array.getElem?_setIfInBounds_ne (by omega), Array.getElem?_setIfInBounds_ne (by omega), Array.getElem?_setIfInBounds_ne (by omega)]
  have v4 : C[a * 5 + 4]? = some (.int .i64 e.at') := by rw [← hC, Array.getElem?_setIfInBounds_self_of_lt (by simp; omega)]
  have v3 : C[a * 5 + 3]? = some (.int .i64 e.fl) := by rw [← hC, Array.getElem?_setIfInBounds_ne (by omega), Array.getElem?_setIfInBounds_self_of_lt (by simp; omega)]
  have v2 : C[a * 5 + 2]? = some (.int .i64 e.n) := by rw [← hC, Array.getElem?_setIfInBounds_ne (by omega), Array.getElem?_setIfInBounds_ne (by omega), Array.getElem?_setIfInBounds_self_of_lt (by simp; omega)]
  have v1 : C[a * 5 + 1]? = some (.int .i64 e.t) := by rw [← hC, Array.getElem?_setIfInBounds_ne (by omega), Array.getElem?_setIfInBounds_ne (by omega), Array.getElem?_setIfInBounds_ne (by omega), Array.getElem?_setIfInBounds_self_of_lt (by simp; omega)]
  have v0 : C[a * 5]? = some (.bool e.op) := by rw [← hC, Array.getElem?_setIfInBounds_ne (by omega), Array.getElem?_setIfInBounds_ne (by omega), Array.getElem?_setIfInBounds_ne (by omega), Array.getElem?_setIfInBounds_ne (by omega), Array.getElem?_setIfInBounds_self_of_lt (by omega)]
  have hC' : C.size = 194 := by rw [← hC]; simpa using hs
  have hF : ∀ k, k ≠ a → updF F a e k = F k := fun k hk => if_neg hk
  have hE : updF F a e a = e := if_pos rfl
  refine ⟨hC', by rw [q _ (by omega)]; exact hc.met, by rw [q _ (by omega)]; exact hc.count, fun k hk => ?_, fun k hk => ?_, fun k hk => ?_, fun k hk => ?_, fun k hk => ?_, fun k hk => by rw [q _ (by omega)]; exact hc.row k hk, hl⟩
  · by_cases z : k = a
    · subst z; rw [hE]; exact v0
    · rw [q _ (by omega), hF k z]; exact hc.op k hk
  · by_cases z : k = a
    · subst z; rw [hE]; exact v1
    · rw [q _ (by omega), hF k z]; exact hc.t k hk
  · by_cases z : k = a
    · subst z; rw [hE]; exact v2
    · rw [q _ (by omega), hF k z]; exact hc.n k hk
  · by_cases z : k = a
    · subst z; rw [hE]; exact v3
    · rw [q _ (by omega), hF k z]; exact hc.fl k hk
  · by_cases z : k = a
    · subst z; rw [hE]; exact v4
    · rw [q _ (by omega), hF k z]; exact hc.at' k hk

/-- A file's five cells. -/
structure Five (w : World) (c a : Nat) (e : FE) : Prop where
  y0 : w.cell? ⟨c, a * 5, none⟩ = some (.bool e.op)
  y1 : w.cell? ⟨c, a * 5 + 1, none⟩ = some (.int .i64 e.t)
  y2 : w.cell? ⟨c, a * 5 + 2, none⟩ = some (.int .i64 e.n)
  y3 : w.cell? ⟨c, a * 5 + 3, none⟩ = some (.int .i64 e.fl)
  y4 : w.cell? ⟨c, a * 5 + 4, none⟩ = some (.int .i64 e.at')
  f0 : w.frozen? ⟨c, a * 5, none⟩ = false
  f1 : w.frozen? ⟨c, a * 5 + 1, none⟩ = false
  f2 : w.frozen? ⟨c, a * 5 + 2, none⟩ = false
  f3 : w.frozen? ⟨c, a * 5 + 3, none⟩ = false
  f4 : w.frozen? ⟨c, a * 5 + 4, none⟩ = false
theorem TM.five {w : World} {c : Nat} {F : Nat → FE} {m : Nat} {I : List Nat} (h : TM w c F m I) {a : Nat} (ha : a < 32) : Five w c a (F a) := by
  obtain ⟨cs, hb, hc⟩ := h
  exact ⟨(cellOf hb _).trans (hc.op a ha), (cellOf hb _).trans (hc.t a ha), (cellOf hb _).trans (hc.n a ha), (cellOf hb _).trans (hc.fl a ha), (cellOf hb _).trans (hc.at' a ha), frozenOf hb _, frozenOf hb _, frozenOf hb _, frozenOf hb _, frozenOf hb _⟩
theorem OnC.keep {c : Nat} {w w' : World} (h : OnC c w w') {b : Nat} {o : Obj} (hb : w.heap[b]? = some o) (hn : b ≠ c) : w'.heap[b]? = some o := (h.block b (block_lt hb) hn).trans hb
theorem TM.lt {w : World} {c : Nat} {F : Nat → FE} {m : Nat} {I : List Nat} (h : TM w c F m I) : c < w.heap.size := by
  obtain ⟨cs, hb, _⟩ := h
  exact block_lt hb

theorem Took.td {w0 w : World} {c : Nat} {F : Nat → FE} {m : Nat} {I : List Nat} {a : Nat} (h : Took w0 w c F m I a) (e : FE) (he : e.op = true) : TD (setFE w c a e) c (updF F a e) m I := by
  have ha : a < 32 := by have := h.am; have := h.met; omega
  refine ⟨h.mem.setFE ha e, h.heap, h.nodup, h.lt, h.met, fun k hk => ?_⟩
  by_cases z : k = a
  · subst z
    rw [show updF F k e k = e from if_pos rfl, he]
    exact ⟨fun _ => ⟨h.am, h.aI⟩, fun _ => rfl⟩
  · rw [show updF F a e k = F k from if_neg z]
    exact h.op k hk z

set_option maxRecDepth 8000 in
set_option maxHeartbeats 1000000 in
theorem fdOpen_any (c : Nat) (F : Nat → FE) (m : Nat) (I : List Nat) (t n fl : Int) (w : World) (h : TD w c F m I) (hr : m - I.length < 32) :
    Calls Try.prog 8 #[ep c, .agg #[.int .i64 t, .int .i64 n], .int .i64 fl] w fun e w' => ∃ a m' I', e = .returned (.tuple #[.int .i64 (a : Nat), .int .i64 0]) ∧ TD w' c (updF F a ⟨true, t, n, fl, 0⟩) m' I' ∧ a < 32 ∧ (F a).op = false ∧ (∀ k, k < a → (F k).op = true) ∧ OnC c w w' := by
  have HW := below_new w (.cells #[.int .i64 t, .int .i64 n] 28)
  have e0 : (w.alloc (.cells #[.int .i64 t, .int .i64 n] 28)).heap[w.heap.size]? = some (.cells #[.int .i64 t, .int .i64 n] 28 (0, 0)) := new_at _ _
  have hcw : w.heap.size ≠ c := by have := h.mem.lt; omega
  have HE : Hid ((w.alloc (.cells #[.int .i64 t, .int .i64 n] 28)).heap[w.heap.size]? = some (.cells #[.int .i64 t, .int .i64 n] 28 (0, 0)) ∧ w.heap.size ≠ c) := ⟨e0, hcw⟩
  have cR := fdRoom_any c F m I _ (h.below HW.out)
  have hd : decide (m - I.length < 32) = true := by simpa using hr
  rw [hd] at cR
  have HT : Hid (∀ W, Below w.heap.size w W → Calls Try.prog 18 #[ep c] W fun e w' => ∃ a m' I', e = .returned (.int .i64 (a : Nat)) ∧ Took W w' c F m' I' a) := fun W hW => fdTake_any c F m I W (h.below hW) hr
  clear h hr hd e0 hcw
  go_enter Try.func8, Try.ntmps8
  go_wp2_with (first
    | (go_at_call 17; refine Calls_new cR ?_; intro w1 hb1; have H1 : Hid (Below w.heap.size w w1 ∧ w1.heap[w.heap.size]? = some (.cells #[.int .i64 t, .int .i64 n] 28 (0, 0))) := ⟨HW.out.trans (hb1.out.mono HW.out.size), (hb1.out.block _ (block_lt HE.out.1)).trans HE.out.1⟩; clear hb1 cR; have cT := HT.out w1 H1.out.1)
    | (go_at_call 18; refine cT.mono ?_; rintro e w2 ⟨a, m', I', rfl, h2⟩; have H2 : Hid (Took w1 w2 c F m' I' a) := h2; clear h2 cT; refine Stop.out ?_))
  refine Stop.mk ?_
  have ha : a < 32 := by have := H2.out.am; have := H2.out.met; omega
  have b1 : (0 : Int) ≤ (a : Int) := by omega
  have b2 : (a : Int) < 32 := by omega
  have hbx := H2.out.on.keep H1.out.2 HE.out.2
  have x0 : w2.cell? ⟨w.heap.size, 0, none⟩ = some (.int .i64 t) := cellOf hbx 0
  have x1 : w2.cell? ⟨w.heap.size, 1, none⟩ = some (.int .i64 n) := cellOf hbx 1
  obtain ⟨y0, y1, y2, y3, y4, f0, f1, f2, f3, f4⟩ := H2.out.mem.five ha
  have HX : Hid (TD (setFE w2 c a ⟨true, t, n, fl, 0⟩).drew c (updF F a ⟨true, t, n, fl, 0⟩) m' I' ∧ OnC c w (setFE w2 c a ⟨true, t, n, fl, 0⟩).drew) := ⟨(H2.out.td ⟨true, t, n, fl, 0⟩ rfl).drew, (((OnC.of_below H1.out.1).next H2.out.on).next (OnC.setFE _ _ _ _)).drew⟩
  unfold setFE at HX
  clear hbx
  go_wp2_with fail
  go_region
  all_goals go_wp2_with fail
  all_goals
    go_ret2
    exact ⟨a, m', I', rfl, HX.out.1, ha, H2.out.free, H2.out.least, HX.out.2⟩

set_option maxRecDepth 8000 in
set_option maxHeartbeats 1000000 in
theorem fdOpen_full (c : Nat) (F : Nat → FE) (m : Nat) (I : List Nat) (t n fl : Int) (w : World) (h : TD w c F m I) (hr : ¬ m - I.length < 32) :
    Calls Try.prog 8 #[ep c, .agg #[.int .i64 t, .int .i64 n], .int .i64 fl] w fun e w' => e = .returned (.tuple #[.int .i64 0, .int .i64 23]) ∧ Below w.heap.size w w' := by
  have HW := below_new w (.cells #[.int .i64 t, .int .i64 n] 28)
  have cR := fdRoom_any c F m I _ (h.below HW.out)
  have hd : decide (m - I.length < 32) = false := by simpa using hr
  rw [hd] at cR
  clear h hr hd
  go_enter Try.func8, Try.ntmps8
  go_wp2_with (first
    | (go_at_call 17; refine Calls_new cR ?_; intro w1 hb1; have H1 : Hid (Below w.heap.size w w1) := HW.out.trans (hb1.out.mono HW.out.size); clear hb1 cR))
  go_ret2
  exact ⟨rfl, H1.out⟩

/-- Is the number open? -/
def isO (F : Nat → FE) (fd : Int) : Bool := decide (0 ≤ fd) && decide (fd < 32) && (F fd.toNat).op
theorem isO_in {F : Nat → FE} {fd : Int} (h : isO F fd = true) : ∃ k : Nat, fd = k ∧ k < 32 ∧ (F k).op = true := by
  simp only [isO, Bool.and_eq_true, decide_eq_true_eq] at h
  exact ⟨fd.toNat, by omega, by omega, h.2⟩
theorem isO_nat {F : Nat → FE} {k : Nat} (h : k < 32) : isO F (k : Nat) = (F k).op := by
  have h1 : decide ((k : Int) < 32) = true := by simpa using (by omega : (k : Int) < 32)
  simp [isO, h1]
theorem fdHas_any (c : Nat) (F : Nat → FE) (m : Nat) (I : List Nat) (fd : Int) (w : World) (h : TD w c F m I) :
    Calls Try.prog 19 #[ep c, .int .i64 fd] w fun e w' => e = .returned (.bool (isO F fd)) ∧ w' = w := by
  by_cases hk : 0 ≤ fd ∧ fd < 32
  · obtain ⟨k, rfl⟩ : ∃ k : Nat, fd = k := ⟨fd.toNat, by omega⟩
    rw [isO_nat (by omega)]
    exact fdHas_in c F m I k w h (by omega)
  · have : isO F fd = false := by
      unfold isO
      by_cases h0 : 0 ≤ fd
      · have : ¬ fd < 32 := by omega
        simp [this]
      · simp [h0]
    rw [this]
    exact fdHas_out c fd w hk

/-- The offset of an open file is another. -/
theorem TD.seek {w : World} {c : Nat} {F : Nat → FE} {m : Nat} {I : List Nat} (h : TD w c F m I) {k : Nat} (hk : k < 32) (at2 : Int) : TD (w.setCell ⟨c, k * 5 + 4, none⟩ (.int .i64 at2)) c (updF F k { F k with at' := at2 }) m I := by
  have ho : ∀ j, (updF F k { F k with at' := at2 } j).op = (F j).op := fun j => by
    unfold updF; split
    · next e => subst e; rfl
    · rfl
  refine ⟨?_, h.heap, h.nodup, h.lt, h.met, fun j hj => by rw [ho]; exact h.op j hj⟩
  obtain ⟨cs, hb, hc⟩ := h.mem
  have hs := hc.size
  have hl := hc.len
  have q : ∀ j, j ≠ k * 5 + 4 → (cs.setIfInBounds (k * 5 + 4) (.int .i64 at2))[j]? = cs[j]? := fun j hj => by rw [Array.getElem?_setIfInBounds_ne (Ne.symm hj)]
  refine ⟨_, heap_set_same hb _, by simpa using hs, by rw [q _ (by omega)]; exact hc.met, by rw [q _ (by omega)]; exact hc.count, fun i hi => ?_, fun i hi => ?_, fun i hi => ?_, fun i hi => ?_, fun i hi => ?_, fun i hi => by rw [q _ (by omega)]; exact hc.row i hi, hl⟩
  · rw [q _ (by omega), ho]; exact hc.op i hi
  · rw [q _ (by omega)]
    have : (updF F k { F k with at' := at2 } i).t = (F i).t := by
      unfold updF; split
      · next e => subst e; rfl
      · rfl
    rw [this]; exact hc.t i hi
  · rw [q _ (by omega)]
    have : (updF F k { F k with at' := at2 } i).n = (F i).n := by
      unfold updF; split
      · next e => subst e; rfl
      · rfl
    rw [this]; exact hc.n i hi
  · rw [q _ (by omega)]
    have : (updF F k { F k with at' := at2 } i).fl = (F i).fl := by
      unfold updF; split
      · next e => subst e; rfl
      · rfl
    rw [this]; exact hc.fl i hi
  · by_cases z : i = k
    · subst z
      rw [Array.getElem?_setIfInBounds_self_of_lt (by omega), show updF F i { F i with at' := at2 } i = { F i with at' := at2 } from if_pos rfl]
    · rw [q _ (by omega), show updF F k { F k with at' := at2 } i = F i from if_neg z]
      exact hc.at' i hi

/-- What Seek answers. -/
def seekE (F : Nat → FE) (fd at2 : Int) : Int := if isO F fd = false then 9 else if at2 < 0 then 22 else if 1073741824 < at2 then 75 else 0
def seekF (F : Nat → FE) (fd at2 : Int) : Nat → FE := if seekE F fd at2 = 0 then updF F fd.toNat { F fd.toNat with at' := at2 } else F

set_option maxRecDepth 8000 in
set_option maxHeartbeats 1000000 in
theorem fdSeek_any (c : Nat) (F : Nat → FE) (m : Nat) (I : List Nat) (fd at2 : Int) (w : World) (h : TD w c F m I) :
    Calls Try.prog 11 #[ep c, .int .i64 fd, .int .i64 at2] w fun e w' => e = .returned (.int .i64 (seekE F fd at2)) ∧ TD w' c (seekF F fd at2) m I ∧ OnC c w w' := by
  have cH := fdHas_any c F m I fd w h
  cases ho : isO F fd
  · have he : seekE F fd at2 = 9 := by simp [seekE, ho]
    have hF : seekF F fd at2 = F := by simp [seekF, he]
    rw [he, hF]
    rw [ho] at cH
    have HH : Hid (TD w c F m I) := h
    clear h ho he hF
    go_enter Try.func11, Try.ntmps11
    go_wp2_with (go_at_call 19; refine Calls_on cH ?_)
    go_ret
    exact ⟨rfl, HH.out, OnC.refl _ _⟩
  · rw [ho] at cH
    by_cases h1 : at2 < 0
    · have he : seekE F fd at2 = 22 := by simp [seekE, ho, h1]
      have hF : seekF F fd at2 = F := by simp [seekF, he]
      rw [he, hF]
      have HH : Hid (TD w c F m I) := h
      clear h ho he hF
      go_enter Try.func11, Try.ntmps11
      go_wp2_with (go_at_call 19; refine Calls_on cH ?_)
      go_ret
      exact ⟨rfl, HH.out, OnC.refl _ _⟩
    · by_cases h2 : 1073741824 < at2
      · have he : seekE F fd at2 = 75 := by simp [seekE, ho, h1, h2]
        have hF : seekF F fd at2 = F := by simp [seekF, he]
        rw [he, hF]
        have HH : Hid (TD w c F m I) := h
        have h3 : at2 > 1073741824 := h2
        clear h ho he hF h2
        go_enter Try.func11, Try.ntmps11
        go_wp2_with (go_at_call 19; refine Calls_on cH ?_)
        go_ret
        exact ⟨rfl, HH.out, OnC.refl _ _⟩
      · have he : seekE F fd at2 = 0 := by simp [seekE, ho, h1, h2]
        obtain ⟨k, rfl, hk, hop⟩ := isO_in ho
        have hF : seekF F (k : Nat) at2 = updF F k { F k with at' := at2 } := by simp [seekF, he]
        rw [he, hF]
        have HH : Hid (TD (w.setCell ⟨c, k * 5 + 4, none⟩ (.int .i64 at2)) c (updF F k { F k with at' := at2 }) m I ∧ OnC c w (w.setCell ⟨c, k * 5 + 4, none⟩ (.int .i64 at2))) := ⟨h.seek hk at2, OnC.set _ _ _ _⟩
        have h3 : ¬ at2 > 1073741824 := h2
        obtain ⟨y0, y1, y2, y3, y4, f0, f1, f2, f3, f4⟩ := h.mem.five hk
        have b1 : (0 : Int) ≤ (k : Int) := by omega
        have b2 : (k : Int) < 32 := by omega
        clear h ho he hF h2 hop y0 y1 y2 y3 f0 f1 f2 f3
        go_enter Try.func11, Try.ntmps11
        go_wp2_with (go_at_call 19; refine Calls_on cH ?_)
        go_ret
        exact ⟨rfl, HH.out⟩

end Go.Proofs.Ytmbkheaghiojeaa.Ck
