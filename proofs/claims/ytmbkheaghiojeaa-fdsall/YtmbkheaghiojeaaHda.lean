/-
  A table of descriptors in memory; its heap of numbers: Len, Less, Swap, Pop, Push.
-/
import Derived.Test.YtmbkheaghiojeaaZa
import Derived.Deep.RegionHeld3
namespace Go.Proofs.Ytmbkheaghiojeaa.Ck
open Go.RowKit

/-- What stands at a number. -/
structure FE where
  op : Bool
  t : Int
  n : Int
  fl : Int
  at' : Int

/-- The cells of a table: its files F, m were open at some time, I stands in its heap. -/
structure CS (cs : Array Value) (F : Nat → FE) (m : Nat) (I : List Nat) : Prop where
  size : cs.size = 194
  met : cs[160]? = some (.int .i64 (m : Nat))
  count : cs[193]? = some (.int .i64 (I.length : Nat))
  op : ∀ k, k < 32 → cs[k * 5]? = some (.bool (F k).op)
  t : ∀ k, k < 32 → cs[k * 5 + 1]? = some (.int .i64 (F k).t)
  n : ∀ k, k < 32 → cs[k * 5 + 2]? = some (.int .i64 (F k).n)
  fl : ∀ k, k < 32 → cs[k * 5 + 3]? = some (.int .i64 (F k).fl)
  at' : ∀ k, k < 32 → cs[k * 5 + 4]? = some (.int .i64 (F k).at')
  row : ∀ k, k < I.length → cs[161 + k]? = some (.int .i64 (I.getD k 0 : Nat))
  len : I.length ≤ 32

def TM (w : World) (c : Nat) (F : Nat → FE) (m : Nat) (I : List Nat) : Prop := ∃ cs, w.heap[c]? = some (.cells cs 54 (0, 0)) ∧ CS cs F m I
abbrev np (c : Nat) : Value := .pointer (some ⟨c, 161, none⟩)

set_option maxRecDepth 8000 in
set_option maxHeartbeats 400000 in
theorem fnLen_any (c : Nat) (F : Nat → FE) (m : Nat) (I : List Nat) (w : World) (h : TM w c F m I) :
    Calls Try.prog 21 #[np c] w fun e w' => e = .returned (.int .i64 (I.length : Nat)) ∧ w' = w := by
  obtain ⟨cs, hb, hc⟩ := h
  have c0 := (cellOf hb 193).trans hc.count
  clear hb hc
  go_enter Try.func21, Try.ntmps21
  go_wp2
  go_ret
  exact ⟨rfl, rfl⟩

set_option maxRecDepth 8000 in
set_option maxHeartbeats 1000000 in
theorem fnLess_any (c : Nat) (F : Nat → FE) (m : Nat) (I : List Nat) (i j : Nat) (w : World) (h : TM w c F m I) (hi : i < I.length) (hj : j < I.length) :
    Calls Try.prog 43 #[np c, .int .i64 i, .int .i64 j] w fun e w' => e = .returned (.bool (decide (I.getD i 0 < I.getD j 0))) ∧ Below w.heap.size w w' := by
  obtain ⟨cs, hb, hc⟩ := h
  have c1 := (cellOf hb (161 + i)).trans (hc.row i hi)
  have c2 := (cellOf hb (161 + j)).trans (hc.row j hj)
  have hlen := hc.len
  have b1 : (0 : Int) ≤ (i : Int) := by omega
  have b2 : (0 : Int) ≤ (j : Int) := by omega
  have b3 : (i : Int) < 32 := by omega
  have b4 : (j : Int) < 32 := by omega
  generalize I.getD i 0 = x at *
  generalize I.getD j 0 = y at *
  clear hb hc
  go_enter Try.func43, Try.ntmps43
  go_wp2_with fail
  go_quiet (fail)
  go_wp2
  go_ret
  refine ⟨?_, ⟨rfl, rfl, rfl, Nat.le_refl _, fun _ _ => rfl⟩⟩
  simp

theorem CS.put {cs : Array Value} {F : Nat → FE} {m : Nat} {I J : List Nat} (h : CS cs F m I) (k a : Nat) (hk : k < 32) (hJ : J.length = I.length) (hJk : ∀ i, i < I.length → J.getD i 0 = if i = k then a else I.getD i 0) : CS (cs.setIfInBounds (161 + k) (.int .i64 (a : Nat))) F m J := by
  have hs := h.size
  have q : ∀ j, j ≠ 161 + k → (cs.setIfInBounds (161 + k) (.int .i64 (a : Nat)))[j]? = cs[j]? := fun j hj => by rw [Array.getElem?_setIfInBounds_ne (Ne.symm hj)]
  refine ⟨by simpa using hs, by rw [q _ (by omega)]; exact h.met, by rw [q _ (by omega), hJ]; exact h.count, fun i hi => by rw [q _ (by omega)]; exact h.op i hi, fun i hi => by rw [q _ (by omega)]; exact h.t i hi, fun i hi => by rw [q _ (by omega)]; exact h.n i hi, fun i hi => by rw [q _ (by omega)]; exact h.fl i hi, fun i hi => by rw [q _ (by omega)]; exact h.at' i hi, fun i hi => ?_, by rw [hJ]; exact h.len⟩
  have hi' : i < I.length := by omega
  rw [hJk i hi']
  by_cases e : i = k
  · subst e
    simp [Array.getElem?_setIfInBounds, hs]
    omega
  · rw [q _ (by omega), if_neg e]
    exact h.row i hi'
/-- The number of those in the heap is another. -/
theorem CS.cnt {cs : Array Value} {F : Nat → FE} {m : Nat} {I J : List Nat} (h : CS cs F m I) (hJ : J.length ≤ 32) (hJk : ∀ i, i < J.length → cs[161 + i]? = some (.int .i64 (J.getD i 0 : Nat))) : CS (cs.setIfInBounds 193 (.int .i64 (J.length : Nat))) F m J := by
  have hs := h.size
  have q : ∀ j, j ≠ 193 → (cs.setIfInBounds 193 (.int .i64 (J.length : Nat)))[j]? = cs[j]? := fun j hj => by rw [Array.getElem?_setIfInBounds_ne (Ne.symm hj)]
  refine ⟨by simpa using hs, by rw [q _ (by omega)]; exact h.met, by simp [hs], fun i hi => by rw [q _ (by omega)]; exact h.op i hi, fun i hi => by rw [q _ (by omega)]; exact h.t i hi, fun i hi => by rw [q _ (by omega)]; exact h.n i hi, fun i hi => by rw [q _ (by omega)]; exact h.fl i hi, fun i hi => by rw [q _ (by omega)]; exact h.at' i hi, fun i hi => by rw [q _ (by omega)]; exact hJk i hi, hJ⟩

theorem TM.kept {w w' : World} {c : Nat} {F : Nat → FE} {m : Nat} {I : List Nat} (h : TM w c F m I) (hb : w'.heap[c]? = w.heap[c]?) : TM w' c F m I := by
  obtain ⟨cs, h1, h2⟩ := h
  exact ⟨cs, hb.trans h1, h2⟩
theorem TM.below {w w' : World} {c : Nat} {F : Nat → FE} {m : Nat} {I : List Nat} (h : TM w c F m I) (hb : Below w.heap.size w w') : TM w' c F m I := by
  obtain ⟨cs, h1, h2⟩ := h
  exact ⟨cs, (hb.block c (block_lt h1)).trans h1, h2⟩
def OnC (c : Nat) (w w' : World) : Prop := Only (fun k => k = c) w w'
theorem OnC.refl (c : Nat) (w : World) : OnC c w w := Only.refl _ _
theorem OnC.next {c : Nat} {a b d : World} (h : OnC c a b) (k : OnC c b d) : OnC c a d := ⟨k.os.trans h.os, k.tape.trans h.tape, k.output.trans h.output, Nat.le_trans h.size k.size, fun i hi hn => (k.block i (Nat.lt_of_lt_of_le hi h.size) hn).trans (h.block i hi hn)⟩
theorem OnC.of_below {c : Nat} {w w' : World} (h : Below w.heap.size w w') : OnC c w w' := Below.only h _
theorem OnC.set (c k : Nat) (w : World) (v : Value) : OnC c w (w.setCell ⟨c, k, none⟩ v) := Only.setCell w ⟨c, k, none⟩ v rfl
theorem OnC.drew {c : Nat} {w w' : World} (h : OnC c w w') : OnC c w w'.drew := h.next (OnC.of_below ⟨rfl, rfl, rfl, Nat.le_refl _, fun _ _ => rfl⟩)
theorem TM.drew {w : World} {c : Nat} {F : Nat → FE} {m : Nat} {I : List Nat} (h : TM w c F m I) : TM w.drew c F m I := h.below ⟨rfl, rfl, rfl, Nat.le_refl _, fun _ _ => rfl⟩

theorem TM.swap {w : World} {c : Nat} {F : Nat → FE} {m : Nat} {I : List Nat} (h : TM w c F m I) {i j : Nat} (hi : i < I.length) (hj : j < I.length) :
    TM ((w.setCell ⟨c, 161 + i, none⟩ (.int .i64 (I.getD j 0 : Nat))).setCell ⟨c, 161 + j, none⟩ (.int .i64 (I.getD i 0 : Nat))) c F m (swapL I i j) := by
  obtain ⟨cs, hb, hc⟩ := h
  have hl := hc.len
  refine ⟨_, heap_set_same (heap_set_same hb _) _, ?_⟩
  have h1 : CS (cs.setIfInBounds (161 + i) (.int .i64 (I.getD j 0 : Nat))) F m (I.set i (I.getD j 0)) := hc.put i _ (by omega) (by simp) fun k hk => by
    by_cases e : k = i
    · subst e; simp [List.getD, hk]
    · simp [List.getD, e, Ne.symm e]
  refine h1.put j _ (by omega) (by simp [swapL]) fun k hk => ?_
  have hk' : k < I.length := by simpa using hk
  rw [swapL_getD I i j k hi hj]
  by_cases e : k = j
  · subst e; simp
  · rw [if_neg e, if_neg e]
    by_cases e2 : k = i
    · subst e2; simp [List.getD, hk']
    · simp [List.getD, e2, Ne.symm e2]

set_option maxRecDepth 8000 in
set_option maxHeartbeats 4000000 in
theorem fnSwap_any (c : Nat) (F : Nat → FE) (m : Nat) (I : List Nat) (i j : Nat) (w : World) (h : TM w c F m I) (hi : i < I.length) (hj : j < I.length) (hij : i ≠ j) :
    Calls Try.prog 46 #[np c, .int .i64 i, .int .i64 j] w fun e w' => e = .returned (.tuple #[]) ∧ TM w' c F m (swapL I i j) ∧ OnC c w w' := by
  have HF : Hid (TM ((w.setCell ⟨c, 161 + i, none⟩ (.int .i64 (I.getD j 0 : Nat))).setCell ⟨c, 161 + j, none⟩ (.int .i64 (I.getD i 0 : Nat))) c F m (swapL I i j) ∧ OnC c w ((w.setCell ⟨c, 161 + i, none⟩ (.int .i64 (I.getD j 0 : Nat))).setCell ⟨c, 161 + j, none⟩ (.int .i64 (I.getD i 0 : Nat)))) := ⟨h.swap hi hj, (OnC.set _ _ _ _).next (OnC.set _ _ _ _)⟩
  obtain ⟨cs, hb, hc⟩ := h
  have c1 := (cellOf hb (161 + i)).trans (hc.row i hi)
  have c2 := (cellOf hb (161 + j)).trans (hc.row j hj)
  have f1 := frozenOf hb (161 + i)
  have f2 := frozenOf hb (161 + j)
  have hlen := hc.len
  have b1 : (0 : Int) ≤ (i : Int) := by omega
  have b2 : (0 : Int) ≤ (j : Int) := by omega
  have b3 : (i : Int) < 32 := by omega
  have b4 : (j : Int) < 32 := by omega
  generalize I.getD i 0 = x at *
  generalize I.getD j 0 = y at *
  have nij : ¬ i = j := hij
  have nji : ¬ j = i := fun e => hij e.symm
  clear hb hc hij
  go_enter Try.func46, Try.ntmps46
  go_wp2_with fail
  go_region
  all_goals go_wp2_with fail
  go_end0
  exact ⟨rfl, HF.out.1.drew, HF.out.2.drew⟩

set_option maxRecDepth 8000 in
set_option maxHeartbeats 1000000 in
theorem fnPop_any (c : Nat) (F : Nat → FE) (m a : Nat) (I : List Nat) (w : World) (h : TM w c F m (I ++ [a])) :
    Calls Try.prog 44 #[np c] w fun e w' => e = .returned (.iface 3 (.int .i64 a)) ∧ TM w' c F m I ∧ OnC c w w' := by
  obtain ⟨cs, hb, hc⟩ := h
  have hl : (I ++ [a]).length = I.length + 1 := by simp
  have hlen := hc.len
  have c0 := (cellOf hb 193).trans hc.count
  have c1 := (cellOf hb (161 + I.length)).trans (hc.row I.length (by omega))
  have ea : (I ++ [a]).getD I.length 0 = a := by simp [List.getD]
  rw [ea] at c1
  have f0 := frozenOf hb 193
  rw [hl] at c0 hlen
  have HF : Hid (TM (w.setCell ⟨c, 193, none⟩ (.int .i64 (I.length : Nat))) c F m I ∧ OnC c w (w.setCell ⟨c, 193, none⟩ (.int .i64 (I.length : Nat)))) := by
    refine ⟨⟨_, heap_set_same hb _, hc.cnt (by omega) fun i hi => ?_⟩, OnC.set _ _ _ _⟩
    have := hc.row i (by omega)
    rw [this]
    simp [List.getD, List.getElem?_append_left hi]
  generalize I.length = n at *
  have b1 : (0 : Int) ≤ (n : Int) := by omega
  have b2 : (n : Int) < 32 := by omega
  have e1 : ((n + 1 : Nat) : Int) - 1 = (n : Int) := by omega
  clear hb hc hl ea
  go_enter Try.func44, Try.ntmps44
  go_wp2_with fail
  go_quiet (fail)
  go_wp2
  go_ret
  exact ⟨rfl, HF.out.1.below ⟨rfl, rfl, rfl, Nat.le_refl _, fun _ _ => rfl⟩, HF.out.2.next (OnC.of_below ⟨rfl, rfl, rfl, Nat.le_refl _, fun _ _ => rfl⟩)⟩

theorem assert_int (a : Nat) (w : World) : (Instr.typeAssert (.iface 3 (.int .i64 (a : Nat))) 20 3 false).run Try.prog w = .ok (.int .i64 (a : Nat)) w := by kernel_rfl

set_option maxRecDepth 8000 in
set_option maxHeartbeats 2000000 in
theorem fnPush_any (c : Nat) (F : Nat → FE) (m a : Nat) (I : List Nat) (w : World) (h : TM w c F m I) (hn : I.length < 32) :
    Calls Try.prog 45 #[np c, .iface 3 (.int .i64 a)] w fun e w' => e = .returned (.tuple #[]) ∧ TM w' c F m (I ++ [a]) ∧ OnC c w w' := by
  obtain ⟨cs, hb, hc⟩ := h
  have hl : (I ++ [a]).length = I.length + 1 := by simp
  have c0 := (cellOf hb 193).trans hc.count
  have f0 := frozenOf hb 193
  have f1 := frozenOf hb (161 + I.length)
  obtain ⟨v1, c1⟩ : ∃ v, w.cell? ⟨c, 161 + I.length, none⟩ = some v := ⟨_, (cellOf hb _).trans (Array.getElem?_eq_getElem (by rw [hc.size]; omega))⟩
  have m1 := assert_int a
  have HF : Hid (TM ((w.setCell ⟨c, 161 + I.length, none⟩ (.int .i64 (a : Nat))).drew.setCell ⟨c, 193, none⟩ (.int .i64 ((I.length : Nat) + 1))) c F m (I ++ [a]) ∧ OnC c w ((w.setCell ⟨c, 161 + I.length, none⟩ (.int .i64 (a : Nat))).drew.setCell ⟨c, 193, none⟩ (.int .i64 ((I.length : Nat) + 1)))) := by
    have e1 := heap_set_same (k := 161 + I.length) hb (.int .i64 (a : Nat))
    have h1 : CS (cs.setIfInBounds (161 + I.length) (.int .i64 (a : Nat))) F m I := hc.put I.length a hn rfl fun i hi => by rw [if_neg (by omega)]
    have h2 := h1.cnt (J := I ++ [a]) (by omega) fun i hi => by
      by_cases e : i = I.length
      · subst e
        simp [Array.getElem?_setIfInBounds, hc.size, List.getD]
        omega
      · rw [Array.getElem?_setIfInBounds_ne (by omega), hc.row i (by omega)]
        simp [List.getD, List.getElem?_append_left (show i < I.length by omega)]
    rw [hl] at h2
    have e9 : ((I.length : Nat) : Int) + 1 = ((I.length + 1 : Nat) : Int) := by omega
    rw [e9]
    exact ⟨⟨_, heap_set_same (w := (w.setCell ⟨c, 161 + I.length, none⟩ (.int .i64 (a : Nat))).drew) e1 _, h2⟩, (OnC.set _ _ _ _).drew.next (OnC.set _ _ _ _)⟩
  have c3 : (w.setCell ⟨c, 161 + I.length, none⟩ (.int .i64 (a : Nat))).drew.cell? ⟨c, 193, none⟩ = some (.int .i64 (I.length : Nat)) := by
    have e1 := heap_set_same (k := 161 + I.length) hb (.int .i64 (a : Nat))
    rw [cellOf (w := (w.setCell ⟨c, 161 + I.length, none⟩ (.int .i64 (a : Nat))).drew) e1 193, Array.getElem?_setIfInBounds_ne (by omega)]
    exact hc.count
  have f3 : (w.setCell ⟨c, 161 + I.length, none⟩ (.int .i64 (a : Nat))).drew.frozen? ⟨c, 193, none⟩ = false := frozenOf (w := (w.setCell ⟨c, 161 + I.length, none⟩ (.int .i64 (a : Nat))).drew) (heap_set_same (k := 161 + I.length) hb (.int .i64 (a : Nat))) 193
  generalize I.length = n at *
  have b1 : (0 : Int) ≤ (n : Int) := by omega
  have b2 : (n : Int) < 32 := by omega
  clear hb hc hl
  go_enter Try.func45, Try.ntmps45
  go_wp2_with fail
  go_region
  all_goals go_wp2_with fail
  go_end0
  exact ⟨rfl, HF.out⟩

theorem TM.len {w : World} {c : Nat} {F : Nat → FE} {m : Nat} {I : List Nat} (h : TM w c F m I) : I.length ≤ 32 := by
  obtain ⟨cs, _, h2⟩ := h
  exact h2.len

end Go.Proofs.Ytmbkheaghiojeaa.Ck
