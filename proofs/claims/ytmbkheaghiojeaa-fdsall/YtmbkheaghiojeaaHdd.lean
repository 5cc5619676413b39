/-
  A table of descriptors: New, Len, Room, has, take, Open, Get, Seek, Close, Clear.
-/
import Derived.Test.YtmbkheaghiojeaaHdc
namespace Go.Proofs.Ytmbkheaghiojeaa.Ck
open Go.RowKit

abbrev ep (a : Nat) : Value := .pointer (some ⟨a, 0, none⟩)
/-- A table that is fine: m were open at some time, those of I are closed. -/
structure TD (w : World) (c : Nat) (F : Nat → FE) (m : Nat) (I : List Nat) : Prop where
  mem : TM w c F m I
  heap : HeapF (kvOf idN I) I.length
  nodup : I.Nodup
  lt : ∀ a ∈ I, a < m
  met : m ≤ 32
  op : ∀ k, k < 32 → ((F k).op = true ↔ k < m ∧ k ∉ I)

theorem TD.below {w w' : World} {c : Nat} {F : Nat → FE} {m : Nat} {I : List Nat} (h : TD w c F m I) (hb : Below w.heap.size w w') : TD w' c F m I := ⟨h.mem.below hb, h.heap, h.nodup, h.lt, h.met, h.op⟩
theorem TD.kept {w w' : World} {c : Nat} {F : Nat → FE} {m : Nat} {I : List Nat} (h : TD w c F m I) (hb : w'.heap[c]? = w.heap[c]?) : TD w' c F m I := ⟨h.mem.kept hb, h.heap, h.nodup, h.lt, h.met, h.op⟩
theorem TD.le {w : World} {c : Nat} {F : Nat → FE} {m : Nat} {I : List Nat} (h : TD w c F m I) : I.length ≤ m := by
  have := List.Nodup.length_le_of_subset (l₂ := List.range m) h.nodup fun a ha => List.mem_range.2 (h.lt a ha)
  simpa using this

theorem TD.drew {w : World} {c : Nat} {F : Nat → FE} {m : Nat} {I : List Nat} (h : TD w c F m I) : TD w.drew c F m I := h.below ⟨rfl, rfl, rfl, Nat.le_refl _, fun _ _ => rfl⟩
theorem bdrew (w : World) : Below w.heap.size w w.drew := ⟨rfl, rfl, rfl, Nat.le_refl _, fun _ _ => rfl⟩

set_option maxRecDepth 8000 in
set_option maxHeartbeats 400000 in
theorem fdLen_any (c : Nat) (F : Nat → FE) (m : Nat) (I : List Nat) (w : World) (h : TD w c F m I) :
    Calls Try.prog 15 #[ep c] w fun e w' => e = .returned (.int .i64 ((m - I.length : Nat) : Nat)) ∧ Below w.heap.size w w' := by
  have cN := fnLen_any c F m I w.drew h.mem.drew
  have hle := h.le
  have hm := h.met
  have e1 : ((m : Nat) : Int) - ((I.length : Nat) : Int) = ((m - I.length : Nat) : Int) := by omega
  obtain ⟨cs, hb, hc⟩ := h.mem
  have c0 := (cellOf hb 160).trans hc.met
  generalize hr : m - I.length = r at *
  generalize I.length = n at *
  have HB : Hid (Below w.heap.size w w.drew) := bdrew w
  have hwr : IntKind.i64.wrap (r : Int) = (r : Int) := by rw [IntKind.wrap_i64]; omega
  clear h hb hc
  go_enter Try.func15, Try.ntmps15
  go_wp2_with fail
  go_region_with (go_at_call 21; refine Calls_on cN ?_)
  all_goals
    go_wp2_with fail
    go_ret
    exact ⟨rfl, HB.out⟩

set_option maxRecDepth 8000 in
set_option maxHeartbeats 400000 in
theorem fdRoom_any (c : Nat) (F : Nat → FE) (m : Nat) (I : List Nat) (w : World) (h : TD w c F m I) :
    Calls Try.prog 17 #[ep c] w fun e w' => e = .returned (.bool (decide (m - I.length < 32))) ∧ Below w.heap.size w w' := by
  have cN := fdLen_any c F m I w h
  have HE : Hid (decide (((m - I.length : Nat) : Int) < 32) = decide (m - I.length < 32)) := by show _ = _; congr 1; exact propext ⟨fun h => by omega, fun h => by omega⟩
  generalize hr : m - I.length = r at *
  clear h hr
  go_enter Try.func17, Try.ntmps17
  go_wp2_with (first | (go_at_call 15; refine Calls_new cN ?_; intro w1 hb1))
  go_ret
  rw [HE.out]
  exact ⟨rfl, hb1.out⟩

set_option maxRecDepth 8000 in
set_option maxHeartbeats 400000 in
theorem fdHas_in (c : Nat) (F : Nat → FE) (m : Nat) (I : List Nat) (k : Nat) (w : World) (h : TD w c F m I) (hk : k < 32) :
    Calls Try.prog 19 #[ep c, .int .i64 k] w fun e w' => e = .returned (.bool (F k).op) ∧ w' = w := by
  obtain ⟨cs, hb, hc⟩ := h.mem
  have c0 := (cellOf hb (k * 5)).trans (hc.op k hk)
  have b1 : (0 : Int) ≤ (k : Int) := by omega
  have b2 : (k : Int) < 32 := by omega
  generalize (F k).op = r at *
  clear h hb hc
  go_enter Try.func19, Try.ntmps19
  go_wp2_with fail
  go_ret
  exact ⟨rfl, rfl⟩

set_option maxRecDepth 8000 in
set_option maxHeartbeats 400000 in
theorem fdHas_out (c : Nat) (k : Int) (w : World) (hk : ¬ (0 ≤ k ∧ k < 32)) :
    Calls Try.prog 19 #[ep c, .int .i64 k] w fun e w' => e = .returned (.bool false) ∧ w' = w := by
  by_cases h0 : k < 0
  · have h1 : ¬ (0 : Int) ≤ k := by omega
    go_enter Try.func19, Try.ntmps19
    go_wp2_with fail
    go_ret
    exact ⟨rfl, rfl⟩
  · have h1 : (0 : Int) ≤ k := by omega
    have h2 : ¬ k < 32 := by omega
    go_enter Try.func19, Try.ntmps19
    go_wp2_with fail
    go_ret
    exact ⟨rfl, rfl⟩

/-- The least number that is not open was taken. -/
structure Took (w0 w : World) (c : Nat) (F : Nat → FE) (m : Nat) (I : List Nat) (a : Nat) : Prop where
  mem : TM w c F m I
  heap : HeapF (kvOf idN I) I.length
  nodup : I.Nodup
  lt : ∀ x ∈ I, x < m
  met : m ≤ 32
  op : ∀ k, k < 32 → k ≠ a → ((F k).op = true ↔ k < m ∧ k ∉ I)
  am : a < m
  aI : a ∉ I
  free : (F a).op = false
  least : ∀ k, k < a → (F k).op = true
  on : OnC c w0 w

theorem TM.metUp {w : World} {c : Nat} {F : Nat → FE} {m : Nat} {I : List Nat} (h : TM w c F m I) (m' : Nat) : TM (w.setCell ⟨c, 160, none⟩ (.int .i64 (m' : Nat))) c F m' I := by
  obtain ⟨cs, hb, hc⟩ := h
  have hs := hc.size
  have q : ∀ j, j ≠ 160 → (cs.setIfInBounds 160 (.int .i64 (m' : Nat)))[j]? = cs[j]? := fun j hj => by rw [Array.getElem?_setIfInBounds_ne (Ne.symm hj)]
  have hl := hc.len
  exact ⟨_, heap_set_same hb _, by simpa using hs, by simp [hs], by rw [q _ (by omega)]; exact hc.count, fun i hi => by rw [q _ (by omega)]; exact hc.op i hi, fun i hi => by rw [q _ (by omega)]; exact hc.t i hi, fun i hi => by rw [q _ (by omega)]; exact hc.n i hi, fun i hi => by rw [q _ (by omega)]; exact hc.fl i hi, fun i hi => by rw [q _ (by omega)]; exact hc.at' i hi, fun i hi => by rw [q _ (by omega)]; exact hc.row i hi, hc.len⟩

set_option maxRecDepth 8000 in
set_option maxHeartbeats 1000000 in
theorem fdTake_any (c : Nat) (F : Nat → FE) (m : Nat) (I : List Nat) (w : World) (h : TD w c F m I) (hr : m - I.length < 32) :
    Calls Try.prog 18 #[ep c] w fun e w' => ∃ a m' I', e = .returned (.int .i64 (a : Nat)) ∧ Took w w' c F m' I' a := by
  have cN := fnLen_any c F m I w h.mem
  have HH : Hid (TD w c F m I) := h
  have hm := h.met
  by_cases h0 : I = []
  · subst h0
    have hm2 : m < 32 := by simpa using hr
    have HF : Hid (Took w (w.setCell ⟨c, 160, none⟩ (.int .i64 ((m : Nat) + 1))) c F (m + 1) [] m) := by
      refine ⟨h.mem.metUp (m + 1), h.heap, h.nodup, fun x hx => absurd hx (by simp), hm2, fun k hk hka => ?_, by omega, by simp, ?_, fun k hk => ?_, OnC.set _ _ _ _⟩
      · rw [h.op k hk]
        simp
        omega
      · have := h.op m hm2
        simpa using this
      · exact (h.op k (by omega)).2 ⟨hk, by simp⟩
    obtain ⟨cs, hb, hc⟩ := h.mem
    have c0 := (cellOf hb 160).trans hc.met
    have f0 := frozenOf hb 160
    simp only [List.length_nil] at cN
    clear h hb hc hr
    go_enter Try.func18, Try.ntmps18
    go_wp2_with (first | (go_at_call 21; refine Calls_on cN ?_))
    go_ret
    exact ⟨m, m + 1, [], rfl, HF.out⟩
  · have hi : 0 < I.length := List.length_pos_iff.2 h0
    have cL := fnLeast_any c F m I w h.mem hi h.heap
    have hi2 : (0 : Int) < (I.length : Int) := by omega
    obtain ⟨a, ha⟩ : ∃ a, I.getD 0 0 = a := ⟨_, rfl⟩
    have HA : Hid (I.getD 0 0 = a) := ha
    rw [ha] at cL
    generalize hn : I.length = n at cN hi2
    clear h hr hn ha
    go_enter Try.func18, Try.ntmps18
    go_wp2_with (first
      | (go_at_call 21; refine Calls_on cN ?_)
      | (go_at_call 22; refine cL.mono ?_; rintro e w1 ⟨rfl, I', h1, h2, h3, h4⟩; have H1 : Hid (TM w1 c F m I' ∧ (I' ++ [a]).Perm I ∧ HeapF (kvOf idN I') I'.length ∧ OnC c w w1) := ⟨h1, h2, h3, h4⟩; clear h1 h2 h3 h4))
    go_ret
    refine ⟨a, m, I', rfl, ?_⟩
    obtain ⟨h1, h2, h3, h4⟩ := H1.out
    have h := HH.out
    have ha := HA.out
    have hmem : a ∈ I := by rw [← ha]; simp [List.getD, hi]
    have hnd : (I' ++ [a]).Nodup := h2.nodup_iff.2 h.nodup
    have hmin : ∀ x ∈ I, a ≤ x := fun x hx => by
      obtain ⟨k, hk, rfl⟩ := List.getElem_of_mem hx
      have := h.heap.least k hk
      rw [← ha]
      simpa [kvOf, idN, List.getD, hk, hi] using this
    have hI : ∀ x, x ∈ I ↔ x ∈ I' ∨ x = a := fun x => by rw [← h2.mem_iff]; simp
    have hna : a ∉ I' := fun hx => by
      have := List.nodup_append.1 hnd
      exact this.2.2 a hx a (by simp) rfl
    have ham := h.lt a hmem
    refine ⟨h1, h3, (List.nodup_append.1 hnd).1, fun x hx => h.lt x ((hI x).2 (.inl hx)), h.met, fun k hk hka => ?_, ham, hna, ?_, fun k hk => ?_, h4⟩
    · rw [h.op k hk, hI]
      constructor
      · rintro ⟨p, q⟩; exact ⟨p, fun z => q (.inl z)⟩
      · rintro ⟨p, q⟩; exact ⟨p, fun z => z.elim q hka⟩
    · have := h.op a (by omega)
      cases hf : (F a).op
      · rfl
      · exact absurd hmem (this.1 hf).2
    · exact (h.op k (by omega)).2 ⟨by omega, fun hx => by have := hmin k hx; omega⟩

end Go.Proofs.Ytmbkheaghiojeaa.Ck
