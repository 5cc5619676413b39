/-
  How many are open; begun and FdsNone of the law.
-/
import Derived.Test.YtmbkheaghiojeaaHdg
namespace Go.Proofs.Ytmbkheaghiojeaa.Ck
open Go.RowKit

theorem cntO_filter (F : Nat → FE) (n : Nat) : cntO F n = ((List.range n).filter (fun j => (F j).op)).length := by
  induction n with
  | zero => rfl
  | succ n ih =>
    rw [cntO_s, ih, List.range_succ, List.filter_append, List.length_append]
    cases h : (F n).op <;> simp [h]
theorem TD.count {w : World} {c : Nat} {F : Nat → FE} {m : Nat} {I : List Nat} (h : TD w c F m I) : m - I.length = cntO F 32 := by
  have hm := h.met
  have hn1 : ((List.range 32).filter (fun j => (F j).op)).Nodup := List.nodup_range.filter _
  have hmem : ∀ x, x ∈ (List.range 32).filter (fun j => (F j).op) ++ I ↔ x ∈ List.range m := fun x => by
    rw [List.mem_append, List.mem_filter, List.mem_range, List.mem_range]
    constructor
    · rintro (⟨h1, h2⟩ | h1)
      · exact ((h.op x h1).1 h2).1
      · exact h.lt x h1
    · intro hx
      by_cases hI : x ∈ I
      · exact .inr hI
      · exact .inl ⟨by omega, (h.op x (by omega)).2 ⟨hx, hI⟩⟩
  have hp : ((List.range 32).filter (fun j => (F j).op) ++ I).Perm (List.range m) := by
    refine (List.perm_ext_iff_of_nodup (List.nodup_append.2 ⟨hn1, h.nodup, fun a ha b hb e => ?_⟩) List.nodup_range).2 hmem
    subst e
    obtain ⟨h1, h2⟩ := List.mem_filter.1 ha
    exact ((h.op a (List.mem_range.1 h1)).1 h2).2 hb
  have hl := hp.length_eq
  rw [List.length_append, List.length_range] at hl
  rw [cntO_filter]
  omega
theorem cntO_congr {F G : Nat → FE} {n : Nat} (h : ∀ k, k < n → (F k).op = (G k).op) : cntO F n = cntO G n := by
  induction n with
  | zero => rfl
  | succ n ih => rw [cntO_s, cntO_s, ih fun k hk => h k (by omega), h n (by omega)]
theorem cntO_first {F : Nat → FE} {i : Nat} (n : Nat) (h : ∀ k, k < n → ((F k).op = true ↔ k < i)) : cntO F n = min i n := by
  induction n with
  | zero => simp [cntO]
  | succ n ih =>
    rw [cntO_s, ih fun k hk => h k (by omega)]
    have := h n (by omega)
    split
    · next e => have := this.1 e; omega
    · next e => have : ¬ n < i := fun z => e (this.2 z); omega
theorem cntO_full {F : Nat → FE} (h : ∀ k, k < 32 → (F k).op = true) : cntO F 32 = 32 := by
  have := cntO_first (F := F) (i := 32) 32 fun k hk => ⟨fun _ => hk, fun _ => h k hk⟩
  simpa using this
theorem cntO_some {F : Nat → FE} {a n : Nat} (ha : a < n) (h : (F a).op = false) : cntO F n < n := by
  induction n with
  | zero => omega
  | succ n ih =>
    rw [cntO_s]
    by_cases e : a = n
    · subst e
      rw [h]
      have := cntO_le F a
      simp; omega
    · have := ih (by omega)
      split <;> omega

abbrev F1 : Nat → FE := updF (fun _ => zE) 0 ⟨true, 5, 0, 8, 0⟩
theorem seekF1 : seekF F1 0 9 = updF F1 0 ⟨true, 5, 0, 8, 9⟩ := rfl
theorem OnC.low {c B : Nat} {w w' : World} (h : OnC c w w') (hB : B ≤ w.heap.size) (hc : B ≤ c) : Below B w w' := Only.below h hB fun i e => by rw [e]; exact hc

set_option maxRecDepth 8000 in
set_option maxHeartbeats 2000000 in
theorem fdBegun_any (w : World) : Calls Try.prog 5 #[] w fun e w' => e = .returned (.bool true) ∧ Below w.heap.size w w' := by
  have cN := fdNew_any w
  go_enter Try.func5, Try.ntmps5
  go_wp2_with (go_at_call 6; refine cN.mono ?_; rintro e w1 ⟨rfl, h1, b1⟩; have H1 : Hid (TD w1 w.heap.size (fun _ => zE) 0 [] ∧ Below w.heap.size w w1) := ⟨h1, b1⟩; clear h1 b1 cN; have cO := fdOpen_any w.heap.size (fun _ => zE) 0 [] 5 0 8 w1 H1.out.1 (by simp); refine Stop.out ?_)
  refine Stop.mk ?_
  go_wp2_with (go_at_call 8; refine cO.mono ?_; rintro e w2 ⟨a, m, I, rfl, h2, ha, hf, hl, ho⟩; refine Stop.out ?_)
  obtain rfl : a = 0 := by
    by_cases z : a = 0
    · exact z
    · exact absurd (hl 0 (by omega)) (by simp)
  refine Stop.mk ?_
  have hn : m - I.length = 1 := h2.count.trans (by kernel_rfl)
  have H2 : Hid (TD w2 w.heap.size F1 m I ∧ Below w.heap.size w w2) := ⟨h2, H1.out.2.trans (ho.low H1.out.2.size (Nat.le_refl _))⟩
  have cS := fdSeek_any w.heap.size F1 m I 0 9 w2 h2
  rw [seekF1, show seekE F1 0 9 = 0 from rfl] at cS
  clear h2 ha hf hl ho cO
  go_wp2_with (go_at_call 11; refine cS.mono ?_; rintro e w3 ⟨rfl, h3, ho⟩; have H3 : Hid (TD w3 w.heap.size (updF F1 0 ⟨true, 5, 0, 8, 9⟩) m I ∧ Below w.heap.size w w3) := ⟨h3, H2.out.2.trans (ho.low H2.out.2.size (Nat.le_refl _))⟩; clear h3 ho cS; refine Stop.out ?_)
  refine Stop.mk ?_
  have cG : Calls Try.prog 13 #[ep w.heap.size, .int .i64 0] w3 fun e w' => e = .returned (.tuple #[.agg #[.int .i64 5, .int .i64 0], .int .i64 8, .int .i64 9, .int .i64 0]) ∧ Below w3.heap.size w3 w' := fdGet_yes w.heap.size _ m I 0 w3 H3.out.1 (by omega) rfl
  go_wp2_with (go_at_call 13; refine Calls_new cG ?_; intro w4 hb4; have H4 : Hid (TD w4 w.heap.size (updF F1 0 ⟨true, 5, 0, 8, 9⟩) m I ∧ Below w.heap.size w w4) := ⟨H3.out.1.below hb4.out, H3.out.2.trans (hb4.out.mono H3.out.2.size)⟩; clear hb4 cG; refine Stop.out ?_)
  refine Stop.mk ?_
  have HL : Hid (∀ W, Below w4.heap.size w4 W → (Calls Try.prog 15 #[ep w.heap.size] W fun e w' => e = .returned (.int .i64 (1 : Nat)) ∧ Below W.heap.size W w') ∧ Calls Try.prog 17 #[ep w.heap.size] W fun e w' => e = .returned (.bool true) ∧ Below W.heap.size W w') := fun W hW => by
    have h := H4.out.1.below hW
    have c1 := fdLen_any w.heap.size _ m I W h
    have c2 := fdRoom_any w.heap.size _ m I W h
    rw [hn] at c1 c2
    exact ⟨c1, c2⟩
  have HW := below_new w4 (.cells #[.int .i64 5, .int .i64 0] 28)
  go_wp2_with (first
    | (go_at_call 15; refine Calls_new (HL.out _ HW.out).1 ?_; intro w5 hb5; have H5 : Hid (Below w4.heap.size w4 w5) := HW.out.trans (hb5.out.mono HW.out.size); clear hb5)
    | (go_at_call 17; refine Calls_new (HL.out _ H5.out).2 ?_; intro w6 hb6; have H6 : Hid (Below w4.heap.size w4 w6) := H5.out.trans (hb6.out.mono H5.out.size); clear hb6))
  go_ret
  exact ⟨rfl, H4.out.2.trans (H6.out.mono H4.out.2.size)⟩

/-- The loop of FdsNone: the first i numbers are open. -/
structure NI (w0 w : World) (c i : Nat) : Prop where
  td : ∃ F m I, TD w c F m I ∧ ∀ k, k < 32 → ((F k).op = true ↔ k < i)
  low : Below w0.heap.size w0 w
  cl : w0.heap.size ≤ c
theorem NI.below {w0 w w' : World} {c i : Nat} (h : NI w0 w c i) (hb : Below w.heap.size w w') : NI w0 w' c i := by
  obtain ⟨F, m, I, h1, h2⟩ := h.td
  exact ⟨⟨F, m, I, h1.below hb, h2⟩, h.low.trans (hb.mono h.low.size), h.cl⟩
theorem NI.open' {w0 w : World} {c i : Nat} (h : NI w0 w c i) (hi : i < 32) :
    Calls Try.prog 8 #[ep c, .agg #[.int .i64 0, .int .i64 0], .int .i64 0] w fun e w' => e = .returned (.tuple #[.int .i64 i, .int .i64 0]) ∧ NI w0 w' c (i + 1) := by
  obtain ⟨F, m, I, h1, h2⟩ := h.td
  have hc : m - I.length < 32 := by rw [h1.count, cntO_first 32 h2]; omega
  refine (fdOpen_any c F m I 0 0 0 w h1 hc).mono ?_
  rintro e w' ⟨a, m', I', rfl, h3, ha, hf, hl, ho⟩
  obtain rfl : a = i := by
    have h4 : ¬ a < i := fun z => by have := (h2 a ha).2 z; rw [hf] at this; exact absurd this (by simp)
    by_cases z : a = i
    · exact z
    · have := (h2 i hi).1 (hl i (by omega)); omega
  refine ⟨rfl, ⟨_, m', I', h3, fun k hk => ?_⟩, h.low.trans (ho.low h.low.size h.cl), h.cl⟩
  by_cases z : k = a
  · subst z
    rw [show updF F k ⟨true, 0, 0, 0, 0⟩ k = ⟨true, 0, 0, 0, 0⟩ from if_pos rfl]
    exact ⟨fun _ => by omega, fun _ => rfl⟩
  · rw [show updF F a ⟨true, 0, 0, 0, 0⟩ k = F k from if_neg z, h2 k hk]
    omega
theorem NI.full {w0 w : World} {c : Nat} (h : NI w0 w c 32) :
    Calls Try.prog 8 #[ep c, .agg #[.int .i64 0, .int .i64 0], .int .i64 0] w fun e w' => e = .returned (.tuple #[.int .i64 0, .int .i64 23]) ∧ NI w0 w' c 32 := by
  obtain ⟨F, m, I, h1, h2⟩ := h.td
  have hc : ¬ m - I.length < 32 := by rw [h1.count, cntO_first 32 h2]; omega
  refine (fdOpen_full c F m I 0 0 0 w h1 hc).mono ?_
  rintro e w' ⟨rfl, hb⟩
  exact ⟨rfl, h.below hb⟩
theorem NI.room {w0 w : World} {c : Nat} (h : NI w0 w c 32) : Calls Try.prog 17 #[ep c] w fun e w' => e = .returned (.bool false) ∧ Below w.heap.size w w' := by
  obtain ⟨F, m, I, h1, h2⟩ := h.td
  have hc : decide (m - I.length < 32) = false := by rw [h1.count, cntO_first 32 h2]; rfl
  have := fdRoom_any c F m I w h1
  rw [hc] at this
  exact this

set_option maxRecDepth 8000 in
set_option maxHeartbeats 4000000 in
theorem fdNone_law (w : World) : Calls Try.prog 4 #[] w fun e w' => e = .returned (.bool true) ∧ Below w.heap.size w w' := by
  have cO := nopen 0 0 0 w
  go_enter Try.func4, Try.ntmps4
  go_wp2_with (go_at_call 8; refine Calls_new cO ?_; intro w1 hb1; have cG := nget 0 w1; refine Stop.out ?_)
  refine Stop.mk ?_
  go_wp2_with (go_at_call 13; refine Calls_new cG ?_; intro w2 hb2; have H2 : Hid (Below w.heap.size w w2) := hb1.out.trans (hb2.out.mono hb1.out.size); clear hb1 hb2 cG cO; refine Stop.out ?_)
  refine Stop.mk ?_
  have HA : Hid (Below w.heap.size w (w2.alloc (.cells #[.int .i64 0, .int .i64 0] 28))) := H2.out.trans ((below_new w2 _).out.mono H2.out.size)
  have cN := fdNew_any (w2.alloc (.cells #[.int .i64 0, .int .i64 0] 28))
  have hsz : (w2.alloc (.cells #[.int .i64 0, .int .i64 0] 28)).heap.size = w2.heap.size + 1 := by simp
  have HZ : Hid (Below (w2.heap.size + 1) (w2.alloc (.cells #[.int .i64 0, .int .i64 0] 28)) (w2.alloc (.cells #[.int .i64 0, .int .i64 0] 28)) ∧ w.heap.size ≤ w2.heap.size + 1) := ⟨Below.refl _ _, by have := H2.out.size; omega⟩
  rw [hsz] at cN
  clear hsz
  generalize hcc : w2.heap.size + 1 = c at *
  go_wp2_with (go_at_call 6; refine cN.mono ?_; rintro e w3 ⟨rfl, h3, b3⟩; clear cN; have H3 : Hid (NI w w3 c 0) := ⟨⟨_, 0, [], h3, fun k hk => by simp⟩, HA.out.trans (b3.mono HZ.out.2), HZ.out.2⟩; clear h3 b3; refine Stop.out ?_)
  refine Stop.mk ?_
  clear HA H2 HZ hcc
  go_wp2_with fail
  go_loopw [9] (fun ii wr => ∃ i : Nat, ii = .int .i64 i ∧ i ≤ 32 ∧ Hid (NI w wr c i)) (fun ii _ => 32 - (intOf ii).toNat)
  case atStart => exact ⟨0, rfl, by omega, H3.out⟩
  case round =>
    obtain ⟨i, rfl, hi, HI⟩ := hrel
    by_cases hlt : i < 32
    · have hltI : (i : Int) < 32 := by omega
      have b1 : (0 : Int) ≤ (i : Int) := by omega
      have cO := HI.out.open' hlt
      go_wp2_with (go_at_call 8; refine cO.mono ?_; rintro e w4 ⟨rfl, h4⟩; clear cO; have H4 : Hid (NI w w4 c (i + 1)) := h4; clear h4)
      go_roundw
      case rel => exact ⟨i + 1, by go_num, by omega, H4.out⟩
      case measure => simp [intOf]; omega
    · obtain rfl : i = 32 := by omega
      have cO := HI.out.full
      go_wp2_with (first
        | (go_at_call 8; refine cO.mono ?_; rintro e w4 ⟨rfl, h4⟩; clear cO; have H4 : Hid (NI w w4 c 32) := h4; clear h4; have cB := fdBegun_any w4)
        | (go_at_call 5; refine Calls_new cB ?_; intro w5 hb5; have H5 : Hid (NI w w5 c 32) := H4.out.below hb5.out; clear hb5 cB; have cR := H5.out.room)
        | (go_at_call 10; refine Calls_on (nclose _ _) ?_)
        | (go_at_call 11; refine Calls_on (nseek _ _ _) ?_)
        | (go_at_call 15; refine Calls_on (nlen _) ?_)
        | (go_at_call 17; refine Calls_on (nroom _) ?_)
        | (go_at_call 17; refine Calls_new cR ?_; intro w6 hb6; have H6 : Hid (NI w w6 c 32) := H5.out.below hb6.out; clear hb6 cR))
      go_ret
      exact ⟨rfl, H6.out.low⟩

end Go.Proofs.Ytmbkheaghiojeaa.Ck
