/-
  Regions that draw their order: one case an operation (what Rfix, Rfixw, Rlay and Rund say, in a seat of its own).
-/
import Derived.Test.YtgpbphjplbhfmaaQKcodm
import Derived.Test.YtgpbphjplbhfmaaQVvecm
import Derived.Lib.Strings
import Derived.Lib.Bytealg
import Derived.Lib.Walk
import Derived.Lib.UnsafeStr
import Derived.Laws.MakeOwn
import Derived.Laws.Externs
import Derived.WalkKit
import Derived.OrdersIn
import Derived.CallsIn
import Derived.ControlIn
import Derived.TacticsInMore
import Derived.OwnWalkIn
import Derived.RangeFuncCalls

/-
  Strings as lists of bytes; which names may be: ops.Name, and the document's Name and Local.
-/
namespace Go.Proofs.Ytgpbphjplbhfmaa.Cd
open Go.RowKit

attribute [local go_sem] Oper.semAt_some

/-- A text as the list of its bytes. -/
def bas (l : List UInt8) : ByteArray := ⟨l.toArray⟩
theorem bas_data (l : List UInt8) : (bas l).data.toList = l := rfl
theorem bas_toList (l : List UInt8) : (bas l).toList = l := by rw [Lib.toList_data, bas_data]
theorem bas_of (s : ByteArray) : bas s.data.toList = s := Lib.mk_data s
theorem bas_size (l : List UInt8) : (bas l).size = l.length := by rw [Lib.size_eq, bas_data]
set_option maxRecDepth 8000 in
set_option maxHeartbeats 1000000 in
theorem lindex_any (s : ByteArray) (c : Int) (w : World) : Calls Try.prog 101 #[.string s, .int .u8 c] w fun e w' => e = .returned (.int .i64 (Lib.indexByte s.data.toList c.toNat.toUInt8)) ∧ w' = w := by
  go_enter Try.func101, Try.ntmps101
  go_wp2
  rw [run_callFunc_extern Try.func103 (by kernel_rfl) (by kernel_rfl) (by kernel_rfl) (e := Extern.BytealgIndexByte.indexByte) (by kernel_rfl), Lib.run_indexByteString]
  simp only [Result.andThen]
  rw [Oper.upon_value]
  go_wp2
  go_ret
  exact ⟨rfl, rfl⟩
set_option maxRecDepth 8000 in
set_option maxHeartbeats 1000000 in
theorem index_any (s : ByteArray) (c : Int) (w : World) : Calls Try.prog 99 #[.string s, .int .u8 c] w fun e w' => e = .returned (.int .i64 (Lib.indexByte s.data.toList c.toNat.toUInt8)) ∧ w' = w := by
  have h := lindex_any s c w
  go_enter Try.func99, Try.ntmps99
  go_wp2_with (go_at_call 101; refine Calls_on h ?_)
  go_ret
  exact ⟨rfl, rfl⟩
theorem index_neg {l : List UInt8} {c : UInt8} : 0 ≤ Lib.indexByte l c ↔ c ∈ l := by
  induction l with
  | nil => simp [Lib.indexByte]
  | cons x l ih =>
    unfold Lib.indexByte
    have := Lib.indexByte_ge l c
    by_cases h : x = c
    · subst h; simp
    · have h' : ¬ c = x := fun e => h e.symm
      simp only [beq_iff_eq, h, if_false, List.mem_cons, h', false_or, ← ih]
      split <;> omega

/-- Which names there may be: 0, or the error; of the local layer, and of an operation. -/
def fineN (s : List UInt8) : Int :=
  if s = [] ∨ s = [46] ∨ s = [46, 46] then 22 else if 0 ∈ s ∨ 47 ∈ s then 22 else if 64 < s.length then 36 else 0
def nameN (s : List UInt8) : Int := if (1 : UInt8) ∈ s then 22 else fineN s
def wrongB (s : List UInt8) : Bool := decide (0 ∈ s) || decide (1 ∈ s) || decide (47 ∈ s)
theorem nameN_def (s : List UInt8) : nameN s = if s = [] ∨ s = [46] ∨ s = [46, 46] then 22 else if wrongB s = true then 22 else if 64 < s.length then 36 else 0 := by
  unfold nameN fineN wrongB
  simp only [Bool.or_eq_true, decide_eq_true_eq]
  by_cases h1 : (1 : UInt8) ∈ s
  · simp only [h1, if_true, or_true, true_or]
    split <;> rfl
  · simp only [h1, if_false, or_false]

set_option maxRecDepth 8000 in
set_option maxHeartbeats 1000000 in
theorem wrong_any (l : List UInt8) (w : World) : Calls Try.prog 94 #[.string (bas l)] w fun e w' => e = .returned (.bool (wrongB l)) ∧ w' = w := by
  have i0 := index_any (bas l) 0 w
  have i1 := index_any (bas l) 1 w
  have i2 := index_any (bas l) 47 w
  rw [bas_data] at i0 i1 i2
  obtain ⟨x0, hx0⟩ : ∃ x, Lib.indexByte l (0 : Int).toNat.toUInt8 = x := ⟨_, rfl⟩
  obtain ⟨x1, hx1⟩ : ∃ x, Lib.indexByte l (1 : Int).toNat.toUInt8 = x := ⟨_, rfl⟩
  obtain ⟨x2, hx2⟩ : ∃ x, Lib.indexByte l (47 : Int).toNat.toUInt8 = x := ⟨_, rfl⟩
  rw [hx0] at i0
  rw [hx1] at i1
  rw [hx2] at i2
  have k0 : 0 ≤ x0 ↔ (0 : UInt8) ∈ l := by rw [← hx0]; exact index_neg
  have k1 : 0 ≤ x1 ↔ (1 : UInt8) ∈ l := by rw [← hx1]; exact index_neg
  have k2 : 0 ≤ x2 ↔ (47 : UInt8) ∈ l := by rw [← hx2]; exact index_neg
  clear hx0 hx1 hx2
  have HW : Hid (wrongB l = (decide (0 ≤ x0) || decide (0 ≤ x1) || decide (0 ≤ x2))) := by
    show _ = _
    unfold wrongB
    simp only [k0, k1, k2]
  clear k0 k1 k2
  by_cases h0 : 0 ≤ x0
  · go_enter Try.func94, Try.ntmps94
    go_wp2_with (first | (go_at_call 99; refine Calls_on i0 ?_; clear i0) | (go_at_call 99; refine Calls_on i1 ?_; clear i1) | (go_at_call 99; refine Calls_on i2 ?_; clear i2))
    go_ret
    rw [HW.out]
    exact ⟨by simp [h0], rfl⟩
  by_cases h1 : 0 ≤ x1
  · go_enter Try.func94, Try.ntmps94
    go_wp2_with (first | (go_at_call 99; refine Calls_on i0 ?_; clear i0) | (go_at_call 99; refine Calls_on i1 ?_; clear i1) | (go_at_call 99; refine Calls_on i2 ?_; clear i2))
    go_ret
    rw [HW.out]
    exact ⟨by first | (simp; done) | (simp; omega), rfl⟩
  go_enter Try.func94, Try.ntmps94
  go_wp2_with (first | (go_at_call 99; refine Calls_on i0 ?_; clear i0) | (go_at_call 99; refine Calls_on i1 ?_; clear i1) | (go_at_call 99; refine Calls_on i2 ?_; clear i2))
  go_ret
  rw [HW.out]
  exact ⟨by first | (simp; done) | (simp; omega), rfl⟩

set_option maxRecDepth 8000 in
set_option maxHeartbeats 1000000 in
theorem name_any (l : List UInt8) (w : World) (hs : l.length < 1000000000000000) : Calls Try.prog 83 #[.string (bas l)] w fun e w' => e = .returned (.int .i64 (nameN l)) ∧ w' = w := by
  have c := wrong_any l w
  rw [nameN_def]
  have hsz := bas_size l
  by_cases h1 : l = [] ∨ l = [46] ∨ l = [46, 46]
  · rw [if_pos h1]
    rcases h1 with rfl | rfl | rfl
    all_goals
      have e0 : bas [] = ⟨#[]⟩ := rfl
      have e1 : bas [46] = ⟨#[46]⟩ := rfl
      have e2 : bas [46, 46] = ⟨#[46, 46]⟩ := rfl
      clear c
      go_enter Try.func83, Try.ntmps83
      go_wp2
      go_ret
      exact ⟨rfl, rfl⟩
  · rw [if_neg h1]
    have e1 : (bas l).toList.isEmpty = false := by rw [bas_toList]; simpa using fun e => h1 (.inl e)
    have e2 : ((bas l).toList == [46]) = false := by rw [bas_toList]; simpa using fun e => h1 (.inr (.inl e))
    have e3 : ((bas l).toList == [46, 46]) = false := by rw [bas_toList]; simpa using fun e => h1 (.inr (.inr e))
    clear h1
    cases hw : wrongB l with
    | true =>
      rw [hw] at c
      rw [if_pos rfl]
      clear hw
      go_enter Try.func83, Try.ntmps83
      go_wp2_with (go_at_call 94; refine Calls_on c ?_)
      go_ret
      exact ⟨rfl, rfl⟩
    | false =>
      rw [hw] at c
      rw [if_neg (by decide)]
      clear hw
      by_cases h64 : 64 < l.length
      · have h64I : (64 : Int) < (l.length : Int) := by omega
        rw [if_pos h64]
        go_enter Try.func83, Try.ntmps83
        go_wp2_with (go_at_call 94; refine Calls_on c ?_)
        go_ret
        exact ⟨rfl, rfl⟩
      · have h64I : ¬ (64 : Int) < (l.length : Int) := by omega
        rw [if_neg h64]
        go_enter Try.func83, Try.ntmps83
        go_wp2_with (go_at_call 94; refine Calls_on c ?_)
        go_ret
        exact ⟨rfl, rfl⟩

set_option maxRecDepth 8000 in
set_option maxHeartbeats 2000000 in
theorem local_any (s : ByteArray) (w : World) (hs : s.size < 1000000000000000) : Calls Try.prog 62 #[.string s] w fun e w' => e = .returned (.int .i64 (fineN s.data.toList)) ∧ w' = w := by
  obtain ⟨l, hl⟩ : ∃ l, s.data.toList = l := ⟨_, rfl⟩
  obtain rfl : s = bas l := by rw [← hl, bas_of]
  clear hl
  rw [bas_data]
  rw [bas_size] at hs
  by_cases h1 : l = [] ∨ l = [46] ∨ l = [46, 46]
  · have hf : fineN l = 22 := by unfold fineN; rw [if_pos h1]
    rw [hf]
    rcases h1 with rfl | rfl | rfl
    all_goals
      have e0 : bas [] = ⟨#[]⟩ := rfl
      have e1 : bas [46] = ⟨#[46]⟩ := rfl
      have e2 : bas [46, 46] = ⟨#[46, 46]⟩ := rfl
      go_enter Try.func62, Try.ntmps62
      go_wp2
      go_ret
      exact ⟨rfl, rfl⟩
  · have e1 : (bas l).toList.isEmpty = false := by rw [bas_toList]; simpa using fun e => h1 (.inl e)
    have e2 : ((bas l).toList == [46]) = false := by rw [bas_toList]; simpa using fun e => h1 (.inr (.inl e))
    have e3 : ((bas l).toList == [46, 46]) = false := by rw [bas_toList]; simpa using fun e => h1 (.inr (.inr e))
    have hsz := bas_size l
    have H1 : Hid (¬ (l = [] ∨ l = [46] ∨ l = [46, 46])) := h1
    clear h1
    go_enter Try.func62, Try.ntmps62
    go_wp2_with fail
    go_loopw [3] (fun ii wr => ∃ i : Nat, ii = .int .i64 i ∧ i ≤ l.length ∧ wr = w ∧ Hid (∀ j c, j < i → l[j]? = some c → c ≠ 0 ∧ c ≠ 47)) (fun ii _ => l.length - (intOf ii).toNat)
    case atStart => exact ⟨0, rfl, Nat.zero_le _, rfl, fun j c hj => by omega⟩
    case round =>
      obtain ⟨i, rfl, hi, rfl, HI⟩ := hrel
      by_cases hlt : i < l.length
      · have hltI : (i : Int) < (l.length : Int) := by omega
        obtain ⟨c, hc⟩ : ∃ c, l[i]? = some c := ⟨_, List.getElem?_eq_getElem hlt⟩
        have hci : ∀ h : i < (bas l).size, (bas l)[i]'h = c := fun h => by
          show (bas l).data[i] = c
          have := List.getElem?_eq_some_iff.1 hc
          exact this.2
        have hcm : c ∈ l := List.mem_of_getElem? hc
        obtain ⟨n, hn⟩ : ∃ n, c.toNat = n := ⟨_, rfl⟩
        by_cases h0 : n = 0
        · have HF : Hid (fineN l = 22) := by
            have : c = 0 := by apply UInt8.toNat_inj.1; rw [hn, h0]; rfl
            subst this
            show _ = _; unfold fineN; rw [if_neg H1.out, if_pos (.inl hcm)]
          subst h0
          have hq : ((0 : Nat) : Int) = 0 := rfl
          clear hc hcm
          go_wp2_with fail
          go_ret
          exact ⟨by rw [HF.out]; rfl, rfl⟩
        · have h0I : ((n : Int) == 0) = false := by rw [beq_eq_false_iff_ne]; omega
          by_cases h47 : n = 47
          · have HF : Hid (fineN l = 22) := by
              have : c = 47 := by apply UInt8.toNat_inj.1; rw [hn, h47]; rfl
              subst this
              show _ = _; unfold fineN; rw [if_neg H1.out, if_pos (.inr hcm)]
            subst h47
            clear hc hcm
            go_wp2_with fail
            go_ret
            exact ⟨by rw [HF.out]; rfl, rfl⟩
          · have h47I : ((n : Int) == 47) = false := by rw [beq_eq_false_iff_ne]; omega
            have HN : Hid (∀ j c, j < i + 1 → l[j]? = some c → c ≠ 0 ∧ c ≠ 47) := fun j d hj hd => by
              by_cases hji : j = i
              · subst hji
                rw [hc] at hd; cases hd
                exact ⟨fun e => by rw [e] at hn; exact h0 hn.symm, fun e => by rw [e] at hn; exact h47 hn.symm⟩
              · exact HI.out j d (by omega) hd
            clear hc hcm
            go_wp2_with fail
            exact ⟨⟨i + 1, by simp, by omega, trivial, HN⟩, by simp [intOf]; omega⟩
      · obtain rfl : i = l.length := by omega
        have hno : ¬ (0 ∈ l ∨ 47 ∈ l) := by
          rintro (h | h)
          · obtain ⟨j, hj⟩ := List.getElem?_of_mem h
            exact (HI.out j _ (List.getElem?_eq_some_iff.1 hj).1 hj).1 rfl
          · obtain ⟨j, hj⟩ := List.getElem?_of_mem h
            exact (HI.out j _ (List.getElem?_eq_some_iff.1 hj).1 hj).2 rfl
        by_cases h64 : 64 < l.length
        · have h64I : (64 : Int) < (l.length : Int) := by omega
          have HF : Hid (fineN l = 36) := by show _ = _; unfold fineN; rw [if_neg H1.out, if_neg hno, if_pos h64]
          clear hno
          go_wp2_with fail
          go_ret
          exact ⟨by rw [HF.out]; rfl, rfl⟩
        · have h64I : ¬ (64 : Int) < (l.length : Int) := by omega
          have HF : Hid (fineN l = 0) := by show _ = _; unfold fineN; rw [if_neg H1.out, if_neg hno, if_neg h64]
          clear hno
          go_wp2_with fail
          go_ret
          exact ⟨by rw [HF.out]; rfl, rfl⟩

set_option maxRecDepth 8000 in
set_option maxHeartbeats 1000000 in
theorem rname_any (l : List UInt8) (w : World) (hs : l.length < 1000000000000000) : Calls Try.prog 44 #[.string (bas l)] w fun e w' => e = .returned (.int .i64 (nameN l)) ∧ w' = w := by
  have c := local_any (bas l) w (by rw [bas_size]; exact hs)
  rw [bas_data] at c
  have hsz := bas_size l
  go_enter Try.func44, Try.ntmps44
  go_wp2_with fail
  go_loopw [3] (fun ii wr => ∃ i : Nat, ii = .int .i64 i ∧ i ≤ l.length ∧ wr = w ∧ Hid (∀ j c, j < i → l[j]? = some c → c ≠ 1)) (fun ii _ => l.length - (intOf ii).toNat)
  case atStart => exact ⟨0, rfl, Nat.zero_le _, rfl, fun j c hj => by omega⟩
  case round =>
    obtain ⟨i, rfl, hi, rfl, HI⟩ := hrel
    by_cases hlt : i < l.length
    · have hltI : (i : Int) < (l.length : Int) := by omega
      obtain ⟨c0, hc⟩ : ∃ c, l[i]? = some c := ⟨_, List.getElem?_eq_getElem hlt⟩
      have hci : ∀ h : i < (bas l).size, (bas l)[i]'h = c0 := fun h => by
        show (bas l).data[i] = c0
        have := List.getElem?_eq_some_iff.1 hc
        exact this.2
      have hcm : c0 ∈ l := List.mem_of_getElem? hc
      obtain ⟨n, hn⟩ : ∃ n, c0.toNat = n := ⟨_, rfl⟩
      by_cases h0 : n = 1
      · have HF : Hid (nameN l = 22) := by
          have : c0 = 1 := by apply UInt8.toNat_inj.1; rw [hn, h0]; rfl
          subst this
          show _ = _; unfold nameN; rw [if_pos hcm]
        subst h0
        have hq : ((1 : Nat) : Int) = 1 := rfl
        clear hc hcm c
        go_wp2_with fail
        go_ret
        exact ⟨by rw [HF.out]; rfl, rfl⟩
      · have h0I : ((n : Int) == 1) = false := by rw [beq_eq_false_iff_ne]; omega
        have HN : Hid (∀ j c, j < i + 1 → l[j]? = some c → c ≠ 1) := fun j d hj hd => by
          by_cases hji : j = i
          · subst hji
            rw [hc] at hd; cases hd
            exact fun e => by rw [e] at hn; exact h0 hn.symm
          · exact HI.out j d (by omega) hd
        clear hc hcm c
        go_wp2_with fail
        exact ⟨⟨i + 1, by simp, by omega, trivial, HN⟩, by simp [intOf]; omega⟩
    · obtain rfl : i = l.length := by omega
      have HF : Hid (nameN l = fineN l) := by
        show _ = _; unfold nameN
        rw [if_neg]
        intro h
        obtain ⟨j, hj⟩ := List.getElem?_of_mem h
        exact (HI.out j _ (List.getElem?_eq_some_iff.1 hj).1 hj) rfl
      go_wp2_with (go_at_call 62; refine Calls_on c ?_)
      go_ret
      exact ⟨by rw [HF.out]; rfl, rfl⟩

end Go.Proofs.Ytgpbphjplbhfmaa.Cd

/-
  An operation in memory; the small functions over operations, both sides.
-/
namespace Go.Proofs.Ytgpbphjplbhfmaa.Cd
open Go.RowKit

attribute [local go_sem] Oper.semAt_some

/-- What lies in a block of an operation. -/
def OpB (W : World) (g : Nat) (t n sq kd ot on pt pn : Int) (nm : List UInt8) (p q : Option Addr) (l c m d : Nat) : Prop := W.heap[g]? = some (.cells #[.int .i64 t, .int .i64 n, .int .i64 sq, .int .i64 kd, .int .i64 ot, .int .i64 on, .int .i64 pt, .int .i64 pn, .string (bas nm), .slice p l c, .slice q m d] 36 (0, 0))
theorem OpB.lt {W : World} {g : Nat} {t n sq kd ot on pt pn : Int} {nm : List UInt8} {p q : Option Addr} {l c m d : Nat} (h : OpB W g t n sq kd ot on pt pn nm p q l c m d) : g < W.heap.size := block_lt h
theorem OpB.below {W W' : World} {g : Nat} {t n sq kd ot on pt pn : Int} {nm : List UInt8} {p q : Option Addr} {l c m d : Nat} (h : OpB W g t n sq kd ot on pt pn nm p q l c m d) (hb : Below W.heap.size W W') : OpB W' g t n sq kd ot on pt pn nm p q l c m d := (hb.block g h.lt).trans h
theorem OpB.made (w : World) (t n sq kd ot on pt pn : Int) (nm : List UInt8) (p q : Option Addr) (l c m d : Nat) : OpB (w.alloc (.cells #[.int .i64 t, .int .i64 n, .int .i64 sq, .int .i64 kd, .int .i64 ot, .int .i64 on, .int .i64 pt, .int .i64 pn, .string (bas nm), .slice p l c, .slice q m d] 36)) w.heap.size t n sq kd ot on pt pn nm p q l c m d := heap_alloc_new w _
theorem OpB.next (w : World) (o : Obj) (t n sq kd ot on pt pn : Int) (nm : List UInt8) (p q : Option Addr) (l c m d : Nat) : OpB ((w.alloc o).alloc (.cells #[.int .i64 t, .int .i64 n, .int .i64 sq, .int .i64 kd, .int .i64 ot, .int .i64 on, .int .i64 pt, .int .i64 pn, .string (bas nm), .slice p l c, .slice q m d] 36)) (w.heap.size + 1) t n sq kd ot on pt pn nm p q l c m d := by
  have := OpB.made (w.alloc o) t n sq kd ot on pt pn nm p q l c m d
  rwa [show (w.alloc o).heap.size = w.heap.size + 1 by simp] at this
theorem OpB.cells {W : World} {g : Nat} {t n sq kd ot on pt pn : Int} {nm : List UInt8} {p q : Option Addr} {l c m d : Nat} (h : OpB W g t n sq kd ot on pt pn nm p q l c m d) :
    W.cell? ⟨g, 0, none⟩ = some (.int .i64 t) ∧ W.cell? ⟨g, 1, none⟩ = some (.int .i64 n) ∧ W.cell? ⟨g, 2, none⟩ = some (.int .i64 sq) ∧ W.cell? ⟨g, 3, none⟩ = some (.int .i64 kd) ∧ W.cell? ⟨g, 4, none⟩ = some (.int .i64 ot) ∧ W.cell? ⟨g, 5, none⟩ = some (.int .i64 on) ∧ W.cell? ⟨g, 6, none⟩ = some (.int .i64 pt) ∧ W.cell? ⟨g, 7, none⟩ = some (.int .i64 pn) ∧ W.cell? ⟨g, 8, none⟩ = some (.string (bas nm)) ∧ W.cell? ⟨g, 9, none⟩ = some (.slice p l c) ∧ W.cell? ⟨g, 10, none⟩ = some (.slice q m d) :=
  ⟨cellOf h 0, cellOf h 1, cellOf h 2, cellOf h 3, cellOf h 4, cellOf h 5, cellOf h 6, cellOf h 7, cellOf h 8, cellOf h 9, cellOf h 10⟩
/-- A callee that makes new memory alone, met at its call. -/
theorem Calls_new {f : Nat} {args : Array Value} {w : World} {v : Ending} {K : Ending → World → Prop} (h : Calls Try.prog f args w fun e w' => e = v ∧ Below w.heap.size w w')
    (hk : ∀ w', Hid (Below w.heap.size w w') → K v w') : Calls Try.prog f args w K :=
  h.mono (by rintro e w' ⟨rfl, hb⟩; exact hk w' hb)

theorem root_any (w : World) : Calls Try.prog 33 #[] w fun e w' => e = .returned (.agg #[.int .i64 0, .int .i64 0]) ∧ Below w.heap.size w w' := by
  go_enter Try.func33, Try.ntmps33
  go_wp2
  refine bodyPost_ret (v := .agg #[.int .i64 0, .int .i64 0]) (by simp [results, Try.results33, go_sem]) rfl ?_
  exact ⟨rfl, (below_new w _).out⟩
theorem trash_any (w : World) : Calls Try.prog 70 #[] w fun e w' => e = .returned (.agg #[.int .i64 0, .int .i64 1]) ∧ Below w.heap.size w w' := by
  go_enter Try.func70, Try.ntmps70
  go_wp2
  refine bodyPost_ret (v := .agg #[.int .i64 0, .int .i64 1]) (by simp [results, Try.results70, go_sem]) rfl ?_
  exact ⟨rfl, (below_new w _).out⟩

abbrev idv (t n : Int) : Value := .agg #[.int .i64 t, .int .i64 n]
def olderB (t n t' n' : Int) : Bool := Ck.validB t n && Ck.lessB t n t' n'
def placedB (nm : List UInt8) (l : Nat) : Bool := decide (nameN nm = 0) && decide (l = 0)

set_option maxRecDepth 8000 in
set_option maxHeartbeats 1000000 in
theorem earlier_any (it ii : Int) (t n sq kd ot on pt pn : Int) (nm : List UInt8) (p q : Option Addr) (l c m d : Nat) (w : World) :
    Calls Try.prog 69 #[idv it ii, .agg #[.int .i64 t, .int .i64 n, .int .i64 sq, .int .i64 kd, .int .i64 ot, .int .i64 on, .int .i64 pt, .int .i64 pn, .string (bas nm), .slice p l c, .slice q m d]] w fun e w' => e = .returned (.bool (olderB it ii t n)) ∧ Below w.heap.size w w' := by
  obtain ⟨ob, hob⟩ : ∃ ob, ob = Obj.cells #[.int .i64 it, .int .i64 ii] 31 := ⟨_, rfl⟩
  obtain ⟨oc, hoc⟩ : ∃ oc, oc = Obj.cells #[.int .i64 t, .int .i64 n, .int .i64 sq, .int .i64 kd, .int .i64 ot, .int .i64 on, .int .i64 pt, .int .i64 pn, .string (bas nm), .slice p l c, .slice q m d] 36 := ⟨_, rfl⟩
  have B0 : Hid (Below w.heap.size w ((w.alloc ob).alloc oc)) := ((Below.refl _ _).alloc (Nat.le_refl _) _).alloc (by simp) _
  have hi : ((w.alloc ob).alloc oc).heap[w.heap.size]? = some (.cells #[.int .i64 it, .int .i64 ii] 31 (0, 0)) := by rw [Below.heap_alloc _ _ _ (by simp), hob]; exact heap_alloc_new w _
  have ho : OpB ((w.alloc ob).alloc oc) (w.heap.size + 1) t n sq kd ot on pt pn nm p q l c m d := by rw [hoc]; exact OpB.next _ _ t n sq kd ot on pt pn nm p q l c m d
  have HI : Hid (((w.alloc ob).alloc oc).heap[w.heap.size]? = some (.cells #[.int .i64 it, .int .i64 ii] 31 (0, 0))) := hi
  have HO : Hid (OpB ((w.alloc ob).alloc oc) (w.heap.size + 1) t n sq kd ot on pt pn nm p q l c m d) := ho
  have c1 := fun W => Ck.valid_any it ii W
  have c2 := fun W => Ck.less_any it ii t n W
  have tok : True := trivial
  cases hv : Ck.validB it ii with
  | true =>
    have HE : Hid (olderB it ii t n = Ck.lessB it ii t n) := by show _ = _; simp [olderB, hv]
    rw [hv] at c1
    clear hv hi ho
    subst hob; subst hoc
    go_enter Try.func69, Try.ntmps69
    go_wp2_with (first | (go_at_call 46; have tk := tok; refine Calls_new (c1 _) ?_; clear tk tok; intro w2 hb; have i0 : w2.cell? ⟨w.heap.size, 0, none⟩ = some (.int .i64 it) := cellOf ((hb.out.block _ (block_lt HI.out)).trans HI.out) 0; have i1 : w2.cell? ⟨w.heap.size, 1, none⟩ = some (.int .i64 ii) := cellOf ((hb.out.block _ (block_lt HI.out)).trans HI.out) 1; have c0 : w2.cell? ⟨w.heap.size + 1, 0, none⟩ = some (.int .i64 t) := cellOf (HO.out.below hb.out) 0; have c1' : w2.cell? ⟨w.heap.size + 1, 1, none⟩ = some (.int .i64 n) := cellOf (HO.out.below hb.out) 1) | (go_at_call 84; refine Calls_new (c2 _) ?_; intro w3 hb3))
    go_ret
    rw [HE.out]
    exact ⟨rfl, (B0.out.trans (hb.out.mono B0.out.size)).trans (hb3.out.mono (Nat.le_trans B0.out.size hb.out.size))⟩
  | false =>
    have HE : Hid (olderB it ii t n = false) := by show _ = _; simp [olderB, hv]
    rw [hv] at c1
    clear hv hi ho
    subst hob; subst hoc
    go_enter Try.func69, Try.ntmps69
    go_wp2_with (go_at_call 46; refine Calls_new (c1 _) ?_; intro w2 hb)
    go_ret
    rw [HE.out]
    exact ⟨rfl, B0.out.trans (hb.out.mono B0.out.size)⟩

set_option maxRecDepth 8000 in
set_option maxHeartbeats 1000000 in
theorem placed_any (t n sq kd ot on pt pn : Int) (nm : List UInt8) (p q : Option Addr) (l c m d : Nat) (w : World) (hs : nm.length < 1000000000000000) :
    Calls Try.prog 68 #[.agg #[.int .i64 t, .int .i64 n, .int .i64 sq, .int .i64 kd, .int .i64 ot, .int .i64 on, .int .i64 pt, .int .i64 pn, .string (bas nm), .slice p l c, .slice q m d]] w fun e w' => e = .returned (.bool (placedB nm l)) ∧ Below w.heap.size w w' := by
  have B0 : Hid (∀ o, Below w.heap.size w (w.alloc o)) := fun o => (below_new w o).out
  have c1 := fun W => name_any nm W hs
  obtain ⟨x, hx⟩ : ∃ x, nameN nm = x := ⟨_, rfl⟩
  rw [hx] at c1
  have HE : Hid (placedB nm l = (decide (x = 0) && decide (l = 0))) := by show _ = _; rw [← hx]; rfl
  clear hx
  by_cases h0 : x = 0
  · subst h0
    by_cases h1 : l = 0
    · subst h1
      go_enter Try.func68, Try.ntmps68
      go_wp2_with (go_at_call 83; refine Calls_on (c1 _) ?_)
      go_ret
      rw [HE.out]
      exact ⟨rfl, B0.out _⟩
    · have h1I : ¬ (l : Int) = 0 := by omega
      go_enter Try.func68, Try.ntmps68
      go_wp2_with (go_at_call 83; refine Calls_on (c1 _) ?_)
      go_ret
      rw [HE.out]
      exact ⟨by simp [h1], B0.out _⟩
  · go_enter Try.func68, Try.ntmps68
    go_wp2_with (go_at_call 83; refine Calls_on (c1 _) ?_)
    go_ret
    rw [HE.out]
    exact ⟨by simp [h0], B0.out _⟩

end Go.Proofs.Ytgpbphjplbhfmaa.Cd

namespace Go.Proofs.Ytgpbphjplbhfmaa
open Go.RowKit

/-- How many operations are still to come. -/
def toCome (m : Nat) (listed : Array Bool) : Nat := ((List.range m).filter fun i => !listed.getD i true).length

theorem toCome_set {m : Nat} {listed : Array Bool} {i : Nat} (hi : i < m) (hs : listed.size = m) (h : listed.getD i true = false) : toCome m (listed.setIfInBounds i true) + 1 = toCome m listed := by
  unfold toCome
  have key : ∀ l : List Nat, l.Nodup → i ∈ l → (l.filter fun j => !(listed.setIfInBounds i true).getD j true).length + 1 = (l.filter fun j => !listed.getD j true).length := by
    intro l
    induction l with
    | nil => intro _ h; cases h
    | cons x l ih =>
      intro hn hm
      rw [List.nodup_cons] at hn
      by_cases hx : x = i
      · subst hx
        have e1 : (listed.setIfInBounds x true).getD x true = true := by simp [hs, hi]
        have e2 : (l.filter fun j => !(listed.setIfInBounds x true).getD j true) = l.filter fun j => !listed.getD j true := by
          apply List.filter_congr
          intro j hj
          rw [getD_set_ne true (fun e => hn.1 (by rw [e]; exact hj))]
        rw [List.filter_cons, e1, List.filter_cons, h, e2]
        simp
      · have hm' : i ∈ l := by
          rcases List.mem_cons.1 hm with e | e
          · exact absurd e.symm hx
          · exact e
        rw [List.filter_cons, List.filter_cons, getD_set_ne true (fun e => hx e.symm)]
        cases listed.getD x true
        · simp only [Bool.not_false, if_true, List.length_cons]
          have := ih hn.2 hm'
          omega
        · simp only [Bool.not_true, Bool.false_eq_true, if_false]
          exact ih hn.2 hm'
  exact key _ List.nodup_range (List.mem_range.2 hi)

theorem toCome_zero {m : Nat} {listed : Array Bool} (hs : listed.size = m) (h : toCome m listed = 0) (i : Nat) (hi : i < m) : listed.getD i false = true := by
  unfold toCome at h
  have h' := List.eq_nil_of_length_eq_zero h
  rw [List.filter_eq_nil_iff] at h'
  have := h' i (List.mem_range.2 hi)
  have e : listed.getD i true = true := by simpa using this
  have hlt : i < listed.size := by omega
  simp [hlt] at e ⊢
  exact e

theorem region_fixed {F : Fence} {n : Nat} {P : Program} {id : Nat} {ops : Array Oper} {Q : Exit → Act → World → Prop} {a0 : Act} {w0 : World} (hm : P.follows .mixedOrders = true)
    (hdep : ∀ (i : Nat) (o : Oper), ops[i]? = some o → ∀ e ∈ o.after, Region.binds .any e = true → e.on < i) (Adm : Array Bool → Act → World → Prop)
    (h0 : Adm (Array.replicate ops.size false) a0 w0.drew)
    (hstep : ∀ listed a w (i : Nat) (o : Oper), listed.size = ops.size → Adm listed a w → ops[i]? = some o → listed.getD i true = false → (∀ e ∈ o.after, Region.binds .any e = true → listed.getD e.on false = true) →
      wpOpIn F n P ops Q i (fun a' w' => Adm (listed.setIfInBounds i true) a' w') a w)
    (hend : ∀ listed a w, listed.size = ops.size → Adm listed a w → (∀ i, i < ops.size → listed.getD i false = true) → Q .normal a w) :
    (Code.region id ops true).wpIn F n P Q a0 w0 := by
  refine wpIn_region_any hm ?_
  have noReady : ∀ listed : Array Bool, listed.size = ops.size → Region.ready .any ops listed = [] → ∀ i, i < ops.size → listed.getD i false = true := by
    intro listed hs hr i
    induction i using Nat.strongRecOn with
    | ind i ih =>
      intro hi
      cases hx : listed.getD i false
      · exfalso
        have hlt : i < listed.size := by omega
        have hx' : listed.getD i true = false := by simp [hlt] at hx ⊢; exact hx
        obtain ⟨o, ho⟩ : ∃ o, ops[i]? = some o := ⟨_, Array.getElem?_eq_getElem hi⟩
        have : i ∈ Region.ready .any ops listed := mem_ready.2 ⟨hx', o, ho, fun e he hbd => by
          have := hdep i o ho e he hbd
          exact ih e.on this (by omega)⟩
        rw [hr] at this
        cases this
      · rfl
  have main : ∀ (fuel : Nat) (listed : Array Bool) (a : Act) (w : World), listed.size = ops.size → toCome ops.size listed = fuel → Adm listed a w → wpAnyIn F n P .any ops Q fuel listed a w := by
    intro fuel
    induction fuel with
    | zero =>
      intro listed a w hs ht hA
      have hall := toCome_zero hs ht
      refine ⟨?_, hend listed a w hs hA hall⟩
      rw [List.eq_nil_iff_forall_not_mem]
      intro i hi
      obtain ⟨h1, o, ho, _⟩ := mem_ready.1 hi
      have hlt := (Array.getElem?_eq_some_iff.1 ho).1
      have h2 := hall i hlt
      have hlt' : i < listed.size := by omega
      simp [hlt'] at h1 h2
      rw [h1] at h2
      cases h2
    | succ fuel ih =>
      intro listed a w hs ht hA
      refine ⟨fun hr => hend listed a w hs hA (noReady listed hs hr), fun i hi => ?_⟩
      obtain ⟨h1, o, ho, hd⟩ := mem_ready.1 hi
      have hlt := (Array.getElem?_eq_some_iff.1 ho).1
      have h2 := toCome_set hlt hs h1
      exact wpOpIn_mono (fun a' w' h => ih _ a' w' (by simpa using hs) (by omega) h) (hstep listed a w i o hs hA ho h1 hd)
  refine main _ _ _ _ (by simp) ?_ h0
  unfold toCome
  rw [List.filter_eq_self.2]
  · simp
  · intro i hi
    have := List.mem_range.1 hi
    simp [this]

/-- Each operation stands behind those that it waits for. -/
def inRow (ops : Array Oper) : Bool := (List.range ops.size).all fun i => match ops[i]? with | some o => o.after.toList.all fun e => !Region.binds .any e || decide (e.on < i) | none => true
theorem inRow_spec {ops : Array Oper} (h : inRow ops = true) : ∀ (i : Nat) (o : Oper), ops[i]? = some o → ∀ e ∈ o.after, Region.binds .any e = true → e.on < i := by
  intro i o ho e he hbd
  have hlt := (Array.getElem?_eq_some_iff.1 ho).1
  have := (List.all_eq_true.1 h) i (List.mem_range.2 hlt)
  rw [ho] at this
  have := (List.all_eq_true.1 this) e (by simpa using he)
  simpa [hbd] using this

/-- The operation is done. -/
def did (b : Nat → Bool) (i : Nat) : Nat → Bool := fun j => if j = i then true else b j

/-- The same, by which operations are done. -/
theorem region_done {F : Fence} {n : Nat} {P : Program} {id : Nat} {ops : Array Oper} {Q : Exit → Act → World → Prop} {a0 : Act} {w0 : World} (hm : P.follows .mixedOrders = true)
    (hdep : inRow ops = true) (Adm : (Nat → Bool) → Act → World → Prop)
    (h0 : Adm (fun _ => false) a0 w0.drew)
    (hstep : ∀ b a w (i : Nat) (o : Oper), Adm b a w → (∀ (j : Nat) (u : Oper), ops[j]? = some u → b j = true → ∀ e ∈ u.after.toList, Region.binds .any e = true → b e.on = true) → ops[i]? = some o → b i = false →
      (∀ e ∈ o.after.toList, Region.binds .any e = true → b e.on = true) → wpOpIn F n P ops Q i (fun a' w' => Adm (did b i) a' w') a w)
    (hend : ∀ b a w, Adm b a w → (∀ i, i < ops.size → b i = true) → Q .normal a w) :
    (Code.region id ops true).wpIn F n P Q a0 w0 := by
  refine region_fixed hm (inRow_spec hdep) (fun ls a w => Adm (fun j => ls.getD j false) a w ∧ ∀ (j : Nat) (u : Oper), ops[j]? = some u → ls.getD j false = true → ∀ e ∈ u.after.toList, Region.binds .any e = true → ls.getD e.on false = true) ?_ ?_ ?_
  · have e : (fun j => (Array.replicate ops.size false).getD j false) = fun _ => false := by
      funext j
      by_cases hj : j < ops.size <;> simp [hj]
    refine ⟨by rw [e]; exact h0, fun j u _ hj => ?_⟩
    have ej : (Array.replicate ops.size false).getD j false = false := congrFun e j
    rw [ej] at hj
    cases hj
  · rintro ls a w i o hs ⟨hA, hcl⟩ ho hl hd
    have hlt := (Array.getElem?_eq_some_iff.1 ho).1
    have hb : ls.getD i false = false := by
      have : i < ls.size := by omega
      simp [this] at hl ⊢; exact hl
    refine wpOpIn_mono (fun a' w' h => ?_) (hstep _ a w i o hA hcl ho hb (fun e he => hd e (by simpa using he)))
    have e : (fun j => (ls.setIfInBounds i true).getD j false) = did (fun j => ls.getD j false) i := by
      funext j
      unfold did
      by_cases hj : j = i
      · subst hj
        have : j < ls.size := by omega
        simp [this]
      · rw [if_neg hj, getD_set_ne false (fun e => hj e.symm)]
    refine ⟨by rw [e]; exact h, fun j u hu hj x hx hbx => ?_⟩
    have ej := congrFun e j
    have ex := congrFun e x.on
    simp only [did] at ej ex
    rw [ej] at hj
    rw [ex]
    by_cases hxi : x.on = i
    · rw [if_pos hxi]
    · rw [if_neg hxi]
      by_cases hji : j = i
      · subst hji
        rw [ho] at hu
        cases hu
        exact hd x (by simpa using hx) hbx
      · rw [if_neg hji] at hj
        exact hcl j u hu hj x hx hbx
  · rintro ls a w hs ⟨hA, _⟩ hall
    exact hend _ a w hA hall

section
variable {l n : Nat} {P : Program} {ops : Array Oper} {Q : Exit → Act → World → Prop} {i : Nat} {o : Oper} {K : Act → World → Prop} {a : Act} {w w' : World}
end

end Go.Proofs.Ytgpbphjplbhfmaa

namespace Go.Proofs.Ytgpbphjplbhfmaa
open Go.RowKit

section
variable {n : Nat} {P : Program} {ops : Array Oper} {Q : Exit → Act → World → Prop} {i : Nat} {o : Oper} {K : Act → World → Prop} {a : Act} {w w' : World}
end

end Go.Proofs.Ytgpbphjplbhfmaa

namespace Go.Proofs.Ytgpbphjplbhfmaa
open Go.RowKit

/-- Where operation k writes. -/
def slotOf (ops : Array Oper) (k : Nat) : Option Tmp := (ops[k]?).bind (·.dst)

/-- The frame: each operation that is done has written its value. -/
def lay (base : Array Value) (ops : Array Oper) (val : Nat → Value) (b : Nat → Bool) : Nat → Array Value
  | 0 => base
  | k + 1 => match slotOf ops k with
    | some s => if b k = true then (lay base ops val b k).setIfInBounds s (val k) else lay base ops val b k
    | none => lay base ops val b k

/-- No two operations write one place, and each place is there. -/
def apartB (ops : Array Oper) (m : Nat) : Bool := (List.range ops.size).all fun i => match slotOf ops i with
  | some s => decide (s < m) && (List.range ops.size).all fun j => j == i || slotOf ops j != some s
  | none => true
theorem apart_lt {ops : Array Oper} {m i s : Nat} (h : apartB ops m = true) (hi : slotOf ops i = some s) : s < m ∧ ∀ j, j ≠ i → slotOf ops j ≠ some s := by
  have hlt : i < ops.size := by
    by_cases hx : i < ops.size
    · exact hx
    · unfold slotOf at hi
      rw [Array.getElem?_eq_none (by omega)] at hi
      cases hi
  have := (List.all_eq_true.1 h) i (List.mem_range.2 hlt)
  rw [hi] at this
  simp only [Bool.and_eq_true, decide_eq_true_eq] at this
  refine ⟨this.1, fun j hj e => ?_⟩
  have hjlt : j < ops.size := by
    by_cases hx : j < ops.size
    · exact hx
    · unfold slotOf at e
      rw [Array.getElem?_eq_none (by omega)] at e
      cases e
  have := (List.all_eq_true.1 this.2) j (List.mem_range.2 hjlt)
  simp [hj, e] at this

section
variable {base : Array Value} {ops : Array Oper} {val : Nat → Value} {b : Nat → Bool}
theorem lay_size (n : Nat) : (lay base ops val b n).size = base.size := by
  induction n with
  | zero => rfl
  | succ k ih =>
    unfold lay
    split
    · split
      · simpa using ih
      · exact ih
    · exact ih
theorem lay_out (n : Nat) {s : Nat} (h : ∀ j, slotOf ops j ≠ some s) : (lay base ops val b n)[s]? = base[s]? := by
  induction n with
  | zero => rfl
  | succ k ih =>
    unfold lay
    split
    · rename_i t ht
      split
      · rw [Array.getElem?_setIfInBounds_ne (fun e => h k (by rw [ht, e]))]; exact ih
      · exact ih
    · exact ih
theorem lay_in (n : Nat) {i s : Nat} (hi : slotOf ops i = some s) (hn : i < n) (hs : s < base.size) (ha : ∀ j, j ≠ i → slotOf ops j ≠ some s) (hb : b i = true) : (lay base ops val b n)[s]? = some (val i) := by
  induction n with
  | zero => omega
  | succ k ih =>
    by_cases hk : k = i
    · subst hk
      unfold lay
      simp only [hi, hb, if_true]
      rw [Array.getElem?_setIfInBounds_self_of_lt (by rw [lay_size]; exact hs)]
    · unfold lay
      split
      · rename_i t ht
        split
        · rw [Array.getElem?_setIfInBounds_ne (fun e => ha k hk (by rw [ht, e]))]; exact ih (by omega)
        · exact ih (by omega)
      · exact ih (by omega)
theorem lay_did (n : Nat) {i s : Nat} (hi : slotOf ops i = some s) (hn : i < n) (ha : ∀ j, j ≠ i → slotOf ops j ≠ some s) (hb : b i = false) :
    lay base ops val (did b i) n = (lay base ops val b n).setIfInBounds s (val i) := by
  have low : ∀ k, k ≤ i → lay base ops val (did b i) k = lay base ops val b k := by
    intro k
    induction k with
    | zero => intro _; rfl
    | succ k ih =>
      intro hk
      unfold lay
      rw [ih (by omega)]
      have : did b i k = b k := by unfold did; rw [if_neg (by omega)]
      rw [this]
  induction n with
  | zero => omega
  | succ k ih =>
    by_cases hk : k = i
    · subst hk
      unfold lay
      rw [low k (Nat.le_refl _)]
      simp [hi, did, hb]
    · have hd : did b i k = b k := by unfold did; rw [if_neg hk]
      unfold lay
      rw [ih (by omega), hd]
      split
      · rename_i t ht
        split
        · apply Array.ext_getElem?
          intro x
          have hst : t ≠ s := fun e => ha k hk (by rw [ht, e])
          simp only [Array.getElem?_setIfInBounds, Array.size_setIfInBounds]
          by_cases h1 : t = x
          · have h2 : ¬ s = x := fun e => hst (h1.trans e.symm)
            simp [h1, h2]
          · simp [h1]
        · rfl
      · rfl
theorem lay_none (n : Nat) {i : Nat} (hi : slotOf ops i = none) : lay base ops val (did b i) n = lay base ops val b n := by
  induction n with
  | zero => rfl
  | succ k ih =>
    unfold lay
    rw [ih]
    by_cases hk : k = i
    · subst hk; simp [hi]
    · have hd : did b i k = b k := by unfold did; rw [if_neg hk]
      rw [hd]
end

/-- What the frame tells of the place that operation j wrote. -/
theorem lay_eval {base : Array Value} {ops : Array Oper} {val : Nat → Value} {b : Nat → Bool} {d : List Deferred} {m : Nat} (hsz : base.size = m) (hap : apartB ops m = true) (j s : Nat) (hs : slotOf ops j = some s) (hb : b j = true) :
    Act.eval ⟨lay base ops val b ops.size, d⟩ (.tmp s) = val j := by
  subst hsz
  obtain ⟨h1, h2⟩ := apart_lt hap hs
  have hlt : j < ops.size := by
    by_cases hx : j < ops.size
    · exact hx
    · unfold slotOf at hs
      rw [Array.getElem?_eq_none (by omega)] at hs
      cases hs
  have := lay_in (val := val) ops.size hs hlt h1 h2 hb
  show (lay base ops val b ops.size).getD s undef = _
  rw [Array.getD_eq_getD_getElem?, this]
  rfl
/-- .. and of a place that none writes. -/
def noneB (ops : Array Oper) (s : Nat) : Bool := (List.range ops.size).all fun i => slotOf ops i != some s
theorem lay_keep {base : Array Value} {ops : Array Oper} {val : Nat → Value} {b : Nat → Bool} {d : List Deferred} (s : Nat) (h : noneB ops s = true) :
    Act.eval ⟨lay base ops val b ops.size, d⟩ (.tmp s) = base.getD s undef := by
  have h' : ∀ j, slotOf ops j ≠ some s := by
    intro j e
    have hlt : j < ops.size := by
      by_cases hx : j < ops.size
      · exact hx
      · unfold slotOf at e
        rw [Array.getElem?_eq_none (by omega)] at e
        cases e
    have := (List.all_eq_true.1 h) j (List.mem_range.2 hlt)
    simp [e] at this
  show (lay base ops val b ops.size).getD s undef = _
  rw [Array.getD_eq_getD_getElem?, lay_out ops.size h', Array.getD_eq_getD_getElem?]
/-- .. and of a place that is not yet written. -/
theorem lay_till {base : Array Value} {ops : Array Oper} {val : Nat → Value} {b : Nat → Bool} {s : Nat} (h : ∀ j, slotOf ops j = some s → b j = false) : ∀ n, (lay base ops val b n)[s]? = base[s]?
  | 0 => rfl
  | k + 1 => by
    unfold lay
    split
    · rename_i t ht
      split
      · rename_i hb
        have hne : t ≠ s := by
          intro e
          subst e
          rw [h k ht] at hb
          cases hb
        rw [Array.getElem?_setIfInBounds, if_neg hne]
        exact lay_till h k
      · exact lay_till h k
    · exact lay_till h k
theorem none_till {ops : Array Oper} {s : Nat} {b : Nat → Bool} (h : noneB ops s = true) : ∀ i, slotOf ops i = some s → b i = false := by
  intro i e
  have hlt : i < ops.size := by
    by_cases hx : i < ops.size
    · exact hx
    · unfold slotOf at e
      rw [Array.getElem?_eq_none (by omega)] at e
      cases e
  have := (List.all_eq_true.1 h) i (List.mem_range.2 hlt)
  simp [e] at this
/-- A guard that is decided. -/
theorem lay_yield {base : Array Value} {ops : Array Oper} {val : Nat → Value} {b : Nat → Bool} {m : Nat} (hsz : base.size = m) (hap : apartB ops m = true) (j s : Nat) (x : Bool) (hs : slotOf ops j = some s) (hb : b j = true) (hv : val j = .bool x) :
    yielded ops (lay base ops val b ops.size) j = some x := by
  subst hsz
  obtain ⟨h1, h2⟩ := apart_lt hap hs
  have hlt : j < ops.size := by
    by_cases hx : j < ops.size
    · exact hx
    · unfold slotOf at hs
      rw [Array.getElem?_eq_none (by omega)] at hs
      cases hs
  have := lay_in (val := val) ops.size hs hlt h1 h2 hb
  unfold yielded
  have e : (ops[j]?).bind (·.dst) = some s := hs
  rw [e, Option.bind_some, this, hv]

/-- The value of operation k, out of a list. -/
def vals (L : List (Option Tmp × Value)) (k : Nat) : Value := (L.getD k (none, undef)).2
/-- All of them written. -/
def putAll (base : Array Value) : List (Option Tmp × Value) → Array Value
  | [] => base
  | (some s, v) :: r => putAll (base.setIfInBounds s v) r
  | (none, _) :: r => putAll base r
theorem putAll_snoc (L : List (Option Tmp × Value)) (x : Option Tmp × Value) : ∀ base, putAll base (L ++ [x]) = match x with | (some s, v) => (putAll base L).setIfInBounds s v | (none, _) => putAll base L := by
  induction L with
  | nil => intro base; obtain ⟨s, v⟩ := x; cases s <;> rfl
  | cons y L ih =>
    intro base
    obtain ⟨s, v⟩ := y
    cases s
    · exact ih base
    · exact ih _
theorem lay_all {base : Array Value} {ops : Array Oper} {L : List (Option Tmp × Value)} (hL : L.map (·.1) = ops.toList.map (·.dst)) : lay base ops (vals L) (fun _ => true) ops.size = putAll base L := by
  have hlen : L.length = ops.size := by
    have := congrArg List.length hL
    simpa using this
  have key : ∀ n, n ≤ ops.size → lay base ops (vals L) (fun _ => true) n = putAll base (L.take n) := by
    intro n
    induction n with
    | zero => intro _; rfl
    | succ k ih =>
      intro hk
      have hkL : k < L.length := by omega
      have hsl : slotOf ops k = (L[k]).1 := by
        have h1 : (L.map (·.1))[k]? = (ops.toList.map (·.dst))[k]? := by rw [hL]
        rw [List.getElem?_map, List.getElem?_map, List.getElem?_eq_getElem hkL] at h1
        have h2 : ops.toList[k]? = ops[k]? := by simp
        rw [h2] at h1
        unfold slotOf
        rw [Array.getElem?_eq_getElem (by omega)] at h1 ⊢
        simpa using h1.symm
      have hv : vals L k = (L[k]).2 := by
        unfold vals
        rw [List.getD, List.getElem?_eq_getElem hkL]
        rfl
      rw [List.take_add_one, List.getElem?_eq_getElem hkL, Option.toList_some, putAll_snoc, ← ih (by omega)]
      have e : lay base ops (vals L) (fun _ => true) (k + 1) = match slotOf ops k with
        | some s => if true = true then (lay base ops (vals L) (fun _ => true) k).setIfInBounds s (vals L k) else lay base ops (vals L) (fun _ => true) k
        | none => lay base ops (vals L) (fun _ => true) k := rfl
      rw [e, hsl, hv]
      cases h : L[k] with
      | mk s v => cases s <;> simp
  rw [key _ (Nat.le_refl _), List.take_of_length_le (by omega)]

/-- What one operation does. -/
inductive Does (P : Program) (ops : Array Oper) (a : Act) (w : World) (o : Oper) (v : Value) (K : World → Prop) : Prop
  | value (w' : World) (hw : Region.wanted o (yielded ops a.tmps) = true) (hnd : ∀ c, o.op ≠ .defer c) (hrun : (execOp a.eval o).run P w = .ok (.value v) w') (hK : K w')
  | call (f : FuncId) (args : Array Value) (hw : Region.wanted o (yielded ops a.tmps) = true) (hnd : ∀ c, o.op ≠ .defer c) (hrun : (execOp a.eval o).run P w = .ok (.enter f args) w)
      (hc : Calls P f args w fun e w'' => e = .returned v ∧ K w'')
  | pass (hw : Region.wanted o (yielded ops a.tmps) = false) (hv : v = undef) (hK : K w)

section
variable {P : Program} {ops : Array Oper} {a : Act} {w w' : World} {o : Oper} {v : Value} {K : World → Prop}
theorem does_value (hg : o.guard = none) (hnd : ∀ c, o.op ≠ .defer c) (hrun : (execOp a.eval o).run P w = .ok (.value v) w') (hK : K w') : Does P ops a w o v K :=
  .value w' (by unfold Region.wanted; rw [hg]) hnd hrun hK
theorem does_value_g {j : Nat} {x : Bool} (hg : o.guard = some (j, x)) (hy : yielded ops a.tmps j = some x) (hnd : ∀ c, o.op ≠ .defer c) (hrun : (execOp a.eval o).run P w = .ok (.value v) w') (hK : K w') : Does P ops a w o v K :=
  .value w' (by unfold Region.wanted; rw [hg]; simp [hy]) hnd hrun hK
theorem does_call {f : FuncId} {args : Array Value} (hg : o.guard = none) (hnd : ∀ c, o.op ≠ .defer c) (hrun : (execOp a.eval o).run P w = .ok (.enter f args) w) (hc : Calls P f args w fun e w'' => e = .returned v ∧ K w'') : Does P ops a w o v K :=
  .call f args (by unfold Region.wanted; rw [hg]) hnd hrun hc
theorem does_call_g {j : Nat} {x : Bool} {f : FuncId} {args : Array Value} (hg : o.guard = some (j, x)) (hy : yielded ops a.tmps j = some x) (hnd : ∀ c, o.op ≠ .defer c) (hrun : (execOp a.eval o).run P w = .ok (.enter f args) w) (hc : Calls P f args w fun e w'' => e = .returned v ∧ K w'') : Does P ops a w o v K :=
  .call f args (by unfold Region.wanted; rw [hg]; simp [hy]) hnd hrun hc
theorem does_pass {j : Nat} {x y : Bool} (hg : o.guard = some (j, x)) (hy : yielded ops a.tmps j = some y) (hne : x ≠ y) (hv : v = undef) (hK : K w) : Does P ops a w o v K :=
  .pass (by unfold Region.wanted; rw [hg]; simp [hy]; exact fun e => hne e.symm) hv hK
theorem does_pass_none {j : Nat} {x : Bool} (hg : o.guard = some (j, x)) (hy : yielded ops a.tmps j = none) (hv : v = undef) (hK : K w) : Does P ops a w o v K :=
  .pass (by unfold Region.wanted; rw [hg]; simp [hy]) hv hK
end

/-- The region, whatever the order: St tells of the world, by what is done. -/
theorem region_laid {P : Program} {id : Nat} {ops : Array Oper} {Q : Exit → Act → World → Prop} {base : Array Value} {d : List Deferred} {w0 : World} (hm : P.follows .mixedOrders = true)
    (hdep : inRow ops = true) (m : Nat) (hsz : base.size = m) (hap : apartB ops m = true) (L : List (Option Tmp × Value)) (hL : L.map (·.1) = ops.toList.map (·.dst)) (St : (Nat → Bool) → World → Prop)
    (h0 : St (fun _ => false) w0.drew)
    (hstep : ∀ b w (i : Nat) (o : Oper) (a : Act), St b w → (∀ (j : Nat) (u : Oper), ops[j]? = some u → b j = true → ∀ e ∈ u.after.toList, Region.binds .any e = true → b e.on = true) → ops[i]? = some o → b i = false →
      (∀ e ∈ o.after.toList, Region.binds .any e = true → b e.on = true) →
      (∀ j s, slotOf ops j = some s → b j = true → a.tmps[s]?.getD undef = vals L j) → (∀ s, noneB ops s = true → a.tmps[s]?.getD undef = base.getD s undef) → (∀ j s x, slotOf ops j = some s → b j = true → vals L j = .bool x → yielded ops a.tmps j = some x) →
      Does P ops a w o (vals L i) (St (did b i)))
    (hend : ∀ b w, St b w → (∀ i, i < ops.size → b i = true) → Q .normal ⟨putAll base L, d⟩ w) :
    (Code.region id ops true).wp P Q ⟨base, d⟩ w0 := by
  subst hsz
  rw [← lay_all hL] at hend
  refine (wpIn_wide (n := 6)).1 ?_
  refine region_done hm hdep (fun b a w => a = ⟨lay base ops (vals L) b ops.size, d⟩ ∧ St b w) ⟨?_, h0⟩ ?_ ?_
  · have : ∀ n, lay base ops (vals L) (fun _ => false) n = base := by
      intro n
      induction n with
      | zero => rfl
      | succ k ih => unfold lay; split <;> simp [ih]
    rw [this]
  · rintro b a w i o ⟨rfl, hS⟩ hcl ho hb hd
    have hlt := (Array.getElem?_eq_some_iff.1 ho).1
    have hput : ∀ w', St (did b i) w' → (Act.put ⟨lay base ops (vals L) b ops.size, d⟩ o.dst (vals L i)) = ⟨lay base ops (vals L) (did b i) ops.size, d⟩ ∧ St (did b i) w' := by
      intro w' h
      refine ⟨?_, h⟩
      cases hdst : o.dst with
      | none =>
        have hsl : slotOf ops i = none := by unfold slotOf; rw [ho]; exact hdst
        rw [lay_none ops.size hsl]
        rfl
      | some s =>
        have hsl : slotOf ops i = some s := by unfold slotOf; rw [ho]; exact hdst
        obtain ⟨_, h2⟩ := apart_lt hap hsl
        rw [lay_did ops.size hsl hlt h2 hb]
        rfl
    unfold wpOpIn
    rw [ho]
    cases hstep b w i o _ hS hcl ho hb hd (fun j s h1 h2 => by rw [← Array.getD_eq_getD_getElem?]; exact lay_eval (d := d) rfl hap j s h1 h2) (fun s h => by rw [← Array.getD_eq_getD_getElem?]; exact lay_keep (d := d) s h) (fun j s x h1 h2 h3 => lay_yield rfl hap j s x h1 h2 h3) with
    | value w' hw hnd hrun hK =>
      simp only [hw, if_true]
      refine ⟨fun _ _ => trivial, ?_⟩
      rw [Oper.semAt_plain _ _ _ hnd, hrun]
      exact hput _ hK
    | call f args hw hnd hrun hc =>
      simp only [hw, if_true]
      refine ⟨fun _ _ => trivial, ?_⟩
      rw [Oper.semAt_plain _ _ _ hnd, hrun]
      refine ⟨fun h => by simp [Fence.wide] at h, ?_⟩
      refine callsIn_wide.2 (hc.mono ?_)
      rintro e w'' ⟨rfl, hK⟩
      exact hput _ hK
    | pass hw hv hK =>
      simp only [hw, Bool.false_eq_true, if_false]
      refine ⟨fun _ _ => trivial, ?_⟩
      rw [← hv]
      exact hput _ hK
  · rintro b a w ⟨rfl, hS⟩ hall
    have e : lay base ops (vals L) b ops.size = lay base ops (vals L) (fun _ => true) ops.size := by
      have : ∀ n, n ≤ ops.size → lay base ops (vals L) b n = lay base ops (vals L) (fun _ => true) n := by
        intro n
        induction n with
        | zero => intro _; rfl
        | succ k ih => intro hk; unfold lay; rw [ih (by omega), hall k (by omega)]
      exact this _ (Nat.le_refl _)
    rw [e]
    exact hend b w hS hall

/-- What one operation does, its value and the world as they come. -/
inductive Doesg (P : Program) (ops : Array Oper) (a : Act) (w : World) (o : Oper) (K : Value → World → Prop) : Prop
  | value (v : Value) (w' : World) (hw : Region.wanted o (yielded ops a.tmps) = true) (hnd : ∀ c, o.op ≠ .defer c) (hrun : (execOp a.eval o).run P w = .ok (.value v) w') (hK : K v w')
  | call (f : FuncId) (args : Array Value) (hw : Region.wanted o (yielded ops a.tmps) = true) (hnd : ∀ c, o.op ≠ .defer c) (hrun : (execOp a.eval o).run P w = .ok (.enter f args) w)
      (hc : Calls P f args w fun e w'' => ∃ v, e = .returned v ∧ K v w'')
  | skip (w' : World) (hw : Region.wanted o (yielded ops a.tmps) = true) (hnd : ∀ c, o.op ≠ .defer c) (hrun : (execOp a.eval o).run P w = .ok .skip w') (hK : K undef w')
  | pass (hw : Region.wanted o (yielded ops a.tmps) = false) (hK : K undef w)

section
variable {P : Program} {ops : Array Oper} {a : Act} {w w' : World} {o : Oper} {v : Value} {K : Value → World → Prop}
theorem doesg_value (hg : o.guard = none) (hnd : ∀ c, o.op ≠ .defer c) (hrun : (execOp a.eval o).run P w = .ok (.value v) w') (hK : K v w') : Doesg P ops a w o K :=
  .value v w' (by unfold Region.wanted; rw [hg]) hnd hrun hK
theorem doesg_skip (hg : o.guard = none) (hnd : ∀ c, o.op ≠ .defer c) (hrun : (execOp a.eval o).run P w = .ok .skip w') (hK : K undef w') : Doesg P ops a w o K :=
  .skip w' (by unfold Region.wanted; rw [hg]) hnd hrun hK
theorem doesg_call {f : FuncId} {args : Array Value} (hg : o.guard = none) (hnd : ∀ c, o.op ≠ .defer c) (hrun : (execOp a.eval o).run P w = .ok (.enter f args) w) (hc : Calls P f args w fun e w'' => ∃ v, e = .returned v ∧ K v w'') : Doesg P ops a w o K :=
  .call f args (by unfold Region.wanted; rw [hg]) hnd hrun hc
end

theorem lay_congr {base : Array Value} {ops : Array Oper} {val val' : Nat → Value} {b : Nat → Bool} (h : ∀ j, b j = true → val' j = val j) (n : Nat) : lay base ops val' b n = lay base ops val b n := by
  induction n with
  | zero => rfl
  | succ k ih =>
    unfold lay
    split
    · split
      · rename_i hb
        rw [ih, h k hb]
      · exact ih
    · exact ih

/-- The region, whatever the order, where what is yielded shows on the way: g tells it. -/
theorem region_laidg {P : Program} {id : Nat} {ops : Array Oper} {Q : Exit → Act → World → Prop} {base : Array Value} {d : List Deferred} {w0 : World} (hm : P.follows .mixedOrders = true)
    (hdep : inRow ops = true) (m : Nat) (hsz : base.size = m) (hap : apartB ops m = true) {G : Type} (g0 : G) (L : G → List (Option Tmp × Value)) (hL : ∀ g, (L g).map (·.1) = ops.toList.map (·.dst)) (St : G → (Nat → Bool) → World → Prop)
    (h0 : St g0 (fun _ => false) w0.drew)
    (hstep : ∀ g b w (i : Nat) (o : Oper) (a : Act), St g b w → (∀ (j : Nat) (u : Oper), ops[j]? = some u → b j = true → ∀ e ∈ u.after.toList, Region.binds .any e = true → b e.on = true) → ops[i]? = some o → b i = false →
      (∀ e ∈ o.after.toList, Region.binds .any e = true → b e.on = true) →
      (∀ j s, slotOf ops j = some s → b j = true → a.tmps[s]?.getD undef = vals (L g) j) → (∀ s, (∀ j, slotOf ops j = some s → b j = false) → a.tmps[s]?.getD undef = base.getD s undef) → (∀ j s x, slotOf ops j = some s → b j = true → vals (L g) j = .bool x → yielded ops a.tmps j = some x) →
      Doesg P ops a w o (fun v w' => ∃ g', (∀ j, b j = true → vals (L g') j = vals (L g) j) ∧ v = vals (L g') i ∧ St g' (did b i) w'))
    (hend : ∀ g b w, St g b w → (∀ i, i < ops.size → b i = true) → Q .normal ⟨putAll base (L g), d⟩ w) :
    (Code.region id ops true).wp P Q ⟨base, d⟩ w0 := by
  subst hsz
  refine (wpIn_wide (n := 6)).1 ?_
  refine region_done hm hdep (fun b a w => ∃ g, a = ⟨lay base ops (vals (L g)) b ops.size, d⟩ ∧ St g b w) ⟨g0, ?_, h0⟩ ?_ ?_
  · have : ∀ n, lay base ops (vals (L g0)) (fun _ => false) n = base := by
      intro n
      induction n with
      | zero => rfl
      | succ k ih => unfold lay; split <;> simp [ih]
    rw [this]
  · rintro b a w i o ⟨g, rfl, hS⟩ hcl ho hb hd
    have hlt := (Array.getElem?_eq_some_iff.1 ho).1
    have hput : ∀ v w', (∃ g', (∀ j, b j = true → vals (L g') j = vals (L g) j) ∧ v = vals (L g') i ∧ St g' (did b i) w') → ∃ g', (Act.put ⟨lay base ops (vals (L g)) b ops.size, d⟩ o.dst v) = ⟨lay base ops (vals (L g')) (did b i) ops.size, d⟩ ∧ St g' (did b i) w' := by
      rintro v w' ⟨g', hc, rfl, h⟩
      refine ⟨g', ?_, h⟩
      rw [← lay_congr hc]
      cases hdst : o.dst with
      | none =>
        have hsl : slotOf ops i = none := by unfold slotOf; rw [ho]; exact hdst
        rw [lay_none ops.size hsl]
        rfl
      | some s =>
        have hsl : slotOf ops i = some s := by unfold slotOf; rw [ho]; exact hdst
        obtain ⟨_, h2⟩ := apart_lt hap hsl
        rw [lay_did ops.size hsl hlt h2 hb]
        rfl
    unfold wpOpIn
    rw [ho]
    cases hstep g b w i o _ hS hcl ho hb hd (fun j s h1 h2 => by rw [← Array.getD_eq_getD_getElem?]; exact lay_eval (d := d) rfl hap j s h1 h2) (fun s h => by rw [lay_till h ops.size, Array.getD_eq_getD_getElem?]) (fun j s x h1 h2 h3 => lay_yield rfl hap j s x h1 h2 h3) with
    | value v w' hw hnd hrun hK =>
      simp only [hw, if_true]
      refine ⟨fun _ _ => trivial, ?_⟩
      rw [Oper.semAt_plain _ _ _ hnd, hrun]
      exact hput _ _ hK
    | call f args hw hnd hrun hc =>
      simp only [hw, if_true]
      refine ⟨fun _ _ => trivial, ?_⟩
      rw [Oper.semAt_plain _ _ _ hnd, hrun]
      refine ⟨fun h => by simp [Fence.wide] at h, ?_⟩
      refine callsIn_wide.2 (hc.mono ?_)
      rintro e w'' ⟨v, rfl, hK⟩
      exact hput _ _ hK
    | skip w' hw hnd hrun hK =>
      simp only [hw, if_true]
      refine ⟨fun _ _ => trivial, ?_⟩
      rw [Oper.semAt_plain _ _ _ hnd, hrun]
      exact hput _ _ hK
    | pass hw hK =>
      simp only [hw, Bool.false_eq_true, if_false]
      refine ⟨fun _ _ => trivial, ?_⟩
      exact hput _ _ hK
  · rintro b a w ⟨g, rfl, hS⟩ hall
    have e : lay base ops (vals (L g)) b ops.size = putAll base (L g) := by
      rw [← lay_all (hL g)]
      have : ∀ n, n ≤ ops.size → lay base ops (vals (L g)) b n = lay base ops (vals (L g)) (fun _ => true) n := by
        intro n
        induction n with
        | zero => intro _; rfl
        | succ k ih => intro hk; unfold lay; rw [ih (by omega), hall k (by omega)]
      exact this _ (Nat.le_refl _)
    rw [e]
    exact hend g b w hS hall

end Go.Proofs.Ytgpbphjplbhfmaa

namespace Go.Proofs.Ytgpbphjplbhfmaa
open Go.RowKit

theorem yielded_undef {ops : Array Oper} {tmps : Array Value} {j s : Nat} (hs : slotOf ops j = some s) (hv : tmps[s]?.getD undef = undef) : yielded ops tmps j = none := by
  unfold yielded
  have e : (ops[j]?).bind (·.dst) = some s := hs
  rw [e, Option.bind_some]
  cases h : tmps[s]? with
  | none => rfl
  | some v =>
    rw [h] at hv
    have hv' : v = undef := hv
    rw [hv']
    rfl

/-- A region of a body, by its number. -/
def regs (n : Nat) : Code → Option (Array Oper)
  | .region k ops _ => if k = n then some ops else none
  | .seq a b => match regs n a with | some x => some x | none => regs n b
  | .cond _ a b => match regs n a with | some x => some x | none => regs n b
  | .block _ b => regs n b
  | .loop b => regs n b
  | .scope b => regs n b
  | .rangeFunc _ _ a b => match regs n a with | some x => some x | none => regs n b
  | _ => none

end Go.Proofs.Ytgpbphjplbhfmaa
