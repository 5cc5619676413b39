/-
  New and Free of package bitmap.
-/
import Derived.Test.YtndefmchaohikaaDoorMcall
namespace Go.Proofs.YtndefmchaohikaaDoor
open Go.RowKit

theorem Tryd.info5 : (Tryd.prog.info? 5).map (fun i => (i.zero, i.size, i.bytes)) = some (some (.int .u8 0), 1, 1) := by kernel_rfl
theorem Tryd.infoU64 : (Tryd.prog.info? 51).map (fun i => (i.zero, i.size, i.bytes)) = some (some (.int .u64 0), 1, 8) := by kernel_rfl

theorem madeCells_one (z : Value) (n : Nat) : madeCells #[z] n = (List.replicate n z).toArray := by
  rw [← toList_madeCells_one]
/-- make of n cells of a type of one cell. -/
theorem run_make_rep (w : World) (t e : TypeId) (z : Value) (bytes : Nat) (ht : Tryd.prog.underlying t = some (.slice e)) (hi : (Tryd.prog.info? e).map (fun i => (i.zero, i.size, i.bytes)) = some (some z, 1, bytes)) (hz : z.cells = #[z]) (n : Nat) (hn : bytes * n ≤ 281474976710656) (h63 : n ≤ 9223372036854775807) :
    (Instr.makeSlice t (.int .i64 n) (.int .i64 n)).run Tryd.prog w = .ok (.slice (some ⟨w.heap.size, 0, none⟩) n n) (w.alloc (.cells (List.replicate n z).toArray e)) := by
  obtain ⟨i0, hi0, hz0, hz1, hz2⟩ := info_parts hi
  have hb : (bytes : Int) * (n : Int) ≤ 281474976710656 := by
    have h : ((bytes * n : Nat) : Int) ≤ 281474976710656 := by omega
    rwa [Int.natCast_mul] at h
  have := run_make (P := Tryd.prog) w t e i0 z ht hi0 hz0 .i64 .i64 n n (by omega) (Int.le_refl _) (by rw [hz2]; exact hb) (by omega)
  rw [this, hz1, hz, Int.toNat_natCast, Nat.mul_one, madeCells_one]

theorem used_zero (k i : Nat) : used (List.replicate k 0) i = false := by
  unfold used
  rw [List.getD, List.getElem?_replicate]
  split <;> simp

set_option maxRecDepth 8000 in
set_option maxHeartbeats 400000 in
theorem new_out (n : Int) (w : World) (h : ¬ (0 ≤ n ∧ n ≤ 65536)) : Calls Tryd.prog 7 #[.int .i64 n] w fun e w' => e = .returned (.pointer none) ∧ w' = w := by
  by_cases h1 : n < 0
  · clear h
    go_enter Tryd.func7, Tryd.ntmps7
    go_wp2
    go_ret
    exact ⟨rfl, rfl⟩
  · have h2 : 65536 < n := by omega
    clear h
    go_enter Tryd.func7, Tryd.ntmps7
    go_wp2
    go_ret
    exact ⟨rfl, rfl⟩

def newMS (s n : Nat) : MS := ⟨s + 1, s, n, (n + 63) / 64, List.replicate ((n + 63) / 64) 0⟩

set_option maxRecDepth 8000 in
set_option maxHeartbeats 400000 in
theorem new_in (n : Nat) (w : World) (hn : n ≤ 65536) (h0 : 0 < w.heap.size) : Calls Tryd.prog 7 #[.int .i64 n] w fun e w' => e = .returned (.pointer (some ⟨w.heap.size + 1, 0, none⟩)) ∧ MapAt w' (newMS w.heap.size n) ∧ Below w.heap.size w w' := by
  obtain ⟨q, hq⟩ : ∃ q, (n + 63) / 64 = q := ⟨_, rfl⟩
  have hmk := run_make_rep w 46 51 (.int .u64 0) 8 Tryd.underlying46 Tryd.infoU64 rfl q (by omega) (by omega)
  have eq : ((n : Int) + 64 - 1) / 64 = (q : Int) := by omega
  have H0 : Hid (0 < w.heap.size ∧ (n + 63) / 64 = q) := ⟨h0, hq⟩
  obtain ⟨w1, hw1⟩ : ∃ w1, w1 = w.alloc (.cells (List.replicate q (.int .u64 0)).toArray 51) := ⟨_, rfl⟩
  rw [← hw1] at hmk
  have hs1 : w1.heap.size = w.heap.size + 1 := by rw [hw1]; simp
  have H1 : Hid (w1.heap[w.heap.size]? = some (.cells (List.replicate q (.int .u64 0)).toArray 51 (0, 0)) ∧ Below w.heap.size w w1) := by
    rw [hw1]; exact ⟨heap_alloc_new w _, (below_new _ _).out⟩
  clear h0 hq hw1
  go_enter Tryd.func7, Tryd.ntmps7
  go_wp2
  go_ret
  obtain ⟨hpos, hq⟩ := H0.out
  obtain ⟨hr, hB⟩ := H1.out
  refine ⟨rfl, ⟨?_, ?_, ?_, hpos⟩, hB.trans ((below_new w1 _).out.mono (by omega))⟩
  · have := heap_alloc_new w1 (.cells #[.int .i64 n, .slice (some ⟨w.heap.size, 0, none⟩) q q] 48 (0, 0))
    rw [hs1] at this
    show _[w.heap.size + 1]? = _
    unfold newMS
    rw [List.length_replicate, hq]
    exact this
  · show RowAt _ w.heap.size (List.replicate ((n + 63) / 64) 0)
    refine ⟨_, (Below.heap_alloc w1 _ w.heap.size (by omega)).trans hr, fun j x hj => ?_⟩
    rw [hq, List.getElem?_replicate] at hj
    split at hj
    · cases hj
      simp [*]
    · cases hj
  · refine ⟨by simp [newMS], hn, fun j x hj => ?_⟩
    simp only [newMS, List.getElem?_replicate] at hj
    split at hj
    · cases hj; decide
    · cases hj

/- Free. -/

/-- How many of the first k are used. -/
def cnt (U : Nat → Bool) : Nat → Nat
  | 0 => 0
  | k + 1 => cnt U k + (U k).toNat
theorem cnt_le (U : Nat → Bool) (k : Nat) : cnt U k ≤ k := by
  induction k with
  | zero => exact Nat.le_refl _
  | succ k ih => unfold cnt; have : (U k).toNat ≤ 1 := by cases U k <;> decide
                 omega
theorem cnt_congr {U V : Nat → Bool} (k : Nat) (h : ∀ i, i < k → U i = V i) : cnt U k = cnt V k := by
  induction k with
  | zero => rfl
  | succ k ih => unfold cnt; rw [ih (fun i hi => h i (by omega)), h k (by omega)]
theorem cnt_tight {U : Nat → Bool} {n : Nat} (h : ∀ i, n ≤ i → U i = false) (k : Nat) : cnt U (n + k) = cnt U n := by
  induction k with
  | zero => rfl
  | succ k ih => show cnt U (n + k) + (U (n + k)).toNat = _; rw [ih, h _ (by omega)]; rfl
theorem cnt_word (ws : List Nat) (j k : Nat) (hk : k ≤ 64) : cnt (used ws) (64 * j + k) = cnt (used ws) (64 * j) + popN (ws.getD j 0) k := by
  induction k with
  | zero => rfl
  | succ k ih =>
    show cnt (used ws) (64 * j + k) + (used ws (64 * j + k)).toNat = _
    have hu : used ws (64 * j + k) = (ws.getD j 0).testBit k := by
      unfold used
      rw [show (64 * j + k) / 64 = j by omega, show (64 * j + k) % 64 = k by omega]
    rw [ih (by omega), hu]
    show _ = _ + (popN (ws.getD j 0) k + ((ws.getD j 0).testBit k).toNat)
    omega
theorem cnt_all {n : Nat} {ws : List Nat} (h : Fit n ws) (ht : Tight n ws) : cnt (used ws) (64 * ws.length) = cnt (used ws) n := by
  have := cnt_tight ht (64 * ws.length - n)
  rwa [show n + (64 * ws.length - n) = 64 * ws.length by rw [h.len]; omega] at this

set_option maxRecDepth 8000 in
set_option maxHeartbeats 400000 in
theorem free_nil (w : World) : Calls Tryd.prog 17 #[.pointer none] w fun e w' => e = .returned (.int .i64 0) ∧ w' = w := by
  go_enter Tryd.func17, Tryd.ntmps17
  go_wp2
  go_ret
  exact ⟨rfl, rfl⟩
set_option maxRecDepth 8000 in
set_option maxHeartbeats 400000 in
theorem free_any (m : MS) (w : World) (h : MapAt w m) (ht : Tight m.n m.ws) : Calls Tryd.prog 17 #[.pointer (some ⟨m.a, 0, none⟩)] w fun e w' => e = .returned (.int .i64 (m.n - cnt (used m.ws) m.n : Nat)) ∧ w' = w := by
  have hm : m.n ≤ 65536 := h.fit.most
  have c0 := h.c0
  have c1 := h.c1
  have hlen : m.ws.length ≤ 1024 := by rw [h.fit.len]; omega
  have hc := cnt_le (used m.ws) m.n
  have HM : Hid (MapAt w m ∧ Tight m.n m.ws) := ⟨h, ht⟩
  clear h ht
  go_enter Tryd.func17, Tryd.ntmps17
  go_wp2
  go_loop [3, 17] (fun ff ii => ∃ i : Nat, i ≤ m.ws.length ∧ ii = .int .i64 i ∧ ff = .int .i64 ((m.n : Int) - cnt (used m.ws) (64 * i) )) (fun _ ii => m.ws.length - (intOf ii).toNat)
  case atStart => exact ⟨0, Nat.zero_le _, rfl, by simp [cnt]⟩
  case round =>
    obtain ⟨i, hi, rfl, rfl⟩ := hrel
    by_cases hlt : i < m.ws.length
    · have c2 := HM.out.1.row.cell (getD_some hlt)
      have co := ones_any (m.ws.getD i 0) (HM.out.1.fit.word i) w
      have hw := cnt_word m.ws i 64 (Nat.le_refl _)
      have hp := popN_le (m.ws.getD i 0) 64
      have hcl := cnt_le (used m.ws) (64 * i)
      have hltI : (i : Int) < m.ws.length := by omega
      generalize popN (m.ws.getD i 0) 64 = p at *
      generalize m.ws.getD i 0 = x at *
      obtain ⟨c, hcc⟩ : ∃ c, cnt (used m.ws) (64 * i) = c := ⟨_, rfl⟩
      rw [hcc] at hw hcl
      rw [hcc]
      have hcb : c ≤ 65536 := by omega
      have HX : Hid (cnt (used m.ws) (64 * i + 64) = c + p) := hw
      clear hw hcl hcc
      go_wp2_with (go_at_call 28; refine Calls_on co ?_)
      go_round
      case rel =>
        refine ⟨i + 1, by omega, by go_num, ?_⟩
        rw [show 64 * (i + 1) = 64 * i + 64 by omega, HX.out, Int.natCast_add]
        congr 1
        omega
      case measure => simp [intOf]; omega
    · obtain rfl : i = m.ws.length := by omega
      have hall : Hid (cnt (used m.ws) (64 * m.ws.length) = cnt (used m.ws) m.n) := cnt_all HM.out.1.fit HM.out.2
      go_wp2
      go_ret
      refine ⟨?_, rfl⟩
      show Ending.returned (.int .i64 _) = _
      rw [hall.out, Int.natCast_sub hc]

end Go.Proofs.YtndefmchaohikaaDoor
