/-
  slices.Repeat of one function value, and what it calls.
-/
import Derived.Test.YtegjageenofbjaaGreatKbase
namespace Go.Proofs.YtegjageenofbjaaGreat.Cd
open Go.RowKit

theorem Tryz.zero60 : (Tryz.prog.info? 60).map (fun i => (i.zero, i.size, i.bytes)) = some (some .nilFunc, 1, 8) := by kernel_rfl
theorem Tryz.zero69 : (Tryz.prog.info? 69).map (fun i => (i.zero, i.size, i.bytes)) = some (some .nilFunc, 1, 8) := by kernel_rfl
theorem Tryz.size60 : (Tryz.prog.info? 60).map (·.size) = some 1 := by kernel_rfl
theorem Tryz.size69 : (Tryz.prog.info? 69).map (·.size) = some 1 := by kernel_rfl

theorem and_low (n : Nat) (hn : n < 4294967296) : bits .and .u64 (n : Int) 4294967295 = (n : Int) := by
  have := u64_and_nat n 4294967295 (by omega) (by omega)
  refine this.trans ?_
  congr 1
  have h := Nat.and_two_pow_sub_one_eq_mod n 32
  rw [show (2 ^ 32 - 1 : Nat) = 4294967295 from rfl, show (2 ^ 32 : Nat) = 4294967296 from rfl] at h
  rw [h]
  exact Nat.mod_eq_of_lt hn

set_option maxRecDepth 8000 in
set_option maxRecDepth 8000 in
set_option maxHeartbeats 400000 in
theorem mul64_one (n : Nat) (hn : n ≤ 64) (w : World) : Calls Tryz.prog 108 #[.int .u64 1, .int .u64 n] w fun e w' => e = .returned (.tuple #[.int .u64 0, .int .u64 n]) ∧ w' = w := by
  have a1 : bits .and .u64 (n : Int) 4294967295 = (n : Int) := and_low n (by omega)
  have a2 : bits .and .u64 1 4294967295 = (1 : Int) := and_low 1 (by omega)
  have a3 : (n : Int) / 4294967296 = 0 := by omega
  have a4 : bits .and .u64 0 4294967295 = (0 : Int) := and_low 0 (by omega)
  go_enter Tryz.func108, Tryz.ntmps108
  go_wp2
  go_ret2
  exact ⟨rfl, rfl⟩

set_option maxRecDepth 8000 in
set_option maxRecDepth 8000 in
set_option maxHeartbeats 400000 in
theorem mul_one (n : Nat) (hn : n ≤ 64) (w : World) : Calls Tryz.prog 95 #[.int .u64 1, .int .u64 n] w fun e w' => e = .returned (.tuple #[.int .u64 0, .int .u64 n]) ∧ w' = w := by
  have c := mul64_one n hn w
  clear hn
  go_enter Tryz.func95, Tryz.ntmps95
  go_wp2_with (go_at_call 108; refine Calls_on c ?_)
  go_ret2
  exact ⟨rfl, rfl⟩

/-- A row that is copied into. -/
theorem copy_run {P : Program} (W : World) (t e : TypeId) (hu : P.underlying t = some (.slice e)) (hs : (P.info? e).map (·.size) = some 1) (ty b off dLen dCap g o sLen sCap : Nat) (cur cs : List Value)
    (hb : W.heap[b]? = some (.cells cur.toArray e (0, 0))) (hn : cs.length = min sLen dLen) (hc : ∀ j v, cs[j]? = some v → W.cell? ⟨g, o + j, none⟩ = some v) (hfit : off + cs.length ≤ cur.length) (h1 : ∀ v ∈ cs, v.oneCell' = true) (B : Nat) (hB : B ≤ b) :
    ∃ W', (Builtin.copy_ #[t, t] ty #[.slice (some ⟨b, off, none⟩) dLen dCap, .slice (some ⟨g, o, none⟩) sLen sCap]).run P W = .ok (.int .i64 (cs.length : Int)) W' ∧
      Hid (W'.heap[b]? = some (.cells (cur.take off ++ cs ++ cur.drop (off + cs.length)).toArray e (0, 0))) ∧ Hid (Below B W W') := by
  have hr := run_copy_row (P := P) W t t ty e b off dLen dCap ⟨g, o, none⟩ sLen sCap cur.toArray e cs hu hs hb hn (fun j v hj => by rw [Addr.add_lit]; exact hc j v hj) (by simpa using hfit) h1
  refine ⟨_, hr, ?_, ?_⟩
  · show _ = _
    have := setRow_heap W b cur.toArray (cur.take off ++ cs ++ cur.drop (off + cs.length)).toArray e _ hb
    simpa using this
  · exact ⟨rfl, rfl, rfl, by simp, fun k hk => setRow_other W b k _ (by omega)⟩

/-- The first m of n. -/
def filled (f z : Value) (n m : Nat) : List Value := List.replicate m f ++ List.replicate (n - m) z
theorem filled_length (f z : Value) (n m : Nat) (h : m ≤ n) : (filled f z n m).length = n := by simp [filled]; omega
theorem filled_more (f z : Value) (n m k : Nat) (h : m + k ≤ n) : (filled f z n m).take m ++ List.replicate k f ++ (filled f z n m).drop (m + k) = filled f z n (m + k) := by
  unfold filled
  rw [List.take_append_of_le_length (by simp), List.take_of_length_le (by simp), List.drop_append, List.drop_of_length_le (by simp)]
  simp only [List.length_replicate, List.nil_append, List.drop_replicate, List.replicate_append_replicate]
  congr 2
  omega
theorem filled_cell {W : World} {b e : Nat} {f z : Value} {n m : Nat} (h : W.heap[b]? = some (.cells (filled f z n m).toArray e (0, 0))) (k : Nat) (hk : k ≤ m) : ∀ j v, (List.replicate k f)[j]? = some v → W.cell? ⟨b, 0 + j, none⟩ = some v := by
  intro j v hj
  have hlt := (List.getElem?_eq_some_iff.1 hj).1
  rw [List.length_replicate] at hlt
  rw [List.getElem?_replicate, if_pos hlt] at hj
  rw [Nat.zero_add, cellOf h, List.getElem?_toArray, filled, List.getElem?_append_left (by simp; omega), List.getElem?_replicate, if_pos (by omega), hj]

set_option maxRecDepth 8000 in
set_option maxRecDepth 8000 in
set_option maxHeartbeats 1000000 in
theorem repeatW_any (g : Nat) (f : Value) (n : Nat) (hn : n ≤ 64) (w : World) (hg : w.heap[g]? = some (.cells #[f] 60 (0, 0))) (h1 : f.oneCell' = true) :
    Calls Tryz.prog 70 #[.slice (some ⟨g, 0, none⟩) 1 1, .int .i64 n] w fun e w' => e = .returned (.slice (some ⟨w.heap.size, 0, none⟩) n n) ∧ w'.heap[w.heap.size]? = some (.cells (List.replicate n f).toArray 60 (0, 0)) ∧ Below w.heap.size w w' := by
  have c65 := mul_one n hn w
  obtain ⟨i0, hi0, hz0, hz1, hz2⟩ := info_parts Tryz.zero60
  obtain ⟨w1, hmk, hrow, hgr⟩ := run_make_full (P := Tryz.prog) w w.heap.size 82 60 i0 .nilFunc 1 Tryz.underlying82 hi0 hz0 hz1 .i64 .i64 n (by rw [hz2]; omega) (by unfold maxLen; omega) (Nat.le_refl _)
  have hB1 : Below w.heap.size w w1 := (Below.refl _ w).grown hgr (Nat.le_refl _) (by simp)
  have hb1 : w1.heap[w.heap.size]? = some (.cells (filled f .nilFunc n 0).toArray 60 (0, 0)) := by
    rw [show (Value.nilFunc).cells = #[.nilFunc] from rfl, Nat.mul_one, toList_madeCells_one] at hrow
    obtain ⟨hl, h⟩ := hrow
    rcases h with ⟨h, _⟩ | ⟨g', cap, cur, hv, _, hg', _, _, hs, ht⟩
    · cases h
    · cases hv
      have e1 : cur.toList = List.replicate n .nilFunc := by rw [← ht, List.take_of_length_le]; simp [hs]
      rw [hg', filled, show n - 0 = n from rfl, List.replicate_zero, List.nil_append, ← e1]
  have hg1 : w1.cell? ⟨g, 0, none⟩ = some f := (hB1.cell (p := ⟨g, 0, none⟩) (block_lt hg)).trans (cellOf hg 0)
  obtain ⟨m0, hm0⟩ : ∃ m0, m0 = min 1 n := ⟨_, rfl⟩
  obtain ⟨w2, hcp, H2, HB2⟩ := copy_run w1 82 60 Tryz.underlying82 Tryz.size60 3 w.heap.size 0 n n g 0 1 1 (filled f .nilFunc n 0) (List.replicate m0 f) hb1 (by simp [hm0]) (fun j v hj => by
    have hlt := (List.getElem?_eq_some_iff.1 hj).1
    rw [List.length_replicate] at hlt
    rw [List.getElem?_replicate, if_pos hlt] at hj
    obtain rfl : j = 0 := by omega
    rw [← hj]; exact hg1) (by rw [filled_length _ _ _ _ (Nat.zero_le _)]; simp; omega) (fun v hv => by rw [List.eq_of_mem_replicate hv]; exact h1) w.heap.size (Nat.le_refl _)
  have e0 := filled_more f .nilFunc n 0 m0 (by omega)
  rw [Nat.zero_add] at e0
  have H2' : Hid (w2.heap[w.heap.size]? = some (.cells (filled f .nilFunc n m0).toArray 60 (0, 0))) := by
    have := H2.out
    rw [List.length_replicate, Nat.zero_add, e0] at this
    exact this
  have HB2' : Hid (Below w.heap.size w w2) := hB1.trans HB2.out
  have HM0 : Hid (m0 ≤ n ∧ (n = 0 ∨ 0 < m0)) := ⟨by omega, by omega⟩
  rw [List.length_replicate] at hcp
  have H1 : Hid (f.oneCell' = true) := h1
  have hk0 : ¬ (n : Int) < 0 := by omega
  have hk1 : ¬ (9223372036854775807 : Int) < n := by omega
  clear hg hg1 hb1 hB1 hgr hrow H2 HB2 hm0 e0 h1 hz0 hz1 hz2 hi0 
  go_enter Tryz.func70, Tryz.ntmps70
  go_wp2_with (go_at_call 95; refine Calls_on c65 ?_)
  clear c65 hmk hcp hk0 hk1
  go_loopw [8] (fun mm wr => ∃ m : Nat, mm = .int .i64 m ∧ m ≤ n ∧ Hid (n = 0 ∨ 0 < m) ∧ Hid (wr.heap[w.heap.size]? = some (.cells (filled f .nilFunc n m).toArray 60 (0, 0))) ∧ Hid (Below w.heap.size w wr)) (fun mm _ => n - (intOf mm).toNat)
  case atStart => exact ⟨m0, rfl, HM0.out.1, HM0.out.2, H2', HB2'⟩
  case round =>
    obtain ⟨m, rfl, hm, HP, HF, HB⟩ := hrel
    by_cases hlt : m < n
    · have hltI : (m : Int) < n := by omega
      obtain ⟨k, hk⟩ : ∃ k, k = min m (n - m) := ⟨_, rfl⟩
      have hfd : wr.drew.heap[w.heap.size]? = some (.cells (filled f .nilFunc n m).toArray 60 (0, 0)) := HF.out
      obtain ⟨w3, hcp, H3, HB3⟩ := copy_run wr.drew 82 60 Tryz.underlying82 Tryz.size60 3 w.heap.size m (n - m) (n - m) w.heap.size 0 m n (filled f .nilFunc n m) (List.replicate k f) hfd (by simp [hk]) (filled_cell hfd k (by omega))
        (by rw [filled_length _ _ _ _ hm]; simp; omega) (fun v hv => by rw [List.eq_of_mem_replicate hv]; exact H1.out) w.heap.size (Nat.le_refl _)
      have HF' : Hid (w3.heap[w.heap.size]? = some (.cells (filled f .nilFunc n (m + k)).toArray 60 (0, 0))) := by
        have := H3.out
        rw [List.length_replicate, filled_more f .nilFunc n m k (by omega)] at this
        exact this
      have HB' : Hid (Below w.heap.size w w3) := HB.out.drew.trans HB3.out
      have HK : Hid (m + k ≤ n ∧ 0 < k ∧ 0 < m) := by have := HP.out; exact ⟨by omega, by omega, by omega⟩
      rw [List.length_replicate] at hcp
      have hmn : m ≠ n := by omega
      have hkb : k ≤ 64 := by omega
      clear hk H3 HB3 HF HP hfd
      go_wp2
      go_region
      go_wp2
      go_roundw
      case rel => exact ⟨m + k, by go_num, HK.out.1, .inr (by have := HK.out; omega), HF', HB'⟩
      case measure => have := HK.out; simp [intOf]; omega
    · obtain rfl : m = n := by omega
      have hge : ¬ (m : Int) < m := by omega
      clear hlt
      go_wp2
      go_ret
      refine ⟨rfl, ?_, HB.out⟩
      have := HF.out
      unfold filled at this
      rw [Nat.sub_self] at this
      simpa using this

set_option maxRecDepth 8000 in
set_option maxRecDepth 8000 in
set_option maxHeartbeats 1000000 in
theorem repeatR_any (g : Nat) (f : Value) (n : Nat) (hn : n ≤ 64) (w : World) (hg : w.heap[g]? = some (.cells #[f] 69 (0, 0))) (h1 : f.oneCell' = true) :
    Calls Tryz.prog 87 #[.slice (some ⟨g, 0, none⟩) 1 1, .int .i64 n] w fun e w' => e = .returned (.slice (some ⟨w.heap.size, 0, none⟩) n n) ∧ w'.heap[w.heap.size]? = some (.cells (List.replicate n f).toArray 69 (0, 0)) ∧ Below w.heap.size w w' := by
  have c65 := mul_one n hn w
  obtain ⟨i0, hi0, hz0, hz1, hz2⟩ := info_parts Tryz.zero69
  obtain ⟨w1, hmk, hrow, hgr⟩ := run_make_full (P := Tryz.prog) w w.heap.size 95 69 i0 .nilFunc 1 Tryz.underlying95 hi0 hz0 hz1 .i64 .i64 n (by rw [hz2]; omega) (by unfold maxLen; omega) (Nat.le_refl _)
  have hB1 : Below w.heap.size w w1 := (Below.refl _ w).grown hgr (Nat.le_refl _) (by simp)
  have hb1 : w1.heap[w.heap.size]? = some (.cells (filled f .nilFunc n 0).toArray 69 (0, 0)) := by
    rw [show (Value.nilFunc).cells = #[.nilFunc] from rfl, Nat.mul_one, toList_madeCells_one] at hrow
    obtain ⟨hl, h⟩ := hrow
    rcases h with ⟨h, _⟩ | ⟨g', cap, cur, hv, _, hg', _, _, hs, ht⟩
    · cases h
    · cases hv
      have e1 : cur.toList = List.replicate n .nilFunc := by rw [← ht, List.take_of_length_le]; simp [hs]
      rw [hg', filled, show n - 0 = n from rfl, List.replicate_zero, List.nil_append, ← e1]
  have hg1 : w1.cell? ⟨g, 0, none⟩ = some f := (hB1.cell (p := ⟨g, 0, none⟩) (block_lt hg)).trans (cellOf hg 0)
  obtain ⟨m0, hm0⟩ : ∃ m0, m0 = min 1 n := ⟨_, rfl⟩
  obtain ⟨w2, hcp, H2, HB2⟩ := copy_run w1 95 69 Tryz.underlying95 Tryz.size69 3 w.heap.size 0 n n g 0 1 1 (filled f .nilFunc n 0) (List.replicate m0 f) hb1 (by simp [hm0]) (fun j v hj => by
    have hlt := (List.getElem?_eq_some_iff.1 hj).1
    rw [List.length_replicate] at hlt
    rw [List.getElem?_replicate, if_pos hlt] at hj
    obtain rfl : j = 0 := by omega
    rw [← hj]; exact hg1) (by rw [filled_length _ _ _ _ (Nat.zero_le _)]; simp; omega) (fun v hv => by rw [List.eq_of_mem_replicate hv]; exact h1) w.heap.size (Nat.le_refl _)
  have e0 := filled_more f .nilFunc n 0 m0 (by omega)
  rw [Nat.zero_add] at e0
  have H2' : Hid (w2.heap[w.heap.size]? = some (.cells (filled f .nilFunc n m0).toArray 69 (0, 0))) := by
    have := H2.out
    rw [List.length_replicate, Nat.zero_add, e0] at this
    exact this
  have HB2' : Hid (Below w.heap.size w w2) := hB1.trans HB2.out
  have HM0 : Hid (m0 ≤ n ∧ (n = 0 ∨ 0 < m0)) := ⟨by omega, by omega⟩
  rw [List.length_replicate] at hcp
  have H1 : Hid (f.oneCell' = true) := h1
  have hk0 : ¬ (n : Int) < 0 := by omega
  have hk1 : ¬ (9223372036854775807 : Int) < n := by omega
  clear hg hg1 hb1 hB1 hgr hrow H2 HB2 hm0 e0 h1 hz0 hz1 hz2 hi0 
  go_enter Tryz.func87, Tryz.ntmps87
  go_wp2_with (go_at_call 95; refine Calls_on c65 ?_)
  clear c65 hmk hcp hk0 hk1
  go_loopw [8] (fun mm wr => ∃ m : Nat, mm = .int .i64 m ∧ m ≤ n ∧ Hid (n = 0 ∨ 0 < m) ∧ Hid (wr.heap[w.heap.size]? = some (.cells (filled f .nilFunc n m).toArray 69 (0, 0))) ∧ Hid (Below w.heap.size w wr)) (fun mm _ => n - (intOf mm).toNat)
  case atStart => exact ⟨m0, rfl, HM0.out.1, HM0.out.2, H2', HB2'⟩
  case round =>
    obtain ⟨m, rfl, hm, HP, HF, HB⟩ := hrel
    by_cases hlt : m < n
    · have hltI : (m : Int) < n := by omega
      obtain ⟨k, hk⟩ : ∃ k, k = min m (n - m) := ⟨_, rfl⟩
      have hfd : wr.drew.heap[w.heap.size]? = some (.cells (filled f .nilFunc n m).toArray 69 (0, 0)) := HF.out
      obtain ⟨w3, hcp, H3, HB3⟩ := copy_run wr.drew 95 69 Tryz.underlying95 Tryz.size69 3 w.heap.size m (n - m) (n - m) w.heap.size 0 m n (filled f .nilFunc n m) (List.replicate k f) hfd (by simp [hk]) (filled_cell hfd k (by omega))
        (by rw [filled_length _ _ _ _ hm]; simp; omega) (fun v hv => by rw [List.eq_of_mem_replicate hv]; exact H1.out) w.heap.size (Nat.le_refl _)
      have HF' : Hid (w3.heap[w.heap.size]? = some (.cells (filled f .nilFunc n (m + k)).toArray 69 (0, 0))) := by
        have := H3.out
        rw [List.length_replicate, filled_more f .nilFunc n m k (by omega)] at this
        exact this
      have HB' : Hid (Below w.heap.size w w3) := HB.out.drew.trans HB3.out
      have HK : Hid (m + k ≤ n ∧ 0 < k ∧ 0 < m) := by have := HP.out; exact ⟨by omega, by omega, by omega⟩
      rw [List.length_replicate] at hcp
      have hmn : m ≠ n := by omega
      have hkb : k ≤ 64 := by omega
      clear hk H3 HB3 HF HP hfd
      go_wp2
      go_region
      go_wp2
      go_roundw
      case rel => exact ⟨m + k, by go_num, HK.out.1, .inr (by have := HK.out; omega), HF', HB'⟩
      case measure => have := HK.out; simp [intOf]; omega
    · obtain rfl : m = n := by omega
      have hge : ¬ (m : Int) < m := by omega
      clear hlt
      go_wp2
      go_ret
      refine ⟨rfl, ?_, HB.out⟩
      have := HF.out
      unfold filled at this
      rw [Nat.sub_self] at this
      simpa using this

end Go.Proofs.YtegjageenofbjaaGreat.Cd
