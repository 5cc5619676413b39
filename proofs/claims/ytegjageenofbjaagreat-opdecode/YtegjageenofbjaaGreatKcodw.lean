/-
  What is written is what the document says, and is read again: as functions of lists of bytes.
-/
import Derived.Test.YtegjageenofbjaaGreatKestr
import Derived.Test.YtegjageenofbjaaGreatKrstr
import Derived.Test.YtegjageenofbjaaGreatKqstr
namespace Go.Proofs.YtegjageenofbjaaGreat.Cd

theorem atOf_in (ns : List Int) (k : Nat) (x : Int) (h : ns[k]? = some x) (hx : okN x = true) : atOf ns k = x := by
  unfold atOf; rw [h]; simp [hx]
theorem allOf_get (ns : List Int) (n k : Nat) (h : k < n) : (allOf ns n)[k]? = some (atOf ns k) := by
  unfold allOf
  rw [List.getElem?_map, List.getElem?_range h]
  rfl
theorem tl_stop (ns : List Int) (m : Nat) (hm : m = 0 ∨ ∃ x, ns[m - 1]? = some x ∧ x ≠ 0) : ∀ k, m ≤ k → (∀ j, m ≤ j → j < k → ns[j]? = some 0) → tl ns k = m
  | 0, h, _ => by have : m = 0 := by omega
                  subst this; rfl
  | k + 1, h, hz => by
    by_cases hk : m = k + 1
    · subst hk
      rw [tl, if_neg]
      rcases hm with h | ⟨x, hx, hne⟩
      · omega
      · rw [show k = k + 1 - 1 from rfl, hx]; intro e; cases e; exact hne rfl
    · rw [tl, if_pos (hz k (by omega) (by omega))]
      exact tl_stop ns m hm k (by omega) (fun j h1 h2 => hz j h1 (by omega))
/-- What was written, and more; none: it cannot be. -/
def app (o s : St) : St := match o with
  | some e => s.map (· ++ e)
  | none => none

theorem w_num (n : Int) (s : St) : wnum n 4611686018427387904 s = app (eNum n) s := by
  unfold wnum eNum
  split
  · rfl
  · rfl
theorem w_truth (b : Bool) (s : St) : wnum (if b then 1 else 0) 4611686018427387904 s = app (some (numB (if b then 1 else 0))) s := by
  cases b
  · rfl
  · rfl
theorem w_bytes (cs : List (BitVec 8)) (s : St) : wbytes cs s = app (eBytes cs) s := by
  unfold wbytes wnum eBytes
  by_cases h : cs.length ≤ 65536
  · rw [if_pos (by omega), if_pos h]
    cases s with
    | none => rfl
    | some bs => simp [app]
  · rw [if_neg (by omega), if_neg h]; rfl
theorem wnum_none (n most : Int) : wnum n most none = none := by unfold wnum; split <;> rfl
theorem w_id (t n : Int) (s : St) : wid t n s = app (eID t n) s := by
  unfold wid eID
  by_cases h1 : 0 ≤ t ∧ t ≤ 1152921504606846976
  · by_cases h2 : 0 ≤ n ∧ n < 64
    · rw [if_pos ⟨h1.1, h1.2, h2.1, h2.2⟩]
      unfold wnum
      rw [if_pos h1, if_pos ⟨h2.1, by omega⟩]
      cases s with
      | none => rfl
      | some bs => simp [app]
    · rw [if_neg (fun h => h2 ⟨h.2.2.1, h.2.2.2⟩)]
      show wnum n 63 _ = _
      unfold wnum
      rw [if_neg (fun h => h2 ⟨h.1, by omega⟩)]
      rfl
  · rw [if_neg (fun h => h1 ⟨h.1, h.2.1⟩)]
    have : wnum t 1152921504606846976 s = none := by unfold wnum; rw [if_neg h1]
    rw [this, wnum_none]
    rfl
theorem wnums_all (l : List Int) : ∀ s : St, wnums (l.map fun n => ⟨n, 71, 1152921504606846976⟩) s = if l.all okN = true then s.map (· ++ numsB l) else none := by
  induction l with
  | nil => intro s; cases s <;> simp [wnums, numsB]
  | cons x l ih =>
    intro s
    rw [List.map_cons, wnums, ih]
    by_cases hx : okN x = true
    · have h1 : 0 ≤ x ∧ x ≤ 1152921504606846976 := by unfold okN at hx; simpa using hx
      have e1 : wnum x 1152921504606846976 s = s.map (· ++ numB x.toNat) := by unfold wnum; rw [if_pos h1]
      simp only [e1]
      by_cases hl : l.all okN = true
      · rw [if_pos hl, if_pos (by simp [hx]; simpa using hl)]
        cases s with
        | none => rfl
        | some bs => simp [numsB]
      · rw [if_neg hl, if_neg (by simp [hx]; simpa using hl)]
    · have h1 : ¬ (0 ≤ x ∧ x ≤ 1152921504606846976) := by unfold okN at hx; simpa using hx
      have e1 : wnum x 1152921504606846976 s = none := by unfold wnum; rw [if_neg h1]
      simp only [e1]
      rw [if_neg (c := (x :: l).all okN = true) (by simp [hx])]
      split <;> rfl

theorem tl_last (ns : List Int) : ∀ k, tl ns k = 0 ∨ ns[tl ns k - 1]? ≠ some 0
  | 0 => .inl rfl
  | k + 1 => by
    rw [tl]
    split
    · exact tl_last ns k
    · right; assumption
theorem norm_take (ns : List Int) (h : mayB ns = true) : normOf ns = ns.take (tl ns ns.length) := by
  unfold mayB at h
  rw [Bool.and_eq_true, decide_eq_true_eq, List.all_eq_true] at h
  obtain ⟨h1, h2⟩ := h
  have hle := tl_le ns ns.length
  obtain ⟨k, hk⟩ : ∃ k, tl ns ns.length = k := ⟨_, rfl⟩
  have hzero := fun j => tl_zero ns ns.length j
  rw [hk] at h1 h2 hle hzero ⊢
  have hA : ∀ j, j < k → (allOf ns 64)[j]? = ns[j]? := fun j hj => by
    have hjl : j < ns.length := by omega
    rw [allOf_get ns 64 j (by omega), List.getElem?_eq_getElem hjl, atOf_in ns j ns[j] (List.getElem?_eq_getElem hjl) (h2 _ (by
      rw [List.mem_iff_getElem?]; exact ⟨j, by rw [List.getElem?_take, if_pos hj, List.getElem?_eq_getElem hjl]⟩))]
  have hz : ∀ j, k ≤ j → j < 64 → (allOf ns 64)[j]? = some 0 := fun j g1 g2 => by
    rw [allOf_get ns 64 j g2]
    unfold atOf
    by_cases hjl : j < ns.length
    · rw [hzero j g1 hjl]; rfl
    · rw [List.getElem?_eq_none (by omega)]
  have hlast : k = 0 ∨ ∃ x, ns[k - 1]? = some x ∧ x ≠ 0 := by
    rcases Nat.eq_zero_or_pos k with h0 | h0
    · exact .inl h0
    · right
      refine ⟨ns[k - 1], List.getElem?_eq_getElem (by omega), fun e => ?_⟩
      rcases tl_last ns ns.length with h | h
      · omega
      · rw [hk, List.getElem?_eq_getElem (by omega), e] at h
        exact h rfl
  have ht : tl (allOf ns 64) 64 = k := tl_stop _ _ (by
    rcases hlast with h0 | ⟨x, hx, hne⟩
    · exact .inl h0
    · by_cases h0 : k = 0
      · exact .inl h0
      · exact .inr ⟨x, by rw [hA _ (by omega)]; exact hx, hne⟩) 64 h1 hz
  unfold normOf
  rw [ht]
  apply List.ext_getElem?
  intro j
  rw [List.getElem?_take, List.getElem?_take]
  split
  · exact hA j (by assumption)
  · rfl

theorem norm_last (ns : List Int) : (normOf ns).getLast? ≠ some 0 := by
  intro h
  unfold normOf at h
  have hl := tl_le (allOf ns 64) 64
  rcases tl_last (allOf ns 64) 64 with h0 | h0
  · rw [h0] at h; cases h
  · rw [List.getLast?_eq_getElem?, List.length_take, allOf_length, Nat.min_eq_left hl, List.getElem?_take] at h
    split at h
    · exact h0 h
    · cases h

theorem w_vec (ns : List Int) (s : St) : wvec ns s = app (eVec ns) s := by
  unfold wvec eVec
  have hmay : mayB ns = (decide (tl ns ns.length ≤ 64) && (ns.take (tl ns ns.length)).all okN) := rfl
  by_cases h64 : 64 < tl ns ns.length
  · rw [if_pos h64, if_neg (by rw [hmay, decide_eq_false (by omega)]; simp)]; rfl
  · rw [if_neg h64, wnums_all]
    have hk := tl_le ns ns.length
    have e1 : wnum (tl ns ns.length) 4611686018427387904 s = s.map (· ++ numB (tl ns ns.length)) := by
      unfold wnum; rw [if_pos (by omega)]; rfl
    rw [e1]
    by_cases ha : (ns.take (tl ns ns.length)).all okN = true
    · have hm : mayB ns = true := by rw [hmay, ha, decide_eq_true (by omega)]; rfl
      rw [if_pos ha, if_pos hm, norm_take ns hm]
      have hl : (ns.take (tl ns ns.length)).length = tl ns ns.length := by simp; omega
      rw [hl]
      cases s with
      | none => rfl
      | some bs => simp [app]
    · rw [if_neg ha, if_neg (by rw [hmay, show (ns.take (tl ns ns.length)).all okN = false by simpa using ha]; simp)]; rfl

theorem skip_num (n : Int) (e rest : List (BitVec 8)) (h : eNum n = some e) : (rnum 4611686018427387904 (some (e ++ rest))).2 = some rest := by
  unfold eNum at h
  split at h
  · cases h
    rw [rnum_numB rest (by omega) (Nat.le_refl _)]
  · cases h
theorem skip_bytes (cs e rest : List (BitVec 8)) (h : eBytes cs = some e) : (rbytes (some (e ++ rest))).2 = some rest := by
  unfold eBytes at h
  split at h
  · cases h
    rename_i hl
    unfold rbytes
    rw [List.append_assoc, rnum_numB (cs ++ rest) hl (by decide)]
    simp only
    rw [if_neg (by simp)]
    simp
  · cases h
theorem skip_truth (b : Bool) (rest : List (BitVec 8)) : (rtruth (some (numB (if b then 1 else 0) ++ rest))).2 = some rest := by
  unfold rtruth
  rw [rnum_numB rest (by cases b <;> decide) (by decide)]
theorem skip_id (t n : Int) (e rest : List (BitVec 8)) (h : eID t n = some e) : (rid (some (e ++ rest))).2 = some rest := by
  unfold eID at h
  split at h
  · cases h
    unfold rid
    rw [List.append_assoc, rnum_numB (numB n.toNat ++ rest) (by omega) (by decide)]
    simp only
    rw [rnum_numB rest (by omega) (by decide)]
  · cases h
theorem rnums_numsB (rest : List (BitVec 8)) : ∀ (zs : List Int), (∀ x ∈ zs, okN x = true) → rnums 1152921504606846976 zs.length (some (numsB zs ++ rest)) = (zs.map Int.toNat, some rest)
  | [], _ => rfl
  | x :: l, h => by
    have h1 := h x (List.mem_cons_self ..)
    have h2 : 0 ≤ x ∧ x ≤ 1152921504606846976 := by unfold okN at h1; simpa using h1
    have e1 : numsB (x :: l) ++ rest = numB x.toNat ++ (numsB l ++ rest) := by simp [numsB]
    rw [List.length_cons, rnums, e1, rnum_numB _ (by omega) (by decide)]
    simp only
    rw [rnums_numsB rest l (fun y hy => h y (List.mem_cons_of_mem _ hy))]
    rfl
theorem skip_vec (ns : List Int) (e rest : List (BitVec 8)) (h : eVec ns = some e) : (rvec (some (e ++ rest))).2 = some rest := by
  unfold eVec at h
  split at h
  · cases h
    unfold rvec
    have hle := normOf_le ns
    have hok := normOf_ok ns
    have hlast := norm_last ns
    rw [List.append_assoc, rnum_numB (numsB (normOf ns) ++ rest) hle (by decide)]
    simp only
    rw [rnums_numsB rest (normOf ns) hok]
    simp only
    rw [if_neg]
    rw [List.getLast?_map]
    intro hz
    obtain ⟨y, hy, he⟩ := Option.map_eq_some_iff.1 hz
    have hoky := hok y (List.mem_of_getLast? hy)
    have h2 : 0 ≤ y ∧ y ≤ 1152921504606846976 := by unfold okN at hoky; simpa using hoky
    have : y = 0 := by omega
    rw [this] at hy
    exact hlast hy
  · cases h

end Go.Proofs.YtegjageenofbjaaGreat.Cd
