/-
  The law of PathLong.
-/
import Derived.Test.YtjggnmeeeofepaaDoorKTpg

namespace Go.Proofs.YtjggnmeeeofepaaDoor.Ck.Sh
open Go.RowKit Go.Lib

attribute [local go_sem] Oper.semAt_some

theorem cutAt_flat : ∀ (r : List (List UInt8)) (x : List UInt8), (∀ y ∈ x :: r, (47 : UInt8) ∉ y) → cutAt [] (x ++ Lib.joinTail [47] r) = x :: r
  | [], x, h => by
    have : Lib.joinTail [47] [] = [] := rfl
    rw [this, List.append_nil, cutAt_none _ _ (h x (List.mem_cons_self ..)), List.nil_append]
  | y :: r, x, h => by
    have e : Lib.joinTail [47] (y :: r) = 47 :: (y ++ Lib.joinTail [47] r) := rfl
    rw [e, cutAt_part _ _ _ (h x (List.mem_cons_self ..)), List.nil_append, cutAt_flat r y fun z hz => h z (List.mem_cons_of_mem _ hz)]
theorem parse_flat (x : List UInt8) (r : List (List UInt8)) (h : ∀ y ∈ x :: r, (47 : UInt8) ∉ y) (hx : x ≠ []) : parseE (Lib.joinTail [47] (x :: r)) = if 1024 < (Lib.joinTail [47] (x :: r)).length ∨ 64 < (x :: r).length then 36 else firstE (x :: r) := by
  have e : Lib.joinTail [47] (x :: r) = 47 :: (x ++ Lib.joinTail [47] r) := rfl
  have hn : namesOf (Lib.joinTail [47] (x :: r)) = x :: r := by
    unfold namesOf
    rw [e, if_neg (fun hh => hx (List.append_eq_nil_iff.1 (List.cons.inj hh).2).1)]
    exact cutAt_flat r x h
  unfold parseE
  rw [hn, e, if_neg (fun h => h rfl)]
theorem firstE_rep (x : List UInt8) (h : nmE x = 0) : ∀ n, firstE (List.replicate n x) = 0
  | 0 => rfl
  | n + 1 => by rw [List.replicate_succ, firstE, if_pos h, firstE_rep x h n]
/-- n times the same name. -/
def nR (n : Nat) : List UInt8 := List.replicate n 110
theorem nR_succ (n : Nat) : nR (n + 1) = nR n ++ [110] := List.replicate_succ'
theorem nR_no (c : UInt8) (h : c ≠ 110) (n : Nat) : c ∉ nR n := fun hm => h (List.eq_of_mem_replicate hm)
theorem nR_len (n : Nat) : (nR n).length = n := List.length_replicate
theorem nR_name (n : Nat) (h1 : 1 ≤ n) : nameN (nR n) = if 64 < n then 36 else 0 := by
  have h0 : ¬ (nR n = [] ∨ nR n = [46] ∨ nR n = [46, 46]) := by
    obtain ⟨k, rfl⟩ : ∃ k, n = k + 1 := ⟨n - 1, by omega⟩
    unfold nR
    rw [List.replicate_succ]
    simp
  unfold nameN
  rw [if_neg (nR_no 1 (by decide) n)]
  unfold fineN
  rw [if_neg h0, if_neg (fun e => e.elim (nR_no 0 (by decide) n) (nR_no 47 (by decide) n)), nR_len]
theorem flat_rep (x : List UInt8) (n : Nat) : Lib.joinTail [47] (List.replicate (n + 1) x) = Lib.joinTail [47] (List.replicate n x) ++ 47 :: x := by
  unfold Lib.joinTail
  rw [List.replicate_succ']
  simp
theorem flat_len (x : List UInt8) : ∀ n, (Lib.joinTail [47] (List.replicate n x)).length = n * (x.length + 1)
  | 0 => by simp [Lib.joinTail]
  | n + 1 => by rw [flat_rep, List.length_append, flat_len x n, List.length_cons, Nat.add_mul]; omega
theorem long_a : parseE (47 :: nR 64) = 0 := by
  have h := parse_flat (nR 64) [] (fun y hy => by rw [List.mem_singleton.1 hy]; exact nR_no 47 (by decide) 64) (fun e => by have := nR_len 64; rw [e] at this; simp at this)
  have e : Lib.joinTail [47] [nR 64] = 47 :: nR 64 := by simp [Lib.joinTail]
  rw [e] at h
  rw [h, if_neg (by rw [List.length_cons, nR_len]; simp), firstE, if_pos (nmE_fine (by rw [nR_name 64 (by decide)]; rfl))]
  rfl
theorem long_n {n : Nat} (h1 : 64 < n) (h2 : n < 1000) : parseE (47 :: nR n) = 36 := by
  have hne : nR n ≠ [] := fun e => by
    have := nR_len n
    rw [e, List.length_nil] at this
    omega
  have h := parse_flat (nR n) [] (fun y hy => by rw [List.mem_singleton.1 hy]; exact nR_no 47 (by decide) n) hne
  have e : Lib.joinTail [47] [nR n] = 47 :: nR n := by simp [Lib.joinTail]
  have hn : nmE (nR n) = 36 := by
    have hs : splitP (nR n) = none := (splitP_of (nR n)).unique (split_none1 (nR_no 1 (by decide) n))
    unfold nmE
    rw [hs, if_neg (by simp), nR_name n (by omega), if_pos h1]
  have hl : ¬ (1024 < (47 :: nR n).length ∨ 64 < [nR n].length) := by
    rw [List.length_cons, nR_len, List.length_singleton]
    omega
  rw [e] at h
  rw [h, if_neg hl, firstE, if_neg (by rw [hn]; decide), hn]
theorem long_b : parseE (47 :: nR 65) = 36 := long_n (by decide) (by decide)
theorem rep_parse (x : List UInt8) (hx : x ≠ []) (h47 : (47 : UInt8) ∉ x) (n : Nat) (hn : 1 ≤ n) : parseE (Lib.joinTail [47] (List.replicate n x)) = if 1024 < n * (x.length + 1) ∨ 64 < n then 36 else if nmE x = 0 then 0 else firstE (List.replicate n x) := by
  obtain ⟨k, rfl⟩ : ∃ k, n = k + 1 := ⟨n - 1, by omega⟩
  have h := parse_flat x (List.replicate k x) (fun y hy => by
    rw [← List.replicate_succ] at hy
    rw [List.eq_of_mem_replicate hy]
    exact h47) hx
  rw [← List.replicate_succ, flat_len, List.length_replicate] at h
  rw [h]
  by_cases hz : nmE x = 0
  · rw [if_pos hz, firstE_rep x hz]
  · rw [if_neg hz]
theorem d_fine : nmE [100] = 0 := nmE_fine (by decide)
theorem long_c : parseE (Lib.joinTail [47] (List.replicate 64 [100])) = 0 := by
  rw [rep_parse [100] (by simp) (by decide) 64 (by decide), if_neg (by simp), if_pos d_fine]
theorem long_d : parseE (Lib.joinTail [47] (List.replicate 65 [100])) = 36 := by
  rw [rep_parse [100] (by simp) (by decide) 65 (by decide), if_pos (by simp)]
theorem long_e : parseE (Lib.joinTail [47] (List.replicate 16 (nR 63))) = 0 := by
  rw [rep_parse (nR 63) (fun e => by have := nR_len 63; rw [e] at this; simp at this) (nR_no 47 (by decide) 63) 16 (by decide), nR_len, if_neg (by simp), if_pos (nmE_fine (by rw [nR_name 63 (by decide)]; rfl))]
theorem long_f {s : List UInt8} (hl : s.length = 1024) (h : s.head? = some 47) : parseE (s ++ [47]) = 36 := by
  unfold parseE
  rw [if_neg (fun e => e (by
    cases s with
    | nil => cases h
    | cons c l => simpa using h)), if_pos (.inl (by simp [hl]))]
theorem long_g : parseE (47 :: (nR 64 ++ [1, 49, 46, 48])) = 0 := by
  have h := parse_flat (nR 64 ++ [1, 49, 46, 48]) [] (fun y hy => by
    rw [List.mem_singleton.1 hy]
    intro hm
    rcases List.mem_append.1 hm with hm | hm
    · exact nR_no 47 (by decide) 64 hm
    · exact absurd hm (by decide)) (by simp)
  have e : Lib.joinTail [47] [nR 64 ++ [1, 49, 46, 48]] = 47 :: (nR 64 ++ [1, 49, 46, 48]) := by simp [Lib.joinTail]
  have hs : splitP (nR 64 ++ [1, 49, 46, 48]) = some (nR 64, 1, 0) := by
    refine (splitP_of _).unique (r' := some (nR 64, 1, 0)) ⟨by rw [nR_name 64 (by decide)]; rfl, by decide, ?_⟩
    have e1 : itoa 1 = [49] := by rw [itoa_dec (by decide), show (1 : Int).toNat = 1 from rfl, decDigits_one (by decide)]; rfl
    have e0 : itoa 0 = [48] := by rw [itoa_dec (by decide), show (0 : Int).toNat = 0 from rfl, decDigits_one (by decide)]; rfl
    unfold sufL
    rw [e1, e0]
    rfl
  rw [e] at h
  rw [h, if_neg (by simp [nR_len]), firstE, if_pos (by unfold nmE; rw [hs]; rfl)]
  rfl

end Go.Proofs.YtjggnmeeeofepaaDoor.Ck.Sh
