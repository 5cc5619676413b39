/-
  Paths as texts: their pieces, and which may be: of lists of bytes alone.
-/
import Derived.Test.YtjggnmeeeofepaaDoorKAb
import Derived.Lib.SplitLaws
import Derived.Lib.Join

namespace Go.Proofs.YtjggnmeeeofepaaDoor.Ck.Sh
open Go.RowKit Go.Lib

/-- What stands between the '/', the first piece begun by cur. -/
def cutAt (cur : List UInt8) : List UInt8 → List (List UInt8)
  | [] => [cur]
  | c :: l => if c = 47 then cur :: cutAt [] l else cutAt (cur ++ [c]) l
theorem cutAt_nil (cur : List UInt8) : cutAt cur [] = [cur] := rfl
theorem cutAt_sl (cur l : List UInt8) : cutAt cur (47 :: l) = cur :: cutAt [] l := by rw [cutAt, if_pos rfl]
theorem cutAt_no (cur l : List UInt8) {c : UInt8} (h : c ≠ 47) : cutAt cur (c :: l) = cutAt (cur ++ [c]) l := by rw [cutAt, if_neg h]
theorem cutAt_none : ∀ (l cur : List UInt8), (47 : UInt8) ∉ l → cutAt cur l = [cur ++ l]
  | [], cur, _ => by rw [cutAt_nil, List.append_nil]
  | c :: l, cur, h => by
    rw [cutAt_no _ _ (fun e => h (by rw [e]; exact List.mem_cons_self ..)), cutAt_none l _ (fun e => h (List.mem_cons_of_mem _ e))]
    simp
theorem cutAt_part : ∀ (a cur b : List UInt8), (47 : UInt8) ∉ a → cutAt cur (a ++ 47 :: b) = (cur ++ a) :: cutAt [] b
  | [], cur, b, _ => by rw [List.nil_append, cutAt_sl, List.append_nil]
  | c :: a, cur, b, h => by
    rw [List.cons_append, cutAt_no _ _ (fun e => h (by rw [e]; exact List.mem_cons_self ..)), cutAt_part a _ b (fun e => h (List.mem_cons_of_mem _ e))]
    simp
theorem cutAt_len : ∀ (l cur : List UInt8), (cutAt cur l).length = l.count 47 + 1
  | [], _ => rfl
  | c :: l, cur => by
    by_cases h : c = 47
    · subst h
      rw [cutAt_sl, List.length_cons, cutAt_len l, List.count_cons_self]
    · rw [cutAt_no _ _ h, cutAt_len l, List.count_cons_of_ne h]
theorem cutAt_ne (cur l : List UInt8) : cutAt cur l ≠ [] := fun e => by
  have := cutAt_len l cur
  rw [e] at this
  simp at this
theorem splitK_cut : ∀ (n : Nat) (s : List UInt8), s.length ≤ n → splitK [47] 0 (s.count 47) s = cutAt [] s
  | n, s, hn => by
    rcases Int.lt_or_le (Lib.index s [47]) 0 with h | h
    · have h1 : Lib.index s [47] = -1 := by
        have := Lib.index_ge s [47]
        omega
      have hno : (47 : UInt8) ∉ s := fun hm => by
        rw [Lib.index_one] at h1
        obtain ⟨k, hk⟩ := List.getElem?_of_mem hm
        exact Lib.indexByte_none h1 k hk
      rw [List.count_eq_zero.2 hno, cutAt_none _ _ hno]
      rfl
    · obtain ⟨i, hi⟩ : ∃ i : Nat, Lib.index s [47] = i := ⟨(Lib.index s [47]).toNat, by omega⟩
      rw [Lib.index_one] at hi
      obtain ⟨hc, hb⟩ := Lib.indexByte_some hi
      have hil := (List.getElem?_eq_some_iff.1 hc).1
      have hpart : s = s.take i ++ 47 :: s.drop (i + 1) := by
        obtain ⟨hl, he⟩ := List.getElem?_eq_some_iff.1 hc
        rw [← he, ← List.drop_eq_getElem_cons hl, List.take_append_drop]
      have hno : (47 : UInt8) ∉ s.take i := fun hm => by
        obtain ⟨k, hk⟩ := List.getElem?_of_mem hm
        have hkl := (List.getElem?_eq_some_iff.1 hk).1
        have hki : k < i := by simp at hkl; omega
        rw [List.getElem?_take_of_lt hki] at hk
        exact hb k hki hk
      have hcount : s.count 47 = (s.drop (i + 1)).count 47 + 1 := by
        conv => lhs; rw [hpart]
        rw [List.count_append, List.count_eq_zero.2 hno, List.count_cons_self]
        omega
      have hidx : Lib.index s [47] = (i : Int) := by rw [Lib.index_one]; exact hi
      have hne : ¬ (Lib.index s [47] == -1) = true := by rw [hidx]; simp
      have hto : (Lib.index s [47]).toNat = i := by omega
      rw [hcount, splitK, if_neg hne, hto]
      conv => rhs; rw [hpart]
      rw [cutAt_part _ _ _ hno]
      match n, hn with
      | 0, hn => omega
      | n + 1, hn =>
        have := splitK_cut n (s.drop (i + 1)) (by simp; omega)
        rw [show i + [(47 : UInt8)].length = i + 1 from rfl, this]
        rfl
theorem split_cut (s : List UInt8) : splitK [47] 0 (s.count 47) s = cutAt [] s := splitK_cut _ s (Nat.le_refl _)
theorem cutAt_join : ∀ (l cur : List UInt8), Lib.joinTail [47] (cutAt cur l) = 47 :: (cur ++ l)
  | [], cur => by simp [cutAt, Lib.joinTail]
  | c :: l, cur => by
    by_cases h : c = 47
    · subst h
      rw [cutAt_sl]
      have := cutAt_join l []
      unfold Lib.joinTail at this ⊢
      rw [List.map_cons, List.flatten_cons, this]
      simp
    · rw [cutAt_no _ _ h, cutAt_join l]
      simp
theorem cutAt_mem : ∀ (l cur : List UInt8), ∀ x ∈ cutAt cur l, x.length ≤ cur.length + l.length
  | [], cur, x, hx => by
    rw [cutAt_nil] at hx
    rw [List.mem_singleton.1 hx]
    omega
  | c :: l, cur, x, hx => by
    by_cases h : c = 47
    · subst h
      rw [cutAt_sl] at hx
      rcases List.mem_cons.1 hx with rfl | hx
      · omega
      · have := cutAt_mem l [] x hx
        simp at this ⊢
        omega
    · rw [cutAt_no _ _ h] at hx
      have := cutAt_mem l _ x hx
      simp at this ⊢
      omega

/-- The names of a path, and which paths may be. -/
def namesOf (s : List UInt8) : List (List UInt8) := if s = [47] then [] else cutAt [] (s.drop 1)
def nmE (nm : List UInt8) : Int := if (splitP nm).isSome = true then 0 else nameN nm
def firstE : List (List UInt8) → Int
  | [] => 0
  | nm :: r => if nmE nm = 0 then firstE r else nmE nm
def parseE (s : List UInt8) : Int := if s.head? ≠ some 47 then 22 else if 1024 < s.length ∨ 64 < (namesOf s).length then 36 else firstE (namesOf s)
def nmsOf (s : List UInt8) : List (List UInt8) := if parseE s = 0 then namesOf s else []
/-- A path as a text. -/
def pathL (names : List (List UInt8)) : List UInt8 := if names = [] then [47] else Lib.joinTail [47] names
theorem path_join (names : List (List UInt8)) : pathL names = 47 :: Lib.join names [47] := by
  unfold pathL
  cases names with
  | nil => rfl
  | cons x r =>
    rw [if_neg (by simp), Lib.join_cons]
    unfold Lib.joinTail
    simp
theorem path_names {s : List UInt8} (h : s.head? = some 47) : pathL (namesOf s) = s := by
  cases s with
  | nil => cases h
  | cons c l =>
    have hc : c = 47 := by simpa using h
    subst hc
    unfold pathL namesOf
    by_cases hl : l = []
    · subst hl
      rfl
    · have hne : ¬ ((47 : UInt8) :: l) = [47] := fun e => hl (by simpa using e)
      rw [if_neg hne, if_neg (cutAt_ne _ _), cutAt_join]
      rfl
theorem path_parse {s : List UInt8} (h : parseE s = 0) : pathL (nmsOf s) = s := by
  have e : nmsOf s = namesOf s := by unfold nmsOf; rw [if_pos h]
  rw [e]
  refine path_names ?_
  by_cases hh : s.head? = some 47
  · exact hh
  · unfold parseE at h
    rw [if_pos hh] at h
    exact absurd h (by decide)
theorem namesOf_mem (s : List UInt8) : ∀ x ∈ namesOf s, x.length ≤ s.length := fun x hx => by
  unfold namesOf at hx
  split at hx
  · cases hx
  · have := cutAt_mem _ _ x hx
    simp at this
    omega
theorem firstE_take : ∀ (l : List (List UInt8)) (i : Nat), (∀ j x, j < i → l[j]? = some x → nmE x = 0) → firstE l = firstE (l.drop i)
  | _, 0, _ => rfl
  | [], i + 1, _ => by simp
  | x :: l, i + 1, h => by
    have h0 := h 0 x (by omega) rfl
    rw [firstE, if_pos h0, List.drop_succ_cons]
    exact firstE_take l i fun j y hj hy => h (j + 1) y (by omega) (by simpa using hy)
theorem firstE_at {l : List (List UInt8)} {i : Nat} {x : List UInt8} (h : ∀ j x, j < i → l[j]? = some x → nmE x = 0) (hx : l[i]? = some x) (hn : nmE x ≠ 0) : firstE l = nmE x := by
  rw [firstE_take l i h]
  obtain ⟨hl, he⟩ := List.getElem?_eq_some_iff.1 hx
  rw [List.drop_eq_getElem_cons hl, he, firstE, if_neg hn]
theorem firstE_all {l : List (List UInt8)} (h : ∀ j x, j < l.length → l[j]? = some x → nmE x = 0) : firstE l = 0 := by
  rw [firstE_take l l.length h, List.drop_length]
  rfl

end Go.Proofs.YtjggnmeeeofepaaDoor.Ck.Sh
