/-
  Names that are apart, and whose they are: of lists alone; rows of IDs.
-/
import Derived.Test.YtjajbhpcjickbaaDoorKAn

namespace Go.Proofs.YtjajbhpcjickbaaDoor.Ck.Sh
open Go.RowKit Go.Lib Go.Maps

/-- IDs that are apart, and names. -/
structure AP (a : List (Int × Int)) (b : List (List UInt8)) : Prop where
  len : a.length = b.length
  val : ∀ x ∈ a, validB x.1 x.2 = true
  nam : ∀ x ∈ b, nameN x = 0
  dif : a.Nodup
theorem AP.nil : AP [] [] := ⟨rfl, fun _ h => by simp at h, fun _ h => by simp at h, List.nodup_nil⟩
theorem AP.add {a : List (Int × Int)} {b : List (List UInt8)} (h : AP a b) {x : Int × Int} {y : List UInt8} (hx : validB x.1 x.2 = true) (hy : nameN y = 0) (hn : x ∉ a) : AP (a ++ [x]) (b ++ [y]) := by
  refine ⟨by simp [h.len], fun z hz => ?_, fun z hz => ?_, ?_⟩
  · rcases List.mem_append.1 hz with h1 | h1
    · exact h.val z h1
    · rw [List.mem_singleton.1 h1]; exact hx
  · rcases List.mem_append.1 hz with h1 | h1
    · exact h.nam z h1
    · rw [List.mem_singleton.1 h1]; exact hy
  · rw [List.nodup_append]
    refine ⟨h.dif, by simp, fun u hu v hv => ?_⟩
    rw [List.mem_singleton.1 hv]
    intro e
    rw [e] at hu
    exact hn hu
theorem AP.valAt {a : List (Int × Int)} {b : List (List UInt8)} (h : AP a b) {i : Nat} (hi : i < a.length) : validB (idA a i).1 (idA a i).2 = true := h.val _ (List.mem_of_getElem? (idA_of hi))
theorem AP.namAt {a : List (Int × Int)} {b : List (List UInt8)} (h : AP a b) {i : Nat} (hi : i < a.length) : nameN (nmA b i) = 0 := h.nam _ (List.mem_of_getElem? (nmA_of (by rw [← h.len]; exact hi)))
theorem AP.difAt {a : List (Int × Int)} {b : List (List UInt8)} (h : AP a b) {i k : Nat} (hi : i < a.length) (hk : k < a.length) (e : idA a i = idA a k) : i = k := by
  have h1 := idA_of hi
  have h2 := idA_of hk
  rw [e] at h1
  exact (List.getElem?_inj hi h.dif).1 (h1.trans h2.symm)
theorem name_len {l : List UInt8} (h : nameN l = 0) : l.length ≤ 64 := by
  unfold nameN fineN at h
  split at h
  · cases h
  · split at h
    · cases h
    · split at h
      · cases h
      · split at h
        · cases h
        · omega
theorem shown_kept {a : List (Int × Int)} {b : List (List UInt8)} {n i : Nat} (h : keptB a b n i = true) : shownAt a b n i = nmA b i := by unfold shownAt; rw [if_pos h]
theorem shown_not {a : List (Int × Int)} {b : List (List UInt8)} {n i : Nat} (h : keptB a b n i = false) : shownAt a b n i = nmA b i ++ sufL (idA a i).1 (idA a i).2 := by unfold shownAt; rw [if_neg (by rw [h]; decide)]
theorem AP.split_kept {a : List (Int × Int)} {b : List (List UInt8)} (h : AP a b) {i : Nat} (hi : i < a.length) (hk : keptB a b a.length i = true) : splitP (shownAt a b a.length i) = none := by
  rw [shown_kept hk]
  exact (splitP_of _).unique (split_none1 (name_no1 (h.namAt hi)))
theorem AP.split_not {a : List (Int × Int)} {b : List (List UInt8)} (h : AP a b) {i : Nat} (hi : i < a.length) (hk : keptB a b a.length i = false) : splitP (shownAt a b a.length i) = some (nmA b i, (idA a i).1, (idA a i).2) := by
  rw [shown_not hk]
  exact (splitP_of _).unique ⟨h.namAt hi, h.valAt hi, rfl⟩
theorem suf_ne (nm : List UInt8) (t n : Int) : nm ++ sufL t n ≠ nm := fun e => by
  have := congrArg List.length e
  rw [List.length_append] at this
  unfold sufL at this
  simp at this
theorem AP.apart {a : List (Int × Int)} {b : List (List UInt8)} (h : AP a b) {i k : Nat} (hi : i < a.length) (hk : k < i) : shownAt a b a.length i ≠ shownAt a b a.length k := by
  intro e
  have hk' : k < a.length := by omega
  cases ci : keptB a b a.length i with
  | true =>
    cases ck : keptB a b a.length k with
    | true =>
      rw [shown_kept ci, shown_kept ck] at e
      have k1 := kept_iff.1 ci
      have k2 := kept_iff.1 ck
      have a1 : lsA (idA a k) (idA a i) = false := by
        cases f : lsA (idA a k) (idA a i) with
        | false => rfl
        | true => exact absurd (bef_iff.2 ⟨e.symm, .inl f⟩) (k1 k hk')
      have a2 : lsA (idA a i) (idA a k) = false := by
        cases f : lsA (idA a i) (idA a k) with
        | false => rfl
        | true => exact absurd (bef_iff.2 ⟨e, .inl f⟩) (k2 i hi)
      have := h.difAt hi hk' (lsA_tot a1 a2).symm
      omega
    | false =>
      rw [shown_kept ci, shown_not ck] at e
      exact name_no1 (h.namAt hi) (by rw [e]; unfold sufL; simp)
  | false =>
    cases ck : keptB a b a.length k with
    | true =>
      rw [shown_not ci, shown_kept ck] at e
      exact name_no1 (h.namAt hk') (by rw [← e]; unfold sufL; simp)
    | false =>
      rw [shown_not ci, shown_not ck] at e
      obtain ⟨_, e1, e2⟩ := split_inj (h.namAt hi) (h.namAt hk') (h.valAt hi) (h.valAt hk') e
      have := h.difAt hi hk' (Prod.ext e1 e2)
      omega
theorem AP.len_shown {a : List (Int × Int)} {b : List (List UInt8)} (h : AP a b) {i : Nat} (hi : i < a.length) : (shownAt a b a.length i).length < 1000 := by
  have hn := name_len (h.namAt hi)
  have hv := valid_bounds (h.valAt hi)
  cases ck : keptB a b a.length i with
  | true => rw [shown_kept ck]; omega
  | false =>
    rw [shown_not ck]
    have x1 := Lib.itoa_length_le (idA a i).1 (by omega) (by omega)
    have x2 := Lib.itoa_length_le (idA a i).2 (by omega) (by omega)
    unfold sufL
    simp
    omega
theorem AP.ins {a : List (Int × Int)} {b : List (List UInt8)} (h : AP a b) : ∀ x ∈ a, InI x.1 ∧ InI x.2 := fun x hx => by
  have := valid_bounds (h.val x hx)
  exact ⟨⟨by omega, by omega⟩, ⟨by omega, by omega⟩⟩
theorem AP.lens {a : List (Int × Int)} {b : List (List UInt8)} (h : AP a b) : ∀ x ∈ b, x.length ≤ 150000000000000 := fun x hx => by
  have := name_len (h.nam x hx)
  omega

/- Rows of IDs. -/
def idsC : List (Int × Int) → List Value
  | [] => []
  | x :: l => .int .i64 x.1 :: .int .i64 x.2 :: idsC l
theorem idsC_append : ∀ l m : List (Int × Int), idsC (l ++ m) = idsC l ++ idsC m
  | [], _ => rfl
  | _ :: l, m => by simp only [List.cons_append, idsC, idsC_append l m]
theorem idsC_at : ∀ (l : List (Int × Int)) (j : Nat) (x : Int × Int), l[j]? = some x → (idsC l)[j * 2]? = some (.int .i64 x.1) ∧ (idsC l)[j * 2 + 1]? = some (.int .i64 x.2)
  | [], j, x, h => by simp at h
  | y :: l, 0, x, h => by
    simp only [List.getElem?_cons_zero, Option.some.injEq] at h
    subst h
    exact ⟨rfl, rfl⟩
  | y :: l, j + 1, x, h => by
    have := idsC_at l j x (by simpa using h)
    rw [show (j + 1) * 2 = j * 2 + 1 + 1 by omega]
    simp only [idsC, List.getElem?_cons_succ]
    exact this
theorem ids_of_cs {w : World} {p : Option Addr} {l : List (Int × Int)} (h : Cs w p (idsC l)) : Ids w p l := fun j x hx => by
  obtain ⟨e1, e2⟩ := idsC_at l j x hx
  obtain ⟨g, o, e, h1⟩ := h _ _ e1
  obtain ⟨g', o', e', h2⟩ := h _ _ e2
  cases e
  cases e'
  exact ⟨g, o, rfl, h1, by rw [Nat.add_assoc]; exact h2⟩
theorem happI {W : World} {base : Nat} {p : Option Addr} {i c : Nat} {xs : List Value} (t u : Int) (h : W.ownsRow base 29 2 (.slice p i c) i xs) (hb : base ≤ W.heap.size) (hi : i < 1000000000000) :
    Hid ((W.alloc (.cells #[.int .i64 t, .int .i64 u] 29)).ownsRow base 29 2 (.slice p i c) i xs ∧ Cs (W.alloc (.cells #[.int .i64 t, .int .i64 u] 29)) (some ⟨W.heap.size, 0, none⟩) [.int .i64 t, .int .i64 u] ∧ [Value.int .i64 t, Value.int .i64 u].length = 1 * 2 ∧ (∀ x ∈ [Value.int .i64 t, Value.int .i64 u], x.oneCell' = true) ∧ (i + 1) * 16 ≤ 140737488355328 ∧ i + 1 ≤ 140737488355328 ∧ base ≤ (W.alloc (.cells #[.int .i64 t, .int .i64 u] 29)).heap.size) := by
  refine ⟨own_below h (below_new W _).out, fun j v hv => ⟨W.heap.size, 0, rfl, ?_⟩, rfl, fun x hx => ?_, by omega, by omega, by simp; omega⟩
  · rw [Nat.zero_add, cellOf (heap_alloc_new W _) j]
    simpa using hv
  · rcases List.mem_cons.1 hx with rfl | hx
    · rfl
    · rw [List.mem_singleton.1 hx]; rfl
/-- A row of another type stays where a row is appended to. -/
theorem own_other {w w' : World} {b1 b2 : Nat} {e1 e2 : TypeId} {s1 s2 n1 n2 : Nat} {v1 v2 : Value} {x1 x2 : List Value} (h1 : w.ownsRow b1 e1 s1 v1 n1 x1) (h2 : w.ownsRow b2 e2 s2 v2 n2 x2) (hne : e1 ≠ e2) (hg : w.grownBy w' v2.ownBlock) : w'.ownsRow b1 e1 s1 v1 n1 x1 := by
  obtain ⟨hl, h | ⟨g, cap, cur, rfl, k1, hb, k2⟩⟩ := h1
  · exact ⟨hl, .inl h⟩
  · refine ⟨hl, .inr ⟨g, cap, cur, rfl, k1, (hg.block g (block_lt hb) ?_).trans hb, k2⟩⟩
    intro e
    rcases h2.2 with ⟨rfl, _⟩ | ⟨g', cap', cur', rfl, _, hb', _⟩
    · cases e
    · injection e with e
      have e : g = g' := e
      subst e
      rw [hb] at hb'
      injection hb' with hb'
      injection hb' with _ e2
      exact hne e2

end Go.Proofs.YtjajbhpcjickbaaDoor.Ck.Sh
