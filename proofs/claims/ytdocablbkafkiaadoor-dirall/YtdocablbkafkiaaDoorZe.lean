/-
  What DirAll's law keeps: the directory, and the names and the numbers beside it.
-/
import Derived.Test.YtdocablbkafkiaaDoorJd
import Derived.Test.YtdocablbkafkiaaDoorZd
import Derived.Test.YtdocablbkafkiaaDoorHr

/-
  A directory as the list of its entries in the order of their names.
-/
namespace Go.Proofs.YtdocablbkafkiaaDoor.Cd
open Go.RowKit Go.Maps

attribute [local go_sem] Oper.semAt_some

def DirE (w : World) (base a : Nat) (E : List En) : Prop := ∃ D, DirOk w base a D ∧ E.Perm D.flatten ∧ Srt E
theorem DirE.below {w w' : World} {base a : Nat} {E : List En} (h : DirE w base a E) (hb : Below w.heap.size w w') : DirE w' base a E := by
  obtain ⟨D, h1, h2, h3⟩ := h
  exact ⟨D, h1.below hb, h2, h3⟩
theorem DirE.srt {w : World} {base a : Nat} {E : List En} (h : DirE w base a E) : Srt E := h.choose_spec.2.2
theorem DirE.len {w : World} {base a : Nat} {E : List En} (h : DirE w base a E) : w.cell? ⟨a, 0, none⟩ = some (.int .i64 (E.length : Nat)) ∧ a < w.heap.size ∧ base ≤ a := by
  obtain ⟨D, ⟨⟨bv, vs, h1⟩, h2⟩, h3, h4⟩ := h
  have : E.length = total D := by unfold total; exact h3.length_eq
  rw [this]
  exact ⟨h1.c0, block_lt h1.dir, h1.lo⟩
theorem DirE.kept {w w' : World} {base a : Nat} {E : List En} {S : Nat → Prop} (h : DirE w base a E) (ho : Only S w w') (hn : ∀ k, DT w.heap[k]? → ¬ S k) : DirE w' base a E := by
  obtain ⟨D, ⟨⟨bv, vs, h1⟩, h2⟩, h3, h4⟩ := h
  exact ⟨D, ⟨⟨bv, vs, h1.kept ho (fun k _ _ hk => hn k hk)⟩, h2⟩, h3, h4⟩
theorem DirE.mono {w : World} {base base' a : Nat} {E : List En} (h : DirE w base a E) (hb : base' ≤ base) : DirE w base' a E := by
  obtain ⟨D, ⟨⟨bv, vs, h1⟩, h2⟩, h3, h4⟩ := h
  exact ⟨D, ⟨⟨bv, vs, h1.mono hb⟩, h2⟩, h3, h4⟩
theorem srtE_name {E : List En} (hs : Srt E) {x y : En} (hx : x ∈ E) (hy : y ∈ E) (h : x.name = y.name) : x = y := by
  obtain ⟨a, ha, rfl⟩ := Uof_mem hx
  obtain ⟨b, hb, rfl⟩ := Uof_mem hy
  rcases Nat.lt_trichotomy a b with h1 | h1 | h1
  · exact absurd h (less_ne (Uof_lt hs ha hb h1))
  · rw [h1]
  · exact absurd h.symm (less_ne (Uof_lt hs hb ha h1))

/-- A name gets a number. -/
def putE (E : List En) (x : En) : List En := if hasB E x.name then E.set (lb E x.name) x else ins E x
theorem srt_set {E : List En} (hs : Srt E) {j : Nat} {x y : En} (hy : E[j]? = some y) (hn : y.name = x.name) : Srt (E.set j x) := by
  unfold Srt
  rw [List.pairwise_iff_getElem]
  intro a b ha hb hab
  rw [List.length_set] at ha hb
  have h1 := List.pairwise_iff_getElem.1 hs a b ha hb hab
  have hj := List.getElem?_eq_some_iff.1 hy
  rw [List.getElem_set, List.getElem_set]
  unfold En.lt at h1 ⊢
  split
  · subst j
    rw [if_neg (by omega), ← hn, ← hj.2]; exact h1
  · split
    · subst j
      rw [← hn, ← hj.2]; exact h1
    · exact h1
theorem mem_setE {E : List En} (hs : Srt E) {j : Nat} {x y : En} (hy : E[j]? = some y) (hn : y.name = x.name) (q : En) : q ∈ E.set j x ↔ (q ∈ E ∧ q.name ≠ x.name) ∨ q = x := by
  have hj := List.getElem?_eq_some_iff.1 hy
  constructor
  · intro hq
    obtain ⟨i, hi⟩ := List.getElem?_of_mem hq
    rw [List.getElem?_set] at hi
    split at hi
    · exact .inr (by simpa [hj.1] using hi.symm)
    · have hqE := List.mem_of_getElem? hi
      by_cases e : q.name = x.name
      · exfalso
        have hqy := srtE_name hs hqE (List.mem_of_getElem? hy) (by rw [e, hn])
        have hi' := List.getElem?_eq_some_iff.1 hi
        have := List.pairwise_iff_getElem.1 hs
        rcases Nat.lt_trichotomy i j with h | h | h
        · have := this i j hi'.1 hj.1 h; rw [hi'.2, hj.2, hqy] at this; exact En.lt_irrefl _ this
        · omega
        · have := this j i hj.1 hi'.1 h; rw [hi'.2, hj.2, hqy] at this; exact En.lt_irrefl _ this
      · exact .inl ⟨hqE, e⟩
  · rintro (⟨hq, hne⟩ | rfl)
    · obtain ⟨i, hi⟩ := List.getElem?_of_mem hq
      refine List.mem_of_getElem? (i := i) ?_
      rw [List.getElem?_set_ne, hi]
      rintro rfl
      rw [hi] at hy; cases hy
      exact hne hn
    · refine List.mem_of_getElem? (i := j) ?_
      rw [List.getElem?_set_self hj.1]
theorem putE_srt {E : List En} (hs : Srt E) (x : En) : Srt (putE E x) := by
  unfold putE
  cases h : hasB E x.name with
  | true =>
    obtain ⟨y, hy, hn⟩ := hasB_true h
    rw [if_pos rfl]; exact srt_set hs hy hn
  | false => rw [if_neg (by simp)]; exact ins_srt hs (hasB_false hs h)
theorem putE_mem {E : List En} (hs : Srt E) (x q : En) : q ∈ putE E x ↔ (q ∈ E ∧ q.name ≠ x.name) ∨ q = x := by
  unfold putE
  cases h : hasB E x.name with
  | true =>
    obtain ⟨y, hy, hn⟩ := hasB_true h
    rw [if_pos rfl]; exact mem_setE hs hy hn q
  | false =>
    rw [if_neg (by simp), mem_ins]
    constructor
    · rintro (h' | h')
      · exact .inr h'
      · exact .inl ⟨h', hasB_false hs h q h'⟩
    · rintro (h' | h')
      · exact .inr h'.1
      · exact .inl h'

theorem put_E (base a : Nat) (E : List En) (s : ByteArray) (k : Int) (w : World) (ht : Tab w) (hgb : 1 < base) (h : DirE w base a E) (hx : s.size < 1000000) (hl : E.length < 2048) :
    Calls Tryd.prog 10 #[.pointer (some ⟨a, 0, none⟩), .string s, .int .i64 k] w fun e w' => Fr base w w' ∧
      ((fineN s.data.toList ≠ 0 ∧ e = .returned (.int .i64 (fineN s.data.toList)) ∧ DirE w' base a E) ∨ (fineN s.data.toList = 0 ∧ ¬ (1 ≤ k ∧ k ≤ 2147483647) ∧ e = .returned (.int .i64 22) ∧ DirE w' base a E) ∨
       (fineN s.data.toList = 0 ∧ (1 ≤ k ∧ k ≤ 2147483647) ∧ e = .returned (.int .i64 0) ∧ DirE w' base a (putE E ⟨s.data.toList, k.toNat⟩))) := by
  obtain ⟨D, h1, h2, h3⟩ := h
  have hlen : E.length = total D := by unfold total; exact h2.length_eq
  refine (put_any base a D s k w ht hgb h1 hx).mono ?_
  rintro e w' ⟨hf, ⟨q1, rfl, q3⟩ | ⟨q1, q2, rfl, q3⟩ | ⟨_, _, _, q4, _⟩ | ⟨q1, q2, _, rfl, D', q3, q4, _⟩⟩
  · exact ⟨hf, .inl ⟨q1, rfl, D, q3, h2, h3⟩⟩
  · exact ⟨hf, .inr (.inl ⟨q1, q2, rfl, D, q3, h2, h3⟩)⟩
  · omega
  · refine ⟨hf, .inr (.inr ⟨q1, q2, rfl, D', q3, ?_, putE_srt h3 _⟩)⟩
    refine (List.perm_ext_iff_of_nodup (srt_nodup (putE_srt h3 _)) (nodup_of_names q3.2.wf.names)).2 (fun q => ?_)
    rw [putE_mem h3, q4, h2.mem_iff]

theorem absentE {E : List En} {D : List (List En)} (h2 : E.Perm D.flatten) (h3 : Srt E) {s : List UInt8} : Absent D s ↔ hasB E s = false := by
  constructor
  · intro hA
    cases h : hasB E s with
    | false => rfl
    | true =>
      exfalso
      obtain ⟨y, hy, hn⟩ := hasB_true h
      obtain ⟨j, b, hb, hq⟩ := (mem_at y).1 (h2.mem_iff.1 (List.mem_of_getElem? hy))
      exact hA j b hb y hq hn
  · intro h j b hb x hx
    exact hasB_false h3 h x (h2.mem_iff.2 ((mem_at x).2 ⟨j, b, hb, hx⟩))
theorem drop_E (base a : Nat) (E : List En) (s : ByteArray) (w : World) (ht : Tab w) (hgb : 1 < base) (h : DirE w base a E) (hx : s.size < 1000000) :
    Calls Tryd.prog 11 #[.pointer (some ⟨a, 0, none⟩), .string s] w fun e w' => Fr base w w' ∧
      ((hasB E s.data.toList = false ∧ e = .returned (.int .i64 2) ∧ DirE w' base a E) ∨ (hasB E s.data.toList = true ∧ e = .returned (.int .i64 0) ∧ DirE w' base a (E.take (lb E s.data.toList) ++ E.drop (lb E s.data.toList + 1)))) := by
  obtain ⟨D, h1, h2, h3⟩ := h
  refine (drop_any base a D s w ht hgb h1 hx).mono ?_
  rintro e w' ⟨hf, ⟨q1, rfl, q3⟩ | ⟨x, q1, rfl, D', q3, q4⟩⟩
  · exact ⟨hf, .inl ⟨(absentE h2 h3).1 q1, rfl, D, q3, h2, h3⟩⟩
  · have hxE : x ∈ E := h2.mem_iff.2 (q4.mem_iff.1 (List.mem_cons_self ..))
    have hh : hasB E s.data.toList = true := by
      cases hh : hasB E s.data.toList with
      | true => rfl
      | false => exact absurd q1 (hasB_false h3 hh x hxE)
    obtain ⟨y, hy, hn⟩ := hasB_true hh
    have hxy : x = y := srtE_name h3 hxE (List.mem_of_getElem? hy) (by rw [q1, hn])
    subst hxy
    refine ⟨hf, .inr ⟨hh, rfl, D', q3, ?_, h3.sublist (sub_cut _ _)⟩⟩
    exact (((perm_cut hy).trans h2).trans q4.symm).cons_inv
theorem get_E (base a : Nat) (E : List En) (s : ByteArray) (w : World) (ht : Tab w) (hgb : 1 < base) (h : DirE w base a E) (hx : s.size < 1000000) :
    Calls Tryd.prog 12 #[.pointer (some ⟨a, 0, none⟩), .string s] w fun e w' => Below w.heap.size w w' ∧
      ((hasB E s.data.toList = false ∧ e = .returned (.tuple #[.int .i64 0, .bool false])) ∨ (∃ x, E[lb E s.data.toList]? = some x ∧ hasB E s.data.toList = true ∧ e = .returned (.tuple #[.int .i64 (x.num : Nat), .bool true]))) := by
  obtain ⟨D, h1, h2, h3⟩ := h
  refine (get_any base a D s w ht hgb h1 hx).mono ?_
  rintro e w' ⟨hb, ⟨x, q1, q2, rfl⟩ | ⟨q1, rfl⟩⟩
  · have hxE : x ∈ E := h2.mem_iff.2 q1
    have hh : hasB E s.data.toList = true := by
      cases hh : hasB E s.data.toList with
      | true => rfl
      | false => exact absurd q2 (hasB_false h3 hh x hxE)
    obtain ⟨y, hy, hn⟩ := hasB_true hh
    have hxy : x = y := srtE_name h3 hxE (List.mem_of_getElem? hy) (by rw [q2, hn])
    subst hxy
    exact ⟨hb, .inr ⟨x, hy, hh, rfl⟩⟩
  · exact ⟨hb, .inl ⟨(absentE h2 h3).1 q1, rfl⟩⟩
theorem back_E (base a : Nat) (E : List En) (w : World) (ht : Tab w) (h : DirE w base a E) :
    ∃ n, n ≤ (E.length + 3) / 4 ∧ Calls Tryd.prog 13 #[.pointer (some ⟨a, 0, none⟩)] w fun e w1 => e = .returned (.slice (some ⟨w.heap.size, 0, none⟩) (n * 512) (n * 512)) ∧ Below w.heap.size w w1 ∧
      Calls Tryd.prog 14 #[.slice (some ⟨w.heap.size, 0, none⟩) (n * 512) (n * 512)] w1 fun e w2 => e = .returned (.tuple #[.pointer (some ⟨w1.heap.size + 2, 0, none⟩), .int .i64 0]) ∧ Below w1.heap.size w1 w2 ∧ DirE w2 w1.heap.size (w1.heap.size + 2) E := by
  obtain ⟨D, h1, h2, h3⟩ := h
  have hlen : E.length = total D := by unfold total; exact h2.length_eq
  refine ⟨D.length, by rw [h1.2.len, hlen]; exact bfor_le _ h1.2.most, (load_own base a D w ht h1).mono ?_⟩
  rintro e w1 ⟨rfl, hb, hc⟩
  refine ⟨rfl, hb, hc.mono ?_⟩
  rintro e w2 ⟨rfl, hb2, h⟩
  exact ⟨rfl, hb2, D, h, h2, h3⟩
theorem list_E (base a : Nat) (E : List En) (w : World) (h : DirE w base a E) :
    Calls Tryd.prog 17 #[.pointer (some ⟨a, 0, none⟩)] w fun e w' => (∃ v kb, e = .returned v ∧ LB w' w.heap.size kb v (namesOf E)) ∧ Below w.heap.size w w' := by
  obtain ⟨D, h1, h2, h3⟩ := h
  exact list_any base a D E h2 h3 w h1
theorem each_zero (a : Nat) (w : World) : Calls Tryd.prog 18 #[.pointer (some ⟨a, 0, none⟩), .nilFunc] w fun e w' => e = .returned (.tuple #[]) ∧ w' = w := by
  have hq : (binOp .eql 43 .nilFunc .nilFunc).run Tryd.prog w = .ok (.bool true) w := by
    have h : ∀ d : Nat, (Op.equalIn (d + 1) 43 .nilFunc .nilFunc).run Tryd.prog w = .ok true w := fun d => by
      simp [Op.equalIn, run_underlying Tryd.underlying43]
    simp only [binOp]
    simp [Op.equal, Op.maxDepth, h 9999]
  go_enter Tryd.func18, Tryd.ntmps18
  go_wp2
  refine bodyPost_ret (results_none rfl _ _ _) rfl ?_
  exact ⟨rfl, rfl⟩

end Go.Proofs.YtdocablbkafkiaaDoor.Cd

/-
  The law's own lists: rows of texts and numbers.
-/
namespace Go.Proofs.YtdocablbkafkiaaDoor.Cd
open Go.RowKit Go.Maps

/-- A row of values of one cell each that a slice shows. -/
def Rw (w : World) (base t : Nat) (p : Option Addr) (n c : Nat) (xs : List Value) : Prop :=
  xs.length = n ∧ n ≤ c ∧ ((p = none ∧ n = 0 ∧ c = 0) ∨ ∃ g cs, p = some ⟨g, 0, none⟩ ∧ base ≤ g ∧ w.heap[g]? = some (.cells cs t (0, 0)) ∧ ∀ (j : Nat) (u : Value), xs[j]? = some u → cs[j]? = some u)
theorem Rw.kept {w w' : World} {base t : Nat} {p : Option Addr} {n c : Nat} {xs : List Value} {S : Nat → Prop} (h : Rw w base t p n c xs) (ho : Only S w w') (hn : ∀ g cs, w.heap[g]? = some (.cells cs t (0, 0)) → ¬ S g) : Rw w' base t p n c xs := by
  obtain ⟨h1, h2, h3⟩ := h
  refine ⟨h1, h2, h3.imp id ?_⟩
  rintro ⟨g, cs, e, hb, hg, hc⟩
  exact ⟨g, cs, e, hb, (ho.block g (block_lt hg) (hn g cs hg)).trans hg, hc⟩
theorem Rw.below {w w' : World} {base t : Nat} {p : Option Addr} {n c : Nat} {xs : List Value} (h : Rw w base t p n c xs) (hb : Below w.heap.size w w') : Rw w' base t p n c xs := h.kept (Below.only hb (fun _ => False)) (fun _ _ _ f => f)
theorem Rw.cell {w : World} {base t : Nat} {p : Option Addr} {n c : Nat} {xs : List Value} (h : Rw w base t p n c xs) {j : Nat} {u : Value} (hj : xs[j]? = some u) : ∃ g, p = some ⟨g, 0, none⟩ ∧ w.cell? ⟨g, j, none⟩ = some u ∧ base ≤ g ∧ ∃ cs, w.heap[g]? = some (.cells cs t (0, 0)) := by
  obtain ⟨h1, h2, ⟨_, h0, _⟩ | ⟨g, cs, e, hb, hg, hc⟩⟩ := h
  · have := (List.getElem?_eq_some_iff.1 hj).1; omega
  · exact ⟨g, e, by rw [cellOf hg]; exact hc j u hj, hb, cs, hg⟩
/-- A row that was made behind w1. -/
def RV (w1 W : World) (t : Nat) (v : Value) (xs : List Value) (c : Nat) : Prop :=
  ∃ q cs, v = .slice (some ⟨q, 0, none⟩) xs.length c ∧ xs.length ≤ c ∧ w1.heap.size ≤ q ∧ W.heap[q]? = some (.cells cs t (0, 0)) ∧ ∀ (j : Nat) (u : Value), xs[j]? = some u → cs[j]? = some u
theorem RV.only {w1 W W' : World} {t : Nat} {v : Value} {xs : List Value} {c : Nat} {S : Nat → Prop} (h : RV w1 W t v xs c) (ho : Only S W W') (hS : ∀ k, S k → k < w1.heap.size) : RV w1 W' t v xs c := by
  obtain ⟨q, cs, e, h1, h2, h3, h4⟩ := h
  exact ⟨q, cs, e, h1, h2, (ho.block q (block_lt h3) (fun e => by have := hS q e; omega)).trans h3, h4⟩
theorem RV.rw {w1 W : World} {base t : Nat} {v : Value} {xs : List Value} {c : Nat} (h : RV w1 W t v xs c) (hb : base ≤ w1.heap.size) : ∃ p, v = .slice p xs.length c ∧ Rw W base t p xs.length c xs := by
  obtain ⟨q, cs, e, h1, h2, h3, h4⟩ := h
  exact ⟨_, e, rfl, h1, .inr ⟨q, cs, rfl, by omega, h3, h4⟩⟩

/-- Appended to a slice that has no room: a new row. -/
theorem app_new {tS e by_ : Nat} {i0 : TypeInfo} {z : Value} (hu : Tryd.prog.underlying tS = some (.slice e)) (hi : Tryd.prog.info? e = some i0) (hz : i0.zero = some z) (hs : i0.size = 1) (hb : i0.bytes = by_) (hby : by_ ≤ 16) (ty : TypeId) (w1 W : World) (hw : w1.heap.size ≤ W.heap.size)
    (p : Option Addr) (k : Nat) (xs : List Value) (hxl : xs.length = k) (hx : ∀ (j : Nat) (u : Value), xs[j]? = some u → ∃ g, p = some ⟨g, 0, none⟩ ∧ W.cell? ⟨g, j, none⟩ = some u) (hp : p = none ∨ ∃ g, p = some ⟨g, 0, none⟩)
    (ad : Addr) (m c : Nat) (ys : List Value) (hyl : ys.length = m) (hy : ∀ (j : Nat) (u : Value), ys[j]? = some u → W.cell? (ad.add j) = some u) (hm : 0 < m) (hsm : k + m ≤ 100000) :
    ∃ v' W' c', (Builtin.append_ #[tS, tS] ty #[.slice p k k, .slice (some ad) m c]).run Tryd.prog W = .ok v' W' ∧ RV w1 W' e v' (xs ++ ys) c' ∧ Below W.heap.size W W' := by
  have hn : (xs ++ ys).length = k + m := by rw [List.length_append, hxl, hyl]
  have hge := grownCap_ge W (k + m) k e
  have grown : RV w1 (W.drew.alloc (.cells (xs.toArray ++ ys.toArray ++ Builtin.zeroCells z.cells (grownCap W (k + m) k e - (k + m))) e)) e (.slice (some ⟨W.heap.size, 0, none⟩) (k + m) (grownCap W (k + m) k e)) (xs ++ ys) (grownCap W (k + m) k e) := by
    refine ⟨W.heap.size, _, by rw [hn], by rw [hn]; exact hge, hw, heap_alloc_new W.drew _, fun j u hj => ?_⟩
    have hjl := (List.getElem?_eq_some_iff.1 hj).1
    rw [← Array.getElem?_toList]
    simp only [Array.toList_append]
    rw [List.getElem?_append_left (by simpa using hjl)]
    exact hj
  have hbel : Below W.heap.size W (W.drew.alloc (.cells (xs.toArray ++ ys.toArray ++ Builtin.zeroCells z.cells (grownCap W (k + m) k e - (k + m))) e)) := ((Below.refl _ W).drew).alloc (Nat.le_refl _) _
  have hby' : (k + m) * i0.bytes ≤ 100000 * 16 := by rw [hb]; exact Nat.mul_le_mul hsm hby
  rcases hp with rfl | ⟨g, rfl⟩
  · have h0 : xs = [] := by
      cases xs with
      | nil => rfl
      | cons x l => obtain ⟨g, e, _⟩ := hx 0 x rfl; cases e
    subst h0
    have hk : k = 0 := by simpa using hxl.symm
    subst hk
    have hr := run_append_nil (P := Tryd.prog) W tS ty e i0 z hu hi hz ad m c ys (by rw [hs, hyl]; omega) hy (by omega) (by omega) (by have := hby'; simp only [Nat.zero_add] at this; omega)
    simp only [Nat.zero_add, List.nil_append, Array.empty_append] at grown hbel ⊢
    exact ⟨_, _, _, hr, grown, hbel⟩
  · have hr := run_append_grow (P := Tryd.prog) W tS ty e i0 z hu hi hz ⟨g, 0, none⟩ k k xs (by rw [hs, hxl]; omega) (fun j u hj => by
      obtain ⟨g', e', h⟩ := hx j u hj
      cases e'
      rw [Addr.add_lit, Nat.zero_add]; exact h) ad m c ys (by rw [hs, hyl]; omega) hy (by omega) (by omega) (growslice_fits (by omega) (by omega))
    exact ⟨_, _, _, hr, grown, hbel⟩
theorem app_none {tS e : Nat} {i0 : TypeInfo} (hu : Tryd.prog.underlying tS = some (.slice e)) (hi : Tryd.prog.info? e = some i0) (ty : TypeId) (W : World) (p : Option Addr) (k k' : Nat) (hk : k ≤ k') (q : Option Addr) (c : Nat) : (Builtin.append_ #[tS, tS] ty #[.slice p k k', .slice q 0 c]).run Tryd.prog W = .ok (.slice p k k') W := by
  cases p <;> cases q <;> simp [Builtin.append_, run_underlying hu, sizeOf, typeInfo, hi, Builtin.lenOf, Builtin.firstCells, hk, storeCells, loadCells, loadCellsFrom]

theorem slice_head {tS e : Nat} {i0 : TypeInfo} (hu : Tryd.prog.underlying tS = some (.slice e)) (hi : Tryd.prog.info? e = some i0) (p : Option Addr) (hp : p = none ∨ ∃ g, p = some ⟨g, 0, none⟩) (n c at_ : Nat) (W : World) (h1 : at_ ≤ n) (h2 : n ≤ c) : (Instr.sliceAt tS (.slice p n c) none (some (.int .i64 (at_ : Nat))) (some (.int .i64 (at_ : Nat)))).run Tryd.prog W = .ok (.slice p at_ at_) W := by
  have hac : at_ ≤ c := by omega
  rcases hp with rfl | ⟨g, rfl⟩
  · simp [Instr.sliceAt, Instr.slice, Instr.sliceBounds, Instr.sliceBound, run_underlying hu, sizeOf, typeInfo, hi, hac, go_sem, Addr.add]
  · simp [Instr.sliceAt, Instr.slice, Instr.sliceBounds, Instr.sliceBound, run_underlying hu, sizeOf, typeInfo, hi, hac, go_sem, Addr.add]
def tailP (p : Option Addr) (c at_ : Nat) : Option Addr := if c = at_ then p else p.map (·.add at_)
theorem slice_tail {tS e : Nat} {i0 : TypeInfo} (hu : Tryd.prog.underlying tS = some (.slice e)) (hi : Tryd.prog.info? e = some i0) (hs : i0.size = 1) (p : Option Addr) (n c at_ : Nat) (W : World) (h1 : at_ ≤ n) : (Instr.sliceAt tS (.slice p n c) (some (.int .i64 (at_ : Nat))) none none).run Tryd.prog W = .ok (.slice (tailP p c at_) (n - at_) (c - at_)) W := by
  unfold tailP
  simp [Instr.sliceAt, Instr.slice, Instr.sliceBounds, Instr.sliceBound, run_underlying hu, sizeOf, typeInfo, hi, hs, h1, go_sem]
theorem Rw.tail {w : World} {base t : Nat} {p : Option Addr} {n c : Nat} {xs : List Value} (h : Rw w base t p n c xs) {at_ : Nat} (ha : at_ < n) : ∃ ad, tailP p c at_ = some ad ∧ ∀ (j : Nat) (u : Value), (xs.drop at_)[j]? = some u → w.cell? (ad.add j) = some u := by
  obtain ⟨h1, h2, ⟨_, h0, _⟩ | ⟨g, cs, rfl, hb, hg, hc⟩⟩ := h
  · omega
  · refine ⟨⟨g, at_, none⟩, by unfold tailP; rw [if_neg (by omega), Option.map_some, Addr.add_lit, Nat.zero_add], fun j u hj => ?_⟩
    rw [Addr.add_lit, cellOf hg]
    rw [List.getElem?_drop] at hj
    exact hc _ u hj
theorem Rw.head {w : World} {base t : Nat} {p : Option Addr} {n c : Nat} {xs : List Value} (h : Rw w base t p n c xs) (at_ : Nat) : (∀ (j : Nat) (u : Value), (xs.take at_)[j]? = some u → ∃ g, p = some ⟨g, 0, none⟩ ∧ w.cell? ⟨g, j, none⟩ = some u) ∧ (p = none ∨ ∃ g, p = some ⟨g, 0, none⟩) := by
  refine ⟨fun j u hj => ?_, ?_⟩
  · rw [List.getElem?_take] at hj
    split at hj
    · obtain ⟨g, e, hc, _⟩ := h.cell hj
      exact ⟨g, e, hc⟩
    · cases hj
  · obtain ⟨_, _, ⟨e, _⟩ | ⟨g, _, e, _⟩⟩ := h
    · exact .inl e
    · exact .inr ⟨g, e⟩
theorem Rw.cutAt {w : World} {base t : Nat} {p : Option Addr} {n c : Nat} {xs : List Value} (h : Rw w base t p n c xs) {at_ : Nat} (ha : at_ + 1 = n) : Rw w base t p at_ at_ (xs.take at_ ++ xs.drop (at_ + 1)) := by
  obtain ⟨h1, h2, h3⟩ := h
  have e : xs.take at_ ++ xs.drop (at_ + 1) = xs.take at_ := by rw [List.drop_of_length_le (by omega), List.append_nil]
  rw [e]
  refine ⟨by rw [List.length_take]; omega, Nat.le_refl _, ?_⟩
  rcases h3 with ⟨_, h0, _⟩ | ⟨g, cs, e', hb, hg, hc⟩
  · omega
  · refine .inr ⟨g, cs, e', hb, hg, fun j u hj => hc j u ?_⟩
    rw [List.getElem?_take] at hj
    split at hj
    · exact hj
    · cases hj

end Go.Proofs.YtdocablbkafkiaaDoor.Cd

/-
  The drawn regions of DirAll that write its lists.
-/
namespace Go.Proofs.YtdocablbkafkiaaDoor.Cd
open Go.RowKit Go.Maps

theorem info9s : ∃ i, Tryd.prog.info? 9 = some i ∧ i.zero = some (.string ⟨#[]⟩) ∧ i.size = 1 ∧ i.bytes = 16 := by
  have e : (Tryd.prog.info? 9).map (fun i => (i.zero, i.size, i.bytes)) = some (some (.string ⟨#[]⟩), 1, 16) := by kernel_rfl
  obtain ⟨i, hi, he⟩ := Option.map_eq_some_iff.1 e
  injection he with h1 h2
  injection h2 with h2 h3
  exact ⟨i, hi, h1, h2, h3⟩
theorem info3s : ∃ i, Tryd.prog.info? 3 = some i ∧ i.zero = some (.int .i64 0) ∧ i.size = 1 ∧ i.bytes = 8 := by
  have e : (Tryd.prog.info? 3).map (fun i => (i.zero, i.size, i.bytes)) = some (some (.int .i64 0), 1, 8) := by kernel_rfl
  obtain ⟨i, hi, he⟩ := Option.map_eq_some_iff.1 e
  injection he with h1 h2
  injection h2 with h2 h3
  exact ⟨i, hi, h1, h2, h3⟩

set_option maxRecDepth 8000 in
set_option maxHeartbeats 4000000 in
theorem all_reg32 {Q : Exit → Act → World → Prop} {base : Array Value} {d : List Deferred} {ops : Array Oper} (hops : Tryd.f3.body.bind (regs 32) = some ops) (NB ob nN cN aT lo : Nat) (pN : Option Addr) (sv_ : ByteArray) (xs : List Value) (w1 : World) (hsz : base.size = 282)
    (b5 : base.getD 5 undef = .pointer (some ⟨NB, 0, none⟩))
    (b8 : base.getD 8 undef = .pointer (some ⟨ob, 0, none⟩))
    (b9 : base.getD 9 undef = .int .i64 (aT : Nat))
    (hNB : w1.heap[NB]? = some (.cells #[.slice pN nN cN] 26 (0, 0))) (hR : Rw w1 lo 9 pN nN cN xs) (haT : aT ≤ nN) (hsm : nN ≤ 5000) (hlo : lo ≤ w1.heap.size)
    (hOb : w1.cell? ⟨ob, 1, none⟩ = some (.string sv_)) (hne : ¬ ob = NB)
    (hQ : ∀ g W p3 c3, Only (fun k => k = NB) w1 W → W.heap[NB]? = some (.cells #[.slice p3 (nN + 1) c3] 26 (0, 0)) → Rw W lo 9 p3 (nN + 1) c3 (xs.take aT ++ (.string sv_ : Value) :: xs.drop aT) → Q .normal ⟨putAll base ((fun g : Value × Value × Value => [(some 138, .slice pN nN cN), (some 139, .int .i64 (aT : Nat)), (some 140, .int .i64 (aT : Nat)), (some 141, .slice pN aT aT), (some 142, .pointer (some ⟨ob, 1, none⟩)), (some 143, .string sv_), (some 144, g.1), (some 145, .slice pN nN cN), (some 146, .int .i64 (aT : Nat)), (some 147, .slice (tailP pN cN aT) (nN - aT) (cN - aT)), (some 148, g.2.1), (some 149, g.2.2), (none, undef)]) g), d⟩ W) :
    (Code.region 32 ops true).wp Tryd.prog Q ⟨base, d⟩ w1 := by
  have hmix : Tryd.prog.follows .mixedOrders = true := by kernel_rfl
  have h2 := (show Tryd.f3.body.bind (regs 32) = some _ from rfl).symm.trans hops
  obtain rfl := Option.some.inj h2
  clear h2 hops
  have below1 : Below w1.heap.size w1 w1.drew := (Below.refl _ _).drew
  have hNBl : NB < w1.heap.size := block_lt hNB
  have dN : w1.cell? ⟨NB, 0, none⟩ = some (.slice pN nN cN) := cellOf hNB 0
  obtain ⟨sv, hsv⟩ : ∃ sv : Value, sv = .string sv_ := ⟨_, rfl⟩
  rw [← hsv] at hOb hQ
  obtain ⟨i0, hi, hz0, hz1, hz2⟩ := info9s
  have hu : Tryd.prog.underlying 26 = some (.slice 9) := Tryd.underlying26
  have hxn := hR.1
  have hH := fun W => slice_head hu hi pN (hR.head 0).2 nN cN aT W haT hR.2.1
  have hT := fun W => slice_tail hu hi hz1 pN nN cN aT W haT
  obtain ⟨LL, hLe⟩ : ∃ LL : Value × Value × Value → List (Option Tmp × Value), LL = fun g : Value × Value × Value => [(some 138, .slice pN nN cN), (some 139, .int .i64 (aT : Nat)), (some 140, .int .i64 (aT : Nat)), (some 141, .slice pN aT aT), (some 142, .pointer (some ⟨ob, 1, none⟩)), (some 143, sv), (some 144, g.1), (some 145, .slice pN nN cN), (some 146, .int .i64 (aT : Nat)), (some 147, .slice (tailP pN cN aT) (nN - aT) (cN - aT)), (some 148, g.2.1), (some 149, g.2.2), (none, undef)] := ⟨_, rfl⟩
  have vv0 : ∀ g, vals (LL g) 0 = .slice pN nN cN := fun g => by rw [hLe]; rfl
  have vv1 : ∀ g, vals (LL g) 1 = .int .i64 (aT : Nat) := fun g => by rw [hLe]; rfl
  have vv2 : ∀ g, vals (LL g) 2 = .int .i64 (aT : Nat) := fun g => by rw [hLe]; rfl
  have vv3 : ∀ g, vals (LL g) 3 = .slice pN aT aT := fun g => by rw [hLe]; rfl
  have vv4 : ∀ g, vals (LL g) 4 = .pointer (some ⟨ob, 1, none⟩) := fun g => by rw [hLe]; rfl
  have vv5 : ∀ g, vals (LL g) 5 = sv := fun g => by rw [hLe]; rfl
  have vv6 : ∀ g, vals (LL g) 6 = g.1 := fun g => by rw [hLe]; rfl
  have vv7 : ∀ g, vals (LL g) 7 = .slice pN nN cN := fun g => by rw [hLe]; rfl
  have vv8 : ∀ g, vals (LL g) 8 = .int .i64 (aT : Nat) := fun g => by rw [hLe]; rfl
  have vv9 : ∀ g, vals (LL g) 9 = .slice (tailP pN cN aT) (nN - aT) (cN - aT) := fun g => by rw [hLe]; rfl
  have vv10 : ∀ g, vals (LL g) 10 = g.2.1 := fun g => by rw [hLe]; rfl
  have vv11 : ∀ g, vals (LL g) 11 = g.2.2 := fun g => by rw [hLe]; rfl
  have vv12 : ∀ g, vals (LL g) 12 = undef := fun g => by rw [hLe]; rfl
  refine region_laidg hmix (by kernel_rfl) 282 hsz (by kernel_rfl) (.slice none 0 0, .slice none 0 0, .slice none 0 0) LL (fun g => by rw [hLe]; rfl) (fun g b W => Only (fun k => k = NB ∧ b 12 = true) w1 W ∧ (b 6 = true → RV w1 W 9 g.1 [sv] 1) ∧ (b 10 = true → ∃ c, RV w1 W 9 g.2.1 (sv :: xs.drop aT) c) ∧ (b 11 = true → ∃ c, RV w1 W 9 g.2.2 (xs.take aT ++ sv :: xs.drop aT) c) ∧ (b 12 = true → W.heap[NB]? = some (.cells #[g.2.2] 26 (0, 0)))) ⟨Below.only below1 _, fun h => (by cases h), fun h => (by cases h), fun h => (by cases h), fun h => (by cases h)⟩ ?_ ?_
  · intro g b W io o a hS hcl ho hb hd ev kp yl
    match io with
    | 0 =>
      simp only [List.getElem?_toArray, List.getElem?_cons_zero, Option.some.injEq] at ho
      subst ho
      have e5 : a.tmps[5]?.getD undef = .pointer (some ⟨NB, 0, none⟩) := (kp 5 (none_till (by kernel_rfl))).trans b5
      have qST : b 12 = false := by cases hq : b 12 with | false => rfl | true => (exfalso; have q11 := hcl 12 _ rfl hq ⟨11, .data⟩ (by simp) rfl; have q3 := hcl 11 _ rfl q11 ⟨3, .data⟩ (by simp) rfl; have q0 := hcl 3 _ rfl q3 ⟨0, .data⟩ (by simp) rfl; rw [hb] at q0; cases q0)
      have hl := hS.1.cell dN (by rintro ⟨_, e⟩; rw [qST] at e; cases e)
      refine doesg_value rfl (by intro c h; cases h) (v := .slice pN nN cN) (w' := W) ?_ ⟨g, fun _ _ => rfl, (vv0 g).symm, ?_⟩
      · simp [execOp, go_sem, e5, hl]
      · simpa [did] using hS
    | 1 =>
      simp only [List.getElem?_toArray, List.getElem?_cons_zero, List.getElem?_cons_succ, Option.some.injEq] at ho
      subst ho
      have e9 : a.tmps[9]?.getD undef = .int .i64 (aT : Nat) := (kp 9 (none_till (by kernel_rfl))).trans b9
      refine doesg_value rfl (by intro c h; cases h) (v := .int .i64 (aT : Nat)) (w' := W) ?_ ⟨g, fun _ _ => rfl, (vv1 g).symm, ?_⟩
      · simp [execOp, go_sem, e9]
      · simpa [did] using hS
    | 2 =>
      simp only [List.getElem?_toArray, List.getElem?_cons_zero, List.getElem?_cons_succ, Option.some.injEq] at ho
      subst ho
      have e9 : a.tmps[9]?.getD undef = .int .i64 (aT : Nat) := (kp 9 (none_till (by kernel_rfl))).trans b9
      refine doesg_value rfl (by intro c h; cases h) (v := .int .i64 (aT : Nat)) (w' := W) ?_ ⟨g, fun _ _ => rfl, (vv2 g).symm, ?_⟩
      · simp [execOp, go_sem, e9]
      · simpa [did] using hS
    | 3 =>
      simp only [List.getElem?_toArray, List.getElem?_cons_zero, List.getElem?_cons_succ, Option.some.injEq] at ho
      subst ho
      have p0 : b 0 = true := hd ⟨0, .data⟩ (by simp) rfl
      have p1 : b 1 = true := hd ⟨1, .data⟩ (by simp) rfl
      have p2 : b 2 = true := hd ⟨2, .data⟩ (by simp) rfl
      have e138 := (ev 0 138 rfl p0).trans (vv0 g)
      have e139 := (ev 1 139 rfl p1).trans (vv1 g)
      have e140 := (ev 2 140 rfl p2).trans (vv2 g)
      refine doesg_value rfl (by intro c h; cases h) (v := .slice pN aT aT) (w' := W) ?_ ⟨g, fun _ _ => rfl, (vv3 g).symm, ?_⟩
      · simp [execOp, Act.eval, e138, e139, e140, hH W]
      · simpa [did] using hS
    | 4 =>
      simp only [List.getElem?_toArray, List.getElem?_cons_zero, List.getElem?_cons_succ, Option.some.injEq] at ho
      subst ho
      have e8 : a.tmps[8]?.getD undef = .pointer (some ⟨ob, 0, none⟩) := (kp 8 (none_till (by kernel_rfl))).trans b8
      refine doesg_value rfl (by intro c h; cases h) (v := .pointer (some ⟨ob, 1, none⟩)) (w' := W) ?_ ⟨g, fun _ _ => rfl, (vv4 g).symm, ?_⟩
      · simp [execOp, go_sem, e8]
      · simpa [did] using hS
    | 5 =>
      simp only [List.getElem?_toArray, List.getElem?_cons_zero, List.getElem?_cons_succ, Option.some.injEq] at ho
      subst ho
      have p4 : b 4 = true := hd ⟨4, .data⟩ (by simp) rfl
      have e142 := (ev 4 142 rfl p4).trans (vv4 g)
      have hl := hS.1.cell hOb (by rintro ⟨e, _⟩; exact hne e)
      refine doesg_value rfl (by intro c h; cases h) (v := sv) (w' := W) ?_ ⟨g, fun _ _ => rfl, (vv5 g).symm, ?_⟩
      · simp [execOp, go_sem, e142, hl]
      · simpa [did] using hS
    | 6 =>
      simp only [List.getElem?_toArray, List.getElem?_cons_zero, List.getElem?_cons_succ, Option.some.injEq] at ho
      subst ho
      have p5 : b 5 = true := hd ⟨5, .data⟩ (by simp) rfl
      have e143 := (ev 5 143 rfl p5).trans (vv5 g)
      have hoF : Only (fun _ => False) W (W.alloc (.cells #[sv] 9)) := Below.only ((Below.refl _ W).alloc (Nat.le_refl _) _) _
      refine doesg_value rfl (by intro c h; cases h) (v := .slice (some ⟨W.heap.size, 0, none⟩) 1 1) (w' := W.alloc (.cells #[sv] 9)) ?_ ⟨(.slice (some ⟨W.heap.size, 0, none⟩) 1 1, g.2), fun j hj => ?_, (vv6 (.slice (some ⟨W.heap.size, 0, none⟩) 1 1, g.2)).symm, ?_⟩
      · simp [execOp, go_sem, e143, hsv]
      · match j, hj with | 0, _ => rw [vv0, vv0] | 1, _ => rw [vv1, vv1] | 2, _ => rw [vv2, vv2] | 3, _ => rw [vv3, vv3] | 4, _ => rw [vv4, vv4] | 5, _ => rw [vv5, vv5] | 6, h => rw [hb] at h; cases h | 7, _ => rw [vv7, vv7] | 8, _ => rw [vv8, vv8] | 9, _ => rw [vv9, vv9] | 10, _ => rw [vv10, vv10] | 11, _ => rw [vv11, vv11] | 12, _ => rw [vv12, vv12] | k + 13, _ => rw [hLe]; rfl
      · refine ⟨(hS.1.trans hoF (fun _ f => f.elim)).weak (fun k _ hk => ⟨hk.1, by simpa [did] using hk.2⟩), fun h => ?_, fun h => ?_, fun h => ?_, fun h => ?_⟩
        · exact ⟨W.heap.size, _, rfl, Nat.le_refl _, hS.1.size, heap_alloc_new W _, fun j u hj => by simpa using hj⟩
        · obtain ⟨c, hc⟩ := hS.2.2.1 (by simpa [did] using h); exact ⟨c, hc.only hoF (fun _ f => f.elim)⟩
        · obtain ⟨c, hc⟩ := hS.2.2.2.1 (by simpa [did] using h); exact ⟨c, hc.only hoF (fun _ f => f.elim)⟩
        · have h9 := hS.2.2.2.2 (by simpa [did] using h)
          exact (hoF.block NB (block_lt h9) (fun f => f)).trans h9
    | 7 =>
      simp only [List.getElem?_toArray, List.getElem?_cons_zero, List.getElem?_cons_succ, Option.some.injEq] at ho
      subst ho
      have e5 : a.tmps[5]?.getD undef = .pointer (some ⟨NB, 0, none⟩) := (kp 5 (none_till (by kernel_rfl))).trans b5
      have qST : b 12 = false := by cases hq : b 12 with | false => rfl | true => (exfalso; have q11 := hcl 12 _ rfl hq ⟨11, .data⟩ (by simp) rfl; have q10 := hcl 11 _ rfl q11 ⟨10, .data⟩ (by simp) rfl; have q9 := hcl 10 _ rfl q10 ⟨9, .data⟩ (by simp) rfl; have q7 := hcl 9 _ rfl q9 ⟨7, .data⟩ (by simp) rfl; rw [hb] at q7; cases q7)
      have hl := hS.1.cell dN (by rintro ⟨_, e⟩; rw [qST] at e; cases e)
      refine doesg_value rfl (by intro c h; cases h) (v := .slice pN nN cN) (w' := W) ?_ ⟨g, fun _ _ => rfl, (vv7 g).symm, ?_⟩
      · simp [execOp, go_sem, e5, hl]
      · simpa [did] using hS
    | 8 =>
      simp only [List.getElem?_toArray, List.getElem?_cons_zero, List.getElem?_cons_succ, Option.some.injEq] at ho
      subst ho
      have e9 : a.tmps[9]?.getD undef = .int .i64 (aT : Nat) := (kp 9 (none_till (by kernel_rfl))).trans b9
      refine doesg_value rfl (by intro c h; cases h) (v := .int .i64 (aT : Nat)) (w' := W) ?_ ⟨g, fun _ _ => rfl, (vv8 g).symm, ?_⟩
      · simp [execOp, go_sem, e9]
      · simpa [did] using hS
    | 9 =>
      simp only [List.getElem?_toArray, List.getElem?_cons_zero, List.getElem?_cons_succ, Option.some.injEq] at ho
      subst ho
      have p7 : b 7 = true := hd ⟨7, .data⟩ (by simp) rfl
      have p8 : b 8 = true := hd ⟨8, .data⟩ (by simp) rfl
      have e145 := (ev 7 145 rfl p7).trans (vv7 g)
      have e146 := (ev 8 146 rfl p8).trans (vv8 g)
      refine doesg_value rfl (by intro c h; cases h) (v := .slice (tailP pN cN aT) (nN - aT) (cN - aT)) (w' := W) ?_ ⟨g, fun _ _ => rfl, (vv9 g).symm, ?_⟩
      · simp [execOp, Act.eval, e145, e146, hT W]
      · simpa [did] using hS
    | 10 =>
      simp only [List.getElem?_toArray, List.getElem?_cons_zero, List.getElem?_cons_succ, Option.some.injEq] at ho
      subst ho
      have p6 : b 6 = true := hd ⟨6, .data⟩ (by simp) rfl
      have p9 : b 9 = true := hd ⟨9, .data⟩ (by simp) rfl
      have e144 := (ev 6 144 rfl p6).trans (vv6 g)
      have e147 := (ev 9 147 rfl p9).trans (vv9 g)
      have hRW : Rw W lo 9 pN nN cN xs := hR.kept hS.1 (fun q cs hq hk => by obtain ⟨rfl, _⟩ := hk; rw [hNB] at hq; cases hq)
      obtain ⟨q1, cs1, e1, h11, h12, h13, h14⟩ := hS.2.1 p6
      have e1' : g.1 = .slice (some ⟨q1, 0, none⟩) 1 1 := e1
      rw [e1'] at e144
      by_cases hE : aT = nN
      · have hr := app_none hu hi 26 W (some ⟨q1, 0, none⟩) 1 1 (Nat.le_refl _) (tailP pN cN aT) (cN - aT)
        rw [show nN - aT = 0 by omega] at e147
        refine doesg_value rfl (by intro c h; cases h) (v := .slice (some ⟨q1, 0, none⟩) 1 1) (w' := W) ?_ ⟨(g.1, .slice (some ⟨q1, 0, none⟩) 1 1, g.2.2), fun j hj => ?_, (vv10 (g.1, .slice (some ⟨q1, 0, none⟩) 1 1, g.2.2)).symm, ?_⟩
        · have hs144 := (show a.eval (.tmp 144) = a.tmps[144]?.getD undef by simp [Act.eval]).trans e144; have hs147 := (show a.eval (.tmp 147) = a.tmps[147]?.getD undef by simp [Act.eval]).trans e147; simp only [execOp, resolve, invoke, builtin, Sem.run_bind, Sem.run_pure, Result.andThen_ok, List.map_toArray, List.map_cons, List.map_nil, hs144, hs147, hr]
        · match j, hj with | 0, _ => rw [vv0, vv0] | 1, _ => rw [vv1, vv1] | 2, _ => rw [vv2, vv2] | 3, _ => rw [vv3, vv3] | 4, _ => rw [vv4, vv4] | 5, _ => rw [vv5, vv5] | 6, _ => rw [vv6, vv6] | 7, _ => rw [vv7, vv7] | 8, _ => rw [vv8, vv8] | 9, _ => rw [vv9, vv9] | 10, h => rw [hb] at h; cases h | 11, _ => rw [vv11, vv11] | 12, _ => rw [vv12, vv12] | k + 13, _ => rw [hLe]; rfl
        · refine ⟨hS.1.weak (fun k _ hk => ⟨hk.1, by simpa [did] using hk.2⟩), fun h => hS.2.1 (by simpa [did] using h), fun _ => ⟨1, ?_⟩, fun h => hS.2.2.2.1 (by simpa [did] using h), fun h => hS.2.2.2.2 (by simpa [did] using h)⟩
          rw [List.drop_of_length_le (by omega)]
          exact ⟨q1, cs1, rfl, h11, h12, h13, h14⟩
      · obtain ⟨ad, hte, hty⟩ := hRW.tail (at_ := aT) (by omega)
        obtain ⟨v2, W2, c2, hr, hrv, hbel⟩ := app_new hu hi hz0 hz1 hz2 (by decide) 26 w1 W hS.1.size (some ⟨q1, 0, none⟩) 1 [sv] rfl (fun j u hj => ⟨q1, rfl, by rw [cellOf h13]; exact h14 j u hj⟩) (.inr ⟨q1, rfl⟩) ad (nN - aT) (cN - aT) (xs.drop aT) (by rw [List.length_drop]; omega) hty (by omega) (by omega)
        rw [hte] at e147
        have hoF : Only (fun _ => False) W W2 := Below.only hbel _
        refine doesg_value rfl (by intro c h; cases h) (v := v2) (w' := W2) ?_ ⟨(g.1, v2, g.2.2), fun j hj => ?_, (vv10 (g.1, v2, g.2.2)).symm, ?_⟩
        · have hs144 := (show a.eval (.tmp 144) = a.tmps[144]?.getD undef by simp [Act.eval]).trans e144; have hs147 := (show a.eval (.tmp 147) = a.tmps[147]?.getD undef by simp [Act.eval]).trans e147; simp only [execOp, resolve, invoke, builtin, Sem.run_bind, Sem.run_pure, Result.andThen_ok, List.map_toArray, List.map_cons, List.map_nil, hs144, hs147, hr]
        · match j, hj with | 0, _ => rw [vv0, vv0] | 1, _ => rw [vv1, vv1] | 2, _ => rw [vv2, vv2] | 3, _ => rw [vv3, vv3] | 4, _ => rw [vv4, vv4] | 5, _ => rw [vv5, vv5] | 6, _ => rw [vv6, vv6] | 7, _ => rw [vv7, vv7] | 8, _ => rw [vv8, vv8] | 9, _ => rw [vv9, vv9] | 10, h => rw [hb] at h; cases h | 11, _ => rw [vv11, vv11] | 12, _ => rw [vv12, vv12] | k + 13, _ => rw [hLe]; rfl
        · refine ⟨(hS.1.trans hoF (fun _ f => f.elim)).weak (fun k _ hk => ⟨hk.1, by simpa [did] using hk.2⟩), fun h => ?_, fun h => ?_, fun h => ?_, fun h => ?_⟩
          · exact (hS.2.1 (by simpa [did] using h)).only hoF (fun _ f => f.elim)
          · exact ⟨c2, hrv⟩
          · obtain ⟨c, hc⟩ := hS.2.2.2.1 (by simpa [did] using h); exact ⟨c, hc.only hoF (fun _ f => f.elim)⟩
          · have h9 := hS.2.2.2.2 (by simpa [did] using h)
            exact (hoF.block NB (block_lt h9) (fun f => f)).trans h9
    | 11 =>
      simp only [List.getElem?_toArray, List.getElem?_cons_zero, List.getElem?_cons_succ, Option.some.injEq] at ho
      subst ho
      have p3 : b 3 = true := hd ⟨3, .data⟩ (by simp) rfl
      have p10 : b 10 = true := hd ⟨10, .data⟩ (by simp) rfl
      have e141 := (ev 3 141 rfl p3).trans (vv3 g)
      have e148 := (ev 10 148 rfl p10).trans (vv10 g)
      have hRW : Rw W lo 9 pN nN cN xs := hR.kept hS.1 (fun q cs hq hk => by obtain ⟨rfl, _⟩ := hk; rw [hNB] at hq; cases hq)
      obtain ⟨c1, q1, cs1, e1, h11, h12, h13, h14⟩ := hS.2.2.1 p10
      rw [e1] at e148
      have hxl : (xs.take aT).length = aT := by rw [List.length_take]; omega
      obtain ⟨v2, W2, c2, hr, hrv, hbel⟩ := app_new hu hi hz0 hz1 hz2 (by decide) 26 w1 W hS.1.size pN aT (xs.take aT) hxl (hRW.head aT).1 (hRW.head aT).2 ⟨q1, 0, none⟩ (sv :: xs.drop aT).length c1 (sv :: xs.drop aT) rfl (fun j u hj => by rw [Addr.add_lit, Nat.zero_add, cellOf h13]; exact h14 j u hj) (by simp) (by rw [List.length_cons, List.length_drop]; omega)
      have hoF : Only (fun _ => False) W W2 := Below.only hbel _
      refine doesg_value rfl (by intro c h; cases h) (v := v2) (w' := W2) ?_ ⟨(g.1, g.2.1, v2), fun j hj => ?_, (vv11 (g.1, g.2.1, v2)).symm, ?_⟩
      · generalize (sv :: xs.drop aT).length = mL at *
        have hs141 := (show a.eval (.tmp 141) = a.tmps[141]?.getD undef by simp [Act.eval]).trans e141; have hs148 := (show a.eval (.tmp 148) = a.tmps[148]?.getD undef by simp [Act.eval]).trans e148; simp only [execOp, resolve, invoke, builtin, Sem.run_bind, Sem.run_pure, Result.andThen_ok, List.map_toArray, List.map_cons, List.map_nil, hs141, hs148, hr]
      · match j, hj with | 0, _ => rw [vv0, vv0] | 1, _ => rw [vv1, vv1] | 2, _ => rw [vv2, vv2] | 3, _ => rw [vv3, vv3] | 4, _ => rw [vv4, vv4] | 5, _ => rw [vv5, vv5] | 6, _ => rw [vv6, vv6] | 7, _ => rw [vv7, vv7] | 8, _ => rw [vv8, vv8] | 9, _ => rw [vv9, vv9] | 10, _ => rw [vv10, vv10] | 11, h => rw [hb] at h; cases h | 12, _ => rw [vv12, vv12] | k + 13, _ => rw [hLe]; rfl
      · refine ⟨(hS.1.trans hoF (fun _ f => f.elim)).weak (fun k _ hk => ⟨hk.1, by simpa [did] using hk.2⟩), fun h => ?_, fun h => ?_, fun h => ?_, fun h => ?_⟩
        · exact (hS.2.1 (by simpa [did] using h)).only hoF (fun _ f => f.elim)
        · obtain ⟨c, hc⟩ := hS.2.2.1 (by simpa [did] using h); exact ⟨c, hc.only hoF (fun _ f => f.elim)⟩
        · exact ⟨c2, hrv⟩
        · exfalso; have hq : b 12 = true := by simpa [did] using h
          have q8 := hcl 12 _ rfl hq ⟨11, .data⟩ (by simp) rfl; rw [hb] at q8; cases q8
    | 12 =>
      simp only [List.getElem?_toArray, List.getElem?_cons_zero, List.getElem?_cons_succ, Option.some.injEq] at ho
      subst ho
      have p11 : b 11 = true := hd ⟨11, .data⟩ (by simp) rfl
      have e5 : a.tmps[5]?.getD undef = .pointer (some ⟨NB, 0, none⟩) := (kp 5 (none_till (by kernel_rfl))).trans b5
      have e149 := (ev 11 149 rfl p11).trans (vv11 g)
      obtain ⟨c1, hrv⟩ := hS.2.2.2.1 p11
      have hWN : W.heap[NB]? = some (.cells #[.slice pN nN cN] 26 (0, 0)) := (hS.1.block NB hNBl (by rintro ⟨_, e⟩; rw [hb] at e; cases e)).trans hNB
      have hy : W.cell? ⟨NB, 0, none⟩ = some (.slice pN nN cN) := cellOf hWN 0
      have hf := frozenOf hWN 0
      have hoB : Only (fun k => k = NB) W (W.setCell ⟨NB, 0, none⟩ g.2.2) := Only.setCell W ⟨NB, 0, none⟩ _ rfl
      have hlt : ∀ k, k = NB → k < w1.heap.size := fun k hk => by rw [hk]; exact hNBl
      have hv2 : ∃ p3 n3 c3, g.2.2 = .slice p3 n3 c3 := by obtain ⟨q3, cs3, e3, _⟩ := hrv; exact ⟨_, _, _, e3⟩
      refine doesg_skip rfl (by intro c h; cases h) (w' := W.setCell ⟨NB, 0, none⟩ g.2.2) ?_ ⟨g, fun _ _ => rfl, (vv12 g).symm, ?_⟩
      · obtain ⟨p3, n3, c3, e3⟩ := hv2
        rw [e3] at e149 ⊢
        simp [execOp, go_sem, e149, e5, hy, hf]
      · refine ⟨(hS.1.weak (T := fun k => k = NB ∧ did b 12 12 = true) (fun k _ hk => ⟨hk.1, by simp [did]⟩)).trans hoB (fun k hk => .inl ⟨hk, by simp [did]⟩), fun h => (hS.2.1 (by simpa [did] using h)).only hoB hlt, fun h => ?_, fun h => ⟨c1, hrv.only hoB hlt⟩, fun _ => ?_⟩
        · obtain ⟨c, hc⟩ := hS.2.2.1 (by simpa [did] using h); exact ⟨c, hc.only hoB hlt⟩
        · simp only [World.setCell, Array.getElem?_modify, hWN]
          simp
    | k + 13 => simp at ho
  · intro g b W hS hall
    obtain ⟨h1, _, _, h4, h5⟩ := hS
    obtain ⟨c3, hrv⟩ := h4 (hall 11 (by decide))
    obtain ⟨p3, e3, hrw⟩ := hrv.rw hlo
    have hl3 : (xs.take aT ++ sv :: xs.drop aT).length = nN + 1 := by simp; omega
    rw [hl3] at e3 hrw
    have h6 := h5 (hall 12 (by decide))
    rw [e3] at h6
    subst hLe
    exact hQ g W p3 c3 (h1.weak (fun k _ hk => hk.1)) h6 hrw

set_option maxRecDepth 8000 in
set_option maxHeartbeats 4000000 in
theorem all_reg33 {Q : Exit → Act → World → Prop} {base : Array Value} {d : List Deferred} {ops : Array Oper} (hops : Tryd.f3.body.bind (regs 33) = some ops) (NB nN cN aT lo : Nat) (pN : Option Addr) (xs : List Value) (w1 : World) (hsz : base.size = 282)
    (b6 : base.getD 6 undef = .pointer (some ⟨NB, 0, none⟩))
    (b9 : base.getD 9 undef = .int .i64 (aT : Nat))
    (hNB : w1.heap[NB]? = some (.cells #[.slice pN nN cN] 27 (0, 0))) (hR : Rw w1 lo 3 pN nN cN xs) (haT : aT ≤ nN) (hsm : nN ≤ 5000) (hlo : lo ≤ w1.heap.size)
    (hQ : ∀ g W p3 c3, Only (fun k => k = NB) w1 W → W.heap[NB]? = some (.cells #[.slice p3 (nN + 1) c3] 27 (0, 0)) → Rw W lo 3 p3 (nN + 1) c3 (xs.take aT ++ (.int .i64 0 : Value) :: xs.drop aT) → Q .normal ⟨putAll base ((fun g : Value × Value × Value => [(some 150, .slice pN nN cN), (some 151, .int .i64 (aT : Nat)), (some 152, .int .i64 (aT : Nat)), (some 153, .slice pN aT aT), (some 154, g.1), (some 155, .slice pN nN cN), (some 156, .int .i64 (aT : Nat)), (some 157, .slice (tailP pN cN aT) (nN - aT) (cN - aT)), (some 158, g.2.1), (some 159, g.2.2), (none, undef)]) g), d⟩ W) :
    (Code.region 33 ops true).wp Tryd.prog Q ⟨base, d⟩ w1 := by
  have hmix : Tryd.prog.follows .mixedOrders = true := by kernel_rfl
  have h2 := (show Tryd.f3.body.bind (regs 33) = some _ from rfl).symm.trans hops
  obtain rfl := Option.some.inj h2
  clear h2 hops
  have below1 : Below w1.heap.size w1 w1.drew := (Below.refl _ _).drew
  have hNBl : NB < w1.heap.size := block_lt hNB
  have dN : w1.cell? ⟨NB, 0, none⟩ = some (.slice pN nN cN) := cellOf hNB 0
  obtain ⟨i0, hi, hz0, hz1, hz2⟩ := info3s
  have hu : Tryd.prog.underlying 27 = some (.slice 3) := Tryd.underlying27
  have hxn := hR.1
  have hH := fun W => slice_head hu hi pN (hR.head 0).2 nN cN aT W haT hR.2.1
  have hT := fun W => slice_tail hu hi hz1 pN nN cN aT W haT
  obtain ⟨LL, hLe⟩ : ∃ LL : Value × Value × Value → List (Option Tmp × Value), LL = fun g : Value × Value × Value => [(some 150, .slice pN nN cN), (some 151, .int .i64 (aT : Nat)), (some 152, .int .i64 (aT : Nat)), (some 153, .slice pN aT aT), (some 154, g.1), (some 155, .slice pN nN cN), (some 156, .int .i64 (aT : Nat)), (some 157, .slice (tailP pN cN aT) (nN - aT) (cN - aT)), (some 158, g.2.1), (some 159, g.2.2), (none, undef)] := ⟨_, rfl⟩
  have vv0 : ∀ g, vals (LL g) 0 = .slice pN nN cN := fun g => by rw [hLe]; rfl
  have vv1 : ∀ g, vals (LL g) 1 = .int .i64 (aT : Nat) := fun g => by rw [hLe]; rfl
  have vv2 : ∀ g, vals (LL g) 2 = .int .i64 (aT : Nat) := fun g => by rw [hLe]; rfl
  have vv3 : ∀ g, vals (LL g) 3 = .slice pN aT aT := fun g => by rw [hLe]; rfl
  have vv4 : ∀ g, vals (LL g) 4 = g.1 := fun g => by rw [hLe]; rfl
  have vv5 : ∀ g, vals (LL g) 5 = .slice pN nN cN := fun g => by rw [hLe]; rfl
  have vv6 : ∀ g, vals (LL g) 6 = .int .i64 (aT : Nat) := fun g => by rw [hLe]; rfl
  have vv7 : ∀ g, vals (LL g) 7 = .slice (tailP pN cN aT) (nN - aT) (cN - aT) := fun g => by rw [hLe]; rfl
  have vv8 : ∀ g, vals (LL g) 8 = g.2.1 := fun g => by rw [hLe]; rfl
  have vv9 : ∀ g, vals (LL g) 9 = g.2.2 := fun g => by rw [hLe]; rfl
  have vv10 : ∀ g, vals (LL g) 10 = undef := fun g => by rw [hLe]; rfl
  refine region_laidg hmix (by kernel_rfl) 282 hsz (by kernel_rfl) (.slice none 0 0, .slice none 0 0, .slice none 0 0) LL (fun g => by rw [hLe]; rfl) (fun g b W => Only (fun k => k = NB ∧ b 10 = true) w1 W ∧ (b 4 = true → RV w1 W 3 g.1 [(.int .i64 0)] 1) ∧ (b 8 = true → ∃ c, RV w1 W 3 g.2.1 ((.int .i64 0) :: xs.drop aT) c) ∧ (b 9 = true → ∃ c, RV w1 W 3 g.2.2 (xs.take aT ++ (.int .i64 0) :: xs.drop aT) c) ∧ (b 10 = true → W.heap[NB]? = some (.cells #[g.2.2] 27 (0, 0)))) ⟨Below.only below1 _, fun h => (by cases h), fun h => (by cases h), fun h => (by cases h), fun h => (by cases h)⟩ ?_ ?_
  · intro g b W io o a hS hcl ho hb hd ev kp yl
    match io with
    | 0 =>
      simp only [List.getElem?_toArray, List.getElem?_cons_zero, Option.some.injEq] at ho
      subst ho
      have e6 : a.tmps[6]?.getD undef = .pointer (some ⟨NB, 0, none⟩) := (kp 6 (none_till (by kernel_rfl))).trans b6
      have qST : b 10 = false := by cases hq : b 10 with | false => rfl | true => (exfalso; have q9 := hcl 10 _ rfl hq ⟨9, .data⟩ (by simp) rfl; have q3 := hcl 9 _ rfl q9 ⟨3, .data⟩ (by simp) rfl; have q0 := hcl 3 _ rfl q3 ⟨0, .data⟩ (by simp) rfl; rw [hb] at q0; cases q0)
      have hl := hS.1.cell dN (by rintro ⟨_, e⟩; rw [qST] at e; cases e)
      refine doesg_value rfl (by intro c h; cases h) (v := .slice pN nN cN) (w' := W) ?_ ⟨g, fun _ _ => rfl, (vv0 g).symm, ?_⟩
      · simp [execOp, go_sem, e6, hl]
      · simpa [did] using hS
    | 1 =>
      simp only [List.getElem?_toArray, List.getElem?_cons_zero, List.getElem?_cons_succ, Option.some.injEq] at ho
      subst ho
      have e9 : a.tmps[9]?.getD undef = .int .i64 (aT : Nat) := (kp 9 (none_till (by kernel_rfl))).trans b9
      refine doesg_value rfl (by intro c h; cases h) (v := .int .i64 (aT : Nat)) (w' := W) ?_ ⟨g, fun _ _ => rfl, (vv1 g).symm, ?_⟩
      · simp [execOp, go_sem, e9]
      · simpa [did] using hS
    | 2 =>
      simp only [List.getElem?_toArray, List.getElem?_cons_zero, List.getElem?_cons_succ, Option.some.injEq] at ho
      subst ho
      have e9 : a.tmps[9]?.getD undef = .int .i64 (aT : Nat) := (kp 9 (none_till (by kernel_rfl))).trans b9
      refine doesg_value rfl (by intro c h; cases h) (v := .int .i64 (aT : Nat)) (w' := W) ?_ ⟨g, fun _ _ => rfl, (vv2 g).symm, ?_⟩
      · simp [execOp, go_sem, e9]
      · simpa [did] using hS
    | 3 =>
      simp only [List.getElem?_toArray, List.getElem?_cons_zero, List.getElem?_cons_succ, Option.some.injEq] at ho
      subst ho
      have p0 : b 0 = true := hd ⟨0, .data⟩ (by simp) rfl
      have p1 : b 1 = true := hd ⟨1, .data⟩ (by simp) rfl
      have p2 : b 2 = true := hd ⟨2, .data⟩ (by simp) rfl
      have e150 := (ev 0 150 rfl p0).trans (vv0 g)
      have e151 := (ev 1 151 rfl p1).trans (vv1 g)
      have e152 := (ev 2 152 rfl p2).trans (vv2 g)
      refine doesg_value rfl (by intro c h; cases h) (v := .slice pN aT aT) (w' := W) ?_ ⟨g, fun _ _ => rfl, (vv3 g).symm, ?_⟩
      · simp [execOp, Act.eval, e150, e151, e152, hH W]
      · simpa [did] using hS
    | 4 =>
      simp only [List.getElem?_toArray, List.getElem?_cons_zero, List.getElem?_cons_succ, Option.some.injEq] at ho
      subst ho
      have hoF : Only (fun _ => False) W (W.alloc (.cells #[(.int .i64 0)] 3)) := Below.only ((Below.refl _ W).alloc (Nat.le_refl _) _) _
      refine doesg_value rfl (by intro c h; cases h) (v := .slice (some ⟨W.heap.size, 0, none⟩) 1 1) (w' := W.alloc (.cells #[(.int .i64 0)] 3)) ?_ ⟨(.slice (some ⟨W.heap.size, 0, none⟩) 1 1, g.2), fun j hj => ?_, (vv4 (.slice (some ⟨W.heap.size, 0, none⟩) 1 1, g.2)).symm, ?_⟩
      · simp [execOp, go_sem]
      · match j, hj with | 0, _ => rw [vv0, vv0] | 1, _ => rw [vv1, vv1] | 2, _ => rw [vv2, vv2] | 3, _ => rw [vv3, vv3] | 4, h => rw [hb] at h; cases h | 5, _ => rw [vv5, vv5] | 6, _ => rw [vv6, vv6] | 7, _ => rw [vv7, vv7] | 8, _ => rw [vv8, vv8] | 9, _ => rw [vv9, vv9] | 10, _ => rw [vv10, vv10] | k + 11, _ => rw [hLe]; rfl
      · refine ⟨(hS.1.trans hoF (fun _ f => f.elim)).weak (fun k _ hk => ⟨hk.1, by simpa [did] using hk.2⟩), fun h => ?_, fun h => ?_, fun h => ?_, fun h => ?_⟩
        · exact ⟨W.heap.size, _, rfl, Nat.le_refl _, hS.1.size, heap_alloc_new W _, fun j u hj => by simpa using hj⟩
        · obtain ⟨c, hc⟩ := hS.2.2.1 (by simpa [did] using h); exact ⟨c, hc.only hoF (fun _ f => f.elim)⟩
        · obtain ⟨c, hc⟩ := hS.2.2.2.1 (by simpa [did] using h); exact ⟨c, hc.only hoF (fun _ f => f.elim)⟩
        · have h9 := hS.2.2.2.2 (by simpa [did] using h)
          exact (hoF.block NB (block_lt h9) (fun f => f)).trans h9
    | 5 =>
      simp only [List.getElem?_toArray, List.getElem?_cons_zero, List.getElem?_cons_succ, Option.some.injEq] at ho
      subst ho
      have e6 : a.tmps[6]?.getD undef = .pointer (some ⟨NB, 0, none⟩) := (kp 6 (none_till (by kernel_rfl))).trans b6
      have qST : b 10 = false := by cases hq : b 10 with | false => rfl | true => (exfalso; have q9 := hcl 10 _ rfl hq ⟨9, .data⟩ (by simp) rfl; have q8 := hcl 9 _ rfl q9 ⟨8, .data⟩ (by simp) rfl; have q7 := hcl 8 _ rfl q8 ⟨7, .data⟩ (by simp) rfl; have q5 := hcl 7 _ rfl q7 ⟨5, .data⟩ (by simp) rfl; rw [hb] at q5; cases q5)
      have hl := hS.1.cell dN (by rintro ⟨_, e⟩; rw [qST] at e; cases e)
      refine doesg_value rfl (by intro c h; cases h) (v := .slice pN nN cN) (w' := W) ?_ ⟨g, fun _ _ => rfl, (vv5 g).symm, ?_⟩
      · simp [execOp, go_sem, e6, hl]
      · simpa [did] using hS
    | 6 =>
      simp only [List.getElem?_toArray, List.getElem?_cons_zero, List.getElem?_cons_succ, Option.some.injEq] at ho
      subst ho
      have e9 : a.tmps[9]?.getD undef = .int .i64 (aT : Nat) := (kp 9 (none_till (by kernel_rfl))).trans b9
      refine doesg_value rfl (by intro c h; cases h) (v := .int .i64 (aT : Nat)) (w' := W) ?_ ⟨g, fun _ _ => rfl, (vv6 g).symm, ?_⟩
      · simp [execOp, go_sem, e9]
      · simpa [did] using hS
    | 7 =>
      simp only [List.getElem?_toArray, List.getElem?_cons_zero, List.getElem?_cons_succ, Option.some.injEq] at ho
      subst ho
      have p5 : b 5 = true := hd ⟨5, .data⟩ (by simp) rfl
      have p6 : b 6 = true := hd ⟨6, .data⟩ (by simp) rfl
      have e155 := (ev 5 155 rfl p5).trans (vv5 g)
      have e156 := (ev 6 156 rfl p6).trans (vv6 g)
      refine doesg_value rfl (by intro c h; cases h) (v := .slice (tailP pN cN aT) (nN - aT) (cN - aT)) (w' := W) ?_ ⟨g, fun _ _ => rfl, (vv7 g).symm, ?_⟩
      · simp [execOp, Act.eval, e155, e156, hT W]
      · simpa [did] using hS
    | 8 =>
      simp only [List.getElem?_toArray, List.getElem?_cons_zero, List.getElem?_cons_succ, Option.some.injEq] at ho
      subst ho
      have p4 : b 4 = true := hd ⟨4, .data⟩ (by simp) rfl
      have p7 : b 7 = true := hd ⟨7, .data⟩ (by simp) rfl
      have e154 := (ev 4 154 rfl p4).trans (vv4 g)
      have e157 := (ev 7 157 rfl p7).trans (vv7 g)
      have hRW : Rw W lo 3 pN nN cN xs := hR.kept hS.1 (fun q cs hq hk => by obtain ⟨rfl, _⟩ := hk; rw [hNB] at hq; cases hq)
      obtain ⟨q1, cs1, e1, h11, h12, h13, h14⟩ := hS.2.1 p4
      have e1' : g.1 = .slice (some ⟨q1, 0, none⟩) 1 1 := e1
      rw [e1'] at e154
      by_cases hE : aT = nN
      · have hr := app_none hu hi 27 W (some ⟨q1, 0, none⟩) 1 1 (Nat.le_refl _) (tailP pN cN aT) (cN - aT)
        rw [show nN - aT = 0 by omega] at e157
        refine doesg_value rfl (by intro c h; cases h) (v := .slice (some ⟨q1, 0, none⟩) 1 1) (w' := W) ?_ ⟨(g.1, .slice (some ⟨q1, 0, none⟩) 1 1, g.2.2), fun j hj => ?_, (vv8 (g.1, .slice (some ⟨q1, 0, none⟩) 1 1, g.2.2)).symm, ?_⟩
        · have hs154 := (show a.eval (.tmp 154) = a.tmps[154]?.getD undef by simp [Act.eval]).trans e154; have hs157 := (show a.eval (.tmp 157) = a.tmps[157]?.getD undef by simp [Act.eval]).trans e157; simp only [execOp, resolve, invoke, builtin, Sem.run_bind, Sem.run_pure, Result.andThen_ok, List.map_toArray, List.map_cons, List.map_nil, hs154, hs157, hr]
        · match j, hj with | 0, _ => rw [vv0, vv0] | 1, _ => rw [vv1, vv1] | 2, _ => rw [vv2, vv2] | 3, _ => rw [vv3, vv3] | 4, _ => rw [vv4, vv4] | 5, _ => rw [vv5, vv5] | 6, _ => rw [vv6, vv6] | 7, _ => rw [vv7, vv7] | 8, h => rw [hb] at h; cases h | 9, _ => rw [vv9, vv9] | 10, _ => rw [vv10, vv10] | k + 11, _ => rw [hLe]; rfl
        · refine ⟨hS.1.weak (fun k _ hk => ⟨hk.1, by simpa [did] using hk.2⟩), fun h => hS.2.1 (by simpa [did] using h), fun _ => ⟨1, ?_⟩, fun h => hS.2.2.2.1 (by simpa [did] using h), fun h => hS.2.2.2.2 (by simpa [did] using h)⟩
          rw [List.drop_of_length_le (by omega)]
          exact ⟨q1, cs1, rfl, h11, h12, h13, h14⟩
      · obtain ⟨ad, hte, hty⟩ := hRW.tail (at_ := aT) (by omega)
        obtain ⟨v2, W2, c2, hr, hrv, hbel⟩ := app_new hu hi hz0 hz1 hz2 (by decide) 27 w1 W hS.1.size (some ⟨q1, 0, none⟩) 1 [(.int .i64 0)] rfl (fun j u hj => ⟨q1, rfl, by rw [cellOf h13]; exact h14 j u hj⟩) (.inr ⟨q1, rfl⟩) ad (nN - aT) (cN - aT) (xs.drop aT) (by rw [List.length_drop]; omega) hty (by omega) (by omega)
        rw [hte] at e157
        have hoF : Only (fun _ => False) W W2 := Below.only hbel _
        refine doesg_value rfl (by intro c h; cases h) (v := v2) (w' := W2) ?_ ⟨(g.1, v2, g.2.2), fun j hj => ?_, (vv8 (g.1, v2, g.2.2)).symm, ?_⟩
        · have hs154 := (show a.eval (.tmp 154) = a.tmps[154]?.getD undef by simp [Act.eval]).trans e154; have hs157 := (show a.eval (.tmp 157) = a.tmps[157]?.getD undef by simp [Act.eval]).trans e157; simp only [execOp, resolve, invoke, builtin, Sem.run_bind, Sem.run_pure, Result.andThen_ok, List.map_toArray, List.map_cons, List.map_nil, hs154, hs157, hr]
        · match j, hj with | 0, _ => rw [vv0, vv0] | 1, _ => rw [vv1, vv1] | 2, _ => rw [vv2, vv2] | 3, _ => rw [vv3, vv3] | 4, _ => rw [vv4, vv4] | 5, _ => rw [vv5, vv5] | 6, _ => rw [vv6, vv6] | 7, _ => rw [vv7, vv7] | 8, h => rw [hb] at h; cases h | 9, _ => rw [vv9, vv9] | 10, _ => rw [vv10, vv10] | k + 11, _ => rw [hLe]; rfl
        · refine ⟨(hS.1.trans hoF (fun _ f => f.elim)).weak (fun k _ hk => ⟨hk.1, by simpa [did] using hk.2⟩), fun h => ?_, fun h => ?_, fun h => ?_, fun h => ?_⟩
          · exact (hS.2.1 (by simpa [did] using h)).only hoF (fun _ f => f.elim)
          · exact ⟨c2, hrv⟩
          · obtain ⟨c, hc⟩ := hS.2.2.2.1 (by simpa [did] using h); exact ⟨c, hc.only hoF (fun _ f => f.elim)⟩
          · have h9 := hS.2.2.2.2 (by simpa [did] using h)
            exact (hoF.block NB (block_lt h9) (fun f => f)).trans h9
    | 9 =>
      simp only [List.getElem?_toArray, List.getElem?_cons_zero, List.getElem?_cons_succ, Option.some.injEq] at ho
      subst ho
      have p3 : b 3 = true := hd ⟨3, .data⟩ (by simp) rfl
      have p8 : b 8 = true := hd ⟨8, .data⟩ (by simp) rfl
      have e153 := (ev 3 153 rfl p3).trans (vv3 g)
      have e158 := (ev 8 158 rfl p8).trans (vv8 g)
      have hRW : Rw W lo 3 pN nN cN xs := hR.kept hS.1 (fun q cs hq hk => by obtain ⟨rfl, _⟩ := hk; rw [hNB] at hq; cases hq)
      obtain ⟨c1, q1, cs1, e1, h11, h12, h13, h14⟩ := hS.2.2.1 p8
      rw [e1] at e158
      have hxl : (xs.take aT).length = aT := by rw [List.length_take]; omega
      obtain ⟨v2, W2, c2, hr, hrv, hbel⟩ := app_new hu hi hz0 hz1 hz2 (by decide) 27 w1 W hS.1.size pN aT (xs.take aT) hxl (hRW.head aT).1 (hRW.head aT).2 ⟨q1, 0, none⟩ ((.int .i64 0) :: xs.drop aT).length c1 ((.int .i64 0) :: xs.drop aT) rfl (fun j u hj => by rw [Addr.add_lit, Nat.zero_add, cellOf h13]; exact h14 j u hj) (by simp) (by rw [List.length_cons, List.length_drop]; omega)
      have hoF : Only (fun _ => False) W W2 := Below.only hbel _
      refine doesg_value rfl (by intro c h; cases h) (v := v2) (w' := W2) ?_ ⟨(g.1, g.2.1, v2), fun j hj => ?_, (vv9 (g.1, g.2.1, v2)).symm, ?_⟩
      · generalize ((.int .i64 0) :: xs.drop aT).length = mL at *
        have hs153 := (show a.eval (.tmp 153) = a.tmps[153]?.getD undef by simp [Act.eval]).trans e153; have hs158 := (show a.eval (.tmp 158) = a.tmps[158]?.getD undef by simp [Act.eval]).trans e158; simp only [execOp, resolve, invoke, builtin, Sem.run_bind, Sem.run_pure, Result.andThen_ok, List.map_toArray, List.map_cons, List.map_nil, hs153, hs158, hr]
      · match j, hj with | 0, _ => rw [vv0, vv0] | 1, _ => rw [vv1, vv1] | 2, _ => rw [vv2, vv2] | 3, _ => rw [vv3, vv3] | 4, _ => rw [vv4, vv4] | 5, _ => rw [vv5, vv5] | 6, _ => rw [vv6, vv6] | 7, _ => rw [vv7, vv7] | 8, _ => rw [vv8, vv8] | 9, h => rw [hb] at h; cases h | 10, _ => rw [vv10, vv10] | k + 11, _ => rw [hLe]; rfl
      · refine ⟨(hS.1.trans hoF (fun _ f => f.elim)).weak (fun k _ hk => ⟨hk.1, by simpa [did] using hk.2⟩), fun h => ?_, fun h => ?_, fun h => ?_, fun h => ?_⟩
        · exact (hS.2.1 (by simpa [did] using h)).only hoF (fun _ f => f.elim)
        · obtain ⟨c, hc⟩ := hS.2.2.1 (by simpa [did] using h); exact ⟨c, hc.only hoF (fun _ f => f.elim)⟩
        · exact ⟨c2, hrv⟩
        · exfalso; have hq : b 10 = true := by simpa [did] using h
          have q8 := hcl 10 _ rfl hq ⟨9, .data⟩ (by simp) rfl; rw [hb] at q8; cases q8
    | 10 =>
      simp only [List.getElem?_toArray, List.getElem?_cons_zero, List.getElem?_cons_succ, Option.some.injEq] at ho
      subst ho
      have p9 : b 9 = true := hd ⟨9, .data⟩ (by simp) rfl
      have e6 : a.tmps[6]?.getD undef = .pointer (some ⟨NB, 0, none⟩) := (kp 6 (none_till (by kernel_rfl))).trans b6
      have e159 := (ev 9 159 rfl p9).trans (vv9 g)
      obtain ⟨c1, hrv⟩ := hS.2.2.2.1 p9
      have hWN : W.heap[NB]? = some (.cells #[.slice pN nN cN] 27 (0, 0)) := (hS.1.block NB hNBl (by rintro ⟨_, e⟩; rw [hb] at e; cases e)).trans hNB
      have hy : W.cell? ⟨NB, 0, none⟩ = some (.slice pN nN cN) := cellOf hWN 0
      have hf := frozenOf hWN 0
      have hoB : Only (fun k => k = NB) W (W.setCell ⟨NB, 0, none⟩ g.2.2) := Only.setCell W ⟨NB, 0, none⟩ _ rfl
      have hlt : ∀ k, k = NB → k < w1.heap.size := fun k hk => by rw [hk]; exact hNBl
      have hv2 : ∃ p3 n3 c3, g.2.2 = .slice p3 n3 c3 := by obtain ⟨q3, cs3, e3, _⟩ := hrv; exact ⟨_, _, _, e3⟩
      refine doesg_skip rfl (by intro c h; cases h) (w' := W.setCell ⟨NB, 0, none⟩ g.2.2) ?_ ⟨g, fun _ _ => rfl, (vv10 g).symm, ?_⟩
      · obtain ⟨p3, n3, c3, e3⟩ := hv2
        rw [e3] at e159 ⊢
        simp [execOp, go_sem, e159, e6, hy, hf]
      · refine ⟨(hS.1.weak (T := fun k => k = NB ∧ did b 10 10 = true) (fun k _ hk => ⟨hk.1, by simp [did]⟩)).trans hoB (fun k hk => .inl ⟨hk, by simp [did]⟩), fun h => (hS.2.1 (by simpa [did] using h)).only hoB hlt, fun h => ?_, fun h => ⟨c1, hrv.only hoB hlt⟩, fun _ => ?_⟩
        · obtain ⟨c, hc⟩ := hS.2.2.1 (by simpa [did] using h); exact ⟨c, hc.only hoB hlt⟩
        · simp only [World.setCell, Array.getElem?_modify, hWN]
          simp
    | k + 11 => simp at ho
  · intro g b W hS hall
    obtain ⟨h1, _, _, h4, h5⟩ := hS
    obtain ⟨c3, hrv⟩ := h4 (hall 9 (by decide))
    obtain ⟨p3, e3, hrw⟩ := hrv.rw hlo
    have hl3 : (xs.take aT ++ (.int .i64 0) :: xs.drop aT).length = nN + 1 := by simp; omega
    rw [hl3] at e3 hrw
    have h6 := h5 (hall 10 (by decide))
    rw [e3] at h6
    subst hLe
    exact hQ g W p3 c3 (h1.weak (fun k _ hk => hk.1)) h6 hrw

set_option maxRecDepth 8000 in
set_option maxHeartbeats 4000000 in
theorem all_reg40 {Q : Exit → Act → World → Prop} {base : Array Value} {d : List Deferred} {ops : Array Oper} (hops : Tryd.f3.body.bind (regs 40) = some ops) (NB nN cN aT lo : Nat) (pN : Option Addr) (xs : List Value) (w1 : World) (hsz : base.size = 282)
    (b5 : base.getD 5 undef = .pointer (some ⟨NB, 0, none⟩))
    (b9 : base.getD 9 undef = .int .i64 (aT : Nat))
    (hNB : w1.heap[NB]? = some (.cells #[.slice pN nN cN] 26 (0, 0))) (hR : Rw w1 lo 9 pN nN cN xs) (haT : aT < nN) (hsm : nN ≤ 5000) (hlo : lo ≤ w1.heap.size)
    (hQ : ∀ g W p3 c3, Only (fun k => k = NB) w1 W → W.heap[NB]? = some (.cells #[.slice p3 (nN - 1) c3] 26 (0, 0)) → Rw W lo 9 p3 (nN - 1) c3 (xs.take aT ++ xs.drop (aT + 1)) → Q .normal ⟨putAll base ((fun g : Value => [(some 184, .slice pN nN cN), (some 185, .int .i64 (aT : Nat)), (some 186, .int .i64 (aT : Nat)), (some 187, .slice pN aT aT), (some 188, .slice pN nN cN), (some 189, .int .i64 (aT : Nat)), (some 190, .int .i64 ((aT + 1 : Nat) : Int)), (some 191, .slice (tailP pN cN (aT + 1)) (nN - (aT + 1)) (cN - (aT + 1))), (some 192, g), (none, undef)]) g), d⟩ W) :
    (Code.region 40 ops true).wp Tryd.prog Q ⟨base, d⟩ w1 := by
  have hmix : Tryd.prog.follows .mixedOrders = true := by kernel_rfl
  have h2 := (show Tryd.f3.body.bind (regs 40) = some _ from rfl).symm.trans hops
  obtain rfl := Option.some.inj h2
  clear h2 hops
  have below1 : Below w1.heap.size w1 w1.drew := (Below.refl _ _).drew
  have hNBl : NB < w1.heap.size := block_lt hNB
  have dN : w1.cell? ⟨NB, 0, none⟩ = some (.slice pN nN cN) := cellOf hNB 0
  obtain ⟨i0, hi, hz0, hz1, hz2⟩ := info9s
  have hu : Tryd.prog.underlying 26 = some (.slice 9) := Tryd.underlying26
  have hxn := hR.1
  have hH := fun W => slice_head hu hi pN (hR.head 0).2 nN cN aT W (by omega) hR.2.1
  have hT := fun W => slice_tail hu hi hz1 pN nN cN (aT + 1) W (by omega)
  obtain ⟨LL, hLe⟩ : ∃ LL : Value → List (Option Tmp × Value), LL = fun g : Value => [(some 184, .slice pN nN cN), (some 185, .int .i64 (aT : Nat)), (some 186, .int .i64 (aT : Nat)), (some 187, .slice pN aT aT), (some 188, .slice pN nN cN), (some 189, .int .i64 (aT : Nat)), (some 190, .int .i64 ((aT + 1 : Nat) : Int)), (some 191, .slice (tailP pN cN (aT + 1)) (nN - (aT + 1)) (cN - (aT + 1))), (some 192, g), (none, undef)] := ⟨_, rfl⟩
  have vv0 : ∀ g, vals (LL g) 0 = .slice pN nN cN := fun g => by rw [hLe]; rfl
  have vv1 : ∀ g, vals (LL g) 1 = .int .i64 (aT : Nat) := fun g => by rw [hLe]; rfl
  have vv2 : ∀ g, vals (LL g) 2 = .int .i64 (aT : Nat) := fun g => by rw [hLe]; rfl
  have vv3 : ∀ g, vals (LL g) 3 = .slice pN aT aT := fun g => by rw [hLe]; rfl
  have vv4 : ∀ g, vals (LL g) 4 = .slice pN nN cN := fun g => by rw [hLe]; rfl
  have vv5 : ∀ g, vals (LL g) 5 = .int .i64 (aT : Nat) := fun g => by rw [hLe]; rfl
  have vv6 : ∀ g, vals (LL g) 6 = .int .i64 ((aT + 1 : Nat) : Int) := fun g => by rw [hLe]; rfl
  have vv7 : ∀ g, vals (LL g) 7 = .slice (tailP pN cN (aT + 1)) (nN - (aT + 1)) (cN - (aT + 1)) := fun g => by rw [hLe]; rfl
  have vv8 : ∀ g, vals (LL g) 8 = g := fun g => by rw [hLe]; rfl
  have vv9 : ∀ g, vals (LL g) 9 = undef := fun g => by rw [hLe]; rfl
  refine region_laidg hmix (by kernel_rfl) 282 hsz (by kernel_rfl) (.slice none 0 0) LL (fun g => by rw [hLe]; rfl) (fun g b W => Only (fun k => k = NB ∧ b 9 = true) w1 W ∧ (b 8 = true → ∃ p3 c3, g = .slice p3 (nN - 1) c3 ∧ Rw W lo 9 p3 (nN - 1) c3 (xs.take aT ++ xs.drop (aT + 1))) ∧ (b 9 = true → W.heap[NB]? = some (.cells #[g] 26 (0, 0)))) ⟨Below.only below1 _, fun h => (by cases h), fun h => (by cases h)⟩ ?_ ?_
  · intro g b W io o a hS hcl ho hb hd ev kp yl
    match io with
    | 0 =>
      simp only [List.getElem?_toArray, List.getElem?_cons_zero, Option.some.injEq] at ho
      subst ho
      have e5 : a.tmps[5]?.getD undef = .pointer (some ⟨NB, 0, none⟩) := (kp 5 (none_till (by kernel_rfl))).trans b5
      have qST : b 9 = false := by cases hq : b 9 with | false => rfl | true => (exfalso; have q8 := hcl 9 _ rfl hq ⟨8, .data⟩ (by simp) rfl; have q3 := hcl 8 _ rfl q8 ⟨3, .data⟩ (by simp) rfl; have q0 := hcl 3 _ rfl q3 ⟨0, .data⟩ (by simp) rfl; rw [hb] at q0; cases q0)
      have hl := hS.1.cell dN (by rintro ⟨_, e⟩; rw [qST] at e; cases e)
      refine doesg_value rfl (by intro c h; cases h) (v := .slice pN nN cN) (w' := W) ?_ ⟨g, fun _ _ => rfl, (vv0 g).symm, ?_⟩
      · simp [execOp, go_sem, e5, hl]
      · simpa [did] using hS
    | 1 =>
      simp only [List.getElem?_toArray, List.getElem?_cons_zero, List.getElem?_cons_succ, Option.some.injEq] at ho
      subst ho
      have e9 : a.tmps[9]?.getD undef = .int .i64 (aT : Nat) := (kp 9 (none_till (by kernel_rfl))).trans b9
      refine doesg_value rfl (by intro c h; cases h) (v := .int .i64 (aT : Nat)) (w' := W) ?_ ⟨g, fun _ _ => rfl, (vv1 g).symm, ?_⟩
      · simp [execOp, go_sem, e9]
      · simpa [did] using hS
    | 2 =>
      simp only [List.getElem?_toArray, List.getElem?_cons_zero, List.getElem?_cons_succ, Option.some.injEq] at ho
      subst ho
      have e9 : a.tmps[9]?.getD undef = .int .i64 (aT : Nat) := (kp 9 (none_till (by kernel_rfl))).trans b9
      refine doesg_value rfl (by intro c h; cases h) (v := .int .i64 (aT : Nat)) (w' := W) ?_ ⟨g, fun _ _ => rfl, (vv2 g).symm, ?_⟩
      · simp [execOp, go_sem, e9]
      · simpa [did] using hS
    | 3 =>
      simp only [List.getElem?_toArray, List.getElem?_cons_zero, List.getElem?_cons_succ, Option.some.injEq] at ho
      subst ho
      have p0 : b 0 = true := hd ⟨0, .data⟩ (by simp) rfl
      have p1 : b 1 = true := hd ⟨1, .data⟩ (by simp) rfl
      have p2 : b 2 = true := hd ⟨2, .data⟩ (by simp) rfl
      have e184 := (ev 0 184 rfl p0).trans (vv0 g)
      have e185 := (ev 1 185 rfl p1).trans (vv1 g)
      have e186 := (ev 2 186 rfl p2).trans (vv2 g)
      refine doesg_value rfl (by intro c h; cases h) (v := .slice pN aT aT) (w' := W) ?_ ⟨g, fun _ _ => rfl, (vv3 g).symm, ?_⟩
      · simp [execOp, Act.eval, e184, e185, e186, hH W]
      · simpa [did] using hS
    | 4 =>
      simp only [List.getElem?_toArray, List.getElem?_cons_zero, List.getElem?_cons_succ, Option.some.injEq] at ho
      subst ho
      have e5 : a.tmps[5]?.getD undef = .pointer (some ⟨NB, 0, none⟩) := (kp 5 (none_till (by kernel_rfl))).trans b5
      have qST : b 9 = false := by cases hq : b 9 with | false => rfl | true => (exfalso; have q8 := hcl 9 _ rfl hq ⟨8, .data⟩ (by simp) rfl; have q7 := hcl 8 _ rfl q8 ⟨7, .data⟩ (by simp) rfl; have q4 := hcl 7 _ rfl q7 ⟨4, .data⟩ (by simp) rfl; rw [hb] at q4; cases q4)
      have hl := hS.1.cell dN (by rintro ⟨_, e⟩; rw [qST] at e; cases e)
      refine doesg_value rfl (by intro c h; cases h) (v := .slice pN nN cN) (w' := W) ?_ ⟨g, fun _ _ => rfl, (vv4 g).symm, ?_⟩
      · simp [execOp, go_sem, e5, hl]
      · simpa [did] using hS
    | 5 =>
      simp only [List.getElem?_toArray, List.getElem?_cons_zero, List.getElem?_cons_succ, Option.some.injEq] at ho
      subst ho
      have e9 : a.tmps[9]?.getD undef = .int .i64 (aT : Nat) := (kp 9 (none_till (by kernel_rfl))).trans b9
      refine doesg_value rfl (by intro c h; cases h) (v := .int .i64 (aT : Nat)) (w' := W) ?_ ⟨g, fun _ _ => rfl, (vv5 g).symm, ?_⟩
      · simp [execOp, go_sem, e9]
      · simpa [did] using hS
    | 6 =>
      simp only [List.getElem?_toArray, List.getElem?_cons_zero, List.getElem?_cons_succ, Option.some.injEq] at ho
      subst ho
      have p5 : b 5 = true := hd ⟨5, .data⟩ (by simp) rfl
      have e189 := (ev 5 189 rfl p5).trans (vv5 g)
      refine doesg_value rfl (by intro c h; cases h) (v := .int .i64 ((aT + 1 : Nat) : Int)) (w' := W) ?_ ⟨g, fun _ _ => rfl, (vv6 g).symm, ?_⟩
      · simp [execOp, go_sem, e189]; rw [IntKind.wrap_i64] <;> omega
      · simpa [did] using hS
    | 7 =>
      simp only [List.getElem?_toArray, List.getElem?_cons_zero, List.getElem?_cons_succ, Option.some.injEq] at ho
      subst ho
      have p4 : b 4 = true := hd ⟨4, .data⟩ (by simp) rfl
      have p6 : b 6 = true := hd ⟨6, .data⟩ (by simp) rfl
      have e188 := (ev 4 188 rfl p4).trans (vv4 g)
      have e190 := (ev 6 190 rfl p6).trans (vv6 g)
      refine doesg_value rfl (by intro c h; cases h) (v := .slice (tailP pN cN (aT + 1)) (nN - (aT + 1)) (cN - (aT + 1))) (w' := W) ?_ ⟨g, fun _ _ => rfl, (vv7 g).symm, ?_⟩
      · have hT1 := hT W; simp only [Int.natCast_add, Int.cast_ofNat_Int] at hT1 e190; simp [execOp, Act.eval, e188, e190, hT1]
      · simpa [did] using hS
    | 8 =>
      simp only [List.getElem?_toArray, List.getElem?_cons_zero, List.getElem?_cons_succ, Option.some.injEq] at ho
      subst ho
      have p3 : b 3 = true := hd ⟨3, .data⟩ (by simp) rfl
      have p7 : b 7 = true := hd ⟨7, .data⟩ (by simp) rfl
      have e187 := (ev 3 187 rfl p3).trans (vv3 g)
      have e191 := (ev 7 191 rfl p7).trans (vv7 g)
      have hRW : Rw W lo 9 pN nN cN xs := hR.kept hS.1 (fun q cs hq hk => by obtain ⟨rfl, _⟩ := hk; rw [hNB] at hq; cases hq)
      by_cases hE : aT + 1 = nN
      · have hr := app_none hu hi 26 W pN aT aT (Nat.le_refl _) (tailP pN cN (aT + 1)) (cN - (aT + 1))
        rw [show nN - (aT + 1) = 0 by omega] at e191
        refine doesg_value rfl (by intro c h; cases h) (v := .slice pN aT aT) (w' := W) ?_ ⟨.slice pN aT aT, fun j hj => ?_, (vv8 _).symm, ?_⟩
        · have hs187 := (show a.eval (.tmp 187) = a.tmps[187]?.getD undef by simp [Act.eval]).trans e187; have hs191 := (show a.eval (.tmp 191) = a.tmps[191]?.getD undef by simp [Act.eval]).trans e191; simp only [execOp, resolve, invoke, builtin, Sem.run_bind, Sem.run_pure, Result.andThen_ok, List.map_toArray, List.map_cons, List.map_nil, hs187, hs191, hr]
        · match j, hj with | 0, _ => rw [vv0, vv0] | 1, _ => rw [vv1, vv1] | 2, _ => rw [vv2, vv2] | 3, _ => rw [vv3, vv3] | 4, _ => rw [vv4, vv4] | 5, _ => rw [vv5, vv5] | 6, _ => rw [vv6, vv6] | 7, _ => rw [vv7, vv7] | 8, h => rw [hb] at h; cases h | 9, _ => rw [vv9, vv9] | k + 10, _ => rw [hLe]; rfl
        · refine ⟨hS.1.weak (fun k _ hk => ⟨hk.1, by simpa [did] using hk.2⟩), fun _ => ⟨pN, aT, by rw [show nN - 1 = aT by omega], ?_⟩, fun h => ?_⟩
          · rw [show nN - 1 = aT by omega]; exact hRW.cutAt hE
          · exfalso
            have hq : b 9 = true := by simpa [did] using h
            have q8 := hcl 9 _ rfl hq ⟨8, .data⟩ (by simp) rfl
            rw [hb] at q8; cases q8
      · obtain ⟨ad, hte, hty⟩ := hRW.tail (at_ := aT + 1) (by omega)
        have hxl : (xs.take aT).length = aT := by rw [List.length_take]; omega
        obtain ⟨v2, W2, c2, hr, hrv, hbel⟩ := app_new hu hi hz0 hz1 hz2 (by decide) 26 w1 W hS.1.size pN aT (xs.take aT) hxl (hRW.head aT).1 (hRW.head aT).2 ad (nN - (aT + 1)) (cN - (aT + 1)) (xs.drop (aT + 1)) (by rw [List.length_drop]; omega) hty (by omega) (by omega)
        rw [hte] at e191
        have hoF : Only (fun _ => False) W W2 := Below.only hbel _
        refine doesg_value rfl (by intro c h; cases h) (v := v2) (w' := W2) ?_ ⟨v2, fun j hj => ?_, (vv8 _).symm, ?_⟩
        · have hs187 := (show a.eval (.tmp 187) = a.tmps[187]?.getD undef by simp [Act.eval]).trans e187; have hs191 := (show a.eval (.tmp 191) = a.tmps[191]?.getD undef by simp [Act.eval]).trans e191; simp only [execOp, resolve, invoke, builtin, Sem.run_bind, Sem.run_pure, Result.andThen_ok, List.map_toArray, List.map_cons, List.map_nil, hs187, hs191, hr]
        · match j, hj with | 0, _ => rw [vv0, vv0] | 1, _ => rw [vv1, vv1] | 2, _ => rw [vv2, vv2] | 3, _ => rw [vv3, vv3] | 4, _ => rw [vv4, vv4] | 5, _ => rw [vv5, vv5] | 6, _ => rw [vv6, vv6] | 7, _ => rw [vv7, vv7] | 8, h => rw [hb] at h; cases h | 9, _ => rw [vv9, vv9] | k + 10, _ => rw [hLe]; rfl
        · obtain ⟨p3, e3, hrw⟩ := hrv.rw hlo
          have hl3 : (xs.take aT ++ xs.drop (aT + 1)).length = nN - 1 := by simp; omega
          rw [hl3] at e3 hrw
          refine ⟨(hS.1.trans hoF (fun _ f => f.elim)).weak (fun k _ hk => ⟨hk.1, by simpa [did] using hk.2⟩), fun _ => ⟨p3, c2, e3, hrw⟩, fun h => ?_⟩
          exfalso
          have hq : b 9 = true := by simpa [did] using h
          have q8 := hcl 9 _ rfl hq ⟨8, .data⟩ (by simp) rfl
          rw [hb] at q8; cases q8
    | 9 =>
      simp only [List.getElem?_toArray, List.getElem?_cons_zero, List.getElem?_cons_succ, Option.some.injEq] at ho
      subst ho
      have p8 : b 8 = true := hd ⟨8, .data⟩ (by simp) rfl
      have e5 : a.tmps[5]?.getD undef = .pointer (some ⟨NB, 0, none⟩) := (kp 5 (none_till (by kernel_rfl))).trans b5
      have e192 := (ev 8 192 rfl p8).trans (vv8 g)
      obtain ⟨p3, c3, e3, hrw⟩ := hS.2.1 p8
      have hWN : W.heap[NB]? = some (.cells #[.slice pN nN cN] 26 (0, 0)) := (hS.1.block NB hNBl (by rintro ⟨_, e⟩; rw [hb] at e; cases e)).trans hNB
      have hy : W.cell? ⟨NB, 0, none⟩ = some (.slice pN nN cN) := cellOf hWN 0
      have hf := frozenOf hWN 0
      have hoB : Only (fun k => k = NB) W (W.setCell ⟨NB, 0, none⟩ g) := Only.setCell W ⟨NB, 0, none⟩ _ rfl
      refine doesg_skip rfl (by intro c h; cases h) (w' := W.setCell ⟨NB, 0, none⟩ g) ?_ ⟨g, fun _ _ => rfl, (vv9 g).symm, ?_⟩
      · rw [e3] at e192 ⊢
        simp [execOp, go_sem, e192, e5, hy, hf]
      · refine ⟨(hS.1.weak (T := fun k => k = NB ∧ did b 9 9 = true) (fun k _ hk => ⟨hk.1, by simp [did]⟩)).trans hoB (fun k hk => .inl ⟨hk, by simp [did]⟩), fun _ => ⟨p3, c3, e3, hrw.kept hoB (fun q cs hq hk => by rw [hk, hWN] at hq; cases hq)⟩, fun _ => ?_⟩
        simp only [World.setCell, Array.getElem?_modify, hWN]
        simp
    | k + 10 => simp at ho
  · intro g b W hS hall
    obtain ⟨h1, h4, h5⟩ := hS
    obtain ⟨p3, c3, e3, hrw⟩ := h4 (hall 8 (by decide))
    have h6 := h5 (hall 9 (by decide))
    rw [e3] at h6
    subst hLe
    exact hQ g W p3 c3 (h1.weak (fun k _ hk => hk.1)) h6 hrw

set_option maxRecDepth 8000 in
set_option maxHeartbeats 4000000 in
theorem all_reg41 {Q : Exit → Act → World → Prop} {base : Array Value} {d : List Deferred} {ops : Array Oper} (hops : Tryd.f3.body.bind (regs 41) = some ops) (NB nN cN aT lo : Nat) (pN : Option Addr) (xs : List Value) (w1 : World) (hsz : base.size = 282)
    (b6 : base.getD 6 undef = .pointer (some ⟨NB, 0, none⟩))
    (b9 : base.getD 9 undef = .int .i64 (aT : Nat))
    (hNB : w1.heap[NB]? = some (.cells #[.slice pN nN cN] 27 (0, 0))) (hR : Rw w1 lo 3 pN nN cN xs) (haT : aT < nN) (hsm : nN ≤ 5000) (hlo : lo ≤ w1.heap.size)
    (hQ : ∀ g W p3 c3, Only (fun k => k = NB) w1 W → W.heap[NB]? = some (.cells #[.slice p3 (nN - 1) c3] 27 (0, 0)) → Rw W lo 3 p3 (nN - 1) c3 (xs.take aT ++ xs.drop (aT + 1)) → Q .normal ⟨putAll base ((fun g : Value => [(some 193, .slice pN nN cN), (some 194, .int .i64 (aT : Nat)), (some 195, .int .i64 (aT : Nat)), (some 196, .slice pN aT aT), (some 197, .slice pN nN cN), (some 198, .int .i64 (aT : Nat)), (some 199, .int .i64 ((aT + 1 : Nat) : Int)), (some 200, .slice (tailP pN cN (aT + 1)) (nN - (aT + 1)) (cN - (aT + 1))), (some 201, g), (none, undef)]) g), d⟩ W) :
    (Code.region 41 ops true).wp Tryd.prog Q ⟨base, d⟩ w1 := by
  have hmix : Tryd.prog.follows .mixedOrders = true := by kernel_rfl
  have h2 := (show Tryd.f3.body.bind (regs 41) = some _ from rfl).symm.trans hops
  obtain rfl := Option.some.inj h2
  clear h2 hops
  have below1 : Below w1.heap.size w1 w1.drew := (Below.refl _ _).drew
  have hNBl : NB < w1.heap.size := block_lt hNB
  have dN : w1.cell? ⟨NB, 0, none⟩ = some (.slice pN nN cN) := cellOf hNB 0
  obtain ⟨i0, hi, hz0, hz1, hz2⟩ := info3s
  have hu : Tryd.prog.underlying 27 = some (.slice 3) := Tryd.underlying27
  have hxn := hR.1
  have hH := fun W => slice_head hu hi pN (hR.head 0).2 nN cN aT W (by omega) hR.2.1
  have hT := fun W => slice_tail hu hi hz1 pN nN cN (aT + 1) W (by omega)
  obtain ⟨LL, hLe⟩ : ∃ LL : Value → List (Option Tmp × Value), LL = fun g : Value => [(some 193, .slice pN nN cN), (some 194, .int .i64 (aT : Nat)), (some 195, .int .i64 (aT : Nat)), (some 196, .slice pN aT aT), (some 197, .slice pN nN cN), (some 198, .int .i64 (aT : Nat)), (some 199, .int .i64 ((aT + 1 : Nat) : Int)), (some 200, .slice (tailP pN cN (aT + 1)) (nN - (aT + 1)) (cN - (aT + 1))), (some 201, g), (none, undef)] := ⟨_, rfl⟩
  have vv0 : ∀ g, vals (LL g) 0 = .slice pN nN cN := fun g => by rw [hLe]; rfl
  have vv1 : ∀ g, vals (LL g) 1 = .int .i64 (aT : Nat) := fun g => by rw [hLe]; rfl
  have vv2 : ∀ g, vals (LL g) 2 = .int .i64 (aT : Nat) := fun g => by rw [hLe]; rfl
  have vv3 : ∀ g, vals (LL g) 3 = .slice pN aT aT := fun g => by rw [hLe]; rfl
  have vv4 : ∀ g, vals (LL g) 4 = .slice pN nN cN := fun g => by rw [hLe]; rfl
  have vv5 : ∀ g, vals (LL g) 5 = .int .i64 (aT : Nat) := fun g => by rw [hLe]; rfl
  have vv6 : ∀ g, vals (LL g) 6 = .int .i64 ((aT + 1 : Nat) : Int) := fun g => by rw [hLe]; rfl
  have vv7 : ∀ g, vals (LL g) 7 = .slice (tailP pN cN (aT + 1)) (nN - (aT + 1)) (cN - (aT + 1)) := fun g => by rw [hLe]; rfl
  have vv8 : ∀ g, vals (LL g) 8 = g := fun g => by rw [hLe]; rfl
  have vv9 : ∀ g, vals (LL g) 9 = undef := fun g => by rw [hLe]; rfl
  refine region_laidg hmix (by kernel_rfl) 282 hsz (by kernel_rfl) (.slice none 0 0) LL (fun g => by rw [hLe]; rfl) (fun g b W => Only (fun k => k = NB ∧ b 9 = true) w1 W ∧ (b 8 = true → ∃ p3 c3, g = .slice p3 (nN - 1) c3 ∧ Rw W lo 3 p3 (nN - 1) c3 (xs.take aT ++ xs.drop (aT + 1))) ∧ (b 9 = true → W.heap[NB]? = some (.cells #[g] 27 (0, 0)))) ⟨Below.only below1 _, fun h => (by cases h), fun h => (by cases h)⟩ ?_ ?_
  · intro g b W io o a hS hcl ho hb hd ev kp yl
    match io with
    | 0 =>
      simp only [List.getElem?_toArray, List.getElem?_cons_zero, Option.some.injEq] at ho
      subst ho
      have e6 : a.tmps[6]?.getD undef = .pointer (some ⟨NB, 0, none⟩) := (kp 6 (none_till (by kernel_rfl))).trans b6
      have qST : b 9 = false := by cases hq : b 9 with | false => rfl | true => (exfalso; have q8 := hcl 9 _ rfl hq ⟨8, .data⟩ (by simp) rfl; have q3 := hcl 8 _ rfl q8 ⟨3, .data⟩ (by simp) rfl; have q0 := hcl 3 _ rfl q3 ⟨0, .data⟩ (by simp) rfl; rw [hb] at q0; cases q0)
      have hl := hS.1.cell dN (by rintro ⟨_, e⟩; rw [qST] at e; cases e)
      refine doesg_value rfl (by intro c h; cases h) (v := .slice pN nN cN) (w' := W) ?_ ⟨g, fun _ _ => rfl, (vv0 g).symm, ?_⟩
      · simp [execOp, go_sem, e6, hl]
      · simpa [did] using hS
    | 1 =>
      simp only [List.getElem?_toArray, List.getElem?_cons_zero, List.getElem?_cons_succ, Option.some.injEq] at ho
      subst ho
      have e9 : a.tmps[9]?.getD undef = .int .i64 (aT : Nat) := (kp 9 (none_till (by kernel_rfl))).trans b9
      refine doesg_value rfl (by intro c h; cases h) (v := .int .i64 (aT : Nat)) (w' := W) ?_ ⟨g, fun _ _ => rfl, (vv1 g).symm, ?_⟩
      · simp [execOp, go_sem, e9]
      · simpa [did] using hS
    | 2 =>
      simp only [List.getElem?_toArray, List.getElem?_cons_zero, List.getElem?_cons_succ, Option.some.injEq] at ho
      subst ho
      have e9 : a.tmps[9]?.getD undef = .int .i64 (aT : Nat) := (kp 9 (none_till (by kernel_rfl))).trans b9
      refine doesg_value rfl (by intro c h; cases h) (v := .int .i64 (aT : Nat)) (w' := W) ?_ ⟨g, fun _ _ => rfl, (vv2 g).symm, ?_⟩
      · simp [execOp, go_sem, e9]
      · simpa [did] using hS
    | 3 =>
      simp only [List.getElem?_toArray, List.getElem?_cons_zero, List.getElem?_cons_succ, Option.some.injEq] at ho
      subst ho
      have p0 : b 0 = true := hd ⟨0, .data⟩ (by simp) rfl
      have p1 : b 1 = true := hd ⟨1, .data⟩ (by simp) rfl
      have p2 : b 2 = true := hd ⟨2, .data⟩ (by simp) rfl
      have e193 := (ev 0 193 rfl p0).trans (vv0 g)
      have e194 := (ev 1 194 rfl p1).trans (vv1 g)
      have e195 := (ev 2 195 rfl p2).trans (vv2 g)
      refine doesg_value rfl (by intro c h; cases h) (v := .slice pN aT aT) (w' := W) ?_ ⟨g, fun _ _ => rfl, (vv3 g).symm, ?_⟩
      · simp [execOp, Act.eval, e193, e194, e195, hH W]
      · simpa [did] using hS
    | 4 =>
      simp only [List.getElem?_toArray, List.getElem?_cons_zero, List.getElem?_cons_succ, Option.some.injEq] at ho
      subst ho
      have e6 : a.tmps[6]?.getD undef = .pointer (some ⟨NB, 0, none⟩) := (kp 6 (none_till (by kernel_rfl))).trans b6
      have qST : b 9 = false := by cases hq : b 9 with | false => rfl | true => (exfalso; have q8 := hcl 9 _ rfl hq ⟨8, .data⟩ (by simp) rfl; have q7 := hcl 8 _ rfl q8 ⟨7, .data⟩ (by simp) rfl; have q4 := hcl 7 _ rfl q7 ⟨4, .data⟩ (by simp) rfl; rw [hb] at q4; cases q4)
      have hl := hS.1.cell dN (by rintro ⟨_, e⟩; rw [qST] at e; cases e)
      refine doesg_value rfl (by intro c h; cases h) (v := .slice pN nN cN) (w' := W) ?_ ⟨g, fun _ _ => rfl, (vv4 g).symm, ?_⟩
      · simp [execOp, go_sem, e6, hl]
      · simpa [did] using hS
    | 5 =>
      simp only [List.getElem?_toArray, List.getElem?_cons_zero, List.getElem?_cons_succ, Option.some.injEq] at ho
      subst ho
      have e9 : a.tmps[9]?.getD undef = .int .i64 (aT : Nat) := (kp 9 (none_till (by kernel_rfl))).trans b9
      refine doesg_value rfl (by intro c h; cases h) (v := .int .i64 (aT : Nat)) (w' := W) ?_ ⟨g, fun _ _ => rfl, (vv5 g).symm, ?_⟩
      · simp [execOp, go_sem, e9]
      · simpa [did] using hS
    | 6 =>
      simp only [List.getElem?_toArray, List.getElem?_cons_zero, List.getElem?_cons_succ, Option.some.injEq] at ho
      subst ho
      have p5 : b 5 = true := hd ⟨5, .data⟩ (by simp) rfl
      have e198 := (ev 5 198 rfl p5).trans (vv5 g)
      refine doesg_value rfl (by intro c h; cases h) (v := .int .i64 ((aT + 1 : Nat) : Int)) (w' := W) ?_ ⟨g, fun _ _ => rfl, (vv6 g).symm, ?_⟩
      · simp [execOp, go_sem, e198]; rw [IntKind.wrap_i64] <;> omega
      · simpa [did] using hS
    | 7 =>
      simp only [List.getElem?_toArray, List.getElem?_cons_zero, List.getElem?_cons_succ, Option.some.injEq] at ho
      subst ho
      have p4 : b 4 = true := hd ⟨4, .data⟩ (by simp) rfl
      have p6 : b 6 = true := hd ⟨6, .data⟩ (by simp) rfl
      have e197 := (ev 4 197 rfl p4).trans (vv4 g)
      have e199 := (ev 6 199 rfl p6).trans (vv6 g)
      refine doesg_value rfl (by intro c h; cases h) (v := .slice (tailP pN cN (aT + 1)) (nN - (aT + 1)) (cN - (aT + 1))) (w' := W) ?_ ⟨g, fun _ _ => rfl, (vv7 g).symm, ?_⟩
      · have hT1 := hT W; simp only [Int.natCast_add, Int.cast_ofNat_Int] at hT1 e199; simp [execOp, Act.eval, e197, e199, hT1]
      · simpa [did] using hS
    | 8 =>
      simp only [List.getElem?_toArray, List.getElem?_cons_zero, List.getElem?_cons_succ, Option.some.injEq] at ho
      subst ho
      have p3 : b 3 = true := hd ⟨3, .data⟩ (by simp) rfl
      have p7 : b 7 = true := hd ⟨7, .data⟩ (by simp) rfl
      have e196 := (ev 3 196 rfl p3).trans (vv3 g)
      have e200 := (ev 7 200 rfl p7).trans (vv7 g)
      have hRW : Rw W lo 3 pN nN cN xs := hR.kept hS.1 (fun q cs hq hk => by obtain ⟨rfl, _⟩ := hk; rw [hNB] at hq; cases hq)
      by_cases hE : aT + 1 = nN
      · have hr := app_none hu hi 27 W pN aT aT (Nat.le_refl _) (tailP pN cN (aT + 1)) (cN - (aT + 1))
        rw [show nN - (aT + 1) = 0 by omega] at e200
        refine doesg_value rfl (by intro c h; cases h) (v := .slice pN aT aT) (w' := W) ?_ ⟨.slice pN aT aT, fun j hj => ?_, (vv8 _).symm, ?_⟩
        · have hs196 := (show a.eval (.tmp 196) = a.tmps[196]?.getD undef by simp [Act.eval]).trans e196; have hs200 := (show a.eval (.tmp 200) = a.tmps[200]?.getD undef by simp [Act.eval]).trans e200; simp only [execOp, resolve, invoke, builtin, Sem.run_bind, Sem.run_pure, Result.andThen_ok, List.map_toArray, List.map_cons, List.map_nil, hs196, hs200, hr]
        · match j, hj with | 0, _ => rw [vv0, vv0] | 1, _ => rw [vv1, vv1] | 2, _ => rw [vv2, vv2] | 3, _ => rw [vv3, vv3] | 4, _ => rw [vv4, vv4] | 5, _ => rw [vv5, vv5] | 6, _ => rw [vv6, vv6] | 7, _ => rw [vv7, vv7] | 8, h => rw [hb] at h; cases h | 9, _ => rw [vv9, vv9] | k + 10, _ => rw [hLe]; rfl
        · refine ⟨hS.1.weak (fun k _ hk => ⟨hk.1, by simpa [did] using hk.2⟩), fun _ => ⟨pN, aT, by rw [show nN - 1 = aT by omega], ?_⟩, fun h => ?_⟩
          · rw [show nN - 1 = aT by omega]; exact hRW.cutAt hE
          · exfalso
            have hq : b 9 = true := by simpa [did] using h
            have q8 := hcl 9 _ rfl hq ⟨8, .data⟩ (by simp) rfl
            rw [hb] at q8; cases q8
      · obtain ⟨ad, hte, hty⟩ := hRW.tail (at_ := aT + 1) (by omega)
        have hxl : (xs.take aT).length = aT := by rw [List.length_take]; omega
        obtain ⟨v2, W2, c2, hr, hrv, hbel⟩ := app_new hu hi hz0 hz1 hz2 (by decide) 27 w1 W hS.1.size pN aT (xs.take aT) hxl (hRW.head aT).1 (hRW.head aT).2 ad (nN - (aT + 1)) (cN - (aT + 1)) (xs.drop (aT + 1)) (by rw [List.length_drop]; omega) hty (by omega) (by omega)
        rw [hte] at e200
        have hoF : Only (fun _ => False) W W2 := Below.only hbel _
        refine doesg_value rfl (by intro c h; cases h) (v := v2) (w' := W2) ?_ ⟨v2, fun j hj => ?_, (vv8 _).symm, ?_⟩
        · have hs196 := (show a.eval (.tmp 196) = a.tmps[196]?.getD undef by simp [Act.eval]).trans e196; have hs200 := (show a.eval (.tmp 200) = a.tmps[200]?.getD undef by simp [Act.eval]).trans e200; simp only [execOp, resolve, invoke, builtin, Sem.run_bind, Sem.run_pure, Result.andThen_ok, List.map_toArray, List.map_cons, List.map_nil, hs196, hs200, hr]
        · match j, hj with | 0, _ => rw [vv0, vv0] | 1, _ => rw [vv1, vv1] | 2, _ => rw [vv2, vv2] | 3, _ => rw [vv3, vv3] | 4, _ => rw [vv4, vv4] | 5, _ => rw [vv5, vv5] | 6, _ => rw [vv6, vv6] | 7, _ => rw [vv7, vv7] | 8, h => rw [hb] at h; cases h | 9, _ => rw [vv9, vv9] | k + 10, _ => rw [hLe]; rfl
        · obtain ⟨p3, e3, hrw⟩ := hrv.rw hlo
          have hl3 : (xs.take aT ++ xs.drop (aT + 1)).length = nN - 1 := by simp; omega
          rw [hl3] at e3 hrw
          refine ⟨(hS.1.trans hoF (fun _ f => f.elim)).weak (fun k _ hk => ⟨hk.1, by simpa [did] using hk.2⟩), fun _ => ⟨p3, c2, e3, hrw⟩, fun h => ?_⟩
          exfalso
          have hq : b 9 = true := by simpa [did] using h
          have q8 := hcl 9 _ rfl hq ⟨8, .data⟩ (by simp) rfl
          rw [hb] at q8; cases q8
    | 9 =>
      simp only [List.getElem?_toArray, List.getElem?_cons_zero, List.getElem?_cons_succ, Option.some.injEq] at ho
      subst ho
      have p8 : b 8 = true := hd ⟨8, .data⟩ (by simp) rfl
      have e6 : a.tmps[6]?.getD undef = .pointer (some ⟨NB, 0, none⟩) := (kp 6 (none_till (by kernel_rfl))).trans b6
      have e201 := (ev 8 201 rfl p8).trans (vv8 g)
      obtain ⟨p3, c3, e3, hrw⟩ := hS.2.1 p8
      have hWN : W.heap[NB]? = some (.cells #[.slice pN nN cN] 27 (0, 0)) := (hS.1.block NB hNBl (by rintro ⟨_, e⟩; rw [hb] at e; cases e)).trans hNB
      have hy : W.cell? ⟨NB, 0, none⟩ = some (.slice pN nN cN) := cellOf hWN 0
      have hf := frozenOf hWN 0
      have hoB : Only (fun k => k = NB) W (W.setCell ⟨NB, 0, none⟩ g) := Only.setCell W ⟨NB, 0, none⟩ _ rfl
      refine doesg_skip rfl (by intro c h; cases h) (w' := W.setCell ⟨NB, 0, none⟩ g) ?_ ⟨g, fun _ _ => rfl, (vv9 g).symm, ?_⟩
      · rw [e3] at e201 ⊢
        simp [execOp, go_sem, e201, e6, hy, hf]
      · refine ⟨(hS.1.weak (T := fun k => k = NB ∧ did b 9 9 = true) (fun k _ hk => ⟨hk.1, by simp [did]⟩)).trans hoB (fun k hk => .inl ⟨hk, by simp [did]⟩), fun _ => ⟨p3, c3, e3, hrw.kept hoB (fun q cs hq hk => by rw [hk, hWN] at hq; cases hq)⟩, fun _ => ?_⟩
        simp only [World.setCell, Array.getElem?_modify, hWN]
        simp
    | k + 10 => simp at ho
  · intro g b W hS hall
    obtain ⟨h1, h4, h5⟩ := hS
    obtain ⟨p3, c3, e3, hrw⟩ := h4 (hall 8 (by decide))
    have h6 := h5 (hall 9 (by decide))
    rw [e3] at h6
    subst hLe
    exact hQ g W p3 c3 (h1.weak (fun k _ hk => hk.1)) h6 hrw

end Go.Proofs.YtdocablbkafkiaaDoor.Cd

/-
  The drawn regions of DirAll that only read.
-/
namespace Go.Proofs.YtdocablbkafkiaaDoor.Cd
open Go.RowKit Go.Maps

set_option maxRecDepth 8000 in
set_option maxHeartbeats 4000000 in
theorem all_reg13 {Q : Exit → Act → World → Prop} {base : Array Value} {d : List Deferred} {ops : Array Oper} (hops : Tryd.f3.body.bind (regs 13) = some ops) (NB ob nN cN aT : Nat) (pN : Option Addr) (sv : ByteArray) (cont : Bool) (w1 : World) (hsz : base.size = 282)
    (b5 : base.getD 5 undef = .pointer (some ⟨NB, 0, none⟩)) (b8 : base.getD 8 undef = .pointer (some ⟨ob, 0, none⟩)) (b9 : base.getD 9 undef = .int .i64 (aT : Nat))
    (dN : w1.cell? ⟨NB, 0, none⟩ = some (.slice pN nN cN)) (dO : w1.cell? ⟨ob, 1, none⟩ = some (.string sv))
    (hcase : (aT = nN ∧ cont = false) ∨ (aT < nN ∧ ∃ gN sx, pN = some ⟨gN, 0, none⟩ ∧ w1.cell? ⟨gN, aT, none⟩ = some (.string sx) ∧ Op.bytesLess sx.toList sv.toList = cont))
    (hQ : ∀ u49 u50 u51 u52 u53 u54 u55 u56 u57 W, Below w1.heap.size w1 W → Q .normal ⟨putAll base [(some 46, .int .i64 (aT : Nat)), (some 47, .slice pN nN cN), (some 48, .int .i64 (nN : Nat)), (some 49, u49), (some 50, u50), (some 51, u51), (some 52, u52), (some 53, u53), (some 54, u54), (some 55, u55), (some 56, u56), (some 57, u57), (some 58, .bool cont)], d⟩ W) :
    (Code.region 13 ops true).wp Tryd.prog Q ⟨base, d⟩ w1 := by
  have hmix : Tryd.prog.follows .mixedOrders = true := by kernel_rfl
  have h2 := (show Tryd.f3.body.bind (regs 13) = some _ from rfl).symm.trans hops
  obtain rfl := Option.some.inj h2
  clear h2 hops
  have below1 : Below w1.heap.size w1 w1.drew := (Below.refl _ _).drew
  rcases hcase with ⟨hE, hres⟩ | ⟨hL, gN, sx, hp, dX, hcmp⟩
  · subst hres
    have hI : ¬ (aT : Int) < (nN : Int) := by omega
    obtain ⟨LL, hLe⟩ : ∃ LL : List (Option Tmp × Value), LL = [(some 46, .int .i64 (aT : Nat)), (some 47, .slice pN nN cN), (some 48, .int .i64 (nN : Nat)), (some 49, .bool false), (some 50, .bool false), (some 51, undef), (some 52, undef), (some 53, undef), (some 54, undef), (some 55, undef), (some 56, undef), (some 57, undef), (some 58, .bool false)] := ⟨_, rfl⟩
    have vv0 : vals LL 0 = .int .i64 (aT : Nat) := by rw [hLe]; rfl
    have vv1 : vals LL 1 = .slice pN nN cN := by rw [hLe]; rfl
    have vv2 : vals LL 2 = .int .i64 (nN : Nat) := by rw [hLe]; rfl
    have vv3 : vals LL 3 = .bool false := by rw [hLe]; rfl
    have vv4 : vals LL 4 = .bool false := by rw [hLe]; rfl
    have vv5 : vals LL 5 = undef := by rw [hLe]; rfl
    have vv6 : vals LL 6 = undef := by rw [hLe]; rfl
    have vv7 : vals LL 7 = undef := by rw [hLe]; rfl
    have vv8 : vals LL 8 = undef := by rw [hLe]; rfl
    have vv9 : vals LL 9 = undef := by rw [hLe]; rfl
    have vv10 : vals LL 10 = undef := by rw [hLe]; rfl
    have vv11 : vals LL 11 = undef := by rw [hLe]; rfl
    have vv12 : vals LL 12 = .bool false := by rw [hLe]; rfl
    refine region_laid hmix (by kernel_rfl) 282 hsz (by kernel_rfl) LL (by rw [hLe]; rfl) (fun _ W => Below w1.heap.size w1 W) below1 ?_ ?_
    · intro b W i o a hS hcl ho hb hd ev kp yl
      match i with
      | 0 =>
        simp only [List.getElem?_toArray, List.getElem?_cons_zero, Option.some.injEq] at ho
        subst ho
        have e9 : a.tmps[9]?.getD undef = .int .i64 (aT : Nat) := (kp 9 (by kernel_rfl)).trans b9
        rw [vv0]
        refine does_value rfl (by intro c h; cases h) (w' := W) ?_ (hS)
        · simp [execOp, go_sem, e9]
      | 1 =>
        simp only [List.getElem?_toArray, List.getElem?_cons_zero, List.getElem?_cons_succ, Option.some.injEq] at ho
        subst ho
        have e5 : a.tmps[5]?.getD undef = .pointer (some ⟨NB, 0, none⟩) := (kp 5 (by kernel_rfl)).trans b5
        have hl := (hS.cell (p := ⟨NB, 0, none⟩) (cell_lt dN)).trans dN
        rw [vv1]
        refine does_value rfl (by intro c h; cases h) (w' := W) ?_ (hS)
        · simp [execOp, go_sem, e5, hl]
      | 2 =>
        simp only [List.getElem?_toArray, List.getElem?_cons_zero, List.getElem?_cons_succ, Option.some.injEq] at ho
        subst ho
        have p1 : b 1 = true := hd ⟨1, .data⟩ (by simp) rfl
        have e47 := (ev 1 47 rfl p1).trans vv1
        rw [vv2]
        refine does_value rfl (by intro c h; cases h) (w' := W) ?_ (hS)
        · simp [go_sem, e47]
      | 3 =>
        simp only [List.getElem?_toArray, List.getElem?_cons_zero, List.getElem?_cons_succ, Option.some.injEq] at ho
        subst ho
        have p0 : b 0 = true := hd ⟨0, .data⟩ (by simp) rfl
        have p2 : b 2 = true := hd ⟨2, .data⟩ (by simp) rfl
        have e46 := (ev 0 46 rfl p0).trans vv0
        have e48 := (ev 2 48 rfl p2).trans vv2
        rw [vv3]
        refine does_value rfl (by intro c h; cases h) (w' := W) ?_ (hS)
        · simp [execOp, go_sem, e46, e48, hE]
      | 4 =>
        simp only [List.getElem?_toArray, List.getElem?_cons_zero, List.getElem?_cons_succ, Option.some.injEq] at ho
        subst ho
        have p3 : b 3 = true := hd ⟨3, .data⟩ (by simp) rfl
        have e49 := (ev 3 49 rfl p3).trans vv3
        rw [vv4]
        refine does_value rfl (by intro c h; cases h) (w' := W) ?_ (hS)
        · simp [execOp, go_sem, e49]
      | 5 =>
        simp only [List.getElem?_toArray, List.getElem?_cons_zero, List.getElem?_cons_succ, Option.some.injEq] at ho
        subst ho
        have p4 : b 4 = true := hd ⟨4, .guard⟩ (by simp) rfl
        exact does_pass rfl (yl 4 50 false rfl p4 vv4) (by decide) vv5 (hS)
      | 6 =>
        simp only [List.getElem?_toArray, List.getElem?_cons_zero, List.getElem?_cons_succ, Option.some.injEq] at ho
        subst ho
        have p4 : b 4 = true := hd ⟨4, .guard⟩ (by simp) rfl
        exact does_pass rfl (yl 4 50 false rfl p4 vv4) (by decide) vv6 (hS)
      | 7 =>
        simp only [List.getElem?_toArray, List.getElem?_cons_zero, List.getElem?_cons_succ, Option.some.injEq] at ho
        subst ho
        have p5 : b 5 = true := hd ⟨5, .data⟩ (by simp) rfl
        have p6 : b 6 = true := hd ⟨6, .data⟩ (by simp) rfl
        have p4 : b 4 = true := hd ⟨4, .guard⟩ (by simp) rfl
        exact does_pass rfl (yl 4 50 false rfl p4 vv4) (by decide) vv7 (hS)
      | 8 =>
        simp only [List.getElem?_toArray, List.getElem?_cons_zero, List.getElem?_cons_succ, Option.some.injEq] at ho
        subst ho
        have p7 : b 7 = true := hd ⟨7, .data⟩ (by simp) rfl
        have p4 : b 4 = true := hd ⟨4, .guard⟩ (by simp) rfl
        exact does_pass rfl (yl 4 50 false rfl p4 vv4) (by decide) vv8 (hS)
      | 9 =>
        simp only [List.getElem?_toArray, List.getElem?_cons_zero, List.getElem?_cons_succ, Option.some.injEq] at ho
        subst ho
        have p4 : b 4 = true := hd ⟨4, .guard⟩ (by simp) rfl
        exact does_pass rfl (yl 4 50 false rfl p4 vv4) (by decide) vv9 (hS)
      | 10 =>
        simp only [List.getElem?_toArray, List.getElem?_cons_zero, List.getElem?_cons_succ, Option.some.injEq] at ho
        subst ho
        have p9 : b 9 = true := hd ⟨9, .data⟩ (by simp) rfl
        have p4 : b 4 = true := hd ⟨4, .guard⟩ (by simp) rfl
        exact does_pass rfl (yl 4 50 false rfl p4 vv4) (by decide) vv10 (hS)
      | 11 =>
        simp only [List.getElem?_toArray, List.getElem?_cons_zero, List.getElem?_cons_succ, Option.some.injEq] at ho
        subst ho
        have p8 : b 8 = true := hd ⟨8, .data⟩ (by simp) rfl
        have p10 : b 10 = true := hd ⟨10, .data⟩ (by simp) rfl
        have p4 : b 4 = true := hd ⟨4, .guard⟩ (by simp) rfl
        exact does_pass rfl (yl 4 50 false rfl p4 vv4) (by decide) vv11 (hS)
      | 12 =>
        simp only [List.getElem?_toArray, List.getElem?_cons_zero, List.getElem?_cons_succ, Option.some.injEq] at ho
        subst ho
        have p4 : b 4 = true := hd ⟨4, .data⟩ (by simp) rfl
        have p11 : b 11 = true := hd ⟨11, .data⟩ (by simp) rfl
        have e50 := (ev 4 50 rfl p4).trans vv4
        rw [vv12]
        refine does_value rfl (by intro c h; cases h) (w' := W) ?_ (hS)
        · simp [execOp, go_sem, e50]
      | k + 13 => simp at ho
    · intro b' W hS _
      subst hLe
      exact hQ _ _ _ _ _ _ _ _ _ W hS
  · have hI : (aT : Int) < (nN : Int) := by omega
    obtain ⟨LL, hLe⟩ : ∃ LL : List (Option Tmp × Value), LL = [(some 46, .int .i64 (aT : Nat)), (some 47, .slice pN nN cN), (some 48, .int .i64 (nN : Nat)), (some 49, .bool true), (some 50, .bool true), (some 51, .slice pN nN cN), (some 52, .int .i64 (aT : Nat)), (some 53, .pointer (some ⟨gN, aT, none⟩)), (some 54, .string sx), (some 55, .pointer (some ⟨ob, 1, none⟩)), (some 56, .string sv), (some 57, .bool cont), (some 58, .bool cont)] := ⟨_, rfl⟩
    have vv0 : vals LL 0 = .int .i64 (aT : Nat) := by rw [hLe]; rfl
    have vv1 : vals LL 1 = .slice pN nN cN := by rw [hLe]; rfl
    have vv2 : vals LL 2 = .int .i64 (nN : Nat) := by rw [hLe]; rfl
    have vv3 : vals LL 3 = .bool true := by rw [hLe]; rfl
    have vv4 : vals LL 4 = .bool true := by rw [hLe]; rfl
    have vv5 : vals LL 5 = .slice pN nN cN := by rw [hLe]; rfl
    have vv6 : vals LL 6 = .int .i64 (aT : Nat) := by rw [hLe]; rfl
    have vv7 : vals LL 7 = .pointer (some ⟨gN, aT, none⟩) := by rw [hLe]; rfl
    have vv8 : vals LL 8 = .string sx := by rw [hLe]; rfl
    have vv9 : vals LL 9 = .pointer (some ⟨ob, 1, none⟩) := by rw [hLe]; rfl
    have vv10 : vals LL 10 = .string sv := by rw [hLe]; rfl
    have vv11 : vals LL 11 = .bool cont := by rw [hLe]; rfl
    have vv12 : vals LL 12 = .bool cont := by rw [hLe]; rfl
    refine region_laid hmix (by kernel_rfl) 282 hsz (by kernel_rfl) LL (by rw [hLe]; rfl) (fun _ W => Below w1.heap.size w1 W) below1 ?_ ?_
    · intro b W i o a hS hcl ho hb hd ev kp yl
      match i with
      | 0 =>
        simp only [List.getElem?_toArray, List.getElem?_cons_zero, Option.some.injEq] at ho
        subst ho
        have e9 : a.tmps[9]?.getD undef = .int .i64 (aT : Nat) := (kp 9 (by kernel_rfl)).trans b9
        rw [vv0]
        refine does_value rfl (by intro c h; cases h) (w' := W) ?_ (hS)
        · simp [execOp, go_sem, e9]
      | 1 =>
        simp only [List.getElem?_toArray, List.getElem?_cons_zero, List.getElem?_cons_succ, Option.some.injEq] at ho
        subst ho
        have e5 : a.tmps[5]?.getD undef = .pointer (some ⟨NB, 0, none⟩) := (kp 5 (by kernel_rfl)).trans b5
        have hl := (hS.cell (p := ⟨NB, 0, none⟩) (cell_lt dN)).trans dN
        rw [vv1]
        refine does_value rfl (by intro c h; cases h) (w' := W) ?_ (hS)
        · simp [execOp, go_sem, e5, hl]
      | 2 =>
        simp only [List.getElem?_toArray, List.getElem?_cons_zero, List.getElem?_cons_succ, Option.some.injEq] at ho
        subst ho
        have p1 : b 1 = true := hd ⟨1, .data⟩ (by simp) rfl
        have e47 := (ev 1 47 rfl p1).trans vv1
        rw [vv2]
        refine does_value rfl (by intro c h; cases h) (w' := W) ?_ (hS)
        · simp [go_sem, e47]
      | 3 =>
        simp only [List.getElem?_toArray, List.getElem?_cons_zero, List.getElem?_cons_succ, Option.some.injEq] at ho
        subst ho
        have p0 : b 0 = true := hd ⟨0, .data⟩ (by simp) rfl
        have p2 : b 2 = true := hd ⟨2, .data⟩ (by simp) rfl
        have e46 := (ev 0 46 rfl p0).trans vv0
        have e48 := (ev 2 48 rfl p2).trans vv2
        rw [vv3]
        refine does_value rfl (by intro c h; cases h) (w' := W) ?_ (hS)
        · simp [execOp, go_sem, e46, e48, hL]
      | 4 =>
        simp only [List.getElem?_toArray, List.getElem?_cons_zero, List.getElem?_cons_succ, Option.some.injEq] at ho
        subst ho
        have p3 : b 3 = true := hd ⟨3, .data⟩ (by simp) rfl
        have e49 := (ev 3 49 rfl p3).trans vv3
        rw [vv4]
        refine does_value rfl (by intro c h; cases h) (w' := W) ?_ (hS)
        · simp [execOp, go_sem, e49]
      | 5 =>
        simp only [List.getElem?_toArray, List.getElem?_cons_zero, List.getElem?_cons_succ, Option.some.injEq] at ho
        subst ho
        have p4 : b 4 = true := hd ⟨4, .guard⟩ (by simp) rfl
        have e5 : a.tmps[5]?.getD undef = .pointer (some ⟨NB, 0, none⟩) := (kp 5 (by kernel_rfl)).trans b5
        have hl := (hS.cell (p := ⟨NB, 0, none⟩) (cell_lt dN)).trans dN
        rw [vv5]
        refine does_value_g rfl (yl 4 50 true rfl p4 vv4) (by intro c h; cases h) (w' := W) ?_ (hS)
        · simp [execOp, go_sem, e5, hl]
      | 6 =>
        simp only [List.getElem?_toArray, List.getElem?_cons_zero, List.getElem?_cons_succ, Option.some.injEq] at ho
        subst ho
        have p4 : b 4 = true := hd ⟨4, .guard⟩ (by simp) rfl
        have e9 : a.tmps[9]?.getD undef = .int .i64 (aT : Nat) := (kp 9 (by kernel_rfl)).trans b9
        rw [vv6]
        refine does_value_g rfl (yl 4 50 true rfl p4 vv4) (by intro c h; cases h) (w' := W) ?_ (hS)
        · simp [execOp, go_sem, e9]
      | 7 =>
        simp only [List.getElem?_toArray, List.getElem?_cons_zero, List.getElem?_cons_succ, Option.some.injEq] at ho
        subst ho
        have p5 : b 5 = true := hd ⟨5, .data⟩ (by simp) rfl
        have p6 : b 6 = true := hd ⟨6, .data⟩ (by simp) rfl
        have p4 : b 4 = true := hd ⟨4, .guard⟩ (by simp) rfl
        have e51 := (ev 5 51 rfl p5).trans vv5
        have e52 := (ev 6 52 rfl p6).trans vv6
        rw [vv7]
        refine does_value_g rfl (yl 4 50 true rfl p4 vv4) (by intro c h; cases h) (w' := W) ?_ (hS)
        · simp [execOp, go_sem, e51, e52, hp, hL]
      | 8 =>
        simp only [List.getElem?_toArray, List.getElem?_cons_zero, List.getElem?_cons_succ, Option.some.injEq] at ho
        subst ho
        have p7 : b 7 = true := hd ⟨7, .data⟩ (by simp) rfl
        have p4 : b 4 = true := hd ⟨4, .guard⟩ (by simp) rfl
        have e53 := (ev 7 53 rfl p7).trans vv7
        have hl := (hS.cell (p := ⟨gN, aT, none⟩) (cell_lt dX)).trans dX
        rw [vv8]
        refine does_value_g rfl (yl 4 50 true rfl p4 vv4) (by intro c h; cases h) (w' := W) ?_ (hS)
        · simp [execOp, go_sem, e53, hl]
      | 9 =>
        simp only [List.getElem?_toArray, List.getElem?_cons_zero, List.getElem?_cons_succ, Option.some.injEq] at ho
        subst ho
        have p4 : b 4 = true := hd ⟨4, .guard⟩ (by simp) rfl
        have e8 : a.tmps[8]?.getD undef = .pointer (some ⟨ob, 0, none⟩) := (kp 8 (by kernel_rfl)).trans b8
        rw [vv9]
        refine does_value_g rfl (yl 4 50 true rfl p4 vv4) (by intro c h; cases h) (w' := W) ?_ (hS)
        · simp [execOp, go_sem, e8]
      | 10 =>
        simp only [List.getElem?_toArray, List.getElem?_cons_zero, List.getElem?_cons_succ, Option.some.injEq] at ho
        subst ho
        have p9 : b 9 = true := hd ⟨9, .data⟩ (by simp) rfl
        have p4 : b 4 = true := hd ⟨4, .guard⟩ (by simp) rfl
        have e55 := (ev 9 55 rfl p9).trans vv9
        have hl := (hS.cell (p := ⟨ob, 1, none⟩) (cell_lt dO)).trans dO
        rw [vv10]
        refine does_value_g rfl (yl 4 50 true rfl p4 vv4) (by intro c h; cases h) (w' := W) ?_ (hS)
        · simp [execOp, go_sem, e55, hl]
      | 11 =>
        simp only [List.getElem?_toArray, List.getElem?_cons_zero, List.getElem?_cons_succ, Option.some.injEq] at ho
        subst ho
        have p8 : b 8 = true := hd ⟨8, .data⟩ (by simp) rfl
        have p10 : b 10 = true := hd ⟨10, .data⟩ (by simp) rfl
        have p4 : b 4 = true := hd ⟨4, .guard⟩ (by simp) rfl
        have e54 := (ev 8 54 rfl p8).trans vv8
        have e56 := (ev 10 56 rfl p10).trans vv10
        rw [vv11]
        refine does_value_g rfl (yl 4 50 true rfl p4 vv4) (by intro c h; cases h) (w' := W) ?_ (hS)
        · simp [execOp, go_sem, e54, e56, hcmp]
      | 12 =>
        simp only [List.getElem?_toArray, List.getElem?_cons_zero, List.getElem?_cons_succ, Option.some.injEq] at ho
        subst ho
        have p4 : b 4 = true := hd ⟨4, .data⟩ (by simp) rfl
        have p11 : b 11 = true := hd ⟨11, .data⟩ (by simp) rfl
        have e50 := (ev 4 50 rfl p4).trans vv4
        have e57 := (ev 11 57 rfl p11).trans vv11
        rw [vv12]
        refine does_value rfl (by intro c h; cases h) (w' := W) ?_ (hS)
        · simp [execOp, go_sem, e50, e57]
      | k + 13 => simp at ho
    · intro b' W hS _
      subst hLe
      exact hQ _ _ _ _ _ _ _ _ _ W hS

set_option maxRecDepth 8000 in
set_option maxHeartbeats 4000000 in
theorem all_reg15 {Q : Exit → Act → World → Prop} {base : Array Value} {d : List Deferred} {ops : Array Oper} (hops : Tryd.f3.body.bind (regs 15) = some ops) (NB ob nN cN aT : Nat) (pN : Option Addr) (sv : ByteArray) (there : Bool) (w1 : World) (hsz : base.size = 282)
    (b5 : base.getD 5 undef = .pointer (some ⟨NB, 0, none⟩)) (b8 : base.getD 8 undef = .pointer (some ⟨ob, 0, none⟩)) (b9 : base.getD 9 undef = .int .i64 (aT : Nat))
    (dN : w1.cell? ⟨NB, 0, none⟩ = some (.slice pN nN cN)) (dO : w1.cell? ⟨ob, 1, none⟩ = some (.string sv))
    (hcase : (aT = nN ∧ there = false) ∨ (aT < nN ∧ ∃ gN sx, pN = some ⟨gN, 0, none⟩ ∧ w1.cell? ⟨gN, aT, none⟩ = some (.string sx) ∧ (sx.toList == sv.toList) = there))
    (hQ : ∀ u64 u65 u66 u67 u68 u69 u70 u71 u72 W, Below w1.heap.size w1 W → Q .normal ⟨putAll base [(some 61, .int .i64 (aT : Nat)), (some 62, .slice pN nN cN), (some 63, .int .i64 (nN : Nat)), (some 64, u64), (some 65, u65), (some 66, u66), (some 67, u67), (some 68, u68), (some 69, u69), (some 70, u70), (some 71, u71), (some 72, u72), (some 73, .bool there), (some 10, .bool there)], d⟩ W) :
    (Code.region 15 ops true).wp Tryd.prog Q ⟨base, d⟩ w1 := by
  have hmix : Tryd.prog.follows .mixedOrders = true := by kernel_rfl
  have h2 := (show Tryd.f3.body.bind (regs 15) = some _ from rfl).symm.trans hops
  obtain rfl := Option.some.inj h2
  clear h2 hops
  have below1 : Below w1.heap.size w1 w1.drew := (Below.refl _ _).drew
  rcases hcase with ⟨hE, hres⟩ | ⟨hL, gN, sx, hp, dX, hcmp⟩
  · subst hres
    have hI : ¬ (aT : Int) < (nN : Int) := by omega
    obtain ⟨LL, hLe⟩ : ∃ LL : List (Option Tmp × Value), LL = [(some 61, .int .i64 (aT : Nat)), (some 62, .slice pN nN cN), (some 63, .int .i64 (nN : Nat)), (some 64, .bool false), (some 65, .bool false), (some 66, undef), (some 67, undef), (some 68, undef), (some 69, undef), (some 70, undef), (some 71, undef), (some 72, undef), (some 73, .bool false), (some 10, .bool false)] := ⟨_, rfl⟩
    have vv0 : vals LL 0 = .int .i64 (aT : Nat) := by rw [hLe]; rfl
    have vv1 : vals LL 1 = .slice pN nN cN := by rw [hLe]; rfl
    have vv2 : vals LL 2 = .int .i64 (nN : Nat) := by rw [hLe]; rfl
    have vv3 : vals LL 3 = .bool false := by rw [hLe]; rfl
    have vv4 : vals LL 4 = .bool false := by rw [hLe]; rfl
    have vv5 : vals LL 5 = undef := by rw [hLe]; rfl
    have vv6 : vals LL 6 = undef := by rw [hLe]; rfl
    have vv7 : vals LL 7 = undef := by rw [hLe]; rfl
    have vv8 : vals LL 8 = undef := by rw [hLe]; rfl
    have vv9 : vals LL 9 = undef := by rw [hLe]; rfl
    have vv10 : vals LL 10 = undef := by rw [hLe]; rfl
    have vv11 : vals LL 11 = undef := by rw [hLe]; rfl
    have vv12 : vals LL 12 = .bool false := by rw [hLe]; rfl
    have vv13 : vals LL 13 = .bool false := by rw [hLe]; rfl
    refine region_laid hmix (by kernel_rfl) 282 hsz (by kernel_rfl) LL (by rw [hLe]; rfl) (fun _ W => Below w1.heap.size w1 W) below1 ?_ ?_
    · intro b W i o a hS hcl ho hb hd ev kp yl
      match i with
      | 0 =>
        simp only [List.getElem?_toArray, List.getElem?_cons_zero, Option.some.injEq] at ho
        subst ho
        have e9 : a.tmps[9]?.getD undef = .int .i64 (aT : Nat) := (kp 9 (by kernel_rfl)).trans b9
        rw [vv0]
        refine does_value rfl (by intro c h; cases h) (w' := W) ?_ (hS)
        · simp [execOp, go_sem, e9]
      | 1 =>
        simp only [List.getElem?_toArray, List.getElem?_cons_zero, List.getElem?_cons_succ, Option.some.injEq] at ho
        subst ho
        have e5 : a.tmps[5]?.getD undef = .pointer (some ⟨NB, 0, none⟩) := (kp 5 (by kernel_rfl)).trans b5
        have hl := (hS.cell (p := ⟨NB, 0, none⟩) (cell_lt dN)).trans dN
        rw [vv1]
        refine does_value rfl (by intro c h; cases h) (w' := W) ?_ (hS)
        · simp [execOp, go_sem, e5, hl]
      | 2 =>
        simp only [List.getElem?_toArray, List.getElem?_cons_zero, List.getElem?_cons_succ, Option.some.injEq] at ho
        subst ho
        have p1 : b 1 = true := hd ⟨1, .data⟩ (by simp) rfl
        have e62 := (ev 1 62 rfl p1).trans vv1
        rw [vv2]
        refine does_value rfl (by intro c h; cases h) (w' := W) ?_ (hS)
        · simp [go_sem, e62]
      | 3 =>
        simp only [List.getElem?_toArray, List.getElem?_cons_zero, List.getElem?_cons_succ, Option.some.injEq] at ho
        subst ho
        have p0 : b 0 = true := hd ⟨0, .data⟩ (by simp) rfl
        have p2 : b 2 = true := hd ⟨2, .data⟩ (by simp) rfl
        have e61 := (ev 0 61 rfl p0).trans vv0
        have e63 := (ev 2 63 rfl p2).trans vv2
        rw [vv3]
        refine does_value rfl (by intro c h; cases h) (w' := W) ?_ (hS)
        · simp [execOp, go_sem, e61, e63, hE]
      | 4 =>
        simp only [List.getElem?_toArray, List.getElem?_cons_zero, List.getElem?_cons_succ, Option.some.injEq] at ho
        subst ho
        have p3 : b 3 = true := hd ⟨3, .data⟩ (by simp) rfl
        have e64 := (ev 3 64 rfl p3).trans vv3
        rw [vv4]
        refine does_value rfl (by intro c h; cases h) (w' := W) ?_ (hS)
        · simp [execOp, go_sem, e64]
      | 5 =>
        simp only [List.getElem?_toArray, List.getElem?_cons_zero, List.getElem?_cons_succ, Option.some.injEq] at ho
        subst ho
        have p4 : b 4 = true := hd ⟨4, .guard⟩ (by simp) rfl
        exact does_pass rfl (yl 4 65 false rfl p4 vv4) (by decide) vv5 (hS)
      | 6 =>
        simp only [List.getElem?_toArray, List.getElem?_cons_zero, List.getElem?_cons_succ, Option.some.injEq] at ho
        subst ho
        have p4 : b 4 = true := hd ⟨4, .guard⟩ (by simp) rfl
        exact does_pass rfl (yl 4 65 false rfl p4 vv4) (by decide) vv6 (hS)
      | 7 =>
        simp only [List.getElem?_toArray, List.getElem?_cons_zero, List.getElem?_cons_succ, Option.some.injEq] at ho
        subst ho
        have p5 : b 5 = true := hd ⟨5, .data⟩ (by simp) rfl
        have p6 : b 6 = true := hd ⟨6, .data⟩ (by simp) rfl
        have p4 : b 4 = true := hd ⟨4, .guard⟩ (by simp) rfl
        exact does_pass rfl (yl 4 65 false rfl p4 vv4) (by decide) vv7 (hS)
      | 8 =>
        simp only [List.getElem?_toArray, List.getElem?_cons_zero, List.getElem?_cons_succ, Option.some.injEq] at ho
        subst ho
        have p7 : b 7 = true := hd ⟨7, .data⟩ (by simp) rfl
        have p4 : b 4 = true := hd ⟨4, .guard⟩ (by simp) rfl
        exact does_pass rfl (yl 4 65 false rfl p4 vv4) (by decide) vv8 (hS)
      | 9 =>
        simp only [List.getElem?_toArray, List.getElem?_cons_zero, List.getElem?_cons_succ, Option.some.injEq] at ho
        subst ho
        have p4 : b 4 = true := hd ⟨4, .guard⟩ (by simp) rfl
        exact does_pass rfl (yl 4 65 false rfl p4 vv4) (by decide) vv9 (hS)
      | 10 =>
        simp only [List.getElem?_toArray, List.getElem?_cons_zero, List.getElem?_cons_succ, Option.some.injEq] at ho
        subst ho
        have p9 : b 9 = true := hd ⟨9, .data⟩ (by simp) rfl
        have p4 : b 4 = true := hd ⟨4, .guard⟩ (by simp) rfl
        exact does_pass rfl (yl 4 65 false rfl p4 vv4) (by decide) vv10 (hS)
      | 11 =>
        simp only [List.getElem?_toArray, List.getElem?_cons_zero, List.getElem?_cons_succ, Option.some.injEq] at ho
        subst ho
        have p8 : b 8 = true := hd ⟨8, .data⟩ (by simp) rfl
        have p10 : b 10 = true := hd ⟨10, .data⟩ (by simp) rfl
        have p4 : b 4 = true := hd ⟨4, .guard⟩ (by simp) rfl
        exact does_pass rfl (yl 4 65 false rfl p4 vv4) (by decide) vv11 (hS)
      | 12 =>
        simp only [List.getElem?_toArray, List.getElem?_cons_zero, List.getElem?_cons_succ, Option.some.injEq] at ho
        subst ho
        have p4 : b 4 = true := hd ⟨4, .data⟩ (by simp) rfl
        have p11 : b 11 = true := hd ⟨11, .data⟩ (by simp) rfl
        have e65 := (ev 4 65 rfl p4).trans vv4
        rw [vv12]
        refine does_value rfl (by intro c h; cases h) (w' := W) ?_ (hS)
        · simp [execOp, go_sem, e65]
      | 13 =>
        simp only [List.getElem?_toArray, List.getElem?_cons_zero, List.getElem?_cons_succ, Option.some.injEq] at ho
        subst ho
        have p12 : b 12 = true := hd ⟨12, .data⟩ (by simp) rfl
        have e73 := (ev 12 73 rfl p12).trans vv12
        rw [vv13]
        refine does_value rfl (by intro c h; cases h) (w' := W) ?_ (hS)
        · simp [execOp, go_sem, e73]
      | k + 14 => simp at ho
    · intro b' W hS _
      subst hLe
      exact hQ _ _ _ _ _ _ _ _ _ W hS
  · have hI : (aT : Int) < (nN : Int) := by omega
    obtain ⟨LL, hLe⟩ : ∃ LL : List (Option Tmp × Value), LL = [(some 61, .int .i64 (aT : Nat)), (some 62, .slice pN nN cN), (some 63, .int .i64 (nN : Nat)), (some 64, .bool true), (some 65, .bool true), (some 66, .slice pN nN cN), (some 67, .int .i64 (aT : Nat)), (some 68, .pointer (some ⟨gN, aT, none⟩)), (some 69, .string sx), (some 70, .pointer (some ⟨ob, 1, none⟩)), (some 71, .string sv), (some 72, .bool there), (some 73, .bool there), (some 10, .bool there)] := ⟨_, rfl⟩
    have vv0 : vals LL 0 = .int .i64 (aT : Nat) := by rw [hLe]; rfl
    have vv1 : vals LL 1 = .slice pN nN cN := by rw [hLe]; rfl
    have vv2 : vals LL 2 = .int .i64 (nN : Nat) := by rw [hLe]; rfl
    have vv3 : vals LL 3 = .bool true := by rw [hLe]; rfl
    have vv4 : vals LL 4 = .bool true := by rw [hLe]; rfl
    have vv5 : vals LL 5 = .slice pN nN cN := by rw [hLe]; rfl
    have vv6 : vals LL 6 = .int .i64 (aT : Nat) := by rw [hLe]; rfl
    have vv7 : vals LL 7 = .pointer (some ⟨gN, aT, none⟩) := by rw [hLe]; rfl
    have vv8 : vals LL 8 = .string sx := by rw [hLe]; rfl
    have vv9 : vals LL 9 = .pointer (some ⟨ob, 1, none⟩) := by rw [hLe]; rfl
    have vv10 : vals LL 10 = .string sv := by rw [hLe]; rfl
    have vv11 : vals LL 11 = .bool there := by rw [hLe]; rfl
    have vv12 : vals LL 12 = .bool there := by rw [hLe]; rfl
    have vv13 : vals LL 13 = .bool there := by rw [hLe]; rfl
    refine region_laid hmix (by kernel_rfl) 282 hsz (by kernel_rfl) LL (by rw [hLe]; rfl) (fun _ W => Below w1.heap.size w1 W) below1 ?_ ?_
    · intro b W i o a hS hcl ho hb hd ev kp yl
      match i with
      | 0 =>
        simp only [List.getElem?_toArray, List.getElem?_cons_zero, Option.some.injEq] at ho
        subst ho
        have e9 : a.tmps[9]?.getD undef = .int .i64 (aT : Nat) := (kp 9 (by kernel_rfl)).trans b9
        rw [vv0]
        refine does_value rfl (by intro c h; cases h) (w' := W) ?_ (hS)
        · simp [execOp, go_sem, e9]
      | 1 =>
        simp only [List.getElem?_toArray, List.getElem?_cons_zero, List.getElem?_cons_succ, Option.some.injEq] at ho
        subst ho
        have e5 : a.tmps[5]?.getD undef = .pointer (some ⟨NB, 0, none⟩) := (kp 5 (by kernel_rfl)).trans b5
        have hl := (hS.cell (p := ⟨NB, 0, none⟩) (cell_lt dN)).trans dN
        rw [vv1]
        refine does_value rfl (by intro c h; cases h) (w' := W) ?_ (hS)
        · simp [execOp, go_sem, e5, hl]
      | 2 =>
        simp only [List.getElem?_toArray, List.getElem?_cons_zero, List.getElem?_cons_succ, Option.some.injEq] at ho
        subst ho
        have p1 : b 1 = true := hd ⟨1, .data⟩ (by simp) rfl
        have e62 := (ev 1 62 rfl p1).trans vv1
        rw [vv2]
        refine does_value rfl (by intro c h; cases h) (w' := W) ?_ (hS)
        · simp [go_sem, e62]
      | 3 =>
        simp only [List.getElem?_toArray, List.getElem?_cons_zero, List.getElem?_cons_succ, Option.some.injEq] at ho
        subst ho
        have p0 : b 0 = true := hd ⟨0, .data⟩ (by simp) rfl
        have p2 : b 2 = true := hd ⟨2, .data⟩ (by simp) rfl
        have e61 := (ev 0 61 rfl p0).trans vv0
        have e63 := (ev 2 63 rfl p2).trans vv2
        rw [vv3]
        refine does_value rfl (by intro c h; cases h) (w' := W) ?_ (hS)
        · simp [execOp, go_sem, e61, e63, hL]
      | 4 =>
        simp only [List.getElem?_toArray, List.getElem?_cons_zero, List.getElem?_cons_succ, Option.some.injEq] at ho
        subst ho
        have p3 : b 3 = true := hd ⟨3, .data⟩ (by simp) rfl
        have e64 := (ev 3 64 rfl p3).trans vv3
        rw [vv4]
        refine does_value rfl (by intro c h; cases h) (w' := W) ?_ (hS)
        · simp [execOp, go_sem, e64]
      | 5 =>
        simp only [List.getElem?_toArray, List.getElem?_cons_zero, List.getElem?_cons_succ, Option.some.injEq] at ho
        subst ho
        have p4 : b 4 = true := hd ⟨4, .guard⟩ (by simp) rfl
        have e5 : a.tmps[5]?.getD undef = .pointer (some ⟨NB, 0, none⟩) := (kp 5 (by kernel_rfl)).trans b5
        have hl := (hS.cell (p := ⟨NB, 0, none⟩) (cell_lt dN)).trans dN
        rw [vv5]
        refine does_value_g rfl (yl 4 65 true rfl p4 vv4) (by intro c h; cases h) (w' := W) ?_ (hS)
        · simp [execOp, go_sem, e5, hl]
      | 6 =>
        simp only [List.getElem?_toArray, List.getElem?_cons_zero, List.getElem?_cons_succ, Option.some.injEq] at ho
        subst ho
        have p4 : b 4 = true := hd ⟨4, .guard⟩ (by simp) rfl
        have e9 : a.tmps[9]?.getD undef = .int .i64 (aT : Nat) := (kp 9 (by kernel_rfl)).trans b9
        rw [vv6]
        refine does_value_g rfl (yl 4 65 true rfl p4 vv4) (by intro c h; cases h) (w' := W) ?_ (hS)
        · simp [execOp, go_sem, e9]
      | 7 =>
        simp only [List.getElem?_toArray, List.getElem?_cons_zero, List.getElem?_cons_succ, Option.some.injEq] at ho
        subst ho
        have p5 : b 5 = true := hd ⟨5, .data⟩ (by simp) rfl
        have p6 : b 6 = true := hd ⟨6, .data⟩ (by simp) rfl
        have p4 : b 4 = true := hd ⟨4, .guard⟩ (by simp) rfl
        have e66 := (ev 5 66 rfl p5).trans vv5
        have e67 := (ev 6 67 rfl p6).trans vv6
        rw [vv7]
        refine does_value_g rfl (yl 4 65 true rfl p4 vv4) (by intro c h; cases h) (w' := W) ?_ (hS)
        · simp [execOp, go_sem, e66, e67, hp, hL]
      | 8 =>
        simp only [List.getElem?_toArray, List.getElem?_cons_zero, List.getElem?_cons_succ, Option.some.injEq] at ho
        subst ho
        have p7 : b 7 = true := hd ⟨7, .data⟩ (by simp) rfl
        have p4 : b 4 = true := hd ⟨4, .guard⟩ (by simp) rfl
        have e68 := (ev 7 68 rfl p7).trans vv7
        have hl := (hS.cell (p := ⟨gN, aT, none⟩) (cell_lt dX)).trans dX
        rw [vv8]
        refine does_value_g rfl (yl 4 65 true rfl p4 vv4) (by intro c h; cases h) (w' := W) ?_ (hS)
        · simp [execOp, go_sem, e68, hl]
      | 9 =>
        simp only [List.getElem?_toArray, List.getElem?_cons_zero, List.getElem?_cons_succ, Option.some.injEq] at ho
        subst ho
        have p4 : b 4 = true := hd ⟨4, .guard⟩ (by simp) rfl
        have e8 : a.tmps[8]?.getD undef = .pointer (some ⟨ob, 0, none⟩) := (kp 8 (by kernel_rfl)).trans b8
        rw [vv9]
        refine does_value_g rfl (yl 4 65 true rfl p4 vv4) (by intro c h; cases h) (w' := W) ?_ (hS)
        · simp [execOp, go_sem, e8]
      | 10 =>
        simp only [List.getElem?_toArray, List.getElem?_cons_zero, List.getElem?_cons_succ, Option.some.injEq] at ho
        subst ho
        have p9 : b 9 = true := hd ⟨9, .data⟩ (by simp) rfl
        have p4 : b 4 = true := hd ⟨4, .guard⟩ (by simp) rfl
        have e70 := (ev 9 70 rfl p9).trans vv9
        have hl := (hS.cell (p := ⟨ob, 1, none⟩) (cell_lt dO)).trans dO
        rw [vv10]
        refine does_value_g rfl (yl 4 65 true rfl p4 vv4) (by intro c h; cases h) (w' := W) ?_ (hS)
        · simp [execOp, go_sem, e70, hl]
      | 11 =>
        simp only [List.getElem?_toArray, List.getElem?_cons_zero, List.getElem?_cons_succ, Option.some.injEq] at ho
        subst ho
        have p8 : b 8 = true := hd ⟨8, .data⟩ (by simp) rfl
        have p10 : b 10 = true := hd ⟨10, .data⟩ (by simp) rfl
        have p4 : b 4 = true := hd ⟨4, .guard⟩ (by simp) rfl
        have e69 := (ev 8 69 rfl p8).trans vv8
        have e71 := (ev 10 71 rfl p10).trans vv10
        rw [vv11]
        refine does_value_g rfl (yl 4 65 true rfl p4 vv4) (by intro c h; cases h) (w' := W) ?_ (hS)
        · simp [execOp, go_sem, e69, e71, hcmp]
      | 12 =>
        simp only [List.getElem?_toArray, List.getElem?_cons_zero, List.getElem?_cons_succ, Option.some.injEq] at ho
        subst ho
        have p4 : b 4 = true := hd ⟨4, .data⟩ (by simp) rfl
        have p11 : b 11 = true := hd ⟨11, .data⟩ (by simp) rfl
        have e65 := (ev 4 65 rfl p4).trans vv4
        have e72 := (ev 11 72 rfl p11).trans vv11
        rw [vv12]
        refine does_value rfl (by intro c h; cases h) (w' := W) ?_ (hS)
        · simp [execOp, go_sem, e65, e72]
      | 13 =>
        simp only [List.getElem?_toArray, List.getElem?_cons_zero, List.getElem?_cons_succ, Option.some.injEq] at ho
        subst ho
        have p12 : b 12 = true := hd ⟨12, .data⟩ (by simp) rfl
        have e73 := (ev 12 73 rfl p12).trans vv12
        rw [vv13]
        refine does_value rfl (by intro c h; cases h) (w' := W) ?_ (hS)
        · simp [execOp, go_sem, e73]
      | k + 14 => simp at ho
    · intro b' W hS _
      subst hLe
      exact hQ _ _ _ _ _ _ _ _ _ W hS

set_option maxRecDepth 8000 in
set_option maxHeartbeats 4000000 in
theorem all_reg46 {Q : Exit → Act → World → Prop} {base : Array Value} {d : List Deferred} {ops : Array Oper} (hops : Tryd.f3.body.bind (regs 46) = some ops) (NB ob aD nN cN : Nat) (pN : Option Addr) (sv : ByteArray) (f : Int) (w1 : World) (hsz : base.size = 282)
    (b4 : base.getD 4 undef = .pointer (some ⟨aD, 0, none⟩)) (b5 : base.getD 5 undef = .pointer (some ⟨NB, 0, none⟩)) (b8 : base.getD 8 undef = .pointer (some ⟨ob, 0, none⟩)) (b11 : base.getD 11 undef = .int .i64 f)
    (dN : w1.cell? ⟨NB, 0, none⟩ = some (.slice pN nN cN)) (dO : w1.cell? ⟨ob, 1, none⟩ = some (.string sv))
    (cF : ∀ W, Calls Tryd.prog 15 #[.string sv] W fun e w' => e = .returned (.int .i64 f) ∧ w' = W) (cL : ∀ W, Below w1.heap.size w1 W → Calls Tryd.prog 16 #[.pointer (some ⟨aD, 0, none⟩)] W fun e w' => e = .returned (.int .i64 (nN : Nat)) ∧ w' = W)
    (hQ : ∀ W, Below w1.heap.size w1 W → Q .normal ⟨putAll base [(some 233, .pointer (some ⟨ob, 1, none⟩)), (some 234, .string sv), (some 235, .int .i64 f), (some 236, .int .i64 f), (some 237, .bool false), (some 238, .bool false), (some 239, .pointer (some ⟨aD, 0, none⟩)), (some 240, .int .i64 (nN : Nat)), (some 241, .slice pN nN cN), (some 242, .int .i64 (nN : Nat)), (some 243, .bool false), (some 244, .bool false)], d⟩ W) :
    (Code.region 46 ops true).wp Tryd.prog Q ⟨base, d⟩ w1 := by
  have hmix : Tryd.prog.follows .mixedOrders = true := by kernel_rfl
  have h2 := (show Tryd.f3.body.bind (regs 46) = some _ from rfl).symm.trans hops
  obtain rfl := Option.some.inj h2
  clear h2 hops
  have below1 : Below w1.heap.size w1 w1.drew := (Below.refl _ _).drew
  obtain ⟨LL, hLe⟩ : ∃ LL : List (Option Tmp × Value), LL = [(some 233, .pointer (some ⟨ob, 1, none⟩)), (some 234, .string sv), (some 235, .int .i64 f), (some 236, .int .i64 f), (some 237, .bool false), (some 238, .bool false), (some 239, .pointer (some ⟨aD, 0, none⟩)), (some 240, .int .i64 (nN : Nat)), (some 241, .slice pN nN cN), (some 242, .int .i64 (nN : Nat)), (some 243, .bool false), (some 244, .bool false)] := ⟨_, rfl⟩
  have vv0 : vals LL 0 = .pointer (some ⟨ob, 1, none⟩) := by rw [hLe]; rfl
  have vv1 : vals LL 1 = .string sv := by rw [hLe]; rfl
  have vv2 : vals LL 2 = .int .i64 f := by rw [hLe]; rfl
  have vv3 : vals LL 3 = .int .i64 f := by rw [hLe]; rfl
  have vv4 : vals LL 4 = .bool false := by rw [hLe]; rfl
  have vv5 : vals LL 5 = .bool false := by rw [hLe]; rfl
  have vv6 : vals LL 6 = .pointer (some ⟨aD, 0, none⟩) := by rw [hLe]; rfl
  have vv7 : vals LL 7 = .int .i64 (nN : Nat) := by rw [hLe]; rfl
  have vv8 : vals LL 8 = .slice pN nN cN := by rw [hLe]; rfl
  have vv9 : vals LL 9 = .int .i64 (nN : Nat) := by rw [hLe]; rfl
  have vv10 : vals LL 10 = .bool false := by rw [hLe]; rfl
  have vv11 : vals LL 11 = .bool false := by rw [hLe]; rfl
  refine region_laid hmix (by kernel_rfl) 282 hsz (by kernel_rfl) LL (by rw [hLe]; rfl) (fun _ W => Below w1.heap.size w1 W) below1 ?_ ?_
  · intro b W i o a hS hcl ho hb hd ev kp yl
    match i with
    | 0 =>
      simp only [List.getElem?_toArray, List.getElem?_cons_zero, Option.some.injEq] at ho
      subst ho
      have e8 : a.tmps[8]?.getD undef = .pointer (some ⟨ob, 0, none⟩) := (kp 8 (by kernel_rfl)).trans b8
      rw [vv0]
      refine does_value rfl (by intro c h; cases h) (w' := W) ?_ (hS)
      · simp [execOp, go_sem, e8]
    | 1 =>
      simp only [List.getElem?_toArray, List.getElem?_cons_zero, List.getElem?_cons_succ, Option.some.injEq] at ho
      subst ho
      have p0 : b 0 = true := hd ⟨0, .data⟩ (by simp) rfl
      have e233 := (ev 0 233 rfl p0).trans vv0
      have hl := (hS.cell (p := ⟨ob, 1, none⟩) (cell_lt dO)).trans dO
      rw [vv1]
      refine does_value rfl (by intro c h; cases h) (w' := W) ?_ (hS)
      · simp [execOp, go_sem, e233, hl]
    | 2 =>
      simp only [List.getElem?_toArray, List.getElem?_cons_zero, List.getElem?_cons_succ, Option.some.injEq] at ho
      subst ho
      have p1 : b 1 = true := hd ⟨1, .data⟩ (by simp) rfl
      have e234 := (ev 1 234 rfl p1).trans vv1
      rw [vv2]
      refine does_call rfl (by intro c h; cases h) (f := 15) (args := #[.string sv]) ?_ ?_
      · simp [go_sem, e234]
      · exact (cF W).mono (fun e w' h => by obtain ⟨rfl, rfl⟩ := h; exact ⟨rfl, hS⟩)
    | 3 =>
      simp only [List.getElem?_toArray, List.getElem?_cons_zero, List.getElem?_cons_succ, Option.some.injEq] at ho
      subst ho
      have e11 : a.tmps[11]?.getD undef = .int .i64 f := (kp 11 (by kernel_rfl)).trans b11
      rw [vv3]
      refine does_value rfl (by intro c h; cases h) (w' := W) ?_ (hS)
      · simp [execOp, go_sem, e11]
    | 4 =>
      simp only [List.getElem?_toArray, List.getElem?_cons_zero, List.getElem?_cons_succ, Option.some.injEq] at ho
      subst ho
      have p2 : b 2 = true := hd ⟨2, .data⟩ (by simp) rfl
      have p3 : b 3 = true := hd ⟨3, .data⟩ (by simp) rfl
      have e235 := (ev 2 235 rfl p2).trans vv2
      have e236 := (ev 3 236 rfl p3).trans vv3
      rw [vv4]
      refine does_value rfl (by intro c h; cases h) (w' := W) ?_ (hS)
      · simp [execOp, go_sem, e235, e236]
    | 5 =>
      simp only [List.getElem?_toArray, List.getElem?_cons_zero, List.getElem?_cons_succ, Option.some.injEq] at ho
      subst ho
      have p4 : b 4 = true := hd ⟨4, .data⟩ (by simp) rfl
      have e237 := (ev 4 237 rfl p4).trans vv4
      rw [vv5]
      refine does_value rfl (by intro c h; cases h) (w' := W) ?_ (hS)
      · simp [execOp, go_sem, e237]
    | 6 =>
      simp only [List.getElem?_toArray, List.getElem?_cons_zero, List.getElem?_cons_succ, Option.some.injEq] at ho
      subst ho
      have p5 : b 5 = true := hd ⟨5, .guard⟩ (by simp) rfl
      have e4 : a.tmps[4]?.getD undef = .pointer (some ⟨aD, 0, none⟩) := (kp 4 (by kernel_rfl)).trans b4
      rw [vv6]
      refine does_value_g rfl (yl 5 238 false rfl p5 vv5) (by intro c h; cases h) (w' := W) ?_ (hS)
      · simp [execOp, go_sem, e4]
    | 7 =>
      simp only [List.getElem?_toArray, List.getElem?_cons_zero, List.getElem?_cons_succ, Option.some.injEq] at ho
      subst ho
      have p6 : b 6 = true := hd ⟨6, .data⟩ (by simp) rfl
      have p5 : b 5 = true := hd ⟨5, .guard⟩ (by simp) rfl
      have e239 := (ev 6 239 rfl p6).trans vv6
      rw [vv7]
      refine does_call_g rfl (yl 5 238 false rfl p5 vv5) (by intro c h; cases h) (f := 16) (args := #[.pointer (some ⟨aD, 0, none⟩)]) ?_ ?_
      · simp [go_sem, e239]
      · exact (cL W hS).mono (fun e w' h => by obtain ⟨rfl, rfl⟩ := h; exact ⟨rfl, hS⟩)
    | 8 =>
      simp only [List.getElem?_toArray, List.getElem?_cons_zero, List.getElem?_cons_succ, Option.some.injEq] at ho
      subst ho
      have p5 : b 5 = true := hd ⟨5, .guard⟩ (by simp) rfl
      have e5 : a.tmps[5]?.getD undef = .pointer (some ⟨NB, 0, none⟩) := (kp 5 (by kernel_rfl)).trans b5
      have hl := (hS.cell (p := ⟨NB, 0, none⟩) (cell_lt dN)).trans dN
      rw [vv8]
      refine does_value_g rfl (yl 5 238 false rfl p5 vv5) (by intro c h; cases h) (w' := W) ?_ (hS)
      · simp [execOp, go_sem, e5, hl]
    | 9 =>
      simp only [List.getElem?_toArray, List.getElem?_cons_zero, List.getElem?_cons_succ, Option.some.injEq] at ho
      subst ho
      have p8 : b 8 = true := hd ⟨8, .data⟩ (by simp) rfl
      have p5 : b 5 = true := hd ⟨5, .guard⟩ (by simp) rfl
      have e241 := (ev 8 241 rfl p8).trans vv8
      rw [vv9]
      refine does_value_g rfl (yl 5 238 false rfl p5 vv5) (by intro c h; cases h) (w' := W) ?_ (hS)
      · simp [go_sem, e241]
    | 10 =>
      simp only [List.getElem?_toArray, List.getElem?_cons_zero, List.getElem?_cons_succ, Option.some.injEq] at ho
      subst ho
      have p7 : b 7 = true := hd ⟨7, .data⟩ (by simp) rfl
      have p9 : b 9 = true := hd ⟨9, .data⟩ (by simp) rfl
      have p5 : b 5 = true := hd ⟨5, .guard⟩ (by simp) rfl
      have e240 := (ev 7 240 rfl p7).trans vv7
      have e242 := (ev 9 242 rfl p9).trans vv9
      rw [vv10]
      refine does_value_g rfl (yl 5 238 false rfl p5 vv5) (by intro c h; cases h) (w' := W) ?_ (hS)
      · simp [execOp, go_sem, e240, e242]
    | 11 =>
      simp only [List.getElem?_toArray, List.getElem?_cons_zero, List.getElem?_cons_succ, Option.some.injEq] at ho
      subst ho
      have p5 : b 5 = true := hd ⟨5, .data⟩ (by simp) rfl
      have p10 : b 10 = true := hd ⟨10, .data⟩ (by simp) rfl
      have e238 := (ev 5 238 rfl p5).trans vv5
      have e243 := (ev 10 243 rfl p10).trans vv10
      rw [vv11]
      refine does_value rfl (by intro c h; cases h) (w' := W) ?_ (hS)
      · simp [execOp, go_sem, e238, e243]
    | k + 12 => simp at ho
  · intro b' W hS _
    subst hLe
    exact hQ W hS

set_option maxRecDepth 8000 in
set_option maxHeartbeats 4000000 in
theorem all_reg57 {Q : Exit → Act → World → Prop} {base : Array Value} {d : List Deferred} {ops : Array Oper} (hops : Tryd.f3.body.bind (regs 57) = some ops) (NB nN cN cL gL oL gN ix : Nat) (pN : Option Addr) (sx : ByteArray) (w1 : World) (hsz : base.size = 282)
    (b5 : base.getD 5 undef = .pointer (some ⟨NB, 0, none⟩)) (b20 : base.getD 20 undef = .slice (some ⟨gL, oL, none⟩) nN cL) (b23 : base.getD 23 undef = .int .i64 (ix : Nat))
    (dN : w1.cell? ⟨NB, 0, none⟩ = some (.slice pN nN cN)) (hL : ix < nN) (dL : w1.cell? ⟨gL, oL + ix, none⟩ = some (.string sx)) (hp : pN = some ⟨gN, 0, none⟩) (dX : w1.cell? ⟨gN, ix, none⟩ = some (.string sx))
    (hQ : ∀ W, Below w1.heap.size w1 W → Q .normal ⟨putAll base [(some 261, .slice (some ⟨gL, oL, none⟩) nN cL), (some 262, .int .i64 (ix : Nat)), (some 263, .pointer (some ⟨gL, oL + ix, none⟩)), (some 264, .string sx), (some 265, .slice pN nN cN), (some 266, .int .i64 (ix : Nat)), (some 267, .pointer (some ⟨gN, ix, none⟩)), (some 268, .string sx), (some 269, .bool false)], d⟩ W) :
    (Code.region 57 ops true).wp Tryd.prog Q ⟨base, d⟩ w1 := by
  have hmix : Tryd.prog.follows .mixedOrders = true := by kernel_rfl
  have h2 := (show Tryd.f3.body.bind (regs 57) = some _ from rfl).symm.trans hops
  obtain rfl := Option.some.inj h2
  clear h2 hops
  have below1 : Below w1.heap.size w1 w1.drew := (Below.refl _ _).drew
  obtain ⟨LL, hLe⟩ : ∃ LL : List (Option Tmp × Value), LL = [(some 261, .slice (some ⟨gL, oL, none⟩) nN cL), (some 262, .int .i64 (ix : Nat)), (some 263, .pointer (some ⟨gL, oL + ix, none⟩)), (some 264, .string sx), (some 265, .slice pN nN cN), (some 266, .int .i64 (ix : Nat)), (some 267, .pointer (some ⟨gN, ix, none⟩)), (some 268, .string sx), (some 269, .bool false)] := ⟨_, rfl⟩
  have vv0 : vals LL 0 = .slice (some ⟨gL, oL, none⟩) nN cL := by rw [hLe]; rfl
  have vv1 : vals LL 1 = .int .i64 (ix : Nat) := by rw [hLe]; rfl
  have vv2 : vals LL 2 = .pointer (some ⟨gL, oL + ix, none⟩) := by rw [hLe]; rfl
  have vv3 : vals LL 3 = .string sx := by rw [hLe]; rfl
  have vv4 : vals LL 4 = .slice pN nN cN := by rw [hLe]; rfl
  have vv5 : vals LL 5 = .int .i64 (ix : Nat) := by rw [hLe]; rfl
  have vv6 : vals LL 6 = .pointer (some ⟨gN, ix, none⟩) := by rw [hLe]; rfl
  have vv7 : vals LL 7 = .string sx := by rw [hLe]; rfl
  have vv8 : vals LL 8 = .bool false := by rw [hLe]; rfl
  refine region_laid hmix (by kernel_rfl) 282 hsz (by kernel_rfl) LL (by rw [hLe]; rfl) (fun _ W => Below w1.heap.size w1 W) below1 ?_ ?_
  · intro b W i o a hS hcl ho hb hd ev kp yl
    match i with
    | 0 =>
      simp only [List.getElem?_toArray, List.getElem?_cons_zero, Option.some.injEq] at ho
      subst ho
      have e20 : a.tmps[20]?.getD undef = .slice (some ⟨gL, oL, none⟩) nN cL := (kp 20 (by kernel_rfl)).trans b20
      rw [vv0]
      refine does_value rfl (by intro c h; cases h) (w' := W) ?_ (hS)
      · simp [execOp, go_sem, e20]
    | 1 =>
      simp only [List.getElem?_toArray, List.getElem?_cons_zero, List.getElem?_cons_succ, Option.some.injEq] at ho
      subst ho
      have e23 : a.tmps[23]?.getD undef = .int .i64 (ix : Nat) := (kp 23 (by kernel_rfl)).trans b23
      rw [vv1]
      refine does_value rfl (by intro c h; cases h) (w' := W) ?_ (hS)
      · simp [execOp, go_sem, e23]
    | 2 =>
      simp only [List.getElem?_toArray, List.getElem?_cons_zero, List.getElem?_cons_succ, Option.some.injEq] at ho
      subst ho
      have p0 : b 0 = true := hd ⟨0, .data⟩ (by simp) rfl
      have p1 : b 1 = true := hd ⟨1, .data⟩ (by simp) rfl
      have e261 := (ev 0 261 rfl p0).trans vv0
      have e262 := (ev 1 262 rfl p1).trans vv1
      rw [vv2]
      refine does_value rfl (by intro c h; cases h) (w' := W) ?_ (hS)
      · simp [execOp, go_sem, e261, e262, hL]
    | 3 =>
      simp only [List.getElem?_toArray, List.getElem?_cons_zero, List.getElem?_cons_succ, Option.some.injEq] at ho
      subst ho
      have p2 : b 2 = true := hd ⟨2, .data⟩ (by simp) rfl
      have e263 := (ev 2 263 rfl p2).trans vv2
      have hl := (hS.cell (p := ⟨gL, oL + ix, none⟩) (cell_lt dL)).trans dL
      rw [vv3]
      refine does_value rfl (by intro c h; cases h) (w' := W) ?_ (hS)
      · simp [execOp, go_sem, e263, hl]
    | 4 =>
      simp only [List.getElem?_toArray, List.getElem?_cons_zero, List.getElem?_cons_succ, Option.some.injEq] at ho
      subst ho
      have e5 : a.tmps[5]?.getD undef = .pointer (some ⟨NB, 0, none⟩) := (kp 5 (by kernel_rfl)).trans b5
      have hl := (hS.cell (p := ⟨NB, 0, none⟩) (cell_lt dN)).trans dN
      rw [vv4]
      refine does_value rfl (by intro c h; cases h) (w' := W) ?_ (hS)
      · simp [execOp, go_sem, e5, hl]
    | 5 =>
      simp only [List.getElem?_toArray, List.getElem?_cons_zero, List.getElem?_cons_succ, Option.some.injEq] at ho
      subst ho
      have e23 : a.tmps[23]?.getD undef = .int .i64 (ix : Nat) := (kp 23 (by kernel_rfl)).trans b23
      rw [vv5]
      refine does_value rfl (by intro c h; cases h) (w' := W) ?_ (hS)
      · simp [execOp, go_sem, e23]
    | 6 =>
      simp only [List.getElem?_toArray, List.getElem?_cons_zero, List.getElem?_cons_succ, Option.some.injEq] at ho
      subst ho
      have p4 : b 4 = true := hd ⟨4, .data⟩ (by simp) rfl
      have p5 : b 5 = true := hd ⟨5, .data⟩ (by simp) rfl
      have e265 := (ev 4 265 rfl p4).trans vv4
      have e266 := (ev 5 266 rfl p5).trans vv5
      rw [vv6]
      refine does_value rfl (by intro c h; cases h) (w' := W) ?_ (hS)
      · simp [execOp, go_sem, e265, e266, hp, hL]
    | 7 =>
      simp only [List.getElem?_toArray, List.getElem?_cons_zero, List.getElem?_cons_succ, Option.some.injEq] at ho
      subst ho
      have p6 : b 6 = true := hd ⟨6, .data⟩ (by simp) rfl
      have e267 := (ev 6 267 rfl p6).trans vv6
      have hl := (hS.cell (p := ⟨gN, ix, none⟩) (cell_lt dX)).trans dX
      rw [vv7]
      refine does_value rfl (by intro c h; cases h) (w' := W) ?_ (hS)
      · simp [execOp, go_sem, e267, hl]
    | 8 =>
      simp only [List.getElem?_toArray, List.getElem?_cons_zero, List.getElem?_cons_succ, Option.some.injEq] at ho
      subst ho
      have p3 : b 3 = true := hd ⟨3, .data⟩ (by simp) rfl
      have p7 : b 7 = true := hd ⟨7, .data⟩ (by simp) rfl
      have e264 := (ev 3 264 rfl p3).trans vv3
      have e268 := (ev 7 268 rfl p7).trans vv7
      rw [vv8]
      refine does_value rfl (by intro c h; cases h) (w' := W) ?_ (hS)
      · simp [execOp, go_sem, e264, e268]
    | k + 9 => simp at ho
  · intro b' W hS _
    subst hLe
    exact hQ W hS

end Go.Proofs.YtdocablbkafkiaaDoor.Cd

namespace Go.Proofs.YtdocablbkafkiaaDoor.Cd
open Go.RowKit Go.Maps

attribute [local go_sem] Oper.semAt_some

def nmV (E : List En) : List Value := E.map fun x => .string (bas x.name)
def nuV (E : List En) : List Value := E.map fun x => .int .i64 (x.num : Nat)
theorem nmV_length (E : List En) : (nmV E).length = E.length := by simp [nmV]
theorem nuV_length (E : List En) : (nuV E).length = E.length := by simp [nuV]
theorem nmV_at {E : List En} {j : Nat} {x : En} (h : E[j]? = some x) : (nmV E)[j]? = some (.string (bas x.name)) := by simp [nmV, h]
theorem nuV_at {E : List En} {j : Nat} {x : En} (h : E[j]? = some x) : (nuV E)[j]? = some (.int .i64 (x.num : Nat)) := by simp [nuV, h]

theorem Rw.set {w : World} {base t : Nat} {p : Option Addr} {n c : Nat} {xs : List Value} (h : Rw w base t p n c xs) {g j : Nat} (hp : p = some ⟨g, 0, none⟩) (hj : j < n) (u : Value) : Rw (w.setCell ⟨g, j, none⟩ u) base t p n c (xs.set j u) := by
  obtain ⟨h1, h2, ⟨h0, _⟩ | ⟨g', cs, e, hb, hg, hc⟩⟩ := h
  · rw [h0] at hp; cases hp
  · obtain rfl : g' = g := by rw [hp] at e; injection e with e; injection e with e; exact e.symm
    refine ⟨by simpa using h1, h2, .inr ⟨g', cs.setIfInBounds j u, hp, hb, ?_, fun i v hv => ?_⟩⟩
    · simp only [World.setCell, Array.getElem?_modify, hg]
      simp
    · rw [List.getElem?_set] at hv
      by_cases e' : j = i
      · subst e'
        rw [if_pos rfl] at hv
        have hjl : j < xs.length := by omega
        rw [if_pos hjl] at hv
        have := hc j _ (List.getElem?_eq_getElem hjl)
        have hjs := (Array.getElem?_eq_some_iff.1 this).1
        rw [Array.getElem?_setIfInBounds_self_of_lt hjs]; exact hv
      · rw [if_neg e'] at hv
        rw [Array.getElem?_setIfInBounds_ne e']; exact hc i v hv

/-- What the law keeps. -/
structure LS (w : World) (NB MB a : Nat) (E : List En) (pN : Option Addr) (cN : Nat) (pM : Option Addr) (cM : Nat) (wr : World) : Prop where
  dir : DirE wr w.heap.size a E
  nb : wr.heap[NB]? = some (.cells #[.slice pN E.length cN] 26 (0, 0))
  rn : Rw wr w.heap.size 9 pN E.length cN (nmV E)
  mb : wr.heap[MB]? = some (.cells #[.slice pM E.length cM] 27 (0, 0))
  rm : Rw wr w.heap.size 3 pM E.length cM (nuV E)
  bel : Below w.heap.size w wr
  loN : w.heap.size ≤ NB
  loM : w.heap.size ≤ MB
theorem LS.below {w wr W : World} {NB MB a : Nat} {E : List En} {pN : Option Addr} {cN : Nat} {pM : Option Addr} {cM : Nat} (h : LS w NB MB a E pN cN pM cM wr) (hb : Below wr.heap.size wr W) : LS w NB MB a E pN cN pM cM W :=
  ⟨h.dir.below hb, (hb.block NB (block_lt h.nb)).trans h.nb, h.rn.below hb, (hb.block MB (block_lt h.mb)).trans h.mb, h.rm.below hb, h.bel.trans (hb.mono h.bel.size), h.loN, h.loM⟩
/-- Another directory, or the same one turned, by what turns no block of the lists. -/
theorem LS.fr {w wr W : World} {NB MB a a' : Nat} {E : List En} {pN : Option Addr} {cN : Nat} {pM : Option Addr} {cM : Nat} (h : LS w NB MB a E pN cN pM cM wr) (hf : Fr w.heap.size wr W) (hd : DirE W w.heap.size a' E) : LS w NB MB a' E pN cN pM cM W :=
  ⟨hd, (hf.block NB (block_lt h.nb) (fun hk => not_DT h.nb (by decide) (by decide) (by decide) hk.2)).trans h.nb, h.rn.kept hf (fun g cs hg hk => not_DT hg (by decide) (by decide) (by decide) hk.2), (hf.block MB (block_lt h.mb) (fun hk => not_DT h.mb (by decide) (by decide) (by decide) hk.2)).trans h.mb,
    h.rm.kept hf (fun g cs hg hk => not_DT hg (by decide) (by decide) (by decide) hk.2), h.bel.trans (hf.toBelow h.bel.size), h.loN, h.loM⟩
/-- The lists alone, while the directory has gone on. -/
structure LT (w : World) (NB MB a : Nat) (E E1 E2 : List En) (pN : Option Addr) (cN : Nat) (pM : Option Addr) (cM : Nat) (wr : World) : Prop where
  dir : DirE wr w.heap.size a E
  nb : wr.heap[NB]? = some (.cells #[.slice pN E1.length cN] 26 (0, 0))
  rn : Rw wr w.heap.size 9 pN E1.length cN (nmV E1)
  mb : wr.heap[MB]? = some (.cells #[.slice pM E2.length cM] 27 (0, 0))
  rm : Rw wr w.heap.size 3 pM E2.length cM (nuV E2)
  bel : Below w.heap.size w wr
  loN : w.heap.size ≤ NB
  loM : w.heap.size ≤ MB
theorem LS.gone {w wr W : World} {NB MB a a' : Nat} {E E' : List En} {pN : Option Addr} {cN : Nat} {pM : Option Addr} {cM : Nat} (h : LS w NB MB a E pN cN pM cM wr) (hf : Fr w.heap.size wr W) (hd : DirE W w.heap.size a' E') : LT w NB MB a' E' E E pN cN pM cM W :=
  ⟨hd, (hf.block NB (block_lt h.nb) (fun hk => not_DT h.nb (by decide) (by decide) (by decide) hk.2)).trans h.nb, h.rn.kept hf (fun g cs hg hk => not_DT hg (by decide) (by decide) (by decide) hk.2), (hf.block MB (block_lt h.mb) (fun hk => not_DT h.mb (by decide) (by decide) (by decide) hk.2)).trans h.mb,
    h.rm.kept hf (fun g cs hg hk => not_DT hg (by decide) (by decide) (by decide) hk.2), h.bel.trans (hf.toBelow h.bel.size), h.loN, h.loM⟩
theorem LT.back {w wr : World} {NB MB a : Nat} {E : List En} {pN : Option Addr} {cN : Nat} {pM : Option Addr} {cM : Nat} (h : LT w NB MB a E E E pN cN pM cM wr) : LS w NB MB a E pN cN pM cM wr := ⟨h.dir, h.nb, h.rn, h.mb, h.rm, h.bel, h.loN, h.loM⟩
theorem LT.names {w wr W : World} {NB MB a : Nat} {E E1 E2 E3 : List En} {pN : Option Addr} {cN : Nat} {pM : Option Addr} {cM : Nat} {p3 : Option Addr} {c3 : Nat} (h : LT w NB MB a E E1 E2 pN cN pM cM wr) (ho : Only (fun k => k = NB) wr W) (hn : W.heap[NB]? = some (.cells #[.slice p3 E3.length c3] 26 (0, 0))) (hr : Rw W w.heap.size 9 p3 E3.length c3 (nmV E3)) :
    LT w NB MB a E E3 E2 p3 c3 pM cM W := by
  refine ⟨h.dir.kept ho (fun k hk e => not_DT h.nb (by decide) (by decide) (by decide) (by rw [← e]; exact hk)), hn, hr, (ho.block MB (block_lt h.mb) (fun e => ?_)).trans h.mb, h.rm.kept ho (fun g cs hg e => ?_), h.bel.trans (ho.below h.bel.size (fun k e => by rw [e]; exact h.loN)), h.loN, h.loM⟩
  · have := h.mb; rw [e, h.nb] at this; injection this with this; injection this with _ h2 _; exact absurd h2 (by decide)
  · rw [e, h.nb] at hg; cases hg
theorem LT.nums {w wr W : World} {NB MB a : Nat} {E E1 E2 E3 : List En} {pN : Option Addr} {cN : Nat} {pM : Option Addr} {cM : Nat} {p3 : Option Addr} {c3 : Nat} (h : LT w NB MB a E E1 E2 pN cN pM cM wr) (ho : Only (fun k => k = MB) wr W) (hn : W.heap[MB]? = some (.cells #[.slice p3 E3.length c3] 27 (0, 0))) (hr : Rw W w.heap.size 3 p3 E3.length c3 (nuV E3)) :
    LT w NB MB a E E1 E3 pN cN p3 c3 W := by
  refine ⟨h.dir.kept ho (fun k hk e => not_DT h.mb (by decide) (by decide) (by decide) (by rw [← e]; exact hk)), (ho.block NB (block_lt h.nb) (fun e => ?_)).trans h.nb, h.rn.kept ho (fun g cs hg e => ?_), hn, hr, h.bel.trans (ho.below h.bel.size (fun k e => by rw [e]; exact h.loM)), h.loN, h.loM⟩
  · have := h.nb; rw [e, h.mb] at this; injection this with this; injection this with _ h2 _; exact absurd h2 (by decide)
  · rw [e, h.mb] at hg; cases hg
/-- A number of the list is set. -/
theorem LT.num {w wr : World} {NB MB a : Nat} {E E1 E2 E3 : List En} {pN : Option Addr} {cN : Nat} {pM : Option Addr} {cM : Nat} (h : LT w NB MB a E E1 E2 pN cN pM cM wr) {j g : Nat} (hj : j < E2.length) (hp : pM = some ⟨g, 0, none⟩) {u : Value} (hu : (nuV E2).set j u = nuV E3) : LT w NB MB a E E1 E3 pN cN pM cM (wr.setCell ⟨g, j, none⟩ u) := by
  obtain ⟨y, hy⟩ : ∃ y, (nuV E2)[j]? = some y := ⟨_, List.getElem?_eq_getElem (by rw [nuV_length]; exact hj)⟩
  obtain ⟨g', e', _, hlo, cs, hg⟩ := h.rm.cell hy
  obtain rfl : g' = g := by rw [hp] at e'; injection e' with e'; injection e' with e'; exact e'.symm
  have ho : Only (fun k => k = g') wr (wr.setCell ⟨g', j, none⟩ u) := Only.setCell wr ⟨g', j, none⟩ u rfl
  have hl3 : E3.length = E2.length := by rw [← nuV_length E3, ← hu, List.length_set, nuV_length]
  refine ⟨h.dir.kept ho (fun k hk e => not_DT hg (by decide) (by decide) (by decide) (by rw [← e]; exact hk)), (ho.block NB (block_lt h.nb) (fun e => ?_)).trans h.nb, h.rn.kept ho (fun q cs' hq e => ?_), ?_, ?_, h.bel.trans (ho.below h.bel.size (fun k e => by rw [e]; exact hlo)), h.loN, h.loM⟩
  · have := h.nb; rw [e, hg] at this; cases this
  · rw [e, hg] at hq; cases hq
  · rw [hl3, ho.block MB (block_lt h.mb) (fun e => ?_)]
    · exact h.mb
    · have := h.mb; rw [e, hg] at this; cases this
  · rw [hl3, ← hu]; exact h.rm.set hp hj u

set_option maxRecDepth 8000 in
set_option maxHeartbeats 1000000 in
/-- The closure, at entry t. -/
theorem clo_any (fB kB NB MB n cN cM gN gM t : Nat) (sx : ByteArray) (m : Nat) (W : World) (hf : W.heap[fB]? = some (.cells #[.bool true] 4 (0, 0))) (hk : W.heap[kB]? = some (.cells #[.int .i64 (t : Nat)] 3 (0, 0)))
    (cN0 : W.cell? ⟨NB, 0, none⟩ = some (.slice (some ⟨gN, 0, none⟩) n cN)) (cX : W.cell? ⟨gN, t, none⟩ = some (.string sx)) (cM0 : W.cell? ⟨MB, 0, none⟩ = some (.slice (some ⟨gM, 0, none⟩) n cM)) (cY : W.cell? ⟨gM, t, none⟩ = some (.int .i64 (m : Nat))) (ht : t < n) (hn : n ≤ 5000) :
    Calls Tryd.prog 19 #[.string sx, .int .i64 (m : Nat), .pointer (some ⟨fB, 0, none⟩), .pointer (some ⟨kB, 0, none⟩), .pointer (some ⟨NB, 0, none⟩), .pointer (some ⟨MB, 0, none⟩)] W fun e w' => e = .returned (.tuple #[]) ∧ Only (fun k => k = fB ∨ k = kB) W w' ∧ w'.heap[fB]? = some (.cells #[.bool true] 4 (0, 0)) ∧ w'.heap[kB]? = some (.cells #[.int .i64 ((t + 1 : Nat) : Int)] 3 (0, 0)) := by
  have hne : fB ≠ kB := fun e => by rw [e, hk] at hf; cases hf
  have c1 : W.cell? ⟨fB, 0, none⟩ = some (.bool true) := cellOf hf 0
  have c2 : W.cell? ⟨kB, 0, none⟩ = some (.int .i64 (t : Nat)) := cellOf hk 0
  have f1 := frozenOf hf 0
  have f2 := frozenOf hk 0
  have hI : (t : Int) < (n : Int) := by omega
  obtain ⟨W1, hW1⟩ : ∃ W1, W1 = W.setCell ⟨fB, 0, none⟩ (.bool true) := ⟨_, rfl⟩
  have ho1 : Only (fun k => k = fB) W W1 := by rw [hW1]; exact Only.setCell _ _ _ rfl
  have hf1 : W1.heap[fB]? = some (.cells #[.bool true] 4 (0, 0)) := by rw [hW1, heap_set_same hf]; rfl
  have hk1 : W1.heap[kB]? = some (.cells #[.int .i64 (t : Nat)] 3 (0, 0)) := (ho1.block kB (block_lt hk) (fun e => hne e.symm)).trans hk
  have HF : Hid ((W1.setCell ⟨kB, 0, none⟩ (.int .i64 ((t : Int) + 1))).heap[fB]? = some (.cells #[.bool true] 4 (0, 0)) ∧ (W1.setCell ⟨kB, 0, none⟩ (.int .i64 ((t : Int) + 1))).heap[kB]? = some (.cells #[.int .i64 ((t + 1 : Nat) : Int)] 3 (0, 0)) ∧ Only (fun k => k = fB ∨ k = kB) W (W1.setCell ⟨kB, 0, none⟩ (.int .i64 ((t : Int) + 1)))) := by
    have ho2 : Only (fun k => k = kB) W1 (W1.setCell ⟨kB, 0, none⟩ (.int .i64 ((t : Int) + 1))) := Only.setCell _ _ _ rfl
    refine ⟨(ho2.block fB (block_lt hf1) hne).trans hf1, by rw [heap_set_same hk1]; rfl, (ho1.weak (fun k _ h => .inl h)).trans (ho2.weak (T := fun k => k = fB ∨ k = kB) (fun k _ h => .inr h)) (fun k h => .inl h)⟩
  rw [hW1] at HF
  clear ho1 hf1 hk1 hf hk hW1
  go_enter Tryd.func19, Tryd.ntmps19
  go_wp2
  go_end0
  exact ⟨rfl, HF.out.2.2, HF.out.1, HF.out.2.1⟩

end Go.Proofs.YtdocablbkafkiaaDoor.Cd
