/-
  A cache as a store of blocks: what each block holds (V), how often each is pinned; room for all.
-/
import Derived.Test.YtebdgcoandfocaaGreatDoorKCwords
import Derived.Test.YtebdgcoandfocaaGreatDoorKWalm
import Derived.Test.YtebdgcoandfocaaGreatDoorQWapk

/-
  A file's numbers as one function: places 0 to 127, and behind them the numbers of the three blocks of numbers (128: of the places 8 to 71; 129: of the block that leads to the last one; 130: of the places from 72 on). Pure: no program.
-/
namespace Go.Proofs.YtebdgcoandfocaaGreatDoor
namespace Ino

abbrev Num := BitVec 32
abbrev Gs := Nat → Num

def upd (G : Gs) (i : Nat) (r : Num) : Gs := fun j => if j = i then r else G j
theorem upd_same (G : Gs) (i : Nat) (r : Num) : upd G i r i = r := by simp [upd]
theorem upd_ne (G : Gs) {i j : Nat} (r : Num) (h : j ≠ i) : upd G i r j = G j := by simp [upd, h]

/-- The indices that a write of the places f up to t looks at, in its order. -/
def span (a b : Nat) : List Nat := (List.range (b - a)).map (a + ·)
theorem mem_span {a b x : Nat} : x ∈ span a b ↔ a ≤ x ∧ x < b := by
  simp only [span, List.mem_map, List.mem_range]
  constructor
  · rintro ⟨y, hy, rfl⟩; omega
  · intro h; exact ⟨x - a, by omega, by omega⟩
theorem span_length (a b : Nat) : (span a b).length = b - a := by simp [span]
theorem span_nodup (a b : Nat) : (span a b).Nodup := by
  refine List.Pairwise.map _ ?_ List.nodup_range
  intro x y h; simpa using h
theorem span_nil {a b : Nat} (h : b ≤ a) : span a b = [] := by simp [span, Nat.sub_eq_zero_of_le h]
theorem span_cons {a b : Nat} (h : a < b) : span a b = a :: span (a + 1) b := by
  apply List.ext_getElem
  · simp [span]; omega
  · intro i h1 h2
    rcases i with _ | i
    · simp [span]
    · simp [span]; omega
def idx (f t : Nat) : List Nat :=
  span f (min t 8) ++ (if f < 72 ∧ 8 < t then 128 :: span (max f 8) (min t 72) else []) ++ (if 72 < t then 129 :: 130 :: span (max f 72) t else [])

theorem mem_idx {f t x : Nat} (ht : t ≤ 128) (hft : f < t) : x ∈ idx f t ↔ (f ≤ x ∧ x < t) ∨ (x = 128 ∧ f < 72 ∧ 8 < t) ∨ ((x = 129 ∨ x = 130) ∧ 72 < t) := by
  unfold idx
  split <;> split
  all_goals simp only [List.mem_append, List.mem_cons, mem_span, List.not_mem_nil, or_false]
  all_goals constructor
  all_goals intro h
  all_goals omega

theorem idx_length {f t : Nat} (ht : t ≤ 128) (hft : f < t) : (idx f t).length ≤ t + (if 8 < t then 1 else 0) + (if 72 < t then 2 else 0) := by
  unfold idx
  by_cases h1 : f < 72 ∧ 8 < t <;> by_cases h2 : 72 < t
  all_goals simp only [h1, h2, if_true, if_false, List.length_append, List.length_cons, span_length, List.length_nil, and_self]
  all_goals (try split)
  all_goals omega

/-- Each index gets a number that has none: the next one that is free. -/
def ensure (fr : List Num) : Gs → Nat → List Nat → Option (Gs × Nat)
  | G, k, [] => some (G, k)
  | G, k, i :: L => if G i = 0 then (match fr[k]? with | some r => ensure fr (upd G i r) (k + 1) L | none => none) else ensure fr G k L

theorem ensure_nil (fr : List Num) (G : Gs) (k : Nat) : ensure fr G k [] = some (G, k) := rfl
theorem ensure_has {fr : List Num} {G : Gs} {k i : Nat} {L : List Nat} (h : G i ≠ 0) : ensure fr G k (i :: L) = ensure fr G k L := by rw [ensure, if_neg h]
theorem ensure_take {fr : List Num} {G : Gs} {k i : Nat} {L : List Nat} {r : Num} (h : G i = 0) (hr : fr[k]? = some r) : ensure fr G k (i :: L) = ensure fr (upd G i r) (k + 1) L := by rw [ensure, if_pos h, hr]
theorem ensure_out {fr : List Num} {G : Gs} {k i : Nat} {L : List Nat} (h : G i = 0) (hr : fr[k]? = none) : ensure fr G k (i :: L) = none := by rw [ensure, if_pos h, hr]
theorem ensure_app (fr : List Num) : ∀ (L M : List Nat) (G : Gs) (k : Nat), ensure fr G k (L ++ M) = (ensure fr G k L).bind fun x => ensure fr x.1 x.2 M
  | [], M, G, k => by simp [ensure]
  | i :: L, M, G, k => by
    rw [List.cons_append]
    by_cases h : G i = 0
    · cases hr : fr[k]? with
      | none => rw [ensure_out h hr, ensure_out h hr]; rfl
      | some r => rw [ensure_take h hr, ensure_take h hr, ensure_app fr L M]
    · rw [ensure_has h, ensure_has h, ensure_app fr L M]

/-- What is known of numbers while free ones are taken: k of them are. -/
structure Tak (G0 : Gs) (fr : List Num) (G : Gs) (k : Nat) : Prop where
  le : k ≤ fr.length
  old : ∀ i, G0 i ≠ 0 → G i = G0 i
  new : ∀ i, G i ≠ 0 → G0 i = 0 → ∃ j, j < k ∧ fr[j]? = some (G i)
  inj : ∀ i j, G i = G j → G i ≠ 0 → i = j
  all : ∀ j r, j < k → fr[j]? = some r → ∃ i, G i = r ∧ G0 i = 0

theorem Tak.start {G : Gs} (fr : List Num) (hi : ∀ i j, G i = G j → G i ≠ 0 → i = j) : Tak G fr G 0 :=
  ⟨Nat.zero_le _, fun _ _ => rfl, fun _ h1 h2 => absurd h2 h1, hi, fun _ _ h => absurd h (Nat.not_lt_zero _)⟩

theorem Tak.take {G0 G : Gs} {fr : List Num} {k i : Nat} {r : Num} (h : Tak G0 fr G k) (hf : fr.Nodup) (h0 : ∀ x ∈ fr, x ≠ 0 ∧ ∀ i, G0 i ≠ x) (hi : G i = 0) (hr : fr[k]? = some r) : Tak G0 fr (upd G i r) (k + 1) := by
  have hk : k < fr.length := (List.getElem?_eq_some_iff.1 hr).1
  have hm : r ∈ fr := List.mem_of_getElem? hr
  have hfresh : ∀ j, G j ≠ r := by
    intro j e
    by_cases hz : G0 j = 0
    · obtain ⟨x, hx, hxe⟩ := h.new j (by rw [e]; exact (h0 r hm).1) hz
      rw [e] at hxe
      have := (List.getElem?_inj (by omega : x < fr.length) hf).1 (hxe.trans hr.symm)
      omega
    · rw [h.old j hz] at e
      exact (h0 r hm).2 j e
  refine ⟨by omega, ?_, ?_, ?_, ?_⟩
  · intro j hj
    by_cases e : j = i
    · subst e; exact absurd ((h.old j hj).symm.trans hi) hj
    · rw [upd_ne _ _ e]; exact h.old j hj
  · intro j h1 h2
    by_cases e : j = i
    · subst e; exact ⟨k, by omega, by rw [upd_same]; exact hr⟩
    · rw [upd_ne _ _ e] at h1 ⊢
      obtain ⟨x, hx, hxe⟩ := h.new j h1 h2
      exact ⟨x, by omega, hxe⟩
  · intro a b h1 h2
    by_cases ea : a = i <;> by_cases eb : b = i
    · rw [ea, eb]
    · subst ea; rw [upd_same, upd_ne _ _ eb] at h1; exact absurd h1.symm (hfresh b)
    · subst eb; rw [upd_same, upd_ne _ _ ea] at h1; exact absurd h1 (hfresh a)
    · rw [upd_ne _ _ ea, upd_ne _ _ eb] at h1; rw [upd_ne _ _ ea] at h2; exact h.inj a b h1 h2
  · intro j x hj hx
    by_cases e : j = k
    · subst e
      rw [hr] at hx
      refine ⟨i, by rw [upd_same]; exact Option.some.inj hx, ?_⟩
      exact Classical.byContradiction fun hn => hn ((h.old i hn).symm.trans hi)
    · obtain ⟨a, ha, hz⟩ := h.all j x (by omega) hx
      have : a ≠ i := by
        rintro rfl
        rw [hi] at ha
        exact (h0 x (List.mem_of_getElem? hx)).1 ha.symm
      exact ⟨a, by rw [upd_ne _ _ this]; exact ha, hz⟩

/-- What an ensure leaves. -/
structure Ens (G0 : Gs) (fr : List Num) (L : List Nat) (G : Gs) (k : Nat) : Prop where
  tak : Tak G0 fr G k
  out : ∀ i, i ∉ L → G i = G0 i
  has : ∀ i, i ∈ L → G i ≠ 0
  few : k ≤ L.length

theorem ensure_ok (G0 : Gs) (fr : List Num) (hf : fr.Nodup) (h0 : ∀ x ∈ fr, x ≠ 0 ∧ ∀ i, G0 i ≠ x) : ∀ (L D : List Nat) (G : Gs) (k : Nat) (G' : Gs) (k' : Nat), Ens G0 fr D G k → ensure fr G k L = some (G', k') → Ens G0 fr (D ++ L) G' k'
  | [], D, G, k, G', k', h, e => by
    obtain ⟨rfl, rfl⟩ : G = G' ∧ k = k' := by simpa [ensure] using e
    simpa using h
  | i :: L, D, G, k, G', k', h, e => by
    rw [show D ++ i :: L = (D ++ [i]) ++ L by simp]
    by_cases hi : G i = 0
    · cases hr : fr[k]? with
      | none => rw [ensure_out hi hr] at e; cases e
      | some r =>
        rw [ensure_take hi hr] at e
        have hr0 : r ≠ 0 := (h0 r (List.mem_of_getElem? hr)).1
        refine ensure_ok G0 fr hf h0 L (D ++ [i]) _ _ _ _ ⟨h.tak.take hf h0 hi hr, ?_, ?_, by simp; exact h.few⟩ e
        · intro j hj
          simp only [List.mem_append, List.mem_singleton, not_or] at hj
          rw [upd_ne _ _ hj.2]; exact h.out j hj.1
        · intro j hj
          by_cases ej : j = i
          · subst ej; rw [upd_same]; exact hr0
          · rw [upd_ne _ _ ej]
            simp only [List.mem_append, List.mem_singleton, ej, or_false] at hj
            exact h.has j hj
    · rw [ensure_has hi] at e
      refine ensure_ok G0 fr hf h0 L (D ++ [i]) _ _ _ _ ⟨h.tak, ?_, ?_, by simp; have := h.few; omega⟩ e
      · intro j hj
        simp only [List.mem_append, List.mem_singleton, not_or] at hj
        exact h.out j hj.1
      · intro j hj
        simp only [List.mem_append, List.mem_singleton] at hj
        rcases hj with hj | rfl
        · exact h.has j hj
        · exact hi

/-- It fails only where there are fewer than it looks at. -/
theorem ensure_fail (fr : List Num) : ∀ (L : List Nat) (G : Gs) (k : Nat), ensure fr G k L = none → fr.length < k + L.length
  | [], G, k, h => by simp [ensure] at h
  | i :: L, G, k, h => by
    by_cases hi : G i = 0
    · cases hr : fr[k]? with
      | none => have := List.getElem?_eq_none_iff.1 hr; simp; omega
      | some r =>
        rw [ensure_take hi hr] at h
        have := ensure_fail fr L _ _ h
        simp; omega
    · rw [ensure_has hi] at h
      have := ensure_fail fr L _ _ h
      simp; omega

theorem ensure_all {G G' : Gs} {fr : List Num} {L : List Nat} {k : Nat} (hi : ∀ i j, G i = G j → G i ≠ 0 → i = j) (hf : fr.Nodup) (h0 : ∀ x ∈ fr, x ≠ 0 ∧ ∀ i, G i ≠ x) (e : ensure fr G 0 L = some (G', k)) : Ens G fr L G' k := by
  have := ensure_ok G fr hf h0 L [] G 0 G' k ⟨Tak.start fr hi, fun _ _ => rfl, fun i h => absurd h (by simp), by simp⟩ e
  simpa using this

end Ino
end Go.Proofs.YtebdgcoandfocaaGreatDoor

/-
  A file in blocks: what its numbers, the blocks' bytes and the map of used blocks have to do with the file's bytes (W: byte by byte, zeros behind the size), and that a write, a cut and a growth keep it. Pure: no program.
-/
namespace Go.Proofs.YtebdgcoandfocaaGreatDoor
namespace Ino

def z512 : By := List.replicate 512 0#8
def zT : List Num := List.replicate 64 0#32
def tabB (t : List Num) : By := (t.map le4).flatten ++ List.replicate 256 0#8
def tab1 (G : Gs) : List Num := (List.range 64).map fun i => G (8 + i)
def tab2 (G : Gs) : List Num := (List.range 64).map fun i => if i < 56 then G (72 + i) else 0#32
def tabd (G : Gs) : List Num := G 130 :: List.replicate 63 0#32
def slab (W : Nat → BitVec 8) (p : Nat) : By := (List.range 512).map fun j => W (p * 512 + j)
def cont (V : Nat → By) (G : Gs) (p : Nat) : By := if G p = 0 then z512 else V (G p).toNat

theorem tab1_eq {G G' : Gs} : tab1 G = tab1 G' ↔ ∀ p, 8 ≤ p → p < 72 → G p = G' p := by
  unfold tab1
  rw [List.map_inj_left]
  constructor
  · intro h p h1 h2
    have := h (p - 8) (List.mem_range.2 (by omega))
    rwa [show 8 + (p - 8) = p by omega] at this
  · intro h i hi
    have := List.mem_range.1 hi
    exact h _ (by omega) (by omega)
theorem tab2_eq {G G' : Gs} : tab2 G = tab2 G' ↔ ∀ p, 72 ≤ p → p < 128 → G p = G' p := by
  unfold tab2
  rw [List.map_inj_left]
  constructor
  · intro h p h1 h2
    have := h (p - 72) (List.mem_range.2 (by omega))
    rw [if_pos (by omega), if_pos (by omega)] at this
    rwa [show 72 + (p - 72) = p by omega] at this
  · intro h i _
    by_cases h56 : i < 56
    · rw [if_pos h56, if_pos h56]; exact h _ (by omega) (by omega)
    · rw [if_neg h56, if_neg h56]
theorem tabd_eq {G G' : Gs} (h : G 130 = G' 130) : tabd G = tabd G' := by unfold tabd; rw [h]
theorem tab1_zero {G : Gs} : tab1 G = zT ↔ ∀ p, 8 ≤ p → p < 72 → G p = 0 := by
  rw [show zT = tab1 (fun _ => 0) by decide, tab1_eq]
theorem tab2_zero {G : Gs} : tab2 G = zT ↔ ∀ p, 72 ≤ p → p < 128 → G p = 0 := by
  rw [show zT = tab2 (fun _ => 0) by decide, tab2_eq]

structure File (n : Nat) (U : Nat → Bool) (V : Nat → By) (G : Gs) (sz : Nat) (W : Nat → BitVec 8) : Prop where
  le : sz ≤ 65536
  fin : ∀ i, 131 ≤ i → G i = 0
  inj : ∀ i j, G i = G j → G i ≠ 0 → i = j
  lt : ∀ i, G i ≠ 0 → (G i).toNat < n
  used : ∀ x, x < n → (U x = true ↔ x = 0 ∨ ∃ i, G i ≠ 0 ∧ (G i).toNat = x)
  one : G 128 ≠ 0 ↔ ∃ p, 8 ≤ p ∧ p < 72 ∧ G p ≠ 0
  two : G 130 ≠ 0 ↔ ∃ p, 72 ≤ p ∧ p < 128 ∧ G p ≠ 0
  dbl : G 129 ≠ 0 ↔ G 130 ≠ 0
  t1 : G 128 ≠ 0 → V (G 128).toNat = tabB (tab1 G)
  td : G 129 ≠ 0 → V (G 129).toNat = tabB (tabd G)
  t2 : G 130 ≠ 0 → V (G 130).toNat = tabB (tab2 G)
  data : ∀ p, p < 128 → cont V G p = slab W p
  zero : ∀ i, sz ≤ i → W i = 0
  far : ∀ p, p < 128 → sz ≤ p * 512 → G p = 0

theorem slab_zero (p : Nat) : slab (fun _ => 0) p = z512 := by
  unfold slab z512; rw [List.map_const', List.length_range]; rfl

theorem File.new (n : Nat) (U : Nat → Bool) (V : Nat → By) (hU : ∀ x, x < n → (U x = true ↔ x = 0)) : File n U V (fun _ => 0) 0 (fun _ => 0) where
  le := by omega
  fin _ _ := rfl
  inj _ _ _ h := absurd rfl h
  lt _ h := absurd rfl h
  used x hx := by simpa using hU x hx
  one := by simp
  two := by simp
  dbl := by simp
  t1 h := absurd rfl h
  td h := absurd rfl h
  t2 h := absurd rfl h
  data p _ := by rw [slab_zero]; unfold cont; rw [if_pos rfl]
  zero _ _ := rfl
  far _ _ _ := rfl

theorem File.grow {n : Nat} {U : Nat → Bool} {V : Nat → By} {G : Gs} {sz sz' : Nat} {W : Nat → BitVec 8} (h : File n U V G sz W) (h1 : sz ≤ sz') (h2 : sz' ≤ 65536) : File n U V G sz' W :=
  { h with le := h2, zero := fun i hi => h.zero i (by omega), far := fun p hp hs => h.far p hp (by omega) }

theorem File.write {n : Nat} {U U' : Nat → Bool} {V V' : Nat → By} {G G' : Gs} {sz sz' f t k : Nat} {W W' : Nat → BitVec 8} {fr : List Num} (h : File n U V G sz W) (hft : f < t) (ht : t ≤ 128) (e : Ens G fr (idx f t) G' k)
    (hfr : ∀ x ∈ fr, x ≠ 0 ∧ x.toNat < n) (hU : ∀ x, x < n → (U' x = true ↔ U x = true ∨ ∃ j r, j < k ∧ fr[j]? = some r ∧ r.toNat = x))
    (hV1 : f < 72 → 8 < t → V' (G' 128).toNat = tabB (tab1 G')) (hVd : 72 < t → V' (G' 129).toNat = tabB (tabd G')) (hV2 : 72 < t → V' (G' 130).toNat = tabB (tab2 G'))
    (hVp : ∀ p, f ≤ p → p < t → V' (G' p).toNat = slab W' p) (hVo : ∀ i, i ∉ idx f t → G i ≠ 0 → V' (G i).toNat = V (G i).toNat)
    (hW : ∀ p, p < 128 → ¬ (f ≤ p ∧ p < t) → slab W' p = slab W p) (hs1 : sz ≤ sz') (hs2 : sz' ≤ 65536) (hz : ∀ i, sz' ≤ i → W' i = 0) (hts : (t - 1) * 512 < sz') : File n U' V' G' sz' W' := by
  have mi := fun x => @mem_idx f t x ht hft
  have keep : ∀ i, G i ≠ 0 → G' i = G i := e.tak.old
  have out : ∀ i, i ∉ idx f t → G' i = G i := e.out
  refine ⟨hs2, ?_, e.tak.inj, ?_, ?_, ?_, ?_, ?_, ?_, ?_, ?_, ?_, hz, ?_⟩
  · intro i hi
    rw [out i (by rw [mi]; omega)]; exact h.fin i hi
  · intro i hi
    by_cases hg : G i = 0
    · obtain ⟨j, _, hj⟩ := e.tak.new i hi hg
      exact (hfr _ (List.mem_of_getElem? hj)).2
    · rw [keep i hg]; exact h.lt i hg
  · intro x hx
    rw [hU x hx, h.used x hx]
    constructor
    · rintro ((rfl | ⟨i, h1, h2⟩) | ⟨j, r, h1, h2, h3⟩)
      · exact .inl rfl
      · exact .inr ⟨i, by rw [keep i h1]; exact h1, by rw [keep i h1]; exact h2⟩
      · obtain ⟨i, hi, _⟩ := e.tak.all j r h1 h2
        exact .inr ⟨i, by rw [hi]; exact (hfr r (List.mem_of_getElem? h2)).1, by rw [hi]; exact h3⟩
    · rintro (rfl | ⟨i, h1, h2⟩)
      · exact .inl (.inl rfl)
      · by_cases hg : G i = 0
        · obtain ⟨j, hj, hj2⟩ := e.tak.new i h1 hg
          exact .inr ⟨j, _, hj, hj2, h2⟩
        · rw [keep i hg] at h2; exact .inl (.inr ⟨i, hg, h2⟩)
  · constructor
    · intro h8
      by_cases hm : f < 72 ∧ 8 < t
      · exact ⟨max f 8, by omega, by omega, e.has _ ((mi _).2 (by omega))⟩
      · rw [out 128 (by rw [mi]; omega)] at h8
        obtain ⟨p, h1, h2, h3⟩ := h.one.1 h8
        exact ⟨p, h1, h2, by rw [keep p h3]; exact h3⟩
    · rintro ⟨p, h1, h2, h3⟩
      by_cases hm : f ≤ p ∧ p < t
      · exact e.has _ ((mi _).2 (by omega))
      · rw [out p (by rw [mi]; omega)] at h3
        have := h.one.2 ⟨p, h1, h2, h3⟩
        rw [keep _ this]; exact this
  · constructor
    · intro h8
      by_cases hm : 72 < t
      · exact ⟨max f 72, by omega, by omega, e.has _ ((mi _).2 (by omega))⟩
      · rw [out 130 (by rw [mi]; omega)] at h8
        obtain ⟨p, h1, h2, h3⟩ := h.two.1 h8
        exact ⟨p, h1, h2, by rw [keep p h3]; exact h3⟩
    · rintro ⟨p, h1, h2, h3⟩
      by_cases hm : f ≤ p ∧ p < t
      · exact e.has _ ((mi _).2 (by omega))
      · rw [out p (by rw [mi]; omega)] at h3
        have := h.two.2 ⟨p, h1, h2, h3⟩
        rw [keep _ this]; exact this
  · by_cases hm : 72 < t
    · exact ⟨fun _ => e.has _ ((mi _).2 (by omega)), fun _ => e.has _ ((mi _).2 (by omega))⟩
    · rw [out 129 (by rw [mi]; omega), out 130 (by rw [mi]; omega)]; exact h.dbl
  · intro h8
    by_cases hm : f < 72 ∧ 8 < t
    · exact hV1 hm.1 hm.2
    · have hn : 128 ∉ idx f t := by rw [mi]; omega
      rw [out 128 hn] at h8 ⊢
      rw [hVo 128 hn h8, h.t1 h8]
      refine congrArg tabB (tab1_eq.2 fun p h1 h2 => ?_)
      rw [out p (by rw [mi]; omega)]
  · intro h8
    by_cases hm : 72 < t
    · exact hVd hm
    · have hn : 129 ∉ idx f t := by rw [mi]; omega
      rw [out 129 hn] at h8 ⊢
      rw [hVo 129 hn h8, h.td h8]
      refine congrArg tabB (tabd_eq ?_)
      rw [out 130 (by rw [mi]; omega)]
  · intro h8
    by_cases hm : 72 < t
    · exact hV2 hm
    · have hn : 130 ∉ idx f t := by rw [mi]; omega
      rw [out 130 hn] at h8 ⊢
      rw [hVo 130 hn h8, h.t2 h8]
      refine congrArg tabB (tab2_eq.2 fun p h1 h2 => ?_)
      rw [out p (by rw [mi]; omega)]
  · intro p hp
    by_cases hm : f ≤ p ∧ p < t
    · rw [cont, if_neg (e.has _ ((mi _).2 (by omega))), hVp p hm.1 hm.2]
    · have hn : p ∉ idx f t := by rw [mi]; omega
      rw [hW p hp hm, ← h.data p hp, cont, cont, out p hn]
      by_cases hg : G p = 0
      · rw [if_pos hg, if_pos hg]
      · rw [if_neg hg, if_neg hg, hVo p hn hg]
  · intro p hp hs
    rw [out p (by rw [mi]; omega)]; exact h.far p hp (by omega)

/-- Places behind a size are given up, and blocks of numbers that lead to nothing then. -/
def cutP (size : Nat) (G : Gs) : Gs := fun p => if p < 128 ∧ size ≤ p * 512 then 0 else G p
def cutG (size : Nat) (G : Gs) : Gs := fun i => if i = 128 ∧ tab1 (cutP size G) = zT then 0 else if (i = 129 ∨ i = 130) ∧ tab2 (cutP size G) = zT then 0 else cutP size G i

theorem cutG_place {size : Nat} {G : Gs} {p : Nat} (h : p < 128) : cutG size G p = cutP size G p := by
  unfold cutG; rw [if_neg (by omega), if_neg (by omega)]
theorem cutG_sub {size : Nat} {G : Gs} {i : Nat} (h : cutG size G i ≠ 0) : cutG size G i = G i := by
  unfold cutG at *
  split at h
  · exact absurd rfl h
  · rename_i h1
    rw [if_neg h1]
    split at h
    · exact absurd rfl h
    · rename_i h2
      rw [if_neg h2]
      unfold cutP at *
      split at h
      · exact absurd rfl h
      · rename_i h3; rw [if_neg h3]

theorem File.cut {n : Nat} {U U' : Nat → Bool} {V V' : Nat → By} {G : Gs} {sz size : Nat} {W : Nat → BitVec 8} (h : File n U V G sz W) (hs : size < sz)
    (hU : ∀ x, x < n → (U' x = true ↔ U x = true ∧ ¬ ∃ i, G i ≠ 0 ∧ cutG size G i = 0 ∧ (G i).toNat = x))
    (hV1 : cutG size G 128 ≠ 0 → V' (G 128).toNat = tabB (tab1 (cutG size G))) (hVd : cutG size G 129 ≠ 0 → V' (G 129).toNat = tabB (tabd (cutG size G))) (hV2 : cutG size G 130 ≠ 0 → V' (G 130).toNat = tabB (tab2 (cutG size G)))
    (hVp : ∀ p, p < 128 → cutG size G p ≠ 0 → V' (G p).toNat = slab (fun i => if i < size then W i else 0) p) : File n U' V' (cutG size G) size (fun i => if i < size then W i else 0) := by
  have e1 : tab1 (cutG size G) = tab1 (cutP size G) := tab1_eq.2 fun p _ h2 => cutG_place (by omega)
  have e2 : tab2 (cutG size G) = tab2 (cutP size G) := tab2_eq.2 fun p _ h2 => cutG_place (by omega)
  have z1 : cutG size G 128 ≠ 0 ↔ (∃ p, 8 ≤ p ∧ p < 72 ∧ cutG size G p ≠ 0) := by
    by_cases hz : tab1 (cutP size G) = zT
    · have hall := tab1_zero.1 (e1.trans hz)
      refine ⟨fun hc => absurd ?_ hc, fun ⟨p, h1, h2, h3⟩ => absurd (hall p h1 h2) h3⟩
      unfold cutG; rw [if_pos ⟨rfl, hz⟩]
    · have hc : cutG size G 128 = G 128 := by
        unfold cutG; rw [if_neg (fun h => hz h.2), if_neg (by omega)]; unfold cutP; rw [if_neg (by omega)]
      have hex : ∃ p, 8 ≤ p ∧ p < 72 ∧ cutG size G p ≠ 0 := Classical.byContradiction fun hn => hz (e1.symm.trans (tab1_zero.2 fun p h1 h2 => Classical.byContradiction fun h3 => hn ⟨p, h1, h2, h3⟩))
      refine ⟨fun _ => hex, fun _ => ?_⟩
      obtain ⟨p, h1, h2, h3⟩ := hex
      rw [hc]
      exact h.one.2 ⟨p, h1, h2, by rw [← cutG_sub h3]; exact h3⟩
  have z2 : ∀ i, (i = 129 ∨ i = 130) → (cutG size G i ≠ 0 ↔ (∃ p, 72 ≤ p ∧ p < 128 ∧ cutG size G p ≠ 0)) := by
    intro i hi
    by_cases hz : tab2 (cutP size G) = zT
    · have hall := tab2_zero.1 (e2.trans hz)
      refine ⟨fun hc => absurd ?_ hc, fun ⟨p, h1, h2, h3⟩ => absurd (hall p h1 h2) h3⟩
      unfold cutG; rw [if_neg (by omega), if_pos ⟨hi, hz⟩]
    · have hc : cutG size G i = G i := by
        unfold cutG; rw [if_neg (by omega), if_neg (fun h => hz h.2)]; unfold cutP; rw [if_neg (by omega)]
      have hex : ∃ p, 72 ≤ p ∧ p < 128 ∧ cutG size G p ≠ 0 := Classical.byContradiction fun hn => hz (e2.symm.trans (tab2_zero.2 fun p h1 h2 => Classical.byContradiction fun h3 => hn ⟨p, h1, h2, h3⟩))
      refine ⟨fun _ => hex, fun _ => ?_⟩
      obtain ⟨p, h1, h2, h3⟩ := hex
      rw [hc]
      have h130 := h.two.2 ⟨p, h1, h2, by rw [← cutG_sub h3]; exact h3⟩
      rcases hi with rfl | rfl
      · exact h.dbl.2 h130
      · exact h130
  have hle := h.le
  refine ⟨by omega, ?_, ?_, ?_, ?_, z1, z2 130 (.inr rfl), (z2 129 (.inl rfl)).trans (z2 130 (.inr rfl)).symm, ?_, ?_, ?_, ?_, ?_, ?_⟩
  · intro i hi
    exact Classical.byContradiction fun hn => hn ((cutG_sub hn).trans (h.fin i hi))
  · intro i j h1 h2
    have h3 : cutG size G j ≠ 0 := h1 ▸ h2
    rw [cutG_sub h2, cutG_sub h3] at h1
    rw [cutG_sub h2] at h2
    exact h.inj i j h1 h2
  · intro i hi
    have hg : G i ≠ 0 := cutG_sub hi ▸ hi
    rw [cutG_sub hi]
    exact h.lt i hg
  · intro x hx
    rw [hU x hx, h.used x hx]
    constructor
    · rintro ⟨rfl | ⟨i, h1, h2⟩, hn⟩
      · exact .inl rfl
      · by_cases hc : cutG size G i = 0
        · exact absurd ⟨i, h1, hc, h2⟩ hn
        · exact .inr ⟨i, hc, by rw [cutG_sub hc]; exact h2⟩
    · rintro (rfl | ⟨i, h1, h2⟩)
      · refine ⟨.inl rfl, ?_⟩
        rintro ⟨i, h1, _, h2⟩
        exact h1 (BitVec.eq_of_toNat_eq (by simpa using h2))
      · rw [cutG_sub h1] at h2
        refine ⟨.inr ⟨i, by rw [← cutG_sub h1]; exact h1, h2⟩, ?_⟩
        rintro ⟨j, h3, h4, h5⟩
        have : j = i := h.inj j i (BitVec.eq_of_toNat_eq (h5.trans h2.symm)) h3
        subst this
        exact h1 h4
  · intro hc; rw [cutG_sub hc]; exact hV1 hc
  · intro hc; rw [cutG_sub hc]; exact hVd hc
  · intro hc; rw [cutG_sub hc]; exact hV2 hc
  · intro p hp
    by_cases hc : cutG size G p = 0
    · rw [cont, if_pos hc]
      by_cases hs2 : size ≤ p * 512
      · unfold slab z512
        rw [show (fun j => if p * 512 + j < size then W (p * 512 + j) else 0) = fun _ => 0#8 from funext fun j => if_neg (by omega), List.map_const', List.length_range]
      · have hg : G p = 0 := by rw [cutG_place hp] at hc; unfold cutP at hc; rwa [if_neg (by omega)] at hc
        have hd := h.data p hp
        rw [cont, if_pos hg] at hd
        have hall : ∀ j, j < 512 → W (p * 512 + j) = 0 := by
          intro j hj
          have e3 : (slab W p)[j]? = some (W (p * 512 + j)) := by rw [slab, List.getElem?_map, List.getElem?_range hj]; rfl
          have e4 : z512[j]? = some 0#8 := by rw [z512, List.getElem?_replicate, if_pos hj]
          rw [← hd, e4] at e3
          exact (Option.some.inj e3).symm
        rw [← slab_zero p]
        unfold slab
        refine List.map_congr_left fun j hj => ?_
        show 0#8 = if p * 512 + j < size then W (p * 512 + j) else 0#8
        rw [hall j (List.mem_range.1 hj)]
        split <;> rfl
    · rw [cont, if_neg hc, cutG_sub hc]; exact hVp p hp hc
  · intro i hi; exact if_neg (by omega)
  · intro p hp hs2
    rw [cutG_place hp]; unfold cutP; rw [if_pos ⟨hp, hs2⟩]

end Ino
end Go.Proofs.YtebdgcoandfocaaGreatDoor

/-
  A file in blocks: how many blocks it takes; the free ones, in their order; puts. Pure: no program.
-/
namespace Go.Proofs.YtebdgcoandfocaaGreatDoor
namespace Ino

def frees (n : Nat) (U : Nat → Bool) : List Nat := (List.range n).filter fun x => !U x
def freeB (n : Nat) (U : Nat → Bool) : List Num := (frees n U).map (BitVec.ofNat 32)

theorem mem_frees {n x : Nat} {U : Nat → Bool} : x ∈ frees n U ↔ x < n ∧ U x = false := by simp [frees]
theorem frees_nodup (n : Nat) (U : Nat → Bool) : (frees n U).Nodup := List.nodup_range.filter _
theorem frees_sorted (n : Nat) (U : Nat → Bool) : (frees n U).Pairwise (· < ·) := (List.pairwise_lt_range (n := n)).filter _
/-- The next one to be taken is the least of those that are free behind k takes. -/
theorem frees_next {n k r : Nat} {U : Nat → Bool} (h : (frees n U)[k]? = some r) : r < n ∧ U r = false ∧ r ∉ (frees n U).take k ∧ ∀ i, i < r → U i = true ∨ i ∈ (frees n U).take k := by
  have hs := frees_sorted n U
  obtain ⟨hk, he⟩ := List.getElem?_eq_some_iff.1 h
  have hm := mem_frees.1 (List.mem_of_getElem? h)
  refine ⟨hm.1, hm.2, ?_, ?_⟩
  · intro hin
    obtain ⟨j, hj, hje⟩ := List.getElem_of_mem hin
    rw [List.length_take] at hj
    rw [List.getElem_take] at hje
    have := (List.pairwise_iff_getElem.1 hs) j k (by omega) hk (by omega)
    omega
  · intro i hi
    by_cases hu : U i = true
    · exact .inl hu
    · refine .inr ?_
      have hin : i ∈ frees n U := mem_frees.2 ⟨by omega, by simpa using hu⟩
      obtain ⟨j, hj, hje⟩ := List.getElem_of_mem hin
      have hjk : j < k := by
        rcases Nat.lt_trichotomy j k with hlt | rfl | hgt
        · exact hlt
        · omega
        · have := (List.pairwise_iff_getElem.1 hs) k j hk hj hgt
          omega
      rw [← hje]
      exact List.mem_iff_getElem.2 ⟨j, by rw [List.length_take]; omega, by rw [List.getElem_take]⟩
theorem frees_none {n k : Nat} {U : Nat → Bool} (h : (frees n U)[k]? = none) : ∀ i, i < n → U i = true ∨ i ∈ (frees n U).take k := by
  intro i hi
  by_cases hu : U i = true
  · exact .inl hu
  · rw [List.take_of_length_le (List.getElem?_eq_none_iff.1 h)]
    exact .inr (mem_frees.2 ⟨hi, by simpa using hu⟩)

theorem freeB_nodup {n : Nat} {U : Nat → Bool} (hn : n ≤ 4294967296) : (freeB n U).Nodup := by
  unfold freeB
  rw [List.nodup_iff_pairwise_ne, List.pairwise_map]
  refine (List.nodup_iff_pairwise_ne.1 (frees_nodup n U)).imp_of_mem ?_
  intro a b ha hb hab e
  have h1 := (mem_frees.1 ha).1
  have h2 := (mem_frees.1 hb).1
  have := congrArg BitVec.toNat e
  rw [BitVec.toNat_ofNat, BitVec.toNat_ofNat, Nat.mod_eq_of_lt (by omega), Nat.mod_eq_of_lt (by omega)] at this
  exact hab this

theorem mem_freeB {n : Nat} {U : Nat → Bool} (hn : n ≤ 4294967296) {x : Num} (h : x ∈ freeB n U) : x.toNat < n ∧ U x.toNat = false := by
  obtain ⟨y, hy, rfl⟩ := List.mem_map.1 h
  have := mem_frees.1 hy
  rw [BitVec.toNat_ofNat, Nat.mod_eq_of_lt (by omega)]
  exact this

theorem File.free {n : Nat} {U : Nat → Bool} {V : Nat → By} {G : Gs} {sz : Nat} {W : Nat → BitVec 8} (h : File n U V G sz W) (hn : n ≤ 4294967296) : ∀ x ∈ freeB n U, x ≠ 0 ∧ ∀ i, G i ≠ x := by
  intro x hx
  obtain ⟨h1, h2⟩ := mem_freeB hn hx
  have hx0 : x ≠ 0 := by
    rintro rfl
    have := (h.used 0 (by simpa using h1)).2 (.inl rfl)
    have h3 : U 0 = false := by simpa using h2
    rw [h3] at this; cases this
  refine ⟨hx0, ?_⟩
  rintro i rfl
  have := (h.used _ h1).2 (.inr ⟨i, hx0, rfl⟩)
  rw [h2] at this; cases this

/-- How many blocks a file has. -/
def hasL (G : Gs) : List Nat := (List.range 131).filter fun i => G i != 0
def cnt (G : Gs) : Nat := (hasL G).length
theorem mem_hasL {G : Gs} {i : Nat} : i ∈ hasL G ↔ i < 131 ∧ G i ≠ 0 := by simp [hasL]

theorem File.count {n : Nat} {U : Nat → Bool} {V : Nat → By} {G : Gs} {sz : Nat} {W : Nat → BitVec 8} (h : File n U V G sz W) (hn : 0 < n) : (frees n U).length + cnt G + 1 = n := by
  have h1 : ((List.range n).filter fun x => U x).length = ((0 :: (hasL G).map fun i => (G i).toNat)).length := by
    refine List.Perm.length_eq ((List.perm_ext_iff_of_nodup (List.nodup_range.filter _) ?_).2 ?_)
    · rw [List.nodup_cons]
      constructor
      · intro hm
        obtain ⟨i, hi, he⟩ := List.mem_map.1 hm
        exact (mem_hasL.1 hi).2 (BitVec.eq_of_toNat_eq (by simpa using he))
      · rw [List.nodup_iff_pairwise_ne, List.pairwise_map]
        refine (List.nodup_iff_pairwise_ne.1 ((List.nodup_range (n := 131)).filter (fun i => G i != 0))).imp_of_mem ?_
        intro a b ha _ hab e
        exact hab (h.inj a b (BitVec.eq_of_toNat_eq e) (mem_hasL.1 ha).2)
    · intro x
      rw [List.mem_filter, List.mem_range, List.mem_cons, List.mem_map]
      constructor
      · rintro ⟨hx, hu⟩
        rcases (h.used x hx).1 hu with rfl | ⟨i, h2, h3⟩
        · exact .inl rfl
        · refine .inr ⟨i, mem_hasL.2 ⟨?_, h2⟩, h3⟩
          exact Nat.lt_of_not_le fun hle => h2 (h.fin i hle)
      · rintro (rfl | ⟨i, h2, rfl⟩)
        · exact ⟨hn, (h.used 0 hn).2 (.inl rfl)⟩
        · have := (mem_hasL.1 h2).2
          exact ⟨h.lt i this, (h.used _ (h.lt i this)).2 (.inr ⟨i, this, rfl⟩)⟩
  have h2 := List.length_eq_countP_add_countP (fun x => U x) (l := List.range n)
  rw [List.length_range, List.countP_eq_length_filter, List.countP_eq_length_filter, h1] at h2
  have h3 : ((List.range n).filter fun x => decide (¬ U x = true)) = frees n U := by
    unfold frees
    refine List.filter_congr fun x _ => ?_
    cases U x <;> rfl
  rw [h3] at h2
  simp only [List.length_cons, List.length_map] at h2
  unfold cnt
  omega

/-- What a size costs, by its blocks. -/
def costB (b : Nat) : Nat := b + (if 8 < b then 1 else 0) + (if 72 < b then 2 else 0)
theorem costB_mono {a b : Nat} (h : a ≤ b) : costB a ≤ costB b := by
  unfold costB
  split <;> split <;> split <;> split <;> omega

theorem range131 : List.range 131 = List.range 128 ++ [128, 129, 130] := by decide
theorem range_split {b : Nat} (h : b ≤ 128) : List.range 128 = List.range b ++ (List.range (128 - b)).map (b + ·) := by
  have := List.range_add (n := b) (m := 128 - b)
  rwa [show b + (128 - b) = 128 by omega] at this

theorem cnt_split (G : Gs) {b : Nat} (hb : b ≤ 128) (hz : ∀ p, b ≤ p → p < 128 → G p = 0) : cnt G = ((List.range b).filter fun i => G i != 0).length + (if G 128 = 0 then 0 else 1) + (if G 129 = 0 then 0 else 1) + (if G 130 = 0 then 0 else 1) := by
  unfold cnt hasL
  rw [range131, List.filter_append, range_split hb, List.filter_append]
  have : ((List.range (128 - b)).map (b + ·)).filter (fun i => G i != 0) = [] := by
    rw [List.filter_eq_nil_iff]
    intro x hx
    obtain ⟨y, hy, rfl⟩ := List.mem_map.1 hx
    have := List.mem_range.1 hy
    simp [hz (b + y) (by omega) (by omega)]
  rw [this, List.append_nil, List.length_append]
  have h3 : ([128, 129, 130].filter fun i => G i != 0).length = (if G 128 = 0 then 0 else 1) + (if G 129 = 0 then 0 else 1) + (if G 130 = 0 then 0 else 1) := by
    by_cases h1 : G 128 = 0 <;> by_cases h2 : G 129 = 0 <;> by_cases h3 : G 130 = 0 <;> simp_all
  rw [h3]; omega

theorem File.cost {n : Nat} {U : Nat → Bool} {V : Nat → By} {G : Gs} {sz : Nat} {W : Nat → BitVec 8} (h : File n U V G sz W) : cnt G ≤ costB ((sz + 511) / 512) := by
  have hle := h.le
  have hz : ∀ p, (sz + 511) / 512 ≤ p → p < 128 → G p = 0 := fun p h1 h2 => h.far p h2 (by omega)
  rw [cnt_split G (b := (sz + 511) / 512) (by omega) hz]
  have h0 : ((List.range ((sz + 511) / 512)).filter fun i => G i != 0).length ≤ (sz + 511) / 512 := by
    have := List.length_filter_le (fun i => G i != 0) (List.range ((sz + 511) / 512))
    rwa [List.length_range] at this
  have h1 : G 128 ≠ 0 → 8 < (sz + 511) / 512 := by
    intro hg
    obtain ⟨p, p1, p2, p3⟩ := h.one.1 hg
    exact Nat.lt_of_not_le fun hn => p3 (hz p (by omega) (by omega))
  have h2 : G 130 ≠ 0 → 72 < (sz + 511) / 512 := by
    intro hg
    obtain ⟨p, p1, p2, p3⟩ := h.two.1 hg
    exact Nat.lt_of_not_le fun hn => p3 (hz p (by omega) (by omega))
  have h3 : G 129 ≠ 0 → 72 < (sz + 511) / 512 := fun hg => h2 (h.dbl.1 hg)
  unfold costB
  by_cases g1 : G 128 = 0 <;> by_cases g2 : G 129 = 0 <;> by_cases g3 : G 130 = 0
  all_goals simp only [g1, g2, g3, if_true, if_false]
  all_goals (try have := h1 g1)
  all_goals (try have := h2 g3)
  all_goals (try have := h3 g2)
  all_goals (repeat' split)
  all_goals omega

/-- Where a write finds too few, there are fewer than it costs. -/
theorem File.fail {n : Nat} {U : Nat → Bool} {V : Nat → By} {G : Gs} {sz f t : Nat} {W : Nat → BitVec 8} (_h : File n U V G sz W) (hft : f < t) (ht : t ≤ 128) (e : ensure (freeB n U) G 0 (idx f t) = none) : (frees n U).length < costB t := by
  have h1 := ensure_fail _ _ _ _ e
  have h2 := idx_length ht hft
  unfold freeB at h1
  rw [List.length_map] at h1
  unfold costB
  omega

/-- Puts, one after another. -/
def putsV (V : Nat → By) : List (Nat × By) → (Nat → By)
  | [] => V
  | q :: l => putsV (fun x => if x = q.1 then q.2 else V x) l
theorem putsV_not : ∀ {l : List (Nat × By)} {V : Nat → By} {x : Nat}, (∀ q ∈ l, q.1 ≠ x) → putsV V l x = V x
  | [], _, _, _ => rfl
  | q :: l, V, x, h => by
    rw [putsV, putsV_not fun y hy => h y (List.mem_cons_of_mem _ hy)]
    exact if_neg fun e => h q List.mem_cons_self e.symm
theorem putsV_mem : ∀ {l : List (Nat × By)} {V : Nat → By} {q : Nat × By}, (l.map Prod.fst).Nodup → q ∈ l → putsV V l q.1 = q.2
  | p :: l, V, q, hn, hq => by
    rw [List.map_cons, List.nodup_cons] at hn
    rcases List.mem_cons.1 hq with rfl | hq
    · rw [putsV, putsV_not fun y hy e => hn.1 (List.mem_map.2 ⟨y, hy, e⟩)]
      exact if_pos rfl
    · rw [putsV]; exact putsV_mem hn.2 hq

/-- A file's bytes behind a write of b at a place. -/
def wrote (W : Nat → BitVec 8) (at_ : Nat) (b : By) : Nat → BitVec 8 := fun i => if at_ ≤ i ∧ i < at_ + b.length then b.getD (i - at_) 0 else W i
theorem wrote_out {W : Nat → BitVec 8} {at_ : Nat} {b : By} {p : Nat} (h : ¬ (at_ / 512 ≤ p ∧ p < (at_ + b.length + 511) / 512)) : slab (wrote W at_ b) p = slab W p := by
  unfold slab wrote
  refine List.map_congr_left fun j hj => ?_
  have := List.mem_range.1 hj
  exact if_neg (by omega)
theorem wrote_zero {W : Nat → BitVec 8} {at_ sz : Nat} {b : By} (hz : ∀ i, sz ≤ i → W i = 0) : ∀ i, max sz (at_ + b.length) ≤ i → wrote W at_ b i = 0 := by
  intro i hi
  unfold wrote
  rw [if_neg (by omega)]
  exact hz i (by omega)

end Ino
end Go.Proofs.YtebdgcoandfocaaGreatDoor

namespace Go.Proofs.YtebdgcoandfocaaGreatDoor
open Go.RowKit Go.Maps Go.Sort Go.Shelf

theorem clone_own (s o : Nat) (bs : By) (c : Nat) (w : World) (hb : Bytes w (some ⟨s, o, none⟩) bs) (h1 : 1 ≤ bs.length) (hl : bs.length ≤ 1000000) :
    Calls Tryz.prog 92 #[.slice (some ⟨s, o, none⟩) bs.length c] w fun e w' => ∃ g cap, e = .returned (.slice (some ⟨g, 0, none⟩) bs.length cap) ∧ w'.ownsRow w.heap.size 5 1 (.slice (some ⟨g, 0, none⟩) bs.length cap) bs.length (bs.map u8v) ∧ Below w.heap.size w w' := by
  obtain ⟨i0, hi, hz0, hz1, hz2⟩ := info_parts Tryz.info5
  obtain ⟨s', o', e, hx⟩ := hb (by omega)
  cases e
  have c := AnyE.slices_Clone Tryz.cloneBy i0 (.int .u8 0) 1 1 hi hz0 hz1 hz2 rfl (by decide) Tryz.sizeOf5 s o bs.length c (bs.map u8v) w (by simp) (by unfold maxLen; omega) (by omega)
    (fun j u hj => by
      rw [List.getElem?_map] at hj
      obtain ⟨x, hx', rfl⟩ := Option.map_eq_some_iff.1 hj
      exact hx j x hx') (u8v_one bs)
  refine (show Calls Tryz.prog 92 _ _ _ from c).mono ?_
  rintro e w' ⟨v', rfl, hrow, hnil, hB⟩
  obtain ⟨g, cap, rfl, hg, hbb⟩ := owns_bytes hrow h1
  exact ⟨g, cap, rfl, hrow, hB⟩
theorem own_base {w : World} {b b' : Nat} {e : TypeId} {size : Nat} {v : Value} {n : Nat} {xs : List Value} (h : w.ownsRow b e size v n xs) (hb : b' ≤ b) : w.ownsRow b' e size v n xs := by
  refine ⟨h.1, ?_⟩
  rcases h.2 with h0 | ⟨g, cap, cur, h1, h2, h3⟩
  · exact .inl h0
  · exact .inr ⟨g, cap, cur, h1, by omega, h3⟩

set_option maxRecDepth 8000 in
set_option maxHeartbeats 1000000 in
theorem get_own (s : CS) (vs : VS) (B : Nat → By) (block b : Nat) (w : World) (h : CI w s vs B) (hz : CB s b) (hbz : b < 800000) (hb : block < nbOf vs.d.n) (hok : (acOf s B).held block = true ∨ (acOf s B).full = false) :
    Calls Tryz.prog 68 #[ep s.c, .int .i64 (block : Nat)] w fun e w' => ∃ g cap, e = .returned (.tuple #[.slice (some ⟨g, 0, none⟩) 512 cap, .int .i64 0]) ∧ ∃ s' B', (∀ w'', But (fun k => k = g) w' w'' → Cst w w'' s s' vs B' b) ∧ acOf s' B' = (acOf s B).meet block (vs.cont block) id ∧ w'.ownsRow w.heap.size 5 1 (.slice (some ⟨g, 0, none⟩) 512 cap) 512 (((acOf s' B').dataOf block).map u8v) ∧ ((acOf s' B').dataOf block).length = 512 := by
  have cM := meet_ok s vs B block b w h hz (by omega) hb hok
  clear h
  go_enter Tryz.func68, Tryz.ntmps68
  go_wp2_with (go_at_call 90; refine cM.mono ?_; rintro e w1 ⟨a, s1, B1, rfl, hM⟩; clear cM; refine Stop.out ?_)
  refine Stop.mk ?_
  have cU := use_cx hM.cx hM.inA hM.cb.1 (by omega)
  rw [hM.c] at cU
  have H1 : Hid (Mx w w1 s s1 vs B B1 block a b) := hM
  clear hM
  go_wp2_with (go_at_call 91; refine cU.mono ?_; rintro e w2 ⟨rfl, s2, hI2, hU2, hac2⟩; clear cU; refine Stop.out ?_)
  refine Stop.mk ?_
  obtain ⟨ip, icap, I', he2⟩ := hU2.eq
  have ha2 : a ∈ s2.A := by rw [he2]; exact H1.out.inA
  obtain ⟨x, hE⟩ := hI2.cm.entAny ha2
  obtain ⟨hn, hl, hcp, g0, hp, hbb, htg⟩ := hI2.dat a ha2
  have d1 : w2.cell? ⟨a, 1, none⟩ = some (.slice (some ⟨g0, 0, none⟩) 512 (s2.U a).cp) := by
    rw [cellOf hE 1, ← hp]
    show some (Value.slice (s2.U a).p (s2.U a).n (s2.U a).cp) = _
    rw [hn]
  have cl := clone_own g0 0 (B1 a) (s2.U a).cp w2 hbb (by omega) (by omega)
  rw [hl] at cl
  have hblk2 : (s2.U a).block = block := by
    rw [he2]
    show (updU s1.U a _ a).block = block
    rw [updU_same]; exact H1.out.blk
  have hdat : (acOf s2 B1).dataOf block = B1 a := by rw [← hblk2]; exact dataOf_ent hI2.cm ha2
  have hB2 : But (cMine w s.h) w w2 := cMine_trans H1.out.but (by rw [← H1.out.h]; exact hU2.but)
  have hac : acOf s2 B1 = (acOf s B).meet block (vs.cont block) id := by
    rw [hac2, H1.out.blk, H1.out.ac]
    unfold AC.meet
    split <;> rfl
  have hcb : CB s2 (b + 1) := by
    obtain ⟨⟨q1, q2, q3, q4, q5⟩, q6⟩ := H1.out.cb
    have := hz.uses
    rw [he2]
    exact ⟨q1, by show s1.uses + 1 ≤ _; omega, q3, q4, q5⟩
  have hc2 : s2.c = s.c := by rw [he2]; exact H1.out.c
  have hh2 : s2.h = s.h := by rw [he2]; exact H1.out.h
  have H2 : Hid (CI w2 s2 vs B1 ∧ CB s2 (b + 1) ∧ s2.c = s.c ∧ s2.h = s.h ∧ But (cMine w s.h) w w2 ∧ acOf s2 B1 = (acOf s B).meet block (vs.cont block) id ∧ (acOf s2 B1).dataOf block = B1 a ∧ (B1 a).length = 512) := ⟨hI2, hcb, hc2, hh2, hB2, hac, hdat, hl⟩
  clear hI2 hU2 hac2 he2 ha2 hE hn hcp hp hbb htg hblk2 hdat hB2 hac hcb hc2 hh2 H1 hl
  go_wp2_with (go_at_call 92; refine cl.mono ?_; rintro e w3 ⟨g, cap, rfl, ho3, hB3⟩; clear cl)
  go_ret2
  obtain ⟨hI2, hcb, hc2, hh2, hB2, hac, hdat, hl⟩ := H2.out
  have hg2 : w2.heap.size ≤ g := by
    rcases ho3.2 with ⟨e, _⟩ | ⟨g', cap', cur', e, hg', _⟩
    · cases e
    · cases e; exact hg'
  have hBw : ∀ w'', But (fun k => k = g) w3 w'' → Below w2.heap.size w2 w'' := fun w'' hb => hB3.trans (hb.below hB3.size (fun k hk => by have : k = g := hk; omega))
  exact ⟨g, cap, rfl, s2, B1, fun w'' hb => ⟨hI2.below (hBw w'' hb), hcb, hc2, hh2, hB2.after (But.of_below (S := fun _ => False) (hBw w'' hb)) (fun _ _ h => h.elim)⟩, hac, by rw [hdat]; exact own_base ho3 hB2.size, by rw [hdat]; exact hl⟩

/- Pure: what the cache's list says. -/
def updF {α : Type} (f : Nat → α) (x : Nat) (v : α) : Nat → α := fun y => if y = x then v else f y
theorem updF_same {α : Type} (f : Nat → α) (x : Nat) (v : α) : updF f x v x = v := if_pos rfl
theorem updF_ne {α : Type} (f : Nat → α) {x y : Nat} (v : α) (h : y ≠ x) : updF f x v y = f y := if_neg h

structure GA (A : AC) (nb : Nat) (cont V : Nat → By) (pin : Nat → Nat) : Prop where
  room : A.room = 1000
  nd : (A.L.map (·.block)).Nodup
  el : ∀ e ∈ A.L, e.block < nb ∧ e.data = V e.block ∧ e.pins = pin e.block
  nh : ∀ x, A.held x = false → V x = cont x ∧ pin x = 0

theorem heldG_mem {A : AC} {x : Nat} : A.held x = true ↔ ∃ e ∈ A.L, e.block = x := by simp [AC.held]
theorem heldG_not {A : AC} {x : Nat} : A.held x = false ↔ ∀ e ∈ A.L, e.block ≠ x := by
  rw [← Bool.not_eq_true, heldG_mem]
  constructor
  · intro h e he hx; exact h ⟨e, he, hx⟩
  · rintro h ⟨e, he, hx⟩; exact h e he hx
theorem GA.len {A : AC} {nb : Nat} {cont V : Nat → By} {pin : Nat → Nat} (h : GA A nb cont V pin) : A.L.length ≤ nb := by
  have := len_sub (A := List.range nb) h.nd (fun a ha => by
    obtain ⟨e, he, rfl⟩ := List.mem_map.1 ha
    exact List.mem_range.2 (h.el e he).1)
  simpa using this
theorem GA.notFull {A : AC} {nb : Nat} {cont V : Nat → By} {pin : Nat → Nat} (h : GA A nb cont V pin) (hn : nb < 1000) : A.full = false := by
  have := h.len
  have hr := h.room
  unfold AC.full
  rw [decide_eq_false (by omega), Bool.false_and]
theorem GA.evict {A : AC} {nb : Nat} {cont V : Nat → By} {pin : Nat → Nat} (h : GA A nb cont V pin) (hn : nb < 1000) : A.evict = A := by
  have := h.len
  have hr := h.room
  unfold AC.evict
  rw [if_pos (by omega)]

/-- Each entry of one block is turned. -/
theorem GA.turn {A A' : AC} {nb x : Nat} {cont V V' : Nat → By} {pin pin' : Nat → Nat} (h : GA A nb cont V pin) (F : HE → HE) (hr : A'.room = A.room) (hL : A'.L = A.L.map fun e => if e.block = x then F e else e) (hx : A.held x = true)
    (hF : ∀ e ∈ A.L, e.block = x → (F e).block = x ∧ (F e).data = V' x ∧ (F e).pins = pin' x) (hV : ∀ y, y ≠ x → V' y = V y) (hp : ∀ y, y ≠ x → pin' y = pin y) : GA A' nb cont V' pin' := by
  have hb : A'.L.map (·.block) = A.L.map (·.block) := by
    rw [hL, List.map_map]
    refine List.map_congr_left fun e he => ?_
    show (if e.block = x then F e else e).block = e.block
    split
    · rename_i hb; rw [(hF e he hb).1, hb]
    · rfl
  have hh : ∀ y, A'.held y = A.held y := by
    intro y
    rw [Bool.eq_iff_iff, heldG_mem, heldG_mem]
    have e1 : (∃ e ∈ A'.L, e.block = y) ↔ y ∈ A'.L.map (·.block) := by simp
    have e2 : (∃ e ∈ A.L, e.block = y) ↔ y ∈ A.L.map (·.block) := by simp
    rw [e1, e2, hb]
  refine ⟨hr.trans h.room, by rw [hb]; exact h.nd, ?_, ?_⟩
  · intro e he
    rw [hL] at he
    obtain ⟨e0, he0, rfl⟩ := List.mem_map.1 he
    obtain ⟨h1, h2, h3⟩ := h.el e0 he0
    by_cases hb0 : e0.block = x
    · rw [if_pos hb0]
      obtain ⟨f1, f2, f3⟩ := hF e0 he0 hb0
      rw [f1, f2, f3]
      exact ⟨hb0 ▸ h1, rfl, rfl⟩
    · rw [if_neg hb0, hV _ hb0, hp _ hb0]
      exact ⟨h1, h2, h3⟩
  · intro y hy
    rw [hh] at hy
    have hne : y ≠ x := fun e => by rw [e, hx] at hy; cases hy
    rw [hV y hne, hp y hne]
    exact h.nh y hy

/-- A block that isn't held is held. -/
theorem GA.add {A A' : AC} {nb x : Nat} {cont V : Nat → By} {pin : Nat → Nat} (h : GA A nb cont V pin) (hr : A'.room = A.room) (hL : A'.L = A.L ++ [⟨x, 0, 0, false, cont x⟩]) (hx : A.held x = false) (hxn : x < nb) : GA A' nb cont V pin ∧ A'.held x = true := by
  have hn := heldG_not.1 hx
  obtain ⟨hv, hp⟩ := h.nh x hx
  refine ⟨⟨hr.trans h.room, ?_, ?_, ?_⟩, heldG_mem.2 ⟨_, by rw [hL]; exact List.mem_append_right _ (List.mem_singleton.2 rfl), rfl⟩⟩
  · rw [hL, List.map_append, List.nodup_append]
    refine ⟨h.nd, by simp, ?_⟩
    intro a ha b hb
    obtain ⟨e, he, rfl⟩ := List.mem_map.1 ha
    simp at hb
    subst hb
    exact hn e he
  · intro e he
    rw [hL] at he
    rcases List.mem_append.1 he with he | he
    · exact h.el e he
    · rw [List.mem_singleton.1 he]
      exact ⟨hxn, hv.symm, hp.symm⟩
  · intro y hy
    refine h.nh y (heldG_not.2 fun e he => ?_)
    exact heldG_not.1 hy e (by rw [hL]; exact List.mem_append_left _ he)

theorem GA.meet {A : AC} {nb x : Nat} {cont V : Nat → By} {pin pin' : Nat → Nat} (h : GA A nb cont V pin) (hn : nb < 1000) (hx : x < nb) (f : HE → HE) (hf : ∀ e, (f e).block = e.block ∧ (f e).data = e.data ∧ (e.pins = pin x → (f e).pins = pin' x)) (hp : ∀ y, y ≠ x → pin' y = pin y) :
    GA (A.meet x (cont x) f) nb cont V pin' ∧ (A.meet x (cont x) f).held x = true := by
  have key : ∀ (A1 : AC), GA A1 nb cont V pin → A1.held x = true → GA (AC.touch A1 x f) nb cont V pin' ∧ (AC.touch A1 x f).held x = true := by
    intro A1 h1 hh
    refine ⟨h1.turn (fun e => f { e with used := A1.time + 1 }) rfl rfl hh ?_ (fun _ _ => rfl) hp, ?_⟩
    · intro e he hb
      obtain ⟨f1, f2, f3⟩ := hf { e with used := A1.time + 1 }
      obtain ⟨e1, e2, e3⟩ := h1.el e he
      exact ⟨f1.trans hb, f2.trans (by rw [← hb]; exact e2), f3 (by rw [← hb]; exact e3)⟩
    · obtain ⟨e, he, hb⟩ := heldG_mem.1 hh
      refine heldG_mem.2 ⟨_, List.mem_map.2 ⟨e, he, rfl⟩, ?_⟩
      rw [if_pos hb]
      exact ((hf _).1).trans hb
  unfold AC.meet
  cases hh : A.held x with
  | true =>
    rw [if_pos rfl]
    exact key _ ⟨h.room, h.nd, h.el, h.nh⟩ hh
  | false =>
    rw [if_neg (by simp), h.evict hn]
    obtain ⟨h1, h2⟩ := h.add (A' := { A.add x (cont x) with miss := A.miss + 1 }) rfl rfl hh hx
    exact key _ h1 h2
theorem GA.dataOf {A : AC} {nb x : Nat} {cont V : Nat → By} {pin : Nat → Nat} (h : GA A nb cont V pin) (hx : A.held x = true) : A.dataOf x = V x := by
  unfold AC.dataOf
  cases hf : A.L.find? (fun e => e.block == x) with
  | none =>
    obtain ⟨e, he, hb⟩ := heldG_mem.1 hx
    have := List.find?_eq_none.1 hf e he
    simp [hb] at this
  | some e =>
    have h1 := List.mem_of_find?_eq_some hf
    have h2 : e.block = x := by simpa using List.find?_some hf
    show e.data = V x
    rw [← h2]; exact (h.el e h1).2.1

/-- A cache as a store. -/
structure LC (w0 w : World) (c : Nat) (vs : VS) (V : Nat → By) (pin : Nat → Nat) (b : Nat) : Prop where
  st : ∃ A, CW w0 w c vs A b ∧ GA A (nbOf vs.d.n) vs.cont V pin

theorem LC.nb {w0 w : World} {c : Nat} {vs : VS} {V : Nat → By} {pin : Nat → Nat} {b : Nat} (h : LC w0 w c vs V pin b) : nbOf vs.d.n ≤ 223 := by
  obtain ⟨A, h1, _⟩ := h.st
  obtain ⟨s, B, h2, _⟩ := h1.st
  exact h2.nb
theorem LC.below {w0 w w' : World} {c : Nat} {vs : VS} {V : Nat → By} {pin : Nat → Nat} {b : Nat} (h : LC w0 w c vs V pin b) (hb : Below w.heap.size w w') : LC w0 w' c vs V pin b := by
  obtain ⟨A, h1, h2⟩ := h.st
  exact ⟨A, h1.below hb, h2⟩
theorem LC.foreign {w0 w w' : World} {c : Nat} {vs : VS} {V : Nat → By} {pin : Nat → Nat} {b : Nat} {S : Nat → Prop} (h : LC w0 w c vs V pin b) (hb : But S w w') (hF : Foreign w S) : LC w0 w' c vs V pin b := by
  obtain ⟨A, h1, h2⟩ := h.st
  exact ⟨A, h1.foreign hb hF, h2⟩

theorem lc_get (w0 w : World) (c : Nat) (vs : VS) (V : Nat → By) (pin : Nat → Nat) (b x : Nat) (h : LC w0 w c vs V pin b) (hb : b < 800000) (hx : x < nbOf vs.d.n) :
    Calls Tryz.prog 68 #[ep c, .int .i64 (x : Nat)] w fun e w' => ∃ g cap, e = .returned (.tuple #[.slice (some ⟨g, 0, none⟩) 512 cap, .int .i64 0]) ∧ (∀ w'', But (fun k => k = g) w' w'' → LC w0 w'' c vs V pin (b + 1)) ∧ But (Cmn w0 w) w w' ∧ w'.ownsRow w.heap.size 5 1 (.slice (some ⟨g, 0, none⟩) 512 cap) 512 ((V x).map u8v) ∧ (V x).length = 512 := by
  have hn := h.nb
  obtain ⟨A, hC, hG⟩ := h.st
  obtain ⟨hG', hh⟩ := hG.meet (pin' := pin) (by omega) hx id (fun e => ⟨rfl, rfl, fun h => h⟩) (fun _ _ => rfl)
  obtain ⟨s, B, h1, h2, rfl, rfl, h5⟩ := hC.st
  refine (get_own s vs B x b w h1 h2 hb hx (.inr (hG.notFull (by omega)))).mono ?_
  rintro e w' ⟨g, cap, rfl, s', B', hC, hA, hby, hlen⟩
  rw [hA, hG'.dataOf hh] at hby hlen
  exact ⟨g, cap, rfl, fun w'' hb => ⟨_, ⟨s', B', (hC w'' hb).ci, (hC w'' hb).cb, (hC w'' hb).c, hA, by rw [(hC w'' hb).h]; exact h5⟩, hG'⟩, (hC w' (But.refl _ _)).but.mono (fun k _ hk => cmn_of h1 h5 k hk), hby, hlen⟩

theorem lc_pin (w0 w : World) (c : Nat) (vs : VS) (V : Nat → By) (pin : Nat → Nat) (b x : Nat) (h : LC w0 w c vs V pin b) (hb : b < 800000) (hx : x < nbOf vs.d.n) (hp : ∀ y, pin y < 1000000) :
    Calls Tryz.prog 85 #[ep c, .int .i64 (x : Nat)] w fun e w' => e = .returned (.int .i64 0) ∧ LC w0 w' c vs V (updF pin x (pin x + 1)) (b + 1) ∧ But (Cmn w0 w) w w' := by
  have hn := h.nb
  obtain ⟨A, hC, hG⟩ := h.st
  obtain ⟨hG', hh⟩ := hG.meet (pin' := updF pin x (pin x + 1)) (by omega) hx (fun x => { x with pins := x.pins + 1 }) (fun e => ⟨rfl, rfl, fun h => by rw [updF_same]; show e.pins + 1 = _; rw [h]⟩) (fun y hy => updF_ne _ _ hy)
  refine (cw_pin w0 w c vs A b x hC hb hx (.inr (hG.notFull (by omega))) (fun e he => by rw [(hG.el e he).2.2]; exact hp _)).mono ?_
  rintro e w' ⟨rfl, hC', hb'⟩
  exact ⟨rfl, ⟨_, hC', hG'⟩, hb'⟩

theorem lc_put (w0 w : World) (c : Nat) (vs : VS) (V : Nat → By) (pin : Nat → Nat) (b x : Nat) (q : Option Addr) (cp : Nat) (bs : By) (h : LC w0 w c vs V pin b) (hb : b < 800000) (hx : 0 < pin x) (hbs : Bytes w q bs) (hbl : bs.length = 512) (htag : ∀ g o, q = some ⟨g, o, none⟩ → ∃ cs fr, w.heap[g]? = some (.cells cs 5 fr)) :
    Calls Tryz.prog 87 #[ep c, .int .i64 (x : Nat), .slice q 512 cp] w fun e w' => e = .returned (.int .i64 0) ∧ LC w0 w' c vs (updF V x bs) pin (b + 1) ∧ But (Cmn w0 w) w w' := by
  obtain ⟨A, hC, hG⟩ := h.st
  have hh : A.held x = true := by
    cases hh : A.held x with
    | true => rfl
    | false => have := (hG.nh x hh).2; omega
  have hG' : GA (A.put x bs) (nbOf vs.d.n) vs.cont (updF V x bs) pin := by
    unfold AC.put
    rw [if_pos hh]
    refine hG.turn (fun e => putF bs { e with used := A.time + 1 }) rfl rfl hh ?_ (fun y hy => updF_ne _ _ hy) (fun _ _ => rfl)
    intro e he hb
    refine ⟨hb, (updF_same _ _ _).symm, ?_⟩
    rw [← hb]; exact (hG.el e he).2.2
  obtain ⟨s, B, h1, h2, rfl, rfl, h5⟩ := hC.st
  obtain ⟨e, hm, rfl⟩ := heldG_mem.1 hh
  obtain ⟨a, ha, rfl⟩ := List.mem_map.1 hm
  by_cases hd : (s.U a).dirty = true
  · refine (put_dirty s vs B a b q cp bs w h1 h2 ha hd hbs hbl hb).mono ?_
    rintro e w' ⟨rfl, s', B', hC, hA⟩
    exact ⟨rfl, ⟨_, ⟨s', B', hC.ci, hC.cb, hC.c, hA, by rw [hC.h]; exact h5⟩, hG'⟩, hC.but.mono (fun k _ hk => cmn_of h1 h5 k hk)⟩
  · refine (put_held s vs B a b q cp bs w h1 h2 ha (by simpa using hd) hbs hbl hb htag).mono ?_
    rintro e w' ⟨rfl, s', B', hC, hA⟩
    exact ⟨rfl, ⟨_, ⟨s', B', hC.ci, hC.cb, hC.c, hA, by rw [hC.h]; exact h5⟩, hG'⟩, hC.but.mono (fun k _ hk => cmn_of h1 h5 k hk)⟩

theorem lc_unpin (w0 w : World) (c : Nat) (vs : VS) (V : Nat → By) (pin : Nat → Nat) (b x : Nat) (h : LC w0 w c vs V pin b) (hx : 0 < pin x) (hx2 : pin x < 1000000) :
    Calls Tryz.prog 106 #[ep c, .int .i64 (x : Nat)] w fun e w' => e = .returned (.int .i64 0) ∧ LC w0 w' c vs V (updF pin x (pin x - 1)) (b + 1) ∧ But (Cmn w0 w) w w' := by
  obtain ⟨A, hC, hG⟩ := h.st
  have hh : A.held x = true := by
    cases hh : A.held x with
    | true => rfl
    | false => have := (hG.nh x hh).2; omega
  have hG' : GA (A.unpin x) (nbOf vs.d.n) vs.cont V (updF pin x (pin x - 1)) := by
    unfold AC.unpin
    refine hG.turn (fun e => { e with pins := e.pins - 1 }) rfl rfl hh ?_ (fun _ _ => rfl) (fun y hy => updF_ne _ _ hy)
    intro e he hb
    obtain ⟨e1, e2, e3⟩ := hG.el e he
    refine ⟨hb, by rw [← hb]; exact e2, ?_⟩
    rw [updF_same]
    show e.pins - 1 = pin x - 1
    rw [e3, hb]
  obtain ⟨e, hm, hb⟩ := heldG_mem.1 hh
  refine (cw_unpin w0 w c vs A b x hC ⟨e, hm, hb, by rw [(hG.el e hm).2.2, hb]; exact hx, by rw [(hG.el e hm).2.2, hb]; exact hx2⟩).mono ?_
  rintro e w' ⟨rfl, hC', hb'⟩
  exact ⟨rfl, ⟨_, hC', hG'⟩, hb'⟩

end Go.Proofs.YtebdgcoandfocaaGreatDoor
