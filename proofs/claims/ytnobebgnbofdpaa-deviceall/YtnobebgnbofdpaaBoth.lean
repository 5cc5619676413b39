/-
  The device and the document's device, side by side: what holds between them.
-/
import Derived.Test.YtnobebgnbofdpaaRefe
import Derived.Maps.Ext
import Derived.Test.YtnobebgnbofdpaaDv
namespace Go.Proofs.Ytnobebgnbofdpaa
open Go.RowKit Go.Maps Go.Sort Go.Shelf Go.ChangeMaps Go.MapKept
open Go.WideElems (Fit rd rg pl rd_val elemAt rd_key rg_of)

/-- Which of the numbers below n are keys, rising. -/
def looseList (D : DataW Value) (n : Nat) : List Nat := (List.range n).filter fun j => Maps.has D (.int .i64 j)

theorem keys_eq {w : World} {m nn n : Nat} {D : DataW Value} (hown : w.ownsMap Try.prog 3 ptrElem m nn D) (hr : ∀ x : Int, Maps.has D (.int .i64 x) = true → 0 ≤ x ∧ x < n) :
    keys D = (looseList D n).map fun j : Nat => (j : Int) := by
  obtain ⟨es, rfl, hp⟩ := hown.tidy keyed
  have hk : ∀ p ∈ es, ∃ x, p.1 = .int .i64 x := by
    intro p hpm
    obtain ⟨es0, clock, _, F, _, hD⟩ := hown
    cases hD
    obtain ⟨x, hx, rfl⟩ := List.mem_map.1 (mem_sorted.1 hpm)
    obtain ⟨y, hy⟩ := F.reads x hx
    rw [rg_of hy]
    obtain ⟨x, _, hx, _⟩ := Maps.keyOf_i64 Try.underlying3 (rd_key hy)
    exact ⟨x, hx⟩
  have hnd : ((looseList (.map es) n).map fun j : Nat => (j : Int)).Nodup := by
    refine List.pairwise_map.2 (List.Pairwise.imp (R := (· < ·)) (fun h => by omega) ?_)
    exact List.Pairwise.filter _ List.pairwise_lt_range
  have hperm := perm_intKeys hp hk hnd (fun x => by
    constructor
    · intro hx
      obtain ⟨j, hj, rfl⟩ := List.mem_map.1 hx
      exact (List.mem_filter.1 hj).2
    · intro hx
      obtain ⟨h0, h1⟩ := hr x hx
      obtain ⟨j, rfl⟩ := Int.eq_ofNat_of_zero_le h0
      exact List.mem_map.2 ⟨j, List.mem_filter.2 ⟨List.mem_range.2 (by omega), hx⟩, rfl⟩)
  unfold keys
  rw [← mergeSort_of_perm_i hperm]
  refine List.mergeSort_of_pairwise ?_
  rw [List.pairwise_map]
  refine List.Pairwise.imp (R := (· < ·)) (fun h => by simp; omega) ?_
  exact List.Pairwise.filter _ List.pairwise_lt_range

theorem filter_succ (f : Nat → Bool) (j : Nat) : (List.range (j + 1)).filter f = (List.range j).filter f ++ (if f j then [j] else []) := by
  rw [List.range_succ, List.filter_append]
  by_cases h : f j = true <;> simp [h]

theorem filter_prefix (f : Nat → Bool) (j : Nat) : ∀ d, ∃ t, (List.range (j + d)).filter f = (List.range j).filter f ++ t
  | 0 => ⟨[], by simp⟩
  | d + 1 => by
    obtain ⟨t, ht⟩ := filter_prefix f j d
    exact ⟨t ++ (if f (j + d) then [j + d] else []), by rw [← Nat.add_assoc, filter_succ, ht, List.append_assoc]⟩

/-- The place of j among those below n that f lets by. -/
theorem filter_at (f : Nat → Bool) (j n : Nat) (hj : j < n) (hf : f j = true) : ((List.range n).filter f)[((List.range j).filter f).length]? = some j := by
  obtain ⟨t, ht⟩ := filter_prefix f (j + 1) (n - (j + 1))
  rw [show j + 1 + (n - (j + 1)) = n by omega, filter_succ, if_pos hf] at ht
  rw [ht]
  simp

/-- The device, the document's, and their parts in memory. -/
structure St where
  a : Nat
  s : Nat
  n : Nat
  c : Nat
  m : Nat
  nn : Nat
  D : DataW Value
  cur : Array Value
  fused : Bool
  left : Int
  count : Int
  r : Nat
  sS : Nat
  cS : Nat
  sN : Nat
  cN : Nat
  sL : Nat
  cL : Nat
  aS : Array Value
  aN : Array Value
  aL : Array Value
  lef : Int

/-- Block i: what is written, what is safe, whether it is loose, in both. -/
def BlkAt (W : World) (D : DataW Value) (cur aS aN aL : Array Value) (i : Nat) : Prop :=
  ∃ (now safe : List Int) (q : Option Addr) (vN vS : Value), cur[i]? = some (.pointer q) ∧ Holds512 W q (now.map u8) ∧ aN[i]? = some vN ∧ Bytes W vN now ∧ aS[i]? = some vS ∧ Bytes W vS safe ∧
    aL[i]? = some (.bool (Maps.has D (.int .i64 i))) ∧
    (Maps.has D (.int .i64 i) = true → ∃ q', D.atKey (.int .i64 i) (ptrD none) = ptrD q' ∧ Holds512 W q' (safe.map u8)) ∧ (Maps.has D (.int .i64 i) = false → safe = now)

/-- What is left of both fuses. -/
def Fuses (fused : Bool) (left lef : Int) : Prop := (fused = false ∧ lef = -1) ∨ (fused = true ∧ lef = (if left < 0 then 0 else left) ∧ left ≤ 9223372036854775807)

theorem Fuses.dead {fused : Bool} {left lef : Int} (h : Fuses fused left lef) : (lef == 0) = (fused && decide (left < 1)) := by
  rcases h with ⟨rfl, rfl⟩ | ⟨rfl, rfl, _⟩
  · rfl
  · by_cases h0 : left < 0
    · rw [if_pos h0]; simp; omega
    · rw [if_neg h0]
      by_cases h1 : left = 0
      · subst h1; rfl
      · rw [beq_eq_false_iff_ne.2 h1]; simp; omega

theorem Fuses.step {fused : Bool} {left lef : Int} (h : Fuses fused left lef) (ha : alive fused left) : Fuses fused (stepped fused left) (rstepped lef) := by
  rcases h with ⟨rfl, rfl⟩ | ⟨rfl, rfl, hl⟩
  · exact .inl ⟨rfl, rfl⟩
  · have h1 : 1 ≤ left := by unfold alive at ha; simp at ha; exact ha
    refine .inr ⟨rfl, ?_, by unfold stepped; simp; omega⟩
    unfold stepped rstepped
    rw [if_neg (by omega : ¬ left < 0)]
    simp
    omega

theorem Fuses.bound {fused : Bool} {left lef : Int} (h : Fuses fused left lef) (ha : alive fused left) : fused = true → 1 ≤ left ∧ left ≤ 9223372036854775807 := by
  intro hf
  subst hf
  rcases h with ⟨h, _⟩ | ⟨_, _, hl⟩
  · cases h
  · unfold alive at ha; simp at ha; exact ⟨ha, hl⟩

theorem Fuses.lefle {fused : Bool} {left lef : Int} (h : Fuses fused left lef) : lef ≤ 9223372036854775807 := by
  rcases h with ⟨_, rfl⟩ | ⟨_, rfl, hl⟩
  · decide
  · by_cases h0 : left < 0
    · rw [if_pos h0]; decide
    · rw [if_neg h0]; exact hl

structure Both (W : World) (t : St) (lim : Nat) : Prop where
  dv : DV W t.a t.s t.n t.c t.m t.nn t.D t.cur t.fused t.left t.count
  rv : RV W t.r t.n t.sS t.cS t.sN t.cN t.sL t.cL t.aS t.aN t.aL t.lef t.count
  ne : t.a ≠ t.s
  n1 : 1 ≤ t.n
  n30 : t.n ≤ 30
  szC : t.n ≤ t.cur.size
  szS : t.n ≤ t.aS.size
  szN : t.n ≤ t.aN.size
  szL : t.n ≤ t.aL.size
  blk : ∀ i, i < t.n → BlkAt W t.D t.cur t.aS t.aN t.aL i
  rng : ∀ x : Int, Maps.has t.D (.int .i64 x) = true → 0 ≤ x ∧ x < t.n
  nnb : t.nn ≤ lim
  ctr : 0 ≤ t.count ∧ t.count ≤ lim
  fuse : Fuses t.fused t.left t.lef

/-- None of these blocks holds bytes. -/
def Clear (S : Nat → Prop) (W : World) : Prop := ∀ b, S b → ∀ x f, W.heap[b]? ≠ some (.cells x 59 f) ∧ W.heap[b]? ≠ some (.cells x 5 f)

section
variable {S : Nat → Prop} {W W' : World}
theorem Holds512.but {q : Option Addr} {l : List Value} (h : Holds512 W q l) (hb : But S W W') (hc : Clear S W) : Holds512 W' q l := by
  rcases h with h | ⟨g, rfl, hg, r⟩
  · exact .inl h
  · exact .inr ⟨g, rfl, (hb.block g (Array.getElem?_eq_some_iff.1 hg).1 (fun hs => (hc g hs _ _).1 hg)).trans hg, r⟩
theorem Bytes.but {v : Value} {x : List Int} (h : Bytes W v x) (hb : But S W W') (hc : Clear S W) : Bytes W' v x := by
  obtain ⟨g, c, arr, rfl, hg, r⟩ := h
  exact ⟨g, c, arr, rfl, (hb.block g (Array.getElem?_eq_some_iff.1 hg).1 (fun hs => (hc g hs _ _).2 hg)).trans hg, r⟩
theorem BlkAt.but {D : DataW Value} {cur aS aN aL : Array Value} {i : Nat} (h : BlkAt W D cur aS aN aL i) (hb : But S W W') (hc : Clear S W) : BlkAt W' D cur aS aN aL i := by
  obtain ⟨now, safe, q, vN, vS, h1, h2, h3, h4, h5, h6, h7, h8, h9⟩ := h
  refine ⟨now, safe, q, vN, vS, h1, h2.but hb hc, h3, h4.but hb hc, h5, h6.but hb hc, h7, fun hh => ?_, h9⟩
  obtain ⟨q', e, hq⟩ := h8 hh
  exact ⟨q', e, hq.but hb hc⟩
theorem clear_none : Clear (fun _ => False) W := fun _ h => h.elim
theorem Both.frame {t : St} {lim : Nat} (h : Both W t lim) (hb : Below W.heap.size W W') : Both W' t lim := by
  have hb' : But (fun _ => False) W W' := But.of_below hb
  exact { h with dv := h.dv.but hb' (fun x => x) (fun x => x) (fun x => x), rv := h.rv.but hb' (fun x => x) (fun x => x) (fun x => x) (fun x => x), blk := fun i hi => (h.blk i hi).but hb' clear_none }
end

end Go.Proofs.Ytnobebgnbofdpaa
