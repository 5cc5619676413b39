/-
  Flush, Fuse, Crash and New, done to both devices.
-/
import Derived.Test.YtnobebgnbofdpaaSteps
namespace Go.Proofs.Ytnobebgnbofdpaa
open Go.RowKit Go.Maps Go.Sort Go.Shelf

/-- The state behind a Flush that is done. -/
def St.flushed (t : St) (m' : Nat) (bS bL : Array Value) : St :=
  { t with m := m', nn := 0, D := .map [], left := stepped t.fused t.left, count := t.count + 1, aS := bS, aL := bL, lef := rstepped t.lef }

theorem has_empty (x : Lit) : Maps.has (.map [] : DataW Value) x = false := rfl

theorem Both.flushed {W W1 W2 : World} {t : St} {lim : Nat} (h : Both W t lim) (ha : alive t.fused t.left) {m' : Nat}
    (hd : IsDevAt W1 t.a (.slice (some ⟨t.s, 0, none⟩) t.n t.c) m' t.fused (stepped t.fused t.left) (t.count + 1)) (hm : W1.heap[m']? = some (.map #[] 0)) (hb1 : But (fun k => k = t.a) W W1)
    {bS bL : Array Value} (hr : RV W2 t.r t.n t.sS t.cS t.sN t.cN t.sL t.cL bS t.aN bL (rstepped t.lef) (t.count + 1)) (szS : bS.size = t.aS.size) (szL : bL.size = t.aL.size)
    (dS : ∀ j, j < t.n → bS[j]? = t.aN[j]?) (dL : ∀ j, j < t.n → bL[j]? = some (.bool false)) (hb2 : But (fun b => b = t.r ∨ b = t.sS ∨ b = t.sL) W1 W2) (hr1 : RV W1 t.r t.n t.sS t.cS t.sN t.cN t.sL t.cL t.aS t.aN t.aL t.lef t.count) :
    Both W2 (t.flushed m' bS bL) (lim + 1) := by
  have hrow1 : W1.heap[t.s]? = some (.cells t.cur 53 (0, 0)) := (hb1.block _ h.dv.slt (fun e => h.ne e.symm)).trans h.dv.row
  have hdv1 : DV W1 t.a t.s t.n t.c m' 0 (.map []) t.cur t.fused (stepped t.fused t.left) (t.count + 1) := ⟨hd, hrow1, ownsMap_empty hm⟩
  have hc := cross hdv1 hr1
  have cl1 : Clear (fun k => k = t.a) W := h.tags.mono (by rintro b e; exact .inl e)
  have cl2 : Clear (fun b => b = t.r ∨ b = t.sS ∨ b = t.sL) W1 := hr1.tags.mono (by rintro b (e | e | e) <;> simp [e])
  have sS := h.szS
  have sL := h.szL
  refine ⟨?_, hr, h.ne, h.n1, h.n30, h.szC, by show t.n ≤ bS.size; omega, h.szN, by show t.n ≤ bL.size; omega, ?_, ?_, Nat.zero_le _, ?_, h.fuse.step ha⟩
  · exact hdv1.but hb2 (by rintro (e | e | e); exact hc.1.1 e; exact hc.1.2.1 e; exact hc.1.2.2.2 e) (by rintro (e | e | e); exact hc.2.1.1 e; exact hc.2.1.2.1 e; exact hc.2.1.2.2.2 e) (by rintro (e | e | e); exact hc.2.2.1 e; exact hc.2.2.2.1 e; exact hc.2.2.2.2.2 e)
  · intro j hj
    have hj' : j < t.n := hj
    obtain ⟨now, safe, q, vN, vS, h1, h2, h3, h4, h5, h6, h7, h8, h9⟩ := ((h.blk j hj).but hb1 cl1).but hb2 cl2
    show BlkAt W2 (.map []) t.cur bS t.aN bL j
    exact ⟨now, now, q, vN, vN, h1, h2, h3, h4, (dS j hj').trans h3, h4, by rw [dL j hj', has_empty], fun hh => (by rw [has_empty] at hh; cases hh), fun _ => rfl⟩
  · intro y hy
    have hy' : Maps.has (.map [] : DataW Value) (.int .i64 y) = true := hy
    rw [has_empty] at hy'
    cases hy'
  · have := h.ctr
    show 0 ≤ t.count + 1 ∧ t.count + 1 ≤ ((lim + 1 : Nat) : Int)
    omega

/-- The state behind a Fuse that is laid. -/
def St.fusedBy (t : St) (x : Int) : St := { t with fused := true, left := x, lef := if x < 0 then 0 else x }

theorem Both.mono {W : World} {t : St} {lim lim' : Nat} (h : Both W t lim) (hl : lim ≤ lim') : Both W t lim' :=
  { h with nnb := Nat.le_trans h.nnb hl, ctr := ⟨h.ctr.1, by have := h.ctr.2; omega⟩ }

theorem Both.fusedBy {W W1 W2 : World} {t : St} {lim : Nat} (h : Both W t lim) {x : Int} (hx : x ≤ 9223372036854775807)
    (hd : IsDevAt W1 t.a (.slice (some ⟨t.s, 0, none⟩) t.n t.c) t.m true x t.count) (hb1 : But (fun k => k = t.a) W W1)
    (hr : IsRefAt W2 t.r (.slice (some ⟨t.sS, 0, none⟩) t.n t.cS) (.slice (some ⟨t.sN, 0, none⟩) t.n t.cN) (.slice (some ⟨t.sL, 0, none⟩) t.n t.cL) (if x < 0 then 0 else x) t.count) (hb2 : But (fun k => k = t.r) W1 W2) :
    Both W2 (t.fusedBy x) lim := by
  have hc0 := cross h.dv h.rv
  have hr1 : RV W1 t.r t.n t.sS t.cS t.sN t.cN t.sL t.cL t.aS t.aN t.aL t.lef t.count := h.rv.but hb1 (fun e => hc0.1.1 e.symm) (fun e => hc0.1.2.1 e.symm) (fun e => hc0.1.2.2.1 e.symm) (fun e => hc0.1.2.2.2 e.symm)
  have ham := map_ne_cells h.dv.own h.dv.dev
  have hdv1 : DV W1 t.a t.s t.n t.c t.m t.nn t.D t.cur true x t.count := by
    refine ⟨hd, (hb1.block _ h.dv.slt (fun e => h.ne e.symm)).trans h.dv.row, ?_⟩
    have hlt := h.dv.mlt
    obtain ⟨es, clock, he, r⟩ := h.dv.own
    exact ⟨es, clock, (hb1.block _ hlt (fun e => ham e.symm)).trans he, r⟩
  have cl1 : Clear (fun k => k = t.a) W := h.tags.mono (by rintro b e; exact .inl e)
  have cl2 : Clear (fun b => b = t.r) W1 := hr1.tags.mono (by rintro b e; exact .inl e)
  have rS := ne_of_tag hr1.ref hr1.rS (by decide)
  have rN := ne_of_tag hr1.ref hr1.rN (by decide)
  have rL := ne_of_tag hr1.ref hr1.rL (by decide)
  refine ⟨hdv1.but hb2 (fun e => hc0.1.1 e) (fun e => hc0.2.1.1 e) (fun e => hc0.2.2.1 e), ⟨hr, (hb2.block _ hr1.Slt (fun e => rS e.symm)).trans hr1.rS, (hb2.block _ hr1.Nlt (fun e => rN e.symm)).trans hr1.rN, (hb2.block _ hr1.Llt (fun e => rL e.symm)).trans hr1.rL, hr1.ne⟩,
    h.ne, h.n1, h.n30, h.szC, h.szS, h.szN, h.szL, fun i hi => ((h.blk i hi).but hb1 cl1).but hb2 cl2, h.rng, h.nnb, h.ctr, .inr ⟨rfl, rfl, hx⟩⟩

/-- The state behind a crash. -/
def crashedSt (n a' g cap m' : Nat) (curk : Array Value) (r' sS' cS' sN' cN' sL' cL' : Nat) (A B L : Array Value) : St :=
  { a := a', s := g, n := n, c := cap, m := m', nn := 0, D := .map [], cur := curk, fused := false, left := 0, count := 0, r := r', sS := sS', cS := cS', sN := sN', cN := cN', sL := sL', cL := cL', aS := A, aN := B, aL := L, lef := -1 }

theorem Both.crashed {W W1 W2 : World} {t : St} {lim : Nat} (h : Both W t lim) (ks : List Bool) {T : Nat → Prop} (hT : Clear T W) {a' g cap m' : Nat}
    (hin : CInv W W1 t.D (fun x => keepsB ks x.toNat) t.cur T t.n cap a' g m' (keys t.D).length)
    {r' sS' cS' sN' cN' sL' : Nat} {L A B : Array Value} (hxi : XInv W1 W2 r' t.n sS' cS' sN' cN' sL' t.n L ks t.aS t.aN t.aL t.n A B) (hLs : t.n ≤ L.size) (hLf : ∀ j, j < t.n → L[j]? = some (.bool false)) :
    ∃ curk, Both W2 (crashedSt t.n a' g cap m' curk r' sS' cS' sN' cN' sL' t.n A B L) lim := by
  obtain ⟨curk, hrow1, hsz, hat⟩ := hin.row
  have hb2 : But (fun _ => False) W1 W2 := But.of_below (hxi.bel)
  have hdv1 : DV W1 a' g t.n cap m' 0 (.map []) curk false 0 0 := ⟨hin.dev, hrow1, ownsMap_empty hin.map⟩
  have hkeys := keys_eq h.dv.own h.rng
  refine ⟨curk, ⟨hdv1.but hb2 (fun e => e) (fun e => e) (fun e => e), hxi.rv, hin.ag, h.n1, h.n30, hsz, hxi.szA, hxi.szB, hLs, ?_, ?_, Nat.zero_le _, ⟨Int.le_refl _, by show (0 : Int) ≤ lim; omega⟩, .inl ⟨rfl, rfl⟩⟩⟩
  · intro j hj
    have hj' : j < t.n := hj
    obtain ⟨now, safe, q, vN, vS, h1, h2, h3, h4, h5, h6, h7, h8, h9⟩ := ((h.blk j hj').but hin.but hT).but hb2 clear_none
    obtain ⟨q2, e1, e2, e3⟩ := hat j hj'
    have hmem : ((j : Int) ∈ (keys t.D).take (keys t.D).length) ↔ Maps.has t.D (.int .i64 j) = true := by
      rw [List.take_length, hkeys, List.mem_map]
      constructor
      · rintro ⟨y, hy, e⟩
        obtain rfl : y = j := by omega
        exact (List.mem_filter.1 hy).2
      · intro hh
        exact ⟨j, List.mem_filter.2 ⟨List.mem_range.2 hj', hh⟩, rfl⟩
    have htn : ((j : Int)).toNat = j := Int.toNat_natCast j
    have hAj := hxi.doneA j hj'
    have hBj := hxi.doneB j hj'
    rw [chosen_of h7] at hAj hBj
    show BlkAt W2 (.map []) curk A B L j
    have key : ∃ z vz, Holds512 W2 q2 (z.map u8) ∧ Bytes W2 vz z ∧ A[j]? = some vz ∧ B[j]? = some vz := by
      by_cases hh : Maps.has t.D (.int .i64 j) = true
      · by_cases hk : keepsB ks j = true
        · have hq : t.cur[j]? = some (.pointer q2) := e3 (by rintro ⟨_, hf⟩; simp only [htn] at hf; rw [hk] at hf; cases hf)
          rw [h1] at hq
          cases hq
          rw [hh, hk] at hAj hBj
          exact ⟨now, vN, h2, h4, hAj.trans h3, hBj.trans h3⟩
        · have hkf : keepsB ks j = false := by simpa using hk
          have hq := e2 ⟨hmem.2 hh, by simp only [htn]; exact hkf⟩
          obtain ⟨q', e, hq'⟩ := h8 hh
          rw [e] at hq
          have hqq : q' = q2 := by simpa [ptrD] using hq
          subst hqq
          rw [hh, hkf] at hAj hBj
          exact ⟨safe, vS, hq', h6, hAj.trans h5, hBj.trans h5⟩
      · have hhf : Maps.has t.D (.int .i64 j) = false := by simpa using hh
        have hq : t.cur[j]? = some (.pointer q2) := e3 (by rintro ⟨hm, _⟩; exact hh (hmem.1 hm))
        rw [h1] at hq
        cases hq
        rw [hhf] at hAj hBj
        rw [h9 hhf] at h6
        exact ⟨now, vS, h2, h6, hAj.trans h5, hBj.trans h5⟩
    obtain ⟨z, vz, k1, k2, k3, k4⟩ := key
    exact ⟨z, z, q2, vz, vz, e1, k1, k4, k2, k3, k2, by rw [hLf j hj', has_empty], fun hh => (by rw [has_empty] at hh; cases hh), fun _ => rfl⟩
  · intro y hy
    have hy' : Maps.has (.map [] : DataW Value) (.int .i64 y) = true := hy
    rw [has_empty] at hy'
    cases hy'

theorem zeros_bytes : zeros = (List.replicate 512 (0 : Int)).map u8 := by
  rw [List.map_replicate]; rfl

/-- Two new devices. -/
theorem Both.made {W W2 : World} {n a s m r z sS cS sN cN sL : Nat} (hn1 : 1 ≤ n) (hn : n ≤ 30) (has : a ≠ s)
    (hd : IsDevAt W a (.slice (some ⟨s, 0, none⟩) n n) m false 0 0) (hrow : W.heap[s]? = some (.cells (List.replicate n (.pointer none)).toArray 53 (0, 0))) (hm : W.heap[m]? = some (.map #[] 0)) (hb : Below W.heap.size W W2)
    (hr : IsRefAt W2 r (.slice (some ⟨sS, 0, none⟩) n cS) (.slice (some ⟨sN, 0, none⟩) n cN) (.slice (some ⟨sL, 0, none⟩) n n) (-1) 0) (hz : W2.heap[z]? = some (.cells zeros.toArray 5 (0, 0))) {base : Nat}
    (hrows : TwoRows W2 base (.slice (some ⟨sS, 0, none⟩) n cS) (.slice (some ⟨sN, 0, none⟩) n cN) n (.slice (some ⟨z, 0, none⟩) 512 512)) (hL : W2.heap[sL]? = some (.cells (List.replicate n (.bool false)).toArray 4 (0, 0))) (lim : Nat) :
    ∃ cur A B, Both W2 (crashedSt n a s n m cur r sS cS sN cN sL n A B (List.replicate n (.bool false)).toArray) lim := by
  have hb' : But (fun _ => False) W W2 := But.of_below hb
  have hdv : DV W a s n n m 0 (.map []) (List.replicate n (.pointer none)).toArray false 0 0 := ⟨hd, hrow, ownsMap_empty hm⟩
  have hne : sS ≠ sN := by
    rcases hrows.ne with h0 | h0
    · cases h0
    · intro e; exact h0 (by rw [e]; rfl)
  have rowAt : ∀ {g c}, W2.ownsRow base 28 1 (.slice (some ⟨g, 0, none⟩) n c) n (List.replicate n (.slice (some ⟨z, 0, none⟩) 512 512)) → ∃ A, W2.heap[g]? = some (.cells A 28 (0, 0)) ∧ n ≤ A.size ∧ ∀ j, j < n → A[j]? = some (.slice (some ⟨z, 0, none⟩) 512 512) := by
    intro g c h
    rcases h.2 with ⟨h0, _⟩ | ⟨g', cap, A, hv, _, hg, hnc, _, hsz, htk⟩
    · cases h0
    · cases hv
      refine ⟨A, hg, by omega, fun j hj => ?_⟩
      have e1 : (A.toList.take (n * 1))[j]? = some (.slice (some ⟨z, 0, none⟩) 512 512) := by rw [htk, List.getElem?_replicate, if_pos hj]
      rw [List.getElem?_take, if_pos (by omega)] at e1
      simpa using e1
  obtain ⟨A, hA, szA, vA⟩ := rowAt hrows.s
  obtain ⟨B, hB, szB, vB⟩ := rowAt hrows.n
  have hbz : Bytes W2 (.slice (some ⟨z, 0, none⟩) 512 512) (List.replicate 512 0) := ⟨z, 512, zeros.toArray, rfl, hz, by rw [← zeros_bytes]; exact List.take_of_length_le (by show zeros.length ≤ 512; rw [zeros_length]; exact Nat.le_refl _), by rw [List.length_replicate]⟩
  refine ⟨(List.replicate n (Value.pointer none)).toArray, A, B, ⟨hdv.but hb' (fun e => e) (fun e => e) (fun e => e), ⟨hr, hA, hB, hL, hne⟩, has, hn1, hn, by simp [crashedSt], szA, szB, by simp [crashedSt], ?_, ?_, Nat.zero_le _, ⟨Int.le_refl _, by show (0 : Int) ≤ lim; omega⟩, .inl ⟨rfl, rfl⟩⟩⟩
  · intro j hj
    have hj' : j < n := hj
    exact ⟨List.replicate 512 0, List.replicate 512 0, none, _, _, by show (List.replicate n (Value.pointer none)).toArray[j]? = _; rw [List.getElem?_toArray, List.getElem?_replicate, if_pos hj'], .inl ⟨rfl, by rw [← zeros_bytes]⟩, vB j hj', hbz, vA j hj', hbz,
      by show (List.replicate n (Value.bool false)).toArray[j]? = _; rw [List.getElem?_toArray, List.getElem?_replicate, if_pos hj']; rfl, fun hh => (by cases (show false = true from hh)), fun _ => rfl⟩
  · intro y hy
    cases (show false = true from hy)

end Go.Proofs.Ytnobebgnbofdpaa
