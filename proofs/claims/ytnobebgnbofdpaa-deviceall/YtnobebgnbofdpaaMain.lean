/-
  Write, Flush and Fuse, first of the device, then of the document's: both tell the same, and stay side by side.
-/
import Derived.Test.YtnobebgnbofdpaaStepb
namespace Go.Proofs.Ytnobebgnbofdpaa
open Go.RowKit Go.Maps Go.Sort Go.Shelf

/-- All that DeviceAll keeps: both devices, the variable r, nothing old turned. -/
structure Main (w0 W : World) (rB : Nat) (t : St) (lim : Nat) : Prop where
  both : Both W t lim
  rb : W.heap[rB]? = some (.cells #[.pointer (some ⟨t.r, 0, none⟩)] 26 (0, 0))
  bel : Below w0.heap.size w0 W
  la : w0.heap.size ≤ t.a
  ls : w0.heap.size ≤ t.s
  lm : w0.heap.size ≤ t.m
  lr : w0.heap.size ≤ t.r
  lS : w0.heap.size ≤ t.sS
  lN : w0.heap.size ≤ t.sN
  lL : w0.heap.size ≤ t.sL
  lB : w0.heap.size ≤ rB

/-- Bytes, the law's variables o and r: what no call on a device turns. -/
def Kp (W W' : World) : Prop := ∀ (k : Nat) (arr : Array Value) (ty : TypeId), ty = 31 ∨ ty = 5 ∨ ty = 26 → W.heap[k]? = some (.cells arr ty (0, 0)) → W'.heap[k]? = some (.cells arr ty (0, 0))

theorem Kp.refl (W : World) : Kp W W := fun _ _ _ _ h => h
theorem Kp.trans {A B C : World} (h : Kp A B) (k : Kp B C) : Kp A C := fun x arr ty ht hx => k x arr ty ht (h x arr ty ht hx)
theorem Kp.of_but {S : Nat → Prop} {W W' : World} (hb : But S W W') (hS : ∀ b, S b → ∀ (arr : Array Value) (ty : TypeId), ty = 31 ∨ ty = 5 ∨ ty = 26 → W.heap[b]? ≠ some (.cells arr ty (0, 0))) : Kp W W' :=
  fun k arr ty ht hk => (hb.block k (Array.getElem?_eq_some_iff.1 hk).1 (fun hs => hS k hs arr ty ht hk)).trans hk
theorem Kp.of_below {W W' : World} (hb : Below W.heap.size W W') : Kp W W' := fun k _ _ _ hk => (hb.block k (Array.getElem?_eq_some_iff.1 hk).1).trans hk

section
variable {W : World} {t : St} {lim : Nat}
theorem tag_ne {b : Nat} {arr arr' : Array Value} {ty ty' : TypeId} (h : W.heap[b]? = some (.cells arr' ty' (0, 0))) (ht : ty ≠ ty') : W.heap[b]? ≠ some (.cells arr ty (0, 0)) := by
  intro e; rw [h] at e; cases e; exact ht rfl
theorem Both.devTags (h : Both W t lim) : ∀ b, (b = t.a ∨ b = t.s ∨ b = t.m) → ∀ (arr : Array Value) (ty : TypeId), ty = 31 ∨ ty = 5 ∨ ty = 26 → W.heap[b]? ≠ some (.cells arr ty (0, 0)) := by
  rintro b (rfl | rfl | rfl) arr ty ht
  · exact tag_ne h.dv.dev (by rcases ht with rfl | rfl | rfl <;> decide)
  · exact tag_ne h.dv.row (by rcases ht with rfl | rfl | rfl <;> decide)
  · obtain ⟨es, clock, hm, _⟩ := h.dv.own
    intro e; rw [hm] at e; cases e
end
theorem RV.refTags {W : World} {r n sS cS sN cN sL cL : Nat} {aS aN aL : Array Value} {lef cnt : Int} (h : RV W r n sS cS sN cN sL cL aS aN aL lef cnt) :
    ∀ b, (b = r ∨ b = sS ∨ b = sN ∨ b = sL) → ∀ (arr : Array Value) (ty : TypeId), ty = 31 ∨ ty = 5 ∨ ty = 26 → W.heap[b]? ≠ some (.cells arr ty (0, 0)) := by
  rintro b (rfl | rfl | rfl | rfl) arr ty ht
  · exact tag_ne h.ref (by rcases ht with rfl | rfl | rfl <;> decide)
  · exact tag_ne h.rS (by rcases ht with rfl | rfl | rfl <;> decide)
  · exact tag_ne h.rN (by rcases ht with rfl | rfl | rfl <;> decide)
  · exact tag_ne h.rL (by rcases ht with rfl | rfl | rfl <;> decide)

theorem Main.mono {w0 W : World} {rB : Nat} {t : St} {lim lim' : Nat} (h : Main w0 W rB t lim) (hl : lim ≤ lim') : Main w0 W rB t lim' := { h with both := h.both.mono hl }
theorem Main.frame {w0 W W' : World} {rB : Nat} {t : St} {lim : Nat} (h : Main w0 W rB t lim) (hb : Below W.heap.size W W') : Main w0 W' rB t lim :=
  { h with both := h.both.frame hb, rb := (hb.block _ (Array.getElem?_eq_some_iff.1 h.rb).1).trans h.rb, bel := h.bel.trans (hb.mono h.bel.size) }

theorem alive_lef {fused : Bool} {left lef : Int} (h : Fuses fused left lef) (ha : alive fused left) : (lef == 0) = false := by rw [h.dead]; exact ha
theorem dead_lef {fused : Bool} {left lef : Int} (h : Fuses fused left lef) (ha : (fused && decide (left < 1)) = true) : lef = 0 := by
  have := h.dead; rw [ha] at this; simpa using this

/-- None of the blocks of bytes that the state names is X. -/
structure AvSt (X : Nat) (t : St) : Prop where
  cur : ∀ i, i < t.n → ∀ q, t.cur[i]? = some (.pointer q) → q ≠ some ⟨X, 0, none⟩
  aN : ∀ i, i < t.n → ∀ g c, t.aN[i]? = some (.slice (some ⟨g, 0, none⟩) 512 c) → g ≠ X
  aS : ∀ i, i < t.n → ∀ g c, t.aS[i]? = some (.slice (some ⟨g, 0, none⟩) 512 c) → g ≠ X
  atK : ∀ i, i < t.n → ∀ q, Maps.has t.D (.int .i64 (i : Int)) = true → t.D.atKey (.int .i64 (i : Int)) (ptrD none) = ptrD q → q ≠ some ⟨X, 0, none⟩

theorem AvSt.fresh {W : World} {t : St} {lim X : Nat} (h : Both W t lim) (hX : W.heap.size ≤ X) : AvSt X t := by
  have blk : ∀ {q l}, Holds512 W q l → q ≠ some ⟨X, 0, none⟩ := by
    rintro q l (⟨rfl, _⟩ | ⟨g, rfl, hg, _⟩) e
    · cases e
    · cases e
      have := (Array.getElem?_eq_some_iff.1 hg).1
      omega
  refine ⟨fun i hi q hq => ?_, fun i hi g c hg => ?_, fun i hi g c hg => ?_, fun i hi q hh hq => ?_⟩
  all_goals obtain ⟨now, safe, q0, vN, vS, h1, h2, h3, ⟨gN, cN, arN, rfl, bN, _⟩, h5, ⟨gS, cS, arS, rfl, bS, _⟩, h7, h8, h9⟩ := h.blk i hi
  · rw [h1] at hq; cases hq; exact blk h2
  · rw [h3] at hg; cases hg; have := (Array.getElem?_eq_some_iff.1 bN).1; omega
  · rw [h5] at hg; cases hg; have := (Array.getElem?_eq_some_iff.1 bS).1; omega
  · obtain ⟨q', e, hq'⟩ := h8 hh
    rw [e] at hq
    have : q' = q := by simpa [ptrD] using hq
    subst this
    exact blk hq'

theorem AvSt.wrote {W : World} {t : St} {lim X i g : Nat} {p : Option Addr} {v : Value} (h : AvSt X t) (hB : Both W t lim) (hi : i < t.n) (hp : t.cur[i]? = some (.pointer p)) (hg : g ≠ X)
    (hv : ∀ g c, v = .slice (some ⟨g, 0, none⟩) 512 c → g ≠ X) : AvSt X (t.wrote i g p v) := by
  have szC := hB.szC
  have szN := hB.szN
  have hn30 := hB.n30
  refine ⟨fun j hj q hq => ?_, fun j hj g' c hq => ?_, h.aS, fun j hj q hh hq => ?_⟩
  · have hj' : j < t.n := hj
    have hq' : (t.cur.setIfInBounds i (.pointer (some ⟨g, 0, none⟩)))[j]? = some (.pointer q) := hq
    rw [Array.getElem?_setIfInBounds] at hq'
    by_cases hij : i = j
    · rw [if_pos hij, if_pos (by omega)] at hq'
      cases hq'
      intro e; cases e; exact hg rfl
    · rw [if_neg hij] at hq'; exact h.cur j hj' q hq'
  · have hj' : j < t.n := hj
    have hq' : (t.aN.setIfInBounds i v)[j]? = some (.slice (some ⟨g', 0, none⟩) 512 c) := hq
    rw [Array.getElem?_setIfInBounds] at hq'
    by_cases hij : i = j
    · rw [if_pos hij, if_pos (by omega)] at hq'
      exact hv g' c (by simpa using hq')
    · rw [if_neg hij] at hq'; exact h.aN j hj' g' c hq'
  · have hj' : j < t.n := hj
    have hq' : (loosened t.D i p).atKey (.int .i64 (j : Int)) (ptrD none) = ptrD q := hq
    by_cases hij : j = i
    · subst hij
      unfold loosened at hq'
      by_cases hb : Maps.has t.D (.int .i64 (j : Int)) = true
      · rw [if_pos hb] at hq'; exact h.atK j hj' q hb hq'
      · rw [if_neg hb, atKey_put_same hB.dv.own.isMap (lit_key (by omega))] at hq'
        have : p = q := by simpa [ptrD] using hq'
        subst this
        exact h.cur j hj' p hp
    · rw [at_loosened_other hij] at hq'
      have hh' : Maps.has (loosened t.D i p) (.int .i64 (j : Int)) = true := hh
      rw [has_loosened_other (by intro e; exact hij (by omega))] at hh'
      exact h.atK j hj' q hh' hq'

/-- A block of bytes that the state does not name may turn. -/
theorem Both.aside {W W' : World} {t : St} {lim X : Nat} (h : Both W t lim) (hA : AvSt X t) {arr : Array Value} (hX : W.heap[X]? = some (.cells arr 5 (0, 0))) (hb : But (fun k => k = X) W W') : Both W' t lim := by
  have holds : ∀ {q l}, Holds512 W q l → q ≠ some ⟨X, 0, none⟩ → Holds512 W' q l := by
    rintro q l (h | ⟨g, rfl, hg, r⟩) hne
    · exact .inl h
    · exact .inr ⟨g, rfl, (hb.block g (Array.getElem?_eq_some_iff.1 hg).1 (fun e => hne (by rw [e]))).trans hg, r⟩
  refine { h with dv := h.dv.but hb (ne_of_tag h.dv.dev hX (by decide)) (ne_of_tag h.dv.row hX (by decide)) (map_ne_cells h.dv.own hX).symm, rv := h.rv.but hb (ne_of_tag h.rv.ref hX (by decide)) (ne_of_tag h.rv.rS hX (by decide)) (ne_of_tag h.rv.rN hX (by decide)) (ne_of_tag h.rv.rL hX (by decide)), blk := fun i hi => ?_ }
  obtain ⟨now, safe, q0, vN, vS, h1, h2, h3, ⟨gN, cN, arN, rfl, bN, rN⟩, h5, ⟨gS, cS, arS, rfl, bS, rS⟩, h7, h8, h9⟩ := h.blk i hi
  refine ⟨now, safe, q0, _, _, h1, holds h2 (hA.cur i hi q0 h1), h3, ⟨gN, cN, arN, rfl, (hb.block gN (Array.getElem?_eq_some_iff.1 bN).1 (hA.aN i hi gN cN h3)).trans bN, rN⟩,
    h5, ⟨gS, cS, arS, rfl, (hb.block gS (Array.getElem?_eq_some_iff.1 bS).1 (hA.aS i hi gS cS h5)).trans bS, rS⟩, h7, fun hh => ?_, h9⟩
  obtain ⟨q', e, hq'⟩ := h8 hh
  exact ⟨q', e, holds hq' (hA.atK i hi q' hh e)⟩

theorem Main.aside {w0 W W' : World} {rB : Nat} {t : St} {lim X : Nat} (h : Main w0 W rB t lim) (hA : AvSt X t) {arr : Array Value} (hX : W.heap[X]? = some (.cells arr 5 (0, 0))) (hXw : w0.heap.size ≤ X) (hb : But (fun k => k = X) W W') : Main w0 W' rB t lim :=
  { h with both := h.both.aside hA hX hb, rb := (hb.block _ (Array.getElem?_eq_some_iff.1 h.rb).1 (ne_of_tag h.rb hX (by decide))).trans h.rb, bel := h.bel.trans (hb.below h.bel.size (by rintro k rfl; exact hXw)) }

theorem write_both {w0 W : World} {rB : Nat} {t : St} {lim : Nat} (h : Main w0 W rB t lim) (hlim : lim ≤ 1000) (i : Int) (bb bl : Nat) (x : List Int) (hx : x.length = bl) (hb : W.heap[bb]? = some (.cells (x.map u8).toArray 5 (0, 0))) :
    Calls Try.prog 10 #[.pointer (some ⟨t.a, 0, none⟩), .int .i64 i, .slice (some ⟨bb, 0, none⟩) bl bl] W fun e W1 => ∃ ec, e = .returned (.int .i64 ec) ∧ Kp W W1 ∧
      Calls Try.prog 11 #[.pointer (some ⟨t.r, 0, none⟩), .int .i64 i, .slice (some ⟨bb, 0, none⟩) bl bl] W1 fun e2 W2 => e2 = .returned (.int .i64 ec) ∧ Kp W1 W2 ∧ ∃ t', Main w0 W2 rB t' (lim + 1) ∧ t'.a = t.a ∧ t'.r = t.r ∧ t'.n = t.n ∧ ∀ X, X < W.heap.size → AvSt X t → AvSt X t' := by
  have hB := h.both
  by_cases hd : (t.fused && decide (t.left < 1)) = true
  · refine (write_dead i _ bl bl t.a _ t.m t.fused t.left t.count W hB.dv.dev hd).mono ?_
    rintro e W1 ⟨rfl, rfl⟩
    have hl0 := dead_lef hB.fuse hd
    have hr := hB.rv.ref
    rw [hl0] at hr
    refine ⟨5, rfl, Kp.refl _, (rwrite_dead i _ bl bl t.r _ _ _ t.count _ hr).mono ?_⟩
    rintro e W2 ⟨rfl, rfl⟩
    exact ⟨rfl, Kp.refl _, t, h.mono (Nat.le_succ _), rfl, rfl, rfl, fun _ _ hA => hA⟩
  · have ha : alive t.fused t.left := by unfold alive; simpa using hd
    have hlef := alive_lef hB.fuse ha
    by_cases hv : (0 ≤ i ∧ i < t.n) ∧ bl = 512
    · obtain ⟨⟨h0, h1⟩, rfl⟩ := hv
      obtain ⟨j, rfl⟩ := Int.eq_ofNat_of_zero_le h0
      have hj : j < t.n := by omega
      obtain ⟨now, safe, p, vN, vS, hp, _⟩ := hB.blk j hj
      have hn30 := hB.n30
      have hnn := hB.nnb
      have hct := hB.ctr
      have hc1 : ∀ k v, (x.map u8)[k]? = some v → W.cell? ⟨bb, 0 + k, none⟩ = some v := fun k v hk => by
        rw [Nat.zero_add, cellOf hb k, List.getElem?_toArray]; exact hk
      refine (write_yes j bb 0 512 (x.map u8) t.a t.s t.n t.c t.m t.nn t.D t.cur p t.fused t.left t.count W hB.dv.dev hB.dv.row hB.dv.own (by unfold maxLen; omega) hB.ne hj (by omega) hp (by simpa using hx)
        (fun u hu => by obtain ⟨y, _, rfl⟩ := List.mem_map.1 hu; rfl) hc1 ha hct.1 (by omega) (hB.fuse.bound ha)).mono ?_
      rintro e W1 ⟨g, rfl, hw⟩
      have kp1 : Kp W W1 := Kp.of_but hw.but hB.devTags
      have hcr := cross hB.dv hB.rv
      have hr1 : RV W1 t.r t.n t.sS t.cS t.sN t.cN t.sL t.cL t.aS t.aN t.aL t.lef t.count := hB.rv.but hw.but
        (by rintro (e | e | e); exact hcr.1.1 e.symm; exact hcr.2.1.1 e.symm; exact hcr.2.2.1 e.symm) (by rintro (e | e | e); exact hcr.1.2.1 e.symm; exact hcr.2.1.2.1 e.symm; exact hcr.2.2.2.1 e.symm)
        (by rintro (e | e | e); exact hcr.1.2.2.1 e.symm; exact hcr.2.1.2.2.1 e.symm; exact hcr.2.2.2.2.1 e.symm) (by rintro (e | e | e); exact hcr.1.2.2.2 e.symm; exact hcr.2.1.2.2.2 e.symm; exact hcr.2.2.2.2.2 e.symm)
      have hb1 := kp1 bb _ 5 (by simp) hb
      have szN := hB.szN
      have szL := hB.szL
      refine ⟨0, rfl, kp1, ?_⟩
      refine (rwrite_yes j bb 0 512 x t.r t.n t.sS t.cS t.sN t.cN t.sL t.cL t.aS t.aN t.aL t.lef t.count W1 hr1 hlef hj (by omega) (by omega) hx (fun k v hk => by
        rw [Nat.zero_add, cellOf hb1 k, List.getElem?_toArray]; exact hk) hct.1 (by omega) hB.fuse.lefle).mono ?_
      rintro e W2 ⟨v, rfl, hr2, hv2, hb2, hvw⟩
      have kp2 : Kp W1 W2 := Kp.of_but hb2 (fun b hb => hr1.refTags b (by rcases hb with e | e | e <;> simp [e]))
      refine ⟨rfl, kp2, t.wrote j g p v, ⟨hB.wrote ha hj hp hx hw hr2 hv2 hb2 hr1, kp2 rB _ 26 (by simp) (kp1 rB _ 26 (by simp) h.rb), ?_, h.la, h.ls, h.lm, h.lr, h.lS, h.lN, h.lL, h.lB⟩, rfl, rfl, rfl, fun X hX hA => hA.wrote hB hj hp (by have := hw.lo; omega) (fun g c e => by have h1 := hvw g c e; have h2 := hw.but.size; omega)⟩
      have la := h.la
      have ls := h.ls
      have lm := h.lm
      have lr := h.lr
      have lN := h.lN
      have lL := h.lL
      have b1 : Below w0.heap.size W W1 := hw.but.below h.bel.size (by rintro k (e | e | e) <;> omega)
      have b2 : Below w0.heap.size W1 W2 := hb2.below (Nat.le_trans h.bel.size hw.but.size) (by rintro k (e | e | e) <;> omega)
      exact (h.bel.trans b1).trans b2
    · have hv' : ¬ (0 ≤ i ∧ i < t.n) ∨ bl ≠ 512 := by
        by_cases h1 : 0 ≤ i ∧ i < t.n
        · exact .inr (fun e => hv ⟨h1, e⟩)
        · exact .inl h1
      refine (write_no i _ bl bl t.a _ t.n t.c t.m t.fused t.left t.count W hB.dv.dev ha hv').mono ?_
      rintro e W1 ⟨rfl, rfl⟩
      refine ⟨22, rfl, Kp.refl _, (rwrite_no i _ bl bl t.r _ _ _ t.n t.cN t.lef t.count _ hB.rv.ref hlef hv').mono ?_⟩
      rintro e W2 ⟨rfl, rfl⟩
      exact ⟨rfl, Kp.refl _, t, h.mono (Nat.le_succ _), rfl, rfl, rfl, fun _ _ hA => hA⟩

theorem flush_both {w0 W : World} {rB : Nat} {t : St} {lim : Nat} (h : Main w0 W rB t lim) (hlim : lim ≤ 1000) :
    Calls Try.prog 12 #[.pointer (some ⟨t.a, 0, none⟩)] W fun e W1 => ∃ ec, e = .returned (.int .i64 ec) ∧ Kp W W1 ∧
      Calls Try.prog 13 #[.pointer (some ⟨t.r, 0, none⟩)] W1 fun e2 W2 => e2 = .returned (.int .i64 ec) ∧ Kp W1 W2 ∧ ∃ t', Main w0 W2 rB t' (lim + 1) ∧ t'.a = t.a ∧ t'.r = t.r ∧ t'.n = t.n := by
  have hB := h.both
  by_cases hd : (t.fused && decide (t.left < 1)) = true
  · refine (flush_dead t.a _ t.m t.fused t.left t.count W hB.dv.dev hd).mono ?_
    rintro e W1 ⟨rfl, rfl⟩
    have hl0 := dead_lef hB.fuse hd
    have hr := hB.rv.ref
    rw [hl0] at hr
    refine ⟨5, rfl, Kp.refl _, (rflush_dead t.r _ _ _ t.count _ hr).mono ?_⟩
    rintro e W2 ⟨rfl, rfl⟩
    exact ⟨rfl, Kp.refl _, t, h.mono (Nat.le_succ _), rfl, rfl, rfl⟩
  · have ha : alive t.fused t.left := by unfold alive; simpa using hd
    have hlef := alive_lef hB.fuse ha
    have hct := hB.ctr
    have hn30 := hB.n30
    refine (flush_yes t.a _ t.m t.fused t.left t.count W hB.dv.dev ha hct.1 (by omega) (hB.fuse.bound ha)).mono ?_
    rintro e W1 ⟨m', rfl, hm'w, hdev1, hm1, hb1⟩
    have kp1 : Kp W W1 := Kp.of_but hb1 (fun b hb => hB.devTags b (.inl hb))
    have hcr := cross hB.dv hB.rv
    have hr1 : RV W1 t.r t.n t.sS t.cS t.sN t.cN t.sL t.cL t.aS t.aN t.aL t.lef t.count := hB.rv.but hb1 (fun e => hcr.1.1 e.symm) (fun e => hcr.1.2.1 e.symm) (fun e => hcr.1.2.2.1 e.symm) (fun e => hcr.1.2.2.2 e.symm)
    refine ⟨0, rfl, kp1, ?_⟩
    refine (rflush_yes t.r t.n t.sS t.cS t.sN t.cN t.sL t.cL t.aS t.aN t.aL t.lef t.count W1 hr1 hlef hB.szS hB.szL (by omega) (fun j hj => by
      obtain ⟨_, _, _, _, _, _, _, h3, ⟨g, c, arr, rfl, _⟩, _⟩ := hB.blk j hj
      exact ⟨_, _, _, h3⟩) hct.1 (by omega) hB.fuse.lefle).mono ?_
    rintro e W2 ⟨bS, bL, rfl, hr2, sS, sL, dS, dL, hb2⟩
    have kp2 : Kp W1 W2 := Kp.of_but hb2 (fun b hb => hr1.refTags b (by rcases hb with e | e | e <;> simp [e]))
    have la := h.la
    have lr := h.lr
    have lS := h.lS
    have lL := h.lL
    have hbs := h.bel.size
    refine ⟨rfl, kp2, t.flushed m' bS bL, ⟨hB.flushed ha hdev1 hm1 hb1 hr2 sS sL dS dL hb2 hr1, kp2 rB _ 26 (by simp) (kp1 rB _ 26 (by simp) h.rb), ?_, h.la, h.ls, by show w0.heap.size ≤ m'; omega, h.lr, h.lS, h.lN, h.lL, h.lB⟩, rfl, rfl, rfl⟩
    have b1 : Below w0.heap.size W W1 := hb1.below h.bel.size (by rintro k e; omega)
    have b2 : Below w0.heap.size W1 W2 := hb2.below (Nat.le_trans h.bel.size hb1.size) (by rintro k (e | e | e) <;> omega)
    exact (h.bel.trans b1).trans b2

theorem fuse_both {w0 W : World} {rB : Nat} {t : St} {lim : Nat} (h : Main w0 W rB t lim) (x : Int) (hx : x ≤ 9223372036854775807) :
    Calls Try.prog 14 #[.pointer (some ⟨t.a, 0, none⟩), .int .i64 x] W fun e W1 => e = .returned (.tuple #[]) ∧ Kp W W1 ∧
      Calls Try.prog 15 #[.pointer (some ⟨t.r, 0, none⟩), .int .i64 x] W1 fun e2 W2 => e2 = .returned (.tuple #[]) ∧ Kp W1 W2 ∧ ∃ t', Main w0 W2 rB t' lim ∧ t'.a = t.a ∧ t'.r = t.r ∧ t'.n = t.n := by
  have hB := h.both
  by_cases hd : (t.fused && decide (t.left < 1)) = true
  · refine (fuse_dead x t.a _ t.m t.fused t.left t.count W hB.dv.dev hd).mono ?_
    rintro e W1 ⟨rfl, rfl⟩
    have hl0 := dead_lef hB.fuse hd
    have hr := hB.rv.ref
    rw [hl0] at hr
    refine ⟨rfl, Kp.refl _, (rfuse_dead x t.r _ _ _ t.count _ hr).mono ?_⟩
    rintro e W2 ⟨rfl, rfl⟩
    exact ⟨rfl, Kp.refl _, t, h, rfl, rfl, rfl⟩
  · have ha : alive t.fused t.left := by unfold alive; simpa using hd
    have hlef := alive_lef hB.fuse ha
    refine (fuse_yes x t.a _ t.m t.fused t.left t.count W hB.dv.dev ha).mono ?_
    rintro e W1 ⟨rfl, hdev1, hb1⟩
    have kp1 : Kp W W1 := Kp.of_but hb1 (fun b hb => hB.devTags b (.inl hb))
    have hcr := cross hB.dv hB.rv
    have hr1 : RV W1 t.r t.n t.sS t.cS t.sN t.cN t.sL t.cL t.aS t.aN t.aL t.lef t.count := hB.rv.but hb1 (fun e => hcr.1.1 e.symm) (fun e => hcr.1.2.1 e.symm) (fun e => hcr.1.2.2.1 e.symm) (fun e => hcr.1.2.2.2 e.symm)
    refine ⟨rfl, kp1, (rfuse_yes x t.r _ _ _ t.lef t.count W1 hr1.ref hlef).mono ?_⟩
    rintro e W2 ⟨rfl, hr2, hb2⟩
    have kp2 : Kp W1 W2 := Kp.of_but hb2 (fun b hb => hr1.refTags b (.inl hb))
    have la := h.la
    have lr := h.lr
    refine ⟨rfl, kp2, t.fusedBy x, ⟨hB.fusedBy hx hdev1 hb1 hr2 hb2, kp2 rB _ 26 (by simp) (kp1 rB _ 26 (by simp) h.rb), ?_, h.la, h.ls, h.lm, h.lr, h.lS, h.lN, h.lL, h.lB⟩, rfl, rfl, rfl⟩
    have b1 : Below w0.heap.size W W1 := hb1.below h.bel.size (by rintro k e; omega)
    have b2 : Below w0.heap.size W1 W2 := hb2.below (Nat.le_trans h.bel.size hb1.size) (by rintro k e; omega)
    exact (h.bel.trans b1).trans b2

end Go.Proofs.Ytnobebgnbofdpaa
