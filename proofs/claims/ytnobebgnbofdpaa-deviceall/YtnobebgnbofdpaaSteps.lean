/-
  Each call, done to both devices, leaves them side by side.
-/
import Derived.Test.YtnobebgnbofdpaaAsk
namespace Go.Proofs.Ytnobebgnbofdpaa
open Go.RowKit Go.Maps Go.Sort Go.Shelf

theorem lit_ne {i j : Nat} (h : i ≠ j) : (Lit.int .i64 (i : Int)) ≠ .int .i64 (j : Int) := by
  intro e; cases e; exact h rfl
theorem lit_key {i : Nat} (h : i < 65536) : WideAt.IsKeyLit (Lit.int .i64 (i : Int)) := keyed.key (key_i64 (by omega))

section
variable {W : World} {t : St} {lim : Nat}
theorem Both.tags (h : Both W t lim) : Clear (fun k => k = t.a ∨ k = t.s ∨ k = t.m) W := by
  intro b hb x f
  have hd := h.dv.dev
  have hr := h.dv.row
  rcases hb with rfl | rfl | rfl
  · constructor <;> (intro e; rw [hd] at e; cases e)
  · constructor <;> (intro e; rw [hr] at e; cases e)
  · obtain ⟨es, clock, hm, _⟩ := h.dv.own
    constructor <;> (intro e; rw [hm] at e; cases e)
end

theorem RV.tags {W : World} {r n sS cS sN cN sL cL : Nat} {aS aN aL : Array Value} {lef cnt : Int} (h : RV W r n sS cS sN cN sL cL aS aN aL lef cnt) : Clear (fun k => k = r ∨ k = sS ∨ k = sN ∨ k = sL) W := by
  intro b hb x f
  have h0 := h.ref
  have h1 := h.rS
  have h2 := h.rN
  have h3 := h.rL
  rcases hb with rfl | rfl | rfl | rfl
  · constructor <;> (intro e; rw [h0] at e; cases e)
  · constructor <;> (intro e; rw [h1] at e; cases e)
  · constructor <;> (intro e; rw [h2] at e; cases e)
  · constructor <;> (intro e; rw [h3] at e; cases e)

theorem Clear.mono {S T : Nat → Prop} {W : World} (h : Clear T W) (hs : ∀ b, S b → T b) : Clear S W := fun b hb => h b (hs b hb)

/-- The device's blocks are none of the document's. -/
theorem cross {W : World} {a s n c m nn : Nat} {D : DataW Value} {cur : Array Value} {fused : Bool} {left count : Int} (hd : DV W a s n c m nn D cur fused left count)
    {r n' sS cS sN cN sL cL : Nat} {aS aN aL : Array Value} {lef cnt : Int} (hr : RV W r n' sS cS sN cN sL cL aS aN aL lef cnt) :
    (a ≠ r ∧ a ≠ sS ∧ a ≠ sN ∧ a ≠ sL) ∧ (s ≠ r ∧ s ≠ sS ∧ s ≠ sN ∧ s ≠ sL) ∧ (m ≠ r ∧ m ≠ sS ∧ m ≠ sN ∧ m ≠ sL) :=
  ⟨⟨ne_of_tag hd.dev hr.ref (by decide), ne_of_tag hd.dev hr.rS (by decide), ne_of_tag hd.dev hr.rN (by decide), ne_of_tag hd.dev hr.rL (by decide)⟩,
   ⟨ne_of_tag hd.row hr.ref (by decide), ne_of_tag hd.row hr.rS (by decide), ne_of_tag hd.row hr.rN (by decide), ne_of_tag hd.row hr.rL (by decide)⟩,
   ⟨(map_ne_cells hd.own hr.ref).symm, (map_ne_cells hd.own hr.rS).symm, (map_ne_cells hd.own hr.rN).symm, (map_ne_cells hd.own hr.rL).symm⟩⟩

/-- The state behind a Write of block i that is done. -/
def St.wrote (t : St) (i g : Nat) (p : Option Addr) (v : Value) : St :=
  { t with nn := t.nn + 1, D := loosened t.D i p, cur := t.cur.setIfInBounds i (.pointer (some ⟨g, 0, none⟩)), left := stepped t.fused t.left, count := t.count + 1,
           aN := t.aN.setIfInBounds i v, aL := t.aL.setIfInBounds i (.bool true), lef := rstepped t.lef }

theorem has_loosened {D : DataW Value} (hD : IsMap D) {i : Nat} (hi : i < 65536) (p : Option Addr) : Maps.has (loosened D i p) (.int .i64 i) = true := by
  unfold loosened
  by_cases h : Maps.has D (.int .i64 i) = true
  · rw [if_pos h]; exact h
  · rw [if_neg h]; exact has_put_same hD (lit_key hi) _
theorem has_loosened_other {D : DataW Value} {i : Nat} {x : Int} (hx : x ≠ i) (p : Option Addr) : Maps.has (loosened D i p) (.int .i64 x) = Maps.has D (.int .i64 x) := by
  unfold loosened
  by_cases h : Maps.has D (.int .i64 i) = true
  · rw [if_pos h]
  · rw [if_neg h]; exact has_put_other (by intro e; cases e; exact hx rfl) _
theorem at_loosened_other {D : DataW Value} {i j : Nat} (hj : j ≠ i) (p : Option Addr) (z : DataW Value) : (loosened D i p).atKey (.int .i64 j) z = D.atKey (.int .i64 j) z := by
  unfold loosened
  by_cases h : Maps.has D (.int .i64 i) = true
  · rw [if_pos h]
  · rw [if_neg h]; exact atKey_put_other (lit_ne hj) _ _

theorem Both.wrote {W W1 W2 : World} {t : St} {lim : Nat} (h : Both W t lim) (ha : alive t.fused t.left) {i g : Nat} (hi : i < t.n) {p : Option Addr} (hp : t.cur[i]? = some (.pointer p)) {x : List Int} (hx : x.length = 512)
    (hw : Wrote W W1 t.a t.s t.n t.c t.m t.nn t.D t.cur p i (x.map u8) t.fused t.left t.count g) {v : Value}
    (hr : RV W2 t.r t.n t.sS t.cS t.sN t.cN t.sL t.cL t.aS (t.aN.setIfInBounds i v) (t.aL.setIfInBounds i (.bool true)) (rstepped t.lef) (t.count + 1)) (hv : Bytes W2 v x)
    (hb2 : But (fun k => k = t.r ∨ k = t.sN ∨ k = t.sL) W1 W2) (hr1 : RV W1 t.r t.n t.sS t.cS t.sN t.cN t.sL t.cL t.aS t.aN t.aL t.lef t.count) : Both W2 (t.wrote i g p v) (lim + 1) := by
  have hn30 := h.n30
  have hdv1 : DV W1 t.a t.s t.n t.c t.m (t.nn + 1) (loosened t.D i p) (t.cur.setIfInBounds i (.pointer (some ⟨g, 0, none⟩))) t.fused (stepped t.fused t.left) (t.count + 1) := ⟨hw.dev, hw.row, hw.own⟩
  have hc := cross hdv1 hr1
  have cl1 := h.tags
  have cl2 : Clear (fun k => k = t.r ∨ k = t.sN ∨ k = t.sL) W1 := hr1.tags.mono (by rintro b (e | e | e) <;> simp [e])
  have hmap := h.dv.own.isMap
  refine ⟨?_, hr, h.ne, h.n1, h.n30, by simpa [St.wrote] using h.szC, h.szS, by simpa [St.wrote] using h.szN, by simpa [St.wrote] using h.szL, ?_, ?_, Nat.succ_le_succ h.nnb, ?_, h.fuse.step ha⟩
  · exact hdv1.but hb2 (by rintro (e | e | e); exact hc.1.1 e; exact hc.1.2.2.1 e; exact hc.1.2.2.2 e) (by rintro (e | e | e); exact hc.2.1.1 e; exact hc.2.1.2.2.1 e; exact hc.2.1.2.2.2 e) (by rintro (e | e | e); exact hc.2.2.1 e; exact hc.2.2.2.2.1 e; exact hc.2.2.2.2.2 e)
  · intro j hj
    have hj' : j < t.n := hj
    have hB := (h.blk j hj).but hw.but cl1
    obtain ⟨now, safe, q, vN, vS, h1, h2, h3, h4, h5, h6, h7, h8, h9⟩ := hB.but hb2 cl2
    show BlkAt W2 (loosened t.D i p) (t.cur.setIfInBounds i (.pointer (some ⟨g, 0, none⟩))) t.aS (t.aN.setIfInBounds i v) (t.aL.setIfInBounds i (.bool true)) j
    have szC := h.szC
    have szN := h.szN
    have szL := h.szL
    by_cases hij : i = j
    · subst hij
      rw [hp] at h1
      cases h1
      have hhas := has_loosened hmap (i := i) (by omega) p
      refine ⟨x, safe, some ⟨g, 0, none⟩, v, vS, ?_, ?_, ?_, hv, h5, h6, ?_, fun _ => ?_, fun hh => by rw [hhas] at hh; cases hh⟩
      · rw [Array.getElem?_setIfInBounds, if_pos rfl, if_pos (by omega)]
      · have hg : Holds512 W1 (some ⟨g, 0, none⟩) (x.map u8) := .inr ⟨g, rfl, hw.blk, by simpa using hx, fun u hu => by obtain ⟨y, _, rfl⟩ := List.mem_map.1 hu; rfl⟩
        exact hg.but hb2 cl2
      · rw [Array.getElem?_setIfInBounds, if_pos rfl, if_pos (by omega)]
      · rw [Array.getElem?_setIfInBounds, if_pos rfl, if_pos (by omega), hhas]
      · by_cases hh : Maps.has t.D (.int .i64 i) = true
        · obtain ⟨q', e, hq⟩ := h8 hh
          exact ⟨q', by unfold loosened; rw [if_pos hh]; exact e, hq⟩
        · have hf : Maps.has t.D (.int .i64 i) = false := by simpa using hh
          refine ⟨p, by unfold loosened; rw [if_neg hh]; exact atKey_put_same hmap (lit_key (by omega)) _ _, ?_⟩
          rw [h9 hf]; exact h2
    · have hne : j ≠ i := fun e => hij e.symm
      have hhas : Maps.has (loosened t.D i p) (.int .i64 j) = Maps.has t.D (.int .i64 j) := has_loosened_other (by intro e; exact hne (by omega)) p
      refine ⟨now, safe, q, vN, vS, ?_, h2, ?_, h4, h5, h6, ?_, fun hh => ?_, fun hh => h9 (hhas ▸ hh)⟩
      · rw [Array.getElem?_setIfInBounds, if_neg hij]; exact h1
      · rw [Array.getElem?_setIfInBounds, if_neg hij]; exact h3
      · rw [Array.getElem?_setIfInBounds, if_neg hij, hhas]; exact h7
      · rw [at_loosened_other hne]; exact h8 (hhas ▸ hh)
  · intro y hy
    have hy' : Maps.has (loosened t.D i p) (.int .i64 y) = true := hy
    by_cases hyi : y = i
    · subst hyi; exact ⟨by omega, by show (i : Int) < t.n; omega⟩
    · rw [has_loosened_other hyi] at hy'; exact h.rng y hy'
  · have := h.ctr
    show 0 ≤ t.count + 1 ∧ t.count + 1 ≤ ((lim + 1 : Nat) : Int)
    omega

end Go.Proofs.Ytnobebgnbofdpaa
