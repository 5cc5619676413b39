/-
  Which of the heads is the first that is behind: slices.IndexFunc.
-/
import Derived.Test.YteimjkicinjcgaaKLe

namespace Go.Proofs.Yteimjkicinjcgaa.Ck.Y.L
open Go.RowKit Go.Maps Go.Lib

/-- The function value f.isBehindOne. -/
abbrev bhv (fb : Nat) : Value := .func (.func 53) #[.pointer (some ⟨fb, 0, none⟩)] #[]
/-- What a file's field says of what was seen. -/
def SeenF (w : World) (fb : Nat) (sn : List Int) : Prop := ∃ q mc, w.cell? ⟨fb, 1, none⟩ = some (.slice q sn.length mc) ∧ Cd.Lies w q (sn.map Cd.iv)
theorem SeenF.below {w w' : World} {fb : Nat} {sn : List Int} (h : SeenF w fb sn) (hb : Below w.heap.size w w') : SeenF w' fb sn := by
  obtain ⟨q, mc, h1, h2⟩ := h
  exact ⟨q, mc, cell_keptH h1 hb, Cd.below_lies hb h2⟩
theorem SeenF.call {w : World} {fb : Nat} {sn : List Int} (h : SeenF w fb sn) (x : VG) : Calls Try.prog 53 #[.pointer (some ⟨fb, 0, none⟩), vgv x] w fun e w' => e = .returned (.bool (seenB x.sq x.n sn)) ∧ Below w.heap.size w w' := by
  obtain ⟨q, mc, h1, h2⟩ := h
  exact behindOne_any x fb q sn mc w h1 h2
theorem RowV.caps {w : World} {base : Nat} {v : Value} {l : List VG} (h : RowV w base v l) : ∃ p c, v = .slice p l.length c ∧ ∀ (i : Nat) (x : VG), l[i]? = some x → ∃ g, p = some ⟨g, 0, none⟩ ∧ w.cell? ⟨g, i * 5, none⟩ = some (.int .i64 x.t) ∧ w.cell? ⟨g, i * 5 + 1, none⟩ = some (.int .i64 x.n) ∧ w.cell? ⟨g, i * 5 + 2, none⟩ = some (.int .i64 x.sq) ∧ w.cell? ⟨g, i * 5 + 3, none⟩ = some (.slice x.sp x.ns.length x.sc) ∧ w.cell? ⟨g, i * 5 + 4, none⟩ = some (.slice x.dp x.bs.length x.dc) := by
  rcases h.2 with ⟨rfl, h0⟩ | ⟨g, cap, cur, rfl, hb, hg, hn, hm, hs, ht⟩
  · exact ⟨none, 0, by rw [h0], fun i x hx => by have := List.eq_nil_of_length_eq_zero h0; subst this; simp at hx⟩
  · exact ⟨_, cap, rfl, fun i x hx => ⟨g, rfl, RowV.cells h hx⟩⟩

set_option maxRecDepth 8000 in
set_option maxHeartbeats 1000000 in
theorem idx_none (fb : Nat) (sn : List Int) (base : Nat) (v : Value) (L : List VG) (w : World) (hr : RowV w base v L) (hl : L.length ≤ 1000) (hf : SeenF w fb sn) (hp : ∀ x ∈ L, seenB x.sq x.n sn = false) :
    Calls Try.prog 71 #[v, bhv fb] w fun e w' => e = .returned (.int .i64 (-1)) ∧ Below w.heap.size w w' := by
  obtain ⟨p, c, rfl, _⟩ := hr.caps
  have HR : Hid (RowV w base (.slice p L.length c) L) := hr
  have HF : Hid (SeenF w fb sn) := hf
  have HP : Hid (∀ x ∈ L, seenB x.sq x.n sn = false) := hp
  clear hr hf hp
  go_enter Try.func71, Try.ntmps71
  go_wp2
  go_loopw [8] (fun ii wr => ∃ i : Nat, ii = .int .i64 i ∧ i ≤ L.length ∧ Hid (Below w.heap.size w wr)) (fun ii _ => L.length - (intOf ii).toNat)
  case atStart => exact ⟨0, rfl, by omega, Below.refl _ _⟩
  case round =>
    obtain ⟨i, rfl, hi, HB⟩ := hrel
    by_cases hlt : i < L.length
    · have hltI : (i : Int) < L.length := by omega
      obtain ⟨x, hx⟩ : ∃ x, L[i]? = some x := ⟨_, List.getElem?_eq_getElem hlt⟩
      obtain ⟨p', c', e', hc⟩ := (HR.out.below HB.out).caps
      cases e'
      obtain ⟨g, rfl, d0, d1, d2, d3, d4⟩ := hc i x hx
      have HC : Hid (∀ W, Below wr.heap.size wr W → Calls Try.prog 53 #[.pointer (some ⟨fb, 0, none⟩), vgv x] W fun e w' => e = .returned (.bool false) ∧ Below W.heap.size W w') := fun W hW => by
        have := ((HF.out.below HB.out).below hW).call x
        rwa [HP.out x (List.mem_of_getElem? hx)] at this
      clear hc hx
      obtain ⟨t, n, sq, ns, sp, sc, bs, dp, dc⟩ := x
      simp only [vgv, vgC] at *
      generalize ns.length = nl at *
      generalize bs.length = bl at *
      go_wp2_with (go_at_call 53; refine Calls_new (HC.out _ (Below.refl _ _)) ?_; intro w2 HB2)
      go_roundw
      case rel => exact ⟨i + 1, by go_num, by omega, below_thenH HB.out HB2.out⟩
      case measure => simp [intOf]; omega
    · obtain rfl : i = L.length := by omega
      go_wp2
      go_ret
      exact ⟨rfl, HB.out⟩

set_option maxRecDepth 8000 in
set_option maxHeartbeats 1000000 in
theorem idx_at (fb : Nat) (sn : List Int) (base : Nat) (v : Value) (L : List VG) (k : Nat) (w : World) (hr : RowV w base v L) (hl : L.length ≤ 1000) (hf : SeenF w fb sn) (hk : k < L.length) (hp : ∀ j x, j < k → L[j]? = some x → seenB x.sq x.n sn = false) (hpk : ∀ x, L[k]? = some x → seenB x.sq x.n sn = true) :
    Calls Try.prog 71 #[v, bhv fb] w fun e w' => e = .returned (.int .i64 k) ∧ Below w.heap.size w w' := by
  obtain ⟨p, c, rfl, _⟩ := hr.caps
  have HR : Hid (RowV w base (.slice p L.length c) L) := hr
  have HF : Hid (SeenF w fb sn) := hf
  have HP : Hid ((∀ j x, j < k → L[j]? = some x → seenB x.sq x.n sn = false) ∧ ∀ x, L[k]? = some x → seenB x.sq x.n sn = true) := ⟨hp, hpk⟩
  clear hr hf hp hpk
  go_enter Try.func71, Try.ntmps71
  go_wp2
  go_loopw [8] (fun ii wr => ∃ i : Nat, ii = .int .i64 i ∧ i ≤ k ∧ Hid (Below w.heap.size w wr)) (fun ii _ => L.length - (intOf ii).toNat)
  case atStart => exact ⟨0, rfl, by omega, Below.refl _ _⟩
  case round =>
    obtain ⟨i, rfl, hi, HB⟩ := hrel
    have hlt : i < L.length := by omega
    have hltI : (i : Int) < L.length := by omega
    obtain ⟨x, hx⟩ : ∃ x, L[i]? = some x := ⟨_, List.getElem?_eq_getElem hlt⟩
    obtain ⟨p', c', e', hc⟩ := (HR.out.below HB.out).caps
    cases e'
    obtain ⟨g, rfl, d0, d1, d2, d3, d4⟩ := hc i x hx
    have hcall : ∀ W, Below wr.heap.size wr W → Calls Try.prog 53 #[.pointer (some ⟨fb, 0, none⟩), vgv x] W fun e w' => e = .returned (.bool (seenB x.sq x.n sn)) ∧ Below W.heap.size W w' := fun W hW => ((HF.out.below HB.out).below hW).call x
    by_cases hik : i = k
    · rw [HP.out.2 x (by rw [← hik]; exact hx)] at hcall
      have HC := (show Hid _ from hcall)
      clear hc hx hcall
      have HK : Hid (i = k) := hik
      clear hik
      obtain ⟨t, n, sq, ns, sp, sc, bs, dp, dc⟩ := x
      simp only [vgv, vgC] at *
      generalize ns.length = nl at *
      generalize bs.length = bl at *
      go_wp2_with (go_at_call 53; refine Calls_new (HC.out _ (Below.refl _ _)) ?_; intro w2 HB2)
      go_ret
      rw [HK.out]
      exact ⟨rfl, below_thenH HB.out HB2.out⟩
    · rw [HP.out.1 i x (by omega) hx] at hcall
      have HC := (show Hid _ from hcall)
      clear hc hx hcall
      obtain ⟨t, n, sq, ns, sp, sc, bs, dp, dc⟩ := x
      simp only [vgv, vgC] at *
      generalize ns.length = nl at *
      generalize bs.length = bl at *
      go_wp2_with (go_at_call 53; refine Calls_new (HC.out _ (Below.refl _ _)) ?_; intro w2 HB2)
      go_roundw
      case rel => exact ⟨i + 1, by go_num, by omega, below_thenH HB.out HB2.out⟩
      case measure => simp [intOf]; omega

end Go.Proofs.Yteimjkicinjcgaa.Ck.Y.L
