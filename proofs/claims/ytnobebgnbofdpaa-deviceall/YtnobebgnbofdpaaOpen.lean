/-
  The operations that came in, read cell by cell.
-/
import Derived.Test.YtnobebgnbofdpaaRows
import Derived.Test.YtnobebgnbofdpaaAlln
import Derived.ProofKit
import Derived.OpenShut
import Derived.ChangeOld
import Derived.Deep.Slices
import Derived.Deep.Grids
namespace Go.Proofs.Ytnobebgnbofdpaa
open Go.ChangeShapes Go.WideShapes Go.ChangeAt Go.RowKit Go.Deep

theorem Try.cells31 : Try.prog.cellsOf 31 = 5 := by kernel_rfl
theorem Try.cells3 : Try.prog.cellsOf 3 = 1 := by kernel_rfl
theorem Try.cells28 : Try.prog.cellsOf 28 = 1 := by kernel_rfl
theorem Try.cells29 : Try.prog.cellsOf 29 = 1 := by kernel_rfl

theorem list5 {α : Type} {l : List α} (h : l.length = 5) : ∃ a b c d e, l = [a, b, c, d, e] := by
  match l, h with
  | [a, b, c, d, e], _ => exact ⟨a, b, c, d, e, rfl⟩

theorem Try.cells5 : Try.prog.cellsOf 5 = 1 := by kernel_rfl
theorem Try.cells4 : Try.prog.cellsOf 4 = 1 := by kernel_rfl

theorem bytes_at {H : Type} {enc : TypeId × Value → H} {W : World} {fuel : Nat} {v : Value} {y : DataW H × List MemPlace} (h : DataW.trod enc Try.prog W 0 (fun _ => true) true fuel 28 [v] = some y) :
    ∃ (bp : Option Addr) (bc : Nat) (bs : List Int), v = .slice bp bs.length bc ∧ bs.length < 9223372036854775808 ∧ (0 < bs.length → ∃ bb bo, bp = some ⟨bb, bo, none⟩ ∧ ∀ j x, bs[j]? = some x → W.cell? ⟨bb, bo + j, none⟩ = some (.int .u8 x)) := by
  rcases open_ints Try.underlying28 Try.underlying5 Try.cells5 h with ⟨hcs, _⟩ | ⟨⟨b, off, spot⟩, len, cap, zs, hcs, _, hl, hm, hz, _, hcell, _⟩
  · simp at hcs
    exact ⟨none, 0, [], hcs, by decide, fun h => absurd h (by decide)⟩
  · simp at hcs
    have hz' : zs.length = cap := by simpa using hz
    have hlen : (zs.take len).length = len := by simp; omega
    refine ⟨some ⟨b, off, spot⟩, cap, zs.take len, by rw [hlen]; exact hcs, by unfold maxLen at hm; omega, fun hp => ?_⟩
    have h0 := hcell 0 (by omega)
    have hspot : spot = none := by simpa [Addr.add] using World.cell?_spot h0
    subst hspot
    refine ⟨b, off, rfl, fun j x hj => ?_⟩
    have hjl : j < len := by
      have := (List.getElem?_eq_some_iff.1 hj).1
      omega
    rw [List.getElem?_take, if_pos hjl] at hj
    have hc := hcell j (by omega)
    rw [Addr.add_lit, List.getD, hj] at hc
    simpa using hc

theorem bools_at {H : Type} {enc : TypeId × Value → H} {W : World} {fuel : Nat} {v : Value} {y : DataW H × List MemPlace} (h : DataW.trod enc Try.prog W 0 (fun _ => true) true fuel 29 [v] = some y) :
    ∃ (kp : Option Addr) (kc : Nat) (ks : List Bool), v = .slice kp ks.length kc ∧ ks.length < 9223372036854775808 ∧ (0 < ks.length → ∃ kb ko, kp = some ⟨kb, ko, none⟩ ∧ ∀ j x, ks[j]? = some x → W.cell? ⟨kb, ko + j, none⟩ = some (.bool x)) := by
  rcases open_bools Try.underlying29 Try.underlying4 Try.cells4 h with ⟨hcs, _⟩ | ⟨⟨b, off, spot⟩, len, cap, B, hcs, _, hl, hm, _, hcell⟩
  · simp at hcs
    exact ⟨none, 0, [], hcs, by decide, fun h => absurd h (by decide)⟩
  · simp at hcs
    have hlen : ((List.range len).map B).length = len := by simp
    refine ⟨some ⟨b, off, spot⟩, cap, (List.range len).map B, by rw [hlen]; exact hcs, by unfold maxLen at hm; omega, fun hp => ?_⟩
    have h0 := hcell 0 (by omega)
    have hspot : spot = none := by simpa [Addr.add] using World.cell?_spot h0
    subst hspot
    refine ⟨b, off, rfl, fun j x hj => ?_⟩
    have hjl : j < len := by
      have := (List.getElem?_eq_some_iff.1 hj).1
      omega
    have hc := hcell j (by omega)
    rw [Addr.add_lit] at hc
    rw [hc]
    simp [hjl] at hj
    rw [hj]

/-- One operation, from its reading. -/
theorem op_at {H : Type} {enc : TypeId × Value → H} {W : World} {fuel ob oo k : Nat} {cs : List Value} {x : DataW H × List MemPlace}
    (hc : W.cells? 0 ⟨ob, oo + k * 5, none⟩ 5 = some cs) (h : DataW.trod enc Try.prog W 0 (fun _ => true) true fuel 31 cs = some x) : OpAt W ob oo k := by
  obtain ⟨xs, n, _, _, hl, hlen, hf⟩ := DataW.trod_struct Try.underlying31 h
  rw [Try.cells31] at hl
  obtain ⟨v0, v1, v2, v3, v4, rfl⟩ := list5 hl
  obtain ⟨y0, y1, y2, y3, y4, rfl⟩ := list5 (show xs.length = 5 from hlen)
  have f0 := hf 0 _ rfl
  have f1 := hf 1 _ rfl
  have f2 := hf 2 _ rfl
  have f3 := hf 3 _ rfl
  have f4 := hf 4 _ rfl
  simp [Try.cells3, Try.cells28, Try.cells29] at f0 f1 f2 f3 f4
  obtain ⟨kind, e0, _, w0⟩ := DataW.trod_int Try.underlying3 f0
  obtain ⟨ii, e1, _, w1⟩ := DataW.trod_int Try.underlying3 f1
  obtain ⟨nn, e2, _, w2⟩ := DataW.trod_int Try.underlying3 f2
  simp at e0 e1 e2
  subst e0 e1 e2
  obtain ⟨_, _, hcell⟩ := World.cells?_some hc
  have c0 := hcell 0 (by omega)
  have c1 := hcell 1 (by omega)
  have c2 := hcell 2 (by omega)
  have c3 := hcell 3 (by omega)
  have c4 := hcell 4 (by omega)
  simp only [Addr.add_lit, Nat.add_zero] at c0 c1 c2 c3 c4
  obtain ⟨bp, bc, bs, rfl, hbl, hbs⟩ := bytes_at f3
  obtain ⟨kp, kc, ks, rfl, hkl, hks⟩ := bools_at f4
  have hb : nn ≤ 9223372036854775807 := by
    have hw : -9223372036854775808 ≤ nn ∧ nn ≤ 9223372036854775807 := by simpa [Lit.wf, IntKind.min, IntKind.max, IntKind.signed, IntKind.bits] using w2
    exact hw.2
  exact ⟨kind, ii, nn, bp, bc, bs, kp, kc, ks, c0, c1, c2, c3, c4, hb, hbl, hbs, hkl, hks⟩

/-- All operations. -/
theorem ops_at {H : Type} {enc : TypeId × Value → H} {W : World} {fuel : Nat} {a : Option Addr} {len cap : Nat} {y : DataW H × List MemPlace} (h : DataW.trod enc Try.prog W 0 (fun _ => true) true fuel 22 [.slice a len cap] = some y) :
    0 < len → ∃ ob oo, a = some ⟨ob, oo, none⟩ ∧ ∀ k, k < len → OpAt W ob oo k := by
  intro hp
  rcases open_slice Try.underlying22 h with ⟨hcs, _⟩ | ⟨⟨b, off, spot⟩, len', cap', m, n, D, Pl, hcs, _, hl, _, hm, _, hel⟩
  · simp at hcs
    omega
  · simp at hcs
    obtain ⟨rfl, rfl, rfl⟩ := hcs
    simp only [if_true] at hm
    subst hm
    rw [Try.cells31] at hel
    have hspot : spot = none := by
      obtain ⟨cs, hc, _⟩ := hel 0 (by omega)
      obtain ⟨_, _, hcell⟩ := World.cells?_some hc
      have h0 := hcell 0 (by omega)
      have hl5 := (World.cells?_some hc).2.1
      rw [List.getElem?_eq_getElem (by omega)] at h0
      simpa [Addr.add] using World.cell?_spot h0
    subst hspot
    refine ⟨b, off, rfl, fun k hk => ?_⟩
    obtain ⟨cs, hc, ht⟩ := hel k (by omega)
    rw [Addr.add_lit] at hc
    exact op_at hc ht

end Go.Proofs.Ytnobebgnbofdpaa
