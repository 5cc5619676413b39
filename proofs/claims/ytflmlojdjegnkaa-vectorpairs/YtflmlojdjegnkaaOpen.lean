/-
  The rows of numbers that came in, read cell by cell.
-/
import Derived.Test.YtflmlojdjegnkaaBase
import Derived.ProofKit
import Derived.OpenShut
import Derived.ChangeOld
import Derived.Deep.Slices
import Derived.Deep.Matrix
namespace Go.Proofs.Ytflmlojdjegnkaa
open Go.ChangeShapes Go.WideShapes Go.ChangeAt Go.RowKit Go.Deep

theorem Try.cells2 : Try.prog.cellsOf 2 = 1 := by kernel_rfl
theorem ownKnobs : ownKnob Try.prog.godebug = none := by kernel_rfl
theorem laidOut : laidOutB Try.prog = true := by kernel_rfl

/-- Cells that hold numbers of kind k. -/
theorem row_of_cells {W : World} {k : IntKind} {a : Addr} {len cap : Nat} {zs : List Int} (hl : len ≤ cap) (hz : zs.length = cap)
    (hc : ∀ i, i < cap → W.cell? (a.add i) = some (.int k (zs.getD i 0))) (hp : 0 < len) : ∃ b o, a = ⟨b, o, none⟩ ∧ ∀ (j : Nat) (x : Int), (zs.take len)[j]? = some x → W.cell? ⟨b, o + j, none⟩ = some (.int k x) := by
  obtain ⟨b, off, spot⟩ := a
  have h0 := hc 0 (by omega)
  have hspot : spot = none := by simpa [Addr.add] using World.cell?_spot h0
  subst hspot
  refine ⟨b, off, rfl, fun j x hj => ?_⟩
  rw [List.getElem?_take] at hj
  split at hj
  · have hcell := hc j (by omega)
    rw [Addr.add_lit, List.getD, hj, Option.getD_some] at hcell
    exact hcell
  · cases hj

/-- A slice of numbers, by its value. -/
theorem ints_in {H : Type} {enc : TypeId × Value → H} {W : World} {fuel : Nat} {a : Option Addr} {len cap : Nat} {r : DataW H × List MemPlace}
    (h : DataW.trod enc Try.prog W 0 (fun _ => true) true fuel 23 [.slice a len cap] = some r) :
    ∃ ns : List Int, ns.length = len ∧ len ≤ cap ∧ len ≤ maxLen ∧ Lies W a (ns.map iv) := by
  rcases open_ints Try.underlying23 Try.underlying2 Try.cells2 h with ⟨hcs, _⟩ | ⟨x, l, c, zs, hcs, _, hl, hm, hz, _, hcell, hw⟩
  · simp at hcs
    obtain ⟨rfl, rfl, rfl⟩ := hcs
    exact ⟨[], rfl, Nat.le_refl _, Nat.zero_le _, lies_nil _ _⟩
  · simp at hcs
    obtain ⟨rfl, rfl, rfl⟩ := hcs
    have hz' : zs.length = cap := by simpa using hz
    have hlen : (zs.take len).length = len := by simp; omega
    refine ⟨zs.take len, hlen, hl, by omega, fun hp => ?_⟩
    rw [List.length_map, hlen] at hp
    obtain ⟨b, o, rfl, hx⟩ := row_of_cells hl hz' (fun i hi => hcell i (by omega)) hp
    refine ⟨b, o, rfl, fun j y hj => ?_⟩
    rw [List.getElem?_map] at hj
    obtain ⟨z, hzj, rfl⟩ := Option.map_eq_some_iff.1 hj
    exact hx j z hzj

end Go.Proofs.Ytflmlojdjegnkaa
