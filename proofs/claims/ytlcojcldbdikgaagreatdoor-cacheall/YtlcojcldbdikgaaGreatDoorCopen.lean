/-
  The bytes that came in, read cell by cell.
-/
import Derived.Test.YtlcojcldbdikgaaGreatDoorCtable
import Derived.Test.YtlcojcldbdikgaaGreatDoorCsum
import Derived.ChangeOld
import Derived.Deep.Slices
import Derived.Deep.Matrix
namespace Go.Proofs.YtlcojcldbdikgaaGreatDoor
open Go.ChangeShapes Go.WideShapes Go.ChangeAt Go.RowKit Go.Deep

theorem Tryz.cells5 : Tryz.prog.cellsOf 5 = 1 := by kernel_rfl
theorem Tryz.cells26 : Tryz.prog.cellsOf 33 = 1 := by kernel_rfl

/-- A byte of the model's as eight bits. -/
def byteOf (z : Int) : BitVec 8 := BitVec.ofNat 8 z.toNat
theorem byteOf_val {z : Int} (h : (Lit.int .u8 z).wf = true) : u8v (byteOf z) = .int .u8 z := by
  simp [Lit.wf] at h
  have h1 : (0 : Int) ≤ z := h.1
  have h2 : z ≤ 255 := h.2
  unfold u8v byteOf
  rw [BitVec.toNat_ofNat, Nat.mod_eq_of_lt (by omega)]
  congr 1
  omega

/-- Cells that hold bytes. -/
theorem bytes_of_cells {W : World} {a : Option Addr} {len cap : Nat} {zs : List Int} (hl : len ≤ cap) (hz : zs.length = cap) (hw : ∀ n ∈ zs, (Lit.int .u8 n).wf = true)
    (hn : a = none → cap = 0) (hc : ∀ a', a = some a' → ∀ i, i < cap → W.cell? (a'.add i) = some (.int .u8 (zs.getD i 0))) : Bytes W a ((zs.take len).map byteOf) ∧ ((zs.take len).map byteOf).length = len := by
  have hlen : ((zs.take len).map byteOf).length = len := by simp; omega
  refine ⟨fun hp => ?_, hlen⟩
  rw [hlen] at hp
  rcases a with _ | ⟨b, off, spot⟩
  · have := hn rfl; omega
  have h0 := hc _ rfl 0 (by omega)
  have hspot : spot = none := by simpa [Addr.add] using World.cell?_spot h0
  subst hspot
  refine ⟨b, off, rfl, fun j x hj => ?_⟩
  rw [List.getElem?_map, List.getElem?_take] at hj
  split at hj
  · rename_i hjl
    have hjz : j < zs.length := by omega
    rw [List.getElem?_eq_getElem hjz] at hj
    simp only [Option.map_some, Option.some.injEq] at hj
    have hcell := hc _ rfl j (by omega)
    rw [Addr.add_lit, List.getD, List.getElem?_eq_getElem hjz, Option.getD_some] at hcell
    rw [hcell, ← hj, byteOf_val (hw _ (List.getElem_mem hjz))]
  · simp at hj

theorem bytes_at {H : Type} {enc : TypeId × Value → H} {W : World} {v : Value} {y : DataW H} {ps : List MemPlace} (h : DataW.Trod enc Tryz.prog W 0 (fun _ => true) true 33 v y ps) :
    v.cells.toList = [v] → ∃ (p : Option Addr) (c : Nat) (bs : List (BitVec 8)), v = .slice p bs.length c ∧ bs.length ≤ c ∧ c < 9223372036854775808 ∧ Bytes W p bs := by
  intro hv
  obtain ⟨fuel, hf⟩ := h
  rcases open_ints Tryz.underlying33 Tryz.underlying5 Tryz.cells5 hf with ⟨hcs, _⟩ | ⟨a, len, cap, zs, hcs, _, hl, hm, hz, _, hcell, hw⟩
  · rw [hv] at hcs
    simp at hcs
    exact ⟨none, 0, [], hcs, Nat.le_refl _, by decide, fun h => absurd h (by decide)⟩
  · rw [hv] at hcs
    simp at hcs
    have hz' : zs.length = cap := by simpa using hz
    obtain ⟨hb, hlen⟩ := bytes_of_cells (W := W) (a := some a) hl hz' hw (fun h => by cases h) (fun a' e i hi => by cases e; exact hcell i (by omega))
    exact ⟨some a, cap, _, by rw [hlen]; exact hcs, by rw [hlen]; exact hl, by unfold maxLen at hm; omega, hb⟩

theorem i64_wf {z : Int} (h : (Lit.int .i64 z).wf = true) : -9223372036854775808 ≤ z ∧ z < 9223372036854775808 := by
  simp [Lit.wf] at h
  have h1 : (-9223372036854775808 : Int) ≤ z := h.1
  have h2 : z ≤ 9223372036854775807 := h.2
  omega

end Go.Proofs.YtlcojcldbdikgaaGreatDoor
