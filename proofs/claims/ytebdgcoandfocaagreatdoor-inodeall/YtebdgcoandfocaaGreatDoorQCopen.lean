/-
  Slices that came in, element by element.
-/
import Derived.Test.YtebdgcoandfocaaGreatDoorKCtable
import Derived.Test.YtebdgcoandfocaaGreatDoorKCsum
import Derived.ChangeOld
import Derived.Deep.Slices
import Derived.Deep.Matrix
import Derived.Deep.Grids
import Derived.SizedLaws

/-
  The bytes that came in, read cell by cell.
-/
namespace Go.Proofs.YtebdgcoandfocaaGreatDoor
open Go.ChangeShapes Go.WideShapes Go.ChangeAt Go.RowKit Go.Deep

theorem Tryz.cells5 : Tryz.prog.cellsOf 5 = 1 := by kernel_rfl
/-- A byte of the model's as eight bits. -/
def byteOf (z : Int) : BitVec 8 := BitVec.ofNat 8 z.toNat
theorem byteOf_val {z : Int} (h : (Lit.int .u8 z).wf = true) : u8v (byteOf z) = .int .u8 z := by
  simp [Lit.wf] at h
  have h1 : (0 : Int) ≤ z := h.1
  have h2 : z ≤ 255 := h.2
  unfold u8v byteOf
  rw [BitVec.toNat_ofNat, Nat.mod_eq_of_lt (by omega)]
  congr 1
  omega

/-- Cells that hold bytes. -/
theorem bytes_of_cells {W : World} {a : Option Addr} {len cap : Nat} {zs : List Int} (hl : len ≤ cap) (hz : zs.length = cap) (hw : ∀ n ∈ zs, (Lit.int .u8 n).wf = true)
    (hn : a = none → cap = 0) (hc : ∀ a', a = some a' → ∀ i, i < cap → W.cell? (a'.add i) = some (.int .u8 (zs.getD i 0))) : Bytes W a ((zs.take len).map byteOf) ∧ ((zs.take len).map byteOf).length = len := by
  have hlen : ((zs.take len).map byteOf).length = len := by simp; omega
  refine ⟨fun hp => ?_, hlen⟩
  rw [hlen] at hp
  rcases a with _ | ⟨b, off, spot⟩
  · have := hn rfl; omega
  have h0 := hc _ rfl 0 (by omega)
  have hspot : spot = none := by simpa [Addr.add] using World.cell?_spot h0
  subst hspot
  refine ⟨b, off, rfl, fun j x hj => ?_⟩
  rw [List.getElem?_map, List.getElem?_take] at hj
  split at hj
  · rename_i hjl
    have hjz : j < zs.length := by omega
    rw [List.getElem?_eq_getElem hjz] at hj
    simp only [Option.map_some, Option.some.injEq] at hj
    have hcell := hc _ rfl j (by omega)
    rw [Addr.add_lit, List.getD, List.getElem?_eq_getElem hjz, Option.getD_some] at hcell
    rw [hcell, ← hj, byteOf_val (hw _ (List.getElem_mem hjz))]
  · simp at hj

end Go.Proofs.YtebdgcoandfocaaGreatDoor

namespace Go.Proofs.YtebdgcoandfocaaGreatDoor
open Go.ChangeShapes Go.WideShapes Go.ChangeAt Go.RowKit Go.Deep

theorem weightsAll_memc {H : Type} {P : Program} {e : TypeId} : ∀ {l : List (DataW H)} {d : DataW H}, d ∈ l → ∀ n ∈ d.weights P e, n ∈ DataW.weightsAll P e l
  | x :: l, d, hd, n, hn => by
    simp only [DataW.weightsAll, List.mem_append]
    rcases List.mem_cons.1 hd with rfl | h
    · exact Or.inl hn
    · exact Or.inr (weightsAll_memc h n hn)

/-- A slice that came in, element by element. -/
theorem elems_at {H : Type} {enc : TypeId × Value → H} {W : World} {fuel : Nat} {a : Option Addr} {len cap : Nat} {y : DataW H × List MemPlace} {t e : TypeId} {S : Nat} (hu : Tryz.prog.underlying t = some (.slice e)) (hS : Tryz.prog.cellsOf e = S) (h0 : 0 < S)
    {α : Type} (dflt : α) (R : Nat → Nat → α → Prop) (h : DataW.trod enc Tryz.prog W 0 (fun _ => true) true fuel t [.slice a len cap] = some y) (hwt : ∀ n ∈ y.1.weights Tryz.prog t, n ≤ reachBytes)
    (hel : ∀ (b o : Nat) (cs : List Value) (n : Nat) (x : DataW H × List MemPlace), W.cells? 0 ⟨b, o, none⟩ S = some cs → DataW.trod enc Tryz.prog W 0 (fun _ => true) true n e cs = some x → (∀ m ∈ x.1.weights Tryz.prog e, m ≤ reachBytes) → ∃ i, R b o i) :
    ∃ l : List α, l.length = len ∧ len < 9223372036854775808 ∧ len * Tryz.prog.bytesOf e ≤ reachBytes ∧ (0 < len → ∃ g o, a = some ⟨g, o, none⟩ ∧ ∀ (j : Nat) (x : α), l[j]? = some x → R g (o + j * S) x) := by
  rcases open_slice hu h with ⟨hcs, _⟩ | ⟨⟨b, off, spot⟩, len', cap', m, n, D, Pl, hcs, _, hl, hmax, hm, hx, hel'⟩
  · simp at hcs
    obtain ⟨rfl, rfl, rfl⟩ := hcs
    exact ⟨[], rfl, by decide, by simp, fun h => absurd h (by simp)⟩
  · simp at hcs
    obtain ⟨rfl, rfl, rfl⟩ := hcs
    simp only [if_true] at hm
    subst hm
    rw [hS] at hel'
    rw [hx] at hwt
    simp only [DataW.weights, hu, List.mem_cons, List.mem_append] at hwt
    have hw0 := hwt _ (.inl rfl)
    have hwD : ∀ k, k < len → ∀ i ∈ (D k).weights Tryz.prog e, i ≤ reachBytes := fun k hk i hi => hwt i (.inr (.inl (weightsAll_memc (List.mem_map.2 ⟨k, List.mem_range.2 hk, rfl⟩) i hi)))
    have hw1 : len * Tryz.prog.bytesOf e ≤ reachBytes := Nat.le_trans (Nat.mul_le_mul_right _ (by simp)) hw0
    have hlt63 : len < 9223372036854775808 := by unfold maxLen at hmax; omega
    by_cases hp : 0 < len
    · have hspot : spot = none := by
        obtain ⟨cs, hc, _⟩ := hel' 0 (by omega)
        obtain ⟨_, _, hcell⟩ := World.cells?_some hc
        have h0' := hcell 0 (by omega)
        have hl6 := (World.cells?_some hc).2.1
        rw [List.getElem?_eq_getElem (by omega)] at h0'
        simpa [Addr.add] using World.cell?_spot h0'
      subst hspot
      have hex : ∀ k, ∃ i : α, k < len → R b (off + k * S) i := by
        intro k
        by_cases hk : k < len
        · obtain ⟨cs, hc, ht⟩ := hel' k (by omega)
          rw [Addr.add_lit] at hc
          obtain ⟨i, h2⟩ := hel b (off + k * S) cs n _ hc ht (hwD k hk)
          exact ⟨i, fun _ => h2⟩
        · exact ⟨dflt, fun h => absurd h hk⟩
      obtain ⟨f, hf⟩ : ∃ f : Nat → α, ∀ k, k < len → R b (off + k * S) (f k) := ⟨fun k => (hex k).choose, fun k => (hex k).choose_spec⟩
      have hlen : ((List.range len).map f).length = len := by simp
      refine ⟨(List.range len).map f, hlen, hlt63, hw1, fun _ => ⟨b, off, rfl, fun j x hj => ?_⟩⟩
      have hlt := (List.getElem?_eq_some_iff.1 hj).1
      rw [hlen] at hlt
      rw [List.getElem?_map, List.getElem?_range hlt] at hj
      cases hj
      exact hf j hlt
    · have h0' : len = 0 := by omega
      subst h0'
      exact ⟨[], rfl, by decide, by simp, fun h => absurd h (by simp)⟩

end Go.Proofs.YtebdgcoandfocaaGreatDoor
