/-
  Slices that came in, element by element.
-/
import Derived.Test.YtlcojcldbdikgaaGreatDoorCopen
import Derived.Deep.Grids
import Derived.SizedLaws
namespace Go.Proofs.YtlcojcldbdikgaaGreatDoor
open Go.ChangeShapes Go.WideShapes Go.ChangeAt Go.RowKit Go.Deep

theorem Tryz.cells3c : Tryz.prog.cellsOf 3 = 1 := by kernel_rfl
theorem Tryz.cells9c : Tryz.prog.cellsOf 9 = 1 := by kernel_rfl

theorem list2c {α : Type} {l : List α} (h : l.length = 2) : ∃ a b, l = [a, b] := by
  match l, h with
  | [a, b], _ => exact ⟨a, b, rfl⟩
theorem list3c {α : Type} {l : List α} (h : l.length = 3) : ∃ a b c, l = [a, b, c] := by
  match l, h with
  | [a, b, c], _ => exact ⟨a, b, c, rfl⟩

/-- Bytes that came in, and how many there may be. -/
theorem bytes_at_sized {H : Type} {enc : TypeId × Value → H} {W : World} {v : Value} {y : DataW H} {ps : List MemPlace} (h : DataW.Trod enc Tryz.prog W 0 (fun _ => true) true 33 v y ps) :
    v.cells.toList = [v] → ∃ (p : Option Addr) (c : Nat) (bs : List (BitVec 8)), v = .slice p bs.length c ∧ bs.length ≤ c ∧ Bytes W p bs ∧ (y = .nil ∧ bs.length = 0 ∨ ∃ elems spare, y = .slice elems spare ∧ bs.length = elems.length) := by
  intro hv
  obtain ⟨fuel, hf⟩ := h
  rcases open_ints Tryz.underlying33 Tryz.underlying5 Tryz.cells5 hf with ⟨hcs, hx⟩ | ⟨a, len, cap, zs, hcs, _, hl, hm, hz, hx, hcell, hw⟩
  · rw [hv] at hcs
    simp at hcs
    exact ⟨none, 0, [], hcs, Nat.le_refl _, fun h => absurd h (by decide), .inl ⟨(Prod.mk.inj hx).1, rfl⟩⟩
  · rw [hv] at hcs
    simp at hcs
    have hz' : zs.length = cap := by simpa using hz
    obtain ⟨hb, hlen⟩ := bytes_of_cells (W := W) (a := some a) hl hz' hw (fun h => by cases h) (fun a' e i hi => by cases e; exact hcell i (by omega))
    refine ⟨some a, cap, _, by rw [hlen]; exact hcs, by rw [hlen]; exact hl, hb, .inr ⟨_, _, (Prod.mk.inj hx).1, ?_⟩⟩
    rw [hlen]
    simp [lits]
    omega

theorem weightsAll_memc {H : Type} {P : Program} {e : TypeId} : ∀ {l : List (DataW H)} {d : DataW H}, d ∈ l → ∀ n ∈ d.weights P e, n ∈ DataW.weightsAll P e l
  | x :: l, d, hd, n, hn => by
    simp only [DataW.weightsAll, List.mem_append]
    rcases List.mem_cons.1 hd with rfl | h
    · exact Or.inl hn
    · exact Or.inr (weightsAll_memc h n hn)

/-- A slice that came in, element by element. -/
theorem elems_at {H : Type} {enc : TypeId × Value → H} {W : World} {fuel : Nat} {a : Option Addr} {len cap : Nat} {y : DataW H × List MemPlace} {t e : TypeId} {S : Nat} (hu : Tryz.prog.underlying t = some (.slice e)) (hS : Tryz.prog.cellsOf e = S) (h0 : 0 < S)
    {α : Type} (dflt : α) (R : Nat → Nat → α → Prop) (h : DataW.trod enc Tryz.prog W 0 (fun _ => true) true fuel t [.slice a len cap] = some y) (hwt : ∀ n ∈ y.1.weights Tryz.prog t, n ≤ reachBytes)
    (hel : ∀ (b o : Nat) (cs : List Value) (n : Nat) (x : DataW H × List MemPlace), W.cells? 0 ⟨b, o, none⟩ S = some cs → DataW.trod enc Tryz.prog W 0 (fun _ => true) true n e cs = some x → (∀ m ∈ x.1.weights Tryz.prog e, m ≤ reachBytes) → ∃ i, R b o i) :
    ∃ l : List α, l.length = len ∧ len < 9223372036854775808 ∧ len * Tryz.prog.bytesOf e ≤ reachBytes ∧ (0 < len → ∃ g o, a = some ⟨g, o, none⟩ ∧ ∀ (j : Nat) (x : α), l[j]? = some x → R g (o + j * S) x) := by
  rcases open_slice hu h with ⟨hcs, _⟩ | ⟨⟨b, off, spot⟩, len', cap', m, n, D, Pl, hcs, _, hl, hmax, hm, hx, hel'⟩
  · simp at hcs
    obtain ⟨rfl, rfl, rfl⟩ := hcs
    exact ⟨[], rfl, by decide, by simp, fun h => absurd h (by simp)⟩
  · simp at hcs
    obtain ⟨rfl, rfl, rfl⟩ := hcs
    simp only [if_true] at hm
    subst hm
    rw [hS] at hel'
    rw [hx] at hwt
    simp only [DataW.weights, hu, List.mem_cons, List.mem_append] at hwt
    have hw0 := hwt _ (.inl rfl)
    have hwD : ∀ k, k < len → ∀ i ∈ (D k).weights Tryz.prog e, i ≤ reachBytes := fun k hk i hi => hwt i (.inr (.inl (weightsAll_memc (List.mem_map.2 ⟨k, List.mem_range.2 hk, rfl⟩) i hi)))
    have hw1 : len * Tryz.prog.bytesOf e ≤ reachBytes := Nat.le_trans (Nat.mul_le_mul_right _ (by simp)) hw0
    have hlt63 : len < 9223372036854775808 := by unfold maxLen at hmax; omega
    by_cases hp : 0 < len
    · have hspot : spot = none := by
        obtain ⟨cs, hc, _⟩ := hel' 0 (by omega)
        obtain ⟨_, _, hcell⟩ := World.cells?_some hc
        have h0' := hcell 0 (by omega)
        have hl6 := (World.cells?_some hc).2.1
        rw [List.getElem?_eq_getElem (by omega)] at h0'
        simpa [Addr.add] using World.cell?_spot h0'
      subst hspot
      have hex : ∀ k, ∃ i : α, k < len → R b (off + k * S) i := by
        intro k
        by_cases hk : k < len
        · obtain ⟨cs, hc, ht⟩ := hel' k (by omega)
          rw [Addr.add_lit] at hc
          obtain ⟨i, h2⟩ := hel b (off + k * S) cs n _ hc ht (hwD k hk)
          exact ⟨i, fun _ => h2⟩
        · exact ⟨dflt, fun h => absurd h hk⟩
      obtain ⟨f, hf⟩ : ∃ f : Nat → α, ∀ k, k < len → R b (off + k * S) (f k) := ⟨fun k => (hex k).choose, fun k => (hex k).choose_spec⟩
      have hlen : ((List.range len).map f).length = len := by simp
      refine ⟨(List.range len).map f, hlen, hlt63, hw1, fun _ => ⟨b, off, rfl, fun j x hj => ?_⟩⟩
      have hlt := (List.getElem?_eq_some_iff.1 hj).1
      rw [hlen] at hlt
      rw [List.getElem?_map, List.getElem?_range hlt] at hj
      cases hj
      exact hf j hlt
    · have h0' : len = 0 := by omega
      subst h0'
      exact ⟨[], rfl, by decide, by simp, fun h => absurd h (by simp)⟩

end Go.Proofs.YtlcojcldbdikgaaGreatDoor
