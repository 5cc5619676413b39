/-
  IDs and texts that came in, one by one.
-/
import Derived.Test.YtjajbhpcjickbaaDoorKAm

namespace Go.Proofs.YtjajbhpcjickbaaDoor
open Go.ChangeShapes Go.WideShapes Go.ChangeAt Go.RowKit Go.Deep

theorem weightsAll_memc {H : Type} {P : Program} {e : TypeId} : ∀ {l : List (DataW H)} {d : DataW H}, d ∈ l → ∀ n ∈ d.weights P e, n ∈ DataW.weightsAll P e l
  | x :: l, d, hd, n, hn => by
    simp only [DataW.weightsAll, List.mem_append]
    rcases List.mem_cons.1 hd with rfl | h
    · exact Or.inl hn
    · exact Or.inr (weightsAll_memc h n hn)

/-- A slice that came in, element by element. -/
theorem elems_at {H : Type} {enc : TypeId × Value → H} {W : World} {fuel : Nat} {a : Option Addr} {len cap : Nat} {y : DataW H × List MemPlace} {t e : TypeId} {S : Nat} (hu : Tryd.prog.underlying t = some (.slice e)) (hS : Tryd.prog.cellsOf e = S) (h0 : 0 < S)
    {α : Type} (dflt : α) (R : Nat → Nat → α → Prop) (h : DataW.trod enc Tryd.prog W 0 (fun _ => true) true fuel t [.slice a len cap] = some y) (hwt : ∀ n ∈ y.1.weights Tryd.prog t, n ≤ reachBytes)
    (hel : ∀ (b o : Nat) (cs : List Value) (n : Nat) (x : DataW H × List MemPlace), W.cells? 0 ⟨b, o, none⟩ S = some cs → DataW.trod enc Tryd.prog W 0 (fun _ => true) true n e cs = some x → (∀ m ∈ x.1.weights Tryd.prog e, m ≤ reachBytes) → ∃ i, R b o i) :
    ∃ l : List α, l.length = len ∧ len < 9223372036854775808 ∧ len * Tryd.prog.bytesOf e ≤ reachBytes ∧ (0 < len → ∃ g o, a = some ⟨g, o, none⟩ ∧ ∀ (j : Nat) (x : α), l[j]? = some x → R g (o + j * S) x) := by
  rcases open_slice hu h with ⟨hcs, _⟩ | ⟨⟨b, off, spot⟩, len', cap', m, n, D, Pl, hcs, _, hl, hmax, hm, hx, hel'⟩
  · simp at hcs
    obtain ⟨rfl, rfl, rfl⟩ := hcs
    exact ⟨[], rfl, by decide, by simp, fun h => absurd h (by simp)⟩
  · simp at hcs
    obtain ⟨rfl, rfl, rfl⟩ := hcs
    simp only [if_true] at hm
    subst hm
    rw [hS] at hel'
    rw [hx] at hwt
    simp only [DataW.weights, hu, List.mem_cons, List.mem_append] at hwt
    have hw0 := hwt _ (.inl rfl)
    have hwD : ∀ k, k < len → ∀ i ∈ (D k).weights Tryd.prog e, i ≤ reachBytes := fun k hk i hi => hwt i (.inr (.inl (weightsAll_memc (List.mem_map.2 ⟨k, List.mem_range.2 hk, rfl⟩) i hi)))
    have hw1 : len * Tryd.prog.bytesOf e ≤ reachBytes := Nat.le_trans (Nat.mul_le_mul_right _ (by simp)) hw0
    have hlt63 : len < 9223372036854775808 := by unfold maxLen at hmax; omega
    by_cases hp : 0 < len
    · have hspot : spot = none := by
        obtain ⟨cs, hc, _⟩ := hel' 0 (by omega)
        obtain ⟨_, _, hcell⟩ := World.cells?_some hc
        have h0' := hcell 0 (by omega)
        have hl6 := (World.cells?_some hc).2.1
        rw [List.getElem?_eq_getElem (by omega)] at h0'
        simpa [Addr.add] using World.cell?_spot h0'
      subst hspot
      have hex : ∀ k, ∃ i : α, k < len → R b (off + k * S) i := by
        intro k
        by_cases hk : k < len
        · obtain ⟨cs, hc, ht⟩ := hel' k (by omega)
          rw [Addr.add_lit] at hc
          obtain ⟨i, h2⟩ := hel b (off + k * S) cs n _ hc ht (hwD k hk)
          exact ⟨i, fun _ => h2⟩
        · exact ⟨dflt, fun h => absurd h hk⟩
      obtain ⟨f, hf⟩ : ∃ f : Nat → α, ∀ k, k < len → R b (off + k * S) (f k) := ⟨fun k => (hex k).choose, fun k => (hex k).choose_spec⟩
      have hlen : ((List.range len).map f).length = len := by simp
      refine ⟨(List.range len).map f, hlen, hlt63, hw1, fun _ => ⟨b, off, rfl, fun j x hj => ?_⟩⟩
      have hlt := (List.getElem?_eq_some_iff.1 hj).1
      rw [hlen] at hlt
      rw [List.getElem?_map, List.getElem?_range hlt] at hj
      cases hj
      exact hf j hlt
    · have h0' : len = 0 := by omega
      subst h0'
      exact ⟨[], rfl, by decide, by simp, fun h => absurd h (by simp)⟩

theorem ids_at {H : Type} {enc : TypeId × Value → H} {W : World} {fuel : Nat} {a : Option Addr} {len cap : Nat} {y : DataW H × List MemPlace} (h : DataW.trod enc Tryd.prog W 0 (fun _ => true) true fuel 22 [.slice a len cap] = some y) (hwt : ∀ n ∈ y.1.weights Tryd.prog 22, n ≤ reachBytes) :
    ∃ ids : List (Int × Int), ids.length = len ∧ Ck.Sh.Ids W a ids ∧ ∀ x ∈ ids, Ck.Sh.InI x.1 ∧ Ck.Sh.InI x.2 := by
  obtain ⟨l, hl, _, hb, hr⟩ := elems_at (S := 2) Tryd.underlying22 cellsIDc (by decide) ((0, 0) : Int × Int) (fun g o x => (W.cell? ⟨g, o, none⟩ = some (.int .i64 x.1) ∧ W.cell? ⟨g, o + 1, none⟩ = some (.int .i64 x.2)) ∧ Ck.Sh.InI x.1 ∧ Ck.Sh.InI x.2) h hwt
    (fun b o cs n x hc ht _ => by
      obtain ⟨t, u, rfl, w1, w2⟩ := id_cells ht
      obtain ⟨_, _, hcell⟩ := World.cells?_some hc
      have c0 := hcell 0 (by omega)
      have c1 := hcell 1 (by omega)
      simp only [Addr.add_lit, Nat.add_zero] at c0 c1
      exact ⟨(t, u), ⟨c0, c1⟩, w1, w2⟩)
  refine ⟨l, hl, fun j x hj => ?_, fun x hx => ?_⟩
  · obtain ⟨g, o, e, hx⟩ := hr (by have := (List.getElem?_eq_some_iff.1 hj).1; omega)
    have := (hx j x hj).1
    exact ⟨g, o, e, this.1, this.2⟩
  · obtain ⟨j, hj⟩ := List.getElem?_of_mem hx
    obtain ⟨g, o, e, hx⟩ := hr (by have := (List.getElem?_eq_some_iff.1 hj).1; omega)
    exact (hx j x hj).2
theorem nms_at {H : Type} {enc : TypeId × Value → H} {W : World} {fuel : Nat} {a : Option Addr} {len cap : Nat} {y : DataW H × List MemPlace} (h : DataW.trod enc Tryd.prog W 0 (fun _ => true) true fuel 23 [.slice a len cap] = some y) (hwt : ∀ n ∈ y.1.weights Tryd.prog 23, n ≤ reachBytes) :
    ∃ names : List (List UInt8), names.length = len ∧ Ck.Sh.Nms W a names ∧ ∀ x ∈ names, x.length ≤ 150000000000000 := by
  obtain ⟨l, hl, _, hb, hr⟩ := elems_at (S := 1) Tryd.underlying23 cells9e (by decide) ([] : List UInt8) (fun g o s => W.cell? ⟨g, o, none⟩ = some (.string (Ck.Sh.bas s)) ∧ s.length ≤ 150000000000000) h hwt
    (fun b o cs n x hc ht hw => by
      obtain ⟨s, rfl, rfl, _⟩ := DataW.trod_string Tryd.underlying9 ht
      obtain ⟨_, _, hcell⟩ := World.cells?_some hc
      have c0 := hcell 0 (by omega)
      simp only [Addr.add_lit, Nat.add_zero] at c0
      refine ⟨s.data.toList, ?_, ?_⟩
      · rw [Ck.Sh.bas_of]; exact c0
      · have := hw s.data.toList.length (by rw [DataW.weights]; exact List.mem_singleton.2 rfl)
        unfold reachBytes at this
        omega)
  refine ⟨l, hl, fun j s hj => ?_, fun s hs => ?_⟩
  · obtain ⟨g, o, e, hx⟩ := hr (by have := (List.getElem?_eq_some_iff.1 hj).1; omega)
    have := (hx j s hj).1
    rw [Nat.mul_one] at this
    exact ⟨g, o, e, this⟩
  · obtain ⟨j, hj⟩ := List.getElem?_of_mem hs
    obtain ⟨g, o, e, hx⟩ := hr (by have := (List.getElem?_eq_some_iff.1 hj).1; omega)
    exact (hx j s hj).2
/-- A slice that came in is no longer than its room. -/
theorem cap_at {H : Type} {enc : TypeId × Value → H} {W : World} {fuel : Nat} {a : Option Addr} {len cap : Nat} {y : DataW H × List MemPlace} {t e : TypeId} (hu : Tryd.prog.underlying t = some (.slice e)) (h : DataW.trod enc Tryd.prog W 0 (fun _ => true) true fuel t [.slice a len cap] = some y) : len ≤ cap := by
  rcases open_slice hu h with ⟨hcs, _⟩ | ⟨⟨b, off, spot⟩, len', cap', m, n, D, Pl, hcs, _, hl, _⟩
  · simp at hcs
    omega
  · simp at hcs
    obtain ⟨rfl, rfl, rfl⟩ := hcs
    exact hl

end Go.Proofs.YtjajbhpcjickbaaDoor
