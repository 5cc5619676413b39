/-
  Stamps and truths that came in, read cell by cell.
-/
import Derived.Test.YtgophojgofmkeaaZo
import Derived.ProofKit
import Derived.OpenShut
import Derived.ChangeOld
import Derived.Deep.Slices
import Derived.Deep.Grids
namespace Go.Proofs.Ytgophojgofmkeaa.Ck
open Go.ChangeShapes Go.WideShapes Go.ChangeAt Go.RowKit Go.Deep

theorem Try.cellsID : Try.prog.cellsOf 28 = 2 := by kernel_rfl
theorem Try.cellsIDs : Try.prog.cellsOf 26 = 1 := by kernel_rfl
theorem Try.cells2 : Try.prog.cellsOf 2 = 1 := by kernel_rfl
theorem Try.cells3 : Try.prog.cellsOf 3 = 1 := by kernel_rfl
theorem Try.cells4 : Try.prog.cellsOf 4 = 1 := by kernel_rfl
theorem list1 {α : Type} {l : List α} (h : l.length = 1) : ∃ a, l = [a] := by
  match l, h with
  | [a], _ => exact ⟨a, rfl⟩
theorem list2 {α : Type} {l : List α} (h : l.length = 2) : ∃ a b, l = [a, b] := by
  match l, h with
  | [a, b], _ => exact ⟨a, b, rfl⟩
theorem wf_range {n : Int} (h : (Lit.int .i64 n).wf = true) : -B63 ≤ n ∧ n < B63 := by
  have e1 : (IntKind.i64.min : Int) = -9223372036854775808 := by decide
  have e2 : (IntKind.i64.max : Int) = 9223372036854775807 := by decide
  have h : (decide (IntKind.i64.min ≤ n) && decide (n ≤ IntKind.i64.max)) = true := h
  rw [e1, e2, Bool.and_eq_true, decide_eq_true_eq, decide_eq_true_eq] at h
  unfold B63
  omega

/-- The cells of a stamp. -/
theorem id_cells {H : Type} {enc : TypeId × Value → H} {W : World} {fuel : Nat} {cs : List Value} {x : DataW H × List MemPlace} (h : DataW.trod enc Try.prog W 0 (fun _ => true) true fuel 28 cs = some x) :
    ∃ t n : Int, cs = [.int .i64 t, .int .i64 n] ∧ Rng t n := by
  obtain ⟨zs, n', _, _, hl, hlen, hf⟩ := DataW.trod_struct Try.underlying28 h
  rw [Try.cellsID] at hl
  obtain ⟨v0, v1, rfl⟩ := list2 hl
  obtain ⟨z0, z1, rfl⟩ := list2 (show zs.length = 2 from hlen)
  have g0 := hf 0 _ rfl
  have g1 := hf 1 _ rfl
  simp [Try.cells3, Try.cells2] at g0 g1
  obtain ⟨tt, e3, _, w1⟩ := DataW.trod_int Try.underlying2 g0
  obtain ⟨dd, e4, _, w2⟩ := DataW.trod_int Try.underlying3 g1
  simp at e3 e4
  subst e3 e4
  exact ⟨tt, dd, rfl, (wf_range w1).1, (wf_range w1).2, (wf_range w2).1, (wf_range w2).2⟩

/-- A slice that came in, element by element. -/
theorem elems_in {H : Type} {enc : TypeId × Value → H} {W : World} {fuel : Nat} {a : Option Addr} {len cap : Nat} {y : DataW H × List MemPlace} {t e : TypeId} {S : Nat} (hu : Try.prog.underlying t = some (.slice e)) (hS : Try.prog.cellsOf e = S) (h0 : 0 < S)
    {α : Type} (dflt : α) (R : Nat → Nat → α → Prop) (h : DataW.trod enc Try.prog W 0 (fun _ => true) true fuel t [.slice a len cap] = some y)
    (hel : ∀ (b o : Nat) (cs : List Value) (n : Nat) (x : DataW H × List MemPlace), W.cells? 0 ⟨b, o, none⟩ S = some cs → DataW.trod enc Try.prog W 0 (fun _ => true) true n e cs = some x → ∃ i, R b o i) :
    ∃ l : List α, l.length = len ∧ (0 < len → ∃ g o, a = some ⟨g, o, none⟩ ∧ ∀ (j : Nat) (x : α), l[j]? = some x → R g (o + j * S) x) := by
  rcases open_slice hu h with ⟨hcs, _⟩ | ⟨⟨b, off, spot⟩, len', cap', m, n, D, Pl, hcs, _, hl, hmax, hm, hx, hel'⟩
  · simp at hcs
    obtain ⟨rfl, rfl, rfl⟩ := hcs
    exact ⟨[], rfl, fun h => absurd h (by simp)⟩
  · simp at hcs
    obtain ⟨rfl, rfl, rfl⟩ := hcs
    simp only [if_true] at hm
    subst hm
    rw [hS] at hel'
    by_cases hp : 0 < len
    · have hspot : spot = none := by
        obtain ⟨cs, hc, _⟩ := hel' 0 (by omega)
        obtain ⟨_, _, hcell⟩ := World.cells?_some hc
        have h0' := hcell 0 (by omega)
        have hl6 := (World.cells?_some hc).2.1
        rw [List.getElem?_eq_getElem (by omega)] at h0'
        simpa [Addr.add] using World.cell?_spot h0'
      subst hspot
      have hex : ∀ k, ∃ i : α, k < len → R b (off + k * S) i := by
        intro k
        by_cases hk : k < len
        · obtain ⟨cs, hc, ht⟩ := hel' k (by omega)
          rw [Addr.add_lit] at hc
          obtain ⟨i, h2⟩ := hel b (off + k * S) cs n _ hc ht
          exact ⟨i, fun _ => h2⟩
        · exact ⟨dflt, fun h => absurd h hk⟩
      obtain ⟨f, hf⟩ : ∃ f : Nat → α, ∀ k, k < len → R b (off + k * S) (f k) := ⟨fun k => (hex k).choose, fun k => (hex k).choose_spec⟩
      have hlen : ((List.range len).map f).length = len := by simp
      refine ⟨(List.range len).map f, hlen, fun _ => ⟨b, off, rfl, fun j x hj => ?_⟩⟩
      have hlt := (List.getElem?_eq_some_iff.1 hj).1
      rw [hlen] at hlt
      rw [List.getElem?_map, List.getElem?_range hlt] at hj
      cases hj
      exact hf j hlt
    · have h0' : len = 0 := by omega
      subst h0'
      exact ⟨[], rfl, fun h => absurd h (by simp)⟩

/-- A row of stamps. -/
theorem ids_in {H : Type} {enc : TypeId × Value → H} {W : World} {fuel : Nat} {a : Option Addr} {len cap : Nat} {y : DataW H × List MemPlace} (h : DataW.trod enc Try.prog W 0 (fun _ => true) true fuel 26 [.slice a len cap] = some y) :
    ∃ ids : List (Int × Int), ids.length = len ∧ IDRow W a ids := by
  obtain ⟨l, hl, hr⟩ := elems_in Try.underlying26 Try.cellsID (by decide) ((0, 0) : Int × Int) (fun b o x => W.cell? ⟨b, o, none⟩ = some (.int .i64 x.1) ∧ W.cell? ⟨b, o + 1, none⟩ = some (.int .i64 x.2) ∧ Rng x.1 x.2) h (fun b o cs n x hc ht => by
    obtain ⟨t, m, rfl, hrg⟩ := id_cells ht
    obtain ⟨_, _, hcell⟩ := World.cells?_some hc
    have c0 := hcell 0 (by omega)
    have c1 := hcell 1 (by omega)
    simp only [Addr.add_lit, Nat.add_zero] at c0 c1
    exact ⟨(t, m), c0, c1, hrg⟩)
  refine ⟨l, hl, fun h0 => ?_⟩
  obtain ⟨g, o, e, hc⟩ := hr (by omega)
  exact ⟨g, o, e, fun j t n hj => hc j (t, n) hj⟩
/-- A row of rows of stamps. -/
theorem idss_in {H : Type} {enc : TypeId × Value → H} {W : World} {fuel : Nat} {a : Option Addr} {len cap : Nat} {y : DataW H × List MemPlace} (h : DataW.trod enc Try.prog W 0 (fun _ => true) true fuel 22 [.slice a len cap] = some y) :
    ∃ xs : List IDS, xs.length = len ∧ IDRows W a xs := by
  obtain ⟨l, hl, hr⟩ := elems_in Try.underlying22 Try.cellsIDs (by decide) (⟨none, [], 0⟩ : IDS) (fun b o x => W.cell? ⟨b, o, none⟩ = some (.slice x.p x.ids.length x.c) ∧ IDRow W x.p x.ids) h (fun b o cs n x hc ht => by
    obtain ⟨_, hlen, hcell⟩ := World.cells?_some hc
    obtain ⟨v, rfl⟩ := list1 hlen
    have c0 := hcell 0 (by omega)
    simp only [Addr.add_lit, Nat.add_zero] at c0
    have hv : ∃ a' len' cap', v = .slice a' len' cap' := by
      rcases open_slice Try.underlying26 ht with ⟨hcs, _⟩ | ⟨a', len', cap', _, _, _, _, hcs, _⟩
      · simp at hcs; exact ⟨_, _, _, hcs⟩
      · simp at hcs; exact ⟨_, _, _, hcs⟩
    obtain ⟨a', len', cap', rfl⟩ := hv
    obtain ⟨ids, hil, hid⟩ := ids_in ht
    subst hil
    exact ⟨⟨a', ids, cap'⟩, c0, hid⟩)
  refine ⟨l, hl, fun h0 => ?_⟩
  obtain ⟨g, o, e, hc⟩ := hr (by omega)
  refine ⟨g, o, e, fun j x hj => ?_⟩
  have := hc j x hj
  rw [Nat.mul_one] at this
  exact this
/-- A row of truths. -/
def BoolRow (w : World) (p : Option Addr) (bs : List Bool) : Prop := 0 < bs.length → ∃ g o, p = some ⟨g, o, none⟩ ∧ ∀ (j : Nat) (b : Bool), bs[j]? = some b → w.cell? ⟨g, o + j, none⟩ = some (.bool b)
theorem bools_in {H : Type} {enc : TypeId × Value → H} {W : World} {fuel : Nat} {a : Option Addr} {len cap : Nat} {y : DataW H × List MemPlace} (h : DataW.trod enc Try.prog W 0 (fun _ => true) true fuel 39 [.slice a len cap] = some y) :
    ∃ bs : List Bool, bs.length = len ∧ BoolRow W a bs := by
  obtain ⟨l, hl, hr⟩ := elems_in Try.underlying39 Try.cells4 (by decide) false (fun b o x => W.cell? ⟨b, o, none⟩ = some (.bool x)) h (fun b o cs n x hc ht => by
    obtain ⟨_, hlen, hcell⟩ := World.cells?_some hc
    obtain ⟨v, rfl⟩ := list1 hlen
    have c0 := hcell 0 (by omega)
    simp only [Addr.add_lit, Nat.add_zero] at c0
    obtain ⟨s, e0, _⟩ := DataW.trod_bool Try.underlying4 ht
    simp at e0
    subst e0
    exact ⟨s, c0⟩)
  refine ⟨l, hl, fun h0 => ?_⟩
  obtain ⟨g, o, e, hc⟩ := hr (by omega)
  refine ⟨g, o, e, fun j x hj => ?_⟩
  have := hc j x hj
  rw [Nat.mul_one] at this
  exact this
end Go.Proofs.Ytgophojgofmkeaa.Ck
