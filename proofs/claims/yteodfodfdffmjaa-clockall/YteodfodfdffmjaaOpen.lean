/-
  A stamp, and a row of calls, that came in, read cell by cell.
-/
import Derived.Test.YteodfodfdffmjaaBase
import Derived.ProofKit
import Derived.OpenShut
import Derived.ChangeOld
import Derived.Deep.Slices
import Derived.Deep.Grids
namespace Go.Proofs.Yteodfodfdffmjaa
open Go.ChangeShapes Go.WideShapes Go.ChangeAt Go.RowKit Go.Deep

theorem Try.cells23 : Try.prog.cellsOf 23 = 2 := by kernel_rfl
theorem Try.cells35 : Try.prog.cellsOf 35 = 3 := by kernel_rfl
theorem Try.cells2 : Try.prog.cellsOf 2 = 1 := by kernel_rfl
theorem Try.cells3 : Try.prog.cellsOf 3 = 1 := by kernel_rfl
theorem Try.cells4 : Try.prog.cellsOf 4 = 1 := by kernel_rfl

theorem list2 {α : Type} {l : List α} (h : l.length = 2) : ∃ a b, l = [a, b] := by
  match l, h with
  | [a, b], _ => exact ⟨a, b, rfl⟩
theorem list3 {α : Type} {l : List α} (h : l.length = 3) : ∃ a b c, l = [a, b, c] := by
  match l, h with
  | [a, b, c], _ => exact ⟨a, b, c, rfl⟩

/-- The cells of a stamp. -/
theorem id_cells {H : Type} {enc : TypeId × Value → H} {W : World} {fuel : Nat} {cs : List Value} {x : DataW H × List MemPlace} (h : DataW.trod enc Try.prog W 0 (fun _ => true) true fuel 23 cs = some x) :
    ∃ t n : Int, cs = [.int .i64 t, .int .i64 n] := by
  obtain ⟨zs, n', _, _, hl, hlen, hf⟩ := DataW.trod_struct Try.underlying23 h
  rw [Try.cells23] at hl
  obtain ⟨v0, v1, rfl⟩ := list2 hl
  obtain ⟨z0, z1, rfl⟩ := list2 (show zs.length = 2 from hlen)
  have g0 := hf 0 _ rfl
  have g1 := hf 1 _ rfl
  simp [Try.cells3, Try.cells2] at g0 g1
  obtain ⟨tt, e3, _, _⟩ := DataW.trod_int Try.underlying2 g0
  obtain ⟨dd, e4, _, _⟩ := DataW.trod_int Try.underlying3 g1
  simp at e3 e4
  subst e3 e4
  exact ⟨tt, dd, rfl⟩

/-- A stamp that came in as a value. -/
theorem id_arg {H : Type} {enc : TypeId × Value → H} {W : World} {fuel base : Nat} {v : Value} {x : DataW H × List MemPlace} (hv : Value.okWide Try.prog W .any base 23 v) (h : DataW.trod enc Try.prog W 0 (fun _ => true) true fuel 23 v.cells.toList = some x) :
    ∃ t n : Int, v = idv t n := by
  obtain ⟨cs, rfl, _⟩ := okWide_struct Try.underlying23 hv
  obtain ⟨t, n, e⟩ := id_cells h
  refine ⟨t, n, ?_⟩
  have : cs.toList = [.int .i64 t, .int .i64 n] := e
  obtain rfl : cs = #[.int .i64 t, .int .i64 n] := by cases cs; simp_all
  rfl

/-- A call: See (true) of a stamp, or Next. -/
structure Cll where
  see : Bool
  t : Int
  n : Int
def Cll.cells (x : Cll) : List Value := [.bool x.see, .int .i64 x.t, .int .i64 x.n]
/-- Calls that lie in a row. -/
def Clls (w : World) (p : Option Addr) (xs : List Cll) : Prop :=
  0 < xs.length → ∃ b o, p = some ⟨b, o, none⟩ ∧ ∀ (j : Nat) (x : Cll), xs[j]? = some x → ∀ (k : Nat) (v : Value), x.cells[k]? = some v → w.cell? ⟨b, o + j * 3 + k, none⟩ = some v

theorem cll_at {H : Type} {enc : TypeId × Value → H} {W : World} {fuel ob oo k : Nat} {cs : List Value} {x : DataW H × List MemPlace}
    (hc : W.cells? 0 ⟨ob, oo + k * 3, none⟩ 3 = some cs) (h : DataW.trod enc Try.prog W 0 (fun _ => true) true fuel 35 cs = some x) :
    ∃ i : Cll, ∀ (j : Nat) (v : Value), i.cells[j]? = some v → W.cell? ⟨ob, oo + k * 3 + j, none⟩ = some v := by
  obtain ⟨xs, n, _, _, hl, hlen, hf⟩ := DataW.trod_struct Try.underlying35 h
  rw [Try.cells35] at hl
  obtain ⟨v0, v1, v2, rfl⟩ := list3 hl
  obtain ⟨y0, y1, rfl⟩ := list2 (show xs.length = 2 from hlen)
  have f0 := hf 0 _ rfl
  have f1 := hf 1 _ rfl
  simp [Try.cells4, Try.cells23] at f0 f1
  obtain ⟨s, e0, _⟩ := DataW.trod_bool Try.underlying4 f0
  simp at e0
  subst e0
  obtain ⟨t, n', e1⟩ := id_cells f1
  simp at e1
  obtain ⟨rfl, rfl⟩ := e1
  obtain ⟨_, _, hcell⟩ := World.cells?_some hc
  have c0 := hcell 0 (by omega)
  have c1 := hcell 1 (by omega)
  have c2 := hcell 2 (by omega)
  simp only [Addr.add_lit, Nat.add_zero] at c0 c1 c2
  refine ⟨⟨s, t, n'⟩, fun j v hj => ?_⟩
  match j, hj with
  | 0, hj => cases hj; exact c0
  | 1, hj => cases hj; exact c1
  | 2, hj => cases hj; exact c2
  | j + 3, hj => simp [Cll.cells] at hj

theorem clls_nil (W : World) (a : Option Addr) : Clls W a [] := fun h => absurd h (by simp)

/-- All calls. -/
theorem clls_at {H : Type} {enc : TypeId × Value → H} {W : World} {fuel : Nat} {a : Option Addr} {len cap : Nat} {y : DataW H × List MemPlace} (h : DataW.trod enc Try.prog W 0 (fun _ => true) true fuel 28 [.slice a len cap] = some y) :
    ∃ its : List Cll, its.length = len ∧ Clls W a its := by
  rcases open_slice Try.underlying28 h with ⟨hcs, _⟩ | ⟨⟨b, off, spot⟩, len', cap', m, n, D, Pl, hcs, _, hl, _, hm, _, hel⟩
  · simp at hcs
    obtain ⟨rfl, rfl, rfl⟩ := hcs
    exact ⟨[], rfl, clls_nil W _⟩
  · simp at hcs
    obtain ⟨rfl, rfl, rfl⟩ := hcs
    simp only [if_true] at hm
    subst hm
    rw [Try.cells35] at hel
    by_cases hp : 0 < len
    · have hspot : spot = none := by
        obtain ⟨cs, hc, _⟩ := hel 0 (by omega)
        obtain ⟨_, _, hcell⟩ := World.cells?_some hc
        have h0 := hcell 0 (by omega)
        have hl6 := (World.cells?_some hc).2.1
        rw [List.getElem?_eq_getElem (by omega)] at h0
        simpa [Addr.add] using World.cell?_spot h0
      subst hspot
      have hex : ∀ k, ∃ i : Cll, k < len → ∀ (j : Nat) (v : Value), i.cells[j]? = some v → W.cell? ⟨b, off + k * 3 + j, none⟩ = some v := by
        intro k
        by_cases hk : k < len
        · obtain ⟨cs, hc, ht⟩ := hel k (by omega)
          rw [Addr.add_lit] at hc
          obtain ⟨i, h2⟩ := cll_at hc ht
          exact ⟨i, fun _ => h2⟩
        · exact ⟨⟨false, 0, 0⟩, fun h => absurd h hk⟩
      obtain ⟨f, hf⟩ : ∃ f : Nat → Cll, ∀ k, k < len → ∀ (j : Nat) (v : Value), (f k).cells[j]? = some v → W.cell? ⟨b, off + k * 3 + j, none⟩ = some v := ⟨fun k => (hex k).choose, fun k => (hex k).choose_spec⟩
      have hlen : ((List.range len).map f).length = len := by simp
      refine ⟨(List.range len).map f, hlen, fun _ => ⟨b, off, rfl, fun j x hj => ?_⟩⟩
      have hlt := (List.getElem?_eq_some_iff.1 hj).1
      rw [hlen] at hlt
      rw [List.getElem?_map, List.getElem?_range hlt] at hj
      cases hj
      exact hf j hlt
    · have h0 : len = 0 := by omega
      subst h0
      exact ⟨[], rfl, clls_nil W _⟩

end Go.Proofs.Yteodfodfdffmjaa
