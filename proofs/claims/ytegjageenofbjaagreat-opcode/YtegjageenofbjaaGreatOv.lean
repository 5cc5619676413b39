/-
  An operation, and bytes, that came in, read cell by cell.
-/
import Derived.Test.YtegjageenofbjaaGreatOu
import Derived.ProofKit
import Derived.OpenShut
import Derived.ChangeOld
import Derived.Deep.Slices
import Derived.Deep.Grids
namespace Go.Proofs.YtegjageenofbjaaGreat.Cd
open Go.ChangeShapes Go.WideShapes Go.ChangeAt Go.RowKit Go.Deep

theorem cellsU8 : Tryz.prog.cellsOf 5 = 1 := by kernel_rfl
theorem cellsI64 : Tryz.prog.cellsOf 2 = 1 := by kernel_rfl
theorem cellsInt : Tryz.prog.cellsOf 3 = 1 := by kernel_rfl
theorem cellsStr : Tryz.prog.cellsOf 9 = 1 := by kernel_rfl
theorem cellsId : Tryz.prog.cellsOf 23 = 2 := by kernel_rfl
theorem cellsBs : Tryz.prog.cellsOf 24 = 1 := by kernel_rfl
theorem cellsVec : Tryz.prog.cellsOf 26 = 1 := by kernel_rfl
theorem cellsOp : Tryz.prog.cellsOf 28 = 11 := by kernel_rfl

def byteOf (z : Int) : BitVec 8 := BitVec.ofNat 8 z.toNat
theorem byteOf_val {z : Int} (h : (Lit.int .u8 z).wf = true) : u8v (byteOf z) = .int .u8 z := by
  simp [Lit.wf] at h
  have h1 : (0 : Int) ≤ z := h.1
  have h2 : z ≤ 255 := h.2
  unfold u8v byteOf
  rw [BitVec.toNat_ofNat, Nat.mod_eq_of_lt (by omega)]
  congr 1
  omega
theorem row_of_cells {W : World} {k : IntKind} {a : Addr} {len cap : Nat} {zs : List Int} (hl : len ≤ cap) (hz : zs.length = cap)
    (hc : ∀ i, i < cap → W.cell? (a.add i) = some (.int k (zs.getD i 0))) (hp : 0 < len) : ∃ b o, a = ⟨b, o, none⟩ ∧ ∀ (j : Nat) (x : Int), (zs.take len)[j]? = some x → W.cell? ⟨b, o + j, none⟩ = some (.int k x) := by
  obtain ⟨b, off, spot⟩ := a
  have h0 := hc 0 (by omega)
  have hspot : spot = none := by simpa [Addr.add] using World.cell?_spot h0
  subst hspot
  refine ⟨b, off, rfl, fun j x hj => ?_⟩
  rw [List.getElem?_take] at hj
  split at hj
  · have hcell := hc j (by omega)
    rw [Addr.add_lit, List.getD, hj, Option.getD_some] at hcell
    exact hcell
  · cases hj

/-- A slice of bytes, by its value. -/
theorem bytes_in {H : Type} {enc : TypeId × Value → H} {W : World} {fuel : Nat} {cs : List Value} {r : DataW H × List MemPlace} (h : DataW.trod enc Tryz.prog W 0 (fun _ => true) true fuel 24 cs = some r) :
    ∃ a cap, ∃ bs : List (BitVec 8), cs = [.slice a bs.length cap] ∧ bs.length ≤ cap ∧ bs.length ≤ maxLen ∧ Bytes W a bs := by
  rcases open_ints Tryz.underlying24 Tryz.underlying5 cellsU8 h with ⟨hcs, _⟩ | ⟨x, len, cap, zs, hcs, _, hl, hm, hz, _, hcell, hw⟩
  · exact ⟨none, 0, [], hcs, Nat.le_refl _, Nat.zero_le _, bytes_nil _ _⟩
  · have hz' : zs.length = cap := by simpa using hz
    have hlen : ((zs.take len).map byteOf).length = len := by simp; omega
    refine ⟨some x, cap, (zs.take len).map byteOf, by rw [hlen]; exact hcs, by rw [hlen]; exact hl, by rw [hlen]; omega, fun hp => ?_⟩
    rw [hlen] at hp
    obtain ⟨b, o, rfl, hx⟩ := row_of_cells hl hz' (fun i hi => hcell i (by omega)) hp
    refine ⟨b, o, rfl, fun j y hj => ?_⟩
    rw [List.getElem?_map] at hj
    obtain ⟨z, hzj, rfl⟩ := Option.map_eq_some_iff.1 hj
    rw [hx j z hzj, byteOf_val (hw z (List.mem_of_mem_take (List.mem_of_getElem? hzj)))]
/-- A slice of numbers, by its value. -/
theorem ints_in {H : Type} {enc : TypeId × Value → H} {W : World} {fuel : Nat} {cs : List Value} {r : DataW H × List MemPlace} (h : DataW.trod enc Tryz.prog W 0 (fun _ => true) true fuel 26 cs = some r) :
    ∃ a cap, ∃ ns : List Int, cs = [.slice a ns.length cap] ∧ ns.length ≤ cap ∧ ns.length ≤ maxLen ∧ Lies W a (ns.map iv) := by
  rcases open_ints Tryz.underlying26 Tryz.underlying2 cellsI64 h with ⟨hcs, _⟩ | ⟨x, len, cap, zs, hcs, _, hl, hm, hz, _, hcell, hw⟩
  · exact ⟨none, 0, [], hcs, Nat.le_refl _, Nat.zero_le _, lies_nil _ _⟩
  · have hz' : zs.length = cap := by simpa using hz
    have hlen : (zs.take len).length = len := by simp; omega
    refine ⟨some x, cap, zs.take len, by rw [hlen]; exact hcs, by rw [hlen]; exact hl, by rw [hlen]; omega, fun hp => ?_⟩
    rw [List.length_map, hlen] at hp
    obtain ⟨b, o, rfl, hx⟩ := row_of_cells hl hz' (fun i hi => hcell i (by omega)) hp
    refine ⟨b, o, rfl, fun j y hj => ?_⟩
    rw [List.getElem?_map] at hj
    obtain ⟨z, hzj, rfl⟩ := Option.map_eq_some_iff.1 hj
    exact hx j z hzj

theorem list2 {α : Type} {l : List α} (h : l.length = 2) : ∃ a b, l = [a, b] := by
  match l, h with
  | [a, b], _ => exact ⟨a, b, rfl⟩
theorem list8 {α : Type} {l : List α} (h : l.length = 8) : ∃ a b c d e f g i, l = [a, b, c, d, e, f, g, i] := by
  match l, h with
  | [a, b, c, d, e, f, g, i], _ => exact ⟨a, b, c, d, e, f, g, i, rfl⟩
theorem list11 {α : Type} {l : List α} (h : l.length = 11) : ∃ a b c d e f g i j k m, l = [a, b, c, d, e, f, g, i, j, k, m] := by
  match l, h with
  | [a, b, c, d, e, f, g, i, j, k, m], _ => exact ⟨a, b, c, d, e, f, g, i, j, k, m, rfl⟩

/-- The cells of a stamp. -/
theorem id_cells {H : Type} {enc : TypeId × Value → H} {W : World} {fuel : Nat} {cs : List Value} {x : DataW H × List MemPlace} (h : DataW.trod enc Tryz.prog W 0 (fun _ => true) true fuel 23 cs = some x) :
    ∃ t n : Int, cs = [.int .i64 t, .int .i64 n] := by
  obtain ⟨zs, n', _, _, hl, hlen, hf⟩ := DataW.trod_struct Tryz.underlying23 h
  rw [cellsId] at hl
  obtain ⟨v0, v1, rfl⟩ := list2 hl
  obtain ⟨z0, z1, rfl⟩ := list2 (show zs.length = 2 from hlen)
  have g0 := hf 0 _ rfl
  have g1 := hf 1 _ rfl
  simp [cellsInt, cellsI64] at g0 g1
  obtain ⟨tt, e3, _, _⟩ := DataW.trod_int Tryz.underlying2 g0
  obtain ⟨dd, e4, _, _⟩ := DataW.trod_int Tryz.underlying3 g1
  simp at e3 e4
  subst e3 e4
  exact ⟨tt, dd, rfl⟩

/-- An operation that came in as a value. -/
def OpIn (W : World) (v : Value) (t n sq kd ot on pt pn : Int) (nm : List UInt8) (p q : Option Addr) (c d : Nat) (data : List (BitVec 8)) (ns : List Int) : Prop :=
  v = .agg #[.int .i64 t, .int .i64 n, .int .i64 sq, .int .i64 kd, .int .i64 ot, .int .i64 on, .int .i64 pt, .int .i64 pn, .string (bas nm), .slice p data.length c, .slice q ns.length d] ∧
  data.length ≤ c ∧ ns.length ≤ d ∧ ns.length ≤ maxLen ∧ Bytes W p data ∧ Lies W q (ns.map iv)
set_option maxRecDepth 8000 in
set_option maxHeartbeats 1000000 in
theorem op_in {H : Type} {enc : TypeId × Value → H} {W : World} {fuel base : Nat} {v : Value} {x : DataW H × List MemPlace} (hv : Value.okWide Tryz.prog W .any base 28 v) (h : DataW.trod enc Tryz.prog W 0 (fun _ => true) true fuel 28 v.cells.toList = some x) :
    ∃ t n sq kd ot on pt pn nm p q c d data ns, OpIn W v t n sq kd ot on pt pn nm p q c d data ns := by
  obtain ⟨cs, rfl, _⟩ := okWide_struct Tryz.underlying28 hv
  obtain ⟨zs, n', _, _, hl, hlen, hf⟩ := DataW.trod_struct Tryz.underlying28 h
  rw [cellsOp] at hl
  have hcs : (Value.agg cs).cells.toList = cs.toList := rfl
  rw [hcs] at hl hf
  obtain ⟨v0, v1, v2, v3, v4, v5, v6, v7, v8, v9, v10, hcl⟩ := list11 hl
  rw [hcl] at hf
  obtain ⟨z0, z1, z2, z3, z4, z5, z6, z7, rfl⟩ := list8 (show zs.length = 8 from hlen)
  have g0 := hf 0 _ rfl
  have g1 := hf 1 _ rfl
  have g2 := hf 2 _ rfl
  have g3 := hf 3 _ rfl
  have g4 := hf 4 _ rfl
  have g5 := hf 5 _ rfl
  have g6 := hf 6 _ rfl
  have g7 := hf 7 _ rfl
  simp [cellsInt, cellsI64, cellsId, cellsStr, cellsBs, cellsVec] at g0 g1 g2 g3 g4 g5 g6 g7
  obtain ⟨t, n, e0⟩ := id_cells g0
  obtain ⟨sq, e1, _, _⟩ := DataW.trod_int Tryz.underlying2 g1
  obtain ⟨kd, e2, _, _⟩ := DataW.trod_int Tryz.underlying3 g2
  obtain ⟨ot, on, e3⟩ := id_cells g3
  obtain ⟨pt, pn, e4⟩ := id_cells g4
  obtain ⟨s, e5, _, _⟩ := DataW.trod_string Tryz.underlying9 g5
  obtain ⟨p, c, data, e6, k1, _, k2⟩ := bytes_in g6
  obtain ⟨q, d, ns, e7, k3, k4, k5⟩ := ints_in g7
  simp at e0 e1 e2 e3 e4 e5 e6 e7
  refine ⟨t, n, sq, kd, ot, on, pt, pn, s.data.toList, p, q, c, d, data, ns, ?_, k1, k3, k4, k2, k5⟩
  rw [bas_of]
  congr 1
  apply Array.ext'
  rw [hcl, e0.1, e0.2, e1, e2, e3.1, e3.2, e4.1, e4.2, e5, e6, e7]

end Go.Proofs.YtegjageenofbjaaGreat.Cd
