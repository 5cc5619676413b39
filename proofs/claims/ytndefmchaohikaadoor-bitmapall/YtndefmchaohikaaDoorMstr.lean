/-
  Bytes as text.
-/
import Derived.Test.YtndefmchaohikaaDoorMbeg
import Derived.Laws.BytesArg
import Derived.Lib.AppendStr
import Derived.Lib.SliceRun
namespace Go.Proofs.YtndefmchaohikaaDoor
open Go.RowKit

/-- The text of some bytes. -/
def strOf (bs : List (BitVec 8)) : ByteArray := strOfNums (bs.map fun b => (b.toNat : Int))

theorem run_str (W : World) (p : Option Addr) (bs : List (BitVec 8)) (c : Nat) (h : Bytes W p bs) :
    (convert 39 9 (.slice p bs.length c)).run Tryd.prog W = .ok (.string (strOf bs)) W := by
  by_cases hl : 0 < bs.length
  · obtain ⟨g, o, rfl, hx⟩ := h hl
    refine run_convert_bytes_arg W 39 5 Tryd.underlying39 Tryd.underlying5 g o bs.length c (bs.map fun b => (b.toNat : Int)) (by simp) (fun i hi => ?_) 9 Tryd.underlying9
    rw [hx i bs[i] (List.getElem?_eq_getElem hi)]
    simp [u8v, hi]
  · have h0 : bs = [] := List.eq_nil_of_length_eq_zero (by omega)
    subst h0
    rcases p with _ | ad
    · exact run_convert_bytes_nil W 39 5 Tryd.underlying39 Tryd.underlying5 0 c 9 Tryd.underlying9
    · have hl0 : (loadCells ad 0).run Tryd.prog W = .ok #[] W := by
        have := run_loadCells_list (P := Tryd.prog) W ad [] (fun j v hj => by simp at hj)
        simpa using this
      show (convert 39 9 (.slice (some ad) 0 c)).run Tryd.prog W = _
      rw [run_convert_bytes_string W 39 9 5 _ 0 c Tryd.underlying39 Tryd.underlying5 Tryd.underlying9]
      simp [Conv.bytesToString, hl0]
      rfl

theorem strOf_cells (bs : List (BitVec 8)) : Lib.strCells (strOf bs) = bs.map u8v := by
  unfold Lib.strCells strOf strOfNums
  simp only [List.map_map]
  apply List.ext_getElem
  · simp
  · intro i h1 h2
    simp at h2
    simp [u8v]
theorem strOf_size (bs : List (BitVec 8)) : (strOf bs).size = bs.length := by
  rw [← Lib.strCells_length, strOf_cells, List.length_map]

theorem u8v_inj {x y : BitVec 8} (h : u8v x = u8v y) : x = y := by
  unfold u8v at h
  simp only [Value.int.injEq, true_and] at h
  exact BitVec.eq_of_toNat_eq (by omega)
theorem map_u8v_inj : ∀ {xs ys : List (BitVec 8)}, xs.map u8v = ys.map u8v → xs = ys
  | [], [], _ => rfl
  | [], _ :: _, h => by simp at h
  | _ :: _, [], h => by simp at h
  | x :: xs, y :: ys, h => by
    simp only [List.map_cons, List.cons.injEq] at h
    rw [u8v_inj h.1, map_u8v_inj h.2]
theorem strOf_inj {xs ys : List (BitVec 8)} (h : strOf xs = strOf ys) : xs = ys := by
  have := congrArg Lib.strCells h
  rw [strOf_cells, strOf_cells] at this
  exact map_u8v_inj this

theorem loop_eq (bs : ByteArray) (i : Nat) (r : List UInt8) : ByteArray.toList.loop bs i r = r.reverse ++ bs.data.toList.drop i := by
  unfold ByteArray.toList.loop
  split
  · rename_i h
    rw [loop_eq bs (i + 1) _]
    have hd : i < bs.data.toList.length := by simpa using h
    rw [List.drop_eq_getElem_cons hd]
    have hg : bs.get! i = bs.data.toList[i] := by
      have h' : i < bs.data.size := by simpa using h
      show bs.data[i]! = _
      rw [getElem!_pos bs.data i h']
      simp
    rw [hg]
    simp
  · rename_i h
    have hd : bs.data.toList.length ≤ i := by simpa using h
    rw [List.drop_of_length_le hd]
    simp
termination_by bs.size - i
theorem toList_data (bs : ByteArray) : bs.toList = bs.data.toList := by
  show ByteArray.toList.loop bs 0 [] = _
  rw [loop_eq]; simp

theorem str_eq (xs ys : List (BitVec 8)) : ((strOf xs).toList == (strOf ys).toList) = decide (xs = ys) := by
  by_cases h : xs = ys
  · subst h; simp
  · have hs : ¬ (strOf xs).toList = (strOf ys).toList := fun e => h (strOf_inj (by
      rw [toList_data, toList_data] at e
      have e' : (strOf xs).data = (strOf ys).data := Array.toList_inj.1 e
      cases hx : strOf xs; cases hy : strOf ys
      rw [hx, hy] at e'
      simpa using e'))
    simp [h, hs]

end Go.Proofs.YtndefmchaohikaaDoor
