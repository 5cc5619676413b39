/-
  inOrder of package wal: steps, in order, until one tells an error; bytes.Equal.
-/
import Derived.Test.YtebdgcoandfocaaGreatDoorKWvol
import Derived.Laws.BytesArg
import Derived.Lib.AppendStr
import Derived.Lib.SliceRun

namespace Go.Proofs.YtebdgcoandfocaaGreatDoor
open Go.RowKit Go.Maps Go.Sort Go.Shelf

/-- The text of some bytes. -/
def strOf (bs : By) : ByteArray := strOfNums (bs.map fun b => (b.toNat : Int))

theorem run_str (W : World) (p : Option Addr) (bs : By) (c : Nat) (h : Bytes W p bs) :
    (convert 30 9 (.slice p bs.length c)).run Tryz.prog W = .ok (.string (strOf bs)) W := by
  by_cases hl : 0 < bs.length
  · obtain ⟨g, o, rfl, hx⟩ := h hl
    refine run_convert_bytes_arg W 30 5 Tryz.underlying30 Tryz.underlying5 g o bs.length c (bs.map fun b => (b.toNat : Int)) (by simp) (fun i hi => ?_) 9 Tryz.underlying9
    rw [hx i bs[i] (List.getElem?_eq_getElem hi)]
    simp [u8v, hi]
  · have h0 : bs = [] := List.eq_nil_of_length_eq_zero (by omega)
    subst h0
    rcases p with _ | ad
    · exact run_convert_bytes_nil W 30 5 Tryz.underlying30 Tryz.underlying5 0 c 9 Tryz.underlying9
    · have hl0 : (loadCells ad 0).run Tryz.prog W = .ok #[] W := by
        have := run_loadCells_list (P := Tryz.prog) W ad [] (fun j v hj => by simp at hj)
        simpa using this
      show (convert 30 9 (.slice (some ad) 0 c)).run Tryz.prog W = _
      rw [run_convert_bytes_string W 30 9 5 _ 0 c Tryz.underlying30 Tryz.underlying5 Tryz.underlying9]
      simp [Conv.bytesToString, hl0]
      rfl

theorem strOf_cells (bs : List (BitVec 8)) : Lib.strCells (strOf bs) = bs.map u8v := by
  unfold Lib.strCells strOf strOfNums
  simp only [List.map_map]
  apply List.ext_getElem
  · simp
  · intro i h1 h2
    simp at h2
    simp [u8v]
theorem strOf_size (bs : List (BitVec 8)) : (strOf bs).size = bs.length := by
  rw [← Lib.strCells_length, strOf_cells, List.length_map]

theorem wpList_append_text {W : World} {ops : Array Oper} {rest : List Oper} {o : Oper} {a : Act} {Q : Exit → Act → World → Prop} (hgd : o.guard = none) (s x : Operand)
    (ho : o.op = .call { callee := .builtin .append, args := #[s, x], argTypes := #[30, 9] })
    (base : Nat) (v : Value) (n : Nat) (xs : List Value) (hs : a.eval s = v) (hown : W.ownsRow base 5 1 v n xs)
    (bs : List (BitVec 8)) (hx : a.eval x = .string (strOf bs)) (h63 : n + bs.length ≤ 1099511627776) (hbase : base ≤ W.heap.size)
    (h : ∀ v' w', w'.ownsRow base 5 1 v' (n + bs.length) (xs ++ bs.map u8v) → W.grownBy w' v.ownBlock → wpList Tryz.prog ops Q rest (a.put o.dst v') w') :
    wpList Tryz.prog ops Q (o :: rest) a W := by
  refine wpList_plain hgd fun K hK => ?_
  obtain ⟨i0, hi0, hz0, hz1, hz2⟩ := info_parts Tryz.info5
  have hsz := strOf_size bs
  obtain ⟨v', w', hr, h2, h3, _⟩ := Lib.run_append_own_string (P := Tryz.prog) W base 30 9 o.type 5 i0 Tryz.underlying30 Tryz.underlying9 hi0 hz0 hz1 hz2 v n xs hown (strOf bs) (by unfold maxLen; omega) (by omega) hbase
  rw [hsz, strOf_cells] at h2
  unfold Oper.wp execOp
  simp only [ho, resolve, invoke, builtin, Sem.run_bind, Sem.run_pure, Result.andThen_ok, List.map_toArray, List.map_cons, List.map_nil, hs, hx, hr]
  exact hK _ _ (h v' w' h2 h3)

theorem u8v_inj {x y : BitVec 8} (h : u8v x = u8v y) : x = y := by
  unfold u8v at h
  simp only [Value.int.injEq, true_and] at h
  exact BitVec.eq_of_toNat_eq (by omega)
theorem map_u8v_inj : ∀ {xs ys : By}, xs.map u8v = ys.map u8v → xs = ys
  | [], [], _ => rfl
  | [], _ :: _, h => by simp at h
  | _ :: _, [], h => by simp at h
  | x :: xs, y :: ys, h => by
    simp only [List.map_cons, List.cons.injEq] at h
    rw [u8v_inj h.1, map_u8v_inj h.2]
theorem strOf_inj {xs ys : By} (h : strOf xs = strOf ys) : xs = ys := by
  have := congrArg Lib.strCells h
  rw [strOf_cells, strOf_cells] at this
  exact map_u8v_inj this

theorem loop_eq (bs : ByteArray) (i : Nat) (r : List UInt8) : ByteArray.toList.loop bs i r = r.reverse ++ bs.data.toList.drop i := by
  unfold ByteArray.toList.loop
  split
  · rename_i h
    rw [loop_eq bs (i + 1) _]
    have hd : i < bs.data.toList.length := by simpa using h
    rw [List.drop_eq_getElem_cons hd]
    have hg : bs.get! i = bs.data.toList[i] := by
      have h' : i < bs.data.size := by simpa using h
      show bs.data[i]! = _
      rw [getElem!_pos bs.data i h']
      simp
    rw [hg]
    simp
  · rename_i h
    have hd : bs.data.toList.length ≤ i := by simpa using h
    rw [List.drop_of_length_le hd]
    simp
termination_by bs.size - i
theorem toList_data (bs : ByteArray) : bs.toList = bs.data.toList := by
  show ByteArray.toList.loop bs 0 [] = _
  rw [loop_eq]; simp

theorem str_eq (xs ys : By) : ((strOf xs).toList == (strOf ys).toList) = decide (xs = ys) := by
  by_cases h : xs = ys
  · subst h; simp
  · have hs : ¬ (strOf xs).toList = (strOf ys).toList := fun e => h (strOf_inj (by
      rw [toList_data, toList_data] at e
      have e' : (strOf xs).data = (strOf ys).data := Array.toList_inj.1 e
      cases hx : strOf xs; cases hy : strOf ys
      rw [hx, hy] at e'
      simpa using e'))
    simp [h, hs]

set_option maxRecDepth 8000 in
set_option maxHeartbeats 400000 in
theorem equal_any (p q : Option Addr) (xs ys : By) (c c' : Nat) (w : World) (hx : Bytes w p xs) (hy : Bytes w q ys) :
    Calls Tryz.prog 79 #[.slice p xs.length c, .slice q ys.length c'] w fun e w' => e = .returned (.bool (decide (xs = ys))) ∧ w' = w := by
  have r1 := run_str w p xs c hx
  have r2 := run_str w q ys c' hy
  have HQ : Hid (((strOf xs).toList == (strOf ys).toList) = decide (xs = ys)) := str_eq xs ys
  generalize strOf xs = sx at *
  generalize strOf ys = sy at *
  generalize decide (xs = ys) = dd at *
  clear hx hy
  go_enter Tryz.func79, Tryz.ntmps79
  go_wp2
  go_ret
  exact ⟨by rw [← HQ.out]; rfl, rfl⟩

/-- The steps, in order, until one tells an error; none of them turns block g. -/
def Runs (P : Program) (g : Nat) : List (Nat × Value) → World → (Int → World → Prop) → Prop
  | [], w, Q => Q 0 w
  | (K, r) :: fs, w, Q => Calls P K #[r] w fun e w' => ∃ z : Int, e = .returned (.int .i64 z) ∧ w'.heap[g]? = w.heap[g]? ∧ ((z ≠ 0 ∧ Q z w') ∨ (z = 0 ∧ Runs P g fs w' Q))

/-- A step as a value. -/
def stepV (x : Nat × Value) : Value := .func (.func x.1) #[x.2] #[]

set_option maxRecDepth 8000 in
set_option maxHeartbeats 1000000 in
theorem inOrder_any (g : Nat) (fs : List (Nat × Value)) (cp : Nat) (w : World) (Q : Int → World → Prop) (hent : ∀ x ∈ fs, ∀ args w, (callFunc x.1 args).run Tryz.prog w = .ok (.enter x.1 args) w)
    (hl : fs.length ≤ 100) (hg : w.heap[g]? = some (.cells (fs.map stepV).toArray 117 (0, 0))) (hr : Runs Tryz.prog g fs w Q) :
    Calls Tryz.prog 49 #[.slice (some ⟨g, 0, none⟩) fs.length cp] w fun e w' => ∃ z : Int, e = .returned (.int .i64 z) ∧ Q z w' := by
  have HE : Hid (∀ x ∈ fs, ∀ args w, (callFunc x.1 args).run Tryz.prog w = .ok (.enter x.1 args) w) := hent
  have HG : Hid (w.heap[g]? = some (.cells (fs.map stepV).toArray 117 (0, 0))) := hg
  have HR : Hid (Runs Tryz.prog g fs w Q) := hr
  clear hent hg hr
  go_enter Tryz.func49, Tryz.ntmps49
  go_wp2_with fail
  go_loopw [8] (fun ii wr => ∃ i : Nat, ii = .int .i64 i ∧ i ≤ fs.length ∧ Hid (wr.heap[g]? = some (.cells (fs.map stepV).toArray 117 (0, 0)) ∧ Runs Tryz.prog g (fs.drop i) wr Q)) (fun ii _ => fs.length - (intOf ii).toNat)
  case atStart => exact ⟨0, rfl, Nat.zero_le _, HG.out, HR.out⟩
  case round =>
    obtain ⟨i, rfl, hi, HJ⟩ := hrel
    by_cases hlt : i < fs.length
    · have hltI : (i : Int) < fs.length := by omega
      obtain ⟨⟨K, r⟩, hx⟩ : ∃ x, fs[i]? = some x := ⟨_, List.getElem?_eq_getElem hlt⟩
      have hx' : fs.drop i = (K, r) :: fs.drop (i + 1) := by
        rw [List.drop_eq_getElem_cons hlt]
        rw [List.getElem?_eq_getElem hlt] at hx
        rw [Option.some.inj hx]
      have c1 : wr.cell? ⟨g, i, none⟩ = some (.func (.func K) #[r] #[]) := by
        rw [cellOf HJ.out.1 i, List.getElem?_toArray, List.getElem?_map, hx]; rfl
      have he := HE.out _ (List.mem_of_getElem? hx)
      have hc := HJ.out.2
      rw [hx'] at hc
      unfold Runs at hc
      clear hx hx'
      go_wp2_with fail
      refine hc.mono ?_
      rintro e w1 ⟨z, rfl, hk, hz⟩
      clear hc c1
      have HK : Hid (w1.heap[g]? = wr.heap[g]?) := hk
      rcases hz with ⟨hz, hQ⟩ | ⟨rfl, hR⟩
      · have hzb : (z != 0) = true := by simpa using hz
        have HQ : Hid (Q z w1) := hQ
        clear hQ hk
        go_wp2
        go_ret
        exact ⟨z, rfl, HQ.out⟩
      · have HR1 : Hid (Runs Tryz.prog g (fs.drop (i + 1)) w1 Q) := hR
        clear hR hk
        go_wp2
        go_roundw
        case rel => exact ⟨i + 1, by go_num, by omega, HK.out.trans HJ.out.1, HR1.out⟩
        case measure => simp [intOf]; omega
    · obtain rfl : i = fs.length := by omega
      have hQ := HJ.out.2
      rw [List.drop_length] at hQ
      have HQ : Hid (Q 0 wr) := hQ
      clear hQ
      go_wp2
      go_ret
      exact ⟨0, rfl, HQ.out⟩

end Go.Proofs.YtebdgcoandfocaaGreatDoor
