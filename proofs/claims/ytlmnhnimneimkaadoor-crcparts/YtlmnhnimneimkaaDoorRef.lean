/-
  Frame of the document's own text.
-/
import Derived.Test.YtlmnhnimneimkaaDoorFrame
import Derived.Deep.AppendLies
import Derived.Laws.OwnMore
namespace Go.Proofs.YtlmnhnimneimkaaDoor
open Go.RowKit

theorem run_append_none_any {P : Program} {w : World} (base : Nat) (t ty e : TypeId) (i : TypeInfo) (size : Nat) (ht : P.underlying t = some (.slice e)) (hi : P.info? e = some i)
    (v : Value) (n : Nat) (xs : List Value) (hown : w.ownsRow base e size v n xs) (c : Nat) :
    (Builtin.append_ #[t, t] ty #[v, .slice none 0 c]).run P w = .ok v w := by
  rcases hown.2 with ⟨rfl, rfl⟩ | ⟨g, cap, cur, rfl, _, _, hnc, _⟩
  · simp [Builtin.append_, run_underlying ht, sizeOf, typeInfo, hi, Builtin.lenOf, Builtin.firstCells]
  · simp [Builtin.append_, run_underlying ht, sizeOf, typeInfo, hi, Builtin.lenOf, Builtin.firstCells, hnc, storeCells]

theorem run_append_bytes {W : World} {base : Nat} {v : Value} {n : Nat} {xs : List Value} (ty : TypeId) (hown : W.ownsRow base 5 1 v n xs) (p : Option Addr) (bs : List (BitVec 8)) (cp : Nat) (hb : Bytes W p bs)
    (h63 : n + bs.length ≤ 1099511627776) (hbase : base ≤ W.heap.size) :
    ∃ v' W', (Builtin.append_ #[26, 26] ty #[v, .slice p bs.length cp]).run Tryd.prog W = .ok v' W' ∧ W'.ownsRow base 5 1 v' (n + bs.length) (xs ++ bs.map u8v) ∧ W.grownBy W' v.ownBlock ∧ (v'.ownBlock = v.ownBlock ∨ v'.ownBlock = some W.heap.size) := by
  obtain ⟨i0, hi0, hz0, hz1, hz2⟩ := info_parts Tryd.info5
  rcases p with _ | ad
  · have h0 : bs = [] := by
      by_cases hl : 0 < bs.length
      · obtain ⟨_, _, h, _⟩ := hb hl; cases h
      · exact List.eq_nil_of_length_eq_zero (by omega)
    subst h0
    refine ⟨v, W, run_append_none_any base 26 ty 5 i0 1 Tryd.underlying26 hi0 v n xs hown cp, by simpa using hown, ⟨rfl, rfl, rfl, Nat.le_refl _, fun _ _ _ => rfl⟩, .inl rfl⟩
  · obtain ⟨v', w', hr, h2, h3, _, h5⟩ := run_append_own_at (P := Tryd.prog) W base 26 ty 5 i0 (.int .u8 0) 1 1 Tryd.underlying26 hi0 hz0 hz1 hz2 rfl (by decide) v n xs hown ad bs.length cp (bs.map u8v) (by simp)
      (fun j u hj => by
        rw [List.getElem?_map] at hj
        obtain ⟨x, hx, rfl⟩ := Option.map_eq_some_iff.1 hj
        obtain ⟨b, o, e, hc⟩ := hb (Nat.lt_of_le_of_lt (Nat.zero_le _) (List.getElem?_eq_some_iff.1 hx).1)
        cases e
        rw [Addr.add_lit]
        exact hc j x hx) (u8v_one bs) (by unfold maxLen; omega) (by omega) hbase
    exact ⟨v', w', hr, h2, h3, h5⟩

theorem wpList_append_bytes {W : World} {ops : Array Oper} {rest : List Oper} {o : Oper} {a : Act} {Q : Exit → Act → World → Prop} (hgd : o.guard = none) (s x : Operand)
    (ho : o.op = .call { callee := .builtin .append, args := #[s, x], argTypes := #[26, 26] })
    (base : Nat) (v : Value) (n : Nat) (xs : List Value) (hs : a.eval s = v) (hown : W.ownsRow base 5 1 v n xs)
    (p : Option Addr) (bs : List (BitVec 8)) (cp : Nat) (hx : a.eval x = .slice p bs.length cp) (hb : Bytes W p bs) (h63 : n + bs.length ≤ 1099511627776) (hbase : base ≤ W.heap.size)
    (h : ∀ v' w', w'.ownsRow base 5 1 v' (n + bs.length) (xs ++ bs.map u8v) → W.grownBy w' v.ownBlock → (v'.ownBlock = v.ownBlock ∨ v'.ownBlock = some W.heap.size) → wpList Tryd.prog ops Q rest (a.put o.dst v') w') :
    wpList Tryd.prog ops Q (o :: rest) a W := by
  refine wpList_plain hgd fun K hK => ?_
  obtain ⟨v', w', hr, h2, h3, h5⟩ := run_append_bytes (ty := o.type) hown p bs cp hb h63 hbase
  unfold Oper.wp execOp
  simp only [ho, resolve, invoke, builtin, Sem.run_bind, Sem.run_pure, Result.andThen_ok, List.map_toArray, List.map_cons, List.map_nil, hs, hx, hr]
  exact hK _ _ (h v' w' h2 h3 h5)

/-- The bytes of a row that the call owns. -/
theorem owns_bytes {W : World} {base : Nat} {v : Value} {n : Nat} {bs : List (BitVec 8)} (h : W.ownsRow base 5 1 v n (bs.map u8v)) (hn : 0 < n) :
    ∃ g cap, v = .slice (some ⟨g, 0, none⟩) n cap ∧ base ≤ g ∧ Bytes W (some ⟨g, 0, none⟩) bs := by
  obtain ⟨g, cap, rfl, hg, _⟩ := h.form hn
  refine ⟨g, cap, rfl, hg, fun _ => ⟨g, 0, rfl, fun j x hj => ?_⟩⟩
  have hlen := h.1
  rw [List.length_map] at hlen
  have hlt := (List.getElem?_eq_some_iff.1 hj).1
  rw [Nat.zero_add, h.cellAt j (by omega), List.getElem?_map, hj]
  rfl

/-- The bytes of a whole block. -/
theorem bytes_block {W : World} {g : Nat} {bs : List (BitVec 8)} {f : Nat × Nat} (h : W.heap[g]? = some (.cells (bs.map u8v).toArray 5 f)) : Bytes W (some ⟨g, 0, none⟩) bs := by
  refine fun _ => ⟨g, 0, rfl, fun j x hj => ?_⟩
  rw [Nat.zero_add, cellOf h j, List.getElem?_toArray, List.getElem?_map, hj]
  rfl

/-- Bytes that lie below what has turned. -/
theorem grown_bytes {W W' : World} {row : Option Nat} (hg : W.grownBy W' row) {p : Option Addr} {bs : List (BitVec 8)} (hb : Bytes W p bs) (hne : ∀ b o, p = some ⟨b, o, none⟩ → some b ≠ row) : Bytes W' p bs := by
  intro hl
  obtain ⟨b, o, rfl, hx⟩ := hb hl
  exact ⟨b, o, rfl, fun j x hj => hg.cell (hx j x hj) (hne b o rfl)⟩

/-- Bytes from before lie in old blocks. -/
theorem bytes_old {w : World} {p : Option Addr} {bs : List (BitVec 8)} (hb : Bytes w p bs) (hl : 0 < bs.length) : ∃ b o, p = some ⟨b, o, none⟩ ∧ b < w.heap.size := by
  obtain ⟨b, o, rfl, hx⟩ := hb hl
  obtain ⟨x, hx'⟩ : ∃ x, bs[0]? = some x := ⟨_, List.getElem?_eq_getElem hl⟩
  exact ⟨b, o, rfl, cell_lt (hx 0 x hx')⟩

set_option maxHeartbeats 1000000 in
theorem rframe_yes (p : Option Addr) (bs : List (BitVec 8)) (cp : Nat) (w : World) (hl : bs.length ≤ 1048576) (hb : Bytes w p bs) :
    Calls Tryd.prog 15 #[.slice p bs.length cp] w fun e w' => ∃ g cap, e = .returned (.tuple #[.slice (some ⟨g, 0, none⟩) (8 + bs.length) cap, .int .i64 0]) ∧
      w.heap.size ≤ g ∧ Bytes w' (some ⟨g, 0, none⟩) (framed bs) ∧ Below w.heap.size w w' := by
  have hI : ¬ (1048576 : Int) < bs.length := by omega
  have HB : Hid (Bytes w p bs) := hb
  have hn : (BitVec.ofNat 32 bs.length).toNat = bs.length := by rw [BitVec.toNat_ofNat]; exact Nat.mod_eq_of_lt (by omega)
  have c20 := four_any (BitVec.ofNat 32 bs.length) w
  rw [show u32v (BitVec.ofNat 32 bs.length) = .int .u32 (bs.length : Int) by unfold u32v; rw [hn]] at c20
  obtain ⟨A, hA⟩ : ∃ A, A = le4 (BitVec.ofNat 32 bs.length) := ⟨_, rfl⟩
  obtain ⟨C, hC⟩ : ∃ C, C = le4 (crcSum bs) := ⟨_, rfl⟩
  have hAl : A.length = 4 := by rw [hA]; rfl
  have hCl : C.length = 4 := by rw [hC]; rfl
  have HAC : Hid (framed bs = A ++ (C ++ bs)) := by rw [hA, hC]; rfl
  rw [← hA] at c20
  clear hb hn
  go_enter Tryd.func15, Tryd.ntmps15
  go_wp2_with fail
  refine c20.mono ?_
  rintro e w1 ⟨rfl, hw1⟩
  clear c20
  have hx1 : w1.heap[w.heap.size]? = some (.cells (A.map u8v).toArray 5 (0, 0)) := by rw [hw1]; exact heap_alloc_new w _
  have hB1 : Below w.heap.size w w1 := by rw [hw1]; exact (Below.refl _ _).alloc (Nat.le_refl _) _
  have hz1 : w1.heap.size = w.heap.size + 1 := by rw [hw1]; simp
  have c12 := refOf_any p bs cp w1 (by omega) (below_bytes hB1 HB.out)
  have c20 := four_any (crcSum bs) w1
  rw [← hC] at c20
  clear hw1
  go_wp2_with fail
  refine Calls_on c12 ?_
  clear c12
  go_wp2_with fail
  refine c20.mono ?_
  rintro e w2 ⟨rfl, hw2⟩
  clear c20
  have hx2 : w2.heap[w1.heap.size]? = some (.cells (C.map u8v).toArray 5 (0, 0)) := by rw [hw2]; exact heap_alloc_new w1 _
  have hB2' : Below w1.heap.size w1 w2 := by rw [hw2]; exact (Below.refl _ _).alloc (Nat.le_refl _) _
  have hB2 : Below w.heap.size w w2 := hB1.trans (hB2'.mono (by omega))
  have hx1' : w2.heap[w.heap.size]? = some (.cells (A.map u8v).toArray 5 (0, 0)) := (hB2'.block _ (by omega)).trans hx1
  have hz2 : w2.heap.size = w.heap.size + 2 := by rw [hw2]; simp [hz1]
  have own0 : Hid (w2.ownsRow w.heap.size 5 1 (.slice (some ⟨w.heap.size, 0, none⟩) 4 4) 4 (A.map u8v)) :=
    ⟨by simp [hAl], .inr ⟨w.heap.size, 4, _, rfl, Nat.le_refl _, hx1', Nat.le_refl _, by unfold maxLen; omega, by simp [hAl], List.take_of_length_le (by simp [hAl])⟩⟩
  have HC2 : Hid (Bytes w2 (some ⟨w1.heap.size, 0, none⟩) C) := bytes_block hx2
  have HB2 : Hid (Below w.heap.size w w2) := hB2
  have HZ2 : Hid (w2.heap.size = w.heap.size + 2) := hz2
  have HZ1 : Hid (w1.heap.size = w.heap.size + 1) := hz1
  have tokA : True := trivial
  clear hw2 hx1 hx2 hB1 hB2 hB2' hx1' hz1 hz2 hA hC
  go_wp2_with (first
    | (have tk := tokA
       refine wpList_append_bytes rfl _ _ rfl w.heap.size _ 4 (A.map u8v) rfl own0.out (some ⟨w1.heap.size, 0, none⟩) C 4 (by rw [hCl]; rfl) HC2.out (by omega) HB2.out.size ?_
       clear tk tokA
       intro v1 w3 hown1 hg1 _
       have HOWN1 : Hid (w3.ownsRow w.heap.size 5 1 v1 (4 + C.length) (A.map u8v ++ C.map u8v)) := hown1
       have HB3 : Hid (Below w.heap.size w w3) := HB2.out.grown hg1 HB2.out.size (by intro k hk; cases hk; exact Nat.le_refl _)
       have HBB : Hid (Bytes w3 p bs) := below_bytes HB3.out HB.out
       clear hown1 hg1
       have tokB : True := trivial)
    | (have tk := tokB
       refine wpList_append_bytes rfl _ _ rfl w.heap.size _ _ _ rfl HOWN1.out p bs cp rfl HBB.out (by omega) HB3.out.size ?_
       clear tk tokB
       intro v2 w4 hown2 hg2 _))
  go_ret2
  obtain ⟨g1, c1, hv1, hg1', _⟩ := HOWN1.out.form (by omega)
  have hB4 : Below w.heap.size w w4 := HB3.out.grown hg2 HB3.out.size (by intro k hk; rw [hv1] at hk; cases hk; exact hg1')
  have e1 : A.map u8v ++ C.map u8v ++ bs.map u8v = (framed bs).map u8v := by rw [HAC.out]; simp
  rw [e1, hCl] at hown2
  obtain ⟨g, cap, rfl, hg, hbb⟩ := owns_bytes hown2 (by omega)
  exact ⟨g, cap, by rfl, hg, hbb, hB4⟩

set_option maxHeartbeats 400000 in
theorem rframe_no (p : Option Addr) (l cp : Nat) (w : World) (h : 1048576 < l) :
    Calls Tryd.prog 15 #[.slice p l cp] w fun e w' => e = .returned (.tuple #[.slice none 0 0, .int .i64 22]) ∧ w' = w := by
  have hI : (1048576 : Int) < l := by omega
  go_enter Tryd.func15, Tryd.ntmps15
  go_wp2
  go_ret2
  exact ⟨rfl, rfl⟩

end Go.Proofs.YtlmnhnimneimkaaDoor
