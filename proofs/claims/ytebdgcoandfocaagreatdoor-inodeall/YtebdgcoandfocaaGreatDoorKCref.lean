/-
  Frame of the document's own text.
-/
import Derived.Test.YtebdgcoandfocaaGreatDoorKCframe
import Derived.Deep.AppendLies
import Derived.Laws.OwnMore

namespace Go.Proofs.YtebdgcoandfocaaGreatDoor
open Go.RowKit

theorem run_append_none_any {P : Program} {w : World} (base : Nat) (t ty e : TypeId) (i : TypeInfo) (size : Nat) (ht : P.underlying t = some (.slice e)) (hi : P.info? e = some i)
    (v : Value) (n : Nat) (xs : List Value) (hown : w.ownsRow base e size v n xs) (c : Nat) :
    (Builtin.append_ #[t, t] ty #[v, .slice none 0 c]).run P w = .ok v w := by
  rcases hown.2 with ⟨rfl, rfl⟩ | ⟨g, cap, cur, rfl, _, _, hnc, _⟩
  · simp [Builtin.append_, run_underlying ht, sizeOf, typeInfo, hi, Builtin.lenOf, Builtin.firstCells]
  · simp [Builtin.append_, run_underlying ht, sizeOf, typeInfo, hi, Builtin.lenOf, Builtin.firstCells, hnc, storeCells]

theorem run_append_bytes {W : World} {base : Nat} {v : Value} {n : Nat} {xs : List Value} (ty : TypeId) (hown : W.ownsRow base 5 1 v n xs) (p : Option Addr) (bs : List (BitVec 8)) (cp : Nat) (hb : Bytes W p bs)
    (h63 : n + bs.length ≤ 1099511627776) (hbase : base ≤ W.heap.size) :
    ∃ v' W', (Builtin.append_ #[30, 30] ty #[v, .slice p bs.length cp]).run Tryz.prog W = .ok v' W' ∧ W'.ownsRow base 5 1 v' (n + bs.length) (xs ++ bs.map u8v) ∧ W.grownBy W' v.ownBlock ∧ (v'.ownBlock = v.ownBlock ∨ v'.ownBlock = some W.heap.size) := by
  obtain ⟨i0, hi0, hz0, hz1, hz2⟩ := info_parts Tryz.info5
  rcases p with _ | ad
  · have h0 : bs = [] := by
      by_cases hl : 0 < bs.length
      · obtain ⟨_, _, h, _⟩ := hb hl; cases h
      · exact List.eq_nil_of_length_eq_zero (by omega)
    subst h0
    refine ⟨v, W, run_append_none_any base 30 ty 5 i0 1 Tryz.underlying30 hi0 v n xs hown cp, by simpa using hown, ⟨rfl, rfl, rfl, Nat.le_refl _, fun _ _ _ => rfl⟩, .inl rfl⟩
  · obtain ⟨v', w', hr, h2, h3, _, h5⟩ := run_append_own_at (P := Tryz.prog) W base 30 ty 5 i0 (.int .u8 0) 1 1 Tryz.underlying30 hi0 hz0 hz1 hz2 rfl (by decide) v n xs hown ad bs.length cp (bs.map u8v) (by simp)
      (fun j u hj => by
        rw [List.getElem?_map] at hj
        obtain ⟨x, hx, rfl⟩ := Option.map_eq_some_iff.1 hj
        obtain ⟨b, o, e, hc⟩ := hb (Nat.lt_of_le_of_lt (Nat.zero_le _) (List.getElem?_eq_some_iff.1 hx).1)
        cases e
        rw [Addr.add_lit]
        exact hc j x hx) (u8v_one bs) (by unfold maxLen; omega) (by omega) hbase
    exact ⟨v', w', hr, h2, h3, h5⟩

theorem wpList_append_bytes {W : World} {ops : Array Oper} {rest : List Oper} {o : Oper} {a : Act} {Q : Exit → Act → World → Prop} (hgd : o.guard = none) (s x : Operand)
    (ho : o.op = .call { callee := .builtin .append, args := #[s, x], argTypes := #[30, 30] })
    (base : Nat) (v : Value) (n : Nat) (xs : List Value) (hs : a.eval s = v) (hown : W.ownsRow base 5 1 v n xs)
    (p : Option Addr) (bs : List (BitVec 8)) (cp : Nat) (hx : a.eval x = .slice p bs.length cp) (hb : Bytes W p bs) (h63 : n + bs.length ≤ 1099511627776) (hbase : base ≤ W.heap.size)
    (h : ∀ v' w', w'.ownsRow base 5 1 v' (n + bs.length) (xs ++ bs.map u8v) → W.grownBy w' v.ownBlock → (v'.ownBlock = v.ownBlock ∨ v'.ownBlock = some W.heap.size) → wpList Tryz.prog ops Q rest (a.put o.dst v') w') :
    wpList Tryz.prog ops Q (o :: rest) a W := by
  refine wpList_plain hgd fun K hK => ?_
  obtain ⟨v', w', hr, h2, h3, h5⟩ := run_append_bytes (ty := o.type) hown p bs cp hb h63 hbase
  unfold Oper.wp execOp
  simp only [ho, resolve, invoke, builtin, Sem.run_bind, Sem.run_pure, Result.andThen_ok, List.map_toArray, List.map_cons, List.map_nil, hs, hx, hr]
  exact hK _ _ (h v' w' h2 h3 h5)

/-- The bytes of a row that the call owns. -/
theorem owns_bytes {W : World} {base : Nat} {v : Value} {n : Nat} {bs : List (BitVec 8)} (h : W.ownsRow base 5 1 v n (bs.map u8v)) (hn : 0 < n) :
    ∃ g cap, v = .slice (some ⟨g, 0, none⟩) n cap ∧ base ≤ g ∧ Bytes W (some ⟨g, 0, none⟩) bs := by
  obtain ⟨g, cap, rfl, hg, _⟩ := h.form hn
  refine ⟨g, cap, rfl, hg, fun _ => ⟨g, 0, rfl, fun j x hj => ?_⟩⟩
  have hlen := h.1
  rw [List.length_map] at hlen
  have hlt := (List.getElem?_eq_some_iff.1 hj).1
  rw [Nat.zero_add, h.cellAt j (by omega), List.getElem?_map, hj]
  rfl

/-- The bytes of a whole block. -/
theorem bytes_block {W : World} {g : Nat} {bs : List (BitVec 8)} {f : Nat × Nat} (h : W.heap[g]? = some (.cells (bs.map u8v).toArray 5 f)) : Bytes W (some ⟨g, 0, none⟩) bs := by
  refine fun _ => ⟨g, 0, rfl, fun j x hj => ?_⟩
  rw [Nat.zero_add, cellOf h j, List.getElem?_toArray, List.getElem?_map, hj]
  rfl

end Go.Proofs.YtebdgcoandfocaaGreatDoor
