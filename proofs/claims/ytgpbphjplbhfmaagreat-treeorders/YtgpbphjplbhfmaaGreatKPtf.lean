import Derived.Test.YtgpbphjplbhfmaaGreatKPte

namespace Go.Proofs.YtgpbphjplbhfmaaGreat.Ck.Y.S
open Go.RowKit Go.Maps Go.Lib
def TurnsL (w : World) (p : Option Addr) (zs : List Int) : Prop := 0 < zs.length → ∃ g o, p = some ⟨g, o, none⟩ ∧ ∀ (i : Nat) (z : Int), zs[i]? = some z → w.cell? ⟨g, o + i, none⟩ = some (.int .i64 z) ∧ -9223372036854775808 ≤ z ∧ z < 9223372036854775808
theorem TurnsL.below {w w' : World} {p : Option Addr} {zs : List Int} (h : TurnsL w p zs) (hb : Below w.heap.size w w') : TurnsL w' p zs := fun hl => by
  obtain ⟨g, o, e, hc⟩ := h hl
  exact ⟨g, o, e, fun i z hz => ⟨cell_keptH (hc i z hz).1 hb, (hc i z hz).2⟩⟩
theorem Taken.perm {u : World} {l m : List OG} (h : Taken u l) (hp : m.Perm l) : Taken u m := ⟨fun o ho => h.each o (hp.mem_iff.1 ho), (hp.pairwise_iff (fun h e => h e.symm)).2 h.apart⟩
theorem run_copyG {w : World} {b : Nat} {v : Value} {l : List OG} (hr : RowG w b v l) (hl : l.length ≤ 1000) : ∃ p cp w', (Builtin.append_ #[22, 22] 22 #[.slice none 0 0, v]).run Tryz.prog w = .ok (.slice p l.length cp) w' ∧ RowG w' w.heap.size (.slice p l.length cp) l ∧ Below w.heap.size w w' := by
  obtain ⟨i0, hi0, hz0, hz1, hz2⟩ := infoOpG
  rcases hr.2 with ⟨rfl, h0⟩ | ⟨g, cap, cur, rfl, hb, hg, hn, hm, hs, ht⟩
  · have : l = [] := List.eq_nil_of_length_eq_zero h0
    subst this
    refine ⟨none, 0, w, ?_, RowG.nil _ _, Below.refl _ _⟩
    simp [Builtin.append_, run_underlying Tryz.underlying22, sizeOf, typeInfo, hi0, Builtin.lenOf, Builtin.firstCells]
  · obtain ⟨v', w', h1, h2, h3, _, _⟩ := run_append_own_at (P := Tryz.prog) w w.heap.size 22 22 34 i0 _ 11 128 Tryz.underlying22 hi0 hz0 hz1 hz2 rfl (by decide) (.slice none 0 0) 0 [] (World.ownsRow_nil w _ _ _) ⟨g, 0, none⟩ l.length cap (flatG l) (flatG_length l) (fun j u hj => by
      have hlt := (List.getElem?_eq_some_iff.1 hj).1
      rw [flatG_length] at hlt
      rw [Addr.add_lit, Nat.zero_add, cellOf hg j]
      rw [← ht, List.getElem?_take_of_lt hlt] at hj
      simpa using hj) (flatG_one l) (by unfold maxLen; omega) (by omega) (Nat.le_refl _)
    rw [Nat.zero_add, List.nil_append] at h2
    obtain ⟨p, c, rfl⟩ := own_slice h2
    exact ⟨p, c, w', h1, h2, ⟨h3.os, h3.tape, h3.output, h3.size, fun k hk => h3.block k hk (fun e => by cases e)⟩⟩
theorem wpList_copyG {w : World} {ops : Array Oper} {rest : List Oper} {o : Oper} {a : Act} {Q : Exit → Act → World → Prop} (hgd : o.guard = none) (s x : Operand) (ho : o.op = .call { callee := .builtin .append, args := #[s, x], argTypes := #[22, 22] }) (hty : o.type = 22)
    (b : Nat) (v : Value) (l : List OG) (hs : a.eval s = .slice none 0 0) (hx : a.eval x = v) (h : Hid (RowG w b v l ∧ l.length ≤ 1000)) (hK : ∀ p c w', Hid (RowG w' w.heap.size (.slice p l.length c) l ∧ Below w.heap.size w w') → wpList Tryz.prog ops Q rest (a.put o.dst (.slice p l.length c)) w') : wpList Tryz.prog ops Q (o :: rest) a w := by
  obtain ⟨p, cp, w', hr, hr1, hr2⟩ := run_copyG h.out.1 h.out.2
  refine wpList_plain hgd fun K hK' => ?_
  unfold Oper.wp execOp
  simp only [ho, hty, resolve, invoke, builtin, Sem.run_bind, Sem.run_pure, Result.andThen_ok, List.map_toArray, List.map_cons, List.map_nil, hs, hx, hr]
  exact hK' _ _ (hK p cp w' ⟨hr1, hr2⟩)
theorem perm_turn {l ms : List OG} {k : Nat} {x : OG} (hp : ms.Perm l) (hx : ms[k]? = some x) : (ms.take k ++ ms.drop (k + 1) ++ [x]).Perm l := by
  refine List.Perm.trans ?_ hp
  obtain ⟨hk, e⟩ := List.getElem?_eq_some_iff.1 hx
  have h1 : ms = ms.take k ++ x :: ms.drop (k + 1) := by rw [← e, ← List.drop_eq_getElem_cons hk, List.take_append_drop]
  have h2 : (ms.take k ++ x :: ms.drop (k + 1)).Perm (x :: (ms.take k ++ ms.drop (k + 1))) := List.perm_middle
  have h3 : (ms.take k ++ ms.drop (k + 1) ++ [x]).Perm (x :: (ms.take k ++ ms.drop (k + 1))) := List.perm_append_comm (l₁ := ms.take k ++ ms.drop (k + 1)) (l₂ := [x])
  rw [← h1] at h2
  exact h3.trans h2.symm
theorem RowG.part {w : World} {b g n c : Nat} {ms : List OG} (h : RowG w b (.slice (some ⟨g, 0, none⟩) n c) ms) (k : Nat) : (∀ j u, (flatG (ms.take k))[j]? = some u → w.cell? ((⟨g, 0, none⟩ : Addr).add j) = some u) ∧ (∀ j u, (flatG (ms.drop k))[j]? = some u → w.cell? ((⟨g, 0 + k * 11, none⟩ : Addr).add j) = some u) := by
  obtain ⟨cur, hg, hn, hb, h1, h2, h3, h4⟩ := h.cur
  have hat : ∀ j u, (flatG ms)[j]? = some u → w.cell? ⟨g, j, none⟩ = some u := fun j u hj => by
    have hlt := (List.getElem?_eq_some_iff.1 hj).1
    rw [flatG_length] at hlt
    rw [cellOf hg j]
    rw [← h4, List.getElem?_take_of_lt (by rw [hn]; exact hlt)] at hj
    simpa using hj
  have hsp : flatG ms = flatG (ms.take k) ++ flatG (ms.drop k) := by rw [← flatG_append, List.take_append_drop]
  refine ⟨fun j u hj => ?_, fun j u hj => ?_⟩
  · rw [Addr.add_lit, Nat.zero_add]
    exact hat j u (by rw [hsp, List.getElem?_append_left (List.getElem?_eq_some_iff.1 hj).1]; exact hj)
  · rw [Addr.add_lit, Nat.zero_add]
    by_cases hk : k ≤ ms.length
    · have hlk : (flatG (ms.take k)).length = k * 11 := by rw [flatG_length, List.length_take]; omega
      refine hat (k * 11 + j) u ?_
      rw [hsp, List.getElem?_append_right (by omega), hlk, Nat.add_sub_cancel_left]
      exact hj
    · rw [List.drop_of_length_le (by omega)] at hj
      simp [flatG] at hj
end Go.Proofs.YtgpbphjplbhfmaaGreat.Ck.Y.S
