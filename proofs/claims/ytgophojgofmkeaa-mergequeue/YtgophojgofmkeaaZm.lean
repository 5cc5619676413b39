/-
  Sorted of package merge.
-/
import Derived.Test.YtgophojgofmkeaaZl
namespace Go.Proofs.Ytgophojgofmkeaa.Ck
open Go.RowKit Go.Maps

/-- A slice of slices of operations. -/
structure ListsAt (w : World) (p : Option Addr) (vs : List Value) (Ls : List (List OT)) : Prop where
  len : vs.length = Ls.length
  row : 0 < vs.length → ∃ g cs, p = some ⟨g, 0, none⟩ ∧ w.heap[g]? = some (.cells cs 25 (0, 0)) ∧ ∀ (i : Nat) (v : Value), vs[i]? = some v → cs[i]? = some v
  each : ∀ (i : Nat) (v : Value) (l : List OT), vs[i]? = some v → Ls[i]? = some l → RowO w 0 v l
theorem ListsAt.below {w w' : World} {p : Option Addr} {vs : List Value} {Ls : List (List OT)} (h : ListsAt w p vs Ls) (hb : Below w.heap.size w w') : ListsAt w' p vs Ls :=
  ⟨h.len, fun h0 => by
    obtain ⟨g, cs, e, hg, hc⟩ := h.row h0
    exact ⟨g, cs, e, (hb.block g (block_lt hg)).trans hg, hc⟩, fun i v l hv hl => (h.each i v l hv hl).below hb⟩
theorem RowO.low {w : World} {base b : Nat} {v : Value} {l : List OT} (h : RowO w base v l) (hb : b ≤ base) : RowO w b v l := by
  refine ⟨h.1, ?_⟩
  rcases h.2 with e | ⟨g, cp, cur, hv, hbs, r⟩
  · exact .inl e
  · exact .inr ⟨g, cp, cur, hv, by omega, r⟩

def z0 : OT := ⟨0, 0, 0⟩
theorem flatO_rep : ∀ n j, j < n * 11 → (flatO (List.replicate n z0))[j]? = (opL z0)[j % 11]? := by
  intro n j hj
  have h := flatO_at (List.replicate n z0) (j / 11) (j % 11) z0 (by rw [List.getElem?_replicate, if_pos (by omega)]) (by omega)
  rw [show j / 11 * 11 + j % 11 = j by omega] at h
  exact h
theorem made_ops (n : Nat) : (madeCells (opv 0 0 0).cells (n * 11)).toList = flatO (List.replicate n z0) := by
  apply List.ext_getElem?
  intro j
  by_cases hj : j < n * 11
  · rw [flatO_rep n j hj]
    have hz : (opv 0 0 0).cells.toList = opL z0 := rfl
    have hs : (opv 0 0 0).cells.size = 11 := rfl
    have h11 : j % 11 < 11 := Nat.mod_lt _ (by decide)
    simp only [madeCells, Array.toList_map, List.getElem?_map, Array.toList_range, hs]
    rw [List.getElem?_range hj, Option.map_some]
    rw [← hz, Array.getElem?_toList, Array.getElem?_eq_getElem (by rw [hs]; exact h11), getElem!_pos _ _ (by rw [hs]; exact h11)]
  · rw [List.getElem?_eq_none (by rw [Array.length_toList, size_madeCells]; omega), List.getElem?_eq_none (by rw [flatO_length, List.length_replicate]; omega)]

abbrev LC : Value := .func (.func 17) #[] #[]
/-- What the pushing keeps. -/
structure PushI (w wr : World) (c : Nat) (l : List OT) : Prop where
  ql : QL wr (mkQ w.heap.size c LC false l.length) (enumO 0 l)
  bel : Below w.heap.size w wr
theorem PushI.below {w wr W : World} {c : Nat} {l : List OT} (h : PushI w wr c l) (hb : Below wr.heap.size wr W) : PushI w W c l := ⟨h.ql.below hb, h.bel.trans (hb.mono h.bel.size)⟩
theorem push_I (w : World) (c : Nat) (l : List OT) (x : OT) (wr : World) (h : PushI w wr c l) (hr : Rng x.t x.n) (hl : l.length ≤ 1000) :
    Calls Try.prog 13 #[ep c, opv x.t x.n x.k] wr fun e w' => e = .returned (.tuple #[]) ∧ PushI w w' c (l ++ [x]) := by
  refine (push_any (mkQ w.heap.size c LC false l.length) (enumO 0 l) x.t x.n x.k wr h.ql hr (by show l.length < 900000; omega) (by rw [enumO_length]; omega)).mono ?_
  rintro e w' ⟨rfl, h1, h2⟩
  refine ⟨rfl, ?_, h.bel.trans (h2.toBelow h.bel.size)⟩
  rw [enumO_snoc, List.length_append, Nat.zero_add]
  exact h1

/-- What the popping keeps. -/
structure PopI (w wr : World) (c g n : Nat) (l : List OT) (P L : List QE) : Prop where
  ql : ∃ cm, QL wr (mkQ w.heap.size c LC false cm) L
  outs : Outs (keyE false) (enumO 0 l) P L
  row : RowO wr w.heap.size (.slice (some ⟨g, 0, none⟩) n n) (P.map strip ++ List.replicate (n - P.length) z0)
  bel : Below w.heap.size w wr
  len : l.length = n ∧ P.length ≤ n
theorem PopI.left {w wr : World} {c g n : Nat} {l : List OT} {P L : List QE} (h : PopI w wr c g n l P L) : P.length + L.length = n := by
  have := h.outs.perm.length_eq
  rw [List.length_append, enumO_length, h.len.1] at this
  exact this
theorem pop_I (w : World) (c g n : Nat) (l : List OT) (P L : List QE) (wr : World) (h : PopI w wr c g n l P L) (hr : RngL l) (hl : l.length ≤ 1000) (hn : P.length < n) :
    Calls Try.prog 15 #[ep c] wr fun e w' => ∃ x L', e = .returned (.tuple #[opv x.t x.n x.k, .bool true]) ∧ Outs (keyE false) (enumO 0 l) (P ++ [x]) L' ∧ (∃ cm, QL w' (mkQ w.heap.size c LC false cm) L') ∧ RowO w' w.heap.size (.slice (some ⟨g, 0, none⟩) n n) (P.map strip ++ List.replicate (n - P.length) z0) ∧ Below w.heap.size w w' := by
  obtain ⟨cm, hq⟩ := h.ql
  have hL : L ≠ [] := fun e => by have := h.left; rw [e] at this; simp at this; omega
  refine (pop_some _ L wr hq hL).mono ?_
  rintro e w' ⟨x, L', rfl, h1, h2, h3, h4⟩
  refine ⟨x, L', rfl, h.outs.pop (enumO_keys hr (by omega)) h1.2 h2, ⟨_, h3⟩, h.row.fm h4, h.bel.trans (h4.toBelow h.bel.size)⟩

set_option maxRecDepth 8000 in
set_option maxHeartbeats 4000000 in
theorem sorted_any (p : Option Addr) (vs : List Value) (cp : Nat) (Ls : List (List OT)) (w : World) (h : ListsAt w p vs Ls) (hr : RngL Ls.flatten) (hl : Ls.flatten.length ≤ 1000) (hm : vs.length ≤ 1000) :
    Calls Try.prog 7 #[.slice p vs.length cp] w fun e w' => ∃ v' S, e = .returned v' ∧ RowO w' w.heap.size v' S ∧ IsSorted Ls.flatten S ∧ Below w.heap.size w w' := by
  obtain ⟨c, hc⟩ : ∃ c, w.heap.size = c := ⟨_, rfl⟩
  have cN : Calls Try.prog 12 #[LC] w fun e w' => e = .returned (ep c) ∧ PushI w w' c [] := (new_any w.heap.size LC false lessIs_clock w (Nat.le_refl _)).mono fun e w' ⟨h0, h1, h2⟩ => ⟨by rw [← hc]; exact h0, ⟨by rw [← hc]; exact h1, h2⟩⟩
  have H0 : Hid (ListsAt w p vs Ls ∧ RngL Ls.flatten) := ⟨h, hr⟩
  clear h hr hc
  go_enter Try.func7, Try.ntmps7
  go_wp2_with (go_at_call 12; refine cN.mono ?_; rintro e w1 ⟨rfl, h1⟩; clear cN; have H1 : Hid (PushI w w1 c []) := h1; clear h1)
  have hmm : vs.length = Ls.length := H0.out.1.len
  obtain ⟨m, hm2⟩ : ∃ m, vs.length = m := ⟨_, rfl⟩
  have HM : Hid (vs.length = m ∧ Ls.length = m) := ⟨hm2, by omega⟩
  rw [hm2] at hm ⊢
  clear hmm hm2
  go_loopw [13] (fun vi wr => ∃ i : Nat, vi = .int .i64 i ∧ i ≤ m ∧ Hid (PushI w wr c (Ls.take i).flatten)) (fun vi _ => m - (intOf vi).toNat)
  case atStart => exact ⟨0, rfl, Nat.zero_le _, by rw [List.take_zero]; exact H1⟩
  case round =>
    clear H1
    obtain ⟨i, rfl, hi, HI⟩ := hrel
    by_cases him : i = m
    · obtain ⟨n, hn⟩ : ∃ n, Ls.flatten.length = n := ⟨_, rfl⟩
      have hP : PushI w wr c Ls.flatten := by
        have := HI.out
        rw [him, ← HM.out.2, List.take_length] at this
        exact this
      have cN := qlen_any _ _ wr hP.ql
      rw [enumO_length, hn] at cN
      rw [hn] at hl
      obtain ⟨i0, hi0, hz0, hz1, hz2⟩ := infoOpA
      obtain ⟨M, hM⟩ : ∃ M, M = madeCells (opv 0 0 0).cells (n * 11) := ⟨_, rfl⟩
      have hmk : (Instr.makeSlice 25 (.int .i64 (n : Int)) (.int .i64 (n : Int))).run Try.prog wr = .ok (.slice (some ⟨wr.heap.size, 0, none⟩) n n) (wr.alloc (.cells M 33)) := by
        have hh := run_make (P := Try.prog) wr 25 33 i0 (opv 0 0 0) Try.underlying25 hi0 hz0 .i64 .i64 (n : Int) (n : Int) (by omega) (by omega) (by rw [hz2]; omega) (by omega)
        rw [hz1, Int.toNat_natCast, ← hM] at hh
        exact hh
      have HS : Hid (PopI w (wr.alloc (.cells M 33)) c wr.heap.size n Ls.flatten [] (enumO 0 Ls.flatten)) := by
        have hB := (below_new wr (.cells M 33)).out
        refine ⟨⟨_, hP.ql.below hB⟩, Outs.start _ _, ⟨by rw [flatO_length], .inr ⟨wr.heap.size, n, M, by simp, hP.bel.size, heap_alloc_new wr _, by simp, by unfold maxLen; omega, by rw [hM, size_madeCells], ?_⟩⟩, hP.bel.trans (hB.mono hP.bel.size), hn, Nat.zero_le _⟩
        simp only [List.map_nil, List.nil_append, List.length_nil, Nat.sub_zero, List.length_replicate]
        rw [hM, ← made_ops, List.take_of_length_le (by rw [Array.length_toList, size_madeCells]; exact Nat.le_refl _)]
      have HN : Hid (Ls.flatten.length = n) := hn
      clear hi0 hz0 hz1 hz2 hM hn HI hP
      subst him
      go_wp2_with (go_at_call 16; refine Calls_on cN ?_; clear cN)
      obtain ⟨gS, hgS⟩ : ∃ gS, wr.heap.size = gS := ⟨_, rfl⟩
      rw [hgS] at HS ⊢
      clear hmk hgS
      go_loopw [33] (fun vk wr => ∃ (k : Nat) (P L : List QE), vk = .int .i64 k ∧ k ≤ n ∧ Hid (PopI w wr c gS n Ls.flatten P L ∧ P.length = k)) (fun vk _ => n - (intOf vk).toNat)
      case atStart => exact ⟨0, [], _, rfl, Nat.zero_le _, HS.out, rfl⟩
      case round =>
        clear HS
        obtain ⟨k, P, L, rfl, hk, HP⟩ := hrel
        by_cases hkn : k = n
        · subst hkn
          go_wp2_with fail
          go_ret
          obtain ⟨g1, g2⟩ := HP.out
          have hL : L = [] := by
            have := g1.left
            exact List.length_eq_zero_iff.1 (by omega)
          subst hL
          have hd := g1.outs.done
          refine ⟨_, P.map strip, rfl, ?_, ⟨P, rfl, hd.1, hd.2⟩, g1.bel⟩
          have := g1.row
          rw [g2, Nat.sub_self, List.replicate_zero, List.append_nil] at this
          exact this
        · have hklt : k < n := by omega
          have cP := pop_I w c gS n Ls.flatten P L wr HP.out.1 H0.out.2 (by rw [HN.out]; exact hl) (by rw [HP.out.2]; exact hklt)
          go_wp2_with (go_at_call 15; refine Stop.out ?_)
          refine Stop.mk ?_
          refine cP.mono ?_
          rintro e w3 ⟨x, L', rfl, k1, k2, k3, k4⟩
          have HR3 : Hid (RowO w3 w.heap.size (.slice (some ⟨gS, 0, none⟩) n n) (P.map strip ++ List.replicate (n - P.length) z0) ∧ k < (P.map strip ++ List.replicate (n - P.length) z0).length) := ⟨k3, by simp; have := HP.out.2; omega⟩
          have H3 : Hid (Outs (keyE false) (enumO 0 Ls.flatten) (P ++ [x]) L' ∧ (∃ cm, QL w3 (mkQ w.heap.size c LC false cm) L') ∧ Below w.heap.size w w3) := ⟨k1, k2, k4⟩
          clear cP k1 k2 k3 k4
          go_wp2_with (refine wpList_setOp rfl _ _ rfl w.heap.size gS n n k (P.map strip ++ List.replicate (n - P.length) z0) (strip x) rfl rfl HR3 ?_; intro w4 H4; refine Stop.out ?_)
          refine Stop.mk ?_
          go_wp2_with fail
          go_roundw
          case rel =>
            obtain ⟨a1, ⟨cm, a2⟩, a3⟩ := H3.out
            obtain ⟨b1, b2, b3⟩ := H4.out
            obtain ⟨g1, g2⟩ := HP.out
            have hgb : w.heap.size ≤ gS := by obtain ⟨_, _, _, hb, _⟩ := HR3.out.1.cur; exact hb
            obtain ⟨cur, hcur, _⟩ := HR3.out.1.cur
            refine ⟨k + 1, P ++ [x], L', rfl, by omega, ⟨⟨cm, a2.only b2 (fun g cs t fr hg hcs => ?_)⟩, a1, ?_, ?_, HN.out, by rw [List.length_append, g2]; simp; omega⟩, by rw [List.length_append, g2]; rfl⟩
            · have hg' : g = gS := hg
              subst hg'
              rw [hcur] at hcs
              injection hcs with hcs
              injection hcs with _ hcs _
              subst hcs
              exact ⟨by decide, by decide, by decide⟩
            · have e : (P.map strip ++ List.replicate (n - P.length) z0).set k (strip x) = (P ++ [x]).map strip ++ List.replicate (n - (P ++ [x]).length) z0 := by
                rw [List.set_append_right k _ (by rw [List.length_map, g2]; exact Nat.le_refl _), List.length_map, g2, Nat.sub_self]
                obtain ⟨r, hr⟩ : ∃ r, n - k = r + 1 := ⟨n - k - 1, by omega⟩
                rw [hr, List.replicate_succ, List.set_cons_zero, List.map_append, List.append_assoc, List.length_append, g2, show n - (k + [x].length) = r by simp; omega]
                rfl
              rw [← e]
              exact b1
            · exact ⟨b2.os.trans a3.os, b2.tape.trans a3.tape, b2.output.trans a3.output, Nat.le_trans a3.size b2.size, fun q hq => (b2.block q (by have := a3.size; omega) (by omega)).trans (a3.block q hq)⟩
          case measure => simp [intOf]; omega
    · have hlt : i < m := by omega
      obtain ⟨v, hv⟩ : ∃ v, vs[i]? = some v := ⟨_, List.getElem?_eq_getElem (by have := HM.out.1; omega)⟩
      obtain ⟨l, hL⟩ : ∃ l, Ls[i]? = some l := ⟨_, List.getElem?_eq_getElem (by have := HM.out.2; omega)⟩
      have hA := H0.out.1.below HI.out.bel
      have hR := hA.each i v l hv hL
      obtain ⟨pl, cl, rfl⟩ := hR.slice
      obtain ⟨g, cs, rfl, hg, hcs⟩ := hA.row (by have := HM.out.1; omega)
      have cI : wr.cell? ⟨g, i, none⟩ = some (.slice pl l.length cl) := by rw [cellOf hg]; exact hcs i _ hv
      have hsub : (Ls.take i).flatten.length + l.length ≤ Ls.flatten.length ∧ Ls.take (i + 1) = Ls.take i ++ [l] := by
        have e : Ls.take (i + 1) = Ls.take i ++ [l] := by rw [List.take_add_one, hL]; rfl
        refine ⟨?_, e⟩
        have h2 : Ls.flatten = (Ls.take (i + 1)).flatten ++ (Ls.drop (i + 1)).flatten := by rw [← List.flatten_append, List.take_append_drop]
        rw [h2, e, List.flatten_append]
        simp
      have hll : l.length ≤ 1000 := by omega
      have HL : Hid (RowO w 0 (.slice pl l.length cl) l ∧ RngL l ∧ (Ls.take i).flatten.length + l.length ≤ 1000 ∧ Ls.take (i + 1) = Ls.take i ++ [l]) := by
        refine ⟨H0.out.1.each i _ l hv hL, fun x hx => H0.out.2 x ?_, by omega, hsub.2⟩
        exact List.mem_flatten.2 ⟨l, List.mem_of_getElem? hL, hx⟩
      clear hA hR hg hcs hsub hv hL
      go_wp2_with fail
      go_loopw [19] (fun vj wr => ∃ j : Nat, vj = .int .i64 j ∧ j ≤ l.length ∧ Hid (PushI w wr c ((Ls.take i).flatten ++ l.take j))) (fun vj _ => l.length - (intOf vj).toNat)
      case atStart => exact ⟨0, rfl, Nat.zero_le _, by rw [List.take_zero, List.append_nil]; exact HI⟩
      case round =>
        clear HI
        obtain ⟨j, rfl, hj, HJ⟩ := hrel
        by_cases hjl : j = l.length
        · subst hjl
          go_wp2_with fail
          go_roundw
          case rel => exact ⟨i + 1, rfl, by omega, by rw [HL.out.2.2.2, List.flatten_append]; have := HJ; rw [List.take_length] at this; simpa using this⟩
          case measure => simp [intOf]; omega
        · have hjlt : j < l.length := by omega
          obtain ⟨x, hx⟩ : ∃ x, l[j]? = some x := ⟨_, List.getElem?_eq_getElem hjlt⟩
          have hRw := HL.out.1.below HJ.out.bel
          obtain ⟨g3, cap3, cur3, ev, _⟩ := hRw.form (by omega)
          have ev2 : pl = some ⟨g3, 0, none⟩ := by injection ev
          subst ev2
          obtain ⟨x0, x1, x2, x3, x4, x5, x6, x7, x8, x9, x10⟩ := hRw.cells hx
          have HP : Hid (∀ W, Below wr.heap.size wr W → Calls Try.prog 13 #[ep c, opv x.t x.n x.k] W fun e w' => e = .returned (.tuple #[]) ∧ PushI w w' c ((Ls.take i).flatten ++ l.take (j + 1))) := fun W hW => by
            have e : (Ls.take i).flatten ++ l.take (j + 1) = ((Ls.take i).flatten ++ l.take j) ++ [x] := by rw [List.take_add_one, hx, List.append_assoc]; rfl
            rw [e]
            refine push_I w c _ x W (HJ.out.below hW) (HL.out.2.1 x (List.mem_of_getElem? hx)) ?_
            have := HL.out.2.2.1
            rw [List.length_append, List.length_take]
            omega
          have HB : Hid (∀ o, Below wr.heap.size wr (wr.alloc o)) := fun o => (below_new wr o).out
          clear ev hx hRw
          go_wp2_with (go_at_call 13; refine (HP.out _ (HB.out _)).mono ?_; rintro e w3 ⟨rfl, h3⟩; have H3 : Hid (PushI w w3 c ((Ls.take i).flatten ++ l.take (j + 1))) := h3; clear h3)
          go_roundw
          case rel => exact ⟨j + 1, rfl, by omega, H3⟩
          case measure => simp [intOf]; omega
end Go.Proofs.Ytgophojgofmkeaa.Ck
