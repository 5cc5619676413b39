/-
  The law CrcParts returns true.
-/
import Derived.Test.YtlmnhnimneimkaaDoorSpoilt
namespace Go.Proofs.YtlmnhnimneimkaaDoor
open Go.RowKit

theorem Tryd.info26 : (Tryd.prog.info? 26).map (fun i => (i.zero, i.size, i.bytes)) = some (some (.slice none 0 0), 1, 24) := by kernel_rfl

/-- A part, cut to sixty bytes; a part's value; the first i parts, cut. -/
def cut (x : Part) : Part := ⟨x.at_, x.cap, x.bytes.take 60⟩
def pv (x : Part) : Value := .slice x.at_ x.bytes.length x.cap
def cuts (ps : List Part) (i : Nat) : List Part := (ps.take i).map cut

theorem cuts_step (ps : List Part) (i : Nat) (x : Part) (hx : ps[i]? = some x) : cuts ps (i + 1) = cuts ps i ++ [cut x] := by
  unfold cuts
  rw [List.take_add_one, hx]
  simp
theorem allBytes_snoc (l : List Part) (x : Part) : allBytes (l ++ [x]) = allBytes l ++ x.bytes := by simp [allBytes]
theorem cuts_length (ps : List Part) (i : Nat) (h : i ≤ ps.length) : (cuts ps i).length = i := by simp [cuts]; omega
theorem allBytes_le (l : List Part) (h : ∀ x ∈ l, x.bytes.length ≤ 60) : (allBytes l).length ≤ 60 * l.length := by
  induction l with
  | nil => simp [allBytes]
  | cons a l ih =>
    have h1 := ih (fun x hx => h x (List.mem_cons_of_mem _ hx))
    have h2 := h a (List.mem_cons_self ..)
    have : allBytes (a :: l) = a.bytes ++ allBytes l := rfl
    rw [this, List.length_append, List.length_cons]
    omega
theorem cuts_le (ps : List Part) (i : Nat) (h : i ≤ ps.length) : (allBytes (cuts ps i)).length ≤ 60 * i := by
  have := allBytes_le (cuts ps i) (fun x hx => by
    unfold cuts at hx
    obtain ⟨y, _, rfl⟩ := List.mem_map.1 hx
    simp [cut]; omega)
  rw [cuts_length ps i h] at this
  exact this

/-- A row that the call owns is left by what turns another block. -/
theorem own_grown {W W' : World} {row : Option Nat} {base e : Nat} {v : Value} {n : Nat} {xs : List Value} (h : W.ownsRow base e 1 v n xs) (hg : W.grownBy W' row) (hne : ∀ b, v.ownBlock = some b → some b ≠ row) : W'.ownsRow base e 1 v n xs := by
  refine ⟨h.1, ?_⟩
  rcases h.2 with h0 | ⟨g, cap, cur, rfl, hb, hgg, r⟩
  · exact .inl h0
  · exact .inr ⟨g, cap, cur, rfl, hb, (hg.block g (Array.getElem?_eq_some_iff.1 hgg).1 (hne g rfl)).trans hgg, r⟩
theorem own_block {W : World} {base e : Nat} {v : Value} {n : Nat} {xs : List Value} (h : W.ownsRow base e 1 v n xs) {b : Nat} (hb : v.ownBlock = some b) : base ≤ b ∧ ∃ cur, W.heap[b]? = some (.cells cur e (0, 0)) := by
  rcases h.2 with ⟨rfl, _⟩ | ⟨g, cap, cur, rfl, hb', hgg, r⟩
  · cases hb
  · cases hb
    exact ⟨hb', cur, hgg⟩
theorem grown_set (w : World) (p : Addr) (u : Value) : w.grownBy (w.setCell p u) (some p.block) :=
  ⟨rfl, rfl, rfl, by simp [World.setCell], fun k _ hk => Below.heap_setCell _ _ _ _ (fun e => hk (by rw [e]))⟩
theorem tag_ne {W : World} {a b : Nat} {cs ds : Array Value} {s t : TypeId} (h : W.heap[a]? = some (.cells cs s (0, 0))) (k : W.heap[b]? = some (.cells ds t (0, 0))) (hne : s ≠ t) : a ≠ b := by
  rintro rfl
  rw [h] at k
  cases k
  exact hne rfl

/-- What holds ahead of round i. -/
structure PInv (w wr : World) (a : Nat) (ps : List Part) (i : Nat) (va vl : Value) : Prop where
  sum : IsSum wr a (crcSum (allBytes (cuts ps i)))
  all : wr.ownsRow w.heap.size 5 1 va (allBytes (cuts ps i)).length ((allBytes (cuts ps i)).map u8v)
  row : wr.ownsRow w.heap.size 26 1 vl i ((cuts ps i).map pv)
  bel : Below w.heap.size w wr
  lo : w.heap.size ≤ a

/-- The parts that lie in a row that the call owns. -/
theorem parts_own {w wr : World} {ps : List Part} {q : Option Addr} (hp : Parts w q ps) (hB : Below w.heap.size w wr) {i : Nat} (hi : i ≤ ps.length) {g c : Nat} {base : Nat} (h : wr.ownsRow base 26 1 (.slice (some ⟨g, 0, none⟩) i c) i ((cuts ps i).map pv)) :
    Parts wr (some ⟨g, 0, none⟩) (cuts ps i) := by
  refine ⟨fun _ => ⟨g, 0, rfl, fun j x hj => ?_⟩, fun j x hj => ?_⟩
  · have hlt : j < i := by have := (List.getElem?_eq_some_iff.1 hj).1; rw [cuts_length ps i hi] at this; exact this
    rw [Nat.zero_add, h.cellAt j (by omega), List.getElem?_map, hj]
    rfl
  · unfold cuts at hj
    rw [List.getElem?_map, List.getElem?_take] at hj
    split at hj
    · obtain ⟨y, hy, rfl⟩ := Option.map_eq_some_iff.1 hj
      obtain ⟨h1, h2⟩ := hp.2 j y hy
      refine ⟨by simp [cut]; omega, ?_⟩
      have hb := below_bytes hB h2
      intro hl
      have hl' : 0 < y.bytes.length := by simp [cut] at hl; omega
      obtain ⟨g, o, he, hx⟩ := hb hl'
      refine ⟨g, o, he, fun k z hk => ?_⟩
      simp only [cut, List.getElem?_take] at hk
      split at hk
      · exact hx k z hk
      · cases hk
    · simp at hj

theorem own_below {W W' : World} {base e : Nat} {v : Value} {n : Nat} {xs : List Value} (h : W.ownsRow base e 1 v n xs) (hb : Below W.heap.size W W') : W'.ownsRow base e 1 v n xs := by
  refine ⟨h.1, ?_⟩
  rcases h.2 with h0 | ⟨g, cap, cur, rfl, hb', hgg, r⟩
  · exact .inl h0
  · exact .inr ⟨g, cap, cur, rfl, hb', (hb.block g (Array.getElem?_eq_some_iff.1 hgg).1).trans hgg, r⟩

/-- What holds behind the append onto the row of parts. -/
structure PMid (w w' : World) (a : Nat) (ps : List Part) (i : Nat) (va : Value) (x : Part) (vl' : Value) : Prop where
  sum : IsSum w' a (crcSum (allBytes (cuts ps i)))
  all : w'.ownsRow w.heap.size 5 1 va (allBytes (cuts ps i)).length ((allBytes (cuts ps i)).map u8v)
  row : w'.ownsRow w.heap.size 26 1 vl' (i + 1) ((cuts ps i).map pv ++ [pv (cut x)])
  bel : Below w.heap.size w w'
  lo : w.heap.size ≤ a

theorem pinv_row {w wr : World} {a : Nat} {ps : List Part} {i : Nat} {va vl : Value} (h : PInv w wr a ps i va vl) {x : Part} {w2 : World} {vl' : Value} (h1 : Below wr.heap.size wr w2)
    {w2' : World} (hrow : w2'.ownsRow w.heap.size 26 1 vl' (i + 1) ((cuts ps i).map pv ++ [pv (cut x)])) (hg : w2.grownBy w2' vl.ownBlock) : PMid w w2' a ps i va x vl' := by
  have hl2 := own_below h.row h1
  have ha2 := own_below h.all h1
  have hB2 : Below w.heap.size w w2 := h.bel.trans (h1.mono h.bel.size)
  have hs2 : IsSum w2 a (crcSum (allBytes (cuts ps i))) := (h1.block a (Array.getElem?_eq_some_iff.1 h.sum).1).trans h.sum
  refine ⟨?_, ?_, hrow, hB2.grown hg hB2.size (fun k hk => (own_block hl2 hk).1), h.lo⟩
  · exact (hg.block a (Array.getElem?_eq_some_iff.1 hs2).1 (fun e => by
      obtain ⟨_, cur, hc⟩ := own_block hl2 e.symm
      exact tag_ne hs2 hc (by decide) rfl)).trans hs2
  · refine own_grown ha2 hg (fun b hb e => ?_)
    obtain ⟨_, cur, hc⟩ := own_block hl2 e.symm
    obtain ⟨_, cur', hc'⟩ := own_block ha2 hb
    exact tag_ne hc' hc (by decide) rfl

theorem pmid_all {w w2 : World} {a : Nat} {ps : List Part} {i : Nat} {va vl' : Value} {x : Part} (h : PMid w w2 a ps i va x vl') (hx : ps[i]? = some x) {w3 : World} {va' : Value}
    (hall : w3.ownsRow w.heap.size 5 1 va' ((allBytes (cuts ps i)).length + (cut x).bytes.length) ((allBytes (cuts ps i)).map u8v ++ (cut x).bytes.map u8v)) (hg : w2.grownBy w3 va.ownBlock) :
    IsSum w3 a (crcSum (allBytes (cuts ps i))) ∧ Below w.heap.size w w3 ∧ PInv w (w3.setCell ⟨a, 0, none⟩ (u32v (crcSum (allBytes (cuts ps (i + 1)))))) a ps (i + 1) va' vl' := by
  have hB3 : Below w.heap.size w w3 := h.bel.grown hg h.bel.size (fun k hk => (own_block h.all hk).1)
  have hs3 : IsSum w3 a (crcSum (allBytes (cuts ps i))) := (hg.block a (Array.getElem?_eq_some_iff.1 h.sum).1 (fun e => by
    obtain ⟨_, cur, hc⟩ := own_block h.all e.symm
    exact tag_ne h.sum hc (by decide) rfl)).trans h.sum
  have hr3 : w3.ownsRow w.heap.size 26 1 vl' (i + 1) ((cuts ps i).map pv ++ [pv (cut x)]) := by
    refine own_grown h.row hg (fun b hb e => ?_)
    obtain ⟨_, cur, hc⟩ := own_block h.all e.symm
    obtain ⟨_, cur', hc'⟩ := own_block h.row hb
    exact tag_ne hc' hc (by decide) rfl
  have e1 : allBytes (cuts ps (i + 1)) = allBytes (cuts ps i) ++ (cut x).bytes := by rw [cuts_step ps i x hx, allBytes_snoc]
  refine ⟨hs3, hB3, hs3.set _, ?_, ?_, hB3.setCell h.lo _, h.lo⟩
  · rw [e1, List.length_append, List.map_append]
    refine own_grown hall (grown_set _ _ _) (fun b hb e => ?_)
    obtain ⟨_, cur', hc'⟩ := own_block hall hb
    cases e
    exact tag_ne hc' hs3 (by decide) rfl
  · rw [cuts_step ps i x hx, List.map_append]
    refine own_grown hr3 (grown_set _ _ _) (fun b hb e => ?_)
    obtain ⟨_, cur', hc'⟩ := own_block hr3 hb
    cases e
    exact tag_ne hc' hs3 (by decide) rfl

theorem sum_more (L bs : List (BitVec 8)) : ~~~ (crcOf (~~~ (crcSum L)) bs) = crcSum (L ++ bs) := by
  unfold crcSum
  rw [BitVec.not_not, crcOf_append]

theorem cut_bytes {w wr : World} {p : Option Addr} {bs : List (BitVec 8)} (hb : Bytes w p bs) (hB : Below w.heap.size w wr) (n : Nat) : Bytes wr p (bs.take n) := by
  intro hl
  have hl' : 0 < bs.length := by simp at hl; omega
  obtain ⟨g, o, he, hx⟩ := below_bytes hB hb hl'
  refine ⟨g, o, he, fun k z hk => ?_⟩
  rw [List.getElem?_take] at hk
  split at hk
  · exact hx k z hk
  · cases hk

/-- Behind the last round: the sum of the row of parts. -/
theorem pinv_end {w wr : World} {a : Nat} {ps : List Part} {i : Nat} {va vl : Value} {q : Option Addr} (h : PInv w wr a ps i va vl) (ht : Tab w) (hp : Parts w q ps) (hi : i ≤ ps.length) (hi8 : i ≤ 8) :
    (∃ ql cl, vl = .slice ql i cl ∧ Calls Tryd.prog 13 #[.slice ql i cl] wr fun e w' => e = .returned (u32v (crcSum (allBytes (cuts ps i)))) ∧ Below wr.heap.size wr w') ∧ Below w.heap.size w wr := by
  refine ⟨?_, h.bel⟩
  have ht' := below_tab h.bel ht.lt ht
  have hn := cuts_length ps i hi
  have hr := h.row
  rcases h.row.2 with ⟨rfl, h0⟩ | ⟨g, cap, cur, rfl, _⟩
  · refine ⟨none, 0, by rw [h0], ?_⟩
    have he : cuts ps i = [] := List.eq_nil_of_length_eq_zero (by omega)
    rw [he, h0]
    exact of_any none [] 0 wr ht' (by decide) ⟨fun h => by simp at h, fun j x hj => by simp at hj⟩
  · refine ⟨some ⟨g, 0, none⟩, cap, rfl, ?_⟩
    have := of_any (some ⟨g, 0, none⟩) (cuts ps i) cap wr ht' (by omega) (parts_own hp h.bel hi hr)
    rw [hn] at this
    exact this

set_option maxRecDepth 4000 in
set_option maxHeartbeats 2000000 in
theorem parts_any (q : Option Addr) (ps : List Part) (c : Nat) (w : World) (ht : Tab w) (hl : ps.length < 9223372036854775808) (hp : Parts w q ps) (hcap : ∀ (j : Nat) (x : Part), ps[j]? = some x → x.bytes.length ≤ x.cap) :
    Calls Tryd.prog 3 #[.slice q ps.length c] w fun e w' => e = .returned (.bool true) ∧ Below w.heap.size w w' := by
  obtain ⟨i5, hi5, hz50, hz51, hz52⟩ := info_parts Tryd.info26
  have HT : Hid (Tab w) := ht
  have HP : Hid (Parts w q ps) := hp
  have cb := begun_any w ht
  clear ht hp
  go_enter Tryd.func3, Tryd.ntmps3
  go_wp2_with fail
  refine cb.mono ?_
  rintro e w1 ⟨rfl, hB1⟩
  clear cb
  go_wp2_with fail
  refine (new_any w1).mono ?_
  rintro e w2 ⟨rfl, hw2⟩
  have hs2 : IsSum w2 w1.heap.size 0#32 := by rw [hw2]; exact new_sum w1
  have hB2 : Below w.heap.size w w2 := by rw [hw2]; exact hB1.alloc hB1.size _
  have H0 : Hid (PInv w w2 w1.heap.size ps 0 (.slice none 0 0) (.slice none 0 0)) := ⟨by rw [show allBytes (cuts ps 0) = [] from rfl, show crcSum [] = 0#32 by decide +kernel]; exact hs2, owns_nil _ _, ⟨rfl, .inl ⟨rfl, rfl⟩⟩, hB2, hB1.size⟩
  generalize w1.heap.size = a at H0 ⊢
  clear hs2 hB2 hw2 hB1
  go_wp2_with fail
  go_loopw [5, 6, 7] (fun va vl ii wr => ∃ i : Nat, i ≤ ps.length ∧ i ≤ 8 ∧ ii = .int .i64 i ∧ Hid (PInv w wr a ps i va vl)) (fun _ _ ii _ => 8 - (intOf ii).toNat)
  case atStart => exact ⟨0, Nat.zero_le _, by omega, rfl, H0.out⟩
  case round =>
    obtain ⟨i, hi, hi8, rfl, HI⟩ := hrel
    by_cases h1 : i < ps.length
    · have h1I : (i : Int) < ps.length := by omega
      by_cases h2 : i < 8
      · have h2I : (i : Int) < 8 := by omega
        obtain ⟨b, o, rfl, hbs⟩ := HP.out.1 (by omega)
        obtain ⟨x, hx⟩ : ∃ x, ps[i]? = some x := ⟨_, List.getElem?_eq_getElem h1⟩
        obtain ⟨hxl, hxb⟩ := HP.out.2 i x hx
        have c1 : wr.cell? ⟨b, o + i, none⟩ = some (.slice x.at_ x.bytes.length x.cap) := (HI.out.bel.cell (p := ⟨b, o + i, none⟩) (cell_lt (hbs i x hx))).trans (hbs i x hx)
        obtain ⟨c9, hb9, hc9, hn9⟩ := short_any x.at_ x.bytes x.cap 60 wr (hcap i x hx) (by omega) (by omega) (below_bytes HI.out.bel hxb)
        obtain ⟨y, hy⟩ : ∃ y, y = cut x := ⟨_, rfl⟩
        have c9' : Calls Tryd.prog 9 #[.slice x.at_ x.bytes.length x.cap, .int .i64 (60 : Nat)] wr fun e w' => e = .returned (.slice y.at_ y.bytes.length y.cap) ∧ w' = wr := by rw [hy]; exact c9
        have hyb : Bytes wr y.at_ y.bytes := by rw [hy]; exact hb9
        have hyn : y.bytes.length ≤ 60 := by rw [hy]; exact hn9
        have hlS : (allBytes (cuts ps i)).length ≤ 420 := Nat.le_trans (cuts_le ps i hi) (by omega)
        have HY : Hid (y = cut x) := hy
        have HX : Hid (ps[i]? = some x) := hx
        have hwb : Bytes w y.at_ y.bytes := by
          rw [hy]
          exact cut_bytes hxb (Below.refl _ _) 60
        have HYB : Hid (Bytes w y.at_ y.bytes) := hwb
        obtain ⟨xa, xc, xb⟩ := x
        obtain ⟨ya, yc, yb⟩ := y
        have hyn' : yb.length ≤ 60 := hyn
        rw [show ((60 : Nat) : Int) = 60 from rfl] at c9'
        clear hbs hx hxl hxb c9 hb9 hc9 hn9 hy hyb hyn hcap hwb
        have tokA : True := trivial
        go_wp2_with (first
          | (go_at_call 9; refine Calls_on c9' ?_)
          | (have tk := tokA
             refine wpList_append_lies _ rfl _ _ 22 rfl w.heap.size 26 i5 (.slice none 0 0) 1 24 Tryd.underlying22 hi5 hz50 hz51 hz52 rfl (by decide) _ i ((cuts ps i).map pv) rfl
               (own_below HI.out.row ((Below.refl _ _).alloc (Nat.le_refl _) _)) ⟨wr.heap.size, 0, none⟩ 1 1 [.slice ya yb.length yc] rfl rfl (cell_one_new _ _ _) (by intro u hu; simp at hu; subst hu; rfl) (by decide) (by unfold maxLen; omega) (by omega)
               (by have := HI.out.bel.size; simp; omega) _ rfl ?_
             clear tk tokA
             intro g cap w4 hr4 hg4 _ _
             have HM : Hid (PMid w w4 a ps i _ ⟨xa, xc, xb⟩ (.slice (some ⟨g, 0, none⟩) (i + 1) cap)) := pinv_row HI.out ((Below.refl _ _).alloc (Nat.le_refl _) _) (by rw [← HY.out]; exact hr4) hg4
             clear hr4 hg4
             have tokB : True := trivial)
          | (have tk := tokB
             refine wpList_append_bytes rfl _ _ rfl w.heap.size _ _ _ rfl HM.out.all ya yb yc rfl (below_bytes HM.out.bel HYB.out) (by omega) HM.out.bel.size ?_
             clear tk tokB
             intro va' w5 hown5 hg5 _
             obtain ⟨hs5, hB5, hP6⟩ := pmid_all HM.out HX.out (by rw [← HY.out]; exact hown5) hg5
             clear hown5 hg5
             have hsm := sum_more (allBytes (cuts ps i)) yb
             have e1 : allBytes (cuts ps (i + 1)) = allBytes (cuts ps i) ++ yb := by rw [cuts_step ps i _ HX.out, allBytes_snoc, ← HY.out]
             rw [← e1] at hsm
             have c10 := add_any a _ ya yb yc w5 (below_tab hB5 HT.out.lt HT.out) hs5 (by omega) (below_bytes hB5 HYB.out)
             rw [hsm] at c10
             obtain ⟨qa, ca, hva, hba⟩ := owns_slice hP6.all
             subst hva
             have hlS' : (allBytes (cuts ps (i + 1))).length ≤ 480 := by rw [e1, List.length_append]; omega
             obtain ⟨W6, hW6⟩ : ∃ W6, W6 = w5.setCell ⟨a, 0, none⟩ (u32v (crcSum (allBytes (cuts ps (i + 1))))) := ⟨_, rfl⟩
             rw [← hW6] at c10 hP6 hba
             have c11 := value_any a _ W6 (cellOf hP6.sum 0)
             have c12 := refOf_any qa _ ca W6 (by omega) hba
             have HP6 : Hid (PInv w W6 a ps (i + 1) (.slice qa (allBytes (cuts ps (i + 1))).length ca) (.slice (some ⟨g, 0, none⟩) (i + 1) cap)) := hP6
             generalize (allBytes (cuts ps (i + 1))) = S at c10 c11 c12 HP6 hlS' ⊢
             generalize crcSum S = sv at c10 c11 c12
             clear hs5 hB5 hP6 hba hW6 hsm e1)
          | (go_at_call 10; refine c10.mono ?_; rintro e w6 ⟨rfl, rfl⟩)
          | (go_at_call 11; refine Calls_on c11 ?_)
          | (go_at_call 12; refine Calls_on c12 ?_))
        exact ⟨⟨i + 1, by omega, by omega, by go_num, HP6⟩, by simp [intOf]; omega⟩
      · have h2I : ¬ (i : Int) < 8 := by omega
        clear hcap
        obtain ⟨cO, hBa⟩ := pinv_end HI.out HT.out HP.out hi hi8
        obtain ⟨qa, ca, hva, hba⟩ := owns_slice HI.out.all
        obtain ⟨ql, cl, hvl, cO⟩ := cO
        subst hva
        subst hvl
        have hlS : (allBytes (cuts ps i)).length ≤ 480 := Nat.le_trans (cuts_le ps i hi) (by omega)
        have HBA : Hid (Bytes wr qa (allBytes (cuts ps i))) := hba
        have HBW : Hid (Below w.heap.size w wr) := hBa
        clear hba hBa HI HP H0
        generalize allBytes (cuts ps i) = S at cO HBA hlS ⊢
        obtain ⟨sv, hsv⟩ : ∃ sv, sv = crcSum S := ⟨_, rfl⟩
        have c12 : ∀ W, Below wr.heap.size wr W → Calls Tryd.prog 12 #[.slice qa S.length ca] W fun e w' => e = .returned (u32v sv) ∧ w' = W := fun W hW => by
          rw [hsv]; exact refOf_any qa S ca W (by omega) (below_bytes hW HBA.out)
        rw [← hsv] at cO
        clear hsv
        go_wp2_with (first
          | (go_at_call 13; refine cO.mono ?_; rintro e w3 ⟨rfl, hB3⟩; clear cO)
          | (go_at_call 12; refine Calls_on (c12 _ hB3) ?_))
        go_ret
        exact ⟨by simp, HBW.out.trans (hB3.mono HBW.out.size)⟩
    · have h1I : ¬ (i : Int) < ps.length := by omega
      clear hcap
      obtain ⟨cO, hBa⟩ := pinv_end HI.out HT.out HP.out hi hi8
      obtain ⟨qa, ca, hva, hba⟩ := owns_slice HI.out.all
      obtain ⟨ql, cl, hvl, cO⟩ := cO
      subst hva
      subst hvl
      have hlS : (allBytes (cuts ps i)).length ≤ 480 := Nat.le_trans (cuts_le ps i hi) (by omega)
      have HBA : Hid (Bytes wr qa (allBytes (cuts ps i))) := hba
      have HBW : Hid (Below w.heap.size w wr) := hBa
      clear hba hBa HI HP H0
      generalize allBytes (cuts ps i) = S at cO HBA hlS ⊢
      obtain ⟨sv, hsv⟩ : ∃ sv, sv = crcSum S := ⟨_, rfl⟩
      have c12 : ∀ W, Below wr.heap.size wr W → Calls Tryd.prog 12 #[.slice qa S.length ca] W fun e w' => e = .returned (u32v sv) ∧ w' = W := fun W hW => by
        rw [hsv]; exact refOf_any qa S ca W (by omega) (below_bytes hW HBA.out)
      rw [← hsv] at cO
      clear hsv
      go_wp2_with (first
        | (go_at_call 13; refine cO.mono ?_; rintro e w3 ⟨rfl, hB3⟩; clear cO)
        | (go_at_call 12; refine Calls_on (c12 _ hB3) ?_))
      go_ret
      exact ⟨by simp, HBW.out.trans (hB3.mono HBW.out.size)⟩

end Go.Proofs.YtlmnhnimneimkaaDoor
