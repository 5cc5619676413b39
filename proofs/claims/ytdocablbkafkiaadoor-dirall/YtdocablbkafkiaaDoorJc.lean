/-
  An entry is taken out: takeOut.
-/
import Derived.Test.YtdocablbkafkiaaDoorJb
import Derived.Test.YtdocablbkafkiaaDoorJn
namespace Go.Proofs.YtdocablbkafkiaaDoor.Cd
open Go.RowKit

theorem perm_cut {L : List En} {j : Nat} {x : En} (h : L[j]? = some x) : (x :: (L.take j ++ L.drop (j + 1))).Perm L := by
  have hl := (List.getElem?_eq_some_iff.1 h)
  have e : L = L.take j ++ x :: L.drop (j + 1) := by
    conv => lhs; rw [← List.take_append_drop j L]
    rw [List.drop_eq_getElem_cons hl.1, hl.2]
  conv => rhs; rw [e]
  exact List.perm_middle.symm
theorem sub_cut (L : List En) (j : Nat) : (L.take j ++ L.drop (j + 1)).Sublist L := by
  conv => rhs; rw [← List.take_append_drop j L]
  refine List.Sublist.append_left ?_ _
  have := List.drop_sublist 1 (L.drop j)
  rw [List.drop_drop] at this
  exact this
theorem flatten_swap {D : List (List En)} {i : Nat} {L M : List En} {x : En} (h : D[i]? = some L) (hp : (x :: M).Perm L) : (x :: (D.set i M).flatten).Perm D.flatten := by
  have hi := (List.getElem?_eq_some_iff.1 h).1
  have h1 := flatten_clear h
  have h2 := flatten_clear (E := D.set i M) (i := i) (b := M) (by rw [List.getElem?_set_self hi])
  rw [List.set_set] at h2
  refine (List.Perm.cons x h2.symm).trans ?_
  rw [← List.cons_append]
  exact (List.Perm.append_right _ hp).trans h1
theorem nodup_of_names {l : List En} (h : l.Pairwise (fun x y => x.name ≠ y.name)) : l.Nodup := h.imp (fun hab e => hab (by rw [e]))
theorem names_perm {l m : List En} (h : l.Pairwise (fun x y => x.name ≠ y.name)) (hp : l.Perm m) : m.Pairwise (fun x y => x.name ≠ y.name) := (hp.pairwise_iff (fun hab e => hab e.symm)).1 h

/-- What takeOut leaves. -/
def Took (base a count B n c : Nat) (D : List (List En)) (x : En) (w w' : World) : Prop :=
  ∃ vs' D', DirAt w' base a count (.slice (some ⟨B, 0, none⟩) n c) vs' D' ∧ WF H1 n D' ∧ (x :: D'.flatten).Perm D.flatten ∧ Fr base w w'

/-- What holds while the taken ones are laid down anew. -/
structure TI (base a count B n c : Nat) (D1 : List (List En)) (w0 : World) (l : List En) (vt : Value) (lo k : Nat) (vs' : List Value) (D' : List (List En)) (wr : World) : Prop where
  dir : DirAt wr base a count (.slice (some ⟨B, 0, none⟩) n c) vs' D'
  wf : WF H1 n D'
  perm : (l.drop k ++ D'.flatten).Perm D1.flatten
  fr : Fr base w0 wr
  row : Blk wr lo vt l
  apart : ∀ (j : Nat) v g, vs'[j]? = some v → v.ownBlock = some g → vt.ownBlock ≠ some g
theorem TI.below {base a count B n c : Nat} {D1 : List (List En)} {w0 : World} {l : List En} {vt : Value} {lo k : Nat} {vs' : List Value} {D' : List (List En)} {wr W : World} (h : TI base a count B n c D1 w0 l vt lo k vs' D' wr) (hb : Below wr.heap.size wr W) : TI base a count B n c D1 w0 l vt lo k vs' D' W :=
  ⟨h.dir.below hb, h.wf, h.perm, h.fr.trans (Fr.below hb), h.row.kept (Below.only hb (fun _ => False)) (fun _ _ f => f), h.apart⟩
theorem TI.step {base a count B n c : Nat} {D1 : List (List En)} {w0 : World} {l : List En} {vt : Value} {lo k : Nat} {vs' : List Value} {D' : List (List En)} {W : World} (h : TI base a count B n c D1 w0 l vt lo k vs' D' W) {y : En} (hy : l[k]? = some y) (ht : Tab W) (hgb : 1 < base) (hn0 : 0 < n) (hn : n < 100000)
    (hnm : D1.flatten.Pairwise (fun x y => x.name ≠ y.name)) (htot : total D1 < 7 * n) (hshort : ∀ q ∈ D1.flatten, q.name.length < 1000000) :
    Calls Tryd.prog 23 #[.pointer (some ⟨a, 0, none⟩), .agg #[.string (bas y.name), .int .i64 (y.num : Nat)]] W fun e W' => e = .returned (.tuple #[]) ∧ ∃ vs2 D2, TI base a count B n c D1 w0 l vt lo (k + 1) vs2 D2 W' := by
  have hk := (List.getElem?_eq_some_iff.1 hy)
  have hd : l.drop k = y :: l.drop (k + 1) := by rw [List.drop_eq_getElem_cons hk.1, hk.2]
  have hp := h.perm
  rw [hd, List.cons_append] at hp
  have hpw := names_perm hnm hp.symm
  rw [List.pairwise_cons] at hpw
  have habs : Absent D' y.name := fun j b hb q hq => fun e => hpw.1 q (List.mem_append.2 (.inr ((mem_at q).2 ⟨j, b, hb, hq⟩))) e.symm
  have hDl := h.wf.len
  have hlen : total D' < 7 * n := by
    have := hp.length_eq
    rw [List.length_cons, List.length_append] at this
    unfold total at htot ⊢
    omega
  refine (place_keeps base a count _ vs' D' y W ht hgb h.dir (by rw [hDl]; exact h.wf) (by omega) (by omega) (by rw [hDl]; exact hlen) habs (hshort y (hp.mem_iff.1 (List.mem_cons_self ..)))).mono ?_
  rintro e W' ⟨rfl, vs2, D2, q1, q2, q3, q4, q5, q6, q7⟩
  rw [hDl] at q2
  have hnd : (y :: D'.flatten).Perm D2.flatten := by
    refine (List.perm_ext_iff_of_nodup ?_ (nodup_of_names q2.names)).2 (fun q => by rw [q3, List.mem_cons])
    refine List.nodup_cons.2 ⟨fun hm => ?_, nodup_of_names h.wf.names⟩
    obtain ⟨j, b, hb, hq⟩ := (mem_at y).1 hm
    exact habs j b hb y hq rfl
  have hnm' : ∀ g, vt.ownBlock = some g → g < W.heap.size ∧ ¬ Mine (.slice (some ⟨B, 0, none⟩) n c) vs' g := fun g hg => by
    obtain ⟨t1, t2, cur, t3⟩ := h.row.tag hg
    refine ⟨t2, ?_⟩
    rintro (e | ⟨j, v, hv, e⟩)
    · simp [Value.ownBlock] at e
      rcases h.dir.blocks.2 with ⟨e', _⟩ | ⟨g', _, cur', e', _, hg', _⟩
      · cases e'
      · cases e'
        rw [e, t3] at hg'; cases hg'
    · exact h.apart j v g hv e hg
  refine ⟨rfl, vs2, D2, q1, q2, ?_, h.fr.trans q5, ?_, fun j v g hv hg hvt => ?_⟩
  · refine List.Perm.trans ?_ hp
    refine (List.Perm.append_left _ hnd.symm).trans ?_
    exact List.perm_middle
  · refine h.row.kept (S := fun g => W.heap[g]? ≠ W'.heap[g]?) ⟨q5.os, q5.tape, q5.output, q5.size, fun i _ hi => by simpa using (Classical.not_not.1 hi).symm⟩ (fun g hg hne => ?_)
    obtain ⟨h1, h2⟩ := hnm' g hg
    exact hne (q6 g h1 h2).symm
  · obtain ⟨h1, h2⟩ := hnm' g hvt
    rcases q7 j v g hv hg with h3 | h3
    · exact h2 h3
    · omega

set_option maxRecDepth 8000 in
set_option maxHeartbeats 4000000 in
theorem takeout_any (base a count B n c i j : Nat) (vs : List Value) (D : List (List En)) (L : List En) (x : En) (w : World) (ht : Tab w) (hgb : 1 < base) (h : DirAt w base a count (.slice (some ⟨B, 0, none⟩) n c) vs D) (hlen : D.length = n) (hw : WF H1 n D) (hL : D[i]? = some L) (hx : L[j]? = some x) (hn : n < 100000) (hmost : total D ≤ 2048) (htot : total D ≤ 7 * n) (hshort : ∀ y ∈ D.flatten, y.name.length < 1000000) :
    Calls Tryd.prog 25 #[.pointer (some ⟨a, 0, none⟩), .agg #[.int .i64 (i : Nat), .int .i64 (j : Nat)]] w fun e w' => e = .returned (.tuple #[]) ∧ Took base a count B n c D x w w' := by
  have hin : i < n := by rw [← hlen]; exact (List.getElem?_eq_some_iff.1 hL).1
  have hjL := (List.getElem?_eq_some_iff.1 hx).1
  have h7 := hw.room i L hL
  obtain ⟨B', c', cur, v, hbv, hB, hcur, hv, hblk⟩ := h.at_ hL
  obtain ⟨rfl, rfl⟩ : B = B' ∧ c = c' := by
    injection hbv with e1 _ e3
    injection e1 with e1
    injection e1 with e1
    exact ⟨e1, e3⟩
  obtain ⟨pv, cv, rfl, _, _, _⟩ := hblk.form
  have hilen := (List.getElem?_eq_some_iff.1 hv).1
  obtain ⟨w1, hw1⟩ : ∃ w1, w1 = w.alloc (.cells #[.int .i64 (i : Nat), .int .i64 (j : Nat)] 51) := ⟨_, rfl⟩
  have hb1 : Below w.heap.size w w1 := by rw [hw1]; exact (Below.refl _ w).alloc (Nat.le_refl _) _
  have hX1 : w1.heap[w.heap.size]? = some (.cells #[.int .i64 (i : Nat), .int .i64 (j : Nat)] 51 (0, 0)) := by rw [hw1]; exact heap_alloc_new w _
  have dA : w1.cell? ⟨a, 1, none⟩ = some (.slice (some ⟨B, 0, none⟩) n c) := (hb1.cell (p := ⟨a, 1, none⟩) (block_lt h.dir)).trans h.c1
  have x0 : w1.cell? ⟨w.heap.size, 0, none⟩ = some (.int .i64 (i : Nat)) := cellOf hX1 0
  have x1 : w1.cell? ⟨w.heap.size, 1, none⟩ = some (.int .i64 (j : Nat)) := cellOf hX1 1
  have hB1 : w1.heap[B]? = some (.cells cur 57 (0, 0)) := (hb1.block B (block_lt hB)).trans hB
  have dB : w1.cell? ⟨B, i, none⟩ = some (.slice pv L.length cv) := by rw [cellOf hB1]; exact hcur
  have nA : ¬ (.slice pv L.length cv : Value).ownBlock = some a := fun e => by
    obtain ⟨_, _, cur', t3⟩ := hblk.tag e
    rw [h.dir] at t3; cases t3
  have nAB : ¬ a = B := fun e => by have := h.dir; rw [e, hB] at this; cases this
  have nX : ¬ (.slice pv L.length cv : Value).ownBlock = some w.heap.size := fun e => by
    have := (hblk.tag e).2.1; omega
  have nXB : ¬ w.heap.size = B := fun e => by have := block_lt hB; omega
  have nB : ¬ (.slice pv L.length cv : Value).ownBlock = some B := fun e => by
    obtain ⟨_, _, cur', t3⟩ := hblk.tag e
    rw [hB] at t3; cases t3
  have hM := sub_cut L j
  have hMp := perm_cut hx
  have hMl : (L.take j ++ L.drop (j + 1)).length + 1 = L.length := by have := hMp.length_eq; simpa using this
  have cD_ : ∀ W, Below w.heap.size w W → Calls Tryd.prog 43 #[.slice pv L.length cv, .int .i64 (j : Nat), .int .i64 ((j : Int) + 1)] W (Deld base (.slice pv L.length cv) (L.take j ++ L.drop (j + 1)) W) := fun W hbW => by
    have := delete_any base j (j + 1) (.slice pv L.length cv) L W (hblk.kept (Below.only hbW (fun _ => False)) (fun _ _ f => f)) rfl hjL (by omega)
    rw [show ((j + 1 : Nat) : Int) = (j : Int) + 1 by omega] at this
    exact this
  generalize L.take j ++ L.drop (j + 1) = M at *
  have hDp := flatten_swap hL hMp
  have hnames := names_perm hw.names hDp.symm
  rw [List.pairwise_cons] at hnames
  have hDl : total (D.set i M) + 1 = total D := by have := hDp.length_eq; unfold total; simpa using this
  -- what the rest needs of the world behind the second region
  have HD : Hid (∀ W1 g W2, Below w.heap.size w W1 → Only (fun k => (.slice pv L.length cv : Value).ownBlock = some k ∨ k = B) W1 W2 → g.ownBlock = (.slice pv L.length cv : Value).ownBlock → Blk W2 base g M → W2.heap[B]? = some (.cells (cur.setIfInBounds i g) 57 (0, 0)) →
      DirAt W2 base a count (.slice (some ⟨B, 0, none⟩) n c) (vs.set i g) (D.set i M) ∧ Fr base w W2) := fun W1 g W2 hbW ho hog hbl hB2 => by
    have hd1 := h.below hbW
    have hB1' : W1.heap[B]? = some (.cells cur 57 (0, 0)) := (hbW.block B (block_lt hB)).trans hB
    refine ⟨hd1.turned2 hL (by rw [hlen]) hB1' hv hB2 hbl (Only.weak ho (fun k _ hk => hk.symm)) (fun q hq => by rw [← hog]; exact hq), (Fr.below hbW).trans (Only.weak ho (fun k _ hk => ?_))⟩
    rcases hk with hk | rfl
    · obtain ⟨t1, _, cur', t3⟩ := (hblk.kept (Below.only hbW (fun _ => False)) (fun _ _ f => f)).tag hk
      exact ⟨t1, _, _, _, t3, .inr (.inr rfl)⟩
    · refine ⟨?_, _, _, _, hB1', .inr (.inl rfl)⟩
      rcases h.blocks.2 with ⟨e, h0⟩ | ⟨g', c', cur', e, hb', _⟩
      · cases e
      · cases e; exact hb'
  have HW : Hid (WF H1 n D ∧ D[i]? = some L ∧ M.Sublist L ∧ (x :: (D.set i M).flatten).Perm D.flatten ∧ (D.set i M).flatten.Pairwise (fun x y => x.name ≠ y.name) ∧ (∀ y ∈ D.flatten, y.name.length < 1000000) ∧ D.length = n ∧ Tab w ∧ base ≤ w.heap.size) := ⟨hw, hL, hM, hDp, hnames.2, hshort, hlen, ht, by have := h.lo; have := block_lt h.dir; omega⟩
  have hXs : w.heap.size < w1.heap.size := block_lt hX1
  obtain ⟨m, hm⟩ : ∃ m, L.length = m := ⟨_, rfl⟩
  rw [hm] at h7 dB nA nX nB cD_ hMl HD hcur hjL
  clear h hw hL hM hDp hnames hshort hlen hblk hX1 hbv hMp hv hB ht hilen hx
  by_cases hfull : m = 7
  · subst hfull
    have hfl : (((7 : Nat) : Int) == 7) = true := by decide
    go_enter Tryd.func25, Tryd.ntmps25
    go_wp2_with fail
    rw [← hw1]
    refine take_reg1 (by kernel_rfl) a B n c i w.heap.size 7 cv pv true w1 rfl rfl rfl dA x0 dB hin hfl ?_
    intro W1 hbW1
    simp only [putAll, List.setIfInBounds_toArray, List.set_cons_zero, List.set_cons_succ]
    have hbw : Below w.heap.size w W1 := hb1.trans (hbW1.mono hb1.size)
    have dA' := (hbW1.cell (p := ⟨a, 1, none⟩) (cell_lt dA)).trans dA
    have x0' := (hbW1.cell (p := ⟨w.heap.size, 0, none⟩) (cell_lt x0)).trans x0
    have x1' := (hbW1.cell (p := ⟨w.heap.size, 1, none⟩) (cell_lt x1)).trans x1
    have dB' := (hbW1.cell (p := ⟨B, i, none⟩) (cell_lt dB)).trans dB
    have hB' := (hbW1.block B (block_lt hB1)).trans hB1
    clear dA x0 x1 dB hB1
    go_wp2_with fail
    refine take_reg2 (by kernel_rfl) a B n c i j w.heap.size 7 cv base pv cur M W1 rfl rfl rfl dA' x0' x1' dB' hB' hcur hin (by omega) nA nAB nX nXB nB (fun W hb => cD_ W (hbw.trans (hb.mono hbw.size))) ?_
    intro g W2 ho hog hbl hB2
    simp only [putAll, List.setIfInBounds_toArray, List.set_cons_zero, List.set_cons_succ]
    obtain ⟨hd2, hf2⟩ := HD.out W1 g W2 hbw ho hog hbl hB2
    have x0'' := ho.cell x0' (by rintro (e | e); exact nX e; exact nXB e)
    have hi1 : nx n i 1 < n := nx_lt hin
    have cN := next_any a i n c (some ⟨B, 0, none⟩) W2 hd2.c1 hin hn
    have hlast : nx n (nx n i 1) (n - 1) = i := by
      have a1 := @nx_cases n i 1
      generalize nx n i 1 = i1 at *
      have a2 := @nx_cases n i1 (n - 1)
      omega
    obtain ⟨hwf, hLi, hsub, hDp, hnm, hsh, hlen, ht, hbase⟩ := HW.out
    have hset : (D.set i M)[i]? = some M := List.getElem?_set_self (by omega)
    have cE := empty_any base a count B n c (nx n i 1) (vs.set i g) (D.set i M) W2 hd2 (by rw [List.length_set]; exact hlen) hn hi1 ⟨M, by rw [hlast]; exact hset, by omega⟩ (by unfold total at hmost hDl; omega)
    have H2 : Hid (Fr base w W2 ∧ base ≤ B ∧ DT W2.heap[B]? ∧ Tab W2) := by
      refine ⟨hf2, ?_, ⟨_, _, _, hB2, .inr (.inl rfl)⟩, ?_⟩
      · rcases hd2.blocks.2 with ⟨e, h0⟩ | ⟨g', c', cur', e, hb', _⟩
        · cases e
        · cases e; exact hb'
      · exact below_tab (hf2.toBelow hbase) hgb ht
    obtain ⟨i1, hi1e⟩ : ∃ i1, nx n i 1 = i1 := ⟨_, rfl⟩
    rw [hi1e] at cN cE hi1 hlast
    clear hd2 hf2 ho hog hbl hB2 hwf hLi hsub hDp hnm hsh hlen ht hset HD dA' x0' x1' dB' hB' cD_
    go_wp2_with (first | (go_at_call 39; refine Calls_on cN ?_; clear cN) | (go_at_call 44; refine cE.mono ?_; rintro e W3 ⟨t, l, vt, vs3, E, b, rfl, htn, hbt, hb7, hE⟩; obtain ⟨p3, c3, hvt, hl3, hc3, _⟩ := hE.row.form; subst hvt; have HE : Hid ((D.set i M)[nx n i1 t]? = some b ∧ b.length < 7 ∧ EI base a count B n c (D.set i M) W2 i1 (t + 1) l (.slice p3 l.length c3) vs3 E W3) := ⟨hbt, hb7, hE⟩; clear cE hbt hb7 hE hl3; obtain ⟨m3, hm3⟩ : ∃ m3, l.length = m3 := ⟨_, rfl⟩; rw [hm3]))
    have HT : Hid (∃ vs' D', TI base a count B n c (D.set i M) w l (.slice p3 l.length c3) W2.heap.size 0 vs' D' W3) := by
      obtain ⟨hbt, hb7, hE⟩ := HE.out
      obtain ⟨hwf, hLi, hsub, hDp, hnm, hsh, hlen, ht, hbase⟩ := HW.out
      refine ⟨vs3, E, hE.dir, ?_, by simpa using hE.perm, H2.out.1.trans (Only.weak hE.only (fun k _ hk => by rw [hk]; exact ⟨H2.out.2.1, H2.out.2.2.1⟩)), hE.row, fun j v g hv hg e => ?_⟩
      · refine hwf.cut H1_ok hin htn hLi hsub hE.len (fun j hj => ?_) ?_
        · rw [hi1e, hE.cut j hj, List.getElem?_set]
          by_cases hd : dist n i1 j ≤ t
          · rw [if_pos (by omega), if_pos hd]
          · rw [if_neg (by omega), if_neg hd]
            by_cases hij : i = j
            · subst hij; rw [if_pos rfl, if_pos rfl, if_pos (by omega)]
            · rw [if_neg hij, if_neg (fun e => hij e.symm)]
        · rw [hi1e]
          by_cases hti : nx n i1 t = i
          · exact .inl hti
          · refine .inr (fun d hd => ?_)
            rw [List.getElem?_set_ne (fun e => hti e.symm), hd] at hbt
            cases hbt; exact hb7
      · have h1 := hE.low.rows j v g hv hg
        have h2 := (hE.row.tag e).1
        omega
    have HN : Hid (∀ wr, Fr base w wr → Tab wr) := fun wr hf => below_tab (hf.toBelow HW.out.2.2.2.2.2.2.2.2) hgb HW.out.2.2.2.2.2.2.2.1
    have hm3s : m3 ≤ 2048 := by
      have := HE.out.2.2.perm.length_eq
      rw [List.length_append] at this
      unfold total at hmost hDl
      omega
    have hn0 : 0 < n := by omega
    have htot' : total (D.set i M) < 7 * n := by omega
    clear HE x0''
    go_loopw [47] (fun ii wr => ∃ k : Nat, ii = .int .i64 k ∧ k ≤ m3 ∧ Hid (∃ vs' D', TI base a count B n c (D.set i M) w l (.slice p3 l.length c3) W2.heap.size k vs' D' wr)) (fun ii _ => m3 - (intOf ii).toNat)
    case atStart => exact ⟨0, rfl, Nat.zero_le _, HT.out⟩
    case round =>
      obtain ⟨k, rfl, hkm, HI⟩ := hrel
      by_cases hk : k < m3
      · have hkI : (k : Int) < (m3 : Int) := by omega
        obtain ⟨vs', D', hT⟩ := HI.out
        obtain ⟨y, hy⟩ : ∃ y, l[k]? = some y := ⟨_, List.getElem?_eq_getElem (by omega)⟩
        obtain ⟨p2, c2, e2, _, _, he2⟩ := hT.row.form
        injection e2 with e2a e2b e2c
        subst e2a
        obtain ⟨gt, ot, rfl, hce⟩ := he2 (by omega)
        have d0 : wr.cell? ⟨gt, ot + k * 2, none⟩ = some (.string (bas y.name)) := hce k 0 y hy (by omega)
        have d1 : wr.cell? ⟨gt, ot + k * 2 + 1, none⟩ = some (.int .i64 (y.num : Nat)) := hce k 1 y hy (by omega)
        obtain ⟨W4, hW4⟩ : ∃ W4, W4 = wr.alloc (.cells #[.string (bas y.name), .int .i64 (y.num : Nat)] 55) := ⟨_, rfl⟩
        have hb4 : Below wr.heap.size wr W4 := by rw [hW4]; exact (Below.refl _ wr).alloc (Nat.le_refl _) _
        have hT4 := hT.below hb4
        have cP := hT4.step hy (HN.out W4 hT4.fr) hgb hn0 hn HW.out.2.2.2.2.1 htot' (fun q hq => HW.out.2.2.2.2.2.1 q (HW.out.2.2.2.1.mem_iff.1 (List.mem_cons_of_mem _ hq)))
        rw [hW4] at cP
        clear hT hy e2b e2c he2 hce hb4 hT4 hW4 HI
        go_wp2_with fail
        refine cP.mono ?_
        rintro e W5 ⟨rfl, h5⟩
        have H5 : Hid (∃ vs' D', TI base a count B n c (D.set i M) w l (.slice (some ⟨gt, ot, none⟩) l.length c3) W2.heap.size (k + 1) vs' D' W5) := h5
        clear h5 cP
        go_wp2
        go_roundw
        case rel => exact ⟨k + 1, by go_num, by omega, H5⟩
        case measure => simp [intOf]; omega
      · obtain rfl : k = m3 := by omega
        have hge : ¬ (k : Int) < k := by omega
        have HF : Hid (Took base a count B n c D x w wr) := by
          obtain ⟨vs', D', hT⟩ := HI.out
          refine ⟨vs', D', hT.dir, hT.wf, ?_, hT.fr⟩
          have := hT.perm
          rw [List.drop_of_length_le (by omega), List.nil_append] at this
          exact (List.Perm.cons x this).trans HW.out.2.2.2.1
        clear HI
        go_wp2
        refine bodyPost_end (results_none rfl _ _ _) rfl ?_
        exact ⟨rfl, HF.out⟩
  · have hfl : ((m : Int) == 7) = false := by simp; omega
    go_enter Tryd.func25, Tryd.ntmps25
    go_wp2_with fail
    rw [← hw1]
    refine take_reg1 (by kernel_rfl) a B n c i w.heap.size m cv pv false w1 rfl rfl rfl dA x0 dB hin hfl ?_
    intro W1 hbW1
    simp only [putAll, List.setIfInBounds_toArray, List.set_cons_zero, List.set_cons_succ]
    have hbw : Below w.heap.size w W1 := hb1.trans (hbW1.mono hb1.size)
    have dA' := (hbW1.cell (p := ⟨a, 1, none⟩) (cell_lt dA)).trans dA
    have x0' := (hbW1.cell (p := ⟨w.heap.size, 0, none⟩) (cell_lt x0)).trans x0
    have x1' := (hbW1.cell (p := ⟨w.heap.size, 1, none⟩) (cell_lt x1)).trans x1
    have dB' := (hbW1.cell (p := ⟨B, i, none⟩) (cell_lt dB)).trans dB
    have hB' := (hbW1.block B (block_lt hB1)).trans hB1
    clear dA x0 x1 dB hB1
    go_wp2_with fail
    refine take_reg2 (by kernel_rfl) a B n c i j w.heap.size m cv base pv cur M W1 rfl rfl rfl dA' x0' x1' dB' hB' hcur hin (by omega) nA nAB nX nXB nB (fun W hb => cD_ W (hbw.trans (hb.mono hbw.size))) ?_
    intro g W2 ho hog hbl hB2
    simp only [putAll, List.setIfInBounds_toArray, List.set_cons_zero, List.set_cons_succ]
    obtain ⟨hd2, hf2⟩ := HD.out W1 g W2 hbw ho hog hbl hB2
    have HF : Hid (Took base a count B n c D x w W2) := ⟨_, _, hd2, HW.out.1.drop HW.out.2.1 (by omega) HW.out.2.2.1, HW.out.2.2.2.1, hf2⟩
    clear hd2 hf2 ho hog hbl hB2 HD dA' x0' x1' dB' hB' cD_
    go_wp2
    refine bodyPost_ret (results_none rfl _ _ _) rfl ?_
    exact ⟨rfl, HF.out⟩

end Go.Proofs.YtdocablbkafkiaaDoor.Cd
