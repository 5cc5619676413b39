/-
  The heap by name, further: Pop, Swap, up and down where one entry is there; heap.Push, heap.Pop, add, least of one.
-/
import Derived.Test.YtdocablbkafkiaaDoorFa
namespace Go.Proofs.YtdocablbkafkiaaDoor.Cd
open Go.RowKit Go.Maps

attribute [local go_sem] Oper.semAt_some

theorem HB.row {w : World} {base kb : Nat} {v : Value} {L : List En} {x : En} (h : HB w base kb v (L ++ [x])) : ∃ q cap cur, v = .slice (some ⟨q, 0, none⟩) (L.length + 1) cap ∧ base ≤ q ∧ w.heap[q]? = some (.cells cur 55 (0, 0)) ∧ L.length + 1 ≤ cap ∧ cap ≤ maxLen ∧ cur.size = cap * 2 ∧ cur.toList.take ((L.length + 1) * 2) = ents L ++ entCells x := by
  have hb := h.blk
  unfold Blk at hb
  rw [List.length_append, List.length_singleton] at hb
  have e : ents (L ++ [x]) = ents L ++ entCells x := by simp [ents]
  rw [e] at hb
  rcases hb.2 with ⟨_, e2⟩ | ⟨q, cap, cur, h1, h2, h3, h4, h5, h6, h7⟩
  · simp at e2
  · exact ⟨q, cap, cur, h1, h2, h3, h4, h5, h6, h7⟩

set_option maxRecDepth 8000 in
set_option maxHeartbeats 1000000 in
theorem zpop_any (base kb : Nat) (v0 : Value) (L : List En) (x : En) (w : World) (h : HB w base kb v0 (L ++ [x])) (hl : L.length < 1000000) :
    Calls Tryd.prog 104 #[.pointer (some ⟨kb, 0, none⟩)] w fun e w' => e = .returned (.iface 55 (enV x)) ∧ (∃ v', HB w' base kb v' L ∧ v'.ownBlock = v0.ownBlock ∧ ∀ p n c, v0 = .slice p n c → v' = .slice p L.length c) ∧ Only (hS kb v0) w w' := by
  obtain ⟨q, cap, cur, rfl, h2, h3, h4, h5, h6, h7⟩ := h.row
  have el := ents_length L
  have g0 : cur[L.length * 2]? = some (.string (bas x.name)) := by
    have := congrArg (fun l => l[L.length * 2]?) h7
    simp only [List.getElem?_take] at this
    rw [if_pos (by omega), List.getElem?_append_right (by omega), el, Nat.sub_self] at this
    simpa [entCells] using this
  have g1 : cur[L.length * 2 + 1]? = some (.int .i64 (x.num : Nat)) := by
    have := congrArg (fun l => l[L.length * 2 + 1]?) h7
    simp only [List.getElem?_take] at this
    rw [if_pos (by omega), List.getElem?_append_right (by omega), el, show L.length * 2 + 1 - L.length * 2 = 1 by omega] at this
    simpa [entCells] using this
  have c0 := h.cell
  have f0 := h.froz
  have k0 : w.cell? ⟨q, L.length * 2, none⟩ = some (.string (bas x.name)) := by rw [cellOf h3]; exact g0
  have k1 : w.cell? ⟨q, L.length * 2 + 1, none⟩ = some (.int .i64 (x.num : Nat)) := by rw [cellOf h3]; exact g1
  have hkb := block_lt h.box
  have hqb := block_lt h3
  have hqk : q ≠ kb := h.ne rfl
  obtain ⟨W1, hW1⟩ : ∃ W1, W1 = w.setCell ⟨kb, 0, none⟩ (.slice (some ⟨q, 0, none⟩) L.length cap) := ⟨_, rfl⟩
  have hbx1 : W1.heap[kb]? = some (.cells #[.slice (some ⟨q, 0, none⟩) L.length cap] 69 (0, 0)) := by rw [hW1]; have := h.box; simp [World.setCell, Array.getElem?_modify, this]
  have hq1 : W1.heap[q]? = some (.cells cur 55 (0, 0)) := by rw [hW1]; exact (Below.heap_setCell _ _ _ _ hqk).trans h3
  have hb1 : Only (hS kb (.slice (some ⟨q, 0, none⟩) (L.length + 1) cap)) w W1 := by rw [hW1]; exact Only.setCell _ _ _ (.inl rfl)
  have hH1 : HB W1 base kb (.slice (some ⟨q, 0, none⟩) L.length cap) L := by
    refine ⟨h.lo, hbx1, el, .inr ⟨q, cap, cur, rfl, h2, hq1, by omega, h5, h6, ?_⟩⟩
    have := congrArg (List.take (L.length * 2)) h7
    rw [List.take_take, Nat.min_eq_left (by omega), List.take_left' el] at this
    exact this
  have HF : Hid (HB (W1.alloc (.cells #[.string (bas x.name), .int .i64 (x.num : Nat)] 55)) base kb (.slice (some ⟨q, 0, none⟩) L.length cap) L ∧ Only (hS kb (.slice (some ⟨q, 0, none⟩) (L.length + 1) cap)) w (W1.alloc (.cells #[.string (bas x.name), .int .i64 (x.num : Nat)] 55))) :=
    ⟨hH1.below ((Below.refl _ W1).alloc (Nat.le_refl _) _), hb1.next (Only.alloc _ _ _)⟩
  rw [hW1] at HF
  have hlc : L.length ≤ cap := by omega
  clear h h2 h3 h4 h5 h6 h7 el g0 g1 hb1 hH1 hq1 hbx1 hW1 W1
  generalize L.length = n at *
  have e1 : ((n + 1 : Nat) : Int) - 1 = (n : Nat) := by omega
  unfold enV
  go_enter Tryd.func104, Tryd.ntmps104
  go_wp2
  go_ret
  exact ⟨rfl, ⟨_, HF.out.1, rfl, fun p n c e => by cases e; rfl⟩, HF.out.2⟩

theorem set_same {w : World} {q i : Nat} {cur : Array Value} {t : TypeId} {v : Value} (h : w.heap[q]? = some (.cells cur t (0, 0))) (hv : cur[i]? = some v) : (w.setCell ⟨q, i, none⟩ v).heap[q]? = some (.cells cur t (0, 0)) := by
  simp only [World.setCell, Array.getElem?_modify, h]
  simp
  obtain ⟨hi, he⟩ := Array.getElem?_eq_some_iff.1 hv
  rw [← he]
  exact Array.ext (by simp) (fun k h1 h2 => by rw [Array.getElem_setIfInBounds]; split; subst_vars; rfl; rfl)

theorem HB.same {w : World} {base kb q n cap i : Nat} {cur : Array Value} {v : Value} {L : List En} (h : HB w base kb (.slice (some ⟨q, 0, none⟩) n cap) L) (hq : w.heap[q]? = some (.cells cur 55 (0, 0))) (hv : cur[i]? = some v) :
    HB (w.setCell ⟨q, i, none⟩ v) base kb (.slice (some ⟨q, 0, none⟩) n cap) L ∧ Only (hS kb (.slice (some ⟨q, 0, none⟩) n cap)) w (w.setCell ⟨q, i, none⟩ v) := by
  have hne : q ≠ kb := h.ne rfl
  refine ⟨⟨h.lo, (Below.heap_setCell _ _ _ _ hne.symm).trans h.box, ?_⟩, Only.setCell _ _ _ (.inr rfl)⟩
  have hb := h.blk
  rcases hb.2 with ⟨e2, _⟩ | ⟨q', cap', cur', e1, e2, e3, e4⟩
  · cases e2
  · cases e1
    rw [hq] at e3
    cases e3
    exact ⟨hb.1, .inr ⟨q, cap, cur, rfl, e2, set_same hq hv, e4⟩⟩

set_option maxRecDepth 8000 in
set_option maxHeartbeats 2000000 in
theorem zswap_one (base kb : Nat) (v0 : Value) (x : En) (w : World) (h : HB w base kb v0 [x]) :
    Calls Tryd.prog 106 #[v0, .int .i64 0, .int .i64 0] w fun e w' => e = .returned (.tuple #[]) ∧ HB w' base kb v0 [x] ∧ Only (hS kb v0) w w' := by
  obtain ⟨q, cap, cur, rfl, h2, h3, h4, h5, h6, h7⟩ := HB.row (L := []) h
  have g0 : cur[0]? = some (.string (bas x.name)) := by
    have := congrArg (fun l => l[0]?) h7
    simp only [List.getElem?_take] at this
    rw [if_pos (by omega)] at this
    simpa [entCells, ents] using this
  have g1 : cur[1]? = some (.int .i64 (x.num : Nat)) := by
    have := congrArg (fun l => l[1]?) h7
    simp only [List.getElem?_take] at this
    rw [if_pos (by simp)] at this
    simpa [entCells, ents] using this
  have k0 : w.cell? ⟨q, 0, none⟩ = some (.string (bas x.name)) := by rw [cellOf h3]; exact g0
  have k1 : w.cell? ⟨q, 1, none⟩ = some (.int .i64 (x.num : Nat)) := by rw [cellOf h3]; exact g1
  have f0 := frozenOf h3 0
  have f1 := frozenOf h3 1
  go_enter Tryd.func106, Tryd.ntmps106
  go_wp2_with fail
  obtain ⟨a1, b1⟩ := h.same h3 g0
  obtain ⟨a2, b2⟩ := a1.same (set_same h3 g0) g1
  obtain ⟨a3, b3⟩ := a2.same (set_same (set_same h3 g0) g1) g0
  obtain ⟨a4, b4⟩ := a3.same (set_same (set_same (set_same h3 g0) g1) g0) g1
  have hb4 := ((b1.next b2).next b3).next b4
  have HF : Hid (HB ((((w.setCell ⟨q, 0, none⟩ (.string (bas x.name))).setCell ⟨q, 1, none⟩ (.int .i64 (x.num : Nat))).setCell ⟨q, 0, none⟩ (.string (bas x.name))).setCell ⟨q, 1, none⟩ (.int .i64 (x.num : Nat))).drew base kb (.slice (some ⟨q, 0, none⟩) 1 cap) [x] ∧
      Only (hS kb (.slice (some ⟨q, 0, none⟩) 1 cap)) w ((((w.setCell ⟨q, 0, none⟩ (.string (bas x.name))).setCell ⟨q, 1, none⟩ (.int .i64 (x.num : Nat))).setCell ⟨q, 0, none⟩ (.string (bas x.name))).setCell ⟨q, 1, none⟩ (.int .i64 (x.num : Nat))).drew) := ⟨a4.below (Below.refl _ _).drew, ⟨hb4.os, hb4.tape, hb4.output, hb4.size, hb4.block⟩⟩
  clear a1 a2 a3 a4 b1 b2 b3 b4 hb4
  clear h h2 h3 h4 h5 h6 h7 g0 g1
  go_region
  go_end0
  exact ⟨rfl, HF.out⟩

theorem zup_0 (kb : Nat) (w : World) : Calls Tryd.prog 69 #[hI kb, .int .i64 0] w fun e w' => e = .returned (.tuple #[]) ∧ w' = w := by
  unfold hI
  go_enter Tryd.func69, Tryd.ntmps69
  go_wp2_with fail
  go_loopw [1] (fun jj wr => jj = .int .i64 0 ∧ wr = w) (fun _ _ => 0)
  case atStart => exact ⟨rfl, rfl⟩
  case round =>
    obtain ⟨rfl, rfl⟩ := hrel
    go_wp2_with fail
    go_end0
    exact ⟨rfl, rfl⟩
theorem zdown_0 (kb : Nat) (w : World) : Calls Tryd.prog 70 #[hI kb, .int .i64 0, .int .i64 0] w fun e w' => e = .returned (.bool false) ∧ w' = w := by
  unfold hI
  go_enter Tryd.func70, Tryd.ntmps70
  go_wp2_with fail
  go_loopw [7] (fun jj wr => jj = .int .i64 0 ∧ wr = w) (fun _ _ => 0)
  case atStart => exact ⟨rfl, rfl⟩
  case round =>
    obtain ⟨rfl, rfl⟩ := hrel
    go_wp2_with fail
    go_ret
    exact ⟨rfl, rfl⟩

theorem zhpush_one (base kb : Nat) (v0 : Value) (x : En) (w : World) (h : HB w base kb v0 []) (hbw : base ≤ w.heap.size) :
    Calls Tryd.prog 55 #[hI kb, .iface 55 (enV x)] w fun e w' => e = .returned (.tuple #[]) ∧ (∃ v', HB w' base kb v' [x]) ∧ Only (hS kb v0) w w' := by
  have cP := zpush_any base kb v0 [] x w h (by simp) hbw
  have cU := zup_0 kb
  have m1 := zmeth_push kb
  unfold hI at *
  clear h
  go_enter Tryd.func55, Tryd.ntmps55
  go_wp2_with fail
  refine cP.mono ?_
  rintro e w1 ⟨rfl, ⟨v1, h1⟩, hb1⟩
  obtain ⟨p, c, rfl, _⟩ := h1.blk.form
  have m2 := zmeth_len kb _ w1 h1.cell
  have HF : Hid (HB w1 base kb (.slice p [x].length c) [x] ∧ Only (hS kb v0) w w1) := ⟨h1, hb1⟩
  clear h1 hb1 cP
  simp only [List.nil_append, List.length_singleton] at m2 HF
  go_wp2_with (first
    | (go_at_call 34; refine Calls_on (zlen_any _ _ _ _) ?_)
    | (go_at_call 69; refine Calls_on (cU _) ?_))
  go_end0
  exact ⟨rfl, ⟨_, HF.out.1⟩, HF.out.2⟩
theorem zhpop_one (base kb : Nat) (v0 : Value) (x : En) (w : World) (h : HB w base kb v0 [x]) :
    Calls Tryd.prog 57 #[hI kb] w fun e w' => e = .returned (.iface 55 (enV x)) ∧ (∃ v', HB w' base kb v' [] ∧ v'.ownBlock = v0.ownBlock ∧ ∀ p n c, v0 = .slice p n c → v' = .slice p 0 c) ∧ Only (hS kb v0) w w' := by
  obtain ⟨p, c, rfl, _⟩ := h.blk.form
  have cS := zswap_one base kb _ x w h
  have cD := zdown_0 kb
  have m1 := zmeth_pop kb
  have m2 := zmeth_len kb _ w h.cell
  have m3 := zmeth_swap kb _ w h.cell
  unfold hI at *
  simp only [List.length_singleton] at m2 m3 cS
  clear h
  go_enter Tryd.func57, Tryd.ntmps57
  go_wp2_with (go_at_call 34; refine Calls_on (zlen_any _ _ _ _) ?_)
  refine cS.mono ?_
  rintro e w1 ⟨rfl, h1, hb1⟩
  have cP := zpop_any base kb _ [] x w1 h1 (by simp)
  have HF : Hid (Only (hS kb (.slice p 1 c)) w w1) := hb1
  clear h1 hb1 cS
  go_wp2_with (go_at_call 70; refine Calls_on (cD _) ?_)
  refine cP.mono ?_
  rintro e w2 ⟨rfl, ⟨v2, h2, h2', h2s⟩, hb2⟩
  go_wp2
  go_ret
  exact ⟨rfl, ⟨v2, h2, h2', h2s⟩, HF.out.next hb2⟩
theorem zhadd_one (base kb : Nat) (v0 : Value) (x : En) (w : World) (h : HB w base kb v0 []) (hbw : base ≤ w.heap.size) :
    Calls Tryd.prog 33 #[.pointer (some ⟨kb, 0, none⟩), enV x] w fun e w' => e = .returned (.tuple #[]) ∧ (∃ v', HB w' base kb v' [x]) ∧ Only (hS kb v0) w w' := by
  have hb0 : Below w.heap.size w (w.alloc (.cells #[.string (bas x.name), .int .i64 (x.num : Nat)] 55)) := (Below.refl _ w).alloc (Nat.le_refl _) _
  have cP := zhpush_one base kb v0 x _ (h.below hb0) (by simp; omega)
  unfold hI enV at *
  clear h
  go_enter Tryd.func33, Tryd.ntmps33
  go_wp2_with fail
  refine cP.mono ?_
  rintro e w1 ⟨rfl, h1, hb1⟩
  have HF : Hid ((∃ v', HB w1 base kb v' [x]) ∧ Only (hS kb v0) w w1) := ⟨h1, (Below.only hb0 _).next hb1⟩
  clear h1 hb1 cP
  go_wp2
  go_end0
  exact ⟨rfl, HF.out⟩
theorem zleast_one (base kb : Nat) (v0 : Value) (x : En) (w : World) (h : HB w base kb v0 [x]) :
    Calls Tryd.prog 36 #[.pointer (some ⟨kb, 0, none⟩)] w fun e w' => e = .returned (enV x) ∧ (∃ v', HB w' base kb v' [] ∧ v'.ownBlock = v0.ownBlock) ∧ Only (hS kb v0) w w' := by
  obtain ⟨W0, hW0⟩ : ∃ W0, W0 = w.alloc (.cells #[.string ⟨#[]⟩, .int .i64 0] 55) := ⟨_, rfl⟩
  have hb0 : Below w.heap.size w W0 := by rw [hW0]; exact (Below.refl _ w).alloc (Nat.le_refl _) _
  have hr0 : W0.heap[w.heap.size]? = some (.cells #[.string ⟨#[]⟩, .int .i64 0] 55 (0, 0)) := by rw [hW0]; exact heap_alloc_new w _
  have cP := zhpop_one base kb v0 x W0 (h.below hb0)
  have hta := assert_ent
  have hnot : ¬ hS kb v0 w.heap.size := by
    rintro (e | e)
    · have := block_lt h.box; omega
    · have := (h.blk.tag e).2.1; omega
  rw [hW0] at cP
  unfold hI enV at *
  clear h
  go_enter Tryd.func36, Tryd.ntmps36
  go_wp2_with fail
  refine cP.mono ?_
  rintro e w1 ⟨rfl, ⟨v1, h1, hv1, _⟩, ho1⟩
  rw [← hW0] at ho1
  have hr1 := (ho1.block _ (block_lt hr0) hnot).trans hr0
  have x0 : w1.cell? ⟨w.heap.size, 0, none⟩ = some (.string ⟨#[]⟩) := cellOf hr1 0
  have x1 : w1.cell? ⟨w.heap.size, 1, none⟩ = some (.int .i64 0) := cellOf hr1 1
  have f0 := frozenOf hr1 0
  have f1 := frozenOf hr1 1
  obtain ⟨W2, hW2⟩ : ∃ W2, W2 = (w1.setCell ⟨w.heap.size, 0, none⟩ (.string (bas x.name))).setCell ⟨w.heap.size, 1, none⟩ (.int .i64 (x.num : Nat)) := ⟨_, rfl⟩
  have ho2 : Only (· = w.heap.size) w1 W2 := by rw [hW2]; exact (Only.setCell (S := (· = w.heap.size)) w1 ⟨w.heap.size, 0, none⟩ _ rfl).next (Only.setCell (S := (· = w.heap.size)) _ ⟨w.heap.size, 1, none⟩ _ rfl)
  have hr2 : W2.heap[w.heap.size]? = some (.cells #[.string (bas x.name), .int .i64 (x.num : Nat)] 55 (0, 0)) := by rw [hW2]; simp [World.setCell, Array.getElem?_modify, hr1]
  have y0 : W2.cell? ⟨w.heap.size, 0, none⟩ = some (.string (bas x.name)) := cellOf hr2 0
  have y1 : W2.cell? ⟨w.heap.size, 1, none⟩ = some (.int .i64 (x.num : Nat)) := cellOf hr2 1
  have HF : Hid ((∃ v', HB W2 base kb v' [] ∧ v'.ownBlock = v0.ownBlock) ∧ Only (hS kb v0) w W2) := by
    refine ⟨⟨v1, ⟨h1.lo, (ho2.block kb (block_lt h1.box) (fun e => hnot (.inl e.symm))).trans h1.box, h1.blk.kept ho2 (fun j hj e => hnot (.inr (by rw [← hv1, hj, e])))⟩, hv1⟩, ?_⟩
    exact ((Below.only hb0 _).next ho1).trans ho2 (fun i hi => .inr (by have : i = w.heap.size := hi; omega))
  clear h1 ho1 ho2 hr1 hr2 hr0 hnot hb0 cP
  go_wp2
  rw [← hW2]
  refine bodyPost_ret (v := .agg #[.string (bas x.name), .int .i64 (x.num : Nat)]) (by simp [results, Tryd.results36, go_sem, y0, y1]) rfl ?_
  exact ⟨rfl, HF.out⟩

end Go.Proofs.YtdocablbkafkiaaDoor.Cd
