/-
  A name is taken out: Drop.
-/
import Derived.Test.YtdocablbkafkiaaDoorJc
import Derived.Test.YtdocablbkafkiaaDoorDw
namespace Go.Proofs.YtdocablbkafkiaaDoor.Cd
open Go.RowKit

theorem DirAt.recount {w : World} {base a count : Nat} {bv : Value} {vs : List Value} {D : List (List En)} (h1 : DirAt w base a count bv vs D) (k : Nat) : DirAt (w.setCell ⟨a, 0, none⟩ (.int .i64 (k : Nat))) base a k bv vs D ∧ Fr base w (w.setCell ⟨a, 0, none⟩ (.int .i64 (k : Nat))) := by
  have ho3 : Only (fun q => q = a) w (w.setCell ⟨a, 0, none⟩ (.int .i64 (k : Nat))) := Only.setCell _ _ _ rfl
  refine ⟨⟨h1.lo, by rw [heap_set_same h1.dir]; rfl, Only.ownsAny ho3 h1.blocks (fun b hb e => ?_), h1.rows.len, fun m u M hu hM => (h1.rows.row m u M hu hM).kept ho3 (fun b hb e => ?_), h1.rows.apart⟩, Only.weak ho3 (fun q _ hq => by rw [hq]; exact ⟨h1.lo, _, _, _, h1.dir, .inl rfl⟩)⟩
  · rcases h1.blocks.2 with ⟨e', _⟩ | ⟨g', _, cur', e', _, hg', _⟩
    · rw [e'] at hb; cases hb
    · rw [e'] at hb
      have : g' = b := by injection hb
      rw [this, e, h1.dir] at hg'; cases hg'
  · obtain ⟨_, _, cur', t3⟩ := (h1.rows.row m u M hu hM).tag hb
    rw [e, h1.dir] at t3; cases t3
/-- What Drop answers. -/
def Dropd (base a : Nat) (D : List (List En)) (s : List UInt8) (w : World) (e : Ending) (w' : World) : Prop :=
  Fr base w w' ∧ ((Absent D s ∧ e = .returned (.int .i64 2) ∧ DirOk w' base a D) ∨
    (∃ x, x.name = s ∧ e = .returned (.int .i64 0) ∧ ∃ D', DirOk w' base a D' ∧ (x :: D'.flatten).Perm D.flatten))

set_option maxRecDepth 8000 in
set_option maxHeartbeats 4000000 in
theorem drop_any (base a : Nat) (D : List (List En)) (s : ByteArray) (w : World) (ht : Tab w) (hgb : 1 < base) (h : DirOk w base a D) (hx : s.size < 1000000) :
    Calls Tryd.prog 11 #[.pointer (some ⟨a, 0, none⟩), .string s] w (Dropd base a D s.data.toList w) := by
  have cS := seek_ok base a D s w ht hgb h hx
  have HO : Hid (DirOk w base a D ∧ Tab w) := ⟨h, ht⟩
  clear h ht
  go_enter Tryd.func11, Tryd.ntmps11
  go_wp2_with fail
  refine cS.mono ?_
  rintro e w1 ⟨hb1, ⟨i, j, L, x, hL, hx', hn, rfl⟩ | ⟨hA, rfl⟩⟩
  · obtain ⟨w2, hw2⟩ : ∃ w2, w2 = w1.alloc (.cells #[.int .i64 (i : Nat), .int .i64 (j : Nat)] 51) := ⟨_, rfl⟩
    have hb2 : Below w.heap.size w w2 := by rw [hw2]; exact hb1.alloc hb1.size _
    obtain ⟨⟨bv, vs, h1⟩, h2⟩ := HO.out.1.below hb2
    obtain ⟨p, c, rfl, _, _, hpB⟩ := h1.bform
    have hDl := (List.getElem?_eq_some_iff.1 hL).1
    obtain ⟨B, rfl, _, _, _⟩ := hpB (by omega)
    have hb512 := bfor_small _ h2.most
    have hfit := h2.len
    have cT := takeout_any base a (total D) B D.length c i j vs D L x w2 (below_tab hb2 HO.out.2.lt HO.out.2) hgb h1 rfl h2.wf hL hx' (by omega) h2.most (by rw [h2.len]; have := bfor_room _ h2.most; omega) (fun y hy => by have := fine_short (h2.fine y hy).1; omega)
    have HG : Hid (Good D ∧ x.name = s.data.toList ∧ Below w.heap.size w w2) := ⟨h2, hn, hb2⟩
    obtain ⟨T, hT⟩ : ∃ T, total D = T := ⟨_, rfl⟩
    obtain ⟨N, hN⟩ : ∃ N, D.length = N := ⟨_, rfl⟩
    have hbw : base ≤ w.heap.size := by have := HO.out.1.lt; omega
    rw [hT] at cT
    rw [hN] at cT
    clear h1 h2 hn hb2 hL hx' hDl hpB hfit hb1 hb512
    go_wp2_with (go_at_call 25; rw [← hw2]; refine cT.mono ?_; rintro e w3 ⟨rfl, vs3, D3, hd3, hwf3, hp3, hf3⟩; clear cT hw2; have d0 := hd3.c0; have f0 := frozenOf hd3.dir 0; have hT1 : total D3 + 1 = T := (by have := hp3.length_eq; rw [← hT]; unfold total; simpa using this); have hq8 : total D3 ≤ 2048 := (by have := HG.out.1.most; omega); have hsub : (T : Int) - 1 = ((total D3 : Nat) : Int) := (by omega); obtain ⟨hd4, hf4⟩ := hd3.recount (total D3); obtain ⟨w4, hw4⟩ : ∃ w4, w4 = w3.setCell ⟨a, 0, none⟩ (.int .i64 ((total D3 : Nat) : Int)) := ⟨_, rfl⟩; rw [← hw4] at hd4 hf4; have H4 : Hid (DirAt w4 base a (total D3) (.slice (some ⟨B, 0, none⟩) N c) vs3 D3 ∧ Fr base w w4 ∧ WF H1 N D3 ∧ (x :: D3.flatten).Perm D.flatten) := ⟨hd4, ((Fr.below HG.out.2.2).trans hf3).trans hf4, hwf3, hp3⟩; clear hd3 hwf3 hp3 hf3 hd4 hf4)
    try rw [hsub]
    try rw [← hw4]
    have cF := fit_any base a (total D3) (.slice (some ⟨B, 0, none⟩) N c) vs3 D3 w4 (below_tab (H4.out.2.1.toBelow hbw) hgb HO.out.2) hgb H4.out.1 (by rw [H4.out.2.2.1.len]; exact H4.out.2.2.1) (by have := HG.out.1.most; omega) (Nat.le_refl _) (by rw [H4.out.2.2.1.len, ← hN, HG.out.1.len]; have := bfor_small _ HG.out.1.most; omega) (fun y hy => by have := fine_short (HG.out.1.fine y (H4.out.2.2.2.mem_iff.1 (List.mem_cons_of_mem _ hy))).1; omega)
    clear hw4 d0 f0
    go_wp2_with fail
    refine cF.mono ?_
    rintro e w5 ⟨rfl, bv5, vs5, D5, hd5, hwf5, hm5, ht5, hf5⟩
    have HF : Hid (Dropd base a D s.data.toList w (.returned (.int .i64 0)) w5) := by
      obtain ⟨_, hfr, hwf3, hp3⟩ := H4.out
      obtain ⟨hg, hnm, _⟩ := HG.out
      have hp5 : D5.flatten.Perm D3.flatten := (List.perm_ext_iff_of_nodup (nodup_of_names hwf5.names) (nodup_of_names hwf3.names)).2 hm5
      have hl5 := hwf5.len
      refine ⟨hfr.trans hf5, .inr ⟨x, hnm, rfl, D5, ⟨⟨bv5, vs5, by rw [ht5]; exact hd5⟩, by rw [hl5]; exact hwf5, by rw [hl5, ht5], by rw [ht5]; have := hg.most; omega, fun y hy => hg.fine y (hp3.mem_iff.1 (List.mem_cons_of_mem _ ((hm5 y).1 hy)))⟩, (List.Perm.cons x hp5).trans hp3⟩⟩
    clear hd5 hwf5 hm5 ht5 hf5 cF
    go_wp2
    go_ret
    exact HF.out
  · have hb2 : Below w.heap.size w (w1.alloc (.cells #[.int .i64 0, .int .i64 0] 51)) := hb1.alloc hb1.size _
    have HR : Hid (Dropd base a D s.data.toList w (.returned (.int .i64 2)) (w1.alloc (.cells #[.int .i64 0, .int .i64 0] 51))) := ⟨Fr.below hb2, .inl ⟨hA, rfl, HO.out.1.below hb2⟩⟩
    clear hA hb1 hb2 cS
    go_wp2
    go_ret
    exact HR.out

end Go.Proofs.YtdocablbkafkiaaDoor.Cd
