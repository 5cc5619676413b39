/-
  What each law begins with: two names clash.
-/
import Derived.Test.YtjajbhpcjickbaaDoorKAj

namespace Go.Proofs.YtjajbhpcjickbaaDoor.Ck.Sh
open Go.RowKit Go.Lib Go.Maps

attribute [local go_sem] Oper.semAt_some

theorem itoa_7 : itoa 7 = [55] := by rw [itoa_dec (by decide), show (7 : Int).toNat = 7 from rfl, decDigits_one (by decide)]; rfl
theorem itoa_2 : itoa 2 = [50] := by rw [itoa_dec (by decide), show (2 : Int).toNat = 2 from rfl, decDigits_one (by decide)]; rfl
theorem suf_72 : sufL 7 2 = [1, 55, 46, 50] := by unfold sufL; rw [itoa_7, itoa_2]; rfl
theorem shown_72 : shownL [(7, 2), (5, 0)] [[97], [97]] 2 = [[97, 1, 55, 46, 50], [97]] := by
  have h0 : shownAt [(7, 2), (5, 0)] [[97], [97]] 2 0 = [97, 1, 55, 46, 50] := by
    unfold shownAt
    rw [if_neg (by decide)]
    show [97] ++ sufL 7 2 = _
    rw [suf_72]; rfl
  have h1 : shownAt [(7, 2), (5, 0)] [[97], [97]] 2 1 = [97] := by
    unfold shownAt
    rw [if_pos (by decide)]; rfl
  show [shownAt _ _ 2 0, shownAt _ _ 2 1] = _
  rw [h0, h1]
theorem split_72 : splitP [97, 1, 55, 46, 50] = some ([97], 7, 2) :=
  (splitP_of _).unique ⟨by decide, by decide, by rw [suf_72]; rfl⟩

set_option maxRecDepth 8000 in
set_option maxRecDepth 8000 in
set_option maxHeartbeats 2000000 in
theorem begun_any (w : World) (hL : Lb w) : Calls Tryd.prog 7 #[] w fun e w' => e = .returned (.bool true) ∧ Below w.heap.size w w' := by
  obtain ⟨W2, hW2⟩ : ∃ W2, W2 = (w.alloc (.cells #[.int .i64 7, .int .i64 2, .int .i64 5, .int .i64 0] 29)).alloc (.cells #[.string ⟨#[97]⟩, .string ⟨#[97]⟩] 9) := ⟨_, rfl⟩
  have hB2 : Below w.heap.size w W2 := by rw [hW2]; exact (below_two w _ _).out
  have hi1 : Ids W2 (some ⟨w.heap.size, 0, none⟩) [(7, 2), (5, 0)] := fun j x hx => by
    refine ⟨w.heap.size, 0, rfl, ?_⟩
    rw [hW2]
    match j, hx with
    | 0, hx => cases hx; exact ⟨by simp [go_sem], by simp [go_sem]⟩
    | 1, hx => cases hx; exact ⟨by simp [go_sem], by simp [go_sem]⟩
    | j + 2, hx => simp at hx
  have hi2 : Nms W2 (some ⟨w.heap.size + 1, 0, none⟩) [[97], [97]] := fun j x hx => by
    refine ⟨w.heap.size + 1, 0, rfl, ?_⟩
    rw [hW2]
    match j, hx with
    | 0, hx => cases hx; simp [go_sem, bas]
    | 1, hx => cases hx; simp [go_sem, bas]
    | j + 2, hx => simp at hx
  have c1 := shown_any [(7, 2), (5, 0)] [[97], [97]] _ _ 2 2 W2 (hL.below hB2) hi1 hi2 (by decide) (by decide) (by decide) (fun x hx => by
      rcases List.mem_cons.1 hx with rfl | hx
      · exact ⟨⟨by decide, by decide⟩, ⟨by decide, by decide⟩⟩
      · rw [List.mem_singleton.1 hx]
        exact ⟨⟨by decide, by decide⟩, ⟨by decide, by decide⟩⟩) (fun x hx => by
      rcases List.mem_cons.1 hx with rfl | hx
      · decide
      · rw [List.mem_singleton.1 hx]; decide)
  have c1' : Calls Tryd.prog 8 #[.slice (some ⟨w.heap.size, 0, none⟩) 2 2, .slice (some ⟨w.heap.size + 1, 0, none⟩) 2 2] W2 fun e w' => ∃ g o, e = .returned (.slice (some ⟨g, o, none⟩) 2 2) ∧ w'.cell? ⟨g, o, none⟩ = some (.string ⟨#[97, 1, 55, 46, 50]⟩) ∧ w'.cell? ⟨g, o + 1, none⟩ = some (.string ⟨#[97]⟩) ∧ Below w.heap.size w w' := by
    refine c1.mono fun e w' ⟨p, he, H⟩ => ?_
    obtain ⟨h1, h2⟩ := H.out
    have h1' : Nms w' p (shownL [(7, 2), (5, 0)] [[97], [97]] 2) := h1
    rw [shown_72] at h1'
    obtain ⟨g, o, rfl, k0⟩ := h1' 0 _ rfl
    obtain ⟨g', o', e', k1⟩ := h1' 1 _ rfl
    cases e'
    exact ⟨g, o, he, k0, k1, below_then hB2 h2⟩
  have cs := fun W (hW : Lb W) => split_any [97, 1, 55, 46, 50] (by decide) W hW
  rw [split_72] at cs
  have cs' : ∀ W, Lb W → Calls Tryd.prog 13 #[.string ⟨#[97, 1, 55, 46, 50]⟩] W fun e w' => e = .returned (.tuple #[.string ⟨#[97]⟩, idv 7 2, .bool true]) ∧ Below W.heap.size W w' := cs
  have cx : ∀ W, Lb W → Calls Tryd.prog 15 #[idv 7 2] W fun e w' => e = .returned (.string ⟨#[1, 55, 46, 50]⟩) ∧ Below W.heap.size W w' := fun W hW => by
    have := suffix_any 7 2 ⟨by decide, by decide⟩ ⟨by decide, by decide⟩ W hW
    rw [suf_72] at this
    exact this
  have HL := Lib.hid hL
  clear c1 cs hi1 hi2 hB2 hL
  subst hW2
  go_enter Tryd.func7, Tryd.ntmps7
  go_wp2_with (first
    | (go_at_call 8
       refine c1'.mono ?_
       rintro e w3 ⟨g, o, rfl, k0, k1, hb3⟩
       have HB3 := Lib.hid hb3
       clear hb3 c1')
    | (go_at_call 13
       refine (cs' _ (HL.out.below HB3.out)).mono ?_
       rintro e w4 ⟨rfl, hb4⟩
       have m0 := cell_kept k0 hb4
       have m1 := cell_kept k1 hb4
       have HB4 := Lib.hid (below_then HB3.out hb4)
       have hl4 := cell_lt m0
       clear hb4 cs')
    | (go_at_call 15
       refine (cx _ (HL.out.below (below_then HB4.out (below_new _ _).out))).mono ?_
       rintro e w5 ⟨rfl, hb5⟩
       have HB5 := Lib.hid (below_then (below_then HB4.out (below_new _ _).out) hb5)
       clear hb5 cx))
  go_ret
  exact ⟨rfl, HB5.out⟩

end Go.Proofs.YtjajbhpcjickbaaDoor.Ck.Sh
