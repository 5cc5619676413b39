import Derived.Test.YthhakekbffembaaGreatDoorQEvq

namespace Go.Proofs.YthhakekbffembaaGreatDoor.Ck.Y.W
open Go.RowKit Go.Maps Go.Lib Go.Sort
open L (below_thenH below_drewH below_drewNH cell_keptH IsHd lastC)
open Sh (bas Ids Nms strs idsC InI Cs ShI)
set_option maxRecDepth 8000 in
set_option maxHeartbeats 1000000 in
theorem live_nil (t n : Int) (w : World) : Calls Tryz.prog 24 #[.pointer none, .agg #[.int .i64 t, .int .i64 n]] w fun e w' => e = .returned (.bool false) ∧ Below w.heap.size w w' := by
 have HB : Hid (Below w.heap.size w (w.alloc (.cells #[.int .i64 t, .int .i64 n] 28))) := below_new w _
 go_enter Tryz.func24, Tryz.ntmps24
 go_wp2
 go_region
 all_goals
   go_wp2
   go_ret
   exact ⟨rfl, below_thenH HB.out (below_drewH _)⟩
set_option maxRecDepth 8000 in
set_option maxHeartbeats 1000000 in
theorem list_nil (t n : Int) (w : World) : Calls Tryz.prog 20 #[.pointer none, .agg #[.int .i64 t, .int .i64 n]] w fun e w' => e = .returned (.tuple #[.slice none 0 0, .int .i64 2]) ∧ Below w.heap.size w w' := by
 have HB : Hid (Below w.heap.size w (w.alloc (.cells #[.int .i64 t, .int .i64 n] 28))) := below_new w _
 have c := fun W => live_nil t n W
 go_enter Tryz.func20, Tryz.ntmps20
 go_wp2_with (go_at_call 24; refine (c _).mono ?_; rintro e w1 ⟨rfl, h1⟩; have H1 := Lib.hid h1; clear h1 c)
 go_ret2
 exact ⟨rfl, below_thenH HB.out H1.out⟩
set_option maxRecDepth 8000 in
set_option maxHeartbeats 1000000 in
theorem path_nil (t n : Int) (w : World) : Calls Tryz.prog 21 #[.pointer none, .agg #[.int .i64 t, .int .i64 n]] w fun e w' => e = .returned (.tuple #[.slice none 0 0, .bool false]) ∧ Below w.heap.size w w' := by
 have HB : Hid (Below w.heap.size w (w.alloc (.cells #[.int .i64 t, .int .i64 n] 28))) := below_new w _
 have c := fun W => live_nil t n W
 go_enter Tryz.func21, Tryz.ntmps21
 go_wp2_with (go_at_call 24; refine (c _).mono ?_; rintro e w1 ⟨rfl, h1⟩; have H1 := Lib.hid h1; clear h1 c)
 go_ret2
 exact ⟨rfl, below_thenH HB.out H1.out⟩
set_option maxRecDepth 8000 in
set_option maxHeartbeats 1000000 in
theorem walk_nil (w : World) : Calls Tryz.prog 18 #[.pointer none, .slice none 0 0] w fun e w' => e = .returned (.tuple #[.agg #[.int .i64 0, .int .i64 0], .int .i64 2]) ∧ Below w.heap.size w w' := by
 go_enter Tryz.func18, Tryz.ntmps18
 go_wp2
 have r0 : (w.alloc (.cells #[.int .i64 0, .int .i64 0] 28)).cell? ⟨w.heap.size, 0, none⟩ = some (.int .i64 0) := cellOf (heap_alloc_new w _) 0
 have r1 : (w.alloc (.cells #[.int .i64 0, .int .i64 0] 28)).cell? ⟨w.heap.size, 1, none⟩ = some (.int .i64 0) := cellOf (heap_alloc_new w _) 1
 refine bodyPost_ret (v := .tuple #[.agg #[.int .i64 0, .int .i64 0], .int .i64 2]) (by simp [results, Tryz.results18, go_sem, r0, r1]) rfl ?_
 exact ⟨rfl, (below_new w _).out⟩
set_option maxRecDepth 8000 in
set_option maxHeartbeats 1000000 in
theorem len_nil (w : World) : Calls Tryz.prog 11 #[.pointer none] w fun e w' => e = .returned (.int .i64 0) ∧ Below w.heap.size w w' := by
 go_enter Tryz.func11, Tryz.ntmps11
 go_wp2
 go_ret
 exact ⟨rfl, Below.refl _ _⟩
def vo0 : OG := ⟨0, 0, 0, 0, 0, 0, 0, 0, ⟨#[]⟩, none, 0, 0, none, 0, 0⟩
set_option maxRecDepth 8000 in
set_option maxHeartbeats 1000000 in
theorem apply_nil (w : World) : Calls Tryz.prog 9 #[.pointer none, opgv vo0] w fun e w' => e = .returned (.int .i64 22) ∧ Below w.heap.size w w' := by
 have HB := below_new w (.cells (opgC vo0) 33)
 simp only [opgv, opgC, vo0] at *
 go_enter Tryz.func9, Tryz.ntmps9
 go_wp2
 go_ret
 exact ⟨rfl, HB.out⟩
theorem vn_chain {w w1 w2 w3 : World} (hL : Sh.Lb w) (h1 : Below w.heap.size w w1) (h2 : Below (w1.alloc (.cells #[.int .i64 0, .int .i64 0] 28)).heap.size (w1.alloc (.cells #[.int .i64 0, .int .i64 0] 28)) w2) (h3 : Below w2.heap.size w2 w3) : Sh.Lb w3 ∧ Below w.heap.size w w3 := by
 have hb := below_thenH (below_thenH (below_thenH h1 (below_new w1 (.cells #[.int .i64 0, .int .i64 0] 28)).out) h2) h3
 exact ⟨hL.below hb, hb⟩
theorem vn_bad {w3 w4 w7 : World} (h : ∀ nsf bsf, VW (· = w3.heap.size) w4 w3.heap.size nsf bsf [] []) (hb : Below w4.heap.size w4 w7) : Calls Tryz.prog 9 #[.pointer (some ⟨w3.heap.size, 0, none⟩), opgv vo0] w7 fun e w' => e = .returned (.int .i64 22) ∧ Below w7.heap.size w7 w' :=
 ((h vns vbs).below hb).apply_bad (o := vo0) (ns := []) ⟨fun h => absurd h (by simp), rfl, Nat.le_refl _, by decide, by decide, by decide⟩ (by kernel_rfl)
theorem vn_len {w3 w4 w8 : World} (h : ∀ nsf bsf, VW (· = w3.heap.size) w4 w3.heap.size nsf bsf [] []) (hb : Below w4.heap.size w4 w8) : Calls Tryz.prog 11 #[.pointer (some ⟨w3.heap.size, 0, none⟩)] w8 fun e w' => e = .returned (.int .i64 0) ∧ w' = w8 :=
 ((h vns vbs).below hb).vlen
set_option maxRecDepth 8000 in
set_option maxHeartbeats 4000000 in
theorem vnone_law (w : World) (hL : Sh.Lb w) : Calls Tryz.prog 5 #[] w fun e w' => e = .returned (.bool true) ∧ Below w.heap.size w w' := by
 have HL := Lib.hid hL
 clear hL
 go_enter Tryz.func5, Tryz.ntmps5
 go_wp2_with (first
   | (go_at_call 18; refine Calls_new (walk_nil _) ?_; intro w1 HB1)
   | (go_at_call 20; refine Calls_new (list_nil 0 0 _) ?_; intro w2 HB2)
   | (go_at_call 21; refine Calls_new (path_nil 0 0 _) ?_; intro w3 HB3; have HL3 : Hid (Sh.Lb w3 ∧ Below w.heap.size w w3) := vn_chain HL.out HB1.out HB2.out HB3.out)
   | (go_at_call 7; refine (vnew_any w3).mono ?_; rintro e w4 ⟨rfl, H4⟩; have cb := vbegun_any w4 (HL3.out.1.below H4.out.1))
   | (go_at_call 6; refine cb.mono ?_; clear cb; rintro e w5 ⟨rfl, h5⟩; have H5 : Hid (Below w4.heap.size w4 w5) := h5; clear h5; have cA := apply_nil w5; simp only [opgv, vo0] at cA)
   | (go_at_call 9; refine cA.mono ?_; clear cA; rintro e w6 ⟨rfl, h6⟩; have H6 : Hid (Below w4.heap.size w4 w6) := below_thenH H5.out h6; clear h6; have cl := len_nil w6)
   | (go_at_call 11; refine cl.mono ?_; clear cl; rintro e w7 ⟨rfl, h7⟩; have H7 : Hid (Below w4.heap.size w4 w7) := below_thenH H6.out h7; clear h7; have cB := vn_bad H4.out.2 H7.out; simp only [opgv, vo0] at cB)
   | (go_at_call 9; refine cB.mono ?_; clear cB; rintro e w8 ⟨rfl, h8⟩; have H8 : Hid (Below w4.heap.size w4 w8) := below_thenH H7.out h8; clear h8; have cl2 := vn_len H4.out.2 H8.out)
   | (go_at_call 11; refine cl2.mono ?_; clear cl2; rintro e w9 ⟨rfl, h9⟩; have H9 : Hid (w9 = w8) := h9; clear h9))
 go_ret
 refine ⟨by first | rfl | (simp; done), ?_⟩
 rw [H9.out]
 exact below_thenH HL3.out.2 (below_thenH (show Below w3.heap.size w3 w4 from H4.out.1) H8.out)
end Go.Proofs.YthhakekbffembaaGreatDoor.Ck.Y.W
