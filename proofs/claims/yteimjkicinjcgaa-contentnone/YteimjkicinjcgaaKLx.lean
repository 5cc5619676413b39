/-
  A write that is made of a text.
-/
import Derived.Test.YteimjkicinjcgaaKLw

namespace Go.Proofs.Yteimjkicinjcgaa.Ck.Y.L
open Go.RowKit Go.Maps Go.Lib

theorem conv_bytes (nm : List UInt8) (W : World) : ∃ W' c, (convert 9 31 (.string (Cd.bas nm))).run Try.prog W = .ok (.slice (some ⟨W.heap.size, 0, none⟩) nm.length c) W' ∧ Cd.Bytes W' (some ⟨W.heap.size, 0, none⟩) (Cd.bvs nm) ∧ Below W.heap.size W W' ∧ nm.length ≤ c := by
  have h := run_bytes_of_string (P := Try.prog) W 9 31 5 (Cd.bas nm) Try.underlying9 Try.underlying31 Try.underlying5
  rw [Cd.bas_size] at h
  refine ⟨_, _, h, ?_, ((Below.refl _ W).drew).alloc (Nat.le_refl _) _, grownCap_ge _ _ _ _⟩
  intro _
  refine ⟨W.heap.size, 0, rfl, fun j x hj => ?_⟩
  have hb := heap_alloc_new W.drew (.cells (bytesRow (Cd.bas nm) (grownCap W nm.length 0 5)) 5 ((bytesRow (Cd.bas nm) (grownCap W nm.length 0 5)).size, (bytesRow (Cd.bas nm) (grownCap W nm.length 0 5)).size + 1))
  rw [show W.drew.heap.size = W.heap.size from rfl] at hb
  rw [cellOf hb]
  unfold Cd.bvs at hj
  rw [List.getElem?_map] at hj
  obtain ⟨y, hy, rfl⟩ := Option.map_eq_some_iff.1 hj
  unfold bytesRow Cd.bas
  rw [Nat.zero_add, Array.getElem?_append_left (by
    have := (List.getElem?_eq_some_iff.1 hy).1
    simpa using this)]
  simp [hy, Cd.u8v]
def set11 (w : World) (b : Nat) (v0 v1 v2 v3 v4 v5 v6 v7 v8 v9 v10 : Value) : World := (((((((((((w.setCell ⟨b, 0, none⟩ v0).setCell ⟨b, 1, none⟩ v1).setCell ⟨b, 2, none⟩ v2).setCell ⟨b, 3, none⟩ v3).setCell ⟨b, 4, none⟩ v4).setCell ⟨b, 5, none⟩ v5).setCell ⟨b, 6, none⟩ v6).setCell ⟨b, 7, none⟩ v7).setCell ⟨b, 8, none⟩ v8).setCell ⟨b, 9, none⟩ v9).setCell ⟨b, 10, none⟩ v10)
theorem set11_at {w : World} {b : Nat} {T : TypeId} {a0 a1 a2 a3 a4 a5 a6 a7 a8 a9 a10 : Value} (h : w.heap[b]? = some (.cells #[a0, a1, a2, a3, a4, a5, a6, a7, a8, a9, a10] T (0, 0))) (v0 v1 v2 v3 v4 v5 v6 v7 v8 v9 v10 : Value) : (set11 w b v0 v1 v2 v3 v4 v5 v6 v7 v8 v9 v10).heap[b]? = some (.cells #[v0, v1, v2, v3, v4, v5, v6, v7, v8, v9, v10] T (0, 0)) := by
  have h0 : (w.setCell ⟨b, 0, none⟩ v0).heap[b]? = some (.cells #[v0, a1, a2, a3, a4, a5, a6, a7, a8, a9, a10] T (0, 0)) := heap_set_same (k := 0) h v0
  have h1 : ((w.setCell ⟨b, 0, none⟩ v0).setCell ⟨b, 1, none⟩ v1).heap[b]? = some (.cells #[v0, v1, a2, a3, a4, a5, a6, a7, a8, a9, a10] T (0, 0)) := heap_set_same (k := 1) h0 v1
  have h2 : (((w.setCell ⟨b, 0, none⟩ v0).setCell ⟨b, 1, none⟩ v1).setCell ⟨b, 2, none⟩ v2).heap[b]? = some (.cells #[v0, v1, v2, a3, a4, a5, a6, a7, a8, a9, a10] T (0, 0)) := heap_set_same (k := 2) h1 v2
  have h3 : ((((w.setCell ⟨b, 0, none⟩ v0).setCell ⟨b, 1, none⟩ v1).setCell ⟨b, 2, none⟩ v2).setCell ⟨b, 3, none⟩ v3).heap[b]? = some (.cells #[v0, v1, v2, v3, a4, a5, a6, a7, a8, a9, a10] T (0, 0)) := heap_set_same (k := 3) h2 v3
  have h4 : (((((w.setCell ⟨b, 0, none⟩ v0).setCell ⟨b, 1, none⟩ v1).setCell ⟨b, 2, none⟩ v2).setCell ⟨b, 3, none⟩ v3).setCell ⟨b, 4, none⟩ v4).heap[b]? = some (.cells #[v0, v1, v2, v3, v4, a5, a6, a7, a8, a9, a10] T (0, 0)) := heap_set_same (k := 4) h3 v4
  have h5 : ((((((w.setCell ⟨b, 0, none⟩ v0).setCell ⟨b, 1, none⟩ v1).setCell ⟨b, 2, none⟩ v2).setCell ⟨b, 3, none⟩ v3).setCell ⟨b, 4, none⟩ v4).setCell ⟨b, 5, none⟩ v5).heap[b]? = some (.cells #[v0, v1, v2, v3, v4, v5, a6, a7, a8, a9, a10] T (0, 0)) := heap_set_same (k := 5) h4 v5
  have h6 : (((((((w.setCell ⟨b, 0, none⟩ v0).setCell ⟨b, 1, none⟩ v1).setCell ⟨b, 2, none⟩ v2).setCell ⟨b, 3, none⟩ v3).setCell ⟨b, 4, none⟩ v4).setCell ⟨b, 5, none⟩ v5).setCell ⟨b, 6, none⟩ v6).heap[b]? = some (.cells #[v0, v1, v2, v3, v4, v5, v6, a7, a8, a9, a10] T (0, 0)) := heap_set_same (k := 6) h5 v6
  have h7 : ((((((((w.setCell ⟨b, 0, none⟩ v0).setCell ⟨b, 1, none⟩ v1).setCell ⟨b, 2, none⟩ v2).setCell ⟨b, 3, none⟩ v3).setCell ⟨b, 4, none⟩ v4).setCell ⟨b, 5, none⟩ v5).setCell ⟨b, 6, none⟩ v6).setCell ⟨b, 7, none⟩ v7).heap[b]? = some (.cells #[v0, v1, v2, v3, v4, v5, v6, v7, a8, a9, a10] T (0, 0)) := heap_set_same (k := 7) h6 v7
  have h8 : (((((((((w.setCell ⟨b, 0, none⟩ v0).setCell ⟨b, 1, none⟩ v1).setCell ⟨b, 2, none⟩ v2).setCell ⟨b, 3, none⟩ v3).setCell ⟨b, 4, none⟩ v4).setCell ⟨b, 5, none⟩ v5).setCell ⟨b, 6, none⟩ v6).setCell ⟨b, 7, none⟩ v7).setCell ⟨b, 8, none⟩ v8).heap[b]? = some (.cells #[v0, v1, v2, v3, v4, v5, v6, v7, v8, a9, a10] T (0, 0)) := heap_set_same (k := 8) h7 v8
  have h9 : ((((((((((w.setCell ⟨b, 0, none⟩ v0).setCell ⟨b, 1, none⟩ v1).setCell ⟨b, 2, none⟩ v2).setCell ⟨b, 3, none⟩ v3).setCell ⟨b, 4, none⟩ v4).setCell ⟨b, 5, none⟩ v5).setCell ⟨b, 6, none⟩ v6).setCell ⟨b, 7, none⟩ v7).setCell ⟨b, 8, none⟩ v8).setCell ⟨b, 9, none⟩ v9).heap[b]? = some (.cells #[v0, v1, v2, v3, v4, v5, v6, v7, v8, v9, a10] T (0, 0)) := heap_set_same (k := 9) h8 v9
  have h10 : (((((((((((w.setCell ⟨b, 0, none⟩ v0).setCell ⟨b, 1, none⟩ v1).setCell ⟨b, 2, none⟩ v2).setCell ⟨b, 3, none⟩ v3).setCell ⟨b, 4, none⟩ v4).setCell ⟨b, 5, none⟩ v5).setCell ⟨b, 6, none⟩ v6).setCell ⟨b, 7, none⟩ v7).setCell ⟨b, 8, none⟩ v8).setCell ⟨b, 9, none⟩ v9).setCell ⟨b, 10, none⟩ v10).heap[b]? = some (.cells #[v0, v1, v2, v3, v4, v5, v6, v7, v8, v9, v10] T (0, 0)) := heap_set_same (k := 10) h9 v10
  exact h10
theorem set11_only (w : World) (b : Nat) (v0 v1 v2 v3 v4 v5 v6 v7 v8 v9 v10 : Value) : Only (fun k => k = b) w (set11 w b v0 v1 v2 v3 v4 v5 v6 v7 v8 v9 v10) :=
  ((((((((((Only.setCell (S := fun k => k = b) _ _ _ rfl).next (Only.setCell (S := fun k => k = b) _ _ _ rfl)).next (Only.setCell (S := fun k => k = b) _ _ _ rfl)).next (Only.setCell (S := fun k => k = b) _ _ _ rfl)).next (Only.setCell (S := fun k => k = b) _ _ _ rfl)).next (Only.setCell (S := fun k => k = b) _ _ _ rfl)).next (Only.setCell (S := fun k => k = b) _ _ _ rfl)).next (Only.setCell (S := fun k => k = b) _ _ _ rfl)).next (Only.setCell (S := fun k => k = b) _ _ _ rfl)).next (Only.setCell (S := fun k => k = b) _ _ _ rfl)).next (Only.setCell (S := fun k => k = b) _ _ _ rfl)

set_option maxRecDepth 8000 in
set_option maxHeartbeats 2000000 in
theorem lit_any (t n : Int) (nm : List UInt8) (w : World) (hn : nm.length ≤ 1000) :
    Calls Try.prog 24 #[.int .i64 t, .int .i64 n, .string (Cd.bas nm)] w fun e w' => ∃ gb cc, e = .returned (opgv ⟨t, n, 1, 4, 1, 9, 0, 0, ⟨#[]⟩, some ⟨gb, 0, none⟩, nm.length, cc, none, 0, 0⟩) ∧ WIn w' ⟨t, n, 1, 4, 1, 9, 0, 0, ⟨#[]⟩, some ⟨gb, 0, none⟩, nm.length, cc, none, 0, 0⟩ [] (Cd.bvs nm) ∧ w.heap.size ≤ gb ∧ Below w.heap.size w w' := by
  obtain ⟨A, hA⟩ : ∃ A, A = w.alloc (.cells #[.int .i64 0, .int .i64 0, .int .i64 0, .int .i64 0, .int .i64 0, .int .i64 0, .int .i64 0, .int .i64 0, .string ⟨#[]⟩, .slice none 0 0, .slice none 0 0] 35) := ⟨_, rfl⟩
  have bA : Below w.heap.size w A := by rw [hA]; exact (below_new w _).out
  have kA : A.heap[w.heap.size]? = some (.cells #[.int .i64 0, .int .i64 0, .int .i64 0, .int .i64 0, .int .i64 0, .int .i64 0, .int .i64 0, .int .i64 0, .string ⟨#[]⟩, .slice none 0 0, .slice none 0 0] 35 (0, 0)) := by rw [hA]; exact heap_alloc_new w _
  have sA : A.heap.size = w.heap.size + 1 := by rw [hA]; simp
  obtain ⟨B, cc, hcv, hby, bB, hcc⟩ := conv_bytes nm A
  have kB := (bB.block _ (block_lt kA)).trans kA
  obtain ⟨gb, hgb⟩ : ∃ gb, A.heap.size = gb := ⟨_, rfl⟩
  rw [hgb] at hcv hby
  have HBB : Hid (Below w.heap.size w B ∧ B.heap[w.heap.size]? = some (.cells #[.int .i64 0, .int .i64 0, .int .i64 0, .int .i64 0, .int .i64 0, .int .i64 0, .int .i64 0, .int .i64 0, .string ⟨#[]⟩, .slice none 0 0, .slice none 0 0] 35 (0, 0)) ∧ Cd.Bytes B (some ⟨gb, 0, none⟩) (Cd.bvs nm) ∧ nm.length ≤ cc ∧ gb = w.heap.size + 1 ∧ nm.length ≤ 1000) := ⟨below_thenH bA bB, kB, hby, hcc, by omega, hn⟩
  have y0 := frozenOf kB 0
  have z0 : B.cell? ⟨w.heap.size, 0, none⟩ = some (.int .i64 0) := cellOf kB 0
  have y1 := frozenOf kB 1
  have z1 : B.cell? ⟨w.heap.size, 1, none⟩ = some (.int .i64 0) := cellOf kB 1
  have y2 := frozenOf kB 2
  have z2 : B.cell? ⟨w.heap.size, 2, none⟩ = some (.int .i64 0) := cellOf kB 2
  have y3 := frozenOf kB 3
  have z3 : B.cell? ⟨w.heap.size, 3, none⟩ = some (.int .i64 0) := cellOf kB 3
  have y4 := frozenOf kB 4
  have z4 : B.cell? ⟨w.heap.size, 4, none⟩ = some (.int .i64 0) := cellOf kB 4
  have y5 := frozenOf kB 5
  have z5 : B.cell? ⟨w.heap.size, 5, none⟩ = some (.int .i64 0) := cellOf kB 5
  have y6 := frozenOf kB 6
  have z6 : B.cell? ⟨w.heap.size, 6, none⟩ = some (.int .i64 0) := cellOf kB 6
  have y7 := frozenOf kB 7
  have z7 : B.cell? ⟨w.heap.size, 7, none⟩ = some (.int .i64 0) := cellOf kB 7
  have y8 := frozenOf kB 8
  have z8 : B.cell? ⟨w.heap.size, 8, none⟩ = some (.string ⟨#[]⟩) := cellOf kB 8
  have y9 := frozenOf kB 9
  have z9 : B.cell? ⟨w.heap.size, 9, none⟩ = some (.slice none 0 0) := cellOf kB 9
  have y10 := frozenOf kB 10
  have z10 : B.cell? ⟨w.heap.size, 10, none⟩ = some (.slice none 0 0) := cellOf kB 10
  have HG : Hid (gb = w.heap.size + 1) := by show _ = _; omega
  rw [hA] at hcv
  clear hA bA kA sA hby bB hcc kB hgb hn
  go_enter Try.func24, Try.ntmps24
  go_wp2
  obtain ⟨W, hW⟩ : ∃ W, W = set11 B w.heap.size (.int .i64 t) (.int .i64 n) (.int .i64 1) (.int .i64 4) (.int .i64 1) (.int .i64 9) (.int .i64 0) (.int .i64 0) (.string ⟨#[]⟩) (.slice (some ⟨gb, 0, none⟩) nm.length cc) (.slice none 0 0) := ⟨_, rfl⟩
  have kW := set11_at HBB.out.2.1 (.int .i64 t) (.int .i64 n) (.int .i64 1) (.int .i64 4) (.int .i64 1) (.int .i64 9) (.int .i64 0) (.int .i64 0) (.string ⟨#[]⟩) (.slice (some ⟨gb, 0, none⟩) nm.length cc) (.slice none 0 0)
  have oW := set11_only B w.heap.size (.int .i64 t) (.int .i64 n) (.int .i64 1) (.int .i64 4) (.int .i64 1) (.int .i64 9) (.int .i64 0) (.int .i64 0) (.string ⟨#[]⟩) (.slice (some ⟨gb, 0, none⟩) nm.length cc) (.slice none 0 0)
  rw [← hW] at kW oW
  change bodyPost _ _ _ _ _ (set11 _ _ _ _ _ _ _ _ _ _ _ _ _)
  rw [← hW]
  have r0 : W.cell? ⟨w.heap.size, 0, none⟩ = some (.int .i64 t) := cellOf kW 0
  have r1 : W.cell? ⟨w.heap.size, 1, none⟩ = some (.int .i64 n) := cellOf kW 1
  have r2 : W.cell? ⟨w.heap.size, 2, none⟩ = some (.int .i64 1) := cellOf kW 2
  have r3 : W.cell? ⟨w.heap.size, 3, none⟩ = some (.int .i64 4) := cellOf kW 3
  have r4 : W.cell? ⟨w.heap.size, 4, none⟩ = some (.int .i64 1) := cellOf kW 4
  have r5 : W.cell? ⟨w.heap.size, 5, none⟩ = some (.int .i64 9) := cellOf kW 5
  have r6 : W.cell? ⟨w.heap.size, 6, none⟩ = some (.int .i64 0) := cellOf kW 6
  have r7 : W.cell? ⟨w.heap.size, 7, none⟩ = some (.int .i64 0) := cellOf kW 7
  have r8 : W.cell? ⟨w.heap.size, 8, none⟩ = some (.string ⟨#[]⟩) := cellOf kW 8
  have r9 : W.cell? ⟨w.heap.size, 9, none⟩ = some (.slice (some ⟨gb, 0, none⟩) nm.length cc) := cellOf kW 9
  have r10 : W.cell? ⟨w.heap.size, 10, none⟩ = some (.slice none 0 0) := cellOf kW 10
  refine bodyPost_ret (v := .agg #[.int .i64 t, .int .i64 n, .int .i64 1, .int .i64 4, .int .i64 1, .int .i64 9, .int .i64 0, .int .i64 0, .string ⟨#[]⟩, .slice (some ⟨gb, 0, none⟩) nm.length cc, .slice none 0 0]) (by simp [results, Try.results24, go_sem, r0, r1, r2, r3, r4, r5, r6, r7, r8, r9, r10]) rfl ?_
  have hlen : (Cd.bvs nm).length = nm.length := by unfold Cd.bvs; simp
  refine ⟨gb, cc, rfl, ?_, by have := HG.out; omega, HBB.out.1.trans (oW.below (by have := HBB.out.1.size; omega) (fun i hi => by have : i = w.heap.size := hi; omega))⟩
  have hI : WIn B ⟨t, n, 1, 4, 1, 9, 0, 0, ⟨#[]⟩, some ⟨gb, 0, none⟩, nm.length, cc, none, 0, 0⟩ [] (Cd.bvs nm) :=
    ⟨fun h => absurd h (by simp), rfl, by simp, by simp, HBB.out.2.2.1, hlen, by rw [hlen]; exact HBB.out.2.2.2.1, by rw [hlen]; have := HBB.out.2.2.2.2.2; omega, Nat.zero_le _⟩
  exact hI.kept oW (fun b k e => by cases e) (fun b k e => by cases e; intro e2; have := HG.out; omega)

end Go.Proofs.Yteimjkicinjcgaa.Ck.Y.L
