/-
  Some of the law: operations that may be, with stamps apart.
-/
import Derived.Test.YteimjkicinjcgaaQOmx

/-
  A file as the laws ask it; a write that is made of a text.
-/
namespace Go.Proofs.Yteimjkicinjcgaa.Ck.Y.L
open Go.RowKit Go.Maps Go.Lib

/-- The heads of S, by rising stamps. -/
structure IsHd (S HC : List VC) : Prop where
  rise : HC.Pairwise ltC
  mem : ∀ x, x ∈ HC ↔ x ∈ S ∧ headC S x = true
theorem IsHd.unique {S A B : List VC} (h : IsHd S A) (k : IsHd S B) : A = B := rise_unique h.rise k.rise fun x => (h.mem x).trans (k.mem x).symm
theorem HF.isHd {S : List VC} {sn : List Int} {H : List VC} (h : L.HF S sn H) (hq : ∀ x ∈ S, 1 ≤ x.sq) : IsHd S H :=
  ⟨h.rise, fun x => by
    rw [h.mem]
    constructor
    · rintro ⟨h1, h2⟩; exact ⟨h1, (h.headC (hq x h1)).1 h2⟩
    · rintro ⟨h1, h2⟩; exact ⟨h1, (h.headC (hq x h1)).2 h2⟩⟩
def lastC (HC : List VC) : List (BitVec 8) := match HC.getLast? with
  | none => []
  | some x => x.bs
theorem lastB_map (H : List VG) : lastB H = lastC (H.map VG.c) := by
  unfold lastB lastC
  rw [List.getLast?_map]
  cases H.getLast? <;> rfl
section
variable {F : Nat → Prop} {w w' : World} {fb : Nat} {S : List VC}
theorem FileS.below (h : FileS F w fb S) (hb : Below w.heap.size w w') : FileS F w' fb S := by
  obtain ⟨sn, H, mv, sp, sc, hv, h1, h2⟩ := h
  exact ⟨sn, H, mv, sp, sc, hv, h1.below hb, h2⟩
theorem FileS.kept {G : Nat → Prop} (h : FileS F w fb S) (ho : Only G w w') (hn : ∀ b, F b → ¬ G b) (hg : Hard w G) : FileS F w' fb S := by
  obtain ⟨sn, H, mv, sp, sc, hv, h1, h2, rfl, h3⟩ := h
  exact ⟨sn, H, mv, sp, sc, hv, h1.kept ho hn hg, h2, rfl, h3⟩
theorem FileS.lt (h : FileS F w fb S) : ∀ b, F b → b < w.heap.size := by
  obtain ⟨sn, H, mv, sp, sc, hv, h1, h2, rfl, h3⟩ := h
  exact h1.lt
theorem FileS.notF (h : FileS F w fb S) {b : Nat} {cs : Array Value} {t : TypeId} (hb : w.heap[b]? = some (.cells cs t (0, 0))) (h1 : t ≠ 55) (h2 : t ≠ 43) : ¬ F b := by
  obtain ⟨sn, H, mv, sp, sc, hv, k1, _, rfl, _⟩ := h
  exact k1.notFoot hb h1 h2
theorem fheads (h : FileS F w fb S) (hq : ∀ x ∈ S, 1 ≤ x.sq) {HC : List VC} (hs : IsHd S HC) :
    Calls Try.prog 14 #[.pointer (some ⟨fb, 0, none⟩)] w fun e w' => ∃ v M, e = .returned v ∧ RowV w' w.heap.size v M ∧ M.map VG.c = HC ∧ (∀ y ∈ M, VOwn w' w.heap.size y) ∧ Below w.heap.size w w' := by
  obtain ⟨sn, H, mv, sp, sc, hv, h1, h2, rfl, h3⟩ := h
  have e := (h2.isHd hq).unique hs
  rw [← e]
  exact heads_any h1
theorem fvalue (h : FileS F w fb S) (hq : ∀ x ∈ S, 1 ≤ x.sq) {HC : List VC} (hs : IsHd S HC) :
    Calls Try.prog 15 #[.pointer (some ⟨fb, 0, none⟩)] w fun e w' => ∃ v, e = .returned v ∧ w'.ownsRow w.heap.size 5 1 v (lastC HC).length ((lastC HC).map Cd.u8v) ∧ Below w.heap.size w w' := by
  obtain ⟨sn, H, mv, sp, sc, hv, h1, h2, rfl, h3⟩ := h
  have e := (h2.isHd hq).unique hs
  rw [← e, ← lastB_map]
  exact value_any h1
theorem fsize (h : FileS F w fb S) (hq : ∀ x ∈ S, 1 ≤ x.sq) {HC : List VC} (hs : IsHd S HC) :
    Calls Try.prog 16 #[.pointer (some ⟨fb, 0, none⟩)] w fun e w' => e = .returned (.int .i64 ((lastC HC).length : Nat)) ∧ Below w.heap.size w w' := by
  obtain ⟨sn, H, mv, sp, sc, hv, h1, h2, rfl, h3⟩ := h
  have e := (h2.isHd hq).unique hs
  rw [← e, ← lastB_map]
  exact size_any h1
/-- Add of an old one, of a bad one. -/
theorem fadd_old (hf : FileS F w fb S) {o : OG} {ns : List Int} {bs : List (BitVec 8)} (h : WIn w o ns bs) (hk : o.kd = 4) (hm : mayW o ns = true) (hq : (o.t, o.n) ∈ S.map VC.key) :
    Calls Try.prog 10 #[.pointer (some ⟨fb, 0, none⟩), opgv o] w fun e w' => e = .returned (.int .i64 17) ∧ Below w.heap.size w w' := by
  obtain ⟨sn, H, mv, sp, sc, hv, h1, h2, rfl, h3⟩ := hf
  exact add_old h1 h hk hm hq
end
/-- What an operation says is kept through the file's turns, where its rows are no blocks of the file. -/
theorem WIn.kept {w w' : World} {S : Nat → Prop} {o : OG} {ns : List Int} {bs : List (BitVec 8)} (h : WIn w o ns bs) (ho : Only S w w') (h1 : ∀ b k, o.sp = some ⟨b, k, none⟩ → ¬ S b) (h2 : ∀ b k, o.dp = some ⟨b, k, none⟩ → ¬ S b) : WIn w' o ns bs := by
  have key : ∀ (b k : Nat) (v : Value), ¬ S b → w.cell? ⟨b, k, none⟩ = some v → w'.cell? ⟨b, k, none⟩ = some v := fun b k v hn hc => by
    have := ho.block b (cell_lt hc) hn
    rw [← hc]
    unfold World.cell?
    rw [this]
  refine ⟨fun hl => ?_, h.sl, h.sc, h.le, fun hl => ?_, h.dl, h.dc, h.bl, h.nm⟩
  · obtain ⟨b, k, e, hc⟩ := h.seen hl
    exact ⟨b, k, e, fun j u hj => key b _ u (h1 b k e) (hc j u hj)⟩
  · obtain ⟨b, k, e, hc⟩ := h.data hl
    exact ⟨b, k, e, fun j u hj => key b _ _ (h2 b k e) (hc j u hj)⟩

end Go.Proofs.Yteimjkicinjcgaa.Ck.Y.L

/-
  A write that is made of a text.
-/
namespace Go.Proofs.Yteimjkicinjcgaa.Ck.Y.L
open Go.RowKit Go.Maps Go.Lib

theorem conv_bytes (nm : List UInt8) (W : World) : ∃ W' c, (convert 9 31 (.string (Cd.bas nm))).run Try.prog W = .ok (.slice (some ⟨W.heap.size, 0, none⟩) nm.length c) W' ∧ Cd.Bytes W' (some ⟨W.heap.size, 0, none⟩) (Cd.bvs nm) ∧ Below W.heap.size W W' ∧ nm.length ≤ c := by
  have h := run_bytes_of_string (P := Try.prog) W 9 31 5 (Cd.bas nm) Try.underlying9 Try.underlying31 Try.underlying5
  rw [Cd.bas_size] at h
  refine ⟨_, _, h, ?_, ((Below.refl _ W).drew).alloc (Nat.le_refl _) _, grownCap_ge _ _ _ _⟩
  intro _
  refine ⟨W.heap.size, 0, rfl, fun j x hj => ?_⟩
  have hb := heap_alloc_new W.drew (.cells (bytesRow (Cd.bas nm) (grownCap W nm.length 0 5)) 5 ((bytesRow (Cd.bas nm) (grownCap W nm.length 0 5)).size, (bytesRow (Cd.bas nm) (grownCap W nm.length 0 5)).size + 1))
  rw [show W.drew.heap.size = W.heap.size from rfl] at hb
  rw [cellOf hb]
  unfold Cd.bvs at hj
  rw [List.getElem?_map] at hj
  obtain ⟨y, hy, rfl⟩ := Option.map_eq_some_iff.1 hj
  unfold bytesRow Cd.bas
  rw [Nat.zero_add, Array.getElem?_append_left (by
    have := (List.getElem?_eq_some_iff.1 hy).1
    simpa using this)]
  simp [hy, Cd.u8v]
def set11 (w : World) (b : Nat) (v0 v1 v2 v3 v4 v5 v6 v7 v8 v9 v10 : Value) : World := (((((((((((w.setCell ⟨b, 0, none⟩ v0).setCell ⟨b, 1, none⟩ v1).setCell ⟨b, 2, none⟩ v2).setCell ⟨b, 3, none⟩ v3).setCell ⟨b, 4, none⟩ v4).setCell ⟨b, 5, none⟩ v5).setCell ⟨b, 6, none⟩ v6).setCell ⟨b, 7, none⟩ v7).setCell ⟨b, 8, none⟩ v8).setCell ⟨b, 9, none⟩ v9).setCell ⟨b, 10, none⟩ v10)
theorem set11_at {w : World} {b : Nat} {T : TypeId} {a0 a1 a2 a3 a4 a5 a6 a7 a8 a9 a10 : Value} (h : w.heap[b]? = some (.cells #[a0, a1, a2, a3, a4, a5, a6, a7, a8, a9, a10] T (0, 0))) (v0 v1 v2 v3 v4 v5 v6 v7 v8 v9 v10 : Value) : (set11 w b v0 v1 v2 v3 v4 v5 v6 v7 v8 v9 v10).heap[b]? = some (.cells #[v0, v1, v2, v3, v4, v5, v6, v7, v8, v9, v10] T (0, 0)) := by
  have h0 : (w.setCell ⟨b, 0, none⟩ v0).heap[b]? = some (.cells #[v0, a1, a2, a3, a4, a5, a6, a7, a8, a9, a10] T (0, 0)) := heap_set_same (k := 0) h v0
  have h1 : ((w.setCell ⟨b, 0, none⟩ v0).setCell ⟨b, 1, none⟩ v1).heap[b]? = some (.cells #[v0, v1, a2, a3, a4, a5, a6, a7, a8, a9, a10] T (0, 0)) := heap_set_same (k := 1) h0 v1
  have h2 : (((w.setCell ⟨b, 0, none⟩ v0).setCell ⟨b, 1, none⟩ v1).setCell ⟨b, 2, none⟩ v2).heap[b]? = some (.cells #[v0, v1, v2, a3, a4, a5, a6, a7, a8, a9, a10] T (0, 0)) := heap_set_same (k := 2) h1 v2
  have h3 : ((((w.setCell ⟨b, 0, none⟩ v0).setCell ⟨b, 1, none⟩ v1).setCell ⟨b, 2, none⟩ v2).setCell ⟨b, 3, none⟩ v3).heap[b]? = some (.cells #[v0, v1, v2, v3, a4, a5, a6, a7, a8, a9, a10] T (0, 0)) := heap_set_same (k := 3) h2 v3
  have h4 : (((((w.setCell ⟨b, 0, none⟩ v0).setCell ⟨b, 1, none⟩ v1).setCell ⟨b, 2, none⟩ v2).setCell ⟨b, 3, none⟩ v3).setCell ⟨b, 4, none⟩ v4).heap[b]? = some (.cells #[v0, v1, v2, v3, v4, a5, a6, a7, a8, a9, a10] T (0, 0)) := heap_set_same (k := 4) h3 v4
  have h5 : ((((((w.setCell ⟨b, 0, none⟩ v0).setCell ⟨b, 1, none⟩ v1).setCell ⟨b, 2, none⟩ v2).setCell ⟨b, 3, none⟩ v3).setCell ⟨b, 4, none⟩ v4).setCell ⟨b, 5, none⟩ v5).heap[b]? = some (.cells #[v0, v1, v2, v3, v4, v5, a6, a7, a8, a9, a10] T (0, 0)) := heap_set_same (k := 5) h4 v5
  have h6 : (((((((w.setCell ⟨b, 0, none⟩ v0).setCell ⟨b, 1, none⟩ v1).setCell ⟨b, 2, none⟩ v2).setCell ⟨b, 3, none⟩ v3).setCell ⟨b, 4, none⟩ v4).setCell ⟨b, 5, none⟩ v5).setCell ⟨b, 6, none⟩ v6).heap[b]? = some (.cells #[v0, v1, v2, v3, v4, v5, v6, a7, a8, a9, a10] T (0, 0)) := heap_set_same (k := 6) h5 v6
  have h7 : ((((((((w.setCell ⟨b, 0, none⟩ v0).setCell ⟨b, 1, none⟩ v1).setCell ⟨b, 2, none⟩ v2).setCell ⟨b, 3, none⟩ v3).setCell ⟨b, 4, none⟩ v4).setCell ⟨b, 5, none⟩ v5).setCell ⟨b, 6, none⟩ v6).setCell ⟨b, 7, none⟩ v7).heap[b]? = some (.cells #[v0, v1, v2, v3, v4, v5, v6, v7, a8, a9, a10] T (0, 0)) := heap_set_same (k := 7) h6 v7
  have h8 : (((((((((w.setCell ⟨b, 0, none⟩ v0).setCell ⟨b, 1, none⟩ v1).setCell ⟨b, 2, none⟩ v2).setCell ⟨b, 3, none⟩ v3).setCell ⟨b, 4, none⟩ v4).setCell ⟨b, 5, none⟩ v5).setCell ⟨b, 6, none⟩ v6).setCell ⟨b, 7, none⟩ v7).setCell ⟨b, 8, none⟩ v8).heap[b]? = some (.cells #[v0, v1, v2, v3, v4, v5, v6, v7, v8, a9, a10] T (0, 0)) := heap_set_same (k := 8) h7 v8
  have h9 : ((((((((((w.setCell ⟨b, 0, none⟩ v0).setCell ⟨b, 1, none⟩ v1).setCell ⟨b, 2, none⟩ v2).setCell ⟨b, 3, none⟩ v3).setCell ⟨b, 4, none⟩ v4).setCell ⟨b, 5, none⟩ v5).setCell ⟨b, 6, none⟩ v6).setCell ⟨b, 7, none⟩ v7).setCell ⟨b, 8, none⟩ v8).setCell ⟨b, 9, none⟩ v9).heap[b]? = some (.cells #[v0, v1, v2, v3, v4, v5, v6, v7, v8, v9, a10] T (0, 0)) := heap_set_same (k := 9) h8 v9
  have h10 : (((((((((((w.setCell ⟨b, 0, none⟩ v0).setCell ⟨b, 1, none⟩ v1).setCell ⟨b, 2, none⟩ v2).setCell ⟨b, 3, none⟩ v3).setCell ⟨b, 4, none⟩ v4).setCell ⟨b, 5, none⟩ v5).setCell ⟨b, 6, none⟩ v6).setCell ⟨b, 7, none⟩ v7).setCell ⟨b, 8, none⟩ v8).setCell ⟨b, 9, none⟩ v9).setCell ⟨b, 10, none⟩ v10).heap[b]? = some (.cells #[v0, v1, v2, v3, v4, v5, v6, v7, v8, v9, v10] T (0, 0)) := heap_set_same (k := 10) h9 v10
  exact h10
theorem set11_only (w : World) (b : Nat) (v0 v1 v2 v3 v4 v5 v6 v7 v8 v9 v10 : Value) : Only (fun k => k = b) w (set11 w b v0 v1 v2 v3 v4 v5 v6 v7 v8 v9 v10) :=
  ((((((((((Only.setCell (S := fun k => k = b) _ _ _ rfl).next (Only.setCell (S := fun k => k = b) _ _ _ rfl)).next (Only.setCell (S := fun k => k = b) _ _ _ rfl)).next (Only.setCell (S := fun k => k = b) _ _ _ rfl)).next (Only.setCell (S := fun k => k = b) _ _ _ rfl)).next (Only.setCell (S := fun k => k = b) _ _ _ rfl)).next (Only.setCell (S := fun k => k = b) _ _ _ rfl)).next (Only.setCell (S := fun k => k = b) _ _ _ rfl)).next (Only.setCell (S := fun k => k = b) _ _ _ rfl)).next (Only.setCell (S := fun k => k = b) _ _ _ rfl)).next (Only.setCell (S := fun k => k = b) _ _ _ rfl)

set_option maxRecDepth 8000 in
set_option maxHeartbeats 2000000 in
theorem lit_any (t n : Int) (nm : List UInt8) (w : World) (hn : nm.length ≤ 1000) :
    Calls Try.prog 24 #[.int .i64 t, .int .i64 n, .string (Cd.bas nm)] w fun e w' => ∃ gb cc, e = .returned (opgv ⟨t, n, 1, 4, 1, 9, 0, 0, ⟨#[]⟩, some ⟨gb, 0, none⟩, nm.length, cc, none, 0, 0⟩) ∧ WIn w' ⟨t, n, 1, 4, 1, 9, 0, 0, ⟨#[]⟩, some ⟨gb, 0, none⟩, nm.length, cc, none, 0, 0⟩ [] (Cd.bvs nm) ∧ w.heap.size ≤ gb ∧ Below w.heap.size w w' := by
  obtain ⟨A, hA⟩ : ∃ A, A = w.alloc (.cells #[.int .i64 0, .int .i64 0, .int .i64 0, .int .i64 0, .int .i64 0, .int .i64 0, .int .i64 0, .int .i64 0, .string ⟨#[]⟩, .slice none 0 0, .slice none 0 0] 35) := ⟨_, rfl⟩
  have bA : Below w.heap.size w A := by rw [hA]; exact (below_new w _).out
  have kA : A.heap[w.heap.size]? = some (.cells #[.int .i64 0, .int .i64 0, .int .i64 0, .int .i64 0, .int .i64 0, .int .i64 0, .int .i64 0, .int .i64 0, .string ⟨#[]⟩, .slice none 0 0, .slice none 0 0] 35 (0, 0)) := by rw [hA]; exact heap_alloc_new w _
  have sA : A.heap.size = w.heap.size + 1 := by rw [hA]; simp
  obtain ⟨B, cc, hcv, hby, bB, hcc⟩ := conv_bytes nm A
  have kB := (bB.block _ (block_lt kA)).trans kA
  obtain ⟨gb, hgb⟩ : ∃ gb, A.heap.size = gb := ⟨_, rfl⟩
  rw [hgb] at hcv hby
  have HBB : Hid (Below w.heap.size w B ∧ B.heap[w.heap.size]? = some (.cells #[.int .i64 0, .int .i64 0, .int .i64 0, .int .i64 0, .int .i64 0, .int .i64 0, .int .i64 0, .int .i64 0, .string ⟨#[]⟩, .slice none 0 0, .slice none 0 0] 35 (0, 0)) ∧ Cd.Bytes B (some ⟨gb, 0, none⟩) (Cd.bvs nm) ∧ nm.length ≤ cc ∧ gb = w.heap.size + 1 ∧ nm.length ≤ 1000) := ⟨below_thenH bA bB, kB, hby, hcc, by omega, hn⟩
  have y0 := frozenOf kB 0
  have z0 : B.cell? ⟨w.heap.size, 0, none⟩ = some (.int .i64 0) := cellOf kB 0
  have y1 := frozenOf kB 1
  have z1 : B.cell? ⟨w.heap.size, 1, none⟩ = some (.int .i64 0) := cellOf kB 1
  have y2 := frozenOf kB 2
  have z2 : B.cell? ⟨w.heap.size, 2, none⟩ = some (.int .i64 0) := cellOf kB 2
  have y3 := frozenOf kB 3
  have z3 : B.cell? ⟨w.heap.size, 3, none⟩ = some (.int .i64 0) := cellOf kB 3
  have y4 := frozenOf kB 4
  have z4 : B.cell? ⟨w.heap.size, 4, none⟩ = some (.int .i64 0) := cellOf kB 4
  have y5 := frozenOf kB 5
  have z5 : B.cell? ⟨w.heap.size, 5, none⟩ = some (.int .i64 0) := cellOf kB 5
  have y6 := frozenOf kB 6
  have z6 : B.cell? ⟨w.heap.size, 6, none⟩ = some (.int .i64 0) := cellOf kB 6
  have y7 := frozenOf kB 7
  have z7 : B.cell? ⟨w.heap.size, 7, none⟩ = some (.int .i64 0) := cellOf kB 7
  have y8 := frozenOf kB 8
  have z8 : B.cell? ⟨w.heap.size, 8, none⟩ = some (.string ⟨#[]⟩) := cellOf kB 8
  have y9 := frozenOf kB 9
  have z9 : B.cell? ⟨w.heap.size, 9, none⟩ = some (.slice none 0 0) := cellOf kB 9
  have y10 := frozenOf kB 10
  have z10 : B.cell? ⟨w.heap.size, 10, none⟩ = some (.slice none 0 0) := cellOf kB 10
  have HG : Hid (gb = w.heap.size + 1) := by show _ = _; omega
  rw [hA] at hcv
  clear hA bA kA sA hby bB hcc kB hgb hn
  go_enter Try.func24, Try.ntmps24
  go_wp2
  obtain ⟨W, hW⟩ : ∃ W, W = set11 B w.heap.size (.int .i64 t) (.int .i64 n) (.int .i64 1) (.int .i64 4) (.int .i64 1) (.int .i64 9) (.int .i64 0) (.int .i64 0) (.string ⟨#[]⟩) (.slice (some ⟨gb, 0, none⟩) nm.length cc) (.slice none 0 0) := ⟨_, rfl⟩
  have kW := set11_at HBB.out.2.1 (.int .i64 t) (.int .i64 n) (.int .i64 1) (.int .i64 4) (.int .i64 1) (.int .i64 9) (.int .i64 0) (.int .i64 0) (.string ⟨#[]⟩) (.slice (some ⟨gb, 0, none⟩) nm.length cc) (.slice none 0 0)
  have oW := set11_only B w.heap.size (.int .i64 t) (.int .i64 n) (.int .i64 1) (.int .i64 4) (.int .i64 1) (.int .i64 9) (.int .i64 0) (.int .i64 0) (.string ⟨#[]⟩) (.slice (some ⟨gb, 0, none⟩) nm.length cc) (.slice none 0 0)
  rw [← hW] at kW oW
  change bodyPost _ _ _ _ _ (set11 _ _ _ _ _ _ _ _ _ _ _ _ _)
  rw [← hW]
  have r0 : W.cell? ⟨w.heap.size, 0, none⟩ = some (.int .i64 t) := cellOf kW 0
  have r1 : W.cell? ⟨w.heap.size, 1, none⟩ = some (.int .i64 n) := cellOf kW 1
  have r2 : W.cell? ⟨w.heap.size, 2, none⟩ = some (.int .i64 1) := cellOf kW 2
  have r3 : W.cell? ⟨w.heap.size, 3, none⟩ = some (.int .i64 4) := cellOf kW 3
  have r4 : W.cell? ⟨w.heap.size, 4, none⟩ = some (.int .i64 1) := cellOf kW 4
  have r5 : W.cell? ⟨w.heap.size, 5, none⟩ = some (.int .i64 9) := cellOf kW 5
  have r6 : W.cell? ⟨w.heap.size, 6, none⟩ = some (.int .i64 0) := cellOf kW 6
  have r7 : W.cell? ⟨w.heap.size, 7, none⟩ = some (.int .i64 0) := cellOf kW 7
  have r8 : W.cell? ⟨w.heap.size, 8, none⟩ = some (.string ⟨#[]⟩) := cellOf kW 8
  have r9 : W.cell? ⟨w.heap.size, 9, none⟩ = some (.slice (some ⟨gb, 0, none⟩) nm.length cc) := cellOf kW 9
  have r10 : W.cell? ⟨w.heap.size, 10, none⟩ = some (.slice none 0 0) := cellOf kW 10
  refine bodyPost_ret (v := .agg #[.int .i64 t, .int .i64 n, .int .i64 1, .int .i64 4, .int .i64 1, .int .i64 9, .int .i64 0, .int .i64 0, .string ⟨#[]⟩, .slice (some ⟨gb, 0, none⟩) nm.length cc, .slice none 0 0]) (by simp [results, Try.results24, go_sem, r0, r1, r2, r3, r4, r5, r6, r7, r8, r9, r10]) rfl ?_
  have hlen : (Cd.bvs nm).length = nm.length := by unfold Cd.bvs; simp
  refine ⟨gb, cc, rfl, ?_, by have := HG.out; omega, HBB.out.1.trans (oW.below (by have := HBB.out.1.size; omega) (fun i hi => by have : i = w.heap.size := hi; omega))⟩
  have hI : WIn B ⟨t, n, 1, 4, 1, 9, 0, 0, ⟨#[]⟩, some ⟨gb, 0, none⟩, nm.length, cc, none, 0, 0⟩ [] (Cd.bvs nm) :=
    ⟨fun h => absurd h (by simp), rfl, by simp, by simp, HBB.out.2.2.1, hlen, by rw [hlen]; exact HBB.out.2.2.2.1, by rw [hlen]; have := HBB.out.2.2.2.2.2; omega, Nat.zero_le _⟩
  exact hI.kept oW (fun b k e => by cases e) (fun b k e => by cases e; intro e2; have := HG.out; omega)

end Go.Proofs.Yteimjkicinjcgaa.Ck.Y.L

/-
  begun: two versions stand beside one another.
-/
namespace Go.Proofs.Yteimjkicinjcgaa.Ck.Y.L
open Go.RowKit Go.Maps Go.Lib

def nm1 : List UInt8 := [110, 101, 119]
def nm2 : List UInt8 := [111, 108, 100]
def vb1 : VC := ⟨6, 1, 1, [], Cd.bvs nm1⟩
def vb2 : VC := ⟨5, 2, 1, [], Cd.bvs nm2⟩
theorem headC_nil {S : List VC} (h : ∀ c ∈ S, c.ns = []) {x : VC} (hx : x.sq = 1) : headC S x = true := by
  unfold headC seenB
  rw [List.all_eq_true]
  intro c hc
  rw [h c hc, hx]
  simp [Vc.atZ, Vc.atOf]
theorem beg_hd : IsHd [vb1, vb2] [vb2, vb1] := by
  refine ⟨?_, fun x => ?_⟩
  · simp only [List.pairwise_cons, List.mem_cons, List.not_mem_nil, or_false, forall_eq, false_implies, implies_true, List.Pairwise.nil, and_true]
    show lessB 5 2 6 1 = true
    rfl
  · have hh : ∀ x ∈ [vb1, vb2], headC [vb1, vb2] x = true := fun x hx => headC_nil (fun c hc => by
      simp only [List.mem_cons, List.not_mem_nil, or_false] at hc
      rcases hc with rfl | rfl <;> rfl) (by
      simp only [List.mem_cons, List.not_mem_nil, or_false] at hx
      rcases hx with rfl | rfl <;> rfl)
    constructor
    · intro hx
      have : x ∈ [vb1, vb2] := by
        simp only [List.mem_cons, List.not_mem_nil, or_false] at hx ⊢
        exact hx.symm
      exact ⟨this, hh x this⟩
    · rintro ⟨hx, _⟩
      simp only [List.mem_cons, List.not_mem_nil, or_false] at hx ⊢
      exact hx.symm
theorem beg_sq : ∀ x ∈ [vb1, vb2], 1 ≤ x.sq := by
  intro x hx
  simp only [List.mem_cons, List.not_mem_nil, or_false] at hx
  rcases hx with rfl | rfl <;> decide
def ob (t n : Int) (gb cc l : Nat) : OG := ⟨t, n, 1, 4, 1, 9, 0, 0, ⟨#[]⟩, some ⟨gb, 0, none⟩, l, cc, none, 0, 0⟩
theorem ob_may1 (gb cc : Nat) : mayW (ob 6 1 gb cc 3) [] = true := by show Cd.mayO 6 1 1 4 1 9 0 0 [] 3 [] = true; decide +kernel
theorem ob_may2 (gb cc : Nat) : mayW (ob 5 2 gb cc 3) [] = true := by show Cd.mayO 5 2 1 4 1 9 0 0 [] 3 [] = true; decide +kernel
/-- Add of such a write. -/
theorem add_lit {F : Nat → Prop} {w0 w : World} {fb : Nat} {S : List VC} (hf : FileS F w0 fb S) (hb : Below w0.heap.size w0 w) {t n : Int} {gb cc : Nat} {nm : List UInt8} (hl : nm.length = 3) (hw : WIn w (ob t n gb cc nm.length) [] (Cd.bvs nm)) (hg : w0.heap.size ≤ gb) (hm : mayW (ob t n gb cc 3) [] = true) (hq : (t, n) ∉ S.map VC.key) (hS : S.length < 800) :
    Calls Try.prog 10 #[.pointer (some ⟨fb, 0, none⟩), opgv (ob t n gb cc nm.length)] w fun e w' => e = .returned (.int .i64 0) ∧ ∃ F', FileS F' w' fb (S ++ [⟨t, n, 1, [], Cd.bvs nm⟩]) ∧ Only F w w' ∧ ∀ b, F' b → F b ∨ w.heap.size ≤ b := by
  have hlt := hf.lt
  refine (add_new (hf.below hb) hw rfl (by rw [hl]; exact hm) hq hS (fun W hW => hw.kept hW (fun b k e => by cases e) (fun b k e hF => ?_))).mono ?_
  · have : gb = b := by have := congrArg (fun a => a.map Addr.block) e; simpa [ob] using this
    have := hlt b hF
    omega
  · rintro e w' ⟨rfl, F', h1, h2, h3⟩
    exact ⟨rfl, F', h1, h3, h2⟩

theorem beg_str : Cd.strOf (lastC [vb2, vb1]) = ⟨#[110, 101, 119]⟩ := by decide +kernel
theorem beg_size {F : Nat → Prop} {w : World} {fb : Nat} (h : FileS F w fb [vb1, vb2]) : Calls Try.prog 16 #[.pointer (some ⟨fb, 0, none⟩)] w fun e w' => e = .returned (.int .i64 3) ∧ Below w.heap.size w w' := fsize h beg_sq beg_hd
theorem beg_len {F : Nat → Prop} {w : World} {fb : Nat} (h : FileS F w fb [vb1, vb2]) : Calls Try.prog 17 #[.pointer (some ⟨fb, 0, none⟩)] w fun e w' => e = .returned (.int .i64 2) ∧ Below w.heap.size w w' := len_any h

theorem beg_heads {F : Nat → Prop} {w : World} {fb : Nat} (h : FileS F w fb [vb1, vb2]) : Calls Try.prog 14 #[.pointer (some ⟨fb, 0, none⟩)] w fun e w' => ∃ p c, e = .returned (.slice p 2 c) ∧ Below w.heap.size w w' := by
  refine (fheads h beg_sq beg_hd).mono ?_
  rintro e w' ⟨v, M, rfl, hr, hm, _, hb⟩
  obtain ⟨p, c, rfl, _⟩ := hr.shape
  have hM : M.length = 2 := by
    have := congrArg List.length hm
    rw [List.length_map] at this
    exact this
  rw [hM]
  exact ⟨p, c, rfl, hb⟩
theorem beg_value {F : Nat → Prop} {w : World} {fb : Nat} (h : FileS F w fb [vb1, vb2]) : Calls Try.prog 15 #[.pointer (some ⟨fb, 0, none⟩)] w fun e w' => ∃ p c, e = .returned (.slice p 3 c) ∧ (convert 31 9 (.slice p 3 c)).run Try.prog w' = .ok (.string ⟨#[110, 101, 119]⟩) w' ∧ Below w.heap.size w w' := by
  refine (fvalue h beg_sq beg_hd).mono ?_
  rintro e w' ⟨v, rfl, ho, hb⟩
  obtain ⟨_, p, c, rfl, _, hby, _⟩ := Cd.owns_bytes ho
  have hcv := Cd.run_str w' p (lastC [vb2, vb1]) c hby
  rw [beg_str] at hcv
  exact ⟨p, c, rfl, hcv, hb⟩

set_option maxRecDepth 8000 in
set_option maxHeartbeats 4000000 in
theorem begun_any (w : World) : Calls Try.prog 7 #[] w fun e w' => e = .returned (.bool true) ∧ Below w.heap.size w w' := by
  obtain ⟨fb, hfb⟩ : ∃ fb, w.heap.size = fb := ⟨_, rfl⟩
  have c1 := new_any w
  rw [hfb] at c1
  have HN : Hid (w.heap.size = fb) := hfb
  have tok1 : True := trivial
  have tok2 : True := trivial
  have tok3 : True := trivial
  have tok4 : True := trivial
  clear hfb
  go_enter Try.func7, Try.ntmps7
  go_wp2_with (first
    | (go_at_call 8; refine c1.mono ?_; clear c1; rintro e w1 ⟨rfl, hb1, hf1⟩; have H1 : Hid (FileS (fun b => b = fb) w1 fb [] ∧ Below w.heap.size w w1) := ⟨hf1, by rw [HN.out]; exact hb1⟩; clear hb1 hf1)
    | (go_at_call 24; have tk := tok1; clear tok1; refine (lit_any 6 1 nm1 w1 (by decide)).mono ?_; clear tk; rintro e w2 ⟨g1, k1, rfl, hw2, hg1, hb2⟩; have H2 : Hid (WIn w2 (ob 6 1 g1 k1 nm1.length) [] (Cd.bvs nm1) ∧ w1.heap.size ≤ g1 ∧ Below w1.heap.size w1 w2) := ⟨hw2, hg1, hb2⟩; clear hw2 hg1 hb2)
    | (go_at_call 10; have tk := tok2; clear tok2; refine (add_lit H1.out.1 H2.out.2.2 (nm := nm1) rfl H2.out.1 H2.out.2.1 (ob_may1 _ _) (by simp) (by simp)).mono ?_; clear tk; rintro e w3 ⟨rfl, F3, hf3, ho3, hF3⟩; have H3 : Hid (FileS F3 w3 fb [vb1] ∧ Only (fun b => b = fb) w2 w3 ∧ ∀ b, F3 b → b = fb ∨ w2.heap.size ≤ b) := ⟨hf3, ho3, hF3⟩; clear hf3 ho3 hF3)
    | (go_at_call 24; have tk := tok3; clear tok3; refine (lit_any 5 2 nm2 w3 (by decide)).mono ?_; clear tk; rintro e w4 ⟨g4, k4, rfl, hw4, hg4, hb4⟩; have H4 : Hid (WIn w4 (ob 5 2 g4 k4 nm2.length) [] (Cd.bvs nm2) ∧ w3.heap.size ≤ g4 ∧ Below w3.heap.size w3 w4) := ⟨hw4, hg4, hb4⟩; clear hw4 hg4 hb4)
    | (go_at_call 10; have tk := tok4; clear tok4; refine (add_lit H3.out.1 H4.out.2.2 (nm := nm2) rfl H4.out.1 H4.out.2.1 (ob_may2 _ _) (by simp [vb1, VC.key]) (by simp)).mono ?_; clear tk; rintro e w5 ⟨rfl, F5, hf5, ho5, hF5⟩; have H5 : Hid (FileS F5 w5 fb [vb1, vb2] ∧ Only F3 w4 w5 ∧ ∀ b, F5 b → F3 b ∨ w4.heap.size ≤ b) := ⟨hf5, ho5, hF5⟩; clear hf5 ho5 hF5)
    | (go_at_call 14; refine (beg_heads H5.out.1).mono ?_; rintro e w6 ⟨p6, c6, rfl, hb6⟩; have H6 : Hid (Below w5.heap.size w5 w6) := hb6; clear hb6)
    | (go_at_call 15; refine (beg_value (H5.out.1.below H6.out)).mono ?_; rintro e w7 ⟨p7, c7, rfl, hcv, hb7⟩; have H7 : Hid (Below w5.heap.size w5 w7) := below_thenH H6.out hb7; clear hb7)
    | (go_at_call 16; refine Calls_new (beg_size (H5.out.1.below H7.out)) ?_; intro w8 HB8)
    | (go_at_call 17; refine Calls_new (beg_len (H5.out.1.below (below_thenH H7.out HB8.out))) ?_; intro w9 HB9))
  go_ret
  refine ⟨by first | rfl | (simp; done), ?_⟩
  have b3 : Below w.heap.size w w2 := below_thenH H1.out.2 H2.out.2.2
  have hF3 : ∀ b, F3 b → w.heap.size ≤ b := fun b hb => by
    have := HN.out
    rcases H3.out.2.2 b hb with e | e
    · omega
    · have := b3.size; omega
  have b4 : Below w.heap.size w w4 := (b3.trans (H3.out.2.1.below b3.size (fun b e => by have : b = fb := e; have := HN.out; omega))).trans (H4.out.2.2.mono (by have := b3.size; have := H3.out.2.1.size; omega))
  exact below_thenH (b4.trans (H5.out.2.1.below b4.size hF3)) (below_thenH H7.out (below_thenH HB8.out HB9.out))

end Go.Proofs.Yteimjkicinjcgaa.Ck.Y.L

/-
  No file; ContentNone.
-/
namespace Go.Proofs.Yteimjkicinjcgaa.Ck.Y.L
open Go.RowKit Go.Maps Go.Lib

theorem zop_in (w : World) : WIn w ⟨0, 0, 0, 0, 0, 0, 0, 0, ⟨#[]⟩, none, 0, 0, none, 0, 0⟩ [] [] := ⟨fun h => absurd h (by simp), rfl, by simp, by simp, fun h => absurd h (by simp), rfl, by simp, by simp, Nat.zero_le _⟩
def zop : OG := ⟨0, 0, 0, 0, 0, 0, 0, 0, ⟨#[]⟩, none, 0, 0, none, 0, 0⟩
theorem zop_kd : zop.kd ≠ 4 := by unfold zop; simp
theorem add_zop (fb : Nat) (w : World) : Calls Try.prog 10 #[.pointer (some ⟨fb, 0, none⟩), opgv zop] w fun e w' => e = .returned (.int .i64 22) ∧ Below w.heap.size w w' := add_bad (o := zop) (ns := []) (bs := []) (zop_in w) (Or.inl zop_kd)
theorem add_zero (fb : Nat) (w : World) : Calls Try.prog 10 #[.pointer (some ⟨fb, 0, none⟩), .agg #[.int .i64 0, .int .i64 0, .int .i64 0, .int .i64 0, .int .i64 0, .int .i64 0, .int .i64 0, .int .i64 0, .string ⟨#[]⟩, .slice none 0 0, .slice none 0 0]] w fun e w' => e = .returned (.int .i64 22) ∧ Below w.heap.size w w' := add_zop fb w
end Go.Proofs.Yteimjkicinjcgaa.Ck.Y.L

/-
  Short and Cut of the laws; the drawn regions of OpCode.
-/
namespace Go.Proofs.Yteimjkicinjcgaa.Cd
open Go.RowKit Go.Maps

attribute [local go_sem] Oper.semAt_some


set_option maxRecDepth 8000 in
set_option maxHeartbeats 400000 in
theorem short_le (p : Option Addr) (l c : Nat) (n : Nat) (w : World) (h : l ≤ n) :
    Calls Try.prog 39 #[.slice p l c, .int .i64 n] w fun e w' => e = .returned (.slice p l c) ∧ w' = w := by
  have hI : ¬ (n : Int) < l := by omega
  go_enter Try.func39, Try.ntmps39
  go_wp2
  go_ret
  exact ⟨rfl, rfl⟩

set_option maxRecDepth 8000 in
set_option maxHeartbeats 400000 in
theorem short_gt (g o : Nat) (l c : Nat) (n : Nat) (w : World) (h : n < l) (hn : n < 1000000) (hc : l ≤ c) :
    Calls Try.prog 39 #[.slice (some ⟨g, o, none⟩) l c, .int .i64 n] w fun e w' => e = .returned (.slice (some ⟨g, o, none⟩) n c) ∧ w' = w := by
  have hI : (n : Int) < l := by omega
  go_enter Try.func39, Try.ntmps39
  go_wp2
  go_ret
  exact ⟨rfl, rfl⟩

theorem short_any (p : Option Addr) (bs : List (BitVec 8)) (c n : Nat) (w : World) (hc : bs.length ≤ c) (hn6 : n < 1000000) (hb : Bytes w p bs) :
    (Calls Try.prog 39 #[.slice p bs.length c, .int .i64 n] w fun e w' => e = .returned (.slice p (bs.take n).length c) ∧ w' = w) ∧ Bytes w p (bs.take n) ∧ (bs.take n).length ≤ c ∧ (bs.take n).length ≤ n := by
  refine ⟨?_, bytes_take hb n, by simp; omega, by simp; omega⟩
  by_cases h : bs.length ≤ n
  · rw [List.take_of_length_le h]
    exact short_le p bs.length c n w h
  · obtain ⟨g, o, rfl, _⟩ := hb (by omega)
    rw [List.length_take, Nat.min_eq_left (by omega)]
    exact short_gt g o bs.length c n w (by omega) hn6 hc



set_option maxRecDepth 8000 in
set_option maxHeartbeats 4000000 in
theorem cut12_any (t n sq kd ot on pt pn : Int) (nm : List UInt8) (p q : Option Addr) (l c m d : Nat) (data : List (BitVec 8)) (ns : List Int) (w : World) (hl : l = data.length) (hlc : data.length ≤ c) (hm : m = ns.length) (hmd : ns.length ≤ d) (hml : ns.length ≤ maxLen) (hp : Bytes w p data) :
    Calls Try.prog 25 #[.agg #[.int .i64 t, .int .i64 n, .int .i64 sq, .int .i64 kd, .int .i64 ot, .int .i64 on, .int .i64 pt, .int .i64 pn, .string (bas nm), .slice p l c, .slice q m d]] w fun e w' => e = .returned (.agg #[.int .i64 t, .int .i64 n, .int .i64 sq, .int .i64 kd, .int .i64 ot, .int .i64 on, .int .i64 pt, .int .i64 pn, .string (bas (nm.take 100)), .slice p (data.take 3000).length c, .slice q (Vc.cut ns).length d]) ∧ Below w.heap.size w w' := by
  have B0 : Below w.heap.size w ((w.alloc (.cells #[.int .i64 t, .int .i64 n, .int .i64 sq, .int .i64 kd, .int .i64 ot, .int .i64 on, .int .i64 pt, .int .i64 pn, .string (bas nm), .slice p l c, .slice q m d] 35)).alloc (.cells #[.int .i64 0, .int .i64 0, .int .i64 0, .int .i64 0, .int .i64 0, .int .i64 0, .int .i64 0, .int .i64 0, .string ⟨#[]⟩, .slice none 0 0, .slice none 0 0] 35)) := ((Below.refl _ _).alloc (Nat.le_refl _) _).alloc (by simp) _
  have H1 : ((w.alloc (.cells #[.int .i64 t, .int .i64 n, .int .i64 sq, .int .i64 kd, .int .i64 ot, .int .i64 on, .int .i64 pt, .int .i64 pn, .string (bas nm), .slice p l c, .slice q m d] 35)).alloc (.cells #[.int .i64 0, .int .i64 0, .int .i64 0, .int .i64 0, .int .i64 0, .int .i64 0, .int .i64 0, .int .i64 0, .string ⟨#[]⟩, .slice none 0 0, .slice none 0 0] 35)).heap[w.heap.size]? = some (.cells #[.int .i64 t, .int .i64 n, .int .i64 sq, .int .i64 kd, .int .i64 ot, .int .i64 on, .int .i64 pt, .int .i64 pn, .string (bas nm), .slice p l c, .slice q m d] 35 (0, 0)) := by rw [Below.heap_alloc _ _ _ (by simp)]; exact heap_alloc_new w _
  have H2 : ((w.alloc (.cells #[.int .i64 t, .int .i64 n, .int .i64 sq, .int .i64 kd, .int .i64 ot, .int .i64 on, .int .i64 pt, .int .i64 pn, .string (bas nm), .slice p l c, .slice q m d] 35)).alloc (.cells #[.int .i64 0, .int .i64 0, .int .i64 0, .int .i64 0, .int .i64 0, .int .i64 0, .int .i64 0, .int .i64 0, .string ⟨#[]⟩, .slice none 0 0, .slice none 0 0] 35)).heap[w.heap.size + 1]? = some (.cells #[.int .i64 0, .int .i64 0, .int .i64 0, .int .i64 0, .int .i64 0, .int .i64 0, .int .i64 0, .int .i64 0, .string ⟨#[]⟩, .slice none 0 0, .slice none 0 0] 35 (0, 0)) := by
    have := heap_alloc_new (w.alloc (.cells #[.int .i64 t, .int .i64 n, .int .i64 sq, .int .i64 kd, .int .i64 ot, .int .i64 on, .int .i64 pt, .int .i64 pn, .string (bas nm), .slice p l c, .slice q m d] 35)) (.cells #[.int .i64 0, .int .i64 0, .int .i64 0, .int .i64 0, .int .i64 0, .int .i64 0, .int .i64 0, .int .i64 0, .string ⟨#[]⟩, .slice none 0 0, .slice none 0 0] 35)
    rwa [show (w.alloc (.cells #[.int .i64 t, .int .i64 n, .int .i64 sq, .int .i64 kd, .int .i64 ot, .int .i64 on, .int .i64 pt, .int .i64 pn, .string (bas nm), .slice p l c, .slice q m d] 35)).heap.size = w.heap.size + 1 by simp] at this
  obtain ⟨cS, _⟩ := short_any p data c 3000 ((w.alloc (.cells #[.int .i64 t, .int .i64 n, .int .i64 sq, .int .i64 kd, .int .i64 ot, .int .i64 on, .int .i64 pt, .int .i64 pn, .string (bas nm), .slice p l c, .slice q m d] 35)).alloc (.cells #[.int .i64 0, .int .i64 0, .int .i64 0, .int .i64 0, .int .i64 0, .int .i64 0, .int .i64 0, .int .i64 0, .string ⟨#[]⟩, .slice none 0 0, .slice none 0 0] 35)) hlc (by decide) (below_bytes B0 hp)
  have cC := fun W => Vc.cut_any q ns d W hmd hml
  rw [← hl] at cS
  rw [← hm] at cC
  obtain ⟨l1, hl1⟩ : ∃ l1, (data.take 3000).length = l1 := ⟨_, rfl⟩
  obtain ⟨m1, hm1⟩ : ∃ m1, (Vc.cut ns).length = m1 := ⟨_, rfl⟩
  rw [hl1] at cS
  rw [hm1] at cC
  rw [hl1, hm1]
  have HO : Hid (Below w.heap.size w ((w.alloc (.cells #[.int .i64 t, .int .i64 n, .int .i64 sq, .int .i64 kd, .int .i64 ot, .int .i64 on, .int .i64 pt, .int .i64 pn, .string (bas nm), .slice p l c, .slice q m d] 35)).alloc (.cells #[.int .i64 0, .int .i64 0, .int .i64 0, .int .i64 0, .int .i64 0, .int .i64 0, .int .i64 0, .int .i64 0, .string ⟨#[]⟩, .slice none 0 0, .slice none 0 0] 35)) ∧ ((w.alloc (.cells #[.int .i64 t, .int .i64 n, .int .i64 sq, .int .i64 kd, .int .i64 ot, .int .i64 on, .int .i64 pt, .int .i64 pn, .string (bas nm), .slice p l c, .slice q m d] 35)).alloc (.cells #[.int .i64 0, .int .i64 0, .int .i64 0, .int .i64 0, .int .i64 0, .int .i64 0, .int .i64 0, .int .i64 0, .string ⟨#[]⟩, .slice none 0 0, .slice none 0 0] 35)).heap[w.heap.size]? = some (.cells #[.int .i64 t, .int .i64 n, .int .i64 sq, .int .i64 kd, .int .i64 ot, .int .i64 on, .int .i64 pt, .int .i64 pn, .string (bas nm), .slice p l c, .slice q m d] 35 (0, 0)) ∧ ((w.alloc (.cells #[.int .i64 t, .int .i64 n, .int .i64 sq, .int .i64 kd, .int .i64 ot, .int .i64 on, .int .i64 pt, .int .i64 pn, .string (bas nm), .slice p l c, .slice q m d] 35)).alloc (.cells #[.int .i64 0, .int .i64 0, .int .i64 0, .int .i64 0, .int .i64 0, .int .i64 0, .int .i64 0, .int .i64 0, .string ⟨#[]⟩, .slice none 0 0, .slice none 0 0] 35)).heap[w.heap.size + 1]? = some (.cells #[.int .i64 0, .int .i64 0, .int .i64 0, .int .i64 0, .int .i64 0, .int .i64 0, .int .i64 0, .int .i64 0, .string ⟨#[]⟩, .slice none 0 0, .slice none 0 0] 35 (0, 0))) := ⟨B0, H1, H2⟩
  have hsz := bas_size nm
  clear hl1 hm1 hl hlc hm hmd hml hp
  have ⟨x0, x1, x2, x3, x4, x5, x6, x7, x8, x9, x10⟩ : ((w.alloc (.cells #[.int .i64 t, .int .i64 n, .int .i64 sq, .int .i64 kd, .int .i64 ot, .int .i64 on, .int .i64 pt, .int .i64 pn, .string (bas nm), .slice p l c, .slice q m d] 35)).alloc (.cells #[.int .i64 0, .int .i64 0, .int .i64 0, .int .i64 0, .int .i64 0, .int .i64 0, .int .i64 0, .int .i64 0, .string ⟨#[]⟩, .slice none 0 0, .slice none 0 0] 35)).cell? ⟨w.heap.size, 0, none⟩ = some (.int .i64 t) ∧ ((w.alloc (.cells #[.int .i64 t, .int .i64 n, .int .i64 sq, .int .i64 kd, .int .i64 ot, .int .i64 on, .int .i64 pt, .int .i64 pn, .string (bas nm), .slice p l c, .slice q m d] 35)).alloc (.cells #[.int .i64 0, .int .i64 0, .int .i64 0, .int .i64 0, .int .i64 0, .int .i64 0, .int .i64 0, .int .i64 0, .string ⟨#[]⟩, .slice none 0 0, .slice none 0 0] 35)).cell? ⟨w.heap.size, 1, none⟩ = some (.int .i64 n) ∧ ((w.alloc (.cells #[.int .i64 t, .int .i64 n, .int .i64 sq, .int .i64 kd, .int .i64 ot, .int .i64 on, .int .i64 pt, .int .i64 pn, .string (bas nm), .slice p l c, .slice q m d] 35)).alloc (.cells #[.int .i64 0, .int .i64 0, .int .i64 0, .int .i64 0, .int .i64 0, .int .i64 0, .int .i64 0, .int .i64 0, .string ⟨#[]⟩, .slice none 0 0, .slice none 0 0] 35)).cell? ⟨w.heap.size, 2, none⟩ = some (.int .i64 sq) ∧ ((w.alloc (.cells #[.int .i64 t, .int .i64 n, .int .i64 sq, .int .i64 kd, .int .i64 ot, .int .i64 on, .int .i64 pt, .int .i64 pn, .string (bas nm), .slice p l c, .slice q m d] 35)).alloc (.cells #[.int .i64 0, .int .i64 0, .int .i64 0, .int .i64 0, .int .i64 0, .int .i64 0, .int .i64 0, .int .i64 0, .string ⟨#[]⟩, .slice none 0 0, .slice none 0 0] 35)).cell? ⟨w.heap.size, 3, none⟩ = some (.int .i64 kd) ∧ ((w.alloc (.cells #[.int .i64 t, .int .i64 n, .int .i64 sq, .int .i64 kd, .int .i64 ot, .int .i64 on, .int .i64 pt, .int .i64 pn, .string (bas nm), .slice p l c, .slice q m d] 35)).alloc (.cells #[.int .i64 0, .int .i64 0, .int .i64 0, .int .i64 0, .int .i64 0, .int .i64 0, .int .i64 0, .int .i64 0, .string ⟨#[]⟩, .slice none 0 0, .slice none 0 0] 35)).cell? ⟨w.heap.size, 4, none⟩ = some (.int .i64 ot) ∧ ((w.alloc (.cells #[.int .i64 t, .int .i64 n, .int .i64 sq, .int .i64 kd, .int .i64 ot, .int .i64 on, .int .i64 pt, .int .i64 pn, .string (bas nm), .slice p l c, .slice q m d] 35)).alloc (.cells #[.int .i64 0, .int .i64 0, .int .i64 0, .int .i64 0, .int .i64 0, .int .i64 0, .int .i64 0, .int .i64 0, .string ⟨#[]⟩, .slice none 0 0, .slice none 0 0] 35)).cell? ⟨w.heap.size, 5, none⟩ = some (.int .i64 on) ∧ ((w.alloc (.cells #[.int .i64 t, .int .i64 n, .int .i64 sq, .int .i64 kd, .int .i64 ot, .int .i64 on, .int .i64 pt, .int .i64 pn, .string (bas nm), .slice p l c, .slice q m d] 35)).alloc (.cells #[.int .i64 0, .int .i64 0, .int .i64 0, .int .i64 0, .int .i64 0, .int .i64 0, .int .i64 0, .int .i64 0, .string ⟨#[]⟩, .slice none 0 0, .slice none 0 0] 35)).cell? ⟨w.heap.size, 6, none⟩ = some (.int .i64 pt) ∧ ((w.alloc (.cells #[.int .i64 t, .int .i64 n, .int .i64 sq, .int .i64 kd, .int .i64 ot, .int .i64 on, .int .i64 pt, .int .i64 pn, .string (bas nm), .slice p l c, .slice q m d] 35)).alloc (.cells #[.int .i64 0, .int .i64 0, .int .i64 0, .int .i64 0, .int .i64 0, .int .i64 0, .int .i64 0, .int .i64 0, .string ⟨#[]⟩, .slice none 0 0, .slice none 0 0] 35)).cell? ⟨w.heap.size, 7, none⟩ = some (.int .i64 pn) ∧ ((w.alloc (.cells #[.int .i64 t, .int .i64 n, .int .i64 sq, .int .i64 kd, .int .i64 ot, .int .i64 on, .int .i64 pt, .int .i64 pn, .string (bas nm), .slice p l c, .slice q m d] 35)).alloc (.cells #[.int .i64 0, .int .i64 0, .int .i64 0, .int .i64 0, .int .i64 0, .int .i64 0, .int .i64 0, .int .i64 0, .string ⟨#[]⟩, .slice none 0 0, .slice none 0 0] 35)).cell? ⟨w.heap.size, 8, none⟩ = some (.string (bas nm)) ∧ ((w.alloc (.cells #[.int .i64 t, .int .i64 n, .int .i64 sq, .int .i64 kd, .int .i64 ot, .int .i64 on, .int .i64 pt, .int .i64 pn, .string (bas nm), .slice p l c, .slice q m d] 35)).alloc (.cells #[.int .i64 0, .int .i64 0, .int .i64 0, .int .i64 0, .int .i64 0, .int .i64 0, .int .i64 0, .int .i64 0, .string ⟨#[]⟩, .slice none 0 0, .slice none 0 0] 35)).cell? ⟨w.heap.size, 9, none⟩ = some (.slice p l c) ∧ ((w.alloc (.cells #[.int .i64 t, .int .i64 n, .int .i64 sq, .int .i64 kd, .int .i64 ot, .int .i64 on, .int .i64 pt, .int .i64 pn, .string (bas nm), .slice p l c, .slice q m d] 35)).alloc (.cells #[.int .i64 0, .int .i64 0, .int .i64 0, .int .i64 0, .int .i64 0, .int .i64 0, .int .i64 0, .int .i64 0, .string ⟨#[]⟩, .slice none 0 0, .slice none 0 0] 35)).cell? ⟨w.heap.size, 10, none⟩ = some (.slice q m d) := ⟨cellOf H1 0, cellOf H1 1, cellOf H1 2, cellOf H1 3, cellOf H1 4, cellOf H1 5, cellOf H1 6, cellOf H1 7, cellOf H1 8, cellOf H1 9, cellOf H1 10⟩
  have f9 : ((w.alloc (.cells #[.int .i64 t, .int .i64 n, .int .i64 sq, .int .i64 kd, .int .i64 ot, .int .i64 on, .int .i64 pt, .int .i64 pn, .string (bas nm), .slice p l c, .slice q m d] 35)).alloc (.cells #[.int .i64 0, .int .i64 0, .int .i64 0, .int .i64 0, .int .i64 0, .int .i64 0, .int .i64 0, .int .i64 0, .string ⟨#[]⟩, .slice none 0 0, .slice none 0 0] 35)).frozen? ⟨w.heap.size, 9, none⟩ = false := frozenOf H1 9
  have f8 : ((w.alloc (.cells #[.int .i64 t, .int .i64 n, .int .i64 sq, .int .i64 kd, .int .i64 ot, .int .i64 on, .int .i64 pt, .int .i64 pn, .string (bas nm), .slice p l c, .slice q m d] 35)).alloc (.cells #[.int .i64 0, .int .i64 0, .int .i64 0, .int .i64 0, .int .i64 0, .int .i64 0, .int .i64 0, .int .i64 0, .string ⟨#[]⟩, .slice none 0 0, .slice none 0 0] 35)).frozen? ⟨w.heap.size, 8, none⟩ = false := frozenOf H1 8
  have f10 : ((w.alloc (.cells #[.int .i64 t, .int .i64 n, .int .i64 sq, .int .i64 kd, .int .i64 ot, .int .i64 on, .int .i64 pt, .int .i64 pn, .string (bas nm), .slice p l c, .slice q m d] 35)).alloc (.cells #[.int .i64 0, .int .i64 0, .int .i64 0, .int .i64 0, .int .i64 0, .int .i64 0, .int .i64 0, .int .i64 0, .string ⟨#[]⟩, .slice none 0 0, .slice none 0 0] 35)).frozen? ⟨w.heap.size, 10, none⟩ = false := frozenOf H1 10
  have ⟨z0, z1, z2, z3, z4, z5, z6, z7, z8, z9, z10⟩ : ((w.alloc (.cells #[.int .i64 t, .int .i64 n, .int .i64 sq, .int .i64 kd, .int .i64 ot, .int .i64 on, .int .i64 pt, .int .i64 pn, .string (bas nm), .slice p l c, .slice q m d] 35)).alloc (.cells #[.int .i64 0, .int .i64 0, .int .i64 0, .int .i64 0, .int .i64 0, .int .i64 0, .int .i64 0, .int .i64 0, .string ⟨#[]⟩, .slice none 0 0, .slice none 0 0] 35)).cell? ⟨w.heap.size + 1, 0, none⟩ = some (.int .i64 0) ∧ ((w.alloc (.cells #[.int .i64 t, .int .i64 n, .int .i64 sq, .int .i64 kd, .int .i64 ot, .int .i64 on, .int .i64 pt, .int .i64 pn, .string (bas nm), .slice p l c, .slice q m d] 35)).alloc (.cells #[.int .i64 0, .int .i64 0, .int .i64 0, .int .i64 0, .int .i64 0, .int .i64 0, .int .i64 0, .int .i64 0, .string ⟨#[]⟩, .slice none 0 0, .slice none 0 0] 35)).cell? ⟨w.heap.size + 1, 1, none⟩ = some (.int .i64 0) ∧ ((w.alloc (.cells #[.int .i64 t, .int .i64 n, .int .i64 sq, .int .i64 kd, .int .i64 ot, .int .i64 on, .int .i64 pt, .int .i64 pn, .string (bas nm), .slice p l c, .slice q m d] 35)).alloc (.cells #[.int .i64 0, .int .i64 0, .int .i64 0, .int .i64 0, .int .i64 0, .int .i64 0, .int .i64 0, .int .i64 0, .string ⟨#[]⟩, .slice none 0 0, .slice none 0 0] 35)).cell? ⟨w.heap.size + 1, 2, none⟩ = some (.int .i64 0) ∧ ((w.alloc (.cells #[.int .i64 t, .int .i64 n, .int .i64 sq, .int .i64 kd, .int .i64 ot, .int .i64 on, .int .i64 pt, .int .i64 pn, .string (bas nm), .slice p l c, .slice q m d] 35)).alloc (.cells #[.int .i64 0, .int .i64 0, .int .i64 0, .int .i64 0, .int .i64 0, .int .i64 0, .int .i64 0, .int .i64 0, .string ⟨#[]⟩, .slice none 0 0, .slice none 0 0] 35)).cell? ⟨w.heap.size + 1, 3, none⟩ = some (.int .i64 0) ∧ ((w.alloc (.cells #[.int .i64 t, .int .i64 n, .int .i64 sq, .int .i64 kd, .int .i64 ot, .int .i64 on, .int .i64 pt, .int .i64 pn, .string (bas nm), .slice p l c, .slice q m d] 35)).alloc (.cells #[.int .i64 0, .int .i64 0, .int .i64 0, .int .i64 0, .int .i64 0, .int .i64 0, .int .i64 0, .int .i64 0, .string ⟨#[]⟩, .slice none 0 0, .slice none 0 0] 35)).cell? ⟨w.heap.size + 1, 4, none⟩ = some (.int .i64 0) ∧ ((w.alloc (.cells #[.int .i64 t, .int .i64 n, .int .i64 sq, .int .i64 kd, .int .i64 ot, .int .i64 on, .int .i64 pt, .int .i64 pn, .string (bas nm), .slice p l c, .slice q m d] 35)).alloc (.cells #[.int .i64 0, .int .i64 0, .int .i64 0, .int .i64 0, .int .i64 0, .int .i64 0, .int .i64 0, .int .i64 0, .string ⟨#[]⟩, .slice none 0 0, .slice none 0 0] 35)).cell? ⟨w.heap.size + 1, 5, none⟩ = some (.int .i64 0) ∧ ((w.alloc (.cells #[.int .i64 t, .int .i64 n, .int .i64 sq, .int .i64 kd, .int .i64 ot, .int .i64 on, .int .i64 pt, .int .i64 pn, .string (bas nm), .slice p l c, .slice q m d] 35)).alloc (.cells #[.int .i64 0, .int .i64 0, .int .i64 0, .int .i64 0, .int .i64 0, .int .i64 0, .int .i64 0, .int .i64 0, .string ⟨#[]⟩, .slice none 0 0, .slice none 0 0] 35)).cell? ⟨w.heap.size + 1, 6, none⟩ = some (.int .i64 0) ∧ ((w.alloc (.cells #[.int .i64 t, .int .i64 n, .int .i64 sq, .int .i64 kd, .int .i64 ot, .int .i64 on, .int .i64 pt, .int .i64 pn, .string (bas nm), .slice p l c, .slice q m d] 35)).alloc (.cells #[.int .i64 0, .int .i64 0, .int .i64 0, .int .i64 0, .int .i64 0, .int .i64 0, .int .i64 0, .int .i64 0, .string ⟨#[]⟩, .slice none 0 0, .slice none 0 0] 35)).cell? ⟨w.heap.size + 1, 7, none⟩ = some (.int .i64 0) ∧ ((w.alloc (.cells #[.int .i64 t, .int .i64 n, .int .i64 sq, .int .i64 kd, .int .i64 ot, .int .i64 on, .int .i64 pt, .int .i64 pn, .string (bas nm), .slice p l c, .slice q m d] 35)).alloc (.cells #[.int .i64 0, .int .i64 0, .int .i64 0, .int .i64 0, .int .i64 0, .int .i64 0, .int .i64 0, .int .i64 0, .string ⟨#[]⟩, .slice none 0 0, .slice none 0 0] 35)).cell? ⟨w.heap.size + 1, 8, none⟩ = some (.string ⟨#[]⟩) ∧ ((w.alloc (.cells #[.int .i64 t, .int .i64 n, .int .i64 sq, .int .i64 kd, .int .i64 ot, .int .i64 on, .int .i64 pt, .int .i64 pn, .string (bas nm), .slice p l c, .slice q m d] 35)).alloc (.cells #[.int .i64 0, .int .i64 0, .int .i64 0, .int .i64 0, .int .i64 0, .int .i64 0, .int .i64 0, .int .i64 0, .string ⟨#[]⟩, .slice none 0 0, .slice none 0 0] 35)).cell? ⟨w.heap.size + 1, 9, none⟩ = some (.slice none 0 0) ∧ ((w.alloc (.cells #[.int .i64 t, .int .i64 n, .int .i64 sq, .int .i64 kd, .int .i64 ot, .int .i64 on, .int .i64 pt, .int .i64 pn, .string (bas nm), .slice p l c, .slice q m d] 35)).alloc (.cells #[.int .i64 0, .int .i64 0, .int .i64 0, .int .i64 0, .int .i64 0, .int .i64 0, .int .i64 0, .int .i64 0, .string ⟨#[]⟩, .slice none 0 0, .slice none 0 0] 35)).cell? ⟨w.heap.size + 1, 10, none⟩ = some (.slice none 0 0) := ⟨cellOf H2 0, cellOf H2 1, cellOf H2 2, cellOf H2 3, cellOf H2 4, cellOf H2 5, cellOf H2 6, cellOf H2 7, cellOf H2 8, cellOf H2 9, cellOf H2 10⟩
  have fz : ∀ k, ((w.alloc (.cells #[.int .i64 t, .int .i64 n, .int .i64 sq, .int .i64 kd, .int .i64 ot, .int .i64 on, .int .i64 pt, .int .i64 pn, .string (bas nm), .slice p l c, .slice q m d] 35)).alloc (.cells #[.int .i64 0, .int .i64 0, .int .i64 0, .int .i64 0, .int .i64 0, .int .i64 0, .int .i64 0, .int .i64 0, .string ⟨#[]⟩, .slice none 0 0, .slice none 0 0] 35)).frozen? ⟨w.heap.size + 1, k, none⟩ = false := fun k => frozenOf H2 k
  have ⟨y0, y1, y2, y3, y4, y5, y6, y7, y8, y9, y10⟩ := (⟨fz 0, fz 1, fz 2, fz 3, fz 4, fz 5, fz 6, fz 7, fz 8, fz 9, fz 10⟩ : ((w.alloc (.cells #[.int .i64 t, .int .i64 n, .int .i64 sq, .int .i64 kd, .int .i64 ot, .int .i64 on, .int .i64 pt, .int .i64 pn, .string (bas nm), .slice p l c, .slice q m d] 35)).alloc (.cells #[.int .i64 0, .int .i64 0, .int .i64 0, .int .i64 0, .int .i64 0, .int .i64 0, .int .i64 0, .int .i64 0, .string ⟨#[]⟩, .slice none 0 0, .slice none 0 0] 35)).frozen? ⟨w.heap.size + 1, 0, none⟩ = false ∧ ((w.alloc (.cells #[.int .i64 t, .int .i64 n, .int .i64 sq, .int .i64 kd, .int .i64 ot, .int .i64 on, .int .i64 pt, .int .i64 pn, .string (bas nm), .slice p l c, .slice q m d] 35)).alloc (.cells #[.int .i64 0, .int .i64 0, .int .i64 0, .int .i64 0, .int .i64 0, .int .i64 0, .int .i64 0, .int .i64 0, .string ⟨#[]⟩, .slice none 0 0, .slice none 0 0] 35)).frozen? ⟨w.heap.size + 1, 1, none⟩ = false ∧ ((w.alloc (.cells #[.int .i64 t, .int .i64 n, .int .i64 sq, .int .i64 kd, .int .i64 ot, .int .i64 on, .int .i64 pt, .int .i64 pn, .string (bas nm), .slice p l c, .slice q m d] 35)).alloc (.cells #[.int .i64 0, .int .i64 0, .int .i64 0, .int .i64 0, .int .i64 0, .int .i64 0, .int .i64 0, .int .i64 0, .string ⟨#[]⟩, .slice none 0 0, .slice none 0 0] 35)).frozen? ⟨w.heap.size + 1, 2, none⟩ = false ∧ ((w.alloc (.cells #[.int .i64 t, .int .i64 n, .int .i64 sq, .int .i64 kd, .int .i64 ot, .int .i64 on, .int .i64 pt, .int .i64 pn, .string (bas nm), .slice p l c, .slice q m d] 35)).alloc (.cells #[.int .i64 0, .int .i64 0, .int .i64 0, .int .i64 0, .int .i64 0, .int .i64 0, .int .i64 0, .int .i64 0, .string ⟨#[]⟩, .slice none 0 0, .slice none 0 0] 35)).frozen? ⟨w.heap.size + 1, 3, none⟩ = false ∧ ((w.alloc (.cells #[.int .i64 t, .int .i64 n, .int .i64 sq, .int .i64 kd, .int .i64 ot, .int .i64 on, .int .i64 pt, .int .i64 pn, .string (bas nm), .slice p l c, .slice q m d] 35)).alloc (.cells #[.int .i64 0, .int .i64 0, .int .i64 0, .int .i64 0, .int .i64 0, .int .i64 0, .int .i64 0, .int .i64 0, .string ⟨#[]⟩, .slice none 0 0, .slice none 0 0] 35)).frozen? ⟨w.heap.size + 1, 4, none⟩ = false ∧ ((w.alloc (.cells #[.int .i64 t, .int .i64 n, .int .i64 sq, .int .i64 kd, .int .i64 ot, .int .i64 on, .int .i64 pt, .int .i64 pn, .string (bas nm), .slice p l c, .slice q m d] 35)).alloc (.cells #[.int .i64 0, .int .i64 0, .int .i64 0, .int .i64 0, .int .i64 0, .int .i64 0, .int .i64 0, .int .i64 0, .string ⟨#[]⟩, .slice none 0 0, .slice none 0 0] 35)).frozen? ⟨w.heap.size + 1, 5, none⟩ = false ∧ ((w.alloc (.cells #[.int .i64 t, .int .i64 n, .int .i64 sq, .int .i64 kd, .int .i64 ot, .int .i64 on, .int .i64 pt, .int .i64 pn, .string (bas nm), .slice p l c, .slice q m d] 35)).alloc (.cells #[.int .i64 0, .int .i64 0, .int .i64 0, .int .i64 0, .int .i64 0, .int .i64 0, .int .i64 0, .int .i64 0, .string ⟨#[]⟩, .slice none 0 0, .slice none 0 0] 35)).frozen? ⟨w.heap.size + 1, 6, none⟩ = false ∧ ((w.alloc (.cells #[.int .i64 t, .int .i64 n, .int .i64 sq, .int .i64 kd, .int .i64 ot, .int .i64 on, .int .i64 pt, .int .i64 pn, .string (bas nm), .slice p l c, .slice q m d] 35)).alloc (.cells #[.int .i64 0, .int .i64 0, .int .i64 0, .int .i64 0, .int .i64 0, .int .i64 0, .int .i64 0, .int .i64 0, .string ⟨#[]⟩, .slice none 0 0, .slice none 0 0] 35)).frozen? ⟨w.heap.size + 1, 7, none⟩ = false ∧ ((w.alloc (.cells #[.int .i64 t, .int .i64 n, .int .i64 sq, .int .i64 kd, .int .i64 ot, .int .i64 on, .int .i64 pt, .int .i64 pn, .string (bas nm), .slice p l c, .slice q m d] 35)).alloc (.cells #[.int .i64 0, .int .i64 0, .int .i64 0, .int .i64 0, .int .i64 0, .int .i64 0, .int .i64 0, .int .i64 0, .string ⟨#[]⟩, .slice none 0 0, .slice none 0 0] 35)).frozen? ⟨w.heap.size + 1, 8, none⟩ = false ∧ ((w.alloc (.cells #[.int .i64 t, .int .i64 n, .int .i64 sq, .int .i64 kd, .int .i64 ot, .int .i64 on, .int .i64 pt, .int .i64 pn, .string (bas nm), .slice p l c, .slice q m d] 35)).alloc (.cells #[.int .i64 0, .int .i64 0, .int .i64 0, .int .i64 0, .int .i64 0, .int .i64 0, .int .i64 0, .int .i64 0, .string ⟨#[]⟩, .slice none 0 0, .slice none 0 0] 35)).frozen? ⟨w.heap.size + 1, 9, none⟩ = false ∧ ((w.alloc (.cells #[.int .i64 t, .int .i64 n, .int .i64 sq, .int .i64 kd, .int .i64 ot, .int .i64 on, .int .i64 pt, .int .i64 pn, .string (bas nm), .slice p l c, .slice q m d] 35)).alloc (.cells #[.int .i64 0, .int .i64 0, .int .i64 0, .int .i64 0, .int .i64 0, .int .i64 0, .int .i64 0, .int .i64 0, .string ⟨#[]⟩, .slice none 0 0, .slice none 0 0] 35)).frozen? ⟨w.heap.size + 1, 10, none⟩ = false)
  clear B0 H1 H2 fz
  by_cases h : 100 < nm.length
  · have hI : (100 : Int) < (nm.length : Int) := by omega
    have h90 : 100 ≤ (bas nm).size := by omega
    have HN : Hid ((bas nm).extract 0 100 = bas (nm.take 100)) := by
      show _ = _
      unfold bas
      rw [show ((⟨nm.toArray⟩ : ByteArray).extract 0 100) = ⟨(nm.toArray).extract 0 100⟩ by ext1; simp [ByteArray.data_extract]]
      simp
    go_enter Try.func25, Try.ntmps25
    go_wp2_with (first | (go_at_call 39; refine Calls_on cS ?_; clear cS) | (go_at_call 40; refine Calls_on (cC _) ?_))
    refine bodyPost_ret (v := .agg #[.int .i64 t, .int .i64 n, .int .i64 sq, .int .i64 kd, .int .i64 ot, .int .i64 on, .int .i64 pt, .int .i64 pn, .string ((bas nm).extract 0 100), .slice p l1 c, .slice q m1 d]) (by simp [results, Try.results25, go_sem]) rfl ?_
    refine ⟨by rw [HN.out], ?_⟩
    exact ((Below.refl _ _).alloc (Nat.le_refl _) _).alloc (by simp) _
  · have hI : ¬ (100 : Int) < (nm.length : Int) := by omega
    have HN : Hid (nm.take 100 = nm) := List.take_of_length_le (by omega)
    rw [HN.out]
    go_enter Try.func25, Try.ntmps25
    go_wp2_with (first | (go_at_call 39; refine Calls_on cS ?_; clear cS) | (go_at_call 40; refine Calls_on (cC _) ?_))
    refine bodyPost_ret (v := .agg #[.int .i64 t, .int .i64 n, .int .i64 sq, .int .i64 kd, .int .i64 ot, .int .i64 on, .int .i64 pt, .int .i64 pn, .string (bas nm), .slice p l1 c, .slice q m1 d]) (by simp [results, Try.results25, go_sem]) rfl ?_
    refine ⟨rfl, ?_⟩
    exact ((Below.refl _ _).alloc (Nat.le_refl _) _).alloc (by simp) _


end Go.Proofs.Yteimjkicinjcgaa.Cd

namespace Go.Proofs.Yteimjkicinjcgaa.Ck.Y.L
open Go.RowKit Go.Maps Go.Lib

/-- An operation that came in, as it lies. -/
structure RawIn (w : World) (o : OG) (ns : List Int) (bs : List (BitVec 8)) : Prop where
  seen : Cd.Lies w o.sp (ns.map Cd.iv)
  sl : ns.length = o.sl
  sc : ns.length ≤ o.sc
  le : ns.length ≤ maxLen
  data : Cd.Bytes w o.dp bs
  dl : bs.length = o.dl
  dc : bs.length ≤ o.dc
theorem RawIn.below {w w' : World} {o : OG} {ns : List Int} {bs : List (BitVec 8)} (h : RawIn w o ns bs) (hb : Below w.heap.size w w') : RawIn w' o ns bs := ⟨Cd.below_lies hb h.seen, h.sl, h.sc, h.le, Cd.below_bytes hb h.data, h.dl, h.dc⟩
/-- Operations that came in, in a row of somebody else's. -/
def OpsL (w : World) (p : Option Addr) (L : List OG) : Prop := 0 < L.length → ∃ g o, p = some ⟨g, o, none⟩ ∧ ∀ (i : Nat) (x : OG), L[i]? = some x → (w.cell? ⟨g, o + i * 11, none⟩ = some (.int .i64 x.t) ∧ w.cell? ⟨g, o + i * 11 + 1, none⟩ = some (.int .i64 x.n) ∧ w.cell? ⟨g, o + i * 11 + 2, none⟩ = some (.int .i64 x.sq) ∧ w.cell? ⟨g, o + i * 11 + 3, none⟩ = some (.int .i64 x.kd) ∧ w.cell? ⟨g, o + i * 11 + 4, none⟩ = some (.int .i64 x.ot) ∧ w.cell? ⟨g, o + i * 11 + 5, none⟩ = some (.int .i64 x.on) ∧ w.cell? ⟨g, o + i * 11 + 6, none⟩ = some (.int .i64 x.pt) ∧ w.cell? ⟨g, o + i * 11 + 7, none⟩ = some (.int .i64 x.pn) ∧ w.cell? ⟨g, o + i * 11 + 8, none⟩ = some (.string x.nm) ∧ w.cell? ⟨g, o + i * 11 + 9, none⟩ = some (.slice x.dp x.dl x.dc) ∧ w.cell? ⟨g, o + i * 11 + 10, none⟩ = some (.slice x.sp x.sl x.sc)) ∧ ∃ ns bs, RawIn w x ns bs
theorem OpsL.below {w w' : World} {p : Option Addr} {L : List OG} (h : OpsL w p L) (hb : Below w.heap.size w w') : OpsL w' p L := by
  intro hl
  obtain ⟨g, o, e, hc⟩ := h hl
  refine ⟨g, o, e, fun i x hx => ?_⟩
  obtain ⟨⟨a0, a1, a2, a3, a4, a5, a6, a7, a8, a9, a10⟩, ns, bs, hr⟩ := hc i x hx
  exact ⟨⟨cell_keptH a0 hb, cell_keptH a1 hb, cell_keptH a2 hb, cell_keptH a3 hb, cell_keptH a4 hb, cell_keptH a5 hb, cell_keptH a6 hb, cell_keptH a7 hb, cell_keptH a8 hb, cell_keptH a9 hb, cell_keptH a10 hb⟩, ns, bs, hr.below hb⟩
/-- What the law's Cut leaves of an operation. -/
def cutO (o : OG) (ns : List Int) (bs : List (BitVec 8)) : OG := { o with nm := Cd.bas (o.nm.data.toList.take 100), dl := (bs.take 3000).length, sl := (Vc.cut ns).length }
theorem RawIn.cut {w : World} {o : OG} {ns : List Int} {bs : List (BitVec 8)} (h : RawIn w o ns bs) : WIn w (cutO o ns bs) (Vc.cut ns) (bs.take 3000) := by
  have h1 : (Vc.cut ns).length ≤ 80 := Vc.cut_le ns
  have h2 : (bs.take 3000).length ≤ 3000 := by rw [List.length_take]; omega
  refine ⟨?_, rfl, ?_, by omega, Cd.bytes_take h.data 3000, rfl, ?_, by omega, ?_⟩
  · unfold Vc.cut
    have := Cd.lies_take h.seen 80
    rwa [← List.map_take] at this
  · have := h.sc
    have : (Vc.cut ns).length ≤ ns.length := by unfold Vc.cut; rw [List.length_take]; omega
    show _ ≤ o.sc; omega
  · have := h.dc
    have : (bs.take 3000).length ≤ bs.length := by rw [List.length_take]; omega
    show _ ≤ o.dc; omega
  · show (Cd.bas (o.nm.data.toList.take 100)).size ≤ 1000000
    rw [Cd.bas_size, List.length_take]; omega
theorem cut_call {w : World} {o : OG} {ns : List Int} {bs : List (BitVec 8)} (h : RawIn w o ns bs) : Calls Try.prog 25 #[opgv o] w fun e w' => e = .returned (opgv (cutO o ns bs)) ∧ Below w.heap.size w w' := by
  have := Cd.cut12_any o.t o.n o.sq o.kd o.ot o.on o.pt o.pn o.nm.data.toList o.dp o.sp o.dl o.dc o.sl o.sc bs ns w h.dl.symm h.dc h.sl.symm h.sc h.le h.data
  rw [Cd.bas_of] at this
  exact this
theorem rmay_call {w : World} {o : OG} {ns : List Int} {bs : List (BitVec 8)} (h : WIn w o ns bs) (h1 : ns.length ≤ 1000) : Calls Try.prog 26 #[opgv o] w fun e w' => e = .returned (.bool (mayW o ns)) ∧ Below w.heap.size w w' := by
  have := Cd.rmay_any o.t o.n o.sq o.kd o.ot o.on o.pt o.pn o.nm.data.toList o.dp o.sp o.dl o.dc o.sl o.sc ns w (by rw [← Lib.size_eq]; have := h.nm; omega) (by have := h.dl; have := h.bl; omega) h.sl h1 h.seen
  rw [Cd.bas_of] at this
  exact this
/-- What Some has taken. -/
structure Taken (w : World) (l : List OG) : Prop where
  each : ∀ o ∈ l, ∃ ns bs, WIn w o ns bs ∧ mayW o ns = true ∧ ns.length ≤ 80
  apart : l.Pairwise fun a b => (a.t, a.n) ≠ (b.t, b.n)
def SmI (u0 w wr : World) (v : Value) (M : List OG) (most : Nat) : Prop := RowG wr w.heap.size v M ∧ Taken u0 M ∧ M.length ≤ most ∧ Below w.heap.size w wr
theorem SmI.step {u0 w wr w2 w3 : World} {v : Value} {M : List OG} {most : Nat} (h : SmI u0 w wr v M most) {x : OG} {ns : List Int} {bs : List (BitVec 8)} (hx : WIn u0 x ns bs) (hm : mayW x ns = true) (hn : ns.length ≤ 80) (ha : ∀ y ∈ M, (y.t, y.n) ≠ (x.t, x.n)) (hl : M.length < most) (b2 : Below wr.heap.size wr w2) {p : Option Addr} {c : Nat}
    (hr : RowG w3 w.heap.size (.slice p (M.length + 1) c) (M ++ [x])) (hg : (w2.alloc (.cells (opgC x) 35)).grownBy w3 v.ownBlock) : SmI u0 w w3 (.slice p (M.length + 1) c) (M ++ [x]) most := by
  obtain ⟨h1, h2, h3, h4⟩ := h
  have b3 : Below w2.heap.size w2 (w2.alloc (.cells (opgC x) 35)) := (below_new _ _).out
  have hO : Only (fun b => v.ownBlock = some b) (w2.alloc (.cells (opgC x) 35)) w3 := ⟨hg.os, hg.tape, hg.output, hg.size, fun k hk hn => hg.block k hk (fun e => hn e.symm)⟩
  have hr2 := (h1.below b2).below b3
  refine ⟨hr, ⟨fun o ho => ?_, List.pairwise_append.2 ⟨h2.apart, by simp, fun a ha' b hb => ?_⟩⟩, by rw [List.length_append]; simp; omega, ?_⟩
  · rcases List.mem_append.1 ho with ho | ho
    · exact h2.each o ho
    · have : o = x := by simpa using ho
      subst this
      exact ⟨ns, bs, hx, hm, hn⟩
  · have : b = x := by simpa using hb
    subst this
    exact ha a ha'
  · have s2 := below_thenH h4 (below_thenH b2 b3)
    refine s2.trans (hO.below s2.size fun b hb => ?_)
    obtain ⟨_, _, hbase⟩ := hr2.tag hb
    exact hbase

/-- What Some answers. -/
def SomeR (u0 w : World) (most : Nat) (e : Ending) (w' : World) : Prop := ∃ v l, e = .returned v ∧ RowG w' w.heap.size v l ∧ Taken u0 l ∧ l.length ≤ most ∧ Below w.heap.size w w'

set_option maxRecDepth 8000 in
set_option maxHeartbeats 8000000 in
theorem some_any (p : Option Addr) (L : List OG) (c most : Nat) (u0 w : World) (huw : Below u0.heap.size u0 w) (hp : OpsL u0 p L) (hL : L.length ≤ maxLen) (hm : most ≤ 1000) :
    Calls Try.prog 9 #[.slice p L.length c, .int .i64 (most : Nat)] w (SomeR u0 w most) := by
  have HP : Hid (OpsL u0 p L) := hp
  have HUW : Hid (Below u0.heap.size u0 w) := huw
  have HL : Hid (L.length ≤ maxLen) := hL
  have hL2 : L.length ≤ 9223372036854775807 := by unfold maxLen at hL; omega
  have HI0 : Hid (SmI u0 w w (.slice none 0 0) [] most) := ⟨RowG.nil _ _, ⟨fun o ho => by simp at ho, List.Pairwise.nil⟩, by simp, Below.refl _ _⟩
  clear hp hL huw
  go_enter Try.func9, Try.ntmps9
  go_wp2
  go_loopw [5, 6] (fun ll ii wr => ∃ (i : Nat) (M : List OG) (p' : Option Addr) (c' : Nat), ll = .slice p' M.length c' ∧ ii = .int .i64 i ∧ i ≤ L.length ∧ Hid (SmI u0 w wr (.slice p' M.length c') M most)) (fun _ ii _ => L.length - (RowKit.intOf ii).toNat)
  case atStart => exact ⟨0, [], none, 0, rfl, rfl, by omega, HI0⟩
  case round =>
    obtain ⟨i, M, p', c', rfl, rfl, hi, HI⟩ := hrel
    generalize wr = wo at *
    by_cases hlt : i < L.length
    · have hltI : (i : Int) < L.length := by omega
      have HLT : Hid (i < L.length) := hlt
      by_cases hml : M.length < most
      · have hmlI : (M.length : Int) < most := by omega
        have HML : Hid (M.length < most) := hml
        obtain ⟨x, hx⟩ : ∃ x, L[i]? = some x := ⟨_, List.getElem?_eq_getElem hlt⟩
        obtain ⟨g, o, rfl, hc⟩ := (HP.out.below (below_thenH HUW.out HI.out.2.2.2)) (by omega)
        obtain ⟨⟨d0, d1, d2, d3, d4, d5, d6, d7, d8, d9, d10⟩, _⟩ := hc i x hx
        obtain ⟨ns, bs, hraw⟩ : ∃ ns bs, RawIn u0 x ns bs := by
          obtain ⟨g2, o2, _, hc2⟩ := HP.out (by omega)
          exact (hc2 i x hx).2
        have HR : Hid (RawIn u0 x ns bs) := hraw
        obtain ⟨z, hz⟩ : ∃ z, cutO x ns bs = z := ⟨_, rfl⟩
        have HZ : Hid (WIn u0 z (Vc.cut ns) (bs.take 3000)) := by rw [← hz]; exact hraw.cut
        have ccut := cut_call (hraw.below (below_thenH HUW.out HI.out.2.2.2))
        rw [hz] at ccut
        have hi9 : i + 1 ≤ 9223372036854775807 := by omega
        clear hc hx hraw hz hlt hml
        simp only [opgv, opgC] at ccut
        obtain ⟨r, hr⟩ : ∃ r, mayW z (Vc.cut ns) = r := ⟨_, rfl⟩
        have HMAY : Hid (mayW z (Vc.cut ns) = r) := hr
        have HRM : Hid (∀ W, Below wo.heap.size wo W → Calls Try.prog 26 #[opgv z] W fun e w' => e = .returned (.bool r) ∧ Below W.heap.size W w') := fun W hW => by
          have := rmay_call ((HZ.out.below (below_thenH HUW.out HI.out.2.2.2)).below hW) (Nat.le_trans (Vc.cut_le ns) (by decide))
          rwa [hr] at this
        clear hr
        simp only [opgv, opgC] at HRM
        go_wp2_with (first
          | (go_at_call 25; refine Calls_new ccut ?_; clear ccut; intro w1 HB1)
          | (go_at_call 26; refine Calls_new (HRM.out _ (below_thenH HB1.out (below_new _ _).out)) ?_; clear HRM; intro w2 HB2; have kz := (HB2.out.block w1.heap.size (by simp)).trans (heap_alloc_new w1 (.cells (opgC z) 35)); have HKZ : Hid (w2.heap[w1.heap.size]? = some (.cells (opgC z) 35 (0, 0)) ∧ Below wo.heap.size wo w2) := ⟨kz, below_thenH HB1.out (below_thenH (below_new _ _).out HB2.out)⟩; clear kz d0 d1 d2 d3 d4 d5 d6 d7 d8 d9 d10))
        go_loopw [8, 9] (fun bb kk wr => ∃ (k : Nat) (b : Bool), bb = .bool b ∧ kk = .int .i64 k ∧ k ≤ M.length ∧ Hid (b = true → r = true ∧ ∀ (j : Nat) (y : OG), j < k → M[j]? = some y → (y.t, y.n) ≠ (z.t, z.n)) ∧ Hid (Below w2.heap.size w2 wr)) (fun _ kk _ => M.length - (RowKit.intOf kk).toNat)
        case atStart => exact ⟨0, r, rfl, rfl, by omega, (show _ → _ from fun h => ⟨h, fun j y hj => by omega⟩), Below.refl _ _⟩
        case round =>
          obtain ⟨k, b, rfl, rfl, hk, HU, HB⟩ := hrel
          have hbw : Below wo.heap.size wo wr := below_thenH HKZ.out.2 HB.out
          have HBW : Hid (Below wo.heap.size wo wr) := hbw
          have kz := (HB.out.block _ (block_lt HKZ.out.1)).trans HKZ.out.1
          have HKW : Hid (wr.heap[w1.heap.size]? = some (.cells (opgC z) 35 (0, 0))) := kz
          have hM9 : M.length ≤ 1000 := by have := HML.out; omega
          clear hbw
          by_cases hkt : k < M.length
          · have hktI : (k : Int) < M.length := by omega
            have HKT : Hid (k < M.length) := hkt
            cases b with
            | false =>
              clear kz
              go_wp2_with fail
              go_roundw
              case rel =>
                exact ⟨i + 1, M, p', c', rfl, by go_num, HLT.out, HI.out.1.below HBW.out, HI.out.2.1, HI.out.2.2.1, below_thenH HI.out.2.2.2 HBW.out⟩
              case measure => have := HLT.out; simp [RowKit.intOf]; omega
            | true =>
              obtain ⟨y, hy⟩ : ∃ y, M[k]? = some y := ⟨_, List.getElem?_eq_getElem hkt⟩
              have HY : Hid (M[k]? = some y) := hy
              obtain ⟨p1, c1, e1, hc⟩ := RowG.caps (HI.out.1.below HBW.out)
              cases e1
              obtain ⟨gm, rfl, a0, a1, _⟩ := hc k y hy
              have z0 : wr.cell? ⟨w1.heap.size, 0, none⟩ = some (.int .i64 z.t) := cellOf kz 0
              have z1 : wr.cell? ⟨w1.heap.size, 1, none⟩ = some (.int .i64 z.n) := cellOf kz 1
              have hcall := fun W => same_any y.t y.n z.t z.n W
              obtain ⟨q, hq⟩ : ∃ q, sameB y.t y.n z.t z.n = q := ⟨_, rfl⟩
              rw [hq] at hcall
              have HN : Hid ((!q) = true → r = true ∧ ∀ (j : Nat) (u : OG), j < k + 1 → M[j]? = some u → (u.t, u.n) ≠ (z.t, z.n)) := fun hqf => by
                obtain ⟨h1, h2⟩ := HU.out rfl
                refine ⟨h1, fun j u hj hu => ?_⟩
                by_cases e : j = k
                · subst e
                  rw [HY.out] at hu; cases hu
                  intro e2
                  have e3 : sameB y.t y.n z.t z.n = true := by unfold sameB; rw [(Prod.mk.inj e2).1, (Prod.mk.inj e2).2]; simp
                  rw [e3] at hq
                  rw [← hq] at hqf; cases hqf
                · exact h2 j u (by omega) hu
              clear hc hy hq kz hkt
              go_wp2_with fail
              have HS : ∀ W W', (W.cell? ⟨gm, k * 11, none⟩ = some (.int .i64 y.t) ∧ W.cell? ⟨gm, k * 11 + 1, none⟩ = some (.int .i64 y.n) ∧ W.cell? ⟨w1.heap.size, 0, none⟩ = some (.int .i64 z.t) ∧ W.cell? ⟨w1.heap.size, 1, none⟩ = some (.int .i64 z.n) ∧ Hid (Below wr.heap.size wr W)) → Hid (Below W.heap.size W W') → W'.cell? ⟨gm, k * 11, none⟩ = some (.int .i64 y.t) ∧ W'.cell? ⟨gm, k * 11 + 1, none⟩ = some (.int .i64 y.n) ∧ W'.cell? ⟨w1.heap.size, 0, none⟩ = some (.int .i64 z.t) ∧ W'.cell? ⟨w1.heap.size, 1, none⟩ = some (.int .i64 z.n) ∧ Hid (Below wr.heap.size wr W') := fun W W' h1 h2 =>
                have hb := below_thenH h1.2.2.2.2.out h2.out
                ⟨cell_keptH a0 hb, cell_keptH a1 hb, cell_keptH z0 hb, cell_keptH z1 hb, hb⟩
              have S1 : wr.drew.cell? ⟨gm, k * 11, none⟩ = some (.int .i64 y.t) ∧ wr.drew.cell? ⟨gm, k * 11 + 1, none⟩ = some (.int .i64 y.n) ∧ wr.drew.cell? ⟨w1.heap.size, 0, none⟩ = some (.int .i64 z.t) ∧ wr.drew.cell? ⟨w1.heap.size, 1, none⟩ = some (.int .i64 z.n) ∧ Hid (Below wr.heap.size wr wr.drew) := ⟨a0, a1, z0, z1, below_drewH wr⟩
              have S2 : wr.cell? ⟨gm, k * 11, none⟩ = some (.int .i64 y.t) ∧ wr.cell? ⟨gm, k * 11 + 1, none⟩ = some (.int .i64 y.n) ∧ wr.cell? ⟨w1.heap.size, 0, none⟩ = some (.int .i64 z.t) ∧ wr.cell? ⟨w1.heap.size, 1, none⟩ = some (.int .i64 z.n) ∧ Hid (Below wr.heap.size wr wr) := ⟨a0, a1, z0, z1, Below.refl _ _⟩
              have HF : ∀ W, (W.cell? ⟨gm, k * 11, none⟩ = some (.int .i64 y.t) ∧ W.cell? ⟨gm, k * 11 + 1, none⟩ = some (.int .i64 y.n) ∧ W.cell? ⟨w1.heap.size, 0, none⟩ = some (.int .i64 z.t) ∧ W.cell? ⟨w1.heap.size, 1, none⟩ = some (.int .i64 z.n) ∧ Hid (Below wr.heap.size wr W)) → Below wr.heap.size wr W := fun W hW => hW.2.2.2.2.out
              go_region_held3 (fun W => W.cell? ⟨gm, k * 11, none⟩ = some (.int .i64 y.t) ∧ W.cell? ⟨gm, k * 11 + 1, none⟩ = some (.int .i64 y.n) ∧ W.cell? ⟨w1.heap.size, 0, none⟩ = some (.int .i64 z.t) ∧ W.cell? ⟨w1.heap.size, 1, none⟩ = some (.int .i64 z.n) ∧ Hid (Below wr.heap.size wr W))
                (first | exact S1 | exact S2 | assumption | exact HS _ _ (by assumption) (by assumption))
                (first | (go_at_call 21; refine Calls_new (hcall _) ?_; intro w3 HB3))
              have HB2 : Hid (Below wr.heap.size wr _) := HF _ (by assumption)
              go_wp2_with fail
              go_roundw
              case rel => exact ⟨k + 1, !q, rfl, by go_num, HKT.out, HN, below_thenH HB.out HB2.out⟩
              case measure => have := HKT.out; simp [RowKit.intOf]; omega
          · obtain rfl : k = M.length := by omega
            clear hkt
            cases b with
            | false =>
              clear kz
              go_wp2_with fail
              go_roundw
              case rel =>
                exact ⟨i + 1, M, p', c', rfl, by go_num, HLT.out, HI.out.1.below HBW.out, HI.out.2.1, HI.out.2.2.1, below_thenH HI.out.2.2.2 HBW.out⟩
              case measure => have := HLT.out; simp [RowKit.intOf]; omega
            | true =>
              obtain ⟨z0, z1, z2, z3, z4, z5, z6, z7, z8, z9, z10⟩ := op_cellsG kz
              clear kz
              go_wp2_with (at_builtin; refine wpList_appG rfl _ _ rfl w.heap.size _ M z rfl wr.heap.size rfl ⟨(HI.out.1.below HBW.out).below (below_new _ _).out, heap_alloc_new wr _, by omega, by have := HI.out.2.2.2.size; have := HBW.out.size; simp; omega⟩ ?_; intro p4 c4 w5 H5)
              go_roundw
              case rel =>
                refine ⟨i + 1, M ++ [z], p4, c4, ?_, by go_num, HLT.out, ?_⟩
                · rw [List.length_append]; rfl
                · have hap : ∀ y ∈ M, (y.t, y.n) ≠ (z.t, z.n) := fun y hy => by
                    obtain ⟨j, hj, e⟩ := List.getElem_of_mem hy
                    exact (HU.out rfl).2 j y hj (by rw [List.getElem?_eq_getElem hj, e])
                  have := HI.out.step HZ.out (by rw [HMAY.out]; exact (HU.out rfl).1) (Vc.cut_le ns) hap HML.out HBW.out H5.out.1 H5.out.2.1
                  show SmI u0 w w5 (.slice p4 (M ++ [z]).length c4) (M ++ [z]) most
                  rw [List.length_append]
                  exact this
              case measure => have := HLT.out; simp [RowKit.intOf]; omega
      · have hmlI : ¬ (M.length : Int) < most := by omega
        have hM9 : M.length ≤ 1000 := by have := HI.out.2.2.1; omega
        clear hml
        go_wp2
        go_ret
        exact ⟨_, M, rfl, HI.out⟩
    · obtain rfl : i = L.length := by omega
      go_wp2
      go_ret
      exact ⟨_, M, rfl, HI.out⟩

end Go.Proofs.Yteimjkicinjcgaa.Ck.Y.L
