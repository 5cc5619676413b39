/-
  copyOf, Of, isSeen, Behind, compareStamp.
-/
import Derived.Test.YteimjkicinjcgaaKLb

namespace Go.Proofs.Yteimjkicinjcgaa.Ck.Y.L
open Go.RowKit Go.Maps

/-- A whole version is written, cell by cell. -/
def set5 (w : World) (b : Nat) (v0 v1 v2 v3 v4 : Value) : World := ((((w.setCell ⟨b, 0, none⟩ v0).setCell ⟨b, 1, none⟩ v1).setCell ⟨b, 2, none⟩ v2).setCell ⟨b, 3, none⟩ v3).setCell ⟨b, 4, none⟩ v4
theorem set5_at {w : World} {b : Nat} {a0 a1 a2 a3 a4 : Value} {T : TypeId} (h : w.heap[b]? = some (.cells #[a0, a1, a2, a3, a4] T (0, 0))) (v0 v1 v2 v3 v4 : Value) :
    (set5 w b v0 v1 v2 v3 v4).heap[b]? = some (.cells #[v0, v1, v2, v3, v4] T (0, 0)) := by
  have h0 := heap_set_same (k := 0) h v0
  have h1 := heap_set_same (k := 1) h0 v1
  have h2 := heap_set_same (k := 2) h1 v2
  have h3 := heap_set_same (k := 3) h2 v3
  exact heap_set_same (k := 4) h3 v4
theorem set5_only (w : World) (b : Nat) (v0 v1 v2 v3 v4 : Value) : Only (fun k => k = b) w (set5 w b v0 v1 v2 v3 v4) :=
  ((((Only.setCell (S := fun k => k = b) _ _ _ rfl).next (Only.setCell (S := fun k => k = b) _ _ _ rfl)).next (Only.setCell (S := fun k => k = b) _ _ _ rfl)).next (Only.setCell (S := fun k => k = b) _ _ _ rfl)).next (Only.setCell (S := fun k => k = b) _ _ _ rfl)
theorem set5_cells {w : World} {b : Nat} {a0 a1 a2 a3 a4 : Value} {T : TypeId} (h : w.heap[b]? = some (.cells #[a0, a1, a2, a3, a4] T (0, 0))) (v0 v1 v2 v3 v4 : Value) :
    (set5 w b v0 v1 v2 v3 v4).cell? ⟨b, 0, none⟩ = some v0 ∧ (set5 w b v0 v1 v2 v3 v4).cell? ⟨b, 1, none⟩ = some v1 ∧ (set5 w b v0 v1 v2 v3 v4).cell? ⟨b, 2, none⟩ = some v2 ∧ (set5 w b v0 v1 v2 v3 v4).cell? ⟨b, 3, none⟩ = some v3 ∧ (set5 w b v0 v1 v2 v3 v4).cell? ⟨b, 4, none⟩ = some v4 :=
  ⟨cellOf (set5_at h _ _ _ _ _) 0, cellOf (set5_at h _ _ _ _ _) 1, cellOf (set5_at h _ _ _ _ _) 2, cellOf (set5_at h _ _ _ _ _) 3, cellOf (set5_at h _ _ _ _ _) 4⟩

/-- What lies in the blocks of copyOf behind the second copy. -/
theorem copy_mem {w w1 w2 : World} {N nl bl : Nat} {t n sq : Int} {ns : List Int} {bs : List (BitVec 8)} {sp dp p1 p2 : Option Addr} {sc dc c1 c2 : Nat} (hN : w.heap.size = N)
    (H1 : w1.ownsRow (N + 2) 2 1 (.slice p1 nl c1) nl (ns.map Cd.iv) ∧ Below w.heap.size w w1 ∧ N + 2 ≤ w1.heap.size)
    (J1 : w1.heap[N]? = some (.cells #[.int .i64 t, .int .i64 n, .int .i64 sq, .slice sp nl sc, .slice dp bl dc] 43 (0, 0)) ∧ w1.heap[N + 1]? = some (.cells #[.int .i64 0, .int .i64 0, .int .i64 0, .slice none 0 0, .slice none 0 0] 43 (0, 0)))
    (ho2 : w2.ownsRow (w1.setCell ⟨N, 3, none⟩ (.slice p1 nl c1)).heap.size 5 1 (.slice p2 bl c2) bl (bs.map Cd.u8v)) (hb2 : Below (w1.setCell ⟨N, 3, none⟩ (.slice p1 nl c1)).heap.size (w1.setCell ⟨N, 3, none⟩ (.slice p1 nl c1)) w2) :
    (w2.ownsRow (N + 2) 2 1 (.slice p1 nl c1) nl (ns.map Cd.iv) ∧ w2.ownsRow (N + 2) 5 1 (.slice p2 bl c2) bl (bs.map Cd.u8v) ∧ Below w.heap.size w w2) ∧
    (w2.setCell ⟨N, 4, none⟩ (.slice p2 bl c2)).heap[N]? = some (.cells #[.int .i64 t, .int .i64 n, .int .i64 sq, .slice p1 nl c1, .slice p2 bl c2] 43 (0, 0)) ∧ (w2.setCell ⟨N, 4, none⟩ (.slice p2 bl c2)).heap[N + 1]? = some (.cells #[.int .i64 0, .int .i64 0, .int .i64 0, .slice none 0 0, .slice none 0 0] 43 (0, 0)) ∧ w2.frozen? ⟨N, 4, none⟩ = false ∧ w2.cell? ⟨N, 4, none⟩ = some (.slice dp bl dc) ∧ ∃ cs, w2.heap[N]? = some (.cells cs 43 (0, 0)) := by
  have hsz : (w1.setCell ⟨N, 3, none⟩ (.slice p1 nl c1)).heap.size = w1.heap.size := by simp
  have q1 := (hb2.block N (by have := H1.2.2; omega)).trans (heap_set_same (k := 3) J1.1 (.slice p1 nl c1))
  have q2 := (hb2.block (N + 1) (by have := H1.2.2; omega)).trans ((Below.heap_setCell w1 ⟨N, 3, none⟩ (.slice p1 nl c1) (N + 1) (by simp)).trans J1.2)
  have hx : Only (fun b => b = N) w1 (w1.setCell ⟨N, 3, none⟩ (.slice p1 nl c1)) := Only.setCell (S := fun b => b = N) _ _ _ rfl
  refine ⟨⟨own_below (own_kept H1.1 hx (fun b hb cs t ht => ?_)) hb2, ?_, ?_⟩, heap_set_same q1 _, (Below.heap_setCell w2 ⟨N, 4, none⟩ (.slice p2 bl c2) (N + 1) (by simp)).trans q2, frozenOf q1 4, cellOf q1 4, _, q1⟩
  · subst hb; rw [J1.1] at ht; cases ht; decide
  · refine ⟨ho2.1, ?_⟩
    rcases ho2.2 with h0 | ⟨g, cap, cur, hv, hb, r⟩
    · exact .inl h0
    · exact .inr ⟨g, cap, cur, hv, by have := H1.2.2; omega, r⟩
  · exact (H1.2.1.setCell (show w.heap.size ≤ (⟨N, 3, none⟩ : Addr).block from Nat.le_of_eq hN) _).trans (hb2.mono (by rw [hsz]; exact H1.2.1.size))

set_option maxRecDepth 8000 in
set_option maxHeartbeats 1000000 in
theorem copy_in (t n sq : Int) (ns : List Int) (sp : Option Addr) (sc nl : Nat) (bs : List (BitVec 8)) (dp : Option Addr) (dc bl : Nat) (w : World) (hml : ns.length = nl) (hmb : bs.length = bl)
    (hs : Cd.Lies w sp (ns.map Cd.iv)) (hnl : ns.length ≤ 1000000) (hd : Cd.Bytes w dp bs) (hbl : bs.length ≤ 1000000) :
    Calls Try.prog 33 #[.agg #[.int .i64 t, .int .i64 n, .int .i64 sq, .slice sp nl sc, .slice dp bl dc]] w fun e w' => ∃ p1 c1 p2 c2, e = .returned (.agg #[.int .i64 t, .int .i64 n, .int .i64 sq, .slice p1 nl c1, .slice p2 bl c2]) ∧ VOwn w' w.heap.size ⟨t, n, sq, ns, p1, c1, bs, p2, c2⟩ ∧ Below w.heap.size w w' := by
  have HS : Hid (∀ W, Below w.heap.size w W → Calls Try.prog 58 #[.slice sp nl sc] W fun e w' => ∃ v, e = .returned v ∧ w'.ownsRow W.heap.size 2 1 v nl (ns.map Cd.iv) ∧ Below W.heap.size W w') := fun W hW => by
    have := vclone_any sp ns sc W hnl (Cd.below_lies hW hs)
    rwa [hml] at this
  have HD : Hid (∀ W, Below w.heap.size w W → Calls Try.prog 34 #[.slice dp bl dc] W fun e w' => ∃ v, e = .returned v ∧ Cd.Cloned W bs v w') := fun W hW => by
    have := Cd.clone_any dp bs dc W (by omega) (Cd.below_bytes hW hd)
    rwa [hmb] at this
  have HL : Hid (ns.length ≤ 1000000 ∧ bs.length ≤ 1000000) := ⟨hnl, hbl⟩
  obtain ⟨N, hN⟩ : ∃ N, w.heap.size = N := ⟨_, rfl⟩
  obtain ⟨W0, hW0⟩ : ∃ W0, W0 = (w.alloc (.cells #[.int .i64 t, .int .i64 n, .int .i64 sq, .slice sp nl sc, .slice dp bl dc] 43)).alloc (.cells #[.int .i64 0, .int .i64 0, .int .i64 0, .slice none 0 0, .slice none 0 0] 43) := ⟨_, rfl⟩
  have b0 : Below w.heap.size w W0 := by rw [hW0]; exact (below_two w _ _).out
  have s0 : W0.heap.size = N + 2 := by rw [hW0]; simp; omega
  have k1 : W0.heap[N]? = some (.cells #[.int .i64 t, .int .i64 n, .int .i64 sq, .slice sp nl sc, .slice dp bl dc] 43 (0, 0)) := by
    rw [hW0, Below.heap_alloc _ _ _ (by simp; omega), ← hN]; exact heap_alloc_new w _
  have k2 : W0.heap[N + 1]? = some (.cells #[.int .i64 0, .int .i64 0, .int .i64 0, .slice none 0 0, .slice none 0 0] 43 (0, 0)) := by
    have := heap_alloc_new (w.alloc (.cells #[.int .i64 t, .int .i64 n, .int .i64 sq, .slice sp nl sc, .slice dp bl dc] 43)) (.cells #[.int .i64 0, .int .i64 0, .int .i64 0, .slice none 0 0, .slice none 0 0] 43)
    rw [← hW0] at this
    rwa [show (w.alloc (.cells #[.int .i64 t, .int .i64 n, .int .i64 sq, .slice sp nl sc, .slice dp bl dc] 43)).heap.size = N + 1 by simp; omega] at this
  have HW : Hid (W0 = (w.alloc (.cells #[.int .i64 t, .int .i64 n, .int .i64 sq, .slice sp nl sc, .slice dp bl dc] 43)).alloc (.cells #[.int .i64 0, .int .i64 0, .int .i64 0, .slice none 0 0, .slice none 0 0] 43)) := hW0
  have H0 : Hid (Below w.heap.size w W0 ∧ W0.heap.size = N + 2 ∧ W0.heap[N]? = some (.cells #[.int .i64 t, .int .i64 n, .int .i64 sq, .slice sp nl sc, .slice dp bl dc] 43 (0, 0)) ∧ W0.heap[N + 1]? = some (.cells #[.int .i64 0, .int .i64 0, .int .i64 0, .slice none 0 0, .slice none 0 0] 43 (0, 0))) := ⟨b0, s0, k1, k2⟩
  have HN : Hid (w.heap.size = N) := hN
  have d3 : ((w.alloc (.cells #[.int .i64 t, .int .i64 n, .int .i64 sq, .slice sp nl sc, .slice dp bl dc] 43)).alloc (.cells #[.int .i64 0, .int .i64 0, .int .i64 0, .slice none 0 0, .slice none 0 0] 43)).cell? ⟨w.heap.size, 3, none⟩ = some (.slice sp nl sc) := by rw [← hW0, hN]; exact cellOf k1 3
  clear hs hd hnl hbl hW0 b0 s0 k1 k2 hN
  have HML : Hid (ns.length = nl ∧ bs.length = bl) := ⟨hml, hmb⟩
  clear hml hmb
  go_enter Try.func33, Try.ntmps33
  go_wp2_with (first
    | (go_at_call 58; rw [← HW.out]; refine (HS.out _ H0.out.1).mono ?_; clear HS; rintro e w1 ⟨v1, rfl, ho1, hb1⟩
       obtain ⟨p1, c1, rfl⟩ := own_slice ho1
       have j1 : w1.heap[N]? = _ := (hb1.block N (by rw [H0.out.2.1]; omega)).trans H0.out.2.2.1
       have j2 : w1.heap[N + 1]? = _ := (hb1.block (N + 1) (by rw [H0.out.2.1]; omega)).trans H0.out.2.2.2
       have H1 : Hid (w1.ownsRow (N + 2) 2 1 (.slice p1 nl c1) nl (ns.map Cd.iv) ∧ Below w.heap.size w w1 ∧ N + 2 ≤ w1.heap.size) := ⟨by rw [← H0.out.2.1]; exact ho1, H0.out.1.trans (hb1.mono H0.out.1.size), by rw [← H0.out.2.1]; exact hb1.size⟩
       have J1 : Hid (w1.heap[N]? = some (.cells #[.int .i64 t, .int .i64 n, .int .i64 sq, .slice sp nl sc, .slice dp bl dc] 43 (0, 0)) ∧ w1.heap[N + 1]? = some (.cells #[.int .i64 0, .int .i64 0, .int .i64 0, .slice none 0 0, .slice none 0 0] 43 (0, 0))) := ⟨j1, j2⟩
       rw [HN.out]
       have f3 := frozenOf j1 3
       have e3 : w1.cell? ⟨N, 3, none⟩ = some (.slice sp nl sc) := cellOf j1 3
       have e4 : (w1.setCell ⟨N, 3, none⟩ (.slice p1 nl c1)).cell? ⟨N, 4, none⟩ = some (.slice dp bl dc) := cellOf (heap_set_same j1 _) 4
       clear j1 j2 ho1 hb1 d3)
    | (go_at_call 34; refine (HD.out _ ?_).mono ?_
       · exact H1.out.2.1.setCell (by rw [HN.out]; exact Nat.le_refl _) _
       clear HD; rintro e w2 ⟨v2, rfl, ho2, hb2⟩
       rw [HML.out.2] at ho2
       obtain ⟨p2, c2, rfl⟩ := own_slice ho2
       have HM2 := copy_mem HN.out H1.out J1.out ho2 hb2
       have H2 : Hid ((w2.ownsRow (N + 2) 2 1 (.slice p1 nl c1) nl (ns.map Cd.iv) ∧ w2.ownsRow (N + 2) 5 1 (.slice p2 bl c2) bl (bs.map Cd.u8v) ∧ Below w.heap.size w w2) ∧ (w2.setCell ⟨N, 4, none⟩ (.slice p2 bl c2)).heap[N]? = some (.cells #[.int .i64 t, .int .i64 n, .int .i64 sq, .slice p1 nl c1, .slice p2 bl c2] 43 (0, 0)) ∧ (w2.setCell ⟨N, 4, none⟩ (.slice p2 bl c2)).heap[N + 1]? = some (.cells #[.int .i64 0, .int .i64 0, .int .i64 0, .slice none 0 0, .slice none 0 0] 43 (0, 0))) := ⟨HM2.1, HM2.2.1, HM2.2.2.1⟩
       have q1 := HM2.2.1
       have q3 := HM2.2.2.1
       have g4 := HM2.2.2.2.1
       have g5 := HM2.2.2.2.2.1
       have H3 : Hid (∃ cs, w2.heap[N]? = some (.cells cs 43 (0, 0))) := HM2.2.2.2.2.2
       clear HM2
       have d0 : (w2.setCell ⟨N, 4, none⟩ (.slice p2 bl c2)).cell? ⟨N, 0, none⟩ = some (.int .i64 t) := cellOf q1 0
       have d1 : (w2.setCell ⟨N, 4, none⟩ (.slice p2 bl c2)).cell? ⟨N, 1, none⟩ = some (.int .i64 n) := cellOf q1 1
       have d2 : (w2.setCell ⟨N, 4, none⟩ (.slice p2 bl c2)).cell? ⟨N, 2, none⟩ = some (.int .i64 sq) := cellOf q1 2
       have d3 : (w2.setCell ⟨N, 4, none⟩ (.slice p2 bl c2)).cell? ⟨N, 3, none⟩ = some (.slice p1 nl c1) := cellOf q1 3
       have d4 : (w2.setCell ⟨N, 4, none⟩ (.slice p2 bl c2)).cell? ⟨N, 4, none⟩ = some (.slice p2 bl c2) := cellOf q1 4
       have z0 : (w2.setCell ⟨N, 4, none⟩ (.slice p2 bl c2)).cell? ⟨N + 1, 0, none⟩ = some (.int .i64 0) := cellOf q3 0
       have z1 : (w2.setCell ⟨N, 4, none⟩ (.slice p2 bl c2)).cell? ⟨N + 1, 1, none⟩ = some (.int .i64 0) := cellOf q3 1
       have z2 : (w2.setCell ⟨N, 4, none⟩ (.slice p2 bl c2)).cell? ⟨N + 1, 2, none⟩ = some (.int .i64 0) := cellOf q3 2
       have z3 : (w2.setCell ⟨N, 4, none⟩ (.slice p2 bl c2)).cell? ⟨N + 1, 3, none⟩ = some (.slice none 0 0) := cellOf q3 3
       have z4 : (w2.setCell ⟨N, 4, none⟩ (.slice p2 bl c2)).cell? ⟨N + 1, 4, none⟩ = some (.slice none 0 0) := cellOf q3 4
       have y0 := frozenOf q3 0
       have y1 := frozenOf q3 1
       have y2 := frozenOf q3 2
       have y3 := frozenOf q3 3
       have y4 := frozenOf q3 4
       clear q1 q3 ho2 hb2 f3 e4))
  obtain ⟨W, hW⟩ : ∃ W, W = set5 (w2.setCell ⟨N, 4, none⟩ (.slice p2 bl c2)) (N + 1) (.int .i64 t) (.int .i64 n) (.int .i64 sq) (.slice p1 nl c1) (.slice p2 bl c2) := ⟨_, rfl⟩
  have hc := set5_cells H2.out.2.2 (.int .i64 t) (.int .i64 n) (.int .i64 sq) (.slice p1 nl c1) (.slice p2 bl c2)
  rw [← hW] at hc
  obtain ⟨r0, r1, r2, r3, r4⟩ := hc
  have hO := (Only.setCell (S := fun k => k = N ∨ k = N + 1) w2 ⟨N, 4, none⟩ (.slice p2 bl c2) (.inl rfl)).trans (set5_only (w2.setCell ⟨N, 4, none⟩ (.slice p2 bl c2)) (N + 1) (.int .i64 t) (.int .i64 n) (.int .i64 sq) (.slice p1 nl c1) (.slice p2 bl c2)) (fun i hi => .inl (.inr hi))
  rw [← hW] at hO
  change bodyPost _ _ _ _ _ (set5 _ _ _ _ _ _ _)
  rw [← hW]
  refine bodyPost_ret (v := .agg #[.int .i64 t, .int .i64 n, .int .i64 sq, .slice p1 nl c1, .slice p2 bl c2]) (by simp [results, Try.results33, go_sem, r0, r1, r2, r3, r4]) rfl ?_
  have hard : Hard w2 (fun k => k = N ∨ k = N + 1) := by
    have e1 : w2.heap[N + 1]? = _ := (Below.heap_setCell w2 ⟨N, 4, none⟩ (.slice p2 bl c2) (N + 1) (by simp)).symm.trans H2.out.2.2
    obtain ⟨cs0, e0⟩ := H3.out
    rintro b (rfl | rfl) cs t ht
    · rw [e0] at ht; cases ht; decide
    · rw [e1] at ht; cases ht; decide
  refine ⟨p1, c1, p2, c2, rfl, VOwn.base (VOwn.kept ⟨?_, ?_, ?_, ?_⟩ hO hard) (show w.heap.size ≤ N + 2 by have := HN.out; omega), ?_⟩
  · show w2.ownsRow _ 2 1 (.slice p1 ns.length c1) ns.length _
    rw [HML.out.1]; exact H2.out.1.1
  · show w2.ownsRow _ 5 1 (.slice p2 bs.length c2) bs.length _
    rw [HML.out.2]; exact H2.out.1.2.1
  · exact HL.out.1
  · exact HL.out.2
  · have := HN.out
    exact H2.out.1.2.2.trans ((hO.below (B := N) (by have := H2.out.1.2.2.size; omega) (fun i hi => by omega)).mono (Nat.le_of_eq this))

theorem copy_any (x : VG) (w : World) (h : VIn w x) :
    Calls Try.prog 33 #[vgv x] w fun e w' => ∃ y : VG, e = .returned (vgv y) ∧ y.c = x.c ∧ VOwn w' w.heap.size y ∧ Below w.heap.size w w' := by
  refine (copy_in x.t x.n x.sq x.ns x.sp x.sc x.ns.length x.bs x.dp x.dc x.bs.length w rfl rfl h.seen h.nl h.data h.bl).mono ?_
  rintro e w' ⟨p1, c1, p2, c2, rfl, h1, h2⟩
  exact ⟨⟨x.t, x.n, x.sq, x.ns, p1, c1, x.bs, p2, c2⟩, rfl, rfl, h1, h2⟩

set_option maxRecDepth 8000 in
set_option maxHeartbeats 1000000 in
theorem of_in (t n sq kd ot on pt pn : Int) (nm : ByteArray) (ns : List Int) (sp : Option Addr) (sc nl : Nat) (bs : List (BitVec 8)) (dp : Option Addr) (dc bl : Nat) (w : World) (hml : ns.length = nl) (hmb : bs.length = bl)
    (hs : Cd.Lies w sp (ns.map Cd.iv)) (hnl : ns.length ≤ 1000000) (hd : Cd.Bytes w dp bs) (hbl : bs.length ≤ 1000000) :
    Calls Try.prog 18 #[.agg #[.int .i64 t, .int .i64 n, .int .i64 sq, .int .i64 kd, .int .i64 ot, .int .i64 on, .int .i64 pt, .int .i64 pn, .string nm, .slice dp bl dc, .slice sp nl sc]] w fun e w' => ∃ p1 c1 p2 c2, e = .returned (.agg #[.int .i64 t, .int .i64 n, .int .i64 sq, .slice p1 nl c1, .slice p2 bl c2]) ∧ VOwn w' w.heap.size ⟨t, n, sq, ns, p1, c1, bs, p2, c2⟩ ∧ Below w.heap.size w w' := by
  have HC : Hid (∀ W, Below w.heap.size w W → Calls Try.prog 33 #[.agg #[.int .i64 t, .int .i64 n, .int .i64 sq, .slice sp nl sc, .slice dp bl dc]] W fun e w' => ∃ p1 c1 p2 c2, e = .returned (.agg #[.int .i64 t, .int .i64 n, .int .i64 sq, .slice p1 nl c1, .slice p2 bl c2]) ∧ VOwn w' W.heap.size ⟨t, n, sq, ns, p1, c1, bs, p2, c2⟩ ∧ Below W.heap.size W w') := fun W hW => copy_in t n sq ns sp sc nl bs dp dc bl W hml hmb (Cd.below_lies hW hs) hnl (Cd.below_bytes hW hd) hbl
  obtain ⟨N, hN⟩ : ∃ N, w.heap.size = N := ⟨_, rfl⟩
  have HN : Hid (w.heap.size = N) := hN
  obtain ⟨W0, hW0⟩ : ∃ W0, W0 = (w.alloc (.cells #[.int .i64 t, .int .i64 n, .int .i64 sq, .int .i64 kd, .int .i64 ot, .int .i64 on, .int .i64 pt, .int .i64 pn, .string nm, .slice dp bl dc, .slice sp nl sc] 35)).alloc (.cells #[.int .i64 0, .int .i64 0, .int .i64 0, .slice none 0 0, .slice none 0 0] 43) := ⟨_, rfl⟩
  have b0 : Below w.heap.size w W0 := by rw [hW0]; exact (below_two w _ _).out
  have s0 : W0.heap.size = N + 2 := by rw [hW0]; simp; omega
  have k1 : W0.heap[N]? = some (.cells #[.int .i64 t, .int .i64 n, .int .i64 sq, .int .i64 kd, .int .i64 ot, .int .i64 on, .int .i64 pt, .int .i64 pn, .string nm, .slice dp bl dc, .slice sp nl sc] 35 (0, 0)) := by
    rw [hW0, Below.heap_alloc _ _ _ (by simp; omega), ← hN]; exact heap_alloc_new w _
  have k2 : W0.heap[N + 1]? = some (.cells #[.int .i64 0, .int .i64 0, .int .i64 0, .slice none 0 0, .slice none 0 0] 43 (0, 0)) := by
    have := heap_alloc_new (w.alloc (.cells #[.int .i64 t, .int .i64 n, .int .i64 sq, .int .i64 kd, .int .i64 ot, .int .i64 on, .int .i64 pt, .int .i64 pn, .string nm, .slice dp bl dc, .slice sp nl sc] 35)) (.cells #[.int .i64 0, .int .i64 0, .int .i64 0, .slice none 0 0, .slice none 0 0] 43)
    rw [← hW0] at this
    rwa [show (w.alloc (.cells #[.int .i64 t, .int .i64 n, .int .i64 sq, .int .i64 kd, .int .i64 ot, .int .i64 on, .int .i64 pt, .int .i64 pn, .string nm, .slice dp bl dc, .slice sp nl sc] 35)).heap.size = N + 1 by simp; omega] at this
  have HW : Hid (W0 = (w.alloc (.cells #[.int .i64 t, .int .i64 n, .int .i64 sq, .int .i64 kd, .int .i64 ot, .int .i64 on, .int .i64 pt, .int .i64 pn, .string nm, .slice dp bl dc, .slice sp nl sc] 35)).alloc (.cells #[.int .i64 0, .int .i64 0, .int .i64 0, .slice none 0 0, .slice none 0 0] 43)) := hW0
  have H0 : Hid (Below w.heap.size w W0 ∧ W0.heap.size = N + 2 ∧ W0.heap[N + 1]? = some (.cells #[.int .i64 0, .int .i64 0, .int .i64 0, .slice none 0 0, .slice none 0 0] 43 (0, 0))) := ⟨b0, s0, k2⟩
  have a0 := cellOf k1 0
  have a1 := cellOf k1 1
  have a2 := cellOf k1 2
  have a9 := cellOf k1 9
  have a10 := cellOf k1 10
  rw [hW0, ← hN] at a0 a1 a2 a9 a10
  have AA : ((w.alloc (.cells #[.int .i64 t, .int .i64 n, .int .i64 sq, .int .i64 kd, .int .i64 ot, .int .i64 on, .int .i64 pt, .int .i64 pn, .string nm, .slice dp bl dc, .slice sp nl sc] 35)).alloc (.cells #[.int .i64 0, .int .i64 0, .int .i64 0, .slice none 0 0, .slice none 0 0] 43)).cell? ⟨w.heap.size, 0, none⟩ = some (.int .i64 t) ∧ ((w.alloc (.cells #[.int .i64 t, .int .i64 n, .int .i64 sq, .int .i64 kd, .int .i64 ot, .int .i64 on, .int .i64 pt, .int .i64 pn, .string nm, .slice dp bl dc, .slice sp nl sc] 35)).alloc (.cells #[.int .i64 0, .int .i64 0, .int .i64 0, .slice none 0 0, .slice none 0 0] 43)).cell? ⟨w.heap.size, 1, none⟩ = some (.int .i64 n) ∧ ((w.alloc (.cells #[.int .i64 t, .int .i64 n, .int .i64 sq, .int .i64 kd, .int .i64 ot, .int .i64 on, .int .i64 pt, .int .i64 pn, .string nm, .slice dp bl dc, .slice sp nl sc] 35)).alloc (.cells #[.int .i64 0, .int .i64 0, .int .i64 0, .slice none 0 0, .slice none 0 0] 43)).cell? ⟨w.heap.size, 2, none⟩ = some (.int .i64 sq) ∧ ((w.alloc (.cells #[.int .i64 t, .int .i64 n, .int .i64 sq, .int .i64 kd, .int .i64 ot, .int .i64 on, .int .i64 pt, .int .i64 pn, .string nm, .slice dp bl dc, .slice sp nl sc] 35)).alloc (.cells #[.int .i64 0, .int .i64 0, .int .i64 0, .slice none 0 0, .slice none 0 0] 43)).cell? ⟨w.heap.size, 9, none⟩ = some (.slice dp bl dc) ∧ ((w.alloc (.cells #[.int .i64 t, .int .i64 n, .int .i64 sq, .int .i64 kd, .int .i64 ot, .int .i64 on, .int .i64 pt, .int .i64 pn, .string nm, .slice dp bl dc, .slice sp nl sc] 35)).alloc (.cells #[.int .i64 0, .int .i64 0, .int .i64 0, .slice none 0 0, .slice none 0 0] 43)).cell? ⟨w.heap.size, 10, none⟩ = some (.slice sp nl sc) := ⟨a0, a1, a2, a9, a10⟩
  clear a0 a1 a2 a9 a10
  obtain ⟨a0, a1, a2, a9, a10⟩ := AA
  clear hml hmb hs hnl hd hbl hW0 b0 s0 k1 k2 hN
  go_enter Try.func18, Try.ntmps18
  go_wp2_with (go_at_call 33; rw [← HW.out]; refine (HC.out _ H0.out.1).mono ?_; clear HC; rintro e w1 ⟨p1, c1, p2, c2, rfl, ho1, hb1⟩
               have j2 : w1.heap[N + 1]? = _ := (hb1.block (N + 1) (by rw [H0.out.2.1]; omega)).trans H0.out.2.2
               rw [H0.out.2.1] at ho1
               have H1 : Hid (VOwn w1 (N + 2) ⟨t, n, sq, ns, p1, c1, bs, p2, c2⟩ ∧ Below w.heap.size w w1 ∧ w1.heap[N + 1]? = some (.cells #[.int .i64 0, .int .i64 0, .int .i64 0, .slice none 0 0, .slice none 0 0] 43 (0, 0))) := ⟨ho1, H0.out.1.trans (hb1.mono H0.out.1.size), j2⟩
               rw [HN.out]
               have z0 : w1.cell? ⟨N + 1, 0, none⟩ = some (.int .i64 0) := cellOf j2 0
               have z1 : w1.cell? ⟨N + 1, 1, none⟩ = some (.int .i64 0) := cellOf j2 1
               have z2 : w1.cell? ⟨N + 1, 2, none⟩ = some (.int .i64 0) := cellOf j2 2
               have z3 : w1.cell? ⟨N + 1, 3, none⟩ = some (.slice none 0 0) := cellOf j2 3
               have z4 : w1.cell? ⟨N + 1, 4, none⟩ = some (.slice none 0 0) := cellOf j2 4
               have y0 := frozenOf j2 0
               have y1 := frozenOf j2 1
               have y2 := frozenOf j2 2
               have y3 := frozenOf j2 3
               have y4 := frozenOf j2 4
               clear j2 ho1 hb1 a0 a1 a2 a9 a10)
  obtain ⟨W, hW⟩ : ∃ W, W = set5 w1 (N + 1) (.int .i64 t) (.int .i64 n) (.int .i64 sq) (.slice p1 nl c1) (.slice p2 bl c2) := ⟨_, rfl⟩
  have hc := set5_cells H1.out.2.2 (.int .i64 t) (.int .i64 n) (.int .i64 sq) (.slice p1 nl c1) (.slice p2 bl c2)
  rw [← hW] at hc
  obtain ⟨r0, r1, r2, r3, r4⟩ := hc
  have hO := set5_only w1 (N + 1) (.int .i64 t) (.int .i64 n) (.int .i64 sq) (.slice p1 nl c1) (.slice p2 bl c2)
  rw [← hW] at hO
  change bodyPost _ _ _ _ _ (set5 _ _ _ _ _ _ _)
  rw [← hW]
  refine bodyPost_ret (v := .agg #[.int .i64 t, .int .i64 n, .int .i64 sq, .slice p1 nl c1, .slice p2 bl c2]) (by simp [results, Try.results18, go_sem, r0, r1, r2, r3, r4]) rfl ?_
  have hard : Hard w1 (fun k => k = N + 1) := by
    rintro b rfl cs t ht
    rw [H1.out.2.2] at ht; cases ht; decide
  refine ⟨p1, c1, p2, c2, rfl, VOwn.base (VOwn.kept H1.out.1 hO hard) (show w.heap.size ≤ N + 2 by have := HN.out; omega), ?_⟩
  have := HN.out
  exact H1.out.2.1.trans ((hO.below (B := N) (by have := H1.out.2.1.size; omega) (fun i hi => by omega)).mono (Nat.le_of_eq this))

end Go.Proofs.Yteimjkicinjcgaa.Ck.Y.L
