import Derived.Test.YthhakekbffembaaGreatDoorQAe

namespace Go.Proofs.YthhakekbffembaaGreatDoor.Ck.Sh
open Go.RowKit Go.Lib Go.Maps
attribute [local go_sem] Oper.semAt_some
def Ids (w : World) (p : Option Addr) (ids : List (Int × Int)) : Prop := ∀ (j : Nat) (x : Int × Int), ids[j]? = some x → ∃ g o, p = some ⟨g, o, none⟩ ∧ w.cell? ⟨g, o + j * 2, none⟩ = some (.int .i64 x.1) ∧ w.cell? ⟨g, o + j * 2 + 1, none⟩ = some (.int .i64 x.2)
def Nms (w : World) (p : Option Addr) (names : List (List UInt8)) : Prop := ∀ (j : Nat) (x : List UInt8), names[j]? = some x → ∃ g o, p = some ⟨g, o, none⟩ ∧ w.cell? ⟨g, o + j, none⟩ = some (.string (bas x))
theorem Ids.below {w w' : World} {p : Option Addr} {ids : List (Int × Int)} (h : Ids w p ids) (hb : Below w.heap.size w w') : Ids w' p ids := fun j x hx => by
 obtain ⟨g, o, e, h1, h2⟩ := h j x hx
 exact ⟨g, o, e, cell_kept h1 hb, cell_kept h2 hb⟩
theorem Nms.below {w w' : World} {p : Option Addr} {names : List (List UInt8)} (h : Nms w p names) (hb : Below w.heap.size w w') : Nms w' p names := fun j x hx => by
 obtain ⟨g, o, e, h1⟩ := h j x hx
 exact ⟨g, o, e, cell_kept h1 hb⟩
theorem idA_of {ids : List (Int × Int)} {i : Nat} (h : i < ids.length) : ids[i]? = some (idA ids i) := by
 unfold idA
 rw [List.getD, List.getElem?_eq_getElem h]; rfl
theorem nmA_of {names : List (List UInt8)} {i : Nat} (h : i < names.length) : names[i]? = some (nmA names i) := by
 unfold nmA
 rw [List.getD, List.getElem?_eq_getElem h]; rfl
theorem map_new (w : World) : MapS (w.alloc (.map #[] 0)) w.heap.size [] := ⟨#[], 0, heap_alloc_new w _, rfl⟩
theorem below_only {w0 w w' : World} {b : Nat} (h : Below w0.heap.size w0 w) (ho : Only (· = b) w w') (hb : w0.heap.size ≤ b) : Below w0.heap.size w0 w' :=
 ⟨ho.os.trans h.os, ho.tape.trans h.tape, ho.output.trans h.output, Nat.le_trans h.size ho.size, fun i hi => (ho.block i (Nat.lt_of_lt_of_le hi h.size) (by omega)).trans (h.block i hi)⟩
theorem wpList_putS {w : World} {ops : Array Oper} {rest : List Oper} {o : Oper} {a : Act} {Q : Exit → Act → World → Prop} (hgd : o.guard = none) (m x y : Operand) (ho : o.op = .mapUpdate 174 m x y)
   (mb j : Nat) (q : List UInt8) (E : List (List UInt8 × Nat)) (hm : a.eval m = .map (some mb)) (hx : a.eval x = .string (bas q)) (hy : a.eval y = .int .i64 (j : Nat)) (h : Hid (MapS w mb E)) (hK : ∀ w' E', Hid (MapS w' mb E' ∧ (∀ x, atS E' x = if x = q then some j else atS E x) ∧ Only (· = mb) w w') → wpList Tryz.prog ops Q rest (a.put o.dst undef) w') : wpList Tryz.prog ops Q (o :: rest) a w := by
 obtain ⟨W, E', hr, h1, h2, h3, _⟩ := putS h.out q j
 refine wpList_plain hgd fun K hK' => ?_
 unfold Oper.wp execOp
 simp only [ho, hm, hx, hy, Sem.run_bind, Sem.run_pure, Result.andThen_ok, hr]
 exact hK' _ _ (hK W E' ⟨h1, h2, h3⟩)
set_option maxRecDepth 8000 in
set_option maxRecDepth 8000 in
set_option maxHeartbeats 2000000 in
theorem first_any (ids : List (Int × Int)) (names : List (List UInt8)) (p1 p2 : Option Addr) (n c1 c2 : Nat) (w : World) (h1 : Ids w p1 ids) (h2 : Nms w p2 names) (hn1 : n ≤ ids.length) (hn2 : n ≤ names.length) (hn : n < 1000000000000000) :
   Calls Tryz.prog 124 #[.slice p1 n c1, .slice p2 n c2] w fun e w' => ∃ E, e = .returned (.map (some w.heap.size)) ∧ Hid (MapS w' w.heap.size E ∧ FirstI ids names n E ∧ Below w.heap.size w w') := by
 have hmm := @run_makeMap Tryz.prog
 have H1 := Lib.hid h1
 have H2 := Lib.hid h2
 clear h1 h2
 go_enter Tryz.func124, Tryz.ntmps124
 go_wp2_with fail
 go_loopw [13] (fun ii wr => ∃ (i : Nat) (E : List (List UInt8 × Nat)), ii = .int .i64 i ∧ i ≤ n ∧ Hid (MapS wr w.heap.size E ∧ FirstI ids names i E ∧ Below w.heap.size w wr)) (fun ii _ => n - (RowKit.intOf ii).toNat)
 case atStart => exact ⟨0, [], rfl, Nat.zero_le _, map_new w, FirstI.nil _ _, (below_new w _).out⟩
 case round =>
   obtain ⟨i, E, rfl, hi, HI⟩ := hrel
   by_cases hlt : i < n
   · have hltI : (i : Int) < (n : Int) := by omega
     obtain ⟨g2, o2, rfl, hc2⟩ := (H2.out.below HI.out.2.2) i _ (nmA_of (by omega))
     obtain ⟨g1, o1, rfl, hc1, hc1'⟩ := (H1.out.below HI.out.2.2) i _ (idA_of (by omega))
     have HP : Hid (∀ p, p < n → wr.cell? ⟨g1, o1 + p * 2, none⟩ = some (.int .i64 (idA ids p).1) ∧ wr.cell? ⟨g1, o1 + p * 2 + 1, none⟩ = some (.int .i64 (idA ids p).2)) := fun p hp => by
       obtain ⟨g, o, e, h1, h2⟩ := (H1.out.below HI.out.2.2) p _ (idA_of (by omega))
       cases e
       exact ⟨h1, h2⟩
     have hlk := look_ok HI.out.1 (nmA names i)
     cases hq : atS E (nmA names i) with
     | none =>
       rw [hq] at hlk
       have hlk' : (Instr.lookup 174 (.map (some w.heap.size)) (.string (bas (nmA names i))) true).run Tryz.prog wr = .ok (.tuple #[.int .i64 0, .bool false]) wr := hlk
       have HQ := Lib.hid hq
       clear hlk hq
       go_wp2_with fail
       go_quiet (fail)
       go_wp2_with (refine wpList_putS rfl _ _ _ rfl w.heap.size i (nmA names i) E rfl rfl rfl (Lib.hid HI.out.1) ?_; intro w4 E' H4)
       exact ⟨⟨i + 1, E', by simp, by omega, H4.out.1, HI.out.2.1.put H4.out.2.1 (fun p hp => by rw [HQ.out] at hp; cases hp), below_only (below_then HI.out.2.2 (below_drewN wr _)) H4.out.2.2 (Nat.le_refl _)⟩, by simp [RowKit.intOf]; omega⟩
     | some p =>
       rw [hq] at hlk
       have hlk' : (Instr.lookup 174 (.map (some w.heap.size)) (.string (bas (nmA names i))) true).run Tryz.prog wr = .ok (.tuple #[.int .i64 (p : Nat), .bool true]) wr := hlk
       have hpn : p < n := by
         have := HI.out.2.1 (nmA names i)
         rw [hq] at this
         have := this.1
         omega
       have hpI : (p : Int) < (n : Int) := by omega
       obtain ⟨hcp, hcp'⟩ := HP.out p hpn
       have cl := fun W => less_any (idA ids i).1 (idA ids i).2 (idA ids p).1 (idA ids p).2 W
       have HLE : Hid (lessB (idA ids i).1 (idA ids i).2 (idA ids p).1 (idA ids p).2 = lsA (idA ids i) (idA ids p)) := rfl
       have HQ := Lib.hid hq
       rw [HLE.out] at cl
       clear hlk hq HP
       obtain ⟨t, ht⟩ : ∃ t, (idA ids i).1 = t := ⟨_, rfl⟩
       obtain ⟨u, hu⟩ : ∃ u, (idA ids i).2 = u := ⟨_, rfl⟩
       obtain ⟨t', ht'⟩ : ∃ t', (idA ids p).1 = t' := ⟨_, rfl⟩
       obtain ⟨u', hu'⟩ : ∃ u', (idA ids p).2 = u' := ⟨_, rfl⟩
       rw [ht, hu, ht', hu'] at cl
       rw [ht] at hc1
       rw [hu] at hc1'
       rw [ht'] at hcp
       rw [hu'] at hcp'
       clear ht hu ht' hu' HLE
       have HS : ∀ W W', (W.cell? ⟨g1, o1 + i * 2, none⟩ = some (.int .i64 t) ∧ W.cell? ⟨g1, o1 + i * 2 + 1, none⟩ = some (.int .i64 u) ∧ W.cell? ⟨g1, o1 + p * 2, none⟩ = some (.int .i64 t') ∧ W.cell? ⟨g1, o1 + p * 2 + 1, none⟩ = some (.int .i64 u') ∧ Hid (Below wr.heap.size wr W)) → Hid (Below W.heap.size W W') → W'.cell? ⟨g1, o1 + i * 2, none⟩ = some (.int .i64 t) ∧ W'.cell? ⟨g1, o1 + i * 2 + 1, none⟩ = some (.int .i64 u) ∧ W'.cell? ⟨g1, o1 + p * 2, none⟩ = some (.int .i64 t') ∧ W'.cell? ⟨g1, o1 + p * 2 + 1, none⟩ = some (.int .i64 u') ∧ Hid (Below wr.heap.size wr W') := fun W W' h1 h2 =>
         have hb := below_then h1.2.2.2.2.out h2.out
         ⟨cell_kept hc1 hb, cell_kept hc1' hb, cell_kept hcp hb, cell_kept hcp' hb, hb⟩
       have S1 : wr.drew.cell? ⟨g1, o1 + i * 2, none⟩ = some (.int .i64 t) ∧ wr.drew.cell? ⟨g1, o1 + i * 2 + 1, none⟩ = some (.int .i64 u) ∧ wr.drew.cell? ⟨g1, o1 + p * 2, none⟩ = some (.int .i64 t') ∧ wr.drew.cell? ⟨g1, o1 + p * 2 + 1, none⟩ = some (.int .i64 u') ∧ Hid (Below wr.heap.size wr wr.drew) := ⟨hc1, hc1', hcp, hcp', below_drewN wr 1⟩
       have S2 : wr.cell? ⟨g1, o1 + i * 2, none⟩ = some (.int .i64 t) ∧ wr.cell? ⟨g1, o1 + i * 2 + 1, none⟩ = some (.int .i64 u) ∧ wr.cell? ⟨g1, o1 + p * 2, none⟩ = some (.int .i64 t') ∧ wr.cell? ⟨g1, o1 + p * 2 + 1, none⟩ = some (.int .i64 u') ∧ Hid (Below wr.heap.size wr wr) := ⟨hc1, hc1', hcp, hcp', Below.refl _ _⟩
       have HF : ∀ W, (W.cell? ⟨g1, o1 + i * 2, none⟩ = some (.int .i64 t) ∧ W.cell? ⟨g1, o1 + i * 2 + 1, none⟩ = some (.int .i64 u) ∧ W.cell? ⟨g1, o1 + p * 2, none⟩ = some (.int .i64 t') ∧ W.cell? ⟨g1, o1 + p * 2 + 1, none⟩ = some (.int .i64 u') ∧ Hid (Below wr.heap.size wr W)) → Below wr.heap.size wr W := fun W hW => hW.2.2.2.2.out
       cases hls : lsA (idA ids i) (idA ids p) with
       | true =>
         rw [hls] at cl
         have HLS := Lib.hid hls
         clear hls
         go_wp2_with fail
         go_region_held3 (fun W => W.cell? ⟨g1, o1 + i * 2, none⟩ = some (.int .i64 t) ∧ W.cell? ⟨g1, o1 + i * 2 + 1, none⟩ = some (.int .i64 u) ∧ W.cell? ⟨g1, o1 + p * 2, none⟩ = some (.int .i64 t') ∧ W.cell? ⟨g1, o1 + p * 2 + 1, none⟩ = some (.int .i64 u') ∧ Hid (Below wr.heap.size wr W))
           (first | exact S1 | exact S2 | assumption | exact HS _ _ (by assumption) (by assumption))
           (first | (go_at_call 167; refine Calls_new (cl _) ?_; intro w3 HB3))
         have HW := Lib.hid (HF _ (by assumption))
         have HM := Lib.hid (HI.out.1.below HW.out)
         go_wp2_with (refine wpList_putS rfl _ _ _ rfl w.heap.size i (nmA names i) E rfl rfl rfl HM ?_; intro w4 E' H4)
         exact ⟨⟨i + 1, E', by simp, by omega, H4.out.1, HI.out.2.1.put H4.out.2.1 (fun p' hp' => by rw [HQ.out] at hp'; injection hp' with hp'; subst hp'; exact HLS.out), below_only (below_then HI.out.2.2 HW.out) H4.out.2.2 (Nat.le_refl _)⟩, by simp [RowKit.intOf]; omega⟩
       | false =>
         rw [hls] at cl
         have HLS := Lib.hid hls
         clear hls
         go_wp2_with fail
         go_region_held3 (fun W => W.cell? ⟨g1, o1 + i * 2, none⟩ = some (.int .i64 t) ∧ W.cell? ⟨g1, o1 + i * 2 + 1, none⟩ = some (.int .i64 u) ∧ W.cell? ⟨g1, o1 + p * 2, none⟩ = some (.int .i64 t') ∧ W.cell? ⟨g1, o1 + p * 2 + 1, none⟩ = some (.int .i64 u') ∧ Hid (Below wr.heap.size wr W))
           (first | exact S1 | exact S2 | assumption | exact HS _ _ (by assumption) (by assumption))
           (first | (go_at_call 167; refine Calls_new (cl _) ?_; intro w3 HB3))
         have HW := Lib.hid (HF _ (by assumption))
         go_wp2_with fail
         exact ⟨⟨i + 1, E, by simp, by omega, HI.out.1.below HW.out, HI.out.2.1.stay HQ.out HLS.out, below_then HI.out.2.2 HW.out⟩, by simp [RowKit.intOf]; omega⟩
   · obtain rfl : i = n := by omega
     go_wp2_with fail
     go_ret
     exact ⟨E, rfl, HI⟩
end Go.Proofs.YthhakekbffembaaGreatDoor.Ck.Sh

namespace Go.Proofs.YthhakekbffembaaGreatDoor.Ck.Sh
open Go.RowKit Go.Lib Go.Maps
attribute [local go_sem] Oper.semAt_some
def ShI (w : World) (gs n i : Nat) (f : Nat → List UInt8) : Prop := ∃ cur, w.heap[gs]? = some (.cells cur 9 (0, 0)) ∧ cur.size = n ∧ ∀ j, j < i → cur[j]? = some (.string (bas (f j)))
theorem ShI.below {w w' : World} {gs n i : Nat} {f : Nat → List UInt8} (h : ShI w gs n i f) (hb : Below w.heap.size w w') : ShI w' gs n i f := by
 obtain ⟨cur, h1, h2⟩ := h
 exact ⟨cur, (hb.block gs (block_lt h1)).trans h1, h2⟩
theorem ShI.put {w : World} {gs n i : Nat} {f : Nat → List UInt8} (h : ShI w gs n i f) (hi : i < n) : ShI (w.setCell ⟨gs, i, none⟩ (.string (bas (f i)))) gs n (i + 1) f := by
 obtain ⟨cur, h1, h2, h3⟩ := h
 refine ⟨_, heap_set_same h1 _, by simp [h2], fun j hj => ?_⟩
 rw [Array.getElem?_setIfInBounds]
 by_cases hji : i = j
 · subst hji; simp [h2, hi]
 · rw [if_neg hji]; exact h3 j (by omega)
theorem ShI.cell {w : World} {gs n i : Nat} {f : Nat → List UInt8} (h : ShI w gs n i f) {j : Nat} (hj : j < n) : ∃ v, w.cell? ⟨gs, j, none⟩ = some v := by
 obtain ⟨cur, h1, h2, h3⟩ := h
 exact ⟨_, (cellOf h1 j).trans (Array.getElem?_eq_getElem (by omega))⟩
theorem ShI.fz {w : World} {gs n i : Nat} {f : Nat → List UInt8} (h : ShI w gs n i f) (j : Nat) : w.frozen? ⟨gs, j, none⟩ = false := by
 obtain ⟨cur, h1, h2, h3⟩ := h
 exact frozenOf h1 j
theorem ShI.nms {w : World} {gs n : Nat} {ids : List (Int × Int)} {names : List (List UInt8)} (h : ShI w gs n n (shownAt ids names n)) : Nms w (some ⟨gs, 0, none⟩) (shownL ids names n) := fun j x hx => by
 obtain ⟨cur, h1, h2, h3⟩ := h
 unfold shownL at hx
 rw [List.getElem?_map] at hx
 have hj : j < n := by
   by_cases hj : j < n
   · exact hj
   · rw [List.getElem?_eq_none (by simp; omega)] at hx; cases hx
 rw [List.getElem?_range hj] at hx
 simp only [Option.map_some, Option.some.injEq] at hx
 refine ⟨gs, 0, rfl, ?_⟩
 rw [Nat.zero_add, cellOf h1 j, h3 j hj, hx]
set_option maxRecDepth 8000 in
set_option maxRecDepth 8000 in
set_option maxHeartbeats 2000000 in
theorem shown_row (ids : List (Int × Int)) (names : List (List UInt8)) (p1 p2 : Option Addr) (c1 c2 : Nat) (w : World) (hL : Lb w) (h1 : Ids w p1 ids) (h2 : Nms w p2 names) (hc1 : ids.length ≤ c1) (hc2 : names.length ≤ c2) (hn1 : ids.length < 1000000000000) (hid : ∀ x ∈ ids, InI x.1 ∧ InI x.2) (hnm : ∀ x ∈ names, x.length ≤ 150000000000000) :
   Calls Tryz.prog 89 #[.slice p1 ids.length c1, .slice p2 names.length c2] w fun e w' => ∃ gs, e = .returned (.slice (some ⟨gs, 0, none⟩) (min ids.length names.length) (min ids.length names.length)) ∧ Hid (ShI w' gs (min ids.length names.length) (min ids.length names.length) (shownAt ids names (min ids.length names.length)) ∧ w.heap.size ≤ gs ∧ Below w.heap.size w w') := by
 obtain ⟨n, hn⟩ : ∃ n, min ids.length names.length = n := ⟨_, rfl⟩
 rw [hn]
 have l1 : n ≤ ids.length := by omega
 have l2 : n ≤ names.length := by omega
 have hnI : min (ids.length : Int) (names.length : Int) = (n : Int) := by omega
 have cf := fun W (hb : Below w.heap.size w W) => first_any ids names p1 p2 n c1 c2 W (h1.below hb) (h2.below hb) l1 l2 (by omega)
 have HL := Lib.hid hL
 have H1 := Lib.hid h1
 have H2 := Lib.hid h2
 clear hL h1 h2 hn
 have lI1 : (n : Int) ≤ (ids.length : Int) := by omega
 have lI2 : (n : Int) ≤ (names.length : Int) := by omega
 have k1 : n ≤ c1 := by omega
 have k2 : n ≤ c2 := by omega
 obtain ⟨L1, hl1⟩ : ∃ L1, ids.length = L1 := ⟨_, rfl⟩
 obtain ⟨L2, hl2⟩ : ∃ L2, names.length = L2 := ⟨_, rfl⟩
 have hnn : n < 10000000000000 := by omega
 rw [hl1] at hnI lI1 l1 ⊢
 rw [hl2] at hnI lI2 l2 ⊢
 have HQ := Lib.hid (And.intro hl1 hl2)
 clear hc1 hc2 hn1 hl1 hl2
 go_enter Tryz.func89, Tryz.ntmps89
 go_wp2_with fail
 have S1 : Hid (Below w.heap.size w w.drew) := below_drewN w 1
 have S2 : Hid (Below w.heap.size w w) := Below.refl _ _
 have HS : ∀ W, Hid (Below w.heap.size w W) → Hid (Below w.heap.size w W) := fun _ h => h
 go_region_held3 (fun W => Hid (Below w.heap.size w W))
   (first | exact S1 | exact S2 | assumption | exact HX.out.2)
   (first | (go_at_call 124; refine (cf _ (Hid.out (by assumption))).mono ?_; rintro e w3 ⟨E, rfl, HE⟩; have HX := Lib.hid (And.intro HE.out.1 (below_then S1.out HE.out.2.2))))
 have HB3 := Lib.hid (below_then S1.out HE.out.2.2)
 have HF := Lib.hid HE.out.2.1
 have HM3 := Lib.hid HE.out.1
 clear HX HE HS cf S1 S2
 obtain ⟨i0, hi0, hz0, hz1, hz2⟩ := ti_str.info
 obtain ⟨M, hM⟩ : ∃ M, M = madeCells (Value.string ⟨#[]⟩).cells (((n : Nat) : Int).toNat * i0.size) := ⟨_, rfl⟩
 have hMs : M.size = n := by rw [hM, size_madeCells, hz1]; simp
 have hmk : ∀ W : World, (Instr.makeSlice 53 (.int .i64 (n : Int)) (.int .i64 (n : Int))).run Tryz.prog W = .ok (.slice (some ⟨W.heap.size, 0, none⟩) n n) (W.alloc (.cells M 9)) := fun W => by
   have h := run_make (P := Tryz.prog) W 53 9 i0 (.string ⟨#[]⟩) Tryz.underlying53 hi0 hz0 .i64 .i64 (n : Int) (n : Int) (by omega) (by omega) (by rw [hz2]; omega) (by omega)
   rw [← hM] at h
   simpa using h
 obtain ⟨gs, hgs⟩ : ∃ gs, w3.heap.size = gs := ⟨_, rfl⟩
 have HM0 : Hid (ShI (w3.alloc (.cells M 9)) gs n 0 (shownAt ids names n)) := ⟨M, by rw [← hgs]; exact heap_alloc_new w3 _, hMs, fun j hj => by omega⟩
 have hgs1 : Hid (w.heap.size < gs) := by rw [← hgs]; exact HM3.out.lt
 have HG := Lib.hid hgs
 clear hM hMs hz0 hz1 hz2 hi0 hgs
 go_wp2_with fail
 rw [HG.out]
 go_loopw [28] (fun ii wr => ∃ (i : Nat), ii = .int .i64 i ∧ i ≤ n ∧ Hid (ShI wr gs n i (shownAt ids names n) ∧ MapS wr w.heap.size E ∧ Below w.heap.size w wr)) (fun ii _ => n - (RowKit.intOf ii).toNat)
 case atStart => exact ⟨0, rfl, Nat.zero_le _, HM0.out, HM3.out.below (below_new w3 _).out, below_then HB3.out (below_new w3 _).out⟩
 case round =>
   obtain ⟨i, rfl, hi, HI⟩ := hrel
   by_cases hlt : i < n
   · have hltI : (i : Int) < (n : Int) := by omega
     obtain ⟨g2, o2, rfl, hcn⟩ := (H2.out.below HI.out.2.2) i _ (nmA_of (by rw [HQ.out.2]; omega))
     have hlk := look_plain HI.out.2.1 (nmA names i)
     have hkp := HF.out.keeps hlt
     obtain ⟨v0, hv0⟩ := HI.out.1.cell hlt
     obtain ⟨k, hk⟩ : ∃ k, (atS E (nmA names i)).getD 0 = k := ⟨_, rfl⟩
     rw [hk] at hlk hkp
     clear hk
     have hlen : (nmA names i).length ≤ 150000000000000 := hnm _ (List.mem_of_getElem? (nmA_of (by rw [HQ.out.2]; omega)))
     by_cases hki : k = i
     · have hsh : shownAt ids names n i = nmA names i := by
         unfold shownAt
         rw [if_pos]
         rw [← hkp]; exact decide_eq_true hki
       have ck := fun W => sclone_any (bas (nmA names i)) W (by rw [bas_size]; omega)
       rw [← hsh] at ck hcn hlk
       have HSH := Lib.hid hsh
       subst hki
       generalize nmA names k = nm at *
       clear hsh hkp hlen
       generalize hfi : shownAt ids names n k = fi at *
       go_wp2_with (go_at_call 106; refine (ck _).mono ?_; rintro e w4 ⟨rfl, hb4⟩; have q1 := HI.out.1.below hb4; obtain ⟨v1, hv1⟩ := q1.cell hlt; have hf1 := q1.fz k; have HQ1 := Lib.hid q1; have HB4 := Lib.hid hb4; clear hb4 q1 ck)
       exact ⟨⟨k + 1, by simp, by omega, by rw [← hfi]; exact HQ1.out.put hlt, (HI.out.2.1.below HB4.out).kept (Only.setCell (S := (· = gs)) _ _ _ rfl) (by have := hgs1.out; omega), below_set (below_then HI.out.2.2 HB4.out) (by have := hgs1.out; omega)⟩, by simp [RowKit.intOf]; omega⟩
     · have hkI : ((k : Int) == (i : Int)) = false := by rw [beq_eq_false_iff_ne]; omega
       have hkJ : ¬ (k : Int) = (i : Int) := by omega
       have hia := idA_of (ids := ids) (i := i) (by rw [HQ.out.1]; omega)
       obtain ⟨g1, o1, rfl, hq1, hq2⟩ := (H1.out.below HI.out.2.2) i _ hia
       have hid' := hid _ (List.mem_of_getElem? hia)
       have hsh : shownAt ids names n i = nmA names i ++ sufL (idA ids i).1 (idA ids i).2 := by
         unfold shownAt
         rw [if_neg]
         rw [← hkp, decide_eq_false hki]; decide
       have cs := fun W (hW : Lb W) => suffix_any (idA ids i).1 (idA ids i).2 hid'.1 hid'.2 W hW
       have ls : (sufL (idA ids i).1 (idA ids i).2).length ≤ 100 := by
         have a1 := Lib.itoa_length_le (idA ids i).1 hid'.1.1 hid'.1.2
         have a2 := Lib.itoa_length_le (idA ids i).2 hid'.2.1 hid'.2.2
         unfold sufL
         simp
         omega
       generalize sufL (idA ids i).1 (idA ids i).2 = sf at hsh cs ls
       generalize hfi : shownAt ids names n i = fi at *
       have az : ∀ W, (Op.stringOp .add (bas (nmA names i)) (bas sf)).run Tryz.prog W = .ok (.string (bas fi)) W := fun W => by rw [hsh]; exact cat_run _ sf W (by omega)
       generalize nmA names i = nm at *
       obtain ⟨t, ht⟩ : ∃ t, (idA ids i).1 = t := ⟨_, rfl⟩
       obtain ⟨u, hu⟩ : ∃ u, (idA ids i).2 = u := ⟨_, rfl⟩
       rw [ht] at hq1 cs
       rw [hu] at hq2 cs
       clear hsh hkp hlen hki ht hu hid' hia ls hid hnm
       go_wp2_with (go_at_call 122; refine (cs _ (HL.out.below HI.out.2.2)).mono ?_; rintro e w4 ⟨rfl, hb4⟩; have q1 := HI.out.1.below hb4; obtain ⟨v1, hv1⟩ := q1.cell hlt; have hf1 := q1.fz i; have HQ1 := Lib.hid q1; have HB4 := Lib.hid hb4; clear hb4 q1 cs)
       exact ⟨⟨i + 1, by simp, by omega, by rw [← hfi]; exact HQ1.out.put hlt, (HI.out.2.1.below HB4.out).kept (Only.setCell (S := (· = gs)) _ _ _ rfl) (by have := hgs1.out; omega), below_set (below_then HI.out.2.2 HB4.out) (by have := hgs1.out; omega)⟩, by simp [RowKit.intOf]; omega⟩
   · obtain rfl : i = n := by omega
     go_wp2_with fail
     go_ret
     exact ⟨gs, rfl, HI.out.1, Nat.le_of_lt hgs1.out, HI.out.2.2⟩
theorem shown_any (ids : List (Int × Int)) (names : List (List UInt8)) (p1 p2 : Option Addr) (c1 c2 : Nat) (w : World) (hL : Lb w) (h1 : Ids w p1 ids) (h2 : Nms w p2 names) (hc1 : ids.length ≤ c1) (hc2 : names.length ≤ c2) (hn1 : ids.length < 1000000000000) (hid : ∀ x ∈ ids, InI x.1 ∧ InI x.2) (hnm : ∀ x ∈ names, x.length ≤ 150000000000000) :
   Calls Tryz.prog 89 #[.slice p1 ids.length c1, .slice p2 names.length c2] w fun e w' => ∃ p, e = .returned (.slice p (min ids.length names.length) (min ids.length names.length)) ∧ Hid (Nms w' p (shownL ids names (min ids.length names.length)) ∧ Below w.heap.size w w') := by
 refine (shown_row ids names p1 p2 c1 c2 w hL h1 h2 hc1 hc2 hn1 hid hnm).mono ?_
 rintro e w' ⟨gs, rfl, H⟩
 exact ⟨_, rfl, H.out.1.nms, H.out.2.2⟩
end Go.Proofs.YthhakekbffembaaGreatDoor.Ck.Sh

namespace Go.Proofs.YthhakekbffembaaGreatDoor.Ck.Sh
open Go.RowKit Go.Lib Go.Maps
attribute [local go_sem] Oper.semAt_some
def sameB (t n t' n' : Int) : Bool := decide (t = t') && decide (n = n')
end Go.Proofs.YthhakekbffembaaGreatDoor.Ck.Sh
