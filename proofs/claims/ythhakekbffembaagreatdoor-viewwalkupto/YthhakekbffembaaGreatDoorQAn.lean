import Derived.Test.YthhakekbffembaaGreatDoorQAi

namespace Go.Proofs.YthhakekbffembaaGreatDoor.Ck.Sh
open Go.RowKit Go.Lib Go.Maps
attribute [local go_sem] Oper.semAt_some
def NoBef (ids : List (Int × Int)) (names : List (List UInt8)) (j i : Nat) : Prop := ∀ k, k < j → ¬ befB ids names k i = true
theorem NoBef.step {ids : List (Int × Int)} {names : List (List UInt8)} {j i : Nat} (h : NoBef ids names j i) (hb : befB ids names j i = false) : NoBef ids names (j + 1) i := fun k hk => by
 by_cases hkj : k = j
 · subst hkj; rw [hb]; decide
 · exact h k (by omega)
theorem NoBef.shown {ids : List (Int × Int)} {names : List (List UInt8)} {n i : Nat} (h : NoBef ids names n i) : shownAt ids names n i = nmA names i := by
 unfold shownAt
 rw [if_pos (kept_iff.2 h)]
theorem bef_shown {ids : List (Int × Int)} {names : List (List UInt8)} {n i j : Nat} (hj : j < n) (h : befB ids names j i = true) : shownAt ids names n i = nmA names i ++ sufL (idA ids i).1 (idA ids i).2 := by
 unfold shownAt
 rw [if_neg (fun e => kept_iff.1 e j hj h)]
def strs (l : List (List UInt8)) : List Value := l.map fun x => Value.string (bas x)
theorem nms_of_cs {w : World} {p : Option Addr} {l : List (List UInt8)} (h : Cs w p (strs l)) : Nms w p l := fun j x hx => h j _ (by unfold strs; rw [List.getElem?_map, hx]; rfl)
theorem happ {W : World} {base : Nat} {p : Option Addr} {i c : Nat} {xs : List Value} (s : ByteArray) (h : W.ownsRow base 9 1 (.slice p i c) i xs) (hb : base ≤ W.heap.size) (hi : i < 1000000000000) :
   Hid ((W.alloc (.cells #[.string s] 9)).ownsRow base 9 1 (.slice p i c) i xs ∧ Cs (W.alloc (.cells #[.string s] 9)) (some ⟨W.heap.size, 0, none⟩) [.string s] ∧ [Value.string s].length = 1 * 1 ∧ (∀ u ∈ [Value.string s], u.oneCell' = true) ∧ (i + 1) * 16 ≤ 140737488355328 ∧ i + 1 ≤ 140737488355328 ∧ base ≤ (W.alloc (.cells #[.string s] 9)).heap.size) := by
 refine ⟨own_below h (below_new W _).out, fun j u hu => ⟨W.heap.size, 0, rfl, ?_⟩, rfl, fun u hu => by rw [List.mem_singleton.1 hu]; rfl, by omega, by omega, by simp; omega⟩
 rw [Nat.zero_add, cellOf (heap_alloc_new W _) j]
 simpa using hu
theorem shown_len (ids : List (Int × Int)) (names : List (List UInt8)) (n : Nat) : (shownL ids names n).length = n := by simp [shownL]
theorem shown_at (ids : List (Int × Int)) (names : List (List UInt8)) {n i : Nat} (h : i < n) : (shownL ids names n)[i]? = some (shownAt ids names n i) := by
 unfold shownL
 rw [List.getElem?_map, List.getElem?_range h]; rfl
theorem strs_take (ids : List (Int × Int)) (names : List (List UInt8)) {n i : Nat} (h : i < n) : strs ((shownL ids names n).take i) ++ [.string (bas (shownAt ids names n i))] = strs ((shownL ids names n).take (i + 1)) := by
 rw [List.take_add_one, shown_at ids names h]
 simp [strs]
set_option maxRecDepth 8000 in
set_option maxRecDepth 8000 in
set_option maxHeartbeats 4000000 in
theorem rshown_core (ids : List (Int × Int)) (names : List (List UInt8)) (p1 p2 : Option Addr) (L1 L2 n c1 c2 : Nat) (w : World) (h1 : Ids w p1 ids) (h2 : Nms w p2 names) (hl1 : n ≤ ids.length) (hl2 : n ≤ names.length) (hn : (L2 < L1 ∧ n = L2) ∨ (¬ L2 < L1 ∧ n = L1)) (hnn : n < 1000000000000) (hid : ∀ x ∈ ids, InI x.1 ∧ InI x.2) (hnm : ∀ x ∈ names, x.length ≤ 150000000000000) :
   Calls Tryz.prog 87 #[.slice p1 L1 c1, .slice p2 L2 c2] w fun e w' => ∃ p c, e = .returned (.slice p n c) ∧ Hid (Nms w' p (shownL ids names n) ∧ Below w.heap.size w w') := by
 have H1 := Lib.hid h1
 have H2 := Lib.hid h2
 have HID := Lib.hid hid
 have HNM := Lib.hid hnm
 have HL1 := Lib.hid hl1
 have HL2 := Lib.hid hl2
 clear h1 h2 hid hnm hl1 hl2
 rcases hn with ⟨hA, rfl⟩ | ⟨hA, rfl⟩
 · have hAI : (n : Int) < (L1 : Int) := by omega
   go_enter Tryz.func87, Tryz.ntmps87
   go_wp2_with fail
   go_loopw [6, 7] (fun ll ii wr => ∃ (i : Nat) (p : Option Addr) (c : Nat), ii = .int .i64 i ∧ i ≤ n ∧ ll = .slice p i c ∧ Hid (wr.ownsRow w.heap.size 9 1 ll i (strs ((shownL ids names n).take i)) ∧ Below w.heap.size w wr)) (fun _ ii _ => n - (RowKit.intOf ii).toNat)
   case atStart => exact ⟨0, none, 0, rfl, Nat.zero_le _, rfl, ⟨rfl, .inl ⟨rfl, rfl⟩⟩, Below.refl _ _⟩
   case round =>
     obtain ⟨i, p, c, rfl, hi, rfl, HI⟩ := hrel
     rename World => wo
     by_cases hlt : i < n
     · have hltI : (i : Int) < (n : Int) := by omega
       have hltL : (i : Int) < (L1 : Int) := by omega
       obtain ⟨g2, o2, rfl, hcn⟩ := (H2.out.below HI.out.2) i _ (nmA_of (by have := HL2.out; omega))
       obtain ⟨g1, o1, rfl, hq1, hq2⟩ := (H1.out.below HI.out.2) i _ (idA_of (by have := HL1.out; omega))
       have HC : Hid (∀ j, j < n → wo.cell? ⟨g2, o2 + j, none⟩ = some (.string (bas (nmA names j))) ∧ wo.cell? ⟨g1, o1 + j * 2, none⟩ = some (.int .i64 (idA ids j).1) ∧ wo.cell? ⟨g1, o1 + j * 2 + 1, none⟩ = some (.int .i64 (idA ids j).2)) := fun j hj => by
         obtain ⟨g, o, e, k1⟩ := (H2.out.below HI.out.2) j _ (nmA_of (by have := HL2.out; omega))
         cases e
         obtain ⟨g', o', e', k2, k3⟩ := (H1.out.below HI.out.2) j _ (idA_of (by have := HL1.out; omega))
         cases e'
         exact ⟨k1, k2, k3⟩
       have HID' := Lib.hid (HID.out _ (List.mem_of_getElem? (idA_of (i := i) (by have := HL1.out; omega))))
       have hlen := Lib.hid (HNM.out _ (List.mem_of_getElem? (nmA_of (i := i) (by have := HL2.out; omega))))
       have HQ := Lib.hid (And.intro hcn (And.intro hq1 hq2))
       clear hq1 hq2
       go_wp2_with fail
       go_loopw [8, 9] (fun ss kk wr => ∃ (j : Nat), ss = .string (bas (nmA names i)) ∧ kk = .int .i64 j ∧ j ≤ n ∧ Hid (NoBef ids names j i ∧ Below wo.heap.size wo wr)) (fun _ kk _ => n - (RowKit.intOf kk).toNat)
       case atStart => exact ⟨0, rfl, rfl, Nat.zero_le _, fun k hk => by omega, Below.refl _ _⟩
       case round =>
         obtain ⟨j, rfl, rfl, hj, HJ⟩ := hrel
         rename World => wk
         by_cases hjn : j < n
         · have hjI : (j : Int) < (n : Int) := by omega
           have hjL : (j : Int) < (L1 : Int) := by omega
           obtain ⟨k1, k2, k3⟩ := HC.out j hjn
           have a1 := cell_kept k1 HJ.out.2
           have a2 := cell_kept HQ.out.1 HJ.out.2
           have a3 := cell_kept k2 HJ.out.2
           have a4 := cell_kept k3 HJ.out.2
           have a5 := cell_kept HQ.out.2.1 HJ.out.2
           have a6 := cell_kept HQ.out.2.2 HJ.out.2
           clear k1 k2 k3
           have hbf : befB ids names j i = (decide (nmA names j = nmA names i) && (lsA (idA ids j) (idA ids i) || (decide (j < i) && decide (idA ids j = idA ids i)))) := rfl
           have HBF := Lib.hid hbf
           have hqq := bas_beq (nmA names j) (nmA names i)
           have cl := fun W => rless_any (idA ids j).1 (idA ids j).2 (idA ids i).1 (idA ids i).2 W
           have HLE : lessB (idA ids j).1 (idA ids j).2 (idA ids i).1 (idA ids i).2 = lsA (idA ids j) (idA ids i) := rfl
           rw [HLE] at cl
           have cm := fun W => same_any (idA ids j).1 (idA ids j).2 (idA ids i).1 (idA ids i).2 W
           have HSM : sameB (idA ids j).1 (idA ids j).2 (idA ids i).1 (idA ids i).2 = decide (idA ids j = idA ids i) := by
             unfold sameB
             by_cases e : idA ids j = idA ids i
             · rw [e]; simp
             · rw [decide_eq_false e]
               by_cases e1 : (idA ids j).1 = (idA ids i).1
               · have : ¬ (idA ids j).2 = (idA ids i).2 := fun e2 => e (Prod.ext e1 e2)
                 simp [this]
               · simp [e1]
           rw [HSM] at cm
           clear HLE HSM hbf
           obtain ⟨t, ht⟩ : ∃ t, (idA ids j).1 = t := ⟨_, rfl⟩
           obtain ⟨u, hu⟩ : ∃ u, (idA ids j).2 = u := ⟨_, rfl⟩
           obtain ⟨t', ht'⟩ : ∃ t', (idA ids i).1 = t' := ⟨_, rfl⟩
           obtain ⟨u', hu'⟩ : ∃ u', (idA ids i).2 = u' := ⟨_, rfl⟩
           obtain ⟨nj, hnj⟩ : ∃ nj, nmA names j = nj := ⟨_, rfl⟩
           obtain ⟨ni, hni⟩ : ∃ ni, nmA names i = ni := ⟨_, rfl⟩
           rw [ht, hu, ht', hu'] at cl cm
           rw [ht] at a3
           rw [hu] at a4
           rw [ht'] at a5
           rw [hu'] at a6
           rw [hnj] at a1
           rw [hni] at a2
           rw [hnj, hni] at hqq
           have HNI := Lib.hid (And.intro hnj (And.intro hni (And.intro ht' hu')))
           clear ht hu ht' hu' hnj
           rw [hni]
           clear hni
           by_cases hA1 : nj = ni
           · have hq' : ((bas nj).toList == (bas ni).toList) = true := by rw [hqq]; exact decide_eq_true hA1
             have hA2 : Hid (decide (nmA names j = nmA names i) = true) := by rw [HNI.out.1, HNI.out.2.1]; exact decide_eq_true hA1
             clear hqq hA1
             cases hB : lsA (idA ids j) (idA ids i) with
             | true =>
               rw [hB] at cl
               have HE : Hid (befB ids names j i = true) := by show _ = _; rw [HBF.out, hA2.out, hB]; rfl
               clear hB cm HBF
               go_wp2_with fail
               refine rs12_y (by kernel_rfl) g1 g2 o1 o2 L1 n c1 c2 j i nj ni t u t' u' _ rfl rfl rfl rfl rfl (by omega) (by omega) (by omega) (by omega) a1 a2 hq' a3 a4 a5 a6 (fun W _ => cl W) ?_
               intro w5 hS5
               have HW := Lib.hid hS5
               clear hS5
               simp only [putAll, sA, sB, sC]
               have HFI : Hid (shownAt ids names n i = ni ++ sufL t' u') := by
                 have e := bef_shown (n := n) hjn HE.out
                 rw [HNI.out.2.1, HNI.out.2.2.1, HNI.out.2.2.2] at e
                 exact e
               have hin : InI t' ∧ InI u' := by have e := HID'.out; rw [HNI.out.2.2.1, HNI.out.2.2.2] at e; exact e
               have cs := fun W => rsuffix_any t' u' hin.1 hin.2 W
               have ls : (sufL t' u').length ≤ 100 := by
                 have x1 := Lib.itoa_length_le t' hin.1.1 hin.1.2
                 have x2 := Lib.itoa_length_le u' hin.2.1 hin.2.2
                 unfold sufL
                 simp
                 omega
               have hln : ni.length ≤ 150000000000000 := by have e := hlen.out; rw [HNI.out.2.1] at e; exact e
               generalize sufL t' u' = sf at cs ls HFI
               obtain ⟨fi, hfi⟩ : ∃ fi, fi = ni ++ sf := ⟨_, rfl⟩
               have az : ∀ W, (Op.stringOp .add (bas ni) (bas sf)).run Tryz.prog W = .ok (.string (bas fi)) W := fun W => by rw [hfi]; exact cat_run ni sf W (by omega)
               rw [← hfi] at HFI
               have b2 := cell_kept a2 HW.out
               have b5 := cell_kept a5 HW.out
               have b6 := cell_kept a6 HW.out
               clear hfi ls hln hin a1 a2 a3 a4 a5 a6
               have HS : ∀ W W', (W.cell? ⟨g2, o2 + i, none⟩ = some (.string (bas ni)) ∧ W.cell? ⟨g1, o1 + i * 2, none⟩ = some (.int .i64 t') ∧ W.cell? ⟨g1, o1 + i * 2 + 1, none⟩ = some (.int .i64 u') ∧ Hid (Below w5.heap.size w5 W)) → Hid (Below W.heap.size W W') → W'.cell? ⟨g2, o2 + i, none⟩ = some (.string (bas ni)) ∧ W'.cell? ⟨g1, o1 + i * 2, none⟩ = some (.int .i64 t') ∧ W'.cell? ⟨g1, o1 + i * 2 + 1, none⟩ = some (.int .i64 u') ∧ Hid (Below w5.heap.size w5 W') := fun W W' h1 h2 =>
                 have hb := below_then h1.2.2.2.out h2.out
                 ⟨cell_kept b2 hb, cell_kept b5 hb, cell_kept b6 hb, hb⟩
               have S1 : w5.drew.cell? ⟨g2, o2 + i, none⟩ = some (.string (bas ni)) ∧ w5.drew.cell? ⟨g1, o1 + i * 2, none⟩ = some (.int .i64 t') ∧ w5.drew.cell? ⟨g1, o1 + i * 2 + 1, none⟩ = some (.int .i64 u') ∧ Hid (Below w5.heap.size w5 w5.drew) := ⟨b2, b5, b6, below_drewN w5 1⟩
               have S2 : w5.cell? ⟨g2, o2 + i, none⟩ = some (.string (bas ni)) ∧ w5.cell? ⟨g1, o1 + i * 2, none⟩ = some (.int .i64 t') ∧ w5.cell? ⟨g1, o1 + i * 2 + 1, none⟩ = some (.int .i64 u') ∧ Hid (Below w5.heap.size w5 w5) := ⟨b2, b5, b6, Below.refl _ _⟩
               have HF : ∀ W, (W.cell? ⟨g2, o2 + i, none⟩ = some (.string (bas ni)) ∧ W.cell? ⟨g1, o1 + i * 2, none⟩ = some (.int .i64 t') ∧ W.cell? ⟨g1, o1 + i * 2 + 1, none⟩ = some (.int .i64 u') ∧ Hid (Below w5.heap.size w5 W)) → Below w5.heap.size w5 W := fun W hW => hW.2.2.2.out
               go_wp2_with fail
               go_region_held3 (fun W => W.cell? ⟨g2, o2 + i, none⟩ = some (.string (bas ni)) ∧ W.cell? ⟨g1, o1 + i * 2, none⟩ = some (.int .i64 t') ∧ W.cell? ⟨g1, o1 + i * 2 + 1, none⟩ = some (.int .i64 u') ∧ Hid (Below w5.heap.size w5 W))
                 (first | exact S1 | exact S2 | assumption | exact HS _ _ (by assumption) (by assumption))
                 (first | (go_at_call 123; refine Calls_new (cs _) ?_; intro w7 HB7))
               have HBX := Lib.hid (below_then (below_then HJ.out.2 HW.out) (HF w7 (by assumption)))
               have HA := happ (bas fi) (own_below HI.out.1 HBX.out) (Nat.le_trans HI.out.2.size HBX.out.size) (by omega)
               go_wp2_with (at_builtin; refine wpList_appG rfl _ _ rfl Tryz.underlying53 ti_str w.heap.size (.slice p i c) i 1 (strs ((shownL ids names n).take i)) [.string (bas fi)] (some ⟨w7.heap.size, 0, none⟩) 1 rfl rfl HA ?_; intro p' c' w8 H8)
               exact ⟨⟨i + 1, p', c', by simp, by omega, rfl, by rw [← strs_take ids names hlt, HFI.out]; exact H8.out.1, grown_low (below_then HI.out.2 (below_then HBX.out (below_new _ _).out)) HA.out.1 H8.out.2 (Nat.le_refl _)⟩, by simp [RowKit.intOf]; omega⟩
             | false =>
               rw [hB] at cl
               have hBF := Lib.hid hB
               clear hB
               by_cases hC : j < i
               · have hCI : (j : Int) < (i : Int) := by omega
                 cases hD : decide (idA ids j = idA ids i) with
                 | true =>
                   rw [hD] at cm
                   have HE : Hid (befB ids names j i = true) := by show _ = _; rw [HBF.out, hA2.out, hBF.out, hD]; simp [hC]
                   clear hD HBF
                   go_wp2_with fail
                   refine rs12_yc (by kernel_rfl) g1 g2 o1 o2 L1 n c1 c2 j i nj ni t u t' u' _ rfl rfl rfl rfl rfl (by omega) (by omega) (by omega) (by omega) a1 a2 hq' a3 a4 a5 a6 (fun W _ => cl W) hC (fun W _ => cm W) ?_
                   intro w5 hS5
                   have HW := Lib.hid hS5
                   clear hS5
                   simp only [putAll, sA, sB, sC]
                   have HFI : Hid (shownAt ids names n i = ni ++ sufL t' u') := by
                     have e := bef_shown (n := n) hjn HE.out
                     rw [HNI.out.2.1, HNI.out.2.2.1, HNI.out.2.2.2] at e
                     exact e
                   have hin : InI t' ∧ InI u' := by have e := HID'.out; rw [HNI.out.2.2.1, HNI.out.2.2.2] at e; exact e
                   have cs := fun W => rsuffix_any t' u' hin.1 hin.2 W
                   have ls : (sufL t' u').length ≤ 100 := by
                     have x1 := Lib.itoa_length_le t' hin.1.1 hin.1.2
                     have x2 := Lib.itoa_length_le u' hin.2.1 hin.2.2
                     unfold sufL
                     simp
                     omega
                   have hln : ni.length ≤ 150000000000000 := by have e := hlen.out; rw [HNI.out.2.1] at e; exact e
                   generalize sufL t' u' = sf at cs ls HFI
                   obtain ⟨fi, hfi⟩ : ∃ fi, fi = ni ++ sf := ⟨_, rfl⟩
                   have az : ∀ W, (Op.stringOp .add (bas ni) (bas sf)).run Tryz.prog W = .ok (.string (bas fi)) W := fun W => by rw [hfi]; exact cat_run ni sf W (by omega)
                   rw [← hfi] at HFI
                   have b2 := cell_kept a2 HW.out
                   have b5 := cell_kept a5 HW.out
                   have b6 := cell_kept a6 HW.out
                   clear hfi ls hln hin a1 a2 a3 a4 a5 a6
                   have HS : ∀ W W', (W.cell? ⟨g2, o2 + i, none⟩ = some (.string (bas ni)) ∧ W.cell? ⟨g1, o1 + i * 2, none⟩ = some (.int .i64 t') ∧ W.cell? ⟨g1, o1 + i * 2 + 1, none⟩ = some (.int .i64 u') ∧ Hid (Below w5.heap.size w5 W)) → Hid (Below W.heap.size W W') → W'.cell? ⟨g2, o2 + i, none⟩ = some (.string (bas ni)) ∧ W'.cell? ⟨g1, o1 + i * 2, none⟩ = some (.int .i64 t') ∧ W'.cell? ⟨g1, o1 + i * 2 + 1, none⟩ = some (.int .i64 u') ∧ Hid (Below w5.heap.size w5 W') := fun W W' h1 h2 =>
                     have hb := below_then h1.2.2.2.out h2.out
                     ⟨cell_kept b2 hb, cell_kept b5 hb, cell_kept b6 hb, hb⟩
                   have S1 : w5.drew.cell? ⟨g2, o2 + i, none⟩ = some (.string (bas ni)) ∧ w5.drew.cell? ⟨g1, o1 + i * 2, none⟩ = some (.int .i64 t') ∧ w5.drew.cell? ⟨g1, o1 + i * 2 + 1, none⟩ = some (.int .i64 u') ∧ Hid (Below w5.heap.size w5 w5.drew) := ⟨b2, b5, b6, below_drewN w5 1⟩
                   have S2 : w5.cell? ⟨g2, o2 + i, none⟩ = some (.string (bas ni)) ∧ w5.cell? ⟨g1, o1 + i * 2, none⟩ = some (.int .i64 t') ∧ w5.cell? ⟨g1, o1 + i * 2 + 1, none⟩ = some (.int .i64 u') ∧ Hid (Below w5.heap.size w5 w5) := ⟨b2, b5, b6, Below.refl _ _⟩
                   have HF : ∀ W, (W.cell? ⟨g2, o2 + i, none⟩ = some (.string (bas ni)) ∧ W.cell? ⟨g1, o1 + i * 2, none⟩ = some (.int .i64 t') ∧ W.cell? ⟨g1, o1 + i * 2 + 1, none⟩ = some (.int .i64 u') ∧ Hid (Below w5.heap.size w5 W)) → Below w5.heap.size w5 W := fun W hW => hW.2.2.2.out
                   go_wp2_with fail
                   go_region_held3 (fun W => W.cell? ⟨g2, o2 + i, none⟩ = some (.string (bas ni)) ∧ W.cell? ⟨g1, o1 + i * 2, none⟩ = some (.int .i64 t') ∧ W.cell? ⟨g1, o1 + i * 2 + 1, none⟩ = some (.int .i64 u') ∧ Hid (Below w5.heap.size w5 W))
                     (first | exact S1 | exact S2 | assumption | exact HS _ _ (by assumption) (by assumption))
                     (first | (go_at_call 123; refine Calls_new (cs _) ?_; intro w7 HB7))
                   have HBX := Lib.hid (below_then (below_then HJ.out.2 HW.out) (HF w7 (by assumption)))
                   have HA := happ (bas fi) (own_below HI.out.1 HBX.out) (Nat.le_trans HI.out.2.size HBX.out.size) (by omega)
                   go_wp2_with (at_builtin; refine wpList_appG rfl _ _ rfl Tryz.underlying53 ti_str w.heap.size (.slice p i c) i 1 (strs ((shownL ids names n).take i)) [.string (bas fi)] (some ⟨w7.heap.size, 0, none⟩) 1 rfl rfl HA ?_; intro p' c' w8 H8)
                   exact ⟨⟨i + 1, p', c', by simp, by omega, rfl, by rw [← strs_take ids names hlt, HFI.out]; exact H8.out.1, grown_low (below_then HI.out.2 (below_then HBX.out (below_new _ _).out)) HA.out.1 H8.out.2 (Nat.le_refl _)⟩, by simp [RowKit.intOf]; omega⟩
                 | false =>
                   rw [hD] at cm
                   have HE : Hid (befB ids names j i = false) := by show _ = _; rw [HBF.out, hA2.out, hBF.out, hD]; simp
                   clear hD HBF
                   go_wp2_with fail
                   refine rs12_nd (by kernel_rfl) g1 g2 o1 o2 L1 n c1 c2 j i nj ni t u t' u' _ rfl rfl rfl rfl rfl (by omega) (by omega) (by omega) (by omega) a1 a2 hq' a3 a4 a5 a6 (fun W _ => cl W) hC (fun W _ => cm W) ?_
                   intro w5 hS5
                   have HW := Lib.hid hS5
                   clear hS5
                   simp only [putAll, sA, sB, sC]
                   go_wp2_with fail
                   exact ⟨⟨j + 1, rfl, by simp, by omega, HJ.out.1.step HE.out, below_then HJ.out.2 HW.out⟩, by simp [RowKit.intOf]; omega⟩
               · have hCI : ¬ (j : Int) < (i : Int) := by omega
                 have HE : Hid (befB ids names j i = false) := by show _ = _; rw [HBF.out, hA2.out, hBF.out]; simp [hC]
                 clear HBF
                 go_wp2_with fail
                 refine rs12_nb (by kernel_rfl) g1 g2 o1 o2 L1 n c1 c2 j i nj ni t u t' u' _ rfl rfl rfl rfl rfl (by omega) (by omega) (by omega) (by omega) a1 a2 hq' a3 a4 a5 a6 (fun W _ => cl W) hC ?_
                 intro w5 hS5
                 have HW := Lib.hid hS5
                 clear hS5
                 simp only [putAll, sA, sB, sC]
                 go_wp2_with fail
                 exact ⟨⟨j + 1, rfl, by simp, by omega, HJ.out.1.step HE.out, below_then HJ.out.2 HW.out⟩, by simp [RowKit.intOf]; omega⟩
           · have hq' : ((bas nj).toList == (bas ni).toList) = false := by rw [hqq]; exact decide_eq_false hA1
             have HE : Hid (befB ids names j i = false) := by
               show _ = _
               rw [HBF.out, HNI.out.1, HNI.out.2.1, decide_eq_false hA1]; rfl
             clear hqq hA1 HBF
             go_wp2_with fail
             refine rs12_n (by kernel_rfl) g2 o2 n c2 j i nj ni _ rfl rfl rfl rfl (by omega) (by omega) a1 a2 hq' ?_
             intro w5 hS5
             have HW := Lib.hid hS5
             clear hS5
             simp only [putAll, sA, sB, sC]
             go_wp2_with fail
             exact ⟨⟨j + 1, rfl, by simp, by omega, HJ.out.1.step HE.out, below_then HJ.out.2 HW.out⟩, by simp [RowKit.intOf]; omega⟩
         · obtain rfl : n = j := by omega
           have HFI : Hid (shownAt ids names n i = nmA names i) := HJ.out.1.shown
           have HBX := Lib.hid HJ.out.2
           generalize nmA names i = ni at *
           have HA := happ (bas ni) (own_below HI.out.1 HBX.out) (Nat.le_trans HI.out.2.size HBX.out.size) (by omega)
           go_wp2_with (at_builtin; refine wpList_appG rfl _ _ rfl Tryz.underlying53 ti_str w.heap.size (.slice p i c) i 1 (strs ((shownL ids names n).take i)) [.string (bas ni)] (some ⟨wk.heap.size, 0, none⟩) 1 rfl rfl HA ?_; intro p' c' w8 H8)
           exact ⟨⟨i + 1, p', c', by simp, by omega, rfl, by rw [← strs_take ids names hlt, HFI.out]; exact H8.out.1, grown_low (below_then HI.out.2 (below_then HBX.out (below_new _ _).out)) HA.out.1 H8.out.2 (Nat.le_refl _)⟩, by simp [RowKit.intOf]; omega⟩
     · obtain rfl : i = n := by omega
       go_wp2_with fail
       go_ret
       refine ⟨p, c, rfl, ?_, HI.out.2⟩
       obtain ⟨p', c', e, hcs⟩ := Cs.of_own HI.out.1
       injection e with ea eb ec
       subst ea
       rw [List.take_of_length_le (by rw [shown_len]; omega)] at hcs
       exact nms_of_cs hcs
 · have hAI : ¬ (L2 : Int) < (n : Int) := by omega
   go_enter Tryz.func87, Tryz.ntmps87
   go_wp2_with fail
   go_loopw [6, 7] (fun ll ii wr => ∃ (i : Nat) (p : Option Addr) (c : Nat), ii = .int .i64 i ∧ i ≤ n ∧ ll = .slice p i c ∧ Hid (wr.ownsRow w.heap.size 9 1 ll i (strs ((shownL ids names n).take i)) ∧ Below w.heap.size w wr)) (fun _ ii _ => n - (RowKit.intOf ii).toNat)
   case atStart => exact ⟨0, none, 0, rfl, Nat.zero_le _, rfl, ⟨rfl, .inl ⟨rfl, rfl⟩⟩, Below.refl _ _⟩
   case round =>
     obtain ⟨i, p, c, rfl, hi, rfl, HI⟩ := hrel
     rename World => wo
     by_cases hlt : i < n
     · have hltI : (i : Int) < (n : Int) := by omega
       have hltL : (i : Int) < (L2 : Int) := by omega
       obtain ⟨g2, o2, rfl, hcn⟩ := (H2.out.below HI.out.2) i _ (nmA_of (by have := HL2.out; omega))
       obtain ⟨g1, o1, rfl, hq1, hq2⟩ := (H1.out.below HI.out.2) i _ (idA_of (by have := HL1.out; omega))
       have HC : Hid (∀ j, j < n → wo.cell? ⟨g2, o2 + j, none⟩ = some (.string (bas (nmA names j))) ∧ wo.cell? ⟨g1, o1 + j * 2, none⟩ = some (.int .i64 (idA ids j).1) ∧ wo.cell? ⟨g1, o1 + j * 2 + 1, none⟩ = some (.int .i64 (idA ids j).2)) := fun j hj => by
         obtain ⟨g, o, e, k1⟩ := (H2.out.below HI.out.2) j _ (nmA_of (by have := HL2.out; omega))
         cases e
         obtain ⟨g', o', e', k2, k3⟩ := (H1.out.below HI.out.2) j _ (idA_of (by have := HL1.out; omega))
         cases e'
         exact ⟨k1, k2, k3⟩
       have HID' := Lib.hid (HID.out _ (List.mem_of_getElem? (idA_of (i := i) (by have := HL1.out; omega))))
       have hlen := Lib.hid (HNM.out _ (List.mem_of_getElem? (nmA_of (i := i) (by have := HL2.out; omega))))
       have HQ := Lib.hid (And.intro hcn (And.intro hq1 hq2))
       clear hq1 hq2
       go_wp2_with fail
       go_loopw [8, 9] (fun ss kk wr => ∃ (j : Nat), ss = .string (bas (nmA names i)) ∧ kk = .int .i64 j ∧ j ≤ n ∧ Hid (NoBef ids names j i ∧ Below wo.heap.size wo wr)) (fun _ kk _ => n - (RowKit.intOf kk).toNat)
       case atStart => exact ⟨0, rfl, rfl, Nat.zero_le _, fun k hk => by omega, Below.refl _ _⟩
       case round =>
         obtain ⟨j, rfl, rfl, hj, HJ⟩ := hrel
         rename World => wk
         by_cases hjn : j < n
         · have hjI : (j : Int) < (n : Int) := by omega
           have hjL : (j : Int) < (L2 : Int) := by omega
           obtain ⟨k1, k2, k3⟩ := HC.out j hjn
           have a1 := cell_kept k1 HJ.out.2
           have a2 := cell_kept HQ.out.1 HJ.out.2
           have a3 := cell_kept k2 HJ.out.2
           have a4 := cell_kept k3 HJ.out.2
           have a5 := cell_kept HQ.out.2.1 HJ.out.2
           have a6 := cell_kept HQ.out.2.2 HJ.out.2
           clear k1 k2 k3
           have hbf : befB ids names j i = (decide (nmA names j = nmA names i) && (lsA (idA ids j) (idA ids i) || (decide (j < i) && decide (idA ids j = idA ids i)))) := rfl
           have HBF := Lib.hid hbf
           have hqq := bas_beq (nmA names j) (nmA names i)
           have cl := fun W => rless_any (idA ids j).1 (idA ids j).2 (idA ids i).1 (idA ids i).2 W
           have HLE : lessB (idA ids j).1 (idA ids j).2 (idA ids i).1 (idA ids i).2 = lsA (idA ids j) (idA ids i) := rfl
           rw [HLE] at cl
           have cm := fun W => same_any (idA ids j).1 (idA ids j).2 (idA ids i).1 (idA ids i).2 W
           have HSM : sameB (idA ids j).1 (idA ids j).2 (idA ids i).1 (idA ids i).2 = decide (idA ids j = idA ids i) := by
             unfold sameB
             by_cases e : idA ids j = idA ids i
             · rw [e]; simp
             · rw [decide_eq_false e]
               by_cases e1 : (idA ids j).1 = (idA ids i).1
               · have : ¬ (idA ids j).2 = (idA ids i).2 := fun e2 => e (Prod.ext e1 e2)
                 simp [this]
               · simp [e1]
           rw [HSM] at cm
           clear HLE HSM hbf
           obtain ⟨t, ht⟩ : ∃ t, (idA ids j).1 = t := ⟨_, rfl⟩
           obtain ⟨u, hu⟩ : ∃ u, (idA ids j).2 = u := ⟨_, rfl⟩
           obtain ⟨t', ht'⟩ : ∃ t', (idA ids i).1 = t' := ⟨_, rfl⟩
           obtain ⟨u', hu'⟩ : ∃ u', (idA ids i).2 = u' := ⟨_, rfl⟩
           obtain ⟨nj, hnj⟩ : ∃ nj, nmA names j = nj := ⟨_, rfl⟩
           obtain ⟨ni, hni⟩ : ∃ ni, nmA names i = ni := ⟨_, rfl⟩
           rw [ht, hu, ht', hu'] at cl cm
           rw [ht] at a3
           rw [hu] at a4
           rw [ht'] at a5
           rw [hu'] at a6
           rw [hnj] at a1
           rw [hni] at a2
           rw [hnj, hni] at hqq
           have HNI := Lib.hid (And.intro hnj (And.intro hni (And.intro ht' hu')))
           clear ht hu ht' hu' hnj
           rw [hni]
           clear hni
           by_cases hA1 : nj = ni
           · have hq' : ((bas nj).toList == (bas ni).toList) = true := by rw [hqq]; exact decide_eq_true hA1
             have hA2 : Hid (decide (nmA names j = nmA names i) = true) := by rw [HNI.out.1, HNI.out.2.1]; exact decide_eq_true hA1
             clear hqq hA1
             cases hB : lsA (idA ids j) (idA ids i) with
             | true =>
               rw [hB] at cl
               have HE : Hid (befB ids names j i = true) := by show _ = _; rw [HBF.out, hA2.out, hB]; rfl
               clear hB cm HBF
               go_wp2_with fail
               refine rs12_y (by kernel_rfl) g1 g2 o1 o2 n L2 c1 c2 j i nj ni t u t' u' _ rfl rfl rfl rfl rfl (by omega) (by omega) (by omega) (by omega) a1 a2 hq' a3 a4 a5 a6 (fun W _ => cl W) ?_
               intro w5 hS5
               have HW := Lib.hid hS5
               clear hS5
               simp only [putAll, sA, sB, sC]
               have HFI : Hid (shownAt ids names n i = ni ++ sufL t' u') := by
                 have e := bef_shown (n := n) hjn HE.out
                 rw [HNI.out.2.1, HNI.out.2.2.1, HNI.out.2.2.2] at e
                 exact e
               have hin : InI t' ∧ InI u' := by have e := HID'.out; rw [HNI.out.2.2.1, HNI.out.2.2.2] at e; exact e
               have cs := fun W => rsuffix_any t' u' hin.1 hin.2 W
               have ls : (sufL t' u').length ≤ 100 := by
                 have x1 := Lib.itoa_length_le t' hin.1.1 hin.1.2
                 have x2 := Lib.itoa_length_le u' hin.2.1 hin.2.2
                 unfold sufL
                 simp
                 omega
               have hln : ni.length ≤ 150000000000000 := by have e := hlen.out; rw [HNI.out.2.1] at e; exact e
               generalize sufL t' u' = sf at cs ls HFI
               obtain ⟨fi, hfi⟩ : ∃ fi, fi = ni ++ sf := ⟨_, rfl⟩
               have az : ∀ W, (Op.stringOp .add (bas ni) (bas sf)).run Tryz.prog W = .ok (.string (bas fi)) W := fun W => by rw [hfi]; exact cat_run ni sf W (by omega)
               rw [← hfi] at HFI
               have b2 := cell_kept a2 HW.out
               have b5 := cell_kept a5 HW.out
               have b6 := cell_kept a6 HW.out
               clear hfi ls hln hin a1 a2 a3 a4 a5 a6
               have HS : ∀ W W', (W.cell? ⟨g2, o2 + i, none⟩ = some (.string (bas ni)) ∧ W.cell? ⟨g1, o1 + i * 2, none⟩ = some (.int .i64 t') ∧ W.cell? ⟨g1, o1 + i * 2 + 1, none⟩ = some (.int .i64 u') ∧ Hid (Below w5.heap.size w5 W)) → Hid (Below W.heap.size W W') → W'.cell? ⟨g2, o2 + i, none⟩ = some (.string (bas ni)) ∧ W'.cell? ⟨g1, o1 + i * 2, none⟩ = some (.int .i64 t') ∧ W'.cell? ⟨g1, o1 + i * 2 + 1, none⟩ = some (.int .i64 u') ∧ Hid (Below w5.heap.size w5 W') := fun W W' h1 h2 =>
                 have hb := below_then h1.2.2.2.out h2.out
                 ⟨cell_kept b2 hb, cell_kept b5 hb, cell_kept b6 hb, hb⟩
               have S1 : w5.drew.cell? ⟨g2, o2 + i, none⟩ = some (.string (bas ni)) ∧ w5.drew.cell? ⟨g1, o1 + i * 2, none⟩ = some (.int .i64 t') ∧ w5.drew.cell? ⟨g1, o1 + i * 2 + 1, none⟩ = some (.int .i64 u') ∧ Hid (Below w5.heap.size w5 w5.drew) := ⟨b2, b5, b6, below_drewN w5 1⟩
               have S2 : w5.cell? ⟨g2, o2 + i, none⟩ = some (.string (bas ni)) ∧ w5.cell? ⟨g1, o1 + i * 2, none⟩ = some (.int .i64 t') ∧ w5.cell? ⟨g1, o1 + i * 2 + 1, none⟩ = some (.int .i64 u') ∧ Hid (Below w5.heap.size w5 w5) := ⟨b2, b5, b6, Below.refl _ _⟩
               have HF : ∀ W, (W.cell? ⟨g2, o2 + i, none⟩ = some (.string (bas ni)) ∧ W.cell? ⟨g1, o1 + i * 2, none⟩ = some (.int .i64 t') ∧ W.cell? ⟨g1, o1 + i * 2 + 1, none⟩ = some (.int .i64 u') ∧ Hid (Below w5.heap.size w5 W)) → Below w5.heap.size w5 W := fun W hW => hW.2.2.2.out
               go_wp2_with fail
               go_region_held3 (fun W => W.cell? ⟨g2, o2 + i, none⟩ = some (.string (bas ni)) ∧ W.cell? ⟨g1, o1 + i * 2, none⟩ = some (.int .i64 t') ∧ W.cell? ⟨g1, o1 + i * 2 + 1, none⟩ = some (.int .i64 u') ∧ Hid (Below w5.heap.size w5 W))
                 (first | exact S1 | exact S2 | assumption | exact HS _ _ (by assumption) (by assumption))
                 (first | (go_at_call 123; refine Calls_new (cs _) ?_; intro w7 HB7))
               have HBX := Lib.hid (below_then (below_then HJ.out.2 HW.out) (HF w7 (by assumption)))
               have HA := happ (bas fi) (own_below HI.out.1 HBX.out) (Nat.le_trans HI.out.2.size HBX.out.size) (by omega)
               go_wp2_with (at_builtin; refine wpList_appG rfl _ _ rfl Tryz.underlying53 ti_str w.heap.size (.slice p i c) i 1 (strs ((shownL ids names n).take i)) [.string (bas fi)] (some ⟨w7.heap.size, 0, none⟩) 1 rfl rfl HA ?_; intro p' c' w8 H8)
               exact ⟨⟨i + 1, p', c', by simp, by omega, rfl, by rw [← strs_take ids names hlt, HFI.out]; exact H8.out.1, grown_low (below_then HI.out.2 (below_then HBX.out (below_new _ _).out)) HA.out.1 H8.out.2 (Nat.le_refl _)⟩, by simp [RowKit.intOf]; omega⟩
             | false =>
               rw [hB] at cl
               have hBF := Lib.hid hB
               clear hB
               by_cases hC : j < i
               · have hCI : (j : Int) < (i : Int) := by omega
                 cases hD : decide (idA ids j = idA ids i) with
                 | true =>
                   rw [hD] at cm
                   have HE : Hid (befB ids names j i = true) := by show _ = _; rw [HBF.out, hA2.out, hBF.out, hD]; simp [hC]
                   clear hD HBF
                   go_wp2_with fail
                   refine rs12_yc (by kernel_rfl) g1 g2 o1 o2 n L2 c1 c2 j i nj ni t u t' u' _ rfl rfl rfl rfl rfl (by omega) (by omega) (by omega) (by omega) a1 a2 hq' a3 a4 a5 a6 (fun W _ => cl W) hC (fun W _ => cm W) ?_
                   intro w5 hS5
                   have HW := Lib.hid hS5
                   clear hS5
                   simp only [putAll, sA, sB, sC]
                   have HFI : Hid (shownAt ids names n i = ni ++ sufL t' u') := by
                     have e := bef_shown (n := n) hjn HE.out
                     rw [HNI.out.2.1, HNI.out.2.2.1, HNI.out.2.2.2] at e
                     exact e
                   have hin : InI t' ∧ InI u' := by have e := HID'.out; rw [HNI.out.2.2.1, HNI.out.2.2.2] at e; exact e
                   have cs := fun W => rsuffix_any t' u' hin.1 hin.2 W
                   have ls : (sufL t' u').length ≤ 100 := by
                     have x1 := Lib.itoa_length_le t' hin.1.1 hin.1.2
                     have x2 := Lib.itoa_length_le u' hin.2.1 hin.2.2
                     unfold sufL
                     simp
                     omega
                   have hln : ni.length ≤ 150000000000000 := by have e := hlen.out; rw [HNI.out.2.1] at e; exact e
                   generalize sufL t' u' = sf at cs ls HFI
                   obtain ⟨fi, hfi⟩ : ∃ fi, fi = ni ++ sf := ⟨_, rfl⟩
                   have az : ∀ W, (Op.stringOp .add (bas ni) (bas sf)).run Tryz.prog W = .ok (.string (bas fi)) W := fun W => by rw [hfi]; exact cat_run ni sf W (by omega)
                   rw [← hfi] at HFI
                   have b2 := cell_kept a2 HW.out
                   have b5 := cell_kept a5 HW.out
                   have b6 := cell_kept a6 HW.out
                   clear hfi ls hln hin a1 a2 a3 a4 a5 a6
                   have HS : ∀ W W', (W.cell? ⟨g2, o2 + i, none⟩ = some (.string (bas ni)) ∧ W.cell? ⟨g1, o1 + i * 2, none⟩ = some (.int .i64 t') ∧ W.cell? ⟨g1, o1 + i * 2 + 1, none⟩ = some (.int .i64 u') ∧ Hid (Below w5.heap.size w5 W)) → Hid (Below W.heap.size W W') → W'.cell? ⟨g2, o2 + i, none⟩ = some (.string (bas ni)) ∧ W'.cell? ⟨g1, o1 + i * 2, none⟩ = some (.int .i64 t') ∧ W'.cell? ⟨g1, o1 + i * 2 + 1, none⟩ = some (.int .i64 u') ∧ Hid (Below w5.heap.size w5 W') := fun W W' h1 h2 =>
                     have hb := below_then h1.2.2.2.out h2.out
                     ⟨cell_kept b2 hb, cell_kept b5 hb, cell_kept b6 hb, hb⟩
                   have S1 : w5.drew.cell? ⟨g2, o2 + i, none⟩ = some (.string (bas ni)) ∧ w5.drew.cell? ⟨g1, o1 + i * 2, none⟩ = some (.int .i64 t') ∧ w5.drew.cell? ⟨g1, o1 + i * 2 + 1, none⟩ = some (.int .i64 u') ∧ Hid (Below w5.heap.size w5 w5.drew) := ⟨b2, b5, b6, below_drewN w5 1⟩
                   have S2 : w5.cell? ⟨g2, o2 + i, none⟩ = some (.string (bas ni)) ∧ w5.cell? ⟨g1, o1 + i * 2, none⟩ = some (.int .i64 t') ∧ w5.cell? ⟨g1, o1 + i * 2 + 1, none⟩ = some (.int .i64 u') ∧ Hid (Below w5.heap.size w5 w5) := ⟨b2, b5, b6, Below.refl _ _⟩
                   have HF : ∀ W, (W.cell? ⟨g2, o2 + i, none⟩ = some (.string (bas ni)) ∧ W.cell? ⟨g1, o1 + i * 2, none⟩ = some (.int .i64 t') ∧ W.cell? ⟨g1, o1 + i * 2 + 1, none⟩ = some (.int .i64 u') ∧ Hid (Below w5.heap.size w5 W)) → Below w5.heap.size w5 W := fun W hW => hW.2.2.2.out
                   go_wp2_with fail
                   go_region_held3 (fun W => W.cell? ⟨g2, o2 + i, none⟩ = some (.string (bas ni)) ∧ W.cell? ⟨g1, o1 + i * 2, none⟩ = some (.int .i64 t') ∧ W.cell? ⟨g1, o1 + i * 2 + 1, none⟩ = some (.int .i64 u') ∧ Hid (Below w5.heap.size w5 W))
                     (first | exact S1 | exact S2 | assumption | exact HS _ _ (by assumption) (by assumption))
                     (first | (go_at_call 123; refine Calls_new (cs _) ?_; intro w7 HB7))
                   have HBX := Lib.hid (below_then (below_then HJ.out.2 HW.out) (HF w7 (by assumption)))
                   have HA := happ (bas fi) (own_below HI.out.1 HBX.out) (Nat.le_trans HI.out.2.size HBX.out.size) (by omega)
                   go_wp2_with (at_builtin; refine wpList_appG rfl _ _ rfl Tryz.underlying53 ti_str w.heap.size (.slice p i c) i 1 (strs ((shownL ids names n).take i)) [.string (bas fi)] (some ⟨w7.heap.size, 0, none⟩) 1 rfl rfl HA ?_; intro p' c' w8 H8)
                   exact ⟨⟨i + 1, p', c', by simp, by omega, rfl, by rw [← strs_take ids names hlt, HFI.out]; exact H8.out.1, grown_low (below_then HI.out.2 (below_then HBX.out (below_new _ _).out)) HA.out.1 H8.out.2 (Nat.le_refl _)⟩, by simp [RowKit.intOf]; omega⟩
                 | false =>
                   rw [hD] at cm
                   have HE : Hid (befB ids names j i = false) := by show _ = _; rw [HBF.out, hA2.out, hBF.out, hD]; simp
                   clear hD HBF
                   go_wp2_with fail
                   refine rs12_nd (by kernel_rfl) g1 g2 o1 o2 n L2 c1 c2 j i nj ni t u t' u' _ rfl rfl rfl rfl rfl (by omega) (by omega) (by omega) (by omega) a1 a2 hq' a3 a4 a5 a6 (fun W _ => cl W) hC (fun W _ => cm W) ?_
                   intro w5 hS5
                   have HW := Lib.hid hS5
                   clear hS5
                   simp only [putAll, sA, sB, sC]
                   go_wp2_with fail
                   exact ⟨⟨j + 1, rfl, by simp, by omega, HJ.out.1.step HE.out, below_then HJ.out.2 HW.out⟩, by simp [RowKit.intOf]; omega⟩
               · have hCI : ¬ (j : Int) < (i : Int) := by omega
                 have HE : Hid (befB ids names j i = false) := by show _ = _; rw [HBF.out, hA2.out, hBF.out]; simp [hC]
                 clear HBF
                 go_wp2_with fail
                 refine rs12_nb (by kernel_rfl) g1 g2 o1 o2 n L2 c1 c2 j i nj ni t u t' u' _ rfl rfl rfl rfl rfl (by omega) (by omega) (by omega) (by omega) a1 a2 hq' a3 a4 a5 a6 (fun W _ => cl W) hC ?_
                 intro w5 hS5
                 have HW := Lib.hid hS5
                 clear hS5
                 simp only [putAll, sA, sB, sC]
                 go_wp2_with fail
                 exact ⟨⟨j + 1, rfl, by simp, by omega, HJ.out.1.step HE.out, below_then HJ.out.2 HW.out⟩, by simp [RowKit.intOf]; omega⟩
           · have hq' : ((bas nj).toList == (bas ni).toList) = false := by rw [hqq]; exact decide_eq_false hA1
             have HE : Hid (befB ids names j i = false) := by
               show _ = _
               rw [HBF.out, HNI.out.1, HNI.out.2.1, decide_eq_false hA1]; rfl
             clear hqq hA1 HBF
             go_wp2_with fail
             refine rs12_n (by kernel_rfl) g2 o2 L2 c2 j i nj ni _ rfl rfl rfl rfl (by omega) (by omega) a1 a2 hq' ?_
             intro w5 hS5
             have HW := Lib.hid hS5
             clear hS5
             simp only [putAll, sA, sB, sC]
             go_wp2_with fail
             exact ⟨⟨j + 1, rfl, by simp, by omega, HJ.out.1.step HE.out, below_then HJ.out.2 HW.out⟩, by simp [RowKit.intOf]; omega⟩
         · obtain rfl : n = j := by omega
           have HFI : Hid (shownAt ids names n i = nmA names i) := HJ.out.1.shown
           have HBX := Lib.hid HJ.out.2
           generalize nmA names i = ni at *
           have HA := happ (bas ni) (own_below HI.out.1 HBX.out) (Nat.le_trans HI.out.2.size HBX.out.size) (by omega)
           go_wp2_with (at_builtin; refine wpList_appG rfl _ _ rfl Tryz.underlying53 ti_str w.heap.size (.slice p i c) i 1 (strs ((shownL ids names n).take i)) [.string (bas ni)] (some ⟨wk.heap.size, 0, none⟩) 1 rfl rfl HA ?_; intro p' c' w8 H8)
           exact ⟨⟨i + 1, p', c', by simp, by omega, rfl, by rw [← strs_take ids names hlt, HFI.out]; exact H8.out.1, grown_low (below_then HI.out.2 (below_then HBX.out (below_new _ _).out)) HA.out.1 H8.out.2 (Nat.le_refl _)⟩, by simp [RowKit.intOf]; omega⟩
     · obtain rfl : i = n := by omega
       go_wp2_with fail
       go_ret
       refine ⟨p, c, rfl, ?_, HI.out.2⟩
       obtain ⟨p', c', e, hcs⟩ := Cs.of_own HI.out.1
       injection e with ea eb ec
       subst ea
       rw [List.take_of_length_le (by rw [shown_len]; omega)] at hcs
       exact nms_of_cs hcs
end Go.Proofs.YthhakekbffembaaGreatDoor.Ck.Sh

namespace Go.Proofs.YthhakekbffembaaGreatDoor.Ck.Sh
open Go.RowKit Go.Lib Go.Maps
structure AP (a : List (Int × Int)) (b : List (List UInt8)) : Prop where
 len : a.length = b.length
 val : ∀ x ∈ a, validB x.1 x.2 = true
 nam : ∀ x ∈ b, nameN x = 0
 dif : a.Nodup
theorem AP.valAt {a : List (Int × Int)} {b : List (List UInt8)} (h : AP a b) {i : Nat} (hi : i < a.length) : validB (idA a i).1 (idA a i).2 = true := h.val _ (List.mem_of_getElem? (idA_of hi))
theorem AP.namAt {a : List (Int × Int)} {b : List (List UInt8)} (h : AP a b) {i : Nat} (hi : i < a.length) : nameN (nmA b i) = 0 := h.nam _ (List.mem_of_getElem? (nmA_of (by rw [← h.len]; exact hi)))
theorem name_len {l : List UInt8} (h : nameN l = 0) : l.length ≤ 64 := by
 unfold nameN fineN at h
 split at h
 · cases h
 · split at h
   · cases h
   · split at h
     · cases h
     · split at h
       · cases h
       · omega
theorem shown_kept {a : List (Int × Int)} {b : List (List UInt8)} {n i : Nat} (h : keptB a b n i = true) : shownAt a b n i = nmA b i := by unfold shownAt; rw [if_pos h]
theorem shown_not {a : List (Int × Int)} {b : List (List UInt8)} {n i : Nat} (h : keptB a b n i = false) : shownAt a b n i = nmA b i ++ sufL (idA a i).1 (idA a i).2 := by unfold shownAt; rw [if_neg (by rw [h]; decide)]
theorem AP.split_kept {a : List (Int × Int)} {b : List (List UInt8)} (h : AP a b) {i : Nat} (hi : i < a.length) (hk : keptB a b a.length i = true) : splitP (shownAt a b a.length i) = none := by
 rw [shown_kept hk]
 exact (splitP_of _).unique (split_none1 (name_no1 (h.namAt hi)))
theorem AP.split_not {a : List (Int × Int)} {b : List (List UInt8)} (h : AP a b) {i : Nat} (hi : i < a.length) (hk : keptB a b a.length i = false) : splitP (shownAt a b a.length i) = some (nmA b i, (idA a i).1, (idA a i).2) := by
 rw [shown_not hk]
 exact (splitP_of _).unique ⟨h.namAt hi, h.valAt hi, rfl⟩
theorem AP.ins {a : List (Int × Int)} {b : List (List UInt8)} (h : AP a b) : ∀ x ∈ a, InI x.1 ∧ InI x.2 := fun x hx => by
 have := valid_bounds (h.val x hx)
 exact ⟨⟨by omega, by omega⟩, ⟨by omega, by omega⟩⟩
theorem AP.lens {a : List (Int × Int)} {b : List (List UInt8)} (h : AP a b) : ∀ x ∈ b, x.length ≤ 150000000000000 := fun x hx => by
 have := name_len (h.nam x hx)
 omega
def idsC : List (Int × Int) → List Value
 | [] => []
 | x :: l => .int .i64 x.1 :: .int .i64 x.2 :: idsC l
theorem idsC_append : ∀ l m : List (Int × Int), idsC (l ++ m) = idsC l ++ idsC m
 | [], _ => rfl
 | _ :: l, m => by simp only [List.cons_append, idsC, idsC_append l m]
theorem idsC_at : ∀ (l : List (Int × Int)) (j : Nat) (x : Int × Int), l[j]? = some x → (idsC l)[j * 2]? = some (.int .i64 x.1) ∧ (idsC l)[j * 2 + 1]? = some (.int .i64 x.2)
 | [], j, x, h => by simp at h
 | y :: l, 0, x, h => by
   simp only [List.getElem?_cons_zero, Option.some.injEq] at h
   subst h
   exact ⟨rfl, rfl⟩
 | y :: l, j + 1, x, h => by
   have := idsC_at l j x (by simpa using h)
   rw [show (j + 1) * 2 = j * 2 + 1 + 1 by omega]
   simp only [idsC, List.getElem?_cons_succ]
   exact this
theorem ids_of_cs {w : World} {p : Option Addr} {l : List (Int × Int)} (h : Cs w p (idsC l)) : Ids w p l := fun j x hx => by
 obtain ⟨e1, e2⟩ := idsC_at l j x hx
 obtain ⟨g, o, e, h1⟩ := h _ _ e1
 obtain ⟨g', o', e', h2⟩ := h _ _ e2
 cases e
 cases e'
 exact ⟨g, o, rfl, h1, by rw [Nat.add_assoc]; exact h2⟩
theorem happI {W : World} {base : Nat} {p : Option Addr} {i c : Nat} {xs : List Value} (t u : Int) (h : W.ownsRow base 28 2 (.slice p i c) i xs) (hb : base ≤ W.heap.size) (hi : i < 1000000000000) :
   Hid ((W.alloc (.cells #[.int .i64 t, .int .i64 u] 28)).ownsRow base 28 2 (.slice p i c) i xs ∧ Cs (W.alloc (.cells #[.int .i64 t, .int .i64 u] 28)) (some ⟨W.heap.size, 0, none⟩) [.int .i64 t, .int .i64 u] ∧ [Value.int .i64 t, Value.int .i64 u].length = 1 * 2 ∧ (∀ x ∈ [Value.int .i64 t, Value.int .i64 u], x.oneCell' = true) ∧ (i + 1) * 16 ≤ 140737488355328 ∧ i + 1 ≤ 140737488355328 ∧ base ≤ (W.alloc (.cells #[.int .i64 t, .int .i64 u] 28)).heap.size) := by
 refine ⟨own_below h (below_new W _).out, fun j v hv => ⟨W.heap.size, 0, rfl, ?_⟩, rfl, fun x hx => ?_, by omega, by omega, by simp; omega⟩
 · rw [Nat.zero_add, cellOf (heap_alloc_new W _) j]
   simpa using hv
 · rcases List.mem_cons.1 hx with rfl | hx
   · rfl
   · rw [List.mem_singleton.1 hx]; rfl
theorem own_other {w w' : World} {b1 b2 : Nat} {e1 e2 : TypeId} {s1 s2 n1 n2 : Nat} {v1 v2 : Value} {x1 x2 : List Value} (h1 : w.ownsRow b1 e1 s1 v1 n1 x1) (h2 : w.ownsRow b2 e2 s2 v2 n2 x2) (hne : e1 ≠ e2) (hg : w.grownBy w' v2.ownBlock) : w'.ownsRow b1 e1 s1 v1 n1 x1 := by
 obtain ⟨hl, h | ⟨g, cap, cur, rfl, k1, hb, k2⟩⟩ := h1
 · exact ⟨hl, .inl h⟩
 · refine ⟨hl, .inr ⟨g, cap, cur, rfl, k1, (hg.block g (block_lt hb) ?_).trans hb, k2⟩⟩
   intro e
   rcases h2.2 with ⟨rfl, _⟩ | ⟨g', cap', cur', rfl, _, hb', _⟩
   · cases e
   · injection e with e
     have e : g = g' := e
     subst e
     rw [hb] at hb'
     injection hb' with hb'
     injection hb' with _ e2
     exact hne e2
end Go.Proofs.YthhakekbffembaaGreatDoor.Ck.Sh
