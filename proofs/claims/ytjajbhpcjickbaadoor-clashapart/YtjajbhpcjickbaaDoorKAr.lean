/-
  ClashApart's law.
-/
import Derived.Test.YtjajbhpcjickbaaDoorKAq

namespace Go.Proofs.YtjajbhpcjickbaaDoor.Ck.Sh
open Go.RowKit Go.Lib Go.Maps

attribute [local go_sem] Oper.semAt_some

/-- What the law has gathered of the first i. -/
structure Gath (w wr : World) (va vb : Value) (m : Nat) (a : List (Int × Int)) (b : List (List UInt8)) : Prop where
  ap : AP a b
  sz : a.length = m
  ra : wr.ownsRow w.heap.size 29 2 va m (idsC a)
  rb : wr.ownsRow w.heap.size 9 1 vb m (strs b)
  bel : Below w.heap.size w wr
theorem Gath.below {w wr W : World} {va vb : Value} {m : Nat} {a : List (Int × Int)} {b : List (List UInt8)} (h : Gath w wr va vb m a b) (hb : Below wr.heap.size wr W) : Gath w W va vb m a b :=
  ⟨h.ap, h.sz, own_below h.ra hb, own_below h.rb hb, below_then h.bel hb⟩
theorem Gath.ids {w wr : World} {pa : Option Addr} {ca : Nat} {vb : Value} {m : Nat} {a : List (Int × Int)} {b : List (List UInt8)} (h : Gath w wr (.slice pa m ca) vb m a b) : Ids wr pa a := by
  obtain ⟨p, c, e, hcs⟩ := Cs.of_own h.ra
  injection e with e1 e2 e3
  subst e1
  exact ids_of_cs hcs
theorem Gath.nms {w wr : World} {pb : Option Addr} {cb : Nat} {va : Value} {m : Nat} {a : List (Int × Int)} {b : List (List UInt8)} (h : Gath w wr va (.slice pb m cb) m a b) : Nms wr pb b := by
  obtain ⟨p, c, e, hcs⟩ := Cs.of_own h.rb
  injection e with e1 e2 e3
  subst e1
  exact nms_of_cs hcs
theorem Gath.caps {w wr : World} {pa pb : Option Addr} {ca cb : Nat} {m : Nat} {a : List (Int × Int)} {b : List (List UInt8)} (h : Gath w wr (.slice pa m ca) (.slice pb m cb) m a b) : m ≤ ca ∧ m ≤ cb := by
  obtain ⟨p, c, e, h1⟩ := own_slice h.ra
  obtain ⟨p', c', e', h2⟩ := own_slice h.rb
  injection e with _ _ e3
  injection e' with _ _ e3'
  omega
theorem not_mem_of {a : List (Int × Int)} {x : Int × Int} (h : ∀ j, j < a.length → idA a j ≠ x) : x ∉ a := fun hm => by
  obtain ⟨j, hj⟩ := List.getElem?_of_mem hm
  have hl := (List.getElem?_eq_some_iff.1 hj).1
  have := idA_of hl
  rw [hj] at this
  injection this with this
  exact h j hl this.symm

set_option maxRecDepth 8000 in
set_option maxRecDepth 8000 in
set_option maxHeartbeats 8000000 in
theorem apart_law (ids : List (Int × Int)) (names : List (List UInt8)) (p1 p2 : Option Addr) (c1 c2 : Nat) (w : World) (hL : Lb w) (h1 : Ids w p1 ids) (h2 : Nms w p2 names) (hnm : ∀ x ∈ names, x.length ≤ 150000000000000) :
    Calls Tryd.prog 4 #[.slice p1 ids.length c1, .slice p2 names.length c2] w fun e w' => e = .returned (.bool true) ∧ Below w.heap.size w w' := by
  have cb := fun W (hW : Lb W) => begun_any W hW
  have HL := Lib.hid hL
  have H1 := Lib.hid h1
  have H2 := Lib.hid h2
  have HNM := Lib.hid hnm
  clear hL h1 h2 hnm
  obtain ⟨L1, hl1⟩ : ∃ L1, ids.length = L1 := ⟨_, rfl⟩
  obtain ⟨L2, hl2⟩ : ∃ L2, names.length = L2 := ⟨_, rfl⟩
  rw [hl1, hl2]
  have HQ := Lib.hid (And.intro hl1 hl2)
  clear hl1 hl2
  go_enter Tryd.func4, Tryd.ntmps4
  go_wp2_with (go_at_call 7; refine (cb _ HL.out).mono ?_; rintro e w2 ⟨rfl, hb2⟩; have B2 := Lib.hid hb2; clear hb2 cb)
  go_loopw [6, 7, 8] (fun va vb ii wr => ∃ (i m : Nat) (pa pb : Option Addr) (ca cb : Nat) (a : List (Int × Int)) (b : List (List UInt8)), ii = .int .i64 i ∧ i ≤ 12 ∧ m ≤ i ∧ va = .slice pa m ca ∧ vb = .slice pb m cb ∧ Hid (Gath w wr va vb m a b)) (fun _ _ ii _ => 12 - (RowKit.intOf ii).toNat)
  case atStart => exact ⟨0, 0, none, none, 0, 0, [], [], rfl, by decide, Nat.le_refl _, rfl, rfl, AP.nil, rfl, ⟨rfl, .inl ⟨rfl, rfl⟩⟩, ⟨rfl, .inl ⟨rfl, rfl⟩⟩, B2.out⟩
  case round =>
    obtain ⟨i, m, pa, pb, ca, cb, a, b, rfl, hi, hmi, rfl, rfl, HG⟩ := hrel
    rename World => wo
    by_cases hgo : i < L1 ∧ i < L2 ∧ i < 12
    · obtain ⟨g1, g2, g3⟩ := hgo
      have g1I : (i : Int) < (L1 : Int) := by omega
      have g2I : (i : Int) < (L2 : Int) := by omega
      have g3I : (i : Int) < 12 := by omega
      obtain ⟨gi, oi, rfl, q1w, q2w⟩ := H1.out i _ (idA_of (by rw [HQ.out.1]; omega))
      obtain ⟨gn, on, rfl, q3w⟩ := H2.out i _ (nmA_of (by rw [HQ.out.2]; omega))
      have hnl : (nmA names i).length ≤ 150000000000000 := HNM.out _ (List.mem_of_getElem? (nmA_of (by rw [HQ.out.2]; omega)))
      obtain ⟨t, ht⟩ : ∃ t, (idA ids i).1 = t := ⟨_, rfl⟩
      obtain ⟨u, hu⟩ : ∃ u, (idA ids i).2 = u := ⟨_, rfl⟩
      rw [ht] at q1w
      rw [hu] at q2w
      generalize nmA names i = nm at q3w hnl
      have HQ1 := Lib.hid q1w
      have HQ2 := Lib.hid q2w
      have HQ3 := Lib.hid q3w
      have q1 := cell_kept q1w HG.out.bel
      have q2 := cell_kept q2w HG.out.bel
      have q3 := cell_kept q3w HG.out.bel
      have cv := fun W => rvalid_any t u W
      have cn := fun W => rname_any nm W (by omega)
      have cm := fun (x y : Int) W => same_any x y t u W
      clear ht hu hnl q1w q2w q3w
      cases hv : validB t u with
      | false =>
        rw [hv] at cv
        clear hv cn
        go_wp2_with (go_at_call 10; refine Calls_new (cv _) ?_; intro w3 HB3)
        go_loopw [9, 10] (fun ok kk wr => ∃ (k : Nat) (q : Bool), ok = .bool q ∧ kk = .int .i64 k ∧ k ≤ m ∧ Hid ((q = true → validB t u = true ∧ nameN nm = 0 ∧ ∀ j, j < k → idA a j ≠ (t, u)) ∧ Below wo.heap.size wo wr)) (fun _ kk _ => m - (RowKit.intOf kk).toNat)
        case atStart => exact ⟨0, false, rfl, rfl, Nat.zero_le _, (fun h => by cases h), HB3.out⟩
        case round =>
          obtain ⟨k, q, rfl, rfl, hk, HK⟩ := hrel
          rename World => wk
          cases q with
          | false =>
            by_cases hkm : (k : Int) < (m : Int)
            · go_wp2_with fail
              exact ⟨⟨i + 1, m, pa, pb, ca, cb, a, b, by simp, by omega, by omega, rfl, rfl, HG.out.below HK.out.2⟩, by simp [RowKit.intOf]; omega⟩
            · go_wp2_with fail
              exact ⟨⟨i + 1, m, pa, pb, ca, cb, a, b, by simp, by omega, by omega, rfl, rfl, HG.out.below HK.out.2⟩, by simp [RowKit.intOf]; omega⟩
          | true =>
            have HK1 := Lib.hid (HK.out.1 rfl)
            have HK2 := Lib.hid HK.out.2
            clear HK
            by_cases hkm : k < m
            · have hkI : (k : Int) < (m : Int) := by omega
              obtain ⟨ga, oa, rfl, r1, r2⟩ := (HG.out.below HK2.out).ids k _ (idA_of (by rw [HG.out.sz]; exact hkm))
              have s1 := cell_kept q1 HK2.out
              have s2 := cell_kept q2 HK2.out
              have HSM : Hid (sameB (idA a k).1 (idA a k).2 t u = false → idA a k ≠ (t, u)) := fun h e => by rw [e] at h; simp [sameB] at h
              obtain ⟨x, hx⟩ : ∃ x, (idA a k).1 = x := ⟨_, rfl⟩
              obtain ⟨y, hy⟩ : ∃ y, (idA a k).2 = y := ⟨_, rfl⟩
              rw [hx] at r1 HSM
              rw [hy] at r2 HSM
              have cm' := fun W => cm x y W
              clear hx hy
              generalize sameB x y t u = sm at cm' HSM
              have HS : ∀ W W', (W.cell? ⟨ga, oa + k * 2, none⟩ = some (.int .i64 x) ∧ W.cell? ⟨ga, oa + k * 2 + 1, none⟩ = some (.int .i64 y) ∧ W.cell? ⟨gi, oi + i * 2, none⟩ = some (.int .i64 t) ∧ W.cell? ⟨gi, oi + i * 2 + 1, none⟩ = some (.int .i64 u) ∧ Hid (Below wk.heap.size wk W)) → Hid (Below W.heap.size W W') → W'.cell? ⟨ga, oa + k * 2, none⟩ = some (.int .i64 x) ∧ W'.cell? ⟨ga, oa + k * 2 + 1, none⟩ = some (.int .i64 y) ∧ W'.cell? ⟨gi, oi + i * 2, none⟩ = some (.int .i64 t) ∧ W'.cell? ⟨gi, oi + i * 2 + 1, none⟩ = some (.int .i64 u) ∧ Hid (Below wk.heap.size wk W') := fun W W' h1 h2 =>
                have hb := below_then h1.2.2.2.2.out h2.out
                ⟨cell_kept r1 hb, cell_kept r2 hb, cell_kept s1 hb, cell_kept s2 hb, hb⟩
              have S1 : wk.drew.cell? ⟨ga, oa + k * 2, none⟩ = some (.int .i64 x) ∧ wk.drew.cell? ⟨ga, oa + k * 2 + 1, none⟩ = some (.int .i64 y) ∧ wk.drew.cell? ⟨gi, oi + i * 2, none⟩ = some (.int .i64 t) ∧ wk.drew.cell? ⟨gi, oi + i * 2 + 1, none⟩ = some (.int .i64 u) ∧ Hid (Below wk.heap.size wk wk.drew) := ⟨r1, r2, s1, s2, below_drewN wk 1⟩
              have S2 : wk.cell? ⟨ga, oa + k * 2, none⟩ = some (.int .i64 x) ∧ wk.cell? ⟨ga, oa + k * 2 + 1, none⟩ = some (.int .i64 y) ∧ wk.cell? ⟨gi, oi + i * 2, none⟩ = some (.int .i64 t) ∧ wk.cell? ⟨gi, oi + i * 2 + 1, none⟩ = some (.int .i64 u) ∧ Hid (Below wk.heap.size wk wk) := ⟨r1, r2, s1, s2, Below.refl _ _⟩
              have HF : ∀ W, (W.cell? ⟨ga, oa + k * 2, none⟩ = some (.int .i64 x) ∧ W.cell? ⟨ga, oa + k * 2 + 1, none⟩ = some (.int .i64 y) ∧ W.cell? ⟨gi, oi + i * 2, none⟩ = some (.int .i64 t) ∧ W.cell? ⟨gi, oi + i * 2 + 1, none⟩ = some (.int .i64 u) ∧ Hid (Below wk.heap.size wk W)) → Below wk.heap.size wk W := fun W hW => hW.2.2.2.2.out
              go_wp2_with fail
              go_region_held3 (fun W => W.cell? ⟨ga, oa + k * 2, none⟩ = some (.int .i64 x) ∧ W.cell? ⟨ga, oa + k * 2 + 1, none⟩ = some (.int .i64 y) ∧ W.cell? ⟨gi, oi + i * 2, none⟩ = some (.int .i64 t) ∧ W.cell? ⟨gi, oi + i * 2 + 1, none⟩ = some (.int .i64 u) ∧ Hid (Below wk.heap.size wk W))
                (first | exact S1 | exact S2 | assumption | exact HS _ _ (by assumption) (by assumption))
                (first | (go_at_call 12; refine Calls_new (cm' _) ?_; intro w5 HB5))
              have HW := Lib.hid (HF w5 (by assumption))
              go_wp2_with fail
              exact ⟨⟨k + 1, !sm, rfl, by simp, by omega, fun h => ⟨HK1.out.1, HK1.out.2.1, fun j hj => by
                by_cases hjk : j = k
                · subst hjk; exact HSM.out (by simpa using h)
                · exact HK1.out.2.2 j (by omega)⟩, below_then HK2.out HW.out⟩, by simp [RowKit.intOf]; omega⟩
            · obtain rfl : m = k := by omega
              have hkI : ¬ (m : Int) < (m : Int) := by omega
              have HG2 := Lib.hid (HG.out.below HK2.out)
              have HA1 := happI t u HG2.out.ra HG2.out.bel.size (by omega)
              have HB1 := Lib.hid (own_below HG2.out.rb (below_new wk (.cells #[.int .i64 t, .int .i64 u] 29)).out)
              have s1 := cell_kept q1 HK2.out
              have s2 := cell_kept q2 HK2.out
              go_wp2_with (first
                | (at_builtin; refine wpList_appG rfl _ _ rfl Tryd.underlying22 ti_id w.heap.size (.slice pa m ca) m 1 (idsC a) [.int .i64 t, .int .i64 u] (some ⟨wk.heap.size, 0, none⟩) 1 rfl rfl HA1 ?_
                   intro p5 c5 w5 H5
                   have B5 := Lib.hid (grown_low (below_then HG2.out.bel (below_new wk (.cells #[.int .i64 t, .int .i64 u] 29)).out) HA1.out.1 H5.out.2 (Nat.le_refl _))
                   have RB5 := Lib.hid (own_other HB1.out HA1.out.1 (by decide) H5.out.2)
                   have HA2 := happ (bas nm) RB5.out B5.out.size (by omega)
                   have RA5 := Lib.hid (own_below H5.out.1 (below_new w5 (.cells #[.string (bas nm)] 9)).out)
                   have q3c := cell_kept HQ3.out B5.out
                   clear HA1 HB1)
                | (at_builtin; refine wpList_appG rfl _ _ rfl Tryd.underlying23 ti_str w.heap.size (.slice pb m cb) m 1 (strs b) [.string (bas nm)] (some ⟨w5.heap.size, 0, none⟩) 1 rfl rfl HA2 ?_
                   intro p6 c6 w6 H6
                   have B6 := Lib.hid (grown_low (below_then B5.out (below_new w5 (.cells #[.string (bas nm)] 9)).out) HA2.out.1 H6.out.2 (Nat.le_refl _))
                   have RA6 := Lib.hid (own_other RA5.out HA2.out.1 (by decide) H6.out.2)
                   clear HA2))
              exact ⟨⟨i + 1, m + 1, p5, p6, c5, c6, a ++ [(t, u)], b ++ [nm], by simp, by omega, by omega, rfl, rfl, HG.out.ap.add HK1.out.1 HK1.out.2.1 (not_mem_of (by rw [HG.out.sz]; exact HK1.out.2.2)), by simp [HG.out.sz], by rw [idsC_append]; exact RA6.out, by unfold strs; rw [List.map_append]; exact H6.out.1, B6.out⟩, by simp [RowKit.intOf]; omega⟩
      | true =>
        rw [hv] at cv
        by_cases hnn : nameN nm = 0
        · have HV : Hid (validB t u = true ∧ nameN nm = 0) := ⟨hv, hnn⟩
          rw [hnn] at cn
          clear hv hnn
          go_wp2_with (first | (go_at_call 10; refine Calls_new (cv _) ?_; intro w3 HB3; have q3b := cell_kept q3 HB3.out; clear cv) | (go_at_call 11; refine Calls_on (cn _) ?_))
          go_loopw [9, 10] (fun ok kk wr => ∃ (k : Nat) (q : Bool), ok = .bool q ∧ kk = .int .i64 k ∧ k ≤ m ∧ Hid ((q = true → validB t u = true ∧ nameN nm = 0 ∧ ∀ j, j < k → idA a j ≠ (t, u)) ∧ Below wo.heap.size wo wr)) (fun _ kk _ => m - (RowKit.intOf kk).toNat)
          case atStart => exact ⟨0, true, rfl, rfl, Nat.zero_le _, fun _ => ⟨HV.out.1, HV.out.2, fun j hj => by omega⟩, HB3.out⟩
          case round =>
            obtain ⟨k, q, rfl, rfl, hk, HK⟩ := hrel
            rename World => wk
            cases q with
            | false =>
              by_cases hkm : (k : Int) < (m : Int)
              · go_wp2_with fail
                exact ⟨⟨i + 1, m, pa, pb, ca, cb, a, b, by simp, by omega, by omega, rfl, rfl, HG.out.below HK.out.2⟩, by simp [RowKit.intOf]; omega⟩
              · go_wp2_with fail
                exact ⟨⟨i + 1, m, pa, pb, ca, cb, a, b, by simp, by omega, by omega, rfl, rfl, HG.out.below HK.out.2⟩, by simp [RowKit.intOf]; omega⟩
            | true =>
              have HK1 := Lib.hid (HK.out.1 rfl)
              have HK2 := Lib.hid HK.out.2
              clear HK
              by_cases hkm : k < m
              · have hkI : (k : Int) < (m : Int) := by omega
                obtain ⟨ga, oa, rfl, r1, r2⟩ := (HG.out.below HK2.out).ids k _ (idA_of (by rw [HG.out.sz]; exact hkm))
                have s1 := cell_kept q1 HK2.out
                have s2 := cell_kept q2 HK2.out
                have HSM : Hid (sameB (idA a k).1 (idA a k).2 t u = false → idA a k ≠ (t, u)) := fun h e => by rw [e] at h; simp [sameB] at h
                obtain ⟨x, hx⟩ : ∃ x, (idA a k).1 = x := ⟨_, rfl⟩
                obtain ⟨y, hy⟩ : ∃ y, (idA a k).2 = y := ⟨_, rfl⟩
                rw [hx] at r1 HSM
                rw [hy] at r2 HSM
                have cm' := fun W => cm x y W
                clear hx hy
                generalize sameB x y t u = sm at cm' HSM
                have HS : ∀ W W', (W.cell? ⟨ga, oa + k * 2, none⟩ = some (.int .i64 x) ∧ W.cell? ⟨ga, oa + k * 2 + 1, none⟩ = some (.int .i64 y) ∧ W.cell? ⟨gi, oi + i * 2, none⟩ = some (.int .i64 t) ∧ W.cell? ⟨gi, oi + i * 2 + 1, none⟩ = some (.int .i64 u) ∧ Hid (Below wk.heap.size wk W)) → Hid (Below W.heap.size W W') → W'.cell? ⟨ga, oa + k * 2, none⟩ = some (.int .i64 x) ∧ W'.cell? ⟨ga, oa + k * 2 + 1, none⟩ = some (.int .i64 y) ∧ W'.cell? ⟨gi, oi + i * 2, none⟩ = some (.int .i64 t) ∧ W'.cell? ⟨gi, oi + i * 2 + 1, none⟩ = some (.int .i64 u) ∧ Hid (Below wk.heap.size wk W') := fun W W' h1 h2 =>
                  have hb := below_then h1.2.2.2.2.out h2.out
                  ⟨cell_kept r1 hb, cell_kept r2 hb, cell_kept s1 hb, cell_kept s2 hb, hb⟩
                have S1 : wk.drew.cell? ⟨ga, oa + k * 2, none⟩ = some (.int .i64 x) ∧ wk.drew.cell? ⟨ga, oa + k * 2 + 1, none⟩ = some (.int .i64 y) ∧ wk.drew.cell? ⟨gi, oi + i * 2, none⟩ = some (.int .i64 t) ∧ wk.drew.cell? ⟨gi, oi + i * 2 + 1, none⟩ = some (.int .i64 u) ∧ Hid (Below wk.heap.size wk wk.drew) := ⟨r1, r2, s1, s2, below_drewN wk 1⟩
                have S2 : wk.cell? ⟨ga, oa + k * 2, none⟩ = some (.int .i64 x) ∧ wk.cell? ⟨ga, oa + k * 2 + 1, none⟩ = some (.int .i64 y) ∧ wk.cell? ⟨gi, oi + i * 2, none⟩ = some (.int .i64 t) ∧ wk.cell? ⟨gi, oi + i * 2 + 1, none⟩ = some (.int .i64 u) ∧ Hid (Below wk.heap.size wk wk) := ⟨r1, r2, s1, s2, Below.refl _ _⟩
                have HF : ∀ W, (W.cell? ⟨ga, oa + k * 2, none⟩ = some (.int .i64 x) ∧ W.cell? ⟨ga, oa + k * 2 + 1, none⟩ = some (.int .i64 y) ∧ W.cell? ⟨gi, oi + i * 2, none⟩ = some (.int .i64 t) ∧ W.cell? ⟨gi, oi + i * 2 + 1, none⟩ = some (.int .i64 u) ∧ Hid (Below wk.heap.size wk W)) → Below wk.heap.size wk W := fun W hW => hW.2.2.2.2.out
                go_wp2_with fail
                go_region_held3 (fun W => W.cell? ⟨ga, oa + k * 2, none⟩ = some (.int .i64 x) ∧ W.cell? ⟨ga, oa + k * 2 + 1, none⟩ = some (.int .i64 y) ∧ W.cell? ⟨gi, oi + i * 2, none⟩ = some (.int .i64 t) ∧ W.cell? ⟨gi, oi + i * 2 + 1, none⟩ = some (.int .i64 u) ∧ Hid (Below wk.heap.size wk W))
                  (first | exact S1 | exact S2 | assumption | exact HS _ _ (by assumption) (by assumption))
                  (first | (go_at_call 12; refine Calls_new (cm' _) ?_; intro w5 HB5))
                have HW := Lib.hid (HF w5 (by assumption))
                go_wp2_with fail
                exact ⟨⟨k + 1, !sm, rfl, by simp, by omega, fun h => ⟨HK1.out.1, HK1.out.2.1, fun j hj => by
                  by_cases hjk : j = k
                  · subst hjk; exact HSM.out (by simpa using h)
                  · exact HK1.out.2.2 j (by omega)⟩, below_then HK2.out HW.out⟩, by simp [RowKit.intOf]; omega⟩
              · obtain rfl : m = k := by omega
                have hkI : ¬ (m : Int) < (m : Int) := by omega
                have HG2 := Lib.hid (HG.out.below HK2.out)
                have HA1 := happI t u HG2.out.ra HG2.out.bel.size (by omega)
                have HB1 := Lib.hid (own_below HG2.out.rb (below_new wk (.cells #[.int .i64 t, .int .i64 u] 29)).out)
                have s1 := cell_kept q1 HK2.out
                have s2 := cell_kept q2 HK2.out
                go_wp2_with (first
                  | (at_builtin; refine wpList_appG rfl _ _ rfl Tryd.underlying22 ti_id w.heap.size (.slice pa m ca) m 1 (idsC a) [.int .i64 t, .int .i64 u] (some ⟨wk.heap.size, 0, none⟩) 1 rfl rfl HA1 ?_
                     intro p5 c5 w5 H5
                     have B5 := Lib.hid (grown_low (below_then HG2.out.bel (below_new wk (.cells #[.int .i64 t, .int .i64 u] 29)).out) HA1.out.1 H5.out.2 (Nat.le_refl _))
                     have RB5 := Lib.hid (own_other HB1.out HA1.out.1 (by decide) H5.out.2)
                     have HA2 := happ (bas nm) RB5.out B5.out.size (by omega)
                     have RA5 := Lib.hid (own_below H5.out.1 (below_new w5 (.cells #[.string (bas nm)] 9)).out)
                     have q3c := cell_kept HQ3.out B5.out
                     clear HA1 HB1)
                  | (at_builtin; refine wpList_appG rfl _ _ rfl Tryd.underlying23 ti_str w.heap.size (.slice pb m cb) m 1 (strs b) [.string (bas nm)] (some ⟨w5.heap.size, 0, none⟩) 1 rfl rfl HA2 ?_
                     intro p6 c6 w6 H6
                     have B6 := Lib.hid (grown_low (below_then B5.out (below_new w5 (.cells #[.string (bas nm)] 9)).out) HA2.out.1 H6.out.2 (Nat.le_refl _))
                     have RA6 := Lib.hid (own_other RA5.out HA2.out.1 (by decide) H6.out.2)
                     clear HA2))
                exact ⟨⟨i + 1, m + 1, p5, p6, c5, c6, a ++ [(t, u)], b ++ [nm], by simp, by omega, by omega, rfl, rfl, HG.out.ap.add HK1.out.1 HK1.out.2.1 (not_mem_of (by rw [HG.out.sz]; exact HK1.out.2.2)), by simp [HG.out.sz], by rw [idsC_append]; exact RA6.out, by unfold strs; rw [List.map_append]; exact H6.out.1, B6.out⟩, by simp [RowKit.intOf]; omega⟩
        · generalize nameN nm = zz at cn hnn
          have hz1 : (zz == 0) = false := by simpa using hnn
          clear hv
          go_wp2_with (first | (go_at_call 10; refine Calls_new (cv _) ?_; intro w3 HB3; have q3b := cell_kept q3 HB3.out; clear cv) | (go_at_call 11; refine Calls_on (cn _) ?_))
          go_loopw [9, 10] (fun ok kk wr => ∃ (k : Nat) (q : Bool), ok = .bool q ∧ kk = .int .i64 k ∧ k ≤ m ∧ Hid ((q = true → validB t u = true ∧ nameN nm = 0 ∧ ∀ j, j < k → idA a j ≠ (t, u)) ∧ Below wo.heap.size wo wr)) (fun _ kk _ => m - (RowKit.intOf kk).toNat)
          case atStart => exact ⟨0, false, rfl, rfl, Nat.zero_le _, (fun h => by cases h), HB3.out⟩
          case round =>
            obtain ⟨k, q, rfl, rfl, hk, HK⟩ := hrel
            rename World => wk
            cases q with
            | false =>
              by_cases hkm : (k : Int) < (m : Int)
              · go_wp2_with fail
                exact ⟨⟨i + 1, m, pa, pb, ca, cb, a, b, by simp, by omega, by omega, rfl, rfl, HG.out.below HK.out.2⟩, by simp [RowKit.intOf]; omega⟩
              · go_wp2_with fail
                exact ⟨⟨i + 1, m, pa, pb, ca, cb, a, b, by simp, by omega, by omega, rfl, rfl, HG.out.below HK.out.2⟩, by simp [RowKit.intOf]; omega⟩
            | true =>
              have HK1 := Lib.hid (HK.out.1 rfl)
              have HK2 := Lib.hid HK.out.2
              clear HK
              by_cases hkm : k < m
              · have hkI : (k : Int) < (m : Int) := by omega
                obtain ⟨ga, oa, rfl, r1, r2⟩ := (HG.out.below HK2.out).ids k _ (idA_of (by rw [HG.out.sz]; exact hkm))
                have s1 := cell_kept q1 HK2.out
                have s2 := cell_kept q2 HK2.out
                have HSM : Hid (sameB (idA a k).1 (idA a k).2 t u = false → idA a k ≠ (t, u)) := fun h e => by rw [e] at h; simp [sameB] at h
                obtain ⟨x, hx⟩ : ∃ x, (idA a k).1 = x := ⟨_, rfl⟩
                obtain ⟨y, hy⟩ : ∃ y, (idA a k).2 = y := ⟨_, rfl⟩
                rw [hx] at r1 HSM
                rw [hy] at r2 HSM
                have cm' := fun W => cm x y W
                clear hx hy
                generalize sameB x y t u = sm at cm' HSM
                have HS : ∀ W W', (W.cell? ⟨ga, oa + k * 2, none⟩ = some (.int .i64 x) ∧ W.cell? ⟨ga, oa + k * 2 + 1, none⟩ = some (.int .i64 y) ∧ W.cell? ⟨gi, oi + i * 2, none⟩ = some (.int .i64 t) ∧ W.cell? ⟨gi, oi + i * 2 + 1, none⟩ = some (.int .i64 u) ∧ Hid (Below wk.heap.size wk W)) → Hid (Below W.heap.size W W') → W'.cell? ⟨ga, oa + k * 2, none⟩ = some (.int .i64 x) ∧ W'.cell? ⟨ga, oa + k * 2 + 1, none⟩ = some (.int .i64 y) ∧ W'.cell? ⟨gi, oi + i * 2, none⟩ = some (.int .i64 t) ∧ W'.cell? ⟨gi, oi + i * 2 + 1, none⟩ = some (.int .i64 u) ∧ Hid (Below wk.heap.size wk W') := fun W W' h1 h2 =>
                  have hb := below_then h1.2.2.2.2.out h2.out
                  ⟨cell_kept r1 hb, cell_kept r2 hb, cell_kept s1 hb, cell_kept s2 hb, hb⟩
                have S1 : wk.drew.cell? ⟨ga, oa + k * 2, none⟩ = some (.int .i64 x) ∧ wk.drew.cell? ⟨ga, oa + k * 2 + 1, none⟩ = some (.int .i64 y) ∧ wk.drew.cell? ⟨gi, oi + i * 2, none⟩ = some (.int .i64 t) ∧ wk.drew.cell? ⟨gi, oi + i * 2 + 1, none⟩ = some (.int .i64 u) ∧ Hid (Below wk.heap.size wk wk.drew) := ⟨r1, r2, s1, s2, below_drewN wk 1⟩
                have S2 : wk.cell? ⟨ga, oa + k * 2, none⟩ = some (.int .i64 x) ∧ wk.cell? ⟨ga, oa + k * 2 + 1, none⟩ = some (.int .i64 y) ∧ wk.cell? ⟨gi, oi + i * 2, none⟩ = some (.int .i64 t) ∧ wk.cell? ⟨gi, oi + i * 2 + 1, none⟩ = some (.int .i64 u) ∧ Hid (Below wk.heap.size wk wk) := ⟨r1, r2, s1, s2, Below.refl _ _⟩
                have HF : ∀ W, (W.cell? ⟨ga, oa + k * 2, none⟩ = some (.int .i64 x) ∧ W.cell? ⟨ga, oa + k * 2 + 1, none⟩ = some (.int .i64 y) ∧ W.cell? ⟨gi, oi + i * 2, none⟩ = some (.int .i64 t) ∧ W.cell? ⟨gi, oi + i * 2 + 1, none⟩ = some (.int .i64 u) ∧ Hid (Below wk.heap.size wk W)) → Below wk.heap.size wk W := fun W hW => hW.2.2.2.2.out
                go_wp2_with fail
                go_region_held3 (fun W => W.cell? ⟨ga, oa + k * 2, none⟩ = some (.int .i64 x) ∧ W.cell? ⟨ga, oa + k * 2 + 1, none⟩ = some (.int .i64 y) ∧ W.cell? ⟨gi, oi + i * 2, none⟩ = some (.int .i64 t) ∧ W.cell? ⟨gi, oi + i * 2 + 1, none⟩ = some (.int .i64 u) ∧ Hid (Below wk.heap.size wk W))
                  (first | exact S1 | exact S2 | assumption | exact HS _ _ (by assumption) (by assumption))
                  (first | (go_at_call 12; refine Calls_new (cm' _) ?_; intro w5 HB5))
                have HW := Lib.hid (HF w5 (by assumption))
                go_wp2_with fail
                exact ⟨⟨k + 1, !sm, rfl, by simp, by omega, fun h => ⟨HK1.out.1, HK1.out.2.1, fun j hj => by
                  by_cases hjk : j = k
                  · subst hjk; exact HSM.out (by simpa using h)
                  · exact HK1.out.2.2 j (by omega)⟩, below_then HK2.out HW.out⟩, by simp [RowKit.intOf]; omega⟩
              · obtain rfl : m = k := by omega
                have hkI : ¬ (m : Int) < (m : Int) := by omega
                have HG2 := Lib.hid (HG.out.below HK2.out)
                have HA1 := happI t u HG2.out.ra HG2.out.bel.size (by omega)
                have HB1 := Lib.hid (own_below HG2.out.rb (below_new wk (.cells #[.int .i64 t, .int .i64 u] 29)).out)
                have s1 := cell_kept q1 HK2.out
                have s2 := cell_kept q2 HK2.out
                go_wp2_with (first
                  | (at_builtin; refine wpList_appG rfl _ _ rfl Tryd.underlying22 ti_id w.heap.size (.slice pa m ca) m 1 (idsC a) [.int .i64 t, .int .i64 u] (some ⟨wk.heap.size, 0, none⟩) 1 rfl rfl HA1 ?_
                     intro p5 c5 w5 H5
                     have B5 := Lib.hid (grown_low (below_then HG2.out.bel (below_new wk (.cells #[.int .i64 t, .int .i64 u] 29)).out) HA1.out.1 H5.out.2 (Nat.le_refl _))
                     have RB5 := Lib.hid (own_other HB1.out HA1.out.1 (by decide) H5.out.2)
                     have HA2 := happ (bas nm) RB5.out B5.out.size (by omega)
                     have RA5 := Lib.hid (own_below H5.out.1 (below_new w5 (.cells #[.string (bas nm)] 9)).out)
                     have q3c := cell_kept HQ3.out B5.out
                     clear HA1 HB1)
                  | (at_builtin; refine wpList_appG rfl _ _ rfl Tryd.underlying23 ti_str w.heap.size (.slice pb m cb) m 1 (strs b) [.string (bas nm)] (some ⟨w5.heap.size, 0, none⟩) 1 rfl rfl HA2 ?_
                     intro p6 c6 w6 H6
                     have B6 := Lib.hid (grown_low (below_then B5.out (below_new w5 (.cells #[.string (bas nm)] 9)).out) HA2.out.1 H6.out.2 (Nat.le_refl _))
                     have RA6 := Lib.hid (own_other RA5.out HA2.out.1 (by decide) H6.out.2)
                     clear HA2))
                exact ⟨⟨i + 1, m + 1, p5, p6, c5, c6, a ++ [(t, u)], b ++ [nm], by simp, by omega, by omega, rfl, rfl, HG.out.ap.add HK1.out.1 HK1.out.2.1 (not_mem_of (by rw [HG.out.sz]; exact HK1.out.2.2)), by simp [HG.out.sz], by rw [idsC_append]; exact RA6.out, by unfold strs; rw [List.map_append]; exact H6.out.1, B6.out⟩, by simp [RowKit.intOf]; omega⟩
    · have hex : (¬ i < L1) ∨ (i < L1 ∧ ¬ i < L2) ∨ (i < L1 ∧ i < L2 ∧ ¬ i < 12) := by omega
      have hmn : min a.length b.length = m := by rw [← HG.out.ap.len, HG.out.sz]; omega
      have cs : ∀ W, Below wo.heap.size wo W → Calls Tryd.prog 8 #[.slice pa m ca, .slice pb m cb] W fun e w' => ∃ p, e = .returned (.slice p m m) ∧ Nms w' p (shownL a b m) ∧ Below W.heap.size W w' := fun W hb => by
        have G := HG.out.below hb
        have := shown_any a b pa pb ca cb W (HL.out.below G.bel) G.ids G.nms (by rw [HG.out.sz]; exact G.caps.1) (by rw [← HG.out.ap.len, HG.out.sz]; exact G.caps.2) (by rw [HG.out.sz]; omega) HG.out.ap.ins HG.out.ap.lens
        rw [hmn, HG.out.sz, ← HG.out.ap.len, HG.out.sz] at this
        exact this.mono fun e w' ⟨p, he, h⟩ => ⟨p, he, h.out.1, h.out.2⟩
      have HAP := Lib.hid HG.out.ap
      have HSZ := Lib.hid HG.out.sz
      clear hmn hgo
      rcases hex with h | ⟨h, h'⟩ | ⟨h, h', h''⟩
      · have hI : ¬ (i : Int) < (L1 : Int) := by omega
        go_wp2_with (go_at_call 8; refine (cs _ (Below.refl _ _)).mono ?_; rintro e w3 ⟨pl, rfl, hn3, hb3⟩; have HB3 := Lib.hid hb3; have HN3 := Lib.hid hn3; clear hb3 hn3 cs)
        go_loopw [12] (fun ii wr => ∃ (j : Nat), ii = .int .i64 j ∧ j ≤ m ∧ Hid (Nms wr pl (shownL a b m) ∧ Gath w wr (.slice pa m ca) (.slice pb m cb) m a b)) (fun ii _ => m - (RowKit.intOf ii).toNat)
        case atStart => exact ⟨0, rfl, Nat.zero_le _, HN3.out, HG.out.below HB3.out⟩
        case round =>
          obtain ⟨j, rfl, hj, HJ⟩ := hrel
          rename World => wj
          by_cases hjm : j < m
          · have hjI : (j : Int) < (m : Int) := by omega
            go_wp2_with fail
            go_loopw [13] (fun kk wr => ∃ (k : Nat), kk = .int .i64 k ∧ k ≤ j ∧ Hid (Below wj.heap.size wj wr)) (fun kk _ => j - (RowKit.intOf kk).toNat)
            case atStart => exact ⟨0, rfl, Nat.zero_le _, Below.refl _ _⟩
            case round =>
              obtain ⟨k, rfl, hk, HK⟩ := hrel
              rename World => wk
              by_cases hkj : k < j
              · have hkI : (k : Int) < (j : Int) := by omega
                have hkM : (k : Int) < (m : Int) := by omega
                obtain ⟨gl, ol, rfl, y1⟩ := HJ.out.1 j _ (shown_at a b hjm)
                obtain ⟨g', o', e', y2⟩ := HJ.out.1 k _ (shown_at a b (by omega))
                cases e'
                have z1 := cell_kept y1 HK.out
                have z2 := cell_kept y2 HK.out
                have hap : shownAt a b m j ≠ shownAt a b m k := by have e := HAP.out.apart (i := j) (k := k) (by rw [HSZ.out]; exact hjm) hkj; rw [HSZ.out] at e; exact e
                have qq : ((bas (shownAt a b m j)).toList == (bas (shownAt a b m k)).toList) = false := by rw [bas_beq]; exact decide_eq_false hap
                clear y1 y2 hap
                generalize shownAt a b m j = sj at *
                generalize shownAt a b m k = sk at *
                go_wp2_with fail
                go_quiet (fail)
                go_wp2_with fail
                exact ⟨⟨k + 1, by simp, by omega, below_then HK.out (below_drewN wk _)⟩, by simp [RowKit.intOf]; omega⟩
              · obtain rfl : j = k := by omega
                have hkI : ¬ (j : Int) < (j : Int) := by omega
                obtain ⟨gl, ol, rfl, y1⟩ := HJ.out.1 j _ (shown_at a b hjm)
                obtain ⟨gb, ob, rfl, y3⟩ := HJ.out.2.nms j _ (nmA_of (by rw [← HAP.out.len, HSZ.out]; exact hjm))
                obtain ⟨ga, oa, rfl, y4, y5⟩ := HJ.out.2.ids j _ (idA_of (by rw [HSZ.out]; exact hjm))
                have z1 := cell_kept y1 HK.out
                have hsl : (shownAt a b m j).length < 1000 := by have e := HAP.out.len_shown (i := j) (by rw [HSZ.out]; exact hjm); rw [HSZ.out] at e; exact e
                have cp := fun W (hW : Lb W) => split_any (shownAt a b m j) (by omega) W hW
                have HLK := Lib.hid (HL.out.below (below_then HJ.out.2.bel HK.out))
                have HY := Lib.hid (And.intro (cell_kept y1 HK.out) (And.intro (cell_kept y3 HK.out) (And.intro (cell_kept y4 HK.out) (cell_kept y5 HK.out))))
                clear y1 y3 y4 y5 hsl
                cases hkp : keptB a b m j with
                | true =>
                  have hsp : splitP (shownAt a b m j) = none := by have e := HAP.out.split_kept (i := j) (by rw [HSZ.out]; exact hjm) (by rw [HSZ.out]; exact hkp); rw [HSZ.out] at e; exact e
                  have hsh := shown_kept hkp
                  rw [hsp] at cp
                  rw [hsh] at cp z1 HY
                  clear hsp hsh hkp
                  generalize nmA b j = bj at *
                  have cp' : ∀ W, Lb W → Calls Tryd.prog 13 #[.string (bas bj)] W fun e w' => e = .returned (.tuple #[.string (bas bj), idv 0 0, .bool false]) ∧ Below W.heap.size W w' := cp
                  have qq : ((bas bj).toList == (bas bj).toList) = true := by rw [bas_beq]; exact decide_eq_true rfl
                  clear cp
                  go_wp2_with (go_at_call 13
                               refine (cp' _ HLK.out).mono ?_
                               rintro e w6 ⟨rfl, hb6⟩
                               have v1 := cell_kept HY.out.1 hb6
                               have v2 := cell_kept HY.out.2.1 hb6
                               have hg1 := cell_lt v1
                               have hg2 := cell_lt v2
                               have B6 := Lib.hid (below_then HK.out hb6)
                               clear hb6 cp')
                  go_quiet (fail)
                  go_wp2_with fail
                  have HB9 := below_then (below_then B6.out (below_new w6 (.cells #[.int .i64 0, .int .i64 0] 29)).out) (below_drewN _ nq)
                  exact ⟨⟨j + 1, by simp, by omega, HJ.out.1.below HB9, HJ.out.2.below HB9⟩, by simp [RowKit.intOf]; omega⟩
                | false =>
                  have hsp : splitP (shownAt a b m j) = some (nmA b j, (idA a j).1, (idA a j).2) := by have e := HAP.out.split_not (i := j) (by rw [HSZ.out]; exact hjm) (by rw [HSZ.out]; exact hkp); rw [HSZ.out] at e; exact e
                  have hne : shownAt a b m j ≠ nmA b j := by rw [shown_not hkp]; exact suf_ne _ _ _
                  have q1 : ((bas (shownAt a b m j)).toList == (bas (nmA b j)).toList) = false := by rw [bas_beq]; exact decide_eq_false hne
                  rw [hsp] at cp
                  clear hsp hne hkp
                  generalize shownAt a b m j = sj at *
                  generalize nmA b j = bj at *
                  obtain ⟨t, ht⟩ : ∃ t, (idA a j).1 = t := ⟨_, rfl⟩
                  obtain ⟨u, hu⟩ : ∃ u, (idA a j).2 = u := ⟨_, rfl⟩
                  rw [ht] at HY cp
                  rw [hu] at HY cp
                  clear ht hu
                  have cp' : ∀ W, Lb W → Calls Tryd.prog 13 #[.string (bas sj)] W fun e w' => e = .returned (.tuple #[.string (bas bj), idv t u, .bool true]) ∧ Below W.heap.size W w' := cp
                  have cm := fun W => same_any t u t u W
                  have hsm : sameB t u t u = true := by simp [sameB]
                  rw [hsm] at cm
                  have qq : ((bas bj).toList == (bas bj).toList) = true := by rw [bas_beq]; exact decide_eq_true rfl
                  clear cp hsm
                  go_wp2_with (go_at_call 13
                               refine (cp' _ HLK.out).mono ?_
                               rintro e w6 ⟨rfl, hb6⟩
                               have v1 := cell_kept HY.out.1 hb6
                               have v2 := cell_kept HY.out.2.1 hb6
                               have hg1 := cell_lt v1
                               have hg2 := cell_lt v2
                               have B6 := Lib.hid (below_then HK.out hb6)
                               have HV6 := Lib.hid (And.intro (cell_kept HY.out.2.1 hb6) (And.intro (cell_kept HY.out.2.2.1 hb6) (cell_kept HY.out.2.2.2 hb6)))
                               clear hb6 cp')
                  go_quiet (fail)
                  go_wp2_with fail
                  obtain ⟨X, hX⟩ : ∃ X, X = (w6.alloc (.cells #[.int .i64 t, .int .i64 u] 29)).drewN nq := ⟨_, rfl⟩
                  have bX : Below w6.heap.size w6 X := by rw [hX]; exact below_then (below_new w6 _).out (below_drewN _ _)
                  have BX := Lib.hid (below_then B6.out bX)
                  have x1 := cell_kept HV6.out.1 bX
                  have x2 := cell_kept HV6.out.2.1 bX
                  have x3 := cell_kept HV6.out.2.2 bX
                  have ix : IdC X w6.heap.size t u := by rw [hX]; exact (IdC.new w6 t u).below (below_drewN _ _)
                  have x4 := ix.c0
                  have x5 := ix.c1
                  rw [← hX]
                  have HS : ∀ W W', (W.cell? ⟨gb, ob + j, none⟩ = some (.string (bas bj)) ∧ W.cell? ⟨ga, oa + j * 2, none⟩ = some (.int .i64 t) ∧ W.cell? ⟨ga, oa + j * 2 + 1, none⟩ = some (.int .i64 u) ∧ W.cell? ⟨w6.heap.size, 0, none⟩ = some (.int .i64 t) ∧ W.cell? ⟨w6.heap.size, 1, none⟩ = some (.int .i64 u) ∧ Hid (Below X.heap.size X W)) → Hid (Below W.heap.size W W') → W'.cell? ⟨gb, ob + j, none⟩ = some (.string (bas bj)) ∧ W'.cell? ⟨ga, oa + j * 2, none⟩ = some (.int .i64 t) ∧ W'.cell? ⟨ga, oa + j * 2 + 1, none⟩ = some (.int .i64 u) ∧ W'.cell? ⟨w6.heap.size, 0, none⟩ = some (.int .i64 t) ∧ W'.cell? ⟨w6.heap.size, 1, none⟩ = some (.int .i64 u) ∧ Hid (Below X.heap.size X W') := fun W W' h1 h2 =>
                    have hb := below_then h1.2.2.2.2.2.out h2.out
                    ⟨cell_kept x1 hb, cell_kept x2 hb, cell_kept x3 hb, cell_kept x4 hb, cell_kept x5 hb, hb⟩
                  have S1 : X.drew.cell? ⟨gb, ob + j, none⟩ = some (.string (bas bj)) ∧ X.drew.cell? ⟨ga, oa + j * 2, none⟩ = some (.int .i64 t) ∧ X.drew.cell? ⟨ga, oa + j * 2 + 1, none⟩ = some (.int .i64 u) ∧ X.drew.cell? ⟨w6.heap.size, 0, none⟩ = some (.int .i64 t) ∧ X.drew.cell? ⟨w6.heap.size, 1, none⟩ = some (.int .i64 u) ∧ Hid (Below X.heap.size X X.drew) := ⟨x1, x2, x3, x4, x5, below_drewN X 1⟩
                  have S2 : X.cell? ⟨gb, ob + j, none⟩ = some (.string (bas bj)) ∧ X.cell? ⟨ga, oa + j * 2, none⟩ = some (.int .i64 t) ∧ X.cell? ⟨ga, oa + j * 2 + 1, none⟩ = some (.int .i64 u) ∧ X.cell? ⟨w6.heap.size, 0, none⟩ = some (.int .i64 t) ∧ X.cell? ⟨w6.heap.size, 1, none⟩ = some (.int .i64 u) ∧ Hid (Below X.heap.size X X) := ⟨x1, x2, x3, x4, x5, Below.refl _ _⟩
                  have HF : ∀ W, (W.cell? ⟨gb, ob + j, none⟩ = some (.string (bas bj)) ∧ W.cell? ⟨ga, oa + j * 2, none⟩ = some (.int .i64 t) ∧ W.cell? ⟨ga, oa + j * 2 + 1, none⟩ = some (.int .i64 u) ∧ W.cell? ⟨w6.heap.size, 0, none⟩ = some (.int .i64 t) ∧ W.cell? ⟨w6.heap.size, 1, none⟩ = some (.int .i64 u) ∧ Hid (Below X.heap.size X W)) → Below X.heap.size X W := fun W hW => hW.2.2.2.2.2.out
                  clear hX bX ix x1 x2 x3 x4 x5
                  go_region_held3 (fun W => W.cell? ⟨gb, ob + j, none⟩ = some (.string (bas bj)) ∧ W.cell? ⟨ga, oa + j * 2, none⟩ = some (.int .i64 t) ∧ W.cell? ⟨ga, oa + j * 2 + 1, none⟩ = some (.int .i64 u) ∧ W.cell? ⟨w6.heap.size, 0, none⟩ = some (.int .i64 t) ∧ W.cell? ⟨w6.heap.size, 1, none⟩ = some (.int .i64 u) ∧ Hid (Below X.heap.size X W))
                    (first | exact S1 | exact S2 | assumption | exact HS _ _ (by assumption) (by assumption))
                    (first | (go_at_call 12; refine Calls_new (cm _) ?_; intro w7 HB7))
                  have HW := below_then BX.out (HF w7 (by assumption))
                  go_wp2_with fail
                  exact ⟨⟨j + 1, by simp, by omega, HJ.out.1.below HW, HJ.out.2.below HW⟩, by simp [RowKit.intOf]; omega⟩
          · obtain rfl : m = j := by omega
            go_wp2_with fail
            go_ret
            exact ⟨rfl, HJ.out.2.bel⟩
      · have hI : (i : Int) < (L1 : Int) := by omega
        have hJ : ¬ (i : Int) < (L2 : Int) := by omega
        go_wp2_with (go_at_call 8; refine (cs _ (Below.refl _ _)).mono ?_; rintro e w3 ⟨pl, rfl, hn3, hb3⟩; have HB3 := Lib.hid hb3; have HN3 := Lib.hid hn3; clear hb3 hn3 cs)
        go_loopw [12] (fun ii wr => ∃ (j : Nat), ii = .int .i64 j ∧ j ≤ m ∧ Hid (Nms wr pl (shownL a b m) ∧ Gath w wr (.slice pa m ca) (.slice pb m cb) m a b)) (fun ii _ => m - (RowKit.intOf ii).toNat)
        case atStart => exact ⟨0, rfl, Nat.zero_le _, HN3.out, HG.out.below HB3.out⟩
        case round =>
          obtain ⟨j, rfl, hj, HJ⟩ := hrel
          rename World => wj
          by_cases hjm : j < m
          · have hjI : (j : Int) < (m : Int) := by omega
            go_wp2_with fail
            go_loopw [13] (fun kk wr => ∃ (k : Nat), kk = .int .i64 k ∧ k ≤ j ∧ Hid (Below wj.heap.size wj wr)) (fun kk _ => j - (RowKit.intOf kk).toNat)
            case atStart => exact ⟨0, rfl, Nat.zero_le _, Below.refl _ _⟩
            case round =>
              obtain ⟨k, rfl, hk, HK⟩ := hrel
              rename World => wk
              by_cases hkj : k < j
              · have hkI : (k : Int) < (j : Int) := by omega
                have hkM : (k : Int) < (m : Int) := by omega
                obtain ⟨gl, ol, rfl, y1⟩ := HJ.out.1 j _ (shown_at a b hjm)
                obtain ⟨g', o', e', y2⟩ := HJ.out.1 k _ (shown_at a b (by omega))
                cases e'
                have z1 := cell_kept y1 HK.out
                have z2 := cell_kept y2 HK.out
                have hap : shownAt a b m j ≠ shownAt a b m k := by have e := HAP.out.apart (i := j) (k := k) (by rw [HSZ.out]; exact hjm) hkj; rw [HSZ.out] at e; exact e
                have qq : ((bas (shownAt a b m j)).toList == (bas (shownAt a b m k)).toList) = false := by rw [bas_beq]; exact decide_eq_false hap
                clear y1 y2 hap
                generalize shownAt a b m j = sj at *
                generalize shownAt a b m k = sk at *
                go_wp2_with fail
                go_quiet (fail)
                go_wp2_with fail
                exact ⟨⟨k + 1, by simp, by omega, below_then HK.out (below_drewN wk _)⟩, by simp [RowKit.intOf]; omega⟩
              · obtain rfl : j = k := by omega
                have hkI : ¬ (j : Int) < (j : Int) := by omega
                obtain ⟨gl, ol, rfl, y1⟩ := HJ.out.1 j _ (shown_at a b hjm)
                obtain ⟨gb, ob, rfl, y3⟩ := HJ.out.2.nms j _ (nmA_of (by rw [← HAP.out.len, HSZ.out]; exact hjm))
                obtain ⟨ga, oa, rfl, y4, y5⟩ := HJ.out.2.ids j _ (idA_of (by rw [HSZ.out]; exact hjm))
                have z1 := cell_kept y1 HK.out
                have hsl : (shownAt a b m j).length < 1000 := by have e := HAP.out.len_shown (i := j) (by rw [HSZ.out]; exact hjm); rw [HSZ.out] at e; exact e
                have cp := fun W (hW : Lb W) => split_any (shownAt a b m j) (by omega) W hW
                have HLK := Lib.hid (HL.out.below (below_then HJ.out.2.bel HK.out))
                have HY := Lib.hid (And.intro (cell_kept y1 HK.out) (And.intro (cell_kept y3 HK.out) (And.intro (cell_kept y4 HK.out) (cell_kept y5 HK.out))))
                clear y1 y3 y4 y5 hsl
                cases hkp : keptB a b m j with
                | true =>
                  have hsp : splitP (shownAt a b m j) = none := by have e := HAP.out.split_kept (i := j) (by rw [HSZ.out]; exact hjm) (by rw [HSZ.out]; exact hkp); rw [HSZ.out] at e; exact e
                  have hsh := shown_kept hkp
                  rw [hsp] at cp
                  rw [hsh] at cp z1 HY
                  clear hsp hsh hkp
                  generalize nmA b j = bj at *
                  have cp' : ∀ W, Lb W → Calls Tryd.prog 13 #[.string (bas bj)] W fun e w' => e = .returned (.tuple #[.string (bas bj), idv 0 0, .bool false]) ∧ Below W.heap.size W w' := cp
                  have qq : ((bas bj).toList == (bas bj).toList) = true := by rw [bas_beq]; exact decide_eq_true rfl
                  clear cp
                  go_wp2_with (go_at_call 13
                               refine (cp' _ HLK.out).mono ?_
                               rintro e w6 ⟨rfl, hb6⟩
                               have v1 := cell_kept HY.out.1 hb6
                               have v2 := cell_kept HY.out.2.1 hb6
                               have hg1 := cell_lt v1
                               have hg2 := cell_lt v2
                               have B6 := Lib.hid (below_then HK.out hb6)
                               clear hb6 cp')
                  go_quiet (fail)
                  go_wp2_with fail
                  have HB9 := below_then (below_then B6.out (below_new w6 (.cells #[.int .i64 0, .int .i64 0] 29)).out) (below_drewN _ nq)
                  exact ⟨⟨j + 1, by simp, by omega, HJ.out.1.below HB9, HJ.out.2.below HB9⟩, by simp [RowKit.intOf]; omega⟩
                | false =>
                  have hsp : splitP (shownAt a b m j) = some (nmA b j, (idA a j).1, (idA a j).2) := by have e := HAP.out.split_not (i := j) (by rw [HSZ.out]; exact hjm) (by rw [HSZ.out]; exact hkp); rw [HSZ.out] at e; exact e
                  have hne : shownAt a b m j ≠ nmA b j := by rw [shown_not hkp]; exact suf_ne _ _ _
                  have q1 : ((bas (shownAt a b m j)).toList == (bas (nmA b j)).toList) = false := by rw [bas_beq]; exact decide_eq_false hne
                  rw [hsp] at cp
                  clear hsp hne hkp
                  generalize shownAt a b m j = sj at *
                  generalize nmA b j = bj at *
                  obtain ⟨t, ht⟩ : ∃ t, (idA a j).1 = t := ⟨_, rfl⟩
                  obtain ⟨u, hu⟩ : ∃ u, (idA a j).2 = u := ⟨_, rfl⟩
                  rw [ht] at HY cp
                  rw [hu] at HY cp
                  clear ht hu
                  have cp' : ∀ W, Lb W → Calls Tryd.prog 13 #[.string (bas sj)] W fun e w' => e = .returned (.tuple #[.string (bas bj), idv t u, .bool true]) ∧ Below W.heap.size W w' := cp
                  have cm := fun W => same_any t u t u W
                  have hsm : sameB t u t u = true := by simp [sameB]
                  rw [hsm] at cm
                  have qq : ((bas bj).toList == (bas bj).toList) = true := by rw [bas_beq]; exact decide_eq_true rfl
                  clear cp hsm
                  go_wp2_with (go_at_call 13
                               refine (cp' _ HLK.out).mono ?_
                               rintro e w6 ⟨rfl, hb6⟩
                               have v1 := cell_kept HY.out.1 hb6
                               have v2 := cell_kept HY.out.2.1 hb6
                               have hg1 := cell_lt v1
                               have hg2 := cell_lt v2
                               have B6 := Lib.hid (below_then HK.out hb6)
                               have HV6 := Lib.hid (And.intro (cell_kept HY.out.2.1 hb6) (And.intro (cell_kept HY.out.2.2.1 hb6) (cell_kept HY.out.2.2.2 hb6)))
                               clear hb6 cp')
                  go_quiet (fail)
                  go_wp2_with fail
                  obtain ⟨X, hX⟩ : ∃ X, X = (w6.alloc (.cells #[.int .i64 t, .int .i64 u] 29)).drewN nq := ⟨_, rfl⟩
                  have bX : Below w6.heap.size w6 X := by rw [hX]; exact below_then (below_new w6 _).out (below_drewN _ _)
                  have BX := Lib.hid (below_then B6.out bX)
                  have x1 := cell_kept HV6.out.1 bX
                  have x2 := cell_kept HV6.out.2.1 bX
                  have x3 := cell_kept HV6.out.2.2 bX
                  have ix : IdC X w6.heap.size t u := by rw [hX]; exact (IdC.new w6 t u).below (below_drewN _ _)
                  have x4 := ix.c0
                  have x5 := ix.c1
                  rw [← hX]
                  have HS : ∀ W W', (W.cell? ⟨gb, ob + j, none⟩ = some (.string (bas bj)) ∧ W.cell? ⟨ga, oa + j * 2, none⟩ = some (.int .i64 t) ∧ W.cell? ⟨ga, oa + j * 2 + 1, none⟩ = some (.int .i64 u) ∧ W.cell? ⟨w6.heap.size, 0, none⟩ = some (.int .i64 t) ∧ W.cell? ⟨w6.heap.size, 1, none⟩ = some (.int .i64 u) ∧ Hid (Below X.heap.size X W)) → Hid (Below W.heap.size W W') → W'.cell? ⟨gb, ob + j, none⟩ = some (.string (bas bj)) ∧ W'.cell? ⟨ga, oa + j * 2, none⟩ = some (.int .i64 t) ∧ W'.cell? ⟨ga, oa + j * 2 + 1, none⟩ = some (.int .i64 u) ∧ W'.cell? ⟨w6.heap.size, 0, none⟩ = some (.int .i64 t) ∧ W'.cell? ⟨w6.heap.size, 1, none⟩ = some (.int .i64 u) ∧ Hid (Below X.heap.size X W') := fun W W' h1 h2 =>
                    have hb := below_then h1.2.2.2.2.2.out h2.out
                    ⟨cell_kept x1 hb, cell_kept x2 hb, cell_kept x3 hb, cell_kept x4 hb, cell_kept x5 hb, hb⟩
                  have S1 : X.drew.cell? ⟨gb, ob + j, none⟩ = some (.string (bas bj)) ∧ X.drew.cell? ⟨ga, oa + j * 2, none⟩ = some (.int .i64 t) ∧ X.drew.cell? ⟨ga, oa + j * 2 + 1, none⟩ = some (.int .i64 u) ∧ X.drew.cell? ⟨w6.heap.size, 0, none⟩ = some (.int .i64 t) ∧ X.drew.cell? ⟨w6.heap.size, 1, none⟩ = some (.int .i64 u) ∧ Hid (Below X.heap.size X X.drew) := ⟨x1, x2, x3, x4, x5, below_drewN X 1⟩
                  have S2 : X.cell? ⟨gb, ob + j, none⟩ = some (.string (bas bj)) ∧ X.cell? ⟨ga, oa + j * 2, none⟩ = some (.int .i64 t) ∧ X.cell? ⟨ga, oa + j * 2 + 1, none⟩ = some (.int .i64 u) ∧ X.cell? ⟨w6.heap.size, 0, none⟩ = some (.int .i64 t) ∧ X.cell? ⟨w6.heap.size, 1, none⟩ = some (.int .i64 u) ∧ Hid (Below X.heap.size X X) := ⟨x1, x2, x3, x4, x5, Below.refl _ _⟩
                  have HF : ∀ W, (W.cell? ⟨gb, ob + j, none⟩ = some (.string (bas bj)) ∧ W.cell? ⟨ga, oa + j * 2, none⟩ = some (.int .i64 t) ∧ W.cell? ⟨ga, oa + j * 2 + 1, none⟩ = some (.int .i64 u) ∧ W.cell? ⟨w6.heap.size, 0, none⟩ = some (.int .i64 t) ∧ W.cell? ⟨w6.heap.size, 1, none⟩ = some (.int .i64 u) ∧ Hid (Below X.heap.size X W)) → Below X.heap.size X W := fun W hW => hW.2.2.2.2.2.out
                  clear hX bX ix x1 x2 x3 x4 x5
                  go_region_held3 (fun W => W.cell? ⟨gb, ob + j, none⟩ = some (.string (bas bj)) ∧ W.cell? ⟨ga, oa + j * 2, none⟩ = some (.int .i64 t) ∧ W.cell? ⟨ga, oa + j * 2 + 1, none⟩ = some (.int .i64 u) ∧ W.cell? ⟨w6.heap.size, 0, none⟩ = some (.int .i64 t) ∧ W.cell? ⟨w6.heap.size, 1, none⟩ = some (.int .i64 u) ∧ Hid (Below X.heap.size X W))
                    (first | exact S1 | exact S2 | assumption | exact HS _ _ (by assumption) (by assumption))
                    (first | (go_at_call 12; refine Calls_new (cm _) ?_; intro w7 HB7))
                  have HW := below_then BX.out (HF w7 (by assumption))
                  go_wp2_with fail
                  exact ⟨⟨j + 1, by simp, by omega, HJ.out.1.below HW, HJ.out.2.below HW⟩, by simp [RowKit.intOf]; omega⟩
          · obtain rfl : m = j := by omega
            go_wp2_with fail
            go_ret
            exact ⟨rfl, HJ.out.2.bel⟩
      · have hI : (i : Int) < (L1 : Int) := by omega
        have hJ : (i : Int) < (L2 : Int) := by omega
        have hK : ¬ (i : Int) < 12 := by omega
        go_wp2_with (go_at_call 8; refine (cs _ (Below.refl _ _)).mono ?_; rintro e w3 ⟨pl, rfl, hn3, hb3⟩; have HB3 := Lib.hid hb3; have HN3 := Lib.hid hn3; clear hb3 hn3 cs)
        go_loopw [12] (fun ii wr => ∃ (j : Nat), ii = .int .i64 j ∧ j ≤ m ∧ Hid (Nms wr pl (shownL a b m) ∧ Gath w wr (.slice pa m ca) (.slice pb m cb) m a b)) (fun ii _ => m - (RowKit.intOf ii).toNat)
        case atStart => exact ⟨0, rfl, Nat.zero_le _, HN3.out, HG.out.below HB3.out⟩
        case round =>
          obtain ⟨j, rfl, hj, HJ⟩ := hrel
          rename World => wj
          by_cases hjm : j < m
          · have hjI : (j : Int) < (m : Int) := by omega
            go_wp2_with fail
            go_loopw [13] (fun kk wr => ∃ (k : Nat), kk = .int .i64 k ∧ k ≤ j ∧ Hid (Below wj.heap.size wj wr)) (fun kk _ => j - (RowKit.intOf kk).toNat)
            case atStart => exact ⟨0, rfl, Nat.zero_le _, Below.refl _ _⟩
            case round =>
              obtain ⟨k, rfl, hk, HK⟩ := hrel
              rename World => wk
              by_cases hkj : k < j
              · have hkI : (k : Int) < (j : Int) := by omega
                have hkM : (k : Int) < (m : Int) := by omega
                obtain ⟨gl, ol, rfl, y1⟩ := HJ.out.1 j _ (shown_at a b hjm)
                obtain ⟨g', o', e', y2⟩ := HJ.out.1 k _ (shown_at a b (by omega))
                cases e'
                have z1 := cell_kept y1 HK.out
                have z2 := cell_kept y2 HK.out
                have hap : shownAt a b m j ≠ shownAt a b m k := by have e := HAP.out.apart (i := j) (k := k) (by rw [HSZ.out]; exact hjm) hkj; rw [HSZ.out] at e; exact e
                have qq : ((bas (shownAt a b m j)).toList == (bas (shownAt a b m k)).toList) = false := by rw [bas_beq]; exact decide_eq_false hap
                clear y1 y2 hap
                generalize shownAt a b m j = sj at *
                generalize shownAt a b m k = sk at *
                go_wp2_with fail
                go_quiet (fail)
                go_wp2_with fail
                exact ⟨⟨k + 1, by simp, by omega, below_then HK.out (below_drewN wk _)⟩, by simp [RowKit.intOf]; omega⟩
              · obtain rfl : j = k := by omega
                have hkI : ¬ (j : Int) < (j : Int) := by omega
                obtain ⟨gl, ol, rfl, y1⟩ := HJ.out.1 j _ (shown_at a b hjm)
                obtain ⟨gb, ob, rfl, y3⟩ := HJ.out.2.nms j _ (nmA_of (by rw [← HAP.out.len, HSZ.out]; exact hjm))
                obtain ⟨ga, oa, rfl, y4, y5⟩ := HJ.out.2.ids j _ (idA_of (by rw [HSZ.out]; exact hjm))
                have z1 := cell_kept y1 HK.out
                have hsl : (shownAt a b m j).length < 1000 := by have e := HAP.out.len_shown (i := j) (by rw [HSZ.out]; exact hjm); rw [HSZ.out] at e; exact e
                have cp := fun W (hW : Lb W) => split_any (shownAt a b m j) (by omega) W hW
                have HLK := Lib.hid (HL.out.below (below_then HJ.out.2.bel HK.out))
                have HY := Lib.hid (And.intro (cell_kept y1 HK.out) (And.intro (cell_kept y3 HK.out) (And.intro (cell_kept y4 HK.out) (cell_kept y5 HK.out))))
                clear y1 y3 y4 y5 hsl
                cases hkp : keptB a b m j with
                | true =>
                  have hsp : splitP (shownAt a b m j) = none := by have e := HAP.out.split_kept (i := j) (by rw [HSZ.out]; exact hjm) (by rw [HSZ.out]; exact hkp); rw [HSZ.out] at e; exact e
                  have hsh := shown_kept hkp
                  rw [hsp] at cp
                  rw [hsh] at cp z1 HY
                  clear hsp hsh hkp
                  generalize nmA b j = bj at *
                  have cp' : ∀ W, Lb W → Calls Tryd.prog 13 #[.string (bas bj)] W fun e w' => e = .returned (.tuple #[.string (bas bj), idv 0 0, .bool false]) ∧ Below W.heap.size W w' := cp
                  have qq : ((bas bj).toList == (bas bj).toList) = true := by rw [bas_beq]; exact decide_eq_true rfl
                  clear cp
                  go_wp2_with (go_at_call 13
                               refine (cp' _ HLK.out).mono ?_
                               rintro e w6 ⟨rfl, hb6⟩
                               have v1 := cell_kept HY.out.1 hb6
                               have v2 := cell_kept HY.out.2.1 hb6
                               have hg1 := cell_lt v1
                               have hg2 := cell_lt v2
                               have B6 := Lib.hid (below_then HK.out hb6)
                               clear hb6 cp')
                  go_quiet (fail)
                  go_wp2_with fail
                  have HB9 := below_then (below_then B6.out (below_new w6 (.cells #[.int .i64 0, .int .i64 0] 29)).out) (below_drewN _ nq)
                  exact ⟨⟨j + 1, by simp, by omega, HJ.out.1.below HB9, HJ.out.2.below HB9⟩, by simp [RowKit.intOf]; omega⟩
                | false =>
                  have hsp : splitP (shownAt a b m j) = some (nmA b j, (idA a j).1, (idA a j).2) := by have e := HAP.out.split_not (i := j) (by rw [HSZ.out]; exact hjm) (by rw [HSZ.out]; exact hkp); rw [HSZ.out] at e; exact e
                  have hne : shownAt a b m j ≠ nmA b j := by rw [shown_not hkp]; exact suf_ne _ _ _
                  have q1 : ((bas (shownAt a b m j)).toList == (bas (nmA b j)).toList) = false := by rw [bas_beq]; exact decide_eq_false hne
                  rw [hsp] at cp
                  clear hsp hne hkp
                  generalize shownAt a b m j = sj at *
                  generalize nmA b j = bj at *
                  obtain ⟨t, ht⟩ : ∃ t, (idA a j).1 = t := ⟨_, rfl⟩
                  obtain ⟨u, hu⟩ : ∃ u, (idA a j).2 = u := ⟨_, rfl⟩
                  rw [ht] at HY cp
                  rw [hu] at HY cp
                  clear ht hu
                  have cp' : ∀ W, Lb W → Calls Tryd.prog 13 #[.string (bas sj)] W fun e w' => e = .returned (.tuple #[.string (bas bj), idv t u, .bool true]) ∧ Below W.heap.size W w' := cp
                  have cm := fun W => same_any t u t u W
                  have hsm : sameB t u t u = true := by simp [sameB]
                  rw [hsm] at cm
                  have qq : ((bas bj).toList == (bas bj).toList) = true := by rw [bas_beq]; exact decide_eq_true rfl
                  clear cp hsm
                  go_wp2_with (go_at_call 13
                               refine (cp' _ HLK.out).mono ?_
                               rintro e w6 ⟨rfl, hb6⟩
                               have v1 := cell_kept HY.out.1 hb6
                               have v2 := cell_kept HY.out.2.1 hb6
                               have hg1 := cell_lt v1
                               have hg2 := cell_lt v2
                               have B6 := Lib.hid (below_then HK.out hb6)
                               have HV6 := Lib.hid (And.intro (cell_kept HY.out.2.1 hb6) (And.intro (cell_kept HY.out.2.2.1 hb6) (cell_kept HY.out.2.2.2 hb6)))
                               clear hb6 cp')
                  go_quiet (fail)
                  go_wp2_with fail
                  obtain ⟨X, hX⟩ : ∃ X, X = (w6.alloc (.cells #[.int .i64 t, .int .i64 u] 29)).drewN nq := ⟨_, rfl⟩
                  have bX : Below w6.heap.size w6 X := by rw [hX]; exact below_then (below_new w6 _).out (below_drewN _ _)
                  have BX := Lib.hid (below_then B6.out bX)
                  have x1 := cell_kept HV6.out.1 bX
                  have x2 := cell_kept HV6.out.2.1 bX
                  have x3 := cell_kept HV6.out.2.2 bX
                  have ix : IdC X w6.heap.size t u := by rw [hX]; exact (IdC.new w6 t u).below (below_drewN _ _)
                  have x4 := ix.c0
                  have x5 := ix.c1
                  rw [← hX]
                  have HS : ∀ W W', (W.cell? ⟨gb, ob + j, none⟩ = some (.string (bas bj)) ∧ W.cell? ⟨ga, oa + j * 2, none⟩ = some (.int .i64 t) ∧ W.cell? ⟨ga, oa + j * 2 + 1, none⟩ = some (.int .i64 u) ∧ W.cell? ⟨w6.heap.size, 0, none⟩ = some (.int .i64 t) ∧ W.cell? ⟨w6.heap.size, 1, none⟩ = some (.int .i64 u) ∧ Hid (Below X.heap.size X W)) → Hid (Below W.heap.size W W') → W'.cell? ⟨gb, ob + j, none⟩ = some (.string (bas bj)) ∧ W'.cell? ⟨ga, oa + j * 2, none⟩ = some (.int .i64 t) ∧ W'.cell? ⟨ga, oa + j * 2 + 1, none⟩ = some (.int .i64 u) ∧ W'.cell? ⟨w6.heap.size, 0, none⟩ = some (.int .i64 t) ∧ W'.cell? ⟨w6.heap.size, 1, none⟩ = some (.int .i64 u) ∧ Hid (Below X.heap.size X W') := fun W W' h1 h2 =>
                    have hb := below_then h1.2.2.2.2.2.out h2.out
                    ⟨cell_kept x1 hb, cell_kept x2 hb, cell_kept x3 hb, cell_kept x4 hb, cell_kept x5 hb, hb⟩
                  have S1 : X.drew.cell? ⟨gb, ob + j, none⟩ = some (.string (bas bj)) ∧ X.drew.cell? ⟨ga, oa + j * 2, none⟩ = some (.int .i64 t) ∧ X.drew.cell? ⟨ga, oa + j * 2 + 1, none⟩ = some (.int .i64 u) ∧ X.drew.cell? ⟨w6.heap.size, 0, none⟩ = some (.int .i64 t) ∧ X.drew.cell? ⟨w6.heap.size, 1, none⟩ = some (.int .i64 u) ∧ Hid (Below X.heap.size X X.drew) := ⟨x1, x2, x3, x4, x5, below_drewN X 1⟩
                  have S2 : X.cell? ⟨gb, ob + j, none⟩ = some (.string (bas bj)) ∧ X.cell? ⟨ga, oa + j * 2, none⟩ = some (.int .i64 t) ∧ X.cell? ⟨ga, oa + j * 2 + 1, none⟩ = some (.int .i64 u) ∧ X.cell? ⟨w6.heap.size, 0, none⟩ = some (.int .i64 t) ∧ X.cell? ⟨w6.heap.size, 1, none⟩ = some (.int .i64 u) ∧ Hid (Below X.heap.size X X) := ⟨x1, x2, x3, x4, x5, Below.refl _ _⟩
                  have HF : ∀ W, (W.cell? ⟨gb, ob + j, none⟩ = some (.string (bas bj)) ∧ W.cell? ⟨ga, oa + j * 2, none⟩ = some (.int .i64 t) ∧ W.cell? ⟨ga, oa + j * 2 + 1, none⟩ = some (.int .i64 u) ∧ W.cell? ⟨w6.heap.size, 0, none⟩ = some (.int .i64 t) ∧ W.cell? ⟨w6.heap.size, 1, none⟩ = some (.int .i64 u) ∧ Hid (Below X.heap.size X W)) → Below X.heap.size X W := fun W hW => hW.2.2.2.2.2.out
                  clear hX bX ix x1 x2 x3 x4 x5
                  go_region_held3 (fun W => W.cell? ⟨gb, ob + j, none⟩ = some (.string (bas bj)) ∧ W.cell? ⟨ga, oa + j * 2, none⟩ = some (.int .i64 t) ∧ W.cell? ⟨ga, oa + j * 2 + 1, none⟩ = some (.int .i64 u) ∧ W.cell? ⟨w6.heap.size, 0, none⟩ = some (.int .i64 t) ∧ W.cell? ⟨w6.heap.size, 1, none⟩ = some (.int .i64 u) ∧ Hid (Below X.heap.size X W))
                    (first | exact S1 | exact S2 | assumption | exact HS _ _ (by assumption) (by assumption))
                    (first | (go_at_call 12; refine Calls_new (cm _) ?_; intro w7 HB7))
                  have HW := below_then BX.out (HF w7 (by assumption))
                  go_wp2_with fail
                  exact ⟨⟨j + 1, by simp, by omega, HJ.out.1.below HW, HJ.out.2.below HW⟩, by simp [RowKit.intOf]; omega⟩
          · obtain rfl : m = j := by omega
            go_wp2_with fail
            go_ret
            exact ⟨rfl, HJ.out.2.bel⟩

end Go.Proofs.YtjajbhpcjickbaaDoor.Ck.Sh
