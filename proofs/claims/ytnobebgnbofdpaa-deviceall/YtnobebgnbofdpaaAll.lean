/-
  The law DeviceAll returns true: at most 30 blocks.
-/
import Derived.Test.YtnobebgnbofdpaaAlln
namespace Go.Proofs.Ytnobebgnbofdpaa
open Go.RowKit Go.Maps Go.Sort Go.Shelf

set_option maxHeartbeats 12000000 in
set_option maxRecDepth 100000 in
theorem all_small (nb : Int) (n : Nat) (op : Option Addr) (ol oc : Nat) (w : World) (hnb : nb = n) (hn1 : 1 ≤ n) (hn30 : n ≤ 30)
    (hops : 0 < ol → ∃ ob oo, op = some ⟨ob, oo, none⟩ ∧ ∀ k, k < ol → OpAt w ob oo k) :
    Calls Try.prog 3 #[.int .i64 nb, .slice op ol oc] w fun e w' => e = .returned (.bool true) ∧ Below w.heap.size w w' := by
  have HF : ∀ (bs : List Int) (bp : Option Addr) (bc x : Nat) (W : World), x ≤ 70000 → bs.length < 9223372036854775808 → (0 < bs.length → ∃ bb bo, bp = some ⟨bb, bo, none⟩ ∧ ∀ j x, bs[j]? = some x → w.cell? ⟨bb, bo + j, none⟩ = some (.int .u8 x)) → Below w.heap.size w W →
      Calls Try.prog 9 #[.slice bp bs.length bc, .int .i64 x] W fun e w' => e = .returned (.slice (some ⟨W.heap.size, 0, none⟩) x x) ∧ w'.heap[W.heap.size]? = some (.cells ((full bs x).map u8).toArray 5 (0, 0)) ∧ Below W.heap.size W w' := fun bs bp bc x W hx hbl hsrc hB =>
    full_any bs bp bc x W hx hbl (fun hp => by
      obtain ⟨bb, bo, e, hc⟩ := hsrc hp
      exact ⟨bb, bo, e, fun j x hj => (hB.cell (p := ⟨bb, bo + j, none⟩) (World.block_lt_of_cell? w _ (hc j x hj))).trans (hc j x hj)⟩)
  subst hnb
  have hnot : ¬ (30 : Int) < n := by omega
  go_enter Try.func3, Try.ntmps3
  go_wp2_with fail
  refine (begun_any _).mono ?_
  rintro e w1 ⟨rfl, hB1⟩
  go_wp2_with fail
  refine (new_yes n w1 hn1 (by omega)).mono ?_
  rintro e w2 ⟨a, m, rfl, _, hsm, hma, ha, hdev, hrow, hmap, hB2⟩
  go_wp2_with fail
  refine (rnew_yes n w2 hn1 (by omega)).mono ?_
  rintro e w3 ⟨r, z, sS, cS, sN, cN, rfl, hrw, href, hz, hrows, hbools, hB3⟩
  obtain ⟨cur, A, B, hboth⟩ := Both.made hn1 hn30 (by omega) hdev hrow hmap hB3 href hz hrows hbools 0
  have s1 := hB1.size
  have s2 := hB2.size
  have s3 := hB3.size
  have lS := (row_block hrows.s).1
  have lN := (row_block hrows.n).1
  have hbel3 : Below w.heap.size w w3 := (hB1.trans (hB2.mono s1)).trans (hB3.mono (by omega))
  have hmain : Main w (w3.alloc (.cells #[.pointer (some ⟨r, 0, none⟩)] 26)) w3.heap.size (crashedSt n a w1.heap.size n m cur r sS cS sN cN w2.heap.size n A B (List.replicate n (.bool false)).toArray) 0 := by
    refine ⟨hboth.frame ((Below.refl _ _).alloc (Nat.le_refl _) _), heap_alloc_new w3 _, hbel3.alloc (by omega) _, ?_, ?_, ?_, ?_, ?_, ?_, ?_, by omega⟩ <;> (simp only [crashedSt]; omega)
  have HM : Hid (Main w (w3.alloc (.cells #[.pointer (some ⟨r, 0, none⟩)] 26)) w3.heap.size (crashedSt n a w1.heap.size n m cur r sS cS sN cN w2.heap.size n A B (List.replicate n (.bool false)).toArray) 0) := hmain
  have HO : Hid (0 < ol → ∃ ob oo, op = some ⟨ob, oo, none⟩ ∧ ∀ k, k < ol → OpAt w ob oo k) := hops
  clear hmain hboth hdev hrow hmap href hz hrows hbools hB1 hB2 hB3 hbel3 hops s1 s2 s3 lS lN ha hma hsm hrw
  go_wp2_with fail
  generalize hW0 : w3.alloc (.cells #[.pointer (some ⟨r, 0, none⟩)] 26) = W0 at HM ⊢
  clear hW0
  generalize w3.heap.size = rB at HM ⊢
  go_loopw [6, 8] (fun d ix wr => ∃ (k : Nat) (t : St), k ≤ 40 ∧ ix = .int .i64 k ∧ d = .pointer (some ⟨t.a, 0, none⟩) ∧ Hid (Main w wr rB t k) ∧ t.n = n) (fun _ ix _ => 40 - (intOf ix).toNat)
  case atStart => exact ⟨0, _, by omega, rfl, rfl, HM, rfl⟩
  case round =>
    clear HM
    obtain ⟨k, t, hk, rfl, rfl, hm, htn⟩ := hrel
    by_cases hgo : k < ol ∧ k < 40
    · obtain ⟨hkl, hk40⟩ := hgo
      obtain ⟨ob, oo, hop, hat⟩ := HO.out (by omega)
      subst hop
      obtain ⟨kind, ii, nn, bp, bc, bs, kp, kc, ks, o0, o1, o2, o3, o4, hnn, hbl, hbs, hkl', hks⟩ := hat k hkl
      have olt : ob < w.heap.size := World.block_lt_of_cell? w _ o0
      have q0 : wr.cell? ⟨ob, oo + k * 5, none⟩ = some (.int .i64 kind) := (hm.out.bel.cell (p := ⟨ob, _, none⟩) olt).trans o0
      have q1 : wr.cell? ⟨ob, oo + k * 5 + 1, none⟩ = some (.int .i64 ii) := (hm.out.bel.cell (p := ⟨ob, _, none⟩) olt).trans o1
      have q2 : wr.cell? ⟨ob, oo + k * 5 + 2, none⟩ = some (.int .i64 nn) := (hm.out.bel.cell (p := ⟨ob, _, none⟩) olt).trans o2
      have q3 : wr.cell? ⟨ob, oo + k * 5 + 3, none⟩ = some (.slice bp bs.length bc) := (hm.out.bel.cell (p := ⟨ob, _, none⟩) olt).trans o3
      have q4 : wr.cell? ⟨ob, oo + k * 5 + 4, none⟩ = some (.slice kp ks.length kc) := (hm.out.bel.cell (p := ⟨ob, _, none⟩) olt).trans o4
      have hklI : (k : Int) < ol := by omega
      have hk40I : (k : Int) < 40 := by omega
      have HBS : Hid (0 < bs.length → ∃ bb bo, bp = some ⟨bb, bo, none⟩ ∧ ∀ j x, bs[j]? = some x → w.cell? ⟨bb, bo + j, none⟩ = some (.int .u8 x)) := hbs
      have HKS : Hid (0 < ks.length → ∃ kb ko, kp = some ⟨kb, ko, none⟩ ∧ ∀ j x, ks[j]? = some x → w.cell? ⟨kb, ko + j, none⟩ = some (.bool x)) := hks
      have HTN : Hid (t.n = n) := htn
      have hm1 := hm.out.frame ((Below.refl _ wr).alloc (Nat.le_refl _) (.cells #[.int .i64 kind, .int .i64 ii, .int .i64 nn, .slice bp bs.length bc, .slice kp ks.length kc] 31))
      have hoB := heap_alloc_new wr (.cells #[.int .i64 kind, .int .i64 ii, .int .i64 nn, .slice bp bs.length bc, .slice kp ks.length kc] 31)
      clear o0 o1 o2 o3 o4 hat htn hbs hks
      by_cases k0 : kind = 0
      · subst k0
        by_cases g0 : nn < 0
        · clear hkl
          have tk0 : True := trivial
          obtain ⟨wo, hwo⟩ : ∃ wo, wo = wr := ⟨_, rfl⟩
          subst hwo
          have cF := HF bs bp bc 512 _ (by omega) hbl HBS.out hm1.bel
          go_wp2_with fail
          refine (show Calls Try.prog 9 #[.slice bp bs.length bc, .int .i64 512] _ _ from cF).mono ?_
          rintro e wa ⟨rfl, hba, hBa⟩
          clear cF
          rw [World.size_alloc] at hba hBa
          have hma : Hid (Main w wa rB t k) := hm1.frame (by rw [World.size_alloc]; exact hBa)
          have hoa : wa.heap[wo.heap.size]? = some (.cells #[.int .i64 0, .int .i64 ii, .int .i64 nn, .slice bp bs.length bc, .slice kp ks.length kc] 31 (0, 0)) := (hBa.block _ (Nat.lt_succ_self _)).trans hoB
          have hav : AvSt (wo.heap.size + 1) t := AvSt.fresh hm1.both (by rw [World.size_alloc]; exact Nat.le_refl _)
          have hXlt : wo.heap.size + 1 < wa.heap.size := (Array.getElem?_eq_some_iff.1 hba).1
          have hwlo := hm.out.bel.size
          have cW := write_both hma.out (by omega) ii (wo.heap.size + 1) 512 (full bs 512) (full_length bs 512) hba
          have z1 : wa.cell? ⟨wo.heap.size, 1, none⟩ = some (.int .i64 ii) := cellOf hoa 1
          clear hm1 hoB
          go_wp2_with fail
          refine cW.mono ?_
          rintro e wb ⟨ec, rfl, kpb, cR⟩
          clear cW
          have hob := kpb _ _ 31 (by simp) hoa
          have z2 : wb.cell? ⟨wo.heap.size, 1, none⟩ = some (.int .i64 ii) := cellOf hob 1
          have z3 : wb.cell? ⟨rB, 0, none⟩ = some (.pointer (some ⟨t.r, 0, none⟩)) := cellOf (kpb _ _ 26 (by simp) hma.out.rb) 0
          have hbb := kpb _ _ 5 (by simp) hba
          clear hoa hba
          go_wp2_with fail
          refine cR.mono ?_
          rintro e wc ⟨rfl, kpc, t', hm', ta, tr, tn, tav⟩
          clear cR
          have hoc := kpc _ _ 31 (by simp) hob
          have hbc := kpc _ _ 5 (by simp) hbb
          have hav' := tav _ hXlt hav
          have HM' : Hid (Main w wc rB t' (k + 1)) := hm'
          have TN' : Hid (t'.n = n) := tn.trans HTN.out
          have TA : Hid (t'.a = t.a) := ta
          clear hm' tav hob hbb kpb kpc ta tr tn hBa
          go_wp2_with fail
          go_loopw [14] (fun ix wd => ∃ j : Nat, j ≤ 512 ∧ ix = .int .i64 j ∧ (∃ ys : List Int, ys.length = 512 ∧ wd.heap[wo.heap.size + 1]? = some (.cells (ys.map u8).toArray 5 (0, 0))) ∧ But (fun b => b = wo.heap.size + 1) wc wd) (fun ix _ => 512 - (intOf ix).toNat)
          case atStart => exact ⟨0, Nat.zero_le _, rfl, ⟨full bs 512, full_length bs 512, hbc⟩, But.refl _ _⟩
          case round =>
            obtain ⟨j, hj, rfl, ⟨ys, hyl, hyb⟩, hbd⟩ := hrel
            by_cases hlt : j < 512
            · have hltI : (j : Int) < (512 : Nat) := by omega
              obtain ⟨y, hy⟩ : ∃ y, ys[j]? = some y := ⟨_, List.getElem?_eq_getElem (by omega)⟩
              have c1 : wr.cell? ⟨wo.heap.size + 1, j, none⟩ = some (.int .u8 y) := by
                rw [cellOf hyb j, List.getElem?_toArray, List.getElem?_map, hy]
                rfl
              have f1 := frozenOf hyb j
              have HY : Hid (wr.heap[wo.heap.size + 1]? = some (.cells (ys.map u8).toArray 5 (0, 0))) := hyb
              clear hyb hy
              go_wp2
              exact ⟨⟨j + 1, by omega, by go_num, ⟨ys.set j 9, by rw [List.length_set]; exact hyl, row_set9 HY.out⟩, hbd.setCell ⟨wo.heap.size + 1, j, none⟩ rfl _⟩, by simp [intOf]; omega⟩
            · obtain rfl : 512 = j := by omega
              have HX : Hid (Main w wr rB t' (k + 1)) := HM'.out.aside hav' hbc (by omega) hbd
              have hox : wr.heap[wo.heap.size]? = some (.cells #[.int .i64 0, .int .i64 ii, .int .i64 nn, .slice bp bs.length bc, .slice kp ks.length kc] 31 (0, 0)) := (hbd.block _ (Array.getElem?_eq_some_iff.1 hoc).1 (by omega)).trans hoc
              clear hoc hbc hyb hbd
              have y1 : wr.cell? ⟨rB, 0, none⟩ = some (.pointer (some ⟨t'.r, 0, none⟩)) := cellOf HX.out.rb 0
              have y2 : wr.cell? ⟨wo.heap.size, 1, none⟩ = some (.int .i64 ii) := cellOf hox 1
              have cS := same_any ii wr t' (k + 1) (by omega) HX.out.both
              rw [TA.out] at cS
              clear hox
              go_wp2_with fail
              refine cS.mono ?_
              rintro e wz ⟨rfl, hBz⟩
              clear cS
              go_wp2
              go_roundw
              case rel => exact ⟨k + 1, t', by omega, by go_num, by rw [TA.out], HX.out.frame hBz, TN'.out⟩
              case measure => simp [intOf]; omega
        · by_cases g1 : 600 < nn
          · clear hkl
            have tk0 : True := trivial
            obtain ⟨wo, hwo⟩ : ∃ wo, wo = wr := ⟨_, rfl⟩
            subst hwo
            have cF := HF bs bp bc 512 _ (by omega) hbl HBS.out hm1.bel
            go_wp2_with fail
            refine (show Calls Try.prog 9 #[.slice bp bs.length bc, .int .i64 512] _ _ from cF).mono ?_
            rintro e wa ⟨rfl, hba, hBa⟩
            clear cF
            rw [World.size_alloc] at hba hBa
            have hma : Hid (Main w wa rB t k) := hm1.frame (by rw [World.size_alloc]; exact hBa)
            have hoa : wa.heap[wo.heap.size]? = some (.cells #[.int .i64 0, .int .i64 ii, .int .i64 nn, .slice bp bs.length bc, .slice kp ks.length kc] 31 (0, 0)) := (hBa.block _ (Nat.lt_succ_self _)).trans hoB
            have hav : AvSt (wo.heap.size + 1) t := AvSt.fresh hm1.both (by rw [World.size_alloc]; exact Nat.le_refl _)
            have hXlt : wo.heap.size + 1 < wa.heap.size := (Array.getElem?_eq_some_iff.1 hba).1
            have hwlo := hm.out.bel.size
            have cW := write_both hma.out (by omega) ii (wo.heap.size + 1) 512 (full bs 512) (full_length bs 512) hba
            have z1 : wa.cell? ⟨wo.heap.size, 1, none⟩ = some (.int .i64 ii) := cellOf hoa 1
            clear hm1 hoB
            go_wp2_with fail
            refine cW.mono ?_
            rintro e wb ⟨ec, rfl, kpb, cR⟩
            clear cW
            have hob := kpb _ _ 31 (by simp) hoa
            have z2 : wb.cell? ⟨wo.heap.size, 1, none⟩ = some (.int .i64 ii) := cellOf hob 1
            have z3 : wb.cell? ⟨rB, 0, none⟩ = some (.pointer (some ⟨t.r, 0, none⟩)) := cellOf (kpb _ _ 26 (by simp) hma.out.rb) 0
            have hbb := kpb _ _ 5 (by simp) hba
            clear hoa hba
            go_wp2_with fail
            refine cR.mono ?_
            rintro e wc ⟨rfl, kpc, t', hm', ta, tr, tn, tav⟩
            clear cR
            have hoc := kpc _ _ 31 (by simp) hob
            have hbc := kpc _ _ 5 (by simp) hbb
            have hav' := tav _ hXlt hav
            have HM' : Hid (Main w wc rB t' (k + 1)) := hm'
            have TN' : Hid (t'.n = n) := tn.trans HTN.out
            have TA : Hid (t'.a = t.a) := ta
            clear hm' tav hob hbb kpb kpc ta tr tn hBa
            go_wp2_with fail
            go_loopw [14] (fun ix wd => ∃ j : Nat, j ≤ 512 ∧ ix = .int .i64 j ∧ (∃ ys : List Int, ys.length = 512 ∧ wd.heap[wo.heap.size + 1]? = some (.cells (ys.map u8).toArray 5 (0, 0))) ∧ But (fun b => b = wo.heap.size + 1) wc wd) (fun ix _ => 512 - (intOf ix).toNat)
            case atStart => exact ⟨0, Nat.zero_le _, rfl, ⟨full bs 512, full_length bs 512, hbc⟩, But.refl _ _⟩
            case round =>
              obtain ⟨j, hj, rfl, ⟨ys, hyl, hyb⟩, hbd⟩ := hrel
              by_cases hlt : j < 512
              · have hltI : (j : Int) < (512 : Nat) := by omega
                obtain ⟨y, hy⟩ : ∃ y, ys[j]? = some y := ⟨_, List.getElem?_eq_getElem (by omega)⟩
                have c1 : wr.cell? ⟨wo.heap.size + 1, j, none⟩ = some (.int .u8 y) := by
                  rw [cellOf hyb j, List.getElem?_toArray, List.getElem?_map, hy]
                  rfl
                have f1 := frozenOf hyb j
                have HY : Hid (wr.heap[wo.heap.size + 1]? = some (.cells (ys.map u8).toArray 5 (0, 0))) := hyb
                clear hyb hy
                go_wp2
                exact ⟨⟨j + 1, by omega, by go_num, ⟨ys.set j 9, by rw [List.length_set]; exact hyl, row_set9 HY.out⟩, hbd.setCell ⟨wo.heap.size + 1, j, none⟩ rfl _⟩, by simp [intOf]; omega⟩
              · obtain rfl : 512 = j := by omega
                have HX : Hid (Main w wr rB t' (k + 1)) := HM'.out.aside hav' hbc (by omega) hbd
                have hox : wr.heap[wo.heap.size]? = some (.cells #[.int .i64 0, .int .i64 ii, .int .i64 nn, .slice bp bs.length bc, .slice kp ks.length kc] 31 (0, 0)) := (hbd.block _ (Array.getElem?_eq_some_iff.1 hoc).1 (by omega)).trans hoc
                clear hoc hbc hyb hbd
                have y1 : wr.cell? ⟨rB, 0, none⟩ = some (.pointer (some ⟨t'.r, 0, none⟩)) := cellOf HX.out.rb 0
                have y2 : wr.cell? ⟨wo.heap.size, 1, none⟩ = some (.int .i64 ii) := cellOf hox 1
                have cS := same_any ii wr t' (k + 1) (by omega) HX.out.both
                rw [TA.out] at cS
                clear hox
                go_wp2_with fail
                refine cS.mono ?_
                rintro e wz ⟨rfl, hBz⟩
                clear cS
                go_wp2
                go_roundw
                case rel => exact ⟨k + 1, t', by omega, by go_num, by rw [TA.out], HX.out.frame hBz, TN'.out⟩
                case measure => simp [intOf]; omega
          · obtain ⟨x, hx⟩ := Int.eq_ofNat_of_zero_le (show 0 ≤ nn by omega)
            subst hx
            have hx6 : x ≤ 600 := by omega
            obtain ⟨wo, hwo⟩ : ∃ wo, wo = wr := ⟨_, rfl⟩
            subst hwo
            have cF := HF bs bp bc x _ (by omega) hbl HBS.out hm1.bel
            go_wp2_with fail
            refine (show Calls Try.prog 9 #[.slice bp bs.length bc, .int .i64 (x : Int)] _ _ from cF).mono ?_
            rintro e wa ⟨rfl, hba, hBa⟩
            clear cF
            rw [World.size_alloc] at hba hBa
            have hma : Hid (Main w wa rB t k) := hm1.frame (by rw [World.size_alloc]; exact hBa)
            have hoa : wa.heap[wo.heap.size]? = some (.cells #[.int .i64 0, .int .i64 ii, .int .i64 (x : Int), .slice bp bs.length bc, .slice kp ks.length kc] 31 (0, 0)) := (hBa.block _ (Nat.lt_succ_self _)).trans hoB
            have hav : AvSt (wo.heap.size + 1) t := AvSt.fresh hm1.both (by rw [World.size_alloc]; exact Nat.le_refl _)
            have hXlt : wo.heap.size + 1 < wa.heap.size := (Array.getElem?_eq_some_iff.1 hba).1
            have hwlo := hm.out.bel.size
            have cW := write_both hma.out (by omega) ii (wo.heap.size + 1) x (full bs x) (full_length bs x) hba
            have z1 : wa.cell? ⟨wo.heap.size, 1, none⟩ = some (.int .i64 ii) := cellOf hoa 1
            clear hm1 hoB
            go_wp2_with fail
            refine cW.mono ?_
            rintro e wb ⟨ec, rfl, kpb, cR⟩
            clear cW
            have hob := kpb _ _ 31 (by simp) hoa
            have z2 : wb.cell? ⟨wo.heap.size, 1, none⟩ = some (.int .i64 ii) := cellOf hob 1
            have z3 : wb.cell? ⟨rB, 0, none⟩ = some (.pointer (some ⟨t.r, 0, none⟩)) := cellOf (kpb _ _ 26 (by simp) hma.out.rb) 0
            have hbb := kpb _ _ 5 (by simp) hba
            clear hoa hba
            go_wp2_with fail
            refine cR.mono ?_
            rintro e wc ⟨rfl, kpc, t', hm', ta, tr, tn, tav⟩
            clear cR
            have hoc := kpc _ _ 31 (by simp) hob
            have hbc := kpc _ _ 5 (by simp) hbb
            have hav' := tav _ hXlt hav
            have HM' : Hid (Main w wc rB t' (k + 1)) := hm'
            have TN' : Hid (t'.n = n) := tn.trans HTN.out
            have TA : Hid (t'.a = t.a) := ta
            clear hm' tav hob hbb kpb kpc ta tr tn hBa
            go_wp2_with fail
            go_loopw [14] (fun ix wd => ∃ j : Nat, j ≤ x ∧ ix = .int .i64 j ∧ (∃ ys : List Int, ys.length = x ∧ wd.heap[wo.heap.size + 1]? = some (.cells (ys.map u8).toArray 5 (0, 0))) ∧ But (fun b => b = wo.heap.size + 1) wc wd) (fun ix _ => x - (intOf ix).toNat)
            case atStart => exact ⟨0, Nat.zero_le _, rfl, ⟨full bs x, full_length bs x, hbc⟩, But.refl _ _⟩
            case round =>
              obtain ⟨j, hj, rfl, ⟨ys, hyl, hyb⟩, hbd⟩ := hrel
              by_cases hlt : j < x
              · have hltI : (j : Int) < (x : Nat) := by omega
                obtain ⟨y, hy⟩ : ∃ y, ys[j]? = some y := ⟨_, List.getElem?_eq_getElem (by omega)⟩
                have c1 : wr.cell? ⟨wo.heap.size + 1, j, none⟩ = some (.int .u8 y) := by
                  rw [cellOf hyb j, List.getElem?_toArray, List.getElem?_map, hy]
                  rfl
                have f1 := frozenOf hyb j
                have HY : Hid (wr.heap[wo.heap.size + 1]? = some (.cells (ys.map u8).toArray 5 (0, 0))) := hyb
                clear hyb hy
                go_wp2
                exact ⟨⟨j + 1, by omega, by go_num, ⟨ys.set j 9, by rw [List.length_set]; exact hyl, row_set9 HY.out⟩, hbd.setCell ⟨wo.heap.size + 1, j, none⟩ rfl _⟩, by simp [intOf]; omega⟩
              · obtain rfl : x = j := by omega
                have HX : Hid (Main w wr rB t' (k + 1)) := HM'.out.aside hav' hbc (by omega) hbd
                have hox : wr.heap[wo.heap.size]? = some (.cells #[.int .i64 0, .int .i64 ii, .int .i64 (x : Int), .slice bp bs.length bc, .slice kp ks.length kc] 31 (0, 0)) := (hbd.block _ (Array.getElem?_eq_some_iff.1 hoc).1 (by omega)).trans hoc
                clear hoc hbc hyb hbd
                have y1 : wr.cell? ⟨rB, 0, none⟩ = some (.pointer (some ⟨t'.r, 0, none⟩)) := cellOf HX.out.rb 0
                have y2 : wr.cell? ⟨wo.heap.size, 1, none⟩ = some (.int .i64 ii) := cellOf hox 1
                have cS := same_any ii wr t' (k + 1) (by omega) HX.out.both
                rw [TA.out] at cS
                clear hox
                go_wp2_with fail
                refine cS.mono ?_
                rintro e wz ⟨rfl, hBz⟩
                clear cS
                go_wp2
                go_roundw
                case rel => exact ⟨k + 1, t', by omega, by go_num, by rw [TA.out], HX.out.frame hBz, TN'.out⟩
                case measure => simp [intOf]; omega
      · have k0B : (kind == 0) = false := beq_eq_false_iff_ne.2 k0
        by_cases k1 : kind = 1
        · subst k1
          have cW := flush_both hm1 (by omega)
          go_wp2_with fail
          refine cW.mono ?_
          rintro e wb ⟨ec, rfl, kpb, cR⟩
          clear cW
          have hob := kpb _ _ 31 (by simp) hoB
          have z3 : wb.cell? ⟨rB, 0, none⟩ = some (.pointer (some ⟨t.r, 0, none⟩)) := cellOf (kpb _ _ 26 (by simp) hm1.rb) 0
          go_wp2_with fail
          refine cR.mono ?_
          rintro e WX ⟨rfl, kpc, t', hm', ta, tr, tn⟩
          clear cR
          have hox := kpc _ _ 31 (by simp) hob
          have HX : Hid (Main w WX rB t' (k + 1)) := hm'
          have TN' : Hid (t'.n = n) := tn.trans HTN.out
          have TA : Hid (t'.a = t.a) := ta
          clear hm' ta tr tn hob hoB hm1 kpb kpc
          have y1 : WX.cell? ⟨rB, 0, none⟩ = some (.pointer (some ⟨t'.r, 0, none⟩)) := cellOf HX.out.rb 0
          have y2 : WX.cell? ⟨wr.heap.size, 1, none⟩ = some (.int .i64 ii) := cellOf hox 1
          have cS := same_any ii WX t' (k + 1) (by omega) HX.out.both
          rw [TA.out] at cS
          clear hox
          go_wp2_with fail
          refine cS.mono ?_
          rintro e wz ⟨rfl, hBz⟩
          clear cS
          go_wp2
          go_roundw
          case rel => exact ⟨k + 1, t', by omega, by go_num, by rw [TA.out], HX.out.frame hBz, TN'.out⟩
          case measure => simp [intOf]; omega
        · have k1B : (kind == 1) = false := beq_eq_false_iff_ne.2 k1
          by_cases k2 : kind = 2
          · subst k2
            have cW := fuse_both hm1 nn hnn
            go_wp2_with fail
            refine cW.mono ?_
            rintro e wb ⟨rfl, kpb, cR⟩
            clear cW
            have hob := kpb _ _ 31 (by simp) hoB
            have z2 : wb.cell? ⟨wr.heap.size, 2, none⟩ = some (.int .i64 nn) := cellOf hob 2
            have z3 : wb.cell? ⟨rB, 0, none⟩ = some (.pointer (some ⟨t.r, 0, none⟩)) := cellOf (kpb _ _ 26 (by simp) hm1.rb) 0
            go_wp2_with fail
            refine cR.mono ?_
            rintro e WX ⟨rfl, kpc, t', hm', ta, tr, tn⟩
            clear cR
            have hox := kpc _ _ 31 (by simp) hob
            have HX : Hid (Main w WX rB t' (k + 1)) := hm'.mono (Nat.le_succ _)
            have TN' : Hid (t'.n = n) := tn.trans HTN.out
            have TA : Hid (t'.a = t.a) := ta
            clear hm' ta tr tn hob hoB hm1 kpb kpc
            have y1 : WX.cell? ⟨rB, 0, none⟩ = some (.pointer (some ⟨t'.r, 0, none⟩)) := cellOf HX.out.rb 0
            have y2 : WX.cell? ⟨wr.heap.size, 1, none⟩ = some (.int .i64 ii) := cellOf hox 1
            have cS := same_any ii WX t' (k + 1) (by omega) HX.out.both
            rw [TA.out] at cS
            clear hox
            go_wp2_with fail
            refine cS.mono ?_
            rintro e wz ⟨rfl, hBz⟩
            clear cS
            go_wp2
            go_roundw
            case rel => exact ⟨k + 1, t', by omega, by go_num, by rw [TA.out], HX.out.frame hBz, TN'.out⟩
            case measure => simp [intOf]; omega
          · have k2B : (kind == 2) = false := beq_eq_false_iff_ne.2 k2
            have hm3 : Main w (((wr.alloc (.cells #[.int .i64 kind, .int .i64 ii, .int .i64 nn, .slice bp bs.length bc, .slice kp ks.length kc] 31)).alloc (.cells #[.int .i64 (-1)] 3)).alloc (.cells #[.bool true] 4)) rB t k :=
              hm1.frame (((Below.refl _ _).alloc (Nat.le_refl _) _).alloc (by simp) _)
            have hw3 := hm.out.bel.size
            have hsL : t.sL < wr.heap.size := hm.out.both.rv.Llt
            have cW := crash_both hm3 (by omega) (wr.heap.size + 1 + 1) (wr.heap.size + 1) wr.heap.size kp kc ks (.int .i64 kind) (.int .i64 ii) (.int .i64 nn) (.slice bp bs.length bc)
              (by have := heap_alloc_new ((wr.alloc (.cells #[.int .i64 kind, .int .i64 ii, .int .i64 nn, .slice bp bs.length bc, .slice kp ks.length kc] 31)).alloc (.cells #[.int .i64 (-1)] 3)) (.cells #[.bool true] 4); rw [World.size_alloc, World.size_alloc] at this; exact this)
              (by rw [Below.heap_alloc _ _ _ (by rw [World.size_alloc, World.size_alloc]; omega)]; have := heap_alloc_new (wr.alloc (.cells #[.int .i64 kind, .int .i64 ii, .int .i64 nn, .slice bp bs.length bc, .slice kp ks.length kc] 31)) (.cells #[.int .i64 (-1)] 3); rw [World.size_alloc] at this; exact this)
              (by omega) (by omega) (by omega)
              (by rw [Below.heap_alloc _ _ _ (by rw [World.size_alloc, World.size_alloc]; omega), Below.heap_alloc _ _ _ (by rw [World.size_alloc]; omega)]; exact hoB) hkl' HKS.out
            have hoB3 : (((wr.alloc (.cells #[.int .i64 kind, .int .i64 ii, .int .i64 nn, .slice bp bs.length bc, .slice kp ks.length kc] 31)).alloc (.cells #[.int .i64 (-1)] 3)).alloc (.cells #[.bool true] 4)).heap[wr.heap.size]? = some (.cells #[.int .i64 kind, .int .i64 ii, .int .i64 nn, .slice bp bs.length bc, .slice kp ks.length kc] 31 (0, 0)) := by
              rw [Below.heap_alloc _ _ _ (by rw [World.size_alloc, World.size_alloc]; omega), Below.heap_alloc _ _ _ (by rw [World.size_alloc]; omega)]; exact hoB
            have hmf : ∀ (fn : Fn) (first cap : Array Value) (w : World), (Instr.makeFunc fn first cap).run Try.prog w = .ok (.func fn first cap) w := fun _ _ _ _ => rfl
            have hrb3 := hm3.rb
            have HM3 : Hid (Main w (((wr.alloc (.cells #[.int .i64 kind, .int .i64 ii, .int .i64 nn, .slice bp bs.length bc, .slice kp ks.length kc] 31)).alloc (.cells #[.int .i64 (-1)] 3)).alloc (.cells #[.bool true] 4)) rB t k) := hm3
            clear hm1 hoB hm3
            go_wp2_with fail
            refine cW.mono ?_
            rintro e wb ⟨a', rfl, kpb, hfb, cR⟩
            clear cW
            have hob := kpb _ _ 31 (by simp) hoB3
            have hrb := kpb _ _ 26 (by simp) hrb3
            have z2 : wb.cell? ⟨wr.heap.size, 4, none⟩ = some (.slice kp ks.length kc) := cellOf hob 4
            have z3 : wb.cell? ⟨rB, 0, none⟩ = some (.pointer (some ⟨t.r, 0, none⟩)) := cellOf hrb 0
            clear hoB3 hrb3
            go_wp2_with fail
            refine cR.mono ?_
            rintro e wc ⟨r', rfl, kpc, hfc, t', hbth, ta, tr, tn, hbel, hlo⟩
            clear cR
            have hoc := kpc _ _ 31 (by simp) hob
            have hrc := kpc _ _ 26 (by simp) hrb
            have z4 : wc.cell? ⟨rB, 0, none⟩ = some (.pointer (some ⟨t.r, 0, none⟩)) := cellOf hrc 0
            have z5 := frozenOf hrc 0
            have nB1 : wr.heap.size ≠ rB := fun e => by rw [e] at hoc; rw [hoc] at hrc; cases hrc
            have nB2 : wr.heap.size + 1 + 1 ≠ rB := fun e => by rw [e] at hfc; rw [hfc] at hrc; cases hrc
            have hox : (wc.setCell ⟨rB, 0, none⟩ (.pointer (some ⟨r', 0, none⟩))).heap[wr.heap.size]? = some (.cells #[.int .i64 kind, .int .i64 ii, .int .i64 nn, .slice bp bs.length bc, .slice kp ks.length kc] 31 (0, 0)) := (Below.heap_setCell wc ⟨rB, 0, none⟩ _ _ nB1).trans hoc
            have hfx : (wc.setCell ⟨rB, 0, none⟩ (.pointer (some ⟨r', 0, none⟩))).cell? ⟨wr.heap.size + 1 + 1, 0, none⟩ = some (.bool true) := cell_set_other (cellOf hfc 0) nB2
            have HX : Hid (Main w (wc.setCell ⟨rB, 0, none⟩ (.pointer (some ⟨r', 0, none⟩))) rB t' (k + 1)) := by
              have hst := Main.stored (w0 := w) hbth hrc hbel hlo HM3.out.lB
              rw [tr] at hst
              exact hst.mono (Nat.le_succ _)
            have TN' : Hid (t'.n = n) := tn.trans HTN.out
            have TA : Hid (t'.a = a') := ta
            have TR : Hid (t'.r = r') := tr
            clear hbth ta tr tn hbel hlo hoc hrc hfc kpb kpc hob hrb hfb
            have y1 : (wc.setCell ⟨rB, 0, none⟩ (.pointer (some ⟨r', 0, none⟩))).cell? ⟨rB, 0, none⟩ = some (.pointer (some ⟨r', 0, none⟩)) := by have hy := cellOf HX.out.rb 0; rw [TR.out] at hy; exact hy
            have y2 : (wc.setCell ⟨rB, 0, none⟩ (.pointer (some ⟨r', 0, none⟩))).cell? ⟨wr.heap.size, 1, none⟩ = some (.int .i64 ii) := cellOf hox 1
            have cS := same_any ii (wc.setCell ⟨rB, 0, none⟩ (.pointer (some ⟨r', 0, none⟩))) t' (k + 1) (by omega) HX.out.both
            rw [TA.out, TR.out] at cS
            clear hox
            go_wp2_with fail
            refine cS.mono ?_
            rintro e wz ⟨rfl, hBz⟩
            clear cS
            go_wp2
            go_roundw
            case rel => exact ⟨k + 1, t', by omega, by go_num, by rw [TA.out], HX.out.frame hBz, TN'.out⟩
            case measure => simp [intOf]; omega
    · have hol : ¬ (k < ol ∧ k < 40) := hgo
      by_cases h1 : (k : Int) < ol
      · have h2 : ¬ (k : Int) < 40 := by omega
        clear hgo hol
        go_wp2
        go_ret
        exact ⟨rfl, hm.out.bel⟩
      · clear hgo hol
        go_wp2
        go_ret
        exact ⟨rfl, hm.out.bel⟩

end Go.Proofs.Ytnobebgnbofdpaa
