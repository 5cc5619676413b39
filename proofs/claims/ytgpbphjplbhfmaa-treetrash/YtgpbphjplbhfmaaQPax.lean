/-
  TreeTrash, whatever the memory and the order that Go leaves open, and whatever its two arguments are, returns true and leaves all memory that was there as it was.
-/
import Derived.Test.YtgpbphjplbhfmaaQPz
import Derived.Test.YtgpbphjplbhfmaaRows
import Derived.ProofKit
import Derived.OpenShut
import Derived.ChangeOld

/-
  TreeTrash: the walk.
-/
namespace Go.Proofs.Ytgpbphjplbhfmaa.Ck.Y
open Go.RowKit Go.Maps Go.Lib

set_option maxRecDepth 8000 in
set_option maxHeartbeats 4000000 in
theorem trash_in {d : Nat} (h1 : 1 ≤ d) (h2 : d ≤ 20) (b : Bool) (w : World) : Calls Try.prog 6 #[.int .i64 d, .bool b] w fun e w' => e = .returned (.bool true) ∧ Below w.heap.size w w' := by
  have g1 : ¬ (d : Int) < 1 := by omega
  have g2 : ¬ (20 : Int) < (d : Int) := by omega
  go_enter Try.func6, Try.ntmps6
  go_wp2_with (first
    | (go_at_call 7; refine (begun_any _).mono ?_; rintro e Wb ⟨rfl, hb⟩; have H3 : Hid (Below w.heap.size w Wb) := hb; clear hb)
    | (go_at_call 8; refine (tg_start _ H3).mono ?_; rintro e W0 ⟨rfl, H4⟩))
  have HS := tr_start H4
  go_loopw [7, 9, 10] (fun vL vs ii wr => ∃ (i : Nat) (v1 v2 : Value), ii = .int .i64 i ∧ v1 = vL ∧ v2 = vs ∧ i ≤ d ∧ Hid (TR w Wb.heap.size W0.heap.size i v1 v2 wr)) (fun _ _ ii _ => d - (RowKit.intOf ii).toNat)
  case atStart => exact ⟨0, _, _, rfl, rfl, rfl, by omega, HS⟩
  case round =>
    obtain ⟨i, vL, vs, rfl, rfl, rfl, hi, HI⟩ := hrel
    by_cases hlt : i < d
    · have hltI : (i : Int) < d := by omega
      obtain ⟨l, ps, c, m, rfl, hc, hl, hch, rfl, hT⟩ := HI.out
      have hT1 := tg_new hT (.cells #[.int .i64 ((i : Int) + 1), .int .i64 2] 31)
      have e0 : (wr.alloc (.cells #[.int .i64 ((i : Int) + 1), .int .i64 2] 31)).cell? ⟨W0.heap.size, 0, none⟩ = some (.int .i64 i) := cellOf (tg_at hT1 (List.mem_cons_of_mem _ (List.mem_cons_self ..))) 0
      have e1 : (wr.alloc (.cells #[.int .i64 ((i : Int) + 1), .int .i64 2] 31)).cell? ⟨W0.heap.size, 1, none⟩ = some (.int .i64 (parN i)) := cellOf (tg_at hT1 (List.mem_cons_of_mem _ (List.mem_cons_self ..))) 1
      clear hT1
      have HT : Hid (TGo w wr Wb.heap.size l vL (chI i) ps (seenN i) [(W0.heap.size, .cells #[.int .i64 i, .int .i64 (parN i)] 31 (0, 0))]) := hT
      have HL : Hid (l.length = i ∧ IsCh l ∧ (seenN i).length ≤ c) := ⟨hl, hch, hc⟩
      clear hT hl hch hc HI
      generalize hA : (seenN i).length = sl
      have HA : Hid ((seenN i).length = sl) := hA
      clear hA
      have h20 : i < 20 := by omega
      have hcl : (chI i).length < 1000 := by rw [chI_length]; omega
      have tok : True := trivial
      go_wp2_with (first
        | (go_at_call 10; refine (tr_apply h20 HT HL HA).mono ?_; rintro e W3 ⟨⟨x, rfl⟩, f0, f1, H5⟩; clear e0 e1 HT)
        | (have tk := tok; refine wpList_appI rfl _ _ rfl w.heap.size vL (chI i) ((i : Int) + 1, 2) rfl W3.heap.size rfl (tm_row H5 hcl ((i : Int) + 1, 2)) ?_; clear tk tok; intro p2 c2 W4 H6; refine Stop.out ?_))
      refine Stop.mk ?_
      obtain ⟨f2, f3, f4, H7⟩ := tm_app H5 H6
      clear H5 H6 f0 f1
      have q0 : W4.cell? ⟨W0.heap.size, 0, none⟩ = some (.int .i64 i) := cellOf f4 0
      have q1 : W4.frozen? ⟨W0.heap.size, 0, none⟩ = false := frozenOf f4 0
      have q4 := heap_set_same (k := 0) f4 (.int .i64 ((i : Int) + 1))
      have q2 : (W4.setCell ⟨W0.heap.size, 0, none⟩ (.int .i64 ((i : Int) + 1))).cell? ⟨W0.heap.size, 1, none⟩ = some (.int .i64 (parN i)) := cellOf q4 1
      have q3 : (W4.setCell ⟨W0.heap.size, 0, none⟩ (.int .i64 ((i : Int) + 1))).frozen? ⟨W0.heap.size, 1, none⟩ = false := frozenOf q4 1
      have q5 : W4.cell? ⟨W0.heap.size, 1, none⟩ = some (.int .i64 (parN i)) := cellOf f4 1
      have q6 : W4.frozen? ⟨W0.heap.size, 1, none⟩ = false := frozenOf f4 1
      clear q4 f4
      go_wp2_with (go_at_call 21; refine (tm_with h20 H7 HL HA).mono ?_; rintro e W6 ⟨b6, rfl, H8⟩)
      go_roundw
      case rel => exact ⟨i + 1, _, _, by go_num, rfl, rfl, by omega, H8⟩
      case measure => simp [RowKit.intOf]; omega
    · obtain rfl : i = d := by omega
      obtain ⟨l, ps, c, m, rfl, hc, hl, hch, rfl, hT⟩ := HI.out
      obtain ⟨g, cap, cur, hv, _⟩ := (tg_row hT).form (by rw [chI_length]; omega)
      rw [chI_length] at hv
      subst hv
      have e0 : wr.cell? ⟨g, 0, none⟩ = some (.int .i64 1) := ((tg_row hT).cells (chI_at (i := 0) (by omega))).1
      have e1 : wr.cell? ⟨g, 1, none⟩ = some (.int .i64 2) := ((tg_row hT).cells (chI_at (i := 0) (by omega))).2
      have HT : Hid (TGo w wr Wb.heap.size l (.slice (some ⟨g, 0, none⟩) i cap) (chI i) ps (seenN i) [(W0.heap.size, .cells #[.int .i64 i, .int .i64 (parN i)] 31 (0, 0))]) := hT
      have HL : Hid (l.length = i ∧ IsCh l ∧ (seenN i).length ≤ c) := ⟨hl, hch, hc⟩
      clear hT hl hch hc HI hlt hi
      generalize hA : (seenN i).length = sl
      have HA : Hid ((seenN i).length = sl) := hA
      clear hA
      have h0I : (0 : Int) < (i : Int) := by omega
      have h0N : 0 < i := by omega
      go_wp2_with (go_at_call 10; refine (tr_move h1 h2 HT HL HA).mono ?_; rintro e W3 ⟨⟨x, rfl⟩, H5⟩; clear e0 e1 HT)
      obtain ⟨B, hB⟩ : ∃ B, B = wr.heap.size := ⟨_, rfl⟩
      rw [← hB] at H5 ⊢
      clear hB
      go_loopw [14] (fun ii w2 => ∃ k : Nat, ii = .int .i64 k ∧ k ≤ i ∧ Hid (TX w Wb.heap.size i g cap B l ps sl c w2)) (fun ii _ => i - (RowKit.intOf ii).toNat)
      case atStart => exact ⟨0, rfl, by omega, H5⟩
      case round =>
        obtain ⟨k, rfl, hk, HX⟩ := hrel
        by_cases hlt : k < i
        · have hltI : (k : Int) < i := by omega
          have hkI : ¬ (k : Int) < 0 := by omega
          obtain ⟨x0, x1⟩ := HX.out.cells hlt
          go_wp2_with (first
            | (go_at_call 17; refine (tx_live hlt HX).mono ?_; rintro e W4 ⟨rfl, y0, y1, H6⟩; clear x0 x1)
            | (go_at_call 11; refine (tx_has hlt H6).mono ?_; rintro e W5 ⟨rfl, z0, z1, H7⟩; clear y0 y1)
            | (go_at_call 13; refine (tx_below hlt H7).mono ?_; rintro e W6 ⟨rfl, H8⟩; clear z0 z1))
          go_roundw
          case rel => exact ⟨k + 1, by go_num, by omega, H8⟩
          case measure => simp [RowKit.intOf]; omega
        · obtain rfl : k = i := by omega
          clear hlt hk
          obtain ⟨e, he⟩ : ∃ e, k = e + 1 := ⟨k - 1, by omega⟩
          have hw : IntKind.i64.wrap ((k : Int) - 1) = (e : Int) := by rw [IntKind.wrap_i64]; omega
          have he0 : (0 : Int) ≤ e := by omega
          have heI : (e : Int) < k := by omega
          have heN : e < k := by omega
          have HE : Hid (k = e + 1) := he
          clear he
          cases b
          · have HZ := (HX.out.last h1).tl HE.out
            have S1 := TL.drew HE.out HZ
            have hcap := HZ.2.2.out.cap1 HE.out
            have hcapI : (1 : Int) ≤ cap := by omega
            clear HX H5 HL HA HS H4 H3
            go_wp2_with fail
            go_region_held3 (fun W => W.cell? ⟨g, e * 2, none⟩ = some (.int .i64 ((e : Int) + 1)) ∧ W.cell? ⟨g, e * 2 + 1, none⟩ = some (.int .i64 2) ∧ Hid (TZ w Wb.heap.size k g cap false W))
              (first | exact S1 | exact HZ | assumption)
              (first
                | (go_at_call 17; refine (tl_live HE.out (by assumption)).mono ?_; rintro en W5 ⟨rfl, K5⟩)
                | (go_at_call 18; refine (tl_len HE.out (by assumption)).mono ?_; rintro en W6 ⟨rfl, K6⟩)
                | (go_at_call 15; refine (tl_kids0 HE.out (by assumption)).mono ?_; rintro en W7 ⟨⟨p7, c7, rfl⟩, K7⟩)
                | (go_at_call 22; refine (map01_f _).mono ?_; rintro en W8 ⟨rfl, rfl⟩))
            go_wp2
            go_ret
            exact ⟨rfl, TL.bel (by assumption)⟩
          · have hb := HX.out.block
            have a0 : wr.cell? ⟨B, 0, none⟩ = some (.int .i64 50) := cellOf hb 0
            have a1 : wr.frozen? ⟨B, 0, none⟩ = false := frozenOf hb 0
            have hb1 := heap_set_same (k := 0) hb (.int .i64 51)
            have a2 : (wr.setCell ⟨B, 0, none⟩ (.int .i64 51)).cell? ⟨B, 2, none⟩ = some (.int .i64 ((k : Int) + 1)) := cellOf hb1 2
            have a3 : (wr.setCell ⟨B, 0, none⟩ (.int .i64 51)).frozen? ⟨B, 2, none⟩ = false := frozenOf hb1 2
            have a4 : wr.cell? ⟨B, 2, none⟩ = some (.int .i64 ((k : Int) + 1)) := cellOf hb 2
            have a5 : wr.frozen? ⟨B, 2, none⟩ = false := frozenOf hb 2
            clear hb hb1
            go_wp2_with (go_at_call 21; refine (tx_with h2 HX HA).mono ?_; rintro en W4 ⟨q, rfl, HV⟩; clear a0 a1 a2 a3 a4 a5; refine Stop.out ?_)
            refine Stop.mk ?_
            have hb := HV.out.block
            have hb1 := heap_set_same (k := 10) hb (.slice (some ⟨q, 0, none⟩) 3 3)
            have hb2 := heap_set_same (k := 6) hb1 (.int .i64 0)
            have hb3 := HV.out.out
            have c0 : W4.cell? ⟨B, 10, none⟩ = some (.slice ps sl c) := cellOf hb 10
            have c1 : W4.frozen? ⟨B, 10, none⟩ = false := frozenOf hb 10
            have c2 : (W4.setCell ⟨B, 10, none⟩ (.slice (some ⟨q, 0, none⟩) 3 3)).cell? ⟨B, 6, none⟩ = some (.int .i64 0) := cellOf hb1 6
            have c3 : (W4.setCell ⟨B, 10, none⟩ (.slice (some ⟨q, 0, none⟩) 3 3)).frozen? ⟨B, 6, none⟩ = false := frozenOf hb1 6
            have c4 : ((W4.setCell ⟨B, 10, none⟩ (.slice (some ⟨q, 0, none⟩) 3 3)).setCell ⟨B, 6, none⟩ (.int .i64 0)).cell? ⟨B, 7, none⟩ = some (.int .i64 1) := cellOf hb2 7
            have c5 : ((W4.setCell ⟨B, 10, none⟩ (.slice (some ⟨q, 0, none⟩) 3 3)).setCell ⟨B, 6, none⟩ (.int .i64 0)).frozen? ⟨B, 7, none⟩ = false := frozenOf hb2 7
            have y0 : (((W4.setCell ⟨B, 10, none⟩ (.slice (some ⟨q, 0, none⟩) 3 3)).setCell ⟨B, 6, none⟩ (.int .i64 0)).setCell ⟨B, 7, none⟩ (.int .i64 0)).cell? ⟨B, 0, none⟩ = some (.int .i64 51) := cellOf hb3 0
            have y1 : (((W4.setCell ⟨B, 10, none⟩ (.slice (some ⟨q, 0, none⟩) 3 3)).setCell ⟨B, 6, none⟩ (.int .i64 0)).setCell ⟨B, 7, none⟩ (.int .i64 0)).cell? ⟨B, 1, none⟩ = some (.int .i64 2) := cellOf hb3 1
            have y2 : (((W4.setCell ⟨B, 10, none⟩ (.slice (some ⟨q, 0, none⟩) 3 3)).setCell ⟨B, 6, none⟩ (.int .i64 0)).setCell ⟨B, 7, none⟩ (.int .i64 0)).cell? ⟨B, 2, none⟩ = some (.int .i64 ((k : Int) + 1 + 1)) := cellOf hb3 2
            have y3 : (((W4.setCell ⟨B, 10, none⟩ (.slice (some ⟨q, 0, none⟩) 3 3)).setCell ⟨B, 6, none⟩ (.int .i64 0)).setCell ⟨B, 7, none⟩ (.int .i64 0)).cell? ⟨B, 3, none⟩ = some (.int .i64 3) := cellOf hb3 3
            have y4 : (((W4.setCell ⟨B, 10, none⟩ (.slice (some ⟨q, 0, none⟩) 3 3)).setCell ⟨B, 6, none⟩ (.int .i64 0)).setCell ⟨B, 7, none⟩ (.int .i64 0)).cell? ⟨B, 4, none⟩ = some (.int .i64 1) := cellOf hb3 4
            have y5 : (((W4.setCell ⟨B, 10, none⟩ (.slice (some ⟨q, 0, none⟩) 3 3)).setCell ⟨B, 6, none⟩ (.int .i64 0)).setCell ⟨B, 7, none⟩ (.int .i64 0)).cell? ⟨B, 5, none⟩ = some (.int .i64 2) := cellOf hb3 5
            have y6 : (((W4.setCell ⟨B, 10, none⟩ (.slice (some ⟨q, 0, none⟩) 3 3)).setCell ⟨B, 6, none⟩ (.int .i64 0)).setCell ⟨B, 7, none⟩ (.int .i64 0)).cell? ⟨B, 6, none⟩ = some (.int .i64 0) := cellOf hb3 6
            have y7 : (((W4.setCell ⟨B, 10, none⟩ (.slice (some ⟨q, 0, none⟩) 3 3)).setCell ⟨B, 6, none⟩ (.int .i64 0)).setCell ⟨B, 7, none⟩ (.int .i64 0)).cell? ⟨B, 7, none⟩ = some (.int .i64 0) := cellOf hb3 7
            have y8 : (((W4.setCell ⟨B, 10, none⟩ (.slice (some ⟨q, 0, none⟩) 3 3)).setCell ⟨B, 6, none⟩ (.int .i64 0)).setCell ⟨B, 7, none⟩ (.int .i64 0)).cell? ⟨B, 8, none⟩ = some (.string ⟨#[100]⟩) := cellOf hb3 8
            have y9 : (((W4.setCell ⟨B, 10, none⟩ (.slice (some ⟨q, 0, none⟩) 3 3)).setCell ⟨B, 6, none⟩ (.int .i64 0)).setCell ⟨B, 7, none⟩ (.int .i64 0)).cell? ⟨B, 9, none⟩ = some (.slice none 0 0) := cellOf hb3 9
            have y10 : (((W4.setCell ⟨B, 10, none⟩ (.slice (some ⟨q, 0, none⟩) 3 3)).setCell ⟨B, 6, none⟩ (.int .i64 0)).setCell ⟨B, 7, none⟩ (.int .i64 0)).cell? ⟨B, 10, none⟩ = some (.slice (some ⟨q, 0, none⟩) 3 3) := cellOf hb3 10
            clear hb hb1 hb2 hb3
            go_wp2_with (go_at_call 10; refine (tv_out h1 h2 HV).mono ?_; rintro en W5 ⟨⟨x5, rfl⟩, HZ0⟩; clear c0 c1 c2 c3 c4 c5 y0 y1 y2 y3 y4 y5 y6 y7 y8 y9 y10)
            have HZ := HZ0.out.tl HE.out
            have S1 := TL.drew HE.out HZ
            have hcap := HZ.2.2.out.cap1 HE.out
            have hcapI : (1 : Int) ≤ cap := by omega
            clear HV HX H5 HL HA HS H4 H3
            go_region_held3 (fun W => W.cell? ⟨g, e * 2, none⟩ = some (.int .i64 ((e : Int) + 1)) ∧ W.cell? ⟨g, e * 2 + 1, none⟩ = some (.int .i64 2) ∧ Hid (TZ w Wb.heap.size k g cap true W))
              (first | exact S1 | exact HZ | assumption)
              (first
                | (go_at_call 17; refine (tl_live HE.out (by assumption)).mono ?_; rintro en W5 ⟨rfl, K5⟩)
                | (go_at_call 18; refine (tl_len HE.out (by assumption)).mono ?_; rintro en W6 ⟨rfl, K6⟩)
                | (go_at_call 15; refine (tl_kids1 HE.out (by assumption)).mono ?_; rintro en W7 ⟨⟨p7, c7, rfl⟩, K7⟩)
                | (go_at_call 22; refine (map01_t _).mono ?_; rintro en W8 ⟨rfl, rfl⟩))
            go_wp2
            go_ret
            exact ⟨rfl, TL.bel (by assumption)⟩

end Go.Proofs.Ytgpbphjplbhfmaa.Ck.Y

/-
  TreeTrash: the law, whatever comes in.
-/
namespace Go.Proofs.Ytgpbphjplbhfmaa.Ck.Y
open Go.RowKit Go.Maps Go.Lib

theorem tn_new0 {w : World} (v : World) (hv : Hid (Below w.heap.size w v)) : Calls Try.prog 8 #[] v fun e W0 => e = .returned (.pointer (some ⟨v.heap.size, 0, none⟩)) ∧ Hid (Below w.heap.size w W0) := by
  refine (new_any v).mono ?_
  rintro e W0 ⟨rfl, hT, hb⟩
  exact ⟨rfl, hv.out.trans (hb.mono hv.out.size)⟩
set_option maxRecDepth 8000 in
set_option maxHeartbeats 4000000 in
theorem trash_out {d : Int} (b : Bool) (hg : d < 1 ∨ 20 < d) (w : World) : Calls Try.prog 6 #[.int .i64 d, .bool b] w fun e w' => e = .returned (.bool true) ∧ Below w.heap.size w w' := by
  go_enter Try.func6, Try.ntmps6
  rcases hg with hg | hg
  · go_wp2_with (first
      | (go_at_call 7; refine (begun_any _).mono ?_; rintro e Wb ⟨rfl, hb⟩; have H3 : Hid (Below w.heap.size w Wb) := hb; clear hb)
      | (go_at_call 8; refine (tn_new0 _ H3).mono ?_; rintro e W0 ⟨rfl, H4⟩))
    go_ret
    exact ⟨rfl, H4.out⟩
  · have hg' : ¬ d < 1 := by omega
    go_wp2_with (first
      | (go_at_call 7; refine (begun_any _).mono ?_; rintro e Wb ⟨rfl, hb⟩; have H3 : Hid (Below w.heap.size w Wb) := hb; clear hb)
      | (go_at_call 8; refine (tn_new0 _ H3).mono ?_; rintro e W0 ⟨rfl, H4⟩))
    go_ret
    exact ⟨rfl, H4.out⟩
theorem trash_law (d : Int) (b : Bool) (w : World) : Calls Try.prog 6 #[.int .i64 d, .bool b] w fun e w' => e = .returned (.bool true) ∧ Below w.heap.size w w' := by
  by_cases hg : d < 1 ∨ 20 < d
  · exact trash_out b hg w
  · obtain ⟨n, rfl⟩ : ∃ n : Nat, d = n := ⟨d.toNat, by omega⟩
    exact trash_in (by omega) (by omega) b w

end Go.Proofs.Ytgpbphjplbhfmaa.Ck.Y

namespace Go.Proofs.Ytgpbphjplbhfmaa
open Go.ChangeShapes Go.WideShapes Go.ChangeAt Go.RowKit

theorem ownc : ownKnob Try.prog.godebug = none := by kernel_rfl
theorem laidOutc : laidOutB Try.prog = true := by kernel_rfl

set_option maxRecDepth 100000 in
theorem ttrash_lifted (os : Os) (started : os.Started) (H : Type) (enc : TypeId × Value → H) :
    ReturnsInHanded {} Try.checked os 6 .any (Rows.treeTrashSpec.pre6 enc Try.prog Try.f6 Rows.treeTrashRow.domain false) (Rows.treeTrashSpec.post enc Try.prog Try.f6 false true false false) := by
  refine returnsInHanded_of_change (C := Try.checked) ownc started (by kernel_rfl) Try.func6
    (ChangeSpec.witness6 (enc := enc) (C := Try.checked) false ⟨#[], #[.int .i64 0, .bool false], []⟩ 8 (by kernel_rfl) (by kernel_rfl) (by kernel_rfl) (by kernel_rfl)) ?_
  intro W base args ds gs before hval0 hW hcnd _
  have hval : ∀ (j : Nat) t v, Try.f6.params[j]? = some t → args[j]? = some v → Value.okWide Try.prog W .any base t v := hval0
  have hW' := hW
  obtain ⟨p, q, hA0, hV, rfl, hfz, hnd⟩ := hW
  have hA : DataW.TrodAll enc Try.prog W 0 (fun _ => true) true Try.f6.params.toList args.toList ds p := hA0
  rw [Try.params6] at hA hval
  obtain ⟨v0, vs0, d0, ds0, p0, q0, hargs, rfl, rfl, h0, r0⟩ := trodAll_cons hA
  obtain ⟨v1, vs1, d1, ds1, p1, q1, rfl, rfl, rfl, h1, r1⟩ := trodAll_cons r0
  obtain ⟨rfl, rfl, rfl⟩ := trodAll_nil r1
  obtain rfl : args = #[v0, v1] := by cases args; simp_all
  obtain ⟨rfl, rfl⟩ := trodVars_none hV
  obtain ⟨x0, rfl⟩ := okWide_int Try.underlying3 (hval 0 3 v0 rfl rfl)
  obtain ⟨bk, rfl⟩ := okWide_bool Try.underlying4 (hval 1 4 v1 rfl rfl)
  have k0 := h0
  have k1 := h1
  have lt0 : ∀ x ∈ p0, x.block < W.heap.size := by obtain ⟨m, hm⟩ := k0; exact DataW.trod_lt m _ _ _ hm
  have lt1 : ∀ x ∈ p1, x.block < W.heap.size := by obtain ⟨m, hm⟩ := k1; exact DataW.trod_lt m _ _ _ hm
  clear hA0 hval0
  refine (Ck.Y.trash_law x0 bk W).mono fun e W' ⟨he, bel⟩ => ?_
  subst he
  exact ⟨_, rfl, _, _, _, [], _, [], hW', trodAll_mk1 (shut_bool Try.underlying4 _), (trodAll_cons_mk (Below.trod laidOutc (by kernel_rfl) (of_decide_eq_true (by kernel_rfl)) k0 bel lt0) (trodAll_cons_mk (Below.trod laidOutc (by kernel_rfl) (of_decide_eq_true (by kernel_rfl)) k1 bel lt1) trodAll_mk0)), rfl, bel.frame _, fun h => by cases h⟩

theorem treeTrash_holds : Rows.TreeTrashSaid :=
  OpenClaim.holds_of_wide 6 Try.f6 rfl rfl rfl rfl rfl rfl rfl ⟨rfl, rfl, rfl, rfl, rfl⟩ rfl rfl rfl rfl rfl (by kernel_rfl) Try.func6 (by kernel_rfl)
    (of_decide_eq_true (by kernel_rfl)) (by unfold Func.isWrapper; first | (rw [if_pos (by decide +kernel)]; kernel_rfl) | (rw [if_neg (by decide +kernel)]; exact ⟨rfl, rfl⟩))
    (fun os started H enc _ => ttrash_lifted os started H enc)

#print axioms treeTrash_holds
end Go.Proofs.Ytgpbphjplbhfmaa
