/-
  ContentMerge, the law.
-/
import Derived.Test.YteimjkicinjcgaaQLta
import Derived.Deep.RegionWith

namespace Go.Proofs.Yteimjkicinjcgaa.Ck.Y.L
open Go.RowKit Go.Maps Go.Lib

theorem con_rng2 {x : OG} {ns : List Int} (h : mayW x ns = true) : 0 ≤ x.n ∧ x.n < 64 ∧ x.sq ≤ 1152921504606846976 := by
  unfold mayW Cd.mayO Cd.countB at h
  simp only [Bool.and_eq_true, decide_eq_true_eq] at h
  have h1 := Ck.validB_true.1 h.1.1
  exact ⟨h1.2.2.1, h1.2.2.2, h.1.2.1.1.2⟩

set_option maxRecDepth 8000 in
set_option maxHeartbeats 16000000 in
theorem merge_law2 (p : Option Addr) (L : List OG) (c : Nat) (bp : Option Addr) (bs : List (BitVec 8)) (bc : Nat) (w : World) (hp : OpsL w p L) (hL : L.length ≤ maxLen) (hb : Cd.Bytes w bp bs) (hbc : bs.length ≤ bc) (hbl : bs.length ≤ maxLen) (hlen : ¬ 100 < bs.length) :
    Calls Try.prog 6 #[.slice p L.length c, .slice bp bs.length bc, .bool true] w fun e w' => e = .returned (.bool true) ∧ Below w.heap.size w w' := by
  have HP : Hid (OpsL w p L ∧ L.length ≤ maxLen) := ⟨hp, hL⟩
  have HBS : Hid (Cd.Bytes w bp bs ∧ bs.length ≤ bc ∧ bs.length ≤ maxLen) := ⟨hb, hbc, hbl⟩
  have HLEN : Hid (¬ 100 < bs.length) := hlen
  clear hp hL hb hbc hbl hlen
  go_enter Try.func6, Try.ntmps6
  go_wp2_with (first
    | (go_at_call 7; refine Calls_new (begun_any _) ?_; intro w1 HB1)
    | (go_at_call 8; refine (new_at w1).mono ?_; rintro e w2 ⟨fb, rfl, hfb, hb2, hf2⟩; have H2 : Hid (fb = w1.heap.size ∧ FileS (fun b => b = fb) w2 fb [] ∧ Below w.heap.size w w2) := ⟨hfb, hf2, below_thenH HB1.out hb2⟩; clear hfb hb2 hf2)
    | (go_at_call 9; refine (some_any p L c 15 w w2 H2.out.2.2 HP.out.1 HP.out.2 (by decide)).mono ?_; rintro e w4 ⟨v, l, rfl, hr4, ht4, hl4, hb4⟩; have H4 : Hid (RowG w4 w2.heap.size v l ∧ Taken w l ∧ l.length ≤ 15 ∧ Below w2.heap.size w2 w4) := ⟨hr4, ht4, hl4, hb4⟩; clear hr4 ht4 hl4 hb4))
  obtain ⟨q, d, rfl⟩ := H4.out.1.slice
  obtain ⟨nsf, bsf, hcon⟩ := H4.out.2.1.con
  have HC : Hid (Con w nsf bsf l ∧ l.length ≤ 700) := ⟨hcon, by have := H4.out.2.2.1; omega⟩
  have HO : Hid (MgI w w4 w2.heap.size fb (.slice q l.length d) l [] [] [] none 0) :=
    MgI.start (H2.out.2.1.below H4.out.2.2.2) (by have := H2.out.1; have := HB1.out.size; omega) H4.out.1 (below_thenH H2.out.2.2 H4.out.2.2.2)
  clear hcon
  go_loopw [9, 10, 12] (fun ss nn ii wr => ∃ (i : Nat) (S : List VC) (ns : List Int) (sp : Option Addr) (sc : Nat), ss = .slice sp ns.length sc ∧ nn = .int .i64 (S.length : Nat) ∧ ii = .int .i64 i ∧ i ≤ l.length ∧ Hid (MgI w wr w2.heap.size fb (.slice q l.length d) l S S ns sp i ∧ ns.length ≤ sc)) (fun _ _ ii _ => l.length - (RowKit.intOf ii).toNat)
  case atStart => exact ⟨0, [], [], none, 0, rfl, rfl, rfl, by omega, HO, Nat.le_refl _⟩
  case round =>
    obtain ⟨i, S, ns, sp, sc, rfl, rfl, rfl, hi, HI⟩ := hrel
    generalize wr = wo at *
    have hl9 : l.length ≤ 700 := HC.out.2
    have hS9 : S.length ≤ i := by obtain ⟨F, h⟩ := HI.out.1; exact h.len
    by_cases hlt : i < l.length
    · have hltI : (i : Int) < l.length := by omega
      have HLT : Hid (i < l.length) := hlt
      obtain ⟨x, hx⟩ : ∃ x, l[i]? = some x := ⟨_, List.getElem?_eq_getElem hlt⟩
      have HX : Hid (l[i]? = some x) := hx
      obtain ⟨hxi, hxm⟩ := HC.out.1.each x (List.mem_of_getElem? hx)
      have HXM : Hid (0 ≤ x.n ∧ x.n < 64 ∧ x.sq ≤ 1152921504606846976) := con_rng2 hxm
      obtain ⟨p1, c1, e1, h1⟩ := RowG.caps HI.out.1.row
      cases e1
      obtain ⟨g, rfl, a0, a1, a2, a3, a4, a5, a6, a7, a8, a9, a10⟩ := h1 i x hx
      have hbw : Below w.heap.size w wo := by obtain ⟨F, h⟩ := HI.out.1; exact h.one.below
      have HXI : Hid (WIn wo x (nsf x) (bsf x)) := hxi.below hbw
      clear hx hxi hxm h1 hlt hbw
      by_cases k1 : x.kd = 4
      · by_cases k2 : x.t < 1152921504606846976
        · by_cases k3 : x.n = 40
          · go_wp2_with fail
            go_roundw
            case rel => exact ⟨i + 1, S, ns, sp, sc, rfl, rfl, by go_num, HLT.out, HI.out.1.skip, HI.out.2⟩
            case measure => have := HLT.out; simp [RowKit.intOf]; omega
          · have cat : ∀ W, Below wo.heap.size wo W → Calls Try.prog 22 #[.slice x.sp x.sl x.sc, .int .i64 40] W fun e w' => e = .returned (.int .i64 (Vc.atZ (nsf x) 40)) ∧ w' = W := fun W hW => by
              have := Vc.rat_any x.sp (nsf x) x.sc 40 W (HXI.out.below hW).seen
              rwa [HXI.out.sl] at this
            obtain ⟨z, hz⟩ : ∃ z, Vc.atZ (nsf x) 40 = z := ⟨_, rfl⟩
            rw [hz] at cat
            have HZ : Hid (Vc.atZ (nsf x) 40 = z) := hz
            clear hz
            by_cases k4 : z = 0
            · subst k4
              have cA := fun W (hW : Below wo.heap.size wo W) => (HI.out.1.later hW).add HC.out.1 HC.out.2 HX.out k1
              simp only [opgv, opgC, k1] at cA
              have cB := HI.out.1.lies
              obtain ⟨y, hy⟩ : ∃ y, Vc.atZ ns x.n = y := ⟨_, rfl⟩
              have HY : Hid (Vc.atZ ns x.n = y) := hy
              have HCD : Hid (x.n ≠ 40 ∧ Vc.atZ (nsf x) 40 = 0 ∧ x.t < 1152921504606846976) := ⟨k3, HZ.out, k2⟩
              clear hy cB
              have tok1 : True := trivial
              by_cases k5 : y < x.sq
              · go_wp2_with (first
                  | (go_at_call 22; have tk := tok1; clear tok1; refine Calls_on (cat _ (Below.refl _ _)) ?_; clear tk cat)
                  | (go_at_call 10; refine (cA wo (Below.refl _ _)).mono ?_; clear cA; rintro e w5 ⟨rfl, hm5⟩; have H5 : Hid (MgI w w5 w2.heap.size fb (.slice (some ⟨g, 0, none⟩) l.length d) l (S ++ [vcOf x (nsf x) (bsf x)]) S ns sp (i + 1)) := hm5; obtain ⟨p2, c2, e2, h2⟩ := RowG.caps hm5.row; cases e2; obtain ⟨g2, e3, d0, d1, d2, _⟩ := h2 i x HX.out; cases e3; clear h2 hm5 a0 a1 a2 a3 a4 a5 a6 a7 a8 a9 a10))
                have hB : ∀ W, Below w5.heap.size w5 W → Calls Try.prog 22 #[.slice sp ns.length sc, .int .i64 x.n] W fun e w' => e = .returned (.int .i64 y) ∧ w' = W := fun W hW => by
                  have := Vc.rat_any sp ns sc x.n W (Cd.below_lies hW H5.out.lies)
                  rwa [HY.out] at this
                have hW : ∀ W, Below w5.heap.size w5 W → Calls Try.prog 23 #[.slice sp ns.length sc, .int .i64 x.n, .int .i64 x.sq] W fun e w' => ∃ b, e = .returned (.slice (some ⟨b, 0, none⟩) (Vc.vec (Vc.wdF ns x.n.toNat x.sq)).length (Vc.vec (Vc.wdF ns x.n.toNat x.sq)).length) ∧ W.heap.size ≤ b ∧ Cd.Lies w' (some ⟨b, 0, none⟩) ((Vc.vec (Vc.wdF ns x.n.toNat x.sq)).map Cd.iv) ∧ Below W.heap.size W w' := fun W hW => by
                  have h64 := HXM.out
                  have hq : 1 ≤ x.sq := by
                    obtain ⟨F, h⟩ := H5.out
                    exact h.sq (vcOf x (nsf x) (bsf x)) (by simp)
                  have := Vc.rwith_at sp ns sc x.n.toNat x.sq (by omega) (by omega) h64.2.2 W (Cd.below_lies hW H5.out.lies)
                  rwa [show ((x.n.toNat : Nat) : Int) = x.n by omega] at this
                have HS : ∀ W W', (W.cell? ⟨g, i * 11 + 1, none⟩ = some (.int .i64 x.n) ∧ W.cell? ⟨g, i * 11 + 2, none⟩ = some (.int .i64 x.sq) ∧ Hid (Below w5.heap.size w5 W)) → Hid (Below W.heap.size W W') → W'.cell? ⟨g, i * 11 + 1, none⟩ = some (.int .i64 x.n) ∧ W'.cell? ⟨g, i * 11 + 2, none⟩ = some (.int .i64 x.sq) ∧ Hid (Below w5.heap.size w5 W') := fun W W' h1 h2 =>
                  have hb := below_thenH h1.2.2.out h2.out
                  ⟨cell_keptH d1 hb, cell_keptH d2 hb, hb⟩
                have S1 : w5.drew.cell? ⟨g, i * 11 + 1, none⟩ = some (.int .i64 x.n) ∧ w5.drew.cell? ⟨g, i * 11 + 2, none⟩ = some (.int .i64 x.sq) ∧ Hid (Below w5.heap.size w5 w5.drew) := ⟨d1, d2, below_drewH w5⟩
                have S2 : w5.cell? ⟨g, i * 11 + 1, none⟩ = some (.int .i64 x.n) ∧ w5.cell? ⟨g, i * 11 + 2, none⟩ = some (.int .i64 x.sq) ∧ Hid (Below w5.heap.size w5 w5) := ⟨d1, d2, Below.refl _ _⟩
                have HF : ∀ W, (W.cell? ⟨g, i * 11 + 1, none⟩ = some (.int .i64 x.n) ∧ W.cell? ⟨g, i * 11 + 2, none⟩ = some (.int .i64 x.sq) ∧ Hid (Below w5.heap.size w5 W)) → Below w5.heap.size w5 W := fun W hW => hW.2.2.out
                go_region_held3 (fun W => W.cell? ⟨g, i * 11 + 1, none⟩ = some (.int .i64 x.n) ∧ W.cell? ⟨g, i * 11 + 2, none⟩ = some (.int .i64 x.sq) ∧ Hid (Below w5.heap.size w5 W))
                  (first | exact S1 | exact S2 | assumption | exact HS _ _ (by assumption) (below_drewH _) | exact HS _ _ (by assumption) (by assumption))
                  (first | (go_at_call 22; refine Calls_on (hB _ (HF _ (by assumption))) ?_))
                clear hB
                go_wp2_with fail
                go_region_held3 (fun W => W.cell? ⟨g, i * 11 + 1, none⟩ = some (.int .i64 x.n) ∧ W.cell? ⟨g, i * 11 + 2, none⟩ = some (.int .i64 x.sq) ∧ Hid (Below w5.heap.size w5 W))
                  (first | exact S1 | exact S2 | assumption | exact HS _ _ (by assumption) (below_drewH _) | exact HS _ _ (by assumption) (by assumption))
                  (first | (go_at_call 23; refine (hW _ (HF _ (by assumption))).mono ?_; rintro e w7 ⟨b7, rfl, hge7, hl7, hb7⟩; have H7 : Hid (Below _ _ w7) := hb7; have HG7 : Hid (w5.heap.size ≤ b7 ∧ Cd.Lies w7 (some ⟨b7, 0, none⟩) ((Vc.vec (Vc.wdF ns x.n.toNat x.sq)).map Cd.iv)) := ⟨Nat.le_trans (HF _ (by assumption)).size hge7, hl7⟩; clear hge7 hl7 hb7))
                go_wp2_with fail
                go_roundw
                case rel =>
                  refine ⟨i + 1, S ++ [vcOf x (nsf x) (bsf x)], Vc.vec (Vc.wdF ns x.n.toNat x.sq), some ⟨b7, 0, none⟩, (Vc.vec (Vc.wdF ns x.n.toNat x.sq)).length, rfl, by rw [List.length_append]; rfl, by go_num, HLT.out, ?_, Nat.le_refl _⟩
                  have h64 := HXM.out
                  exact H5.out.with (c := vcOf x (nsf x) (bsf x)) HCD.out (by omega) (show x.n = ((x.n.toNat : Nat) : Int) by omega) h64.2.2 (by show Vc.atZ ns x.n < x.sq; rw [HY.out]; assumption) HG7.out.1 HG7.out.2 (HF _ (by assumption))
                case measure => have := HLT.out; simp [RowKit.intOf]; omega
              · go_wp2_with (first
                  | (go_at_call 22; have tk := tok1; clear tok1; refine Calls_on (cat _ (Below.refl _ _)) ?_; clear tk cat)
                  | (go_at_call 10; refine (cA wo (Below.refl _ _)).mono ?_; clear cA; rintro e w5 ⟨rfl, hm5⟩; have H5 : Hid (MgI w w5 w2.heap.size fb (.slice (some ⟨g, 0, none⟩) l.length d) l (S ++ [vcOf x (nsf x) (bsf x)]) S ns sp (i + 1)) := hm5; obtain ⟨p2, c2, e2, h2⟩ := RowG.caps hm5.row; cases e2; obtain ⟨g2, e3, d0, d1, d2, _⟩ := h2 i x HX.out; cases e3; clear h2 hm5 a0 a1 a2 a3 a4 a5 a6 a7 a8 a9 a10))
                have hB : ∀ W, Below w5.heap.size w5 W → Calls Try.prog 22 #[.slice sp ns.length sc, .int .i64 x.n] W fun e w' => e = .returned (.int .i64 y) ∧ w' = W := fun W hW => by
                  have := Vc.rat_any sp ns sc x.n W (Cd.below_lies hW H5.out.lies)
                  rwa [HY.out] at this
                have hW : ∀ W, Below w5.heap.size w5 W → Calls Try.prog 23 #[.slice sp ns.length sc, .int .i64 x.n, .int .i64 x.sq] W fun e w' => ∃ b, e = .returned (.slice (some ⟨b, 0, none⟩) (Vc.vec (Vc.wdF ns x.n.toNat x.sq)).length (Vc.vec (Vc.wdF ns x.n.toNat x.sq)).length) ∧ W.heap.size ≤ b ∧ Cd.Lies w' (some ⟨b, 0, none⟩) ((Vc.vec (Vc.wdF ns x.n.toNat x.sq)).map Cd.iv) ∧ Below W.heap.size W w' := fun W hW => by
                  have h64 := HXM.out
                  have hq : 1 ≤ x.sq := by
                    obtain ⟨F, h⟩ := H5.out
                    exact h.sq (vcOf x (nsf x) (bsf x)) (by simp)
                  have := Vc.rwith_at sp ns sc x.n.toNat x.sq (by omega) (by omega) h64.2.2 W (Cd.below_lies hW H5.out.lies)
                  rwa [show ((x.n.toNat : Nat) : Int) = x.n by omega] at this
                have HS : ∀ W W', (W.cell? ⟨g, i * 11 + 1, none⟩ = some (.int .i64 x.n) ∧ W.cell? ⟨g, i * 11 + 2, none⟩ = some (.int .i64 x.sq) ∧ Hid (Below w5.heap.size w5 W)) → Hid (Below W.heap.size W W') → W'.cell? ⟨g, i * 11 + 1, none⟩ = some (.int .i64 x.n) ∧ W'.cell? ⟨g, i * 11 + 2, none⟩ = some (.int .i64 x.sq) ∧ Hid (Below w5.heap.size w5 W') := fun W W' h1 h2 =>
                  have hb := below_thenH h1.2.2.out h2.out
                  ⟨cell_keptH d1 hb, cell_keptH d2 hb, hb⟩
                have S1 : w5.drew.cell? ⟨g, i * 11 + 1, none⟩ = some (.int .i64 x.n) ∧ w5.drew.cell? ⟨g, i * 11 + 2, none⟩ = some (.int .i64 x.sq) ∧ Hid (Below w5.heap.size w5 w5.drew) := ⟨d1, d2, below_drewH w5⟩
                have S2 : w5.cell? ⟨g, i * 11 + 1, none⟩ = some (.int .i64 x.n) ∧ w5.cell? ⟨g, i * 11 + 2, none⟩ = some (.int .i64 x.sq) ∧ Hid (Below w5.heap.size w5 w5) := ⟨d1, d2, Below.refl _ _⟩
                have HF : ∀ W, (W.cell? ⟨g, i * 11 + 1, none⟩ = some (.int .i64 x.n) ∧ W.cell? ⟨g, i * 11 + 2, none⟩ = some (.int .i64 x.sq) ∧ Hid (Below w5.heap.size w5 W)) → Below w5.heap.size w5 W := fun W hW => hW.2.2.out
                go_region_held3 (fun W => W.cell? ⟨g, i * 11 + 1, none⟩ = some (.int .i64 x.n) ∧ W.cell? ⟨g, i * 11 + 2, none⟩ = some (.int .i64 x.sq) ∧ Hid (Below w5.heap.size w5 W))
                  (first | exact S1 | exact S2 | assumption | exact HS _ _ (by assumption) (below_drewH _) | exact HS _ _ (by assumption) (by assumption))
                  (first | (go_at_call 22; refine Calls_on (hB _ (HF _ (by assumption))) ?_))
                clear hB
                go_wp2_with fail
                go_roundw
                case rel =>
                  refine ⟨i + 1, S ++ [vcOf x (nsf x) (bsf x)], ns, sp, sc, rfl, by rw [List.length_append]; rfl, by go_num, HLT.out, ?_, HI.out.2⟩
                  exact (H5.out.keep (c := vcOf x (nsf x) (bsf x)) HCD.out (by show x.sq ≤ Vc.atZ ns x.n; rw [HY.out]; omega)).later (HF _ (by assumption))
                case measure => have := HLT.out; simp [RowKit.intOf]; omega
            · go_wp2_with (go_at_call 22; refine Calls_on (cat _ (Below.refl _ _)) ?_)
              go_roundw
              case rel => exact ⟨i + 1, S, ns, sp, sc, rfl, rfl, by go_num, HLT.out, HI.out.1.skip, HI.out.2⟩
              case measure => have := HLT.out; simp [RowKit.intOf]; omega
        · go_wp2_with fail
          go_roundw
          case rel => exact ⟨i + 1, S, ns, sp, sc, rfl, rfl, by go_num, HLT.out, HI.out.1.skip, HI.out.2⟩
          case measure => have := HLT.out; simp [RowKit.intOf]; omega
      · go_wp2_with fail
        go_roundw
        case rel => exact ⟨i + 1, S, ns, sp, sc, rfl, rfl, by go_num, HLT.out, HI.out.1.skip, HI.out.2⟩
        case measure => have := HLT.out; simp [RowKit.intOf]; omega
    · obtain rfl : i = l.length := by omega
      have hmg := HI.out.1
      obtain ⟨F, hF⟩ := hmg
      obtain ⟨HCs, hhd⟩ := hF.one.f.hd hF.sq
      have HF : Hid (FileS F wo fb S ∧ (∀ x ∈ S, 1 ≤ x.sq) ∧ IsHd S HCs ∧ SeenAll S ns ∧ HCs.length ≤ 700) := ⟨hF.one.f, hF.sq, hhd, hF.sees, by
        obtain ⟨sn, H, mv, sp, sc, hv, k1, k2, _, k3, _⟩ := hF.one.f
        have := (k2.isHd hF.sq).unique hhd
        rw [← this, List.length_map]
        have := hF.len
        omega⟩
      have hH9 : HCs.length ≤ 700 := HF.out.2.2.2.2
      clear hF hhd hlt
      have tok1 : True := trivial
      have hi9 : l.length ≤ 700 := HC.out.2
      have hlen := HLEN.out
      have hlenI : ¬ (100 : Int) < bs.length := by omega
      have hbc9 : bs.length ≤ bc := HBS.out.2.1
      go_wp2_with (first
        | (go_at_call 14; have tk := tok1; clear tok1; refine (fheadsR HF.out.1 (Below.refl _ _) HF.out.2.1 HF.out.2.2.1).mono ?_; clear tk; rintro e w5 ⟨px, cx, MX, rfl, _, _, hbx⟩; have H5 : Hid (Below wo.heap.size wo w5) := hbx; have cE := HI.out.1.end_all (bs := bs) (p := bp) (n := bs.length) (c := bc) hi9 HBS.out.1 (rfl) (by omega) (by omega) HI.out.2 H5.out; clear hbx)
        | (go_at_call 10; refine cE.mono ?_; clear cE; rintro e w6 ⟨rfl, he6⟩; have H6 : Hid (EndF w w6 fb (S ++ [endC ns bs]) ([endC ns bs]) bs) := he6; clear he6))
      have hwr : IntKind.i64.wrap ((S.length : Int) + 1) = (S.length : Int) + 1 := by rw [IntKind.wrap_i64]; omega
      have hwh : IntKind.i64.wrap ((HCs.length : Int) + 1) = (HCs.length : Int) + 1 := by rw [IntKind.wrap_i64]; omega
      have HCB : Hid (∀ W, Below w6.heap.size w6 W → (convert 31 9 (.slice bp bs.length bc)).run Try.prog W = .ok (.string (Cd.strOf bs)) W) := fun W hW => by
        have := Cd.run_str W bp bs bc (Cd.below_bytes (below_thenH H6.out.below hW) HBS.out.1)
        rwa [show bs.length = bs.length from rfl] at this
      have HBD : Hid (Below w6.heap.size w6 w6.drew) := below_drewH w6
      have cb6 := HCB.out w6.drew HBD.out
      have cL : Hid (∀ W, Below w6.heap.size w6 W → Calls Try.prog 17 #[.pointer (some ⟨fb, 0, none⟩)] W fun e w' => e = .returned (.int .i64 ((S.length : Int) + 1)) ∧ Below W.heap.size W w') := fun W hW => by
        have := H6.out.len hW
        rwa [List.length_append, show ((S.length + [endC ns bs].length : Nat) : Int) = (S.length : Int) + 1 from rfl] at this
      have cHd : Hid (∀ W, Below w6.heap.size w6 W → Calls Try.prog 14 #[.pointer (some ⟨fb, 0, none⟩)] W fun e w' => ∃ p c, e = .returned (.slice p 1 c) ∧ Below W.heap.size W w') := fun W hW => by
        have := H6.out.heads hW
        exact this
      go_region_with (first
        | (go_at_call 15; refine (H6.out.value HBD.out).mono ?_; rintro e w7 ⟨p7, n7, c7, rfl, hc7, hb7⟩; have H7 : Hid (Below w6.heap.size w6 w7) := below_thenH HBD.out hb7; have hc7' := hc7 w7 (Below.refl _ _); have cb7 := HCB.out w7 H7.out; clear hb7 hc7)
        | (go_at_call 17; refine Calls_new (cL.out _ H7.out) ?_; intro w8 HB8))
      all_goals
        have H8 : Hid (Below w6.heap.size w6 w8) := below_thenH H7.out HB8.out
        clear cb6 cb7 hc7'
        go_wp2_with (go_at_call 14; refine (cHd.out _ H8.out).mono ?_; rintro e w9 ⟨p9, c9, rfl, hb9⟩; have H9 : Hid (Below w6.heap.size w6 w9) := below_thenH H8.out hb9; clear hb9)
        go_ret
        exact ⟨by first | rfl | (simp; done), below_thenH H6.out.below H9.out⟩
end Go.Proofs.Yteimjkicinjcgaa.Ck.Y.L
