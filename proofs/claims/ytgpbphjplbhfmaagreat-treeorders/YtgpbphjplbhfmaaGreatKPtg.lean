import Derived.Test.YtgpbphjplbhfmaaGreatKPtd
import Derived.Test.YtgpbphjplbhfmaaGreatKPtf

namespace Go.Proofs.YtgpbphjplbhfmaaGreat.Ck.Y.S
open Go.RowKit Go.Maps Go.Lib
theorem infoOpA : (Tryz.prog.info? 34).map (·.size) = some 11 := by kernel_rfl
theorem opgC_one (x : OG) : (opgC x).all (·.oneCell') = true := by simp [opgC, Value.oneCell']
theorem grow_below {wo w8 w9 : World} {v : Value} {m : List OG} {o : Obj} (h : RowG w8 wo.heap.size v m) (hb : Below wo.heap.size wo w8) (a2 : (w8.alloc o).grownBy w9 v.ownBlock) : Below wo.heap.size wo w9 := by
  have b3 : Below w8.heap.size w8 (w8.alloc o) := (below_new _ _).out
  have hO : Only (fun b => v.ownBlock = some b) (w8.alloc o) w9 := ⟨a2.os, a2.tape, a2.output, a2.size, fun k hk hn => a2.block k hk (fun e => hn e.symm)⟩
  have s2 := below_thenH hb b3
  refine s2.trans (hO.below s2.size fun b hb => ?_)
  obtain ⟨_, _, hbase⟩ := h.tag hb
  exact hbase
theorem two_trees {w4 wv wx : World} {gs gt : Nat} {ls lt : List OG} (h1 : TJ w4 (· = gs) gs ls wv) (h2 : TJ wv (· = gt) gt lt wx) (hn : gs ≠ gt) (hg : gt < w4.heap.size) :
    ∃ Fs Ft : Nat → Prop, TW Fs wx gs ls ∧ TW Ft wx gt lt ∧ (∀ b, Fs b → ¬ Ft b) ∧ (∀ b, Fs b → b = gs ∨ w4.heap.size ≤ b) ∧ (∀ b, Ft b → b = gt ∨ wv.heap.size ≤ b) ∧ True := by
  have ho := h2.only
  obtain ⟨Fs, a1, a2, a3⟩ := h1
  obtain ⟨Ft, b1, b2, b3⟩ := h2
  have hlow := a1.low
  refine ⟨Fs, Ft, a1.kept ho fun b hb hs => ?_, b1, fun b hs ht => ?_, a2, b2, trivial⟩
  · have hbg : b = gt := by first | exact hb | exact hs
    have hF : Fs b := by first | exact hs | exact hb
    rcases a2 b hF with e | e
    · exact hn (e.symm.trans hbg)
    · omega
  · rcases b2 b ht with e | e
    · rcases a2 b hs with f | f
      · exact hn (f.symm.trans e)
      · omega
    · have := hlow b hs; omega
set_option maxRecDepth 8000 in
set_option maxHeartbeats 20000000 in
theorem torders_law (p : Option Addr) (L : List OG) (c : Nat) (tp : Option Addr) (zs : List Int) (tc : Nat) (w : World) (hp : OpsL w p L) (hL : L.length ≤ maxLen) (htz : TurnsL w tp zs) (htl : zs.length ≤ maxLen) :
    Calls Tryz.prog 4 #[.slice p L.length c, .slice tp zs.length tc] w fun e w' => e = .returned (.bool true) ∧ Below w.heap.size w w' := by
  have HP : Hid (OpsL w p L ∧ L.length ≤ maxLen) := ⟨hp, hL⟩
  have HZ : Hid (TurnsL w tp zs ∧ zs.length ≤ maxLen) := ⟨htz, htl⟩
  clear hp hL htz htl
  have tok1 : True := trivial
  have tok2 : True := trivial
  go_enter Tryz.func4, Tryz.ntmps4
  go_wp2_with (first
    | (go_at_call 5; refine Calls_new (begun_any _) ?_; intro w1 HB1)
    | (go_at_call 6; have tk := tok1; clear tok1; refine (new_any w1).mono ?_; clear tk; rintro e w2 ⟨rfl, ht2, hb2⟩; have H2 : Hid (TW (· = w1.heap.size) w2 w1.heap.size [] ∧ Below w1.heap.size w1 w2) := ⟨ht2, hb2⟩; clear ht2 hb2)
    | (go_at_call 6; have tk := tok2; clear tok2; refine (new_any w2).mono ?_; clear tk; rintro e w3 ⟨rfl, ht3, hb3⟩; have H3 : Hid (TW (· = w2.heap.size) w3 w2.heap.size [] ∧ Below w2.heap.size w2 w3 ∧ Below w.heap.size w w3) := ⟨ht3, hb3, below_thenH HB1.out (below_thenH H2.out.2 hb3)⟩; clear ht3 hb3)
    | (go_at_call 7; refine (some_any p L c 18 w w3 H3.out.2.2 HP.out.1 HP.out.2 (by decide)).mono ?_; rintro e w4 ⟨v, l, rfl, hr4, ht4, hl4, hb4⟩; have H4 : Hid (RowG w4 w3.heap.size v l ∧ Taken w l ∧ l.length ≤ 18 ∧ Below w3.heap.size w3 w4) := ⟨hr4, ht4, hl4, hb4⟩; clear hr4 ht4 hl4 hb4))
  obtain ⟨q, d, rfl⟩ := H4.out.1.slice
  have hgw := HB1.out.size
  have hg2 : w1.heap.size < w2.heap.size := H2.out.1.low _ rfl
  have hg3 : w2.heap.size < w3.heap.size := H3.out.1.low _ rfl
  have hg4 := H4.out.2.2.2.size
  have hs4 : TW (· = w1.heap.size) w4 w1.heap.size [] := (H2.out.1.below H3.out.2.1).below H4.out.2.2.2
  have ht4 : TW (· = w2.heap.size) w4 w2.heap.size [] := H3.out.1.below H4.out.2.2.2
  obtain ⟨gs, hgs⟩ : ∃ gs, w1.heap.size = gs := ⟨_, rfl⟩
  obtain ⟨gt, hgt⟩ : ∃ gt, w2.heap.size = gt := ⟨_, rfl⟩
  rw [hgs] at hgw hg2 hs4 ⊢
  rw [hgt] at hg2 hg3 ht4 ⊢
  have HU : Hid (TJ w4 (· = gs) gs [] w4 ∧ TW (· = gt) w4 gt [] ∧ RowG w4 w3.heap.size (.slice q l.length d) l ∧ (∀ g, (Value.slice q l.length d).ownBlock = some g → g ≠ gs ∧ g ≠ gt ∧ g < w4.heap.size) ∧ gs ≠ gt ∧ gt < w4.heap.size) := ⟨TJ.start hs4, ht4, H4.out.1, fun g hg => by obtain ⟨cs, hc, hb⟩ := H4.out.1.tag hg; have := block_lt hc; omega, by omega, by omega⟩
  have HM : Hid (Taken w l ∧ l.length ≤ 18 ∧ w.heap.size ≤ gs ∧ w.heap.size ≤ gt ∧ Below w.heap.size w w4) := ⟨H4.out.2.1, H4.out.2.2.1, hgw, by omega, below_thenH H3.out.2.2 H4.out.2.2.2⟩
  clear hgw hg2 hg3 hg4 hs4 ht4 hgs hgt
  go_loopw [9] (fun ii wr => ∃ i : Nat, ii = .int .i64 i ∧ i ≤ l.length ∧ Hid (∃ ls, TJ w4 (· = gs) gs ls wr ∧ Srt ls (l.take i))) (fun ii _ => l.length - (RowKit.intOf ii).toNat)
  case atStart => exact ⟨0, rfl, by omega, [], HU.out.1, by rw [List.take_zero]; exact Srt.nil⟩
  case round =>
    obtain ⟨i, rfl, hi, HI⟩ := hrel
    generalize wr = wo at *
    have hl9 : l.length ≤ 18 := HM.out.2.1
    by_cases hlt : i < l.length
    · have hltI : (i : Int) < l.length := by omega
      have HLT : Hid (i < l.length) := hlt
      obtain ⟨x, hx⟩ : ∃ x, l[i]? = some x := ⟨_, List.getElem?_eq_getElem hlt⟩
      obtain ⟨ls, hk, hs⟩ := HI.out
      obtain ⟨p1, c1, e1, h1⟩ := RowG.caps (hk.row HU.out.2.2.1 fun g hg => (HU.out.2.2.2.1 g hg).1)
      cases e1
      obtain ⟨g, rfl, a0, a1, a2, a3, a4, a5, a6, a7, a8, a9, a10⟩ := h1 i x hx
      have cA : Calls Tryz.prog 9 #[.pointer (some ⟨gs, 0, none⟩), opgv x] wo fun e w' => ∃ z : Int, e = .returned (.tuple #[.int .i64 z, .int .i64 0]) ∧ ∃ ls, TJ w4 (· = gs) gs ls w' ∧ Srt ls (l.take (i + 1)) := by
        obtain ⟨ns, bs, k1, k2, _⟩ := HM.out.1.each x (List.mem_of_getElem? hx)
        have hbw : Below w.heap.size w wo := HM.out.2.2.2.2.trans (hk.ubelow HM.out.2.2.2.2.size fun b hb => by rw [show b = gs from hb]; exact HM.out.2.2.1)
        refine (hk.apply (k1.below hbw) k2 (HM.out.1.new hx hs) (by rw [hs.len, List.length_take]; omega)).mono ?_
        rintro e w' ⟨j, rfl, hj, ht⟩
        exact ⟨_, rfl, _, ht, hs.snoc hj hx⟩
      simp only [opgv, opgC] at cA
      clear hx hs hk h1 hlt
      go_wp2_with (go_at_call 9; refine cA.mono ?_; clear cA; rintro e w5 ⟨z, rfl, h5⟩; have H5 : Hid (∃ ls, TJ w4 (· = gs) gs ls w5 ∧ Srt ls (l.take (i + 1))) := h5; clear h5)
      go_roundw
      case rel => exact ⟨i + 1, by go_num, HLT.out, H5⟩
      case measure => have := HLT.out; simp [RowKit.intOf]; omega
    · obtain rfl : i = l.length := by omega
      obtain ⟨ls, hk, hs⟩ := HI.out
      rw [List.take_length] at hs
      have HK : Hid (TJ w4 (· = gs) gs ls wo ∧ Srt ls l) := ⟨hk, hs⟩
      have HKT : Hid (TW (· = gt) wo gt []) := HU.out.2.1.kept hk.only fun b hb hs => HU.out.2.2.2.2.1 (hs.symm.trans hb)
      have HRL : Hid (RowG wo w3.heap.size (.slice q l.length d) l ∧ l.length ≤ 1000) := ⟨hk.row HU.out.2.2.1 fun g hg => (HU.out.2.2.2.1 g hg).1, by omega⟩
      have HWO : Hid (Below w.heap.size w wo) := HM.out.2.2.2.2.trans (hk.ubelow HM.out.2.2.2.2.size fun b hb => by rw [show b = gs from hb]; exact HM.out.2.2.1)
      clear hk hs hlt
      go_wp2_with (at_builtin; refine wpList_copyG rfl _ _ rfl rfl w3.heap.size _ l rfl rfl HRL ?_; intro p6 c6 w6 H6; refine Stp.out ?_)
      refine Stp.mk ?_
      go_wp2_with fail
      go_loopw [10, 11] (fun mm ii wr => ∃ (i : Nat) (ms : List OG) (p' : Option Addr) (c' : Nat), mm = .slice p' ms.length c' ∧ ii = .int .i64 i ∧ i ≤ zs.length ∧ Hid (RowG wr wo.heap.size (.slice p' ms.length c') ms ∧ ms.Perm l ∧ Below wo.heap.size wo wr)) (fun _ ii _ => zs.length - (RowKit.intOf ii).toNat)
      case atStart => exact ⟨0, l, p6, c6, rfl, rfl, by omega, H6.out.1, List.Perm.refl _, H6.out.2⟩
      case round =>
        obtain ⟨i, ms, p', c', rfl, rfl, hi, HR⟩ := hrel
        generalize wr = wv at *
        have hms : ms.length ≤ 18 := by rw [HR.out.2.1.length_eq]; exact hl9
        have hzl : zs.length ≤ 9223372036854775807 := by have := HZ.out.2; unfold maxLen at this; omega
        by_cases hgo : i < zs.length ∧ i < 30 ∧ 1 < ms.length
        · have h1I : (i : Int) < zs.length := by omega
          have h2I : (i : Int) < 30 := by omega
          have h3I : (1 : Int) < ms.length := by omega
          have HGO : Hid (i < zs.length ∧ 1 < ms.length) := ⟨hgo.1, hgo.2.2⟩
          obtain ⟨z, hz⟩ : ∃ z, zs[i]? = some z := ⟨_, List.getElem?_eq_getElem hgo.1⟩
          have HBV : Hid (Below w.heap.size w wv) := below_thenH HWO.out HR.out.2.2
          obtain ⟨tg, to, rfl, hct⟩ := (HZ.out.1.below HBV.out) (by omega)
          obtain ⟨z0, z1, z2⟩ := hct i z hz
          clear hz hct hgo
          obtain ⟨y, hy⟩ : ∃ y : Int, y = if z < 0 then -(z + 1) else z := ⟨_, rfl⟩
          have hy0 : 0 ≤ y ∧ y < 9223372036854775808 := by rw [hy]; split <;> omega
          obtain ⟨K, hK⟩ : ∃ K : Nat, y % (ms.length : Int) = K := ⟨(y % (ms.length : Int)).toNat, by have := Int.emod_nonneg y (b := (ms.length : Int)) (by omega); omega⟩
          have hKl : K < ms.length := by have := Int.emod_lt_of_pos y (b := (ms.length : Int)) (by omega); omega
          obtain ⟨x, hx⟩ : ∃ x, ms[K]? = some x := ⟨_, List.getElem?_eq_getElem hKl⟩
          have HX : Hid (ms[K]? = some x ∧ K < ms.length) := ⟨hx, hKl⟩
          obtain ⟨p1, c1, e1, h1⟩ := RowG.caps HR.out.1
          cases e1
          obtain ⟨mb, rfl, a0, a1, a2, a3, a4, a5, a6, a7, a8, a9, a10⟩ := h1 K x hx
          have hKI : (K : Int) < ms.length := by omega
          clear h1 hx
          by_cases hzn : z < 0
          all_goals
            first
              | (rw [if_pos hzn] at hy; have hz3 : -(z + 1) = y := hy.symm; clear hy)
              | (rw [if_neg hzn] at hy; subst hy)
            go_wp2_with (refine wpList_putW rfl 34 _ _ rfl wv.heap.size (opgC x) rfl rfl 34 _ (heap_alloc_new wv _) infoOpA rfl (opgC_one x) ?_; intro w7 H7; refine Stp.out ?_)
            refine Stp.mk ?_
            have hb7 : Below wv.heap.size wv w7 := (below_new wv _).out.trans (H7.out.2.1.below (below_new wv _).out.size fun b hb => by rw [show b = wv.heap.size from hb]; exact Nat.le_refl _)
            have H7b : Hid (RowG w7 wo.heap.size (.slice (some ⟨mb, 0, none⟩) ms.length c') ms ∧ Below wo.heap.size wo w7 ∧ w7.heap[wv.heap.size]? = some (.cells (opgC x) 34 (0, 0)) ∧ ms.Perm l) := ⟨HR.out.1.below hb7, below_thenH HR.out.2.2 hb7, H7.out.1, HR.out.2.1⟩
            obtain ⟨xb, hxb⟩ : ∃ xb, wv.heap.size = xb := ⟨_, rfl⟩
            have HCAP : Hid (ms.length ≤ c' ∧ K < ms.length ∧ IntKind.i64.wrap ((K : Int) + 1) = (K : Int) + 1) := ⟨by obtain ⟨cur, _, _, _, h5, _⟩ := HR.out.1.cur; exact h5, hKl, by simp [IntKind.wrap, IntKind.bits, IntKind.signed]; omega⟩
            clear hb7 a0 a1 a2 a3 a4 a5 a6 a7 a8 a9 a10 H7 z0 z1 z2 hzn hy0
            try clear hz3
            rw [hxb] at H7b ⊢
            go_wp2_with fail
            have hkc : K ≤ c' := by have := HCAP.out; omega
            by_cases hlast : K + 1 < ms.length
            · refine to19a (by kernel_rfl) mb 0 ms.length c' K (0 + (K + 1) * 11) (fun v W => ∃ p cp, v = .slice p (K + (ms.length - (K + 1))) cp ∧ RowG W wo.heap.size v (ms.take K ++ ms.drop (K + 1))) (fun v W W' h hb => by obtain ⟨p, cp, e, h⟩ := h; exact ⟨p, cp, e, h.below hb⟩) (by omega) (by omega) (by rw [if_neg (by have := HCAP.out.1; omega)]) w7 rfl rfl rfl hkc HCAP.out.2.2 (fun W hW => ?_) ?_
              · obtain ⟨p, cp, W2, r1, r2, r3⟩ := run_growG (l := ms.take K) (k := K) (by rw [List.length_take]; omega) (RowG.part (H7b.out.1.below hW) K).1 (zs := ms.drop (K + 1)) (ad := ⟨mb, 0 + (K + 1) * 11, none⟩) (m := ms.length - (K + 1)) (c := c' - (K + 1)) (by rw [List.length_drop]) (RowG.part (H7b.out.1.below hW) (K + 1)).2 (by omega) (by omega) (B := wo.heap.size) (Nat.le_trans H7b.out.2.1.size hW.size)
                exact ⟨_, W2, r1, r3, p, cp, rfl, r2⟩
              · rintro g8 g9 w8 hb8 ⟨_, _, rfl, _⟩ ⟨p9, c9, rfl, hr9⟩
                obtain ⟨mA, hmA⟩ : ∃ mA, ms.take K ++ ms.drop (K + 1) = mA := ⟨_, rfl⟩
                have hle : K + (ms.length - (K + 1)) = mA.length := by rw [← hmA, List.length_append, List.length_take, List.length_drop]; omega
                rw [hmA, hle] at hr9
                have H8 : Hid (RowG w8 wo.heap.size (.slice p9 mA.length c9) mA ∧ Below wo.heap.size wo w8 ∧ w8.heap[xb]? = some (.cells (opgC x) 34 (0, 0)) ∧ (mA ++ [x]).Perm l ∧ mA.length ≤ 100) := ⟨hr9, below_thenH H7b.out.2.1 hb8, (hb8.block xb (block_lt H7b.out.2.2.1)).trans H7b.out.2.2.1, by rw [← hmA]; exact perm_turn H7b.out.2.2.2 HX.out.1, by omega⟩
                rw [hle]
                clear hr9 hmA hle hb8
                obtain ⟨z0, z1, z2, z3, z4, z5, z6, z7, z8, z9, z10⟩ := op_cellsG H8.out.2.2.1
                simp only [putAll, sA, sB, sC]
                go_wp2_with (at_builtin; refine wpList_appG rfl _ _ rfl wo.heap.size _ mA x rfl w8.heap.size rfl ⟨H8.out.1.below (below_new _ _).out, heap_alloc_new w8 _, by have := H8.out.2.2.2.2; omega, by have := H8.out.2.1.size; simp; omega⟩ ?_; intro pz cz w9 H9)
                go_roundw
                case rel =>
                  refine ⟨i + 1, mA ++ [x], pz, cz, by rw [List.length_append]; rfl, by go_num, HGO.out.1, ?_, H8.out.2.2.2.1, grow_below H8.out.1 H8.out.2.1 H9.out.2.1⟩
                  rw [List.length_append]; exact H9.out.1
                case measure => have := HGO.out.1; simp [RowKit.intOf]; omega
            · have hz9 : ms.length - (K + 1) = 0 := by omega
              refine to19a (by kernel_rfl) mb 0 ms.length c' K _ (fun v _ => v = .slice (some ⟨mb, 0, none⟩) K K) (fun v W W' h hb => h) (by omega) (by omega) rfl w7 rfl rfl rfl hkc HCAP.out.2.2 (fun W hW => ⟨_, W, by rw [hz9]; exact run_noneG _ _, Below.refl _ _, rfl⟩) ?_
              rintro g8 g9 w8 hb8 rfl rfl
              obtain ⟨mA, hmA⟩ : ∃ mA, ms.take K = mA := ⟨_, rfl⟩
              have hle : mA.length = K := by rw [← hmA, List.length_take]; omega
              have H8 : Hid (RowG w8 wo.heap.size (.slice (some ⟨mb, 0, none⟩) ms.length c') ms ∧ Below wo.heap.size wo w8 ∧ w8.heap[xb]? = some (.cells (opgC x) 34 (0, 0)) ∧ (mA ++ [x]).Perm l ∧ K ≤ 100 ∧ mA.length = K ∧ ms.take K = mA) := ⟨H7b.out.1.below hb8, below_thenH H7b.out.2.1 hb8, (hb8.block xb (block_lt H7b.out.2.2.1)).trans H7b.out.2.2.1, by have := perm_turn H7b.out.2.2.2 HX.out.1; rwa [List.drop_of_length_le (by omega), List.append_nil, hmA] at this, by omega, hle, hmA⟩
              have HCL : Hid (∀ W, Below w8.heap.size w8 W → ∀ j u, (flatG mA)[j]? = some u → W.cell? ((⟨mb, 0, none⟩ : Addr).add j) = some u) := fun W hW => by have := (RowG.part (H8.out.1.below hW) K).1; rwa [hmA] at this
              clear hmA hle hb8
              obtain ⟨z0, z1, z2, z3, z4, z5, z6, z7, z8, z9, z10⟩ := op_cellsG H8.out.2.2.1
              simp only [putAll, sA, sB, sC]
              go_wp2_with (at_builtin; refine wpList_growG rfl _ _ rfl rfl mb K mA x wo.heap.size rfl w8.heap.size rfl ⟨H8.out.2.2.2.2.2.1, HCL.out _ (below_new _ _).out, heap_alloc_new w8 _, by have := H8.out.2.2.2.2.1; omega, by have := H8.out.2.1.size; simp; omega⟩ ?_; intro pz cz w9 H9)
              go_roundw
              case rel =>
                have hln : (mA ++ [x]).length = K + 1 := by rw [List.length_append, H8.out.2.2.2.2.2.1]; rfl
                refine ⟨i + 1, mA ++ [x], pz, cz, by rw [hln], by go_num, HGO.out.1, ?_, H8.out.2.2.2.1, below_thenH H8.out.2.1 (below_thenH (below_new w8 _).out H9.out.2)⟩
                rw [hln]; exact H9.out.1
              case measure => have := HGO.out.1; simp [RowKit.intOf]; omega
        · have hx : (¬ (i : Int) < zs.length) ∨ ((i : Int) < zs.length ∧ ¬ (i : Int) < 30) ∨ ((i : Int) < zs.length ∧ (i : Int) < 30 ∧ ¬ (1 : Int) < ms.length) := by omega
          clear hgo
          rcases hx with h1I | ⟨h1I, h2I⟩ | ⟨h1I, h2I, h3I⟩
          all_goals
            have HV : Hid (TJ w4 (· = gs) gs ls wv ∧ TW (· = gt) wv gt [] ∧ RowG wv wo.heap.size (.slice p' ms.length c') ms ∧ RowG wv w3.heap.size (.slice q l.length d) l ∧ ms.Perm l ∧ Below w.heap.size w wv) := ⟨HK.out.1.below HR.out.2.2, HKT.out.below HR.out.2.2, HR.out.1, HRL.out.1.below HR.out.2.2, HR.out.2.1, below_thenH HWO.out HR.out.2.2⟩
            have HN : Hid (w4.heap.size ≤ wv.heap.size ∧ (∀ g, (Value.slice p' ms.length c').ownBlock = some g → ¬ g = gt) ∧ Taken w ms) := by
              have s1 := HK.out.1.only.size
              have s2 := HR.out.2.2.size
              exact ⟨Nat.le_trans s1 s2, fun g hg => by obtain ⟨_, _, hb⟩ := HR.out.1.tag hg; have := HU.out.2.2.2.2.2; omega, HM.out.1.perm HR.out.2.1⟩
            go_wp2_with fail
            go_loopw [14] (fun ii wr => ∃ i : Nat, ii = .int .i64 i ∧ i ≤ ms.length ∧ Hid (∃ lt, TJ wv (· = gt) gt lt wr ∧ Srt lt (ms.take i))) (fun ii _ => ms.length - (RowKit.intOf ii).toNat)
            case atStart => exact ⟨0, rfl, by omega, [], TJ.start HV.out.2.1, by rw [List.take_zero]; exact Srt.nil⟩
            case round =>
              obtain ⟨t, rfl, ht, HI⟩ := hrel
              generalize wr = wx at *
              by_cases hlt : t < ms.length
              · have hltI : (t : Int) < ms.length := by omega
                have HLT : Hid (t < ms.length) := hlt
                obtain ⟨x, hx⟩ : ∃ x, ms[t]? = some x := ⟨_, List.getElem?_eq_getElem hlt⟩
                obtain ⟨lt, hk, hs⟩ := HI.out
                obtain ⟨p1, c1, e1, h1⟩ := RowG.caps (hk.row HV.out.2.2.1 HN.out.2.1)
                cases e1
                obtain ⟨g, rfl, a0, a1, a2, a3, a4, a5, a6, a7, a8, a9, a10⟩ := h1 t x hx
                have cA : Calls Tryz.prog 9 #[.pointer (some ⟨gt, 0, none⟩), opgv x] wx fun e w' => ∃ z : Int, e = .returned (.tuple #[.int .i64 z, .int .i64 0]) ∧ ∃ lt, TJ wv (· = gt) gt lt w' ∧ Srt lt (ms.take (t + 1)) := by
                  obtain ⟨ns, bs, k1, k2, _⟩ := HN.out.2.2.each x (List.mem_of_getElem? hx)
                  have hbw : Below w.heap.size w wx := HV.out.2.2.2.2.2.trans (hk.ubelow HV.out.2.2.2.2.2.size fun b hb => by rw [show b = gt from hb]; exact HM.out.2.2.2.1)
                  refine (hk.apply (k1.below hbw) k2 (HN.out.2.2.new hx hs) (by rw [hs.len, List.length_take]; omega)).mono ?_
                  rintro e w' ⟨j, rfl, hj, ht⟩
                  exact ⟨_, rfl, _, ht, hs.snoc hj hx⟩
                simp only [opgv, opgC] at cA
                clear hx hs hk h1 hlt
                go_wp2_with (go_at_call 9; refine cA.mono ?_; clear cA; rintro e w5 ⟨z5, rfl, h5⟩; have H5 : Hid (∃ lt, TJ wv (· = gt) gt lt w5 ∧ Srt lt (ms.take (t + 1))) := h5; clear h5)
                go_roundw
                case rel => exact ⟨t + 1, by go_num, HLT.out, H5⟩
                case measure => have := HLT.out; simp [RowKit.intOf]; omega
              · obtain rfl : t = ms.length := by omega
                obtain ⟨lt, hk, hs⟩ := HI.out
                rw [List.take_length] at hs
                obtain ⟨Fs, Ft, k1, k2, k3, k4, k5, k6⟩ := two_trees HV.out.1 hk HU.out.2.2.2.2.1 HU.out.2.2.2.2.2
                have HE : Hid (TW Fs wx gs ls ∧ TW Ft wx gt lt ∧ (∀ b, Fs b → ¬ Ft b) ∧ (∀ b, Fs b → w.heap.size ≤ b) ∧ (∀ b, Ft b → w.heap.size ≤ b) ∧ (∀ g, (Value.slice q l.length d).ownBlock = some g → ¬ Fs g ∧ ¬ Ft g) ∧ RowG wx w3.heap.size (.slice q l.length d) l ∧ Srt ls l ∧ Srt lt l ∧ Below w.heap.size w wx) := by
                  have b1 := HM.out.2.2.1
                  have b2 := HM.out.2.2.2.1
                  have b3 := HM.out.2.2.2.2.size
                  have b4 := HN.out.1
                  refine ⟨k1, k2, k3, fun b hb => ?_, fun b hb => ?_, fun g hg => ?_, hk.row HV.out.2.2.2.1 fun g hg => (HU.out.2.2.2.1 g hg).2.1, HK.out.2, ⟨hs.rise, hs.perm.trans HV.out.2.2.2.2.1⟩, HV.out.2.2.2.2.2.trans (hk.ubelow HV.out.2.2.2.2.2.size fun b hb => by rw [show b = gt from hb]; exact b2)⟩
                  · rcases k4 b hb with e | e <;> omega
                  · rcases k5 b hb with e | e <;> omega
                  · obtain ⟨g1, g2, g3⟩ := HU.out.2.2.2.1 g hg
                    exact ⟨fun h => by rcases k4 g h with e | e <;> omega, fun h => by rcases k5 g h with e | e <;> omega⟩
                have HT4 : Hid (l.length ≤ 400) := by have := HM.out.2.1; exact (by omega : l.length ≤ 400)
                have tok3 : True := trivial
                have tok4 : True := trivial
                clear hk hs hlt k1 k2 k3 k4 k5 k6
                go_wp2_with (first
                  | (go_at_call 10; have tk := tok3; clear tok3; refine (TJ.same (TJ.start HE.out.1) HE.out.2.2.2.2.2.2.2.1 HM.out.1 HE.out.2.2.2.2.2.2.1 (fun g hg => (HE.out.2.2.2.2.2.1 g hg).1) HT4.out).mono ?_; clear tk; rintro e w8 ⟨rfl, ht8⟩; have H8 : Hid (TJ wx Fs gs ls w8) := ht8; clear ht8)
                  | (go_at_call 10; have tk := tok4; clear tok4; refine (TJ.same (TJ.start (HE.out.2.1.kept H8.out.only fun b hb hs => HE.out.2.2.1 b hs hb)) HE.out.2.2.2.2.2.2.2.2.1 HM.out.1 (H8.out.row HE.out.2.2.2.2.2.2.1 fun g hg => (HE.out.2.2.2.2.2.1 g hg).1) (fun g hg => (HE.out.2.2.2.2.2.1 g hg).2) HT4.out).mono ?_; clear tk; rintro e w9 ⟨rfl, ht9⟩; have H9 : Hid (TJ w8 Ft gt lt w9) := ht9; clear ht9))
                go_ret
                have s8 : Below w.heap.size w w8 := HE.out.2.2.2.2.2.2.2.2.2.trans (H8.out.ubelow HE.out.2.2.2.2.2.2.2.2.2.size HE.out.2.2.2.1)
                exact ⟨rfl, s8.trans (H9.out.ubelow s8.size HE.out.2.2.2.2.1)⟩
end Go.Proofs.YtgpbphjplbhfmaaGreat.Ck.Y.S
