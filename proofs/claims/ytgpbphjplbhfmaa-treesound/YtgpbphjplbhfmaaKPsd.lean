/-
  TreeSound, the law.
-/
import Derived.Test.YtgpbphjplbhfmaaKPsr

namespace Go.Proofs.Ytgpbphjplbhfmaa.Ck.Y.S
open Go.RowKit Go.Maps Go.Lib

theorem RowI.caps {w : World} {base : Nat} {v : Value} {l : List PI} (h : RowI w base v l) : ∃ p c, v = .slice p l.length c ∧ ∀ (i : Nat) (x : PI), l[i]? = some x → ∃ g, p = some ⟨g, 0, none⟩ ∧ w.cell? ⟨g, i * 2, none⟩ = some (.int .i64 x.1) ∧ w.cell? ⟨g, i * 2 + 1, none⟩ = some (.int .i64 x.2) := by
  rcases h.2 with ⟨rfl, h0⟩ | ⟨g, cap, cur, rfl, hb, hg, hn, hm, hs, ht⟩
  · exact ⟨none, 0, by rw [h0], fun i x hx => by have := List.eq_nil_of_length_eq_zero h0; subst this; simp at hx⟩
  · exact ⟨_, cap, rfl, fun i x hx => ⟨g, rfl, RowI.cells h hx⟩⟩
theorem parV_at {T : List OB} {q p : PI} {nm : ByteArray} (h : placeT T q = some (p, nm)) : parV T q = .tuple #[.agg #[.int .i64 p.1, .int .i64 p.2], .string nm, .bool true] := by unfold parV; rw [h]
theorem blk2 {w : World} {b : Nat} {x y : Int} (h : w.heap[b]? = some (.cells #[.int .i64 x, .int .i64 y] 31 (0, 0))) : w.cell? ⟨b, 0, none⟩ = some (.int .i64 x) ∧ w.cell? ⟨b, 1, none⟩ = some (.int .i64 y) := ⟨cellOf h 0, cellOf h 1⟩
/-- How often an object was met among the first k kids. -/
def metN (a k : Nat) : Int := if a < k then 1 else 0

set_option maxRecDepth 8000 in
set_option maxHeartbeats 16000000 in
theorem sound_law (p : Option Addr) (L : List OG) (c : Nat) (w : World) (hp : OpsL w p L) (hL : L.length ≤ maxLen) :
    Calls Try.prog 3 #[.slice p L.length c] w fun e w' => e = .returned (.bool true) ∧ Below w.heap.size w w' := by
  have HP : Hid (OpsL w p L ∧ L.length ≤ maxLen) := ⟨hp, hL⟩
  clear hp hL
  go_enter Try.func3, Try.ntmps3
  go_wp2_with (first
    | (go_at_call 7; refine Calls_new (begun_any _) ?_; intro w1 HB1)
    | (go_at_call 8; refine (new_any w1).mono ?_; rintro e w2 ⟨rfl, ht2, hb2⟩; have H2 : Hid (TW (· = w1.heap.size) w2 w1.heap.size [] ∧ Below w.heap.size w w2) := ⟨ht2, below_thenH HB1.out hb2⟩; clear ht2 hb2)
    | (go_at_call 9; refine (some_any p L c 25 w w2 H2.out.2 HP.out.1 HP.out.2 (by decide)).mono ?_; rintro e w4 ⟨v, m, rfl, hr4, ht4, hl4, hb4⟩; have H4 : Hid (RowG w4 w2.heap.size v m ∧ Taken w m ∧ m.length ≤ 25 ∧ Below w2.heap.size w2 w4) := ⟨hr4, ht4, hl4, hb4⟩; clear hr4 ht4 hl4 hb4))
  obtain ⟨q, d, rfl⟩ := H4.out.1.slice
  have hgw := HB1.out.size
  have hg2 : w1.heap.size < w2.heap.size := H2.out.1.low _ rfl
  obtain ⟨gt, hgt⟩ : ∃ gt, w1.heap.size = gt := ⟨_, rfl⟩
  rw [hgt] at H2 hgw hg2 ⊢
  have HU : Hid (TK w4 (· = gt) gt [] [] w4 ∧ RowG w4 w2.heap.size (.slice q m.length d) m ∧ (∀ g, (Value.slice q m.length d).ownBlock = some g → ¬ g = gt)) := ⟨TK.start (H2.out.1.below H4.out.2.2.2), H4.out.1, fun g hg => by obtain ⟨_, _, hb⟩ := H4.out.1.tag hg; omega⟩
  have HM : Hid (Taken w m ∧ m.length ≤ 25 ∧ w.heap.size ≤ gt ∧ Below w.heap.size w w4) := ⟨H4.out.2.1, H4.out.2.2.1, hgw, below_thenH H2.out.2 H4.out.2.2.2⟩
  clear hgw hg2 hgt
  go_loopw [6] (fun ii wr => ∃ i : Nat, ii = .int .i64 i ∧ i ≤ m.length ∧ Hid (∃ ls, TK w4 (· = gt) gt ls [] wr ∧ Srt ls (m.take i))) (fun ii _ => m.length - (RowKit.intOf ii).toNat)
  case atStart => exact ⟨0, rfl, by omega, [], HU.out.1, by rw [List.take_zero]; exact Srt.nil⟩
  case round =>
    obtain ⟨i, rfl, hi, HI⟩ := hrel
    generalize wr = wo at *
    have hm9 : m.length ≤ 25 := HM.out.2.1
    by_cases hlt : i < m.length
    · have hltI : (i : Int) < m.length := by omega
      have HLT : Hid (i < m.length) := hlt
      obtain ⟨x, hx⟩ : ∃ x, m[i]? = some x := ⟨_, List.getElem?_eq_getElem hlt⟩
      obtain ⟨ls, hk, hs⟩ := HI.out
      have HX : Hid (m[i]? = some x ∧ Srt ls (m.take i)) := ⟨hx, hs⟩
      obtain ⟨p1, c1, e1, h1⟩ := RowG.caps (hk.row HU.out.2.1 HU.out.2.2)
      cases e1
      obtain ⟨g, rfl, a0, a1, a2, a3, a4, a5, a6, a7, a8, a9, a10⟩ := h1 i x hx
      have cA : Calls Try.prog 10 #[.pointer (some ⟨gt, 0, none⟩), opgv x] wo fun e w' => ∃ z : Int, e = .returned (.tuple #[.int .i64 z, .int .i64 0]) ∧ ∃ ls, TK w4 (· = gt) gt ls [] w' ∧ Srt ls (m.take (i + 1)) := by
        obtain ⟨ns, bs, k1, k2, _⟩ := HM.out.1.each x (List.mem_of_getElem? hx)
        have hbw : Below w.heap.size w wo := HM.out.2.2.2.trans (hk.ubelow HM.out.2.2.2.size fun b hb => by rw [show b = gt from hb]; exact HM.out.2.2.1)
        refine (hk.apply (k1.below hbw) k2 (HM.out.1.new hx hs) (by rw [hs.len, List.length_take]; omega)).mono ?_
        rintro e w' ⟨j, rfl, hj, ht, _⟩
        exact ⟨_, rfl, _, ht, hs.snoc hj hx⟩
      simp only [opgv, opgC] at cA
      clear hx hs hk h1 hlt
      go_wp2_with (go_at_call 10; refine cA.mono ?_; clear cA; rintro e w5 ⟨z, rfl, h5⟩; have H5 : Hid (∃ ls, TK w4 (· = gt) gt ls [] w5 ∧ Srt ls (m.take (i + 1))) := h5; clear h5)
      go_roundw
      case rel => exact ⟨i + 1, by go_num, HLT.out, H5⟩
      case measure => have := HLT.out; simp [RowKit.intOf]; omega
    · obtain rfl : i = m.length := by omega
      obtain ⟨ls, hk, hs⟩ := HI.out
      rw [List.take_length] at hs
      obtain ⟨T, s, hf, hwf, hTl, _⟩ := HM.out.1.fold hs
      have HT : Hid (FoldT [] 0 ls T s ∧ WfT T ∧ T.length ≤ m.length) := ⟨hf, hwf, hTl⟩
      have HK : Hid (TK w4 (· = gt) gt ls [] wo) := hk
      clear hk hs hf hwf hTl hlt
      go_wp2_with fail
      go_loopw [7] (fun ii wr => ∃ i : Nat, ii = .int .i64 i ∧ i ≤ m.length ∧ Hid (TK w4 (· = gt) gt ls [] wr)) (fun ii _ => m.length - (RowKit.intOf ii).toNat)
      case atStart => exact ⟨0, rfl, by omega, HK⟩
      case round =>
        obtain ⟨i, rfl, hi, HI⟩ := hrel
        generalize wr = wl at *
        by_cases hlt : i < m.length
        · have hltI : (i : Int) < m.length := by omega
          have HLT : Hid (i < m.length) := hlt
          obtain ⟨x, hx⟩ : ∃ x, m[i]? = some x := ⟨_, List.getElem?_eq_getElem hlt⟩
          obtain ⟨p1, c1, e1, h1⟩ := RowG.caps (HI.out.row HU.out.2.1 HU.out.2.2)
          cases e1
          obtain ⟨g, rfl, _, _, _, _, a4, a5, _⟩ := h1 i x hx
          have HOT : Hid (¬ x.ot = 0) := by
            obtain ⟨ns, bs, _, k2, _⟩ := HM.out.1.each x (List.mem_of_getElem? hx)
            exact (may_ok' k2).2
          clear hx h1 hlt
          go_wp2_with (refine wpList_putW rfl 31 _ _ rfl wl.heap.size (#[.int .i64 x.ot, .int .i64 x.on]) rfl rfl 31 _ (heap_alloc_new wl _) infoID rfl (idC_one _ _) ?_; intro w5 H5; refine Stp.out ?_)
          refine Stp.mk ?_
          have hk5 := (HI.out.new (.cells #[.int .i64 0, .int .i64 0] 31)).1.put (List.mem_cons_self) HI.out.size H5.out.2.1
          obtain ⟨ib, hib⟩ : ∃ ib, wl.heap.size = ib := ⟨_, rfl⟩
          have hi5 := H5.out.1
          rw [hib] at hk5 hi5 ⊢
          have HK5 : Hid (TK w4 (· = gt) gt ls [ib] w5 ∧ w5.heap[ib]? = some (.cells #[.int .i64 x.ot, .int .i64 x.on] 31 (0, 0))) := ⟨hk5, hi5⟩
          obtain ⟨b0, b1⟩ := blk2 hi5
          clear hk5 hi5 hib H5 a4 a5
          cases hh : hasT T (x.ot, x.on) with
          | false =>
            go_wp2_with (go_at_call 11; refine (HK5.out.1.has HT.out.1 x.ot x.on).mono ?_; rintro e w6 ⟨rfl, ht6, _⟩; rw [hh]; have H6 : Hid (TK w4 (· = gt) gt ls [ib] w6) := ht6; clear ht6 b0 b1)
            go_roundw
            case rel => exact ⟨i + 1, by go_num, HLT.out, H6.out.sub (by simp)⟩
            case measure => have := HLT.out; simp [RowKit.intOf]; omega
          | true =>
            obtain ⟨pp, nm, hpl⟩ := has_place (T := T) (q := (x.ot, x.on)) HOT.out hh
            have HPL : Hid (placeT T (x.ot, x.on) = some (pp, nm)) := hpl
            have HHH : Hid (hasT T (x.ot, x.on) = true) := hh
            have cP : ∀ W, TK w4 (· = gt) gt ls [ib] W → Calls Try.prog 12 #[.pointer (some ⟨gt, 0, none⟩), .agg #[.int .i64 x.ot, .int .i64 x.on]] W fun e w' => e = .returned (.tuple #[.agg #[.int .i64 pp.1, .int .i64 pp.2], .string nm, .bool true]) ∧ TK w4 (· = gt) gt ls [ib] w' ∧ EK [ib] W w' := fun W hW => by
              have := hW.parent HT.out.1 x.ot x.on
              rwa [parV_at hpl] at this
            have HCP : Hid (∀ W, TK w4 (· = gt) gt ls [ib] W → Calls Try.prog 12 #[.pointer (some ⟨gt, 0, none⟩), .agg #[.int .i64 x.ot, .int .i64 x.on]] W fun e w' => e = .returned (.tuple #[.agg #[.int .i64 pp.1, .int .i64 pp.2], .string nm, .bool true]) ∧ TK w4 (· = gt) gt ls [ib] w' ∧ EK [ib] W w') := cP
            clear hpl hh cP
            go_wp2_with (first
              | (go_at_call 11; refine (HK5.out.1.has HT.out.1 x.ot x.on).mono ?_; rintro e w6 ⟨rfl, ht6, he6⟩; rw [HHH.out]; have H6 : Hid (TK w4 (· = gt) gt ls [ib] w6 ∧ w6.heap[ib]? = some (.cells #[.int .i64 x.ot, .int .i64 x.on] 31 (0, 0))) := ⟨ht6, (he6 ib (by simp)).trans HK5.out.2⟩; obtain ⟨d0, d1⟩ := blk2 H6.out.2; clear ht6 he6 b0 b1)
              | (go_at_call 12; refine (HCP.out w6 H6.out.1).mono ?_; rintro e w7 ⟨rfl, ht7, he7⟩; have H7 : Hid (TK w4 (· = gt) gt ls [ib] w7 ∧ w7.heap[ib]? = some (.cells #[.int .i64 x.ot, .int .i64 x.on] 31 (0, 0))) := ⟨ht7, (he7 ib (by simp)).trans H6.out.2⟩; clear ht7 he7 d0 d1)
              | (refine wpList_putW rfl 31 _ _ rfl w7.heap.size (#[.int .i64 pp.1, .int .i64 pp.2]) rfl rfl 31 _ (heap_alloc_new w7 _) infoID rfl (idC_one _ _) ?_; intro w8 H8; refine Stp.out ?_))
            refine Stp.mk ?_
            have hne : ib ≠ w7.heap.size := by have := H7.out.1.lt ib (by simp); omega
            have hk8 := (H7.out.1.new (.cells #[.int .i64 0, .int .i64 0] 31)).1.put (List.mem_cons_self) H7.out.1.size H8.out.2.1
            have hi8 : w8.heap[ib]? = some (.cells #[.int .i64 x.ot, .int .i64 x.on] 31 (0, 0)) := (H8.out.2.1.block ib (by have := H7.out.1.lt ib (by simp); simp; omega) hne).trans (((H7.out.1.new (.cells #[.int .i64 0, .int .i64 0] 31)).2 ib (by simp)).trans H7.out.2)
            have hp8 := H8.out.1
            obtain ⟨pb, hpb⟩ : ∃ pb, w7.heap.size = pb := ⟨_, rfl⟩
            rw [hpb] at hk8 hp8 ⊢
            have H9 : Hid (TK w4 (· = gt) gt ls [pb, ib] w8 ∧ w8.heap[ib]? = some (.cells #[.int .i64 x.ot, .int .i64 x.on] 31 (0, 0)) ∧ w8.heap[pb]? = some (.cells #[.int .i64 pp.1, .int .i64 pp.2] 31 (0, 0))) := ⟨hk8, hi8, hp8⟩
            have HQ : Hid (∀ W W', TK w4 (· = gt) gt ls [pb, ib] W' ∧ EK [pb, ib] W W' → (w8.heap.size ≤ W.heap.size ∧ W.heap[ib]? = some (.cells #[.int .i64 x.ot, .int .i64 x.on] 31 (0, 0)) ∧ W.heap[pb]? = some (.cells #[.int .i64 pp.1, .int .i64 pp.2] 31 (0, 0))) → W'.heap[ib]? = some (.cells #[.int .i64 x.ot, .int .i64 x.on] 31 (0, 0)) ∧ W'.heap[pb]? = some (.cells #[.int .i64 pp.1, .int .i64 pp.2] 31 (0, 0))) := fun W W' h h2 => ⟨(h.2 ib (by simp)).trans h2.2.1, (h.2 pb (by simp)).trans h2.2.2⟩
            have cB1 : ∀ W, TK w4 (· = gt) gt ls [pb, ib] W → Calls Try.prog 13 #[.pointer (some ⟨gt, 0, none⟩), .agg #[.int .i64 x.ot, .int .i64 x.on], .agg #[.int .i64 x.ot, .int .i64 x.on]] W fun e w' => e = .returned (.bool false) ∧ TK w4 (· = gt) gt ls [pb, ib] w' ∧ EK [pb, ib] W w' := fun W hW =>
              hW.bel HT.out.1 x.ot x.on x.ot x.on (r := false) ⟨(fun h => by cases h), fun h => absurd h (HT.out.2.1.rank.self _)⟩
            have cB2 : ∀ W, TK w4 (· = gt) gt ls [pb, ib] W → Calls Try.prog 13 #[.pointer (some ⟨gt, 0, none⟩), .agg #[.int .i64 x.ot, .int .i64 x.on], .agg #[.int .i64 pp.1, .int .i64 pp.2]] W fun e w' => e = .returned (.bool true) ∧ TK w4 (· = gt) gt ls [pb, ib] w' ∧ EK [pb, ib] W w' := fun W hW =>
              hW.bel HT.out.1 x.ot x.on pp.1 pp.2 (r := true) ⟨fun _ => .one (place_up HPL.out), fun _ => rfl⟩
            have cD : ∀ W, TK w4 (· = gt) gt ls [pb, ib] W → Calls Try.prog 14 #[.pointer (some ⟨gt, 0, none⟩), .agg #[.int .i64 pp.1, .int .i64 pp.2]] W fun e w' => e = .returned (.bool true) ∧ TK w4 (· = gt) gt ls [pb, ib] w' ∧ EK [pb, ib] W w' := fun W hW => by
              have := hW.dir HT.out.1 pp.1 pp.2
              rwa [place_home HT.out.2.1 HPL.out] at this
            have HCB1 := (show Hid _ from cB1)
            have HCB2 := (show Hid _ from cB2)
            have HCD := (show Hid _ from cD)
            obtain ⟨b0, b1⟩ := blk2 hi8
            obtain ⟨b2, b3⟩ := blk2 hp8
            have tok1 : True := trivial
            have tok2 : True := trivial
            clear hk8 hi8 hp8 hpb hne H8 cB1 cB2 cD HCP
            go_wp2_with (first
              | (go_at_call 13; have tk := tok1; clear tok1; refine (HCB1.out w8 H9.out.1).mono ?_; clear tk; rintro e w10 ⟨rfl, ht10, he10⟩; have H10 : Hid (TK w4 (· = gt) gt ls [pb, ib] w10 ∧ w10.heap[ib]? = some (.cells #[.int .i64 x.ot, .int .i64 x.on] 31 (0, 0)) ∧ w10.heap[pb]? = some (.cells #[.int .i64 pp.1, .int .i64 pp.2] 31 (0, 0))) := ⟨ht10, (he10 ib (by simp)).trans H9.out.2.1, (he10 pb (by simp)).trans H9.out.2.2⟩; obtain ⟨d0, d1⟩ := blk2 H10.out.2.1; obtain ⟨d2, d3⟩ := blk2 H10.out.2.2; clear ht10 he10 b0 b1 b2 b3)
              | (go_at_call 14; refine (HCD.out w10 H10.out.1).mono ?_; rintro e w11 ⟨rfl, ht11, he11⟩; have H11 : Hid (TK w4 (· = gt) gt ls [pb, ib] w11 ∧ w11.heap[ib]? = some (.cells #[.int .i64 x.ot, .int .i64 x.on] 31 (0, 0)) ∧ w11.heap[pb]? = some (.cells #[.int .i64 pp.1, .int .i64 pp.2] 31 (0, 0))) := ⟨ht11, (he11 ib (by simp)).trans H10.out.2.1, (he11 pb (by simp)).trans H10.out.2.2⟩; obtain ⟨f0, f1⟩ := blk2 H11.out.2.1; obtain ⟨f2, f3⟩ := blk2 H11.out.2.2; clear ht11 he11 d0 d1 d2 d3)
              | (go_at_call 13; have tk := tok2; clear tok2; refine (HCB2.out w11 H11.out.1).mono ?_; clear tk; rintro e w12 ⟨rfl, ht12, he12⟩; have H12 : Hid (TK w4 (· = gt) gt ls [pb, ib] w12 ∧ w12.heap[ib]? = some (.cells #[.int .i64 x.ot, .int .i64 x.on] 31 (0, 0)) ∧ w12.heap[pb]? = some (.cells #[.int .i64 pp.1, .int .i64 pp.2] 31 (0, 0))) := ⟨ht12, (he12 ib (by simp)).trans H11.out.2.1, (he12 pb (by simp)).trans H11.out.2.2⟩; obtain ⟨k0, k1⟩ := blk2 H12.out.2.1; obtain ⟨k2, k3⟩ := blk2 H12.out.2.2; clear ht12 he12 f0 f1 f2 f3)
              | (go_at_call 15; refine (H12.out.1.kids HT.out.1 pp.1 pp.2).mono ?_; rintro e w13 ⟨⟨vk, mk, rfl, hrk, hik, hlk⟩, ht13, he13⟩; have H13 : Hid (TK w4 (· = gt) gt ls [pb, ib] w13 ∧ w13.heap[ib]? = some (.cells #[.int .i64 x.ot, .int .i64 x.on] 31 (0, 0)) ∧ RowI w13 0 vk mk) := ⟨ht13, (he13 ib (by simp)).trans H12.out.2.1, hrk⟩; obtain ⟨a, ha, hau⟩ := kid_once HPL.out hik; have HA : Hid (mk[a]? = some (x.ot, x.on) ∧ (∀ j, mk[j]? = some (x.ot, x.on) → j = a) ∧ mk.length ≤ 900) := ⟨ha, hau, hlk⟩; clear ht13 he13 k0 k1 k2 k3 hrk hik hlk ha hau; refine Stp.out ?_))
            refine Stp.mk ?_
            obtain ⟨pk, ck, rfl, _⟩ := RowI.caps H13.out.2.2
            have hmk9 : mk.length ≤ 900 := HA.out.2.2
            go_wp2_with fail
            go_loopw [12, 14] (fun cc kk wr => ∃ k : Nat, cc = .int .i64 (metN a k) ∧ kk = .int .i64 k ∧ k ≤ mk.length ∧ Hid (Below w13.heap.size w13 wr)) (fun _ kk _ => mk.length - (RowKit.intOf kk).toNat)
            case atStart => exact ⟨0, by simp [metN], rfl, by omega, Below.refl _ _⟩
            case round =>
              obtain ⟨k, rfl, rfl, hk, HB⟩ := hrel
              by_cases hkt : k < mk.length
              · have hktI : (k : Int) < mk.length := by omega
                have HKT : Hid (k < mk.length) := hkt
                obtain ⟨y, hy⟩ : ∃ y, mk[k]? = some y := ⟨_, List.getElem?_eq_getElem hkt⟩
                obtain ⟨p5, c5, e5, h5⟩ := RowI.caps (H13.out.2.2.below HB.out)
                cases e5
                obtain ⟨gk, rfl, y0, y1⟩ := h5 k y hy
                obtain ⟨z0, z1⟩ := blk2 ((HB.out.block _ (block_lt H13.out.2.1)).trans H13.out.2.1)
                have cS : ∀ W, Below wr.heap.size wr W → Calls Try.prog 16 #[.agg #[.int .i64 y.1, .int .i64 y.2], .agg #[.int .i64 x.ot, .int .i64 x.on]] W fun e w' => e = .returned (.bool (sameB y.1 y.2 x.ot x.on)) ∧ Below W.heap.size W w' := fun W _ => same_any y.1 y.2 x.ot x.on W
                by_cases hka : k = a
                · have HN : Hid (metN a k = 0 ∧ metN a (k + 1) = 1) := by subst hka; unfold metN; constructor <;> simp
                  obtain rfl : y = (x.ot, x.on) := by have := HA.out.1; rw [← hka, hy] at this; exact Option.some.inj this
                  have e1 : sameB x.ot x.on x.ot x.on = true := by simp [sameB]
                  simp only [e1] at cS
                  rw [HN.out.1]
                  clear h5 hy hkt hka e1
                  go_wp2_with fail
                  refine ts23 (by kernel_rfl) gk mk.length _ k ib x.ot x.on x.ot x.on true wr rfl rfl rfl rfl HKT.out y0 y1 z0 z1 cS ?_
                  intro w14 hb14
                  have H14 : Hid (Below wr.heap.size wr w14) := hb14
                  clear cS y0 y1 z0 z1 hb14
                  simp only [putAll, List.setIfInBounds_toArray, List.set_cons_zero, List.set_cons_succ]
                  go_wp2_with fail
                  go_roundw
                  case rel => exact ⟨k + 1, by rw [HN.out.2], by go_num, HKT.out, below_thenH HB.out H14.out⟩
                  case measure => have := HKT.out; simp [RowKit.intOf]; omega
                · have HN : Hid (metN a (k + 1) = metN a k) := by
                    show _ = _
                    unfold metN
                    by_cases h1 : a < k
                    · rw [if_pos h1, if_pos (by omega)]
                    · rw [if_neg h1, if_neg (by omega)]
                  have e1 : sameB y.1 y.2 x.ot x.on = false := by
                    rw [sameB_no]
                    rintro ⟨e2, e3⟩
                    exact hka (HA.out.2.1 k (by rw [hy, ← e2, ← e3]))
                  simp only [e1] at cS
                  obtain ⟨cn, hcn⟩ : ∃ cn, metN a k = cn := ⟨_, rfl⟩
                  rw [hcn] at HN ⊢
                  clear h5 hy hkt hka e1 hcn
                  go_wp2_with fail
                  refine ts23 (by kernel_rfl) gk mk.length _ k ib y.1 y.2 x.ot x.on false wr rfl rfl rfl rfl HKT.out y0 y1 z0 z1 cS ?_
                  intro w14 hb14
                  have H14 : Hid (Below wr.heap.size wr w14) := hb14
                  clear cS y0 y1 z0 z1 hb14
                  simp only [putAll, List.setIfInBounds_toArray, List.set_cons_zero, List.set_cons_succ]
                  go_wp2_with fail
                  go_roundw
                  case rel => exact ⟨k + 1, by rw [HN.out], by go_num, HKT.out, below_thenH HB.out H14.out⟩
                  case measure => have := HKT.out; simp [RowKit.intOf]; omega
              · obtain rfl : k = mk.length := by omega
                have HN : Hid (metN a mk.length = 1) := by
                  show _ = _
                  unfold metN
                  rw [if_pos (List.getElem?_eq_some_iff.1 HA.out.1).1]
                rw [HN.out]
                obtain ⟨hk15, he15⟩ := H13.out.1.below HB.out
                have HKR : Hid (TK w4 (· = gt) gt ls [pb, ib] wr ∧ wr.heap[ib]? = some (.cells #[.int .i64 x.ot, .int .i64 x.on] 31 (0, 0))) := ⟨hk15, (he15 ib (by simp)).trans H13.out.2.1⟩
                obtain ⟨b0, b1⟩ := blk2 HKR.out.2
                clear hk15 he15 hkt
                go_wp2_with (refine wpList_putW rfl 31 _ _ rfl wr.heap.size (#[.int .i64 x.ot, .int .i64 x.on]) rfl rfl 31 _ (heap_alloc_new wr _) infoID rfl (idC_one _ _) ?_; intro w16 H16; refine Stp.out ?_)
                refine Stp.mk ?_
                have hne : ib ≠ wr.heap.size := by have := HKR.out.1.lt ib (by simp); omega
                have hk16 := (HKR.out.1.new (.cells #[.int .i64 0, .int .i64 0] 31)).1.put (List.mem_cons_self) HKR.out.1.size H16.out.2.1
                have hi16 : w16.heap[ib]? = some (.cells #[.int .i64 x.ot, .int .i64 x.on] 31 (0, 0)) := (H16.out.2.1.block ib (by have := HKR.out.1.lt ib (by simp); simp; omega) hne).trans (((HKR.out.1.new (.cells #[.int .i64 0, .int .i64 0] 31)).2 ib (by simp)).trans HKR.out.2)
                have ha16 := H16.out.1
                have hau := HKR.out.1.size
                obtain ⟨ab, hab⟩ : ∃ ab, wr.heap.size = ab := ⟨_, rfl⟩
                rw [hab] at hk16 ha16 hne hau ⊢
                have HAB : Hid (ib ≠ ab ∧ w4.heap.size ≤ ab) := ⟨hne, hau⟩
                have H17 : Hid (WalkI T (x.ot, x.on) [] (x.ot, x.on) ∧ TK w4 (· = gt) gt ls [ab, pb, ib] w16 ∧ w16.heap[ib]? = some (.cells #[.int .i64 x.ot, .int .i64 x.on] 31 (0, 0)) ∧ w16.heap[ab]? = some (.cells #[.int .i64 x.ot, .int .i64 x.on] 31 (0, 0))) := ⟨WalkI.start HOT.out HHH.out, hk16, hi16, ha16⟩
                clear hk16 hi16 ha16 hab hne hau H16 b0 b1
                go_wp2_with fail
                go_loopw [15] (fun ss wr => ∃ (V : List PI) (y : PI), ss = .int .i64 (V.length : Nat) ∧ Hid (WalkI T (x.ot, x.on) V y ∧ TK w4 (· = gt) gt ls [ab, pb, ib] wr ∧ wr.heap[ib]? = some (.cells #[.int .i64 x.ot, .int .i64 x.on] 31 (0, 0)) ∧ wr.heap[ab]? = some (.cells #[.int .i64 y.1, .int .i64 y.2] 31 (0, 0)))) (fun ss _ => 100 - (RowKit.intOf ss).toNat)
                case atStart => exact ⟨[], (x.ot, x.on), rfl, H17⟩
                case round =>
                  obtain ⟨V, y, rfl, HW⟩ := hrel
                  generalize wr = wv at *
                  obtain ⟨f0, f1⟩ := blk2 HW.out.2.2.2
                  have hVl : V.length ≤ m.length := Nat.le_trans (HW.out.1.le HT.out.2.1) HT.out.2.2
                  have hVI : (V.length : Int) ≤ m.length := by omega
                  by_cases hy0 : y.1 = 0
                  · have HLV : Hid (decide (y.2 = 0) = true ↔ (x.ot = 0 ∧ x.on = 0) ∨ Bel T (x.ot, x.on) (0, 0)) := by
                      show _ ↔ _
                      rw [decide_eq_true_iff, ← HW.out.1.end HT.out.2.1 hy0]
                      exact ⟨fun h => .inr h, fun h => h.elim (fun e => absurd e.1 HOT.out) id⟩
                    have cL : ∀ W, (TK w4 (· = gt) gt ls [ab, pb, ib] W ∧ W.heap[ib]? = some (.cells #[.int .i64 x.ot, .int .i64 x.on] 31 (0, 0)) ∧ W.heap[ab]? = some (.cells #[.int .i64 y.1, .int .i64 y.2] 31 (0, 0))) → Calls Try.prog 17 #[.pointer (some ⟨gt, 0, none⟩), .agg #[.int .i64 x.ot, .int .i64 x.on]] W fun e w' => e = .returned (.bool (decide (y.2 = 0))) ∧ (TK w4 (· = gt) gt ls [ab, pb, ib] w' ∧ w'.heap[ib]? = some (.cells #[.int .i64 x.ot, .int .i64 x.on] 31 (0, 0)) ∧ w'.heap[ab]? = some (.cells #[.int .i64 y.1, .int .i64 y.2] 31 (0, 0))) := fun W hW =>
                      (hW.1.live HT.out.1 x.ot x.on HLV.out).mono fun e w' ⟨h1, h2, h3⟩ => ⟨h1, h2, (h3 ib (by simp)).trans hW.2.1, (h3 ab (by simp)).trans hW.2.2⟩
                    have hJ0 : TK w4 (· = gt) gt ls [ab, pb, ib] wv.drew ∧ wv.drew.heap[ib]? = some (.cells #[.int .i64 x.ot, .int .i64 x.on] 31 (0, 0)) ∧ wv.drew.heap[ab]? = some (.cells #[.int .i64 y.1, .int .i64 y.2] 31 (0, 0)) := ⟨(HW.out.2.1.below (below_drewH wv)).1, HW.out.2.2.1, HW.out.2.2.2⟩
                    have HJ0 := (show Hid _ from hJ0)
                    have HCL := (show Hid _ from cL)
                    have HVI : Hid (¬ (m.length : Int) < (V.length : Int)) := (show ¬ _ by omega)
                    clear cL hJ0
                    go_wp2_with fail
                    refine ts30 (by kernel_rfl) (fun W => TK w4 (· = gt) gt ls [ab, pb, ib] W ∧ W.heap[ib]? = some (.cells #[.int .i64 x.ot, .int .i64 x.on] 31 (0, 0)) ∧ W.heap[ab]? = some (.cells #[.int .i64 y.1, .int .i64 y.2] 31 (0, 0))) g m.length d V.length gt ib ab x.ot x.on y.2 (decide (y.2 = 0)) wv rfl rfl rfl rfl rfl rfl rfl HJ0.out (by have := HVI.out; omega) rfl (fun W hW => (blk2 hW.2.1).1) (fun W hW => (blk2 hW.2.1).2) (fun W hW => (blk2 hW.2.2).2) HCL.out ?_
                    intro w18 hJ
                    have H18 : Hid (TK w4 (· = gt) gt ls [ab, pb, ib] w18) := hJ.1
                    clear hJ f0 f1
                    simp only [putAll, List.setIfInBounds_toArray, List.set_cons_zero, List.set_cons_succ]
                    go_wp2_with fail
                    go_roundw
                    case rel => exact ⟨i + 1, by go_num, HLT.out, H18.out.sub (by simp)⟩
                    case measure => have := HLT.out; simp [RowKit.intOf]; omega
                  · obtain ⟨p3, nm3, hp3⟩ := HW.out.1.here.1 hy0
                    have HP3 : Hid (placeT T y = some (p3, nm3)) := hp3
                    have HY0 : Hid (¬ y.1 = 0) := hy0
                    have HV9 : Hid (V.length < m.length) := Nat.lt_of_lt_of_le (HW.out.1.lt HT.out.2.1 hy0) HT.out.2.2
                    have cP : Calls Try.prog 12 #[.pointer (some ⟨gt, 0, none⟩), .agg #[.int .i64 y.1, .int .i64 y.2]] wv fun e w' => e = .returned (.tuple #[.agg #[.int .i64 p3.1, .int .i64 p3.2], .string nm3, .bool true]) ∧ TK w4 (· = gt) gt ls [ab, pb, ib] w' ∧ EK [ab, pb, ib] wv w' := by
                      have := HW.out.2.1.parent HT.out.1 y.1 y.2
                      rwa [parV_at hp3] at this
                    clear hp3
                    go_wp2_with (first
                      | (go_at_call 12; refine cP.mono ?_; clear cP; rintro e w19 ⟨rfl, ht19, he19⟩; have H19 : Hid (TK w4 (· = gt) gt ls [ab, pb, ib] w19 ∧ w19.heap[ib]? = some (.cells #[.int .i64 x.ot, .int .i64 x.on] 31 (0, 0)) ∧ w19.heap[ab]? = some (.cells #[.int .i64 y.1, .int .i64 y.2] 31 (0, 0))) := ⟨ht19, (he19 ib (by simp)).trans HW.out.2.2.1, (he19 ab (by simp)).trans HW.out.2.2.2⟩; have HA19 : Hid (w19.heap[ab]? = some (.cells #[.int .i64 y.1, .int .i64 y.2] 31 (0, 0))) := H19.out.2.2; clear ht19 he19 f0 f1)
                      | (refine wpList_putW rfl 31 _ _ rfl ab (#[.int .i64 p3.1, .int .i64 p3.2]) rfl rfl 31 _ HA19 infoID rfl (idC_one _ _) ?_; intro w20 H20; refine Stp.out ?_))
                    refine Stp.mk ?_
                    have H21 : Hid (WalkI T (x.ot, x.on) (y :: V) p3 ∧ TK w4 (· = gt) gt ls [ab, pb, ib] w20 ∧ w20.heap[ib]? = some (.cells #[.int .i64 x.ot, .int .i64 x.on] 31 (0, 0)) ∧ w20.heap[ab]? = some (.cells #[.int .i64 p3.1, .int .i64 p3.2] 31 (0, 0))) :=
                      ⟨HW.out.1.step HT.out.2.1 HY0.out HP3.out, H19.out.1.put (by simp) HAB.out.2 H20.out.2.1, (H20.out.2.1.block ib (H19.out.1.lt ib (by simp)) HAB.out.1).trans H19.out.2.1, H20.out.1⟩
                    clear H20
                    go_wp2_with fail
                    go_roundw
                    case rel => exact ⟨y :: V, p3, by go_num, H21⟩
                    case measure => have := HV9.out; simp [RowKit.intOf]; omega
        · obtain rfl : i = m.length := by omega
          go_wp2
          go_ret
          exact ⟨rfl, HM.out.2.2.2.trans (HI.out.ubelow HM.out.2.2.2.size fun b hb => by rw [show b = gt from hb]; exact HM.out.2.2.1)⟩

end Go.Proofs.Ytgpbphjplbhfmaa.Ck.Y.S
