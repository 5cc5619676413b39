import Derived.Test.YtgpbphjplbhfmaaGreatKPtc

namespace Go.Proofs.YtgpbphjplbhfmaaGreat.Ck.Y.S
open Go.RowKit Go.Lib Go.Maps
attribute [local go_sem] Oper.semAt_some
def laterN (x : OG) (l : List OG) : Nat := (l.filter fun y => lessB x.t x.n y.t y.n).length
theorem laterN_snoc (x y : OG) (l : List OG) : laterN x (l ++ [y]) = if lessB x.t x.n y.t y.n = true then laterN x l + 1 else laterN x l := by
  unfold laterN
  rw [List.filter_append, List.length_append]
  by_cases h : lessB x.t x.n y.t y.n = true
  · rw [if_pos h]; simp [h]
  · rw [if_neg h]; simp [h]
theorem laterN_le (x : OG) (l : List OG) : laterN x l ≤ l.length := List.length_filter_le _ _
theorem laterN_ins {l m : List OG} {x : OG} {j : Nat} (h : Srt l m) (hj : InsAt l (x.t, x.n) j) : laterN x m = l.length - j := by
  have e1 : laterN x m = laterN x l := (List.Perm.length_eq (h.perm.filter _)).symm
  have e2 : laterN x l = laterN x (l.take j) + laterN x (l.drop j) := by
    unfold laterN
    rw [← List.length_append, ← List.filter_append, List.take_append_drop]
  have e3 : laterN x (l.take j) = 0 := by
    unfold laterN
    rw [List.length_eq_zero_iff, List.filter_eq_nil_iff]
    intro y hy hl
    obtain ⟨k, hk, e⟩ := List.getElem_of_mem hy
    rw [List.length_take] at hk
    rw [List.getElem_take] at e
    have := hj.lo k y (by omega) (by rw [List.getElem?_eq_getElem (by omega), e])
    exact lessP_asymm this hl
  have e4 : laterN x (l.drop j) = l.length - j := by
    unfold laterN
    rw [List.filter_eq_self.2, List.length_drop]
    intro y hy
    obtain ⟨k, hk, e⟩ := List.getElem_of_mem hy
    rw [List.length_drop] at hk
    rw [List.getElem_drop] at e
    exact hj.hi (j + k) y (by omega) (by rw [List.getElem?_eq_getElem (by omega), e])
  omega
def zop : OG := ⟨0, 0, 0, 0, 0, 0, 0, 0, ⟨#[]⟩, none, 0, 0, none, 0, 0⟩
theorem zop_in (w : World) : OpIn w zop [] := ⟨fun h => absurd h (by simp), rfl, Nat.zero_le _, Nat.zero_le _, by decide, Nat.zero_le _⟩
theorem zop_may : mayG zop [] = false := by kernel_rfl
theorem TJ.nought {u w : World} {F0 : Nat → Prop} {gt : Nat} {l : List OG} (h : TJ u F0 gt l w) : Calls Tryz.prog 9 #[.pointer (some ⟨gt, 0, none⟩), opgv zop] w fun e w' => e = .returned (.tuple #[.int .i64 0, .int .i64 22]) ∧ TJ u F0 gt l w' := h.bad (o := zop) (ns := []) (zop_in w) zop_may
theorem TJ.zero {u w : World} {F0 : Nat → Prop} {gt : Nat} {l : List OG} (h : TJ u F0 gt l w) :
    Calls Tryz.prog 9 #[.pointer (some ⟨gt, 0, none⟩), .agg #[.int .i64 0, .int .i64 0, .int .i64 0, .int .i64 0, .int .i64 0, .int .i64 0, .int .i64 0, .int .i64 0, .string ⟨#[]⟩, .slice none 0 0, .slice none 0 0]] w fun e w' => e = .returned (.tuple #[.int .i64 0, .int .i64 22]) ∧ TJ u F0 gt l w' :=
  TJ.nought h
theorem TJ.same {u u0 w : World} {F0 : Nat → Prop} {gt base : Nat} {l os : List OG} {v : Value} (h : TJ u F0 gt l w) (hs : Srt l os) (htk : Taken u0 os) (hr : RowG u base v os) (hn : ∀ g, v.ownBlock = some g → ¬ F0 g) (hl : os.length ≤ 400) :
    Calls Tryz.prog 10 #[.pointer (some ⟨gt, 0, none⟩), v] w fun e w' => e = .returned (.bool true) ∧ TJ u F0 gt l w' := by
  have hrw := h.row hr hn
  obtain ⟨F, h1, h2, h3⟩ := h
  refine (same_law h1 hs htk hrw (fun g hg hF => ?_) hl).mono ?_
  · obtain ⟨cs, hc, _⟩ := hr.tag hg
    rcases h2 g hF with e | e
    · exact hn g hg e
    · have := block_lt hc; omega
  · rintro e w' ⟨he, F', k1, k2, k3⟩
    refine ⟨he, F', k1, fun b hb => ?_, h3.trans k3 h2⟩
    rcases k2 b hb with e | e
    · exact h2 b e
    · have := h3.size; exact .inr (by omega)
set_option maxRecDepth 8000 in
set_option maxHeartbeats 4000000 in
theorem ta13 {Q : Exit → Act → World → Prop} {base : Array Value} {dd : List Deferred} {ops : Array Oper} (hops : Tryz.f3.body.bind (regs 13) = some ops) (g0 m cm I K : Nat) (a1 a2 b1 b2 : Int) (r : Bool) (w9 : World) (hsz : base.size = 88) (b5 : base.getD 5 undef = .slice (some ⟨g0, 0, none⟩) m cm) (b6 : base.getD 6 undef = .int .i64 (I : Nat)) (b8 : base.getD 8 undef = .int .i64 (K : Nat)) (hI : I < m) (hK : K < m) (ha0 : w9.cell? ⟨g0, I * 11, none⟩ = some (.int .i64 a1)) (ha1 : w9.cell? ⟨g0, I * 11 + 1, none⟩ = some (.int .i64 a2)) (hb0 : w9.cell? ⟨g0, K * 11, none⟩ = some (.int .i64 b1)) (hb1 : w9.cell? ⟨g0, K * 11 + 1, none⟩ = some (.int .i64 b2)) (cL : ∀ W, Below w9.heap.size w9 W → Calls Tryz.prog 8 #[.agg #[.int .i64 a1, .int .i64 a2], .agg #[.int .i64 b1, .int .i64 b2]] W fun e w' => e = .returned (.bool r) ∧ Below W.heap.size W w') (hQ : ∀ W, Below w9.heap.size w9 W → Q .normal ⟨putAll base [(some 32, .slice (some ⟨g0, 0, none⟩) m cm), (some 33, .int .i64 (I : Nat)), (some 34, .pointer (some ⟨g0, I * 11, none⟩)), (some 35, .pointer (some ⟨g0, I * 11, none⟩)), (some 36, .agg #[.int .i64 a1, .int .i64 a2]), (some 37, .slice (some ⟨g0, 0, none⟩) m cm), (some 38, .int .i64 (K : Nat)), (some 39, .pointer (some ⟨g0, K * 11, none⟩)), (some 40, .pointer (some ⟨g0, K * 11, none⟩)), (some 41, .agg #[.int .i64 b1, .int .i64 b2]), (some 42, .bool r)], dd⟩ W) :
    (Code.region 13 ops true).wp Tryz.prog Q ⟨base, dd⟩ w9 := by
  have hmix : Tryz.prog.follows .mixedOrders = true := by kernel_rfl
  have h2 := (show Tryz.f3.body.bind (regs 13) = some _ from rfl).symm.trans hops
  obtain rfl := Option.some.inj h2
  clear h2 hops
  obtain ⟨LL, hLe⟩ : ∃ LL : List (Option Tmp × Option Value), LL = [(some 32, some (.slice (some ⟨g0, 0, none⟩) m cm)), (some 33, some (.int .i64 (I : Nat))), (some 34, some (.pointer (some ⟨g0, I * 11, none⟩))), (some 35, some (.pointer (some ⟨g0, I * 11, none⟩))), (some 36, some (.agg #[.int .i64 a1, .int .i64 a2])), (some 37, some (.slice (some ⟨g0, 0, none⟩) m cm)), (some 38, some (.int .i64 (K : Nat))), (some 39, some (.pointer (some ⟨g0, K * 11, none⟩))), (some 40, some (.pointer (some ⟨g0, K * 11, none⟩))), (some 41, some (.agg #[.int .i64 b1, .int .i64 b2])), (some 42, some (.bool r))] := ⟨_, rfl⟩
  have tv0 : tv LL 0 = some (.slice (some ⟨g0, 0, none⟩) m cm) := by rw [hLe]; rfl
  have tv1 : tv LL 1 = some (.int .i64 (I : Nat)) := by rw [hLe]; rfl
  have tv2 : tv LL 2 = some (.pointer (some ⟨g0, I * 11, none⟩)) := by rw [hLe]; rfl
  have tv3 : tv LL 3 = some (.pointer (some ⟨g0, I * 11, none⟩)) := by rw [hLe]; rfl
  have tv4 : tv LL 4 = some (.agg #[.int .i64 a1, .int .i64 a2]) := by rw [hLe]; rfl
  have tv5 : tv LL 5 = some (.slice (some ⟨g0, 0, none⟩) m cm) := by rw [hLe]; rfl
  have tv6 : tv LL 6 = some (.int .i64 (K : Nat)) := by rw [hLe]; rfl
  have tv7 : tv LL 7 = some (.pointer (some ⟨g0, K * 11, none⟩)) := by rw [hLe]; rfl
  have tv8 : tv LL 8 = some (.pointer (some ⟨g0, K * 11, none⟩)) := by rw [hLe]; rfl
  have tv9 : tv LL 9 = some (.agg #[.int .i64 b1, .int .i64 b2]) := by rw [hLe]; rfl
  have tv10 : tv LL 10 = some (.bool r) := by rw [hLe]; rfl
  refine region_gh hmix (by kernel_rfl) 88 hsz (by kernel_rfl) LL (by rw [hLe]; rfl) (fun i v W => True) ?_ ?_ ?_
  · intro i v W W' h hb
    exact trivial
  · intro g b W io o a hS hF hcl ho hb hd ev kp yl
    match io with
    | 0 => simp only [qA, qB, qD] at ho; subst ho; rw [tv0]; have e5 := (kp 5 (none_till (by kernel_rfl))).trans b5; exact dV (by simp [execOp, go_sem, e5]) (Below.refl _ _)
    | 1 => simp only [qA, qB, qC, qD] at ho; subst ho; rw [tv1]; have e6 := (kp 6 (none_till (by kernel_rfl))).trans b6; exact dV (by simp [execOp, go_sem, e6]) (Below.refl _ _)
    | 2 => simp only [qA, qB, qC, qD] at ho; subst ho; rw [tv2]; have e32 := eT ev hd 0 32 tv0; have e33 := eT ev hd 1 33 tv1; exact dV (by simp [execOp, go_sem, e32, e33, hI]) (Below.refl _ _)
    | 3 => simp only [qA, qB, qC, qD] at ho; subst ho; rw [tv3]; have e34 := eT ev hd 2 34 tv2; exact dV (by simp [execOp, go_sem, e34]) (Below.refl _ _)
    | 4 => simp only [qA, qB, qC, qD] at ho; subst ho; rw [tv4]; have e35 := eT ev hd 3 35 tv3; have d9_0 := (hS.cell (p := ⟨g0, I * 11, none⟩) (cell_lt ha0)).trans ha0; have d9_1 := (hS.cell (p := ⟨g0, I * 11 + 1, none⟩) (cell_lt ha1)).trans ha1; exact dV (by simp [execOp, go_sem, e35, d9_0, d9_1]) (Below.refl _ _)
    | 5 => simp only [qA, qB, qC, qD] at ho; subst ho; rw [tv5]; have e5 := (kp 5 (none_till (by kernel_rfl))).trans b5; exact dV (by simp [execOp, go_sem, e5]) (Below.refl _ _)
    | 6 => simp only [qA, qB, qC, qD] at ho; subst ho; rw [tv6]; have e8 := (kp 8 (none_till (by kernel_rfl))).trans b8; exact dV (by simp [execOp, go_sem, e8]) (Below.refl _ _)
    | 7 => simp only [qA, qB, qC, qD] at ho; subst ho; rw [tv7]; have e37 := eT ev hd 5 37 tv5; have e38 := eT ev hd 6 38 tv6; exact dV (by simp [execOp, go_sem, e37, e38, hK]) (Below.refl _ _)
    | 8 => simp only [qA, qB, qC, qD] at ho; subst ho; rw [tv8]; have e39 := eT ev hd 7 39 tv7; exact dV (by simp [execOp, go_sem, e39]) (Below.refl _ _)
    | 9 => simp only [qA, qB, qC, qD] at ho; subst ho; rw [tv9]; have e40 := eT ev hd 8 40 tv8; have d9_0 := (hS.cell (p := ⟨g0, K * 11, none⟩) (cell_lt hb0)).trans hb0; have d9_1 := (hS.cell (p := ⟨g0, K * 11 + 1, none⟩) (cell_lt hb1)).trans hb1; exact dV (by simp [execOp, go_sem, e40, d9_0, d9_1]) (Below.refl _ _)
    | 10 =>
      simp only [qA, qB, qC, qD] at ho; subst ho; rw [tv10]; have e36 := eT ev hd 4 36 tv4; have e41 := eT ev hd 9 41 tv9
      refine does_call rfl nofun (f := 8) (args := #[.agg #[.int .i64 a1, .int .i64 a2], .agg #[.int .i64 b1, .int .i64 b2]]) ?_ ?_
      · simp [go_sem, e36, e41]
      · exact cL W hS 
    | k + 11 => simp at ho
  · intro g W hS hF
    subst hLe
    exact hQ  W hS 
set_option maxRecDepth 8000 in
set_option maxHeartbeats 16000000 in
theorem treeall_law (p : Option Addr) (L : List OG) (c : Nat) (w : World) (hp : OpsL w p L) (hL : L.length ≤ maxLen) :
    Calls Tryz.prog 3 #[.slice p L.length c] w fun e w' => e = .returned (.bool true) ∧ Below w.heap.size w w' := by
  have HP : Hid (OpsL w p L ∧ L.length ≤ maxLen) := ⟨hp, hL⟩
  clear hp hL
  go_enter Tryz.func3, Tryz.ntmps3
  go_wp2_with (first
    | (go_at_call 5; refine Calls_new (begun_any _) ?_; intro w1 HB1)
    | (go_at_call 6; refine (new_any w1).mono ?_; rintro e w2 ⟨rfl, ht2, hb2⟩; have H2 : Hid (TW (· = w1.heap.size) w2 w1.heap.size [] ∧ Below w.heap.size w w2) := ⟨ht2, below_thenH HB1.out hb2⟩; clear ht2 hb2)
    | (go_at_call 7; refine (some_any p L c 25 w w2 H2.out.2 HP.out.1 HP.out.2 (by decide)).mono ?_; rintro e w4 ⟨v, m, rfl, hr4, ht4, hl4, hb4⟩; have H4 : Hid (RowG w4 w2.heap.size v m ∧ Taken w m ∧ m.length ≤ 25 ∧ Below w2.heap.size w2 w4) := ⟨hr4, ht4, hl4, hb4⟩; clear hr4 ht4 hl4 hb4))
  obtain ⟨q, d, rfl⟩ := H4.out.1.slice
  have hgw := HB1.out.size
  have hg2 : w1.heap.size < w2.heap.size := H2.out.1.low _ rfl
  obtain ⟨gt, hgt⟩ : ∃ gt, w1.heap.size = gt := ⟨_, rfl⟩
  rw [hgt] at H2 hgw hg2 ⊢
  have HU : Hid (TJ w4 (· = gt) gt [] w4 ∧ RowG w4 w2.heap.size (.slice q m.length d) m ∧ (∀ g, (Value.slice q m.length d).ownBlock = some g → ¬ g = gt)) := ⟨TJ.start (H2.out.1.below H4.out.2.2.2), H4.out.1, fun g hg => by obtain ⟨_, _, hb⟩ := H4.out.1.tag hg; omega⟩
  have HM : Hid (Taken w m ∧ m.length ≤ 25 ∧ w.heap.size ≤ gt ∧ Below w.heap.size w w4) := ⟨H4.out.2.1, H4.out.2.2.1, hgw, below_thenH H2.out.2 H4.out.2.2.2⟩
  clear hgw hg2 hgt
  go_loopw [6] (fun ii wr => ∃ i : Nat, ii = .int .i64 i ∧ i ≤ m.length ∧ Hid (∃ ls, TJ w4 (· = gt) gt ls wr ∧ Srt ls (m.take i))) (fun ii _ => m.length - (RowKit.intOf ii).toNat)
  case atStart => exact ⟨0, rfl, by omega, [], HU.out.1, by rw [List.take_zero]; exact Srt.nil⟩
  case round =>
    obtain ⟨i, rfl, hi, HI⟩ := hrel
    generalize wr = wo at *
    have hm9 : m.length ≤ 25 := HM.out.2.1
    by_cases hlt : i < m.length
    · have hltI : (i : Int) < m.length := by omega
      have HLT : Hid (i < m.length) := hlt
      obtain ⟨x, hx⟩ : ∃ x, m[i]? = some x := ⟨_, List.getElem?_eq_getElem hlt⟩
      obtain ⟨ls, hk, hs⟩ := HI.out
      have HX : Hid (m[i]? = some x) := hx
      have HS : Hid (TJ w4 (· = gt) gt ls wo ∧ Srt ls (m.take i)) := ⟨hk, hs⟩
      have HRW : Hid (∀ W ls, TJ w4 (· = gt) gt ls W → RowG W w2.heap.size (.slice q m.length d) m) := fun W ls hW => hW.row HU.out.2.1 HU.out.2.2
      have HWI : Hid (∀ W ls, TJ w4 (· = gt) gt ls W → Below w.heap.size w W) := fun W ls hW => HM.out.2.2.2.trans (hW.ubelow HM.out.2.2.2.size fun b hb => by rw [show b = gt from hb]; exact HM.out.2.2.1)
      have hq : ∃ g, q = some ⟨g, 0, none⟩ := by
        obtain ⟨p1, c1, e1, h1⟩ := RowG.caps (HRW.out wo ls hk)
        cases e1
        obtain ⟨g, e, _⟩ := h1 i x hx
        exact ⟨g, e⟩
      obtain ⟨g, rfl⟩ := hq
      have HXC : Hid (∀ W ls, TJ w4 (· = gt) gt ls W → ∀ (k : Nat) (y : OG), m[k]? = some y → W.cell? ⟨g, k * 11, none⟩ = some (.int .i64 y.t) ∧ W.cell? ⟨g, k * 11 + 1, none⟩ = some (.int .i64 y.n) ∧ W.cell? ⟨g, k * 11 + 2, none⟩ = some (.int .i64 y.sq) ∧ W.cell? ⟨g, k * 11 + 3, none⟩ = some (.int .i64 y.kd) ∧ W.cell? ⟨g, k * 11 + 4, none⟩ = some (.int .i64 y.ot) ∧ W.cell? ⟨g, k * 11 + 5, none⟩ = some (.int .i64 y.on) ∧ W.cell? ⟨g, k * 11 + 6, none⟩ = some (.int .i64 y.pt) ∧ W.cell? ⟨g, k * 11 + 7, none⟩ = some (.int .i64 y.pn) ∧ W.cell? ⟨g, k * 11 + 8, none⟩ = some (.string y.nm) ∧ W.cell? ⟨g, k * 11 + 9, none⟩ = some (.slice y.dp y.dl y.dc) ∧ W.cell? ⟨g, k * 11 + 10, none⟩ = some (.slice y.sp y.sl y.sc)) := fun W ls hW k y hy => RowG.cells (HRW.out W ls hW) hy
      clear hx hs hk hlt
      go_wp2_with fail
      go_loopw [7, 8] (fun cc kk wr => ∃ k : Nat, cc = .int .i64 (laterN x (m.take k) : Nat) ∧ kk = .int .i64 k ∧ k ≤ i ∧ Hid (Below wo.heap.size wo wr)) (fun _ kk _ => i - (RowKit.intOf kk).toNat)
      case atStart => exact ⟨0, by simp [laterN], rfl, by omega, Below.refl _ _⟩
      case round =>
        obtain ⟨k, rfl, rfl, hki, HB⟩ := hrel
        have HBT : Hid (TJ w4 (· = gt) gt ls wr) := HS.out.1.below HB.out
        have hi25 : i < 25 := by have := HLT.out; omega
        by_cases hkt : k < i
        · have hktI : (k : Int) < i := by omega
          have HKT : Hid (k < i ∧ k < m.length) := ⟨hkt, by have := HLT.out; omega⟩
          obtain ⟨y, hy⟩ : ∃ y, m[k]? = some y := ⟨_, List.getElem?_eq_getElem HKT.out.2⟩
          obtain ⟨a0, a1, _⟩ := HXC.out wr ls HBT.out i x HX.out
          obtain ⟨b0, b1, _⟩ := HXC.out wr ls HBT.out k y hy
          have hN := laterN_snoc x y (m.take k)
          have htk : m.take (k + 1) = m.take k ++ [y] := by rw [List.take_add_one, hy]; rfl
          rw [← htk] at hN
          obtain ⟨r, hr⟩ : ∃ r, lessB x.t x.n y.t y.n = r := ⟨_, rfl⟩
          have cL : ∀ W, Below wr.heap.size wr W → Calls Tryz.prog 8 #[.agg #[.int .i64 x.t, .int .i64 x.n], .agg #[.int .i64 y.t, .int .i64 y.n]] W fun e w' => e = .returned (.bool r) ∧ Below W.heap.size W w' := fun W _ => by
            have := rless_any x.t x.n y.t y.n W
            rwa [hr] at this
          rw [hr] at hN
          have hle : laterN x (m.take k) ≤ k := Nat.le_trans (laterN_le _ _) (by rw [List.length_take]; omega)
          have HN : Hid (laterN x (m.take (k + 1)) = if r = true then laterN x (m.take k) + 1 else laterN x (m.take k)) := hN
          generalize laterN x (m.take k) = cn at *
          clear hy htk hr hkt hN
          cases r with
          | true =>
            go_wp2_with fail
            refine ta13 (by kernel_rfl) g m.length d i k x.t x.n y.t y.n true wr rfl rfl rfl rfl HLT.out HKT.out.2 a0 a1 b0 b1 cL ?_
            intro w5 hb5
            have H5 : Hid (Below wr.heap.size wr w5) := hb5
            clear hb5 a0 a1 b0 b1 cL
            simp only [putAll, sA, sB, sC]
            go_wp2_with fail
            go_roundw
            case rel => exact ⟨k + 1, by rw [HN.out]; go_num, by go_num, HKT.out.1, below_thenH HB.out H5.out⟩
            case measure => have := HKT.out.1; simp [RowKit.intOf]; omega
          | false =>
            go_wp2_with fail
            refine ta13 (by kernel_rfl) g m.length d i k x.t x.n y.t y.n false wr rfl rfl rfl rfl HLT.out HKT.out.2 a0 a1 b0 b1 cL ?_
            intro w5 hb5
            have H5 : Hid (Below wr.heap.size wr w5) := hb5
            clear hb5 a0 a1 b0 b1 cL
            simp only [putAll, sA, sB, sC]
            go_wp2_with fail
            go_roundw
            case rel => exact ⟨k + 1, by rw [HN.out]; rfl, by go_num, HKT.out.1, below_thenH HB.out H5.out⟩
            case measure => have := HKT.out.1; simp [RowKit.intOf]; omega
        · obtain rfl : k = i := by omega
          obtain ⟨a0, a1, a2, a3, a4, a5, a6, a7, a8, a9, a10⟩ := HXC.out wr ls HBT.out k x HX.out
          have hle : laterN x (m.take k) ≤ k := Nat.le_trans (laterN_le _ _) (by rw [List.length_take]; omega)
          have cA : Calls Tryz.prog 9 #[.pointer (some ⟨gt, 0, none⟩), opgv x] wr fun e w' => e = .returned (.tuple #[.int .i64 (laterN x (m.take k) : Nat), .int .i64 0]) ∧ ∃ ls, TJ w4 (· = gt) gt ls w' ∧ Srt ls (m.take (k + 1)) := by
            obtain ⟨ns, bs, k1, k2, _⟩ := HM.out.1.each x (List.mem_of_getElem? HX.out)
            refine (HBT.out.apply (k1.below (HWI.out wr ls HBT.out)) k2 (HM.out.1.new HX.out HS.out.2) (by rw [HS.out.2.len, List.length_take]; omega)).mono ?_
            rintro e w' ⟨j, rfl, hj, ht⟩
            exact ⟨by rw [laterN_ins HS.out.2 hj], _, ht, HS.out.2.snoc hj HX.out⟩
          have HCA : Hid (∀ W ls, TJ w4 (· = gt) gt ls W → Srt ls (m.take (k + 1)) → Calls Tryz.prog 9 #[.pointer (some ⟨gt, 0, none⟩), opgv x] W fun e w' => e = .returned (.tuple #[.int .i64 0, .int .i64 17]) ∧ TJ w4 (· = gt) gt ls w') := fun W ls hW hs => by
            obtain ⟨ns, bs, k1, k2, _⟩ := HM.out.1.each x (List.mem_of_getElem? HX.out)
            refine hW.again (k1.below (HWI.out W ls hW)) k2 ⟨x, hs.perm.mem_iff.2 ?_, rfl⟩
            rw [List.take_add_one, HX.out]
            exact List.mem_append_right _ (by simp)
          simp only [opgv, opgC] at cA HCA
          generalize laterN x (m.take k) = cn at *
          have tok1 : True := trivial
          have tok2 : True := trivial
          clear hkt
          go_wp2_with (first
            | (go_at_call 9; have tk := tok1; clear tok1; refine cA.mono ?_; clear tk cA; rintro e w6 ⟨rfl, ls6, ht6, hs6⟩; have H6 : Hid (TJ w4 (· = gt) gt ls6 w6 ∧ Srt ls6 (m.take (k + 1))) := ⟨ht6, hs6⟩; obtain ⟨d0, d1, d2, d3, d4, d5, d6, d7, d8, d9, d10⟩ := HXC.out w6 ls6 ht6 k x HX.out; clear ht6 hs6 a0 a1 a2 a3 a4 a5 a6 a7 a8 a9 a10)
            | (go_at_call 9; have tk := tok2; clear tok2; refine (HCA.out w6 ls6 H6.out.1 H6.out.2).mono ?_; clear tk; rintro e w7 ⟨rfl, ht7⟩; have H7 : Hid (TJ w4 (· = gt) gt ls6 w7 ∧ Srt ls6 (m.take (k + 1))) := ⟨ht7, H6.out.2⟩; clear ht7 d0 d1 d2 d3 d4 d5 d6 d7 d8 d9 d10))
          go_roundw
          case rel => exact ⟨k + 1, by go_num, HLT.out, ls6, H7.out⟩
          case measure => have := HLT.out; simp [RowKit.intOf]; omega
    · obtain rfl : i = m.length := by omega
      obtain ⟨ls, hk, hs⟩ := HI.out
      rw [List.take_length] at hs
      have HK : Hid (TJ w4 (· = gt) gt ls wo ∧ Srt ls m) := ⟨hk, hs⟩
      clear hk hs hlt
      go_wp2_with (first
        | (go_at_call 9; refine HK.out.1.zero.mono ?_; rintro e w8 ⟨rfl, ht8⟩; have H8 : Hid (TJ w4 (· = gt) gt ls w8) := ht8; clear ht8)
        | (go_at_call 10; refine (H8.out.same HK.out.2 HM.out.1 HU.out.2.1 HU.out.2.2 (by have := HM.out.2.1; omega)).mono ?_; rintro e w9 ⟨rfl, ht9⟩; have H9 : Hid (TJ w4 (· = gt) gt ls w9) := ht9; clear ht9))
      go_ret
      exact ⟨rfl, HM.out.2.2.2.trans (H9.out.ubelow HM.out.2.2.2.size fun b hb => by rw [show b = gt from hb]; exact HM.out.2.2.1)⟩
end Go.Proofs.YtgpbphjplbhfmaaGreat.Ck.Y.S
