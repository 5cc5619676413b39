/-
  Which vectors may be: ops.isVector, through slices.Equal and slices.ContainsFunc.
-/
import Derived.Test.YteimjkicinjcgaaKOb

namespace Go.Proofs.Yteimjkicinjcgaa.Cd
open Go.RowKit

attribute [local go_sem] Oper.semAt_some

def nz (x : Int) : Bool := decide (x ≠ 0)
theorem nz_zero : nz 0 = false := rfl
theorem nz_not {x : Int} (h : ¬ x = 0) : nz x = true := decide_eq_true h

theorem atOf_vc (ns : List Int) (k : Nat) : Vc.atOf ns k = atOf ns k := by
  unfold Vc.atOf atOf
  cases ns[k]? <;> rfl
theorem tl_vc (ns : List Int) : ∀ k, Vc.tl ns k = tl ns k
  | 0 => rfl
  | k + 1 => by rw [Vc.tl, tl, tl_vc ns k]
theorem all_vc (ns : List Int) : Vc.nums (Vc.atOf ns) = allOf ns 64 := by
  unfold Vc.nums Vc.numsTo allOf
  exact List.map_congr_left (fun k _ => atOf_vc ns k)
theorem norm_vc (ns : List Int) : Vc.vec (Vc.atOf ns) = normOf ns := by
  unfold Vc.vec normOf
  rw [all_vc, tl_vc]
theorem norm_length (ns : List Int) : (normOf ns).length = tl (allOf ns 64) 64 := by
  have := tl_le (allOf ns 64) 64
  unfold normOf
  rw [List.length_take, allOf_length]
  omega
theorem norm_at (ns : List Int) : (normOf ns).length = 0 ∨ ∃ x, (normOf ns)[(normOf ns).length - 1]? = some x ∧ x ≠ 0 ∧ ns[(normOf ns).length - 1]? = some x := by
  have hl := norm_length ns
  have hle := tl_le (allOf ns 64) 64
  rcases Nat.eq_zero_or_pos (tl (allOf ns 64) 64) with h | h
  · left; omega
  · right
    have h1 := (tl_last (allOf ns 64) 64).resolve_left (by omega)
    have h2 := allOf_get ns 64 (tl (allOf ns 64) 64 - 1) (by omega)
    rw [h2] at h1
    have h3 : atOf ns (tl (allOf ns 64) 64 - 1) ≠ 0 := fun e => h1 (by rw [e])
    refine ⟨atOf ns (tl (allOf ns 64) 64 - 1), ?_, h3, ?_⟩
    · rw [hl]
      unfold normOf
      rw [List.getElem?_take, if_pos (by omega)]
      exact h2
    · rw [hl]
      unfold atOf at h3 ⊢
      cases hx : ns[tl (allOf ns 64) 64 - 1]? with
      | none => rw [hx] at h3; exact absurd rfl h3
      | some x =>
        rw [hx] at h3
        simp only at h3 ⊢
        by_cases ho : okN x = true
        · rw [if_pos ho]
        · rw [if_neg ho] at h3; exact absurd rfl h3
theorem norm_short (ns : List Int) : (normOf ns).length ≤ ns.length := by
  rcases norm_at ns with h | ⟨x, _, _, h⟩
  · omega
  · have := (List.getElem?_eq_some_iff.1 h).1
    omega
theorem isvec_pure (ns : List Int) : (decide (ns.take (normOf ns).length = normOf ns) && !(ns.drop (normOf ns).length).any nz) = mayB ns := by
  rw [Bool.eq_iff_iff]
  constructor
  · intro h
    rw [Bool.and_eq_true, decide_eq_true_eq, Bool.not_eq_true', List.any_eq_false] at h
    obtain ⟨h1, h2⟩ := h
    have ht : tl ns ns.length = (normOf ns).length := by
      refine tl_stop ns _ ?_ _ (norm_short ns) ?_
      · rcases norm_at ns with h | ⟨x, _, hx, h⟩
        · exact .inl h
        · exact .inr ⟨x, h, hx⟩
      · intro j hj hl
        have := h2 ns[j] (by
          rw [List.mem_iff_getElem?]
          exact ⟨j - (normOf ns).length, by rw [List.getElem?_drop, show (normOf ns).length + (j - (normOf ns).length) = j by omega]; exact List.getElem?_eq_getElem hl⟩)
        rw [List.getElem?_eq_getElem hl]
        have : ns[j] = 0 := by unfold nz at this; simpa using this
        rw [this]
    unfold mayB
    rw [ht, h1, Bool.and_eq_true, decide_eq_true_eq, List.all_eq_true]
    exact ⟨normOf_le ns, normOf_ok ns⟩
  · intro h
    have h1 := norm_take ns h
    have hlen : (normOf ns).length = tl ns ns.length := by
      rw [h1, List.length_take]
      have := tl_le ns ns.length
      omega
    rw [Bool.and_eq_true, decide_eq_true_eq, Bool.not_eq_true', List.any_eq_false]
    refine ⟨by rw [hlen]; exact h1.symm, ?_⟩
    intro x hx
    rw [List.mem_iff_getElem?] at hx
    obtain ⟨j, hj⟩ := hx
    rw [List.getElem?_drop] at hj
    have hl := (List.getElem?_eq_some_iff.1 hj).1
    have := tl_zero ns ns.length ((normOf ns).length + j) (by omega) hl
    rw [this] at hj
    cases hj
    simp [nz]

theorem below_drewN {B : Nat} {a w : World} (h : Below B a w) (q : Nat) : Below B a (w.drewN q) := ⟨h.os, h.tape, h.output, h.size, h.block⟩

set_option maxRecDepth 8000 in
set_option maxHeartbeats 1000000 in
theorem sequal_any (p q : Option Addr) (a b : List Int) (cp cq : Nat) (w : World) (ha : a.length ≤ 1000000) (hp : Lies w p (a.map iv)) (hq : Lies w q (b.map iv)) :
    Calls Try.prog 78 #[.slice p a.length cp, .slice q b.length cq] w fun e w' => e = .returned (.bool (decide (a = b))) ∧ Below w.heap.size w w' := by
  by_cases hl : a.length = b.length
  · have hlI : (a.length : Int) = b.length := by omega
    have HL : Hid (a.length = b.length) := hl
    have HP : Hid (Lies w p (a.map iv)) := hp
    have HQ : Hid (Lies w q (b.map iv)) := hq
    rw [← hl]
    clear hl hlI hp hq
    obtain ⟨m, hm⟩ : ∃ m, a.length = m := ⟨_, rfl⟩
    rw [hm]
    have hm6 : m ≤ 1000000 := by omega
    have HM : Hid (a.length = m) := hm
    clear hm ha
    go_enter Try.func78, Try.ntmps78
    go_wp2_with fail
    go_loopw [13] (fun ii wr => ∃ i : Nat, ii = .int .i64 i ∧ i ≤ m ∧ Hid (Below w.heap.size w wr) ∧ Hid (∀ j, j < i → a[j]? = b[j]?)) (fun ii _ => m - (intOf ii).toNat)
    case atStart => exact ⟨0, rfl, Nat.zero_le _, Below.refl _ _, fun j hj => by omega⟩
    case round =>
      obtain ⟨i, rfl, hi, HB, HI⟩ := hrel
      by_cases hlt : i < m
      · have hltI : (i : Int) < m := by omega
        obtain ⟨x, hx⟩ : ∃ x, a[i]? = some x := ⟨_, List.getElem?_eq_getElem (by rw [HM.out]; exact hlt)⟩
        obtain ⟨y, hy⟩ : ∃ y, b[i]? = some y := ⟨_, List.getElem?_eq_getElem (by rw [← HL.out, HM.out]; exact hlt)⟩
        obtain ⟨g, o, rfl, hc⟩ := HP.out (by simp; rw [HM.out]; omega)
        obtain ⟨g', o', rfl, hc'⟩ := HQ.out (by simp; rw [← HL.out, HM.out]; omega)
        have c1 := (HB.out.cell (p := ⟨g, o + i, none⟩) (cell_lt (hc i (iv x) (by simp [hx])))).trans (hc i (iv x) (by simp [hx]))
        have c2 := (HB.out.cell (p := ⟨g', o' + i, none⟩) (cell_lt (hc' i (iv y) (by simp [hy])))).trans (hc' i (iv y) (by simp [hy]))
        unfold iv at c1 c2
        by_cases hxy : x = y
        · have HN : Hid (∀ j, j < i + 1 → a[j]? = b[j]?) := fun j hj => by
            by_cases e : j = i
            · rw [e, hx, hy, hxy]
            · exact HI.out j (by omega)
          subst hxy
          clear hx hy hc hc'
          go_wp2_with fail
          go_quiet (fail)
          go_wp2
          exact ⟨⟨i + 1, by simp, by omega, below_drewN HB.out nq, HN⟩, by simp [intOf]; omega⟩
        · have HF : Hid (decide (a = b) = false) := by
            show _ = _
            refine decide_eq_false (fun e => hxy ?_)
            rw [e, hy] at hx
            cases hx; rfl
          clear hx hy hc hc'
          go_wp2_with fail
          go_quiet (fail)
          go_wp2
          go_ret
          rw [HF.out]
          exact ⟨rfl, below_drewN HB.out nq⟩
      · obtain rfl : i = m := by omega
        have HF : Hid (decide (a = b) = true) := by
          show _ = _
          refine decide_eq_true (List.ext_getElem? (fun j => ?_))
          by_cases hj : j < i
          · exact HI.out j hj
          · rw [List.getElem?_eq_none (by rw [HM.out]; omega), List.getElem?_eq_none (by rw [← HL.out, HM.out]; omega)]
        go_wp2
        go_ret
        rw [HF.out]
        exact ⟨rfl, HB.out⟩
  · have hlI : ¬ (a.length : Int) = b.length := by omega
    have HF : Hid (decide (a = b) = false) := by
      show _ = _
      exact decide_eq_false (fun e => hl (by rw [e]))
    clear hp hq hl
    generalize a.length = m at *
    generalize b.length = k at *
    go_enter Try.func78, Try.ntmps78
    go_wp2
    go_ret
    rw [HF.out]
    exact ⟨rfl, Below.refl _ _⟩

theorem notZero_any (x : Int) (w : World) : Calls Try.prog 80 #[.int .i64 x] w fun e w' => e = .returned (.bool (nz x)) ∧ w' = w := by
  by_cases h : x = 0
  · subst h
    go_enter Try.func80, Try.ntmps80
    go_wp2
    go_ret
    exact ⟨rfl, rfl⟩
  · go_enter Try.func80, Try.ntmps80
    go_wp2
    go_ret
    exact ⟨by rw [nz_not h]; simp [h], rfl⟩

set_option maxRecDepth 8000 in
set_option maxHeartbeats 1000000 in
theorem sindex_any (p : Option Addr) (a : List Int) (cp : Nat) (w : World) (ha : a.length ≤ 1000000) (hp : Lies w p (a.map iv)) :
    Calls Try.prog 88 #[.slice p a.length cp, .func (.func 80) #[] #[]] w fun e w' => (∃ z : Int, e = .returned (.int .i64 z) ∧ (decide (0 ≤ z)) = a.any nz) ∧ w' = w := by
  have HP : Hid (Lies w p (a.map iv)) := hp
  obtain ⟨m, hm⟩ : ∃ m, a.length = m := ⟨_, rfl⟩
  rw [hm]
  have hm6 : m ≤ 1000000 := by omega
  have HM : Hid (a.length = m) := hm
  have hen := fun args W => enters Try.func80 (by kernel_rfl) rfl args W
  clear hm ha hp
  go_enter Try.func88, Try.ntmps88
  go_wp2_with fail
  go_loop [8] (fun ii => ∃ i : Nat, ii = .int .i64 i ∧ i ≤ m ∧ Hid (∀ j, j < i → a[j]? = some 0)) (fun ii => m - (intOf ii).toNat)
  case atStart => exact ⟨0, rfl, Nat.zero_le _, fun j hj => by omega⟩
  case round =>
    obtain ⟨i, rfl, hi, HI⟩ := hrel
    by_cases hlt : i < m
    · have hltI : (i : Int) < m := by omega
      obtain ⟨x, hx⟩ : ∃ x, a[i]? = some x := ⟨_, List.getElem?_eq_getElem (by rw [HM.out]; exact hlt)⟩
      obtain ⟨g, o, rfl, hc⟩ := HP.out (by simp; rw [HM.out]; omega)
      have c1 := hc i (iv x) (by simp [hx])
      unfold iv at c1
      have cz := notZero_any x
      by_cases hxy : x = 0
      · have HN : Hid (∀ j, j < i + 1 → a[j]? = some 0) := fun j hj => by
          by_cases e : j = i
          · rw [e, hx, hxy]
          · exact HI.out j (by omega)
        subst hxy
        rw [nz_zero] at cz
        clear hx hc
        go_wp2_with (go_at_call 80; refine Calls_on (cz _) ?_)
        exact ⟨⟨i + 1, by simp, by omega, HN⟩, by simp [intOf]; omega⟩
      · have HF : Hid (a.any nz = true) := by
          show _ = _
          rw [List.any_eq_true]
          exact ⟨x, List.mem_of_getElem? hx, nz_not hxy⟩
        rw [nz_not hxy] at cz
        clear hx hc
        go_wp2_with (go_at_call 80; refine Calls_on (cz _) ?_)
        go_ret
        exact ⟨⟨_, rfl, by rw [HF.out]; simp⟩, rfl⟩
    · obtain rfl : i = m := by omega
      have HF : Hid (a.any nz = false) := by
        show _ = _
        rw [List.any_eq_false]
        intro x hx
        obtain ⟨j, hj⟩ := List.getElem?_of_mem hx
        have := HI.out j (by have := (List.getElem?_eq_some_iff.1 hj).1; rw [HM.out] at this; exact this)
        rw [this] at hj
        cases hj
        simp [nz]
      go_wp2
      go_ret
      exact ⟨⟨_, rfl, HF.out.symm⟩, rfl⟩

set_option maxRecDepth 8000 in
set_option maxHeartbeats 1000000 in
theorem scontains_any (p : Option Addr) (a : List Int) (cp : Nat) (w : World) (ha : a.length ≤ 1000000) (hp : Lies w p (a.map iv)) :
    Calls Try.prog 79 #[.slice p a.length cp, .func (.func 80) #[] #[]] w fun e w' => e = .returned (.bool (a.any nz)) ∧ w' = w := by
  have c := sindex_any p a cp w ha hp
  generalize a.length = m at *
  generalize a.any nz = b at *
  clear hp ha
  go_enter Try.func79, Try.ntmps79
  go_wp2_with fail
  refine c.mono ?_
  rintro e w' ⟨⟨z, rfl, hz⟩, rfl⟩
  clear c
  by_cases h : 0 ≤ z
  · have HB : Hid (b = true) := by show _ = _; rw [← hz]; simp [h]
    clear hz
    go_wp2
    go_ret
    rw [HB.out]
    exact ⟨by first | rfl | (simp; omega), rfl⟩
  · have HB : Hid (b = false) := by show _ = _; rw [← hz]; simp [h]
    clear hz
    go_wp2
    go_ret
    rw [HB.out]
    exact ⟨by first | rfl | (simp; omega), rfl⟩

theorem lies_drop {w : World} {g o : Nat} {xs : List Value} (h : Lies w (some ⟨g, o, none⟩) xs) (k : Nat) : Lies w (some ⟨g, o + k, none⟩) (xs.drop k) := by
  intro hl
  rw [List.length_drop] at hl
  obtain ⟨b, o', e, hc⟩ := h (by omega)
  cases e
  refine ⟨g, o + k, rfl, fun j x hj => ?_⟩
  rw [List.getElem?_drop] at hj
  rw [Nat.add_assoc]
  exact hc (k + j) x hj

set_option maxRecDepth 8000 in
set_option maxHeartbeats 1000000 in
theorem vector_may (q : Option Addr) (ns : List Int) (d : Nat) (w : World) (hl : ns.length ≤ 1000000) (hd : ns.length ≤ d) (hq : Lies w q (ns.map iv)) :
    Calls Try.prog 63 #[.slice q ns.length d] w fun e w' => e = .returned (.bool (mayB ns)) ∧ Below w.heap.size w w' := by
  have cN := Vc.norm_any q ns d w hq
  rw [norm_vc] at cN
  have hs := norm_short ns
  have hp := isvec_pure ns
  have HLT : Hid ((ns.take (normOf ns).length).length = (normOf ns).length) := by show _ = _; rw [List.length_take]; omega
  have HLD : Hid ((ns.drop (normOf ns).length).length = ns.length - (normOf ns).length) := by show _ = _; rw [List.length_drop]
  obtain ⟨xs, hxs⟩ : ∃ xs, normOf ns = xs := ⟨_, rfl⟩
  rw [hxs] at cN hs hp HLT HLD
  have HP : Hid (_ = mayB ns) := hp
  have HQ : Hid (Lies w q (ns.map iv)) := hq
  have HXL : Hid (xs.length ≤ 64) := by show _ ≤ _; rw [← hxs]; exact normOf_le ns
  clear hp hq hxs
  go_enter Try.func63, Try.ntmps63
  go_wp2_with fail
  refine cN.mono ?_
  rintro e w1 ⟨p1, c1, rfl, hl1, hb1⟩
  have HB1 : Hid (Below w.heap.size w w1) := hb1
  have HQ1 : Hid (Lies w1 q (ns.map iv)) := below_lies hb1 HQ.out
  have HT : Hid (Lies w1 q ((ns.take xs.length).map iv)) := by
    have := lies_take HQ1.out xs.length
    rwa [← List.map_take] at this
  have cE := sequal_any q p1 (ns.take xs.length) xs d c1 w1 (by rw [HLT.out]; omega) HT.out hl1
  rw [HLT.out] at cE
  have hxd : xs.length ≤ d := by omega
  clear cN hb1 hl1
  by_cases hE : ns.take xs.length = xs
  · rw [decide_eq_true hE] at cE
    have HM : Hid (mayB ns = !(ns.drop xs.length).any nz) := by
      show _ = _
      rw [← HP.out, decide_eq_true hE, Bool.true_and]
    by_cases hn : ns = []
    · subst hn
      obtain rfl : xs = [] := by rw [← hE]; simp
      have HMM : Hid (mayB [] = true) := by rw [HM.out]; rfl
      have HZ : Hid (∀ W q' c', Calls Try.prog 79 #[.slice q' 0 c', .func (.func 80) #[] #[]] W fun e w' => e = .returned (.bool false) ∧ w' = W) := fun W q' c' => scontains_any q' [] c' W (by decide) (lies_nil _ _)
      clear hE hs hd
      rcases q with _ | ⟨g, o, pa⟩
      · go_wp2_with (first | (go_at_call 78; refine Calls_new cE ?_; clear cE; intro w2 HB2) | (go_at_call 79; refine Calls_on (HZ.out _ _ _) ?_))
        go_ret
        rw [HMM.out]
        exact ⟨rfl, HB1.out.trans (HB2.out.mono HB1.out.size)⟩
      · go_wp2_with (first | (go_at_call 78; refine Calls_new cE ?_; clear cE; intro w2 HB2) | (go_at_call 79; refine Calls_on (HZ.out _ _ _) ?_))
        go_ret
        rw [HMM.out]
        exact ⟨rfl, HB1.out.trans (HB2.out.mono HB1.out.size)⟩
    · obtain ⟨g, o, rfl, _⟩ := HQ1.out (by rw [List.length_map]; exact List.length_pos_iff.2 hn)
      by_cases hcd : xs.length = d
      · have hnd : ns.length = xs.length := by omega
        have HDR : Hid (ns.drop xs.length = []) := by show _ = _; exact List.drop_eq_nil_of_le (by omega)
        have HMM : Hid (mayB ns = true) := by rw [HM.out, HDR.out]; rfl
        have HZ : Hid (∀ W q' c', Calls Try.prog 79 #[.slice q' 0 c', .func (.func 80) #[] #[]] W fun e w' => e = .returned (.bool false) ∧ w' = W) := fun W q' c' => scontains_any q' [] c' W (by decide) (lies_nil _ _)
        subst hcd
        rw [hnd]
        clear hE hn hs hd hxd
        go_wp2_with (first | (go_at_call 78; refine Calls_new cE ?_; clear cE; intro w2 HB2) | (go_at_call 79; refine Calls_on (HZ.out _ _ _) ?_))
        go_ret
        rw [HMM.out]
        exact ⟨rfl, HB1.out.trans (HB2.out.mono HB1.out.size)⟩
      · have HD : Hid (Lies w1 (some ⟨g, o + xs.length, none⟩) ((ns.drop xs.length).map iv)) := by
          have := lies_drop HQ1.out xs.length
          rwa [← List.map_drop] at this
        have HZ : Hid (∀ W, Below w1.heap.size w1 W → Calls Try.prog 79 #[.slice (some ⟨g, o + xs.length, none⟩) (ns.length - xs.length) (d - xs.length), .func (.func 80) #[] #[]] W fun e w' => e = .returned (.bool ((ns.drop xs.length).any nz)) ∧ w' = W) := fun W hW => by
          have := scontains_any (some ⟨g, o + xs.length, none⟩) (ns.drop xs.length) (d - xs.length) W (by rw [HLD.out]; omega) (below_lies hW HD.out)
          rwa [HLD.out] at this
        obtain ⟨r, hr⟩ : ∃ r, (ns.drop xs.length).any nz = r := ⟨_, rfl⟩
        rw [hr] at HM HZ
        have hcd' : ¬ d = xs.length := fun e => hcd e.symm
        clear hE hn hr
        go_wp2_with (first | (go_at_call 78; refine Calls_new cE ?_; clear cE; intro w2 HB2) | (go_at_call 79; refine Calls_on (HZ.out _ HB2.out) ?_))
        go_ret
        rw [HM.out]
        exact ⟨rfl, HB1.out.trans (HB2.out.mono HB1.out.size)⟩
  · rw [decide_eq_false hE] at cE
    have HM : Hid (mayB ns = false) := by
      show _ = _
      rw [← HP.out, decide_eq_false hE, Bool.false_and]
    clear hE
    go_wp2_with (go_at_call 78; refine Calls_new cE ?_; clear cE; intro w2 HB2)
    go_ret
    rw [HM.out]
    exact ⟨rfl, HB1.out.trans (HB2.out.mono HB1.out.size)⟩

end Go.Proofs.Yteimjkicinjcgaa.Cd
