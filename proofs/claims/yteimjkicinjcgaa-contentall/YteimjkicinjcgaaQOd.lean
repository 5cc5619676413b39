/-
  Heads.
-/
import Derived.Test.YteimjkicinjcgaaQLk
import Derived.Test.YteimjkicinjcgaaKOc

/-
  Which vectors may be: ops.isVector, through slices.Equal and slices.ContainsFunc.
-/
namespace Go.Proofs.Yteimjkicinjcgaa.Cd
open Go.RowKit

attribute [local go_sem] Oper.semAt_some

def nz (x : Int) : Bool := decide (x ≠ 0)
theorem nz_zero : nz 0 = false := rfl
theorem nz_not {x : Int} (h : ¬ x = 0) : nz x = true := decide_eq_true h

theorem atOf_vc (ns : List Int) (k : Nat) : Vc.atOf ns k = atOf ns k := by
  unfold Vc.atOf atOf
  cases ns[k]? <;> rfl
theorem tl_vc (ns : List Int) : ∀ k, Vc.tl ns k = tl ns k
  | 0 => rfl
  | k + 1 => by rw [Vc.tl, tl, tl_vc ns k]
theorem all_vc (ns : List Int) : Vc.nums (Vc.atOf ns) = allOf ns 64 := by
  unfold Vc.nums Vc.numsTo allOf
  exact List.map_congr_left (fun k _ => atOf_vc ns k)
theorem norm_vc (ns : List Int) : Vc.vec (Vc.atOf ns) = normOf ns := by
  unfold Vc.vec normOf
  rw [all_vc, tl_vc]
theorem norm_length (ns : List Int) : (normOf ns).length = tl (allOf ns 64) 64 := by
  have := tl_le (allOf ns 64) 64
  unfold normOf
  rw [List.length_take, allOf_length]
  omega
theorem norm_at (ns : List Int) : (normOf ns).length = 0 ∨ ∃ x, (normOf ns)[(normOf ns).length - 1]? = some x ∧ x ≠ 0 ∧ ns[(normOf ns).length - 1]? = some x := by
  have hl := norm_length ns
  have hle := tl_le (allOf ns 64) 64
  rcases Nat.eq_zero_or_pos (tl (allOf ns 64) 64) with h | h
  · left; omega
  · right
    have h1 := (tl_last (allOf ns 64) 64).resolve_left (by omega)
    have h2 := allOf_get ns 64 (tl (allOf ns 64) 64 - 1) (by omega)
    rw [h2] at h1
    have h3 : atOf ns (tl (allOf ns 64) 64 - 1) ≠ 0 := fun e => h1 (by rw [e])
    refine ⟨atOf ns (tl (allOf ns 64) 64 - 1), ?_, h3, ?_⟩
    · rw [hl]
      unfold normOf
      rw [List.getElem?_take, if_pos (by omega)]
      exact h2
    · rw [hl]
      unfold atOf at h3 ⊢
      cases hx : ns[tl (allOf ns 64) 64 - 1]? with
      | none => rw [hx] at h3; exact absurd rfl h3
      | some x =>
        rw [hx] at h3
        simp only at h3 ⊢
        by_cases ho : okN x = true
        · rw [if_pos ho]
        · rw [if_neg ho] at h3; exact absurd rfl h3
theorem norm_short (ns : List Int) : (normOf ns).length ≤ ns.length := by
  rcases norm_at ns with h | ⟨x, _, _, h⟩
  · omega
  · have := (List.getElem?_eq_some_iff.1 h).1
    omega
theorem isvec_pure (ns : List Int) : (decide (ns.take (normOf ns).length = normOf ns) && !(ns.drop (normOf ns).length).any nz) = mayB ns := by
  rw [Bool.eq_iff_iff]
  constructor
  · intro h
    rw [Bool.and_eq_true, decide_eq_true_eq, Bool.not_eq_true', List.any_eq_false] at h
    obtain ⟨h1, h2⟩ := h
    have ht : tl ns ns.length = (normOf ns).length := by
      refine tl_stop ns _ ?_ _ (norm_short ns) ?_
      · rcases norm_at ns with h | ⟨x, _, hx, h⟩
        · exact .inl h
        · exact .inr ⟨x, h, hx⟩
      · intro j hj hl
        have := h2 ns[j] (by
          rw [List.mem_iff_getElem?]
          exact ⟨j - (normOf ns).length, by rw [List.getElem?_drop, show (normOf ns).length + (j - (normOf ns).length) = j by omega]; exact List.getElem?_eq_getElem hl⟩)
        rw [List.getElem?_eq_getElem hl]
        have : ns[j] = 0 := by unfold nz at this; simpa using this
        rw [this]
    unfold mayB
    rw [ht, h1, Bool.and_eq_true, decide_eq_true_eq, List.all_eq_true]
    exact ⟨normOf_le ns, normOf_ok ns⟩
  · intro h
    have h1 := norm_take ns h
    have hlen : (normOf ns).length = tl ns ns.length := by
      rw [h1, List.length_take]
      have := tl_le ns ns.length
      omega
    rw [Bool.and_eq_true, decide_eq_true_eq, Bool.not_eq_true', List.any_eq_false]
    refine ⟨by rw [hlen]; exact h1.symm, ?_⟩
    intro x hx
    rw [List.mem_iff_getElem?] at hx
    obtain ⟨j, hj⟩ := hx
    rw [List.getElem?_drop] at hj
    have hl := (List.getElem?_eq_some_iff.1 hj).1
    have := tl_zero ns ns.length ((normOf ns).length + j) (by omega) hl
    rw [this] at hj
    cases hj
    simp [nz]

theorem below_drewN {B : Nat} {a w : World} (h : Below B a w) (q : Nat) : Below B a (w.drewN q) := ⟨h.os, h.tape, h.output, h.size, h.block⟩

set_option maxRecDepth 8000 in
set_option maxHeartbeats 1000000 in
theorem sequal_any (p q : Option Addr) (a b : List Int) (cp cq : Nat) (w : World) (ha : a.length ≤ 1000000) (hp : Lies w p (a.map iv)) (hq : Lies w q (b.map iv)) :
    Calls Try.prog 78 #[.slice p a.length cp, .slice q b.length cq] w fun e w' => e = .returned (.bool (decide (a = b))) ∧ Below w.heap.size w w' := by
  by_cases hl : a.length = b.length
  · have hlI : (a.length : Int) = b.length := by omega
    have HL : Hid (a.length = b.length) := hl
    have HP : Hid (Lies w p (a.map iv)) := hp
    have HQ : Hid (Lies w q (b.map iv)) := hq
    rw [← hl]
    clear hl hlI hp hq
    obtain ⟨m, hm⟩ : ∃ m, a.length = m := ⟨_, rfl⟩
    rw [hm]
    have hm6 : m ≤ 1000000 := by omega
    have HM : Hid (a.length = m) := hm
    clear hm ha
    go_enter Try.func78, Try.ntmps78
    go_wp2_with fail
    go_loopw [13] (fun ii wr => ∃ i : Nat, ii = .int .i64 i ∧ i ≤ m ∧ Hid (Below w.heap.size w wr) ∧ Hid (∀ j, j < i → a[j]? = b[j]?)) (fun ii _ => m - (intOf ii).toNat)
    case atStart => exact ⟨0, rfl, Nat.zero_le _, Below.refl _ _, fun j hj => by omega⟩
    case round =>
      obtain ⟨i, rfl, hi, HB, HI⟩ := hrel
      by_cases hlt : i < m
      · have hltI : (i : Int) < m := by omega
        obtain ⟨x, hx⟩ : ∃ x, a[i]? = some x := ⟨_, List.getElem?_eq_getElem (by rw [HM.out]; exact hlt)⟩
        obtain ⟨y, hy⟩ : ∃ y, b[i]? = some y := ⟨_, List.getElem?_eq_getElem (by rw [← HL.out, HM.out]; exact hlt)⟩
        obtain ⟨g, o, rfl, hc⟩ := HP.out (by simp; rw [HM.out]; omega)
        obtain ⟨g', o', rfl, hc'⟩ := HQ.out (by simp; rw [← HL.out, HM.out]; omega)
        have c1 := (HB.out.cell (p := ⟨g, o + i, none⟩) (cell_lt (hc i (iv x) (by simp [hx])))).trans (hc i (iv x) (by simp [hx]))
        have c2 := (HB.out.cell (p := ⟨g', o' + i, none⟩) (cell_lt (hc' i (iv y) (by simp [hy])))).trans (hc' i (iv y) (by simp [hy]))
        unfold iv at c1 c2
        by_cases hxy : x = y
        · have HN : Hid (∀ j, j < i + 1 → a[j]? = b[j]?) := fun j hj => by
            by_cases e : j = i
            · rw [e, hx, hy, hxy]
            · exact HI.out j (by omega)
          subst hxy
          clear hx hy hc hc'
          go_wp2_with fail
          go_quiet (fail)
          go_wp2
          exact ⟨⟨i + 1, by simp, by omega, below_drewN HB.out nq, HN⟩, by simp [intOf]; omega⟩
        · have HF : Hid (decide (a = b) = false) := by
            show _ = _
            refine decide_eq_false (fun e => hxy ?_)
            rw [e, hy] at hx
            cases hx; rfl
          clear hx hy hc hc'
          go_wp2_with fail
          go_quiet (fail)
          go_wp2
          go_ret
          rw [HF.out]
          exact ⟨rfl, below_drewN HB.out nq⟩
      · obtain rfl : i = m := by omega
        have HF : Hid (decide (a = b) = true) := by
          show _ = _
          refine decide_eq_true (List.ext_getElem? (fun j => ?_))
          by_cases hj : j < i
          · exact HI.out j hj
          · rw [List.getElem?_eq_none (by rw [HM.out]; omega), List.getElem?_eq_none (by rw [← HL.out, HM.out]; omega)]
        go_wp2
        go_ret
        rw [HF.out]
        exact ⟨rfl, HB.out⟩
  · have hlI : ¬ (a.length : Int) = b.length := by omega
    have HF : Hid (decide (a = b) = false) := by
      show _ = _
      exact decide_eq_false (fun e => hl (by rw [e]))
    clear hp hq hl
    generalize a.length = m at *
    generalize b.length = k at *
    go_enter Try.func78, Try.ntmps78
    go_wp2
    go_ret
    rw [HF.out]
    exact ⟨rfl, Below.refl _ _⟩

theorem notZero_any (x : Int) (w : World) : Calls Try.prog 80 #[.int .i64 x] w fun e w' => e = .returned (.bool (nz x)) ∧ w' = w := by
  by_cases h : x = 0
  · subst h
    go_enter Try.func80, Try.ntmps80
    go_wp2
    go_ret
    exact ⟨rfl, rfl⟩
  · go_enter Try.func80, Try.ntmps80
    go_wp2
    go_ret
    exact ⟨by rw [nz_not h]; simp [h], rfl⟩

set_option maxRecDepth 8000 in
set_option maxHeartbeats 1000000 in
theorem sindex_any (p : Option Addr) (a : List Int) (cp : Nat) (w : World) (ha : a.length ≤ 1000000) (hp : Lies w p (a.map iv)) :
    Calls Try.prog 88 #[.slice p a.length cp, .func (.func 80) #[] #[]] w fun e w' => (∃ z : Int, e = .returned (.int .i64 z) ∧ (decide (0 ≤ z)) = a.any nz) ∧ w' = w := by
  have HP : Hid (Lies w p (a.map iv)) := hp
  obtain ⟨m, hm⟩ : ∃ m, a.length = m := ⟨_, rfl⟩
  rw [hm]
  have hm6 : m ≤ 1000000 := by omega
  have HM : Hid (a.length = m) := hm
  have hen := fun args W => enters Try.func80 (by kernel_rfl) rfl args W
  clear hm ha hp
  go_enter Try.func88, Try.ntmps88
  go_wp2_with fail
  go_loop [8] (fun ii => ∃ i : Nat, ii = .int .i64 i ∧ i ≤ m ∧ Hid (∀ j, j < i → a[j]? = some 0)) (fun ii => m - (intOf ii).toNat)
  case atStart => exact ⟨0, rfl, Nat.zero_le _, fun j hj => by omega⟩
  case round =>
    obtain ⟨i, rfl, hi, HI⟩ := hrel
    by_cases hlt : i < m
    · have hltI : (i : Int) < m := by omega
      obtain ⟨x, hx⟩ : ∃ x, a[i]? = some x := ⟨_, List.getElem?_eq_getElem (by rw [HM.out]; exact hlt)⟩
      obtain ⟨g, o, rfl, hc⟩ := HP.out (by simp; rw [HM.out]; omega)
      have c1 := hc i (iv x) (by simp [hx])
      unfold iv at c1
      have cz := notZero_any x
      by_cases hxy : x = 0
      · have HN : Hid (∀ j, j < i + 1 → a[j]? = some 0) := fun j hj => by
          by_cases e : j = i
          · rw [e, hx, hxy]
          · exact HI.out j (by omega)
        subst hxy
        rw [nz_zero] at cz
        clear hx hc
        go_wp2_with (go_at_call 80; refine Calls_on (cz _) ?_)
        exact ⟨⟨i + 1, by simp, by omega, HN⟩, by simp [intOf]; omega⟩
      · have HF : Hid (a.any nz = true) := by
          show _ = _
          rw [List.any_eq_true]
          exact ⟨x, List.mem_of_getElem? hx, nz_not hxy⟩
        rw [nz_not hxy] at cz
        clear hx hc
        go_wp2_with (go_at_call 80; refine Calls_on (cz _) ?_)
        go_ret
        exact ⟨⟨_, rfl, by rw [HF.out]; simp⟩, rfl⟩
    · obtain rfl : i = m := by omega
      have HF : Hid (a.any nz = false) := by
        show _ = _
        rw [List.any_eq_false]
        intro x hx
        obtain ⟨j, hj⟩ := List.getElem?_of_mem hx
        have := HI.out j (by have := (List.getElem?_eq_some_iff.1 hj).1; rw [HM.out] at this; exact this)
        rw [this] at hj
        cases hj
        simp [nz]
      go_wp2
      go_ret
      exact ⟨⟨_, rfl, HF.out.symm⟩, rfl⟩

set_option maxRecDepth 8000 in
set_option maxHeartbeats 1000000 in
theorem scontains_any (p : Option Addr) (a : List Int) (cp : Nat) (w : World) (ha : a.length ≤ 1000000) (hp : Lies w p (a.map iv)) :
    Calls Try.prog 79 #[.slice p a.length cp, .func (.func 80) #[] #[]] w fun e w' => e = .returned (.bool (a.any nz)) ∧ w' = w := by
  have c := sindex_any p a cp w ha hp
  generalize a.length = m at *
  generalize a.any nz = b at *
  clear hp ha
  go_enter Try.func79, Try.ntmps79
  go_wp2_with fail
  refine c.mono ?_
  rintro e w' ⟨⟨z, rfl, hz⟩, rfl⟩
  clear c
  by_cases h : 0 ≤ z
  · have HB : Hid (b = true) := by show _ = _; rw [← hz]; simp [h]
    clear hz
    go_wp2
    go_ret
    rw [HB.out]
    exact ⟨by first | rfl | (simp; omega), rfl⟩
  · have HB : Hid (b = false) := by show _ = _; rw [← hz]; simp [h]
    clear hz
    go_wp2
    go_ret
    rw [HB.out]
    exact ⟨by first | rfl | (simp; omega), rfl⟩

theorem lies_drop {w : World} {g o : Nat} {xs : List Value} (h : Lies w (some ⟨g, o, none⟩) xs) (k : Nat) : Lies w (some ⟨g, o + k, none⟩) (xs.drop k) := by
  intro hl
  rw [List.length_drop] at hl
  obtain ⟨b, o', e, hc⟩ := h (by omega)
  cases e
  refine ⟨g, o + k, rfl, fun j x hj => ?_⟩
  rw [List.getElem?_drop] at hj
  rw [Nat.add_assoc]
  exact hc (k + j) x hj

set_option maxRecDepth 8000 in
set_option maxHeartbeats 1000000 in
theorem vector_may (q : Option Addr) (ns : List Int) (d : Nat) (w : World) (hl : ns.length ≤ 1000000) (hd : ns.length ≤ d) (hq : Lies w q (ns.map iv)) :
    Calls Try.prog 63 #[.slice q ns.length d] w fun e w' => e = .returned (.bool (mayB ns)) ∧ Below w.heap.size w w' := by
  have cN := Vc.norm_any q ns d w hq
  rw [norm_vc] at cN
  have hs := norm_short ns
  have hp := isvec_pure ns
  have HLT : Hid ((ns.take (normOf ns).length).length = (normOf ns).length) := by show _ = _; rw [List.length_take]; omega
  have HLD : Hid ((ns.drop (normOf ns).length).length = ns.length - (normOf ns).length) := by show _ = _; rw [List.length_drop]
  obtain ⟨xs, hxs⟩ : ∃ xs, normOf ns = xs := ⟨_, rfl⟩
  rw [hxs] at cN hs hp HLT HLD
  have HP : Hid (_ = mayB ns) := hp
  have HQ : Hid (Lies w q (ns.map iv)) := hq
  have HXL : Hid (xs.length ≤ 64) := by show _ ≤ _; rw [← hxs]; exact normOf_le ns
  clear hp hq hxs
  go_enter Try.func63, Try.ntmps63
  go_wp2_with fail
  refine cN.mono ?_
  rintro e w1 ⟨p1, c1, rfl, hl1, hb1⟩
  have HB1 : Hid (Below w.heap.size w w1) := hb1
  have HQ1 : Hid (Lies w1 q (ns.map iv)) := below_lies hb1 HQ.out
  have HT : Hid (Lies w1 q ((ns.take xs.length).map iv)) := by
    have := lies_take HQ1.out xs.length
    rwa [← List.map_take] at this
  have cE := sequal_any q p1 (ns.take xs.length) xs d c1 w1 (by rw [HLT.out]; omega) HT.out hl1
  rw [HLT.out] at cE
  have hxd : xs.length ≤ d := by omega
  clear cN hb1 hl1
  by_cases hE : ns.take xs.length = xs
  · rw [decide_eq_true hE] at cE
    have HM : Hid (mayB ns = !(ns.drop xs.length).any nz) := by
      show _ = _
      rw [← HP.out, decide_eq_true hE, Bool.true_and]
    by_cases hn : ns = []
    · subst hn
      obtain rfl : xs = [] := by rw [← hE]; simp
      have HMM : Hid (mayB [] = true) := by rw [HM.out]; rfl
      have HZ : Hid (∀ W q' c', Calls Try.prog 79 #[.slice q' 0 c', .func (.func 80) #[] #[]] W fun e w' => e = .returned (.bool false) ∧ w' = W) := fun W q' c' => scontains_any q' [] c' W (by decide) (lies_nil _ _)
      clear hE hs hd
      rcases q with _ | ⟨g, o, pa⟩
      · go_wp2_with (first | (go_at_call 78; refine Calls_new cE ?_; clear cE; intro w2 HB2) | (go_at_call 79; refine Calls_on (HZ.out _ _ _) ?_))
        go_ret
        rw [HMM.out]
        exact ⟨rfl, HB1.out.trans (HB2.out.mono HB1.out.size)⟩
      · go_wp2_with (first | (go_at_call 78; refine Calls_new cE ?_; clear cE; intro w2 HB2) | (go_at_call 79; refine Calls_on (HZ.out _ _ _) ?_))
        go_ret
        rw [HMM.out]
        exact ⟨rfl, HB1.out.trans (HB2.out.mono HB1.out.size)⟩
    · obtain ⟨g, o, rfl, _⟩ := HQ1.out (by rw [List.length_map]; exact List.length_pos_iff.2 hn)
      by_cases hcd : xs.length = d
      · have hnd : ns.length = xs.length := by omega
        have HDR : Hid (ns.drop xs.length = []) := by show _ = _; exact List.drop_eq_nil_of_le (by omega)
        have HMM : Hid (mayB ns = true) := by rw [HM.out, HDR.out]; rfl
        have HZ : Hid (∀ W q' c', Calls Try.prog 79 #[.slice q' 0 c', .func (.func 80) #[] #[]] W fun e w' => e = .returned (.bool false) ∧ w' = W) := fun W q' c' => scontains_any q' [] c' W (by decide) (lies_nil _ _)
        subst hcd
        rw [hnd]
        clear hE hn hs hd hxd
        go_wp2_with (first | (go_at_call 78; refine Calls_new cE ?_; clear cE; intro w2 HB2) | (go_at_call 79; refine Calls_on (HZ.out _ _ _) ?_))
        go_ret
        rw [HMM.out]
        exact ⟨rfl, HB1.out.trans (HB2.out.mono HB1.out.size)⟩
      · have HD : Hid (Lies w1 (some ⟨g, o + xs.length, none⟩) ((ns.drop xs.length).map iv)) := by
          have := lies_drop HQ1.out xs.length
          rwa [← List.map_drop] at this
        have HZ : Hid (∀ W, Below w1.heap.size w1 W → Calls Try.prog 79 #[.slice (some ⟨g, o + xs.length, none⟩) (ns.length - xs.length) (d - xs.length), .func (.func 80) #[] #[]] W fun e w' => e = .returned (.bool ((ns.drop xs.length).any nz)) ∧ w' = W) := fun W hW => by
          have := scontains_any (some ⟨g, o + xs.length, none⟩) (ns.drop xs.length) (d - xs.length) W (by rw [HLD.out]; omega) (below_lies hW HD.out)
          rwa [HLD.out] at this
        obtain ⟨r, hr⟩ : ∃ r, (ns.drop xs.length).any nz = r := ⟨_, rfl⟩
        rw [hr] at HM HZ
        have hcd' : ¬ d = xs.length := fun e => hcd e.symm
        clear hE hn hr
        go_wp2_with (first | (go_at_call 78; refine Calls_new cE ?_; clear cE; intro w2 HB2) | (go_at_call 79; refine Calls_on (HZ.out _ HB2.out) ?_))
        go_ret
        rw [HM.out]
        exact ⟨rfl, HB1.out.trans (HB2.out.mono HB1.out.size)⟩
  · rw [decide_eq_false hE] at cE
    have HM : Hid (mayB ns = false) := by
      show _ = _
      rw [← HP.out, decide_eq_false hE, Bool.false_and]
    clear hE
    go_wp2_with (go_at_call 78; refine Calls_new cE ?_; clear cE; intro w2 HB2)
    go_ret
    rw [HM.out]
    exact ⟨rfl, HB1.out.trans (HB2.out.mono HB1.out.size)⟩

end Go.Proofs.Yteimjkicinjcgaa.Cd

/-
  Which operations may be: ops.May.
-/
namespace Go.Proofs.Yteimjkicinjcgaa.Cd
open Go.RowKit Go.Maps

attribute [local go_sem] Oper.semAt_some

def rootB (a b : Int) : Bool := decide (a = 0) && decide (b = 0)
def trashB (a b : Int) : Bool := decide (a = 0) && decide (b = 1)
def sameB (a b x y : Int) : Bool := decide (a = x) && decide (b = y)
def countB (n sq : Int) (ns : List Int) : Bool := decide (1 ≤ sq) && decide (sq ≤ 1152921504606846976) && mayB ns && decide (Vc.atZ ns n = sq - 1)
def kindB (t n kd ot on pt pn : Int) (nm : List UInt8) (l : Nat) : Bool :=
  if kd = 1 ∨ kd = 2 then sameB ot on t n && (rootB pt pn || olderB pt pn t n) && placedB nm l
  else if kd = 3 then olderB ot on t n && (rootB pt pn || olderB pt pn t n || trashB pt pn) && placedB nm l
  else if kd = 4 then olderB ot on t n && rootB pt pn && decide (nm = []) && decide (l ≤ 65536)
  else false
def mayO (t n sq kd ot on pt pn : Int) (nm : List UInt8) (l : Nat) (ns : List Int) : Bool := Ck.validB t n && countB n sq ns && kindB t n kd ot on pt pn nm l
theorem quiet_new {f : Nat} {args : Array Value} {w : World} {v : Ending} (h : Calls Try.prog f args w fun e w' => e = v ∧ w' = w) : Calls Try.prog f args w fun e w' => e = v ∧ Below w.heap.size w w' :=
  h.mono (by rintro e w' ⟨rfl, rfl⟩; exact ⟨rfl, Below.refl _ _⟩)

set_option maxRecDepth 8000 in
set_option maxHeartbeats 1000000 in
theorem hold_any (t n sq kd ot on pt pn : Int) (nm : List UInt8) (p q : Option Addr) (l c m d : Nat) (w : World) :
    Calls Try.prog 64 #[.agg #[.int .i64 t, .int .i64 n, .int .i64 sq, .int .i64 kd, .int .i64 ot, .int .i64 on, .int .i64 pt, .int .i64 pn, .string (bas nm), .slice p l c, .slice q m d]] w fun e w' => e = .returned (.bool (rootB pt pn || olderB pt pn t n)) ∧ Below w.heap.size w w' := by
  have H9 : Hid (OpB (w.alloc (.cells #[.int .i64 t, .int .i64 n, .int .i64 sq, .int .i64 kd, .int .i64 ot, .int .i64 on, .int .i64 pt, .int .i64 pn, .string (bas nm), .slice p l c, .slice q m d] 35)) w.heap.size t n sq kd ot on pt pn nm p q l c m d) := OpB.made w t n sq kd ot on pt pn nm p q l c m d
  have B0 : Hid (∀ o, Below w.heap.size w (w.alloc o)) := fun o => (below_new w o).out
  have HE : Hid (∀ W, Calls Try.prog 66 #[idv pt pn, .agg #[.int .i64 t, .int .i64 n, .int .i64 sq, .int .i64 kd, .int .i64 ot, .int .i64 on, .int .i64 pt, .int .i64 pn, .string (bas nm), .slice p l c, .slice q m d]] W fun e w' => e = .returned (.bool (olderB pt pn t n)) ∧ Below W.heap.size W w') := fun W => earlier_any pt pn t n sq kd ot on pt pn nm p q l c m d W
  by_cases hr : pt = 0 ∧ pn = 0
  · have HF : Hid ((rootB pt pn || olderB pt pn t n) = true) := by show _ = _; simp [rootB, hr]
    have HR : Hid (pt = 0 ∧ pn = 0) := hr
    clear hr
    go_enter Try.func64, Try.ntmps64
    go_wp2_with fail
    refine hold_root (by kernel_rfl) w.heap.size t n sq kd ot on pt pn nm p q l c m d _ rfl rfl H9.out (fun W _ => root_any W) HR.out ?_
    intro W hS
    have HS : Hid (Below w.heap.size w W) := (B0.out _).trans (hS.mono (B0.out _).size)
    clear hS
    simp only [putAll, List.setIfInBounds_toArray, List.set_cons_zero, List.set_cons_succ]
    go_wp2
    go_ret
    rw [HF.out]
    exact ⟨rfl, HS.out⟩
  · have HF : Hid ((rootB pt pn || olderB pt pn t n) = olderB pt pn t n) := by
      show _ = _
      have : rootB pt pn = false := by
        unfold rootB
        by_cases h1 : pt = 0
        · have : ¬ pn = 0 := fun h2 => hr ⟨h1, h2⟩
          simp [this]
        · simp [h1]
      rw [this, Bool.false_or]
    have HR : Hid (¬ pt = 0 ∨ ¬ pn = 0) := by
      by_cases h1 : pt = 0
      · exact .inr (fun h2 => hr ⟨h1, h2⟩)
      · exact .inl h1
    clear hr
    obtain ⟨x, hx⟩ : ∃ x, olderB pt pn t n = x := ⟨_, rfl⟩
    rw [hx] at HE HF
    rw [hx]
    clear hx
    go_enter Try.func64, Try.ntmps64
    go_wp2_with fail
    refine hold_not (by kernel_rfl) w.heap.size t n sq kd ot on pt pn nm p q l c m d _ rfl rfl H9.out (fun W _ => root_any W) HR.out x (fun W _ => HE.out W) ?_
    intro W hS
    have HS : Hid (Below w.heap.size w W) := (B0.out _).trans (hS.mono (B0.out _).size)
    clear hS
    simp only [putAll, List.setIfInBounds_toArray, List.set_cons_zero, List.set_cons_succ]
    go_wp2
    go_ret
    rw [HF.out]
    exact ⟨rfl, HS.out⟩

set_option maxRecDepth 8000 in
set_option maxHeartbeats 1000000 in
theorem counted_any (t n sq kd ot on pt pn : Int) (nm : List UInt8) (p q : Option Addr) (l c m d : Nat) (ns : List Int) (w : World) (hm : ns.length = m) (hl : ns.length ≤ 1000000) (hd : ns.length ≤ d) (hq : Lies w q (ns.map iv)) :
    Calls Try.prog 48 #[.agg #[.int .i64 t, .int .i64 n, .int .i64 sq, .int .i64 kd, .int .i64 ot, .int .i64 on, .int .i64 pt, .int .i64 pn, .string (bas nm), .slice p l c, .slice q m d]] w fun e w' => e = .returned (.bool (countB n sq ns)) ∧ Below w.heap.size w w' := by
  have H9 : Hid (OpB (w.alloc (.cells #[.int .i64 t, .int .i64 n, .int .i64 sq, .int .i64 kd, .int .i64 ot, .int .i64 on, .int .i64 pt, .int .i64 pn, .string (bas nm), .slice p l c, .slice q m d] 35)) w.heap.size t n sq kd ot on pt pn nm p q l c m d) := OpB.made w t n sq kd ot on pt pn nm p q l c m d
  have B0 : Hid (∀ o, Below w.heap.size w (w.alloc o)) := fun o => (below_new w o).out
  have HV : Hid (∀ W, Below w.heap.size w W → Calls Try.prog 63 #[.slice q m d] W fun e w' => e = .returned (.bool (mayB ns)) ∧ Below W.heap.size W w') := fun W hW => by
    have := vector_may q ns d W hl hd (below_lies hW hq)
    rwa [hm] at this
  have HA : Hid (∀ W, Below w.heap.size w W → Calls Try.prog 59 #[.slice q m d, .int .i64 n] W fun e w' => e = .returned (.int .i64 (Vc.atZ ns n)) ∧ Below W.heap.size W w') := fun W hW => by
    have := Vc.at_any q ns d n W (below_lies hW hq)
    rw [hm] at this
    exact quiet_new this
  clear hm hl hd hq
  have HG : Hid (∀ o W, Below (w.alloc o).heap.size (w.alloc o) W → Below w.heap.size w W) := fun o W h => (B0.out o).trans (h.mono (B0.out o).size)
  by_cases h1 : 1 ≤ sq
  · by_cases h2 : sq ≤ 1152921504606846976
    · have HF : Hid (countB n sq ns = (mayB ns && decide (Vc.atZ ns n = sq - 1))) := by show _ = _; simp [countB, h1, h2]
      have H1 : Hid (1 ≤ sq) := h1
      have H2 : Hid (sq ≤ 1152921504606846976) := h2
      cases hv : mayB ns with
      | true =>
        rw [hv] at HV HF
        obtain ⟨z, hz⟩ : ∃ z, Vc.atZ ns n = z := ⟨_, rfl⟩
        rw [hz] at HA HF
        clear hv hz h1 h2
        go_enter Try.func48, Try.ntmps48
        go_wp2_with fail
        refine cnt_at (by kernel_rfl) w.heap.size t n sq kd ot on pt pn nm p q l c m d _ rfl rfl H9.out H1.out H2.out z (fun W hW => HV.out W (HG.out _ W hW)) (fun W hW => HA.out W (HG.out _ W hW)) ?_
        intro W hS
        have HS : Hid (Below w.heap.size w W) := HG.out _ W hS
        clear hS
        simp only [putAll, List.setIfInBounds_toArray, List.set_cons_zero, List.set_cons_succ]
        go_wp2
        go_ret
        rw [HF.out]
        refine ⟨?_, HS.out⟩
        rw [Bool.true_and]
        rfl
      | false =>
        rw [hv] at HV HF
        clear hv h1 h2
        go_enter Try.func48, Try.ntmps48
        go_wp2_with fail
        refine cnt_vec (by kernel_rfl) w.heap.size t n sq kd ot on pt pn nm p q l c m d _ rfl rfl H9.out H1.out H2.out (fun W hW => HV.out W (HG.out _ W hW)) ?_
        intro W hS
        have HS : Hid (Below w.heap.size w W) := HG.out _ W hS
        clear hS
        simp only [putAll, List.setIfInBounds_toArray, List.set_cons_zero, List.set_cons_succ]
        go_wp2
        go_ret
        rw [HF.out]
        exact ⟨rfl, HS.out⟩
    · have HF : Hid (countB n sq ns = false) := by show _ = _; simp [countB, h2]
      have H1 : Hid (1 ≤ sq) := h1
      have H2 : Hid (¬ sq ≤ 1152921504606846976) := h2
      clear h1 h2
      go_enter Try.func48, Try.ntmps48
      go_wp2_with fail
      refine cnt_high (by kernel_rfl) w.heap.size t n sq kd ot on pt pn nm p q l c m d _ rfl rfl H9.out (by have := H1.out; omega) (by have := H2.out; omega) ?_
      intro W hS
      have HS : Hid (Below w.heap.size w W) := HG.out _ W hS
      clear hS
      simp only [putAll, List.setIfInBounds_toArray, List.set_cons_zero, List.set_cons_succ]
      go_wp2
      go_ret
      rw [HF.out]
      exact ⟨rfl, HS.out⟩
  · have HF : Hid (countB n sq ns = false) := by show _ = _; simp [countB, h1]
    have H1 : Hid (¬ 1 ≤ sq) := h1
    clear h1
    go_enter Try.func48, Try.ntmps48
    go_wp2_with fail
    refine cnt_low (by kernel_rfl) w.heap.size t n sq kd ot on pt pn nm p q l c m d _ rfl rfl H9.out (by have := H1.out; omega) ?_
    intro W hS
    have HS : Hid (Below w.heap.size w W) := HG.out _ W hS
    clear hS
    simp only [putAll, List.setIfInBounds_toArray, List.set_cons_zero, List.set_cons_succ]
    go_wp2
    go_ret
    rw [HF.out]
    exact ⟨rfl, HS.out⟩

theorem sameB_true {a b x y : Int} : sameB a b x y = true ↔ a = x ∧ b = y := by simp [sameB]
theorem rootB_true {a b : Int} : rootB a b = true ↔ a = 0 ∧ b = 0 := by simp [rootB]
theorem trashB_true {a b : Int} : trashB a b = true ↔ a = 0 ∧ b = 1 := by simp [trashB]
theorem not_two {a b x y : Int} (h : ¬ (a = x ∧ b = y)) : ¬ a = x ∨ ¬ b = y := by
  by_cases h1 : a = x
  · exact .inr (fun h2 => h ⟨h1, h2⟩)
  · exact .inl h1

set_option maxRecDepth 8000 in
set_option maxHeartbeats 4000000 in
theorem kind_any (t n sq kd ot on pt pn : Int) (nm : List UInt8) (p q : Option Addr) (l c m d : Nat) (w : World) (hs : nm.length < 1000000000000000) (hl : l < 9000000000000000000) :
    Calls Try.prog 49 #[.agg #[.int .i64 t, .int .i64 n, .int .i64 sq, .int .i64 kd, .int .i64 ot, .int .i64 on, .int .i64 pt, .int .i64 pn, .string (bas nm), .slice p l c, .slice q m d]] w fun e w' => e = .returned (.bool (kindB t n kd ot on pt pn nm l)) ∧ Below w.heap.size w w' := by
  have H9 : Hid (OpB (w.alloc (.cells #[.int .i64 t, .int .i64 n, .int .i64 sq, .int .i64 kd, .int .i64 ot, .int .i64 on, .int .i64 pt, .int .i64 pn, .string (bas nm), .slice p l c, .slice q m d] 35)) w.heap.size t n sq kd ot on pt pn nm p q l c m d) := OpB.made w t n sq kd ot on pt pn nm p q l c m d
  have B0 : Hid (∀ o, Below w.heap.size w (w.alloc o)) := fun o => (below_new w o).out
  have HG : Hid (∀ o W, Below (w.alloc o).heap.size (w.alloc o) W → Below w.heap.size w W) := fun o W h => (B0.out o).trans (h.mono (B0.out o).size)
  have HE : Hid (∀ W, Calls Try.prog 66 #[idv ot on, .agg #[.int .i64 t, .int .i64 n, .int .i64 sq, .int .i64 kd, .int .i64 ot, .int .i64 on, .int .i64 pt, .int .i64 pn, .string (bas nm), .slice p l c, .slice q m d]] W fun e w' => e = .returned (.bool (olderB ot on t n)) ∧ Below W.heap.size W w') := fun W => earlier_any ot on t n sq kd ot on pt pn nm p q l c m d W
  have HH : Hid (∀ W, Calls Try.prog 64 #[.agg #[.int .i64 t, .int .i64 n, .int .i64 sq, .int .i64 kd, .int .i64 ot, .int .i64 on, .int .i64 pt, .int .i64 pn, .string (bas nm), .slice p l c, .slice q m d]] W fun e w' => e = .returned (.bool (rootB pt pn || olderB pt pn t n)) ∧ Below W.heap.size W w') := fun W => hold_any t n sq kd ot on pt pn nm p q l c m d W
  have HP : Hid (∀ W, Calls Try.prog 65 #[.agg #[.int .i64 t, .int .i64 n, .int .i64 sq, .int .i64 kd, .int .i64 ot, .int .i64 on, .int .i64 pt, .int .i64 pn, .string (bas nm), .slice p l c, .slice q m d]] W fun e w' => e = .returned (.bool (placedB nm l)) ∧ Below W.heap.size W w') := fun W => placed_any t n sq kd ot on pt pn nm p q l c m d W hs
  have HK : Hid (∀ W, OpB W w.heap.size t n sq kd ot on pt pn nm p q l c m d → W.cell? ⟨w.heap.size, 0, none⟩ = some (.int .i64 t) ∧ W.cell? ⟨w.heap.size, 1, none⟩ = some (.int .i64 n) ∧ W.cell? ⟨w.heap.size, 2, none⟩ = some (.int .i64 sq) ∧ W.cell? ⟨w.heap.size, 3, none⟩ = some (.int .i64 kd) ∧ W.cell? ⟨w.heap.size, 4, none⟩ = some (.int .i64 ot) ∧ W.cell? ⟨w.heap.size, 5, none⟩ = some (.int .i64 on) ∧ W.cell? ⟨w.heap.size, 6, none⟩ = some (.int .i64 pt) ∧ W.cell? ⟨w.heap.size, 7, none⟩ = some (.int .i64 pn) ∧ W.cell? ⟨w.heap.size, 8, none⟩ = some (.string (bas nm)) ∧ W.cell? ⟨w.heap.size, 9, none⟩ = some (.slice p l c) ∧ W.cell? ⟨w.heap.size, 10, none⟩ = some (.slice q m d)) := fun W h => h.cells
  by_cases h12 : kd = 1 ∨ kd = 2
  · have HF : Hid (kindB t n kd ot on pt pn nm l = (sameB ot on t n && (rootB pt pn || olderB pt pn t n) && placedB nm l)) := by show _ = _; unfold kindB; rw [if_pos h12]
    rw [HF.out]
    clear HF
    generalize (rootB pt pn || olderB pt pn t n) = x1 at *
    generalize placedB nm l = x2 at *
    by_cases hs1 : ot = t ∧ on = n
    · rw [sameB_true.2 hs1]
      obtain ⟨rfl, rfl⟩ := hs1
      cases x1 with
      | true =>
        rcases h12 with rfl | rfl
        all_goals
          go_enter Try.func49, Try.ntmps49
          go_wp2_with (first | (go_at_call 64; refine Calls_new (HH.out _) ?_; clear HH; intro w2 hb2; have ⟨d0, d1, d2, d3, d4, d5, d6, d7, d8, d9, d10⟩ := HK.out _ (H9.out.below hb2.out)) | (go_at_call 65; refine Calls_new (HP.out _) ?_; clear HP; intro w3 hb3))
          go_ret
          exact ⟨rfl, HG.out _ _ (hb2.out.trans (hb3.out.mono hb2.out.size))⟩
      | false =>
        rcases h12 with rfl | rfl
        all_goals
          go_enter Try.func49, Try.ntmps49
          go_wp2_with (first | (go_at_call 64; refine Calls_new (HH.out _) ?_; clear HH; intro w2 hb2) | (go_at_call 65; refine Calls_new (HP.out _) ?_; clear HP; intro w3 hb3))
          go_ret
          exact ⟨rfl, HG.out _ _ hb2.out⟩
    · have e1 : sameB ot on t n = false := by
        cases h : sameB ot on t n with
        | false => rfl
        | true => exact absurd (sameB_true.1 h) hs1
      rw [e1]
      have hn := not_two hs1
      clear hs1 e1
      rcases h12 with rfl | rfl
      all_goals
        rcases hn with h | h
        all_goals
          go_enter Try.func49, Try.ntmps49
          go_wp2
          go_ret
          exact ⟨rfl, B0.out _⟩
  · have n1 : ¬ kd = 1 := fun h => h12 (.inl h)
    have n2 : ¬ kd = 2 := fun h => h12 (.inr h)
    by_cases h3 : kd = 3
    · have HF : Hid (kindB t n kd ot on pt pn nm l = (olderB ot on t n && (rootB pt pn || olderB pt pn t n || trashB pt pn) && placedB nm l)) := by show _ = _; unfold kindB; rw [if_neg h12, if_pos h3]
      rw [HF.out]
      clear HF h12 n1 n2
      subst h3
      generalize olderB ot on t n = x0 at *
      generalize (rootB pt pn || olderB pt pn t n) = x1 at *
      generalize placedB nm l = x2 at *
      cases x0 with
      | false =>
        go_enter Try.func49, Try.ntmps49
        go_wp2_with fail
        refine kind_no (by kernel_rfl) w.heap.size t n sq 3 ot on pt pn nm p q l c m d _ rfl rfl H9.out (fun W _ => HE.out W) ?_
        intro W hS
        have HS : Hid (Below w.heap.size w W) := HG.out _ W hS
        clear hS
        simp only [putAll, List.setIfInBounds_toArray, List.set_cons_zero, List.set_cons_succ]
        go_wp2
        go_ret
        exact ⟨rfl, HS.out⟩
      | true =>
        cases x1 with
        | true =>
          go_enter Try.func49, Try.ntmps49
          go_wp2_with fail
          refine kind_hold (by kernel_rfl) w.heap.size t n sq 3 ot on pt pn nm p q l c m d _ rfl rfl H9.out x2 (fun W _ => HE.out W) (fun W _ => HH.out W) (fun W _ => HP.out W) ?_
          intro W hS
          have HS : Hid (Below w.heap.size w W) := HG.out _ W hS
          clear hS
          simp only [putAll, List.setIfInBounds_toArray, List.set_cons_zero, List.set_cons_succ]
          go_wp2
          go_ret
          exact ⟨rfl, HS.out⟩
        | false =>
          by_cases hr : pt = 0 ∧ pn = 1
          · rw [trashB_true.2 hr]
            have HR : Hid (pt = 0 ∧ pn = 1) := hr
            clear hr
            go_enter Try.func49, Try.ntmps49
            go_wp2_with fail
            refine kind_trash (by kernel_rfl) w.heap.size t n sq 3 ot on pt pn nm p q l c m d _ rfl rfl H9.out x2 (fun W _ => HE.out W) (fun W _ => HH.out W) (fun W _ => trash_any W) HR.out (fun W _ => HP.out W) ?_
            intro W hS
            have HS : Hid (Below w.heap.size w W) := HG.out _ W hS
            clear hS
            simp only [putAll, List.setIfInBounds_toArray, List.set_cons_zero, List.set_cons_succ]
            go_wp2
            go_ret
            exact ⟨rfl, HS.out⟩
          · have e1 : trashB pt pn = false := by
              cases h : trashB pt pn with
              | false => rfl
              | true => exact absurd (trashB_true.1 h) hr
            rw [e1]
            have HR : Hid (¬ pt = 0 ∨ ¬ pn = 1) := not_two hr
            clear hr e1
            go_enter Try.func49, Try.ntmps49
            go_wp2_with fail
            refine kind_nowhere (by kernel_rfl) w.heap.size t n sq 3 ot on pt pn nm p q l c m d _ rfl rfl H9.out (fun W _ => HE.out W) (fun W _ => HH.out W) (fun W _ => trash_any W) HR.out ?_
            intro W hS
            have HS : Hid (Below w.heap.size w W) := HG.out _ W hS
            clear hS
            simp only [putAll, List.setIfInBounds_toArray, List.set_cons_zero, List.set_cons_succ]
            go_wp2
            go_ret
            exact ⟨rfl, HS.out⟩
    · by_cases h4 : kd = 4
      · have HF : Hid (kindB t n kd ot on pt pn nm l = (olderB ot on t n && rootB pt pn && decide (nm = []) && decide (l ≤ 65536))) := by show _ = _; unfold kindB; rw [if_neg h12, if_neg h3, if_pos h4]
        rw [HF.out]
        clear HF h12 h3 n1 n2
        subst h4
        generalize olderB ot on t n = x0 at *
        cases x0 with
        | false =>
          go_enter Try.func49, Try.ntmps49
          go_wp2_with (go_at_call 66; refine Calls_new (HE.out _) ?_; clear HE; intro w2 hb2)
          go_ret
          exact ⟨rfl, HG.out _ _ hb2.out⟩
        | true =>
          by_cases hr : pt = 0 ∧ pn = 0
          · rw [rootB_true.2 hr]
            obtain ⟨rfl, rfl⟩ := hr
            by_cases hn : nm = []
            · subst hn
              have e0 : bas [] = ⟨#[]⟩ := rfl
              by_cases h6 : l ≤ 65536
              · have h6I : (l : Int) ≤ 65536 := by omega
                rw [decide_eq_true h6]
                go_enter Try.func49, Try.ntmps49
                go_wp2_with (go_at_call 66; refine Calls_new (HE.out _) ?_; clear HE; intro w2 hb2; have ⟨d0, d1, d2, d3, d4, d5, d6, d7, d8, d9, d10⟩ := HK.out _ (H9.out.below hb2.out); clear HK H9)
                go_ret
                exact ⟨rfl, HG.out _ _ hb2.out⟩
              · have h6I : ¬ (l : Int) ≤ 65536 := by omega
                rw [decide_eq_false h6]
                go_enter Try.func49, Try.ntmps49
                go_wp2_with (go_at_call 66; refine Calls_new (HE.out _) ?_; clear HE; intro w2 hb2; have ⟨d0, d1, d2, d3, d4, d5, d6, d7, d8, d9, d10⟩ := HK.out _ (H9.out.below hb2.out); clear HK H9)
                go_ret
                exact ⟨by first | rfl | (simp; omega), HG.out _ _ hb2.out⟩
            · have e1 : (bas nm).toList.isEmpty = false := by rw [bas_toList]; simpa using hn
              rw [decide_eq_false hn]
              clear hn
              go_enter Try.func49, Try.ntmps49
              go_wp2_with (go_at_call 66; refine Calls_new (HE.out _) ?_; clear HE; intro w2 hb2; have ⟨d0, d1, d2, d3, d4, d5, d6, d7, d8, d9, d10⟩ := HK.out _ (H9.out.below hb2.out); clear HK H9)
              go_ret
              exact ⟨rfl, HG.out _ _ hb2.out⟩
          · have e1 : rootB pt pn = false := by
              cases h : rootB pt pn with
              | false => rfl
              | true => exact absurd (rootB_true.1 h) hr
            rw [e1]
            have hn := not_two hr
            clear hr e1
            rcases hn with h | h
            all_goals
              go_enter Try.func49, Try.ntmps49
              go_wp2_with (go_at_call 66; refine Calls_new (HE.out _) ?_; clear HE; intro w2 hb2; have ⟨d0, d1, d2, d3, d4, d5, d6, d7, d8, d9, d10⟩ := HK.out _ (H9.out.below hb2.out); clear HK H9)
              go_ret
              exact ⟨rfl, HG.out _ _ hb2.out⟩
      · have HF : Hid (kindB t n kd ot on pt pn nm l = false) := by show _ = _; unfold kindB; rw [if_neg h12, if_neg h3, if_neg h4]
        rw [HF.out]
        clear HF h12
        go_enter Try.func49, Try.ntmps49
        go_wp2
        go_ret
        exact ⟨rfl, B0.out _⟩

set_option maxRecDepth 8000 in
set_option maxHeartbeats 1000000 in
theorem omay_any (t n sq kd ot on pt pn : Int) (nm : List UInt8) (p q : Option Addr) (l c m d : Nat) (ns : List Int) (w : World) (hs : nm.length < 1000000000000000) (hl : l < 9000000000000000000) (hm : ns.length = m) (hml : ns.length ≤ 1000000) (hd : ns.length ≤ d) (hq : Lies w q (ns.map iv)) :
    Calls Try.prog 27 #[.agg #[.int .i64 t, .int .i64 n, .int .i64 sq, .int .i64 kd, .int .i64 ot, .int .i64 on, .int .i64 pt, .int .i64 pn, .string (bas nm), .slice p l c, .slice q m d]] w fun e w' => e = .returned (.bool (mayO t n sq kd ot on pt pn nm l ns)) ∧ Below w.heap.size w w' := by
  have H9 : Hid (OpB (w.alloc (.cells #[.int .i64 t, .int .i64 n, .int .i64 sq, .int .i64 kd, .int .i64 ot, .int .i64 on, .int .i64 pt, .int .i64 pn, .string (bas nm), .slice p l c, .slice q m d] 35)) w.heap.size t n sq kd ot on pt pn nm p q l c m d) := OpB.made w t n sq kd ot on pt pn nm p q l c m d
  have B0 : Hid (∀ o, Below w.heap.size w (w.alloc o)) := fun o => (below_new w o).out
  have HG : Hid (∀ o W, Below (w.alloc o).heap.size (w.alloc o) W → Below w.heap.size w W) := fun o W h => (B0.out o).trans (h.mono (B0.out o).size)
  have HK : Hid (∀ W, OpB W w.heap.size t n sq kd ot on pt pn nm p q l c m d → W.cell? ⟨w.heap.size, 0, none⟩ = some (.int .i64 t) ∧ W.cell? ⟨w.heap.size, 1, none⟩ = some (.int .i64 n) ∧ W.cell? ⟨w.heap.size, 2, none⟩ = some (.int .i64 sq) ∧ W.cell? ⟨w.heap.size, 3, none⟩ = some (.int .i64 kd) ∧ W.cell? ⟨w.heap.size, 4, none⟩ = some (.int .i64 ot) ∧ W.cell? ⟨w.heap.size, 5, none⟩ = some (.int .i64 on) ∧ W.cell? ⟨w.heap.size, 6, none⟩ = some (.int .i64 pt) ∧ W.cell? ⟨w.heap.size, 7, none⟩ = some (.int .i64 pn) ∧ W.cell? ⟨w.heap.size, 8, none⟩ = some (.string (bas nm)) ∧ W.cell? ⟨w.heap.size, 9, none⟩ = some (.slice p l c) ∧ W.cell? ⟨w.heap.size, 10, none⟩ = some (.slice q m d)) := fun W h => h.cells
  have c1 := fun W => Ck.valid_any t n W
  have HC : Hid (∀ W, Below w.heap.size w W → Calls Try.prog 48 #[.agg #[.int .i64 t, .int .i64 n, .int .i64 sq, .int .i64 kd, .int .i64 ot, .int .i64 on, .int .i64 pt, .int .i64 pn, .string (bas nm), .slice p l c, .slice q m d]] W fun e w' => e = .returned (.bool (countB n sq ns)) ∧ Below W.heap.size W w') := fun W hW => counted_any t n sq kd ot on pt pn nm p q l c m d ns W hm hml hd (below_lies hW hq)
  have HD : Hid (∀ W, Calls Try.prog 49 #[.agg #[.int .i64 t, .int .i64 n, .int .i64 sq, .int .i64 kd, .int .i64 ot, .int .i64 on, .int .i64 pt, .int .i64 pn, .string (bas nm), .slice p l c, .slice q m d]] W fun e w' => e = .returned (.bool (kindB t n kd ot on pt pn nm l)) ∧ Below W.heap.size W w') := fun W => kind_any t n sq kd ot on pt pn nm p q l c m d W hs hl
  unfold mayO
  clear hs hl hm hml hd hq
  generalize Ck.validB t n = x0 at *
  generalize countB n sq ns = x1 at *
  generalize kindB t n kd ot on pt pn nm l = x2 at *
  cases x0 with
  | false =>
    go_enter Try.func27, Try.ntmps27
    go_wp2_with (go_at_call 47; refine Calls_new (c1 _) ?_; clear c1; intro w2 hb2)
    go_ret
    exact ⟨rfl, HG.out _ _ hb2.out⟩
  | true =>
    cases x1 with
    | false =>
      go_enter Try.func27, Try.ntmps27
      go_wp2_with (first | (go_at_call 47; refine Calls_new (c1 _) ?_; clear c1; intro w2 hb2; have ⟨d0, d1, d2, d3, d4, d5, d6, d7, d8, d9, d10⟩ := HK.out _ (H9.out.below hb2.out)) | (go_at_call 48; refine Calls_new (HC.out _ (HG.out _ _ hb2.out)) ?_; clear HC; intro w3 hb3))
      go_ret
      exact ⟨rfl, HG.out _ _ (hb2.out.trans (hb3.out.mono hb2.out.size))⟩
    | true =>
      go_enter Try.func27, Try.ntmps27
      go_wp2_with (first | (go_at_call 47; refine Calls_new (c1 _) ?_; clear c1; intro w2 hb2; have ⟨d0, d1, d2, d3, d4, d5, d6, d7, d8, d9, d10⟩ := HK.out _ (H9.out.below hb2.out)) | (go_at_call 48; refine Calls_new (HC.out _ (HG.out _ _ hb2.out)) ?_; clear HC; intro w3 hb3; have ⟨g0, g1, g2, g3, g4, g5, g6, g7, g8, g9, g10⟩ := HK.out _ ((H9.out.below hb2.out).below hb3.out)) | (go_at_call 49; refine Calls_new (HD.out _) ?_; clear HD; intro w4 hb4))
      go_ret
      exact ⟨rfl, HG.out _ _ ((hb2.out.trans (hb3.out.mono hb2.out.size)).trans (hb4.out.mono (Nat.le_trans hb2.out.size hb3.out.size)))⟩

end Go.Proofs.Yteimjkicinjcgaa.Cd

/-
  Add.
-/
namespace Go.Proofs.Yteimjkicinjcgaa.Ck.Y.L
open Go.RowKit Go.Maps Go.Lib

def mayW (o : OG) (ns : List Int) : Bool := Cd.mayO o.t o.n o.sq o.kd o.ot o.on o.pt o.pn o.nm.data.toList o.dl ns
/-- An operation that comes in, with what it has seen and its bytes. -/
structure WIn (w : World) (o : OG) (ns : List Int) (bs : List (BitVec 8)) : Prop where
  seen : Cd.Lies w o.sp (ns.map Cd.iv)
  sl : ns.length = o.sl
  sc : ns.length ≤ o.sc
  le : ns.length ≤ 1000000
  data : Cd.Bytes w o.dp bs
  dl : bs.length = o.dl
  dc : bs.length ≤ o.dc
  bl : bs.length ≤ 1000000
  nm : o.nm.size ≤ 1000000
theorem WIn.below {w w' : World} {o : OG} {ns : List Int} {bs : List (BitVec 8)} (h : WIn w o ns bs) (hb : Below w.heap.size w w') : WIn w' o ns bs := ⟨Cd.below_lies hb h.seen, h.sl, h.sc, h.le, Cd.below_bytes hb h.data, h.dl, h.dc, h.bl, h.nm⟩
theorem may_call {w : World} {o : OG} {ns : List Int} {bs : List (BitVec 8)} (h : WIn w o ns bs) : Calls Try.prog 27 #[opgv o] w fun e w' => e = .returned (.bool (mayW o ns)) ∧ Below w.heap.size w w' := by
  have := Cd.omay_any o.t o.n o.sq o.kd o.ot o.on o.pt o.pn o.nm.data.toList o.dp o.sp o.dl o.dc o.sl o.sc ns w (by rw [← Lib.size_eq]; have := h.nm; omega) (by have := h.dl; have := h.bl; omega) h.sl h.le h.sc h.seen
  rw [Cd.bas_of] at this
  exact this
def vcOf (o : OG) (ns : List Int) (bs : List (BitVec 8)) : VC := ⟨o.t, o.n, o.sq, ns, bs⟩

theorem add_box {w : World} {o : OG} {ns : List Int} {bs : List (BitVec 8)} (h : WIn w o ns bs) : ∃ A, A = w.alloc (.cells (opgC o) 35) ∧ Below w.heap.size w A ∧ A.heap[w.heap.size]? = some (.cells (opgC o) 35 (0, 0)) ∧ WIn A o ns bs :=
  ⟨_, rfl, (below_new w _).out, heap_alloc_new w _, h.below (below_new w _).out⟩

set_option maxRecDepth 8000 in
set_option maxHeartbeats 1000000 in
/-- What may not be, or is no write. -/
theorem add_bad {w : World} {fb : Nat} {o : OG} {ns : List Int} {bs : List (BitVec 8)} (h : WIn w o ns bs) (hb : o.kd ≠ 4 ∨ mayW o ns = false) :
    Calls Try.prog 10 #[.pointer (some ⟨fb, 0, none⟩), opgv o] w fun e w' => e = .returned (.int .i64 22) ∧ Below w.heap.size w w' := by
  obtain ⟨A, hA, bA, kA, hI⟩ := add_box h
  have c1 := may_call hI
  have HB : Hid (Below w.heap.size w A) := bA
  have HK : Hid (A.heap[w.heap.size]? = some (.cells (opgC o) 35 (0, 0))) := kA
  obtain ⟨a0, a1, a2, a3, a4, a5, a6, a7, a8, a9, a10⟩ := op_cellsG kA
  have HA : Hid (A = w.alloc (.cells (opgC o) 35)) := hA
  rw [hA] at a0 a1 a2 a3 a4 a5 a6 a7 a8 a9 a10
  generalize hmw : mayW o ns = m at *
  clear hmw
  obtain ⟨t, n, sq, kd, ot, on, pt, pn, nm, dp, dl, dc, sp, sl, sc⟩ := o
  simp only [opgv, opgC] at *
  by_cases h4 : kd = 4
  · subst h4
    have hm : m = false := hb.elim (fun e => absurd rfl e) id
    subst hm
    clear hA bA kA hI h hb
    go_enter Try.func10, Try.ntmps10
    go_wp2_with (go_at_call 27; rw [← HA.out]; refine Calls_new c1 ?_; intro w1 HB1)
    go_ret
    exact ⟨rfl, below_thenH HB.out HB1.out⟩
  · have hk : ¬ kd = 4 := h4
    clear hA bA kA hI h hb h4 c1
    go_enter Try.func10, Try.ntmps10
    go_wp2
    go_ret
    refine ⟨rfl, ?_⟩
    have := HB.out
    rw [HA.out] at this
    exact this

theorem FMem.look {w : World} {fb : Nat} {E : List KP} {sn : List Int} {H : List VG} {mv : Value} {sp : Option Addr} {sc : Nat} {hv : Value} (h : FMem w fb E sn H mv sp sc hv) (t n : Int) :
    (Instr.lookup 53 mv (idv t n) true).run Try.prog w = .ok (.tuple #[uv, .bool (decide ((t, n) ∈ E))]) w := by
  rcases h.map with ⟨rfl, rfl⟩ | ⟨mb, rfl, hm⟩
  · exact look_nil t n w
  · by_cases hq : (t, n) ∈ E
    · rw [decide_eq_true hq]; exact look_yes hm hq
    · rw [decide_eq_false hq]; exact look_no hm hq

set_option maxRecDepth 8000 in
set_option maxHeartbeats 2000000 in
/-- A version with its stamp is there. -/
theorem add_old {w : World} {fb : Nat} {E : List KP} {sn : List Int} {H : List VG} {mv : Value} {sp : Option Addr} {sc : Nat} {hv : Value} (hf : FMem w fb E sn H mv sp sc hv) {o : OG} {ns : List Int} {bs : List (BitVec 8)} (h : WIn w o ns bs) (hk : o.kd = 4) (hm : mayW o ns = true) (hq : (o.t, o.n) ∈ E) :
    Calls Try.prog 10 #[.pointer (some ⟨fb, 0, none⟩), opgv o] w fun e w' => e = .returned (.int .i64 17) ∧ Below w.heap.size w w' := by
  obtain ⟨A, hA, bA, kA, hI⟩ := add_box h
  have c1 := may_call hI
  rw [hm] at c1
  have HB : Hid (Below w.heap.size w A) := bA
  have HK : Hid (A.heap[w.heap.size]? = some (.cells (opgC o) 35 (0, 0))) := kA
  have HF : Hid (FMem A fb E sn H mv sp sc hv ∧ (o.t, o.n) ∈ E) := ⟨hf.below bA, hq⟩
  obtain ⟨a0, a1, a2, a3, a4, a5, a6, a7, a8, a9, a10⟩ := op_cellsG kA
  have HA : Hid (A = w.alloc (.cells (opgC o) 35)) := hA
  rw [hA] at a0 a1 a2 a3 a4 a5 a6 a7 a8 a9 a10
  clear hA bA kA hI h hm hf hq
  obtain ⟨t, n, sq, kd, ot, on, pt, pn, nm, dp, dl, dc, sp0, sl, sc0⟩ := o
  simp only [opgv, opgC] at *
  subst hk
  go_enter Try.func10, Try.ntmps10
  go_wp2_with (go_at_call 27; rw [← HA.out]; refine Calls_new c1 ?_; intro w1 HB1; clear c1 a0 a1 a2 a3 a4 a5 a6 a7 a8 a9 a10)
  have k1 := (HB1.out.block _ (block_lt HK.out)).trans HK.out
  have F1 := HF.out.1.below HB1.out
  have b0 : w1.cell? ⟨w.heap.size, 0, none⟩ = some (.int .i64 t) := cellOf k1 0
  have b1 : w1.cell? ⟨w.heap.size, 1, none⟩ = some (.int .i64 n) := cellOf k1 1
  have f0 : w1.cell? ⟨fb, 0, none⟩ = some mv := cellOf F1.blk 0
  have l1 : fb < w1.heap.size := block_lt F1.blk
  have l2 : w.heap.size < w1.heap.size := cell_lt b0
  have k2 := (F1.below (below_drewH w1)).look t n
  have k3 := (F1.below (below_thenH (below_new w1 (.cells #[] 58)).out (below_drewH _))).look t n
  rw [decide_eq_true HF.out.2] at k2 k3
  clear F1 k1
  go_region
  all_goals
    clear k2 k3
    go_wp2_with fail
    go_ret
    exact ⟨rfl, below_thenH (below_thenH HB.out HB1.out) (below_thenH (below_new w1 (.cells #[] 58)).out (below_drewH _))⟩

def FileS (F : Nat → Prop) (w : World) (fb : Nat) (S : List VC) : Prop := ∃ sn H mv sp sc hv, FMem w fb (S.map VC.key) sn H mv sp sc hv ∧ HF S sn (H.map VG.c) ∧ F = Foot fb mv hv ∧ H.length ≤ S.length ∧ S.length ≤ 800
theorem map_filter (sn : List Int) : ∀ H : List VG, (H.filter (keepV sn)).map VG.c = (H.map VG.c).filter (keepC sn)
  | [] => rfl
  | x :: H => by
    have e : keepV sn x = keepC sn x.c := rfl
    cases h : keepV sn x with
    | true => rw [List.filter_cons_of_pos h, List.map_cons, List.map_cons, List.filter_cons_of_pos (by rw [← e]; exact h), map_filter sn H]
    | false => rw [List.filter_cons_of_neg (by simp [h]), List.map_cons, List.filter_cons_of_neg (by rw [← e]; simp [h]), map_filter sn H]
theorem HF.heads {S : List VC} {sn : List Int} {H : List VG} (h : HF S sn (H.map VG.c)) : (∀ x ∈ H, seenB x.sq x.n sn = false) ∧ H.Pairwise ltV :=
  ⟨fun x hx => ((h.mem x.c).1 (List.mem_map_of_mem hx)).2, by have := h.rise; rw [List.pairwise_map] at this; exact this⟩

theorem FMem.notFoot {w : World} {fb : Nat} {E : List KP} {sn : List Int} {H : List VG} {mv : Value} {sp : Option Addr} {sc : Nat} {hv : Value} (h : FMem w fb E sn H mv sp sc hv) {b : Nat} {cs : Array Value} {t : TypeId} (hb : w.heap[b]? = some (.cells cs t (0, 0))) (h1 : t ≠ 55) (h2 : t ≠ 43) : ¬ Foot fb mv hv b := by
  rintro (rfl | rfl | e)
  · rw [h.blk] at hb; cases hb; exact h1 rfl
  · rcases h.map with ⟨e, _⟩ | ⟨mb, e, es, clock, hm, _⟩
    · cases e
    · cases e; rw [hm] at hb; cases hb
  · obtain ⟨cs', hc⟩ := RowV.tagged h.hrow e
    rw [hc] at hb; cases hb; exact h2 rfl
/-- What Add gives. -/
theorem add_end {w w2 w3 w4 w5 w6 : World} {fb : Nat} {S : List VC} {sn : List Int} {H : List VG} {mv : Value} {hv : Value} {c : VC} {mb : Nat} {sp' : Option Addr} {sc' : Nat} {hv' : Value}
    (hS : L.HF S sn (H.map VG.c) ∧ H.length ≤ S.length ∧ S.length < 800) (hc : c.key ∉ S.map VC.key) (b2 : Below w.heap.size w w2) (o3 : Only (Foot fb mv hv) w2 w3) (m3 : mv = .map (some mb) ∨ w.heap.size ≤ mb)
    (o4 : Only (Foot fb (.map (some mb)) hv) w3 w4) (e4 : hv'.ownBlock = hv.ownBlock) (b5 : Below w4.heap.size w4 w5)
    (hfin : (seenB c.sq c.n (seeN sn c.ns) = true ∧ Below w5.heap.size w5 w6 ∧ FMem w6 fb (S.map VC.key ++ [c.key]) (seeN sn c.ns) (H.filter (keepV (seeN sn c.ns))) (.map (some mb)) sp' sc' hv') ∨
      (seenB c.sq c.n (seeN sn c.ns) = false ∧ ∃ x : VG, x.c = c ∧ ∃ i hv6, PlcV (H.filter (keepV (seeN sn c.ns))) x.t x.n i ∧ FMem w6 fb (S.map VC.key ++ [c.key]) (seeN sn c.ns) ((H.filter (keepV (seeN sn c.ns))).take i ++ x :: (H.filter (keepV (seeN sn c.ns))).drop i) (.map (some mb)) sp' sc' hv6 ∧ Only (Foot fb (.map (some mb)) hv') w5 w6 ∧ (hv6.ownBlock = hv'.ownBlock ∨ ∃ g, hv6.ownBlock = some g ∧ w5.heap.size ≤ g))) :
    ∃ F', FileS F' w6 fb (S ++ [c]) ∧ (∀ b, F' b → Foot fb mv hv b ∨ w.heap.size ≤ b) ∧ Only (Foot fb mv hv) w w6 := by
  have s3 := b2.size
  have s4 := Nat.le_trans s3 o3.size
  have s5 := Nat.le_trans s4 o4.size
  have foot : ∀ v : Value, v.ownBlock = hv.ownBlock → ∀ b, Foot fb (.map (some mb)) v b → Foot fb mv hv b ∨ w.heap.size ≤ b := by
    rintro v hv b (rfl | e | e)
    · exact .inl (.inl rfl)
    · cases e
      rcases m3 with m3 | m3
      · exact .inl (.inr (.inl m3))
      · exact .inr m3
    · exact .inl (.inr (.inr (by rw [← hv]; exact e)))
  have o24 : Only (Foot fb mv hv) w w4 := ((Below.only b2 _).next o3).trans o4 fun b hb => foot hv rfl b hb
  have o25 : Only (Foot fb mv hv) w w5 := o24.next (Below.only b5 _)
  have hlen : (S ++ [c]).length ≤ 800 := by rw [List.length_append]; have := hS.2.2; simp; omega
  have hmap : (S ++ [c]).map VC.key = S.map VC.key ++ [c.key] := by simp
  have hfl : (H.filter (keepV (seeN sn c.ns))).length ≤ S.length := Nat.le_trans (List.length_filter_le _ _) hS.2.1
  rcases hfin with ⟨hs, b6, f6⟩ | ⟨hs, x, hx, i, hv6, hp, f6, o6, e6⟩
  · refine ⟨Foot fb (.map (some mb)) hv', ⟨seeN sn c.ns, H.filter (keepV (seeN sn c.ns)), .map (some mb), sp', sc', hv', ?_, ?_, rfl, ?_, hlen⟩, foot hv' e4, o25.next (Below.only b6 _)⟩
    · rw [hmap]; exact f6
    · rw [map_filter]; exact hS.1.add_seen c hs
    · rw [List.length_append]; omega
  · subst hx
    refine ⟨Foot fb (.map (some mb)) hv6, ⟨seeN sn x.c.ns, (H.filter (keepV (seeN sn x.c.ns))).take i ++ x :: (H.filter (keepV (seeN sn x.c.ns))).drop i, .map (some mb), sp', sc', hv6, ?_, ?_, rfl, ?_, hlen⟩, ?_, ?_⟩
    · rw [hmap]; exact f6
    · rw [List.map_append, List.map_take, List.map_cons, List.map_drop, map_filter]
      refine hS.1.add_new x.c hc hs (fun y hy => ?_) (fun y hy => ?_)
      · rw [← map_filter, ← List.map_take, List.mem_map] at hy
        obtain ⟨z, hz, rfl⟩ := hy
        obtain ⟨k, hk, e⟩ := List.getElem_of_mem hz
        rw [List.length_take] at hk
        exact hp.lo k z (by omega) (by rw [List.getElem?_eq_getElem (by omega), ← e, List.getElem_take])
      · rw [← map_filter, ← List.map_drop, List.mem_map] at hy
        obtain ⟨z, hz, rfl⟩ := hy
        obtain ⟨k, hk, e⟩ := List.getElem_of_mem hz
        rw [List.length_drop] at hk
        exact hp.hi (i + k) z (by omega) (by rw [List.getElem?_eq_getElem (by omega), ← e, List.getElem_drop])
    · have := hp.le
      rw [List.length_append, List.length_append, List.length_cons, List.length_take, List.length_drop]
      simp only [List.length_cons, List.length_nil]
      omega
    · rintro b (rfl | e | e)
      · exact .inl (.inl rfl)
      · exact foot hv rfl b (.inr (.inl e))
      · rcases e6 with e6 | ⟨g, e6, hg⟩
        · rw [e6, e4] at e; exact .inl (.inr (.inr e))
        · rw [e6] at e; cases e
          have := b5.size
          exact .inr (by omega)
    · exact o25.trans o6 fun b hb => foot hv' e4 b hb

theorem put_seen' {w : World} {fb : Nat} {E : List KP} {sn : List Int} {H : List VG} {mv : Value} {sp : Option Addr} {sc : Nat} {hv : Value} (h : FMem w fb E sn H mv sp sc hv) (t n sq : Int) (ns : List Int) (p1 p2 : Option Addr) (c1 c2 nl bl : Nat) (bs : List (BitVec 8)) (hn : ns.length = nl ∧ bs.length = bl) (hs : seenB sq n sn = true) :
    Calls Try.prog 30 #[.pointer (some ⟨fb, 0, none⟩), .agg #[.int .i64 t, .int .i64 n, .int .i64 sq, .slice p1 nl c1, .slice p2 bl c2]] w fun e w' => e = .returned (.tuple #[]) ∧ Below w.heap.size w w' := by
  obtain ⟨rfl, rfl⟩ := hn
  exact put_seen h ⟨t, n, sq, ns, p1, c1, bs, p2, c2⟩ hs
theorem put_new' {w : World} {fb : Nat} {E : List KP} {sn : List Int} {H : List VG} {mv : Value} {sp : Option Addr} {sc : Nat} {hv : Value} (h : FMem w fb E sn H mv sp sc hv) (t n sq : Int) (ns : List Int) (p1 p2 : Option Addr) (c1 c2 nl bl : Nat) (bs : List (BitVec 8)) (hn : ns.length = nl ∧ bs.length = bl) (hx : VOwn w 0 ⟨t, n, sq, ns, p1, c1, bs, p2, c2⟩) (hs : seenB sq n sn = false) (hr : H.Pairwise ltV) (hl : H.length < 900) :
    Calls Try.prog 30 #[.pointer (some ⟨fb, 0, none⟩), .agg #[.int .i64 t, .int .i64 n, .int .i64 sq, .slice p1 nl c1, .slice p2 bl c2]] w fun e w' => e = .returned (.tuple #[]) ∧ ∃ i hv', PlcV H t n i ∧ FMem w' fb E sn (H.take i ++ ⟨t, n, sq, ns, p1, c1, bs, p2, c2⟩ :: H.drop i) mv sp sc hv' ∧ Only (Foot fb mv hv) w w' ∧ (hv'.ownBlock = hv.ownBlock ∨ ∃ g, hv'.ownBlock = some g ∧ w.heap.size ≤ g) := by
  obtain ⟨rfl, rfl⟩ := hn
  exact put_new h ⟨t, n, sq, ns, p1, c1, bs, p2, c2⟩ hx hs hr hl
/-- The heads that stay are in order. -/
theorem HF.staying {S : List VC} {sn : List Int} {H : List VG} (h : L.HF S sn (H.map VG.c)) (sn' : List Int) : (H.filter (keepV sn')).Pairwise ltV := h.heads.2.filter _

end Go.Proofs.Yteimjkicinjcgaa.Ck.Y.L

/-
  Add: one more version.
-/
namespace Go.Proofs.Yteimjkicinjcgaa.Ck.Y.L
open Go.RowKit Go.Maps Go.Lib

theorem op_cells11 {w : World} {g : Nat} {T : TypeId} {fr : Nat × Nat} {a0 a1 a2 a3 a4 a5 a6 a7 a8 a9 a10 : Value} (h : w.heap[g]? = some (.cells #[a0, a1, a2, a3, a4, a5, a6, a7, a8, a9, a10] T fr)) :
    w.cell? ⟨g, 0, none⟩ = some a0 ∧ w.cell? ⟨g, 1, none⟩ = some a1 ∧ w.cell? ⟨g, 2, none⟩ = some a2 ∧ w.cell? ⟨g, 3, none⟩ = some a3 ∧ w.cell? ⟨g, 4, none⟩ = some a4 ∧ w.cell? ⟨g, 5, none⟩ = some a5 ∧ w.cell? ⟨g, 6, none⟩ = some a6 ∧ w.cell? ⟨g, 7, none⟩ = some a7 ∧ w.cell? ⟨g, 8, none⟩ = some a8 ∧ w.cell? ⟨g, 9, none⟩ = some a9 ∧ w.cell? ⟨g, 10, none⟩ = some a10 :=
  ⟨cellOf h 0, cellOf h 1, cellOf h 2, cellOf h 3, cellOf h 4, cellOf h 5, cellOf h 6, cellOf h 7, cellOf h 8, cellOf h 9, cellOf h 10⟩
theorem foot_in {w : World} {fb mb : Nat} {mv hv : Value} (m3 : mv = .map (some mb) ∨ w.heap.size ≤ mb) {b : Nat} (hb : Foot fb (.map (some mb)) hv b) : Foot fb mv hv b ∨ w.heap.size ≤ b := by
  rcases hb with rfl | e | e
  · exact .inl (.inl rfl)
  · cases e
    rcases m3 with m3 | m3
    · exact .inl (.inr (.inl m3))
    · exact .inr m3
  · exact .inl (.inr (.inr e))

set_option maxRecDepth 8000 in
set_option maxHeartbeats 4000000 in
/-- One more version. -/
theorem add_new {w : World} {fb : Nat} {S : List VC} {F : Nat → Prop} (hf : FileS F w fb S) {o : OG} {ns : List Int} {bs : List (BitVec 8)} (h : WIn w o ns bs) (hk : o.kd = 4) (hm : mayW o ns = true) (hq : (o.t, o.n) ∉ S.map VC.key) (hl : S.length < 800) (hkp : ∀ W, Only F w W → WIn W o ns bs) :
    Calls Try.prog 10 #[.pointer (some ⟨fb, 0, none⟩), opgv o] w fun e w' => e = .returned (.int .i64 0) ∧ ∃ F', FileS F' w' fb (S ++ [vcOf o ns bs]) ∧ (∀ b, F' b → F b ∨ w.heap.size ≤ b) ∧ Only F w w' := by
  obtain ⟨sn, H, mv, sp, sc, hv, hfm, hhf, rfl, hlen, _⟩ := hf
  obtain ⟨y, hy⟩ : ∃ y, seenB o.sq o.n (seeN sn ns) = y := ⟨_, rfl⟩
  have HSB : Hid (seenB o.sq o.n (seeN sn ns) = y) := hy
  clear hy
  obtain ⟨A, hA, bA, kA, hI⟩ := add_box h
  have c1 := may_call hI
  rw [hm] at c1
  have HB : Hid (Below w.heap.size w A) := bA
  have HK : Hid (A.heap[w.heap.size]? = some (.cells (opgC o) 35 (0, 0))) := kA
  have HW : Hid (WIn A o ns bs) := hI
  have HF : Hid (FMem A fb (S.map VC.key) sn H mv sp sc hv ∧ (o.t, o.n) ∉ S.map VC.key) := ⟨hfm.below bA, hq⟩
  have HH : Hid (L.HF S sn (H.map VG.c) ∧ H.length ≤ S.length ∧ S.length < 800) := ⟨hhf, hlen, hl⟩
  obtain ⟨a0, a1, a2, a3, a4, a5, a6, a7, a8, a9, a10⟩ := op_cellsG kA
  have HA : Hid (A = w.alloc (.cells (opgC o) 35)) := hA
  have HKP : Hid (∀ W, Only (Foot fb mv hv) w W → WIn W o ns bs) := hkp
  have HSL : Hid (ns.length = o.sl ∧ bs.length = o.dl) := ⟨h.sl, h.dl⟩
  have HVC : Hid (vcOf o ns bs = ⟨o.t, o.n, o.sq, ns, bs⟩) := rfl
  rw [hA] at a0 a1 a2 a3 a4 a5 a6 a7 a8 a9 a10
  generalize hc : vcOf o ns bs = c at *
  clear hA bA kA hI h hm hfm hhf hq hlen hl hc hkp
  obtain ⟨t, n, sq, kd, ot, on, pt, pn, nm, dp, dl, dc, sp0, sl, sc0⟩ := o
  simp only [opgv, opgC] at *
  subst hk
  go_enter Try.func10, Try.ntmps10
  go_wp2_with (go_at_call 27; rw [← HA.out]; refine Calls_new c1 ?_; intro w1 HB1; clear c1 a0 a1 a2 a3 a4 a5 a6 a7 a8 a9 a10)
  have k1 := (HB1.out.block _ (block_lt HK.out)).trans HK.out
  have F1 := HF.out.1.below HB1.out
  have b0 : w1.cell? ⟨w.heap.size, 0, none⟩ = some (.int .i64 t) := cellOf k1 0
  have b1 : w1.cell? ⟨w.heap.size, 1, none⟩ = some (.int .i64 n) := cellOf k1 1
  have f0 : w1.cell? ⟨fb, 0, none⟩ = some mv := cellOf F1.blk 0
  have l1 : fb < w1.heap.size := block_lt F1.blk
  have l2 : w.heap.size < w1.heap.size := cell_lt b0
  have k2 := (F1.below (below_drewH w1)).look t n
  have k3 := (F1.below (below_thenH (below_new w1 (.cells #[] 58)).out (below_drewH _))).look t n
  rw [decide_eq_false HF.out.2] at k2 k3
  obtain ⟨w2, hw2⟩ : ∃ w2, w2 = (w1.alloc (.cells #[] 58)).drew := ⟨_, rfl⟩
  have b2 : Below w1.heap.size w1 w2 := by rw [hw2]; exact below_thenH (below_new w1 (.cells #[] 58)).out (below_drewH _)
  have HW2 : Hid (w2 = (w1.alloc (.cells #[] 58)).drew ∧ Below A.heap.size A w2) := ⟨hw2, below_thenH HB1.out b2⟩
  clear F1 k1 hw2 b2
  go_region
  all_goals
    rw [← HW2.out.1]
    clear k2 k3 b0 b1 f0 l1 l2
    have k1 := (HW2.out.2.block _ (block_lt HK.out)).trans HK.out
    have b0 : w2.cell? ⟨w.heap.size, 0, none⟩ = some (.int .i64 t) := cellOf k1 0
    have b1 : w2.cell? ⟨w.heap.size, 1, none⟩ = some (.int .i64 n) := cellOf k1 1
    clear k1
    cases y with
    | true =>
      go_wp2_with (first | (go_at_call 28; refine (mark_any (HF.out.1.below HW2.out.2) HF.out.2).mono ?_; rintro e w3 ⟨rfl, mb, hf3, ho3, hmb⟩; have HM3 : Hid (FMem w3 fb (S.map VC.key ++ [(t, n)]) sn H (.map (some mb)) sp sc hv ∧ Only (Foot fb mv hv) w2 w3 ∧ (mv = .map (some mb) ∨ w.heap.size ≤ mb)) := ⟨hf3, ho3, hmb.imp id fun e => Nat.le_trans (below_thenH HB.out HW2.out.2).size e⟩; have k3 := (ho3.block _ (block_lt ((HW2.out.2.block _ (block_lt HK.out)).trans HK.out)) ((HF.out.1.below HW2.out.2).notFoot ((HW2.out.2.block _ (block_lt HK.out)).trans HK.out) (by decide) (by decide))).trans ((HW2.out.2.block _ (block_lt HK.out)).trans HK.out); have HK3 : Hid (w3.heap[w.heap.size]? = some (.cells #[.int .i64 t, .int .i64 n, .int .i64 sq, .int .i64 4, .int .i64 ot, .int .i64 on, .int .i64 pt, .int .i64 pn, .string nm, .slice dp dl dc, .slice sp0 sl sc0] 35 (0, 0))) := k3; have HO3 : Hid (Only (Foot fb mv hv) w w3) := (Below.only (below_thenH HB.out HW2.out.2) _).next ho3; have j10 : w3.cell? ⟨w.heap.size, 10, none⟩ = some (.slice sp0 sl sc0) := cellOf k3 10; clear k3 hf3 ho3 hmb b0 b1) | (go_at_call 29; refine (see_any HM3.out.1 HH.out.1.heads.1 sp0 ns sl sc0 HSL.out.1 (HKP.out _ HO3.out).seen).mono ?_; rintro e w4 ⟨rfl, sp4, sc4, hv4, hf4, ho4, he4⟩; have HM4 : Hid (FMem w4 fb (S.map VC.key ++ [(t, n)]) (seeN sn ns) (H.filter (keepV (seeN sn ns))) (.map (some mb)) sp4 sc4 hv4 ∧ Only (Foot fb (.map (some mb)) hv) w3 w4 ∧ hv4.ownBlock = hv.ownBlock) := ⟨hf4, ho4, he4⟩; have k4 := (ho4.block _ (block_lt HK3.out) (HM3.out.1.notFoot HK3.out (by decide) (by decide))).trans HK3.out; have HW4 : Hid (WIn w4 _ ns bs) := HKP.out w4 (HO3.out.trans ho4 fun b hb => foot_in HM3.out.2.2 hb); have ⟨d0, d1, d2, d3, d4, d5, d6, d7, d8, d9, d10⟩ := op_cells11 k4; clear k4 hf4 ho4 he4 j10) | (go_at_call 18; refine (of_in t n sq 4 ot on pt pn nm ns sp0 sc0 sl bs dp dc dl w4 HSL.out.1 HSL.out.2 HW4.out.seen HW4.out.le HW4.out.data HW4.out.bl).mono ?_; rintro e w5 ⟨p1, c1, p2, c2, rfl, hx5, hb5⟩; have HX5 : Hid (VOwn w5 0 ⟨t, n, sq, ns, p1, c1, bs, p2, c2⟩ ∧ Below w4.heap.size w4 w5 ∧ FMem w5 fb (S.map VC.key ++ [(t, n)]) (seeN sn ns) (H.filter (keepV (seeN sn ns))) (.map (some mb)) sp4 sc4 hv4) := ⟨hx5.base (Nat.zero_le _), hb5, HM4.out.1.below hb5⟩; clear hx5 hb5 d0 d1 d2 d3 d4 d5 d6 d7 d8 d9 d10) | (go_at_call 30; refine (put_seen' HX5.out.2.2 t n sq ns p1 p2 c1 c2 sl dl bs HSL.out HSB.out).mono ?_; rintro e w6 ⟨rfl, hb6⟩; have HB6 : Hid (Below w5.heap.size w5 w6) := hb6; clear hb6))
      go_ret
      refine ⟨rfl, ?_⟩
      exact add_end HH.out (by rw [HVC.out]; exact HF.out.2) (below_thenH HB.out HW2.out.2) HM3.out.2.1 HM3.out.2.2 HM4.out.2.1 HM4.out.2.2 HX5.out.2.1 (.inl (by rw [HVC.out]; exact ⟨HSB.out, HB6.out, HX5.out.2.2.below HB6.out⟩))
    | false =>
      go_wp2_with (first | (go_at_call 28; refine (mark_any (HF.out.1.below HW2.out.2) HF.out.2).mono ?_; rintro e w3 ⟨rfl, mb, hf3, ho3, hmb⟩; have HM3 : Hid (FMem w3 fb (S.map VC.key ++ [(t, n)]) sn H (.map (some mb)) sp sc hv ∧ Only (Foot fb mv hv) w2 w3 ∧ (mv = .map (some mb) ∨ w.heap.size ≤ mb)) := ⟨hf3, ho3, hmb.imp id fun e => Nat.le_trans (below_thenH HB.out HW2.out.2).size e⟩; have k3 := (ho3.block _ (block_lt ((HW2.out.2.block _ (block_lt HK.out)).trans HK.out)) ((HF.out.1.below HW2.out.2).notFoot ((HW2.out.2.block _ (block_lt HK.out)).trans HK.out) (by decide) (by decide))).trans ((HW2.out.2.block _ (block_lt HK.out)).trans HK.out); have HK3 : Hid (w3.heap[w.heap.size]? = some (.cells #[.int .i64 t, .int .i64 n, .int .i64 sq, .int .i64 4, .int .i64 ot, .int .i64 on, .int .i64 pt, .int .i64 pn, .string nm, .slice dp dl dc, .slice sp0 sl sc0] 35 (0, 0))) := k3; have HO3 : Hid (Only (Foot fb mv hv) w w3) := (Below.only (below_thenH HB.out HW2.out.2) _).next ho3; have j10 : w3.cell? ⟨w.heap.size, 10, none⟩ = some (.slice sp0 sl sc0) := cellOf k3 10; clear k3 hf3 ho3 hmb b0 b1) | (go_at_call 29; refine (see_any HM3.out.1 HH.out.1.heads.1 sp0 ns sl sc0 HSL.out.1 (HKP.out _ HO3.out).seen).mono ?_; rintro e w4 ⟨rfl, sp4, sc4, hv4, hf4, ho4, he4⟩; have HM4 : Hid (FMem w4 fb (S.map VC.key ++ [(t, n)]) (seeN sn ns) (H.filter (keepV (seeN sn ns))) (.map (some mb)) sp4 sc4 hv4 ∧ Only (Foot fb (.map (some mb)) hv) w3 w4 ∧ hv4.ownBlock = hv.ownBlock) := ⟨hf4, ho4, he4⟩; have k4 := (ho4.block _ (block_lt HK3.out) (HM3.out.1.notFoot HK3.out (by decide) (by decide))).trans HK3.out; have HW4 : Hid (WIn w4 _ ns bs) := HKP.out w4 (HO3.out.trans ho4 fun b hb => foot_in HM3.out.2.2 hb); have ⟨d0, d1, d2, d3, d4, d5, d6, d7, d8, d9, d10⟩ := op_cells11 k4; clear k4 hf4 ho4 he4 j10) | (go_at_call 18; refine (of_in t n sq 4 ot on pt pn nm ns sp0 sc0 sl bs dp dc dl w4 HSL.out.1 HSL.out.2 HW4.out.seen HW4.out.le HW4.out.data HW4.out.bl).mono ?_; rintro e w5 ⟨p1, c1, p2, c2, rfl, hx5, hb5⟩; have HX5 : Hid (VOwn w5 0 ⟨t, n, sq, ns, p1, c1, bs, p2, c2⟩ ∧ Below w4.heap.size w4 w5 ∧ FMem w5 fb (S.map VC.key ++ [(t, n)]) (seeN sn ns) (H.filter (keepV (seeN sn ns))) (.map (some mb)) sp4 sc4 hv4) := ⟨hx5.base (Nat.zero_le _), hb5, HM4.out.1.below hb5⟩; clear hx5 hb5 d0 d1 d2 d3 d4 d5 d6 d7 d8 d9 d10) | (go_at_call 30; refine (put_new' HX5.out.2.2 t n sq ns p1 p2 c1 c2 sl dl bs HSL.out HX5.out.1 HSB.out (L.HF.staying HH.out.1 _) (Nat.lt_of_le_of_lt (List.length_filter_le _ _) (by have := HH.out.2; omega))).mono ?_; rintro e w6 ⟨rfl, h6⟩; have HB6 := (show Hid _ from h6); clear h6))
      go_ret
      refine ⟨rfl, ?_⟩
      exact add_end HH.out (by rw [HVC.out]; exact HF.out.2) (below_thenH HB.out HW2.out.2) HM3.out.2.1 HM3.out.2.2 HM4.out.2.1 HM4.out.2.2 HX5.out.2.1 (.inr (by rw [HVC.out]; exact ⟨HSB.out, ⟨t, n, sq, ns, p1, c1, bs, p2, c2⟩, rfl, HB6.out⟩))

end Go.Proofs.Yteimjkicinjcgaa.Ck.Y.L

/-
  New, Len, last, Value, Size.
-/
namespace Go.Proofs.Yteimjkicinjcgaa.Ck.Y.L
open Go.RowKit Go.Maps Go.Lib

theorem new_any (w : World) : Calls Try.prog 8 #[] w fun e w' => e = .returned (.pointer (some ⟨w.heap.size, 0, none⟩)) ∧ Below w.heap.size w w' ∧ FileS (fun b => b = w.heap.size) w' w.heap.size [] := by
  have H : Hid (FileS (fun b => b = w.heap.size) (w.alloc (.cells #[.map none, .slice none 0 0, .slice none 0 0] 55)) w.heap.size []) := by
    refine ⟨[], [], .map none, none, 0, .slice none 0 0, ⟨heap_alloc_new w _, World.ownsRow_nil _ _ _ _, by simp, .inl ⟨rfl, rfl⟩, RowV.nil _ _, fun x hx => by simp at hx, by simp⟩, HF.nil, ?_, by simp, by simp⟩
    funext b
    apply propext
    constructor
    · rintro rfl; exact .inl rfl
    · rintro (rfl | e | e)
      · rfl
      · cases e
      · cases e
  go_enter Try.func8, Try.ntmps8
  go_wp2
  go_ret
  exact ⟨rfl, (below_new w _).out, H.out⟩

set_option maxRecDepth 8000 in
set_option maxHeartbeats 1000000 in
theorem len_any {F : Nat → Prop} {w : World} {fb : Nat} {S : List VC} (h : FileS F w fb S) : Calls Try.prog 17 #[.pointer (some ⟨fb, 0, none⟩)] w fun e w' => e = .returned (.int .i64 (S.length : Nat)) ∧ Below w.heap.size w w' := by
  obtain ⟨sn, H, mv, sp, sc, hv, hfm, hhf, rfl, hlen, _⟩ := h
  have f0 := cellOf hfm.blk 0
  have hl : ∀ ty, (Builtin.len_ #[53] ty #[mv]).run Try.prog w = .ok (.int .i64 (S.length : Nat)) w := by
    intro ty
    rcases hfm.map with ⟨rfl, e⟩ | ⟨mb, rfl, hm⟩
    · have : S = [] := by simpa using e
      subst this
      exact len_nilmap w ty
    · have := len_map hm ty
      rwa [List.length_map] at this
  have F0 : w.cell? ⟨fb, 0, none⟩ = some mv := f0
  clear hfm hhf hlen f0
  generalize S.length = n at *
  go_enter Try.func17, Try.ntmps17
  go_wp2
  go_ret
  exact ⟨rfl, Below.refl _ _⟩

set_option maxRecDepth 8000 in
set_option maxHeartbeats 1000000 in
theorem last_none {w : World} {fb : Nat} {E : List KP} {sn : List Int} {mv : Value} {sp : Option Addr} {sc : Nat} {hv : Value} (h : FMem w fb E sn [] mv sp sc hv) : Calls Try.prog 35 #[.pointer (some ⟨fb, 0, none⟩)] w fun e w' => e = .returned (.agg #[.int .i64 0, .int .i64 0, .int .i64 0, .slice none 0 0, .slice none 0 0]) ∧ Below w.heap.size w w' := by
  obtain ⟨p, c, rfl, _⟩ := h.hrow.shape
  have f2 := cellOf h.blk 2
  obtain ⟨A, hA⟩ : ∃ A, A = w.alloc (.cells #[.int .i64 0, .int .i64 0, .int .i64 0, .slice none 0 0, .slice none 0 0] 43) := ⟨_, rfl⟩
  have hB : Below w.heap.size w A := by rw [hA]; exact (below_new w _).out
  have kA : A.heap[w.heap.size]? = some (.cells #[.int .i64 0, .int .i64 0, .int .i64 0, .slice none 0 0, .slice none 0 0] 43 (0, 0)) := by rw [hA]; exact heap_alloc_new w _
  have F2 : A.cell? ⟨fb, 2, none⟩ = some (.slice p 0 c) := cell_keptH f2 hB
  have hO := set5_only A w.heap.size (.int .i64 0) (.int .i64 0) (.int .i64 0) (.slice none 0 0) (.slice none 0 0)
  have hc := set5_cells kA (.int .i64 0) (.int .i64 0) (.int .i64 0) (.slice none 0 0) (.slice none 0 0)
  have HA : Hid (A = w.alloc (.cells #[.int .i64 0, .int .i64 0, .int .i64 0, .slice none 0 0, .slice none 0 0] 43)) := hA
  have HB : Hid (Below w.heap.size w A) := hB
  rw [hA] at F2
  clear h f2 hB kA hA hO hc
  go_enter Try.func35, Try.ntmps35
  go_wp2
  refine bodyPost_ret (v := .agg #[.int .i64 0, .int .i64 0, .int .i64 0, .slice none 0 0, .slice none 0 0]) (by simp [results, Try.results35, go_sem]) rfl ?_
  exact ⟨rfl, (below_new w _).out⟩

set_option maxRecDepth 8000 in
set_option maxHeartbeats 2000000 in
theorem last_some {w : World} {fb : Nat} {E : List KP} {sn : List Int} {H : List VG} {mv : Value} {sp : Option Addr} {sc : Nat} {hv : Value} (h : FMem w fb E sn H mv sp sc hv) {k : Nat} {x : VG} (hk : H.length = k + 1) (hx : H[k]? = some x) : Calls Try.prog 35 #[.pointer (some ⟨fb, 0, none⟩)] w fun e w' => e = .returned (vgv x) ∧ Below w.heap.size w w' := by
  obtain ⟨p, c, rfl, hc⟩ := h.hrow.caps
  obtain ⟨g, rfl, d0, d1, d2, d3, d4⟩ := hc k x hx
  have hl : k ≤ 900 := by have := h.hl; omega
  have f2 := cellOf h.blk 2
  rw [hk] at f2
  obtain ⟨A, hA⟩ : ∃ A, A = w.alloc (.cells #[.int .i64 0, .int .i64 0, .int .i64 0, .slice none 0 0, .slice none 0 0] 43) := ⟨_, rfl⟩
  have hB : Below w.heap.size w A := by rw [hA]; exact (below_new w _).out
  have F2 : A.cell? ⟨fb, 2, none⟩ = some (.slice (some ⟨g, 0, none⟩) (k + 1) c) := cell_keptH f2 hB
  have e0 := cell_keptH d0 hB
  have e1 := cell_keptH d1 hB
  have e2 := cell_keptH d2 hB
  have e3 := cell_keptH d3 hB
  have e4 := cell_keptH d4 hB
  have l1 : fb < w.heap.size := block_lt h.blk
  have l2 : g < w.heap.size := cell_lt d0
  have HA : Hid (A = w.alloc (.cells #[.int .i64 0, .int .i64 0, .int .i64 0, .slice none 0 0, .slice none 0 0] 43)) := hA
  have HB : Hid (Below w.heap.size w A) := hB
  rw [hA] at F2 e0 e1 e2 e3 e4
  have hne : ¬ ((k : Int) + 1 = 0) := by omega
  have hk1 : (k : Int) + 1 - 1 = k := by omega
  clear h f2 hB hA hc hx hk d0 d1 d2 d3 d4
  obtain ⟨t, n, sq, ns, sp0, sc0, bs, dp, dc⟩ := x
  simp only [vgv, vgC] at *
  generalize ns.length = nl at *
  generalize bs.length = bl at *
  go_enter Try.func35, Try.ntmps35
  go_wp2
  go_region
  go_wp2
  refine bodyPost_ret (v := .agg #[.int .i64 t, .int .i64 n, .int .i64 sq, .slice sp0 nl sc0, .slice dp bl dc]) (by simp [results, Try.results35, go_sem]) rfl ?_
  exact ⟨rfl, below_thenH (below_new w _).out (below_drewH _)⟩

theorem fld3 (a b c : Int) (p q : Option Addr) (n m k l : Nat) (w : World) : (Instr.field 43 (.agg #[.int .i64 a, .int .i64 b, .int .i64 c, .slice p n m, .slice q k l]) 3).run Try.prog w = .ok (.slice q k l) w := by
  simp [Instr.field, run_underlying Try.underlying43, go_sem, asAgg]
/-- The bytes of the last head. -/
def lastB (H : List VG) : List (BitVec 8) := match H.getLast? with
  | none => []
  | some x => x.bs
theorem last_at {H : List VG} {k : Nat} {x : VG} (hk : H.length = k + 1) (hx : H[k]? = some x) : lastB H = x.bs := by
  unfold lastB
  rw [List.getLast?_eq_getElem?, hk, Nat.add_sub_cancel, hx]

set_option maxRecDepth 8000 in
set_option maxHeartbeats 1000000 in
theorem value_any {w : World} {fb : Nat} {E : List KP} {sn : List Int} {H : List VG} {mv : Value} {sp : Option Addr} {sc : Nat} {hv : Value} (h : FMem w fb E sn H mv sp sc hv) :
    Calls Try.prog 15 #[.pointer (some ⟨fb, 0, none⟩)] w fun e w' => ∃ v, e = .returned v ∧ w'.ownsRow w.heap.size 5 1 v (lastB H).length ((lastB H).map Cd.u8v) ∧ Below w.heap.size w w' := by
  cases hl : H.length with
  | zero =>
    have : H = [] := List.eq_nil_of_length_eq_zero hl
    subst this
    have c1 := last_none h
    have HC : Hid (∀ W, Calls Try.prog 34 #[.slice none 0 0] W fun e w' => ∃ v, e = .returned v ∧ Cd.Cloned W [] v w') := fun W => Cd.clone_any none [] 0 W (by simp) (Cd.bytes_nil _ _)
    clear h hl
    have f3 := fld3
    go_enter Try.func15, Try.ntmps15
    go_wp2_with (first
      | (go_at_call 35; refine Calls_new c1 ?_; clear c1; intro w1 HB1)
      | (go_at_call 34; refine (HC.out _).mono ?_; clear HC; rintro e w2 ⟨v2, rfl, hc2⟩; have H2 : Hid (Cd.Cloned w1 [] v2 w2) := hc2; clear hc2))
    go_ret
    refine ⟨_, rfl, ?_, below_thenH HB1.out H2.out.2⟩
    exact Vc.own_base H2.out.1 HB1.out.size
  | succ k =>
    obtain ⟨x, hx⟩ : ∃ x, H[k]? = some x := ⟨_, List.getElem?_eq_getElem (by omega)⟩
    have c1 := last_some h hl hx
    rw [last_at hl hx]
    have hv := (h.hown x (List.mem_of_getElem? hx)).comes
    have HC : Hid (∀ W, Below w.heap.size w W → Calls Try.prog 34 #[.slice x.dp x.bs.length x.dc] W fun e w' => ∃ v, e = .returned v ∧ Cd.Cloned W x.bs v w') := fun W hW => Cd.clone_any x.dp x.bs x.dc W (by have := hv.bl; omega) (Cd.below_bytes hW hv.data)
    clear h hl hx hv
    obtain ⟨t, n, sq, ns, sp0, sc0, bs, dp, dc⟩ := x
    simp only [vgv, vgC] at *
    generalize ns.length = nl at *
    have f3 := fld3
    go_enter Try.func15, Try.ntmps15
    go_wp2_with (first
      | (go_at_call 35; refine Calls_new c1 ?_; clear c1; intro w1 HB1)
      | (go_at_call 34; refine (HC.out _ HB1.out).mono ?_; clear HC; rintro e w2 ⟨v2, rfl, hc2⟩; have H2 : Hid (Cd.Cloned w1 bs v2 w2) := hc2; clear hc2))
    go_ret
    refine ⟨_, rfl, ?_, below_thenH HB1.out H2.out.2⟩
    exact Vc.own_base H2.out.1 HB1.out.size

set_option maxRecDepth 8000 in
set_option maxHeartbeats 1000000 in
theorem size_any {w : World} {fb : Nat} {E : List KP} {sn : List Int} {H : List VG} {mv : Value} {sp : Option Addr} {sc : Nat} {hv : Value} (h : FMem w fb E sn H mv sp sc hv) :
    Calls Try.prog 16 #[.pointer (some ⟨fb, 0, none⟩)] w fun e w' => e = .returned (.int .i64 ((lastB H).length : Nat)) ∧ Below w.heap.size w w' := by
  cases hl : H.length with
  | zero =>
    have : H = [] := List.eq_nil_of_length_eq_zero hl
    subst this
    have c1 := last_none h
    clear h hl
    have f3 := fld3
    go_enter Try.func16, Try.ntmps16
    go_wp2_with (go_at_call 35; refine Calls_new c1 ?_; clear c1; intro w1 HB1)
    go_ret
    exact ⟨rfl, HB1.out⟩
  | succ k =>
    obtain ⟨x, hx⟩ : ∃ x, H[k]? = some x := ⟨_, List.getElem?_eq_getElem (by omega)⟩
    have c1 := last_some h hl hx
    rw [last_at hl hx]
    clear h hl hx
    obtain ⟨t, n, sq, ns, sp0, sc0, bs, dp, dc⟩ := x
    simp only [vgv, vgC] at *
    generalize ns.length = nl at *
    generalize bs.length = bl at *
    have f3 := fld3
    go_enter Try.func16, Try.ntmps16
    go_wp2_with (go_at_call 35; refine Calls_new c1 ?_; clear c1; intro w1 HB1)
    go_ret
    exact ⟨rfl, HB1.out⟩

end Go.Proofs.Yteimjkicinjcgaa.Ck.Y.L

namespace Go.Proofs.Yteimjkicinjcgaa.Ck.Y.L
open Go.RowKit Go.Maps Go.Lib

/-- What Heads has made so far. -/
def HdsI (w wr : World) (v : Value) (H M : List VG) (i : Nat) : Prop := RowV wr w.heap.size v M ∧ M.map VG.c = (H.take i).map VG.c ∧ (∀ y ∈ M, VOwn wr w.heap.size y) ∧ Below w.heap.size w wr
theorem HdsI.step {w wr w2 w3 : World} {v : Value} {H M : List VG} {i : Nat} (h : HdsI w wr v H M i) {x y : VG} (hx : H[i]? = some x) (hc : y.c = x.c) (b2 : Below wr.heap.size wr w2) (hy : VOwn w2 w.heap.size y) {p : Option Addr} {c : Nat}
    (ha : RowV w3 w.heap.size (.slice p (M.length + 1) c) (M ++ [y]) ∧ (w2.alloc (.cells (vgC y) 43)).grownBy w3 v.ownBlock ∧ ((Value.slice p (M.length + 1) c).ownBlock = v.ownBlock ∨ (Value.slice p (M.length + 1) c).ownBlock = some (w2.alloc (.cells (vgC y) 43)).heap.size)) :
    HdsI w w3 (.slice p (M.length + 1) c) H (M ++ [y]) (i + 1) := by
  obtain ⟨h1, h2, h3, h4⟩ := h
  obtain ⟨a1, a2, a3⟩ := ha
  have b3 : Below w2.heap.size w2 (w2.alloc (.cells (vgC y) 43)) := (below_new _ _).out
  have hO : Only (fun b => v.ownBlock = some b) (w2.alloc (.cells (vgC y) 43)) w3 := ⟨a2.os, a2.tape, a2.output, a2.size, fun k hk hn => a2.block k hk (fun e => hn e.symm)⟩
  have hr2 := (h1.below b2).below b3
  have hard : Hard (w2.alloc (.cells (vgC y) 43)) (fun b => v.ownBlock = some b) := by
    intro b hb cs t ht
    obtain ⟨cs', hc', _⟩ := hr2.tag hb
    rw [hc'] at ht; cases ht; decide
  refine ⟨a1, ?_, fun z hz => ?_, ?_⟩
  · rw [List.map_append, h2, List.take_add_one, hx, List.map_append]
    simp [hc]
  · rcases List.mem_append.1 hz with hz | hz
    · exact (((h3 z hz).below b2).below b3).kept hO hard
    · have : z = y := by simpa using hz
      subst this
      exact (hy.below b3).kept hO hard
  · have s2 := below_thenH h4 (below_thenH b2 b3)
    refine s2.trans (hO.below s2.size fun b hb => ?_)
    obtain ⟨_, _, hbase⟩ := hr2.tag hb
    exact hbase

set_option maxRecDepth 8000 in
set_option maxHeartbeats 2000000 in
theorem heads_any {w : World} {fb : Nat} {E : List KP} {sn : List Int} {H : List VG} {mv : Value} {sp : Option Addr} {sc : Nat} {hv : Value} (h : FMem w fb E sn H mv sp sc hv) :
    Calls Try.prog 14 #[.pointer (some ⟨fb, 0, none⟩)] w fun e w' => ∃ v M, e = .returned v ∧ RowV w' w.heap.size v M ∧ M.map VG.c = H.map VG.c ∧ (∀ y ∈ M, VOwn w' w.heap.size y) ∧ Below w.heap.size w w' := by
  obtain ⟨ph, ch, rfl, _⟩ := h.hrow.shape
  have f2 : w.cell? ⟨fb, 2, none⟩ = some (.slice ph H.length ch) := cellOf h.blk 2
  have HF : Hid (FMem w fb E sn H mv sp sc (.slice ph H.length ch)) := h
  have HL : Hid (H.length ≤ 900) := h.hl
  have HI0 : Hid (HdsI w w (.slice none 0 0) H [] 0) := ⟨RowV.nil _ _, by simp, fun y hy => by simp at hy, Below.refl _ _⟩
  clear h
  go_enter Try.func14, Try.ntmps14
  go_wp2
  go_loopw [3, 13] (fun ll ii wr => ∃ (i : Nat) (M : List VG) (p : Option Addr) (c : Nat), ll = .slice p M.length c ∧ ii = .int .i64 i ∧ i ≤ H.length ∧ Hid (M.length = i) ∧ Hid (HdsI w wr (.slice p M.length c) H M i)) (fun _ ii _ => H.length - (RowKit.intOf ii).toNat)
  case atStart => exact ⟨0, [], none, 0, rfl, rfl, by omega, rfl, HI0⟩
  case round =>
    obtain ⟨i, M, p, c, rfl, rfl, hi, HM, HI⟩ := hrel
    by_cases hlt : i < H.length
    · have hltI : (i : Int) < H.length := by omega
      obtain ⟨x, hx⟩ : ∃ x, H[i]? = some x := ⟨_, List.getElem?_eq_getElem hlt⟩
      obtain ⟨p', c', e', hc⟩ := (HF.out.hrow.below HI.out.2.2.2).caps
      cases e'
      obtain ⟨g, rfl, d0, d1, d2, d3, d4⟩ := hc i x hx
      have hv := ((HF.out.hown x (List.mem_of_getElem? hx)).below HI.out.2.2.2).comes
      have HX : Hid (H[i]? = some x) := hx
      have HLT : Hid (i < H.length) := hlt
      have hi9 : i ≤ 900 := by have := HL.out; omega
      have HCP : Hid (∀ W, Below wr.heap.size wr W → Calls Try.prog 33 #[vgv x] W fun e w' => ∃ y : VG, e = .returned (vgv y) ∧ y.c = x.c ∧ VOwn w' W.heap.size y ∧ Below W.heap.size W w') := fun W hW => copy_any x W (hv.below hW)
      clear hc hx hv
      simp only [vgv, vgC] at HCP
      go_wp2_with (first
        | (go_at_call 33; refine (HCP.out _ ((below_new wr _).out)).mono ?_; clear HCP; rintro e w2 ⟨y, rfl, hyc, hyo, hyb⟩; have H2 : Hid (y.c = x.c ∧ VOwn w2 w.heap.size y ∧ Below wr.heap.size wr w2) := ⟨hyc, hyo.base (Nat.le_trans HI.out.2.2.2.size (by simp)), below_thenH (below_new wr _).out hyb⟩; clear hyc hyo hyb d0 d1 d2 d3 d4)
        | (at_builtin; refine wpList_appV rfl _ _ rfl w.heap.size _ M y rfl w2.heap.size rfl ⟨(HI.out.1.below H2.out.2.2).below (below_new _ _).out, heap_alloc_new w2 _, by have := HM.out; have := HL.out; omega, by have := HI.out.2.2.2.size; have := H2.out.2.2.size; simp; omega⟩ ?_; intro p4 c4 w3 H4))
      go_roundw
      case rel =>
        refine ⟨i + 1, M ++ [y], p4, c4, ?_, by go_num, HLT.out, ?_, ?_⟩
        · rw [List.length_append]; rfl
        · show (M ++ [y]).length = i + 1
          rw [List.length_append, HM.out]; rfl
        · have := HI.out.step HX.out H2.out.1 H2.out.2.2 H2.out.2.1 H4.out
          show HdsI w w3 (.slice p4 (M ++ [y]).length c4) H (M ++ [y]) (i + 1)
          rw [List.length_append]
          exact this
      case measure => have := HLT.out; simp [RowKit.intOf]; omega
    · obtain rfl : i = H.length := by omega
      go_wp2
      go_ret
      obtain ⟨h1, h2, h3, h4⟩ := HI.out
      rw [List.take_length] at h2
      exact ⟨_, M, rfl, h1, h2, h3, h4⟩

end Go.Proofs.Yteimjkicinjcgaa.Ck.Y.L
