/-
  Operations held against each other: ops.Eq; Cost; the document's small functions.
-/
import Derived.Test.YtegjageenofbjaaGreatOh
namespace Go.Proofs.YtegjageenofbjaaGreat.Cd
open Go.RowKit Go.Maps

attribute [local go_sem] Oper.semAt_some

set_option maxRecDepth 8000 in
set_option maxHeartbeats 1000000 in
theorem equal_any (p q : Option Addr) (xs ys : List (BitVec 8)) (c d : Nat) (w : World) (hx : Bytes w p xs) (hy : Bytes w q ys) : Calls Tryz.prog 44 #[.slice p xs.length c, .slice q ys.length d] w fun e w' => e = .returned (.bool (decide (xs = ys))) ∧ w' = w := by
  have c1 := run_str w p xs c hx
  have c2 := run_str w q ys d hy
  have HE : Hid (((strOf xs).toList == (strOf ys).toList) = decide (xs = ys)) := by
    show _ = _
    rw [Lib.toList_data, Lib.toList_data]
    by_cases h : xs = ys
    · simp [h]
    · have : (strOf xs).data.toList ≠ (strOf ys).data.toList := fun e => h (strOf_inj (by rw [← bas_of (strOf xs), ← bas_of (strOf ys), e]))
      simp only [h, decide_false]
      exact beq_eq_false_iff_ne.2 this
  clear hx hy
  generalize xs.length = m at *
  generalize ys.length = k at *
  go_enter Tryz.func44, Tryz.ntmps44
  go_wp2
  go_ret
  exact ⟨congrArg (fun b => Ending.returned (.bool b)) HE.out, rfl⟩

/-- The same in all fields. -/
def eqF (t n sq kd ot on pt pn : Int) (nm : List UInt8) (data : List (BitVec 8)) (ns : List Int) (t' n' sq' kd' ot' on' pt' pn' : Int) (nm' : List UInt8) (data' : List (BitVec 8)) (ns' : List Int) : Bool :=
  decide (t = t') && decide (n = n') && decide (sq = sq') && decide (kd = kd') && decide (ot = ot') && decide (on = on') && decide (pt = pt') && decide (pn = pn') && decide (nm = nm') && decide (data = data') && Vc.eqB ns ns'
def Opn.eq (a b : Opn) : Bool := eqF a.t a.n a.sq a.kd a.ot a.on a.pt a.pn a.nm a.data a.ns b.t b.n b.sq b.kd b.ot b.on b.pt b.pn b.nm b.data b.ns

set_option maxRecDepth 8000 in
set_option maxHeartbeats 4000000 in
theorem oeq_any (t n sq kd ot on pt pn : Int) (nm : List UInt8) (p q : Option Addr) (l c m d : Nat) (data : List (BitVec 8)) (ns : List Int) (t' n' sq' kd' ot' on' pt' pn' : Int) (nm' : List UInt8) (p' q' : Option Addr) (l' c' m' d' : Nat) (data' : List (BitVec 8)) (ns' : List Int) (w : World)
    (hl : l = data.length) (hm : m = ns.length) (hl' : l' = data'.length) (hm' : m' = ns'.length) (hp : Bytes w p data) (hq : Lies w q (ns.map iv)) (hp' : Bytes w p' data') (hq' : Lies w q' (ns'.map iv)) :
    Calls Tryz.prog 12 #[.agg #[.int .i64 t, .int .i64 n, .int .i64 sq, .int .i64 kd, .int .i64 ot, .int .i64 on, .int .i64 pt, .int .i64 pn, .string (bas nm), .slice p l c, .slice q m d], .agg #[.int .i64 t', .int .i64 n', .int .i64 sq', .int .i64 kd', .int .i64 ot', .int .i64 on', .int .i64 pt', .int .i64 pn', .string (bas nm'), .slice p' l' c', .slice q' m' d']] w fun e w' => e = .returned (.bool (eqF t n sq kd ot on pt pn nm data ns t' n' sq' kd' ot' on' pt' pn' nm' data' ns')) ∧ Below w.heap.size w w' := by
  have B0 : Hid (∀ x y, Below w.heap.size w ((w.alloc x).alloc y)) := fun x y => ((Below.refl _ _).alloc (Nat.le_refl _) _).alloc (by simp) _
  have HB : Hid (∀ W, Below w.heap.size w W → Calls Tryz.prog 44 #[.slice p l c, .slice p' l' c'] W fun e w' => e = .returned (.bool (decide (data = data'))) ∧ w' = W) := fun W hW => by rw [hl, hl']; exact equal_any p p' data data' c c' W (below_bytes hW hp) (below_bytes hW hp')
  have HV : Hid (∀ W, Below w.heap.size w W → Calls Tryz.prog 45 #[.slice q m d, .slice q' m' d'] W fun e w' => e = .returned (.bool (Vc.eqB ns ns')) ∧ Below W.heap.size W w') := fun W hW => by rw [hm, hm']; exact Vc.eq_any q q' ns ns' d d' W (below_lies hW hq) (below_lies hW hq')
  clear hl hm hl' hm' hp hq hp' hq'
  unfold eqF
  generalize Vc.eqB ns ns' = x at *
  by_cases h_t : t = t'
  rotate_left
  · rw [decide_eq_false h_t]
    try simp only [Bool.and_false]
    try simp only [Bool.false_and]
    clear HB HV
    go_enter Tryz.func12, Tryz.ntmps12
    go_wp2
    go_ret
    exact ⟨rfl, B0.out _ _⟩
  rw [decide_eq_true h_t]
  subst h_t
  by_cases h_n : n = n'
  rotate_left
  · rw [decide_eq_false h_n]
    try simp only [Bool.and_false]
    try simp only [Bool.false_and]
    clear HB HV
    go_enter Tryz.func12, Tryz.ntmps12
    go_wp2
    go_ret
    exact ⟨rfl, B0.out _ _⟩
  rw [decide_eq_true h_n]
  subst h_n
  by_cases h_sq : sq = sq'
  rotate_left
  · rw [decide_eq_false h_sq]
    try simp only [Bool.and_false]
    try simp only [Bool.false_and]
    clear HB HV
    go_enter Tryz.func12, Tryz.ntmps12
    go_wp2
    go_ret
    exact ⟨rfl, B0.out _ _⟩
  rw [decide_eq_true h_sq]
  subst h_sq
  by_cases h_kd : kd = kd'
  rotate_left
  · rw [decide_eq_false h_kd]
    try simp only [Bool.and_false]
    try simp only [Bool.false_and]
    clear HB HV
    go_enter Tryz.func12, Tryz.ntmps12
    go_wp2
    go_ret
    exact ⟨rfl, B0.out _ _⟩
  rw [decide_eq_true h_kd]
  subst h_kd
  by_cases h_ot : ot = ot'
  rotate_left
  · rw [decide_eq_false h_ot]
    try simp only [Bool.and_false]
    try simp only [Bool.false_and]
    clear HB HV
    go_enter Tryz.func12, Tryz.ntmps12
    go_wp2
    go_ret
    exact ⟨rfl, B0.out _ _⟩
  rw [decide_eq_true h_ot]
  subst h_ot
  by_cases h_on : on = on'
  rotate_left
  · rw [decide_eq_false h_on]
    try simp only [Bool.and_false]
    try simp only [Bool.false_and]
    clear HB HV
    go_enter Tryz.func12, Tryz.ntmps12
    go_wp2
    go_ret
    exact ⟨rfl, B0.out _ _⟩
  rw [decide_eq_true h_on]
  subst h_on
  by_cases h_pt : pt = pt'
  rotate_left
  · rw [decide_eq_false h_pt]
    try simp only [Bool.and_false]
    try simp only [Bool.false_and]
    clear HB HV
    go_enter Tryz.func12, Tryz.ntmps12
    go_wp2
    go_ret
    exact ⟨rfl, B0.out _ _⟩
  rw [decide_eq_true h_pt]
  subst h_pt
  by_cases h_pn : pn = pn'
  rotate_left
  · rw [decide_eq_false h_pn]
    try simp only [Bool.and_false]
    try simp only [Bool.false_and]
    clear HB HV
    go_enter Tryz.func12, Tryz.ntmps12
    go_wp2
    go_ret
    exact ⟨rfl, B0.out _ _⟩
  rw [decide_eq_true h_pn]
  subst h_pn
  simp only [Bool.true_and, Bool.and_self]
  by_cases h_nm : nm = nm'
  rotate_left
  · have e1 : ((bas nm).toList == (bas nm').toList) = false := by rw [bas_toList, bas_toList]; simpa using h_nm
    rw [decide_eq_false h_nm]
    try simp only [Bool.and_false]
    try simp only [Bool.false_and]
    clear HB HV h_nm
    go_enter Tryz.func12, Tryz.ntmps12
    go_wp2
    go_ret
    exact ⟨rfl, B0.out _ _⟩
  rw [decide_eq_true h_nm]
  subst h_nm
  simp only [Bool.true_and]
  generalize decide (data = data') = y at *
  cases y with
  | false =>
    go_enter Tryz.func12, Tryz.ntmps12
    go_wp2_with (go_at_call 44; refine Calls_on (HB.out _ (B0.out _ _)) ?_)
    go_ret
    exact ⟨rfl, B0.out _ _⟩
  | true =>
    go_enter Tryz.func12, Tryz.ntmps12
    go_wp2_with (first | (go_at_call 44; refine Calls_on (HB.out _ (B0.out _ _)) ?_) | (go_at_call 45; refine Calls_new (HV.out _ (B0.out _ _)) ?_; intro w2 hb2))
    go_ret
    exact ⟨rfl, (B0.out _ _).trans (hb2.out.mono (B0.out _ _).size)⟩

set_option maxRecDepth 8000 in
set_option maxHeartbeats 1000000 in
theorem cost_any (t n sq kd ot on pt pn : Int) (nm : List UInt8) (p q : Option Addr) (l c m d : Nat) (data : List (BitVec 8)) (ns : List Int) (w : World) (hs : nm.length < 1000000000000000) (hl : l = data.length) (hll : l < 9000000000000000000) (hm : m = ns.length) (hml : ns.length ≤ 1000) (hd : ns.length ≤ d) (hp : Bytes w p data) (hq : Lies w q (ns.map iv)) :
    Calls Tryz.prog 11 #[.agg #[.int .i64 t, .int .i64 n, .int .i64 sq, .int .i64 kd, .int .i64 ot, .int .i64 on, .int .i64 pt, .int .i64 pn, .string (bas nm), .slice p l c, .slice q m d]] w fun e w' => e = .returned (.int .i64 ((if mayO t n sq kd ot on pt pn nm data.length ns then bytesO t n sq kd ot on pt pn nm data ns else []).length : Nat)) ∧ Below w.heap.size w w' := by
  have B0 : Hid (∀ o, Below w.heap.size w (w.alloc o)) := fun o => (below_new w o).out
  have HC : Hid (∀ W, Below w.heap.size w W → Calls Tryz.prog 9 #[.agg #[.int .i64 t, .int .i64 n, .int .i64 sq, .int .i64 kd, .int .i64 ot, .int .i64 on, .int .i64 pt, .int .i64 pn, .string (bas nm), .slice p l c, .slice q m d]] W (EncR W (mayO t n sq kd ot on pt pn nm data.length ns) (bytesO t n sq kd ot on pt pn nm data ns))) := fun W hW => encode_any t n sq kd ot on pt pn nm p q l c m d data ns W hs hl hll hm hml hd (below_bytes hW hp) (below_lies hW hq)
  clear hs hl hll hm hml hd hp hq
  generalize mayO t n sq kd ot on pt pn nm data.length ns = x at *
  generalize bytesO t n sq kd ot on pt pn nm data ns = bs at *
  obtain ⟨ys, hys⟩ : ∃ ys, (if x = true then bs else []) = ys := ⟨_, rfl⟩
  rw [hys]
  have HY : Hid ((if x = true then bs else []) = ys) := hys
  clear hys
  go_enter Tryz.func11, Tryz.ntmps11
  go_wp2_with fail
  refine (HC.out _ (B0.out _)).mono ?_
  rintro e w2 ⟨v, rfl, x1, x2⟩
  rw [HY.out] at x1
  obtain ⟨ev, hev⟩ : ∃ ev : Int, (if x = true then (0 : Int) else 22) = ev := ⟨_, rfl⟩
  rw [hev]
  clear hev
  obtain ⟨_, p2, c2, rfl, _⟩ := owns_bytes x1
  have HX : Hid (Below w.heap.size w w2) := (B0.out _).trans (x2.mono (B0.out _).size)
  clear x1 x2 HC
  go_wp2
  go_ret
  exact ⟨rfl, HX.out⟩

end Go.Proofs.YtegjageenofbjaaGreat.Cd
