/-
  The document's own way to write: bytes, a truth, an ID, a vector.
-/
import Derived.Test.YtegjageenofbjaaGreatKenum
import Derived.Test.YtegjageenofbjaaGreatKqvec
namespace Go.Proofs.YtegjageenofbjaaGreat.Cd
open Go.RowKit

def eBytes (cs : List (BitVec 8)) : St := if cs.length ≤ 65536 then some (numB cs.length ++ cs) else none
def eID (t n : Int) : St := if 0 ≤ t ∧ t ≤ 1152921504606846976 ∧ 0 ≤ n ∧ n < 64 then some (numB t.toNat ++ numB n.toNat) else none
def numsB (ns : List Int) : List (BitVec 8) := ns.flatMap fun x => numB x.toNat
def eVec (ns : List Int) : St := if mayB ns = true then some (numB (normOf ns).length ++ numsB (normOf ns)) else none

theorem own_base {W : World} {base base' e : Nat} {v : Value} {n : Nat} {xs : List Value} (h : W.ownsRow base e 1 v n xs) (hb : base' ≤ base) : W.ownsRow base' e 1 v n xs := by
  refine ⟨h.1, ?_⟩
  rcases h.2 with h0 | ⟨g, cap, cur, rfl, h1, r⟩
  · exact .inl h0
  · exact .inr ⟨g, cap, cur, rfl, Nat.le_trans hb h1, r⟩
theorem Cloned.slice {w w' : World} {bs : List (BitVec 8)} {v : Value} (h : Cloned w bs v w') : ∃ p c, v = .slice p bs.length c ∧ bs.length ≤ c ∧ Bytes w' p bs := by
  obtain ⟨_, p, c, e, h1, h2, _⟩ := owns_bytes h.1
  exact ⟨p, c, e, h1, h2⟩

set_option maxRecDepth 8000 in
set_option maxRecDepth 8000 in
set_option maxHeartbeats 400000 in
theorem ebytes_any (p : Option Addr) (cs : List (BitVec 8)) (cp : Nat) (w : World) (hb : Bytes w p cs) : Calls Tryz.prog 32 #[.slice p cs.length cp] w (Enc w (eBytes cs)) := by
  unfold eBytes
  by_cases h : cs.length ≤ 65536
  · rw [if_pos h]
    have hI : ¬ (65536 : Int) < cs.length := by omega
    have c24 := enum_yes cs.length w (by omega)
    have HB : Hid (Bytes w p cs) := hb
    have HL : Hid ((numB cs.length).length + cs.length ≤ 1099511627776) := by have := numB_len9 cs.length (by omega); show _ ≤ _; omega
    clear hb h
    go_enter Tryz.func32, Tryz.ntmps32
    go_wp2_with fail
    refine c24.mono ?_
    rintro e w1 ⟨v, rfl, k1, k2⟩
    have K1 : Hid (w1.ownsRow w.heap.size 5 1 v (numB cs.length).length ((numB cs.length).map u8v)) := k1
    have K2 : Hid (Below w.heap.size w w1) := k2
    have K3 : Hid (Below w1.heap.size w1 w1) := Below.refl _ _
    have HB1 : Hid (Bytes w1 p cs) := below_bytes k2 HB.out
    have tok : True := trivial
    clear c24 k1 k2
    go_wp2_with (have tk := tok; refine wpList_grow rfl _ _ rfl w _ _ rfl K1 K2 K3 _ _ _ rfl HB1 HL ?_; clear tk tok; intro v' w2 M1 M2 _)
    go_ret2
    exact ⟨v', rfl, M1.out, M2.out⟩
  · rw [if_neg h]
    have hI : (65536 : Int) < cs.length := by omega
    clear hb h
    go_enter Tryz.func32, Tryz.ntmps32
    go_wp2
    go_ret2
    exact ⟨_, rfl, cloned_nil w⟩

set_option maxRecDepth 8000 in
set_option maxHeartbeats 400000 in
theorem eid_no (t n : Int) (w : World) (h : ¬ (0 ≤ t ∧ t ≤ 1152921504606846976 ∧ 0 ≤ n ∧ n < 64)) : Calls Tryz.prog 31 #[.agg #[.int .i64 t, .int .i64 n]] w (Enc w none) := by
  by_cases h1 : t < 0
  · clear h
    go_enter Tryz.func31, Tryz.ntmps31
    go_wp2
    go_ret2
    exact ⟨_, rfl, World.ownsRow_nil _ _ _ _, (below_new _ _).out⟩
  by_cases h2 : (1152921504606846976 : Int) < t
  · clear h
    go_enter Tryz.func31, Tryz.ntmps31
    go_wp2
    go_ret2
    exact ⟨_, rfl, World.ownsRow_nil _ _ _ _, (below_new _ _).out⟩
  by_cases h3 : n < 0
  · clear h
    go_enter Tryz.func31, Tryz.ntmps31
    go_wp2
    go_ret2
    exact ⟨_, rfl, World.ownsRow_nil _ _ _ _, (below_new _ _).out⟩
  have h4 : (64 : Int) ≤ n := by omega
  clear h
  go_enter Tryz.func31, Tryz.ntmps31
  go_wp2
  go_ret2
  exact ⟨_, rfl, World.ownsRow_nil _ _ _ _, (below_new _ _).out⟩

set_option maxRecDepth 8000 in
set_option maxRecDepth 8000 in
set_option maxHeartbeats 400000 in
theorem eid_yes (t n : Nat) (w : World) (h1 : t ≤ 1152921504606846976) (h2 : n < 64) : Calls Tryz.prog 31 #[.agg #[.int .i64 t, .int .i64 n]] w (Enc w (some (numB t ++ numB n))) := by
  have g1 : ¬ (t : Int) < 0 := by omega
  have g2 : ¬ (1152921504606846976 : Int) < t := by omega
  have g3 : ¬ (n : Int) < 0 := by omega
  have g4 : ¬ (64 : Int) ≤ n := by omega
  obtain ⟨w1, hw1⟩ : ∃ w1, w1 = w.alloc (.cells #[.int .i64 t, .int .i64 n] 23) := ⟨_, rfl⟩
  have hB1 : Below w.heap.size w w1 := by rw [hw1]; exact (below_new _ _).out
  have hb1 : w1.heap[w.heap.size]? = some (.cells #[.int .i64 t, .int .i64 n] 23 (0, 0)) := by rw [hw1]; exact heap_alloc_new w _
  have c24 := enum_yes t w1 (by omega)
  have HB1 : Hid (Below w.heap.size w w1) := hB1
  have HBL : Hid (w1.heap[w.heap.size]? = some (.cells #[.int .i64 t, .int .i64 n] 23 (0, 0))) := hb1
  have HL : Hid ((numB t).length + (numB n).length ≤ 1099511627776) := by have := numB_len9 t (by omega); have := numB_len9 n (by omega); show _ ≤ _; omega
  have HN : Hid (n ≤ 4611686018427387904) := by show _ ≤ _; omega
  clear hB1 hb1 h1 h2
  go_enter Tryz.func31, Tryz.ntmps31
  go_wp2_with fail
  rw [← hw1]
  refine c24.mono ?_
  rintro e w2 ⟨v, rfl, k1, k2⟩
  have hb2 : w2.heap[w.heap.size]? = some (.cells #[.int .i64 t, .int .i64 n] 23 (0, 0)) := (k2.block _ (block_lt HBL.out)).trans HBL.out
  have d1 : w2.cell? ⟨w.heap.size, 1, none⟩ = some (.int .i64 n) := cellOf hb2 1
  have c24b := enum_yes n w2 HN.out
  have K1 : Hid (w2.ownsRow w1.heap.size 5 1 v (numB t).length ((numB t).map u8v)) := k1
  have K2 : Hid (Below w1.heap.size w1 w2) := k2
  clear c24 k1 k2 hb2 hw1
  go_wp2_with fail
  refine c24b.mono ?_
  rintro e w3 ⟨v2, rfl, hcl⟩
  obtain ⟨p2, cp2, rfl, _, b2⟩ := hcl.slice
  have M1 : Hid (w3.ownsRow w1.heap.size 5 1 v (numB t).length ((numB t).map u8v)) := own_below K1.out hcl.2
  have M2 : Hid (Below w1.heap.size w1 w3) := K2.out.trans (hcl.2.mono K2.out.size)
  have M3 : Hid (Below w3.heap.size w3 w3) := Below.refl _ _
  have B2 : Hid (Bytes w3 p2 (numB n)) := b2
  have tok : True := trivial
  clear c24b hcl b2 d1
  go_wp2_with (have tk := tok; refine wpList_grow rfl _ _ rfl w1 _ _ rfl M1 M2 M3 _ _ _ rfl B2 HL ?_; clear tk tok; intro v' w4 L1 L2 _)
  go_ret2
  exact ⟨v', rfl, own_base L1.out HB1.out.size, HB1.out.trans (L2.out.mono HB1.out.size)⟩

theorem eid_any (t n : Int) (w : World) : Calls Tryz.prog 31 #[.agg #[.int .i64 t, .int .i64 n]] w (Enc w (eID t n)) := by
  unfold eID
  by_cases h : 0 ≤ t ∧ t ≤ 1152921504606846976 ∧ 0 ≤ n ∧ n < 64
  · rw [if_pos h]
    obtain ⟨t, rfl⟩ := Int.eq_ofNat_of_zero_le h.1
    obtain ⟨n, rfl⟩ := Int.eq_ofNat_of_zero_le h.2.2.1
    exact eid_yes t n w (by omega) (by omega)
  · rw [if_neg h]; exact eid_no t n w h

theorem normOf_ok (ns : List Int) : ∀ x ∈ normOf ns, okN x = true := by
  intro x hx
  have := List.mem_of_mem_take hx
  unfold allOf at this
  obtain ⟨k, _, rfl⟩ := List.mem_map.1 this
  unfold atOf
  split
  · split
    · assumption
    · rfl
  · rfl
theorem normOf_le (ns : List Int) : (normOf ns).length ≤ 64 := by
  unfold normOf; rw [List.length_take, allOf_length]; omega
theorem numsB_len (ns : List Int) (h : ∀ x ∈ ns, okN x = true) : (numsB ns).length ≤ 9 * ns.length := by
  induction ns with
  | nil => simp [numsB]
  | cons x l ih =>
    have h1 := ih (fun y hy => h y (List.mem_cons_of_mem _ hy))
    have h2 := h x (List.mem_cons_self ..)
    unfold okN at h2
    simp at h2
    have h3 := numB_len9 x.toNat (by omega)
    have : numsB (x :: l) = numB x.toNat ++ numsB l := rfl
    rw [this, List.length_append, List.length_cons]
    omega
theorem numsB_take (ns : List Int) (i : Nat) (x : Int) (h : ns[i]? = some x) : numsB (ns.take (i + 1)) = numsB (ns.take i) ++ numB x.toNat := by
  unfold numsB
  rw [List.take_add_one, h]
  simp

set_option maxRecDepth 8000 in
set_option maxRecDepth 8000 in
set_option maxHeartbeats 1000000 in
theorem evec_any (p : Option Addr) (ns : List Int) (cp : Nat) (w : World) (hl1 : ns.length ≤ 1000) (hp : Lies w p (ns.map iv)) : Calls Tryz.prog 33 #[.slice p ns.length cp] w (Enc w (eVec ns)) := by
  have c58 := may_any p ns cp w hl1 hp
  unfold eVec
  by_cases hm : mayB ns = true
  · rw [if_pos hm]
    rw [hm] at c58
    have c59 := norm_any p ns cp w hp
    have HOK : Hid (∀ x ∈ normOf ns, okN x = true) := normOf_ok ns
    have hle := normOf_le ns
    generalize normOf ns = zs at c59 HOK hle
    clear hp hm hl1
    go_enter Tryz.func33, Tryz.ntmps33
    go_wp2_with (first | (go_at_call 23; refine Calls_on c58 ?_) | (go_at_call 54; fail))
    refine c59.mono ?_
    rintro e w1 ⟨g, c, rfl, hg, hlies, hB1⟩
    have HLI : Hid (Lies w1 (some ⟨g, 0, none⟩) (zs.map iv)) := hlies
    have HB1 : Hid (Below w.heap.size w w1) := hB1
    have c24 := enum_yes zs.length w1 (by omega)
    clear c58 c59 hg hlies hB1
    go_wp2_with fail
    refine c24.mono ?_
    rintro e w2 ⟨v, rfl, k1, k2⟩
    have K1 : Hid (w2.ownsRow w1.heap.size 5 1 v (numB zs.length ++ numsB (zs.take 0)).length ((numB zs.length ++ numsB (zs.take 0)).map u8v)) := by
      rw [show zs.take 0 = [] from rfl, show numsB [] = [] from rfl, List.append_nil]; exact k1
    have K2 : Hid (Below w1.heap.size w1 w2) := k2
    have HNL : Hid ((numB zs.length).length ≤ 9) := numB_len9 _ (by omega)
    clear c24 k1 k2
    go_wp2_with fail
    go_loopw [5, 7] (fun vv ii wr => ∃ i : Nat, ii = .int .i64 i ∧ i ≤ zs.length ∧ Hid (wr.ownsRow w1.heap.size 5 1 vv (numB zs.length ++ numsB (zs.take i)).length ((numB zs.length ++ numsB (zs.take i)).map u8v)) ∧ Hid (Below w1.heap.size w1 wr)) (fun _ ii _ => zs.length - (intOf ii).toNat)
    case atStart => exact ⟨0, rfl, Nat.zero_le _, K1, K2⟩
    case round =>
      obtain ⟨i, rfl, hi, HO, HB⟩ := hrel
      by_cases hlt : i < zs.length
      · have hltI : (i : Int) < zs.length := by omega
        obtain ⟨gb, go, e, hgc⟩ := HLI.out (by simp; omega)
        cases e
        obtain ⟨x, hx⟩ : ∃ x, zs[i]? = some x := ⟨_, List.getElem?_eq_getElem hlt⟩
        have k1 := hgc i (iv x) (by rw [List.getElem?_map, hx]; rfl)
        rw [Nat.zero_add] at k1
        have c1 : wr.cell? ⟨g, i, none⟩ = some (.int .i64 x) := (HB.out.cell (p := ⟨g, i, none⟩) (cell_lt k1)).trans k1
        have hok := HOK.out x (List.mem_of_getElem? hx)
        unfold okN at hok
        simp at hok
        obtain ⟨y, rfl⟩ := Int.eq_ofNat_of_zero_le hok.1
        have c24 := enum_yes y wr (by omega)
        have HY : Hid (numsB (zs.take (i + 1)) = numsB (zs.take i) ++ numB y) := numsB_take zs i _ hx
        have HL : Hid ((numB zs.length ++ numsB (zs.take i)).length + (numB y).length ≤ 1099511627776) := by
          have e1 := HNL.out
          have e2 := numsB_len (zs.take i) (fun z hz => HOK.out z (List.mem_of_mem_take hz))
          have e3 := numB_len9 y (by omega)
          rw [List.length_take] at e2
          show _ ≤ _
          rw [List.length_append]
          omega
        clear hgc hx k1 hok
        go_wp2_with fail
        refine c24.mono ?_
        rintro e w3 ⟨v2, rfl, hcl⟩
        obtain ⟨p2, cp2, rfl, _, b2⟩ := hcl.slice
        have M1 := own_below HO.out hcl.2
        have HM1 : Hid _ := M1
        have M2 : Hid (Below w1.heap.size w1 w3) := HB.out.trans (hcl.2.mono HB.out.size)
        have M3 : Hid (Below w3.heap.size w3 w3) := Below.refl _ _
        have B2 : Hid (Bytes w3 p2 (numB y)) := b2
        have tok : True := trivial
        clear c24 hcl b2 c1 M1
        go_wp2_with (have tk := tok; refine wpList_grow rfl _ _ rfl w1 _ _ rfl HM1 M2 M3 _ _ _ rfl B2 HL ?_; clear tk tok; intro v' w4 L1 L2 _)
        go_roundw
        case rel => exact ⟨i + 1, by go_num, by omega, by rw [HY.out, ← List.append_assoc]; exact L1, L2⟩
        case measure => simp [intOf]; omega
      · obtain rfl : i = zs.length := by omega
        clear hlt
        go_wp2
        go_ret2
        refine ⟨_, rfl, own_base ?_ HB1.out.size, HB1.out.trans (HB.out.mono HB1.out.size)⟩
        have := HO.out
        rw [List.take_length] at this
        exact this
  · rw [if_neg hm]
    rw [show mayB ns = false by simpa using hm] at c58
    clear hp hm hl1
    go_enter Tryz.func33, Tryz.ntmps33
    go_wp2_with (go_at_call 23; refine Calls_on c58 ?_)
    go_ret2
    exact ⟨_, rfl, cloned_nil w⟩

end Go.Proofs.YtegjageenofbjaaGreat.Cd
