/-
  The reader of the document's own text: a vector.
-/
import Derived.Test.YtegjageenofbjaaGreatKqvec
import Derived.Test.YtegjageenofbjaaGreatKqnum
import Derived.Test.YtegjageenofbjaaGreatKrany
namespace Go.Proofs.YtegjageenofbjaaGreat.Cd
open Go.RowKit

theorem tl_full (ns : List Int) (h : ns.getLast? ≠ some 0) : tl ns ns.length = ns.length := by
  rcases ns.eq_nil_or_concat with h0 | ⟨L, x, h0⟩
  · rw [h0]; rfl
  · rw [List.concat_eq_append] at h0
    subst h0
    rw [List.length_append]
    show tl _ (L.length + 1) = L.length + 1
    rw [tl, if_neg]
    intro e
    apply h
    simpa using e
theorem tl_zero (ns : List Int) : ∀ (k j : Nat), tl ns k ≤ j → j < k → ns[j]? = some 0
  | 0, j => fun _ h => by omega
  | k + 1, j => fun h1 h2 => by
    rw [tl] at h1
    split at h1
    · by_cases hj : j = k
      · subst hj; assumption
      · exact tl_zero ns k j h1 (by omega)
    · omega
theorem okN_nat (x : Nat) : okN (x : Int) = decide (x ≤ mtime) := by
  unfold okN
  have : mtime = 1152921504606846976 := rfl
  rw [show decide ((0 : Int) ≤ x) = true by simp]
  simp only [Bool.true_and]
  exact decide_eq_decide.2 (by omega)
/-- Numbers as integers. -/
def zs (vs : List Nat) : List Int := vs.map fun n : Nat => (n : Int)
theorem zs_length (vs : List Nat) : (zs vs).length = vs.length := by simp [zs]
theorem zs_nv (vs : List Nat) : (zs vs).map iv = vs.map nv := by simp [zs]
theorem mayB_yes (vs : List Nat) (h : vs.length ≤ 64) (hx : ∀ x ∈ vs, x ≤ mtime) : mayB (zs vs) = true := by
  unfold mayB
  have h1 := tl_le (zs vs) (zs vs).length
  rw [zs_length] at *
  rw [decide_eq_true (by omega), Bool.true_and, List.all_eq_true]
  intro x hx'
  obtain ⟨y, hy, rfl⟩ := List.mem_map.1 (List.mem_of_mem_take hx')
  rw [okN_nat]; exact decide_eq_true (hx y hy)
theorem mayB_no (vs : List Nat) (hx : ∃ x ∈ vs, mtime < x) : mayB (zs vs) = false := by
  obtain ⟨x, hm, hx⟩ := hx
  obtain ⟨j, hj⟩ := List.getElem?_of_mem hm
  have hj' : (zs vs)[j]? = some (x : Int) := by unfold zs; rw [List.getElem?_map, hj]; rfl
  have hlt := (List.getElem?_eq_some_iff.1 hj').1
  have hin : j < tl (zs vs) (zs vs).length := by
    rcases Nat.lt_or_ge j (tl (zs vs) (zs vs).length) with h | h
    · exact h
    · have := tl_zero _ _ _ h hlt
      rw [hj'] at this
      have hx0 : x = 0 := by simpa using this
      omega
  unfold mayB
  have : (List.take (tl (zs vs) (zs vs).length) (zs vs)).all okN = false := by
    rw [← Bool.not_eq_true, List.all_eq_true]
    intro hall
    have := hall (x : Int) (List.mem_of_getElem? (i := j) (by rw [List.getElem?_take, if_pos hin, hj']))
    rw [okN_nat, decide_eq_true_eq] at this
    omega
  rw [this, Bool.and_false]

set_option maxRecDepth 8000 in
set_option maxRecDepth 8000 in
set_option maxHeartbeats 1000000 in
theorem qvector_any (a : Nat) (s : St) (w : World) (h : Rd 76 w a s) (hl : Small s) :
    Calls Tryz.prog 58 #[.pointer (some ⟨a, 0, none⟩)] w fun e w' => ∃ p c, Didq w a (.slice p (rvec s).1.length c) (rvec s).2 e w' ∧ Lies w' p ((rvec s).1.map nv) ∧ (∀ b o, p = some ⟨b, o, none⟩ → w.heap.size ≤ b) := by
  have c33 := qnum_any a s w h hl
  have hlen := rnum_len 4611686018427387904 s
  have hle := rnum_le 4611686018427387904 s
  obtain ⟨⟨n, s1⟩, hr⟩ : ∃ r, rnum 4611686018427387904 s = r := ⟨_, rfl⟩
  have HR1 : Hid ((s1 = none ∨ 64 < n) → rvec s = ([], none)) := fun hb => rvec_short s n s1 hr hb
  have HR2 : Hid (¬ (s1 = none ∨ 64 < n) → rvec s = vecOf (rnums top n s1).1 (rnums top n s1).2) := fun hb => rvec_of s n s1 hr hb
  rw [hr] at c33 hlen hle
  simp only at c33 hlen hle
  have HL : Hid (Small s1) := Nat.le_trans hlen hl
  have HA : Hid (a < w.heap.size) := h.lt
  have HLE : Hid (n ≤ 4611686018427387904) := hle
  generalize rvec s = y at HR1 HR2 ⊢
  clear h hl hlen hr hle
  go_enter Tryz.func58, Tryz.ntmps58
  go_wp2_with fail
  refine c33.mono ?_
  rintro e w1 ⟨rfl, h1, o1⟩
  have c60 := qfail_any a s1 w1 h1
  have H1 : Hid (Rd 76 w1 a s1) := h1
  have O1 : Hid (Only (· = a) w w1) := o1
  obtain ⟨p0, cp0, _, k1, _, _⟩ := h1.at_
  have c1 : w1.cell? ⟨a, 1, none⟩ = some (.bool s1.isNone) := cellOf k1 1
  clear c33 h1 o1 k1
  cases s1 with
  | none =>
    have HR' : Hid (y = ([], none)) := HR1.out (.inl rfl)
    rw [show (none : St).isNone = true from rfl] at c1
    go_wp2_with fail
    refine c60.mono ?_
    rintro e w2 ⟨rfl, m1, m2⟩
    have M1 : Hid (Rd 76 w2 a none) := m1
    have M2 : Hid (Only (· = a) w1 w2) := m2
    clear c60 m1 m2 c1
    go_wp2
    go_ret
    rw [HR'.out]
    exact ⟨none, 0, ⟨rfl, M1.out, O1.out.next M2.out⟩, lies_nil _ _, fun b o e => by cases e⟩
  | some bs =>
    rw [show (some bs : St).isNone = false from rfl] at c1
    by_cases h64 : 64 < n
    · have HR' : Hid (y = ([], none)) := HR1.out (.inr h64)
      have h64I : (64 : Int) < n := by omega
      clear h64
      go_wp2_with fail
      refine c60.mono ?_
      rintro e w2 ⟨rfl, m1, m2⟩
      have M1 : Hid (Rd 76 w2 a none) := m1
      have M2 : Hid (Only (· = a) w1 w2) := m2
      clear c60 m1 m2 c1
      go_wp2
      go_ret
      rw [HR'.out]
      exact ⟨none, 0, ⟨rfl, M1.out, O1.out.next M2.out⟩, lies_nil _ _, fun b o e => by cases e⟩
    · have HR' : Hid (y = vecOf (rnums top n (some bs)).1 (rnums top n (some bs)).2) := HR2.out (by rintro (e | e); cases e; exact h64 e)
      have h64I : ¬ (64 : Int) < n := by omega
      have hn64 : n ≤ 64 := by omega
      have HAW : Hid (a < w1.heap.size) := Nat.lt_of_lt_of_le HA.out O1.out.size
      clear h64 c60 HR1 HR2 HLE
      go_wp2_with fail
      go_loopw [4, 5] (fun vv kk wr => ∃ i : Nat, kk = .int .i64 i ∧ i ≤ n ∧ Hid (Rd 76 wr a (rnums top i (some bs)).2) ∧ Hid (wr.ownsRow w1.heap.size 2 1 vv i ((rnums top i (some bs)).1.map nv)) ∧ Hid (Only (· = a) w1 wr)) (fun _ kk _ => n - (intOf kk).toNat)
      case atStart => exact ⟨0, rfl, by omega, H1, World.ownsRow_nil _ _ _ _, Only.refl _ _⟩
      case round =>
        obtain ⟨i, rfl, hi, HR, HOW, HO⟩ := hrel
        by_cases hlt : i < n
        · have hltI : (i : Int) < n := by omega
          have c33 := qnum_any a _ wr HR.out (Nat.le_trans (rnums_len top i (some bs)) HL.out)
          obtain ⟨⟨x, s3⟩, hx⟩ : ∃ r, rnum 4611686018427387904 (rnums top i (some bs)).2 = r := ⟨_, rfl⟩
          have HX : Hid (rnums top (i + 1) (some bs) = ((rnums top i (some bs)).1 ++ [x], s3)) := by
            show _ = _
            rw [rnums_snoc, show rnum top (rnums top i (some bs)).2 = (x, s3) from hx]
          rw [hx] at c33
          have H1' : Hid (i ≤ 1000000) := by show _ ≤ _; omega
          have tok : True := trivial
          clear hx
          go_wp2_with fail
          refine c33.mono ?_
          rintro e w2 ⟨rfl, m1, m2⟩
          have M1 : Hid (Rd 76 w2 a s3) := m1
          have M2 : Hid (Only (· = a) wr w2) := m2
          have HOW2 : Hid (w2.ownsRow w1.heap.size 2 1 u4 i ((rnums top i (some bs)).1.map nv)) := m2.owns HOW.out (fun b hb e => by have := (own_lt HOW.out hb).1; have := HAW.out; omega)
          have HZ2 : Hid (w1.heap.size ≤ w2.heap.size) := Nat.le_trans HO.out.size m2.size
          clear c33 m1 m2
          go_wp2_with (have tk := tok; refine wpList_append_num rfl _ _ 26 2 rfl Tryz.underlying26 Tryz.info2 w1.heap.size _ i _ rfl w2 x rfl HOW2 rfl H1' HZ2 ?_; clear tk tok; intro v' w3 K1 K2 K3)
          go_roundw
          case rel =>
            have hO : Only (fun b => w1.heap.size ≤ b) w2 w3 := (Only.alloc _ w2 _).next (Only.grown K2.out (fun b hb => (own_lt HOW2.out hb).1))
            refine ⟨i + 1, by go_num, by omega, ?_, ?_, ?_⟩
            · rw [HX.out]; exact M1.out.above hO (fun b hb => Nat.lt_of_lt_of_le HAW.out hb)
            · rw [HX.out, List.map_append]; exact K1
            · exact (HO.out.next M2.out).trans hO (fun b hb => .inr hb)
          case measure => simp [intOf]; omega
        · obtain rfl : i = n := by omega
          have hvl := rnums_length top i (some bs)
          obtain ⟨⟨vs, s2⟩, hr⟩ : ∃ r, rnums top i (some bs) = r := ⟨_, rfl⟩
          have hR := HR.out
          have hOW := HOW.out
          have hY := HR'.out
          rw [hr] at hR hOW hY hvl
          simp only at hR hOW hY hvl
          have c60 := qfail_any a s2 wr hR
          obtain ⟨hl0, p, cp, hu4, hcp, hlies, hob⟩ := owns_lies hOW
          obtain ⟨p0', cp0', hpl', k1, kk1, kk2, _⟩ := hR.at_
          have c1 : wr.cell? ⟨a, 1, none⟩ = some (.bool s2.isNone) := cellOf k1 1
          rw [List.length_map, hvl] at hu4
          subst hu4
          have HRD : Hid (Rd 76 wr a s2) := hR
          have HLI : Hid (Lies wr p (vs.map nv)) := hlies
          have HFR : Hid (∀ b o, p = some ⟨b, o, none⟩ → w.heap.size ≤ b) := fun b o e => Nat.le_trans O1.out.size (own_lt hOW (hob b o e)).1
          have HVL : Hid (vs.length = i) := hvl
          have c58 := may_any p (zs vs) cp wr (by rw [zs_length]; omega) (by rw [zs_nv]; exact hlies)
          rw [zs_length, hvl] at c58
          clear hlt hR hOW hl0 hlies hob hpl' k1 kk1 kk2 hr hcp HR HOW HR'
          cases s2 with
          | none =>
            have HY : Hid (y = ([], none)) := hY
            rw [show (none : St).isNone = true from rfl] at c1
            clear hY c58 hvl
            go_wp2_with fail
            refine c60.mono ?_
            rintro e w3 ⟨rfl, m1, m2⟩
            have M1 : Hid (Rd 76 w3 a none) := m1
            have M2 : Hid (Only (· = a) wr w3) := m2
            clear c60 m1 m2 c1
            go_wp2
            go_ret
            rw [HY.out]
            exact ⟨none, 0, ⟨rfl, M1.out, (O1.out.next HO.out).next M2.out⟩, lies_nil _ _, fun b o e => by cases e⟩
          | some b2 =>
            rw [show (some b2 : St).isNone = false from rfl] at c1
            by_cases hx : ∃ x ∈ vs, mtime < x
            · have HY : Hid (y = ([], none)) := hY.trans (if_pos (.inl hx))
              rw [mayB_no vs hx] at c58
              clear hY hvl hx
              go_wp2_with (first | (go_at_call 23; refine Calls_on c58 ?_) | fail)
              refine c60.mono ?_
              rintro e w3 ⟨rfl, m1, m2⟩
              have M1 : Hid (Rd 76 w3 a none) := m1
              have M2 : Hid (Only (· = a) wr w3) := m2
              clear c60 m1 m2 c1
              go_wp2
              go_ret
              rw [HY.out]
              exact ⟨none, 0, ⟨rfl, M1.out, (O1.out.next HO.out).next M2.out⟩, lies_nil _ _, fun b o e => by cases e⟩
            · rw [mayB_yes vs (by omega) (fun x hm => by rcases Nat.lt_or_ge mtime x with h | h; exact absurd ⟨x, hm, h⟩ hx; exact h)] at c58
              rcases vs.eq_nil_or_concat with h0 | ⟨L, x, h0⟩
              · subst h0
                have HY : Hid (y = ([], some b2)) := hY.trans (by unfold vecOf; simp)
                have hi0 : i = 0 := hvl.symm
                subst hi0
                clear hY hvl hx c60
                go_wp2_with (go_at_call 23; refine Calls_on c58 ?_)
                go_ret
                rw [HY.out]
                exact ⟨p, cp, ⟨rfl, HRD.out, O1.out.next HO.out⟩, HLI.out, HFR.out⟩
              · rw [List.concat_eq_append] at h0
                have hil : i = L.length + 1 := by rw [h0] at hvl; simpa using hvl.symm
                obtain ⟨b, o, e, hc⟩ := HLI.out (by simp; omega)
                subst e
                have c2 : wr.cell? ⟨b, o + L.length, none⟩ = some (.int .i64 x) := hc L.length _ (by rw [List.getElem?_map, h0]; simp)
                have hLb : L.length ≤ 64 := by omega
                subst hil
                by_cases hz : x = 0
                · subst hz
                  have HY : Hid (y = ([], none)) := hY.trans (if_pos (.inr (by rw [h0]; simp)))
                  clear hY hvl hx hc h0
                  go_wp2_with (first | (go_at_call 23; refine Calls_on c58 ?_) | fail)
                  refine c60.mono ?_
                  rintro e w3 ⟨rfl, m1, m2⟩
                  have M1 : Hid (Rd 76 w3 a none) := m1
                  have M2 : Hid (Only (· = a) wr w3) := m2
                  clear c60 m1 m2 c1
                  go_wp2
                  go_ret
                  rw [HY.out]
                  exact ⟨none, 0, ⟨rfl, M1.out, (O1.out.next HO.out).next M2.out⟩, lies_nil _ _, fun b o e => by cases e⟩
                · have HY : Hid (y = (vs, some b2)) := hY.trans (if_neg (by rintro (h | h); exact hx h; rw [h0] at h; simp at h; exact hz h))
                  have hz' : ((x : Int) == 0) = false := by simpa using hz
                  clear hY hx hc h0 c60 hvl
                  go_wp2_with (go_at_call 23; refine Calls_on c58 ?_)
                  go_ret
                  rw [HY.out]
                  exact ⟨_, cp, ⟨by rw [HVL.out]; rfl, HRD.out, O1.out.next HO.out⟩, HLI.out, HFR.out⟩

end Go.Proofs.YtegjageenofbjaaGreat.Cd
