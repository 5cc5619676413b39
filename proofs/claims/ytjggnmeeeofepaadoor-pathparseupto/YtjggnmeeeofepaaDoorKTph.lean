/-
  The law of PathParse.
-/
import Derived.Test.YtjggnmeeeofepaaDoorKTpg

namespace Go.Proofs.YtjggnmeeeofepaaDoor.Ck.Sh
open Go.RowKit Go.Lib

attribute [local go_sem] Oper.semAt_some

/-- What the law's own loop has found of the first i names. -/
def FrI (P Q : List (List UInt8)) (i : Nat) (b : Bool) : Prop := b = (decide (P.length < Q.length) && decide (P.take i = Q.take i))
theorem FrI.start (P Q : List (List UInt8)) : FrI P Q 0 (decide (P.length < Q.length)) := by simp [FrI]
theorem FrI.lt {P Q : List (List UInt8)} {i : Nat} (h : FrI P Q i true) : P.length < Q.length := by
  unfold FrI at h
  have := h.symm
  simp at this
  exact this.1
theorem FrI.next {P Q : List (List UInt8)} {i : Nat} {x y : List UInt8} (h : FrI P Q i true) (hx : P[i]? = some x) (hy : Q[i]? = some y) : FrI P Q (i + 1) (decide (x = y)) := by
  have hl := h.lt
  unfold FrI at h ⊢
  rw [decide_eq_true hl, Bool.true_and] at h ⊢
  have h' : P.take i = Q.take i := by simpa using h.symm
  rw [List.take_add_one, List.take_add_one, hx, hy, h']
  by_cases hxy : x = y
  · rw [decide_eq_true hxy, hxy]; simp
  · rw [decide_eq_false hxy]
    simp [hxy]
theorem FrI.all {P Q : List (List UInt8)} {b : Bool} (h : FrI P Q P.length b) : aboveB P Q = b := by
  unfold FrI at h
  rw [List.take_length] at h
  exact h.symm
theorem FrI.none {P Q : List (List UInt8)} {i : Nat} (h : FrI P Q i false) (hi : i ≤ P.length) : aboveB P Q = false := by
  unfold FrI at h
  unfold aboveB
  by_cases hl : P.length < Q.length
  · rw [decide_eq_true hl, Bool.true_and] at h ⊢
    rw [decide_eq_false]
    intro e
    have h' : ¬ P.take i = Q.take i := by simpa using h.symm
    apply h'
    rw [e, List.take_take, show min i P.length = i by omega]
  · rw [decide_eq_false hl, Bool.false_and]

theorem join_le (Q : List (List UInt8)) : (Lib.join Q [47]).length ≤ (Lib.joinTail [47] Q).length := by
  cases Q with
  | nil => exact Nat.le_refl _
  | cons x r =>
    rw [Lib.join_cons]
    unfold Lib.joinTail
    simp
theorem path_le {P : List (List UInt8)} {l : List UInt8} (h : pathL P = l) : (Lib.join P [47]).length ≤ l.length := by
  rw [← h, path_join]
  simp

set_option maxRecDepth 8000 in
set_option maxRecDepth 8000 in
set_option maxHeartbeats 4000000 in
theorem pathparse_law_00 (s : ByteArray) (l : List UInt8) (hl : l.length ≤ 1100) (hs : 1100 < s.size ∧ s.extract 0 1100 = bas l) (Q : List (List UInt8)) (pq : Option Addr) (nq cq : Nat) (hq : 70 < nq ∧ Q.length = 70) (hcq : nq ≤ cq)
    (hQl : ∀ x ∈ Q, x.length < 1000000000000000) (hQj : (Lib.joinTail [47] Q).length < 100000000000000) (hnq : nq < 1000000000000000) (w : World) (hL : Lb w) (hQ : Nms w pq Q) :
    Calls Tryd.prog 3 #[.string s, .slice pq nq cq] w fun e w' => e = .returned (.bool true) ∧ Below w.heap.size w w' := by
  have cb := fun W (hW : Lb W) => pbegun_any W hW
  have cp := fun W (hW : Lb W) => pparse_any l (by omega) W hW
  have cr := fun W => rparse_any l (by omega) W
  have HP : Hid (parseE l = 0 → pathL (nmsOf l) = l) := fun h => path_parse h
  have HPl : Hid ((nmsOf l).length ≤ 1100) := by
    show _ ≤ _
    unfold nmsOf
    split
    · unfold namesOf
      split
      · simp
      · rw [cutAt_len]
        have := List.count_le_length (l := l.drop 1) (a := (47 : UInt8))
        rw [List.length_drop] at this
        omega
    · simp
  have HQL : Hid (Q.length ≤ 70) := by show _ ≤ _; omega
  simp only [ParseA] at cp cr
  have cJ := fun W (h : Nms W pq Q) => pjoin_any Q pq cq (by omega) (by omega) (Nat.le_trans (join_le Q) (by omega)) W h
  have cR := fun W (h : Nms W pq Q) => rjoin_any Q (by omega) (by omega) pq cq W h
  have cF := fun W (h : Nms W pq Q) => fresh_any Q hQl (by omega) pq cq W h
  have cG := fun W (h : Nms W pq Q) => rfresh_any Q hQl (by omega) pq cq W h
  generalize parseE l = E at cp cr HP
  generalize nmsOf l = P at cp cr HP HPl
  generalize pathL Q = z at cJ cR
  generalize freshE Q = F at cF cG
  have q1 : ((bas z).toList == (bas z).toList) = true := by simp
  have q2 : ((bas l).toList == (bas l).toList) = true := by simp
  have q3 : (F == F) = true := by simp
  have q4 : (E != E) = false := by simp
  have q5 : ((P.length : Int) != (P.length : Int)) = false := by simp
  have hPb := HPl.out
  obtain ⟨h1, hx⟩ := hs
  obtain ⟨h2, h3⟩ := hq
  have h1I : (1100 : Int) < (s.size : Int) := by omega
  have h2I : (70 : Int) < (nq : Int) := by omega
  have hcI : (70 : Int) ≤ (cq : Int) := by omega
  have hQm : Q.length = 70 := h3
  have HQc : Hid (Q.length ≤ cq) := by show _ ≤ _; omega
  have HFS : Hid (FrI P Q 0 (decide ((P.length : Int) < (70 : Int)))) := by
    show FrI _ _ _ _
    have e : decide ((P.length : Int) < (70 : Int)) = decide (P.length < Q.length) := by rw [hQm]; exact decide_eq_decide.2 (by omega)
    rw [e]; exact FrI.start P Q
  rw [hQm] at cJ cR cF cG
  clear h1 h2
  have HLo := Lib.hid hL
  have HNQ := Lib.hid hQ
  clear hL hQ
  go_enter Tryd.func3, Tryd.ntmps3
  go_wp2_with (first
    | (go_at_call 5
       refine (cb _ HLo.out).mono ?_
       rintro e w1 ⟨rfl, hb1⟩
       have b1 := Lib.hid hb1
       clear hb1 cb)
    | (go_at_call 6
       refine (cp _ (HLo.out.below b1.out)).mono ?_
       rintro e w2 ⟨p1, c1, rfl, hn, hc, hb2⟩
       have b2 := Lib.hid (below_then b1.out hb2)
       have N1 := Lib.hid hn
       have C1 := Lib.hid hc
       clear hb2 hn hc cp)
    | (go_at_call 7
       refine (cr _).mono ?_
       rintro e w3 ⟨p2, c2, rfl, hn, hc, hb3⟩
       have b3 := Lib.hid (below_then b2.out hb3)
       have M1 := Lib.hid (N1.out.below hb3)
       have M2 := Lib.hid hn
       clear hb3 hn hc cr))
  go_loopw [10] (fun ii wr => ∃ i : Nat, ii = .int .i64 i ∧ i ≤ P.length ∧ Hid (Below w.heap.size w wr ∧ Nms wr p1 P ∧ Nms wr p2 P)) (fun ii _ => P.length - (RowKit.intOf ii).toNat)
  case atStart => exact ⟨0, rfl, Nat.zero_le _, b3.out, M1.out, M2.out⟩
  case round =>
    obtain ⟨i, rfl, hi, HI⟩ := hrel
    by_cases hlt : i < P.length
    · have hltI : (i : Int) < (P.length : Int) := by omega
      obtain ⟨x, hx⟩ : ∃ x, P[i]? = some x := ⟨_, List.getElem?_eq_getElem hlt⟩
      obtain ⟨g1, o1, hp1, x1⟩ := HI.out.2.1 i x hx
      obtain ⟨g2, o2, hp2, x2⟩ := HI.out.2.2 i x hx
      subst hp1 hp2
      have hxx : ((bas x).toList == (bas x).toList) = true := by simp
      clear hx
      go_wp2_with fail
      go_region
      all_goals go_wp2
      all_goals exact ⟨⟨i + 1, by simp, by omega, ⟨below_then HI.out.1 (below_drewN wr 1), HI.out.2.1.below (below_drewN wr 1), HI.out.2.2.below (below_drewN wr 1)⟩⟩, by simp [RowKit.intOf]; omega⟩
    · obtain rfl : i = P.length := by omega
      obtain ⟨wo, hwo⟩ : ∃ wo : World, wo = wr := ⟨_, rfl⟩
      rw [← hwo] at HI ⊢
      clear hwo hlt hi
      go_wp2_with fail
      go_loopw [11, 12] (fun ff ii wr => ∃ (i : Nat) (b : Bool), ff = .bool b ∧ ii = .int .i64 i ∧ i ≤ P.length ∧ Hid (FrI P Q i b ∧ Below w.heap.size w wr ∧ Nms wr p1 P)) (fun _ ii _ => P.length - (RowKit.intOf ii).toNat)
      case atStart => exact ⟨0, _, rfl, rfl, Nat.zero_le _, HFS.out, HI.out.1, HI.out.2.1⟩
      case round =>
        obtain ⟨i, b, rfl, rfl, hi, HJ⟩ := hrel
        by_cases hgo : i < P.length ∧ b = true
        · obtain ⟨hlt, hbt⟩ := hgo
          subst hbt
          have hltI : (i : Int) < (P.length : Int) := by omega
          have hPQ := HJ.out.1.lt
          rw [hQm] at hPQ
          have hltQ : (i : Int) < (70 : Int) := by omega
          obtain ⟨x, hx⟩ : ∃ x, P[i]? = some x := ⟨_, List.getElem?_eq_getElem hlt⟩
          obtain ⟨y, hy⟩ : ∃ y, Q[i]? = some y := ⟨_, List.getElem?_eq_getElem (by omega)⟩
          obtain ⟨g1, o1, hp1, x1⟩ := HJ.out.2.2 i x hx
          obtain ⟨g2, o2, hp2, x2⟩ := (HNQ.out.below HJ.out.2.1) i y hy
          subst hp1 hp2
          have HF := Lib.hid (HJ.out.1.next hx hy)
          have hxy := bas_beq x y
          generalize decide (x = y) = r at HF hxy
          clear hx hy hPQ
          go_wp2_with fail
          go_region
          all_goals go_wp2
          all_goals exact ⟨⟨i + 1, r, by simp, by simp, by omega, ⟨HF.out, below_then HJ.out.2.1 (below_drewN wr 1), HJ.out.2.2.below (below_drewN wr 1)⟩⟩, by simp [RowKit.intOf]; omega⟩
        · have HA : Hid (aboveB P Q = b) := by
            by_cases hib : i = P.length
            · subst hib
              exact HJ.out.1.all
            · have hbf : b = false := by
                cases b with
                | false => rfl
                | true => exact absurd ⟨by omega, rfl⟩ hgo
              have := HJ.out.1
              rw [hbf] at this ⊢
              exact this.none hi
          have cA := fun W (h1 : Nms W p1 P) (h2 : Nms W pq Q) => above_any P Q p1 pq c1 cq (Nat.lt_of_le_of_lt HPl.out (by decide)) HQc.out W h1 h2
          rw [HA.out, hQm] at cA
          have NP := Lib.hid HJ.out.2.2
          have B4 := Lib.hid HJ.out.2.1
          have NQ := Lib.hid (HNQ.out.below HJ.out.2.1)
          have hbb : (b == b) = true := by simp
          have hend : ((i : Int) < (P.length : Int) ∧ b = true) → False := fun h => hgo ⟨by omega, h.2⟩
          have tok1 := True.intro
          by_cases hE : E = 0
          · have cP := fun W (h1 : Nms W p1 P) => pjoin_any P p1 c1 C1.out (Nat.le_trans HPl.out (by decide)) (Nat.le_trans (path_le (HP.out hE)) (by omega)) W h1
            rw [HP.out hE] at cP
            have hE0 : (E != 0) = false := by rw [hE]; rfl
            by_cases hib : i = P.length
            · have hnI : ¬ (i : Int) < (P.length : Int) := by omega
              clear hend hgo HA
              go_wp2_with (first
                | (go_at_call 8
                   have _t := tok1
                   refine (cP _ NP.out).mono ?_
                   rintro e w5 ⟨rfl, hb5⟩
                   have B5 := Lib.hid (below_then B4.out hb5)
                   have NP5 := Lib.hid (NP.out.below hb5)
                   have NQ5 := Lib.hid (NQ.out.below hb5)
                   clear hb5 cP tok1)
                | (go_at_call 8
                   refine (cJ _ NQ5.out).mono ?_
                   rintro e w6 ⟨rfl, hb6⟩
                   have B6 := Lib.hid (below_then B5.out hb6)
                   have NP6 := Lib.hid (NP5.out.below hb6)
                   have NQ6 := Lib.hid (NQ5.out.below hb6)
                   clear hb6 cJ)
                | (go_at_call 9; refine Calls_on (cR _ NQ6.out) ?_)
                | (go_at_call 10; refine Calls_on (cF _ NQ6.out) ?_)
                | (go_at_call 11; refine Calls_on (cG _ NQ6.out) ?_)
                | (go_at_call 12
                   refine (cA _ NP6.out NQ6.out).mono ?_
                   rintro e w7 ⟨rfl, hb7⟩
                   have B7 := Lib.hid (below_then B6.out hb7)
                   clear hb7 cA))
              go_ret
              exact ⟨rfl, B7.out⟩
            · have hbf : b = false := by
                cases b with
                | false => rfl
                | true => exact absurd ⟨by omega, rfl⟩ hgo
              have hyI : (i : Int) < (P.length : Int) := by omega
              subst hbf
              clear hend hgo HA
              go_wp2_with (first
                | (go_at_call 8
                   have _t := tok1
                   refine (cP _ NP.out).mono ?_
                   rintro e w5 ⟨rfl, hb5⟩
                   have B5 := Lib.hid (below_then B4.out hb5)
                   have NP5 := Lib.hid (NP.out.below hb5)
                   have NQ5 := Lib.hid (NQ.out.below hb5)
                   clear hb5 cP tok1)
                | (go_at_call 8
                   refine (cJ _ NQ5.out).mono ?_
                   rintro e w6 ⟨rfl, hb6⟩
                   have B6 := Lib.hid (below_then B5.out hb6)
                   have NP6 := Lib.hid (NP5.out.below hb6)
                   have NQ6 := Lib.hid (NQ5.out.below hb6)
                   clear hb6 cJ)
                | (go_at_call 9; refine Calls_on (cR _ NQ6.out) ?_)
                | (go_at_call 10; refine Calls_on (cF _ NQ6.out) ?_)
                | (go_at_call 11; refine Calls_on (cG _ NQ6.out) ?_)
                | (go_at_call 12
                   refine (cA _ NP6.out NQ6.out).mono ?_
                   rintro e w7 ⟨rfl, hb7⟩
                   have B7 := Lib.hid (below_then B6.out hb7)
                   clear hb7 cA))
              go_ret
              exact ⟨rfl, B7.out⟩
          · have hE0 : (E != 0) = true := by simpa using hE
            by_cases hib : i = P.length
            · have hnI : ¬ (i : Int) < (P.length : Int) := by omega
              clear hend hgo HA
              go_wp2_with (first
                | (go_at_call 8
                   refine (cJ _ NQ.out).mono ?_
                   rintro e w6 ⟨rfl, hb6⟩
                   have B6 := Lib.hid (below_then B4.out hb6)
                   have NP6 := Lib.hid (NP.out.below hb6)
                   have NQ6 := Lib.hid (NQ.out.below hb6)
                   clear hb6 cJ)
                | (go_at_call 9; refine Calls_on (cR _ NQ6.out) ?_)
                | (go_at_call 10; refine Calls_on (cF _ NQ6.out) ?_)
                | (go_at_call 11; refine Calls_on (cG _ NQ6.out) ?_)
                | (go_at_call 12
                   refine (cA _ NP6.out NQ6.out).mono ?_
                   rintro e w7 ⟨rfl, hb7⟩
                   have B7 := Lib.hid (below_then B6.out hb7)
                   clear hb7 cA))
              go_ret
              exact ⟨rfl, B7.out⟩
            · have hbf : b = false := by
                cases b with
                | false => rfl
                | true => exact absurd ⟨by omega, rfl⟩ hgo
              have hyI : (i : Int) < (P.length : Int) := by omega
              subst hbf
              clear hend hgo HA
              go_wp2_with (first
                | (go_at_call 8
                   refine (cJ _ NQ.out).mono ?_
                   rintro e w6 ⟨rfl, hb6⟩
                   have B6 := Lib.hid (below_then B4.out hb6)
                   have NP6 := Lib.hid (NP.out.below hb6)
                   have NQ6 := Lib.hid (NQ.out.below hb6)
                   clear hb6 cJ)
                | (go_at_call 9; refine Calls_on (cR _ NQ6.out) ?_)
                | (go_at_call 10; refine Calls_on (cF _ NQ6.out) ?_)
                | (go_at_call 11; refine Calls_on (cG _ NQ6.out) ?_)
                | (go_at_call 12
                   refine (cA _ NP6.out NQ6.out).mono ?_
                   rintro e w7 ⟨rfl, hb7⟩
                   have B7 := Lib.hid (below_then B6.out hb7)
                   clear hb7 cA))
              go_ret
              exact ⟨rfl, B7.out⟩

set_option maxRecDepth 8000 in
set_option maxRecDepth 8000 in
set_option maxHeartbeats 4000000 in
theorem pathparse_law_01 (s : ByteArray) (l : List UInt8) (hl : l.length ≤ 1100) (hs : 1100 < s.size ∧ s.extract 0 1100 = bas l) (Q : List (List UInt8)) (pq : Option Addr) (nq cq : Nat) (hq : ¬ 70 < nq ∧ nq = Q.length) (hcq : nq ≤ cq)
    (hQl : ∀ x ∈ Q, x.length < 1000000000000000) (hQj : (Lib.joinTail [47] Q).length < 100000000000000) (hnq : nq < 1000000000000000) (w : World) (hL : Lb w) (hQ : Nms w pq Q) :
    Calls Tryd.prog 3 #[.string s, .slice pq nq cq] w fun e w' => e = .returned (.bool true) ∧ Below w.heap.size w w' := by
  have cb := fun W (hW : Lb W) => pbegun_any W hW
  have cp := fun W (hW : Lb W) => pparse_any l (by omega) W hW
  have cr := fun W => rparse_any l (by omega) W
  have HP : Hid (parseE l = 0 → pathL (nmsOf l) = l) := fun h => path_parse h
  have HPl : Hid ((nmsOf l).length ≤ 1100) := by
    show _ ≤ _
    unfold nmsOf
    split
    · unfold namesOf
      split
      · simp
      · rw [cutAt_len]
        have := List.count_le_length (l := l.drop 1) (a := (47 : UInt8))
        rw [List.length_drop] at this
        omega
    · simp
  have HQL : Hid (Q.length ≤ 70) := by show _ ≤ _; omega
  simp only [ParseA] at cp cr
  have cJ := fun W (h : Nms W pq Q) => pjoin_any Q pq cq (by omega) (by omega) (Nat.le_trans (join_le Q) (by omega)) W h
  have cR := fun W (h : Nms W pq Q) => rjoin_any Q (by omega) (by omega) pq cq W h
  have cF := fun W (h : Nms W pq Q) => fresh_any Q hQl (by omega) pq cq W h
  have cG := fun W (h : Nms W pq Q) => rfresh_any Q hQl (by omega) pq cq W h
  generalize parseE l = E at cp cr HP
  generalize nmsOf l = P at cp cr HP HPl
  generalize pathL Q = z at cJ cR
  generalize freshE Q = F at cF cG
  have q1 : ((bas z).toList == (bas z).toList) = true := by simp
  have q2 : ((bas l).toList == (bas l).toList) = true := by simp
  have q3 : (F == F) = true := by simp
  have q4 : (E != E) = false := by simp
  have q5 : ((P.length : Int) != (P.length : Int)) = false := by simp
  have hPb := HPl.out
  obtain ⟨h1, hx⟩ := hs
  obtain ⟨h2, h3⟩ := hq
  have h1I : (1100 : Int) < (s.size : Int) := by omega
  subst h3
  have h2I : ¬ (70 : Int) < (Q.length : Int) := by omega
  obtain ⟨m, hQm⟩ : ∃ m, Q.length = m := ⟨_, rfl⟩
  rw [hQm] at h2I
  rw [hQm]
  have HQc : Hid (Q.length ≤ cq) := by show _ ≤ _; omega
  have HFS : Hid (FrI P Q 0 (decide (P.length < m))) := by
    show FrI _ _ _ _
    have e : decide (P.length < m) = decide (P.length < Q.length) := by rw [hQm]
    rw [e]; exact FrI.start P Q
  rw [hQm] at cJ cR cF cG
  clear h1 h2
  have HLo := Lib.hid hL
  have HNQ := Lib.hid hQ
  clear hL hQ
  go_enter Tryd.func3, Tryd.ntmps3
  go_wp2_with (first
    | (go_at_call 5
       refine (cb _ HLo.out).mono ?_
       rintro e w1 ⟨rfl, hb1⟩
       have b1 := Lib.hid hb1
       clear hb1 cb)
    | (go_at_call 6
       refine (cp _ (HLo.out.below b1.out)).mono ?_
       rintro e w2 ⟨p1, c1, rfl, hn, hc, hb2⟩
       have b2 := Lib.hid (below_then b1.out hb2)
       have N1 := Lib.hid hn
       have C1 := Lib.hid hc
       clear hb2 hn hc cp)
    | (go_at_call 7
       refine (cr _).mono ?_
       rintro e w3 ⟨p2, c2, rfl, hn, hc, hb3⟩
       have b3 := Lib.hid (below_then b2.out hb3)
       have M1 := Lib.hid (N1.out.below hb3)
       have M2 := Lib.hid hn
       clear hb3 hn hc cr))
  go_loopw [10] (fun ii wr => ∃ i : Nat, ii = .int .i64 i ∧ i ≤ P.length ∧ Hid (Below w.heap.size w wr ∧ Nms wr p1 P ∧ Nms wr p2 P)) (fun ii _ => P.length - (RowKit.intOf ii).toNat)
  case atStart => exact ⟨0, rfl, Nat.zero_le _, b3.out, M1.out, M2.out⟩
  case round =>
    obtain ⟨i, rfl, hi, HI⟩ := hrel
    by_cases hlt : i < P.length
    · have hltI : (i : Int) < (P.length : Int) := by omega
      obtain ⟨x, hx⟩ : ∃ x, P[i]? = some x := ⟨_, List.getElem?_eq_getElem hlt⟩
      obtain ⟨g1, o1, hp1, x1⟩ := HI.out.2.1 i x hx
      obtain ⟨g2, o2, hp2, x2⟩ := HI.out.2.2 i x hx
      subst hp1 hp2
      have hxx : ((bas x).toList == (bas x).toList) = true := by simp
      clear hx
      go_wp2_with fail
      go_region
      all_goals go_wp2
      all_goals exact ⟨⟨i + 1, by simp, by omega, ⟨below_then HI.out.1 (below_drewN wr 1), HI.out.2.1.below (below_drewN wr 1), HI.out.2.2.below (below_drewN wr 1)⟩⟩, by simp [RowKit.intOf]; omega⟩
    · obtain rfl : i = P.length := by omega
      obtain ⟨wo, hwo⟩ : ∃ wo : World, wo = wr := ⟨_, rfl⟩
      rw [← hwo] at HI ⊢
      clear hwo hlt hi
      go_wp2_with fail
      go_loopw [11, 12] (fun ff ii wr => ∃ (i : Nat) (b : Bool), ff = .bool b ∧ ii = .int .i64 i ∧ i ≤ P.length ∧ Hid (FrI P Q i b ∧ Below w.heap.size w wr ∧ Nms wr p1 P)) (fun _ ii _ => P.length - (RowKit.intOf ii).toNat)
      case atStart => exact ⟨0, _, rfl, rfl, Nat.zero_le _, HFS.out, HI.out.1, HI.out.2.1⟩
      case round =>
        obtain ⟨i, b, rfl, rfl, hi, HJ⟩ := hrel
        by_cases hgo : i < P.length ∧ b = true
        · obtain ⟨hlt, hbt⟩ := hgo
          subst hbt
          have hltI : (i : Int) < (P.length : Int) := by omega
          have hPQ := HJ.out.1.lt
          rw [hQm] at hPQ
          have hltQ : (i : Int) < (m : Int) := by omega
          obtain ⟨x, hx⟩ : ∃ x, P[i]? = some x := ⟨_, List.getElem?_eq_getElem hlt⟩
          obtain ⟨y, hy⟩ : ∃ y, Q[i]? = some y := ⟨_, List.getElem?_eq_getElem (by omega)⟩
          obtain ⟨g1, o1, hp1, x1⟩ := HJ.out.2.2 i x hx
          obtain ⟨g2, o2, hp2, x2⟩ := (HNQ.out.below HJ.out.2.1) i y hy
          subst hp1 hp2
          have HF := Lib.hid (HJ.out.1.next hx hy)
          have hxy := bas_beq x y
          generalize decide (x = y) = r at HF hxy
          clear hx hy hPQ
          go_wp2_with fail
          go_region
          all_goals go_wp2
          all_goals exact ⟨⟨i + 1, r, by simp, by simp, by omega, ⟨HF.out, below_then HJ.out.2.1 (below_drewN wr 1), HJ.out.2.2.below (below_drewN wr 1)⟩⟩, by simp [RowKit.intOf]; omega⟩
        · have HA : Hid (aboveB P Q = b) := by
            by_cases hib : i = P.length
            · subst hib
              exact HJ.out.1.all
            · have hbf : b = false := by
                cases b with
                | false => rfl
                | true => exact absurd ⟨by omega, rfl⟩ hgo
              have := HJ.out.1
              rw [hbf] at this ⊢
              exact this.none hi
          have cA := fun W (h1 : Nms W p1 P) (h2 : Nms W pq Q) => above_any P Q p1 pq c1 cq (Nat.lt_of_le_of_lt HPl.out (by decide)) HQc.out W h1 h2
          rw [HA.out, hQm] at cA
          have NP := Lib.hid HJ.out.2.2
          have B4 := Lib.hid HJ.out.2.1
          have NQ := Lib.hid (HNQ.out.below HJ.out.2.1)
          have hbb : (b == b) = true := by simp
          have hend : ((i : Int) < (P.length : Int) ∧ b = true) → False := fun h => hgo ⟨by omega, h.2⟩
          have tok1 := True.intro
          by_cases hE : E = 0
          · have cP := fun W (h1 : Nms W p1 P) => pjoin_any P p1 c1 C1.out (Nat.le_trans HPl.out (by decide)) (Nat.le_trans (path_le (HP.out hE)) (by omega)) W h1
            rw [HP.out hE] at cP
            have hE0 : (E != 0) = false := by rw [hE]; rfl
            by_cases hib : i = P.length
            · have hnI : ¬ (i : Int) < (P.length : Int) := by omega
              clear hend hgo HA
              go_wp2_with (first
                | (go_at_call 8
                   have _t := tok1
                   refine (cP _ NP.out).mono ?_
                   rintro e w5 ⟨rfl, hb5⟩
                   have B5 := Lib.hid (below_then B4.out hb5)
                   have NP5 := Lib.hid (NP.out.below hb5)
                   have NQ5 := Lib.hid (NQ.out.below hb5)
                   clear hb5 cP tok1)
                | (go_at_call 8
                   refine (cJ _ NQ5.out).mono ?_
                   rintro e w6 ⟨rfl, hb6⟩
                   have B6 := Lib.hid (below_then B5.out hb6)
                   have NP6 := Lib.hid (NP5.out.below hb6)
                   have NQ6 := Lib.hid (NQ5.out.below hb6)
                   clear hb6 cJ)
                | (go_at_call 9; refine Calls_on (cR _ NQ6.out) ?_)
                | (go_at_call 10; refine Calls_on (cF _ NQ6.out) ?_)
                | (go_at_call 11; refine Calls_on (cG _ NQ6.out) ?_)
                | (go_at_call 12
                   refine (cA _ NP6.out NQ6.out).mono ?_
                   rintro e w7 ⟨rfl, hb7⟩
                   have B7 := Lib.hid (below_then B6.out hb7)
                   clear hb7 cA))
              go_ret
              exact ⟨rfl, B7.out⟩
            · have hbf : b = false := by
                cases b with
                | false => rfl
                | true => exact absurd ⟨by omega, rfl⟩ hgo
              have hyI : (i : Int) < (P.length : Int) := by omega
              subst hbf
              clear hend hgo HA
              go_wp2_with (first
                | (go_at_call 8
                   have _t := tok1
                   refine (cP _ NP.out).mono ?_
                   rintro e w5 ⟨rfl, hb5⟩
                   have B5 := Lib.hid (below_then B4.out hb5)
                   have NP5 := Lib.hid (NP.out.below hb5)
                   have NQ5 := Lib.hid (NQ.out.below hb5)
                   clear hb5 cP tok1)
                | (go_at_call 8
                   refine (cJ _ NQ5.out).mono ?_
                   rintro e w6 ⟨rfl, hb6⟩
                   have B6 := Lib.hid (below_then B5.out hb6)
                   have NP6 := Lib.hid (NP5.out.below hb6)
                   have NQ6 := Lib.hid (NQ5.out.below hb6)
                   clear hb6 cJ)
                | (go_at_call 9; refine Calls_on (cR _ NQ6.out) ?_)
                | (go_at_call 10; refine Calls_on (cF _ NQ6.out) ?_)
                | (go_at_call 11; refine Calls_on (cG _ NQ6.out) ?_)
                | (go_at_call 12
                   refine (cA _ NP6.out NQ6.out).mono ?_
                   rintro e w7 ⟨rfl, hb7⟩
                   have B7 := Lib.hid (below_then B6.out hb7)
                   clear hb7 cA))
              go_ret
              exact ⟨rfl, B7.out⟩
          · have hE0 : (E != 0) = true := by simpa using hE
            by_cases hib : i = P.length
            · have hnI : ¬ (i : Int) < (P.length : Int) := by omega
              clear hend hgo HA
              go_wp2_with (first
                | (go_at_call 8
                   refine (cJ _ NQ.out).mono ?_
                   rintro e w6 ⟨rfl, hb6⟩
                   have B6 := Lib.hid (below_then B4.out hb6)
                   have NP6 := Lib.hid (NP.out.below hb6)
                   have NQ6 := Lib.hid (NQ.out.below hb6)
                   clear hb6 cJ)
                | (go_at_call 9; refine Calls_on (cR _ NQ6.out) ?_)
                | (go_at_call 10; refine Calls_on (cF _ NQ6.out) ?_)
                | (go_at_call 11; refine Calls_on (cG _ NQ6.out) ?_)
                | (go_at_call 12
                   refine (cA _ NP6.out NQ6.out).mono ?_
                   rintro e w7 ⟨rfl, hb7⟩
                   have B7 := Lib.hid (below_then B6.out hb7)
                   clear hb7 cA))
              go_ret
              exact ⟨rfl, B7.out⟩
            · have hbf : b = false := by
                cases b with
                | false => rfl
                | true => exact absurd ⟨by omega, rfl⟩ hgo
              have hyI : (i : Int) < (P.length : Int) := by omega
              subst hbf
              clear hend hgo HA
              go_wp2_with (first
                | (go_at_call 8
                   refine (cJ _ NQ.out).mono ?_
                   rintro e w6 ⟨rfl, hb6⟩
                   have B6 := Lib.hid (below_then B4.out hb6)
                   have NP6 := Lib.hid (NP.out.below hb6)
                   have NQ6 := Lib.hid (NQ.out.below hb6)
                   clear hb6 cJ)
                | (go_at_call 9; refine Calls_on (cR _ NQ6.out) ?_)
                | (go_at_call 10; refine Calls_on (cF _ NQ6.out) ?_)
                | (go_at_call 11; refine Calls_on (cG _ NQ6.out) ?_)
                | (go_at_call 12
                   refine (cA _ NP6.out NQ6.out).mono ?_
                   rintro e w7 ⟨rfl, hb7⟩
                   have B7 := Lib.hid (below_then B6.out hb7)
                   clear hb7 cA))
              go_ret
              exact ⟨rfl, B7.out⟩

set_option maxRecDepth 8000 in
set_option maxRecDepth 8000 in
set_option maxHeartbeats 4000000 in
theorem pathparse_law_10 (s : ByteArray) (l : List UInt8) (hl : l.length ≤ 1100) (hs : ¬ 1100 < s.size ∧ s = bas l) (Q : List (List UInt8)) (pq : Option Addr) (nq cq : Nat) (hq : 70 < nq ∧ Q.length = 70) (hcq : nq ≤ cq)
    (hQl : ∀ x ∈ Q, x.length < 1000000000000000) (hQj : (Lib.joinTail [47] Q).length < 100000000000000) (hnq : nq < 1000000000000000) (w : World) (hL : Lb w) (hQ : Nms w pq Q) :
    Calls Tryd.prog 3 #[.string s, .slice pq nq cq] w fun e w' => e = .returned (.bool true) ∧ Below w.heap.size w w' := by
  have cb := fun W (hW : Lb W) => pbegun_any W hW
  have cp := fun W (hW : Lb W) => pparse_any l (by omega) W hW
  have cr := fun W => rparse_any l (by omega) W
  have HP : Hid (parseE l = 0 → pathL (nmsOf l) = l) := fun h => path_parse h
  have HPl : Hid ((nmsOf l).length ≤ 1100) := by
    show _ ≤ _
    unfold nmsOf
    split
    · unfold namesOf
      split
      · simp
      · rw [cutAt_len]
        have := List.count_le_length (l := l.drop 1) (a := (47 : UInt8))
        rw [List.length_drop] at this
        omega
    · simp
  have HQL : Hid (Q.length ≤ 70) := by show _ ≤ _; omega
  simp only [ParseA] at cp cr
  have cJ := fun W (h : Nms W pq Q) => pjoin_any Q pq cq (by omega) (by omega) (Nat.le_trans (join_le Q) (by omega)) W h
  have cR := fun W (h : Nms W pq Q) => rjoin_any Q (by omega) (by omega) pq cq W h
  have cF := fun W (h : Nms W pq Q) => fresh_any Q hQl (by omega) pq cq W h
  have cG := fun W (h : Nms W pq Q) => rfresh_any Q hQl (by omega) pq cq W h
  generalize parseE l = E at cp cr HP
  generalize nmsOf l = P at cp cr HP HPl
  generalize pathL Q = z at cJ cR
  generalize freshE Q = F at cF cG
  have q1 : ((bas z).toList == (bas z).toList) = true := by simp
  have q2 : ((bas l).toList == (bas l).toList) = true := by simp
  have q3 : (F == F) = true := by simp
  have q4 : (E != E) = false := by simp
  have q5 : ((P.length : Int) != (P.length : Int)) = false := by simp
  have hPb := HPl.out
  obtain ⟨h1, rfl⟩ := hs
  obtain ⟨h2, h3⟩ := hq
  have hsz := bas_size l
  rw [hsz] at h1
  have h1I : ¬ (1100 : Int) < (l.length : Int) := by omega
  have h2I : (70 : Int) < (nq : Int) := by omega
  have hcI : (70 : Int) ≤ (cq : Int) := by omega
  have hQm : Q.length = 70 := h3
  have HQc : Hid (Q.length ≤ cq) := by show _ ≤ _; omega
  have HFS : Hid (FrI P Q 0 (decide ((P.length : Int) < (70 : Int)))) := by
    show FrI _ _ _ _
    have e : decide ((P.length : Int) < (70 : Int)) = decide (P.length < Q.length) := by rw [hQm]; exact decide_eq_decide.2 (by omega)
    rw [e]; exact FrI.start P Q
  rw [hQm] at cJ cR cF cG
  clear h1 h2
  have HLo := Lib.hid hL
  have HNQ := Lib.hid hQ
  clear hL hQ
  go_enter Tryd.func3, Tryd.ntmps3
  go_wp2_with (first
    | (go_at_call 5
       refine (cb _ HLo.out).mono ?_
       rintro e w1 ⟨rfl, hb1⟩
       have b1 := Lib.hid hb1
       clear hb1 cb)
    | (go_at_call 6
       refine (cp _ (HLo.out.below b1.out)).mono ?_
       rintro e w2 ⟨p1, c1, rfl, hn, hc, hb2⟩
       have b2 := Lib.hid (below_then b1.out hb2)
       have N1 := Lib.hid hn
       have C1 := Lib.hid hc
       clear hb2 hn hc cp)
    | (go_at_call 7
       refine (cr _).mono ?_
       rintro e w3 ⟨p2, c2, rfl, hn, hc, hb3⟩
       have b3 := Lib.hid (below_then b2.out hb3)
       have M1 := Lib.hid (N1.out.below hb3)
       have M2 := Lib.hid hn
       clear hb3 hn hc cr))
  go_loopw [10] (fun ii wr => ∃ i : Nat, ii = .int .i64 i ∧ i ≤ P.length ∧ Hid (Below w.heap.size w wr ∧ Nms wr p1 P ∧ Nms wr p2 P)) (fun ii _ => P.length - (RowKit.intOf ii).toNat)
  case atStart => exact ⟨0, rfl, Nat.zero_le _, b3.out, M1.out, M2.out⟩
  case round =>
    obtain ⟨i, rfl, hi, HI⟩ := hrel
    by_cases hlt : i < P.length
    · have hltI : (i : Int) < (P.length : Int) := by omega
      obtain ⟨x, hx⟩ : ∃ x, P[i]? = some x := ⟨_, List.getElem?_eq_getElem hlt⟩
      obtain ⟨g1, o1, hp1, x1⟩ := HI.out.2.1 i x hx
      obtain ⟨g2, o2, hp2, x2⟩ := HI.out.2.2 i x hx
      subst hp1 hp2
      have hxx : ((bas x).toList == (bas x).toList) = true := by simp
      clear hx
      go_wp2_with fail
      go_region
      all_goals go_wp2
      all_goals exact ⟨⟨i + 1, by simp, by omega, ⟨below_then HI.out.1 (below_drewN wr 1), HI.out.2.1.below (below_drewN wr 1), HI.out.2.2.below (below_drewN wr 1)⟩⟩, by simp [RowKit.intOf]; omega⟩
    · obtain rfl : i = P.length := by omega
      obtain ⟨wo, hwo⟩ : ∃ wo : World, wo = wr := ⟨_, rfl⟩
      rw [← hwo] at HI ⊢
      clear hwo hlt hi
      go_wp2_with fail
      go_loopw [11, 12] (fun ff ii wr => ∃ (i : Nat) (b : Bool), ff = .bool b ∧ ii = .int .i64 i ∧ i ≤ P.length ∧ Hid (FrI P Q i b ∧ Below w.heap.size w wr ∧ Nms wr p1 P)) (fun _ ii _ => P.length - (RowKit.intOf ii).toNat)
      case atStart => exact ⟨0, _, rfl, rfl, Nat.zero_le _, HFS.out, HI.out.1, HI.out.2.1⟩
      case round =>
        obtain ⟨i, b, rfl, rfl, hi, HJ⟩ := hrel
        by_cases hgo : i < P.length ∧ b = true
        · obtain ⟨hlt, hbt⟩ := hgo
          subst hbt
          have hltI : (i : Int) < (P.length : Int) := by omega
          have hPQ := HJ.out.1.lt
          rw [hQm] at hPQ
          have hltQ : (i : Int) < (70 : Int) := by omega
          obtain ⟨x, hx⟩ : ∃ x, P[i]? = some x := ⟨_, List.getElem?_eq_getElem hlt⟩
          obtain ⟨y, hy⟩ : ∃ y, Q[i]? = some y := ⟨_, List.getElem?_eq_getElem (by omega)⟩
          obtain ⟨g1, o1, hp1, x1⟩ := HJ.out.2.2 i x hx
          obtain ⟨g2, o2, hp2, x2⟩ := (HNQ.out.below HJ.out.2.1) i y hy
          subst hp1 hp2
          have HF := Lib.hid (HJ.out.1.next hx hy)
          have hxy := bas_beq x y
          generalize decide (x = y) = r at HF hxy
          clear hx hy hPQ
          go_wp2_with fail
          go_region
          all_goals go_wp2
          all_goals exact ⟨⟨i + 1, r, by simp, by simp, by omega, ⟨HF.out, below_then HJ.out.2.1 (below_drewN wr 1), HJ.out.2.2.below (below_drewN wr 1)⟩⟩, by simp [RowKit.intOf]; omega⟩
        · have HA : Hid (aboveB P Q = b) := by
            by_cases hib : i = P.length
            · subst hib
              exact HJ.out.1.all
            · have hbf : b = false := by
                cases b with
                | false => rfl
                | true => exact absurd ⟨by omega, rfl⟩ hgo
              have := HJ.out.1
              rw [hbf] at this ⊢
              exact this.none hi
          have cA := fun W (h1 : Nms W p1 P) (h2 : Nms W pq Q) => above_any P Q p1 pq c1 cq (Nat.lt_of_le_of_lt HPl.out (by decide)) HQc.out W h1 h2
          rw [HA.out, hQm] at cA
          have NP := Lib.hid HJ.out.2.2
          have B4 := Lib.hid HJ.out.2.1
          have NQ := Lib.hid (HNQ.out.below HJ.out.2.1)
          have hbb : (b == b) = true := by simp
          have hend : ((i : Int) < (P.length : Int) ∧ b = true) → False := fun h => hgo ⟨by omega, h.2⟩
          have tok1 := True.intro
          by_cases hE : E = 0
          · have cP := fun W (h1 : Nms W p1 P) => pjoin_any P p1 c1 C1.out (Nat.le_trans HPl.out (by decide)) (Nat.le_trans (path_le (HP.out hE)) (by omega)) W h1
            rw [HP.out hE] at cP
            have hE0 : (E != 0) = false := by rw [hE]; rfl
            by_cases hib : i = P.length
            · have hnI : ¬ (i : Int) < (P.length : Int) := by omega
              clear hend hgo HA
              go_wp2_with (first
                | (go_at_call 8
                   have _t := tok1
                   refine (cP _ NP.out).mono ?_
                   rintro e w5 ⟨rfl, hb5⟩
                   have B5 := Lib.hid (below_then B4.out hb5)
                   have NP5 := Lib.hid (NP.out.below hb5)
                   have NQ5 := Lib.hid (NQ.out.below hb5)
                   clear hb5 cP tok1)
                | (go_at_call 8
                   refine (cJ _ NQ5.out).mono ?_
                   rintro e w6 ⟨rfl, hb6⟩
                   have B6 := Lib.hid (below_then B5.out hb6)
                   have NP6 := Lib.hid (NP5.out.below hb6)
                   have NQ6 := Lib.hid (NQ5.out.below hb6)
                   clear hb6 cJ)
                | (go_at_call 9; refine Calls_on (cR _ NQ6.out) ?_)
                | (go_at_call 10; refine Calls_on (cF _ NQ6.out) ?_)
                | (go_at_call 11; refine Calls_on (cG _ NQ6.out) ?_)
                | (go_at_call 12
                   refine (cA _ NP6.out NQ6.out).mono ?_
                   rintro e w7 ⟨rfl, hb7⟩
                   have B7 := Lib.hid (below_then B6.out hb7)
                   clear hb7 cA))
              go_ret
              exact ⟨rfl, B7.out⟩
            · have hbf : b = false := by
                cases b with
                | false => rfl
                | true => exact absurd ⟨by omega, rfl⟩ hgo
              have hyI : (i : Int) < (P.length : Int) := by omega
              subst hbf
              clear hend hgo HA
              go_wp2_with (first
                | (go_at_call 8
                   have _t := tok1
                   refine (cP _ NP.out).mono ?_
                   rintro e w5 ⟨rfl, hb5⟩
                   have B5 := Lib.hid (below_then B4.out hb5)
                   have NP5 := Lib.hid (NP.out.below hb5)
                   have NQ5 := Lib.hid (NQ.out.below hb5)
                   clear hb5 cP tok1)
                | (go_at_call 8
                   refine (cJ _ NQ5.out).mono ?_
                   rintro e w6 ⟨rfl, hb6⟩
                   have B6 := Lib.hid (below_then B5.out hb6)
                   have NP6 := Lib.hid (NP5.out.below hb6)
                   have NQ6 := Lib.hid (NQ5.out.below hb6)
                   clear hb6 cJ)
                | (go_at_call 9; refine Calls_on (cR _ NQ6.out) ?_)
                | (go_at_call 10; refine Calls_on (cF _ NQ6.out) ?_)
                | (go_at_call 11; refine Calls_on (cG _ NQ6.out) ?_)
                | (go_at_call 12
                   refine (cA _ NP6.out NQ6.out).mono ?_
                   rintro e w7 ⟨rfl, hb7⟩
                   have B7 := Lib.hid (below_then B6.out hb7)
                   clear hb7 cA))
              go_ret
              exact ⟨rfl, B7.out⟩
          · have hE0 : (E != 0) = true := by simpa using hE
            by_cases hib : i = P.length
            · have hnI : ¬ (i : Int) < (P.length : Int) := by omega
              clear hend hgo HA
              go_wp2_with (first
                | (go_at_call 8
                   refine (cJ _ NQ.out).mono ?_
                   rintro e w6 ⟨rfl, hb6⟩
                   have B6 := Lib.hid (below_then B4.out hb6)
                   have NP6 := Lib.hid (NP.out.below hb6)
                   have NQ6 := Lib.hid (NQ.out.below hb6)
                   clear hb6 cJ)
                | (go_at_call 9; refine Calls_on (cR _ NQ6.out) ?_)
                | (go_at_call 10; refine Calls_on (cF _ NQ6.out) ?_)
                | (go_at_call 11; refine Calls_on (cG _ NQ6.out) ?_)
                | (go_at_call 12
                   refine (cA _ NP6.out NQ6.out).mono ?_
                   rintro e w7 ⟨rfl, hb7⟩
                   have B7 := Lib.hid (below_then B6.out hb7)
                   clear hb7 cA))
              go_ret
              exact ⟨rfl, B7.out⟩
            · have hbf : b = false := by
                cases b with
                | false => rfl
                | true => exact absurd ⟨by omega, rfl⟩ hgo
              have hyI : (i : Int) < (P.length : Int) := by omega
              subst hbf
              clear hend hgo HA
              go_wp2_with (first
                | (go_at_call 8
                   refine (cJ _ NQ.out).mono ?_
                   rintro e w6 ⟨rfl, hb6⟩
                   have B6 := Lib.hid (below_then B4.out hb6)
                   have NP6 := Lib.hid (NP.out.below hb6)
                   have NQ6 := Lib.hid (NQ.out.below hb6)
                   clear hb6 cJ)
                | (go_at_call 9; refine Calls_on (cR _ NQ6.out) ?_)
                | (go_at_call 10; refine Calls_on (cF _ NQ6.out) ?_)
                | (go_at_call 11; refine Calls_on (cG _ NQ6.out) ?_)
                | (go_at_call 12
                   refine (cA _ NP6.out NQ6.out).mono ?_
                   rintro e w7 ⟨rfl, hb7⟩
                   have B7 := Lib.hid (below_then B6.out hb7)
                   clear hb7 cA))
              go_ret
              exact ⟨rfl, B7.out⟩

set_option maxRecDepth 8000 in
set_option maxRecDepth 8000 in
set_option maxHeartbeats 4000000 in
theorem pathparse_law_11 (s : ByteArray) (l : List UInt8) (hl : l.length ≤ 1100) (hs : ¬ 1100 < s.size ∧ s = bas l) (Q : List (List UInt8)) (pq : Option Addr) (nq cq : Nat) (hq : ¬ 70 < nq ∧ nq = Q.length) (hcq : nq ≤ cq)
    (hQl : ∀ x ∈ Q, x.length < 1000000000000000) (hQj : (Lib.joinTail [47] Q).length < 100000000000000) (hnq : nq < 1000000000000000) (w : World) (hL : Lb w) (hQ : Nms w pq Q) :
    Calls Tryd.prog 3 #[.string s, .slice pq nq cq] w fun e w' => e = .returned (.bool true) ∧ Below w.heap.size w w' := by
  have cb := fun W (hW : Lb W) => pbegun_any W hW
  have cp := fun W (hW : Lb W) => pparse_any l (by omega) W hW
  have cr := fun W => rparse_any l (by omega) W
  have HP : Hid (parseE l = 0 → pathL (nmsOf l) = l) := fun h => path_parse h
  have HPl : Hid ((nmsOf l).length ≤ 1100) := by
    show _ ≤ _
    unfold nmsOf
    split
    · unfold namesOf
      split
      · simp
      · rw [cutAt_len]
        have := List.count_le_length (l := l.drop 1) (a := (47 : UInt8))
        rw [List.length_drop] at this
        omega
    · simp
  have HQL : Hid (Q.length ≤ 70) := by show _ ≤ _; omega
  simp only [ParseA] at cp cr
  have cJ := fun W (h : Nms W pq Q) => pjoin_any Q pq cq (by omega) (by omega) (Nat.le_trans (join_le Q) (by omega)) W h
  have cR := fun W (h : Nms W pq Q) => rjoin_any Q (by omega) (by omega) pq cq W h
  have cF := fun W (h : Nms W pq Q) => fresh_any Q hQl (by omega) pq cq W h
  have cG := fun W (h : Nms W pq Q) => rfresh_any Q hQl (by omega) pq cq W h
  generalize parseE l = E at cp cr HP
  generalize nmsOf l = P at cp cr HP HPl
  generalize pathL Q = z at cJ cR
  generalize freshE Q = F at cF cG
  have q1 : ((bas z).toList == (bas z).toList) = true := by simp
  have q2 : ((bas l).toList == (bas l).toList) = true := by simp
  have q3 : (F == F) = true := by simp
  have q4 : (E != E) = false := by simp
  have q5 : ((P.length : Int) != (P.length : Int)) = false := by simp
  have hPb := HPl.out
  obtain ⟨h1, rfl⟩ := hs
  obtain ⟨h2, h3⟩ := hq
  have hsz := bas_size l
  rw [hsz] at h1
  have h1I : ¬ (1100 : Int) < (l.length : Int) := by omega
  subst h3
  have h2I : ¬ (70 : Int) < (Q.length : Int) := by omega
  obtain ⟨m, hQm⟩ : ∃ m, Q.length = m := ⟨_, rfl⟩
  rw [hQm] at h2I
  rw [hQm]
  have HQc : Hid (Q.length ≤ cq) := by show _ ≤ _; omega
  have HFS : Hid (FrI P Q 0 (decide (P.length < m))) := by
    show FrI _ _ _ _
    have e : decide (P.length < m) = decide (P.length < Q.length) := by rw [hQm]
    rw [e]; exact FrI.start P Q
  rw [hQm] at cJ cR cF cG
  clear h1 h2
  have HLo := Lib.hid hL
  have HNQ := Lib.hid hQ
  clear hL hQ
  go_enter Tryd.func3, Tryd.ntmps3
  go_wp2_with (first
    | (go_at_call 5
       refine (cb _ HLo.out).mono ?_
       rintro e w1 ⟨rfl, hb1⟩
       have b1 := Lib.hid hb1
       clear hb1 cb)
    | (go_at_call 6
       refine (cp _ (HLo.out.below b1.out)).mono ?_
       rintro e w2 ⟨p1, c1, rfl, hn, hc, hb2⟩
       have b2 := Lib.hid (below_then b1.out hb2)
       have N1 := Lib.hid hn
       have C1 := Lib.hid hc
       clear hb2 hn hc cp)
    | (go_at_call 7
       refine (cr _).mono ?_
       rintro e w3 ⟨p2, c2, rfl, hn, hc, hb3⟩
       have b3 := Lib.hid (below_then b2.out hb3)
       have M1 := Lib.hid (N1.out.below hb3)
       have M2 := Lib.hid hn
       clear hb3 hn hc cr))
  go_loopw [10] (fun ii wr => ∃ i : Nat, ii = .int .i64 i ∧ i ≤ P.length ∧ Hid (Below w.heap.size w wr ∧ Nms wr p1 P ∧ Nms wr p2 P)) (fun ii _ => P.length - (RowKit.intOf ii).toNat)
  case atStart => exact ⟨0, rfl, Nat.zero_le _, b3.out, M1.out, M2.out⟩
  case round =>
    obtain ⟨i, rfl, hi, HI⟩ := hrel
    by_cases hlt : i < P.length
    · have hltI : (i : Int) < (P.length : Int) := by omega
      obtain ⟨x, hx⟩ : ∃ x, P[i]? = some x := ⟨_, List.getElem?_eq_getElem hlt⟩
      obtain ⟨g1, o1, hp1, x1⟩ := HI.out.2.1 i x hx
      obtain ⟨g2, o2, hp2, x2⟩ := HI.out.2.2 i x hx
      subst hp1 hp2
      have hxx : ((bas x).toList == (bas x).toList) = true := by simp
      clear hx
      go_wp2_with fail
      go_region
      all_goals go_wp2
      all_goals exact ⟨⟨i + 1, by simp, by omega, ⟨below_then HI.out.1 (below_drewN wr 1), HI.out.2.1.below (below_drewN wr 1), HI.out.2.2.below (below_drewN wr 1)⟩⟩, by simp [RowKit.intOf]; omega⟩
    · obtain rfl : i = P.length := by omega
      obtain ⟨wo, hwo⟩ : ∃ wo : World, wo = wr := ⟨_, rfl⟩
      rw [← hwo] at HI ⊢
      clear hwo hlt hi
      go_wp2_with fail
      go_loopw [11, 12] (fun ff ii wr => ∃ (i : Nat) (b : Bool), ff = .bool b ∧ ii = .int .i64 i ∧ i ≤ P.length ∧ Hid (FrI P Q i b ∧ Below w.heap.size w wr ∧ Nms wr p1 P)) (fun _ ii _ => P.length - (RowKit.intOf ii).toNat)
      case atStart => exact ⟨0, _, rfl, rfl, Nat.zero_le _, HFS.out, HI.out.1, HI.out.2.1⟩
      case round =>
        obtain ⟨i, b, rfl, rfl, hi, HJ⟩ := hrel
        by_cases hgo : i < P.length ∧ b = true
        · obtain ⟨hlt, hbt⟩ := hgo
          subst hbt
          have hltI : (i : Int) < (P.length : Int) := by omega
          have hPQ := HJ.out.1.lt
          rw [hQm] at hPQ
          have hltQ : (i : Int) < (m : Int) := by omega
          obtain ⟨x, hx⟩ : ∃ x, P[i]? = some x := ⟨_, List.getElem?_eq_getElem hlt⟩
          obtain ⟨y, hy⟩ : ∃ y, Q[i]? = some y := ⟨_, List.getElem?_eq_getElem (by omega)⟩
          obtain ⟨g1, o1, hp1, x1⟩ := HJ.out.2.2 i x hx
          obtain ⟨g2, o2, hp2, x2⟩ := (HNQ.out.below HJ.out.2.1) i y hy
          subst hp1 hp2
          have HF := Lib.hid (HJ.out.1.next hx hy)
          have hxy := bas_beq x y
          generalize decide (x = y) = r at HF hxy
          clear hx hy hPQ
          go_wp2_with fail
          go_region
          all_goals go_wp2
          all_goals exact ⟨⟨i + 1, r, by simp, by simp, by omega, ⟨HF.out, below_then HJ.out.2.1 (below_drewN wr 1), HJ.out.2.2.below (below_drewN wr 1)⟩⟩, by simp [RowKit.intOf]; omega⟩
        · have HA : Hid (aboveB P Q = b) := by
            by_cases hib : i = P.length
            · subst hib
              exact HJ.out.1.all
            · have hbf : b = false := by
                cases b with
                | false => rfl
                | true => exact absurd ⟨by omega, rfl⟩ hgo
              have := HJ.out.1
              rw [hbf] at this ⊢
              exact this.none hi
          have cA := fun W (h1 : Nms W p1 P) (h2 : Nms W pq Q) => above_any P Q p1 pq c1 cq (Nat.lt_of_le_of_lt HPl.out (by decide)) HQc.out W h1 h2
          rw [HA.out, hQm] at cA
          have NP := Lib.hid HJ.out.2.2
          have B4 := Lib.hid HJ.out.2.1
          have NQ := Lib.hid (HNQ.out.below HJ.out.2.1)
          have hbb : (b == b) = true := by simp
          have hend : ((i : Int) < (P.length : Int) ∧ b = true) → False := fun h => hgo ⟨by omega, h.2⟩
          have tok1 := True.intro
          by_cases hE : E = 0
          · have cP := fun W (h1 : Nms W p1 P) => pjoin_any P p1 c1 C1.out (Nat.le_trans HPl.out (by decide)) (Nat.le_trans (path_le (HP.out hE)) (by omega)) W h1
            rw [HP.out hE] at cP
            have hE0 : (E != 0) = false := by rw [hE]; rfl
            by_cases hib : i = P.length
            · have hnI : ¬ (i : Int) < (P.length : Int) := by omega
              clear hend hgo HA
              go_wp2_with (first
                | (go_at_call 8
                   have _t := tok1
                   refine (cP _ NP.out).mono ?_
                   rintro e w5 ⟨rfl, hb5⟩
                   have B5 := Lib.hid (below_then B4.out hb5)
                   have NP5 := Lib.hid (NP.out.below hb5)
                   have NQ5 := Lib.hid (NQ.out.below hb5)
                   clear hb5 cP tok1)
                | (go_at_call 8
                   refine (cJ _ NQ5.out).mono ?_
                   rintro e w6 ⟨rfl, hb6⟩
                   have B6 := Lib.hid (below_then B5.out hb6)
                   have NP6 := Lib.hid (NP5.out.below hb6)
                   have NQ6 := Lib.hid (NQ5.out.below hb6)
                   clear hb6 cJ)
                | (go_at_call 9; refine Calls_on (cR _ NQ6.out) ?_)
                | (go_at_call 10; refine Calls_on (cF _ NQ6.out) ?_)
                | (go_at_call 11; refine Calls_on (cG _ NQ6.out) ?_)
                | (go_at_call 12
                   refine (cA _ NP6.out NQ6.out).mono ?_
                   rintro e w7 ⟨rfl, hb7⟩
                   have B7 := Lib.hid (below_then B6.out hb7)
                   clear hb7 cA))
              go_ret
              exact ⟨rfl, B7.out⟩
            · have hbf : b = false := by
                cases b with
                | false => rfl
                | true => exact absurd ⟨by omega, rfl⟩ hgo
              have hyI : (i : Int) < (P.length : Int) := by omega
              subst hbf
              clear hend hgo HA
              go_wp2_with (first
                | (go_at_call 8
                   have _t := tok1
                   refine (cP _ NP.out).mono ?_
                   rintro e w5 ⟨rfl, hb5⟩
                   have B5 := Lib.hid (below_then B4.out hb5)
                   have NP5 := Lib.hid (NP.out.below hb5)
                   have NQ5 := Lib.hid (NQ.out.below hb5)
                   clear hb5 cP tok1)
                | (go_at_call 8
                   refine (cJ _ NQ5.out).mono ?_
                   rintro e w6 ⟨rfl, hb6⟩
                   have B6 := Lib.hid (below_then B5.out hb6)
                   have NP6 := Lib.hid (NP5.out.below hb6)
                   have NQ6 := Lib.hid (NQ5.out.below hb6)
                   clear hb6 cJ)
                | (go_at_call 9; refine Calls_on (cR _ NQ6.out) ?_)
                | (go_at_call 10; refine Calls_on (cF _ NQ6.out) ?_)
                | (go_at_call 11; refine Calls_on (cG _ NQ6.out) ?_)
                | (go_at_call 12
                   refine (cA _ NP6.out NQ6.out).mono ?_
                   rintro e w7 ⟨rfl, hb7⟩
                   have B7 := Lib.hid (below_then B6.out hb7)
                   clear hb7 cA))
              go_ret
              exact ⟨rfl, B7.out⟩
          · have hE0 : (E != 0) = true := by simpa using hE
            by_cases hib : i = P.length
            · have hnI : ¬ (i : Int) < (P.length : Int) := by omega
              clear hend hgo HA
              go_wp2_with (first
                | (go_at_call 8
                   refine (cJ _ NQ.out).mono ?_
                   rintro e w6 ⟨rfl, hb6⟩
                   have B6 := Lib.hid (below_then B4.out hb6)
                   have NP6 := Lib.hid (NP.out.below hb6)
                   have NQ6 := Lib.hid (NQ.out.below hb6)
                   clear hb6 cJ)
                | (go_at_call 9; refine Calls_on (cR _ NQ6.out) ?_)
                | (go_at_call 10; refine Calls_on (cF _ NQ6.out) ?_)
                | (go_at_call 11; refine Calls_on (cG _ NQ6.out) ?_)
                | (go_at_call 12
                   refine (cA _ NP6.out NQ6.out).mono ?_
                   rintro e w7 ⟨rfl, hb7⟩
                   have B7 := Lib.hid (below_then B6.out hb7)
                   clear hb7 cA))
              go_ret
              exact ⟨rfl, B7.out⟩
            · have hbf : b = false := by
                cases b with
                | false => rfl
                | true => exact absurd ⟨by omega, rfl⟩ hgo
              have hyI : (i : Int) < (P.length : Int) := by omega
              subst hbf
              clear hend hgo HA
              go_wp2_with (first
                | (go_at_call 8
                   refine (cJ _ NQ.out).mono ?_
                   rintro e w6 ⟨rfl, hb6⟩
                   have B6 := Lib.hid (below_then B4.out hb6)
                   have NP6 := Lib.hid (NP.out.below hb6)
                   have NQ6 := Lib.hid (NQ.out.below hb6)
                   clear hb6 cJ)
                | (go_at_call 9; refine Calls_on (cR _ NQ6.out) ?_)
                | (go_at_call 10; refine Calls_on (cF _ NQ6.out) ?_)
                | (go_at_call 11; refine Calls_on (cG _ NQ6.out) ?_)
                | (go_at_call 12
                   refine (cA _ NP6.out NQ6.out).mono ?_
                   rintro e w7 ⟨rfl, hb7⟩
                   have B7 := Lib.hid (below_then B6.out hb7)
                   clear hb7 cA))
              go_ret
              exact ⟨rfl, B7.out⟩


/-- The law, whatever is cut. -/
theorem pathparse_law (s : ByteArray) (l : List UInt8) (hl : l.length ≤ 1100) (hs : (1100 < s.size ∧ s.extract 0 1100 = bas l) ∨ (¬ 1100 < s.size ∧ s = bas l)) (Q : List (List UInt8)) (pq : Option Addr) (nq cq : Nat) (hq : (70 < nq ∧ Q.length = 70) ∨ (¬ 70 < nq ∧ nq = Q.length)) (hcq : nq ≤ cq)
    (hQl : ∀ x ∈ Q, x.length < 1000000000000000) (hQj : (Lib.joinTail [47] Q).length < 100000000000000) (hnq : nq < 1000000000000000) (w : World) (hL : Lb w) (hQ : Nms w pq Q) :
    Calls Tryd.prog 3 #[.string s, .slice pq nq cq] w fun e w' => e = .returned (.bool true) ∧ Below w.heap.size w w' := by
  rcases hs with hs | hs
  · rcases hq with hq | hq
    · exact pathparse_law_00 s l hl hs Q pq nq cq hq hcq hQl hQj hnq w hL hQ
    · exact pathparse_law_01 s l hl hs Q pq nq cq hq hcq hQl hQj hnq w hL hQ
  · rcases hq with hq | hq
    · exact pathparse_law_10 s l hl hs Q pq nq cq hq hcq hQl hQj hnq w hL hQ
    · exact pathparse_law_11 s l hl hs Q pq nq cq hq hcq hQl hQj hnq w hL hQ

end Go.Proofs.YtjggnmeeeofepaaDoor.Ck.Sh
