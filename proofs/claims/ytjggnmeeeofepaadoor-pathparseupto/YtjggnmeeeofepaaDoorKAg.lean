/-
  The document's Split.
-/
import Derived.Test.YtjggnmeeeofepaaDoorKAf

namespace Go.Proofs.YtjggnmeeeofepaaDoor.Ck.Sh
open Go.RowKit Go.Lib

attribute [local go_sem] Oper.semAt_some

def numF (l : List UInt8) : Int := if l = [] ∨ (l.head? = some 48 ∧ 1 < l.length) ∨ 19 < l.length then -1 else if l.all digB = true then wrap64 (valL l : Nat) else -1
theorem numF_of {l : List UInt8} {n : Int} (h : numL l n) : n = numF l := by
  unfold numF
  split
  · rename_i hb
    exact h.1 hb
  · rename_i hb
    split
    · rename_i hd
      exact (h.2 hb).1 (by simpa using hd)
    · rename_i hd
      exact (h.2 hb).2 (fun e => hd (by simpa using e))
theorem numF_is (l : List UInt8) : numL l (numF l) := by
  unfold numF
  split
  · rename_i hb
    exact ⟨fun _ => rfl, fun h => absurd hb h⟩
  · rename_i hb
    split
    · rename_i hd
      exact ⟨fun h => absurd h hb, fun _ => ⟨fun _ => rfl, fun h => absurd (by simpa using hd) h⟩⟩
    · rename_i hd
      exact ⟨fun h => absurd h hb, fun _ => ⟨fun h => absurd (by simpa using h) hd, fun _ => rfl⟩⟩
theorem rnumber_f (l : List UInt8) (hl : l.length < 1000000000000000) (w : World) : Calls Tryd.prog 26 #[.string (bas l)] w fun e w' => e = .returned (.int .i64 (numF l)) ∧ w' = w :=
  (rnumber_any l hl w).mono fun e w' ⟨⟨n, he, hn⟩, hw⟩ => ⟨by rw [he, numF_of hn.out], hw⟩
theorem split_dot {nm tm nd : List UInt8} (h1 : (1 : UInt8) ∉ nm) (h2 : (46 : UInt8) ∉ tm) : SplitOf (nm ++ 1 :: (tm ++ 46 :: nd)) (if validB (numF tm) (numF nd) = true ∧ nameN nm = 0 then some (nm, numF tm, numF nd) else none) := by
  split
  · rename_i h
    have b := valid_bounds h.1
    refine ⟨h.2, h.1, ?_⟩
    unfold sufL
    rw [← numL_dec (numF_is tm) (by omega), ← numL_dec (numF_is nd) (by omega)]
  · rename_i h
    intro nm' t n hn hv e
    have b := valid_bounds hv
    unfold sufL at e
    obtain ⟨e1, e2⟩ := part_unique h1 (name_no1 hn) e
    obtain ⟨e3, e4⟩ := part_unique h2 (itoa_no (by omega) (by rfl)) e2
    have f1 := numL_of (numF_is tm) (by omega) (by omega) e3
    have f2 := numL_of (numF_is nd) (by omega) (by omega) e4
    refine h ⟨?_, ?_⟩
    · rw [f1, f2]; exact hv
    · rw [e1]; exact hn
theorem split_none1 {l : List UInt8} (h : (1 : UInt8) ∉ l) : SplitOf l none := fun nm t n _ _ e => h (by rw [e]; unfold sufL; simp)
theorem split_none2 {nm rest : List UInt8} (h1 : (1 : UInt8) ∉ nm) (h2 : (46 : UInt8) ∉ rest) : SplitOf (nm ++ 1 :: rest) none := fun nm' t n hn hv e => by
  unfold sufL at e
  obtain ⟨_, e2⟩ := part_unique h1 (name_no1 hn) e
  exact h2 (by rw [e2]; simp)
theorem take_no {c x : UInt8} {l : List UInt8} {i : Nat} (h : c ∉ l.take i) (hx : l[i]? = some x) (hn : x ≠ c) : c ∉ l.take (i + 1) := by
  rw [List.take_add_one, hx]
  intro hm
  rcases List.mem_append.1 hm with h' | h'
  · exact h h'
  · have : c = x := by simpa using h'
    exact hn this.symm
theorem part_of {c : UInt8} {l : List UInt8} {i : Nat} (hc : l[i]? = some c) : l = l.take i ++ c :: l.drop (i + 1) := by
  have h := (List.getElem?_eq_some_iff.1 hc)
  obtain ⟨hl, he⟩ := h
  rw [← he, ← List.drop_eq_getElem_cons hl, List.take_append_drop]
theorem ext_head (l : List UInt8) (i : Nat) : (bas l).extract 0 i = bas (l.take i) := by
  apply ByteArray.ext
  rw [ByteArray.data_extract]
  apply Array.toList_inj.1
  simp [bas]
theorem ext_tail (l : List UInt8) (i : Nat) : (bas l).extract i l.length = bas (l.drop i) := by
  apply ByteArray.ext
  rw [ByteArray.data_extract]
  apply Array.toList_inj.1
  simp [bas]
  exact List.take_of_length_le (by simp)

/-- What Split answers, of which just this is known. -/
def SplitA (l : List UInt8) (e : Ending) : Prop := ∃ r, e = .returned (splitV l r) ∧ SplitOf l r

set_option maxRecDepth 8000 in
set_option maxRecDepth 8000 in
set_option maxHeartbeats 2000000 in
theorem rsplit_any (l : List UInt8) (hl : l.length < 1000000000000000) (w : World) : Calls Tryd.prog 17 #[.string (bas l)] w fun e w' => SplitA l e ∧ Below w.heap.size w w' := by
  have hsz := bas_size l
  obtain ⟨W0, hW0⟩ : ∃ W0, W0 = w.alloc (.cells #[.int .i64 0, .int .i64 0] 35) := ⟨_, rfl⟩
  have R0 : IdC W0 w.heap.size 0 0 := by rw [hW0]; exact IdC.new w 0 0
  have b0 : Hid (Below w.heap.size w W0) := by rw [hW0]; exact below_new w _
  have r0 := R0.c0
  have r1 := R0.c1
  have g0 := R0.fz 0
  have g1 := R0.fz 1
  have HR := Lib.hid R0
  have HS : Hid (W0.heap.size = w.heap.size + 1) := by rw [hW0]; show _ = _; simp
  clear R0
  go_enter Tryd.func17, Tryd.ntmps17
  go_wp2_with fail
  rw [← hW0]
  clear hW0
  go_loopw [5] (fun ii wr => ∃ (i : Nat), ii = .int .i64 i ∧ i ≤ l.length ∧ W0 = wr ∧ Hid ((1 : UInt8) ∉ l.take i)) (fun ii _ => l.length - (RowKit.intOf ii).toNat)
  case atStart => exact ⟨0, rfl, Nat.zero_le _, rfl, by show _ ∉ _; simp⟩
  case round =>
    obtain ⟨i, rfl, hi, rfl, HI⟩ := hrel
    by_cases hlt : i < l.length
    · have hltI : (i : Int) < (l.length : Int) := by omega
      obtain ⟨c, hc⟩ : ∃ c, l[i]? = some c := ⟨_, List.getElem?_eq_getElem hlt⟩
      have hci : ∀ h : i < (bas l).size, (bas l)[i]'h = c := fun h => by
        show (bas l).data[i] = c
        exact (List.getElem?_eq_some_iff.1 hc).2
      obtain ⟨k, hk⟩ : ∃ k, c.toNat = k := ⟨_, rfl⟩
      by_cases h1 : k = 1
      · obtain rfl : c = 1 := by apply UInt8.toNat_inj.1; rw [hk, h1]; rfl
        have HP := Lib.hid (part_of hc)
        obtain ⟨rest, hrest⟩ : ∃ rest, l.drop (i + 1) = rest := ⟨_, rfl⟩
        have hrl : rest.length + (i + 1) = l.length := by rw [← hrest]; simp; omega
        have hx1 : (bas l).extract (i + 1) l.length = bas rest := by rw [ext_tail, hrest]
        have hx1' : (bas l).extract (i + 1) (bas l).size = bas rest := by rw [hsz, hx1]
        have hr1 := bas_size rest
        have hb1 : (0 : Int) ≤ (i : Int) + 1 := by omega
        have hb2 : (i : Int) + 1 ≤ (l.length : Int) := by omega
        rw [hrest] at HP
        clear hc hrest
        subst h1
        have hq : ((1 : Nat) : Int) = 1 := rfl
        go_wp2_with fail
        go_loopw [7] (fun kk wr => ∃ (j : Nat), kk = .int .i64 j ∧ j ≤ rest.length ∧ W0 = wr ∧ Hid ((46 : UInt8) ∉ rest.take j)) (fun kk _ => rest.length - (RowKit.intOf kk).toNat)
        case atStart => exact ⟨0, rfl, Nat.zero_le _, rfl, by show _ ∉ _; simp⟩
        case round =>
          obtain ⟨j, rfl, hj, rfl, HJ⟩ := hrel
          by_cases hjl : j < rest.length
          · have hjI : (j : Int) < (rest.length : Int) := by omega
            obtain ⟨c, hc⟩ : ∃ c, rest[j]? = some c := ⟨_, List.getElem?_eq_getElem hjl⟩
            have hcj : ∀ h : j < (bas rest).size, (bas rest)[j]'h = c := fun h => by
              show (bas rest).data[j] = c
              exact (List.getElem?_eq_some_iff.1 hc).2
            obtain ⟨k, hk⟩ : ∃ k, c.toNat = k := ⟨_, rfl⟩
            by_cases h1 : k = 46
            · obtain rfl : c = 46 := by apply UInt8.toNat_inj.1; rw [hk, h1]; rfl
              have HD := Lib.hid (part_of hc)
              obtain ⟨nd, hnd⟩ : ∃ nd, rest.drop (j + 1) = nd := ⟨_, rfl⟩
              obtain ⟨tm, htm⟩ : ∃ tm, rest.take j = tm := ⟨_, rfl⟩
              obtain ⟨nm, hnm⟩ : ∃ nm, l.take i = nm := ⟨_, rfl⟩
              have hx2 : (bas rest).extract (j + 1) rest.length = bas nd := by rw [ext_tail, hnd]
              have hx3 : (bas rest).extract 0 j = bas tm := by rw [ext_head, htm]
              have hx4 : (bas l).extract 0 i = bas nm := by rw [ext_head, hnm]
              have hb3 : (0 : Int) ≤ (j : Int) + 1 := by omega
              have hb4 : (j : Int) + 1 ≤ (rest.length : Int) := by omega
              have l1 : nd.length ≤ l.length := by rw [← hnd]; simp; omega
              have l2 : tm.length ≤ l.length := by rw [← htm]; simp; omega
              have l3 : nm.length ≤ l.length := by rw [← hnm]; simp; omega
              have HQ : Hid (SplitOf l (if validB (numF tm) (numF nd) = true ∧ nameN nm = 0 then some (nm, numF tm, numF nd) else none)) := by
                have e1 := HP.out
                have e2 := HD.out
                rw [hnd, htm] at e2
                rw [hnm, e2] at e1
                have := split_dot (nm := nm) (tm := tm) (nd := nd) (by rw [← hnm]; exact HI.out) (by rw [← htm]; exact HJ.out)
                rw [← e1] at this
                exact this
              have c1 := rnumber_f nd (by omega) W0
              have c2 := rnumber_f tm (by omega) W0
              have cn := fun W => rname_any nm W (by omega)
              generalize numF nd = n at c1 HQ
              generalize numF tm = t at c2 HQ
              have cv := fun W => rvalid_any t n W
              have B1 : Hid (Below w.heap.size w (W0.alloc (.cells #[.int .i64 t, .int .i64 n] 35))) := below_then b0.out (below_new W0 _).out
              have R1 : Hid (IdC (W0.alloc (.cells #[.int .i64 t, .int .i64 n] 35)) w.heap.size 0 0) := HR.out.below (below_new W0 _).out
              have I1 : Hid (IdC (W0.alloc (.cells #[.int .i64 t, .int .i64 n] 35)) W0.heap.size t n) := IdC.new W0 t n
              have hne : ¬ w.heap.size = W0.heap.size := by have := HS.out; omega
              have hlt0 : w.heap.size < W0.heap.size := by have := HS.out; omega
              have B2 : Hid (Below w.heap.size w (W0.alloc (.cells #[.int .i64 t, .int .i64 0] 35))) := below_then b0.out (below_new W0 _).out
              clear hc hnd htm hnm l1 l2 l3
              subst h1
              by_cases hn0 : 0 ≤ n
              · by_cases hn1 : n < 64
                · by_cases hv : validB t n = true
                  · rw [hv] at cv
                    by_cases hnn : nameN nm = 0
                    · rw [hnn] at cn
                      have HE : Hid (SplitOf l (some (nm, t, n))) := by have := HQ.out; rwa [if_pos ⟨hv, hnn⟩] at this
                      clear HQ hv hnn
                      go_wp2_with (first
                | (go_at_call 26; refine Calls_on c1 ?_; clear c1)
                | (go_at_call 26; refine Calls_on c2 ?_; clear c2)
                | (go_at_call 27
                   refine (cv _).mono ?_
                   rintro e w3 ⟨rfl, hb3⟩
                   have b3 := Lib.hid (below_then B1.out hb3)
                   have R3 := R1.out.below hb3
                   have I3 := I1.out.below hb3
                   have i0 := I3.c0
                   have i1 := I3.c1
                   have p0 := R3.c0
                   have p1 := R3.c1
                   have f0 := R3.fz 0
                   have f1 := R3.fz 1
                   have HI3 := Lib.hid I3
                   have HR3 := Lib.hid R3
                   clear hb3 I3 R3 cv)
                | (go_at_call 16; refine Calls_on (cn _) ?_))
                      go_region
                      all_goals go_wp2
                      all_goals
                        have q := (HR3.out.set0 t).set1 n
                        have q0 := q.c0
                        have q1 := q.c1
                        exact bodyPost_ret (v := splitV l (some (nm, t, n))) (by simp [results, Tryd.results17, go_sem, splitV, q0, q1]) rfl ⟨⟨_, rfl, HE.out⟩, below_then (below_set (below_set b3.out (Nat.le_refl _)) (Nat.le_refl _)) (below_drewN _ 1)⟩
                    · have HE : Hid (SplitOf l none) := by have := HQ.out; rwa [if_neg (fun h => hnn h.2)] at this
                      generalize nameN nm = zz at cn hnn
                      have hz1 : (zz == 0) = false := by simpa using hnn
                      clear HQ hv
                      go_wp2_with (first
                | (go_at_call 26; refine Calls_on c1 ?_; clear c1)
                | (go_at_call 26; refine Calls_on c2 ?_; clear c2)
                | (go_at_call 27
                   refine (cv _).mono ?_
                   rintro e w3 ⟨rfl, hb3⟩
                   have b3 := Lib.hid (below_then B1.out hb3)
                   have R3 := R1.out.below hb3
                   have I3 := I1.out.below hb3
                   have i0 := I3.c0
                   have i1 := I3.c1
                   have p0 := R3.c0
                   have p1 := R3.c1
                   have f0 := R3.fz 0
                   have f1 := R3.fz 1
                   have HI3 := Lib.hid I3
                   have HR3 := Lib.hid R3
                   clear hb3 I3 R3 cv)
                | (go_at_call 16; refine Calls_on (cn _) ?_))
                      have q := (HR3.out.set0 0).set1 0
                      have q0 := q.c0
                      have q1 := q.c1
                      exact bodyPost_ret (v := splitV l none) (by simp [results, Tryd.results17, go_sem, splitV, q0, q1]) rfl ⟨⟨none, rfl, HE.out⟩, below_set (below_set b3.out (Nat.le_refl _)) (Nat.le_refl _)⟩
                  · have HE : Hid (SplitOf l none) := by have := HQ.out; rwa [if_neg (fun h => hv h.1)] at this
                    have hv' : validB t n = false := by simpa using hv
                    rw [hv'] at cv
                    clear HQ hv hv'
                    go_wp2_with (first
                | (go_at_call 26; refine Calls_on c1 ?_; clear c1)
                | (go_at_call 26; refine Calls_on c2 ?_; clear c2)
                | (go_at_call 27
                   refine (cv _).mono ?_
                   rintro e w3 ⟨rfl, hb3⟩
                   have b3 := Lib.hid (below_then B1.out hb3)
                   have R3 := R1.out.below hb3
                   have I3 := I1.out.below hb3
                   have i0 := I3.c0
                   have i1 := I3.c1
                   have p0 := R3.c0
                   have p1 := R3.c1
                   have f0 := R3.fz 0
                   have f1 := R3.fz 1
                   have HI3 := Lib.hid I3
                   have HR3 := Lib.hid R3
                   clear hb3 I3 R3 cv)
                | (go_at_call 16; refine Calls_on (cn _) ?_))
                    have q := (HR3.out.set0 0).set1 0
                    have q0 := q.c0
                    have q1 := q.c1
                    exact bodyPost_ret (v := splitV l none) (by simp [results, Tryd.results17, go_sem, splitV, q0, q1]) rfl ⟨⟨none, rfl, HE.out⟩, below_set (below_set b3.out (Nat.le_refl _)) (Nat.le_refl _)⟩
                · have HE : Hid (SplitOf l none) := by have := HQ.out; rwa [if_neg (fun h => by have := valid_bounds h.1; omega)] at this
                  clear HQ cv
                  go_wp2_with (first
                | (go_at_call 26; refine Calls_on c1 ?_; clear c1)
                | (go_at_call 26; refine Calls_on c2 ?_; clear c2)
                | (go_at_call 27
                   refine (cv _).mono ?_
                   rintro e w3 ⟨rfl, hb3⟩
                   have b3 := Lib.hid (below_then B1.out hb3)
                   have R3 := R1.out.below hb3
                   have I3 := I1.out.below hb3
                   have i0 := I3.c0
                   have i1 := I3.c1
                   have p0 := R3.c0
                   have p1 := R3.c1
                   have f0 := R3.fz 0
                   have f1 := R3.fz 1
                   have HI3 := Lib.hid I3
                   have HR3 := Lib.hid R3
                   clear hb3 I3 R3 cv)
                | (go_at_call 16; refine Calls_on (cn _) ?_))
                  have q := (((HR.out.set0 0).set1 0).below (below_new _ (.cells #[.int .i64 t, .int .i64 0] 35)).out)
                  have q0 := q.c0
                  have q1 := q.c1
                  exact bodyPost_ret (v := splitV l none) (by simp [results, Tryd.results17, go_sem, splitV, q0, q1]) rfl ⟨⟨none, rfl, HE.out⟩, below_then (below_set (below_set b0.out (Nat.le_refl _)) (Nat.le_refl _)) (below_new _ _).out⟩
              · have HE : Hid (SplitOf l none) := by have := HQ.out; rwa [if_neg (fun h => by have := valid_bounds h.1; omega)] at this
                clear HQ cv
                go_wp2_with (first
                | (go_at_call 26; refine Calls_on c1 ?_; clear c1)
                | (go_at_call 26; refine Calls_on c2 ?_; clear c2)
                | (go_at_call 27
                   refine (cv _).mono ?_
                   rintro e w3 ⟨rfl, hb3⟩
                   have b3 := Lib.hid (below_then B1.out hb3)
                   have R3 := R1.out.below hb3
                   have I3 := I1.out.below hb3
                   have i0 := I3.c0
                   have i1 := I3.c1
                   have p0 := R3.c0
                   have p1 := R3.c1
                   have f0 := R3.fz 0
                   have f1 := R3.fz 1
                   have HI3 := Lib.hid I3
                   have HR3 := Lib.hid R3
                   clear hb3 I3 R3 cv)
                | (go_at_call 16; refine Calls_on (cn _) ?_))
                have q := (((HR.out.set0 0).set1 0).below (below_new _ (.cells #[.int .i64 t, .int .i64 0] 35)).out)
                have q0 := q.c0
                have q1 := q.c1
                exact bodyPost_ret (v := splitV l none) (by simp [results, Tryd.results17, go_sem, splitV, q0, q1]) rfl ⟨⟨none, rfl, HE.out⟩, below_then (below_set (below_set b0.out (Nat.le_refl _)) (Nat.le_refl _)) (below_new _ _).out⟩
            · have h1I : ((k : Int) == 46) = false := by rw [beq_eq_false_iff_ne]; omega
              have h1J : ¬ (k : Int) = 46 := by omega
              have HN : Hid ((46 : UInt8) ∉ rest.take (j + 1)) := take_no HJ.out hc (fun e => h1 (by rw [← hk, e]; rfl))
              clear hc
              go_wp2_with fail
              exact ⟨⟨j + 1, by simp, by omega, trivial, HN⟩, by simp [RowKit.intOf]; omega⟩
          · obtain rfl : j = rest.length := by omega
            have HE : Hid (SplitOf l none) := by
              have e1 := HP.out
              have := split_none2 (nm := l.take i) (rest := rest) HI.out (by have := HJ.out; rwa [List.take_length] at this)
              rw [← e1] at this
              exact this
            go_wp2_with fail
            have q := (HR.out.set0 0).set1 0
            have q0 := q.c0
            have q1 := q.c1
            exact bodyPost_ret (v := splitV l none) (by simp [results, Tryd.results17, go_sem, splitV, q0, q1]) rfl ⟨⟨none, rfl, HE.out⟩, below_set (below_set b0.out (Nat.le_refl _)) (Nat.le_refl _)⟩
      · have h1I : ((k : Int) == 1) = false := by rw [beq_eq_false_iff_ne]; omega
        have h1J : ¬ (k : Int) = 1 := by omega
        have HN : Hid ((1 : UInt8) ∉ l.take (i + 1)) := take_no HI.out hc (fun e => h1 (by rw [← hk, e]; rfl))
        clear hc
        go_wp2_with fail
        exact ⟨⟨i + 1, by simp, by omega, trivial, HN⟩, by simp [RowKit.intOf]; omega⟩
    · obtain rfl : i = l.length := by omega
      have HE : Hid (SplitOf l none) := split_none1 (by have := HI.out; rwa [List.take_length] at this)
      go_wp2_with fail
      have q := (HR.out.set0 0).set1 0
      have q0 := q.c0
      have q1 := q.c1
      exact bodyPost_ret (v := splitV l none) (by simp [results, Tryd.results17, go_sem, splitV, q0, q1]) rfl ⟨⟨none, rfl, HE.out⟩, below_set (below_set b0.out (Nat.le_refl _)) (Nat.le_refl _)⟩

end Go.Proofs.YtjggnmeeeofepaaDoor.Ck.Sh
