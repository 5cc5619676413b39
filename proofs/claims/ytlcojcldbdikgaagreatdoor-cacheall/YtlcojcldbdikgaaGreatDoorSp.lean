/-
  Both caches are held against each other: among, same. What the program's cache answers comes in as contracts.
-/
import Derived.Test.YtlcojcldbdikgaaGreatDoorSo
namespace Go.Proofs.YtlcojcldbdikgaaGreatDoor.Rc
open Go.RowKit Go.Maps

attribute [local go_sem] Oper.semAt_some

/-- Numbers that lie from p on. -/
def Nums (w : World) (p : Option Addr) (l : List Nat) : Prop := ∀ (k x : Nat), l[k]? = some x → ∃ g o, p = some ⟨g, o, none⟩ ∧ w.cell? ⟨g, o + k, none⟩ = some (.int .i64 (x : Nat))
theorem Nums.below {w w' : World} {p : Option Addr} {l : List Nat} (h : Nums w p l) (hb : Below w.heap.size w w') : Nums w' p l := fun k x hk => by
  obtain ⟨g, o, e, hc⟩ := h k x hk
  exact ⟨g, o, e, (hb.cell (p := ⟨g, o + k, none⟩) (cell_lt hc)).trans hc⟩
theorem own_nums {w : World} {base : Nat} {v : Value} {l : List Nat} (h : w.ownsRow base 3 1 v l.length (l.map numV)) : ∃ p c, v = .slice p l.length c ∧ Nums w p l := by
  obtain ⟨p, c, e, _, hp⟩ := own_form h
  refine ⟨p, c, e, fun k x hk => ?_⟩
  have hl := (List.getElem?_eq_some_iff.1 hk).1
  obtain ⟨g, rfl, _, hc⟩ := hp (by omega)
  exact ⟨g, 0, rfl, by rw [Nat.zero_add, hc k (by omega)]; simp [hk, numV]⟩

set_option maxRecDepth 8000 in
set_option maxHeartbeats 2000000 in
theorem among_any (p : Option Addr) (l : List Nat) (cp : Nat) (x : Int) (w : World) (hl : l.length ≤ 100000) (hi : Nums w p l) (r : Bool) (hr : l.any (fun b => decide ((b : Int) = x)) = r) :
    Calls Tryz.prog 41 #[.slice p l.length cp, .int .i64 x] w fun e w' => e = .returned (.bool r) ∧ w' = w := by
  have HR : Hid (Nums w p l ∧ l.any (fun b => decide ((b : Int) = x)) = r) := ⟨hi, hr⟩
  obtain ⟨n, hn⟩ : ∃ n, l.length = n := ⟨_, rfl⟩
  rw [hn] at hl
  rw [hn]
  clear hi hr
  go_enter Tryz.func41, Tryz.ntmps41
  go_wp2_with fail
  go_loop [5] (fun ii => ∃ i : Nat, i ≤ n ∧ ii = .int .i64 i ∧ Hid (∀ j b, j < i → l[j]? = some b → ¬ (b : Int) = x)) (fun ii => n - (intOf ii).toNat)
  case atStart => exact ⟨0, Nat.zero_le _, rfl, fun j b hj => absurd hj (Nat.not_lt_zero j)⟩
  case round =>
    obtain ⟨i, hle, rfl, HI⟩ := hrel
    by_cases hlt : i < n
    · have hltI : (i : Int) < n := by omega
      obtain ⟨b, hb⟩ : ∃ b, l[i]? = some b := ⟨_, List.getElem?_eq_getElem (by omega)⟩
      obtain ⟨g, o, rfl, d0⟩ := HR.out.1 i b hb
      by_cases hxy : (b : Int) = x
      · obtain rfl : r = true := by
          rw [← HR.out.2, List.any_eq_true]
          exact ⟨b, List.mem_of_getElem? hb, decide_eq_true hxy⟩
        clear hb
        go_wp2
        go_ret
        exact ⟨rfl, rfl⟩
      · have HN : Hid (∀ j b, j < i + 1 → l[j]? = some b → ¬ (b : Int) = x) := fun j c hj hc => by
          rcases Nat.lt_or_ge j i with k | k
          · exact HI.out j c k hc
          · obtain rfl : j = i := by omega
            rw [hb] at hc; cases hc; exact hxy
        clear hb HI
        go_wp2
        all_goals go_round
        all_goals first
          | exact ⟨i + 1, by omega, by go_num, HN⟩
          | (simp [intOf]; omega)
    · obtain rfl : i = n := by omega
      obtain rfl : r = false := by
        rw [← HR.out.2, List.any_eq_false]
        intro b hb
        obtain ⟨j, hj⟩ := List.getElem?_of_mem hb
        simpa using HI.out j b (by rw [← hn]; exact (List.getElem?_eq_some_iff.1 hj).1) hj
      go_wp2
      go_ret
      exact ⟨rfl, rfl⟩

set_option maxRecDepth 8000 in
set_option maxHeartbeats 4000000 in
theorem same_reg7 {Q : Exit → Act → World → Prop} {base : Array Value} {d : List Deferred} {ops : Array Oper} (hops : Tryz.f20.body.bind (regs 7) = some ops) (g1 o1 c1 g2 o2 c2 n ix x : Nat) (w1 : World) (hsz : base.size = 87)
    (b7 : base.getD 7 undef = .slice (some ⟨g1, o1, none⟩) n c1) (b8 : base.getD 8 undef = .slice (some ⟨g2, o2, none⟩) n c2) (b9 : base.getD 9 undef = .int .i64 (ix : Nat)) (hk : ix < n) (d1 : w1.cell? ⟨g1, o1 + ix, none⟩ = some (.int .i64 (x : Nat))) (d2 : w1.cell? ⟨g2, o2 + ix, none⟩ = some (.int .i64 (x : Nat)))
    (hQ : ∀ W, Below w1.heap.size w1 W → Q .normal ⟨putAll base [(some 28, .slice (some ⟨g1, o1, none⟩) n c1), (some 29, .int .i64 (ix : Nat)), (some 30, .pointer (some ⟨g1, o1 + ix, none⟩)), (some 31, .int .i64 (x : Nat)), (some 32, .slice (some ⟨g2, o2, none⟩) n c2), (some 33, .int .i64 (ix : Nat)), (some 34, .pointer (some ⟨g2, o2 + ix, none⟩)), (some 35, .int .i64 (x : Nat)), (some 36, .bool false)], d⟩ W) :
    (Code.region 7 ops true).wp Tryz.prog Q ⟨base, d⟩ w1 := by
  have hmix : Tryz.prog.follows .mixedOrders = true := by kernel_rfl
  have h2 := (show Tryz.f20.body.bind (regs 7) = some _ from rfl).symm.trans hops
  obtain rfl := Option.some.inj h2
  clear h2 hops
  have below1 : Below w1.heap.size w1 w1.drew := (Below.refl _ _).drew
  obtain ⟨LL, hLe⟩ : ∃ LL : List (Option Tmp × Value), LL = [(some 28, .slice (some ⟨g1, o1, none⟩) n c1), (some 29, .int .i64 (ix : Nat)), (some 30, .pointer (some ⟨g1, o1 + ix, none⟩)), (some 31, .int .i64 (x : Nat)), (some 32, .slice (some ⟨g2, o2, none⟩) n c2), (some 33, .int .i64 (ix : Nat)), (some 34, .pointer (some ⟨g2, o2 + ix, none⟩)), (some 35, .int .i64 (x : Nat)), (some 36, .bool false)] := ⟨_, rfl⟩
  have vv0 : vals LL 0 = .slice (some ⟨g1, o1, none⟩) n c1 := by rw [hLe]; rfl
  have vv1 : vals LL 1 = .int .i64 (ix : Nat) := by rw [hLe]; rfl
  have vv2 : vals LL 2 = .pointer (some ⟨g1, o1 + ix, none⟩) := by rw [hLe]; rfl
  have vv3 : vals LL 3 = .int .i64 (x : Nat) := by rw [hLe]; rfl
  have vv4 : vals LL 4 = .slice (some ⟨g2, o2, none⟩) n c2 := by rw [hLe]; rfl
  have vv5 : vals LL 5 = .int .i64 (ix : Nat) := by rw [hLe]; rfl
  have vv6 : vals LL 6 = .pointer (some ⟨g2, o2 + ix, none⟩) := by rw [hLe]; rfl
  have vv7 : vals LL 7 = .int .i64 (x : Nat) := by rw [hLe]; rfl
  have vv8 : vals LL 8 = .bool false := by rw [hLe]; rfl
  refine region_laid hmix (by kernel_rfl) 87 hsz (by kernel_rfl) LL (by rw [hLe]; rfl) (fun _ W => Below w1.heap.size w1 W) below1 ?_ ?_
  · intro b W i o a hS hcl ho hb hd ev kp yl
    match i with
    | 0 =>
      simp only [List.getElem?_toArray, List.getElem?_cons_zero, Option.some.injEq] at ho
      subst ho
      have e7 : a.tmps[7]?.getD undef = .slice (some ⟨g1, o1, none⟩) n c1 := (kp 7 (by kernel_rfl)).trans b7
      rw [vv0]
      refine does_value rfl (by intro c h; cases h) (w' := W) ?_ (hS)
      · simp [execOp, go_sem, e7]
    | 1 =>
      simp only [List.getElem?_toArray, List.getElem?_cons_zero, List.getElem?_cons_succ, Option.some.injEq] at ho
      subst ho
      have e9 : a.tmps[9]?.getD undef = .int .i64 (ix : Nat) := (kp 9 (by kernel_rfl)).trans b9
      rw [vv1]
      refine does_value rfl (by intro c h; cases h) (w' := W) ?_ (hS)
      · simp [execOp, go_sem, e9]
    | 2 =>
      simp only [List.getElem?_toArray, List.getElem?_cons_zero, List.getElem?_cons_succ, Option.some.injEq] at ho
      subst ho
      have p0 : b 0 = true := hd ⟨0, .data⟩ (by simp) rfl
      have p1 : b 1 = true := hd ⟨1, .data⟩ (by simp) rfl
      have e28 := (ev 0 28 rfl p0).trans vv0
      have e29 := (ev 1 29 rfl p1).trans vv1
      rw [vv2]
      refine does_value rfl (by intro c h; cases h) (w' := W) ?_ (hS)
      · simp [execOp, go_sem, e28, e29, hk]
    | 3 =>
      simp only [List.getElem?_toArray, List.getElem?_cons_zero, List.getElem?_cons_succ, Option.some.injEq] at ho
      subst ho
      have p2 : b 2 = true := hd ⟨2, .data⟩ (by simp) rfl
      have e30 := (ev 2 30 rfl p2).trans vv2
      have hl := (hS.cell (p := ⟨g1, o1 + ix, none⟩) (cell_lt d1)).trans d1
      rw [vv3]
      refine does_value rfl (by intro c h; cases h) (w' := W) ?_ (hS)
      · simp [execOp, go_sem, e30, hl]
    | 4 =>
      simp only [List.getElem?_toArray, List.getElem?_cons_zero, List.getElem?_cons_succ, Option.some.injEq] at ho
      subst ho
      have e8 : a.tmps[8]?.getD undef = .slice (some ⟨g2, o2, none⟩) n c2 := (kp 8 (by kernel_rfl)).trans b8
      rw [vv4]
      refine does_value rfl (by intro c h; cases h) (w' := W) ?_ (hS)
      · simp [execOp, go_sem, e8]
    | 5 =>
      simp only [List.getElem?_toArray, List.getElem?_cons_zero, List.getElem?_cons_succ, Option.some.injEq] at ho
      subst ho
      have e9 : a.tmps[9]?.getD undef = .int .i64 (ix : Nat) := (kp 9 (by kernel_rfl)).trans b9
      rw [vv5]
      refine does_value rfl (by intro c h; cases h) (w' := W) ?_ (hS)
      · simp [execOp, go_sem, e9]
    | 6 =>
      simp only [List.getElem?_toArray, List.getElem?_cons_zero, List.getElem?_cons_succ, Option.some.injEq] at ho
      subst ho
      have p4 : b 4 = true := hd ⟨4, .data⟩ (by simp) rfl
      have p5 : b 5 = true := hd ⟨5, .data⟩ (by simp) rfl
      have e32 := (ev 4 32 rfl p4).trans vv4
      have e33 := (ev 5 33 rfl p5).trans vv5
      rw [vv6]
      refine does_value rfl (by intro c h; cases h) (w' := W) ?_ (hS)
      · simp [execOp, go_sem, e32, e33, hk]
    | 7 =>
      simp only [List.getElem?_toArray, List.getElem?_cons_zero, List.getElem?_cons_succ, Option.some.injEq] at ho
      subst ho
      have p6 : b 6 = true := hd ⟨6, .data⟩ (by simp) rfl
      have e34 := (ev 6 34 rfl p6).trans vv6
      have hl := (hS.cell (p := ⟨g2, o2 + ix, none⟩) (cell_lt d2)).trans d2
      rw [vv7]
      refine does_value rfl (by intro c h; cases h) (w' := W) ?_ (hS)
      · simp [execOp, go_sem, e34, hl]
    | 8 =>
      simp only [List.getElem?_toArray, List.getElem?_cons_zero, List.getElem?_cons_succ, Option.some.injEq] at ho
      subst ho
      have p3 : b 3 = true := hd ⟨3, .data⟩ (by simp) rfl
      have p7 : b 7 = true := hd ⟨7, .data⟩ (by simp) rfl
      have e31 := (ev 3 31 rfl p3).trans vv3
      have e35 := (ev 7 35 rfl p7).trans vv7
      rw [vv8]
      refine does_value rfl (by intro c h; cases h) (w' := W) ?_ (hS)
      · simp [execOp, go_sem, e31, e35]
    | k + 9 => simp at ho
  · intro b' W hS _
    subst hLe
    exact hQ W hS

set_option maxRecDepth 8000 in
set_option maxHeartbeats 4000000 in
/-- same, where the program's cache answers as the document's is. -/
theorem same_true (c r : Nat) (x : Int) (base : Nat) (vv lv : Value) (S : RS) (w : World) (h : RF w base r vv lv S) (hs : S.L.length ≤ 10000 ∧ S.V.length ≤ 100000) (hb : Bool) (hbe : (decide (0 ≤ x) && (decide (x < (S.V.length : Int)) && (heldR S.L S.V.length).any (fun b => decide ((b : Int) = x)))) = hb)
    (cH : Calls Tryz.prog 39 #[.pointer (some ⟨c, 0, none⟩)] w fun e w' => ∃ p cc, e = .returned (.slice p (heldR S.L S.V.length).length cc) ∧ Nums w' p (heldR S.L S.V.length) ∧ Below w.heap.size w w')
    (cC : ∀ W, Below w.heap.size w W → Calls Tryz.prog 22 #[.pointer (some ⟨c, 0, none⟩)] W fun e w' => e = .returned (.tuple #[.int .i64 (S.hit : Nat), .int .i64 (S.miss : Nat), .int .i64 (S.outs : Nat)]) ∧ Below W.heap.size W w')
    (cA : ∀ W, Below w.heap.size w W → Calls Tryz.prog 23 #[.pointer (some ⟨c, 0, none⟩), .int .i64 x] W fun e w' => e = .returned (.bool hb) ∧ w' = W) :
    Calls Tryz.prog 20 #[.pointer (some ⟨c, 0, none⟩), .pointer (some ⟨r, 0, none⟩), .int .i64 x] w fun e w' => e = .returned (.bool true) ∧ Below w.heap.size w w' := by
  obtain ⟨pV, cV, rfl, _, _⟩ := own_form h.vrow
  obtain ⟨n, hn⟩ : ∃ n, (heldR S.L S.V.length).length = n := ⟨_, rfl⟩
  have hn2 : n ≤ 100000 := by rw [← hn]; exact Nat.le_trans (heldR_le _ _) hs.2
  obtain ⟨nV, hnV⟩ : ∃ nV, S.V.length = nV := ⟨_, rfl⟩
  have H0 : Hid (RF w base r (.slice pV S.V.length cV) lv S ∧ S.L.length ≤ 10000 ∧ S.V.length ≤ 100000 ∧ (decide (0 ≤ x) && (decide (x < (S.V.length : Int)) && (heldR S.L S.V.length).any (fun b => decide ((b : Int) = x)))) = hb) := ⟨h, hs.1, hs.2, hbe⟩
  have HC : Hid ((∀ W, Below w.heap.size w W → Calls Tryz.prog 22 #[.pointer (some ⟨c, 0, none⟩)] W fun e w' => e = .returned (.tuple #[.int .i64 (S.hit : Nat), .int .i64 (S.miss : Nat), .int .i64 (S.outs : Nat)]) ∧ Below W.heap.size W w') ∧ (∀ W, Below w.heap.size w W → Calls Tryz.prog 23 #[.pointer (some ⟨c, 0, none⟩), .int .i64 x] W fun e w' => e = .returned (.bool hb) ∧ w' = W)) := ⟨cC, cA⟩
  rw [hn] at cH
  clear h hs hbe cC cA
  go_enter Tryz.func20, Tryz.ntmps20
  go_wp2_with fail
  refine cH.mono ?_
  rintro e W1 ⟨p1, c1, rfl, hN1, hb1⟩
  have cR := rheld_any base r _ lv S W1 (H0.out.1.below hb1) H0.out.2.1 H0.out.2.2.1
  have H1 : Hid (Nums W1 p1 (heldR S.L S.V.length) ∧ Below w.heap.size w W1) := ⟨hN1, hb1⟩
  clear cH hN1 hb1
  go_wp2_with fail
  refine cR.mono ?_
  rintro e W2 ⟨v2, rfl, hrow, hb2⟩
  obtain ⟨p2, c2, rfl, hN2⟩ := own_nums hrow
  rw [hn]
  have H2 : Hid (Nums W2 p1 (heldR S.L S.V.length) ∧ Nums W2 p2 (heldR S.L S.V.length) ∧ Below w.heap.size w W2) := ⟨H1.out.1.below hb2, hN2, H1.out.2.trans (hb2.mono H1.out.2.size)⟩
  clear cR hrow hb2 hN2 H1
  go_wp2_with fail
  go_loopw [9] (fun ii W => ∃ i : Nat, ii = .int .i64 i ∧ i ≤ n ∧ Hid (Below W2.heap.size W2 W)) (fun ii _ => n - (intOf ii).toNat)
  case atStart => exact ⟨0, rfl, by omega, Below.refl _ _⟩
  case round =>
    obtain ⟨i, rfl, hin, HI⟩ := hrel
    by_cases hlt : i < n
    · obtain ⟨z, hz⟩ : ∃ z, (heldR S.L S.V.length)[i]? = some z := ⟨_, List.getElem?_eq_getElem (by omega)⟩
      have hltI : (i : Int) < (n : Int) := by omega
      obtain ⟨g1, o1, rfl, d1⟩ := (H2.out.1.below HI.out) i z hz
      obtain ⟨g2, o2, rfl, d2⟩ := (H2.out.2.1.below HI.out) i z hz
      clear hz
      go_wp2_with fail
      refine same_reg7 (by kernel_rfl) g1 o1 c1 g2 o2 c2 n i z wr rfl rfl rfl rfl hlt d1 d2 ?_
      intro W hbW
      simp only [putAll, List.setIfInBounds_toArray, List.set_cons_zero, List.set_cons_succ]
      have HW : Hid (Below W2.heap.size W2 W) := HI.out.trans (hbW.mono HI.out.size)
      clear hbW d1 d2
      go_wp2_with fail
      exact ⟨⟨i + 1, by go_num, by omega, HW⟩, by simp [intOf]; omega⟩
    · have hE : i = n := by omega
      subst hE
      have hge : ¬ (i : Int) < (i : Int) := by omega
      have hbw : Below w.heap.size w wr := H2.out.2.2.trans (HI.out.mono H2.out.2.2.size)
      have cCn := HC.out.1 wr hbw
      have H3 : Hid (Below w.heap.size w wr ∧ Nums wr p2 (heldR S.L S.V.length)) := ⟨hbw, H2.out.2.1.below HI.out⟩
      clear hbw HI
      go_wp2_with fail
      refine cCn.mono ?_
      rintro e W4 ⟨rfl, hb4⟩
      have hbw4 := H3.out.1.trans (hb4.mono H3.out.1.size)
      have hR4 := H0.out.1.below hbw4
      have e0 : W4.cell? ⟨r, 0, none⟩ = some (.slice pV nV cV) := by rw [← hnV]; exact cellOf hR4.cell 0
      have e4 : W4.cell? ⟨r, 4, none⟩ = some (.int .i64 (S.hit : Nat)) := cellOf hR4.cell 4
      have e5 : W4.cell? ⟨r, 5, none⟩ = some (.int .i64 (S.miss : Nat)) := cellOf hR4.cell 5
      have e6 : W4.cell? ⟨r, 6, none⟩ = some (.int .i64 (S.outs : Nat)) := cellOf hR4.cell 6
      have cHas := HC.out.2 W4 hbw4
      obtain ⟨am, ham⟩ : ∃ am, (heldR S.L S.V.length).any (fun b => decide ((b : Int) = x)) = am := ⟨_, rfl⟩
      have cAm := among_any p2 (heldR S.L S.V.length) c2 x W4 (by omega) (H3.out.2.below hb4) am ham
      rw [hn] at cAm
      have hbe := H0.out.2.2.2
      rw [ham, hnV] at hbe
      have H5 : Hid (Below w.heap.size w W4) := hbw4
      clear hb4 hbw4 hR4 ham cCn HC
      by_cases hx0 : x < 0
      · have hbf : hb = false := by rw [← hbe, decide_eq_false (by omega)]; rfl
        subst hbf
        have hx0' : ¬ 0 ≤ x := by omega
        clear hbe
        go_wp2_with (first | (go_at_call 23; refine Calls_on cHas ?_; clear cHas) | (go_at_call 41; refine Calls_on cAm ?_; clear cAm))
        go_ret
        exact ⟨by simp, H5.out⟩
      · by_cases hx1 : x < (nV : Int)
        · have hbf : hb = am := by rw [← hbe, decide_eq_true (by omega), decide_eq_true hx1]; simp
          subst hbf
          have hx0' : 0 ≤ x := by omega
          clear hbe
          go_wp2_with (first | (go_at_call 23; refine Calls_on cHas ?_; clear cHas) | (go_at_call 41; refine Calls_on cAm ?_; clear cAm))
          go_ret
          exact ⟨by simp, H5.out⟩
        · have hbf : hb = false := by rw [← hbe, decide_eq_false hx1]; simp
          subst hbf
          have hx0' : 0 ≤ x := by omega
          clear hbe
          go_wp2_with (first | (go_at_call 23; refine Calls_on cHas ?_; clear cHas) | (go_at_call 41; refine Calls_on cAm ?_; clear cAm))
          go_ret
          exact ⟨by simp, H5.out⟩

end Go.Proofs.YtlcojcldbdikgaaGreatDoor.Rc
