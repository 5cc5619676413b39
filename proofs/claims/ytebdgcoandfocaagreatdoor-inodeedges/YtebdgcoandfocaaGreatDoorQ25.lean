/-
  What the proof leans on, part 26.
-/
import Derived.Test.YtebdgcoandfocaaGreatDoorQ23
import Derived.Test.YtebdgcoandfocaaGreatDoorQ20
import Derived.Test.YtebdgcoandfocaaGreatDoorQ21
import Derived.Test.YtebdgcoandfocaaGreatDoorQ24

/-
  Package inode: Truncate, as far as its walk and its puts (printed by mktrunc13.py).
-/
namespace Go.Proofs.YtebdgcoandfocaaGreatDoor
open Go.RowKit Go.Maps Go.Sort Go.Shelf

set_option maxRecDepth 8000 in
set_option maxHeartbeats 8000000 in
/-- A size that is not below the old one. -/
theorem grow_J (w0 w : World) (a c b size sz : Nat) (vs : VS) (V : Nat → By) (m : Bm.MS) (ns : List (BitVec 32)) (hn : InoAt w a sz ns) (hnl : ns.length = 10) (hC : LC w0 w c vs V (fun _ => 0) b) (hb : b + 30000 ≤ 700000) (hm : Bm.MapAt w m) (hsz : size ≤ 65536) (hle : sz ≤ size) :
    Calls Tryz.prog 13 #[.pointer (some ⟨a, 0, none⟩), ep c, .pointer (some ⟨m.a, 0, none⟩), .int .i64 (size : Nat)] w fun e w' => e = .returned (.int .i64 0) ∧ InoAt w' a size ns ∧ LC w0 w' c vs V (fun _ => 0) b ∧ Bm.MapAt w' m ∧ But (fun k => Cmn w0 w k ∨ k = m.b ∨ k = a) w w' := by
  obtain ⟨n0, n1, n2, n3, n4, n5, n6, n7, n8, n9, rfl⟩ := list10 hnl
  have HW := hide (⟨hn, hC, hm⟩ : _ ∧ _ ∧ _)
  have hgt : ¬ ((65536 : Int) < (size : Int)) := by omega
  have hge : ¬ ((size : Int) < 0) := by omega
  have hmf : ∀ (fn : Fn) (first cap : Array Value) (w : World), (Instr.makeFunc fn first cap).run Tryz.prog w = .ok (.func fn first cap) w := fun _ _ _ _ => rfl
  have hdv : Int.tdiv (size : Int) 512 = ((size / 512 : Nat) : Int) := by rw [Int.tdiv_eq_ediv_of_nonneg (by omega)]; omega
  have hno : ∀ k cs t fr, w.heap[k]? = some (.cells cs t fr) → ¬ cTag t → ¬ Cmn w0 w k := fun k cs t fr hk h => cmn_not hk h
  obtain ⟨mcs, hmc⟩ := map_mbE hm
  obtain ⟨w2, hw2⟩ : ∃ w2, w2 = w.alloc (.cells #[ep c, .pointer none, .slice none 0 0, .slice none 0 0, .slice none 0 0, .int .i64 (size : Nat)] 78) := ⟨_, rfl⟩
  have hB2 : Below w.heap.size w w2 := by rw [hw2]; exact (Below.refl _ w).alloc (Nat.le_refl _) _
  have hx2 : BlkAt w2 w.heap.size [ep c, .pointer none, .slice none 0 0, .slice none 0 0, .slice none 0 0, .int .i64 (size : Nat)] 78 := by rw [hw2]; exact heap_alloc_new w _
  have d0 : w.cell? ⟨a, 1, none⟩ = some (.int .u32 (n0.toNat : Int)) := hn.num (i := 0) rfl
  have d1 : w.cell? ⟨a, 2, none⟩ = some (.int .u32 (n1.toNat : Int)) := hn.num (i := 1) rfl
  have d2 : w.cell? ⟨a, 3, none⟩ = some (.int .u32 (n2.toNat : Int)) := hn.num (i := 2) rfl
  have d3 : w.cell? ⟨a, 4, none⟩ = some (.int .u32 (n3.toNat : Int)) := hn.num (i := 3) rfl
  have d4 : w.cell? ⟨a, 5, none⟩ = some (.int .u32 (n4.toNat : Int)) := hn.num (i := 4) rfl
  have d5 : w.cell? ⟨a, 6, none⟩ = some (.int .u32 (n5.toNat : Int)) := hn.num (i := 5) rfl
  have d6 : w.cell? ⟨a, 7, none⟩ = some (.int .u32 (n6.toNat : Int)) := hn.num (i := 6) rfl
  have d7 : w.cell? ⟨a, 8, none⟩ = some (.int .u32 (n7.toNat : Int)) := hn.num (i := 7) rfl
  have d8 : w.cell? ⟨a, 9, none⟩ = some (.int .u32 (n8.toNat : Int)) := hn.num (i := 8) rfl
  have d9 : w.cell? ⟨a, 10, none⟩ = some (.int .u32 (n9.toNat : Int)) := hn.num (i := 9) rfl
  have e0 := hn.size
  have hal := hn.lt
  have han : ¬ a = w.heap.size := by omega
  have han' : ¬ w.heap.size = a := by omega
  have han2 : ¬ a = w.heap.size + 1 := by omega
  have han3 : ¬ w.heap.size + 1 = a := by omega
  have H2 := hide hw2
  obtain ⟨w3, hw3⟩ : ∃ w3, w3 = (w.alloc (.cells #[ep c, .pointer none, .slice none 0 0, .slice none 0 0, .slice none 0 0, .int .i64 (size : Nat)] 78)).alloc (.cells #[.int .u32 (n0.toNat : Int), .int .u32 (n1.toNat : Int), .int .u32 (n2.toNat : Int), .int .u32 (n3.toNat : Int), .int .u32 (n4.toNat : Int), .int .u32 (n5.toNat : Int), .int .u32 (n6.toNat : Int), .int .u32 (n7.toNat : Int), .int .u32 (n8.toNat : Int), .int .u32 (n9.toNat : Int)] 55) := ⟨_, rfl⟩
  have hB3 : Below w2.heap.size w2 w3 := by rw [hw3, ← H2.out]; exact (Below.refl _ w2).alloc (Nat.le_refl _) _
  have hs2 : w2.heap.size = w.heap.size + 1 := by rw [H2.out]; simp
  have hx3 : NumsAt w3 (w.heap.size + 1) [n0, n1, n2, n3, n4, n5, n6, n7, n8, n9] := by rw [hw3, ← H2.out, ← hs2]; exact heap_alloc_new w2 _
  have hs3 : w3.heap.size = w.heap.size + 2 := by rw [hw3]; simp
  have hB03 : Below w.heap.size w w3 := hB2.trans (hB3.mono hB2.size)
  have hTJ : TJ (fun b w => LC w0 w c vs V (fun _ => 0) b) w0 w w.heap.size c size ⟨b, 0, [], [], []⟩ w3 :=
    ⟨hC.below hB03, But.of_below hB03, Nat.le_refl _, Nat.le_refl _, ⟨_, _, _, [], hx2.below hB3, ⟨⟨rfl, .inl ⟨rfl, rfl⟩⟩, ⟨rfl, .inl ⟨rfl, rfl⟩⟩, (fun k h => by cases h), ⟨rfl, .inl ⟨rfl, rfl⟩⟩, rfl, (fun i p d h => by simp at h)⟩⟩, Nat.zero_le _, Nat.zero_le _, Nat.zero_le _⟩
  have hlt : ¬ ((size : Int) < (sz : Int)) := by omega
  clear hn hC hm hw2 hB2 hx2 hB3 hs2 hB03 H2 hmf hdv
  obtain ⟨s0, hs0⟩ : ∃ s0 : WS, s0 = ⟨b, 0, [], [], []⟩ := ⟨_, rfl⟩
  rw [← hs0] at hTJ
  have hPl : ∀ q ∈ s0.P, q.1 < nbOf vs.d.n := by rw [hs0]; intro q hq; cases hq
  have hPn : s0.P.length ≤ 1000 := by rw [hs0]; simp
  have hGn : s0.G.length ≤ 1000 := by rw [hs0]; simp
  have hGl : ∀ i ∈ s0.G, i < m.n := by rw [hs0]; intro i hi; cases hi
  have hsb : s0.b ≤ 690000 := by rw [hs0]; show b ≤ _; omega
  have HS0 := hide hs0
  clear hs0
  go_enter Tryz.func13, Tryz.ntmps13
  have HT := hide (And.intro hTJ hx3)
  clear hTJ hx3
  go_wp2_with fail
  rw [← hw3]
  clear hw3 d0 d1 d2 d3 d4 d5 d6 d7 d8 d9 e0
  obtain ⟨hT4, hN4⟩ := HT.out
  have hc4 : CJ (fun b w => LC w0 w c vs V (fun _ => 0) b) w0 w w.heap.size w.heap.size c 78 (.pointer none) [.int .i64 (size : Nat)] s0.b [] s0.G s0.P w3 := hT4
  obtain ⟨sT4, sG4, sP4, D4, hb4, hr4⟩ := hc4.blk
  have hfr4 := hc4.fr
  have hi4 : InoAt w3 a sz [n0, n1, n2, n3, n4, n5, n6, n7, n8, n9] := HW.out.1.but hfr4 (hno _ _ _ _ HW.out.1 (cTag_not (by decide) (by decide) (by decide)))
  have c0 := hi4.size
  have q0 : w3.cell? ⟨w.heap.size + 1, 0, none⟩ = some (.int .u32 (n0.toNat : Int)) := hN4.num (i := 0) rfl
  have q1 : w3.cell? ⟨w.heap.size + 1, 1, none⟩ = some (.int .u32 (n1.toNat : Int)) := hN4.num (i := 1) rfl
  have q2 : w3.cell? ⟨w.heap.size + 1, 2, none⟩ = some (.int .u32 (n2.toNat : Int)) := hN4.num (i := 2) rfl
  have q3 : w3.cell? ⟨w.heap.size + 1, 3, none⟩ = some (.int .u32 (n3.toNat : Int)) := hN4.num (i := 3) rfl
  have q4 : w3.cell? ⟨w.heap.size + 1, 4, none⟩ = some (.int .u32 (n4.toNat : Int)) := hN4.num (i := 4) rfl
  have q5 : w3.cell? ⟨w.heap.size + 1, 5, none⟩ = some (.int .u32 (n5.toNat : Int)) := hN4.num (i := 5) rfl
  have q6 : w3.cell? ⟨w.heap.size + 1, 6, none⟩ = some (.int .u32 (n6.toNat : Int)) := hN4.num (i := 6) rfl
  have q7 : w3.cell? ⟨w.heap.size + 1, 7, none⟩ = some (.int .u32 (n7.toNat : Int)) := hN4.num (i := 7) rfl
  have q8 : w3.cell? ⟨w.heap.size + 1, 8, none⟩ = some (.int .u32 (n8.toNat : Int)) := hN4.num (i := 8) rfl
  have q9 : w3.cell? ⟨w.heap.size + 1, 9, none⟩ = some (.int .u32 (n9.toNat : Int)) := hN4.num (i := 9) rfl
  obtain ⟨W, hW⟩ : ∃ W, W = w3.drew.alloc (.cells ([n0, n1, n2, n3, n4, n5, n6, n7, n8, n9].map u32v).toArray 55) := ⟨_, rfl⟩
  have hBW : Below w3.heap.size w3 W := by rw [hW]; exact ((Below.refl _ w3).drew).alloc (Nat.le_refl _) _
  have hfrW : But (Cmn w0 w) w W := cmn_hi hfr4 (But.of_below (S := fun _ => False) hBW) (fun _ h => h.elim)
  have hxW : NumsAt W w3.heap.size [n0, n1, n2, n3, n4, n5, n6, n7, n8, n9] := by rw [hW]; exact heap_alloc_new w3.drew _
  have hmW : Bm.MapAt W m := HW.out.2.2.keep (but_only hfrW) (hno _ _ _ _ HW.out.2.2.st (cTag_not (by decide) (by decide) (by decide))) (hno _ _ _ _ hmc (cTag_not (by decide) (by decide) (by decide)))
  have hiW : InoAt W a sz [n0, n1, n2, n3, n4, n5, n6, n7, n8, n9] := hi4.below hBW hi4.lt
  have cD := do_L w0 W w.heap.size c s0.b w.heap.size _ _ 78 okC vs V [] _ s0.P D4 sT4 sG4 sP4 m (hb4.below hBW) (hr4.but (But.of_below (S := fun _ => False) hBW) (fun _ _ _ _ _ _ h => h)) (hc4.lp.below hBW) ⟨hPn, by simp, hGn⟩ (by omega) hPl hmW (fun i hi => by cases hi) hGl
  rw [List.foldl_nil] at cD
  have hna : ¬ (Cmn w0 W a ∨ a = m.b) := fun e => by
    rcases e with e | e
    · exact cmn_not hiW (cTag_not (by decide) (by decide) (by decide)) e
    · exact map_b_ne hmW (show BlkAt W a _ _ from hiW) (by decide) e
  have cB := become_any w3.drew a sz size w.heap.size m.a [n0, n1, n2, n3, n4, n5, n6, n7, n8, n9] [n0, n1, n2, n3, n4, n5, n6, n7, n8, n9] (fun w' => LC w0 w' c vs (Ino.putsV V s0.P) (fun _ => 0) (s0.b + s0.P.length + s0.P.length + s0.P.length) ∧ Bm.MapAt w' (s0.G.foldl giveM m)) (fun k => Cmn w0 W k ∨ k = m.b) hi4 rfl rfl W hW (cD.mono (by rintro e w' ⟨rfl, z1, z2, z3⟩; exact ⟨rfl, ⟨z1, z2⟩, z3⟩)) hna (fun e => by
    rcases e with e | e
    · exact cmn_not hxW (cTag_not (by decide) (by decide) (by decide)) e
    · exact map_b_ne hmW (show BlkAt W w3.heap.size _ _ from hxW) (by decide) e)
  have H4 := hide (⟨hfr4, hBW, hmW, hiW, hna, hi4, hfrW⟩ : _ ∧ _ ∧ _ ∧ _ ∧ _ ∧ _ ∧ _)
  unfold u32v at cB
  clear hT4 hN4 hPl hPn hGn hGl hc4 hb4 hr4 hfr4 hi4 hW hBW hfrW hxW hmW cD hiW hna hmc hno
  go_region_with (go_at_call 27; refine cB.mono ?_; rintro e w6 ⟨rfl, w5, ⟨z1, z2⟩, z3, z4, z5⟩)
  all_goals
    have HFF : Hid (InoAt w6 a size [n0, n1, n2, n3, n4, n5, n6, n7, n8, n9] ∧ LC w0 w6 c vs (Ino.putsV V s0.P) (fun _ => 0) (s0.b + s0.P.length + s0.P.length + s0.P.length) ∧ Bm.MapAt w6 (s0.G.foldl giveM m) ∧ But (fun k => Cmn w0 w k ∨ k = m.b ∨ k = a) w w6) := by
      obtain ⟨hfr4, hBW, hmW, hiW, hna, hi4, hfrW⟩ := H4.out
      have z3' : But (fun k => Cmn w0 W k ∨ k = m.b) w3 w5 := ⟨z3.os, z3.tape, z3.output, z3.size, z3.block⟩
      have hi5 : InoAt w5 a sz [n0, n1, n2, n3, n4, n5, n6, n7, n8, n9] := hi4.but z3' hna
      have hma : a ≠ m.a := map_a_ne hmW (show BlkAt W a _ _ from hiW) (by decide)
      have hmb : a ≠ m.b := map_b_ne hmW (show BlkAt W a _ _ from hiW) (by decide)
      obtain ⟨ea, eb, _⟩ := gives_abn s0.G m
      refine ⟨z4, z1.foreign z5 (fun k hk => ?_), z2.keep (but_only z5) (fun e => hma (by have e : _ = a := e; rw [ea] at e; exact e.symm)) (fun e => hmb (by have e : _ = a := e; rw [eb] at e; exact e.symm)), ?_⟩
      · rw [show k = a from hk]
        exact ⟨_, _, _, hi5, by unfold foreignT; decide⟩
      · refine ((hfr4.mono (fun k _ h => .inl h)).after z3' (fun i hi hc => ?_)).after z5 (fun i _ e => .inr (.inr e))
        rcases hc with hc | hc
        · refine .inl ⟨hc.1, fun cs t fr hk => ?_⟩
          apply Classical.byContradiction
          intro hn
          have e : W.heap[i]? = w.heap[i]? := hfrW.block i hi (fun hcm => hn (hcm.2 cs t fr hk))
          exact hn (hc.2 cs t fr (e.trans hk))
        · exact .inr (.inl hc)
    clear cB z1 z2 z3 z4 z5 q0 q1 q2 q3 q4 q5 q6 q7 q8 q9 c0
    go_wp2
    go_ret
    obtain ⟨f1, f2, f3, f4⟩ := HFF.out
    rw [HS0.out] at f2 f3
    exact ⟨rfl, f1, f2, f3, f4⟩

/-- What a cut's walk leaves. -/
def cuR (nb : Nat) (V : Nat → By) (size b : Nat) (ns : List (BitVec 32)) : List (BitVec 32) × Int × WS := Ino.ovr (wOps [] nb V) false (size / 512) 4168 (cutS nb V size) ns ⟨b, 0, [], [], []⟩

set_option maxRecDepth 8000 in
set_option maxHeartbeats 8000000 in
/-- A size that is below the old one. -/
theorem trunc_J (w0 w : World) (a c b size sz : Nat) (vs : VS) (V : Nat → By) (m : Bm.MS) (ns : List (BitVec 32)) (hn : InoAt w a sz ns) (hnl : ns.length = 10) (hC : LC w0 w c vs V (fun _ => 0) b) (hb : b + 30000 ≤ 700000) (hm : Bm.MapAt w m) (hsz : size ≤ 65536) (hlt0 : size < sz) (R : List (BitVec 32) × Int × WS) (hR : cuR (nbOf vs.d.n) V size b ns = R) (hP : R.2.1 = 0 → (∀ q ∈ R.2.2.P, q.1 < nbOf vs.d.n) ∧ R.2.2.P.length ≤ 1000 ∧ R.2.2.G.length ≤ 1000 ∧ ∀ i ∈ R.2.2.G, i < m.n) :
    Calls Tryz.prog 13 #[.pointer (some ⟨a, 0, none⟩), ep c, .pointer (some ⟨m.a, 0, none⟩), .int .i64 (size : Nat)] w fun e w' => e = .returned (.int .i64 R.2.1) ∧ (R.2.1 ≠ 0 → InoAt w' a sz ns ∧ LC w0 w' c vs V (fun _ => 0) R.2.2.b ∧ Bm.MapAt w' m ∧ But (fun k => Cmn w0 w k ∨ k = m.b ∨ k = a) w w') ∧
      (R.2.1 = 0 → InoAt w' a size R.1 ∧ R.1.length = 10 ∧ LC w0 w' c vs (Ino.putsV V R.2.2.P) (fun _ => 0) (R.2.2.b + R.2.2.P.length + R.2.2.P.length + R.2.2.P.length) ∧ Bm.MapAt w' (R.2.2.G.foldl giveM m) ∧ But (fun k => Cmn w0 w k ∨ k = m.b ∨ k = a) w w') := by
  obtain ⟨n0, n1, n2, n3, n4, n5, n6, n7, n8, n9, rfl⟩ := list10 hnl
  have HW := hide (⟨hn, hC, hm⟩ : _ ∧ _ ∧ _)
  have hgt : ¬ ((65536 : Int) < (size : Int)) := by omega
  have hge : ¬ ((size : Int) < 0) := by omega
  have hmf : ∀ (fn : Fn) (first cap : Array Value) (w : World), (Instr.makeFunc fn first cap).run Tryz.prog w = .ok (.func fn first cap) w := fun _ _ _ _ => rfl
  have hdv : Int.tdiv (size : Int) 512 = ((size / 512 : Nat) : Int) := by rw [Int.tdiv_eq_ediv_of_nonneg (by omega)]; omega
  have hno : ∀ k cs t fr, w.heap[k]? = some (.cells cs t fr) → ¬ cTag t → ¬ Cmn w0 w k := fun k cs t fr hk h => cmn_not hk h
  obtain ⟨mcs, hmc⟩ := map_mbE hm
  obtain ⟨w2, hw2⟩ : ∃ w2, w2 = w.alloc (.cells #[ep c, .pointer none, .slice none 0 0, .slice none 0 0, .slice none 0 0, .int .i64 (size : Nat)] 78) := ⟨_, rfl⟩
  have hB2 : Below w.heap.size w w2 := by rw [hw2]; exact (Below.refl _ w).alloc (Nat.le_refl _) _
  have hx2 : BlkAt w2 w.heap.size [ep c, .pointer none, .slice none 0 0, .slice none 0 0, .slice none 0 0, .int .i64 (size : Nat)] 78 := by rw [hw2]; exact heap_alloc_new w _
  have d0 : w.cell? ⟨a, 1, none⟩ = some (.int .u32 (n0.toNat : Int)) := hn.num (i := 0) rfl
  have d1 : w.cell? ⟨a, 2, none⟩ = some (.int .u32 (n1.toNat : Int)) := hn.num (i := 1) rfl
  have d2 : w.cell? ⟨a, 3, none⟩ = some (.int .u32 (n2.toNat : Int)) := hn.num (i := 2) rfl
  have d3 : w.cell? ⟨a, 4, none⟩ = some (.int .u32 (n3.toNat : Int)) := hn.num (i := 3) rfl
  have d4 : w.cell? ⟨a, 5, none⟩ = some (.int .u32 (n4.toNat : Int)) := hn.num (i := 4) rfl
  have d5 : w.cell? ⟨a, 6, none⟩ = some (.int .u32 (n5.toNat : Int)) := hn.num (i := 5) rfl
  have d6 : w.cell? ⟨a, 7, none⟩ = some (.int .u32 (n6.toNat : Int)) := hn.num (i := 6) rfl
  have d7 : w.cell? ⟨a, 8, none⟩ = some (.int .u32 (n7.toNat : Int)) := hn.num (i := 7) rfl
  have d8 : w.cell? ⟨a, 9, none⟩ = some (.int .u32 (n8.toNat : Int)) := hn.num (i := 8) rfl
  have d9 : w.cell? ⟨a, 10, none⟩ = some (.int .u32 (n9.toNat : Int)) := hn.num (i := 9) rfl
  have e0 := hn.size
  have hal := hn.lt
  have han : ¬ a = w.heap.size := by omega
  have han' : ¬ w.heap.size = a := by omega
  have han2 : ¬ a = w.heap.size + 1 := by omega
  have han3 : ¬ w.heap.size + 1 = a := by omega
  have H2 := hide hw2
  obtain ⟨w3, hw3⟩ : ∃ w3, w3 = (w.alloc (.cells #[ep c, .pointer none, .slice none 0 0, .slice none 0 0, .slice none 0 0, .int .i64 (size : Nat)] 78)).alloc (.cells #[.int .u32 (n0.toNat : Int), .int .u32 (n1.toNat : Int), .int .u32 (n2.toNat : Int), .int .u32 (n3.toNat : Int), .int .u32 (n4.toNat : Int), .int .u32 (n5.toNat : Int), .int .u32 (n6.toNat : Int), .int .u32 (n7.toNat : Int), .int .u32 (n8.toNat : Int), .int .u32 (n9.toNat : Int)] 55) := ⟨_, rfl⟩
  have hB3 : Below w2.heap.size w2 w3 := by rw [hw3, ← H2.out]; exact (Below.refl _ w2).alloc (Nat.le_refl _) _
  have hs2 : w2.heap.size = w.heap.size + 1 := by rw [H2.out]; simp
  have hx3 : NumsAt w3 (w.heap.size + 1) [n0, n1, n2, n3, n4, n5, n6, n7, n8, n9] := by rw [hw3, ← H2.out, ← hs2]; exact heap_alloc_new w2 _
  have hs3 : w3.heap.size = w.heap.size + 2 := by rw [hw3]; simp
  have hB03 : Below w.heap.size w w3 := hB2.trans (hB3.mono hB2.size)
  have hTJ : TJ (fun b w => LC w0 w c vs V (fun _ => 0) b) w0 w w.heap.size c size ⟨b, 0, [], [], []⟩ w3 :=
    ⟨hC.below hB03, But.of_below hB03, Nat.le_refl _, Nat.le_refl _, ⟨_, _, _, [], hx2.below hB3, ⟨⟨rfl, .inl ⟨rfl, rfl⟩⟩, ⟨rfl, .inl ⟨rfl, rfl⟩⟩, (fun k h => by cases h), ⟨rfl, .inl ⟨rfl, rfl⟩⟩, rfl, (fun i p d h => by simp at h)⟩⟩, Nat.zero_le _, Nat.zero_le _, Nat.zero_le _⟩
  have hlt : (size : Int) < (sz : Int) := by omega
  obtain ⟨R1, er, s1⟩ := R
  obtain ⟨f, hf⟩ : ∃ f, size / 512 = f := ⟨_, rfl⟩
  rw [hf] at hdv
  have hwf : IntKind.i64.wrap (f : Int) = (f : Int) := by rw [IntKind.wrap_i64]; omega
  obtain ⟨w5, hw5⟩ : ∃ w5, w5 = w3.alloc (.cells #[.pointer (some ⟨w.heap.size, 0, none⟩), .int .i64 (f : Nat), .int .i64 4168, .bool false, .func (.func 28) #[.pointer (some ⟨w.heap.size, 0, none⟩)] #[]] 81) := ⟨_, rfl⟩
  have hB5 : Below w3.heap.size w3 w5 := by rw [hw5]; exact (Below.refl _ w3).alloc (Nat.le_refl _) _
  have hk5 : WalkAt w5 w3.heap.size (.pointer (some ⟨w.heap.size, 0, none⟩)) f 4168 false (.func (.func 28) #[.pointer (some ⟨w.heap.size, 0, none⟩)] #[]) := by rw [hw5]; exact heap_alloc_new w3 _
  have Hn := handsC (LP := fun b w => LC w0 w c vs V (fun _ => 0) b) (w0 := w0) (ws := w) (wb := w.heap.size) (c := c) (lpok_LC w0 c vs V) hsz
  rw [hf] at Hn
  have cO := over_J Hn w3.heap.size (w.heap.size + 1) [n0, n1, n2, n3, n4, n5, n6, n7, n8, n9] ⟨b, 0, [], [], []⟩ w5 rfl hk5 (hx3.below hB5 (by omega)) (CJ.foreign hTJ (lpok_LC w0 c vs V) (But.of_below (S := fun _ => False) hB5) (fun _ h => h.elim)) (by omega) (by show b + 16804 ≤ _; omega)
  have hco := ovr_cost Hn [n0, n1, n2, n3, n4, n5, n6, n7, n8, n9] rfl ⟨b, 0, [], [], []⟩
  have hR' : Ino.ovr (wOps [] (nbOf vs.d.n) V) false f 4168 (cutS (nbOf vs.d.n) V size) [n0, n1, n2, n3, n4, n5, n6, n7, n8, n9] ⟨b, 0, [], [], []⟩ = (R1, er, s1) := by rw [← hf]; exact hR
  rw [hR'] at cO hco
  have hsb : s1.b ≤ 690000 := by have : s1.b ≤ b + 16804 := hco; omega
  have HP := hide hP
  dsimp only at HP ⊢
  rw [hs3] at cO
  clear hn hC hm hw2 hB2 hx2 hB3 hs2 hB03 H2 hTJ hx3 Hn hco hR' hR hP hk5 hB5
  refine (show Calls Tryz.prog 13 #[.pointer (some ⟨a, 0, none⟩), ep c, .pointer (some ⟨m.a, 0, none⟩), .int .i64 (size : Nat)] w (fun e w' => Hid (e = .returned (.int .i64 er) ∧ (er ≠ 0 → InoAt w' a sz [n0, n1, n2, n3, n4, n5, n6, n7, n8, n9] ∧ LC w0 w' c vs V (fun _ => 0) s1.b ∧ Bm.MapAt w' m ∧ But (fun k => Cmn w0 w k ∨ k = m.b ∨ k = a) w w') ∧
      (er = 0 → InoAt w' a size R1 ∧ R1.length = 10 ∧ LC w0 w' c vs (Ino.putsV V s1.P) (fun _ => 0) (s1.b + s1.P.length + s1.P.length + s1.P.length) ∧ Bm.MapAt w' (s1.G.foldl giveM m) ∧ But (fun k => Cmn w0 w k ∨ k = m.b ∨ k = a) w w'))) from ?_).mono (fun e w' h => h.out)
  go_enter Tryz.func13, Tryz.ntmps13
  go_wp2_with (go_at_call 29; rw [← hw3, ← hw5]; refine cO.mono ?_; rintro e w4 ⟨ns2, er2, s2, heq, rfl, h21, h22, h23⟩; clear cO hw3 hw5 d0 d1 d2 d3 d4 d5 d6 d7 d8 d9 e0; refine Stop.out ?_)
  refine Stop.mk ?_
  cases heq
  by_cases her : er = 0
  · obtain ⟨hN4, hR10⟩ := h23 her
    obtain ⟨hPl, hPn, hGn, hGl⟩ := HP.out her
    have hT4 := h21
    obtain ⟨r0, r1, r2, r3, r4, r5, r6, r7, r8, r9, rfl⟩ := list10 hR10
    have HE := hide her
    have e1 : (er != 0) = false := by simp [her]
    have e2 : (er == 0) = true := by simp [her]
    clear her h21 h22 h23 hR10 hmf hdv hwf
    have hc4 : CJ (fun b w => LC w0 w c vs V (fun _ => 0) b) w0 w w.heap.size w.heap.size c 78 (.pointer none) [.int .i64 (size : Nat)] s1.b [] s1.G s1.P w4 := hT4
    obtain ⟨sT4, sG4, sP4, D4, hb4, hr4⟩ := hc4.blk
    have hfr4 := hc4.fr
    have hi4 : InoAt w4 a sz [n0, n1, n2, n3, n4, n5, n6, n7, n8, n9] := HW.out.1.but hfr4 (hno _ _ _ _ HW.out.1 (cTag_not (by decide) (by decide) (by decide)))
    have c0 := hi4.size
    have q0 : w4.cell? ⟨w.heap.size + 1, 0, none⟩ = some (.int .u32 (r0.toNat : Int)) := hN4.num (i := 0) rfl
    have q1 : w4.cell? ⟨w.heap.size + 1, 1, none⟩ = some (.int .u32 (r1.toNat : Int)) := hN4.num (i := 1) rfl
    have q2 : w4.cell? ⟨w.heap.size + 1, 2, none⟩ = some (.int .u32 (r2.toNat : Int)) := hN4.num (i := 2) rfl
    have q3 : w4.cell? ⟨w.heap.size + 1, 3, none⟩ = some (.int .u32 (r3.toNat : Int)) := hN4.num (i := 3) rfl
    have q4 : w4.cell? ⟨w.heap.size + 1, 4, none⟩ = some (.int .u32 (r4.toNat : Int)) := hN4.num (i := 4) rfl
    have q5 : w4.cell? ⟨w.heap.size + 1, 5, none⟩ = some (.int .u32 (r5.toNat : Int)) := hN4.num (i := 5) rfl
    have q6 : w4.cell? ⟨w.heap.size + 1, 6, none⟩ = some (.int .u32 (r6.toNat : Int)) := hN4.num (i := 6) rfl
    have q7 : w4.cell? ⟨w.heap.size + 1, 7, none⟩ = some (.int .u32 (r7.toNat : Int)) := hN4.num (i := 7) rfl
    have q8 : w4.cell? ⟨w.heap.size + 1, 8, none⟩ = some (.int .u32 (r8.toNat : Int)) := hN4.num (i := 8) rfl
    have q9 : w4.cell? ⟨w.heap.size + 1, 9, none⟩ = some (.int .u32 (r9.toNat : Int)) := hN4.num (i := 9) rfl
    obtain ⟨W, hW⟩ : ∃ W, W = w4.drew.alloc (.cells ([r0, r1, r2, r3, r4, r5, r6, r7, r8, r9].map u32v).toArray 55) := ⟨_, rfl⟩
    have hBW : Below w4.heap.size w4 W := by rw [hW]; exact ((Below.refl _ w4).drew).alloc (Nat.le_refl _) _
    have hfrW : But (Cmn w0 w) w W := cmn_hi hfr4 (But.of_below (S := fun _ => False) hBW) (fun _ h => h.elim)
    have hxW : NumsAt W w4.heap.size [r0, r1, r2, r3, r4, r5, r6, r7, r8, r9] := by rw [hW]; exact heap_alloc_new w4.drew _
    have hmW : Bm.MapAt W m := HW.out.2.2.keep (but_only hfrW) (hno _ _ _ _ HW.out.2.2.st (cTag_not (by decide) (by decide) (by decide))) (hno _ _ _ _ hmc (cTag_not (by decide) (by decide) (by decide)))
    have hiW : InoAt W a sz [n0, n1, n2, n3, n4, n5, n6, n7, n8, n9] := hi4.below hBW hi4.lt
    have cD := do_L w0 W w.heap.size c s1.b w.heap.size _ _ 78 okC vs V [] _ s1.P D4 sT4 sG4 sP4 m (hb4.below hBW) (hr4.but (But.of_below (S := fun _ => False) hBW) (fun _ _ _ _ _ _ h => h)) (hc4.lp.below hBW) ⟨hPn, by simp, hGn⟩ (by omega) hPl hmW (fun i hi => by cases hi) hGl
    rw [List.foldl_nil] at cD
    have hna : ¬ (Cmn w0 W a ∨ a = m.b) := fun e => by
      rcases e with e | e
      · exact cmn_not hiW (cTag_not (by decide) (by decide) (by decide)) e
      · exact map_b_ne hmW (show BlkAt W a _ _ from hiW) (by decide) e
    have cB := become_any w4.drew a sz size w.heap.size m.a [n0, n1, n2, n3, n4, n5, n6, n7, n8, n9] [r0, r1, r2, r3, r4, r5, r6, r7, r8, r9] (fun w' => LC w0 w' c vs (Ino.putsV V s1.P) (fun _ => 0) (s1.b + s1.P.length + s1.P.length + s1.P.length) ∧ Bm.MapAt w' (s1.G.foldl giveM m)) (fun k => Cmn w0 W k ∨ k = m.b) hi4 rfl rfl W hW (cD.mono (by rintro e w' ⟨rfl, z1, z2, z3⟩; exact ⟨rfl, ⟨z1, z2⟩, z3⟩)) hna (fun e => by
      rcases e with e | e
      · exact cmn_not hxW (cTag_not (by decide) (by decide) (by decide)) e
      · exact map_b_ne hmW (show BlkAt W w4.heap.size _ _ from hxW) (by decide) e)
    have H4 := hide (⟨hfr4, hBW, hmW, hiW, hna, hi4, hfrW⟩ : _ ∧ _ ∧ _ ∧ _ ∧ _ ∧ _ ∧ _)
    unfold u32v at cB
    clear hT4 hN4 hPl hPn hGn hGl hc4 hb4 hr4 hfr4 hi4 hW hBW hfrW hxW hmW cD hiW hna hmc hno
    go_wp2_with fail
    go_region_with (go_at_call 27; refine cB.mono ?_; rintro e w6 ⟨rfl, w5, ⟨z1, z2⟩, z3, z4, z5⟩)
    all_goals
      have HFF : Hid (InoAt w6 a size [r0, r1, r2, r3, r4, r5, r6, r7, r8, r9] ∧ LC w0 w6 c vs (Ino.putsV V s1.P) (fun _ => 0) (s1.b + s1.P.length + s1.P.length + s1.P.length) ∧ Bm.MapAt w6 (s1.G.foldl giveM m) ∧ But (fun k => Cmn w0 w k ∨ k = m.b ∨ k = a) w w6) := by
        obtain ⟨hfr4, hBW, hmW, hiW, hna, hi4, hfrW⟩ := H4.out
        have z3' : But (fun k => Cmn w0 W k ∨ k = m.b) w4 w5 := ⟨z3.os, z3.tape, z3.output, z3.size, z3.block⟩
        have hi5 : InoAt w5 a sz [n0, n1, n2, n3, n4, n5, n6, n7, n8, n9] := hi4.but z3' hna
        have hma : a ≠ m.a := map_a_ne hmW (show BlkAt W a _ _ from hiW) (by decide)
        have hmb : a ≠ m.b := map_b_ne hmW (show BlkAt W a _ _ from hiW) (by decide)
        obtain ⟨ea, eb, _⟩ := gives_abn s1.G m
        refine ⟨z4, z1.foreign z5 (fun k hk => ?_), z2.keep (but_only z5) (fun e => hma (by have e : _ = a := e; rw [ea] at e; exact e.symm)) (fun e => hmb (by have e : _ = a := e; rw [eb] at e; exact e.symm)), ?_⟩
        · rw [show k = a from hk]
          exact ⟨_, _, _, hi5, by unfold foreignT; decide⟩
        · refine ((hfr4.mono (fun k _ h => .inl h)).after z3' (fun i hi hc => ?_)).after z5 (fun i _ e => .inr (.inr e))
          rcases hc with hc | hc
          · refine .inl ⟨hc.1, fun cs t fr hk => ?_⟩
            apply Classical.byContradiction
            intro hn
            have e : W.heap[i]? = w.heap[i]? := hfrW.block i hi (fun hcm => hn (hcm.2 cs t fr hk))
            exact hn (hc.2 cs t fr (e.trans hk))
          · exact .inr (.inl hc)
      clear cB z1 z2 z3 z4 z5 q0 q1 q2 q3 q4 q5 q6 q7 q8 q9 c0
      go_wp2
      go_ret
      exact hide ⟨by rw [HE.out]; rfl, fun h => absurd HE.out h, fun _ => ⟨HFF.out.1, rfl, HFF.out.2.1, HFF.out.2.2.1, HFF.out.2.2.2⟩⟩
  · have hfr4 := CJ.fr h21
    have HE := hide (⟨HW.out.1.but hfr4 (hno _ _ _ _ HW.out.1 (cTag_not (by decide) (by decide) (by decide))), CJ.lp h21, HW.out.2.2.keep (but_only hfr4) (hno _ _ _ _ HW.out.2.2.st (cTag_not (by decide) (by decide) (by decide))) (hno _ _ _ _ hmc (cTag_not (by decide) (by decide) (by decide))), hfr4.mono (fun _ _ h => .inl h)⟩ : InoAt w4 a sz [n0, n1, n2, n3, n4, n5, n6, n7, n8, n9] ∧ LC w0 w4 c vs V (fun _ => 0) s1.b ∧ Bm.MapAt w4 m ∧ But (fun k => Cmn w0 w k ∨ k = m.b ∨ k = a) w w4)
    have q1 : (er != 0) = true := by simp [her]
    have q2 : (er == 0) = false := by simp [her]
    clear h21 h22 h23 hfr4 hno hmc hmf hdv hwf
    go_wp2
    go_ret
    exact hide ⟨rfl, fun _ => HE.out, fun h => absurd h her⟩

end Go.Proofs.YtebdgcoandfocaaGreatDoor

/-
  Package inode: Write of a file.
-/
namespace Go.Proofs.YtebdgcoandfocaaGreatDoor
open Go.RowKit Go.Maps Go.Sort Go.Shelf

theorem setM_fit {m : Bm.MS} (hf : Bm.Fit m.n m.ws) (ht : Bm.Tight m.n m.ws) {i : Nat} (hi : i < m.n) : (setM m i).n = m.n ∧ Bm.Fit (setM m i).n (setM m i).ws ∧ Bm.Tight (setM m i).n (setM m i).ws := by
  unfold setM
  split
  · exact ⟨rfl, hf, ht⟩
  · exact ⟨rfl, hf.turned i, ht.turned hf hi⟩
theorem giveM_fit {m : Bm.MS} (hf : Bm.Fit m.n m.ws) (ht : Bm.Tight m.n m.ws) {i : Nat} (hi : i < m.n) : (giveM m i).n = m.n ∧ Bm.Fit (giveM m i).n (giveM m i).ws ∧ Bm.Tight (giveM m i).n (giveM m i).ws := by
  unfold giveM
  split
  · exact ⟨rfl, hf.turned i, ht.turned hf hi⟩
  · exact ⟨rfl, hf, ht⟩
theorem sets_tight : ∀ (T : List Nat) (m : Bm.MS), (∀ i ∈ T, i < m.n) → Bm.Fit m.n m.ws → Bm.Tight m.n m.ws → Bm.Tight (T.foldl setM m).n (T.foldl setM m).ws
  | [], m, _, _, h => h
  | i :: T, m, h, hf, ht => by
    obtain ⟨e1, e2, e3⟩ := setM_fit hf ht (h i List.mem_cons_self)
    exact sets_tight T (setM m i) (fun j hj => by rw [e1]; exact h j (List.mem_cons_of_mem _ hj)) e2 e3
theorem gives_tight : ∀ (T : List Nat) (m : Bm.MS), (∀ i ∈ T, i < m.n) → Bm.Fit m.n m.ws → Bm.Tight m.n m.ws → Bm.Tight (T.foldl giveM m).n (T.foldl giveM m).ws
  | [], m, _, _, h => h
  | i :: T, m, h, hf, ht => by
    obtain ⟨e1, e2, e3⟩ := giveM_fit hf ht (h i List.mem_cons_self)
    exact gives_tight T (giveM m i) (fun j hj => by rw [e1]; exact h j (List.mem_cons_of_mem _ hj)) e2 e3

/-- A file: an inode, a cache and a map in memory, and the bytes W that they say. -/
structure Fil (w0 w : World) (a c : Nat) (vs : VS) (m : Bm.MS) (G : Ino.Gs) (V : Nat → By) (sz : Nat) (W : Nat → BitVec 8) (b : Nat) : Prop where
  ino : InoAt w a sz (nums G)
  lc : LC w0 w c vs V (fun _ => 0) b
  map : Bm.MapAt w m
  file : Ino.File m.n (Bm.used m.ws) V G sz W
  nn : m.n = nbOf vs.d.n
  pos : 0 < m.n
  tight : Bm.Tight m.n m.ws

theorem Fil.used0 {w0 w : World} {a c : Nat} {vs : VS} {m : Bm.MS} {G : Ino.Gs} {V : Nat → By} {sz : Nat} {W : Nat → BitVec 8} {b : Nat} (h : Fil w0 w a c vs m G V sz W b) : Bm.used m.ws 0 = true := (h.file.used 0 h.pos).2 (.inl rfl)

set_option maxRecDepth 8000 in
set_option maxHeartbeats 1000000 in
theorem write_F {w0 w : World} {a c : Nat} {vs : VS} {m : Bm.MS} {G : Ino.Gs} {V : Nat → By} {sz : Nat} {W : Nat → BitVec 8} {b : Nat} (h : Fil w0 w a c vs m G V sz W b) (hb : b + 30000 ≤ 700000) (ht : Bm.Tab64 w) (h6 : 1 < w0.heap.size) (bg bo bc at_ : Nat) (bs : By)
    (hbs : Bytes w (some ⟨bg, bo, none⟩) bs) (htg : bg < w.heap.size ∧ ¬ Cmn w0 w bg) (hb1 : 1 ≤ bs.length) (hbc : bs.length ≤ bc) (hat : at_ + bs.length ≤ 65536) :
    Calls Tryz.prog 11 #[.pointer (some ⟨a, 0, none⟩), ep c, .pointer (some ⟨m.a, 0, none⟩), .int .i64 (at_ : Nat), .slice (some ⟨bg, bo, none⟩) bs.length bc] w fun e w' => But (fun k => Cmn w0 w k ∨ k = m.b ∨ k = a) w w' ∧
      ((e = .returned (.int .i64 0) ∧ ∃ m' G' V', m'.a = m.a ∧ m'.b = m.b ∧ m'.n = m.n ∧ Fil w0 w' a c vs m' G' V' (max sz (at_ + bs.length)) (Ino.wrote W at_ bs) (b + 20000) ∧ (∀ i, i ∈ Ino.idx (at_ / 512) (blocksOf (at_ + bs.length)) → G' i ≠ 0) ∧ (∀ i, i ∉ Ino.idx (at_ / 512) (blocksOf (at_ + bs.length)) → G' i = G i)) ∨
       (e = .returned (.int .i64 28) ∧ (Ino.frees m.n (Bm.used m.ws)).length < Ino.costB (blocksOf (at_ + bs.length)) ∧ Fil w0 w' a c vs m G V sz W (b + 20000))) := by
  have hn65 : m.n ≤ 65536 := h.map.fit.most
  have hok : TabOk m.n V G := File.tabOk h.file
  have htd : blocksOf (at_ + bs.length) = (at_ + bs.length + 511) / 512 := rfl
  have hF : ∀ x ∈ (Ino.frees m.n (Bm.used m.ws)).map (BitVec.ofNat 32), x ≠ 0 := fun x hx => (h.file.free (by omega) x hx).1
  obtain ⟨o1, o2⟩ := ovr_ens (Ino.frees m.n (Bm.used m.ws)) hF m.n V (at_ / 512) (blocksOf (at_ + bs.length)) G ⟨b, 0, [], [], []⟩ hok (by omega) (by omega)
  have hcost : (wrR m m.n V at_ bs.length b (nums G)).2.2.b ≤ b + 16804 := ovr_cost (handsW (LP := fun b w => LC w0 w c vs V (fun _ => 0) b) (w0 := w0) (ws := w) (wb := 0) (c := c) (U0 := Bm.used m.ws) (n := m.n) (at_ := at_) (pb := none) (bl := bs.length) (bc := bc) (nb := m.n) (by rw [h.nn]; exact lpok_LC w0 c vs V) ht h6 _ _) (nums G) (nums_length G) ⟨b, 0, [], [], []⟩
  cases he : Ino.ensure (Ino.freeB m.n (Bm.used m.ws)) G 0 (Ino.idx (at_ / 512) (blocksOf (at_ + bs.length))) with
  | none =>
    have h28 : (wrR m m.n V at_ bs.length b (nums G)).2.1 = 28 := o1 he
    obtain ⟨R, hR⟩ : ∃ R, wrR m (nbOf vs.d.n) V at_ bs.length b (nums G) = R := ⟨_, rfl⟩
    have hR' := hR
    rw [← h.nn] at hR'
    rw [hR'] at h28 hcost
    refine (write_J w0 w a c bg bo bs.length bc b at_ sz vs V m (nums G) bs h.ino (nums_length G) h.lc hb h.map ht h6 h.used0 h.pos hn65 hbs htg rfl hb1 hbc hat R hR (fun e => by rw [h28] at e; cases e) _ rfl (fun e => by rw [h28] at e; cases e)).mono ?_
    rintro e w' ⟨rfl, hE, _⟩
    obtain ⟨e1, e2, e3, e4⟩ := hE (by rw [h28]; decide)
    refine ⟨e4, .inr ⟨by rw [h28], ?_, e1, e2.more (by omega), e3, h.file, h.nn, h.pos, h.tight⟩⟩
    exact h.file.fail (by omega) (by omega) he
  | some x =>
    obtain ⟨G', k⟩ := x
    obtain ⟨b1, hov⟩ := o2 G' k he
    obtain ⟨R, hR⟩ : ∃ R, wrR m (nbOf vs.d.n) V at_ bs.length b (nums G) = R := ⟨_, rfl⟩
    have hR' := hR
    rw [← h.nn] at hR'
    have hRv : R = (nums G', 0, ⟨b1, k, [], wPuts (at_ / 512) (blocksOf (at_ + bs.length)) G G', spots G G' (wSpan (at_ / 512) (blocksOf (at_ + bs.length)))⟩) := by rw [← hR']; exact hov
    rw [hR'] at hcost
    obtain ⟨S2, hS2⟩ : ∃ S2, S2 = R.2.2.X.foldl (filS V at_ bs) R.2.2 := ⟨_, rfl⟩
    obtain ⟨b2, hfa⟩ := fils_all V at_ bs R.2.2.X R.2.2
    have hfb := fils_b V at_ bs R.2.2.X R.2.2
    rw [← hS2] at hfa hfb
    have hSk : S2.k = k := by rw [hfa, hRv]
    have hSG : S2.G = [] := by rw [hfa, hRv]
    have hSP : S2.P = wPuts (at_ / 512) (blocksOf (at_ + bs.length)) G G' ++ (spots G G' (wSpan (at_ / 512) (blocksOf (at_ + bs.length)))).map fun q => (q.2.1.toNat, fillB V at_ bs q.1 q.2.1 q.2.2) := by rw [hfa, hRv]
    have hXl : R.2.2.X.length ≤ 128 := by
      rw [hRv]
      have := wSpan_length (f := at_ / 512) (t := blocksOf (at_ + bs.length)) (by omega)
      simpa [spots] using this
    obtain ⟨hset, hsn⟩ := sets_used ((Ino.frees m.n (Bm.used m.ws)).take k) m (fun i hi => (Ino.mem_frees.1 (List.mem_of_mem_take hi)).1) h.map.fit
    obtain ⟨hfile, hPl, hPn⟩ := File.wrote (U' := Bm.used (((Ino.frees m.n (Bm.used m.ws)).take k).foldl setM m).ws) h.file hn65 hb1 hat he hset S2.P hSP
    have hkn : k ≤ 1000 := by
      have E := Ino.ensure_all h.file.inj (Ino.freeB_nodup (by omega)) (h.file.free (by omega)) he
      have h1 := E.few
      have h2 := Ino.idx_length (f := at_ / 512) (t := blocksOf (at_ + bs.length)) (by omega) (by omega)
      split at h2 <;> split at h2 <;> omega
    have hG' : ∀ p, p ∈ wSpan (at_ / 512) (blocksOf (at_ + bs.length)) → (G' p).toNat < m.n := by
      intro p hp
      refine hfile.lt p ?_
      have E := Ino.ensure_all h.file.inj (Ino.freeB_nodup (by omega)) (h.file.free (by omega)) he
      refine E.has p ((Ino.mem_idx (by omega) (by omega)).2 (.inl ((mem_wSpan (by omega) (by omega)).1 hp)))
    obtain ⟨ea, eb, en⟩ := sets_abn ((Ino.frees m.n (Bm.used m.ws)).take k) m
    refine (write_J w0 w a c bg bo bs.length bc b at_ sz vs V m (nums G) bs h.ino (nums_length G) h.lc hb h.map ht h6 h.used0 h.pos hn65 hbs htg rfl hb1 hbc hat R hR (fun _ => ⟨by omega, fun q hq => ?_⟩) S2 hS2 (fun _ => ⟨fun q hq => by rw [← h.nn]; exact hPl q hq, by omega, by omega, hSG⟩)).mono ?_
    · rw [hRv] at hq
      obtain ⟨p, hp, rfl⟩ := List.mem_map.1 hq
      obtain ⟨p1, p2⟩ := (mem_wSpan (f := at_ / 512) (t := blocksOf (at_ + bs.length)) (by omega) (by omega)).1 hp
      exact ⟨by show at_ < p * 512 + 512; omega, by show p * 512 < _; omega, .inr (by rw [← h.nn]; exact hG' p hp)⟩
    · rintro e w' ⟨rfl, _, hO⟩
      have hR0 : R.2.1 = 0 := by rw [hRv]
      obtain ⟨e1, _, e3, e4, e5⟩ := hO hR0
      have E := Ino.ensure_all h.file.inj (Ino.freeB_nodup (by omega)) (h.file.free (by omega)) he
      refine ⟨e5, .inl ⟨by rw [hR0], _, G', _, ea, eb, en, ⟨?_, e3.more (by omega), by rw [← hSk]; exact e4, ?_, en.trans h.nn, by rw [en]; exact h.pos, sets_tight _ m (fun i hi => (Ino.mem_frees.1 (List.mem_of_mem_take hi)).1) h.map.fit h.tight⟩, E.has, E.out⟩⟩
      · have : R.1 = nums G' := by rw [hRv]
        rw [← this]; exact e1
      · rw [en]; exact hfile

end Go.Proofs.YtebdgcoandfocaaGreatDoor

/-
  Package inode: Truncate and Read of a file.
-/
namespace Go.Proofs.YtebdgcoandfocaaGreatDoor
open Go.RowKit Go.Maps Go.Sort Go.Shelf

def cutW (W : Nat → BitVec 8) (size : Nat) : Nat → BitVec 8 := fun i => if i < size then W i else 0

set_option maxRecDepth 8000 in
set_option maxHeartbeats 1000000 in
theorem trunc_F {w0 w : World} {a c : Nat} {vs : VS} {m : Bm.MS} {G : Ino.Gs} {V : Nat → By} {sz : Nat} {W : Nat → BitVec 8} {b : Nat} (h : Fil w0 w a c vs m G V sz W b) (hb : b + 30000 ≤ 700000) (size : Nat) (hsz : size ≤ 65536) :
    Calls Tryz.prog 13 #[.pointer (some ⟨a, 0, none⟩), ep c, .pointer (some ⟨m.a, 0, none⟩), .int .i64 (size : Nat)] w fun e w' => But (fun k => Cmn w0 w k ∨ k = m.b ∨ k = a) w w' ∧ e = .returned (.int .i64 0) ∧ ∃ m' G' V', m'.a = m.a ∧ m'.b = m.b ∧ m'.n = m.n ∧ Fil w0 w' a c vs m' G' V' size (cutW W size) (b + 20000) := by
  by_cases hlt : size < sz
  · obtain ⟨b1, ho⟩ := ovr_cut h.file size hsz ⟨b, 0, [], [], []⟩
    have hR : cuR m.n V size b (nums G) = (nums (Ino.cutG size G), 0, ⟨b1, 0, [] ++ (cutIs size G).map (numO G), [] ++ (cutPs V size G).map (atG G), []⟩) := ho
    rw [List.nil_append, List.nil_append] at hR
    have hco : (cuR m.n V size b (nums G)).2.2.b ≤ b + 16804 := by
      have Hn := handsC (LP := fun b w => LC w0 w c vs V (fun _ => 0) b) (w0 := w0) (ws := w) (wb := 0) (c := c) (lpok_LC w0 c vs V) hsz
      rw [← h.nn] at Hn
      exact ovr_cost Hn (nums G) (nums_length G) ⟨b, 0, [], [], []⟩
    rw [hR] at hco
    rw [h.nn] at hR
    have hco : b1 ≤ b + 16804 := hco
    have hPl := cutPs_length V size G
    have hGl := cutIs_length size G
    refine (trunc_J w0 w a c b size sz vs V m (nums G) h.ino (nums_length G) h.lc hb h.map hsz hlt _ hR (fun _ => ⟨fun q hq => by rw [← h.nn]; exact cutPs_lt h.file q hq, by show ((cutPs V size G).map (atG G)).length ≤ 1000; omega, by show ((cutIs size G).map (numO G)).length ≤ 1000; omega, cutIs_lt h.file⟩)).mono ?_
    rintro e w' ⟨rfl, _, hO⟩
    obtain ⟨e1, _, e3, e4, e5⟩ := hO rfl
    obtain ⟨hg1, hg2⟩ := gives_used ((cutIs size G).map (numO G)) m (cutIs_lt h.file) h.map.fit
    obtain ⟨ga, gb, gn⟩ := gives_abn ((cutIs size G).map (numO G)) m
    refine ⟨e5, rfl, _, Ino.cutG size G, _, ga, gb, gn, e1, e3.more ?_, e4, ?_, gn.trans h.nn, by rw [gn]; exact h.pos, gives_tight _ m (cutIs_lt h.file) h.map.fit h.tight⟩
    · show b1 + ((cutPs V size G).map (atG G)).length + ((cutPs V size G).map (atG G)).length + ((cutPs V size G).map (atG G)).length ≤ b + 20000
      omega
    · rw [gn]
      exact File.cutted h.file hlt hg1
  · refine (grow_J w0 w a c b size sz vs V m (nums G) h.ino (nums_length G) h.lc hb h.map hsz (by omega)).mono ?_
    rintro e w' ⟨rfl, e1, e2, e3, e4⟩
    have hW : cutW W size = W := funext fun i => by
      unfold cutW
      split
      · rfl
      · exact (h.file.zero i (by omega)).symm
    rw [hW]
    exact ⟨e4, rfl, m, G, V, rfl, rfl, rfl, e1, e2.more (by omega), e3, h.file.grow (by omega) hsz, h.nn, h.pos, h.tight⟩

/-- The file as it stands in a world in which only a cache's own blocks may have turned. -/
theorem Fil.cmn {w0 w w' : World} {a c : Nat} {vs : VS} {m : Bm.MS} {G : Ino.Gs} {V : Nat → By} {sz : Nat} {W : Nat → BitVec 8} {b b' : Nat} (h : Fil w0 w a c vs m G V sz W b) (hf : But (Cmn w0 w) w w') (hc : LC w0 w' c vs V (fun _ => 0) b') : Fil w0 w' a c vs m G V sz W b' := by
  have hno : ∀ k cs t fr, w.heap[k]? = some (.cells cs t fr) → ¬ cTag t → ¬ Cmn w0 w k := fun k cs t fr hk h => cmn_not hk h
  obtain ⟨mcs, hmc⟩ := map_mbE h.map
  exact ⟨h.ino.but hf (hno _ _ _ _ h.ino (cTag_not (by decide) (by decide) (by decide))), hc, h.map.keep (but_only hf) (hno _ _ _ _ h.map.st (cTag_not (by decide) (by decide) (by decide))) (hno _ _ _ _ hmc (cTag_not (by decide) (by decide) (by decide))), h.file, h.nn, h.pos, h.tight⟩

set_option maxRecDepth 8000 in
set_option maxHeartbeats 1000000 in
theorem read_F {w0 w : World} {a c : Nat} {vs : VS} {m : Bm.MS} {G : Ino.Gs} {V : Nat → By} {sz : Nat} {W : Nat → BitVec 8} {b : Nat} (h : Fil w0 w a c vs m G V sz W b) (hb : b + 30000 ≤ 700000) (at_ count ln : Nat) (has : at_ < sz) (hln : min count (sz - at_) = ln) (hl1 : 1 ≤ ln) (hco : count < 9223372036854775808) :
    Calls Tryz.prog 14 #[.pointer (some ⟨a, 0, none⟩), ep c, .int .i64 (at_ : Nat), .int .i64 (count : Nat)] w fun e w' => Fil w0 w' a c vs m G V sz W (b + 20000) ∧ But (Cmn w0 w) w w' ∧ e = .returned (.tuple #[.slice (some ⟨w.heap.size, 0, none⟩) ln ln, .int .i64 0]) ∧ w'.heap[w.heap.size]? = some (.cells (((List.range ln).map fun i => W (at_ + i)).map u8v).toArray 5 (0, 0)) := by
  have hle := h.file.le
  obtain ⟨s', ho⟩ := ovr_read h.file hl1 (by omega : at_ + ln ≤ 65536) ⟨b, 0, [], [], []⟩
  have hR : rdR m.n V at_ ln b (nums G) = (nums G, 0, (s', (List.range ln).map fun i => W (at_ + i))) := ho
  have hcs : (rdR m.n V at_ ln b (nums G)).2.2.1.b ≤ b + 16804 := by
    have Hn := handsR (w0 := w0) (ws := w) (lz := w.heap.size + 1) (wb := w.heap.size + 1) (c := c) (vs := vs) (V := V) (og := w.heap.size) (at_ := at_) (ln := ln) (Nat.le_refl _) (Nat.lt_succ_self _) hl1 (by omega)
    rw [← h.nn] at Hn
    exact ovr_cost Hn (nums G) (nums_length G) (⟨b, 0, [], [], []⟩, List.replicate ln 0#8)
  rw [hR] at hcs
  rw [h.nn] at hR
  have hcs : s'.b ≤ b + 16804 := hcs
  refine (read_J w0 w a c b at_ count ln sz vs V (nums G) h.ino (nums_length G) h.lc hb hle has hln hl1 hco _ hR).mono ?_
  rintro e w' ⟨h1, h2, _, h4⟩
  obtain ⟨rfl, h5, _⟩ := h4 rfl
  exact ⟨h.cmn h2 (h1.more (by omega)), h2, rfl, h5⟩

set_option maxRecDepth 8000 in
set_option maxHeartbeats 1000000 in
/-- Read of nothing. -/
theorem iread_none {w : World} {a sz : Nat} {ns : List (BitVec 32)} (hn : InoAt w a sz ns) (hsz : sz ≤ 65536) (c at_ count : Nat) (h0 : count = 0 ∨ sz ≤ at_) (hco : count < 9223372036854775808) (hat : at_ < 9223372036854775808) :
    Calls Tryz.prog 14 #[.pointer (some ⟨a, 0, none⟩), ep c, .int .i64 (at_ : Nat), .int .i64 (count : Nat)] w fun e w' => e = .returned (.tuple #[.slice none 0 0, .int .i64 0]) ∧ w' = w := by
  have c0 := hn.size
  have hg1 : ¬ ((at_ : Int) < 0) := by omega
  have hg2 : ¬ ((count : Int) < 0) := by omega
  obtain ⟨mn, hmn⟩ : ∃ mn : Int, min (count : Int) ((sz : Int) - (at_ : Int)) = mn := ⟨_, rfl⟩
  have hl0 : mn ≤ 0 := by omega
  clear h0
  go_enter Tryz.func14, Tryz.ntmps14
  go_wp2
  go_ret2
  exact ⟨rfl, rfl⟩

end Go.Proofs.YtebdgcoandfocaaGreatDoor
