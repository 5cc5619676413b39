/-
  The law of PathLong: the walk.
-/
import Derived.Test.YtjggnmeeeofepaaDoorKTpi

namespace Go.Proofs.YtjggnmeeeofepaaDoor.Ck.Sh
open Go.RowKit Go.Lib

attribute [local go_sem] Oper.semAt_some

def dR (n : Nat) : List UInt8 := Lib.joinTail [47] (List.replicate n [100])
def lR (n : Nat) : List UInt8 := Lib.joinTail [47] (List.replicate n (nR 63))
theorem dR_succ (n : Nat) : dR (n + 1) = dR n ++ [47, 100] := flat_rep [100] n
theorem lR_succ (n : Nat) : lR (n + 1) = lR n ++ 47 :: nR 63 := flat_rep (nR 63) n
theorem dR_len (n : Nat) : (dR n).length = 2 * n := by unfold dR; rw [flat_len]; simp; omega
theorem lR_len (n : Nat) : (lR n).length = 64 * n := by unfold lR; rw [flat_len, nR_len]; omega
theorem nR_cut : (bas (nR 64)).extract 0 63 = bas (nR 63) := by
  rw [ext_head]
  unfold nR
  rw [List.take_replicate]
  rfl
theorem lR_head : (lR 16).head? = some 47 := rfl
/-- What Parse answers of a text, of which just the error counts. -/
def ErrA (k : Int) (w : World) (e : Ending) (w' : World) : Prop := ∃ p n c, e = .returned (.tuple #[.slice p n c, .int .i64 k]) ∧ Below w.heap.size w w'
theorem err_any {s : List UInt8} {k : Int} (hl : s.length < 4294967281) (hk : parseE s = k) (w : World) (h : Lb w) : Calls Tryd.prog 6 #[.string (bas s)] w fun e w' => ErrA k w e w' :=
  (pparse_any s hl w h).mono fun e w' ⟨p, c, he, _, _, hb⟩ => ⟨p, (nmsOf s).length, c, by rw [hk] at he; exact he, hb⟩

set_option maxRecDepth 8000 in
set_option maxRecDepth 8000 in
set_option maxHeartbeats 2000000 in
theorem pathlong_law (w : World) (hL : Lb w) : Calls Tryd.prog 4 #[] w fun e w' => e = .returned (.bool true) ∧ Below w.heap.size w w' := by
  have cb := fun W (hW : Lb W) => pbegun_any W hW
  have cA := fun W (hW : Lb W) => err_any (s := 47 :: nR 64) (by rw [List.length_cons, nR_len]; decide) long_a W hW
  have cB := fun W (hW : Lb W) => err_any (s := 47 :: nR 65) (by rw [List.length_cons, nR_len]; decide) long_b W hW
  have cC := fun W (hW : Lb W) => err_any (s := dR 64) (by rw [dR_len]; decide) long_c W hW
  have cD := fun W (hW : Lb W) => err_any (s := dR 65) (by rw [dR_len]; decide) long_d W hW
  have cE := fun W (hW : Lb W) => err_any (s := lR 16) (by rw [lR_len]; decide) long_e W hW
  have cF := fun W (hW : Lb W) => err_any (s := lR 16 ++ [47]) (by rw [List.length_append, lR_len]; decide) (long_f (by rw [lR_len]) lR_head) W hW
  have cG := fun W (hW : Lb W) => err_any (s := 47 :: (nR 64 ++ [1, 49, 46, 48])) (by rw [List.length_cons, List.length_append, nR_len]; decide) long_g W hW
  have aA : ∀ W, (Op.stringOp .add ⟨#[47]⟩ (bas (nR 64))).run Tryd.prog W = .ok (.string (bas (47 :: nR 64))) W := fun W => cat_run [47] (nR 64) W (by rw [nR_len]; simp)
  have aB : ∀ W, (Op.stringOp .add (bas (47 :: nR 64)) ⟨#[110]⟩).run Tryd.prog W = .ok (.string (bas (47 :: nR 65))) W := fun W => by
    rw [show nR 65 = nR 64 ++ [110] from nR_succ 64]
    exact cat_run (47 :: nR 64) [110] W (by rw [List.length_cons, nR_len]; simp)
  have aD : ∀ W, (Op.stringOp .add (bas (dR 64)) ⟨#[47, 100]⟩).run Tryd.prog W = .ok (.string (bas (dR 65))) W := fun W => by
    rw [show dR 65 = dR 64 ++ [47, 100] from dR_succ 64]
    exact cat_run (dR 64) [47, 100] W (by rw [dR_len]; simp)
  have aF : ∀ W, (Op.stringOp .add (bas (lR 16)) ⟨#[47]⟩).run Tryd.prog W = .ok (.string (bas (lR 16 ++ [47]))) W := fun W => cat_run (lR 16) [47] W (by rw [lR_len]; simp)
  have aG : ∀ W, (Op.stringOp .add (bas (47 :: nR 64)) ⟨#[1, 49, 46, 48]⟩).run Tryd.prog W = .ok (.string (bas (47 :: (nR 64 ++ [1, 49, 46, 48])))) W := fun W => cat_run (47 :: nR 64) [1, 49, 46, 48] W (by rw [List.length_cons, nR_len]; simp)
  have aL : ∀ W, (Op.stringOp .add ⟨#[47]⟩ (bas (nR 63))).run Tryd.prog W = .ok (.string (bas (47 :: nR 63))) W := fun W => cat_run [47] (nR 63) W (by rw [nR_len]; simp)
  have hcut := nR_cut
  have hszN : (bas (nR 64)).size = 64 := by rw [bas_size, nR_len]
  have hszL : (bas (lR 16)).size = 1024 := by rw [bas_size, lR_len]
  have HM : Hid (∀ i, i < 16 → ∀ W, (Op.stringOp .add (bas (lR i)) (bas (47 :: nR 63))).run Tryd.prog W = .ok (.string (bas (lR (i + 1)))) W) := fun i hi W => by
    rw [lR_succ]
    exact cat_run (lR i) (47 :: nR 63) W (by rw [lR_len, List.length_cons, nR_len]; omega)
  obtain ⟨G, hG⟩ : ∃ G, 47 :: (nR 64 ++ [1, 49, 46, 48]) = G := ⟨_, rfl⟩
  rw [hG] at cG aG
  obtain ⟨A, hA⟩ : ∃ A, 47 :: nR 64 = A := ⟨_, rfl⟩
  rw [hA] at cA aA aB aG
  obtain ⟨B, hB⟩ : ∃ B, 47 :: nR 65 = B := ⟨_, rfl⟩
  rw [hB] at cB aB
  obtain ⟨N, hN⟩ : ∃ N, nR 64 = N := ⟨_, rfl⟩
  rw [hN] at aA hcut hszN
  obtain ⟨M, hM⟩ : ∃ M, 47 :: nR 63 = M := ⟨_, rfl⟩
  rw [hM] at aL HM
  obtain ⟨N3, hN3⟩ : ∃ N3, nR 63 = N3 := ⟨_, rfl⟩
  rw [hN3] at aL hcut
  obtain ⟨F, hF⟩ : ∃ F, lR 16 ++ [47] = F := ⟨_, rfl⟩
  rw [hF] at cF aF
  obtain ⟨E, hE⟩ : ∃ E, lR 16 = E := ⟨_, rfl⟩
  rw [hE] at cE aF hszL
  obtain ⟨D, hD⟩ : ∃ D, dR 65 = D := ⟨_, rfl⟩
  rw [hD] at cD aD
  obtain ⟨C, hC⟩ : ∃ C, dR 64 = C := ⟨_, rfl⟩
  rw [hC] at cC aD
  have HN := Lib.hid hN
  have HE := Lib.hid hE
  have HC := Lib.hid hC
  have HLo := Lib.hid hL
  clear hL hG hA hB hN hM hN3 hF hE hD hC
  go_enter Tryd.func4, Tryd.ntmps4
  go_wp2_with fail
  go_loopw [1, 2] (fun ss ii wr => ∃ i : Nat, ss = .string (bas (nR i)) ∧ ii = .int .i64 i ∧ i ≤ 64 ∧ wr = w) (fun _ ii _ => 64 - (RowKit.intOf ii).toNat)
  case atStart => exact ⟨0, rfl, rfl, by omega, rfl⟩
  case round =>
    obtain ⟨i, rfl, rfl, hi, hwr⟩ := hrel
    rw [hwr]
    clear hwr
    by_cases hlt : i < 64
    · have hltI : (i : Int) < 64 := by omega
      have a1 : ∀ W, (Op.stringOp .add (bas (nR i)) ⟨#[110]⟩).run Tryd.prog W = .ok (.string (bas (nR (i + 1)))) W := fun W => by rw [nR_succ]; exact cat_run (nR i) [110] W (by rw [nR_len]; simp; omega)
      go_wp2_with fail
      exact ⟨⟨i + 1, rfl, by simp, by omega, trivial⟩, by simp [RowKit.intOf]; omega⟩
    · obtain rfl : i = 64 := by omega
      rw [HN.out]
      clear hlt hi
      go_wp2_with fail
      go_loopw [3, 4] (fun ss ii wr => ∃ i : Nat, ss = .string (bas (dR i)) ∧ ii = .int .i64 i ∧ i ≤ 64 ∧ wr = w) (fun _ ii _ => 64 - (RowKit.intOf ii).toNat)
      case atStart => exact ⟨0, rfl, rfl, by omega, rfl⟩
      case round =>
        obtain ⟨i, rfl, rfl, hi, hwr⟩ := hrel
        rw [hwr]
        clear hwr
        by_cases hlt : i < 64
        · have hltI : (i : Int) < 64 := by omega
          have a1 : ∀ W, (Op.stringOp .add (bas (dR i)) ⟨#[47, 100]⟩).run Tryd.prog W = .ok (.string (bas (dR (i + 1)))) W := fun W => by rw [dR_succ]; exact cat_run (dR i) [47, 100] W (by rw [dR_len]; simp; omega)
          go_wp2_with fail
          exact ⟨⟨i + 1, rfl, by simp, by omega, trivial⟩, by simp [RowKit.intOf]; omega⟩
        · obtain rfl : i = 64 := by omega
          rw [HC.out]
          clear hlt hi
          go_wp2_with fail
          go_loopw [5, 6] (fun ss ii wr => ∃ i : Nat, ss = .string (bas (lR i)) ∧ ii = .int .i64 i ∧ i ≤ 16 ∧ wr = w) (fun _ ii _ => 16 - (RowKit.intOf ii).toNat)
          case atStart => exact ⟨0, rfl, rfl, by omega, rfl⟩
          case round =>
            obtain ⟨i, rfl, rfl, hi, hwr⟩ := hrel
            rw [hwr]
            clear hwr
            by_cases hlt : i < 16
            · have hltI : (i : Int) < 16 := by omega
              have a1 := HM.out i hlt
              go_wp2_with fail
              exact ⟨⟨i + 1, rfl, by simp, by omega, trivial⟩, by simp [RowKit.intOf]; omega⟩
            · obtain rfl : i = 16 := by omega
              rw [HE.out]
              clear hlt hi
              have t1 := True.intro
              have t2 := True.intro
              have t3 := True.intro
              have t4 := True.intro
              have t5 := True.intro
              have t6 := True.intro
              go_wp2_with (first
                | (go_at_call 6
                   have _t := t1
                   refine (cA _ (HLo.out)).mono ?_
                   rintro e w1 ⟨p1, n1, c1, rfl, hb1⟩
                   have b1 := Lib.hid (hb1)
                   clear hb1 cA t1)
                | (go_at_call 6
                   have _t := t2
                   refine (cB _ (HLo.out.below b1.out)).mono ?_
                   rintro e w2 ⟨p2, n2, c2, rfl, hb2⟩
                   have b2 := Lib.hid (below_then b1.out hb2)
                   clear hb2 cB t2)
                | (go_at_call 6
                   have _t := t3
                   refine (cC _ (HLo.out.below b2.out)).mono ?_
                   rintro e w3 ⟨p3, n3, c3, rfl, hb3⟩
                   have b3 := Lib.hid (below_then b2.out hb3)
                   clear hb3 cC t3)
                | (go_at_call 6
                   have _t := t4
                   refine (cD _ (HLo.out.below b3.out)).mono ?_
                   rintro e w4 ⟨p4, n4, c4, rfl, hb4⟩
                   have b4 := Lib.hid (below_then b3.out hb4)
                   clear hb4 cD t4)
                | (go_at_call 6
                   have _t := t5
                   refine (cE _ (HLo.out.below b4.out)).mono ?_
                   rintro e w5 ⟨p5, n5, c5, rfl, hb5⟩
                   have b5 := Lib.hid (below_then b4.out hb5)
                   clear hb5 cE t5)
                | (go_at_call 6
                   have _t := t6
                   refine (cF _ (HLo.out.below b5.out)).mono ?_
                   rintro e w6 ⟨p6, n6, c6, rfl, hb6⟩
                   have b6 := Lib.hid (below_then b5.out hb6)
                   clear hb6 cF t6)
                | (go_at_call 6
                   refine (cG _ (HLo.out.below b6.out)).mono ?_
                   rintro e w7 ⟨p7, n7, c7, rfl, hb7⟩
                   have b7 := Lib.hid (below_then b6.out hb7)
                   clear hb7 cG)
                | (go_at_call 5
                   refine (cb _ (HLo.out.below b7.out)).mono ?_
                   rintro e w8 ⟨rfl, hb8⟩
                   have b8 := Lib.hid (below_then b7.out hb8)
                   clear hb8 cb))
              go_ret
              exact ⟨rfl, b8.out⟩

end Go.Proofs.YtjggnmeeeofepaaDoor.Ck.Sh
