/-
  BitmapAll, for all its arguments, whatever the memory and the order that Go leaves open, returns true and leaves its arguments and all memory that was there as it was. The table of package math/bits starts as the program's text lays it (the card ties it).
-/
import Derived.Test.YtndefmchaohikaaDoorMopen
import Derived.Test.YtndefmchaohikaaDoorMall2
import Derived.Deep.Grids
namespace Go.Proofs.YtndefmchaohikaaDoor
open Go.ChangeShapes Go.WideShapes Go.ChangeAt Go.RowKit Go.Deep

set_option maxRecDepth 8000 in
set_option maxHeartbeats 1000000 in
theorem all_out (n : Int) (p : Option Addr) (l c : Nat) (w : World) (ht : Tab64 w) (hn : ¬ (0 ≤ n ∧ n ≤ 65536)) :
    Calls Tryd.prog 3 #[.int .i64 n, .slice p l c] w fun e w' => e = .returned (.bool true) ∧ Below w.heap.size w w' := by
  have cb := begun8_true w ht
  have cn : ∀ W, Calls Tryd.prog 7 #[.int .i64 n] W fun e w' => e = .returned (.pointer none) ∧ w' = W := fun W => new_out n W hn
  by_cases h1 : n < 0
  · have h2 : ¬ 60 < n := by omega
    clear hn
    go_enter Tryd.func3, Tryd.ntmps3
    go_wp2_with (first
      | (go_at_call 6; refine cb.mono ?_; rintro e w1 ⟨rfl, hB⟩; have HB : Hid (Below w.heap.size w w1) := hB; clear hB cb)
      | (go_at_call 7; refine Calls_on (cn _) ?_))
    go_ret
    exact ⟨rfl, HB.out⟩
  · have h2 : 60 < n := by omega
    have h3 : 65536 < n := by omega
    clear hn
    go_enter Tryd.func3, Tryd.ntmps3
    go_wp2_with (first
      | (go_at_call 6; refine cb.mono ?_; rintro e w1 ⟨rfl, hB⟩; have HB : Hid (Below w.heap.size w w1) := hB; clear hB cb)
      | (go_at_call 7; refine Calls_on (cn _) ?_))
    go_ret
    exact ⟨rfl, HB.out⟩

theorem all_any (n : Int) (p : Option Addr) (c : Nat) (os : List (Int × Int)) (w : World) (ht : Tab64 w) (hl : os.length < 9223372036854775808) (ho : OpsAt w p os) :
    Calls Tryd.prog 3 #[.int .i64 n, .slice p os.length c] w fun e w' => e = .returned (.bool true) ∧ Below w.heap.size w w' := by
  by_cases hn : 0 ≤ n ∧ n ≤ 65536
  · obtain ⟨m, rfl⟩ := Int.eq_ofNat_of_zero_le hn.1
    by_cases h60 : m ≤ 60
    · exact all_core m p c os w ht h60 hl ho
    · exact all_mod m p c os w ht (by omega) (by omega) hl ho
  · exact all_out n p _ c w ht hn

theorem Tryd.cellsOp : Tryd.prog.cellsOf 31 = 2 := by kernel_rfl
theorem Tryd.cells3 : Tryd.prog.cellsOf 3 = 1 := by kernel_rfl
theorem list2 {α : Type} {l : List α} (h : l.length = 2) : ∃ a b, l = [a, b] := by
  match l, h with
  | [a, b], _ => exact ⟨a, b, rfl⟩

theorem op8_at {H : Type} {enc : TypeId × Value → H} {W : World} {fuel ob oo k : Nat} {cs : List Value} {x : DataW H × List MemPlace}
    (hc : W.cells? 0 ⟨ob, oo + k * 2, none⟩ 2 = some cs) (h : DataW.trod enc Tryd.prog W 0 (fun _ => true) true fuel 31 cs = some x) :
    ∃ i : Int × Int, W.cell? ⟨ob, oo + k * 2, none⟩ = some (.int .i64 i.1) ∧ W.cell? ⟨ob, oo + k * 2 + 1, none⟩ = some (.int .i64 i.2) := by
  obtain ⟨xs, n, _, _, hl, hlen, hf⟩ := DataW.trod_struct Tryd.underlying31 h
  rw [Tryd.cellsOp] at hl
  obtain ⟨v0, v1, rfl⟩ := list2 hl
  obtain ⟨y0, y1, rfl⟩ := list2 (show xs.length = 2 from hlen)
  have f0 := hf 0 _ rfl
  have f1 := hf 1 _ rfl
  simp [Tryd.cells3] at f0 f1
  obtain ⟨s, e0, _⟩ := DataW.trod_int Tryd.underlying3 f0
  obtain ⟨t, e1, _⟩ := DataW.trod_int Tryd.underlying3 f1
  simp at e0 e1
  subst e0 e1
  obtain ⟨_, _, hcell⟩ := World.cells?_some hc
  have c0 := hcell 0 (by omega)
  have c1 := hcell 1 (by omega)
  simp only [Addr.add_lit, Nat.add_zero] at c0 c1
  exact ⟨(s, t), c0, c1⟩

theorem ops8_at {H : Type} {enc : TypeId × Value → H} {W : World} {fuel : Nat} {a : Option Addr} {len cap : Nat} {y : DataW H × List MemPlace} (h : DataW.trod enc Tryd.prog W 0 (fun _ => true) true fuel 22 [.slice a len cap] = some y) :
    ∃ os : List (Int × Int), os.length = len ∧ len < 9223372036854775808 ∧ OpsAt W a os := by
  rcases open_slice Tryd.underlying22 h with ⟨hcs, _⟩ | ⟨⟨b, off, spot⟩, len', cap', m, n, D, Pl, hcs, _, hl, hmax, hm, _, hel⟩
  · simp at hcs
    obtain ⟨rfl, rfl, rfl⟩ := hcs
    exact ⟨[], rfl, by decide, fun h => absurd h (by simp)⟩
  · simp at hcs
    obtain ⟨rfl, rfl, rfl⟩ := hcs
    simp only [if_true] at hm
    subst hm
    rw [Tryd.cellsOp] at hel
    have hlt63 : len < 9223372036854775808 := by unfold maxLen at hmax; omega
    by_cases hp : 0 < len
    · have hspot : spot = none := by
        obtain ⟨cs, hc, _⟩ := hel 0 (by omega)
        obtain ⟨_, _, hcell⟩ := World.cells?_some hc
        have h0 := hcell 0 (by omega)
        have hl6 := (World.cells?_some hc).2.1
        rw [List.getElem?_eq_getElem (by omega)] at h0
        simpa [Addr.add] using World.cell?_spot h0
      subst hspot
      have hex : ∀ k, ∃ i : Int × Int, k < len → W.cell? ⟨b, off + k * 2, none⟩ = some (.int .i64 i.1) ∧ W.cell? ⟨b, off + k * 2 + 1, none⟩ = some (.int .i64 i.2) := by
        intro k
        by_cases hk : k < len
        · obtain ⟨cs, hc, ht⟩ := hel k (by omega)
          rw [Addr.add_lit] at hc
          obtain ⟨i, h2⟩ := op8_at hc ht
          exact ⟨i, fun _ => h2⟩
        · exact ⟨(0, 0), fun h => absurd h hk⟩
      obtain ⟨f, hf⟩ : ∃ f : Nat → Int × Int, ∀ k, k < len → W.cell? ⟨b, off + k * 2, none⟩ = some (.int .i64 (f k).1) ∧ W.cell? ⟨b, off + k * 2 + 1, none⟩ = some (.int .i64 (f k).2) := ⟨fun k => (hex k).choose, fun k => (hex k).choose_spec⟩
      have hlen : ((List.range len).map f).length = len := by simp
      refine ⟨(List.range len).map f, hlen, hlt63, fun _ => ⟨b, off, rfl, fun j x hj => ?_⟩⟩
      have hlt := (List.getElem?_eq_some_iff.1 hj).1
      rw [hlen] at hlt
      rw [List.getElem?_map, List.getElem?_range hlt] at hj
      cases hj
      exact hf j hlt
    · have h0 : len = 0 := by omega
      subst h0
      exact ⟨[], rfl, by decide, fun h => absurd h (by simp)⟩

set_option maxRecDepth 100000 in
theorem mall_contract (H : Type) (enc : TypeId × Value → H) (W : World) (base : Nat) (args : Array Value) (ds gs : List (DataW H)) (before : List MemPlace)
    (hval : ∀ (j : Nat) t v, Tryd.f3.params[j]? = some t → args[j]? = some v → Value.okWide Tryd.prog W .any base t v)
    (hW : DataW.Whole enc Tryd.prog Tryd.f3.params.toList Rows.bitmapAllSpec.vars false W args.toList ds gs before) (hL : laidMetH Tryd.prog Rows.bitmapAllRow.laid W) :
    Calls Tryd.prog 3 args W fun e W' => ∃ v, e = .returned v ∧ Rows.bitmapAllSpec.post enc Tryd.prog Tryd.f3 false true false false W args v W' := by
  have hW' := hW
  obtain ⟨p, q, hA0, hV, rfl, hfz, hnd⟩ := hW
  have hA : DataW.TrodAll enc Tryd.prog W 0 (fun _ => true) true Tryd.f3.params.toList args.toList ds p := hA0
  rw [Tryd.params3] at hA hval
  obtain ⟨v0, vs0, d0, ds0, p0, q0, hargs, rfl, rfl, h0, r0⟩ := trodAll_cons hA
  obtain ⟨v1, vs1, d1, ds1, p1, q1, rfl, rfl, rfl, h1, r1⟩ := trodAll_cons r0
  obtain ⟨rfl, rfl, rfl⟩ := trodAll_nil r1
  obtain rfl : args = #[v0, v1] := by cases args; simp_all
  obtain ⟨rfl, rfl⟩ := trodVars_none hV
  obtain ⟨a0, rfl, rfl, rfl, w0⟩ := open_int Tryd.underlying3 (hval 0 3 v0 rfl rfl) h0
  obtain ⟨a1, len1, cap1, rfl⟩ := okWide_slice Tryd.underlying22 (hval 1 22 v1 rfl rfl)
  have k1 := h1
  have lt1 : ∀ x ∈ p1, x.block < W.heap.size := by obtain ⟨m, hm⟩ := k1; exact DataW.trod_lt m _ _ _ hm
  obtain ⟨fu, hfu⟩ := h1
  obtain ⟨os, hol, holt, hos⟩ := ops8_at hfu
  subst hol
  clear hA0
  refine (all_any a0 a1 cap1 os W (tab_of_laid hL) holt hos).mono fun e W' ⟨he, bel⟩ => ?_
  subst he
  exact ⟨_, rfl, _, _, _, [], _, [], hW', trodAll_mk1 (shut_bool Tryd.underlying4 _),
    (trodAll_cons_mk (shut_int Tryd.underlying3 w0) (trodAll_cons_mk (Below.trod laidOut (by kernel_rfl) (of_decide_eq_true (by kernel_rfl)) k1 bel lt1) trodAll_mk0)), rfl, bel.frame _, fun h => by cases h⟩

theorem mall_laid_met (os : Os) : laidMet Tryd.prog Rows.bitmapAllRow.laid ((World.doorLaid Tryd.prog 400 os).forCall (fun _ _ => 0) ⟨#[], #[.int .i64 0, .slice none 0 0], []⟩).memory :=
  laidMet_of_run' 20 (by kernel_rfl) (by kernel_rfl)
theorem mall_reads (os : Os) {H : Type} (enc : TypeId × Value → H) : ∃ places, DataW.whole enc Tryd.prog ((World.doorLaid Tryd.prog 400 os).forCall (fun _ _ => 0) ⟨#[], #[.int .i64 0, .slice none 0 0], []⟩).memory Tryd.f3.params.toList Rows.bitmapAllSpec.vars false (#[.int .i64 0, .slice none 0 0] : Array Value).toList 8 = some ([.lit (.int .i64 0), .nil], [], places) :=
  ⟨[], by kernel_rfl⟩

set_option maxRecDepth 100000 in
theorem mall_lifted (os : Os) (started : os.Started) (H : Type) (enc : TypeId × Value → H) (F : Stop.Interp) :
    ReturnsInHanded {} Tryd.checked os 3 .any ((OpenSpec.ofChange Rows.bitmapAllSpec).preRow enc Tryd.prog Tryd.f3 Rows.bitmapAllRow.domain false Rows.bitmapAllRow.laid) (((OpenSpec.ofChange Rows.bitmapAllSpec).at F).post enc Tryd.prog Tryd.f3 false true false false) := by
  obtain ⟨places, hx⟩ := mall_reads os enc
  refine returnsInHanded_of_row (C := Tryd.checked) (s := OpenSpec.ofChange Rows.bitmapAllSpec) own started (by kernel_rfl) Tryd.func3
    (witness_row_at (enc := enc) (C := Tryd.checked) false (World.doorLaid Tryd.prog 400 os) #[.int .i64 0, .slice none 0 0] rfl (by kernel_rfl) (by kernel_rfl) (by kernel_rfl)
      (OpenSpec.preRow_of_cond 8 hx (by kernel_rfl) (fun k hk => by cases hk) (by kernel_rfl) (mall_laid_met os))) ?_
  intro W base args ds gs before hval hW _ _ _ hL _ _
  exact mall_contract H enc W base args ds gs before hval hW hL

theorem mall_said : Rows.BitmapAllSaid :=
  OpenClaim.holds_of_cond 3 Tryd.f3 rfl rfl rfl rfl rfl rfl rfl ⟨rfl, rfl, rfl, rfl, rfl⟩ rfl rfl rfl rfl rfl (by kernel_rfl) Tryd.func3 (by kernel_rfl)
    (of_decide_eq_true (by kernel_rfl)) (by unfold Func.isWrapper; first | (rw [if_pos (by decide +kernel)]; kernel_rfl) | (rw [if_neg (by decide +kernel)]; exact ⟨rfl, rfl⟩))
    (fun os started H enc _ F => by rw [OpenClaim.pre_eq_preRow]; exact mall_lifted os started H enc F)

theorem mall_plain (f : FuncId) (fn : Func) (hf : Tryd.pinned.checked.prog.funcNamed "lagoon/lagoonlaw8.BitmapAll" = some f) (hfn : Tryd.pinned.checked.prog.funcs[f]? = some fn) :
    false = Tryd.pinned.checked.prog.looks [] ∧ ∀ (j : Nat) t, fn.params[j]? = some t → Tryd.pinned.checked.prog.wantsStandIn t = false := by
  obtain rfl : f = 3 := Option.some.inj ((show Tryd.prog.funcNamed "lagoon/lagoonlaw8.BitmapAll" = some 3 by kernel_rfl).symm.trans hf) |>.symm
  obtain rfl : fn = Tryd.f3 := (Option.some.inj (Tryd.func3.symm.trans hfn)).symm
  refine ⟨by kernel_rfl, fun j t ht => ?_⟩
  rw [Tryd.params3] at ht
  have hm : t ∈ [3, 22] := by simpa using Array.mem_of_getElem? ht
  have hall : ([3, 22].all fun u => !Tryd.prog.wantsStandIn u) = true := by kernel_rfl
  exact (show Tryd.prog.wantsStandIn t = false by simpa using List.all_eq_true.1 hall t hm)

theorem bitmapAll_holds : Rows.BitmapAllCardSaid :=
  Claim7.holds_tied_plain_at .later [] _ _ _ _ mall_said (fun _ h => by cases h) (by kernel_rfl) (fun _ h => by cases h) bitmapAll_row_tie rfl ⟨rfl, rfl⟩ (by kernel_rfl) rfl mall_plain (by kernel_rfl)

#print axioms bitmapAll_holds
end Go.Proofs.YtndefmchaohikaaDoor
