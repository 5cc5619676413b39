/-
  InodeAll, for all its arguments, whatever the memory and the order that Go leaves open, returns true and leaves its arguments and all memory that was there as it was. The tables of packages crc and math/bits start as the program's text lays them (the card ties them).
-/
import Derived.Test.YtebdgcoandfocaaGreatDoorQCopen
import Derived.Test.YtebdgcoandfocaaGreatDoorQYf
import Derived.Deep.Grids

namespace Go.Proofs.YtebdgcoandfocaaGreatDoor
open Go.ChangeShapes Go.WideShapes Go.ChangeAt Go.RowKit Go.Deep

theorem cellsOp9 : Tryz.prog.cellsOf 33 = 4 := by kernel_rfl
theorem cellsInt9 : Tryz.prog.cellsOf 3 = 1 := by kernel_rfl
theorem cellsBytes9 : Tryz.prog.cellsOf 30 = 1 := by kernel_rfl
theorem list4c {α : Type} {l : List α} (h : l.length = 4) : ∃ a b c d, l = [a, b, c, d] := by
  match l, h with
  | [a, b, c, d], _ => exact ⟨a, b, c, d, rfl⟩
/-- Bytes that came in. -/
theorem c9bytes_at {H : Type} {enc : TypeId × Value → H} {W : World} {fuel : Nat} {v : Value} {y : DataW H × List MemPlace} (h : DataW.trod enc Tryz.prog W 0 (fun _ => true) true fuel 30 [v] = some y) :
    ∃ (p : Option Addr) (c : Nat) (bs : List (BitVec 8)), v = .slice p bs.length c ∧ bs.length < 9223372036854775808 ∧ bs.length ≤ c ∧ Bytes W p bs := by
  rcases open_ints Tryz.underlying30 Tryz.underlying5 Tryz.cells5 h with ⟨hcs, _⟩ | ⟨a, len, cap, zs, hcs, _, hl, hm, hz, _, hcell, hw⟩
  · simp at hcs
    exact ⟨none, 0, [], hcs, by decide, by decide, fun h => absurd h (by decide)⟩
  · simp at hcs
    have hz' : zs.length = cap := by simpa using hz
    obtain ⟨hb, hlen⟩ := bytes_of_cells (W := W) (a := some a) hl hz' hw (fun h => by cases h) (fun a' e i hi => by cases e; exact hcell i (by omega))
    exact ⟨some a, cap, _, by rw [hlen]; exact hcs, by rw [hlen]; unfold maxLen at hm; omega, by rw [hlen]; exact hl, hb⟩
/-- One operation that came in. -/
theorem op9_at {H : Type} {enc : TypeId × Value → H} {W : World} {fuel ob oo : Nat} {cs : List Value} {x : DataW H × List MemPlace}
    (hc : W.cells? 0 ⟨ob, oo, none⟩ 4 = some cs) (h : DataW.trod enc Tryz.prog W 0 (fun _ => true) true fuel 33 cs = some x) :
    ∃ i : OpV9, (∀ j x, (op9Cells i)[j]? = some x → W.cell? ⟨ob, oo + j, none⟩ = some x) ∧ Bytes W i.p i.bs ∧ i.bs.length < 9223372036854775808 ∧ i.bs.length ≤ i.cp ∧ (-9223372036854775808 ≤ i.at_ ∧ i.at_ < 9223372036854775808) ∧ (-9223372036854775808 ≤ i.n ∧ i.n < 9223372036854775808) := by
  obtain ⟨xs, n, _, hx, hl, hlen, hf⟩ := DataW.trod_struct Tryz.underlying33 h
  rw [cellsOp9] at hl
  obtain ⟨v0, v1, v2, v3, rfl⟩ := list4c hl
  obtain ⟨y0, y1, y2, y3, rfl⟩ := list4c (show xs.length = 4 from hlen)
  have f0 := hf 0 _ rfl
  have f1 := hf 1 _ rfl
  have f2 := hf 2 _ rfl
  have f3 := hf 3 _ rfl
  simp [cellsInt9, cellsBytes9] at f0 f1 f2 f3
  obtain ⟨s0, e0, _⟩ := DataW.trod_int Tryz.underlying3 f0
  obtain ⟨s1, e1, _, hw1⟩ := DataW.trod_int Tryz.underlying3 f1
  obtain ⟨s2, e2, _, hw2⟩ := DataW.trod_int Tryz.underlying3 f2
  obtain ⟨p, c, bs, e3, hbl, hbc, hb⟩ := c9bytes_at f3
  simp at e0 e1 e2 e3
  subst e0 e1 e2 e3
  obtain ⟨_, _, hcell⟩ := World.cells?_some hc
  have c0 := hcell 0 (by omega)
  have c1 := hcell 1 (by omega)
  have c2 := hcell 2 (by omega)
  have c3 := hcell 3 (by omega)
  simp only [Addr.add_lit, Nat.add_zero] at c0 c1 c2 c3
  simp [Lit.wf] at hw1 hw2
  have h1 : (-9223372036854775808 : Int) ≤ s1 := hw1.1
  have h2 : s1 ≤ 9223372036854775807 := hw1.2
  have h3 : (-9223372036854775808 : Int) ≤ s2 := hw2.1
  have h4 : s2 ≤ 9223372036854775807 := hw2.2
  refine ⟨⟨s0, s1, s2, p, bs, c⟩, fun j v hj => ?_, hb, hbl, hbc, ⟨h1, by show s1 < _; omega⟩, h3, by show s2 < _; omega⟩
  match j, hj with
  | 0, hj => cases hj; exact c0
  | 1, hj => cases hj; exact c1
  | 2, hj => cases hj; exact c2
  | 3, hj => cases hj; exact c3
  | j + 4, hj => simp [op9Cells] at hj
theorem ops9_at {H : Type} {enc : TypeId × Value → H} {W : World} {fuel : Nat} {a : Option Addr} {len cap : Nat} {y : DataW H × List MemPlace} (h : DataW.trod enc Tryz.prog W 0 (fun _ => true) true fuel 22 [.slice a len cap] = some y) (hwt : ∀ n ∈ y.1.weights Tryz.prog 22, n ≤ reachBytes) :
    ∃ os : List OpV9, os.length = len ∧ len < 9223372036854775808 ∧ OpsAt9 W a os := by
  obtain ⟨l, hl, hl63, hb, hr⟩ := elems_at (S := 4) Tryz.underlying22 cellsOp9 (by decide) (⟨0, 0, 0, none, [], 0⟩ : OpV9) (fun g o i => (∀ j x, (op9Cells i)[j]? = some x → W.cell? ⟨g, o + j, none⟩ = some x) ∧ Bytes W i.p i.bs ∧ i.bs.length < 9223372036854775808 ∧ i.bs.length ≤ i.cp ∧ (-9223372036854775808 ≤ i.at_ ∧ i.at_ < 9223372036854775808) ∧ (-9223372036854775808 ≤ i.n ∧ i.n < 9223372036854775808)) h hwt
    (fun b o cs n x hc ht hw => op9_at hc ht)
  refine ⟨l, hl, hl63, fun k o hk => ?_⟩
  obtain ⟨g, f, e, hx⟩ := hr (by have := (List.getElem?_eq_some_iff.1 hk).1; omega)
  obtain ⟨m1, m2, m3, m4, m5, m6⟩ := hx k o hk
  exact ⟨g, f, e, m1, m2, m3, m4, m5, m6⟩

/-- The law, whatever comes in. -/
theorem iall_any (bl : Int) (p : Option Addr) (l : List OpV9) (cl : Nat) (w : World) (ht : Tab w) (ht6 : Bm.Tab64 w) (hops : OpsAt9 w p l) (hl : l.length < 9223372036854775808) :
    Calls Tryz.prog 3 #[.int .i64 bl, .slice p l.length cl] w fun e w' => e = .returned (.bool true) ∧ Below w.heap.size w w' := by
  by_cases hb : 4 ≤ bl ∧ bl ≤ 200
  · obtain ⟨n, rfl⟩ : ∃ n : Nat, bl = n := ⟨bl.toNat, by omega⟩
    exact all_law n n (by omega) (by omega) (.inl ⟨by omega, by omega, rfl⟩) p l cl w ht ht6 hops hl
  · exact all_law bl 200 (by omega) (by omega) (.inr ⟨by omega, rfl⟩) p l cl w ht ht6 hops hl

set_option maxRecDepth 100000 in
theorem iall_contract (H : Type) (enc : TypeId × Value → H) (W : World) (base : Nat) (args : Array Value) (ds gs : List (DataW H)) (before : List MemPlace)
    (hval : ∀ (j : Nat) t v, Tryz.f3.params[j]? = some t → args[j]? = some v → Value.okWide Tryz.prog W .any base t v)
    (hW : DataW.Whole enc Tryz.prog Tryz.f3.params.toList Rows.inodeAllSpec.vars false W args.toList ds gs before)
    (hz : (DataW.weightsEach Tryz.prog (Tryz.f3.params.toList ++ (OpenSpec.ofChange Rows.inodeAllSpec).bare.plain.varTypes Tryz.prog) (ds ++ gs)).all (· ≤ reachBytes) = true) (hL : laidMetH Tryz.prog Rows.inodeAllRow.laid W) :
    Calls Tryz.prog 3 args W fun e W' => ∃ v, e = .returned v ∧ Rows.inodeAllSpec.post enc Tryz.prog Tryz.f3 false true false false W args v W' := by
  have hW' := hW
  obtain ⟨p, q, hA0, hV, rfl, hfz, hnd⟩ := hW
  have hA : DataW.TrodAll enc Tryz.prog W 0 (fun _ => true) true Tryz.f3.params.toList args.toList ds p := hA0
  rw [Tryz.params3] at hA hval hz
  obtain ⟨v0, vs0, d0, ds0, p0, q0, hargs, rfl, rfl, h0, r0⟩ := trodAll_cons hA
  obtain ⟨v1, vs1, d1, ds1, p1, q1, rfl, rfl, rfl, h1, r1⟩ := trodAll_cons r0
  obtain ⟨rfl, rfl, rfl⟩ := trodAll_nil r1
  obtain rfl : args = #[v0, v1] := by cases args; simp_all
  obtain ⟨rfl, rfl⟩ := trodVars_none hV
  obtain ⟨z0, rfl⟩ := okWide_int Tryz.underlying3 (hval 0 3 v0 rfl rfl)
  obtain ⟨a2, len2, cap2, rfl⟩ := okWide_slice Tryz.underlying22 (hval 1 22 v1 rfl rfl)
  have k0 := h0
  have k1 := h1
  have lt0 : ∀ x ∈ p0, x.block < W.heap.size := by obtain ⟨m, hm⟩ := k0; exact DataW.trod_lt m _ _ _ hm
  have lt1 : ∀ x ∈ p1, x.block < W.heap.size := by obtain ⟨m, hm⟩ := k1; exact DataW.trod_lt m _ _ _ hm
  have hw2 : ∀ n ∈ d1.weights Tryz.prog 22, n ≤ reachBytes := fun n hn => by
    have := List.all_eq_true.1 hz n (DataW.weights_mem_each (j := 1) (t := 22) (d := d1) rfl rfl n hn)
    simpa using this
  obtain ⟨os, rfl, hl63, hos⟩ : ∃ os : List OpV9, os.length = len2 ∧ len2 < 9223372036854775808 ∧ OpsAt9 W a2 os := by
    obtain ⟨fuel, hf⟩ := h1
    exact ops9_at (y := (d1, p1)) (by simpa [Value.cells] using hf) hw2
  clear hA0 hw2
  refine (iall_any z0 a2 os cap2 W (tabs_of_laid hL).1 (tabs_of_laid hL).2 hos hl63).mono fun e W' ⟨he, bel⟩ => ?_
  subst he
  exact ⟨_, rfl, _, _, _, [], _, [], hW', trodAll_mk1 (shut_bool Tryz.underlying4 _), (trodAll_cons_mk (Below.trod laidOut (by kernel_rfl) (of_decide_eq_true (by kernel_rfl)) k0 bel lt0) (trodAll_cons_mk (Below.trod laidOut (by kernel_rfl) (of_decide_eq_true (by kernel_rfl)) k1 bel lt1) trodAll_mk0)), rfl, bel.frame _, fun h => by cases h⟩

theorem iall_laid_met (os : Os) : laidMet Tryz.prog Rows.inodeAllRow.laid ((World.doorLaid Tryz.prog 400 os).forCall (fun _ _ => 0) ⟨#[], #[.int .i64 0, .slice none 0 0], []⟩).memory :=
  laidMet_of_run' 20 (by kernel_rfl) (by kernel_rfl)
theorem iall_reads (os : Os) {H : Type} (enc : TypeId × Value → H) : ∃ places, DataW.whole enc Tryz.prog ((World.doorLaid Tryz.prog 400 os).forCall (fun _ _ => 0) ⟨#[], #[.int .i64 0, .slice none 0 0], []⟩).memory Tryz.f3.params.toList Rows.inodeAllSpec.vars false (#[.int .i64 0, .slice none 0 0] : Array Value).toList 8 = some ([.lit (.int .i64 0), .nil], [], places) :=
  ⟨[], by kernel_rfl⟩

set_option maxRecDepth 100000 in
theorem iall_lifted (os : Os) (started : os.Started) (H : Type) (enc : TypeId × Value → H) (F : Stop.Interp) :
    ReturnsInHanded {} Tryz.checked os 3 .any ((OpenSpec.ofChange Rows.inodeAllSpec).preRow enc Tryz.prog Tryz.f3 Rows.inodeAllRow.domain false Rows.inodeAllRow.laid) (((OpenSpec.ofChange Rows.inodeAllSpec).at F).post enc Tryz.prog Tryz.f3 false true false false) := by
  obtain ⟨places, hx⟩ := iall_reads os enc
  refine returnsInHanded_of_row (C := Tryz.checked) (s := OpenSpec.ofChange Rows.inodeAllSpec) own started (by kernel_rfl) Tryz.func3
    (witness_row_at (enc := enc) (C := Tryz.checked) false (World.doorLaid Tryz.prog 400 os) #[.int .i64 0, .slice none 0 0] rfl (by kernel_rfl) (by kernel_rfl) (by kernel_rfl)
      (OpenSpec.preRow_of_cond 8 hx (by kernel_rfl) (fun k hk => by cases hk) (by kernel_rfl) (iall_laid_met os))) ?_
  intro W base args ds gs before hval hW _ _ hz hL _ _
  exact iall_contract H enc W base args ds gs before hval hW hz hL

theorem iall_said : Rows.InodeAllSaid :=
  OpenClaim.holds_of_cond 3 Tryz.f3 rfl rfl rfl rfl rfl rfl rfl ⟨rfl, rfl, rfl, rfl, rfl⟩ rfl rfl rfl rfl rfl (by kernel_rfl) Tryz.func3 (by kernel_rfl)
    (of_decide_eq_true (by kernel_rfl)) (by unfold Func.isWrapper; first | (rw [if_pos (by decide +kernel)]; kernel_rfl) | (rw [if_neg (by decide +kernel)]; exact ⟨rfl, rfl⟩))
    (fun os started H enc _ F => by rw [OpenClaim.pre_eq_preRow]; exact iall_lifted os started H enc F)

theorem iall_plain (f : FuncId) (fn : Func) (hf : Tryz.pinned.checked.prog.funcNamed "lagoon/lagoonlaw9.InodeAll" = some f) (hfn : Tryz.pinned.checked.prog.funcs[f]? = some fn) :
    true = Tryz.pinned.checked.prog.looks [] ∧ ∀ (j : Nat) t, fn.params[j]? = some t → Tryz.pinned.checked.prog.wantsStandIn t = false := by
  obtain rfl : f = 3 := Option.some.inj ((show Tryz.prog.funcNamed "lagoon/lagoonlaw9.InodeAll" = some 3 by kernel_rfl).symm.trans hf) |>.symm
  obtain rfl : fn = Tryz.f3 := (Option.some.inj (Tryz.func3.symm.trans hfn)).symm
  refine ⟨by kernel_rfl, fun j t ht => ?_⟩
  rw [Tryz.params3] at ht
  have hm : t ∈ [3, 22] := by simpa using Array.mem_of_getElem? ht
  have hall : ([3, 22].all fun u => !Tryz.prog.wantsStandIn u) = true := by kernel_rfl
  exact (show Tryz.prog.wantsStandIn t = false by simpa using List.all_eq_true.1 hall t hm)

theorem inodeAll_holds : Rows.InodeAllCardSaid :=
  Claim7.holds_tied_plain_at .later [] _ _ _ _ iall_said (fun _ h => by cases h) (by kernel_rfl) (fun _ h => by cases h) inodeAll_row_tie rfl ⟨rfl, rfl⟩ (by kernel_rfl) rfl iall_plain (by kernel_rfl)

#print axioms inodeAll_holds
end Go.Proofs.YtebdgcoandfocaaGreatDoor
