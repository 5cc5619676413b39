/-
  DirAll, for all its arguments, whatever the memory and the order that Go leaves open, returns true and leaves its arguments and all memory that was there as it was. The table of package crc starts as the program's text lays it (the card ties it).
-/
import Derived.Test.YtdocablbkafkiaaDoorCel
import Derived.Test.YtdocablbkafkiaaDoorZf

namespace Go.Proofs.YtdocablbkafkiaaDoor
open Go.ChangeShapes Go.WideShapes Go.ChangeAt Go.RowKit Go.Deep

theorem Tryd.cellsOp10 : Tryd.prog.cellsOf 29 = 3 := by kernel_rfl
/-- One operation that came in. -/
theorem op10_at {H : Type} {enc : TypeId × Value → H} {W : World} {fuel ob oo : Nat} {cs : List Value} {x : DataW H × List MemPlace}
    (hc : W.cells? 0 ⟨ob, oo, none⟩ 3 = some cs) (h : DataW.trod enc Tryd.prog W 0 (fun _ => true) true fuel 29 cs = some x) (hwt : ∀ n ∈ x.1.weights Tryd.prog 29, n ≤ reachBytes) :
    ∃ i : Cd.O10, (W.cell? ⟨ob, oo, none⟩ = some (.int .i64 i.kind) ∧ W.cell? ⟨ob, oo + 1, none⟩ = some (.string i.name) ∧ W.cell? ⟨ob, oo + 2, none⟩ = some (.int .i64 i.n)) ∧ i.name.size < 1000000000000000 := by
  obtain ⟨xs, n, _, hx, hl, hlen, hf⟩ := DataW.trod_struct Tryd.underlying29 h
  rw [Tryd.cellsOp10] at hl
  obtain ⟨v0, v1, v2, rfl⟩ := list3c hl
  obtain ⟨y0, y1, y2, rfl⟩ := list3c (show xs.length = 3 from hlen)
  have f0 := hf 0 _ rfl
  have f1 := hf 1 _ rfl
  have f2 := hf 2 _ rfl
  simp [Tryd.cells3c, Tryd.cells9c] at f0 f1 f2
  obtain ⟨s0, e0, _⟩ := DataW.trod_int Tryd.underlying3 f0
  obtain ⟨s2, e2, _⟩ := DataW.trod_int Tryd.underlying3 f2
  obtain ⟨s1, e1, ex1, _⟩ := DataW.trod_string Tryd.underlying9 f1
  simp at e0 e1 e2
  subst e0 e1 e2
  rw [hx] at hwt
  simp [DataW.weights, DataW.weightsEach, Tryd.underlying29] at hwt
  obtain ⟨_, _, hcell⟩ := World.cells?_some hc
  have c0 := hcell 0 (by omega)
  have c1 := hcell 1 (by omega)
  have c2 := hcell 2 (by omega)
  simp only [Addr.add_lit, Nat.add_zero] at c0 c1 c2
  refine ⟨⟨s0, s1, s2⟩, ⟨c0, c1, c2⟩, ?_⟩
  have h1 := hwt s1.data.toList.length (by rw [ex1]; simp [DataW.weights])
  unfold reachBytes at h1
  have hsz : s1.size = s1.data.toList.length := Lib.size_eq s1
  show s1.size < 1000000000000000
  omega
theorem ops10_at {H : Type} {enc : TypeId × Value → H} {W : World} {fuel : Nat} {a : Option Addr} {len cap : Nat} {y : DataW H × List MemPlace} (h : DataW.trod enc Tryd.prog W 0 (fun _ => true) true fuel 22 [.slice a len cap] = some y) (hwt : ∀ n ∈ y.1.weights Tryd.prog 22, n ≤ reachBytes) :
    ∃ os : List Cd.O10, os.length = len ∧ len < 1000000000000000 ∧ Cd.OpsAt W a os ∧ ∀ o ∈ os, o.name.size < 1000000000000000 := by
  obtain ⟨l, hl, _, hb, hr⟩ := elems_at (S := 3) Tryd.underlying22 Tryd.cellsOp10 (by decide) (⟨0, ByteArray.empty, 0⟩ : Cd.O10) (fun g o i => (W.cell? ⟨g, o, none⟩ = some (.int .i64 i.kind) ∧ W.cell? ⟨g, o + 1, none⟩ = some (.string i.name) ∧ W.cell? ⟨g, o + 2, none⟩ = some (.int .i64 i.n)) ∧ i.name.size < 1000000000000000) h hwt
    (fun b o cs n x hc ht hw => op10_at hc ht hw)
  rw [show Tryd.prog.bytesOf 29 = 32 by kernel_rfl] at hb
  unfold reachBytes at hb
  refine ⟨l, hl, by omega, fun j o hj => ?_, fun o ho => ?_⟩
  · obtain ⟨g, f, e, hx⟩ := hr (by have := (List.getElem?_eq_some_iff.1 hj).1; omega)
    exact ⟨g, f, e, (hx j o hj).1⟩
  · obtain ⟨j, hj⟩ := List.getElem?_of_mem ho
    obtain ⟨g, f, e, hx⟩ := hr (by have := (List.getElem?_eq_some_iff.1 hj).1; omega)
    exact (hx j o hj).2

set_option maxRecDepth 100000 in
theorem dall_contract (H : Type) (enc : TypeId × Value → H) (W : World) (base : Nat) (args : Array Value) (ds gs : List (DataW H)) (before : List MemPlace)
    (hval : ∀ (j : Nat) t v, Tryd.f3.params[j]? = some t → args[j]? = some v → Value.okWide Tryd.prog W .any base t v)
    (hW : DataW.Whole enc Tryd.prog Tryd.f3.params.toList Rows.dirAllSpec.vars false W args.toList ds gs before)
    (hz : (DataW.weightsEach Tryd.prog (Tryd.f3.params.toList ++ (OpenSpec.ofChange Rows.dirAllSpec).bare.plain.varTypes Tryd.prog) (ds ++ gs)).all (· ≤ reachBytes) = true) (hL : laidMetH Tryd.prog Rows.dirAllRow.laid W) :
    Calls Tryd.prog 3 args W fun e W' => ∃ v, e = .returned v ∧ Rows.dirAllSpec.post enc Tryd.prog Tryd.f3 false true false false W args v W' := by
  have hW' := hW
  obtain ⟨p, q, hA0, hV, rfl, hfz, hnd⟩ := hW
  have hA : DataW.TrodAll enc Tryd.prog W 0 (fun _ => true) true Tryd.f3.params.toList args.toList ds p := hA0
  rw [Tryd.params3] at hA hval hz
  obtain ⟨v0, vs0, d0, ds0, p0, q0, hargs, rfl, rfl, h0, r0⟩ := trodAll_cons hA
  obtain ⟨rfl, rfl, rfl⟩ := trodAll_nil r0
  obtain rfl : args = #[v0] := by cases args; simp_all
  obtain ⟨rfl, rfl⟩ := trodVars_none hV
  obtain ⟨a0, len0, cap0, rfl⟩ := okWide_slice Tryd.underlying22 (hval 0 22 v0 rfl rfl)
  have k0 := h0
  have lt0 : ∀ x ∈ p0, x.block < W.heap.size := by obtain ⟨m, hm⟩ := k0; exact DataW.trod_lt m _ _ _ hm
  have hw0 : ∀ n ∈ d0.weights Tryd.prog 22, n ≤ reachBytes := fun n hn => by
    have := List.all_eq_true.1 hz n (DataW.weights_mem_each (j := 0) (t := 22) (d := d0) rfl rfl n hn)
    simpa using this
  obtain ⟨os, rfl, hol, hos, hnb⟩ : ∃ os : List Cd.O10, os.length = len0 ∧ len0 < 1000000000000000 ∧ Cd.OpsAt W a0 os ∧ ∀ o ∈ os, o.name.size < 1000000000000000 := by
    obtain ⟨fuel, hf⟩ := h0
    exact ops10_at (y := (d0, p0)) (by simpa [Value.cells] using hf) hw0
  clear hA0 hw0
  refine (Cd.all_law a0 os cap0 W (tab_of_laid hL) hos hol hnb).mono fun e W' ⟨he, bel⟩ => ?_
  subst he
  exact ⟨_, rfl, _, _, _, [], _, [], hW', trodAll_mk1 (shut_bool Tryd.underlying4 _), (trodAll_cons_mk (Below.trod laidOut (by kernel_rfl) (of_decide_eq_true (by kernel_rfl)) k0 bel lt0) trodAll_mk0), rfl, bel.frame _, fun h => by cases h⟩

theorem dall_laid_met (os : Os) : laidMet Tryd.prog Rows.dirAllRow.laid ((World.doorLaid Tryd.prog 400 os).forCall (fun _ _ => 0) ⟨#[], #[.slice none 0 0], []⟩).memory :=
  laidMet_of_run' 20 (by kernel_rfl) (by kernel_rfl)
theorem dall_reads (os : Os) {H : Type} (enc : TypeId × Value → H) : ∃ places, DataW.whole enc Tryd.prog ((World.doorLaid Tryd.prog 400 os).forCall (fun _ _ => 0) ⟨#[], #[.slice none 0 0], []⟩).memory Tryd.f3.params.toList Rows.dirAllSpec.vars false (#[.slice none 0 0] : Array Value).toList 8 = some ([.nil], [], places) :=
  ⟨[], by kernel_rfl⟩

set_option maxRecDepth 100000 in
theorem dall_lifted (os : Os) (started : os.Started) (H : Type) (enc : TypeId × Value → H) (F : Stop.Interp) :
    ReturnsInHanded {} Tryd.checked os 3 .any ((OpenSpec.ofChange Rows.dirAllSpec).preRow enc Tryd.prog Tryd.f3 Rows.dirAllRow.domain false Rows.dirAllRow.laid) (((OpenSpec.ofChange Rows.dirAllSpec).at F).post enc Tryd.prog Tryd.f3 false true false false) := by
  obtain ⟨places, hx⟩ := dall_reads os enc
  refine returnsInHanded_of_row (C := Tryd.checked) (s := OpenSpec.ofChange Rows.dirAllSpec) own started (by kernel_rfl) Tryd.func3
    (witness_row_at (enc := enc) (C := Tryd.checked) false (World.doorLaid Tryd.prog 400 os) #[.slice none 0 0] rfl (by kernel_rfl) (by kernel_rfl) (by kernel_rfl)
      (OpenSpec.preRow_of_cond 8 hx (by kernel_rfl) (fun k hk => by cases hk) (by kernel_rfl) (dall_laid_met os))) ?_
  intro W base args ds gs before hval hW _ _ hz hL _ _
  exact dall_contract H enc W base args ds gs before hval hW hz hL

theorem dall_said : Rows.DirAllSaid :=
  OpenClaim.holds_of_cond 3 Tryd.f3 rfl rfl rfl rfl rfl rfl rfl ⟨rfl, rfl, rfl, rfl, rfl⟩ rfl rfl rfl rfl rfl (by kernel_rfl) Tryd.func3 (by kernel_rfl)
    (of_decide_eq_true (by kernel_rfl)) (by unfold Func.isWrapper; first | (rw [if_pos (by decide +kernel)]; kernel_rfl) | (rw [if_neg (by decide +kernel)]; exact ⟨rfl, rfl⟩))
    (fun os started H enc _ F => by rw [OpenClaim.pre_eq_preRow]; exact dall_lifted os started H enc F)

theorem dall_plain (f : FuncId) (fn : Func) (hf : Tryd.pinned.checked.prog.funcNamed "lagoon/lagoonlaw10.DirAll" = some f) (hfn : Tryd.pinned.checked.prog.funcs[f]? = some fn) :
    true = Tryd.pinned.checked.prog.looks [] ∧ ∀ (j : Nat) t, fn.params[j]? = some t → Tryd.pinned.checked.prog.wantsStandIn t = false := by
  obtain rfl : f = 3 := Option.some.inj ((show Tryd.prog.funcNamed "lagoon/lagoonlaw10.DirAll" = some 3 by kernel_rfl).symm.trans hf) |>.symm
  obtain rfl : fn = Tryd.f3 := (Option.some.inj (Tryd.func3.symm.trans hfn)).symm
  refine ⟨by kernel_rfl, fun j t ht => ?_⟩
  rw [Tryd.params3] at ht
  have hm : t ∈ [22] := by simpa using Array.mem_of_getElem? ht
  have hall : ([22].all fun u => !Tryd.prog.wantsStandIn u) = true := by kernel_rfl
  exact (show Tryd.prog.wantsStandIn t = false by simpa using List.all_eq_true.1 hall t hm)

theorem dirAll_holds : Rows.DirAllCardSaid :=
  Claim7.holds_tied_plain_at .later [] _ _ _ _ dall_said (fun _ h => by cases h) (by kernel_rfl) (fun _ h => by cases h) dirAll_row_tie rfl ⟨rfl, rfl⟩ (by kernel_rfl) rfl dall_plain (by kernel_rfl)

#print axioms dirAll_holds
end Go.Proofs.YtdocablbkafkiaaDoor
