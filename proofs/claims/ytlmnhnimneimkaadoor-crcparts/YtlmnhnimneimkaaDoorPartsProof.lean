/-
  CrcParts, for every row of rows of bytes, whatever the memory and the order that Go leaves open, returns true and leaves its arguments and all memory that was there as it was. The table of package crc starts as the program's text lays it (the card ties it).
-/
import Derived.Test.YtlmnhnimneimkaaDoorOpen
import Derived.Test.YtlmnhnimneimkaaDoorParts
namespace Go.Proofs.YtlmnhnimneimkaaDoor
open Go.ChangeShapes Go.WideShapes Go.ChangeAt Go.RowKit Go.Deep

theorem parts_at {H : Type} {enc : TypeId × Value → H} {W : World} {v : Value} {y : DataW H} {pl : List MemPlace} (h : DataW.Trod enc Tryd.prog W 0 (fun _ => true) true 22 v y pl) :
    v.cells.toList = [v] → ∃ (q : Option Addr) (c : Nat) (ps : List Part), v = .slice q ps.length c ∧ ps.length < 9223372036854775808 ∧ Parts W q ps ∧ ∀ (j : Nat) (x : Part), ps[j]? = some x → x.bytes.length ≤ x.cap := by
  intro hv
  obtain ⟨fuel, hf⟩ := h
  rcases open_int_rows Tryd.underlying22 Tryd.underlying26 Tryd.underlying5 Tryd.cells26 Tryd.cells5 hf with ⟨hcs, _⟩ | ⟨⟨b, off, spot⟩, len, cap, A, L, C, Z, hcs, _, hl, hm, _, hx⟩
  · rw [hv] at hcs
    simp at hcs
    exact ⟨none, 0, [], hcs, by decide, ⟨fun h => by simp at h, fun j x hj => by simp at hj⟩, fun j x hj => by simp at hj⟩
  · rw [hv] at hcs
    simp at hcs
    have hlen : ((List.range len).map fun r => (⟨A r, C r, ((Z r).take (L r)).map byteOf⟩ : Part)).length = len := by simp
    have key : ∀ (j : Nat) (x : Part), ((List.range len).map fun r => (⟨A r, C r, ((Z r).take (L r)).map byteOf⟩ : Part))[j]? = some x → j < len ∧ x = ⟨A j, C j, ((Z j).take (L j)).map byteOf⟩ := by
      intro j x hj
      have hlt := (List.getElem?_eq_some_iff.1 hj).1
      rw [hlen] at hlt
      rw [List.getElem?_map, List.getElem?_range hlt] at hj
      exact ⟨hlt, (Option.some.inj hj).symm⟩
    refine ⟨some ⟨b, off, spot⟩, cap, (List.range len).map fun r => ⟨A r, C r, ((Z r).take (L r)).map byteOf⟩, by rw [hlen]; exact hcs, by rw [hlen]; unfold maxLen at hm; omega, ⟨fun hp => ?_, fun j x hj => ?_⟩, fun j x hj => ?_⟩
    · rw [hlen] at hp
      have h0 := (hx 0 (by omega)).1
      have hspot : spot = none := by simpa [Addr.add] using World.cell?_spot h0
      subst hspot
      refine ⟨b, off, rfl, fun j x hj => ?_⟩
      obtain ⟨hlt, rfl⟩ := key j x hj
      obtain ⟨hc, h1, h2, h3, h4, h5, h6⟩ := hx j (by omega)
      have hlz := (bytes_of_cells (W := W) h1 h3 h4 h5 (fun a' e i hi => (h6 a' e).2 i hi)).2
      rw [Addr.add_lit] at hc
      rw [hc, hlz]
    · obtain ⟨hlt, rfl⟩ := key j x hj
      obtain ⟨hc, h1, h2, h3, h4, h5, h6⟩ := hx j (by omega)
      have hlz := bytes_of_cells (W := W) h1 h3 h4 h5 (fun a' e i hi => (h6 a' e).2 i hi)
      exact ⟨by rw [hlz.2]; unfold maxLen at h2; omega, hlz.1⟩
    · obtain ⟨hlt, rfl⟩ := key j x hj
      obtain ⟨hc, h1, h2, h3, h4, h5, h6⟩ := hx j (by omega)
      have hlz := bytes_of_cells (W := W) h1 h3 h4 h5 (fun a' e i hi => (h6 a' e).2 i hi)
      rw [hlz.2]
      exact h1

theorem parts_contract (H : Type) (enc : TypeId × Value → H) (W : World) (base : Nat) (args : Array Value) (ds gs : List (DataW H)) (before : List MemPlace)
    (hval : ∀ (j : Nat) t v, Tryd.f3.params[j]? = some t → args[j]? = some v → Value.okWide Tryd.prog W .any base t v)
    (hW : DataW.Whole enc Tryd.prog Tryd.f3.params.toList Rows.crcPartsSpec.vars false W args.toList ds gs before) (hL : laidMetH Tryd.prog Rows.crcPartsRow.laid W) :
    Calls Tryd.prog 3 args W fun e W' => ∃ v, e = .returned v ∧ Rows.crcPartsSpec.post enc Tryd.prog Tryd.f3 false true false false W args v W' := by
  have hW' := hW
  obtain ⟨p, q, hA0, hV, rfl, hfz, hnd⟩ := hW
  have hA : DataW.TrodAll enc Tryd.prog W 0 (fun _ => true) true Tryd.f3.params.toList args.toList ds p := hA0
  rw [Tryd.params3] at hA hval
  obtain ⟨v0, vs0, d0, ds0, p0, q0, hargs, rfl, rfl, h0, r0⟩ := trodAll_cons hA
  obtain ⟨rfl, rfl, rfl⟩ := trodAll_nil r0
  obtain rfl : args = #[v0] := by cases args; simp_all
  obtain ⟨rfl, rfl⟩ := trodVars_none hV
  obtain ⟨a0, len0, cap0, hv0⟩ := okWide_slice Tryd.underlying22 (hval 0 22 v0 rfl rfl)
  have k0 := h0
  have lt0 : ∀ x ∈ p0, x.block < W.heap.size := by obtain ⟨m, hm⟩ := k0; exact DataW.trod_lt m _ _ _ hm
  obtain ⟨bp, bc, ps, hv, hpl, hb, hcap⟩ := parts_at h0 (by rw [hv0]; rfl)
  subst hv
  clear hA0 hv0
  refine (parts_any bp ps bc W (tab_of_laid hL) hpl hb hcap).mono fun e W' ⟨he, bel⟩ => ?_
  subst he
  exact ⟨_, rfl, _, _, _, [], _, [], hW', trodAll_mk1 (shut_bool Tryd.underlying4 _),
    (trodAll_cons_mk (Below.trod laidOut (by kernel_rfl) (of_decide_eq_true (by kernel_rfl)) k0 bel lt0) trodAll_mk0), rfl, bel.frame _, fun h => by cases h⟩

theorem parts_laid_met (os : Os) : laidMet Tryd.prog Rows.crcPartsRow.laid ((World.doorLaid Tryd.prog 400 os).forCall (fun _ _ => 0) ⟨#[], #[.slice none 0 0], []⟩).memory :=
  laidMet_of_run' 20 (by kernel_rfl) (by kernel_rfl)
theorem parts_reads (os : Os) {H : Type} (enc : TypeId × Value → H) : ∃ places, DataW.whole enc Tryd.prog ((World.doorLaid Tryd.prog 400 os).forCall (fun _ _ => 0) ⟨#[], #[.slice none 0 0], []⟩).memory Tryd.f3.params.toList Rows.crcPartsSpec.vars false (#[.slice none 0 0] : Array Value).toList 8 = some ([.nil], [], places) :=
  ⟨[], by kernel_rfl⟩

set_option maxRecDepth 100000 in
theorem parts_lifted (os : Os) (started : os.Started) (H : Type) (enc : TypeId × Value → H) (F : Stop.Interp) :
    ReturnsInHanded {} Tryd.checked os 3 .any ((OpenSpec.ofChange Rows.crcPartsSpec).preRow enc Tryd.prog Tryd.f3 Rows.crcPartsRow.domain false Rows.crcPartsRow.laid) (((OpenSpec.ofChange Rows.crcPartsSpec).at F).post enc Tryd.prog Tryd.f3 false true false false) := by
  obtain ⟨places, hx⟩ := parts_reads os enc
  refine returnsInHanded_of_row (C := Tryd.checked) (s := OpenSpec.ofChange Rows.crcPartsSpec) own started (by kernel_rfl) Tryd.func3
    (witness_row_at (enc := enc) (C := Tryd.checked) false (World.doorLaid Tryd.prog 400 os) #[.slice none 0 0] rfl (by kernel_rfl) (by kernel_rfl) (by kernel_rfl)
      (OpenSpec.preRow_of_cond 8 hx (by kernel_rfl) (fun k hk => by cases hk) (by kernel_rfl) (parts_laid_met os))) ?_
  intro W base args ds gs before hval hW _ _ _ hL _ _
  exact parts_contract H enc W base args ds gs before hval hW hL

theorem parts_said : Rows.CrcPartsSaid :=
  OpenClaim.holds_of_cond 3 Tryd.f3 rfl rfl rfl rfl rfl rfl rfl ⟨rfl, rfl, rfl, rfl, rfl⟩ rfl rfl rfl rfl rfl (by kernel_rfl) Tryd.func3 (by kernel_rfl)
    (of_decide_eq_true (by kernel_rfl)) (by unfold Func.isWrapper; first | (rw [if_pos (by decide +kernel)]; kernel_rfl) | (rw [if_neg (by decide +kernel)]; exact ⟨rfl, rfl⟩))
    (fun os started H enc _ F => by rw [OpenClaim.pre_eq_preRow]; exact parts_lifted os started H enc F)

theorem parts_plain (f : FuncId) (fn : Func) (hf : Tryd.pinned.checked.prog.funcNamed "lagoon/lagoonlaw2.CrcParts" = some f) (hfn : Tryd.pinned.checked.prog.funcs[f]? = some fn) :
    false = Tryd.pinned.checked.prog.looks [] ∧ ∀ (j : Nat) t, fn.params[j]? = some t → Tryd.pinned.checked.prog.wantsStandIn t = false := by
  obtain rfl : f = 3 := Option.some.inj ((show Tryd.prog.funcNamed "lagoon/lagoonlaw2.CrcParts" = some 3 by kernel_rfl).symm.trans hf) |>.symm
  obtain rfl : fn = Tryd.f3 := (Option.some.inj (Tryd.func3.symm.trans hfn)).symm
  refine ⟨by kernel_rfl, fun j t ht => ?_⟩
  rw [Tryd.params3] at ht
  have hm : t ∈ [22] := by simpa using Array.mem_of_getElem? ht
  have hall : ([22].all fun u => !Tryd.prog.wantsStandIn u) = true := by kernel_rfl
  exact (show Tryd.prog.wantsStandIn t = false by simpa using List.all_eq_true.1 hall t hm)

theorem crcParts_holds : Rows.CrcPartsCardSaid :=
  Claim7.holds_tied_plain_at .later [] _ _ _ _ parts_said (fun _ h => by cases h) (by kernel_rfl) (fun _ h => by cases h) crcParts_row_tie rfl ⟨rfl, rfl⟩ (by kernel_rfl) rfl parts_plain (by kernel_rfl)

#print axioms crcParts_holds
end Go.Proofs.YtlmnhnimneimkaaDoor
