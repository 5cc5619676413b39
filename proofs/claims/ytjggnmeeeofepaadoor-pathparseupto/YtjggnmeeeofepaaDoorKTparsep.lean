/-
  PathParse, for every text and every list of names that are together of bulk at most 1,048,576, whatever the memory and the order that Go leaves open, returns true and leaves its arguments and all memory that was there as it was. The library's variables start as the program's text lays them (the card ties them).
-/
import Derived.Test.YtjggnmeeeofepaaDoorKTpl

namespace Go.Proofs.YtjggnmeeeofepaaDoor
open Go.ChangeShapes Go.WideShapes Go.ChangeAt Go.RowKit Go.Deep

set_option maxRecDepth 100000 in
theorem pparse_contract (H : Type) (enc : TypeId × Value → H) (W : World) (base : Nat) (args : Array Value) (ds gs : List (DataW H)) (before : List MemPlace)
    (hval : ∀ (j : Nat) t v, Tryd.f3.params[j]? = some t → args[j]? = some v → Value.okWide Tryd.prog W .any base t v)
    (hW : DataW.Whole enc Tryd.prog Tryd.f3.params.toList Rows.pathParseSpec.vars false W args.toList ds gs before)
    (hk : Rows.uptoSmall H (ds ++ gs) = true)
    (hL : laidMetH Tryd.prog Rows.pathParseRow.laid W) (hsh : W.ShapedOpen Tryd.prog) :
    Calls Tryd.prog 3 args W fun e W' => ∃ v, e = .returned v ∧ Rows.pathParseSpec.post enc Tryd.prog Tryd.f3 false true false false W args v W' := by
  have hW' := hW
  obtain ⟨p, q, hA0, hV, rfl, hfz, hnd⟩ := hW
  have hA : DataW.TrodAll enc Tryd.prog W 0 (fun _ => true) true Tryd.f3.params.toList args.toList ds p := hA0
  rw [Tryd.params3] at hA hval
  obtain ⟨v0, vs0, d0, ds0, p0, q0, hargs, rfl, rfl, h0, r0⟩ := trodAll_cons hA
  obtain ⟨v1, vs1, d1, ds1, p1, q1, rfl, rfl, rfl, h1, r1⟩ := trodAll_cons r0
  obtain ⟨rfl, rfl, rfl⟩ := trodAll_nil r1
  obtain rfl : args = #[v0, v1] := by cases args; simp_all
  obtain ⟨rfl, rfl⟩ := trodVars_none hV
  obtain ⟨s0, hs0⟩ := okWide_string Tryd.underlying9 (hval 0 9 v0 rfl rfl)
  subst hs0
  obtain ⟨a1, n1, c1, hs1⟩ : ∃ a n c, v1 = .slice a n c := okWide_slice Tryd.underlying22 (hval 1 22 v1 rfl rfl)
  subst hs1
  have k0 := h0
  have lt0 : ∀ x ∈ p0, x.block < W.heap.size := by obtain ⟨m, hm⟩ := k0; exact DataW.trod_lt m _ _ _ hm
  have k1 := h1
  have lt1 : ∀ x ∈ p1, x.block < W.heap.size := by obtain ⟨m, hm⟩ := k1; exact DataW.trod_lt m _ _ _ hm
  have hsum : Rows.uptoBulkAll ([d0, d1] ++ []) ≤ 1048576 := of_decide_eq_true hk
  simp only [List.append_nil, Rows.uptoBulkAll] at hsum
  obtain ⟨names, hlen, hN, hNl, hnc, hn1⟩ : ∃ names : List (List UInt8), names.length = n1 ∧ Ck.Sh.Nms W a1 names ∧ (∀ x ∈ names, x.length ≤ 1048576) ∧ n1 ≤ c1 ∧ n1 ≤ 1048576 := by
    obtain ⟨fuel, hf⟩ := h1
    exact nms_small hf (by show Rows.uptoBulk d1 ≤ _; omega)
  obtain ⟨l, hl, hs⟩ : ∃ l : List UInt8, l.length ≤ 1100 ∧ ((1100 < s0.size ∧ s0.extract 0 1100 = Ck.Sh.bas l) ∨ (¬ 1100 < s0.size ∧ s0 = Ck.Sh.bas l)) := by
    by_cases h : 1100 < s0.size
    · refine ⟨(s0.extract 0 1100).data.toList, ?_, .inl ⟨h, (Ck.Sh.bas_of _).symm⟩⟩
      rw [← Lib.size_eq]
      simp
      omega
    · exact ⟨s0.data.toList, by rw [← Lib.size_eq]; omega, .inr ⟨h, (Ck.Sh.bas_of _).symm⟩⟩
  obtain ⟨Q, hq, hQ, hQl, hQn⟩ : ∃ Q : List (List UInt8), ((70 < n1 ∧ Q.length = 70) ∨ (¬ 70 < n1 ∧ n1 = Q.length)) ∧ Ck.Sh.Nms W a1 Q ∧ (∀ x ∈ Q, x.length ≤ 1048576) ∧ Q.length ≤ 70 := by
    by_cases h : 70 < n1
    · exact ⟨names.take 70, .inl ⟨h, by simp; omega⟩, hN.take 70, fun x hx => hNl x (List.mem_of_mem_take hx), by simp; omega⟩
    · exact ⟨names, .inr ⟨h, hlen.symm⟩, hN, hNl, by omega⟩
  have hj := joinTail_small Q hQl
  clear hA0
  refine (Ck.Sh.pathparse_law s0 l hl hs Q a1 n1 c1 hq hnc (fun x hx => by have := hQl x hx; omega) (by omega) (by omega) W (lb_of_laid hL hsh) hQ).mono fun e W' ⟨he, bel⟩ => ?_
  subst he
  exact ⟨_, rfl, _, _, _, [], _, [], hW', trodAll_mk1 (shut_bool Tryd.underlying4 _),
    (trodAll_cons_mk (Below.trod laidOut (by kernel_rfl) (of_decide_eq_true (by kernel_rfl)) k0 bel lt0) (trodAll_cons_mk (Below.trod laidOut (by kernel_rfl) (of_decide_eq_true (by kernel_rfl)) k1 bel lt1) trodAll_mk0)), rfl, bel.frame _, fun h => by cases h⟩

theorem pparse_laid_met (os : Os) : laidMet Tryd.prog Rows.pathParseUptoRow.laid ((World.laidAll Tryd.prog os Rows.pathParseUptoRow.laid).forCall (fun _ _ => 0) ⟨#[], #[.string ⟨#[]⟩, .slice none 0 0], []⟩).memory :=
  laidMet_laidAll #[.string ⟨#[]⟩, .slice none 0 0] (by kernel_rfl) (by kernel_rfl)
theorem pparse_reads (os : Os) {H : Type} (enc : TypeId × Value → H) : ∃ places, DataW.whole enc Tryd.prog ((World.laidAll Tryd.prog os Rows.pathParseUptoRow.laid).forCall (fun _ _ => 0) ⟨#[], #[.string ⟨#[]⟩, .slice none 0 0], []⟩).memory Tryd.f3.params.toList Rows.pathParseSpec.vars false (#[.string ⟨#[]⟩, .slice none 0 0] : Array Value).toList 8 = some ([.lit (.string []), .nil], [], places) :=
  ⟨[], by kernel_rfl⟩

set_option maxRecDepth 100000 in
theorem pparse_lifted (os : Os) (started : os.Started) (H : Type) (enc : TypeId × Value → H) (F : Stop.Interp) :
    ReturnsInHanded {} Tryd.checked os 3 .any ((Rows.OpenSpec.upto Rows.pathParseSpec).preRow enc Tryd.prog Tryd.f3 Rows.pathParseUptoRow.domain false Rows.pathParseUptoRow.laid) (((Rows.OpenSpec.upto Rows.pathParseSpec).at F).post enc Tryd.prog Tryd.f3 false true false false) := by
  obtain ⟨places, hx⟩ := pparse_reads os enc
  refine returnsInHanded_of_row (C := Tryd.checked) (s := Rows.OpenSpec.upto Rows.pathParseSpec) own started (by kernel_rfl) Tryd.func3
    (witness_row_atRef (enc := enc) (C := Tryd.checked) false (World.laidAll Tryd.prog os Rows.pathParseUptoRow.laid) #[.string ⟨#[]⟩, .slice none 0 0] (World.laidAll_os _ _ _) (by kernel_rfl) (by kernel_rfl) (by kernel_rfl)
      (OpenSpec.preRow_of_cond 8 hx (by kernel_rfl) (fun k hk => by cases hk; kernel_rfl) (by kernel_rfl) (pparse_laid_met os))) ?_
  intro W base args ds gs before hval hW _ hcond _ hL hsh _
  exact pparse_contract H enc W base args ds gs before hval hW (hcond _ rfl) hL hsh

theorem pparse_said : Rows.PathParseUptoSaid :=
  OpenClaim.holds_of_cond 3 Tryd.f3 rfl rfl rfl rfl rfl rfl rfl ⟨rfl, rfl, rfl, rfl, rfl⟩ rfl rfl rfl rfl rfl (by kernel_rfl) Tryd.func3 (by kernel_rfl)
    (of_decide_eq_true (by kernel_rfl)) (by unfold Func.isWrapper; first | (rw [if_pos (by decide +kernel)]; kernel_rfl) | (rw [if_neg (by decide +kernel)]; exact ⟨rfl, rfl⟩))
    (fun os started H enc _ F => by rw [OpenClaim.pre_eq_preRow]; exact pparse_lifted os started H enc F)

theorem pparse_plain (f : FuncId) (fn : Func) (hf : Tryd.pinned.checked.prog.funcNamed "lagoon/lagoonlaw19.PathParse" = some f) (hfn : Tryd.pinned.checked.prog.funcs[f]? = some fn) :
    true = Tryd.pinned.checked.prog.looks [] ∧ ∀ (j : Nat) t, fn.params[j]? = some t → Tryd.pinned.checked.prog.wantsStandIn t = false := by
  obtain rfl : f = 3 := Option.some.inj ((show Tryd.prog.funcNamed "lagoon/lagoonlaw19.PathParse" = some 3 by kernel_rfl).symm.trans hf) |>.symm
  obtain rfl : fn = Tryd.f3 := (Option.some.inj (Tryd.func3.symm.trans hfn)).symm
  refine ⟨by kernel_rfl, fun j t ht => ?_⟩
  rw [Tryd.params3] at ht
  have hm : t ∈ [9, 22] := by simpa using Array.mem_of_getElem? ht
  have hall : ([9, 22].all fun u => !Tryd.prog.wantsStandIn u) = true := by kernel_rfl
  exact (show Tryd.prog.wantsStandIn t = false by simpa using List.all_eq_true.1 hall t hm)

theorem pathParse_holds : Rows.PathParseUptoCardSaid :=
  Claim7.holds_tied_plain_at .later [] _ _ _ _ pparse_said (fun _ h => by cases h) (by kernel_rfl) (fun _ h => by cases h) pathParseUpto_row_tie rfl ⟨rfl, rfl⟩ (by kernel_rfl) rfl pparse_plain (by kernel_rfl)

#print axioms pathParse_holds
end Go.Proofs.YtjggnmeeeofepaaDoor
