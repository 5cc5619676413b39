/-
  WalFormat, for all its arguments, whatever the memory and the order that Go leaves open, returns true and leaves its arguments and all memory that was there as it was. The table of package crc starts as the program's text lays it (the card ties it).
-/
import Derived.Test.YtcchhalmlkdepaaGreatDoorCtable
import Derived.Test.YtcchhalmlkdepaaGreatDoorCsum
import Derived.ChangeOld
import Derived.Deep.Slices
import Derived.Deep.Matrix
import Derived.Test.YtcchhalmlkdepaaGreatDoorWfmb
import Derived.Deep.Grids

/-
  The bytes that came in, read cell by cell.
-/
namespace Go.Proofs.YtcchhalmlkdepaaGreatDoor
open Go.ChangeShapes Go.WideShapes Go.ChangeAt Go.RowKit Go.Deep

theorem Tryz.cells5 : Tryz.prog.cellsOf 5 = 1 := by kernel_rfl
theorem Tryz.cells26 : Tryz.prog.cellsOf 54 = 1 := by kernel_rfl

/-- A byte of the model's as eight bits. -/
def byteOf (z : Int) : BitVec 8 := BitVec.ofNat 8 z.toNat
theorem byteOf_val {z : Int} (h : (Lit.int .u8 z).wf = true) : u8v (byteOf z) = .int .u8 z := by
  simp [Lit.wf] at h
  have h1 : (0 : Int) ≤ z := h.1
  have h2 : z ≤ 255 := h.2
  unfold u8v byteOf
  rw [BitVec.toNat_ofNat, Nat.mod_eq_of_lt (by omega)]
  congr 1
  omega

/-- Cells that hold bytes. -/
theorem bytes_of_cells {W : World} {a : Option Addr} {len cap : Nat} {zs : List Int} (hl : len ≤ cap) (hz : zs.length = cap) (hw : ∀ n ∈ zs, (Lit.int .u8 n).wf = true)
    (hn : a = none → cap = 0) (hc : ∀ a', a = some a' → ∀ i, i < cap → W.cell? (a'.add i) = some (.int .u8 (zs.getD i 0))) : Bytes W a ((zs.take len).map byteOf) ∧ ((zs.take len).map byteOf).length = len := by
  have hlen : ((zs.take len).map byteOf).length = len := by simp; omega
  refine ⟨fun hp => ?_, hlen⟩
  rw [hlen] at hp
  rcases a with _ | ⟨b, off, spot⟩
  · have := hn rfl; omega
  have h0 := hc _ rfl 0 (by omega)
  have hspot : spot = none := by simpa [Addr.add] using World.cell?_spot h0
  subst hspot
  refine ⟨b, off, rfl, fun j x hj => ?_⟩
  rw [List.getElem?_map, List.getElem?_take] at hj
  split at hj
  · rename_i hjl
    have hjz : j < zs.length := by omega
    rw [List.getElem?_eq_getElem hjz] at hj
    simp only [Option.map_some, Option.some.injEq] at hj
    have hcell := hc _ rfl j (by omega)
    rw [Addr.add_lit, List.getD, List.getElem?_eq_getElem hjz, Option.getD_some] at hcell
    rw [hcell, ← hj, byteOf_val (hw _ (List.getElem_mem hjz))]
  · simp at hj

theorem bytes_at {H : Type} {enc : TypeId × Value → H} {W : World} {v : Value} {y : DataW H} {ps : List MemPlace} (h : DataW.Trod enc Tryz.prog W 0 (fun _ => true) true 54 v y ps) :
    v.cells.toList = [v] → ∃ (p : Option Addr) (c : Nat) (bs : List (BitVec 8)), v = .slice p bs.length c ∧ bs.length ≤ c ∧ c < 9223372036854775808 ∧ Bytes W p bs := by
  intro hv
  obtain ⟨fuel, hf⟩ := h
  rcases open_ints Tryz.underlying54 Tryz.underlying5 Tryz.cells5 hf with ⟨hcs, _⟩ | ⟨a, len, cap, zs, hcs, _, hl, hm, hz, _, hcell, hw⟩
  · rw [hv] at hcs
    simp at hcs
    exact ⟨none, 0, [], hcs, Nat.le_refl _, by decide, fun h => absurd h (by decide)⟩
  · rw [hv] at hcs
    simp at hcs
    have hz' : zs.length = cap := by simpa using hz
    obtain ⟨hb, hlen⟩ := bytes_of_cells (W := W) (a := some a) hl hz' hw (fun h => by cases h) (fun a' e i hi => by cases e; exact hcell i (by omega))
    exact ⟨some a, cap, _, by rw [hlen]; exact hcs, by rw [hlen]; exact hl, by unfold maxLen at hm; omega, hb⟩

theorem i64_wf {z : Int} (h : (Lit.int .i64 z).wf = true) : -9223372036854775808 ≤ z ∧ z < 9223372036854775808 := by
  simp [Lit.wf] at h
  have h1 : (-9223372036854775808 : Int) ≤ z := h.1
  have h2 : z ≤ 9223372036854775807 := h.2
  omega

end Go.Proofs.YtcchhalmlkdepaaGreatDoor

namespace Go.Proofs.YtcchhalmlkdepaaGreatDoor
open Go.ChangeShapes Go.WideShapes Go.ChangeAt Go.RowKit Go.Deep

theorem Tryz.cells4 : Tryz.prog.cellsOf 4 = 1 := by kernel_rfl

theorem bools_at {H : Type} {enc : TypeId × Value → H} {W : World} {v : Value} {y : DataW H} {ps : List MemPlace} (h : DataW.Trod enc Tryz.prog W 0 (fun _ => true) true 47 v y ps) :
    v.cells.toList = [v] → ∃ (kp : Option Addr) (kc : Nat) (ks : List Bool), v = .slice kp ks.length kc ∧ ks.length < 9223372036854775808 ∧ Bools W kp ks := by
  intro hv
  obtain ⟨fuel, hf⟩ := h
  rcases open_bools Tryz.underlying47 Tryz.underlying4 Tryz.cells4 hf with ⟨hcs, _⟩ | ⟨⟨b, off, spot⟩, len, cap, B, hcs, _, hl, hm, _, hcell⟩
  · rw [hv] at hcs
    simp at hcs
    exact ⟨none, 0, [], hcs, by decide, fun h => absurd h (by decide)⟩
  · rw [hv] at hcs
    simp at hcs
    have hlen : ((List.range len).map B).length = len := by simp
    refine ⟨some ⟨b, off, spot⟩, cap, (List.range len).map B, by rw [hlen]; exact hcs, by unfold maxLen at hm; omega, fun hp => ?_⟩
    have h0 := hcell 0 (by omega)
    have hspot : spot = none := by simpa [Addr.add] using World.cell?_spot h0
    subst hspot
    refine ⟨b, off, rfl, fun j x hj => ?_⟩
    have hjl : j < len := by
      have := (List.getElem?_eq_some_iff.1 hj).1
      omega
    have hc := hcell j (by omega)
    rw [Addr.add_lit] at hc
    rw [hc]
    simp [hjl] at hj
    rw [hj]

theorem format_any (blocks fuse : Int) (p : Option Addr) (c : Nat) (ks : List Bool) (w : World) (ht : Tab w) (hf : fuse ≤ 9223372036854775807) (hl : ks.length < 9223372036854775808) (hks : Bools w p ks) :
    Calls Tryz.prog 4 #[.int .i64 blocks, .int .i64 fuse, .slice p ks.length c] w fun e w' => e = .returned (.bool true) ∧ Below w.heap.size w w' := by
  by_cases h : blocks < 0 ∨ 100 < blocks ∨ fuse < 0
  · exact format_out blocks fuse p _ c w ht h
  · obtain ⟨n, rfl⟩ := Int.eq_ofNat_of_zero_le (show 0 ≤ blocks by omega)
    by_cases h0 : n = 0
    · subst h0
      exact format_none fuse p _ c w ht (by omega)
    · by_cases h16 : n < 16
      · exact format_few n fuse p _ c w ht (by omega) h16 (by omega)
      · exact format_many n fuse p c ks w ht (by omega) (by omega) (by omega) hf hl hks

set_option maxRecDepth 100000 in
theorem wformat_contract (H : Type) (enc : TypeId × Value → H) (W : World) (base : Nat) (args : Array Value) (ds gs : List (DataW H)) (before : List MemPlace)
    (hval : ∀ (j : Nat) t v, Tryz.f4.params[j]? = some t → args[j]? = some v → Value.okWide Tryz.prog W .any base t v)
    (hW : DataW.Whole enc Tryz.prog Tryz.f4.params.toList Rows.walFormatSpec.vars false W args.toList ds gs before) (hL : laidMetH Tryz.prog Rows.walFormatRow.laid W) :
    Calls Tryz.prog 4 args W fun e W' => ∃ v, e = .returned v ∧ Rows.walFormatSpec.post enc Tryz.prog Tryz.f4 false true false false W args v W' := by
  have hW' := hW
  obtain ⟨p, q, hA0, hV, rfl, hfz, hnd⟩ := hW
  have hA : DataW.TrodAll enc Tryz.prog W 0 (fun _ => true) true Tryz.f4.params.toList args.toList ds p := hA0
  rw [Tryz.params4] at hA hval
  obtain ⟨v0, vs0, d0, ds0, p0, q0, hargs, rfl, rfl, h0, r0⟩ := trodAll_cons hA
  obtain ⟨v1, vs1, d1, ds1, p1, q1, rfl, rfl, rfl, h1, r1⟩ := trodAll_cons r0
  obtain ⟨v2, vs2, d2, ds2, p2, q2, rfl, rfl, rfl, h2, r2⟩ := trodAll_cons r1
  obtain ⟨rfl, rfl, rfl⟩ := trodAll_nil r2
  obtain rfl : args = #[v0, v1, v2] := by cases args; simp_all
  obtain ⟨rfl, rfl⟩ := trodVars_none hV
  obtain ⟨a0, rfl, rfl, rfl, w0⟩ := open_int Tryz.underlying3 (hval 0 3 v0 rfl rfl) h0
  obtain ⟨a1, rfl, rfl, rfl, w1⟩ := open_int Tryz.underlying3 (hval 1 3 v1 rfl rfl) h1
  obtain ⟨a2, len2, cap2, hv2⟩ := okWide_slice Tryz.underlying47 (hval 2 47 v2 rfl rfl)
  have k2 := h2
  have lt2 : ∀ x ∈ p2, x.block < W.heap.size := by obtain ⟨m, hm⟩ := k2; exact DataW.trod_lt m _ _ _ hm
  obtain ⟨bp, bc, bs, hv, hbl, hb⟩ := bools_at h2 (by rw [hv2]; rfl)
  subst hv
  clear hA0 hv2
  refine (format_any a0 a1 bp bc bs W (tab_of_laid hL) (by have := (i64_wf w1).2; omega) hbl hb).mono fun e W' ⟨he, bel⟩ => ?_
  subst he
  exact ⟨_, rfl, _, _, _, [], _, [], hW', trodAll_mk1 (shut_bool Tryz.underlying4 _),
    (trodAll_cons_mk (shut_int Tryz.underlying3 w0) (trodAll_cons_mk (shut_int Tryz.underlying3 w1) (trodAll_cons_mk (Below.trod laidOut (by kernel_rfl) (of_decide_eq_true (by kernel_rfl)) k2 bel lt2) trodAll_mk0))), rfl, bel.frame _, fun h => by cases h⟩

theorem wformat_laid_met (os : Os) : laidMet Tryz.prog Rows.walFormatRow.laid ((World.doorLaid Tryz.prog 400 os).forCall (fun _ _ => 0) ⟨#[], #[.int .i64 0, .int .i64 0, .slice none 0 0], []⟩).memory :=
  laidMet_of_run' 20 (by kernel_rfl) (by kernel_rfl)
theorem wformat_reads (os : Os) {H : Type} (enc : TypeId × Value → H) : ∃ places, DataW.whole enc Tryz.prog ((World.doorLaid Tryz.prog 400 os).forCall (fun _ _ => 0) ⟨#[], #[.int .i64 0, .int .i64 0, .slice none 0 0], []⟩).memory Tryz.f4.params.toList Rows.walFormatSpec.vars false (#[.int .i64 0, .int .i64 0, .slice none 0 0] : Array Value).toList 8 = some ([.lit (.int .i64 0), .lit (.int .i64 0), .nil], [], places) :=
  ⟨[], by kernel_rfl⟩

set_option maxRecDepth 100000 in
theorem wformat_lifted (os : Os) (started : os.Started) (H : Type) (enc : TypeId × Value → H) (F : Stop.Interp) :
    ReturnsInHanded {} Tryz.checked os 4 .any ((OpenSpec.ofChange Rows.walFormatSpec).preRow enc Tryz.prog Tryz.f4 Rows.walFormatRow.domain false Rows.walFormatRow.laid) (((OpenSpec.ofChange Rows.walFormatSpec).at F).post enc Tryz.prog Tryz.f4 false true false false) := by
  obtain ⟨places, hx⟩ := wformat_reads os enc
  refine returnsInHanded_of_row (C := Tryz.checked) (s := OpenSpec.ofChange Rows.walFormatSpec) own started (by kernel_rfl) Tryz.func4
    (witness_row_at (enc := enc) (C := Tryz.checked) false (World.doorLaid Tryz.prog 400 os) #[.int .i64 0, .int .i64 0, .slice none 0 0] rfl (by kernel_rfl) (by kernel_rfl) (by kernel_rfl)
      (OpenSpec.preRow_of_cond 8 hx (by kernel_rfl) (fun k hk => by cases hk) (by kernel_rfl) (wformat_laid_met os))) ?_
  intro W base args ds gs before hval hW _ _ _ hL _ _
  exact wformat_contract H enc W base args ds gs before hval hW hL

theorem wformat_said : Rows.WalFormatSaid :=
  OpenClaim.holds_of_cond 4 Tryz.f4 rfl rfl rfl rfl rfl rfl rfl ⟨rfl, rfl, rfl, rfl, rfl⟩ rfl rfl rfl rfl rfl (by kernel_rfl) Tryz.func4 (by kernel_rfl)
    (of_decide_eq_true (by kernel_rfl)) (by unfold Func.isWrapper; first | (rw [if_pos (by decide +kernel)]; kernel_rfl) | (rw [if_neg (by decide +kernel)]; exact ⟨rfl, rfl⟩))
    (fun os started H enc _ F => by rw [OpenClaim.pre_eq_preRow]; exact wformat_lifted os started H enc F)

theorem wformat_plain (f : FuncId) (fn : Func) (hf : Tryz.pinned.checked.prog.funcNamed "lagoon/lagoonlaw6.WalFormat" = some f) (hfn : Tryz.pinned.checked.prog.funcs[f]? = some fn) :
    false = Tryz.pinned.checked.prog.looks [] ∧ ∀ (j : Nat) t, fn.params[j]? = some t → Tryz.pinned.checked.prog.wantsStandIn t = false := by
  obtain rfl : f = 4 := Option.some.inj ((show Tryz.prog.funcNamed "lagoon/lagoonlaw6.WalFormat" = some 4 by kernel_rfl).symm.trans hf) |>.symm
  obtain rfl : fn = Tryz.f4 := (Option.some.inj (Tryz.func4.symm.trans hfn)).symm
  refine ⟨by kernel_rfl, fun j t ht => ?_⟩
  rw [Tryz.params4] at ht
  have hm : t ∈ [3, 3, 47] := by simpa using Array.mem_of_getElem? ht
  have hall : ([3, 3, 47].all fun u => !Tryz.prog.wantsStandIn u) = true := by kernel_rfl
  exact (show Tryz.prog.wantsStandIn t = false by simpa using List.all_eq_true.1 hall t hm)

theorem walFormat_holds : Rows.WalFormatCardSaid :=
  Claim7.holds_tied_plain_at .later [] _ _ _ _ wformat_said (fun _ h => by cases h) (by kernel_rfl) (fun _ h => by cases h) walFormat_row_tie rfl ⟨rfl, rfl⟩ (by kernel_rfl) rfl wformat_plain (by kernel_rfl)

#print axioms walFormat_holds
end Go.Proofs.YtcchhalmlkdepaaGreatDoor
