/-
  OpDecode, for every operation, number, byte and slice of bytes (the slices may share memory), whatever the memory and the order that Go leaves open, returns true and leaves its arguments and all memory that was there as it was. There is no condition.
-/
import Derived.Test.YtegjageenofbjaaGreatOt
import Derived.ProofKit
import Derived.OpenShut
import Derived.ChangeOld
import Derived.Deep.Slices
import Derived.Deep.Grids
import Derived.Test.YtegjageenofbjaaGreatRows
import Derived.Below

/-
  The law OpCode.
-/
namespace Go.Proofs.YtegjageenofbjaaGreat.Cd
open Go.RowKit Go.Maps

attribute [local go_sem] Oper.semAt_some

theorem cloned_slice {w W : World} {bs : List (BitVec 8)} {v : Value} (h : Cloned w bs v W) : ∃ p c, v = .slice p bs.length c ∧ bs.length ≤ c ∧ Bytes W p bs ∧ Below w.heap.size w W := by
  obtain ⟨_, p, c, e, hc, hb, _⟩ := owns_bytes h.1
  exact ⟨p, c, e, hc, hb, h.2⟩

set_option maxRecDepth 8000 in
set_option maxHeartbeats 8000000 in
theorem opcode_any (t n sq kd ot on pt pn : Int) (nm : List UInt8) (p q : Option Addr) (l c m d : Nat) (data : List (BitVec 8)) (ns : List Int) (t' n' sq' kd' ot' on' pt' pn' : Int) (nm' : List UInt8) (p' q' : Option Addr) (l' c' m' d' : Nat) (data' : List (BitVec 8)) (ns' : List Int) (w : World)
    (hl : l = data.length) (hlc : data.length ≤ c) (hm : m = ns.length) (hmd : ns.length ≤ d) (hml : ns.length ≤ maxLen) (hp : Bytes w p data) (hq : Lies w q (ns.map iv))
    (hl' : l' = data'.length) (hlc' : data'.length ≤ c') (hm' : m' = ns'.length) (hmd' : ns'.length ≤ d') (hml' : ns'.length ≤ maxLen) (hp' : Bytes w p' data') (hq' : Lies w q' (ns'.map iv)) :
    Calls Tryz.prog 3 #[.agg #[.int .i64 t, .int .i64 n, .int .i64 sq, .int .i64 kd, .int .i64 ot, .int .i64 on, .int .i64 pt, .int .i64 pn, .string (bas nm), .slice p l c, .slice q m d], .agg #[.int .i64 t', .int .i64 n', .int .i64 sq', .int .i64 kd', .int .i64 ot', .int .i64 on', .int .i64 pt', .int .i64 pn', .string (bas nm'), .slice p' l' c', .slice q' m' d']] w fun e w' => e = .returned (.bool true) ∧ Below w.heap.size w w' := by
  have HCA : Hid (∀ W, Below w.heap.size w W → _) := fun W hW => cut12_any t n sq kd ot on pt pn nm p q l c m d data ns W hl hlc hm hmd hml (below_bytes hW hp)
  have HCB : Hid (∀ W, Below w.heap.size w W → _) := fun W hW => cut12_any t' n' sq' kd' ot' on' pt' pn' nm' p' q' l' c' m' d' data' ns' W hl' hlc' hm' hmd' hml' (below_bytes hW hp')
  obtain ⟨dx, hdx⟩ : ∃ x, data.take 3000 = x := ⟨_, rfl⟩
  obtain ⟨nsx, hnsx⟩ : ∃ x, Vc.cut ns = x := ⟨_, rfl⟩
  obtain ⟨nx, hnx⟩ : ∃ x, nm.take 100 = x := ⟨_, rfl⟩
  obtain ⟨dx', hdx'⟩ : ∃ x, data'.take 3000 = x := ⟨_, rfl⟩
  obtain ⟨nsx', hnsx'⟩ : ∃ x, Vc.cut ns' = x := ⟨_, rfl⟩
  obtain ⟨nx', hnx'⟩ : ∃ x, nm'.take 100 = x := ⟨_, rfl⟩
  rw [hdx, hnsx, hnx] at HCA
  rw [hdx', hnsx', hnx'] at HCB
  have hpx : Bytes w p dx := by rw [← hdx]; exact bytes_take hp 3000
  have hpx' : Bytes w p' dx' := by rw [← hdx']; exact bytes_take hp' 3000
  have hqx : Lies w q (nsx.map iv) := by
    rw [← hnsx]
    have := lies_take hq 80
    rw [← List.map_take] at this
    exact this
  have hqx' : Lies w q' (nsx'.map iv) := by
    rw [← hnsx']
    have := lies_take hq' 80
    rw [← List.map_take] at this
    exact this
  have z1 : dx.length ≤ 3000 := by rw [← hdx, List.length_take]; omega
  have z2 : nsx.length ≤ 80 := by rw [← hnsx]; exact Vc.cut_le ns
  have z3 : nx.length ≤ 100 := by rw [← hnx, List.length_take]; omega
  have z4 : nsx.length ≤ d := by rw [← hnsx]; unfold Vc.cut; rw [List.length_take]; omega
  have z5 : dx'.length ≤ 3000 := by rw [← hdx', List.length_take]; omega
  have z6 : nsx'.length ≤ 80 := by rw [← hnsx']; exact Vc.cut_le ns'
  clear hdx hnsx hnx hdx' hnsx' hnx'
  have HMr : Hid (∀ W, Below w.heap.size w W → Calls Tryz.prog 7 #[.agg #[.int .i64 t, .int .i64 n, .int .i64 sq, .int .i64 kd, .int .i64 ot, .int .i64 on, .int .i64 pt, .int .i64 pn, .string (bas nx), .slice p dx.length c, .slice q nsx.length d]] W fun e w' => e = .returned (.bool (mayO t n sq kd ot on pt pn nx dx.length nsx)) ∧ Below W.heap.size W w') := fun W hW => rmay_any t n sq kd ot on pt pn nx p q dx.length c nsx.length d nsx W (by omega) (by omega) rfl (by omega) (below_lies hW hqx)
  have HEr : Hid (∀ W, Below w.heap.size w W → Calls Tryz.prog 8 #[.agg #[.int .i64 t, .int .i64 n, .int .i64 sq, .int .i64 kd, .int .i64 ot, .int .i64 on, .int .i64 pt, .int .i64 pn, .string (bas nx), .slice p dx.length c, .slice q nsx.length d]] W fun e w' => ∃ v, e = .returned v ∧ Cloned W (if mayO t n sq kd ot on pt pn nx dx.length nsx then bytesO t n sq kd ot on pt pn nx dx nsx else []) v w') := fun W hW => rencode_any t n sq kd ot on pt pn nx p q dx.length c nsx.length d dx nsx W (by omega) rfl (by omega) rfl (by omega) (below_bytes hW hpx) (below_lies hW hqx)
  have HEo : Hid (∀ W, Below w.heap.size w W → Calls Tryz.prog 9 #[.agg #[.int .i64 t, .int .i64 n, .int .i64 sq, .int .i64 kd, .int .i64 ot, .int .i64 on, .int .i64 pt, .int .i64 pn, .string (bas nx), .slice p dx.length c, .slice q nsx.length d]] W (EncR W (mayO t n sq kd ot on pt pn nx dx.length nsx) (bytesO t n sq kd ot on pt pn nx dx nsx))) := fun W hW => encode_any t n sq kd ot on pt pn nx p q dx.length c nsx.length d dx nsx W (by omega) rfl (by omega) rfl (by omega) z4 (below_bytes hW hpx) (below_lies hW hqx)
  have HMo : Hid (∀ W, Below w.heap.size w W → Calls Tryz.prog 10 #[.agg #[.int .i64 t, .int .i64 n, .int .i64 sq, .int .i64 kd, .int .i64 ot, .int .i64 on, .int .i64 pt, .int .i64 pn, .string (bas nx), .slice p dx.length c, .slice q nsx.length d]] W fun e w' => e = .returned (.bool (mayO t n sq kd ot on pt pn nx dx.length nsx)) ∧ Below W.heap.size W w') := fun W hW => omay_any t n sq kd ot on pt pn nx p q dx.length c nsx.length d nsx W (by omega) (by omega) rfl (by omega) z4 (below_lies hW hqx)
  have HCo : Hid (∀ W, Below w.heap.size w W → Calls Tryz.prog 11 #[.agg #[.int .i64 t, .int .i64 n, .int .i64 sq, .int .i64 kd, .int .i64 ot, .int .i64 on, .int .i64 pt, .int .i64 pn, .string (bas nx), .slice p dx.length c, .slice q nsx.length d]] W fun e w' => e = .returned (.int .i64 ((if mayO t n sq kd ot on pt pn nx dx.length nsx then bytesO t n sq kd ot on pt pn nx dx nsx else []).length : Nat)) ∧ Below W.heap.size W w') := fun W hW => cost_any t n sq kd ot on pt pn nx p q dx.length c nsx.length d dx nsx W (by omega) rfl (by omega) rfl (by omega) z4 (below_bytes hW hpx) (below_lies hW hqx)
  obtain ⟨y, hy⟩ : ∃ y, eqF t n sq kd ot on pt pn nx dx nsx t' n' sq' kd' ot' on' pt' pn' nx' dx' nsx' = y := ⟨_, rfl⟩
  have HQo : Hid (∀ W, Below w.heap.size w W → Calls Tryz.prog 12 #[.agg #[.int .i64 t, .int .i64 n, .int .i64 sq, .int .i64 kd, .int .i64 ot, .int .i64 on, .int .i64 pt, .int .i64 pn, .string (bas nx), .slice p dx.length c, .slice q nsx.length d], .agg #[.int .i64 t', .int .i64 n', .int .i64 sq', .int .i64 kd', .int .i64 ot', .int .i64 on', .int .i64 pt', .int .i64 pn', .string (bas nx'), .slice p' dx'.length c', .slice q' nsx'.length d']] W fun e w' => e = .returned (.bool y) ∧ Below W.heap.size W w') := fun W hW => by rw [← hy]; exact oeq_any t n sq kd ot on pt pn nx p q dx.length c nsx.length d dx nsx t' n' sq' kd' ot' on' pt' pn' nx' p' q' dx'.length c' nsx'.length d' dx' nsx' W rfl rfl rfl rfl (below_bytes hW hpx) (below_lies hW hqx) (below_bytes hW hpx') (below_lies hW hqx')
  have HQr : Hid (∀ W, Below w.heap.size w W → Calls Tryz.prog 13 #[.agg #[.int .i64 t, .int .i64 n, .int .i64 sq, .int .i64 kd, .int .i64 ot, .int .i64 on, .int .i64 pt, .int .i64 pn, .string (bas nx), .slice p dx.length c, .slice q nsx.length d], .agg #[.int .i64 t', .int .i64 n', .int .i64 sq', .int .i64 kd', .int .i64 ot', .int .i64 on', .int .i64 pt', .int .i64 pn', .string (bas nx'), .slice p' dx'.length c', .slice q' nsx'.length d']] W fun e w' => e = .returned (.bool y) ∧ Below W.heap.size W w') := fun W hW => by rw [← hy]; exact req12_any t n sq kd ot on pt pn nx p q dx.length c nsx.length d dx nsx t' n' sq' kd' ot' on' pt' pn' nx' p' q' dx'.length c' nsx'.length d' dx' nsx' W rfl rfl rfl rfl (below_bytes hW hpx) (below_lies hW hqx) (below_bytes hW hpx') (below_lies hW hqx')
  obtain ⟨nv, hnv⟩ : ∃ nv, normOf nsx = nv := ⟨_, rfl⟩
  have hnvl : nv.length ≤ 64 := by rw [← hnv]; exact normOf_le nsx
  have HD : Hid (mayO t n sq kd ot on pt pn nx dx.length nsx = true → ∀ W pb cb, Bytes W pb (bytesO t n sq kd ot on pt pn nx dx nsx) → Calls Tryz.prog 14 #[.slice pb (bytesO t n sq kd ot on pt pn nx dx nsx).length cb] W fun e w' => ∃ p7 c7 p8 c8, e = .returned (.tuple #[.agg #[.int .i64 t, .int .i64 n, .int .i64 sq, .int .i64 kd, .int .i64 ot, .int .i64 on, .int .i64 pt, .int .i64 pn, .string (bas nx), .slice p7 dx.length c7, .slice p8 nv.length c8], .int .i64 0]) ∧ Bytes w' p7 dx ∧ Lies w' p8 (nv.map iv) ∧ nv.length ≤ c8 ∧ Below W.heap.size W w') := fun hmay W pb cb hb => by
    have hg := good_back ⟨t, n, sq, kd, ot, on, pt, pn, nx, dx, nsx⟩ hmay
    have hlen : (bytesO t n sq kd ot on pt pn nx dx nsx).length ≤ 1000000000 := by
      obtain ⟨⟨e1, h1⟩, ⟨e2, h2⟩, ⟨e3, h3⟩, ⟨e4, h4⟩, ⟨e5, h5⟩, ⟨e6, h6⟩, ⟨e7, h7⟩, ⟨e8, h8⟩, _, _⟩ := may_parts hmay
      have l1 := num_len h1
      have l2 := id_len h2
      have l3 := num_len h3
      have l4 := id_len h4
      have l5 := id_len h5
      have l6 := by_len h6
      have l7 := by_len h7
      rw [bvs_length] at l6
      have l8 : e8.length ≤ 1000 := by
        unfold eVec at h8
        split at h8
        · cases h8
          have g1 := numB_len9 (normOf nsx).length (by have := normOf_le nsx; omega)
          have g2 := numsB_len (normOf nsx) (normOf_ok nsx)
          have g3 := normOf_le nsx
          rw [List.length_append]
          omega
        · cases h8
      unfold bytesO partsO
      rw [h1, h2, h3, h4, h5, h6, h7, h8]
      simp
      omega
    have := decode_any pb (bytesO t n sq kd ot on pt pn nx dx nsx) cb W hlen hb
    rw [show bytesO t n sq kd ot on pt pn nx dx nsx = Opn.bytes ⟨t, n, sq, kd, ot, on, pt, pn, nx, dx, nsx⟩ from rfl, hg.1, hg.2] at this
    refine (show Calls Tryz.prog 14 #[.slice pb (bytesO t n sq kd ot on pt pn nx dx nsx).length cb] W _ from this).mono ?_
    rintro e w' ⟨v, rfl, ⟨p7, c7, p8, c8, rfl, m1, m2, m3⟩, hB⟩
    refine ⟨p7, c7, p8, c8, ?_, m1, ?_, ?_, hB⟩
    · rw [← hnv]; rfl
    · rw [← hnv]; exact m2
    · rw [← hnv]; exact m3
  have he1 := (eqB_norm nsx).1
  have he2 := (eqB_norm nsx).2
  rw [hnv] at he1 he2
  have HQ1 : Hid (∀ W p7 c7 p8 c8, Below w.heap.size w W → Bytes W p7 dx → Lies W p8 (nv.map iv) → Calls Tryz.prog 13 #[.agg #[.int .i64 t, .int .i64 n, .int .i64 sq, .int .i64 kd, .int .i64 ot, .int .i64 on, .int .i64 pt, .int .i64 pn, .string (bas nx), .slice p7 dx.length c7, .slice p8 nv.length c8], .agg #[.int .i64 t, .int .i64 n, .int .i64 sq, .int .i64 kd, .int .i64 ot, .int .i64 on, .int .i64 pt, .int .i64 pn, .string (bas nx), .slice p dx.length c, .slice q nsx.length d]] W fun e w' => e = .returned (.bool true) ∧ Below W.heap.size W w') := fun W p7 c7 p8 c8 hW k1 k2 => by
    have := req12_any t n sq kd ot on pt pn nx p7 p8 dx.length c7 nv.length c8 dx nv t n sq kd ot on pt pn nx p q dx.length c nsx.length d dx nsx W rfl rfl rfl rfl k1 k2 (below_bytes hW hpx) (below_lies hW hqx)
    rw [show eqF t n sq kd ot on pt pn nx dx nv t n sq kd ot on pt pn nx dx nsx = true by simp [eqF, he1]] at this
    exact this
  have HQ2 : Hid (∀ W p7 c7 p8 c8, Below w.heap.size w W → Bytes W p7 dx → Lies W p8 (nv.map iv) → Calls Tryz.prog 12 #[.agg #[.int .i64 t, .int .i64 n, .int .i64 sq, .int .i64 kd, .int .i64 ot, .int .i64 on, .int .i64 pt, .int .i64 pn, .string (bas nx), .slice p dx.length c, .slice q nsx.length d], .agg #[.int .i64 t, .int .i64 n, .int .i64 sq, .int .i64 kd, .int .i64 ot, .int .i64 on, .int .i64 pt, .int .i64 pn, .string (bas nx), .slice p7 dx.length c7, .slice p8 nv.length c8]] W fun e w' => e = .returned (.bool true) ∧ Below W.heap.size W w') := fun W p7 c7 p8 c8 hW k1 k2 => by
    have := oeq_any t n sq kd ot on pt pn nx p q dx.length c nsx.length d dx nsx t n sq kd ot on pt pn nx p7 p8 dx.length c7 nv.length c8 dx nv W rfl rfl rfl rfl (below_bytes hW hpx) (below_lies hW hqx) k1 k2
    rw [show eqF t n sq kd ot on pt pn nx dx nsx t n sq kd ot on pt pn nx dx nv = true by simp [eqF, he2]] at this
    exact this
  have HIs : Hid (∀ W p8 c8, Below w.heap.size w W → Lies W p8 (nv.map iv) → Calls Tryz.prog 15 #[.slice p8 nv.length c8, .slice q nsx.length d] W fun e w' => e = .returned (.bool true) ∧ Below W.heap.size W w') := fun W p8 c8 hW k2 => Vc.is_true p8 q nv nsx c8 d W (by rw [norm_vc]; exact hnv) (by omega) k2 (below_lies hW hqx)
  have HO1 : Hid (OpY w ((w.alloc (.cells #[.int .i64 t, .int .i64 n, .int .i64 sq, .int .i64 kd, .int .i64 ot, .int .i64 on, .int .i64 pt, .int .i64 pn, .string (bas nm), .slice p l c, .slice q m d] 28)).alloc (.cells #[.int .i64 t', .int .i64 n', .int .i64 sq', .int .i64 kd', .int .i64 ot', .int .i64 on', .int .i64 pt', .int .i64 pn', .string (bas nm'), .slice p' l' c', .slice q' m' d'] 28)) w.heap.size (w.heap.size + 1) t n sq kd ot on pt pn nm p q l c m d t' n' sq' kd' ot' on' pt' pn' nm' p' q' l' c' m' d') :=
    ⟨(OpB.made w t n sq kd ot on pt pn nm p q l c m d).below (below_new _ _).out, OpB.next w _ t' n' sq' kd' ot' on' pt' pn' nm' p' q' l' c' m' d', ((Below.refl _ _).alloc (Nat.le_refl _) _).alloc (by simp) _⟩
  generalize hmy : mayO t n sq kd ot on pt pn nx dx.length nsx = my at *
  generalize hby : bytesO t n sq kd ot on pt pn nx dx nsx = byt at *
  obtain ⟨bys, hbys⟩ : ∃ bys, (if my = true then byt else []) = bys := ⟨_, rfl⟩
  have HBYS : Hid ((if my = true then byt else []) = bys) := hbys
  rw [hbys] at HEr HCo
  clear hmy hby hy hnv he1 he2 hpx hpx' hqx hqx' z1 z2 z3 z4 z5 z6 hl hlc hm hmd hml hp hq hl' hlc' hm' hmd' hml' hp' hq' hbys hnvl
  go_enter Tryz.func3, Tryz.ntmps3
  go_wp2_with (go_at_call 5; refine Calls_new (begun_any _) ?_; intro w1 hb1)
  have HY1 := OpY.step HO1 hb1
  clear HO1 hb1
  have HON : Hid (∀ W, Only (fun k => k = w.heap.size ∨ k = w.heap.size + 1) w1 W → Below w.heap.size w W) := fun W hW => HY1.out.2.2.trans (hW.below HY1.out.2.2.size (fun i hi => by omega))
  refine code_two (by kernel_rfl) w.heap.size (w.heap.size + 1) dx.length nsx.length dx'.length nsx'.length nx nx' t n sq kd ot on pt pn nm p q l c m d t' n' sq' kd' ot' on' pt' pn' nm' p' q' l' c' m' d' _ rfl rfl rfl HY1.out.1 HY1.out.2.1 (by omega) (fun W hW => HCA.out W (HON.out W hW)) (fun W hW => HCB.out W (HON.out W hW)) ?_
  intro W2 k1 k2 k3
  have HX : Hid (OpY w W2 w.heap.size (w.heap.size + 1) t n sq kd ot on pt pn nx p q dx.length c nsx.length d t' n' sq' kd' ot' on' pt' pn' nx' p' q' dx'.length c' nsx'.length d') := ⟨k1, k2, HON.out W2 k3⟩
  have ⟨a0, a1, a2, a3, a4, a5, a6, a7, a8, a9, a10⟩ := HX.out.1.cells
  clear k1 k2 k3 HON HY1 HCA HCB
  simp only [putAll, List.setIfInBounds_toArray, List.set_cons_zero, List.set_cons_succ]
  go_wp2_with (go_at_call 7; refine Calls_new (HMr.out _ HX.out.2.2) ?_; clear HMr; intro wq hbq; have HX := OpY.step HX hbq; have ⟨a0, a1, a2, a3, a4, a5, a6, a7, a8, a9, a10⟩ := HX.out.1.cells; have ⟨b0, b1, b2, b3, b4, b5, b6, b7, b8, b9, b10⟩ := HX.out.2.1.cells; clear hbq)
  refine (HEr.out _ HX.out.2.2).mono ?_
  rintro e w3 ⟨v3, rfl, x3⟩
  obtain ⟨pw, cw, rfl, _, hbw, hB3⟩ := cloned_slice x3
  have HBW : Hid (Bytes w3 pw bys) := hbw
  have hbq : Hid (Below _ _ w3) := hB3
  have HX := OpY.step HX hbq
  have ⟨s0, s1, s2, s3, s4, s5, s6, s7, s8, s9, s10⟩ := HX.out.1.cells
  clear hbq
  clear x3 hbw hB3 HEr
  go_wp2_with fail
  refine (HEo.out _ HX.out.2.2).mono ?_
  rintro e w4 ⟨v4, rfl, x4⟩
  rw [HBYS.out] at x4
  obtain ⟨pb, cb, rfl, _, hbb, hB4⟩ := cloned_slice x4
  have HBB : Hid (Bytes w4 pb bys ∧ Bytes w4 pw bys) := ⟨hbb, below_bytes hB4 HBW.out⟩
  have hbq : Hid (Below _ _ w4) := hB4
  have HX := OpY.step HX hbq
  have ⟨s0, s1, s2, s3, s4, s5, s6, s7, s8, s9, s10⟩ := HX.out.1.cells
  clear hbq
  clear x4 hbb hB4 HEo HBW
  have HRS : Hid (∀ W, Below w4.heap.size w4 W → (convert 24 9 (.slice pb bys.length cb)).run Tryz.prog W = .ok (.string (strOf bys)) W ∧ (convert 24 9 (.slice pw bys.length cw)).run Tryz.prog W = .ok (.string (strOf bys)) W) := fun W hW => ⟨run_str W pb bys cb (below_bytes hW HBB.out.1), run_str W pw bys cw (below_bytes hW HBB.out.2)⟩
  have HGB : Hid (∀ W, Below w4.heap.size w4 W → Below w.heap.size w W) := fun W hW => HX.out.2.2.trans (hW.mono HX.out.2.2.size)
  cases my with
  | false =>
    rw [show (if false = true then (0 : Int) else 22) = 22 from rfl]
    go_wp2_with fail
    refine code_six_false (by kernel_rfl) w.heap.size (w.heap.size + 1) bys.length cw bys.length cb pw pb (strOf bys) y t n sq kd ot on pt pn nx p q dx.length c nsx.length d t' n' sq' kd' ot' on' pt' pn' nx' p' q' dx'.length c' nsx'.length d' _ rfl rfl rfl rfl rfl rfl rfl HX.out.1 HX.out.2.1 (fun W hW => HMo.out W (HGB.out W hW)) (fun W hW => HCo.out W (HGB.out W hW)) (fun W hW => HQo.out W (HGB.out W hW)) (fun W hW => HQr.out W (HGB.out W hW)) HRS.out ?_
    intro W hW
    have HW : Hid (Below w.heap.size w W) := HGB.out W hW
    clear hW
    simp only [putAll, List.setIfInBounds_toArray, List.set_cons_zero, List.set_cons_succ]
    go_wp2
    go_ret
    exact ⟨rfl, HW.out⟩
  | true =>
    rw [show (if true = true then (0 : Int) else 22) = 0 from rfl]
    have hdt := HD.out rfl
    have HDT : Hid _ := hdt
    clear hdt HD
    obtain rfl : byt = bys := HBYS.out
    go_wp2_with fail
    refine code_six_true (by kernel_rfl) w.heap.size (w.heap.size + 1) byt.length cw byt.length cb pw pb (strOf byt) y t n sq kd ot on pt pn nx p q dx.length c nsx.length d t' n' sq' kd' ot' on' pt' pn' nx' p' q' dx'.length c' nsx'.length d' _ rfl rfl rfl rfl rfl rfl rfl HX.out.1 HX.out.2.1 (fun W hW => HMo.out W (HGB.out W hW)) (fun W hW => HCo.out W (HGB.out W hW)) (fun W hW => HQo.out W (HGB.out W hW)) (fun W hW => HQr.out W (HGB.out W hW)) HRS.out ?_
    intro W5 hW5
    have HBB5 : Hid (Bytes W5 pb byt) := below_bytes hW5 HBB.out.1
    have hbq : Hid (Below _ _ W5) := hW5
    have HX := OpY.step HX hbq
    clear hW5 hbq HBB HRS HGB HMo HCo HQo HQr
    simp only [putAll, List.setIfInBounds_toArray, List.set_cons_zero, List.set_cons_succ]
    go_wp2_with fail
    refine (HDT.out _ pb cb HBB5.out).mono ?_
    rintro e w6 ⟨p7, c7, p8, c8, rfl, j1, j2, j3, hB6⟩
    have hbq : Hid (Below _ _ w6) := hB6
    have HX := OpY.step HX hbq
    have HJ : Hid (Bytes w6 p7 dx ∧ Lies w6 p8 (nv.map iv)) := ⟨j1, j2⟩
    clear hbq hB6 j1 j2 j3 HDT HBB5
    have N6 : Hid (Below w6.heap.size w6 (w6.alloc (.cells #[.int .i64 t, .int .i64 n, .int .i64 sq, .int .i64 kd, .int .i64 ot, .int .i64 on, .int .i64 pt, .int .i64 pn, .string (bas nx), .slice p7 dx.length c7, .slice p8 nv.length c8] 28))) := (below_new w6 _).out
    have HX7 := OpY.step HX N6
    have HZ7 : Hid (OpB (w6.alloc (.cells #[.int .i64 t, .int .i64 n, .int .i64 sq, .int .i64 kd, .int .i64 ot, .int .i64 on, .int .i64 pt, .int .i64 pn, .string (bas nx), .slice p7 dx.length c7, .slice p8 nv.length c8] 28)) w6.heap.size t n sq kd ot on pt pn nx p7 p8 dx.length c7 nv.length c8) := OpB.made w6 t n sq kd ot on pt pn nx p7 p8 dx.length c7 nv.length c8
    have HJ7 : Hid (Bytes (w6.alloc (.cells #[.int .i64 t, .int .i64 n, .int .i64 sq, .int .i64 kd, .int .i64 ot, .int .i64 on, .int .i64 pt, .int .i64 pn, .string (bas nx), .slice p7 dx.length c7, .slice p8 nv.length c8] 28)) p7 dx ∧ Lies (w6.alloc (.cells #[.int .i64 t, .int .i64 n, .int .i64 sq, .int .i64 kd, .int .i64 ot, .int .i64 on, .int .i64 pt, .int .i64 pn, .string (bas nx), .slice p7 dx.length c7, .slice p8 nv.length c8] 28)) p8 (nv.map iv)) := ⟨below_bytes N6.out HJ.out.1, below_lies N6.out HJ.out.2⟩
    have ⟨a0, a1, a2, a3, a4, a5, a6, a7, a8, a9, a10⟩ := HX7.out.1.cells
    clear N6 HJ HX
    go_wp2_with (first | (go_at_call 13; refine Calls_new (HQ1.out _ p7 c7 p8 c8 HX7.out.2.2 HJ7.out.1 HJ7.out.2) ?_; clear HQ1; intro w8 hb8; have HX8 := OpY.step HX7 hb8; have HZ8 : Hid (OpB w8 w6.heap.size t n sq kd ot on pt pn nx p7 p8 dx.length c7 nv.length c8) := HZ7.out.below hb8.out; have HJ8 : Hid (Bytes w8 p7 dx ∧ Lies w8 p8 (nv.map iv)) := ⟨below_bytes hb8.out HJ7.out.1, below_lies hb8.out HJ7.out.2⟩; have ⟨bb0, bb1, bb2, bb3, bb4, bb5, bb6, bb7, bb8, bb9, bb10⟩ := HX8.out.1.cells; have ⟨cc0, cc1, cc2, cc3, cc4, cc5, cc6, cc7, cc8, cc9, cc10⟩ := HZ8.out.cells; clear hb8) | (go_at_call 15; refine Calls_new (HIs.out _ p8 c8 HX8.out.2.2 HJ8.out.2) ?_; clear HIs; intro w9 hb9; have HX9 := OpY.step HX8 hb9; have HZ9 : Hid (OpB w9 w6.heap.size t n sq kd ot on pt pn nx p7 p8 dx.length c7 nv.length c8) := HZ8.out.below hb9.out; have HJ9 : Hid (Bytes w9 p7 dx ∧ Lies w9 p8 (nv.map iv)) := ⟨below_bytes hb9.out HJ8.out.1, below_lies hb9.out HJ8.out.2⟩; have ⟨dd0, dd1, dd2, dd3, dd4, dd5, dd6, dd7, dd8, dd9, dd10⟩ := HX9.out.1.cells; have ⟨ee0, ee1, ee2, ee3, ee4, ee5, ee6, ee7, ee8, ee9, ee10⟩ := HZ9.out.cells; clear hb9) | (go_at_call 12; refine Calls_new (HQ2.out _ p7 c7 p8 c8 HX9.out.2.2 HJ9.out.1 HJ9.out.2) ?_; clear HQ2; intro w10 hb10; have HX10 := OpY.step HX9 hb10; clear hb10))
    go_ret
    exact ⟨rfl, HX10.out.2.2⟩

end Go.Proofs.YtegjageenofbjaaGreat.Cd

/-
  An operation, and bytes, that came in, read cell by cell.
-/
namespace Go.Proofs.YtegjageenofbjaaGreat.Cd
open Go.ChangeShapes Go.WideShapes Go.ChangeAt Go.RowKit Go.Deep

theorem cellsU8 : Tryz.prog.cellsOf 5 = 1 := by kernel_rfl
theorem cellsI64 : Tryz.prog.cellsOf 2 = 1 := by kernel_rfl
theorem cellsInt : Tryz.prog.cellsOf 3 = 1 := by kernel_rfl
theorem cellsStr : Tryz.prog.cellsOf 9 = 1 := by kernel_rfl
theorem cellsId : Tryz.prog.cellsOf 23 = 2 := by kernel_rfl
theorem cellsBs : Tryz.prog.cellsOf 24 = 1 := by kernel_rfl
theorem cellsVec : Tryz.prog.cellsOf 26 = 1 := by kernel_rfl
theorem cellsOp : Tryz.prog.cellsOf 28 = 11 := by kernel_rfl

def byteOf (z : Int) : BitVec 8 := BitVec.ofNat 8 z.toNat
theorem byteOf_val {z : Int} (h : (Lit.int .u8 z).wf = true) : u8v (byteOf z) = .int .u8 z := by
  simp [Lit.wf] at h
  have h1 : (0 : Int) ≤ z := h.1
  have h2 : z ≤ 255 := h.2
  unfold u8v byteOf
  rw [BitVec.toNat_ofNat, Nat.mod_eq_of_lt (by omega)]
  congr 1
  omega
theorem row_of_cells {W : World} {k : IntKind} {a : Addr} {len cap : Nat} {zs : List Int} (hl : len ≤ cap) (hz : zs.length = cap)
    (hc : ∀ i, i < cap → W.cell? (a.add i) = some (.int k (zs.getD i 0))) (hp : 0 < len) : ∃ b o, a = ⟨b, o, none⟩ ∧ ∀ (j : Nat) (x : Int), (zs.take len)[j]? = some x → W.cell? ⟨b, o + j, none⟩ = some (.int k x) := by
  obtain ⟨b, off, spot⟩ := a
  have h0 := hc 0 (by omega)
  have hspot : spot = none := by simpa [Addr.add] using World.cell?_spot h0
  subst hspot
  refine ⟨b, off, rfl, fun j x hj => ?_⟩
  rw [List.getElem?_take] at hj
  split at hj
  · have hcell := hc j (by omega)
    rw [Addr.add_lit, List.getD, hj, Option.getD_some] at hcell
    exact hcell
  · cases hj

/-- A slice of bytes, by its value. -/
theorem bytes_in {H : Type} {enc : TypeId × Value → H} {W : World} {fuel : Nat} {cs : List Value} {r : DataW H × List MemPlace} (h : DataW.trod enc Tryz.prog W 0 (fun _ => true) true fuel 24 cs = some r) :
    ∃ a cap, ∃ bs : List (BitVec 8), cs = [.slice a bs.length cap] ∧ bs.length ≤ cap ∧ bs.length ≤ maxLen ∧ Bytes W a bs := by
  rcases open_ints Tryz.underlying24 Tryz.underlying5 cellsU8 h with ⟨hcs, _⟩ | ⟨x, len, cap, zs, hcs, _, hl, hm, hz, _, hcell, hw⟩
  · exact ⟨none, 0, [], hcs, Nat.le_refl _, Nat.zero_le _, bytes_nil _ _⟩
  · have hz' : zs.length = cap := by simpa using hz
    have hlen : ((zs.take len).map byteOf).length = len := by simp; omega
    refine ⟨some x, cap, (zs.take len).map byteOf, by rw [hlen]; exact hcs, by rw [hlen]; exact hl, by rw [hlen]; omega, fun hp => ?_⟩
    rw [hlen] at hp
    obtain ⟨b, o, rfl, hx⟩ := row_of_cells hl hz' (fun i hi => hcell i (by omega)) hp
    refine ⟨b, o, rfl, fun j y hj => ?_⟩
    rw [List.getElem?_map] at hj
    obtain ⟨z, hzj, rfl⟩ := Option.map_eq_some_iff.1 hj
    rw [hx j z hzj, byteOf_val (hw z (List.mem_of_mem_take (List.mem_of_getElem? hzj)))]
/-- A slice of numbers, by its value. -/
theorem ints_in {H : Type} {enc : TypeId × Value → H} {W : World} {fuel : Nat} {cs : List Value} {r : DataW H × List MemPlace} (h : DataW.trod enc Tryz.prog W 0 (fun _ => true) true fuel 26 cs = some r) :
    ∃ a cap, ∃ ns : List Int, cs = [.slice a ns.length cap] ∧ ns.length ≤ cap ∧ ns.length ≤ maxLen ∧ Lies W a (ns.map iv) := by
  rcases open_ints Tryz.underlying26 Tryz.underlying2 cellsI64 h with ⟨hcs, _⟩ | ⟨x, len, cap, zs, hcs, _, hl, hm, hz, _, hcell, hw⟩
  · exact ⟨none, 0, [], hcs, Nat.le_refl _, Nat.zero_le _, lies_nil _ _⟩
  · have hz' : zs.length = cap := by simpa using hz
    have hlen : (zs.take len).length = len := by simp; omega
    refine ⟨some x, cap, zs.take len, by rw [hlen]; exact hcs, by rw [hlen]; exact hl, by rw [hlen]; omega, fun hp => ?_⟩
    rw [List.length_map, hlen] at hp
    obtain ⟨b, o, rfl, hx⟩ := row_of_cells hl hz' (fun i hi => hcell i (by omega)) hp
    refine ⟨b, o, rfl, fun j y hj => ?_⟩
    rw [List.getElem?_map] at hj
    obtain ⟨z, hzj, rfl⟩ := Option.map_eq_some_iff.1 hj
    exact hx j z hzj

theorem list2 {α : Type} {l : List α} (h : l.length = 2) : ∃ a b, l = [a, b] := by
  match l, h with
  | [a, b], _ => exact ⟨a, b, rfl⟩
theorem list8 {α : Type} {l : List α} (h : l.length = 8) : ∃ a b c d e f g i, l = [a, b, c, d, e, f, g, i] := by
  match l, h with
  | [a, b, c, d, e, f, g, i], _ => exact ⟨a, b, c, d, e, f, g, i, rfl⟩
theorem list11 {α : Type} {l : List α} (h : l.length = 11) : ∃ a b c d e f g i j k m, l = [a, b, c, d, e, f, g, i, j, k, m] := by
  match l, h with
  | [a, b, c, d, e, f, g, i, j, k, m], _ => exact ⟨a, b, c, d, e, f, g, i, j, k, m, rfl⟩

/-- The cells of a stamp. -/
theorem id_cells {H : Type} {enc : TypeId × Value → H} {W : World} {fuel : Nat} {cs : List Value} {x : DataW H × List MemPlace} (h : DataW.trod enc Tryz.prog W 0 (fun _ => true) true fuel 23 cs = some x) :
    ∃ t n : Int, cs = [.int .i64 t, .int .i64 n] := by
  obtain ⟨zs, n', _, _, hl, hlen, hf⟩ := DataW.trod_struct Tryz.underlying23 h
  rw [cellsId] at hl
  obtain ⟨v0, v1, rfl⟩ := list2 hl
  obtain ⟨z0, z1, rfl⟩ := list2 (show zs.length = 2 from hlen)
  have g0 := hf 0 _ rfl
  have g1 := hf 1 _ rfl
  simp [cellsInt, cellsI64] at g0 g1
  obtain ⟨tt, e3, _, _⟩ := DataW.trod_int Tryz.underlying2 g0
  obtain ⟨dd, e4, _, _⟩ := DataW.trod_int Tryz.underlying3 g1
  simp at e3 e4
  subst e3 e4
  exact ⟨tt, dd, rfl⟩

/-- An operation that came in as a value. -/
def OpIn (W : World) (v : Value) (t n sq kd ot on pt pn : Int) (nm : List UInt8) (p q : Option Addr) (c d : Nat) (data : List (BitVec 8)) (ns : List Int) : Prop :=
  v = .agg #[.int .i64 t, .int .i64 n, .int .i64 sq, .int .i64 kd, .int .i64 ot, .int .i64 on, .int .i64 pt, .int .i64 pn, .string (bas nm), .slice p data.length c, .slice q ns.length d] ∧
  data.length ≤ c ∧ ns.length ≤ d ∧ ns.length ≤ maxLen ∧ Bytes W p data ∧ Lies W q (ns.map iv)
set_option maxRecDepth 8000 in
set_option maxHeartbeats 1000000 in
theorem op_in {H : Type} {enc : TypeId × Value → H} {W : World} {fuel base : Nat} {v : Value} {x : DataW H × List MemPlace} (hv : Value.okWide Tryz.prog W .any base 28 v) (h : DataW.trod enc Tryz.prog W 0 (fun _ => true) true fuel 28 v.cells.toList = some x) :
    ∃ t n sq kd ot on pt pn nm p q c d data ns, OpIn W v t n sq kd ot on pt pn nm p q c d data ns := by
  obtain ⟨cs, rfl, _⟩ := okWide_struct Tryz.underlying28 hv
  obtain ⟨zs, n', _, _, hl, hlen, hf⟩ := DataW.trod_struct Tryz.underlying28 h
  rw [cellsOp] at hl
  have hcs : (Value.agg cs).cells.toList = cs.toList := rfl
  rw [hcs] at hl hf
  obtain ⟨v0, v1, v2, v3, v4, v5, v6, v7, v8, v9, v10, hcl⟩ := list11 hl
  rw [hcl] at hf
  obtain ⟨z0, z1, z2, z3, z4, z5, z6, z7, rfl⟩ := list8 (show zs.length = 8 from hlen)
  have g0 := hf 0 _ rfl
  have g1 := hf 1 _ rfl
  have g2 := hf 2 _ rfl
  have g3 := hf 3 _ rfl
  have g4 := hf 4 _ rfl
  have g5 := hf 5 _ rfl
  have g6 := hf 6 _ rfl
  have g7 := hf 7 _ rfl
  simp [cellsInt, cellsI64, cellsId, cellsStr, cellsBs, cellsVec] at g0 g1 g2 g3 g4 g5 g6 g7
  obtain ⟨t, n, e0⟩ := id_cells g0
  obtain ⟨sq, e1, _, _⟩ := DataW.trod_int Tryz.underlying2 g1
  obtain ⟨kd, e2, _, _⟩ := DataW.trod_int Tryz.underlying3 g2
  obtain ⟨ot, on, e3⟩ := id_cells g3
  obtain ⟨pt, pn, e4⟩ := id_cells g4
  obtain ⟨s, e5, _, _⟩ := DataW.trod_string Tryz.underlying9 g5
  obtain ⟨p, c, data, e6, k1, _, k2⟩ := bytes_in g6
  obtain ⟨q, d, ns, e7, k3, k4, k5⟩ := ints_in g7
  simp at e0 e1 e2 e3 e4 e5 e6 e7
  refine ⟨t, n, sq, kd, ot, on, pt, pn, s.data.toList, p, q, c, d, data, ns, ?_, k1, k3, k4, k2, k5⟩
  rw [bas_of]
  congr 1
  apply Array.ext'
  rw [hcl, e0.1, e0.2, e1, e2, e3.1, e3.2, e4.1, e4.2, e5, e6, e7]

end Go.Proofs.YtegjageenofbjaaGreat.Cd

/-
  The law OpDecode.
-/
namespace Go.Proofs.YtegjageenofbjaaGreat.Cd
open Go.RowKit Go.Maps

attribute [local go_sem] Oper.semAt_some

theorem xor8 (a b : BitVec 8) : bits .xor .u8 (a.toNat : Int) (b.toNat : Int) = ((a ^^^ b).toNat : Int) := by
  rw [u8_xor_nat _ _ a.isLt b.isLt, BitVec.toNat_xor]
/-- One cell of a row that is owned is turned. -/
theorem own_turn {w : World} {base q n c : Nat} {bs : List (BitVec 8)} (h : w.ownsRow base 5 1 (.slice (some ⟨q, 0, none⟩) n c) n (bs.map u8v)) (k : Nat) (z : BitVec 8) :
    (w.setCell ⟨q, k, none⟩ (.int .u8 (z.toNat : Int))).ownsRow base 5 1 (.slice (some ⟨q, 0, none⟩) n c) n ((bs.set k z).map u8v) := by
  rcases h.2 with ⟨e1, _⟩ | ⟨g, c', cur, e1, e2, e3, e4, e5, e6, e7⟩
  · cases e1
  · cases e1
    refine ⟨by have := h.1; simp at this ⊢; omega, .inr ⟨q, c, cur.setIfInBounds k (.int .u8 (z.toNat : Int)), rfl, e2, heap_set_same e3 _, e4, e5, by simpa using e6, ?_⟩⟩
    rw [Array.toList_setIfInBounds, List.take_set, e7, List.map_set]
    rfl
theorem own_at {w : World} {base q n c : Nat} {bs : List (BitVec 8)} (h : w.ownsRow base 5 1 (.slice (some ⟨q, 0, none⟩) n c) n (bs.map u8v)) : base ≤ q ∧ ∀ k y, bs[k]? = some y → w.cell? ⟨q, k, none⟩ = some (.int .u8 (y.toNat : Int)) ∧ w.frozen? ⟨q, k, none⟩ = false := by
  have hl : n = bs.length := by have := h.1; simp at this; omega
  rcases h.2 with ⟨e1, _⟩ | ⟨g, c', cur, e1, e2, e3, e4, e5, e6, e7⟩
  · cases e1
  · cases e1
    refine ⟨e2, fun k y hy => ⟨?_, frozenOf e3 k⟩⟩
    rw [cellOf e3]
    have hjl := (List.getElem?_eq_some_iff.1 hy).1
    have := congrArg (fun l => l[k]?) e7
    simp only [List.getElem?_take, List.getElem?_map, hy, Option.map_some] at this
    rw [if_pos (by omega), Array.getElem?_toList] at this
    exact this
theorem own_ptr {w : World} {base n : Nat} {v : Value} {bs : List (BitVec 8)} (h : w.ownsRow base 5 1 v n (bs.map u8v)) (hn : 0 < n) : ∃ q c, v = .slice (some ⟨q, 0, none⟩) n c := by
  rcases h.2 with ⟨e1, e2⟩ | ⟨g, c', cur, e1, e2, e3, e4, e5, e6, e7⟩
  · omega
  · exact ⟨g, c', e1⟩

theorem dec_small (bs : List (BitVec 8)) : (decO bs).data.length ≤ 65536 ∧ (decO bs).nm.length ≤ 65536 ∧ (decO bs).ns.length ≤ 64 := by
  unfold decO
  split
  · unfold readO
    simp only
    rw [u8s_length, zs_length]
    exact ⟨rbytes_le _, rbytes_le _, (rvec_good _).2.1⟩
  · exact ⟨by decide, by decide, by decide⟩
theorem good_write {bs : List (BitVec 8)} (h : goodO bs = true) : (decO bs).may = true ∧ (decO bs).bytes = bs := by
  have hd : decO bs = (readO bs).1 := by unfold decO; rw [h, if_pos rfl]
  unfold goodO at h
  rw [Bool.and_eq_true, decide_eq_true_eq] at h
  rw [hd]
  exact ⟨h.2, write_back (Prod.ext rfl h.1)⟩
theorem eq_self (t7 n7 sq7 kd7 ot7 on7 pt7 pn7 : Int) (nm7 : List UInt8) (data7 : List (BitVec 8)) (ns7 : List Int) : eqF t7 n7 sq7 kd7 ot7 on7 pt7 pn7 nm7 data7 ns7 t7 n7 sq7 kd7 ot7 on7 pt7 pn7 nm7 data7 ns7 = true := by
  have : Vc.eqB ns7 ns7 = true := Vc.eqB_true (fun _ _ => rfl)
  simp [eqF, this]

set_option maxRecDepth 8000 in
set_option maxHeartbeats 8000000 in
theorem opdecode_any (t n sq kd ot on pt pn : Int) (nm : List UInt8) (p q : Option Addr) (l c m d : Nat) (data : List (BitVec 8)) (ns : List Int) (at_ : Int) (x : BitVec 8) (pr : Option Addr) (raw : List (BitVec 8)) (cr : Nat) (w : World)
    (hl : l = data.length) (hlc : data.length ≤ c) (hm : m = ns.length) (hmd : ns.length ≤ d) (hml : ns.length ≤ maxLen) (hp : Bytes w p data) (hq : Lies w q (ns.map iv))
    (hr : Bytes w pr raw) (hrc : raw.length ≤ cr) (hat1 : -9223372036854775808 ≤ at_) (hat2 : at_ < 9223372036854775808) :
    Calls Tryz.prog 4 #[.agg #[.int .i64 t, .int .i64 n, .int .i64 sq, .int .i64 kd, .int .i64 ot, .int .i64 on, .int .i64 pt, .int .i64 pn, .string (bas nm), .slice p l c, .slice q m d], .int .i64 at_, .int .u8 (x.toNat : Int), .slice pr raw.length cr] w fun e w' => e = .returned (.bool true) ∧ Below w.heap.size w w' := by
  have HCA : Hid (∀ W, Below w.heap.size w W → _) := fun W hW => cut12_any t n sq kd ot on pt pn nm p q l c m d data ns W hl hlc hm hmd hml (below_bytes hW hp)
  obtain ⟨dx, hdx⟩ : ∃ x, data.take 3000 = x := ⟨_, rfl⟩
  obtain ⟨nsx, hnsx⟩ : ∃ x, Vc.cut ns = x := ⟨_, rfl⟩
  obtain ⟨nx, hnx⟩ : ∃ x, nm.take 100 = x := ⟨_, rfl⟩
  rw [hdx, hnsx, hnx] at HCA
  have hpx : Bytes w p dx := by rw [← hdx]; exact bytes_take hp 3000
  have hqx : Lies w q (nsx.map iv) := by
    rw [← hnsx]
    have := lies_take hq 80
    rw [← List.map_take] at this
    exact this
  have z1 : dx.length ≤ 3000 := by rw [← hdx, List.length_take]; omega
  have z2 : nsx.length ≤ 80 := by rw [← hnsx]; exact Vc.cut_le ns
  have z3 : nx.length ≤ 100 := by rw [← hnx, List.length_take]; omega
  clear hdx hnsx hnx
  obtain ⟨bys, hbys⟩ : ∃ bys, (if mayO t n sq kd ot on pt pn nx dx.length nsx = true then bytesO t n sq kd ot on pt pn nx dx nsx else []) = bys := ⟨_, rfl⟩
  have HEr : Hid (∀ W, Below w.heap.size w W → Calls Tryz.prog 8 #[.agg #[.int .i64 t, .int .i64 n, .int .i64 sq, .int .i64 kd, .int .i64 ot, .int .i64 on, .int .i64 pt, .int .i64 pn, .string (bas nx), .slice p dx.length c, .slice q nsx.length d]] W fun e w' => ∃ v, e = .returned v ∧ Cloned W bys v w') := fun W hW => by
    rw [← hbys]
    exact rencode_any t n sq kd ot on pt pn nx p q dx.length c nsx.length d dx nsx W (by omega) rfl (by omega) rfl (by omega) (below_bytes hW hpx) (below_lies hW hqx)
  have hlen : bys.length ≤ 100000 := by
    rw [← hbys]
    split
    · next hmay =>
      obtain ⟨⟨e1, h1⟩, ⟨e2, h2⟩, ⟨e3, h3⟩, ⟨e4, h4⟩, ⟨e5, h5⟩, ⟨e6, h6⟩, ⟨e7, h7⟩, ⟨e8, h8⟩, _, _⟩ := may_parts hmay
      have l1 := num_len h1
      have l2 := id_len h2
      have l3 := num_len h3
      have l4 := id_len h4
      have l5 := id_len h5
      have l6 := by_len h6
      have l7 := by_len h7
      rw [bvs_length] at l6
      have l8 : e8.length ≤ 1000 := by
        unfold eVec at h8
        split at h8
        · cases h8
          have g1 := numB_len9 (normOf nsx).length (by have := normOf_le nsx; omega)
          have g2 := numsB_len (normOf nsx) (normOf_ok nsx)
          have g3 := normOf_le nsx
          rw [List.length_append]
          omega
        · cases h8
      unfold bytesO partsO
      rw [h1, h2, h3, h4, h5, h6, h7, h8]
      simp
      omega
    · simp
  have HSH : Hid (∀ W, Below w.heap.size w W → (Calls Tryz.prog 16 #[.slice pr raw.length cr, .int .i64 30] W fun e w' => e = .returned (.slice pr (raw.take 30).length cr) ∧ w' = W) ∧ Bytes W pr (raw.take 30)) := fun W hW => by
    obtain ⟨k1, k2, _⟩ := short_any pr raw cr 30 W hrc (by decide) (below_bytes hW hr)
    exact ⟨k1, k2⟩
  have hR30 : (raw.take 30).length ≤ 30 := by rw [List.length_take]; omega
  obtain ⟨R, hR⟩ : ∃ R, raw.take 30 = R := ⟨_, rfl⟩
  rw [hR] at HSH hR30
  obtain ⟨rl, hrl⟩ : ∃ rl, raw.length = rl := ⟨_, rfl⟩
  rw [hrl] at HSH
  rw [hrl]
  have HO1 : Hid (OpX w (w.alloc (.cells #[.int .i64 t, .int .i64 n, .int .i64 sq, .int .i64 kd, .int .i64 ot, .int .i64 on, .int .i64 pt, .int .i64 pn, .string (bas nm), .slice p l c, .slice q m d] 28)) w.heap.size t n sq kd ot on pt pn nm p q l c m d) := ⟨OpB.made w t n sq kd ot on pt pn nm p q l c m d, (below_new w _).out⟩
  clear hbys hpx hqx z1 z2 z3 hl hlc hm hmd hml hp hq hr hrc hR hrl
  go_enter Tryz.func4, Tryz.ntmps4
  go_wp2_with (go_at_call 5; refine Calls_new (begun_any _) ?_; intro w1 hb1; have HX1 := OpX.step HO1 hb1; have ⟨x0, x1, x2, x3, x4, x5, x6, x7, x8, x9, x10⟩ := HX1.out.1.cells; clear hb1)
  refine Calls_new (HCA.out _ HX1.out.2) ?_
  intro w2 hb2
  have HX2 : Hid (Below w.heap.size w w2) := HX1.out.2.trans (hb2.out.mono HX1.out.2.size)
  clear hb2 HX1 HO1 HCA
  go_wp2_with fail
  refine (HEr.out _ HX2.out).mono ?_
  rintro e w3 ⟨v3, rfl, k3⟩
  have hown3 : w3.ownsRow w.heap.size 5 1 v3 bys.length (bys.map u8v) := own_base k3.1 HX2.out.size
  have HX3 : Hid (Below w.heap.size w w3) := HX2.out.trans (k3.2.mono HX2.out.size)
  clear k3 HX2 HEr
  obtain ⟨L, hL⟩ : ∃ L, bys.length = L := ⟨_, rfl⟩
  rw [hL] at hown3 hlen
  have HLN : Hid (bys.length = L) := hL
  have h3w : L = 0 ∨ (∃ m : Nat, at_ = -(m : Int) - 1 ∧ 0 < L) ∨ (∃ m : Nat, at_ = (m : Int) ∧ 0 < L) := by
    by_cases h0 : L = 0
    · exact .inl h0
    · by_cases hneg : at_ < 0
      · exact .inr (.inl ⟨(-(at_ + 1)).toNat, by omega, by omega⟩)
      · exact .inr (.inr ⟨at_.toNat, by omega, by omega⟩)
  have HOW : Hid (w3.ownsRow w.heap.size 5 1 v3 L (bys.map u8v)) := hown3
  clear hL
  rcases h3w with hL0 | ⟨m0, hm, hL0⟩ | ⟨m0, hm, hL0⟩
  all_goals
    first
      | (have hL0I : ¬ (0 : Int) < (L : Int) := by rw [hL0]; decide
         obtain ⟨hxx, pb, cb, hv3, hxy⟩ := owns_bytes hown3
         rw [HLN.out] at hv3
         clear hxx hxy
         subst hv3
         obtain ⟨w4, rfl⟩ : ∃ w4, w4 = w3 := ⟨_, rfl⟩
         have H4 : Hid (∃ bs' : List (BitVec 8), w4.ownsRow w.heap.size 5 1 (.slice pb L cb) L (bs'.map u8v) ∧ bs'.length = L ∧ Below w.heap.size w w4) := ⟨bys, HOW.out, HLN.out, HX3.out⟩
         clear hL0 hown3
         go_wp2_with fail)
      | (have hm' : at_ = -(m0 : Int) - 1 := hm
         clear hm
         subst hm'
         obtain ⟨qb, cb, hv3⟩ := own_ptr hown3 hL0
         subst hv3
         obtain ⟨hbq, hat⟩ := own_at hown3
         have e1 : -(-(m0 : Int) - 1 + 1) = (m0 : Int) := by omega
         have e2 : -(m0 : Int) - 1 < 0 := by omega
         have hmk : m0 % L < L := Nat.mod_lt _ hL0
         obtain ⟨k, hk⟩ : ∃ k, m0 % L = k := ⟨_, rfl⟩
         have hkI : (m0 : Int) % (L : Int) = (k : Nat) := by rw [← hk]; rfl
         rw [hk] at hmk
         have hkL : (k : Int) < (L : Int) := by omega
         have hL0I : (0 : Int) < (L : Int) := by omega
         obtain ⟨y, hy⟩ : ∃ y, bys[k]? = some y := ⟨_, List.getElem?_eq_getElem (by rw [HLN.out]; exact hmk)⟩
         have c0 := (hat k y hy).1
         have f0 := (hat k y hy).2
         obtain ⟨z, hz⟩ : ∃ z : BitVec 8, bits .xor .u8 (y.toNat : Int) (x.toNat : Int) = (z.toNat : Int) := ⟨_, xor8 y x⟩
         obtain ⟨w4, hw4⟩ : ∃ w4, w4 = w3.setCell ⟨qb, k, none⟩ (.int .u8 (z.toNat : Int)) := ⟨_, rfl⟩
         obtain ⟨pb, hpb⟩ : ∃ pb, pb = some (⟨qb, 0, none⟩ : Addr) := ⟨_, rfl⟩
         have H4 : Hid (∃ bs' : List (BitVec 8), w4.ownsRow w.heap.size 5 1 (.slice pb L cb) L (bs'.map u8v) ∧ bs'.length = L ∧ Below w.heap.size w w4) := ⟨bys.set k z, by rw [hw4, hpb]; exact own_turn hown3 k z, by rw [List.length_set]; exact HLN.out, by rw [hw4]; exact HX3.out.setCell (p := ⟨qb, k, none⟩) hbq _⟩
         have HPB : Hid (pb = some (⟨qb, 0, none⟩ : Addr)) := hpb
         clear hy hk hat hbq hown3 hpb
         go_wp2_with fail
         rw [← hw4, ← HPB.out]
         clear hw4 c0 f0 hz)
      | (have hm' : at_ = (m0 : Int) := hm
         clear hm
         obtain ⟨qb, cb, hv3⟩ := own_ptr hown3 hL0
         subst hv3
         obtain ⟨hbq, hat⟩ := own_at hown3
         have e2 : ¬ at_ < 0 := by omega
         have e3 : 0 ≤ at_ := by omega
         have hmk : m0 % L < L := Nat.mod_lt _ hL0
         obtain ⟨k, hk⟩ : ∃ k, m0 % L = k := ⟨_, rfl⟩
         have hkI : at_ % (L : Int) = (k : Nat) := by rw [hm', ← hk]; rfl
         clear hm' hat1 hat2
         rw [hk] at hmk
         have hkL : (k : Int) < (L : Int) := by omega
         have hL0I : (0 : Int) < (L : Int) := by omega
         obtain ⟨y, hy⟩ : ∃ y, bys[k]? = some y := ⟨_, List.getElem?_eq_getElem (by rw [HLN.out]; exact hmk)⟩
         have c0 := (hat k y hy).1
         have f0 := (hat k y hy).2
         obtain ⟨z, hz⟩ : ∃ z : BitVec 8, bits .xor .u8 (y.toNat : Int) (x.toNat : Int) = (z.toNat : Int) := ⟨_, xor8 y x⟩
         obtain ⟨w4, hw4⟩ : ∃ w4, w4 = w3.setCell ⟨qb, k, none⟩ (.int .u8 (z.toNat : Int)) := ⟨_, rfl⟩
         obtain ⟨pb, hpb⟩ : ∃ pb, pb = some (⟨qb, 0, none⟩ : Addr) := ⟨_, rfl⟩
         have H4 : Hid (∃ bs' : List (BitVec 8), w4.ownsRow w.heap.size 5 1 (.slice pb L cb) L (bs'.map u8v) ∧ bs'.length = L ∧ Below w.heap.size w w4) := ⟨bys.set k z, by rw [hw4, hpb]; exact own_turn hown3 k z, by rw [List.length_set]; exact HLN.out, by rw [hw4]; exact HX3.out.setCell (p := ⟨qb, k, none⟩) hbq _⟩
         have HPB : Hid (pb = some (⟨qb, 0, none⟩ : Addr)) := hpb
         clear hy hk hat hbq hown3 hpb m0
         go_wp2_with fail
         rw [← hw4, ← HPB.out]
         clear hw4 c0 f0 hz)
  all_goals
    obtain ⟨bs', hown, hbl4, hb4⟩ := H4.out
    obtain ⟨cS, hbR⟩ := HSH.out _ hb4
    have hb4s := hb4.size
    have H4b : Hid (Below w.heap.size w w4) := hb4
    have HOW4 : Hid (w4.ownsRow w.heap.size 5 1 (.slice pb L cb) L (bs'.map u8v)) := hown
    clear hb4 H4 HSH HOW hown
    refine cS.mono ?_
    rintro e w5 ⟨rfl, rfl⟩
    clear cS
    go_wp2_with (at_builtin; refine wpList_append_bytes rfl _ _ rfl w.heap.size _ L _ rfl HOW4.out _ R cr rfl hbR (by omega) hb4s ?_; intro v6 w6 hown6 hg6 hpl6; have HO6 : Hid (w6.ownsRow w.heap.size 5 1 v6 (L + R.length) (bs'.map u8v ++ R.map u8v) ∧ w5.grownBy w6 (Value.slice pb L cb).ownBlock) := ⟨hown6, hg6⟩; clear hown6 hg6 hpl6)
    obtain ⟨ho6, hg6⟩ := HO6.out
    rw [← List.map_append] at ho6
    have hX6 : Below w.heap.size w w6 := H4b.out.grown hg6 hb4s (fun j hj => (own_lt HOW4.out hj).1)
    obtain ⟨bb, hbb⟩ : ∃ bb, bs' ++ R = bb := ⟨_, rfl⟩
    have hbl : bb.length ≤ 1000000 := by rw [← hbb, List.length_append]; omega
    rw [hbb] at ho6
    obtain ⟨hn6, p6, c6, hv6, hc6, hby6, hpo6⟩ := owns_bytes ho6
    rw [hn6] at ho6
    subst hv6
    have hpl6 : Plain w6.heap.size p6 := owns_plain ho6
    have htg6 : Tg w6 p6 bb := fun _ g o e => by obtain ⟨_, _, cur, hg⟩ := own_lt ho6 (hpo6 g o e); exact ⟨cur, _, hg⟩
    have H6 : Hid (Below w.heap.size w w6 ∧ Bytes w6 p6 bb ∧ Tg w6 p6 bb ∧ Plain w6.heap.size p6 ∧ bb.length ≤ c6 ∧ bb.length ≤ 1000000) := ⟨hX6, hby6, htg6, hpl6, hc6, hbl⟩
    have cD := decode_any p6 bb c6 w6 (by omega) hby6
    have hsm := dec_small bb
    have hgw := fun h => good_write (bs := bb) h
    obtain ⟨o7, ho7⟩ : ∃ o, decO bb = o := ⟨_, rfl⟩
    obtain ⟨gd, hgd⟩ : ∃ gd, goodO bb = gd := ⟨_, rfl⟩
    have HRD : Hid (∀ W, Below w6.heap.size w6 W → Calls Tryz.prog 17 #[.slice p6 bb.length c6] W fun e w' => ∃ v, e = .returned (.tuple #[v, .bool gd]) ∧ OpAw w' o7 v ∧ Below W.heap.size W w') := fun W hW => by
      rw [← hgd, ← ho7]
      exact rdecode_any p6 bb c6 W (by omega) hc6 (below_bytes hW hby6) ((Below.only hW (fun _ => False)).tg htg6 (fun _ _ _ _ f => f)) (by
        rcases hpl6 with h | ⟨g, o', e, h⟩
        · exact .inl h
        · exact .inr ⟨g, o', e, Nat.lt_of_lt_of_le h hW.size⟩)
    rw [hgd, ho7] at cD
    rw [hgd, ho7] at hgw
    rw [ho7] at hsm
    obtain ⟨t7, n7, sq7, kd7, ot7, on7, pt7, pn7, nm7, data7, ns7⟩ := o7
    dsimp only at hsm
    have HSM : Hid (data7.length ≤ 65536 ∧ nm7.length ≤ 65536 ∧ ns7.length ≤ 64) := hsm
    have HGW : Hid (gd = true → mayO t7 n7 sq7 kd7 ot7 on7 pt7 pn7 nm7 data7.length ns7 = true ∧ bytesO t7 n7 sq7 kd7 ot7 on7 pt7 pn7 nm7 data7 ns7 = bb) := hgw
    clear ho6 hg6 hX6 hbb hn6 hc6 hby6 hpo6 hpl6 htg6 hbl ho7 hgd hsm hgw HO6 HOW4 H4b hb4s hbR hbl4 HX3 HLN
    cases gd with
    | false =>
      rw [show (if false = true then (0 : Int) else 74) = 74 from rfl] at cD
      refine (show Calls Tryz.prog 14 _ _ _ from cD).mono ?_
      rintro e w7 ⟨v7, rfl, ⟨p7, c7, q7, d7, rfl, m1, m2, m3⟩, hB7⟩
      dsimp only [Opn.cells] at m1 m2 m3 ⊢
      have HX7 : Hid (Below w.heap.size w w7) := H6.out.1.trans (hB7.mono H6.out.1.size)
      have HM7 : Hid (Bytes w7 p7 data7 ∧ Lies w7 q7 (ns7.map iv) ∧ ns7.length ≤ d7) := ⟨m1, m2, m3⟩
      have HP7 : Hid (Below w6.heap.size w6 w7) := hB7
      have N7 : Hid (Below w7.heap.size w7 (w7.alloc (.cells #[.int .i64 t7, .int .i64 n7, .int .i64 sq7, .int .i64 kd7, .int .i64 ot7, .int .i64 on7, .int .i64 pt7, .int .i64 pn7, .string (bas nm7), .slice p7 data7.length c7, .slice q7 ns7.length d7] 28))) := (below_new w7 _).out
      have HO7 : Hid (OpB (w7.alloc (.cells #[.int .i64 t7, .int .i64 n7, .int .i64 sq7, .int .i64 kd7, .int .i64 ot7, .int .i64 on7, .int .i64 pt7, .int .i64 pn7, .string (bas nm7), .slice p7 data7.length c7, .slice q7 ns7.length d7] 28)) w7.heap.size t7 n7 sq7 kd7 ot7 on7 pt7 pn7 nm7 p7 q7 data7.length c7 ns7.length d7) := OpB.made w7 t7 n7 sq7 kd7 ot7 on7 pt7 pn7 nm7 p7 q7 data7.length c7 ns7.length d7
      have cR := HRD.out (w7.alloc (.cells #[.int .i64 t7, .int .i64 n7, .int .i64 sq7, .int .i64 kd7, .int .i64 ot7, .int .i64 on7, .int .i64 pt7, .int .i64 pn7, .string (bas nm7), .slice p7 data7.length c7, .slice q7 ns7.length d7] 28)) (HP7.out.trans (N7.out.mono HP7.out.size))
      clear m1 m2 m3 hB7 cD HRD
      go_wp2_with fail
      refine (show Calls Tryz.prog 17 _ _ _ from cR).mono ?_
      rintro e w8 ⟨v8, rfl, ⟨p8, c8, q8, d8, rfl, j1, j2⟩, hB8⟩
      dsimp only [Opn.cells] at j1 j2 ⊢
      have HB8 : Hid (Below w7.heap.size w7 w8) := N7.out.trans (hB8.mono N7.out.size)
      have HX8 : Hid (Below w.heap.size w w8) := HX7.out.trans (HB8.out.mono HX7.out.size)
      have HO8 : Hid (OpB w8 w7.heap.size t7 n7 sq7 kd7 ot7 on7 pt7 pn7 nm7 p7 q7 data7.length c7 ns7.length d7) := HO7.out.below hB8
      have N8 : Hid (Below w8.heap.size w8 (w8.alloc (.cells #[.int .i64 t7, .int .i64 n7, .int .i64 sq7, .int .i64 kd7, .int .i64 ot7, .int .i64 on7, .int .i64 pt7, .int .i64 pn7, .string (bas nm7), .slice p8 data7.length c8, .slice q8 ns7.length d8] 28))) := (below_new w8 _).out
      have HO9 : Hid (OpB (w8.alloc (.cells #[.int .i64 t7, .int .i64 n7, .int .i64 sq7, .int .i64 kd7, .int .i64 ot7, .int .i64 on7, .int .i64 pt7, .int .i64 pn7, .string (bas nm7), .slice p8 data7.length c8, .slice q8 ns7.length d8] 28)) w7.heap.size t7 n7 sq7 kd7 ot7 on7 pt7 pn7 nm7 p7 q7 data7.length c7 ns7.length d7) := HO8.out.below N8.out
      have HY9 : Hid (OpB (w8.alloc (.cells #[.int .i64 t7, .int .i64 n7, .int .i64 sq7, .int .i64 kd7, .int .i64 ot7, .int .i64 on7, .int .i64 pt7, .int .i64 pn7, .string (bas nm7), .slice p8 data7.length c8, .slice q8 ns7.length d8] 28)) w8.heap.size t7 n7 sq7 kd7 ot7 on7 pt7 pn7 nm7 p8 q8 data7.length c8 ns7.length d8) := OpB.made w8 t7 n7 sq7 kd7 ot7 on7 pt7 pn7 nm7 p8 q8 data7.length c8 ns7.length d8
      have hq9 := req12_any t7 n7 sq7 kd7 ot7 on7 pt7 pn7 nm7 p7 q7 data7.length c7 ns7.length d7 data7 ns7 t7 n7 sq7 kd7 ot7 on7 pt7 pn7 nm7 p8 q8 data7.length c8 ns7.length d8 data7 ns7 (w8.alloc (.cells #[.int .i64 t7, .int .i64 n7, .int .i64 sq7, .int .i64 kd7, .int .i64 ot7, .int .i64 on7, .int .i64 pt7, .int .i64 pn7, .string (bas nm7), .slice p8 data7.length c8, .slice q8 ns7.length d8] 28)) rfl rfl rfl rfl (below_bytes N8.out (below_bytes HB8.out HM7.out.1)) (below_lies N8.out (below_lies HB8.out HM7.out.2.1)) (below_bytes N8.out j1) (below_lies N8.out j2)
      rw [eq_self] at hq9
      have HQ9 : Hid (Calls Tryz.prog 13 #[.agg #[.int .i64 t7, .int .i64 n7, .int .i64 sq7, .int .i64 kd7, .int .i64 ot7, .int .i64 on7, .int .i64 pt7, .int .i64 pn7, .string (bas nm7), .slice p7 data7.length c7, .slice q7 ns7.length d7], .agg #[.int .i64 t7, .int .i64 n7, .int .i64 sq7, .int .i64 kd7, .int .i64 ot7, .int .i64 on7, .int .i64 pt7, .int .i64 pn7, .string (bas nm7), .slice p8 data7.length c8, .slice q8 ns7.length d8]] (w8.alloc (.cells #[.int .i64 t7, .int .i64 n7, .int .i64 sq7, .int .i64 kd7, .int .i64 ot7, .int .i64 on7, .int .i64 pt7, .int .i64 pn7, .string (bas nm7), .slice p8 data7.length c8, .slice q8 ns7.length d8] 28)) fun e w' => e = .returned (.bool true) ∧ Below (w8.alloc (.cells #[.int .i64 t7, .int .i64 n7, .int .i64 sq7, .int .i64 kd7, .int .i64 ot7, .int .i64 on7, .int .i64 pt7, .int .i64 pn7, .string (bas nm7), .slice p8 data7.length c8, .slice q8 ns7.length d8] 28)).heap.size (w8.alloc (.cells #[.int .i64 t7, .int .i64 n7, .int .i64 sq7, .int .i64 kd7, .int .i64 ot7, .int .i64 on7, .int .i64 pt7, .int .i64 pn7, .string (bas nm7), .slice p8 data7.length c8, .slice q8 ns7.length d8] 28)) w') := hq9
      have ⟨x0, x1, x2, x3, x4, x5, x6, x7, x8, x9, x10⟩ := HO9.out.cells
      clear j1 j2 hB8 cR hq9
      go_wp2_with (go_at_call 13; refine Calls_new HQ9.out ?_; clear HQ9; intro w9 hb9; have HX9 : Hid (Below w.heap.size w w9) := (HX8.out.trans (N8.out.mono HX8.out.size)).trans (hb9.out.mono (Nat.le_trans HX8.out.size N8.out.size)); have HZ9 : Hid (OpB w9 w7.heap.size t7 n7 sq7 kd7 ot7 on7 pt7 pn7 nm7 p7 q7 data7.length c7 ns7.length d7) := HO9.out.below hb9.out; have HM9 : Hid (Bytes w9 p7 data7 ∧ Lies w9 q7 (ns7.map iv) ∧ ns7.length ≤ d7) := ⟨below_bytes hb9.out (below_bytes N8.out (below_bytes HB8.out HM7.out.1)), below_lies hb9.out (below_lies N8.out (below_lies HB8.out HM7.out.2.1)), HM7.out.2.2⟩; have HP9 : Hid (Bytes w9 p6 bb) := below_bytes hb9.out (below_bytes N8.out (below_bytes HB8.out (below_bytes HP7.out H6.out.2.1))); have ⟨z0, z1, z2, z3, z4, z5, z6, z7, z8, z9, z10⟩ := HZ9.out.cells; clear hb9)
      go_ret
      exact ⟨rfl, HX9.out⟩
    | true =>
      rw [show (if true = true then (0 : Int) else 74) = 0 from rfl] at cD
      have HGT := HGW.out rfl
      have HGB : Hid (mayO t7 n7 sq7 kd7 ot7 on7 pt7 pn7 nm7 data7.length ns7 = true ∧ bytesO t7 n7 sq7 kd7 ot7 on7 pt7 pn7 nm7 data7 ns7 = bb) := HGT
      clear HGT HGW
      refine (show Calls Tryz.prog 14 _ _ _ from cD).mono ?_
      rintro e w7 ⟨v7, rfl, ⟨p7, c7, q7, d7, rfl, m1, m2, m3⟩, hB7⟩
      dsimp only [Opn.cells] at m1 m2 m3 ⊢
      have HX7 : Hid (Below w.heap.size w w7) := H6.out.1.trans (hB7.mono H6.out.1.size)
      have HM7 : Hid (Bytes w7 p7 data7 ∧ Lies w7 q7 (ns7.map iv) ∧ ns7.length ≤ d7) := ⟨m1, m2, m3⟩
      have HP7 : Hid (Below w6.heap.size w6 w7) := hB7
      have N7 : Hid (Below w7.heap.size w7 (w7.alloc (.cells #[.int .i64 t7, .int .i64 n7, .int .i64 sq7, .int .i64 kd7, .int .i64 ot7, .int .i64 on7, .int .i64 pt7, .int .i64 pn7, .string (bas nm7), .slice p7 data7.length c7, .slice q7 ns7.length d7] 28))) := (below_new w7 _).out
      have HO7 : Hid (OpB (w7.alloc (.cells #[.int .i64 t7, .int .i64 n7, .int .i64 sq7, .int .i64 kd7, .int .i64 ot7, .int .i64 on7, .int .i64 pt7, .int .i64 pn7, .string (bas nm7), .slice p7 data7.length c7, .slice q7 ns7.length d7] 28)) w7.heap.size t7 n7 sq7 kd7 ot7 on7 pt7 pn7 nm7 p7 q7 data7.length c7 ns7.length d7) := OpB.made w7 t7 n7 sq7 kd7 ot7 on7 pt7 pn7 nm7 p7 q7 data7.length c7 ns7.length d7
      have cR := HRD.out (w7.alloc (.cells #[.int .i64 t7, .int .i64 n7, .int .i64 sq7, .int .i64 kd7, .int .i64 ot7, .int .i64 on7, .int .i64 pt7, .int .i64 pn7, .string (bas nm7), .slice p7 data7.length c7, .slice q7 ns7.length d7] 28)) (HP7.out.trans (N7.out.mono HP7.out.size))
      clear m1 m2 m3 hB7 cD HRD
      go_wp2_with fail
      refine (show Calls Tryz.prog 17 _ _ _ from cR).mono ?_
      rintro e w8 ⟨v8, rfl, ⟨p8, c8, q8, d8, rfl, j1, j2⟩, hB8⟩
      dsimp only [Opn.cells] at j1 j2 ⊢
      have HB8 : Hid (Below w7.heap.size w7 w8) := N7.out.trans (hB8.mono N7.out.size)
      have HX8 : Hid (Below w.heap.size w w8) := HX7.out.trans (HB8.out.mono HX7.out.size)
      have HO8 : Hid (OpB w8 w7.heap.size t7 n7 sq7 kd7 ot7 on7 pt7 pn7 nm7 p7 q7 data7.length c7 ns7.length d7) := HO7.out.below hB8
      have N8 : Hid (Below w8.heap.size w8 (w8.alloc (.cells #[.int .i64 t7, .int .i64 n7, .int .i64 sq7, .int .i64 kd7, .int .i64 ot7, .int .i64 on7, .int .i64 pt7, .int .i64 pn7, .string (bas nm7), .slice p8 data7.length c8, .slice q8 ns7.length d8] 28))) := (below_new w8 _).out
      have HO9 : Hid (OpB (w8.alloc (.cells #[.int .i64 t7, .int .i64 n7, .int .i64 sq7, .int .i64 kd7, .int .i64 ot7, .int .i64 on7, .int .i64 pt7, .int .i64 pn7, .string (bas nm7), .slice p8 data7.length c8, .slice q8 ns7.length d8] 28)) w7.heap.size t7 n7 sq7 kd7 ot7 on7 pt7 pn7 nm7 p7 q7 data7.length c7 ns7.length d7) := HO8.out.below N8.out
      have HY9 : Hid (OpB (w8.alloc (.cells #[.int .i64 t7, .int .i64 n7, .int .i64 sq7, .int .i64 kd7, .int .i64 ot7, .int .i64 on7, .int .i64 pt7, .int .i64 pn7, .string (bas nm7), .slice p8 data7.length c8, .slice q8 ns7.length d8] 28)) w8.heap.size t7 n7 sq7 kd7 ot7 on7 pt7 pn7 nm7 p8 q8 data7.length c8 ns7.length d8) := OpB.made w8 t7 n7 sq7 kd7 ot7 on7 pt7 pn7 nm7 p8 q8 data7.length c8 ns7.length d8
      have hq9 := req12_any t7 n7 sq7 kd7 ot7 on7 pt7 pn7 nm7 p7 q7 data7.length c7 ns7.length d7 data7 ns7 t7 n7 sq7 kd7 ot7 on7 pt7 pn7 nm7 p8 q8 data7.length c8 ns7.length d8 data7 ns7 (w8.alloc (.cells #[.int .i64 t7, .int .i64 n7, .int .i64 sq7, .int .i64 kd7, .int .i64 ot7, .int .i64 on7, .int .i64 pt7, .int .i64 pn7, .string (bas nm7), .slice p8 data7.length c8, .slice q8 ns7.length d8] 28)) rfl rfl rfl rfl (below_bytes N8.out (below_bytes HB8.out HM7.out.1)) (below_lies N8.out (below_lies HB8.out HM7.out.2.1)) (below_bytes N8.out j1) (below_lies N8.out j2)
      rw [eq_self] at hq9
      have HQ9 : Hid (Calls Tryz.prog 13 #[.agg #[.int .i64 t7, .int .i64 n7, .int .i64 sq7, .int .i64 kd7, .int .i64 ot7, .int .i64 on7, .int .i64 pt7, .int .i64 pn7, .string (bas nm7), .slice p7 data7.length c7, .slice q7 ns7.length d7], .agg #[.int .i64 t7, .int .i64 n7, .int .i64 sq7, .int .i64 kd7, .int .i64 ot7, .int .i64 on7, .int .i64 pt7, .int .i64 pn7, .string (bas nm7), .slice p8 data7.length c8, .slice q8 ns7.length d8]] (w8.alloc (.cells #[.int .i64 t7, .int .i64 n7, .int .i64 sq7, .int .i64 kd7, .int .i64 ot7, .int .i64 on7, .int .i64 pt7, .int .i64 pn7, .string (bas nm7), .slice p8 data7.length c8, .slice q8 ns7.length d8] 28)) fun e w' => e = .returned (.bool true) ∧ Below (w8.alloc (.cells #[.int .i64 t7, .int .i64 n7, .int .i64 sq7, .int .i64 kd7, .int .i64 ot7, .int .i64 on7, .int .i64 pt7, .int .i64 pn7, .string (bas nm7), .slice p8 data7.length c8, .slice q8 ns7.length d8] 28)).heap.size (w8.alloc (.cells #[.int .i64 t7, .int .i64 n7, .int .i64 sq7, .int .i64 kd7, .int .i64 ot7, .int .i64 on7, .int .i64 pt7, .int .i64 pn7, .string (bas nm7), .slice p8 data7.length c8, .slice q8 ns7.length d8] 28)) w') := hq9
      have ⟨x0, x1, x2, x3, x4, x5, x6, x7, x8, x9, x10⟩ := HO9.out.cells
      clear j1 j2 hB8 cR hq9
      go_wp2_with (go_at_call 13; refine Calls_new HQ9.out ?_; clear HQ9; intro w9 hb9; have HX9 : Hid (Below w.heap.size w w9) := (HX8.out.trans (N8.out.mono HX8.out.size)).trans (hb9.out.mono (Nat.le_trans HX8.out.size N8.out.size)); have HZ9 : Hid (OpB w9 w7.heap.size t7 n7 sq7 kd7 ot7 on7 pt7 pn7 nm7 p7 q7 data7.length c7 ns7.length d7) := HO9.out.below hb9.out; have HM9 : Hid (Bytes w9 p7 data7 ∧ Lies w9 q7 (ns7.map iv) ∧ ns7.length ≤ d7) := ⟨below_bytes hb9.out (below_bytes N8.out (below_bytes HB8.out HM7.out.1)), below_lies hb9.out (below_lies N8.out (below_lies HB8.out HM7.out.2.1)), HM7.out.2.2⟩; have HP9 : Hid (Bytes w9 p6 bb) := below_bytes hb9.out (below_bytes N8.out (below_bytes HB8.out (below_bytes HP7.out H6.out.2.1))); have ⟨z0, z1, z2, z3, z4, z5, z6, z7, z8, z9, z10⟩ := HZ9.out.cells; clear hb9)
      have cE := encode_any t7 n7 sq7 kd7 ot7 on7 pt7 pn7 nm7 p7 q7 data7.length c7 ns7.length d7 data7 ns7 w9 (by have := HSM.out; omega) rfl (by have := HSM.out; omega) rfl (by have := HSM.out; omega) HM9.out.2.2 HM9.out.1 HM9.out.2.1
      rw [HGB.out.1, HGB.out.2] at cE
      refine (show Calls Tryz.prog 9 _ _ _ from cE).mono ?_
      rintro e w10 ⟨v10, rfl, k10⟩
      rw [if_pos rfl] at k10
      rw [show (if true = true then (0 : Int) else 22) = 0 from rfl]
      obtain ⟨pc, cc, rfl, _, hbc, hB10⟩ := cloned_slice k10
      have r1 := run_str w10 pc bb cc hbc
      have r2 := run_str w10 p6 bb c6 (below_bytes hB10 HP9.out)
      have HX10 : Hid (Below w.heap.size w w10) := HX9.out.trans (hB10.mono HX9.out.size)
      clear k10 hbc hB10 cE
      go_wp2
      go_ret
      exact ⟨by first | rfl | (simp; done), HX10.out⟩

end Go.Proofs.YtegjageenofbjaaGreat.Cd

namespace Go.Proofs.YtegjageenofbjaaGreat
open Go.ChangeShapes Go.WideShapes Go.ChangeAt Go.RowKit

theorem ownKnobs : ownKnob Tryz.prog.godebug = none := by kernel_rfl
theorem laidOut : laidOutB Tryz.prog = true := by kernel_rfl

set_option maxRecDepth 100000 in
theorem opdecode_lifted (os : Os) (started : os.Started) (H : Type) (enc : TypeId × Value → H) :
    ReturnsInHanded {} Tryz.checked os 4 .any (Rows.opDecodeSpec.pre6 enc Tryz.prog Tryz.f4 Rows.opDecodeRow.domain false) (Rows.opDecodeSpec.post enc Tryz.prog Tryz.f4 false true false false) := by
  refine returnsInHanded_of_change (C := Tryz.checked) ownKnobs started (by kernel_rfl) Tryz.func4
    (ChangeSpec.witness6 (enc := enc) (C := Tryz.checked) false ⟨#[], #[.agg #[.int .i64 0, .int .i64 0, .int .i64 0, .int .i64 0, .int .i64 0, .int .i64 0, .int .i64 0, .int .i64 0, .string ⟨#[]⟩, .slice none 0 0, .slice none 0 0], .int .i64 0, .int .u8 0, .slice none 0 0], []⟩ 8 (by kernel_rfl) (by kernel_rfl) (by kernel_rfl) (by kernel_rfl)) ?_
  intro W base args ds gs before hval0 hW hcnd _
  have hval : ∀ (j : Nat) t v, Tryz.f4.params[j]? = some t → args[j]? = some v → Value.okWide Tryz.prog W .any base t v := hval0
  have hW' := hW
  obtain ⟨p, q, hA0, hV, rfl, hfz, hnd⟩ := hW
  have hA : DataW.TrodAll enc Tryz.prog W 0 (fun _ => true) true Tryz.f4.params.toList args.toList ds p := hA0
  rw [Tryz.params4] at hA hval
  obtain ⟨v0, vs0, d0, ds0, p0, q0, hargs, rfl, rfl, h0, r0⟩ := trodAll_cons hA
  obtain ⟨v1, vs1, d1, ds1, p1, q1, rfl, rfl, rfl, h1, r1⟩ := trodAll_cons r0
  obtain ⟨v2, vs2, d2, ds2, p2, q2, rfl, rfl, rfl, h2, r2⟩ := trodAll_cons r1
  obtain ⟨v3, vs3, d3, ds3, p3, q3, rfl, rfl, rfl, h3, r3⟩ := trodAll_cons r2
  obtain ⟨rfl, rfl, rfl⟩ := trodAll_nil r3
  obtain rfl : args = #[v0, v1, v2, v3] := by cases args; simp_all
  obtain ⟨rfl, rfl⟩ := trodVars_none hV
  have k0 := h0
  have k1 := h1
  have k2 := h2
  have k3 := h3
  have lt0 : ∀ x ∈ p0, x.block < W.heap.size := by obtain ⟨m, hm⟩ := k0; exact DataW.trod_lt m _ _ _ hm
  have lt1 : ∀ x ∈ p1, x.block < W.heap.size := by obtain ⟨m, hm⟩ := k1; exact DataW.trod_lt m _ _ _ hm
  have lt2 : ∀ x ∈ p2, x.block < W.heap.size := by obtain ⟨m, hm⟩ := k2; exact DataW.trod_lt m _ _ _ hm
  have lt3 : ∀ x ∈ p3, x.block < W.heap.size := by obtain ⟨m, hm⟩ := k3; exact DataW.trod_lt m _ _ _ hm
  obtain ⟨t, n, sq, kd, ot, on, pt, pn, nm, pp, qq, c, d, data, ns, hO⟩ : ∃ t n sq kd ot on pt pn nm p q c d data ns, Cd.OpIn W v0 t n sq kd ot on pt pn nm p q c d data ns := by
    obtain ⟨fuel, hf⟩ := h0
    exact Cd.op_in (hval 0 28 v0 rfl rfl) hf
  obtain ⟨rfl, m1, m2, m3, m4, m5⟩ := hO
  obtain ⟨z1, rfl⟩ := okWide_int Tryz.underlying3 (hval 1 3 v1 rfl rfl)
  obtain ⟨z2, rfl⟩ := okWide_int Tryz.underlying5 (hval 2 5 v2 rfl rfl)
  obtain ⟨a3, len3, cap3, rfl⟩ := okWide_slice Tryz.underlying24 (hval 3 24 v3 rfl rfl)
  have w1 : (Lit.int .i64 z1).wf = true := by
    obtain ⟨fuel, hf⟩ := h1
    obtain ⟨z, e, _, hw⟩ := DataW.trod_int Tryz.underlying3 hf
    cases e
    exact hw
  have w2 : (Lit.int .u8 z2).wf = true := by
    obtain ⟨fuel, hf⟩ := h2
    obtain ⟨z, e, _, hw⟩ := DataW.trod_int Tryz.underlying5 hf
    cases e
    exact hw
  obtain ⟨raw, hraw, hrc, hrb⟩ : ∃ raw : List (BitVec 8), raw.length = len3 ∧ raw.length ≤ cap3 ∧ Cd.Bytes W a3 raw := by
    obtain ⟨fuel, hf⟩ := h3
    obtain ⟨a, cap, bs, e, g1, _, g2⟩ := Cd.bytes_in hf
    cases e
    exact ⟨bs, rfl, g1, g2⟩
  subst hraw
  have hx := Cd.byteOf_val w2
  have e2 : Value.int .u8 z2 = .int .u8 ((Cd.byteOf z2).toNat : Int) := hx.symm
  have b1 : -9223372036854775808 ≤ z1 ∧ z1 < 9223372036854775808 := by
    simp [Lit.wf] at w1
    have h1 : (-9223372036854775808 : Int) ≤ z1 := w1.1
    have h2 : z1 ≤ 9223372036854775807 := w1.2
    omega
  clear hA0 hval0
  have hc := Cd.opdecode_any t n sq kd ot on pt pn nm pp qq data.length c ns.length d data ns z1 (Cd.byteOf z2) a3 raw cap3 W rfl m1 rfl m2 m3 m4 m5 hrb hrc b1.1 b1.2
  rw [← e2] at hc
  refine hc.mono fun e W' ⟨he, bel⟩ => ?_
  subst he
  exact ⟨_, rfl, _, _, _, [], _, [], hW', trodAll_mk1 (shut_bool Tryz.underlying4 _), (trodAll_cons_mk (Below.trod laidOut (by kernel_rfl) (of_decide_eq_true (by kernel_rfl)) k0 bel lt0) (trodAll_cons_mk (Below.trod laidOut (by kernel_rfl) (of_decide_eq_true (by kernel_rfl)) k1 bel lt1) (trodAll_cons_mk (Below.trod laidOut (by kernel_rfl) (of_decide_eq_true (by kernel_rfl)) k2 bel lt2) (trodAll_cons_mk (Below.trod laidOut (by kernel_rfl) (of_decide_eq_true (by kernel_rfl)) k3 bel lt3) trodAll_mk0)))), rfl, bel.frame _, fun h => by cases h⟩

theorem opDecode_holds : Rows.OpDecodeSaid :=
  OpenClaim.holds_of_wide 4 Tryz.f4 rfl rfl rfl rfl rfl rfl rfl ⟨rfl, rfl, rfl, rfl, rfl⟩ rfl rfl rfl rfl rfl (by kernel_rfl) Tryz.func4 (by kernel_rfl)
    (of_decide_eq_true (by kernel_rfl)) (by unfold Func.isWrapper; first | (rw [if_pos (by decide +kernel)]; kernel_rfl) | (rw [if_neg (by decide +kernel)]; exact ⟨rfl, rfl⟩))
    (fun os started H enc _ => opdecode_lifted os started H enc)

#print axioms opDecode_holds
end Go.Proofs.YtegjageenofbjaaGreat
