/-
  The law OpCode.
-/
import Derived.Test.YtegjageenofbjaaGreatOt
namespace Go.Proofs.YtegjageenofbjaaGreat.Cd
open Go.RowKit Go.Maps

attribute [local go_sem] Oper.semAt_some

theorem cloned_slice {w W : World} {bs : List (BitVec 8)} {v : Value} (h : Cloned w bs v W) : ∃ p c, v = .slice p bs.length c ∧ bs.length ≤ c ∧ Bytes W p bs ∧ Below w.heap.size w W := by
  obtain ⟨_, p, c, e, hc, hb, _⟩ := owns_bytes h.1
  exact ⟨p, c, e, hc, hb, h.2⟩

set_option maxRecDepth 8000 in
set_option maxHeartbeats 8000000 in
theorem opcode_any (t n sq kd ot on pt pn : Int) (nm : List UInt8) (p q : Option Addr) (l c m d : Nat) (data : List (BitVec 8)) (ns : List Int) (t' n' sq' kd' ot' on' pt' pn' : Int) (nm' : List UInt8) (p' q' : Option Addr) (l' c' m' d' : Nat) (data' : List (BitVec 8)) (ns' : List Int) (w : World)
    (hl : l = data.length) (hlc : data.length ≤ c) (hm : m = ns.length) (hmd : ns.length ≤ d) (hml : ns.length ≤ maxLen) (hp : Bytes w p data) (hq : Lies w q (ns.map iv))
    (hl' : l' = data'.length) (hlc' : data'.length ≤ c') (hm' : m' = ns'.length) (hmd' : ns'.length ≤ d') (hml' : ns'.length ≤ maxLen) (hp' : Bytes w p' data') (hq' : Lies w q' (ns'.map iv)) :
    Calls Tryz.prog 3 #[.agg #[.int .i64 t, .int .i64 n, .int .i64 sq, .int .i64 kd, .int .i64 ot, .int .i64 on, .int .i64 pt, .int .i64 pn, .string (bas nm), .slice p l c, .slice q m d], .agg #[.int .i64 t', .int .i64 n', .int .i64 sq', .int .i64 kd', .int .i64 ot', .int .i64 on', .int .i64 pt', .int .i64 pn', .string (bas nm'), .slice p' l' c', .slice q' m' d']] w fun e w' => e = .returned (.bool true) ∧ Below w.heap.size w w' := by
  have HCA : Hid (∀ W, Below w.heap.size w W → _) := fun W hW => cut12_any t n sq kd ot on pt pn nm p q l c m d data ns W hl hlc hm hmd hml (below_bytes hW hp)
  have HCB : Hid (∀ W, Below w.heap.size w W → _) := fun W hW => cut12_any t' n' sq' kd' ot' on' pt' pn' nm' p' q' l' c' m' d' data' ns' W hl' hlc' hm' hmd' hml' (below_bytes hW hp')
  obtain ⟨dx, hdx⟩ : ∃ x, data.take 3000 = x := ⟨_, rfl⟩
  obtain ⟨nsx, hnsx⟩ : ∃ x, Vc.cut ns = x := ⟨_, rfl⟩
  obtain ⟨nx, hnx⟩ : ∃ x, nm.take 100 = x := ⟨_, rfl⟩
  obtain ⟨dx', hdx'⟩ : ∃ x, data'.take 3000 = x := ⟨_, rfl⟩
  obtain ⟨nsx', hnsx'⟩ : ∃ x, Vc.cut ns' = x := ⟨_, rfl⟩
  obtain ⟨nx', hnx'⟩ : ∃ x, nm'.take 100 = x := ⟨_, rfl⟩
  rw [hdx, hnsx, hnx] at HCA
  rw [hdx', hnsx', hnx'] at HCB
  have hpx : Bytes w p dx := by rw [← hdx]; exact bytes_take hp 3000
  have hpx' : Bytes w p' dx' := by rw [← hdx']; exact bytes_take hp' 3000
  have hqx : Lies w q (nsx.map iv) := by
    rw [← hnsx]
    have := lies_take hq 80
    rw [← List.map_take] at this
    exact this
  have hqx' : Lies w q' (nsx'.map iv) := by
    rw [← hnsx']
    have := lies_take hq' 80
    rw [← List.map_take] at this
    exact this
  have z1 : dx.length ≤ 3000 := by rw [← hdx, List.length_take]; omega
  have z2 : nsx.length ≤ 80 := by rw [← hnsx]; exact Vc.cut_le ns
  have z3 : nx.length ≤ 100 := by rw [← hnx, List.length_take]; omega
  have z4 : nsx.length ≤ d := by rw [← hnsx]; unfold Vc.cut; rw [List.length_take]; omega
  have z5 : dx'.length ≤ 3000 := by rw [← hdx', List.length_take]; omega
  have z6 : nsx'.length ≤ 80 := by rw [← hnsx']; exact Vc.cut_le ns'
  clear hdx hnsx hnx hdx' hnsx' hnx'
  have HMr : Hid (∀ W, Below w.heap.size w W → Calls Tryz.prog 7 #[.agg #[.int .i64 t, .int .i64 n, .int .i64 sq, .int .i64 kd, .int .i64 ot, .int .i64 on, .int .i64 pt, .int .i64 pn, .string (bas nx), .slice p dx.length c, .slice q nsx.length d]] W fun e w' => e = .returned (.bool (mayO t n sq kd ot on pt pn nx dx.length nsx)) ∧ Below W.heap.size W w') := fun W hW => rmay_any t n sq kd ot on pt pn nx p q dx.length c nsx.length d nsx W (by omega) (by omega) rfl (by omega) (below_lies hW hqx)
  have HEr : Hid (∀ W, Below w.heap.size w W → Calls Tryz.prog 8 #[.agg #[.int .i64 t, .int .i64 n, .int .i64 sq, .int .i64 kd, .int .i64 ot, .int .i64 on, .int .i64 pt, .int .i64 pn, .string (bas nx), .slice p dx.length c, .slice q nsx.length d]] W fun e w' => ∃ v, e = .returned v ∧ Cloned W (if mayO t n sq kd ot on pt pn nx dx.length nsx then bytesO t n sq kd ot on pt pn nx dx nsx else []) v w') := fun W hW => rencode_any t n sq kd ot on pt pn nx p q dx.length c nsx.length d dx nsx W (by omega) rfl (by omega) rfl (by omega) (below_bytes hW hpx) (below_lies hW hqx)
  have HEo : Hid (∀ W, Below w.heap.size w W → Calls Tryz.prog 9 #[.agg #[.int .i64 t, .int .i64 n, .int .i64 sq, .int .i64 kd, .int .i64 ot, .int .i64 on, .int .i64 pt, .int .i64 pn, .string (bas nx), .slice p dx.length c, .slice q nsx.length d]] W (EncR W (mayO t n sq kd ot on pt pn nx dx.length nsx) (bytesO t n sq kd ot on pt pn nx dx nsx))) := fun W hW => encode_any t n sq kd ot on pt pn nx p q dx.length c nsx.length d dx nsx W (by omega) rfl (by omega) rfl (by omega) z4 (below_bytes hW hpx) (below_lies hW hqx)
  have HMo : Hid (∀ W, Below w.heap.size w W → Calls Tryz.prog 10 #[.agg #[.int .i64 t, .int .i64 n, .int .i64 sq, .int .i64 kd, .int .i64 ot, .int .i64 on, .int .i64 pt, .int .i64 pn, .string (bas nx), .slice p dx.length c, .slice q nsx.length d]] W fun e w' => e = .returned (.bool (mayO t n sq kd ot on pt pn nx dx.length nsx)) ∧ Below W.heap.size W w') := fun W hW => omay_any t n sq kd ot on pt pn nx p q dx.length c nsx.length d nsx W (by omega) (by omega) rfl (by omega) z4 (below_lies hW hqx)
  have HCo : Hid (∀ W, Below w.heap.size w W → Calls Tryz.prog 11 #[.agg #[.int .i64 t, .int .i64 n, .int .i64 sq, .int .i64 kd, .int .i64 ot, .int .i64 on, .int .i64 pt, .int .i64 pn, .string (bas nx), .slice p dx.length c, .slice q nsx.length d]] W fun e w' => e = .returned (.int .i64 ((if mayO t n sq kd ot on pt pn nx dx.length nsx then bytesO t n sq kd ot on pt pn nx dx nsx else []).length : Nat)) ∧ Below W.heap.size W w') := fun W hW => cost_any t n sq kd ot on pt pn nx p q dx.length c nsx.length d dx nsx W (by omega) rfl (by omega) rfl (by omega) z4 (below_bytes hW hpx) (below_lies hW hqx)
  obtain ⟨y, hy⟩ : ∃ y, eqF t n sq kd ot on pt pn nx dx nsx t' n' sq' kd' ot' on' pt' pn' nx' dx' nsx' = y := ⟨_, rfl⟩
  have HQo : Hid (∀ W, Below w.heap.size w W → Calls Tryz.prog 12 #[.agg #[.int .i64 t, .int .i64 n, .int .i64 sq, .int .i64 kd, .int .i64 ot, .int .i64 on, .int .i64 pt, .int .i64 pn, .string (bas nx), .slice p dx.length c, .slice q nsx.length d], .agg #[.int .i64 t', .int .i64 n', .int .i64 sq', .int .i64 kd', .int .i64 ot', .int .i64 on', .int .i64 pt', .int .i64 pn', .string (bas nx'), .slice p' dx'.length c', .slice q' nsx'.length d']] W fun e w' => e = .returned (.bool y) ∧ Below W.heap.size W w') := fun W hW => by rw [← hy]; exact oeq_any t n sq kd ot on pt pn nx p q dx.length c nsx.length d dx nsx t' n' sq' kd' ot' on' pt' pn' nx' p' q' dx'.length c' nsx'.length d' dx' nsx' W rfl rfl rfl rfl (below_bytes hW hpx) (below_lies hW hqx) (below_bytes hW hpx') (below_lies hW hqx')
  have HQr : Hid (∀ W, Below w.heap.size w W → Calls Tryz.prog 13 #[.agg #[.int .i64 t, .int .i64 n, .int .i64 sq, .int .i64 kd, .int .i64 ot, .int .i64 on, .int .i64 pt, .int .i64 pn, .string (bas nx), .slice p dx.length c, .slice q nsx.length d], .agg #[.int .i64 t', .int .i64 n', .int .i64 sq', .int .i64 kd', .int .i64 ot', .int .i64 on', .int .i64 pt', .int .i64 pn', .string (bas nx'), .slice p' dx'.length c', .slice q' nsx'.length d']] W fun e w' => e = .returned (.bool y) ∧ Below W.heap.size W w') := fun W hW => by rw [← hy]; exact req12_any t n sq kd ot on pt pn nx p q dx.length c nsx.length d dx nsx t' n' sq' kd' ot' on' pt' pn' nx' p' q' dx'.length c' nsx'.length d' dx' nsx' W rfl rfl rfl rfl (below_bytes hW hpx) (below_lies hW hqx) (below_bytes hW hpx') (below_lies hW hqx')
  obtain ⟨nv, hnv⟩ : ∃ nv, normOf nsx = nv := ⟨_, rfl⟩
  have hnvl : nv.length ≤ 64 := by rw [← hnv]; exact normOf_le nsx
  have HD : Hid (mayO t n sq kd ot on pt pn nx dx.length nsx = true → ∀ W pb cb, Bytes W pb (bytesO t n sq kd ot on pt pn nx dx nsx) → Calls Tryz.prog 14 #[.slice pb (bytesO t n sq kd ot on pt pn nx dx nsx).length cb] W fun e w' => ∃ p7 c7 p8 c8, e = .returned (.tuple #[.agg #[.int .i64 t, .int .i64 n, .int .i64 sq, .int .i64 kd, .int .i64 ot, .int .i64 on, .int .i64 pt, .int .i64 pn, .string (bas nx), .slice p7 dx.length c7, .slice p8 nv.length c8], .int .i64 0]) ∧ Bytes w' p7 dx ∧ Lies w' p8 (nv.map iv) ∧ nv.length ≤ c8 ∧ Below W.heap.size W w') := fun hmay W pb cb hb => by
    have hg := good_back ⟨t, n, sq, kd, ot, on, pt, pn, nx, dx, nsx⟩ hmay
    have hlen : (bytesO t n sq kd ot on pt pn nx dx nsx).length ≤ 1000000000 := by
      obtain ⟨⟨e1, h1⟩, ⟨e2, h2⟩, ⟨e3, h3⟩, ⟨e4, h4⟩, ⟨e5, h5⟩, ⟨e6, h6⟩, ⟨e7, h7⟩, ⟨e8, h8⟩, _, _⟩ := may_parts hmay
      have l1 := num_len h1
      have l2 := id_len h2
      have l3 := num_len h3
      have l4 := id_len h4
      have l5 := id_len h5
      have l6 := by_len h6
      have l7 := by_len h7
      rw [bvs_length] at l6
      have l8 : e8.length ≤ 1000 := by
        unfold eVec at h8
        split at h8
        · cases h8
          have g1 := numB_len9 (normOf nsx).length (by have := normOf_le nsx; omega)
          have g2 := numsB_len (normOf nsx) (normOf_ok nsx)
          have g3 := normOf_le nsx
          rw [List.length_append]
          omega
        · cases h8
      unfold bytesO partsO
      rw [h1, h2, h3, h4, h5, h6, h7, h8]
      simp
      omega
    have := decode_any pb (bytesO t n sq kd ot on pt pn nx dx nsx) cb W hlen hb
    rw [show bytesO t n sq kd ot on pt pn nx dx nsx = Opn.bytes ⟨t, n, sq, kd, ot, on, pt, pn, nx, dx, nsx⟩ from rfl, hg.1, hg.2] at this
    refine (show Calls Tryz.prog 14 #[.slice pb (bytesO t n sq kd ot on pt pn nx dx nsx).length cb] W _ from this).mono ?_
    rintro e w' ⟨v, rfl, ⟨p7, c7, p8, c8, rfl, m1, m2, m3⟩, hB⟩
    refine ⟨p7, c7, p8, c8, ?_, m1, ?_, ?_, hB⟩
    · rw [← hnv]; rfl
    · rw [← hnv]; exact m2
    · rw [← hnv]; exact m3
  have he1 := (eqB_norm nsx).1
  have he2 := (eqB_norm nsx).2
  rw [hnv] at he1 he2
  have HQ1 : Hid (∀ W p7 c7 p8 c8, Below w.heap.size w W → Bytes W p7 dx → Lies W p8 (nv.map iv) → Calls Tryz.prog 13 #[.agg #[.int .i64 t, .int .i64 n, .int .i64 sq, .int .i64 kd, .int .i64 ot, .int .i64 on, .int .i64 pt, .int .i64 pn, .string (bas nx), .slice p7 dx.length c7, .slice p8 nv.length c8], .agg #[.int .i64 t, .int .i64 n, .int .i64 sq, .int .i64 kd, .int .i64 ot, .int .i64 on, .int .i64 pt, .int .i64 pn, .string (bas nx), .slice p dx.length c, .slice q nsx.length d]] W fun e w' => e = .returned (.bool true) ∧ Below W.heap.size W w') := fun W p7 c7 p8 c8 hW k1 k2 => by
    have := req12_any t n sq kd ot on pt pn nx p7 p8 dx.length c7 nv.length c8 dx nv t n sq kd ot on pt pn nx p q dx.length c nsx.length d dx nsx W rfl rfl rfl rfl k1 k2 (below_bytes hW hpx) (below_lies hW hqx)
    rw [show eqF t n sq kd ot on pt pn nx dx nv t n sq kd ot on pt pn nx dx nsx = true by simp [eqF, he1]] at this
    exact this
  have HQ2 : Hid (∀ W p7 c7 p8 c8, Below w.heap.size w W → Bytes W p7 dx → Lies W p8 (nv.map iv) → Calls Tryz.prog 12 #[.agg #[.int .i64 t, .int .i64 n, .int .i64 sq, .int .i64 kd, .int .i64 ot, .int .i64 on, .int .i64 pt, .int .i64 pn, .string (bas nx), .slice p dx.length c, .slice q nsx.length d], .agg #[.int .i64 t, .int .i64 n, .int .i64 sq, .int .i64 kd, .int .i64 ot, .int .i64 on, .int .i64 pt, .int .i64 pn, .string (bas nx), .slice p7 dx.length c7, .slice p8 nv.length c8]] W fun e w' => e = .returned (.bool true) ∧ Below W.heap.size W w') := fun W p7 c7 p8 c8 hW k1 k2 => by
    have := oeq_any t n sq kd ot on pt pn nx p q dx.length c nsx.length d dx nsx t n sq kd ot on pt pn nx p7 p8 dx.length c7 nv.length c8 dx nv W rfl rfl rfl rfl (below_bytes hW hpx) (below_lies hW hqx) k1 k2
    rw [show eqF t n sq kd ot on pt pn nx dx nsx t n sq kd ot on pt pn nx dx nv = true by simp [eqF, he2]] at this
    exact this
  have HIs : Hid (∀ W p8 c8, Below w.heap.size w W → Lies W p8 (nv.map iv) → Calls Tryz.prog 15 #[.slice p8 nv.length c8, .slice q nsx.length d] W fun e w' => e = .returned (.bool true) ∧ Below W.heap.size W w') := fun W p8 c8 hW k2 => Vc.is_true p8 q nv nsx c8 d W (by rw [norm_vc]; exact hnv) (by omega) k2 (below_lies hW hqx)
  have HO1 : Hid (OpY w ((w.alloc (.cells #[.int .i64 t, .int .i64 n, .int .i64 sq, .int .i64 kd, .int .i64 ot, .int .i64 on, .int .i64 pt, .int .i64 pn, .string (bas nm), .slice p l c, .slice q m d] 28)).alloc (.cells #[.int .i64 t', .int .i64 n', .int .i64 sq', .int .i64 kd', .int .i64 ot', .int .i64 on', .int .i64 pt', .int .i64 pn', .string (bas nm'), .slice p' l' c', .slice q' m' d'] 28)) w.heap.size (w.heap.size + 1) t n sq kd ot on pt pn nm p q l c m d t' n' sq' kd' ot' on' pt' pn' nm' p' q' l' c' m' d') :=
    ⟨(OpB.made w t n sq kd ot on pt pn nm p q l c m d).below (below_new _ _).out, OpB.next w _ t' n' sq' kd' ot' on' pt' pn' nm' p' q' l' c' m' d', ((Below.refl _ _).alloc (Nat.le_refl _) _).alloc (by simp) _⟩
  generalize hmy : mayO t n sq kd ot on pt pn nx dx.length nsx = my at *
  generalize hby : bytesO t n sq kd ot on pt pn nx dx nsx = byt at *
  obtain ⟨bys, hbys⟩ : ∃ bys, (if my = true then byt else []) = bys := ⟨_, rfl⟩
  have HBYS : Hid ((if my = true then byt else []) = bys) := hbys
  rw [hbys] at HEr HCo
  clear hmy hby hy hnv he1 he2 hpx hpx' hqx hqx' z1 z2 z3 z4 z5 z6 hl hlc hm hmd hml hp hq hl' hlc' hm' hmd' hml' hp' hq' hbys hnvl
  go_enter Tryz.func3, Tryz.ntmps3
  go_wp2_with (go_at_call 5; refine Calls_new (begun_any _) ?_; intro w1 hb1)
  have HY1 := OpY.step HO1 hb1
  clear HO1 hb1
  have HON : Hid (∀ W, Only (fun k => k = w.heap.size ∨ k = w.heap.size + 1) w1 W → Below w.heap.size w W) := fun W hW => HY1.out.2.2.trans (hW.below HY1.out.2.2.size (fun i hi => by omega))
  refine code_two (by kernel_rfl) w.heap.size (w.heap.size + 1) dx.length nsx.length dx'.length nsx'.length nx nx' t n sq kd ot on pt pn nm p q l c m d t' n' sq' kd' ot' on' pt' pn' nm' p' q' l' c' m' d' _ rfl rfl rfl HY1.out.1 HY1.out.2.1 (by omega) (fun W hW => HCA.out W (HON.out W hW)) (fun W hW => HCB.out W (HON.out W hW)) ?_
  intro W2 k1 k2 k3
  have HX : Hid (OpY w W2 w.heap.size (w.heap.size + 1) t n sq kd ot on pt pn nx p q dx.length c nsx.length d t' n' sq' kd' ot' on' pt' pn' nx' p' q' dx'.length c' nsx'.length d') := ⟨k1, k2, HON.out W2 k3⟩
  have ⟨a0, a1, a2, a3, a4, a5, a6, a7, a8, a9, a10⟩ := HX.out.1.cells
  clear k1 k2 k3 HON HY1 HCA HCB
  simp only [putAll, List.setIfInBounds_toArray, List.set_cons_zero, List.set_cons_succ]
  go_wp2_with (go_at_call 7; refine Calls_new (HMr.out _ HX.out.2.2) ?_; clear HMr; intro wq hbq; have HX := OpY.step HX hbq; have ⟨a0, a1, a2, a3, a4, a5, a6, a7, a8, a9, a10⟩ := HX.out.1.cells; have ⟨b0, b1, b2, b3, b4, b5, b6, b7, b8, b9, b10⟩ := HX.out.2.1.cells; clear hbq)
  refine (HEr.out _ HX.out.2.2).mono ?_
  rintro e w3 ⟨v3, rfl, x3⟩
  obtain ⟨pw, cw, rfl, _, hbw, hB3⟩ := cloned_slice x3
  have HBW : Hid (Bytes w3 pw bys) := hbw
  have hbq : Hid (Below _ _ w3) := hB3
  have HX := OpY.step HX hbq
  have ⟨s0, s1, s2, s3, s4, s5, s6, s7, s8, s9, s10⟩ := HX.out.1.cells
  clear hbq
  clear x3 hbw hB3 HEr
  go_wp2_with fail
  refine (HEo.out _ HX.out.2.2).mono ?_
  rintro e w4 ⟨v4, rfl, x4⟩
  rw [HBYS.out] at x4
  obtain ⟨pb, cb, rfl, _, hbb, hB4⟩ := cloned_slice x4
  have HBB : Hid (Bytes w4 pb bys ∧ Bytes w4 pw bys) := ⟨hbb, below_bytes hB4 HBW.out⟩
  have hbq : Hid (Below _ _ w4) := hB4
  have HX := OpY.step HX hbq
  have ⟨s0, s1, s2, s3, s4, s5, s6, s7, s8, s9, s10⟩ := HX.out.1.cells
  clear hbq
  clear x4 hbb hB4 HEo HBW
  have HRS : Hid (∀ W, Below w4.heap.size w4 W → (convert 24 9 (.slice pb bys.length cb)).run Tryz.prog W = .ok (.string (strOf bys)) W ∧ (convert 24 9 (.slice pw bys.length cw)).run Tryz.prog W = .ok (.string (strOf bys)) W) := fun W hW => ⟨run_str W pb bys cb (below_bytes hW HBB.out.1), run_str W pw bys cw (below_bytes hW HBB.out.2)⟩
  have HGB : Hid (∀ W, Below w4.heap.size w4 W → Below w.heap.size w W) := fun W hW => HX.out.2.2.trans (hW.mono HX.out.2.2.size)
  cases my with
  | false =>
    rw [show (if false = true then (0 : Int) else 22) = 22 from rfl]
    go_wp2_with fail
    refine code_six_false (by kernel_rfl) w.heap.size (w.heap.size + 1) bys.length cw bys.length cb pw pb (strOf bys) y t n sq kd ot on pt pn nx p q dx.length c nsx.length d t' n' sq' kd' ot' on' pt' pn' nx' p' q' dx'.length c' nsx'.length d' _ rfl rfl rfl rfl rfl rfl rfl HX.out.1 HX.out.2.1 (fun W hW => HMo.out W (HGB.out W hW)) (fun W hW => HCo.out W (HGB.out W hW)) (fun W hW => HQo.out W (HGB.out W hW)) (fun W hW => HQr.out W (HGB.out W hW)) HRS.out ?_
    intro W hW
    have HW : Hid (Below w.heap.size w W) := HGB.out W hW
    clear hW
    simp only [putAll, List.setIfInBounds_toArray, List.set_cons_zero, List.set_cons_succ]
    go_wp2
    go_ret
    exact ⟨rfl, HW.out⟩
  | true =>
    rw [show (if true = true then (0 : Int) else 22) = 0 from rfl]
    have hdt := HD.out rfl
    have HDT : Hid _ := hdt
    clear hdt HD
    obtain rfl : byt = bys := HBYS.out
    go_wp2_with fail
    refine code_six_true (by kernel_rfl) w.heap.size (w.heap.size + 1) byt.length cw byt.length cb pw pb (strOf byt) y t n sq kd ot on pt pn nx p q dx.length c nsx.length d t' n' sq' kd' ot' on' pt' pn' nx' p' q' dx'.length c' nsx'.length d' _ rfl rfl rfl rfl rfl rfl rfl HX.out.1 HX.out.2.1 (fun W hW => HMo.out W (HGB.out W hW)) (fun W hW => HCo.out W (HGB.out W hW)) (fun W hW => HQo.out W (HGB.out W hW)) (fun W hW => HQr.out W (HGB.out W hW)) HRS.out ?_
    intro W5 hW5
    have HBB5 : Hid (Bytes W5 pb byt) := below_bytes hW5 HBB.out.1
    have hbq : Hid (Below _ _ W5) := hW5
    have HX := OpY.step HX hbq
    clear hW5 hbq HBB HRS HGB HMo HCo HQo HQr
    simp only [putAll, List.setIfInBounds_toArray, List.set_cons_zero, List.set_cons_succ]
    go_wp2_with fail
    refine (HDT.out _ pb cb HBB5.out).mono ?_
    rintro e w6 ⟨p7, c7, p8, c8, rfl, j1, j2, j3, hB6⟩
    have hbq : Hid (Below _ _ w6) := hB6
    have HX := OpY.step HX hbq
    have HJ : Hid (Bytes w6 p7 dx ∧ Lies w6 p8 (nv.map iv)) := ⟨j1, j2⟩
    clear hbq hB6 j1 j2 j3 HDT HBB5
    have N6 : Hid (Below w6.heap.size w6 (w6.alloc (.cells #[.int .i64 t, .int .i64 n, .int .i64 sq, .int .i64 kd, .int .i64 ot, .int .i64 on, .int .i64 pt, .int .i64 pn, .string (bas nx), .slice p7 dx.length c7, .slice p8 nv.length c8] 28))) := (below_new w6 _).out
    have HX7 := OpY.step HX N6
    have HZ7 : Hid (OpB (w6.alloc (.cells #[.int .i64 t, .int .i64 n, .int .i64 sq, .int .i64 kd, .int .i64 ot, .int .i64 on, .int .i64 pt, .int .i64 pn, .string (bas nx), .slice p7 dx.length c7, .slice p8 nv.length c8] 28)) w6.heap.size t n sq kd ot on pt pn nx p7 p8 dx.length c7 nv.length c8) := OpB.made w6 t n sq kd ot on pt pn nx p7 p8 dx.length c7 nv.length c8
    have HJ7 : Hid (Bytes (w6.alloc (.cells #[.int .i64 t, .int .i64 n, .int .i64 sq, .int .i64 kd, .int .i64 ot, .int .i64 on, .int .i64 pt, .int .i64 pn, .string (bas nx), .slice p7 dx.length c7, .slice p8 nv.length c8] 28)) p7 dx ∧ Lies (w6.alloc (.cells #[.int .i64 t, .int .i64 n, .int .i64 sq, .int .i64 kd, .int .i64 ot, .int .i64 on, .int .i64 pt, .int .i64 pn, .string (bas nx), .slice p7 dx.length c7, .slice p8 nv.length c8] 28)) p8 (nv.map iv)) := ⟨below_bytes N6.out HJ.out.1, below_lies N6.out HJ.out.2⟩
    have ⟨a0, a1, a2, a3, a4, a5, a6, a7, a8, a9, a10⟩ := HX7.out.1.cells
    clear N6 HJ HX
    go_wp2_with (first | (go_at_call 13; refine Calls_new (HQ1.out _ p7 c7 p8 c8 HX7.out.2.2 HJ7.out.1 HJ7.out.2) ?_; clear HQ1; intro w8 hb8; have HX8 := OpY.step HX7 hb8; have HZ8 : Hid (OpB w8 w6.heap.size t n sq kd ot on pt pn nx p7 p8 dx.length c7 nv.length c8) := HZ7.out.below hb8.out; have HJ8 : Hid (Bytes w8 p7 dx ∧ Lies w8 p8 (nv.map iv)) := ⟨below_bytes hb8.out HJ7.out.1, below_lies hb8.out HJ7.out.2⟩; have ⟨bb0, bb1, bb2, bb3, bb4, bb5, bb6, bb7, bb8, bb9, bb10⟩ := HX8.out.1.cells; have ⟨cc0, cc1, cc2, cc3, cc4, cc5, cc6, cc7, cc8, cc9, cc10⟩ := HZ8.out.cells; clear hb8) | (go_at_call 15; refine Calls_new (HIs.out _ p8 c8 HX8.out.2.2 HJ8.out.2) ?_; clear HIs; intro w9 hb9; have HX9 := OpY.step HX8 hb9; have HZ9 : Hid (OpB w9 w6.heap.size t n sq kd ot on pt pn nx p7 p8 dx.length c7 nv.length c8) := HZ8.out.below hb9.out; have HJ9 : Hid (Bytes w9 p7 dx ∧ Lies w9 p8 (nv.map iv)) := ⟨below_bytes hb9.out HJ8.out.1, below_lies hb9.out HJ8.out.2⟩; have ⟨dd0, dd1, dd2, dd3, dd4, dd5, dd6, dd7, dd8, dd9, dd10⟩ := HX9.out.1.cells; have ⟨ee0, ee1, ee2, ee3, ee4, ee5, ee6, ee7, ee8, ee9, ee10⟩ := HZ9.out.cells; clear hb9) | (go_at_call 12; refine Calls_new (HQ2.out _ p7 c7 p8 c8 HX9.out.2.2 HJ9.out.1 HJ9.out.2) ?_; clear HQ2; intro w10 hb10; have HX10 := OpY.step HX9 hb10; clear hb10))
    go_ret
    exact ⟨rfl, HX10.out.2.2⟩

end Go.Proofs.YtegjageenofbjaaGreat.Cd
