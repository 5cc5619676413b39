/-
  What is written is read again, and what is read is written as it was: as functions of lists of bytes.
-/
import Derived.Test.YtegjageenofbjaaGreatOr
namespace Go.Proofs.YtegjageenofbjaaGreat.Cd
open Go.RowKit

theorem num_back (n : Int) (e rest : List (BitVec 8)) (h : eNum n = some e) : rnum 4611686018427387904 (some (e ++ rest)) = (n.toNat, some rest) := by
  unfold eNum at h
  split at h
  · cases h
    exact rnum_numB rest (by omega) (Nat.le_refl _)
  · cases h
theorem bytes_back (cs e rest : List (BitVec 8)) (h : eBytes cs = some e) : rbytes (some (e ++ rest)) = (cs, some rest) := by
  unfold eBytes at h
  split at h
  · cases h
    rename_i hl
    unfold rbytes
    rw [List.append_assoc, rnum_numB (cs ++ rest) hl (by decide)]
    simp only
    rw [if_neg (by simp)]
    simp
  · cases h
theorem id_back (t n : Int) (e rest : List (BitVec 8)) (h : eID t n = some e) : rid (some (e ++ rest)) = ((t.toNat, n.toNat), some rest) := by
  unfold eID at h
  split at h
  · cases h
    unfold rid
    rw [List.append_assoc, rnum_numB (numB n.toNat ++ rest) (by omega) (by decide)]
    simp only
    rw [rnum_numB rest (by omega) (by decide)]
  · cases h
theorem vec_back (ns : List Int) (e rest : List (BitVec 8)) (h : eVec ns = some e) : rvec (some (e ++ rest)) = ((normOf ns).map Int.toNat, some rest) := by
  unfold eVec at h
  split at h
  · cases h
    unfold rvec
    have hle := normOf_le ns
    have hok := normOf_ok ns
    have hlast := norm_last ns
    rw [List.append_assoc, rnum_numB (numsB (normOf ns) ++ rest) hle (by decide)]
    simp only
    rw [rnums_numsB rest (normOf ns) hok]
    simp only
    rw [if_neg]
    rw [List.getLast?_map]
    intro hz
    obtain ⟨y, hy, he⟩ := Option.map_eq_some_iff.1 hz
    have hoky := hok y (List.mem_of_getLast? hy)
    have h2 : 0 ≤ y ∧ y ≤ 1152921504606846976 := by unfold okN at hoky; simpa using hoky
    have : y = 0 := by omega
    rw [this] at hy
    exact hlast hy
  · cases h
theorem zs_toNat (l : List Int) (h : ∀ x ∈ l, okN x = true) : zs (l.map Int.toNat) = l := by
  unfold zs
  rw [List.map_map]
  conv => rhs; rw [← List.map_id l]
  refine List.map_congr_left (fun x hx => ?_)
  have h1 := h x hx
  unfold okN at h1
  have : 0 ≤ x := by simp at h1; exact h1.1
  simp; omega

theorem may_valid {o : Opn} (h : o.may = true) : 0 ≤ o.t ∧ 0 ≤ o.n ∧ 0 ≤ o.sq ∧ 0 ≤ o.kd := by
  unfold Opn.may mayO countB at h
  simp only [Bool.and_eq_true, decide_eq_true_eq] at h
  obtain ⟨⟨hv, ⟨⟨⟨h1, h2⟩, h3⟩, h4⟩⟩, hk⟩ := h
  obtain ⟨v1, v2, v3, v4⟩ := Ck.validB_true.1 hv
  refine ⟨by omega, by omega, by omega, ?_⟩
  unfold kindB at hk
  split at hk
  · omega
  split at hk
  · omega
  split at hk
  · omega
  · cases hk
theorem id_pos {t n : Int} {e : List (BitVec 8)} (h : eID t n = some e) : 0 ≤ t ∧ 0 ≤ n := by
  unfold eID at h
  split at h
  · omega
  · cases h

/-- What may be is read again as it was written, Seen in normal form. -/
def Opn.norm (o : Opn) : Opn := { o with ns := normOf o.ns }
theorem read_back (o : Opn) (h : o.may = true) : readO o.bytes = (o.norm, some []) := by
  have hv := may_valid h
  obtain ⟨⟨e1, h1⟩, ⟨e2, h2⟩, ⟨e3, h3⟩, ⟨e4, h4⟩, ⟨e5, h5⟩, ⟨e6, h6⟩, ⟨e7, h7⟩, ⟨e8, h8⟩, _, _⟩ := may_parts (t := o.t) (n := o.n) (sq := o.sq) (kd := o.kd) (ot := o.ot) (on := o.on) (pt := o.pt) (pn := o.pn) (nm := o.nm) (data := o.data) (ns := o.ns) h
  have hb : o.bytes = e1 ++ (e2 ++ (e3 ++ (e4 ++ (e5 ++ (e6 ++ (e7 ++ (e8 ++ []))))))) := by
    unfold Opn.bytes bytesO partsO
    rw [h1, h2, h3, h4, h5, h6, h7, h8]
    simp
  have p4 := id_pos h4
  have p5 := id_pos h5
  unfold readO
  rw [hb, num_back _ _ _ h1]
  simp only
  rw [id_back _ _ _ _ h2]
  simp only
  rw [num_back _ _ _ h3]
  simp only
  rw [id_back _ _ _ _ h4]
  simp only
  rw [id_back _ _ _ _ h5]
  simp only
  rw [bytes_back _ _ _ h6]
  simp only
  rw [bytes_back _ _ _ h7]
  simp only
  rw [vec_back _ _ _ h8]
  simp only
  rw [u8s_bvs, zs_toNat _ (normOf_ok o.ns)]
  unfold Opn.norm
  rw [Int.toNat_of_nonneg hv.1, Int.toNat_of_nonneg hv.2.1, Int.toNat_of_nonneg hv.2.2.1, Int.toNat_of_nonneg hv.2.2.2, Int.toNat_of_nonneg p4.1, Int.toNat_of_nonneg p4.2, Int.toNat_of_nonneg p5.1, Int.toNat_of_nonneg p5.2]
theorem at_norm (ns : List Int) (k : Nat) (hk : k < 64) : Vc.atOf (normOf ns) k = Vc.atOf ns k := by
  rw [← norm_vc]
  have := Vc.atOf_range ns k
  exact Vc.atOf_vec hk this.1 this.2
theorem norm_norm (ns : List Int) : normOf (normOf ns) = normOf ns := by
  rw [← norm_vc, ← norm_vc]
  exact Vc.vec_congr (fun k hk => by rw [norm_vc]; exact at_norm ns k hk)
theorem may_norm (ns : List Int) : mayB (normOf ns) = true := by
  unfold mayB
  rw [Bool.and_eq_true, decide_eq_true_eq, List.all_eq_true]
  have := tl_le (normOf ns) (normOf ns).length
  have := normOf_le ns
  exact ⟨by omega, fun x hx => normOf_ok ns x (List.mem_of_mem_take hx)⟩
theorem norm_may {o : Opn} (h : o.may = true) : o.norm.may = true := by
  have h' := h
  unfold Opn.may mayO countB at h' ⊢
  simp only [Bool.and_eq_true, decide_eq_true_eq] at h' ⊢
  obtain ⟨⟨hv, ⟨⟨⟨h1, h2⟩, h3⟩, h4⟩⟩, hk⟩ := h'
  obtain ⟨v1, v2, v3, v4⟩ := Ck.validB_true.1 hv
  refine ⟨⟨hv, ⟨⟨⟨h1, h2⟩, may_norm o.ns⟩, ?_⟩⟩, hk⟩
  show Vc.atZ (normOf o.ns) o.n = o.sq - 1
  rw [← h4]
  unfold Vc.atZ
  rw [if_pos ⟨v3, v4⟩, if_pos ⟨v3, v4⟩]
  exact at_norm o.ns _ (by omega)
theorem good_back (o : Opn) (h : o.may = true) : goodO o.bytes = true ∧ decO o.bytes = o.norm := by
  have h1 : goodO o.bytes = true := by
    unfold goodO
    rw [read_back o h]
    simp only [decide_true, Bool.true_and]
    exact norm_may h
  exact ⟨h1, by unfold decO; rw [h1, if_pos rfl, read_back o h]⟩
theorem eqB_norm (ns : List Int) : Vc.eqB (normOf ns) ns = true ∧ Vc.eqB ns (normOf ns) = true :=
  ⟨Vc.eqB_true (fun k hk => at_norm ns k hk), Vc.eqB_true (fun k hk => (at_norm ns k hk).symm)⟩
theorem eq_norm (o : Opn) : Opn.eq o.norm o = true ∧ Opn.eq o o.norm = true := by
  unfold Opn.eq eqF Opn.norm
  simp [(eqB_norm o.ns).1, (eqB_norm o.ns).2]

/-- A number is written in one way. -/
theorem readAt_back {bs : List (BitVec 8)} : ∀ (f i acc n k : Nat), readAt bs f i acc = some (n, k) → ∃ m, n = acc + m * 128 ^ i ∧ i < k ∧ (bs.drop i).take (k - i) = numB m ∧ (0 < i → 0 < m)
  | 0, _, _, _, _, h => by cases h
  | f + 1, i, acc, n, k, h => by
    rw [readAt] at h
    cases hx : bs[i]? with
    | none => rw [hx] at h; cases h
    | some x =>
      rw [hx] at h
      simp only at h
      have hd : bs.drop i = x :: bs.drop (i + 1) := by
        have hl := (List.getElem?_eq_some_iff.1 hx)
        rw [List.drop_eq_getElem_cons hl.1, hl.2]
      by_cases h1 : x.toNat < 128
      · rw [if_pos h1] at h
        by_cases h2 : x.toNat = 0 ∧ 0 < i
        · rw [if_pos h2] at h; cases h
        · rw [if_neg h2] at h
          cases h
          refine ⟨x.toNat, rfl, by omega, ?_, fun hi => by omega⟩
          rw [hd, show i + 1 - i = 1 by omega, numB_lt h1]
          simp
      · rw [if_neg h1] at h
        obtain ⟨m, e, hk, ht, hp⟩ := readAt_back f (i + 1) _ n k h
        have hm := hp (by omega)
        have hx256 : x.toNat < 256 := x.isLt
        refine ⟨x.toNat % 128 + 128 * m, ?_, by omega, ?_, fun _ => by omega⟩
        · rw [e, Nat.pow_succ, Nat.add_mul, Nat.add_assoc, show m * (128 ^ i * 128) = 128 * m * 128 ^ i by rw [Nat.mul_comm (128 ^ i) 128, ← Nat.mul_assoc, Nat.mul_comm m 128]]
        · rw [hd, show k - i = (k - (i + 1)) + 1 by omega, List.take_succ_cons, ht, numB_ge (n := x.toNat % 128 + 128 * m) (by omega)]
          rw [show (x.toNat % 128 + 128 * m) / 128 = m by omega, show 128 + (x.toNat % 128 + 128 * m) % 128 = x.toNat by omega]
          congr 1
          exact BitVec.eq_of_toNat_eq (by simp)
theorem rnum_back {most : Nat} {s : St} {n : Nat} {rest : List (BitVec 8)} (h : rnum most s = (n, some rest)) : s = some (numB n ++ rest) ∧ n ≤ most := by
  cases s with
  | none => cases h
  | some bs =>
    have hle := rnum_le most (some bs)
    rw [h] at hle
    unfold rnum at h
    simp only at h
    cases hf : first bs with
    | none => rw [hf] at h; cases h
    | some y =>
      obtain ⟨n', k⟩ := y
      rw [hf] at h
      simp only at h
      by_cases hm : most < n'
      · rw [if_pos hm] at h; cases h
      · rw [if_neg hm] at h
        cases h
        obtain ⟨m, e, hk, ht, _⟩ := readAt_back 9 0 0 n k hf
        refine ⟨?_, hle⟩
        have e' : n = m := by rw [e]; simp
        rw [e', ← ht]
        simp
theorem rid_back {s : St} {t n : Nat} {rest : List (BitVec 8)} (h : rid s = ((t, n), some rest)) : s = some (numB t ++ numB n ++ rest) ∧ t ≤ 1152921504606846976 ∧ n ≤ 63 := by
  unfold rid at h
  cases h2 : (rnum 63 (rnum 1152921504606846976 s).2).2 with
  | none => rw [h2] at h; cases h
  | some r2 =>
    rw [h2] at h
    simp only at h
    injection h with h3 h4
    injection h4 with h4
    injection h3 with h5 h6
    subst h4
    have a2 := rnum_back (most := 63) (s := (rnum 1152921504606846976 s).2) (n := n) (rest := r2) (by rw [← h6, ← h2])
    have a1 := rnum_back (most := 1152921504606846976) (s := s) (n := t) (rest := numB n ++ r2) (by rw [← h5, ← a2.1])
    exact ⟨by rw [a1.1, List.append_assoc], a1.2, a2.2⟩
theorem rbytes_back {s : St} {cs rest : List (BitVec 8)} (h : rbytes s = (cs, some rest)) : s = some (numB cs.length ++ cs ++ rest) ∧ cs.length ≤ 65536 := by
  unfold rbytes at h
  cases h2 : (rnum 65536 s).2 with
  | none => rw [h2] at h; cases h
  | some bs =>
    rw [h2] at h
    simp only at h
    by_cases hl : bs.length < (rnum 65536 s).1
    · rw [if_pos hl] at h; cases h
    · rw [if_neg hl] at h
      injection h with h3 h4
      injection h4 with h4
      have a1 := rnum_back (most := 65536) (s := s) (n := (rnum 65536 s).1) (rest := bs) (by rw [← h2])
      have hlen : cs.length = (rnum 65536 s).1 := by rw [← h3, List.length_take]; omega
      refine ⟨a1.1.trans ?_, by rw [hlen]; exact a1.2⟩
      rw [hlen, List.append_assoc, ← h3, ← h4, List.take_append_drop]
theorem rnums_back {most : Nat} : ∀ (k : Nat) {s : St} {vs : List Nat} {rest : List (BitVec 8)}, rnums most k s = (vs, some rest) → s = some (numsB (zs vs) ++ rest)
  | 0, s, vs, rest, h => by
    rw [rnums] at h
    injection h with h1 h2
    rw [h2, ← h1]
    rfl
  | k + 1, s, vs, rest, h => by
    rw [rnums] at h
    injection h with h1 h2
    have ih := rnums_back k (s := (rnum most s).2) (vs := (rnums most k (rnum most s).2).1) (rest := rest) (by rw [← h2])
    have a1 := rnum_back (most := most) (s := s) (n := (rnum most s).1) (rest := numsB (zs (rnums most k (rnum most s).2).1) ++ rest) (by rw [← ih])
    rw [a1.1, ← h1]
    simp [zs, numsB]
theorem rvec_back {s : St} {vs : List Nat} {rest : List (BitVec 8)} (h : rvec s = (vs, some rest)) : s = some (numB vs.length ++ numsB (zs vs) ++ rest) := by
  unfold rvec at h
  cases h2 : (rnums 1152921504606846976 (rnum 64 s).1 (rnum 64 s).2).2 with
  | none => rw [h2] at h; cases h
  | some bs =>
    rw [h2] at h
    simp only at h
    by_cases hl : (rnums 1152921504606846976 (rnum 64 s).1 (rnum 64 s).2).1.getLast? = some 0
    · rw [if_pos hl] at h; cases h
    · rw [if_neg hl] at h
      injection h with h3 h4
      injection h4 with h4
      subst h4
      have a2 := rnums_back (most := 1152921504606846976) (rnum 64 s).1 (s := (rnum 64 s).2) (vs := vs) (rest := bs) (by rw [← h3, ← h2])
      have hlen : vs.length = (rnum 64 s).1 := by rw [← h3]; exact rnums_length _ _ _
      have a1 := rnum_back (most := 64) (s := s) (n := (rnum 64 s).1) (rest := numsB (zs vs) ++ bs) (by rw [← a2])
      exact a1.1.trans (by rw [hlen, List.append_assoc])
theorem norm_zs (vs : List Nat) (h64 : vs.length ≤ 64) (hx : ∀ x ∈ vs, x ≤ mtime) (hl : vs.getLast? ≠ some 0) : mayB (zs vs) = true ∧ normOf (zs vs) = zs vs := by
  have hm := mayB_yes vs h64 hx
  refine ⟨hm, ?_⟩
  rw [norm_take _ hm, tl_full (zs vs) (by
    unfold zs
    rw [List.getLast?_map]
    intro e
    obtain ⟨y, hy, he⟩ := Option.map_eq_some_iff.1 e
    have : y = 0 := by omega
    rw [this] at hy
    exact hl hy), List.take_length]

/-- What is read whole is written as it was. -/
theorem write_back {bs : List (BitVec 8)} {o : Opn} (h : readO bs = (o, some [])) : o.bytes = bs := by
  unfold readO at h
  simp only at h
  obtain ⟨a1, h1⟩ : ∃ x, rnum 4611686018427387904 (some bs) = x := ⟨_, rfl⟩
  obtain ⟨a2, h2⟩ : ∃ x, rid a1.2 = x := ⟨_, rfl⟩
  obtain ⟨a3, h3⟩ : ∃ x, rnum 4611686018427387904 a2.2 = x := ⟨_, rfl⟩
  obtain ⟨a4, h4⟩ : ∃ x, rid a3.2 = x := ⟨_, rfl⟩
  obtain ⟨a5, h5⟩ : ∃ x, rid a4.2 = x := ⟨_, rfl⟩
  obtain ⟨a6, h6⟩ : ∃ x, rbytes a5.2 = x := ⟨_, rfl⟩
  obtain ⟨a7, h7⟩ : ∃ x, rbytes a6.2 = x := ⟨_, rfl⟩
  obtain ⟨a8, h8⟩ : ∃ x, rvec a7.2 = x := ⟨_, rfl⟩
  rw [h1, h2, h3, h4, h5, h6, h7, h8] at h
  injection h with ho hs
  have hg := rvec_good a7.2
  rw [h8] at hg
  obtain ⟨vs, s8⟩ := a8
  simp only at ho hs hg
  subst hs
  have b8 := rvec_back h8
  obtain ⟨cs7, s7⟩ := a7
  simp only at b8
  subst b8
  have b7 := rbytes_back h7
  obtain ⟨cs6, s6⟩ := a6
  simp only at b7
  rw [b7.1] at h6
  have b6 := rbytes_back h6
  obtain ⟨⟨x5, y5⟩, s5⟩ := a5
  simp only at b6
  rw [b6.1] at h5
  have b5 := rid_back h5
  obtain ⟨⟨x4, y4⟩, s4⟩ := a4
  simp only at b5
  rw [b5.1] at h4
  have b4 := rid_back h4
  obtain ⟨x3, s3⟩ := a3
  simp only at b4
  rw [b4.1] at h3
  have b3 := rnum_back h3
  obtain ⟨⟨x2, y2⟩, s2⟩ := a2
  simp only at b3
  rw [b3.1] at h2
  have b2 := rid_back h2
  obtain ⟨x1, s1⟩ := a1
  simp only at b2
  rw [b2.1] at h1
  have b1 := rnum_back h1
  obtain ⟨n1, n2⟩ := norm_zs vs hg.2.1 hg.1 hg.2.2
  rw [← ho]
  unfold Opn.bytes bytesO partsO
  simp only
  have k1 : eNum (x1 : Int) = some (numB x1) := by unfold eNum; rw [if_pos (by omega)]; rfl
  have k3 : eNum (x3 : Int) = some (numB x3) := by unfold eNum; rw [if_pos (by omega)]; rfl
  have k2 : ∀ x y : Nat, x ≤ 1152921504606846976 → y ≤ 63 → eID (x : Int) (y : Int) = some (numB x ++ numB y) := fun x y hx hy => by unfold eID; rw [if_pos (by omega)]; rfl
  have k6 : ∀ cs : List (BitVec 8), cs.length ≤ 65536 → eBytes cs = some (numB cs.length ++ cs) := fun cs hc => by unfold eBytes; rw [if_pos hc]
  have k8 : eVec (zs vs) = some (numB vs.length ++ numsB (zs vs)) := by unfold eVec; rw [if_pos n1, n2, zs_length]
  rw [k1, k3, k2 x2 y2 b2.2.1 b2.2.2, k2 x4 y4 b4.2.1 b4.2.2, k2 x5 y5 b5.2.1 b5.2.2, bvs_u8s, k6 cs6 b6.2, k6 cs7 b7.2, k8]
  have := b1.1
  injection this with this
  rw [this]
  simp

end Go.Proofs.YtegjageenofbjaaGreat.Cd
