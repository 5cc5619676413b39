/-
  The document's number.
-/
import Derived.Test.YtjggnmeeeofepaaDoorKAe

namespace Go.Proofs.YtjggnmeeeofepaaDoor.Ck.Sh
open Go.RowKit Go.Lib

attribute [local go_sem] Oper.semAt_some

/-- What number says. -/
def badL (l : List UInt8) : Prop := l = [] ∨ (l.head? = some 48 ∧ 1 < l.length) ∨ 19 < l.length
def numL (l : List UInt8) (n : Int) : Prop := (badL l → n = -1) ∧ (¬ badL l → ((∀ c ∈ l, digB c = true) → n = wrap64 (valL l : Nat)) ∧ ((¬ ∀ c ∈ l, digB c = true) → n = -1))
theorem numL_dec {l : List UInt8} {n : Int} (h : numL l n) (h0 : 0 ≤ n) : l = itoa n := by
  by_cases hb : badL l
  · have := h.1 hb; omega
  obtain ⟨h1, h2⟩ := h.2 hb
  by_cases hd : ∀ c ∈ l, digB c = true
  · have e := h1 hd
    have hlt := valL_lt hd
    have hlen : l.length ≤ 19 := by
      by_cases h19 : 19 < l.length
      · exact absurd (.inr (.inr h19)) hb
      · omega
    have h10 : valL l < 10 ^ 19 := Nat.lt_of_lt_of_le hlt (Nat.pow_le_pow_right (by decide) hlen)
    have hv : n = (valL l : Nat) := by
      generalize valL l = v at e h10
      unfold wrap64 at e
      omega
    rw [itoa_dec h0, hv, Int.toNat_natCast]
    refine (dec_of' ⟨fun e => hb (.inl e), fun e => ?_, hd⟩).symm
    have : ¬ 1 < l.length := fun h => hb (.inr (.inl ⟨e, h⟩))
    have : l ≠ [] := fun e => hb (.inl e)
    have := List.length_pos_iff.2 this
    omega
  · have := h2 hd; omega
theorem numL_of {l : List UInt8} {n z : Int} (h : numL l n) (h0 : 0 ≤ z) (h1 : z ≤ 1152921504606846976) (e : l = itoa z) : n = z := by
  rw [itoa_dec h0] at e
  have hf := dec_fine z.toNat
  rw [← e] at hf
  have hl : l.length ≤ 19 := by rw [e]; exact dec_len 18 (by omega)
  have hb : ¬ badL l := by
    rintro (h | ⟨h, h'⟩ | h)
    · exact hf.1 h
    · have := hf.2.1 h; omega
    · omega
  rw [(h.2 hb).1 hf.2.2, e, dec_val]
  have hu : ((z.toNat : Nat) : Int) = z := by omega
  rw [hu]
  clear e hf hl hb h hu
  unfold wrap64
  omega
/-- One digit more. -/
theorem num_step {l : List UInt8} {i : Nat} {c : UInt8} {k : Nat} {v : Int} (hc : l[i]? = some c) (hk : c.toNat = k) (hd : 48 ≤ k ∧ k ≤ 57) (h1 : ∀ c ∈ l.take i, digB c = true) (h2 : v = wrap64 (valL (l.take i) : Nat)) (h3 : l.length ≤ 19) (h4 : i < l.length) :
    ∃ dg : Nat, ((k : Int) - 48) % 256 = (dg : Int) ∧ ¬ (1152921504606846976 : Int) < v ∧ (k : Int) - 48 = (dg : Int) ∧ (dg < 10) ∧ Hid ((∀ c ∈ l.take (i + 1), digB c = true) ∧ wrap64 (wrap64 (10 * v) + dg) = wrap64 (valL (l.take (i + 1)) : Nat)) := by
  have hlt := valL_lt h1
  have hl : (l.take i).length = i := by simp; omega
  rw [hl] at hlt
  have h10 : valL (l.take i) < 10 ^ 18 := Nat.lt_of_lt_of_le hlt (Nat.pow_le_pow_right (by decide) (by omega))
  have ht : l.take (i + 1) = l.take i ++ [c] := by rw [List.take_add_one, hc]; rfl
  refine ⟨k - 48, by omega, ?_, by omega, by omega, ?_, ?_⟩
  · generalize valL (l.take i) = x at *
    rw [h2]
    unfold wrap64
    omega
  · rw [ht]
    intro x hx
    rcases List.mem_append.1 hx with h | h
    · exact h1 x h
    · rw [List.mem_singleton.1 h]
      unfold digB
      rw [hk]
      simp
      exact hd
  · rw [ht, valL_snoc, hk]
    generalize valL (l.take i) = x at *
    have hx : v = (x : Int) := by
      rw [h2]
      unfold wrap64
      omega
    clear h2
    subst hx
    have : ((x * 10 + (k - 48) : Nat) : Int) = 10 * (x : Int) + ((k - 48 : Nat) : Int) := by omega
    rw [this]
    generalize ((k - 48 : Nat) : Int) = y
    generalize 10 * (x : Int) = xx
    unfold wrap64
    omega

set_option maxRecDepth 8000 in
set_option maxRecDepth 8000 in
set_option maxHeartbeats 1000000 in
theorem rnumber_any (l : List UInt8) (hl : l.length < 1000000000000000) (w : World) : Calls Tryd.prog 26 #[.string (bas l)] w fun e w' => (∃ n, e = .returned (.int .i64 n) ∧ Hid (numL l n)) ∧ w' = w := by
  have hsz := bas_size l
  cases l with
  | nil =>
    have e0 : bas [] = ⟨#[]⟩ := rfl
    rw [e0]
    go_enter Tryd.func26, Tryd.ntmps26
    go_wp2_with fail
    go_ret
    exact ⟨⟨_, rfl, fun _ => rfl, fun h => absurd (.inl rfl) h⟩, rfl⟩
  | cons c0 l0 =>
    obtain ⟨l, hll⟩ : ∃ l, l = c0 :: l0 := ⟨_, rfl⟩
    have hne : (bas l).toList.isEmpty = false := by rw [bas_toList, hll]; rfl
    have hne' : ((bas l).toList == []) = false := by rw [bas_toList, hll]; rfl
    have h0 : ∀ h : 0 < (bas l).size, (bas l)[0]'h = c0 := fun h => by
      show (bas l).data[0] = c0
      have : l[0]? = some c0 := by rw [hll]; rfl
      exact (List.getElem?_eq_some_iff.1 this).2
    have hpos : 0 < l.length := by rw [hll]; simp
    have hposI : (0 : Int) < (l.length : Int) := by omega
    rw [← hll] at hsz hl ⊢
    have hh : Hid (l.head? = some c0) := by rw [hll]; rfl
    clear hll l0
    obtain ⟨n0, hn0⟩ : ∃ n0, c0.toNat = n0 := ⟨_, rfl⟩
    by_cases h48 : n0 = 48
    · by_cases h1 : 1 < l.length
      · have h1I : (1 : Int) < (l.length : Int) := by omega
        have HB : Hid (badL l) := .inr (.inl ⟨by rw [hh.out]; congr 1; apply UInt8.toNat_inj.1; rw [hn0, h48]; rfl, h1⟩)
        subst h48
        clear h1
        go_enter Tryd.func26, Tryd.ntmps26
        go_wp2_with fail
        go_ret
        exact ⟨⟨_, rfl, fun _ => rfl, fun h => absurd HB.out h⟩, rfl⟩
      · have h1I : ¬ (1 : Int) < (l.length : Int) := by omega
        have h19 : ¬ (19 : Int) < (l.length : Int) := by omega
        have HB : Hid (¬ badL l) := by
          rintro (h | ⟨_, h⟩ | h)
          · rw [h] at hpos; simp at hpos
          · exact h1 h
          · omega
        have H19 : Hid (l.length ≤ 19) := by show _ ≤ _; omega
        subst h48
        clear h1
        go_enter Tryd.func26, Tryd.ntmps26
        go_wp2_with fail
        go_loopw [3, 4] (fun nn ii wr => ∃ (i : Nat) (v : Int), nn = .int .i64 v ∧ ii = .int .i64 i ∧ i ≤ l.length ∧ wr = w ∧ Hid ((∀ c ∈ l.take i, digB c = true) ∧ v = wrap64 (valL (l.take i) : Nat))) (fun _ ii _ => l.length - (RowKit.intOf ii).toNat)
        case atStart => exact ⟨0, 0, rfl, rfl, Nat.zero_le _, rfl, fun c hc => by simp at hc, by simp [valL, valF_nil, wrap64]⟩
        case round =>
          obtain ⟨i, v, rfl, rfl, hi, rfl, HI⟩ := hrel
          by_cases hlt : i < l.length
          · have hltI : (i : Int) < (l.length : Int) := by omega
            obtain ⟨c, hc⟩ : ∃ c, l[i]? = some c := ⟨_, List.getElem?_eq_getElem hlt⟩
            have hci : ∀ h : i < (bas l).size, (bas l)[i]'h = c := fun h => by
              show (bas l).data[i] = c
              exact (List.getElem?_eq_some_iff.1 hc).2
            have HC := Lib.hid hc
            clear hc
            obtain ⟨k, hk⟩ : ∃ k, c.toNat = k := ⟨_, rfl⟩
            by_cases hd : 48 ≤ k ∧ k ≤ 57
            · have d1 : ¬ (k : Int) < 48 := by omega
              have d2 : ¬ (57 : Int) < (k : Int) := by omega
              obtain ⟨dg, e1, e2, e3, e4, HN⟩ := num_step HC.out hk hd HI.out.1 HI.out.2 H19.out hlt
              clear hd
              go_wp2_with fail
              exact ⟨⟨i + 1, _, rfl, by simp, by omega, trivial, HN⟩, by simp [RowKit.intOf]; omega⟩
            · have HF : Hid (¬ ∀ c ∈ l, digB c = true) := fun h => by
                have := h c (List.mem_of_getElem? HC.out)
                unfold digB at this
                simp only [Bool.and_eq_true, decide_eq_true_eq] at this
                exact hd (by omega)
              by_cases d1 : (k : Int) < 48
              · clear hd
                go_wp2_with fail
                go_ret
                exact ⟨⟨_, rfl, fun h => absurd h HB.out, fun _ => ⟨fun h => absurd h HF.out, fun _ => rfl⟩⟩, rfl⟩
              · have d2 : (57 : Int) < (k : Int) := by omega
                clear hd
                go_wp2_with fail
                go_ret
                exact ⟨⟨_, rfl, fun h => absurd h HB.out, fun _ => ⟨fun h => absurd h HF.out, fun _ => rfl⟩⟩, rfl⟩
          · obtain rfl : i = l.length := by omega
            have HE : Hid (numL l v) := by
              have := HI.out
              rw [List.take_length] at this
              exact ⟨fun h => absurd h HB.out, fun _ => ⟨fun _ => this.2, fun h => absurd this.1 h⟩⟩
            go_wp2_with fail
            go_ret
            exact ⟨⟨v, rfl, HE⟩, rfl⟩
    · have h48I : ((n0 : Int) == 48) = false := by rw [beq_eq_false_iff_ne]; omega
      by_cases h19 : 19 < l.length
      · have h19I : (19 : Int) < (l.length : Int) := by omega
        have HB : Hid (badL l) := .inr (.inr h19)
        clear h19
        go_enter Tryd.func26, Tryd.ntmps26
        go_wp2_with fail
        go_ret
        exact ⟨⟨_, rfl, fun _ => rfl, fun h => absurd HB.out h⟩, rfl⟩
      · have h19I : ¬ (19 : Int) < (l.length : Int) := by omega
        have HB : Hid (¬ badL l) := by
          rintro (h | ⟨h, _⟩ | h)
          · rw [h] at hpos; simp at hpos
          · rw [hh.out] at h
            injection h with h
            rw [h] at hn0
            exact h48 hn0.symm
          · exact h19 h
        have H19 : Hid (l.length ≤ 19) := by show _ ≤ _; omega
        clear h19
        go_enter Tryd.func26, Tryd.ntmps26
        go_wp2_with fail
        go_loopw [3, 4] (fun nn ii wr => ∃ (i : Nat) (v : Int), nn = .int .i64 v ∧ ii = .int .i64 i ∧ i ≤ l.length ∧ wr = w ∧ Hid ((∀ c ∈ l.take i, digB c = true) ∧ v = wrap64 (valL (l.take i) : Nat))) (fun _ ii _ => l.length - (RowKit.intOf ii).toNat)
        case atStart => exact ⟨0, 0, rfl, rfl, Nat.zero_le _, rfl, fun c hc => by simp at hc, by simp [valL, valF_nil, wrap64]⟩
        case round =>
          obtain ⟨i, v, rfl, rfl, hi, rfl, HI⟩ := hrel
          by_cases hlt : i < l.length
          · have hltI : (i : Int) < (l.length : Int) := by omega
            obtain ⟨c, hc⟩ : ∃ c, l[i]? = some c := ⟨_, List.getElem?_eq_getElem hlt⟩
            have hci : ∀ h : i < (bas l).size, (bas l)[i]'h = c := fun h => by
              show (bas l).data[i] = c
              exact (List.getElem?_eq_some_iff.1 hc).2
            have HC := Lib.hid hc
            clear hc
            obtain ⟨k, hk⟩ : ∃ k, c.toNat = k := ⟨_, rfl⟩
            by_cases hd : 48 ≤ k ∧ k ≤ 57
            · have d1 : ¬ (k : Int) < 48 := by omega
              have d2 : ¬ (57 : Int) < (k : Int) := by omega
              obtain ⟨dg, e1, e2, e3, e4, HN⟩ := num_step HC.out hk hd HI.out.1 HI.out.2 H19.out hlt
              clear hd
              go_wp2_with fail
              exact ⟨⟨i + 1, _, rfl, by simp, by omega, trivial, HN⟩, by simp [RowKit.intOf]; omega⟩
            · have HF : Hid (¬ ∀ c ∈ l, digB c = true) := fun h => by
                have := h c (List.mem_of_getElem? HC.out)
                unfold digB at this
                simp only [Bool.and_eq_true, decide_eq_true_eq] at this
                exact hd (by omega)
              by_cases d1 : (k : Int) < 48
              · clear hd
                go_wp2_with fail
                go_ret
                exact ⟨⟨_, rfl, fun h => absurd h HB.out, fun _ => ⟨fun h => absurd h HF.out, fun _ => rfl⟩⟩, rfl⟩
              · have d2 : (57 : Int) < (k : Int) := by omega
                clear hd
                go_wp2_with fail
                go_ret
                exact ⟨⟨_, rfl, fun h => absurd h HB.out, fun _ => ⟨fun h => absurd h HF.out, fun _ => rfl⟩⟩, rfl⟩
          · obtain rfl : i = l.length := by omega
            have HE : Hid (numL l v) := by
              have := HI.out
              rw [List.take_length] at this
              exact ⟨fun h => absurd h HB.out, fun _ => ⟨fun _ => this.2, fun h => absurd this.1 h⟩⟩
            go_wp2_with fail
            go_ret
            exact ⟨⟨v, rfl, HE⟩, rfl⟩

end Go.Proofs.YtjggnmeeeofepaaDoor.Ck.Sh
