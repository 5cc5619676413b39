/-
  firstNumber of package codec.
-/
import Derived.Test.YtegjageenofbjaaGreatKbase
namespace Go.Proofs.YtegjageenofbjaaGreat.Cd
open Go.RowKit

theorem or_add {a b n : Nat} (h : a < 2 ^ n) : a ||| (b * 2 ^ n) = a + b * 2 ^ n := by
  rw [← Nat.shiftLeft_eq, Nat.or_comm, ← Nat.shiftLeft_add_eq_or_of_lt h, Nat.add_comm]
theorem i64_or_nat (a b : Nat) (ha : a < 9223372036854775808) (hb : b < 9223372036854775808) : bits .or .i64 (a : Int) (b : Int) = ((a ||| b : Nat) : Int) := by
  have hx : a ||| b < 2 ^ 63 := Nat.or_lt_two_pow (by omega) (by omega)
  show IntKind.i64.wrap ((BitVec.ofInt 64 (a : Int) ||| BitVec.ofInt 64 (b : Int)).toNat : Int) = _
  rw [BitVec.toNat_or, ofInt_u64 a (by omega), ofInt_u64 b (by omega)]
  simp [IntKind.wrap, IntKind.bits, IntKind.signed]
  omega
theorem pow128 (i : Nat) : 128 ^ i = 2 ^ (7 * i) := by rw [Nat.pow_mul]

theorem more_bits (acc i d : Nat) (hi : i < 9) (ha : acc < 128 ^ i) (hd : d < 128) : bits .or .i64 (acc : Int) (wrap64 ((d : Int) * 2 ^ (7 * i))) = ((acc + d * 128 ^ i : Nat) : Int) ∧ acc + d * 128 ^ i < 128 ^ (i + 1) := by
  have hp : 128 ^ (i + 1) = 128 * 128 ^ i := by rw [Nat.pow_succ, Nat.mul_comm]
  have h1 : d * 128 ^ i ≤ 127 * 128 ^ i := Nat.mul_le_mul_right _ (by omega)
  have h2 : 128 ^ (i + 1) ≤ 128 ^ 9 := Nat.pow_le_pow_right (by decide) (by omega)
  have h3 : (128 : Nat) ^ 9 = 9223372036854775808 := by decide
  have h4 : acc + d * 128 ^ i < 128 ^ (i + 1) := by rw [hp]; omega
  refine ⟨?_, h4⟩
  have e1 : (d : Int) * 2 ^ (7 * i) = ((d * 128 ^ i : Nat) : Int) := by
    rw [pow128]; simp
  have hw : wrap64 ((d * 128 ^ i : Nat) : Int) = ((d * 128 ^ i : Nat) : Int) := by
    unfold wrap64
    omega
  rw [e1, hw, i64_or_nat _ _ (by omega) (by omega), pow128, or_add (by rw [← pow128]; exact ha)]

set_option maxRecDepth 8000 in
set_option maxRecDepth 8000 in
set_option maxHeartbeats 1000000 in
theorem first_short (p : Option Addr) (bs : List (BitVec 8)) (cp : Nat) (w : World) (hl : bs.length ≤ cp) (hl1 : bs.length ≤ 1000000000) (hg : bs.length ≤ 9) (hb : Bytes w p bs) :
    Calls Tryz.prog 103 #[.slice p bs.length cp] w fun e w' => e = .returned (.tuple #[.int .i64 ((first bs).getD (0, 0)).1, .int .i64 ((first bs).getD (0, 0)).2]) ∧ w' = w := by
  have HB : Hid (Bytes w p bs) := hb
  have hgI : (bs.length : Int) ≤ 9 := by omega
  clear hb
  go_enter Tryz.func103, Tryz.ntmps103
  go_wp2_with fail
  go_loop [4, 13] (fun aa ii => ∃ i acc : Nat, aa = .int .i64 acc ∧ ii = .int .i64 i ∧ i ≤ bs.length ∧ Hid (acc < 128 ^ i) ∧ Hid (readAt bs (9 - i) i acc = first bs)) (fun _ ii => bs.length - (intOf ii).toNat)
  case atStart => exact ⟨0, 0, rfl, rfl, Nat.zero_le _, (by decide : 0 < 128 ^ 0), rfl⟩
  case round =>
    obtain ⟨i, acc, rfl, rfl, hi, HA, HE⟩ := hrel
    by_cases hlt : i < bs.length
    · obtain ⟨b, o, rfl, hbs⟩ := HB.out (by omega)
      obtain ⟨x, hx⟩ : ∃ x, bs[i]? = some x := ⟨_, List.getElem?_eq_getElem (by omega)⟩
      have c1 := hbs i x hx
      have hltI : (i : Int) < bs.length := by omega
      have e9 : 9 - i = (9 - (i + 1)) + 1 := by omega
      have HE' : Hid ((if x.toNat < 128 then (if x.toNat = 0 ∧ 0 < i then none else some (acc + x.toNat * 128 ^ i, i + 1)) else readAt bs (9 - (i + 1)) (i + 1) (acc + x.toNat % 128 * 128 ^ i)) = first bs) := by
        have := HE.out
        rw [e9, readAt, hx] at this
        exact this
      clear hx hbs HE e9
      unfold u8v at c1
      have hx256 : x.toNat < 256 := x.isLt
      by_cases hge : x.toNat < 128
      · by_cases hz : x.toNat = 0
        · rw [hz] at c1 HE'
          by_cases hi0 : i = 0
          · subst hi0
            obtain rfl : acc = 0 := by have := HA.out; omega
            have e1 := (more_bits 0 0 0 (by decide) (by decide) (by decide)).1
            simp at e1
            rw [Nat.add_zero] at c1
            clear hz hge hx256
            go_wp2
            go_ret2
            refine ⟨?_, rfl⟩
            rw [← HE'.out]
            rfl
          · have hip : (0 : Int) < i := by omega
            clear hz hge hx256
            go_wp2
            go_ret2
            refine ⟨?_, rfl⟩
            rw [← HE'.out, if_pos (by decide), if_pos (by simp; omega)]
            rfl
        · obtain ⟨e1, _⟩ := more_bits acc i x.toNat (by omega) HA.out hge
          obtain ⟨acc', ha'⟩ : ∃ acc', acc' = acc + x.toNat * 128 ^ i := ⟨_, rfl⟩
          have e2 : (x.toNat : Int) % 128 = x.toNat := by omega
          rw [← ha'] at e1
          have HACC : Hid (acc' = acc + x.toNat * 128 ^ i) := ha'
          have hgeI : ¬ (128 : Int) ≤ x.toNat := by omega
          have hz' : ((x.toNat : Int) == 0) = false := by simpa using hz
          have HZ : Hid (x.toNat ≠ 0) := hz
          have HGE : Hid (x.toNat < 128) := hge
          clear ha' hz hge
          go_wp2
          go_ret2
          refine ⟨?_, rfl⟩
          rw [← HE'.out, if_pos HGE.out, if_neg (fun h => HZ.out h.1), ← HACC.out]
          rfl
      · obtain ⟨e1, e2⟩ := more_bits acc i (x.toNat % 128) (by omega) HA.out (by omega)
        obtain ⟨acc', ha'⟩ : ∃ acc', acc' = acc + x.toNat % 128 * 128 ^ i := ⟨_, rfl⟩
        rw [← ha'] at e1 e2
        rw [show ((x.toNat % 128 : Nat) : Int) = (x.toNat : Int) % 128 by omega] at e1
        have HACC : Hid (acc' = acc + x.toNat % 128 * 128 ^ i) := ha'
        have HA' : Hid (acc' < 128 ^ (i + 1)) := e2
        have hgeI : (128 : Int) ≤ x.toNat := by omega
        have HGE : Hid (¬ x.toNat < 128) := hge
        clear ha' hge e2
        go_wp2
        go_round
        case rel =>
          refine ⟨i + 1, acc', rfl, by go_num, by omega, HA', ?_⟩
          have := HE'.out
          rw [if_neg HGE.out, ← HACC.out] at this
          exact this
        case measure => simp [intOf]; omega
    · obtain rfl : i = bs.length := by omega
      have hno : first bs = none := by
        rw [← HE.out]
        by_cases h9 : bs.length = 9
        · rw [show 9 - bs.length = 0 by omega]; rfl
        · rw [show 9 - bs.length = (9 - (bs.length + 1)) + 1 by omega, readAt, List.getElem?_eq_none (by omega)]
      have HNO : Hid (first bs = none) := hno
      clear hlt hno
      go_wp2
      go_ret2
      rw [HNO.out]
      exact ⟨rfl, rfl⟩

set_option maxRecDepth 8000 in
set_option maxRecDepth 8000 in
set_option maxHeartbeats 1000000 in
theorem first_long (p : Option Addr) (bs : List (BitVec 8)) (cp : Nat) (w : World) (hl : bs.length ≤ cp) (hl1 : bs.length ≤ 1000000000) (hg : 9 < bs.length) (hb : Bytes w p bs) :
    Calls Tryz.prog 103 #[.slice p bs.length cp] w fun e w' => e = .returned (.tuple #[.int .i64 ((first bs).getD (0, 0)).1, .int .i64 ((first bs).getD (0, 0)).2]) ∧ w' = w := by
  have HB : Hid (Bytes w p bs) := hb
  have hgI : (9 : Int) < bs.length := by omega
  have hgc : 9 ≤ cp := by omega
  clear hb
  go_enter Tryz.func103, Tryz.ntmps103
  go_wp2_with fail
  go_loop [4, 13] (fun aa ii => ∃ i acc : Nat, aa = .int .i64 acc ∧ ii = .int .i64 i ∧ i ≤ 9 ∧ Hid (acc < 128 ^ i) ∧ Hid (readAt bs (9 - i) i acc = first bs)) (fun _ ii => 9 - (intOf ii).toNat)
  case atStart => exact ⟨0, 0, rfl, rfl, Nat.zero_le _, (by decide : 0 < 128 ^ 0), rfl⟩
  case round =>
    obtain ⟨i, acc, rfl, rfl, hi, HA, HE⟩ := hrel
    by_cases hlt : i < 9
    · obtain ⟨b, o, rfl, hbs⟩ := HB.out (by omega)
      obtain ⟨x, hx⟩ : ∃ x, bs[i]? = some x := ⟨_, List.getElem?_eq_getElem (by omega)⟩
      have c1 := hbs i x hx
      have hltI : (i : Int) < 9 := by omega
      have e9 : 9 - i = (9 - (i + 1)) + 1 := by omega
      have HE' : Hid ((if x.toNat < 128 then (if x.toNat = 0 ∧ 0 < i then none else some (acc + x.toNat * 128 ^ i, i + 1)) else readAt bs (9 - (i + 1)) (i + 1) (acc + x.toNat % 128 * 128 ^ i)) = first bs) := by
        have := HE.out
        rw [e9, readAt, hx] at this
        exact this
      clear hx hbs HE e9
      unfold u8v at c1
      have hx256 : x.toNat < 256 := x.isLt
      by_cases hge : x.toNat < 128
      · by_cases hz : x.toNat = 0
        · rw [hz] at c1 HE'
          by_cases hi0 : i = 0
          · subst hi0
            obtain rfl : acc = 0 := by have := HA.out; omega
            have e1 := (more_bits 0 0 0 (by decide) (by decide) (by decide)).1
            simp at e1
            rw [Nat.add_zero] at c1
            clear hz hge hx256
            go_wp2
            go_ret2
            refine ⟨?_, rfl⟩
            rw [← HE'.out]
            rfl
          · have hip : (0 : Int) < i := by omega
            clear hz hge hx256
            go_wp2
            go_ret2
            refine ⟨?_, rfl⟩
            rw [← HE'.out, if_pos (by decide), if_pos (by simp; omega)]
            rfl
        · obtain ⟨e1, _⟩ := more_bits acc i x.toNat (by omega) HA.out hge
          obtain ⟨acc', ha'⟩ : ∃ acc', acc' = acc + x.toNat * 128 ^ i := ⟨_, rfl⟩
          have e2 : (x.toNat : Int) % 128 = x.toNat := by omega
          rw [← ha'] at e1
          have HACC : Hid (acc' = acc + x.toNat * 128 ^ i) := ha'
          have hgeI : ¬ (128 : Int) ≤ x.toNat := by omega
          have hz' : ((x.toNat : Int) == 0) = false := by simpa using hz
          have HZ : Hid (x.toNat ≠ 0) := hz
          have HGE : Hid (x.toNat < 128) := hge
          clear ha' hz hge
          go_wp2
          go_ret2
          refine ⟨?_, rfl⟩
          rw [← HE'.out, if_pos HGE.out, if_neg (fun h => HZ.out h.1), ← HACC.out]
          rfl
      · obtain ⟨e1, e2⟩ := more_bits acc i (x.toNat % 128) (by omega) HA.out (by omega)
        obtain ⟨acc', ha'⟩ : ∃ acc', acc' = acc + x.toNat % 128 * 128 ^ i := ⟨_, rfl⟩
        rw [← ha'] at e1 e2
        rw [show ((x.toNat % 128 : Nat) : Int) = (x.toNat : Int) % 128 by omega] at e1
        have HACC : Hid (acc' = acc + x.toNat % 128 * 128 ^ i) := ha'
        have HA' : Hid (acc' < 128 ^ (i + 1)) := e2
        have hgeI : (128 : Int) ≤ x.toNat := by omega
        have HGE : Hid (¬ x.toNat < 128) := hge
        clear ha' hge e2
        go_wp2
        go_round
        case rel =>
          refine ⟨i + 1, acc', rfl, by go_num, by omega, HA', ?_⟩
          have := HE'.out
          rw [if_neg HGE.out, ← HACC.out] at this
          exact this
        case measure => simp [intOf]; omega
    · obtain rfl : i = 9 := by omega
      have hno : first bs = none := by
        rw [← HE.out]; rfl
      have HNO : Hid (first bs = none) := hno
      clear hlt hno
      go_wp2
      go_ret2
      rw [HNO.out]
      exact ⟨rfl, rfl⟩

theorem firstNumber_any (p : Option Addr) (bs : List (BitVec 8)) (cp : Nat) (w : World) (hl : bs.length ≤ cp) (hl1 : bs.length ≤ 1000000000) (hb : Bytes w p bs) :
    Calls Tryz.prog 103 #[.slice p bs.length cp] w fun e w' => e = .returned (.tuple #[.int .i64 ((first bs).getD (0, 0)).1, .int .i64 ((first bs).getD (0, 0)).2]) ∧ w' = w :=
  if h : bs.length ≤ 9 then first_short p bs cp w hl hl1 h hb else first_long p bs cp w hl hl1 (by omega) hb

end Go.Proofs.YtegjageenofbjaaGreat.Cd
