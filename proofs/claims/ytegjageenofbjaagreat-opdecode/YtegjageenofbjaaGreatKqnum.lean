/-
  The reader of the document's own text: a number.
-/
import Derived.Test.YtegjageenofbjaaGreatKrnum
namespace Go.Proofs.YtegjageenofbjaaGreat.Cd
open Go.RowKit

set_option maxRecDepth 8000 in
set_option maxHeartbeats 400000 in
theorem qfail_any (a : Nat) (s : St) (w : World) (h : Rd 76 w a s) : Calls Tryz.prog 93 #[.pointer (some ⟨a, 0, none⟩)] w fun e w' => e = .returned (.tuple #[]) ∧ Rd 76 w' a none ∧ Only (· = a) w w' := by
  obtain ⟨p, c, hpl, h1, h2, h3⟩ := h.at_
  have c0 : w.cell? ⟨a, 0, none⟩ = some (.slice p (s.getD []).length c) := cellOf h1 0
  have c1 : w.cell? ⟨a, 1, none⟩ = some (.bool s.isNone) := cellOf h1 1
  have f0 := frozenOf h1 0
  have f1 := frozenOf h1 1
  have H1 : Hid (w.heap[a]? = some (.cells #[.slice p (s.getD []).length c, .bool s.isNone] 76 (0, 0))) := h1
  clear h1 h2 h3 h hpl
  go_enter Tryz.func93, Tryz.ntmps93
  go_wp2
  go_end0
  refine ⟨rfl, ⟨none, 0, .inl rfl, ?_, Nat.le_refl _, bytes_nil _ _, fun hl => absurd hl (Nat.lt_irrefl 0)⟩, ?_⟩
  · rw [heap_set_same (heap_set_same H1.out _)]; rfl
  · exact Only.next (Only.setCell (S := (· = a)) w ⟨a, 1, none⟩ _ rfl) (Only.setCell _ ⟨a, 0, none⟩ _ rfl)

def Didq (w : World) (a : Nat) (v : Value) (s : St) (e : Ending) (w' : World) : Prop := e = .returned v ∧ Rd 76 w' a s ∧ Only (· = a) w w'

theorem more_sum (acc i d : Nat) (hi : i < 9) (ha : acc < 128 ^ i) (hd : d < 128) : (acc : Int) + wrap64 ((d : Int) * 2 ^ (7 * i)) = ((acc + d * 128 ^ i : Nat) : Int) ∧ acc + d * 128 ^ i < 128 ^ (i + 1) ∧ acc + d * 128 ^ i < 9223372036854775808 := by
  obtain ⟨_, h4⟩ := more_bits acc i d hi ha hd
  have h2 : 128 ^ (i + 1) ≤ 128 ^ 9 := Nat.pow_le_pow_right (by decide) (by omega)
  have h3 : (128 : Nat) ^ 9 = 9223372036854775808 := by decide
  refine ⟨?_, h4, by omega⟩
  have e1 : (d : Int) * 2 ^ (7 * i) = ((d * 128 ^ i : Nat) : Int) := by
    rw [pow128]; simp
  have hw : wrap64 ((d * 128 ^ i : Nat) : Int) = ((d * 128 ^ i : Nat) : Int) := by
    unfold wrap64
    omega
  rw [e1, hw]
  omega

set_option maxRecDepth 8000 in
set_option maxRecDepth 8000 in
set_option maxHeartbeats 1000000 in
theorem qnum_any (a : Nat) (s : St) (w : World) (h : Rd 76 w a s) (hl : Small s) :
    Calls Tryz.prog 55 #[.pointer (some ⟨a, 0, none⟩)] w (Didq w a (.int .i64 (rnum 4611686018427387904 s).1) (rnum 4611686018427387904 s).2) := by
  have c60 := qfail_any a s w h
  obtain ⟨p, cp, hpl, h1, h2, h3, h4⟩ := h.at_
  obtain ⟨bs, hbs⟩ : ∃ bs, s.getD [] = bs := ⟨_, rfl⟩
  rw [hbs] at h1 h2 h3 h4
  have HT : Hid (Tg w p bs) := h4
  clear h4
  have c0 : w.cell? ⟨a, 0, none⟩ = some (.slice p bs.length cp) := cellOf h1 0
  have f0 := frozenOf h1 0
  have HR : Hid (w.heap[a]? = some (.cells #[.slice p bs.length cp, .bool s.isNone] 76 (0, 0))) := h1
  have HB : Hid (Bytes w p bs) := h3
  have HN : Hid (first bs = none → rnum 4611686018427387904 s = (0, none)) := fun hf => by
    cases s with
    | none => rfl
    | some b =>
      have hb : b = bs := hbs
      unfold rnum; simp only; rw [hb, hf]
  have HL : Hid (bs.length ≤ 1000000000) := by show _ ≤ _; rw [← hbs]; exact hl
  have HBS : Hid (s.getD [] = bs) := hbs
  clear h1 h3 h hl hbs
  go_enter Tryz.func55, Tryz.ntmps55
  go_wp2_with fail
  go_loop [3, 4] (fun aa ii => ∃ i acc : Nat, aa = .int .i64 acc ∧ ii = .int .i64 i ∧ i ≤ 9 ∧ Hid (acc < 128 ^ i) ∧ Hid (readAt bs (9 - i) i acc = first bs)) (fun _ ii => 9 - (intOf ii).toNat)
  case atStart => exact ⟨0, 0, rfl, rfl, Nat.zero_le _, (by decide : 0 < 128 ^ 0), rfl⟩
  case round =>
    obtain ⟨i, acc, rfl, rfl, hi, HA, HE⟩ := hrel
    by_cases h9 : i < 9
    · by_cases hlt : i < bs.length
      · obtain ⟨b, o, rfl, hxs⟩ := HB.out (by omega)
        obtain ⟨x, hx⟩ : ∃ x, bs[i]? = some x := ⟨_, List.getElem?_eq_getElem (by omega)⟩
        have c1 := hxs i x hx
        have hltI : ¬ (bs.length : Int) ≤ i := by omega
        have e9 : 9 - i = (9 - (i + 1)) + 1 := by omega
        have HE' : Hid ((if x.toNat < 128 then (if x.toNat = 0 ∧ 0 < i then none else some (acc + x.toNat * 128 ^ i, i + 1)) else readAt bs (9 - (i + 1)) (i + 1) (acc + x.toNat % 128 * 128 ^ i)) = first bs) := by
          have := HE.out
          rw [e9, readAt, hx] at this
          exact this
        clear hx hxs HE e9
        unfold u8v at c1
        have hx256 : x.toNat < 256 := x.isLt
        by_cases hge : x.toNat < 128
        · have HGE : Hid (x.toNat < 128) := hge
          by_cases hz : x.toNat = 0
          · by_cases hi0 : i = 0
            · subst hi0
              obtain rfl : acc = 0 := by have := HA.out; omega
              have hs : first bs = some (0, 1) := by rw [← HE'.out, if_pos hge, if_neg (by simp), hz]
              obtain rfl : s = some bs := by
                cases s with
                | none => have := HBS.out; subst this; cases hs
                | some b => exact congrArg some HBS.out
              have HS : Hid (rnum 4611686018427387904 (some bs) = (0, some (bs.drop 1))) := by
                show _ = _
                unfold rnum; simp only; rw [hs]; rfl
              rw [hz] at c1
              rw [Nat.add_zero] at c1
              have e1 := (more_sum 0 0 0 (by decide) (by decide) (by decide)).1
              simp at e1
              have hR : w.heap[a]? = some (.cells #[.slice (some ⟨b, o, none⟩) bs.length cp, .bool false] 76 (0, 0)) := HR.out
              by_cases hcp : 1 = cp
              · have hC := Rd.cut (k := 1) hR h2 HB.out HT.out (by omega) (some ⟨b, o, none⟩) (.inr ⟨_, _, rfl, plain_lt hpl⟩) (by intro g o e; cases e; rw [if_pos hcp])
                subst hcp
                have hb1 : bs.length = 1 := by omega
                rw [hb1] at hC
                have HC : Hid _ := hC
                clear hC hR hs hz hge hx256 hpl
                rw [hb1] at c0
                go_wp2
                go_ret
                rw [HS.out]
                exact ⟨rfl, HC.out.1, HC.out.2⟩
              · have hC := Rd.cut (k := 1) hR h2 HB.out HT.out (by omega) (some ⟨b, o + 1, none⟩) (.inr ⟨_, _, rfl, plain_lt hpl⟩) (by intro g o e; cases e; rw [if_neg hcp])
                obtain ⟨L, hL⟩ : ∃ L, bs.length = L + 1 := ⟨bs.length - 1, by omega⟩
                have hLb : L ≤ 1000000000 := by have := HL.out; omega
                rw [hL] at hC c0 h2
                have HC : Hid _ := hC
                have hcp' : ¬ cp = 1 := fun e => hcp e.symm
                clear hC hR hs hz hge hx256 hpl hltI hlt hL
                go_wp2
                go_ret
                rw [HS.out]
                exact ⟨rfl, HC.out.1, HC.out.2⟩
            · have HNO : Hid (first bs = none) := by show _ = _; rw [← HE'.out, if_pos hge, if_pos ⟨hz, by omega⟩]
              have hip : (0 : Int) < i := by omega
              rw [hz] at c1
              clear hz hge hx256 HE'
              go_wp2_with fail
              refine c60.mono ?_
              rintro e w1 ⟨rfl, k1, k2⟩
              have K1 : Hid (Rd 76 w1 a none) := k1
              have K2 : Hid (Only (· = a) w w1) := k2
              clear c60 k1 k2
              go_wp2
              go_ret
              rw [HN.out HNO.out]
              exact ⟨rfl, K1.out, K2.out⟩
          · obtain ⟨e1, e2, e3⟩ := more_sum acc i x.toNat (by omega) HA.out hge
            obtain ⟨acc', ha'⟩ : ∃ acc', acc' = acc + x.toNat * 128 ^ i := ⟨_, rfl⟩
            rw [← ha'] at e1 e2 e3
            have e4 : wrap64 (acc' : Int) = acc' := by unfold wrap64; omega
            have e5 : (x.toNat : Int) % 128 = x.toNat := by omega
            have hs : first bs = some (acc', i + 1) := by rw [← HE'.out, if_pos hge, if_neg (fun h => hz h.1), ← ha']
            have hz' : ((x.toNat : Int) == 0) = false := by simpa using hz
            have hgeI : (x.toNat : Int) < 128 := by omega
            obtain rfl : s = some bs := by
              cases s with
              | none => have := HBS.out; subst this; cases hs
              | some b => exact congrArg some HBS.out
            by_cases hm : 4611686018427387904 < acc'
            · have HS : Hid (rnum 4611686018427387904 (some bs) = (0, none)) := by
                show _ = _
                unfold rnum; simp only; rw [hs]; simp only; rw [if_pos hm]
              have hmI : (4611686018427387904 : Int) < acc' := by omega
              clear hz hge hx256 HE' hs ha' e2 hm e3
              go_wp2_with fail
              refine c60.mono ?_
              rintro e w1 ⟨rfl, k1, k2⟩
              have K1 : Hid (Rd 76 w1 a none) := k1
              have K2 : Hid (Only (· = a) w w1) := k2
              clear c60 k1 k2
              go_wp2
              go_ret
              rw [HS.out]
              exact ⟨rfl, K1.out, K2.out⟩
            · have HS : Hid (rnum 4611686018427387904 (some bs) = (acc', some (bs.drop (i + 1)))) := by
                show _ = _
                unfold rnum; simp only; rw [hs]; simp only; rw [if_neg hm]
              have hmI : ¬ (4611686018427387904 : Int) < acc' := by omega
              have hneg : ¬ (acc' : Int) < 0 := by omega
              have hR : w.heap[a]? = some (.cells #[.slice (some ⟨b, o, none⟩) bs.length cp, .bool false] 76 (0, 0)) := HR.out
              by_cases hcp : i + 1 = cp
              · have hC := Rd.cut (k := i + 1) hR h2 HB.out HT.out (by omega) (some ⟨b, o, none⟩) (.inr ⟨_, _, rfl, plain_lt hpl⟩) (by intro g o e; cases e; rw [if_pos hcp])
                subst hcp
                have hb1 : bs.length = i + 1 := by omega
                rw [hb1, Nat.sub_self] at hC
                have HC : Hid _ := hC
                rw [hb1] at c0 hltI
                clear hC hR hs hz hge hx256 hpl hm HE' ha' e2 e3
                go_wp2
                go_ret
                rw [HS.out]
                exact ⟨rfl, HC.out.1, HC.out.2⟩
              · have hC := Rd.cut (k := i + 1) hR h2 HB.out HT.out (by omega) (some ⟨b, o + (i + 1), none⟩) (.inr ⟨_, _, rfl, plain_lt hpl⟩) (by intro g o e; cases e; rw [if_neg hcp])
                have HC : Hid _ := hC
                clear hC hR hs hz hge hx256 hpl hm HE' ha' e2 e3
                go_wp2
                go_ret
                rw [HS.out]
                exact ⟨rfl, HC.out.1, HC.out.2⟩
        · obtain ⟨e1, e2, e3⟩ := more_sum acc i (x.toNat % 128) (by omega) HA.out (by omega)
          obtain ⟨acc', ha'⟩ : ∃ acc', acc' = acc + x.toNat % 128 * 128 ^ i := ⟨_, rfl⟩
          rw [← ha'] at e1 e2 e3
          rw [show ((x.toNat % 128 : Nat) : Int) = (x.toNat : Int) % 128 by omega] at e1
          have HACC : Hid (acc' = acc + x.toNat % 128 * 128 ^ i) := ha'
          have HA' : Hid (acc' < 128 ^ (i + 1)) := e2
          have e4 : wrap64 (acc' : Int) = acc' := by unfold wrap64; omega
          have hgeI : ¬ (x.toNat : Int) < 128 := by omega
          have HGE : Hid (¬ x.toNat < 128) := hge
          clear ha' hge e2 e3
          go_wp2
          go_round
          case rel =>
            refine ⟨i + 1, acc', by rw [e4], by go_num, by omega, HA', ?_⟩
            have := HE'.out
            rw [if_neg HGE.out, ← HACC.out] at this
            exact this
          case measure => simp [intOf]; omega
      · have hltI : (bs.length : Int) ≤ i := by omega
        have HNO : Hid (first bs = none) := by
          show _ = _
          rw [← HE.out, show 9 - i = (9 - (i + 1)) + 1 by omega, readAt, List.getElem?_eq_none (by omega)]
        clear hlt HE
        go_wp2_with fail
        refine c60.mono ?_
        rintro e w1 ⟨rfl, k1, k2⟩
        have K1 : Hid (Rd 76 w1 a none) := k1
        have K2 : Hid (Only (· = a) w w1) := k2
        clear c60 k1 k2
        go_wp2
        go_ret
        rw [HN.out HNO.out]
        exact ⟨rfl, K1.out, K2.out⟩
    · obtain rfl : i = 9 := by omega
      have HNO : Hid (first bs = none) := by
        show _ = _
        rw [← HE.out]; rfl
      clear h9 HE hi
      go_wp2_with fail
      refine c60.mono ?_
      rintro e w1 ⟨rfl, k1, k2⟩
      have K1 : Hid (Rd 76 w1 a none) := k1
      have K2 : Hid (Only (· = a) w w1) := k2
      clear c60 k1 k2
      go_wp2
      go_ret
      rw [HN.out HNO.out]
      exact ⟨rfl, K1.out, K2.out⟩

end Go.Proofs.YtegjageenofbjaaGreat.Cd
