/-
  The law BitmapLoad returns true.
-/
import Derived.Test.YtndefmchaohikaaDoorMstr
import Derived.Test.YtndefmchaohikaaDoorMreg
namespace Go.Proofs.YtndefmchaohikaaDoor
open Go.RowKit

/-- No bit behind the last number, by the last byte alone. -/
theorem last_byte {n : Nat} {bs : List (BitVec 8)} {ws : List Nat} {b : BitVec 8} (hf : Fit n ws) (hu : used ws = bitOf bs) (hl : bs.length = (n + 7) / 8) (h8 : n % 8 ≠ 0) (hb : bs[bs.length - 1]? = some b) :
    tooLongB n ws = false ↔ b.toNat / 2 ^ (n % 8) = 0 := by
  rw [tight_iff hf]
  unfold Tight
  rw [hu]
  have hbit : ∀ k, k < 8 → bitOf bs (8 * (bs.length - 1) + k) = b.getLsbD k := by
    intro k hk
    unfold bitOf
    rw [show (8 * (bs.length - 1) + k) / 8 = bs.length - 1 by omega, show (8 * (bs.length - 1) + k) % 8 = k by omega, List.getD, hb, Option.getD_some]
  constructor
  · intro h
    apply Nat.eq_of_testBit_eq
    intro j
    rw [Nat.testBit_div_two_pow, Nat.zero_testBit]
    by_cases hj : j + n % 8 < 8
    · have h1 := h (8 * (bs.length - 1) + (j + n % 8)) (by omega)
      rw [hbit _ hj] at h1
      exact h1
    · exact Nat.testBit_lt_two_pow (Nat.lt_of_lt_of_le b.isLt (Nat.pow_le_pow_right (by decide) (by omega)))
  · intro h i hi
    by_cases hout : 8 * bs.length ≤ i
    · exact bitOf_out hout
    · have h1 : (b.toNat / 2 ^ (n % 8)).testBit (i % 8 - n % 8) = false := by rw [h, Nat.zero_testBit]
      rw [Nat.testBit_div_two_pow] at h1
      have h2 := hbit (i % 8) (by omega)
      rw [show 8 * (bs.length - 1) + i % 8 = i by omega] at h2
      rw [h2]
      rwa [show i % 8 - n % 8 + n % 8 = i % 8 by omega] at h1
theorem last_none {n : Nat} {bs : List (BitVec 8)} {ws : List Nat} (hf : Fit n ws) (hu : used ws = bitOf bs) (hl : bs.length = (n + 7) / 8) (h8 : n % 8 = 0) : tooLongB n ws = false := by
  rw [tight_iff hf]
  intro i hi
  rw [hu]
  exact bitOf_out (by omega)

theorem bytes_take {w : World} {p : Option Addr} {bs : List (BitVec 8)} (h : Bytes w p bs) (k : Nat) : Bytes w p (bs.take k) := by
  intro hl
  have hl' : 0 < bs.length := by simp at hl; omega
  obtain ⟨b, o, e, hx⟩ := h hl'
  refine ⟨b, o, e, fun j x hj => hx j x ?_⟩
  rw [List.getElem?_take] at hj
  split at hj
  · exact hj
  · cases hj

theorem bytesOf_bits {n : Nat} {bs : List (BitVec 8)} {ws : List Nat} (hu : used ws = bitOf bs) (hl : bs.length = (n + 7) / 8) : BytesOf n (used ws) bs := by
  refine ⟨hl, fun i k b hb hk => ?_⟩
  rw [hu]
  unfold bitOf
  rw [show (8 * i + k) / 8 = i by omega, show (8 * i + k) % 8 = k by omega, List.getD, hb, Option.getD_some]
theorem cell_of {w1 w2 : World} {bs : List (BitVec 8)} {x g o : Nat} {v : Value} (H : Hid (∃ m : MS, m.a = x ∧ MapAt w2 m ∧ BytesOf m.n (used m.ws) bs ∧ Below w1.heap.size w1 w2)) (h : w1.cell? ⟨g, o, none⟩ = some v) : w2.cell? ⟨g, o, none⟩ = some v := by
  obtain ⟨m, _, _, _, hB⟩ := H.out
  exact (hB.cell (p := ⟨g, o, none⟩) (cell_lt h)).trans h

set_option maxRecDepth 8000 in
set_option maxHeartbeats 4000000 in
theorem loadLaw_any (p : Option Addr) (bs : List (BitVec 8)) (c : Nat) (n : Int) (w : World) (ht : Tab64 w) (hc : bs.length ≤ c) (hc2 : c < 9223372036854775808) (hb : Bytes w p bs) :
    Calls Tryd.prog 4 #[.slice p bs.length c, .int .i64 n] w fun e w' => e = .returned (.bool true) ∧ Below w.heap.size w w' := by
  have cb := begun8_true w ht
  by_cases h40 : 40 < bs.length
  · obtain ⟨g, o, hp, _⟩ := hb (by omega)
    have HT : Hid (Tab64 w ∧ Bytes w (some ⟨g, o, none⟩) (bs.take 40)) := ⟨ht, bytes_take (hp ▸ hb) 40⟩
    subst hp
    obtain ⟨bs2, hbs2⟩ : ∃ bs2, bs.take 40 = bs2 := ⟨_, rfl⟩
    have hL : bs2.length = 40 := by rw [← hbs2, List.length_take]; omega
    rw [hbs2] at HT
    clear ht hb hbs2
    go_enter Tryd.func4, Tryd.ntmps4
    go_wp2_with (first
      | (go_at_call 6; refine cb.mono ?_; rintro e w1 ⟨rfl, hB⟩; have HB : Hid (Below w.heap.size w w1) := hB; clear hB cb)
      | (go_at_call 13; refine Stop.out ?_))
    refine Stop.mk ?_
    by_cases hn : 0 ≤ n ∧ n ≤ 65536
    · obtain ⟨n, rfl⟩ := Int.eq_ofNat_of_zero_le hn.1
      have hn2 : n ≤ 65536 := by omega
      have ht1 : Tab64 w1 := HT.out.1.below HB.out
      have hb1 : Bytes w1 (some ⟨g, o, none⟩) bs2 := HT.out.2.below HB.out
      by_cases hlen : 40 = (n + 7) / 8
      · have cl := load_any (some ⟨g, o, none⟩) bs2 c n w1 hn2 ht1.lt hb1 (by rw [hL]; exact hlen)
        rw [hL] at cl
        have hlI : ((n : Int) + 7) / 8 = (40 : Int) := by omega
        have H1 : Hid (Bytes w1 (some ⟨g, o, none⟩) bs2 ∧ 40 = (n + 7) / 8 ∧ Tab64 w1) := ⟨hb1, hlen, ht1⟩
        clear ht1 hb1 hlen hn
        by_cases h8 : n % 8 = 0
        · have cl' : Calls Tryd.prog 13 #[.slice (some ⟨g, o, none⟩) 40 c, .int .i64 n] w1 fun e w' => ∃ x, e = .returned (.tuple #[.pointer (some ⟨x, 0, none⟩), .int .i64 0]) ∧ Hid (∃ m, m.a = x ∧ MapAt w' m ∧ BytesOf m.n (used m.ws) bs2 ∧ Below w1.heap.size w1 w') := by
            refine cl.mono ?_
            rintro e w' ⟨ws, hf, hu, hB, hor⟩
            have hfalse := last_none hf hu (by rw [hL]; exact H1.out.2.1) h8
            obtain ⟨ht, _⟩ | ⟨_, he, hM⟩ := hor
            · rw [hfalse] at ht; cases ht
            · exact ⟨_, he, _, rfl, hM, bytesOf_bits hu (by rw [hL]; exact H1.out.2.1), hB⟩
          have h8I : (n : Int) % 8 = 0 := by omega
          clear cl
          go_wp2_with (go_at_call 13; refine cl'.mono ?_; rintro e w2 ⟨x, rfl, H2⟩; clear cl')
          have H3 : Hid (Bytes w2 (some ⟨g, o, none⟩) bs2 ∧ Below w.heap.size w w2) := by
            obtain ⟨m, _, _, _, hB2⟩ := H2.out
            exact ⟨H1.out.1.below hB2, HB.out.trans (hB2.mono HB.out.size)⟩
          have cby : Calls Tryd.prog 14 #[.pointer (some ⟨x, 0, none⟩)] w2.drew fun e w' => e = .returned (.slice (some ⟨w2.heap.size, 0, none⟩) bs2.length bs2.length) ∧ w'.heap[w2.heap.size]? = some (.cells (bs2.map u8v).toArray 5 (0, 0)) ∧ Below w2.heap.size w2 w' := by
            obtain ⟨m, hx, hM, hof, _⟩ := H2.out
            subst hx
            refine (bytes_any m w2.drew hM.drew).mono ?_
            rintro e w' ⟨bs3, rfl, hof3, hblk, hB3⟩
            obtain rfl : bs3 = bs2 := hof3.eq hof (fun _ _ => rfl)
            exact ⟨rfl, hblk, below_of_drew hB3⟩
          have cv0 := run_str w2.drew (some ⟨g, o, none⟩) bs2 c H3.out.1
          have cvs : ∀ w3, w3.heap[w2.heap.size]? = some (.cells (bs2.map u8v).toArray 5 (0, 0)) → Below w2.heap.size w2 w3 → (convert 39 9 (.slice (some ⟨w2.heap.size, 0, none⟩) 40 40)).run Tryd.prog w3 = .ok (.string (strOf bs2)) w3 ∧ (convert 39 9 (.slice (some ⟨g, o, none⟩) 40 c)).run Tryd.prog w3 = .ok (.string (strOf bs2)) w3 := fun w3 h1 h2 => by
            have k1 := run_str w3 (some ⟨w2.heap.size, 0, none⟩) bs2 40 (Bytes.block h1)
            have k2 := run_str w3 (some ⟨g, o, none⟩) bs2 c (H3.out.1.below h2)
            rw [hL] at k1 k2
            exact ⟨k1, k2⟩
          rw [hL] at cv0 cby
          have hse : ((strOf bs2).toList == (strOf bs2).toList) = true := by simp
          generalize strOf bs2 = S at *
          have hmix : Tryd.prog.follows .mixedOrders = true := by kernel_rfl
          obtain ⟨LL, hLe⟩ : ∃ LL : List (Option Tmp × Value), LL = [(some 69, .bool true), (some 70, .bool true), (some 71, .int .i64 0), (some 72, .bool true), (some 73, .bool true), (some 74, .bool true), (some 75, .pointer (some ⟨x, 0, none⟩)), (some 76, .bool true), (some 77, .bool true), (some 78, .bool true), (some 79, .pointer (some ⟨x, 0, none⟩)), (some 80, .slice (some ⟨w2.heap.size, 0, none⟩) 40 40), (some 81, .string S), (some 82, .slice (some ⟨g, o, none⟩) 40 c), (some 83, .string S), (some 84, .bool true), (some 85, .bool true), (some 4, .bool true)] := ⟨_, rfl⟩
          have vv0 : vals LL 0 = .bool true := by rw [hLe]; rfl
          have vv1 : vals LL 1 = .bool true := by rw [hLe]; rfl
          have vv2 : vals LL 2 = .int .i64 0 := by rw [hLe]; rfl
          have vv3 : vals LL 3 = .bool true := by rw [hLe]; rfl
          have vv4 : vals LL 4 = .bool true := by rw [hLe]; rfl
          have vv5 : vals LL 5 = .bool true := by rw [hLe]; rfl
          have vv6 : vals LL 6 = .pointer (some ⟨x, 0, none⟩) := by rw [hLe]; rfl
          have vv7 : vals LL 7 = .bool true := by rw [hLe]; rfl
          have vv8 : vals LL 8 = .bool true := by rw [hLe]; rfl
          have vv9 : vals LL 9 = .bool true := by rw [hLe]; rfl
          have vv10 : vals LL 10 = .pointer (some ⟨x, 0, none⟩) := by rw [hLe]; rfl
          have vv11 : vals LL 11 = .slice (some ⟨w2.heap.size, 0, none⟩) 40 40 := by rw [hLe]; rfl
          have vv12 : vals LL 12 = .string S := by rw [hLe]; rfl
          have vv13 : vals LL 13 = .slice (some ⟨g, o, none⟩) 40 c := by rw [hLe]; rfl
          have vv14 : vals LL 14 = .string S := by rw [hLe]; rfl
          have vv15 : vals LL 15 = .bool true := by rw [hLe]; rfl
          have vv16 : vals LL 16 = .bool true := by rw [hLe]; rfl
          have vv17 : vals LL 17 = .bool true := by rw [hLe]; rfl
          refine region_laid hmix (by kernel_rfl) 86 rfl (by kernel_rfl) LL (by rw [hLe]; rfl) (fun b W => ((convert 39 9 (.slice (some ⟨g, o, none⟩) 40 c)).run Tryd.prog W = .ok (.string S) W) ∧ (b 11 = true → (convert 39 9 (.slice (some ⟨w2.heap.size, 0, none⟩) 40 40)).run Tryd.prog W = .ok (.string S) W) ∧ Below w.heap.size w W ∧ (b 11 = false → W = w2.drew)) ⟨cv0, (fun h => by cases h), ⟨H3.out.2.os, H3.out.2.tape, H3.out.2.output, H3.out.2.size, H3.out.2.block⟩, fun _ => rfl⟩ ?_ ?_
          · intro b W i o a hS hcl ho hb hd ev kp yl
            match i with
            | 0 =>
              simp only [List.getElem?_toArray, List.getElem?_cons_zero, Option.some.injEq] at ho
              subst ho
              have e5 : a.tmps[5]?.getD undef = .bool true := kp 5 (by kernel_rfl)
              rw [vv0]
              refine does_value rfl (by intro c h; cases h) (w' := W) ?_ (by simpa [did] using hS)
              · simp [execOp, go_sem, e5]
            | 1 =>
              simp only [List.getElem?_toArray, List.getElem?_cons_zero, List.getElem?_cons_succ, Option.some.injEq] at ho
              subst ho
              have p0 : b 0 = true := hd ⟨0, .data⟩ (by simp) rfl
              have e69 := (ev 0 69 rfl p0).trans vv0
              rw [vv1]
              refine does_value rfl (by intro c h; cases h) (w' := W) ?_ (by simpa [did] using hS)
              · simp [execOp, go_sem, e69]
            | 2 =>
              simp only [List.getElem?_toArray, List.getElem?_cons_zero, List.getElem?_cons_succ, Option.some.injEq] at ho
              subst ho
              have p1 : b 1 = true := hd ⟨1, .guard⟩ (by simp) rfl
              have e7 : a.tmps[7]?.getD undef = .int .i64 0 := kp 7 (by kernel_rfl)
              rw [vv2]
              refine does_value_g rfl (yl 1 70 true rfl p1 vv1) (by intro c h; cases h) (w' := W) ?_ (by simpa [did] using hS)
              · simp [execOp, go_sem, e7]
            | 3 =>
              simp only [List.getElem?_toArray, List.getElem?_cons_zero, List.getElem?_cons_succ, Option.some.injEq] at ho
              subst ho
              have p2 : b 2 = true := hd ⟨2, .data⟩ (by simp) rfl
              have p1 : b 1 = true := hd ⟨1, .guard⟩ (by simp) rfl
              have e71 := (ev 2 71 rfl p2).trans vv2
              rw [vv3]
              refine does_value_g rfl (yl 1 70 true rfl p1 vv1) (by intro c h; cases h) (w' := W) ?_ (by simpa [did] using hS)
              · simp [execOp, go_sem, e71]
            | 4 =>
              simp only [List.getElem?_toArray, List.getElem?_cons_zero, List.getElem?_cons_succ, Option.some.injEq] at ho
              subst ho
              have p1 : b 1 = true := hd ⟨1, .data⟩ (by simp) rfl
              have p3 : b 3 = true := hd ⟨3, .data⟩ (by simp) rfl
              have e70 := (ev 1 70 rfl p1).trans vv1
              have e72 := (ev 3 72 rfl p3).trans vv3
              rw [vv4]
              refine does_value rfl (by intro c h; cases h) (w' := W) ?_ (by simpa [did] using hS)
              · simp [execOp, go_sem, e70, e72]
            | 5 =>
              simp only [List.getElem?_toArray, List.getElem?_cons_zero, List.getElem?_cons_succ, Option.some.injEq] at ho
              subst ho
              have p4 : b 4 = true := hd ⟨4, .data⟩ (by simp) rfl
              have e73 := (ev 4 73 rfl p4).trans vv4
              rw [vv5]
              refine does_value rfl (by intro c h; cases h) (w' := W) ?_ (by simpa [did] using hS)
              · simp [execOp, go_sem, e73]
            | 6 =>
              simp only [List.getElem?_toArray, List.getElem?_cons_zero, List.getElem?_cons_succ, Option.some.injEq] at ho
              subst ho
              have p5 : b 5 = true := hd ⟨5, .guard⟩ (by simp) rfl
              have e6 : a.tmps[6]?.getD undef = .pointer (some ⟨x, 0, none⟩) := kp 6 (by kernel_rfl)
              rw [vv6]
              refine does_value_g rfl (yl 5 74 true rfl p5 vv5) (by intro c h; cases h) (w' := W) ?_ (by simpa [did] using hS)
              · simp [execOp, go_sem, e6]
            | 7 =>
              simp only [List.getElem?_toArray, List.getElem?_cons_zero, List.getElem?_cons_succ, Option.some.injEq] at ho
              subst ho
              have p6 : b 6 = true := hd ⟨6, .data⟩ (by simp) rfl
              have p5 : b 5 = true := hd ⟨5, .guard⟩ (by simp) rfl
              have e75 := (ev 6 75 rfl p6).trans vv6
              rw [vv7]
              refine does_value_g rfl (yl 5 74 true rfl p5 vv5) (by intro c h; cases h) (w' := W) ?_ (by simpa [did] using hS)
              · simp [execOp, go_sem, e75]
            | 8 =>
              simp only [List.getElem?_toArray, List.getElem?_cons_zero, List.getElem?_cons_succ, Option.some.injEq] at ho
              subst ho
              have p5 : b 5 = true := hd ⟨5, .data⟩ (by simp) rfl
              have p7 : b 7 = true := hd ⟨7, .data⟩ (by simp) rfl
              have e74 := (ev 5 74 rfl p5).trans vv5
              have e76 := (ev 7 76 rfl p7).trans vv7
              rw [vv8]
              refine does_value rfl (by intro c h; cases h) (w' := W) ?_ (by simpa [did] using hS)
              · simp [execOp, go_sem, e74, e76]
            | 9 =>
              simp only [List.getElem?_toArray, List.getElem?_cons_zero, List.getElem?_cons_succ, Option.some.injEq] at ho
              subst ho
              have p8 : b 8 = true := hd ⟨8, .data⟩ (by simp) rfl
              have e77 := (ev 8 77 rfl p8).trans vv8
              rw [vv9]
              refine does_value rfl (by intro c h; cases h) (w' := W) ?_ (by simpa [did] using hS)
              · simp [execOp, go_sem, e77]
            | 10 =>
              simp only [List.getElem?_toArray, List.getElem?_cons_zero, List.getElem?_cons_succ, Option.some.injEq] at ho
              subst ho
              have p9 : b 9 = true := hd ⟨9, .guard⟩ (by simp) rfl
              have e6 : a.tmps[6]?.getD undef = .pointer (some ⟨x, 0, none⟩) := kp 6 (by kernel_rfl)
              rw [vv10]
              refine does_value_g rfl (yl 9 78 true rfl p9 vv9) (by intro c h; cases h) (w' := W) ?_ (by simpa [did] using hS)
              · simp [execOp, go_sem, e6]
            | 11 =>
              simp only [List.getElem?_toArray, List.getElem?_cons_zero, List.getElem?_cons_succ, Option.some.injEq] at ho
              subst ho
              have p10 : b 10 = true := hd ⟨10, .data⟩ (by simp) rfl
              have p9 : b 9 = true := hd ⟨9, .guard⟩ (by simp) rfl
              have e79 := (ev 10 79 rfl p10).trans vv10
              rw [vv11]
              refine does_call_g rfl (yl 9 78 true rfl p9 vv9) (by intro c h; cases h) (f := 14) (args := #[.pointer (some ⟨x, 0, none⟩)]) ?_ ?_
              · simp [go_sem, e79]
              · rw [hS.2.2.2 hb]; refine cby.mono ?_; rintro e w3 ⟨rfl, h1, h2⟩; exact ⟨rfl, (cvs w3 h1 h2).2, fun _ => (cvs w3 h1 h2).1, H3.out.2.trans (h2.mono H3.out.2.size), fun h => by simp [did] at h⟩
            | 12 =>
              simp only [List.getElem?_toArray, List.getElem?_cons_zero, List.getElem?_cons_succ, Option.some.injEq] at ho
              subst ho
              have p11 : b 11 = true := hd ⟨11, .data⟩ (by simp) rfl
              have p9 : b 9 = true := hd ⟨9, .guard⟩ (by simp) rfl
              have e80 := (ev 11 80 rfl p11).trans vv11
              rw [vv12]
              refine does_value_g rfl (yl 9 78 true rfl p9 vv9) (by intro c h; cases h) (w' := W) ?_ (by simpa [did] using hS)
              · simp [execOp, go_sem, e80, hS.2.1 p11]
            | 13 =>
              simp only [List.getElem?_toArray, List.getElem?_cons_zero, List.getElem?_cons_succ, Option.some.injEq] at ho
              subst ho
              have p9 : b 9 = true := hd ⟨9, .guard⟩ (by simp) rfl
              have e0 : a.tmps[0]?.getD undef = .slice (some ⟨g, o, none⟩) 40 c := kp 0 (by kernel_rfl)
              rw [vv13]
              refine does_value_g rfl (yl 9 78 true rfl p9 vv9) (by intro c h; cases h) (w' := W) ?_ (by simpa [did] using hS)
              · simp [execOp, go_sem, e0]
            | 14 =>
              simp only [List.getElem?_toArray, List.getElem?_cons_zero, List.getElem?_cons_succ, Option.some.injEq] at ho
              subst ho
              have p13 : b 13 = true := hd ⟨13, .data⟩ (by simp) rfl
              have p9 : b 9 = true := hd ⟨9, .guard⟩ (by simp) rfl
              have e82 := (ev 13 82 rfl p13).trans vv13
              rw [vv14]
              refine does_value_g rfl (yl 9 78 true rfl p9 vv9) (by intro c h; cases h) (w' := W) ?_ (by simpa [did] using hS)
              · simp [execOp, go_sem, e82, hS.1]
            | 15 =>
              simp only [List.getElem?_toArray, List.getElem?_cons_zero, List.getElem?_cons_succ, Option.some.injEq] at ho
              subst ho
              have p12 : b 12 = true := hd ⟨12, .data⟩ (by simp) rfl
              have p14 : b 14 = true := hd ⟨14, .data⟩ (by simp) rfl
              have p9 : b 9 = true := hd ⟨9, .guard⟩ (by simp) rfl
              have e81 := (ev 12 81 rfl p12).trans vv12
              have e83 := (ev 14 83 rfl p14).trans vv14
              rw [vv15]
              refine does_value_g rfl (yl 9 78 true rfl p9 vv9) (by intro c h; cases h) (w' := W) ?_ (by simpa [did] using hS)
              · simp [execOp, go_sem, e81, e83]
            | 16 =>
              simp only [List.getElem?_toArray, List.getElem?_cons_zero, List.getElem?_cons_succ, Option.some.injEq] at ho
              subst ho
              have p9 : b 9 = true := hd ⟨9, .data⟩ (by simp) rfl
              have p15 : b 15 = true := hd ⟨15, .data⟩ (by simp) rfl
              have e78 := (ev 9 78 rfl p9).trans vv9
              have e84 := (ev 15 84 rfl p15).trans vv15
              rw [vv16]
              refine does_value rfl (by intro c h; cases h) (w' := W) ?_ (by simpa [did] using hS)
              · simp [execOp, go_sem, e78, e84]
            | 17 =>
              simp only [List.getElem?_toArray, List.getElem?_cons_zero, List.getElem?_cons_succ, Option.some.injEq] at ho
              subst ho
              have p16 : b 16 = true := hd ⟨16, .data⟩ (by simp) rfl
              have e85 := (ev 16 85 rfl p16).trans vv16
              rw [vv17]
              refine does_value rfl (by intro c h; cases h) (w' := W) ?_ (by simpa [did] using hS)
              · simp [execOp, go_sem, e85]
            | k + 18 => simp at ho
          · intro b W hS _
            have HS : Hid (Below w.heap.size w W) := hS.2.2.1
            subst hLe
            clear hS cby cvs cv0
            simp only [putAll, List.setIfInBounds_toArray, List.set_cons_zero, List.set_cons_succ]
            go_wp2
            go_ret
            exact ⟨rfl, HS.out⟩
          -- END
        · obtain ⟨b, hbl⟩ : ∃ b, bs2[bs2.length - 1]? = some b := ⟨_, List.getElem?_eq_getElem (show bs2.length - 1 < bs2.length by rw [hL, H1.out.2.1]; omega)⟩
          obtain ⟨g2, o2, e2, hx⟩ := H1.out.1 (by rw [hL, H1.out.2.1]; omega)
          cases e2
          have cell : w1.cell? ⟨g, o + 39, none⟩ = some (u8v b) := by have := hx _ _ hbl; rwa [hL] at this
          have h8I : ((n : Int) % 8 != 0) = true := by simp; omega
          obtain ⟨r, hr⟩ : ∃ r, n % 8 = r := ⟨_, rfl⟩
          have er : (n : Int) % 8 = (r : Int) := by omega
          have hr8 : r ≤ 8 := by omega
          have HQ : Hid (∀ ws, Fit n ws → used ws = bitOf bs2 → (tooLongB n ws = false ↔ b.toNat / 2 ^ r = 0)) := fun ws hf hu => by
            rw [← hr]; exact last_byte hf hu (by rw [hL]; exact H1.out.2.1) h8 hbl
          unfold u8v at cell
          generalize b.toNat = z at *
          clear hx hbl hr h8
          by_cases hz : z / 2 ^ r = 0
          · have hzI : (z : Int) / 2 ^ r = 0 := by
              have : ((z / 2 ^ r : Nat) : Int) = 0 := by rw [hz]; rfl
              simpa using this
            have cl' : Calls Tryd.prog 13 #[.slice (some ⟨g, o, none⟩) 40 c, .int .i64 n] w1 fun e w' => ∃ x, e = .returned (.tuple #[.pointer (some ⟨x, 0, none⟩), .int .i64 0]) ∧ Hid (∃ m, m.a = x ∧ MapAt w' m ∧ BytesOf m.n (used m.ws) bs2 ∧ Below w1.heap.size w1 w') := by
              refine cl.mono ?_
              rintro e w' ⟨ws, hf, hu, hB, hor⟩
              have hfalse := (HQ.out ws hf hu).2 hz
              obtain ⟨ht, _⟩ | ⟨_, he, hM⟩ := hor
              · rw [hfalse] at ht; cases ht
              · exact ⟨_, he, _, rfl, hM, bytesOf_bits hu (by rw [hL]; exact H1.out.2.1), hB⟩
            clear cl hz HQ
            have HC : Hid (w1.cell? ⟨g, o + 39, none⟩ = some (.int .u8 (z : Int))) := cell
            clear cell
            go_wp2_with (go_at_call 13; refine cl'.mono ?_; rintro e w2 ⟨x, rfl, H2⟩; have cell2 := cell_of H2 HC.out; clear cl')
            have H3 : Hid (Bytes w2 (some ⟨g, o, none⟩) bs2 ∧ Below w.heap.size w w2) := by
              obtain ⟨m, _, _, _, hB2⟩ := H2.out
              exact ⟨H1.out.1.below hB2, HB.out.trans (hB2.mono HB.out.size)⟩
            have cby : Calls Tryd.prog 14 #[.pointer (some ⟨x, 0, none⟩)] w2.drew fun e w' => e = .returned (.slice (some ⟨w2.heap.size, 0, none⟩) bs2.length bs2.length) ∧ w'.heap[w2.heap.size]? = some (.cells (bs2.map u8v).toArray 5 (0, 0)) ∧ Below w2.heap.size w2 w' := by
              obtain ⟨m, hx, hM, hof, _⟩ := H2.out
              subst hx
              refine (bytes_any m w2.drew hM.drew).mono ?_
              rintro e w' ⟨bs3, rfl, hof3, hblk, hB3⟩
              obtain rfl : bs3 = bs2 := hof3.eq hof (fun _ _ => rfl)
              exact ⟨rfl, hblk, below_of_drew hB3⟩
            have cv0 := run_str w2.drew (some ⟨g, o, none⟩) bs2 c H3.out.1
            have cvs : ∀ w3, w3.heap[w2.heap.size]? = some (.cells (bs2.map u8v).toArray 5 (0, 0)) → Below w2.heap.size w2 w3 → (convert 39 9 (.slice (some ⟨w2.heap.size, 0, none⟩) 40 40)).run Tryd.prog w3 = .ok (.string (strOf bs2)) w3 ∧ (convert 39 9 (.slice (some ⟨g, o, none⟩) 40 c)).run Tryd.prog w3 = .ok (.string (strOf bs2)) w3 := fun w3 h1 h2 => by
              have k1 := run_str w3 (some ⟨w2.heap.size, 0, none⟩) bs2 40 (Bytes.block h1)
              have k2 := run_str w3 (some ⟨g, o, none⟩) bs2 c (H3.out.1.below h2)
              rw [hL] at k1 k2
              exact ⟨k1, k2⟩
            rw [hL] at cv0 cby
            have hse : ((strOf bs2).toList == (strOf bs2).toList) = true := by simp
            generalize strOf bs2 = S at *
            have hmix : Tryd.prog.follows .mixedOrders = true := by kernel_rfl
            obtain ⟨LL, hLe⟩ : ∃ LL : List (Option Tmp × Value), LL = [(some 69, .bool true), (some 70, .bool true), (some 71, .int .i64 0), (some 72, .bool true), (some 73, .bool true), (some 74, .bool true), (some 75, .pointer (some ⟨x, 0, none⟩)), (some 76, .bool true), (some 77, .bool true), (some 78, .bool true), (some 79, .pointer (some ⟨x, 0, none⟩)), (some 80, .slice (some ⟨w2.heap.size, 0, none⟩) 40 40), (some 81, .string S), (some 82, .slice (some ⟨g, o, none⟩) 40 c), (some 83, .string S), (some 84, .bool true), (some 85, .bool true), (some 4, .bool true)] := ⟨_, rfl⟩
            have vv0 : vals LL 0 = .bool true := by rw [hLe]; rfl
            have vv1 : vals LL 1 = .bool true := by rw [hLe]; rfl
            have vv2 : vals LL 2 = .int .i64 0 := by rw [hLe]; rfl
            have vv3 : vals LL 3 = .bool true := by rw [hLe]; rfl
            have vv4 : vals LL 4 = .bool true := by rw [hLe]; rfl
            have vv5 : vals LL 5 = .bool true := by rw [hLe]; rfl
            have vv6 : vals LL 6 = .pointer (some ⟨x, 0, none⟩) := by rw [hLe]; rfl
            have vv7 : vals LL 7 = .bool true := by rw [hLe]; rfl
            have vv8 : vals LL 8 = .bool true := by rw [hLe]; rfl
            have vv9 : vals LL 9 = .bool true := by rw [hLe]; rfl
            have vv10 : vals LL 10 = .pointer (some ⟨x, 0, none⟩) := by rw [hLe]; rfl
            have vv11 : vals LL 11 = .slice (some ⟨w2.heap.size, 0, none⟩) 40 40 := by rw [hLe]; rfl
            have vv12 : vals LL 12 = .string S := by rw [hLe]; rfl
            have vv13 : vals LL 13 = .slice (some ⟨g, o, none⟩) 40 c := by rw [hLe]; rfl
            have vv14 : vals LL 14 = .string S := by rw [hLe]; rfl
            have vv15 : vals LL 15 = .bool true := by rw [hLe]; rfl
            have vv16 : vals LL 16 = .bool true := by rw [hLe]; rfl
            have vv17 : vals LL 17 = .bool true := by rw [hLe]; rfl
            refine region_laid hmix (by kernel_rfl) 86 rfl (by kernel_rfl) LL (by rw [hLe]; rfl) (fun b W => ((convert 39 9 (.slice (some ⟨g, o, none⟩) 40 c)).run Tryd.prog W = .ok (.string S) W) ∧ (b 11 = true → (convert 39 9 (.slice (some ⟨w2.heap.size, 0, none⟩) 40 40)).run Tryd.prog W = .ok (.string S) W) ∧ Below w.heap.size w W ∧ (b 11 = false → W = w2.drew)) ⟨cv0, (fun h => by cases h), ⟨H3.out.2.os, H3.out.2.tape, H3.out.2.output, H3.out.2.size, H3.out.2.block⟩, fun _ => rfl⟩ ?_ ?_
            · intro b W i o a hS hcl ho hb hd ev kp yl
              match i with
              | 0 =>
                simp only [List.getElem?_toArray, List.getElem?_cons_zero, Option.some.injEq] at ho
                subst ho
                have e5 : a.tmps[5]?.getD undef = .bool true := kp 5 (by kernel_rfl)
                rw [vv0]
                refine does_value rfl (by intro c h; cases h) (w' := W) ?_ (by simpa [did] using hS)
                · simp [execOp, go_sem, e5]
              | 1 =>
                simp only [List.getElem?_toArray, List.getElem?_cons_zero, List.getElem?_cons_succ, Option.some.injEq] at ho
                subst ho
                have p0 : b 0 = true := hd ⟨0, .data⟩ (by simp) rfl
                have e69 := (ev 0 69 rfl p0).trans vv0
                rw [vv1]
                refine does_value rfl (by intro c h; cases h) (w' := W) ?_ (by simpa [did] using hS)
                · simp [execOp, go_sem, e69]
              | 2 =>
                simp only [List.getElem?_toArray, List.getElem?_cons_zero, List.getElem?_cons_succ, Option.some.injEq] at ho
                subst ho
                have p1 : b 1 = true := hd ⟨1, .guard⟩ (by simp) rfl
                have e7 : a.tmps[7]?.getD undef = .int .i64 0 := kp 7 (by kernel_rfl)
                rw [vv2]
                refine does_value_g rfl (yl 1 70 true rfl p1 vv1) (by intro c h; cases h) (w' := W) ?_ (by simpa [did] using hS)
                · simp [execOp, go_sem, e7]
              | 3 =>
                simp only [List.getElem?_toArray, List.getElem?_cons_zero, List.getElem?_cons_succ, Option.some.injEq] at ho
                subst ho
                have p2 : b 2 = true := hd ⟨2, .data⟩ (by simp) rfl
                have p1 : b 1 = true := hd ⟨1, .guard⟩ (by simp) rfl
                have e71 := (ev 2 71 rfl p2).trans vv2
                rw [vv3]
                refine does_value_g rfl (yl 1 70 true rfl p1 vv1) (by intro c h; cases h) (w' := W) ?_ (by simpa [did] using hS)
                · simp [execOp, go_sem, e71]
              | 4 =>
                simp only [List.getElem?_toArray, List.getElem?_cons_zero, List.getElem?_cons_succ, Option.some.injEq] at ho
                subst ho
                have p1 : b 1 = true := hd ⟨1, .data⟩ (by simp) rfl
                have p3 : b 3 = true := hd ⟨3, .data⟩ (by simp) rfl
                have e70 := (ev 1 70 rfl p1).trans vv1
                have e72 := (ev 3 72 rfl p3).trans vv3
                rw [vv4]
                refine does_value rfl (by intro c h; cases h) (w' := W) ?_ (by simpa [did] using hS)
                · simp [execOp, go_sem, e70, e72]
              | 5 =>
                simp only [List.getElem?_toArray, List.getElem?_cons_zero, List.getElem?_cons_succ, Option.some.injEq] at ho
                subst ho
                have p4 : b 4 = true := hd ⟨4, .data⟩ (by simp) rfl
                have e73 := (ev 4 73 rfl p4).trans vv4
                rw [vv5]
                refine does_value rfl (by intro c h; cases h) (w' := W) ?_ (by simpa [did] using hS)
                · simp [execOp, go_sem, e73]
              | 6 =>
                simp only [List.getElem?_toArray, List.getElem?_cons_zero, List.getElem?_cons_succ, Option.some.injEq] at ho
                subst ho
                have p5 : b 5 = true := hd ⟨5, .guard⟩ (by simp) rfl
                have e6 : a.tmps[6]?.getD undef = .pointer (some ⟨x, 0, none⟩) := kp 6 (by kernel_rfl)
                rw [vv6]
                refine does_value_g rfl (yl 5 74 true rfl p5 vv5) (by intro c h; cases h) (w' := W) ?_ (by simpa [did] using hS)
                · simp [execOp, go_sem, e6]
              | 7 =>
                simp only [List.getElem?_toArray, List.getElem?_cons_zero, List.getElem?_cons_succ, Option.some.injEq] at ho
                subst ho
                have p6 : b 6 = true := hd ⟨6, .data⟩ (by simp) rfl
                have p5 : b 5 = true := hd ⟨5, .guard⟩ (by simp) rfl
                have e75 := (ev 6 75 rfl p6).trans vv6
                rw [vv7]
                refine does_value_g rfl (yl 5 74 true rfl p5 vv5) (by intro c h; cases h) (w' := W) ?_ (by simpa [did] using hS)
                · simp [execOp, go_sem, e75]
              | 8 =>
                simp only [List.getElem?_toArray, List.getElem?_cons_zero, List.getElem?_cons_succ, Option.some.injEq] at ho
                subst ho
                have p5 : b 5 = true := hd ⟨5, .data⟩ (by simp) rfl
                have p7 : b 7 = true := hd ⟨7, .data⟩ (by simp) rfl
                have e74 := (ev 5 74 rfl p5).trans vv5
                have e76 := (ev 7 76 rfl p7).trans vv7
                rw [vv8]
                refine does_value rfl (by intro c h; cases h) (w' := W) ?_ (by simpa [did] using hS)
                · simp [execOp, go_sem, e74, e76]
              | 9 =>
                simp only [List.getElem?_toArray, List.getElem?_cons_zero, List.getElem?_cons_succ, Option.some.injEq] at ho
                subst ho
                have p8 : b 8 = true := hd ⟨8, .data⟩ (by simp) rfl
                have e77 := (ev 8 77 rfl p8).trans vv8
                rw [vv9]
                refine does_value rfl (by intro c h; cases h) (w' := W) ?_ (by simpa [did] using hS)
                · simp [execOp, go_sem, e77]
              | 10 =>
                simp only [List.getElem?_toArray, List.getElem?_cons_zero, List.getElem?_cons_succ, Option.some.injEq] at ho
                subst ho
                have p9 : b 9 = true := hd ⟨9, .guard⟩ (by simp) rfl
                have e6 : a.tmps[6]?.getD undef = .pointer (some ⟨x, 0, none⟩) := kp 6 (by kernel_rfl)
                rw [vv10]
                refine does_value_g rfl (yl 9 78 true rfl p9 vv9) (by intro c h; cases h) (w' := W) ?_ (by simpa [did] using hS)
                · simp [execOp, go_sem, e6]
              | 11 =>
                simp only [List.getElem?_toArray, List.getElem?_cons_zero, List.getElem?_cons_succ, Option.some.injEq] at ho
                subst ho
                have p10 : b 10 = true := hd ⟨10, .data⟩ (by simp) rfl
                have p9 : b 9 = true := hd ⟨9, .guard⟩ (by simp) rfl
                have e79 := (ev 10 79 rfl p10).trans vv10
                rw [vv11]
                refine does_call_g rfl (yl 9 78 true rfl p9 vv9) (by intro c h; cases h) (f := 14) (args := #[.pointer (some ⟨x, 0, none⟩)]) ?_ ?_
                · simp [go_sem, e79]
                · rw [hS.2.2.2 hb]; refine cby.mono ?_; rintro e w3 ⟨rfl, h1, h2⟩; exact ⟨rfl, (cvs w3 h1 h2).2, fun _ => (cvs w3 h1 h2).1, H3.out.2.trans (h2.mono H3.out.2.size), fun h => by simp [did] at h⟩
              | 12 =>
                simp only [List.getElem?_toArray, List.getElem?_cons_zero, List.getElem?_cons_succ, Option.some.injEq] at ho
                subst ho
                have p11 : b 11 = true := hd ⟨11, .data⟩ (by simp) rfl
                have p9 : b 9 = true := hd ⟨9, .guard⟩ (by simp) rfl
                have e80 := (ev 11 80 rfl p11).trans vv11
                rw [vv12]
                refine does_value_g rfl (yl 9 78 true rfl p9 vv9) (by intro c h; cases h) (w' := W) ?_ (by simpa [did] using hS)
                · simp [execOp, go_sem, e80, hS.2.1 p11]
              | 13 =>
                simp only [List.getElem?_toArray, List.getElem?_cons_zero, List.getElem?_cons_succ, Option.some.injEq] at ho
                subst ho
                have p9 : b 9 = true := hd ⟨9, .guard⟩ (by simp) rfl
                have e0 : a.tmps[0]?.getD undef = .slice (some ⟨g, o, none⟩) 40 c := kp 0 (by kernel_rfl)
                rw [vv13]
                refine does_value_g rfl (yl 9 78 true rfl p9 vv9) (by intro c h; cases h) (w' := W) ?_ (by simpa [did] using hS)
                · simp [execOp, go_sem, e0]
              | 14 =>
                simp only [List.getElem?_toArray, List.getElem?_cons_zero, List.getElem?_cons_succ, Option.some.injEq] at ho
                subst ho
                have p13 : b 13 = true := hd ⟨13, .data⟩ (by simp) rfl
                have p9 : b 9 = true := hd ⟨9, .guard⟩ (by simp) rfl
                have e82 := (ev 13 82 rfl p13).trans vv13
                rw [vv14]
                refine does_value_g rfl (yl 9 78 true rfl p9 vv9) (by intro c h; cases h) (w' := W) ?_ (by simpa [did] using hS)
                · simp [execOp, go_sem, e82, hS.1]
              | 15 =>
                simp only [List.getElem?_toArray, List.getElem?_cons_zero, List.getElem?_cons_succ, Option.some.injEq] at ho
                subst ho
                have p12 : b 12 = true := hd ⟨12, .data⟩ (by simp) rfl
                have p14 : b 14 = true := hd ⟨14, .data⟩ (by simp) rfl
                have p9 : b 9 = true := hd ⟨9, .guard⟩ (by simp) rfl
                have e81 := (ev 12 81 rfl p12).trans vv12
                have e83 := (ev 14 83 rfl p14).trans vv14
                rw [vv15]
                refine does_value_g rfl (yl 9 78 true rfl p9 vv9) (by intro c h; cases h) (w' := W) ?_ (by simpa [did] using hS)
                · simp [execOp, go_sem, e81, e83]
              | 16 =>
                simp only [List.getElem?_toArray, List.getElem?_cons_zero, List.getElem?_cons_succ, Option.some.injEq] at ho
                subst ho
                have p9 : b 9 = true := hd ⟨9, .data⟩ (by simp) rfl
                have p15 : b 15 = true := hd ⟨15, .data⟩ (by simp) rfl
                have e78 := (ev 9 78 rfl p9).trans vv9
                have e84 := (ev 15 84 rfl p15).trans vv15
                rw [vv16]
                refine does_value rfl (by intro c h; cases h) (w' := W) ?_ (by simpa [did] using hS)
                · simp [execOp, go_sem, e78, e84]
              | 17 =>
                simp only [List.getElem?_toArray, List.getElem?_cons_zero, List.getElem?_cons_succ, Option.some.injEq] at ho
                subst ho
                have p16 : b 16 = true := hd ⟨16, .data⟩ (by simp) rfl
                have e85 := (ev 16 85 rfl p16).trans vv16
                rw [vv17]
                refine does_value rfl (by intro c h; cases h) (w' := W) ?_ (by simpa [did] using hS)
                · simp [execOp, go_sem, e85]
              | k + 18 => simp at ho
            · intro b W hS _
              have HS : Hid (Below w.heap.size w W) := hS.2.2.1
              subst hLe
              clear hS cby cvs cv0
              simp only [putAll, List.setIfInBounds_toArray, List.set_cons_zero, List.set_cons_succ]
              go_wp2
              go_ret
              exact ⟨rfl, HS.out⟩
            -- END
          · have hzI : ((z : Int) / 2 ^ r == 0) = false := by
              have : ¬ ((z / 2 ^ r : Nat) : Int) = 0 := by omega
              simpa using this
            have cl' : Calls Tryd.prog 13 #[.slice (some ⟨g, o, none⟩) 40 c, .int .i64 n] w1 fun e w' => e = .returned (.tuple #[.pointer none, .int .i64 74]) ∧ Hid (Below w1.heap.size w1 w') := by
              refine cl.mono ?_
              rintro e w' ⟨ws, hf, hu, hB, hor⟩
              have hq := HQ.out ws hf hu
              obtain ⟨_, he⟩ | ⟨hfalse, _⟩ := hor
              · exact ⟨he, hB⟩
              · exact absurd (hq.1 hfalse) hz
            clear cl hz HQ
            have HC : Hid (w1.cell? ⟨g, o + 39, none⟩ = some (.int .u8 (z : Int))) := cell
            clear cell
            go_wp2_with (go_at_call 13; refine cl'.mono ?_; rintro e w2 ⟨rfl, H2⟩; have cell2 := (H2.out.cell (p := ⟨g, o + 39, none⟩) (cell_lt HC.out)).trans HC.out; clear cl')
            go_ret
            exact ⟨rfl, HB.out.trans (H2.out.mono HB.out.size)⟩
      · have cl := load_len (some ⟨g, o, none⟩) 40 c n w1 hn2 ht1.lt hlen
        obtain ⟨N, hN⟩ : ∃ N, (n + 7) / 8 = N := ⟨_, rfl⟩
        have eN : ((n : Int) + 7) / 8 = (N : Int) := by omega
        have hlI : ((40 : Int) == (N : Int)) = false := by simp; omega
        clear ht1 hb1 hlen hN
        go_wp2_with (go_at_call 13; refine cl.mono ?_; rintro e w2 ⟨rfl, hB2⟩; have HB2 : Hid (Below w1.heap.size w1 w2) := hB2; clear hB2 cl)
        go_ret
        exact ⟨rfl, HB.out.trans (HB2.out.mono HB.out.size)⟩
    · have cl := load_out (some ⟨g, o, none⟩) 40 c n w1 hn
      by_cases hn0 : n < 0
      · clear hn
        go_wp2_with (go_at_call 13; refine Calls_on cl ?_; clear cl)
        go_ret
        exact ⟨rfl, HB.out⟩
      · have hn1 : 65536 < n := by omega
        clear hn
        go_wp2_with (go_at_call 13; refine Calls_on cl ?_; clear cl)
        go_ret
        exact ⟨rfl, HB.out⟩
  · have HT : Hid (Tab64 w ∧ Bytes w p bs) := ⟨ht, hb⟩
    obtain ⟨bs2, hbs2⟩ : ∃ bs2, bs = bs2 := ⟨_, rfl⟩
    subst hbs2
    rename List (BitVec 8) => bs2
    obtain ⟨L, hL⟩ : ∃ L, bs2.length = L := ⟨_, rfl⟩
    rw [hL] at h40 hc
    rw [hL]
    have hL40 : L ≤ 40 := by omega
    clear ht hb
    go_enter Tryd.func4, Tryd.ntmps4
    go_wp2_with (first
      | (go_at_call 6; refine cb.mono ?_; rintro e w1 ⟨rfl, hB⟩; have HB : Hid (Below w.heap.size w w1) := hB; clear hB cb)
      | (go_at_call 13; refine Stop.out ?_))
    refine Stop.mk ?_
    by_cases hn : 0 ≤ n ∧ n ≤ 65536
    · obtain ⟨n, rfl⟩ := Int.eq_ofNat_of_zero_le hn.1
      have hn2 : n ≤ 65536 := by omega
      have ht1 : Tab64 w1 := HT.out.1.below HB.out
      have hb1 : Bytes w1 p bs2 := HT.out.2.below HB.out
      by_cases hlen : L = (n + 7) / 8
      · have cl := load_any p bs2 c n w1 hn2 ht1.lt hb1 (by rw [hL]; exact hlen)
        rw [hL] at cl
        have hlI : ((n : Int) + 7) / 8 = (L : Int) := by omega
        have H1 : Hid (Bytes w1 p bs2 ∧ L = (n + 7) / 8 ∧ Tab64 w1) := ⟨hb1, hlen, ht1⟩
        clear ht1 hb1 hlen hn
        by_cases h8 : n % 8 = 0
        · have cl' : Calls Tryd.prog 13 #[.slice p L c, .int .i64 n] w1 fun e w' => ∃ x, e = .returned (.tuple #[.pointer (some ⟨x, 0, none⟩), .int .i64 0]) ∧ Hid (∃ m, m.a = x ∧ MapAt w' m ∧ BytesOf m.n (used m.ws) bs2 ∧ Below w1.heap.size w1 w') := by
            refine cl.mono ?_
            rintro e w' ⟨ws, hf, hu, hB, hor⟩
            have hfalse := last_none hf hu (by rw [hL]; exact H1.out.2.1) h8
            obtain ⟨ht, _⟩ | ⟨_, he, hM⟩ := hor
            · rw [hfalse] at ht; cases ht
            · exact ⟨_, he, _, rfl, hM, bytesOf_bits hu (by rw [hL]; exact H1.out.2.1), hB⟩
          have h8I : (n : Int) % 8 = 0 := by omega
          clear cl
          go_wp2_with (go_at_call 13; refine cl'.mono ?_; rintro e w2 ⟨x, rfl, H2⟩; clear cl')
          have H3 : Hid (Bytes w2 p bs2 ∧ Below w.heap.size w w2) := by
            obtain ⟨m, _, _, _, hB2⟩ := H2.out
            exact ⟨H1.out.1.below hB2, HB.out.trans (hB2.mono HB.out.size)⟩
          have cby : Calls Tryd.prog 14 #[.pointer (some ⟨x, 0, none⟩)] w2.drew fun e w' => e = .returned (.slice (some ⟨w2.heap.size, 0, none⟩) bs2.length bs2.length) ∧ w'.heap[w2.heap.size]? = some (.cells (bs2.map u8v).toArray 5 (0, 0)) ∧ Below w2.heap.size w2 w' := by
            obtain ⟨m, hx, hM, hof, _⟩ := H2.out
            subst hx
            refine (bytes_any m w2.drew hM.drew).mono ?_
            rintro e w' ⟨bs3, rfl, hof3, hblk, hB3⟩
            obtain rfl : bs3 = bs2 := hof3.eq hof (fun _ _ => rfl)
            exact ⟨rfl, hblk, below_of_drew hB3⟩
          have cv0 := run_str w2.drew p bs2 c H3.out.1
          have cvs : ∀ w3, w3.heap[w2.heap.size]? = some (.cells (bs2.map u8v).toArray 5 (0, 0)) → Below w2.heap.size w2 w3 → (convert 39 9 (.slice (some ⟨w2.heap.size, 0, none⟩) L L)).run Tryd.prog w3 = .ok (.string (strOf bs2)) w3 ∧ (convert 39 9 (.slice p L c)).run Tryd.prog w3 = .ok (.string (strOf bs2)) w3 := fun w3 h1 h2 => by
            have k1 := run_str w3 (some ⟨w2.heap.size, 0, none⟩) bs2 L (Bytes.block h1)
            have k2 := run_str w3 p bs2 c (H3.out.1.below h2)
            rw [hL] at k1 k2
            exact ⟨k1, k2⟩
          rw [hL] at cv0 cby
          have hse : ((strOf bs2).toList == (strOf bs2).toList) = true := by simp
          generalize strOf bs2 = S at *
          have hmix : Tryd.prog.follows .mixedOrders = true := by kernel_rfl
          obtain ⟨LL, hLe⟩ : ∃ LL : List (Option Tmp × Value), LL = [(some 69, .bool true), (some 70, .bool true), (some 71, .int .i64 0), (some 72, .bool true), (some 73, .bool true), (some 74, .bool true), (some 75, .pointer (some ⟨x, 0, none⟩)), (some 76, .bool true), (some 77, .bool true), (some 78, .bool true), (some 79, .pointer (some ⟨x, 0, none⟩)), (some 80, .slice (some ⟨w2.heap.size, 0, none⟩) L L), (some 81, .string S), (some 82, .slice p L c), (some 83, .string S), (some 84, .bool true), (some 85, .bool true), (some 4, .bool true)] := ⟨_, rfl⟩
          have vv0 : vals LL 0 = .bool true := by rw [hLe]; rfl
          have vv1 : vals LL 1 = .bool true := by rw [hLe]; rfl
          have vv2 : vals LL 2 = .int .i64 0 := by rw [hLe]; rfl
          have vv3 : vals LL 3 = .bool true := by rw [hLe]; rfl
          have vv4 : vals LL 4 = .bool true := by rw [hLe]; rfl
          have vv5 : vals LL 5 = .bool true := by rw [hLe]; rfl
          have vv6 : vals LL 6 = .pointer (some ⟨x, 0, none⟩) := by rw [hLe]; rfl
          have vv7 : vals LL 7 = .bool true := by rw [hLe]; rfl
          have vv8 : vals LL 8 = .bool true := by rw [hLe]; rfl
          have vv9 : vals LL 9 = .bool true := by rw [hLe]; rfl
          have vv10 : vals LL 10 = .pointer (some ⟨x, 0, none⟩) := by rw [hLe]; rfl
          have vv11 : vals LL 11 = .slice (some ⟨w2.heap.size, 0, none⟩) L L := by rw [hLe]; rfl
          have vv12 : vals LL 12 = .string S := by rw [hLe]; rfl
          have vv13 : vals LL 13 = .slice p L c := by rw [hLe]; rfl
          have vv14 : vals LL 14 = .string S := by rw [hLe]; rfl
          have vv15 : vals LL 15 = .bool true := by rw [hLe]; rfl
          have vv16 : vals LL 16 = .bool true := by rw [hLe]; rfl
          have vv17 : vals LL 17 = .bool true := by rw [hLe]; rfl
          refine region_laid hmix (by kernel_rfl) 86 rfl (by kernel_rfl) LL (by rw [hLe]; rfl) (fun b W => ((convert 39 9 (.slice p L c)).run Tryd.prog W = .ok (.string S) W) ∧ (b 11 = true → (convert 39 9 (.slice (some ⟨w2.heap.size, 0, none⟩) L L)).run Tryd.prog W = .ok (.string S) W) ∧ Below w.heap.size w W ∧ (b 11 = false → W = w2.drew)) ⟨cv0, (fun h => by cases h), ⟨H3.out.2.os, H3.out.2.tape, H3.out.2.output, H3.out.2.size, H3.out.2.block⟩, fun _ => rfl⟩ ?_ ?_
          · intro b W i o a hS hcl ho hb hd ev kp yl
            match i with
            | 0 =>
              simp only [List.getElem?_toArray, List.getElem?_cons_zero, Option.some.injEq] at ho
              subst ho
              have e5 : a.tmps[5]?.getD undef = .bool true := kp 5 (by kernel_rfl)
              rw [vv0]
              refine does_value rfl (by intro c h; cases h) (w' := W) ?_ (by simpa [did] using hS)
              · simp [execOp, go_sem, e5]
            | 1 =>
              simp only [List.getElem?_toArray, List.getElem?_cons_zero, List.getElem?_cons_succ, Option.some.injEq] at ho
              subst ho
              have p0 : b 0 = true := hd ⟨0, .data⟩ (by simp) rfl
              have e69 := (ev 0 69 rfl p0).trans vv0
              rw [vv1]
              refine does_value rfl (by intro c h; cases h) (w' := W) ?_ (by simpa [did] using hS)
              · simp [execOp, go_sem, e69]
            | 2 =>
              simp only [List.getElem?_toArray, List.getElem?_cons_zero, List.getElem?_cons_succ, Option.some.injEq] at ho
              subst ho
              have p1 : b 1 = true := hd ⟨1, .guard⟩ (by simp) rfl
              have e7 : a.tmps[7]?.getD undef = .int .i64 0 := kp 7 (by kernel_rfl)
              rw [vv2]
              refine does_value_g rfl (yl 1 70 true rfl p1 vv1) (by intro c h; cases h) (w' := W) ?_ (by simpa [did] using hS)
              · simp [execOp, go_sem, e7]
            | 3 =>
              simp only [List.getElem?_toArray, List.getElem?_cons_zero, List.getElem?_cons_succ, Option.some.injEq] at ho
              subst ho
              have p2 : b 2 = true := hd ⟨2, .data⟩ (by simp) rfl
              have p1 : b 1 = true := hd ⟨1, .guard⟩ (by simp) rfl
              have e71 := (ev 2 71 rfl p2).trans vv2
              rw [vv3]
              refine does_value_g rfl (yl 1 70 true rfl p1 vv1) (by intro c h; cases h) (w' := W) ?_ (by simpa [did] using hS)
              · simp [execOp, go_sem, e71]
            | 4 =>
              simp only [List.getElem?_toArray, List.getElem?_cons_zero, List.getElem?_cons_succ, Option.some.injEq] at ho
              subst ho
              have p1 : b 1 = true := hd ⟨1, .data⟩ (by simp) rfl
              have p3 : b 3 = true := hd ⟨3, .data⟩ (by simp) rfl
              have e70 := (ev 1 70 rfl p1).trans vv1
              have e72 := (ev 3 72 rfl p3).trans vv3
              rw [vv4]
              refine does_value rfl (by intro c h; cases h) (w' := W) ?_ (by simpa [did] using hS)
              · simp [execOp, go_sem, e70, e72]
            | 5 =>
              simp only [List.getElem?_toArray, List.getElem?_cons_zero, List.getElem?_cons_succ, Option.some.injEq] at ho
              subst ho
              have p4 : b 4 = true := hd ⟨4, .data⟩ (by simp) rfl
              have e73 := (ev 4 73 rfl p4).trans vv4
              rw [vv5]
              refine does_value rfl (by intro c h; cases h) (w' := W) ?_ (by simpa [did] using hS)
              · simp [execOp, go_sem, e73]
            | 6 =>
              simp only [List.getElem?_toArray, List.getElem?_cons_zero, List.getElem?_cons_succ, Option.some.injEq] at ho
              subst ho
              have p5 : b 5 = true := hd ⟨5, .guard⟩ (by simp) rfl
              have e6 : a.tmps[6]?.getD undef = .pointer (some ⟨x, 0, none⟩) := kp 6 (by kernel_rfl)
              rw [vv6]
              refine does_value_g rfl (yl 5 74 true rfl p5 vv5) (by intro c h; cases h) (w' := W) ?_ (by simpa [did] using hS)
              · simp [execOp, go_sem, e6]
            | 7 =>
              simp only [List.getElem?_toArray, List.getElem?_cons_zero, List.getElem?_cons_succ, Option.some.injEq] at ho
              subst ho
              have p6 : b 6 = true := hd ⟨6, .data⟩ (by simp) rfl
              have p5 : b 5 = true := hd ⟨5, .guard⟩ (by simp) rfl
              have e75 := (ev 6 75 rfl p6).trans vv6
              rw [vv7]
              refine does_value_g rfl (yl 5 74 true rfl p5 vv5) (by intro c h; cases h) (w' := W) ?_ (by simpa [did] using hS)
              · simp [execOp, go_sem, e75]
            | 8 =>
              simp only [List.getElem?_toArray, List.getElem?_cons_zero, List.getElem?_cons_succ, Option.some.injEq] at ho
              subst ho
              have p5 : b 5 = true := hd ⟨5, .data⟩ (by simp) rfl
              have p7 : b 7 = true := hd ⟨7, .data⟩ (by simp) rfl
              have e74 := (ev 5 74 rfl p5).trans vv5
              have e76 := (ev 7 76 rfl p7).trans vv7
              rw [vv8]
              refine does_value rfl (by intro c h; cases h) (w' := W) ?_ (by simpa [did] using hS)
              · simp [execOp, go_sem, e74, e76]
            | 9 =>
              simp only [List.getElem?_toArray, List.getElem?_cons_zero, List.getElem?_cons_succ, Option.some.injEq] at ho
              subst ho
              have p8 : b 8 = true := hd ⟨8, .data⟩ (by simp) rfl
              have e77 := (ev 8 77 rfl p8).trans vv8
              rw [vv9]
              refine does_value rfl (by intro c h; cases h) (w' := W) ?_ (by simpa [did] using hS)
              · simp [execOp, go_sem, e77]
            | 10 =>
              simp only [List.getElem?_toArray, List.getElem?_cons_zero, List.getElem?_cons_succ, Option.some.injEq] at ho
              subst ho
              have p9 : b 9 = true := hd ⟨9, .guard⟩ (by simp) rfl
              have e6 : a.tmps[6]?.getD undef = .pointer (some ⟨x, 0, none⟩) := kp 6 (by kernel_rfl)
              rw [vv10]
              refine does_value_g rfl (yl 9 78 true rfl p9 vv9) (by intro c h; cases h) (w' := W) ?_ (by simpa [did] using hS)
              · simp [execOp, go_sem, e6]
            | 11 =>
              simp only [List.getElem?_toArray, List.getElem?_cons_zero, List.getElem?_cons_succ, Option.some.injEq] at ho
              subst ho
              have p10 : b 10 = true := hd ⟨10, .data⟩ (by simp) rfl
              have p9 : b 9 = true := hd ⟨9, .guard⟩ (by simp) rfl
              have e79 := (ev 10 79 rfl p10).trans vv10
              rw [vv11]
              refine does_call_g rfl (yl 9 78 true rfl p9 vv9) (by intro c h; cases h) (f := 14) (args := #[.pointer (some ⟨x, 0, none⟩)]) ?_ ?_
              · simp [go_sem, e79]
              · rw [hS.2.2.2 hb]; refine cby.mono ?_; rintro e w3 ⟨rfl, h1, h2⟩; exact ⟨rfl, (cvs w3 h1 h2).2, fun _ => (cvs w3 h1 h2).1, H3.out.2.trans (h2.mono H3.out.2.size), fun h => by simp [did] at h⟩
            | 12 =>
              simp only [List.getElem?_toArray, List.getElem?_cons_zero, List.getElem?_cons_succ, Option.some.injEq] at ho
              subst ho
              have p11 : b 11 = true := hd ⟨11, .data⟩ (by simp) rfl
              have p9 : b 9 = true := hd ⟨9, .guard⟩ (by simp) rfl
              have e80 := (ev 11 80 rfl p11).trans vv11
              rw [vv12]
              refine does_value_g rfl (yl 9 78 true rfl p9 vv9) (by intro c h; cases h) (w' := W) ?_ (by simpa [did] using hS)
              · simp [execOp, go_sem, e80, hS.2.1 p11]
            | 13 =>
              simp only [List.getElem?_toArray, List.getElem?_cons_zero, List.getElem?_cons_succ, Option.some.injEq] at ho
              subst ho
              have p9 : b 9 = true := hd ⟨9, .guard⟩ (by simp) rfl
              have e0 : a.tmps[0]?.getD undef = .slice p L c := kp 0 (by kernel_rfl)
              rw [vv13]
              refine does_value_g rfl (yl 9 78 true rfl p9 vv9) (by intro c h; cases h) (w' := W) ?_ (by simpa [did] using hS)
              · simp [execOp, go_sem, e0]
            | 14 =>
              simp only [List.getElem?_toArray, List.getElem?_cons_zero, List.getElem?_cons_succ, Option.some.injEq] at ho
              subst ho
              have p13 : b 13 = true := hd ⟨13, .data⟩ (by simp) rfl
              have p9 : b 9 = true := hd ⟨9, .guard⟩ (by simp) rfl
              have e82 := (ev 13 82 rfl p13).trans vv13
              rw [vv14]
              refine does_value_g rfl (yl 9 78 true rfl p9 vv9) (by intro c h; cases h) (w' := W) ?_ (by simpa [did] using hS)
              · simp [execOp, go_sem, e82, hS.1]
            | 15 =>
              simp only [List.getElem?_toArray, List.getElem?_cons_zero, List.getElem?_cons_succ, Option.some.injEq] at ho
              subst ho
              have p12 : b 12 = true := hd ⟨12, .data⟩ (by simp) rfl
              have p14 : b 14 = true := hd ⟨14, .data⟩ (by simp) rfl
              have p9 : b 9 = true := hd ⟨9, .guard⟩ (by simp) rfl
              have e81 := (ev 12 81 rfl p12).trans vv12
              have e83 := (ev 14 83 rfl p14).trans vv14
              rw [vv15]
              refine does_value_g rfl (yl 9 78 true rfl p9 vv9) (by intro c h; cases h) (w' := W) ?_ (by simpa [did] using hS)
              · simp [execOp, go_sem, e81, e83]
            | 16 =>
              simp only [List.getElem?_toArray, List.getElem?_cons_zero, List.getElem?_cons_succ, Option.some.injEq] at ho
              subst ho
              have p9 : b 9 = true := hd ⟨9, .data⟩ (by simp) rfl
              have p15 : b 15 = true := hd ⟨15, .data⟩ (by simp) rfl
              have e78 := (ev 9 78 rfl p9).trans vv9
              have e84 := (ev 15 84 rfl p15).trans vv15
              rw [vv16]
              refine does_value rfl (by intro c h; cases h) (w' := W) ?_ (by simpa [did] using hS)
              · simp [execOp, go_sem, e78, e84]
            | 17 =>
              simp only [List.getElem?_toArray, List.getElem?_cons_zero, List.getElem?_cons_succ, Option.some.injEq] at ho
              subst ho
              have p16 : b 16 = true := hd ⟨16, .data⟩ (by simp) rfl
              have e85 := (ev 16 85 rfl p16).trans vv16
              rw [vv17]
              refine does_value rfl (by intro c h; cases h) (w' := W) ?_ (by simpa [did] using hS)
              · simp [execOp, go_sem, e85]
            | k + 18 => simp at ho
          · intro b W hS _
            have HS : Hid (Below w.heap.size w W) := hS.2.2.1
            subst hLe
            clear hS cby cvs cv0
            simp only [putAll, List.setIfInBounds_toArray, List.set_cons_zero, List.set_cons_succ]
            go_wp2
            go_ret
            exact ⟨rfl, HS.out⟩
          -- END
        · obtain ⟨b, hbl⟩ : ∃ b, bs2[bs2.length - 1]? = some b := ⟨_, List.getElem?_eq_getElem (show bs2.length - 1 < bs2.length by rw [hL, H1.out.2.1]; omega)⟩
          obtain ⟨g, o, rfl, hx⟩ := H1.out.1 (by rw [hL, H1.out.2.1]; omega)
          have cell := hx _ _ hbl
          rw [hL] at cell
          obtain ⟨K, hK⟩ : ∃ K, L - 1 = K := ⟨_, rfl⟩
          rw [hK] at cell
          have hKI : (L : Int) - 1 = (K : Int) := by have := H1.out.2.1; omega
          have hKL : (K : Int) < (L : Int) := by omega
          have h8I : ((n : Int) % 8 != 0) = true := by simp; omega
          obtain ⟨r, hr⟩ : ∃ r, n % 8 = r := ⟨_, rfl⟩
          have er : (n : Int) % 8 = (r : Int) := by omega
          have hr8 : r ≤ 8 := by omega
          have HQ : Hid (∀ ws, Fit n ws → used ws = bitOf bs2 → (tooLongB n ws = false ↔ b.toNat / 2 ^ r = 0)) := fun ws hf hu => by
            rw [← hr]; exact last_byte hf hu (by rw [hL]; exact H1.out.2.1) h8 hbl
          unfold u8v at cell
          generalize b.toNat = z at *
          clear hx hbl hr h8 hK
          by_cases hz : z / 2 ^ r = 0
          · have hzI : (z : Int) / 2 ^ r = 0 := by
              have : ((z / 2 ^ r : Nat) : Int) = 0 := by rw [hz]; rfl
              simpa using this
            have cl' : Calls Tryd.prog 13 #[.slice (some ⟨g, o, none⟩) L c, .int .i64 n] w1 fun e w' => ∃ x, e = .returned (.tuple #[.pointer (some ⟨x, 0, none⟩), .int .i64 0]) ∧ Hid (∃ m, m.a = x ∧ MapAt w' m ∧ BytesOf m.n (used m.ws) bs2 ∧ Below w1.heap.size w1 w') := by
              refine cl.mono ?_
              rintro e w' ⟨ws, hf, hu, hB, hor⟩
              have hfalse := (HQ.out ws hf hu).2 hz
              obtain ⟨ht, _⟩ | ⟨_, he, hM⟩ := hor
              · rw [hfalse] at ht; cases ht
              · exact ⟨_, he, _, rfl, hM, bytesOf_bits hu (by rw [hL]; exact H1.out.2.1), hB⟩
            clear cl hz HQ
            have HC : Hid (w1.cell? ⟨g, o + K, none⟩ = some (.int .u8 (z : Int))) := cell
            clear cell
            go_wp2_with (go_at_call 13; refine cl'.mono ?_; rintro e w2 ⟨x, rfl, H2⟩; have cell2 := cell_of H2 HC.out; clear cl')
            have H3 : Hid (Bytes w2 (some ⟨g, o, none⟩) bs2 ∧ Below w.heap.size w w2) := by
              obtain ⟨m, _, _, _, hB2⟩ := H2.out
              exact ⟨H1.out.1.below hB2, HB.out.trans (hB2.mono HB.out.size)⟩
            have cby : Calls Tryd.prog 14 #[.pointer (some ⟨x, 0, none⟩)] w2.drew fun e w' => e = .returned (.slice (some ⟨w2.heap.size, 0, none⟩) bs2.length bs2.length) ∧ w'.heap[w2.heap.size]? = some (.cells (bs2.map u8v).toArray 5 (0, 0)) ∧ Below w2.heap.size w2 w' := by
              obtain ⟨m, hx, hM, hof, _⟩ := H2.out
              subst hx
              refine (bytes_any m w2.drew hM.drew).mono ?_
              rintro e w' ⟨bs3, rfl, hof3, hblk, hB3⟩
              obtain rfl : bs3 = bs2 := hof3.eq hof (fun _ _ => rfl)
              exact ⟨rfl, hblk, below_of_drew hB3⟩
            have cv0 := run_str w2.drew (some ⟨g, o, none⟩) bs2 c H3.out.1
            have cvs : ∀ w3, w3.heap[w2.heap.size]? = some (.cells (bs2.map u8v).toArray 5 (0, 0)) → Below w2.heap.size w2 w3 → (convert 39 9 (.slice (some ⟨w2.heap.size, 0, none⟩) L L)).run Tryd.prog w3 = .ok (.string (strOf bs2)) w3 ∧ (convert 39 9 (.slice (some ⟨g, o, none⟩) L c)).run Tryd.prog w3 = .ok (.string (strOf bs2)) w3 := fun w3 h1 h2 => by
              have k1 := run_str w3 (some ⟨w2.heap.size, 0, none⟩) bs2 L (Bytes.block h1)
              have k2 := run_str w3 (some ⟨g, o, none⟩) bs2 c (H3.out.1.below h2)
              rw [hL] at k1 k2
              exact ⟨k1, k2⟩
            rw [hL] at cv0 cby
            have hse : ((strOf bs2).toList == (strOf bs2).toList) = true := by simp
            generalize strOf bs2 = S at *
            have hmix : Tryd.prog.follows .mixedOrders = true := by kernel_rfl
            obtain ⟨LL, hLe⟩ : ∃ LL : List (Option Tmp × Value), LL = [(some 69, .bool true), (some 70, .bool true), (some 71, .int .i64 0), (some 72, .bool true), (some 73, .bool true), (some 74, .bool true), (some 75, .pointer (some ⟨x, 0, none⟩)), (some 76, .bool true), (some 77, .bool true), (some 78, .bool true), (some 79, .pointer (some ⟨x, 0, none⟩)), (some 80, .slice (some ⟨w2.heap.size, 0, none⟩) L L), (some 81, .string S), (some 82, .slice (some ⟨g, o, none⟩) L c), (some 83, .string S), (some 84, .bool true), (some 85, .bool true), (some 4, .bool true)] := ⟨_, rfl⟩
            have vv0 : vals LL 0 = .bool true := by rw [hLe]; rfl
            have vv1 : vals LL 1 = .bool true := by rw [hLe]; rfl
            have vv2 : vals LL 2 = .int .i64 0 := by rw [hLe]; rfl
            have vv3 : vals LL 3 = .bool true := by rw [hLe]; rfl
            have vv4 : vals LL 4 = .bool true := by rw [hLe]; rfl
            have vv5 : vals LL 5 = .bool true := by rw [hLe]; rfl
            have vv6 : vals LL 6 = .pointer (some ⟨x, 0, none⟩) := by rw [hLe]; rfl
            have vv7 : vals LL 7 = .bool true := by rw [hLe]; rfl
            have vv8 : vals LL 8 = .bool true := by rw [hLe]; rfl
            have vv9 : vals LL 9 = .bool true := by rw [hLe]; rfl
            have vv10 : vals LL 10 = .pointer (some ⟨x, 0, none⟩) := by rw [hLe]; rfl
            have vv11 : vals LL 11 = .slice (some ⟨w2.heap.size, 0, none⟩) L L := by rw [hLe]; rfl
            have vv12 : vals LL 12 = .string S := by rw [hLe]; rfl
            have vv13 : vals LL 13 = .slice (some ⟨g, o, none⟩) L c := by rw [hLe]; rfl
            have vv14 : vals LL 14 = .string S := by rw [hLe]; rfl
            have vv15 : vals LL 15 = .bool true := by rw [hLe]; rfl
            have vv16 : vals LL 16 = .bool true := by rw [hLe]; rfl
            have vv17 : vals LL 17 = .bool true := by rw [hLe]; rfl
            refine region_laid hmix (by kernel_rfl) 86 rfl (by kernel_rfl) LL (by rw [hLe]; rfl) (fun b W => ((convert 39 9 (.slice (some ⟨g, o, none⟩) L c)).run Tryd.prog W = .ok (.string S) W) ∧ (b 11 = true → (convert 39 9 (.slice (some ⟨w2.heap.size, 0, none⟩) L L)).run Tryd.prog W = .ok (.string S) W) ∧ Below w.heap.size w W ∧ (b 11 = false → W = w2.drew)) ⟨cv0, (fun h => by cases h), ⟨H3.out.2.os, H3.out.2.tape, H3.out.2.output, H3.out.2.size, H3.out.2.block⟩, fun _ => rfl⟩ ?_ ?_
            · intro b W i o a hS hcl ho hb hd ev kp yl
              match i with
              | 0 =>
                simp only [List.getElem?_toArray, List.getElem?_cons_zero, Option.some.injEq] at ho
                subst ho
                have e5 : a.tmps[5]?.getD undef = .bool true := kp 5 (by kernel_rfl)
                rw [vv0]
                refine does_value rfl (by intro c h; cases h) (w' := W) ?_ (by simpa [did] using hS)
                · simp [execOp, go_sem, e5]
              | 1 =>
                simp only [List.getElem?_toArray, List.getElem?_cons_zero, List.getElem?_cons_succ, Option.some.injEq] at ho
                subst ho
                have p0 : b 0 = true := hd ⟨0, .data⟩ (by simp) rfl
                have e69 := (ev 0 69 rfl p0).trans vv0
                rw [vv1]
                refine does_value rfl (by intro c h; cases h) (w' := W) ?_ (by simpa [did] using hS)
                · simp [execOp, go_sem, e69]
              | 2 =>
                simp only [List.getElem?_toArray, List.getElem?_cons_zero, List.getElem?_cons_succ, Option.some.injEq] at ho
                subst ho
                have p1 : b 1 = true := hd ⟨1, .guard⟩ (by simp) rfl
                have e7 : a.tmps[7]?.getD undef = .int .i64 0 := kp 7 (by kernel_rfl)
                rw [vv2]
                refine does_value_g rfl (yl 1 70 true rfl p1 vv1) (by intro c h; cases h) (w' := W) ?_ (by simpa [did] using hS)
                · simp [execOp, go_sem, e7]
              | 3 =>
                simp only [List.getElem?_toArray, List.getElem?_cons_zero, List.getElem?_cons_succ, Option.some.injEq] at ho
                subst ho
                have p2 : b 2 = true := hd ⟨2, .data⟩ (by simp) rfl
                have p1 : b 1 = true := hd ⟨1, .guard⟩ (by simp) rfl
                have e71 := (ev 2 71 rfl p2).trans vv2
                rw [vv3]
                refine does_value_g rfl (yl 1 70 true rfl p1 vv1) (by intro c h; cases h) (w' := W) ?_ (by simpa [did] using hS)
                · simp [execOp, go_sem, e71]
              | 4 =>
                simp only [List.getElem?_toArray, List.getElem?_cons_zero, List.getElem?_cons_succ, Option.some.injEq] at ho
                subst ho
                have p1 : b 1 = true := hd ⟨1, .data⟩ (by simp) rfl
                have p3 : b 3 = true := hd ⟨3, .data⟩ (by simp) rfl
                have e70 := (ev 1 70 rfl p1).trans vv1
                have e72 := (ev 3 72 rfl p3).trans vv3
                rw [vv4]
                refine does_value rfl (by intro c h; cases h) (w' := W) ?_ (by simpa [did] using hS)
                · simp [execOp, go_sem, e70, e72]
              | 5 =>
                simp only [List.getElem?_toArray, List.getElem?_cons_zero, List.getElem?_cons_succ, Option.some.injEq] at ho
                subst ho
                have p4 : b 4 = true := hd ⟨4, .data⟩ (by simp) rfl
                have e73 := (ev 4 73 rfl p4).trans vv4
                rw [vv5]
                refine does_value rfl (by intro c h; cases h) (w' := W) ?_ (by simpa [did] using hS)
                · simp [execOp, go_sem, e73]
              | 6 =>
                simp only [List.getElem?_toArray, List.getElem?_cons_zero, List.getElem?_cons_succ, Option.some.injEq] at ho
                subst ho
                have p5 : b 5 = true := hd ⟨5, .guard⟩ (by simp) rfl
                have e6 : a.tmps[6]?.getD undef = .pointer (some ⟨x, 0, none⟩) := kp 6 (by kernel_rfl)
                rw [vv6]
                refine does_value_g rfl (yl 5 74 true rfl p5 vv5) (by intro c h; cases h) (w' := W) ?_ (by simpa [did] using hS)
                · simp [execOp, go_sem, e6]
              | 7 =>
                simp only [List.getElem?_toArray, List.getElem?_cons_zero, List.getElem?_cons_succ, Option.some.injEq] at ho
                subst ho
                have p6 : b 6 = true := hd ⟨6, .data⟩ (by simp) rfl
                have p5 : b 5 = true := hd ⟨5, .guard⟩ (by simp) rfl
                have e75 := (ev 6 75 rfl p6).trans vv6
                rw [vv7]
                refine does_value_g rfl (yl 5 74 true rfl p5 vv5) (by intro c h; cases h) (w' := W) ?_ (by simpa [did] using hS)
                · simp [execOp, go_sem, e75]
              | 8 =>
                simp only [List.getElem?_toArray, List.getElem?_cons_zero, List.getElem?_cons_succ, Option.some.injEq] at ho
                subst ho
                have p5 : b 5 = true := hd ⟨5, .data⟩ (by simp) rfl
                have p7 : b 7 = true := hd ⟨7, .data⟩ (by simp) rfl
                have e74 := (ev 5 74 rfl p5).trans vv5
                have e76 := (ev 7 76 rfl p7).trans vv7
                rw [vv8]
                refine does_value rfl (by intro c h; cases h) (w' := W) ?_ (by simpa [did] using hS)
                · simp [execOp, go_sem, e74, e76]
              | 9 =>
                simp only [List.getElem?_toArray, List.getElem?_cons_zero, List.getElem?_cons_succ, Option.some.injEq] at ho
                subst ho
                have p8 : b 8 = true := hd ⟨8, .data⟩ (by simp) rfl
                have e77 := (ev 8 77 rfl p8).trans vv8
                rw [vv9]
                refine does_value rfl (by intro c h; cases h) (w' := W) ?_ (by simpa [did] using hS)
                · simp [execOp, go_sem, e77]
              | 10 =>
                simp only [List.getElem?_toArray, List.getElem?_cons_zero, List.getElem?_cons_succ, Option.some.injEq] at ho
                subst ho
                have p9 : b 9 = true := hd ⟨9, .guard⟩ (by simp) rfl
                have e6 : a.tmps[6]?.getD undef = .pointer (some ⟨x, 0, none⟩) := kp 6 (by kernel_rfl)
                rw [vv10]
                refine does_value_g rfl (yl 9 78 true rfl p9 vv9) (by intro c h; cases h) (w' := W) ?_ (by simpa [did] using hS)
                · simp [execOp, go_sem, e6]
              | 11 =>
                simp only [List.getElem?_toArray, List.getElem?_cons_zero, List.getElem?_cons_succ, Option.some.injEq] at ho
                subst ho
                have p10 : b 10 = true := hd ⟨10, .data⟩ (by simp) rfl
                have p9 : b 9 = true := hd ⟨9, .guard⟩ (by simp) rfl
                have e79 := (ev 10 79 rfl p10).trans vv10
                rw [vv11]
                refine does_call_g rfl (yl 9 78 true rfl p9 vv9) (by intro c h; cases h) (f := 14) (args := #[.pointer (some ⟨x, 0, none⟩)]) ?_ ?_
                · simp [go_sem, e79]
                · rw [hS.2.2.2 hb]; refine cby.mono ?_; rintro e w3 ⟨rfl, h1, h2⟩; exact ⟨rfl, (cvs w3 h1 h2).2, fun _ => (cvs w3 h1 h2).1, H3.out.2.trans (h2.mono H3.out.2.size), fun h => by simp [did] at h⟩
              | 12 =>
                simp only [List.getElem?_toArray, List.getElem?_cons_zero, List.getElem?_cons_succ, Option.some.injEq] at ho
                subst ho
                have p11 : b 11 = true := hd ⟨11, .data⟩ (by simp) rfl
                have p9 : b 9 = true := hd ⟨9, .guard⟩ (by simp) rfl
                have e80 := (ev 11 80 rfl p11).trans vv11
                rw [vv12]
                refine does_value_g rfl (yl 9 78 true rfl p9 vv9) (by intro c h; cases h) (w' := W) ?_ (by simpa [did] using hS)
                · simp [execOp, go_sem, e80, hS.2.1 p11]
              | 13 =>
                simp only [List.getElem?_toArray, List.getElem?_cons_zero, List.getElem?_cons_succ, Option.some.injEq] at ho
                subst ho
                have p9 : b 9 = true := hd ⟨9, .guard⟩ (by simp) rfl
                have e0 : a.tmps[0]?.getD undef = .slice (some ⟨g, o, none⟩) L c := kp 0 (by kernel_rfl)
                rw [vv13]
                refine does_value_g rfl (yl 9 78 true rfl p9 vv9) (by intro c h; cases h) (w' := W) ?_ (by simpa [did] using hS)
                · simp [execOp, go_sem, e0]
              | 14 =>
                simp only [List.getElem?_toArray, List.getElem?_cons_zero, List.getElem?_cons_succ, Option.some.injEq] at ho
                subst ho
                have p13 : b 13 = true := hd ⟨13, .data⟩ (by simp) rfl
                have p9 : b 9 = true := hd ⟨9, .guard⟩ (by simp) rfl
                have e82 := (ev 13 82 rfl p13).trans vv13
                rw [vv14]
                refine does_value_g rfl (yl 9 78 true rfl p9 vv9) (by intro c h; cases h) (w' := W) ?_ (by simpa [did] using hS)
                · simp [execOp, go_sem, e82, hS.1]
              | 15 =>
                simp only [List.getElem?_toArray, List.getElem?_cons_zero, List.getElem?_cons_succ, Option.some.injEq] at ho
                subst ho
                have p12 : b 12 = true := hd ⟨12, .data⟩ (by simp) rfl
                have p14 : b 14 = true := hd ⟨14, .data⟩ (by simp) rfl
                have p9 : b 9 = true := hd ⟨9, .guard⟩ (by simp) rfl
                have e81 := (ev 12 81 rfl p12).trans vv12
                have e83 := (ev 14 83 rfl p14).trans vv14
                rw [vv15]
                refine does_value_g rfl (yl 9 78 true rfl p9 vv9) (by intro c h; cases h) (w' := W) ?_ (by simpa [did] using hS)
                · simp [execOp, go_sem, e81, e83]
              | 16 =>
                simp only [List.getElem?_toArray, List.getElem?_cons_zero, List.getElem?_cons_succ, Option.some.injEq] at ho
                subst ho
                have p9 : b 9 = true := hd ⟨9, .data⟩ (by simp) rfl
                have p15 : b 15 = true := hd ⟨15, .data⟩ (by simp) rfl
                have e78 := (ev 9 78 rfl p9).trans vv9
                have e84 := (ev 15 84 rfl p15).trans vv15
                rw [vv16]
                refine does_value rfl (by intro c h; cases h) (w' := W) ?_ (by simpa [did] using hS)
                · simp [execOp, go_sem, e78, e84]
              | 17 =>
                simp only [List.getElem?_toArray, List.getElem?_cons_zero, List.getElem?_cons_succ, Option.some.injEq] at ho
                subst ho
                have p16 : b 16 = true := hd ⟨16, .data⟩ (by simp) rfl
                have e85 := (ev 16 85 rfl p16).trans vv16
                rw [vv17]
                refine does_value rfl (by intro c h; cases h) (w' := W) ?_ (by simpa [did] using hS)
                · simp [execOp, go_sem, e85]
              | k + 18 => simp at ho
            · intro b W hS _
              have HS : Hid (Below w.heap.size w W) := hS.2.2.1
              subst hLe
              clear hS cby cvs cv0
              simp only [putAll, List.setIfInBounds_toArray, List.set_cons_zero, List.set_cons_succ]
              go_wp2
              go_ret
              exact ⟨rfl, HS.out⟩
            -- END
          · have hzI : ((z : Int) / 2 ^ r == 0) = false := by
              have : ¬ ((z / 2 ^ r : Nat) : Int) = 0 := by omega
              simpa using this
            have cl' : Calls Tryd.prog 13 #[.slice (some ⟨g, o, none⟩) L c, .int .i64 n] w1 fun e w' => e = .returned (.tuple #[.pointer none, .int .i64 74]) ∧ Hid (Below w1.heap.size w1 w') := by
              refine cl.mono ?_
              rintro e w' ⟨ws, hf, hu, hB, hor⟩
              have hq := HQ.out ws hf hu
              obtain ⟨_, he⟩ | ⟨hfalse, _⟩ := hor
              · exact ⟨he, hB⟩
              · exact absurd (hq.1 hfalse) hz
            clear cl hz HQ
            have HC : Hid (w1.cell? ⟨g, o + K, none⟩ = some (.int .u8 (z : Int))) := cell
            clear cell
            go_wp2_with (go_at_call 13; refine cl'.mono ?_; rintro e w2 ⟨rfl, H2⟩; have cell2 := (H2.out.cell (p := ⟨g, o + K, none⟩) (cell_lt HC.out)).trans HC.out; clear cl')
            go_ret
            exact ⟨rfl, HB.out.trans (H2.out.mono HB.out.size)⟩
      · have cl := load_len p L c n w1 hn2 ht1.lt hlen
        obtain ⟨N, hN⟩ : ∃ N, (n + 7) / 8 = N := ⟨_, rfl⟩
        have eN : ((n : Int) + 7) / 8 = (N : Int) := by omega
        have hlI : ((L : Int) == (N : Int)) = false := by simp; omega
        clear ht1 hb1 hlen hN
        go_wp2_with (go_at_call 13; refine cl.mono ?_; rintro e w2 ⟨rfl, hB2⟩; have HB2 : Hid (Below w1.heap.size w1 w2) := hB2; clear hB2 cl)
        go_ret
        exact ⟨rfl, HB.out.trans (HB2.out.mono HB.out.size)⟩
    · have cl := load_out p L c n w1 hn
      by_cases hn0 : n < 0
      · clear hn
        go_wp2_with (go_at_call 13; refine Calls_on cl ?_; clear cl)
        go_ret
        exact ⟨rfl, HB.out⟩
      · have hn1 : 65536 < n := by omega
        clear hn
        go_wp2_with (go_at_call 13; refine Calls_on cl ?_; clear cl)
        go_ret
        exact ⟨rfl, HB.out⟩
end Go.Proofs.YtndefmchaohikaaDoor
