/-
  InodeLoad, for all bytes, whatever the memory and the order that Go leaves open, returns true and leaves its argument and all memory that was there as it was. The tables of packages crc and math/bits start as the program's text lays them (the card ties them).
-/
import Derived.Test.YtphedokdckoccaaGreatDoorHf
import Derived.Test.YtphedokdckoccaaGreatDoorCopen
import Derived.Deep.Grids

/-
  InodeLoad of the law.
-/
namespace Go.Proofs.YtphedokdckoccaaGreatDoor
open Go.RowKit Go.Maps Go.Sort Go.Shelf

theorem le4_num (b0 b1 b2 b3 : BitVec 8) : le4 (BitVec.ofNat 32 (leN [b0, b1, b2, b3])) = [b0, b1, b2, b3] := by
  have l0 := b0.isLt
  have l1 := b1.isLt
  have l2 := b2.isLt
  have l3 := b3.isLt
  have hN : leN [b0, b1, b2, b3] = b0.toNat + 256 * (b1.toNat + 256 * (b2.toNat + 256 * b3.toNat)) := by simp [leN]
  have e : ∀ (x : BitVec 8) (k : Nat), leN [b0, b1, b2, b3] / 2 ^ k % 256 = x.toNat → ((BitVec.ofNat 32 (leN [b0, b1, b2, b3])) >>> k).setWidth 8 = x := by
    intro x k h
    apply BitVec.eq_of_toNat_eq
    rw [BitVec.toNat_setWidth, BitVec.toNat_ushiftRight, Nat.shiftRight_eq_div_pow, BitVec.toNat_ofNat, Nat.mod_eq_of_lt (leN4_lt b0 b1 b2 b3)]
    exact h
  have e0 : (BitVec.ofNat 32 (leN [b0, b1, b2, b3])).setWidth 8 = b0 := by
    apply BitVec.eq_of_toNat_eq
    rw [BitVec.toNat_setWidth, BitVec.toNat_ofNat, Nat.mod_eq_of_lt (leN4_lt b0 b1 b2 b3), hN]
    omega
  unfold le4
  rw [e0, e b1 8 (by rw [hN]; omega), e b2 16 (by rw [hN]; omega), e b3 24 (by rw [hN]; omega)]
theorem le4_at (bs : By) (i : Nat) (h : 4 * i + 4 ≤ bs.length) : le4 (numOf bs i) = (bs.drop (4 * i)).take 4 := by
  obtain ⟨b0, b1, b2, b3, h4, _⟩ := four_at bs i h
  unfold numOf
  rw [h4, le4_num]
theorem nums_bytes (bs : By) : ∀ k, 4 + 4 * k ≤ bs.length → ((List.range k).map fun i => numOf bs (1 + i)).flatMap le4 = (bs.drop 4).take (4 * k)
  | 0, _ => by simp
  | k + 1, h => by
    rw [List.range_succ, List.map_append, List.flatMap_append, nums_bytes bs k (by omega)]
    simp only [List.map_cons, List.map_nil, List.flatMap_cons, List.flatMap_nil, List.append_nil]
    rw [le4_at bs (1 + k) (by omega), show 4 * (k + 1) = 4 * k + 4 by omega, List.take_add, List.drop_drop, show 4 * (1 + k) = 4 + 4 * k by omega]
theorem bytes_again (bs : By) (h : bs.length = 44) : inoBytes (numOf bs 0) (numsOf bs) = bs := by
  unfold inoBytes numsOf
  rw [le4_at bs 0 (by omega), nums_bytes bs 10 (by omega), Nat.mul_zero, List.drop_zero, List.take_of_length_le (l := bs.drop 4) (by rw [List.length_drop]; omega), List.take_append_drop]

/-- The law's own number. -/
theorem size_or (b0 b1 b2 b3 : BitVec 8) : bits .or .i64 (bits .or .i64 (bits .or .i64 (b0.toNat : Int) ((b1.toNat : Int) * 256)) ((b2.toNat : Int) * 65536)) ((b3.toNat : Int) * 16777216) = ((leN [b0, b1, b2, b3] : Nat) : Int) := by
  have l0 := b0.isLt
  have l1 := b1.isLt
  have l2 := b2.isLt
  have l3 := b3.isLt
  have h1 := or64 (a := b0.toNat) (b := b1.toNat) (m := 256) (n := 8) rfl (by omega) (by omega) (by omega)
  have h2 := or64 (a := b0.toNat + b1.toNat * 256) (b := b2.toNat) (m := 65536) (n := 16) rfl (by omega) (by omega) (by omega)
  have h3 := or64 (a := b0.toNat + b1.toNat * 256 + b2.toNat * 65536) (b := b3.toNat) (m := 16777216) (n := 24) rfl (by omega) (by omega) (by omega)
  rw [show ((b1.toNat : Int) * 256) = (b1.toNat : Int) * ((256 : Nat) : Int) from rfl, h1, show ((b2.toNat : Int) * 65536) = (b2.toNat : Int) * ((65536 : Nat) : Int) from rfl, h2, show ((b3.toNat : Int) * 16777216) = (b3.toNat : Int) * ((16777216 : Nat) : Int) from rfl, h3]
  congr 1
  simp [leN]
  omega

set_option maxRecDepth 8000 in
set_option maxHeartbeats 1000000 in
theorem load_not (p : Option Addr) (l cp : Nat) (w : World) (ht : Tab w) (ht6 : Bm.Tab64 w) (hc : l ≤ cp) (hl : l ≠ 44) (hl2 : l < 9223372036854775808) :
    Calls Tryz.prog 7 #[.slice p l cp] w fun e w' => e = .returned (.bool true) ∧ Below w.heap.size w w' := by
  have cb := begun9_true w ht ht6
  have cL : ∀ W (k : Nat), k ≠ 44 → Calls Tryz.prog 49 #[.slice p k cp] W fun e w' => e = .returned (.tuple #[.pointer none, .int .i64 74]) ∧ w' = W := fun W k hk => load_len p k cp W hk
  clear ht ht6
  by_cases h60 : l ≤ 60
  · have h60' : ¬ 60 < (l : Int) := by omega
    have h44 : ((l : Int) == 44) = false := by simp; omega
    go_enter Tryz.func7, Tryz.ntmps7
    go_wp2_with (first
      | (go_at_call 39; refine cb.mono ?_; rintro e w1 ⟨rfl, hB⟩; have HB : Hid (Below w.heap.size w w1) := hB; clear hB cb)
      | (go_at_call 49; refine Calls_on (cL _ _ hl) ?_))
    go_ret
    exact ⟨rfl, HB.out⟩
  · have h60' : 60 < (l : Int) := by omega
    have h60n : 60 ≤ cp := by omega
    go_enter Tryz.func7, Tryz.ntmps7
    go_wp2_with (first
      | (go_at_call 39; refine cb.mono ?_; rintro e w1 ⟨rfl, hB⟩; have HB : Hid (Below w.heap.size w w1) := hB; clear hB cb)
      | (go_at_call 49; refine Calls_on (cL _ 60 (by decide)) ?_))
    go_ret
    exact ⟨rfl, HB.out⟩

set_option maxRecDepth 8000 in
set_option maxHeartbeats 2000000 in
theorem load_44big (p : Option Addr) (bs : By) (cp : Nat) (w : World) (ht : Tab w) (ht6 : Bm.Tab64 w) (hb : Bytes w p bs) (hc : bs.length ≤ cp) (hl : bs.length = 44) (hs : 65536 < (numOf bs 0).toNat) :
    Calls Tryz.prog 7 #[.slice p bs.length cp] w fun e w' => e = .returned (.bool true) ∧ Below w.heap.size w w' := by
  have cb := begun9_true w ht ht6
  have cL : ∀ W, Below w.heap.size w W → Calls Tryz.prog 49 #[.slice p bs.length cp] W fun e w' => e = .returned (.tuple #[.pointer none, .int .i64 74]) ∧ w' = W := fun W hW => load_big p bs cp W (below_bytes hW hb) hc hl hs
  obtain ⟨g, o, rfl, hx⟩ := hb (by omega)
  obtain ⟨b0, b1, b2, b3, h4, x0, x1, x2, x3⟩ := four_at bs 0 (by omega)
  have hsz : (numOf bs 0).toNat = leN [b0, b1, b2, b3] := by unfold numOf; rw [h4, BitVec.toNat_ofNat, Nat.mod_eq_of_lt (leN4_lt b0 b1 b2 b3)]
  rw [hsz] at hs
  have hor := size_or b0 b1 b2 b3
  generalize leN [b0, b1, b2, b3] = sz at *
  have hs' : decide ((sz : Int) ≤ 65536) = false := by simp; omega
  have HX : Hid (∀ W, Below w.heap.size w W → W.cell? ⟨g, o, none⟩ = some (.int .u8 (b0.toNat : Int)) ∧ W.cell? ⟨g, o + 1, none⟩ = some (.int .u8 (b1.toNat : Int)) ∧ W.cell? ⟨g, o + 2, none⟩ = some (.int .u8 (b2.toNat : Int)) ∧ W.cell? ⟨g, o + 3, none⟩ = some (.int .u8 (b3.toNat : Int))) := fun W hW => by
    have k0 := hx 0 b0 x0
    have k1 := hx 1 b1 x1
    have k2 := hx 2 b2 x2
    have k3 := hx 3 b3 x3
    exact ⟨(hW.cell (p := ⟨g, o + 0, none⟩) (cell_lt k0)).trans k0, (hW.cell (p := ⟨g, o + 1, none⟩) (cell_lt k1)).trans k1, (hW.cell (p := ⟨g, o + 2, none⟩) (cell_lt k2)).trans k2, (hW.cell (p := ⟨g, o + 3, none⟩) (cell_lt k3)).trans k3⟩
  rw [hl] at cL ⊢
  have l0 := b0.isLt
  have l1 := b1.isLt
  have l2 := b2.isLt
  have l3 := b3.isLt
  clear ht ht6 hb hc hl hs hx h4 x0 x1 x2 x3 hsz
  go_enter Tryz.func7, Tryz.ntmps7
  go_wp2_with (go_at_call 39; refine cb.mono ?_; rintro e w1 ⟨rfl, hB⟩; clear cb; refine Stop.out ?_)
  refine Stop.mk ?_
  have cL' := cL w1 hB
  obtain ⟨c0, c1, c2, c3⟩ := HX.out w1 hB
  have HB : Hid (Below w.heap.size w w1) := hB
  clear cL HX hB
  go_wp2_with (go_at_call 49; refine Calls_on cL' ?_; clear cL')
  go_quiet (fail)
  go_wp2
  go_ret
  exact ⟨rfl, below_drewN HB.out nq⟩

theorem str_len {W : World} {p : Option Addr} {bs : By} {c n : Nat} (hl : bs.length = n) (h : (convert 55 9 (.slice p bs.length c)).run Tryz.prog W = .ok (.string (strOf bs)) W) : (convert 55 9 (.slice p n c)).run Tryz.prog W = .ok (.string (strOf bs)) W := by
  rw [hl] at h
  exact h

/-- What holds while the check of InodeLoad goes on. -/
structure LB (w W : World) (s : Nat) (bs : By) (b : Bool) : Prop where
  below : Below w.heap.size w W
  no : b = false → W.heap.size = s
  yes : b = true → W.heap[s]? = some (.cells (bs.map u8v).toArray 5 (0, 0))

set_option maxRecDepth 8000 in
set_option maxHeartbeats 2000000 in
theorem load_44ok (p : Option Addr) (bs : By) (cp : Nat) (w : World) (ht : Tab w) (ht6 : Bm.Tab64 w) (hb : Bytes w p bs) (hc : bs.length ≤ cp) (hl : bs.length = 44) (hs : (numOf bs 0).toNat ≤ 65536) :
    Calls Tryz.prog 7 #[.slice p bs.length cp] w fun e w' => e = .returned (.bool true) ∧ Below w.heap.size w w' := by
  have hmix : Tryz.prog.follows .mixedOrders = true := by kernel_rfl
  have cb := begun9_true w ht ht6
  have cL : ∀ W, Below w.heap.size w W → Calls Tryz.prog 49 #[.slice p bs.length cp] W fun e w' => e = .returned (.tuple #[.pointer (some ⟨W.heap.size, 0, none⟩), .int .i64 0]) ∧ InoAt w' W.heap.size (numOf bs 0).toNat (numsOf bs) ∧ Below W.heap.size W w' := fun W hW => load_ok p bs cp W (below_bytes hW hb) hc hl hs
  have hba := bytes_again bs hl
  have HBy : Hid (Bytes w p bs) := hb
  obtain ⟨g, o, rfl, hx⟩ := hb (by omega)
  obtain ⟨b0, b1, b2, b3, h4, x0, x1, x2, x3⟩ := four_at bs 0 (by omega)
  have hsz : (numOf bs 0).toNat = leN [b0, b1, b2, b3] := by unfold numOf; rw [h4, BitVec.toNat_ofNat, Nat.mod_eq_of_lt (leN4_lt b0 b1 b2 b3)]
  have HI : Hid (inoBytes (numOf bs 0) (numsOf bs) = bs ∧ bs.length = 44) := ⟨hba, hl⟩
  have hs1 := hs
  rw [hsz] at hs1
  have hor := size_or b0 b1 b2 b3
  generalize leN [b0, b1, b2, b3] = sz at *
  have hs' : decide ((sz : Int) ≤ 65536) = true := by simp; omega
  have HX : Hid (∀ W, Below w.heap.size w W → W.cell? ⟨g, o, none⟩ = some (.int .u8 (b0.toNat : Int)) ∧ W.cell? ⟨g, o + 1, none⟩ = some (.int .u8 (b1.toNat : Int)) ∧ W.cell? ⟨g, o + 2, none⟩ = some (.int .u8 (b2.toNat : Int)) ∧ W.cell? ⟨g, o + 3, none⟩ = some (.int .u8 (b3.toNat : Int))) := fun W hW => by
    have k0 := hx 0 b0 x0
    have k1 := hx 1 b1 x1
    have k2 := hx 2 b2 x2
    have k3 := hx 3 b3 x3
    exact ⟨(hW.cell (p := ⟨g, o + 0, none⟩) (cell_lt k0)).trans k0, (hW.cell (p := ⟨g, o + 1, none⟩) (cell_lt k1)).trans k1, (hW.cell (p := ⟨g, o + 2, none⟩) (cell_lt k2)).trans k2, (hW.cell (p := ⟨g, o + 3, none⟩) (cell_lt k3)).trans k3⟩
  rw [hl] at cL ⊢
  have l0 := b0.isLt
  have l1 := b1.isLt
  have l2 := b2.isLt
  have l3 := b3.isLt
  clear ht ht6 hb hc hl hs hs1 hx h4 x0 x1 x2 x3 hsz hba
  go_enter Tryz.func7, Tryz.ntmps7
  go_wp2_with (go_at_call 39; refine cb.mono ?_; rintro e w1 ⟨rfl, hB⟩; clear cb; refine Stop.out ?_)
  refine Stop.mk ?_
  have cL' := cL w1 hB
  have HB : Hid (Below w.heap.size w w1) := hB
  clear cL hB
  go_wp2_with (go_at_call 49; refine cL'.mono ?_; rintro e w2 ⟨rfl, hi2, hB2⟩; clear cL'; refine Stop.out ?_)
  refine Stop.mk ?_
  have hB02 : Below w.heap.size w w2 := HB.out.trans (hB2.mono HB.out.size)
  obtain ⟨c0, c1, c2, c3⟩ := HX.out w2 hB02
  have H2 : Hid (Below w.heap.size w w2 ∧ InoAt w2 w1.heap.size (numOf bs 0).toNat (numsOf bs)) := ⟨hB02, hi2⟩
  clear HX hB2 hB02 hi2
  go_wp2_with fail
  go_quiet (fail)
  go_wp2_with fail
  clear c0 c1 c2 c3 hor hs'
  obtain ⟨w3, hw3⟩ : ∃ w3, w3 = w2.drewN nq := ⟨_, rfl⟩
  rw [← hw3]
  have H3 : Hid (Below w.heap.size w w3 ∧ InoAt w3 w1.heap.size (numOf bs 0).toNat (numsOf bs)) := by
    rw [hw3]; exact ⟨below_drewN H2.out.1 nq, H2.out.2⟩
  clear hw3 H2
  have cB : ∀ W, LB w3 W w3.heap.size bs false → Calls Tryz.prog 50 #[.pointer (some ⟨w1.heap.size, 0, none⟩)] W fun e w' => e = .returned (.slice (some ⟨w3.heap.size, 0, none⟩) 44 44) ∧ LB w3 w' w3.heap.size bs true := fun W hW => by
    have := ibytes_any w1.heap.size (numOf bs 0) (numsOf bs) (by simp [numsOf]) W (H3.out.2.below hW.below H3.out.2.lt)
    refine this.mono ?_
    rintro e w' ⟨rfl, h1, h2⟩
    rw [HI.out.1] at h1
    rw [hW.no rfl] at h1 ⊢
    exact ⟨rfl, hW.below.trans (h2.mono hW.below.size), (fun h => by cases h), fun _ => h1⟩
  obtain ⟨LL, hLe⟩ : ∃ LL : List (Option Tmp × Value), LL = [(some 58, .bool true), (some 59, .bool true), (some 60, .int .i64 0), (some 61, .bool true), (some 62, .bool true), (some 63, .bool true), (some 64, .pointer (some ⟨w1.heap.size, 0, none⟩)), (some 65, .bool true), (some 66, .bool true), (some 67, .bool true), (some 68, .pointer (some ⟨w1.heap.size, 0, none⟩)), (some 69, .slice (some ⟨w3.heap.size, 0, none⟩) 44 44), (some 70, .string (strOf bs)), (some 71, .slice (some ⟨g, o, none⟩) 44 cp), (some 72, .string (strOf bs)), (some 73, .bool true), (some 74, .bool true), (some 2, .bool true)] := ⟨_, rfl⟩
  have vv0 : vals LL 0 = .bool true := by rw [hLe]; rfl
  have vv1 : vals LL 1 = .bool true := by rw [hLe]; rfl
  have vv2 : vals LL 2 = .int .i64 0 := by rw [hLe]; rfl
  have vv3 : vals LL 3 = .bool true := by rw [hLe]; rfl
  have vv4 : vals LL 4 = .bool true := by rw [hLe]; rfl
  have vv5 : vals LL 5 = .bool true := by rw [hLe]; rfl
  have vv6 : vals LL 6 = .pointer (some ⟨w1.heap.size, 0, none⟩) := by rw [hLe]; rfl
  have vv7 : vals LL 7 = .bool true := by rw [hLe]; rfl
  have vv8 : vals LL 8 = .bool true := by rw [hLe]; rfl
  have vv9 : vals LL 9 = .bool true := by rw [hLe]; rfl
  have vv10 : vals LL 10 = .pointer (some ⟨w1.heap.size, 0, none⟩) := by rw [hLe]; rfl
  have vv11 : vals LL 11 = .slice (some ⟨w3.heap.size, 0, none⟩) 44 44 := by rw [hLe]; rfl
  have vv12 : vals LL 12 = .string (strOf bs) := by rw [hLe]; rfl
  have vv13 : vals LL 13 = .slice (some ⟨g, o, none⟩) 44 cp := by rw [hLe]; rfl
  have vv14 : vals LL 14 = .string (strOf bs) := by rw [hLe]; rfl
  have vv15 : vals LL 15 = .bool true := by rw [hLe]; rfl
  have vv16 : vals LL 16 = .bool true := by rw [hLe]; rfl
  have vv17 : vals LL 17 = .bool true := by rw [hLe]; rfl
  refine region_laid hmix (by kernel_rfl) 75 rfl (by kernel_rfl) LL (by rw [hLe]; rfl) (fun b W => LB w3 W w3.heap.size bs (b 11)) ⟨(Below.refl _ w3).drew, fun _ => rfl, (fun h => by cases h)⟩ ?_ ?_
  · intro b W i o a hS hcl ho hb hd ev kp yl
    match i with
    | 0 =>
      simp only [List.getElem?_toArray, List.getElem?_cons_zero, Option.some.injEq] at ho
      subst ho
      have e3 : a.tmps[3]?.getD undef = .bool true := kp 3 (by kernel_rfl)
      rw [vv0]
      refine does_value rfl (by intro c h; cases h) (w' := W) ?_ (by simpa [did] using hS)
      · simp [execOp, go_sem, e3]
    | 1 =>
      simp only [List.getElem?_toArray, List.getElem?_cons_zero, List.getElem?_cons_succ, Option.some.injEq] at ho
      subst ho
      have p0 : b 0 = true := hd ⟨0, .data⟩ (by simp) rfl
      have e58 := (ev 0 58 rfl p0).trans vv0
      rw [vv1]
      refine does_value rfl (by intro c h; cases h) (w' := W) ?_ (by simpa [did] using hS)
      · simp [execOp, go_sem, e58]
    | 2 =>
      simp only [List.getElem?_toArray, List.getElem?_cons_zero, List.getElem?_cons_succ, Option.some.injEq] at ho
      subst ho
      have p1 : b 1 = true := hd ⟨1, .guard⟩ (by simp) rfl
      have e5 : a.tmps[5]?.getD undef = .int .i64 0 := kp 5 (by kernel_rfl)
      rw [vv2]
      refine does_value_g rfl (yl 1 59 true rfl p1 vv1) (by intro c h; cases h) (w' := W) ?_ (by simpa [did] using hS)
      · simp [execOp, go_sem, e5]
    | 3 =>
      simp only [List.getElem?_toArray, List.getElem?_cons_zero, List.getElem?_cons_succ, Option.some.injEq] at ho
      subst ho
      have p2 : b 2 = true := hd ⟨2, .data⟩ (by simp) rfl
      have p1 : b 1 = true := hd ⟨1, .guard⟩ (by simp) rfl
      have e60 := (ev 2 60 rfl p2).trans vv2
      rw [vv3]
      refine does_value_g rfl (yl 1 59 true rfl p1 vv1) (by intro c h; cases h) (w' := W) ?_ (by simpa [did] using hS)
      · simp [execOp, go_sem, e60]
    | 4 =>
      simp only [List.getElem?_toArray, List.getElem?_cons_zero, List.getElem?_cons_succ, Option.some.injEq] at ho
      subst ho
      have p1 : b 1 = true := hd ⟨1, .data⟩ (by simp) rfl
      have p3 : b 3 = true := hd ⟨3, .data⟩ (by simp) rfl
      have e59 := (ev 1 59 rfl p1).trans vv1
      have e61 := (ev 3 61 rfl p3).trans vv3
      rw [vv4]
      refine does_value rfl (by intro c h; cases h) (w' := W) ?_ (by simpa [did] using hS)
      · simp [execOp, go_sem, e59, e61]
    | 5 =>
      simp only [List.getElem?_toArray, List.getElem?_cons_zero, List.getElem?_cons_succ, Option.some.injEq] at ho
      subst ho
      have p4 : b 4 = true := hd ⟨4, .data⟩ (by simp) rfl
      have e62 := (ev 4 62 rfl p4).trans vv4
      rw [vv5]
      refine does_value rfl (by intro c h; cases h) (w' := W) ?_ (by simpa [did] using hS)
      · simp [execOp, go_sem, e62]
    | 6 =>
      simp only [List.getElem?_toArray, List.getElem?_cons_zero, List.getElem?_cons_succ, Option.some.injEq] at ho
      subst ho
      have p5 : b 5 = true := hd ⟨5, .guard⟩ (by simp) rfl
      have e4 : a.tmps[4]?.getD undef = .pointer (some ⟨w1.heap.size, 0, none⟩) := kp 4 (by kernel_rfl)
      rw [vv6]
      refine does_value_g rfl (yl 5 63 true rfl p5 vv5) (by intro c h; cases h) (w' := W) ?_ (by simpa [did] using hS)
      · simp [execOp, go_sem, e4]
    | 7 =>
      simp only [List.getElem?_toArray, List.getElem?_cons_zero, List.getElem?_cons_succ, Option.some.injEq] at ho
      subst ho
      have p6 : b 6 = true := hd ⟨6, .data⟩ (by simp) rfl
      have p5 : b 5 = true := hd ⟨5, .guard⟩ (by simp) rfl
      have e64 := (ev 6 64 rfl p6).trans vv6
      rw [vv7]
      refine does_value_g rfl (yl 5 63 true rfl p5 vv5) (by intro c h; cases h) (w' := W) ?_ (by simpa [did] using hS)
      · simp [execOp, go_sem, e64]
    | 8 =>
      simp only [List.getElem?_toArray, List.getElem?_cons_zero, List.getElem?_cons_succ, Option.some.injEq] at ho
      subst ho
      have p5 : b 5 = true := hd ⟨5, .data⟩ (by simp) rfl
      have p7 : b 7 = true := hd ⟨7, .data⟩ (by simp) rfl
      have e63 := (ev 5 63 rfl p5).trans vv5
      have e65 := (ev 7 65 rfl p7).trans vv7
      rw [vv8]
      refine does_value rfl (by intro c h; cases h) (w' := W) ?_ (by simpa [did] using hS)
      · simp [execOp, go_sem, e63, e65]
    | 9 =>
      simp only [List.getElem?_toArray, List.getElem?_cons_zero, List.getElem?_cons_succ, Option.some.injEq] at ho
      subst ho
      have p8 : b 8 = true := hd ⟨8, .data⟩ (by simp) rfl
      have e66 := (ev 8 66 rfl p8).trans vv8
      rw [vv9]
      refine does_value rfl (by intro c h; cases h) (w' := W) ?_ (by simpa [did] using hS)
      · simp [execOp, go_sem, e66]
    | 10 =>
      simp only [List.getElem?_toArray, List.getElem?_cons_zero, List.getElem?_cons_succ, Option.some.injEq] at ho
      subst ho
      have p9 : b 9 = true := hd ⟨9, .guard⟩ (by simp) rfl
      have e4 : a.tmps[4]?.getD undef = .pointer (some ⟨w1.heap.size, 0, none⟩) := kp 4 (by kernel_rfl)
      rw [vv10]
      refine does_value_g rfl (yl 9 67 true rfl p9 vv9) (by intro c h; cases h) (w' := W) ?_ (by simpa [did] using hS)
      · simp [execOp, go_sem, e4]
    | 11 =>
      simp only [List.getElem?_toArray, List.getElem?_cons_zero, List.getElem?_cons_succ, Option.some.injEq] at ho
      subst ho
      have p10 : b 10 = true := hd ⟨10, .data⟩ (by simp) rfl
      have p9 : b 9 = true := hd ⟨9, .guard⟩ (by simp) rfl
      have e68 := (ev 10 68 rfl p10).trans vv10
      rw [vv11]
      refine does_call_g rfl (yl 9 67 true rfl p9 vv9) (by intro c h; cases h) (f := 50) (args := #[.pointer (some ⟨w1.heap.size, 0, none⟩)]) ?_ ?_
      · simp [go_sem, e68]
      · (refine (cB W (by rw [hb] at hS; exact hS)).mono (fun e w' ⟨he, h⟩ => ⟨he, ?_⟩); simpa [did] using h)
    | 12 =>
      simp only [List.getElem?_toArray, List.getElem?_cons_zero, List.getElem?_cons_succ, Option.some.injEq] at ho
      subst ho
      have p11 : b 11 = true := hd ⟨11, .data⟩ (by simp) rfl
      have p9 : b 9 = true := hd ⟨9, .guard⟩ (by simp) rfl
      have e69 := (ev 11 69 rfl p11).trans vv11
      have hcv : (convert 55 9 (.slice (some ⟨w3.heap.size, 0, none⟩) 44 44)).run Tryz.prog W = .ok (.string (strOf bs)) W := str_len HI.out.2 (run_str W (some ⟨w3.heap.size, 0, none⟩) bs 44 (bytes_block (hS.yes p11)))
      rw [vv12]
      refine does_value_g rfl (yl 9 67 true rfl p9 vv9) (by intro c h; cases h) (w' := W) ?_ (by simpa [did] using hS)
      · simp [execOp, go_sem, e69, hcv]
    | 13 =>
      simp only [List.getElem?_toArray, List.getElem?_cons_zero, List.getElem?_cons_succ, Option.some.injEq] at ho
      subst ho
      have p9 : b 9 = true := hd ⟨9, .guard⟩ (by simp) rfl
      have e0 : a.tmps[0]?.getD undef = .slice (some ⟨g, o, none⟩) 44 cp := kp 0 (by kernel_rfl)
      rw [vv13]
      refine does_value_g rfl (yl 9 67 true rfl p9 vv9) (by intro c h; cases h) (w' := W) ?_ (by simpa [did] using hS)
      · simp [execOp, go_sem, e0]
    | 14 =>
      simp only [List.getElem?_toArray, List.getElem?_cons_zero, List.getElem?_cons_succ, Option.some.injEq] at ho
      subst ho
      have p13 : b 13 = true := hd ⟨13, .data⟩ (by simp) rfl
      have p9 : b 9 = true := hd ⟨9, .guard⟩ (by simp) rfl
      have e71 := (ev 13 71 rfl p13).trans vv13
      have hcv : (convert 55 9 (.slice (some ⟨g, o, none⟩) 44 cp)).run Tryz.prog W = .ok (.string (strOf bs)) W := str_len HI.out.2 (run_str W (some ⟨g, o, none⟩) bs cp (below_bytes (H3.out.1.trans (hS.below.mono H3.out.1.size)) HBy.out))
      rw [vv14]
      refine does_value_g rfl (yl 9 67 true rfl p9 vv9) (by intro c h; cases h) (w' := W) ?_ (by simpa [did] using hS)
      · simp [execOp, go_sem, e71, hcv]
    | 15 =>
      simp only [List.getElem?_toArray, List.getElem?_cons_zero, List.getElem?_cons_succ, Option.some.injEq] at ho
      subst ho
      have p12 : b 12 = true := hd ⟨12, .data⟩ (by simp) rfl
      have p14 : b 14 = true := hd ⟨14, .data⟩ (by simp) rfl
      have p9 : b 9 = true := hd ⟨9, .guard⟩ (by simp) rfl
      have e70 := (ev 12 70 rfl p12).trans vv12
      have e72 := (ev 14 72 rfl p14).trans vv14
      rw [vv15]
      refine does_value_g rfl (yl 9 67 true rfl p9 vv9) (by intro c h; cases h) (w' := W) ?_ (by simpa [did] using hS)
      · simp [execOp, go_sem, e70, e72]
    | 16 =>
      simp only [List.getElem?_toArray, List.getElem?_cons_zero, List.getElem?_cons_succ, Option.some.injEq] at ho
      subst ho
      have p9 : b 9 = true := hd ⟨9, .data⟩ (by simp) rfl
      have p15 : b 15 = true := hd ⟨15, .data⟩ (by simp) rfl
      have e67 := (ev 9 67 rfl p9).trans vv9
      have e73 := (ev 15 73 rfl p15).trans vv15
      rw [vv16]
      refine does_value rfl (by intro c h; cases h) (w' := W) ?_ (by simpa [did] using hS)
      · simp [execOp, go_sem, e67, e73]
    | 17 =>
      simp only [List.getElem?_toArray, List.getElem?_cons_zero, List.getElem?_cons_succ, Option.some.injEq] at ho
      subst ho
      have p16 : b 16 = true := hd ⟨16, .data⟩ (by simp) rfl
      have e74 := (ev 16 74 rfl p16).trans vv16
      rw [vv17]
      refine does_value rfl (by intro c h; cases h) (w' := W) ?_ (by simpa [did] using hS)
      · simp [execOp, go_sem, e74]
    | k + 18 => simp at ho
  · intro b' W hS _
    have HS : Hid (Below w3.heap.size w3 W) := hS.below
    subst hLe
    clear hS cB
    simp only [putAll, List.setIfInBounds_toArray, List.set_cons_zero, List.set_cons_succ]
    go_wp2
    go_ret
    exact ⟨rfl, H3.out.1.trans (HS.out.mono H3.out.1.size)⟩

end Go.Proofs.YtphedokdckoccaaGreatDoor

namespace Go.Proofs.YtphedokdckoccaaGreatDoor
open Go.ChangeShapes Go.WideShapes Go.ChangeAt Go.RowKit Go.Deep

theorem load_law (p : Option Addr) (bs : By) (cp : Nat) (w : World) (ht : Tab w) (ht6 : Bm.Tab64 w) (hb : Bytes w p bs) (hc : bs.length ≤ cp) (hl : bs.length < 9223372036854775808) :
    Calls Tryz.prog 7 #[.slice p bs.length cp] w fun e w' => e = .returned (.bool true) ∧ Below w.heap.size w w' := by
  by_cases h44 : bs.length = 44
  · by_cases hs : (numOf bs 0).toNat ≤ 65536
    · exact load_44ok p bs cp w ht ht6 hb hc h44 hs
    · exact load_44big p bs cp w ht ht6 hb hc h44 (by omega)
  · exact load_not p bs.length cp w ht ht6 hc h44 hl

set_option maxRecDepth 100000 in
theorem iload_contract (H : Type) (enc : TypeId × Value → H) (W : World) (base : Nat) (args : Array Value) (ds gs : List (DataW H)) (before : List MemPlace)
    (hval : ∀ (j : Nat) t v, Tryz.f7.params[j]? = some t → args[j]? = some v → Value.okWide Tryz.prog W .any base t v)
    (hW : DataW.Whole enc Tryz.prog Tryz.f7.params.toList Rows.inodeLoadSpec.vars false W args.toList ds gs before)
    (hL : laidMetH Tryz.prog Rows.inodeLoadRow.laid W) :
    Calls Tryz.prog 7 args W fun e W' => ∃ v, e = .returned v ∧ Rows.inodeLoadSpec.post enc Tryz.prog Tryz.f7 false true false false W args v W' := by
  have hW' := hW
  obtain ⟨p, q, hA0, hV, rfl, hfz, hnd⟩ := hW
  have hA : DataW.TrodAll enc Tryz.prog W 0 (fun _ => true) true Tryz.f7.params.toList args.toList ds p := hA0
  rw [Tryz.params7] at hA hval
  obtain ⟨v0, vs0, d0, ds0, p0, q0, hargs, rfl, rfl, h0, r0⟩ := trodAll_cons hA
  obtain ⟨rfl, rfl, rfl⟩ := trodAll_nil r0
  obtain rfl : args = #[v0] := by cases args; simp_all
  obtain ⟨rfl, rfl⟩ := trodVars_none hV
  obtain ⟨a0, len0, cap0, hv0⟩ := okWide_slice Tryz.underlying55 (hval 0 55 v0 rfl rfl)
  have k0 := h0
  have lt0 : ∀ x ∈ p0, x.block < W.heap.size := by obtain ⟨m, hm⟩ := k0; exact DataW.trod_lt m _ _ _ hm
  obtain ⟨bp, bc, bs, hv, hbl, hbc, hb⟩ := bytes_at h0 (by rw [hv0]; rfl)
  subst hv
  clear hA0 hv0
  refine (load_law bp bs bc W (tabs_of_laid hL).1 (tabs_of_laid hL).2 hb hbl (by omega)).mono fun e W' ⟨he, bel⟩ => ?_
  subst he
  exact ⟨_, rfl, _, _, _, [], _, [], hW', trodAll_mk1 (shut_bool Tryz.underlying4 _), (trodAll_cons_mk (Below.trod laidOut (by kernel_rfl) (of_decide_eq_true (by kernel_rfl)) k0 bel lt0) trodAll_mk0), rfl, bel.frame _, fun h => by cases h⟩

theorem iload_laid_met (os : Os) : laidMet Tryz.prog Rows.inodeLoadRow.laid ((World.doorLaid Tryz.prog 400 os).forCall (fun _ _ => 0) ⟨#[], #[.slice none 0 0], []⟩).memory :=
  laidMet_of_run' 20 (by kernel_rfl) (by kernel_rfl)
theorem iload_reads (os : Os) {H : Type} (enc : TypeId × Value → H) : ∃ places, DataW.whole enc Tryz.prog ((World.doorLaid Tryz.prog 400 os).forCall (fun _ _ => 0) ⟨#[], #[.slice none 0 0], []⟩).memory Tryz.f7.params.toList Rows.inodeLoadSpec.vars false (#[.slice none 0 0] : Array Value).toList 8 = some ([.nil], [], places) :=
  ⟨[], by kernel_rfl⟩

set_option maxRecDepth 100000 in
theorem iload_lifted (os : Os) (started : os.Started) (H : Type) (enc : TypeId × Value → H) (F : Stop.Interp) :
    ReturnsInHanded {} Tryz.checked os 7 .any ((OpenSpec.ofChange Rows.inodeLoadSpec).preRow enc Tryz.prog Tryz.f7 Rows.inodeLoadRow.domain false Rows.inodeLoadRow.laid) (((OpenSpec.ofChange Rows.inodeLoadSpec).at F).post enc Tryz.prog Tryz.f7 false true false false) := by
  obtain ⟨places, hx⟩ := iload_reads os enc
  refine returnsInHanded_of_row (C := Tryz.checked) (s := OpenSpec.ofChange Rows.inodeLoadSpec) own started (by kernel_rfl) Tryz.func7
    (witness_row_at (enc := enc) (C := Tryz.checked) false (World.doorLaid Tryz.prog 400 os) #[.slice none 0 0] rfl (by kernel_rfl) (by kernel_rfl) (by kernel_rfl)
      (OpenSpec.preRow_of_cond 8 hx (by kernel_rfl) (fun k hk => by cases hk) (by kernel_rfl) (iload_laid_met os))) ?_
  intro W base args ds gs before hval hW _ _ _ hL _ _
  exact iload_contract H enc W base args ds gs before hval hW hL

theorem iload_said : Rows.InodeLoadSaid :=
  OpenClaim.holds_of_cond 7 Tryz.f7 rfl rfl rfl rfl rfl rfl rfl ⟨rfl, rfl, rfl, rfl, rfl⟩ rfl rfl rfl rfl rfl (by kernel_rfl) Tryz.func7 (by kernel_rfl)
    (of_decide_eq_true (by kernel_rfl)) (by unfold Func.isWrapper; first | (rw [if_pos (by decide +kernel)]; kernel_rfl) | (rw [if_neg (by decide +kernel)]; exact ⟨rfl, rfl⟩))
    (fun os started H enc _ F => by rw [OpenClaim.pre_eq_preRow]; exact iload_lifted os started H enc F)

theorem iload_plain (f : FuncId) (fn : Func) (hf : Tryz.pinned.checked.prog.funcNamed "lagoon/lagoonlaw9.InodeLoad" = some f) (hfn : Tryz.pinned.checked.prog.funcs[f]? = some fn) :
    true = Tryz.pinned.checked.prog.looks [] ∧ ∀ (j : Nat) t, fn.params[j]? = some t → Tryz.pinned.checked.prog.wantsStandIn t = false := by
  obtain rfl : f = 7 := Option.some.inj ((show Tryz.prog.funcNamed "lagoon/lagoonlaw9.InodeLoad" = some 7 by kernel_rfl).symm.trans hf) |>.symm
  obtain rfl : fn = Tryz.f7 := (Option.some.inj (Tryz.func7.symm.trans hfn)).symm
  refine ⟨by kernel_rfl, fun j t ht => ?_⟩
  rw [Tryz.params7] at ht
  have hm : t ∈ [55] := by simpa using Array.mem_of_getElem? ht
  have hall : ([55].all fun u => !Tryz.prog.wantsStandIn u) = true := by kernel_rfl
  exact (show Tryz.prog.wantsStandIn t = false by simpa using List.all_eq_true.1 hall t hm)

theorem inodeLoad_holds : Rows.InodeLoadCardSaid :=
  Claim7.holds_tied_plain_at .later [] _ _ _ _ iload_said (fun _ h => by cases h) (by kernel_rfl) (fun _ h => by cases h) inodeLoad_row_tie rfl ⟨rfl, rfl⟩ (by kernel_rfl) rfl iload_plain (by kernel_rfl)

#print axioms inodeLoad_holds
end Go.Proofs.YtphedokdckoccaaGreatDoor
