/-
  ClashShown's law.
-/
import Derived.Test.YtjajbhpcjickbaaDoorKAn

namespace Go.Proofs.YtjajbhpcjickbaaDoor.Ck.Sh
open Go.RowKit Go.Lib Go.Maps

attribute [local go_sem] Oper.semAt_some

set_option maxRecDepth 8000 in
set_option maxRecDepth 8000 in
set_option maxHeartbeats 4000000 in
theorem shown_law (ids : List (Int × Int)) (names : List (List UInt8)) (p1 p2 : Option Addr) (L1 L2 c1 c2 : Nat) (w : World) (hL : Lb w) (h1 : Ids w p1 ids) (h2 : Nms w p2 names) (hc1 : L1 ≤ c1) (hc2 : L2 ≤ c2) (hA : (12 < L1 ∧ ids.length = 12) ∨ (¬ 12 < L1 ∧ ids.length = L1)) (hB : (12 < L2 ∧ names.length = 12) ∨ (¬ 12 < L2 ∧ names.length = L2)) (hid : ∀ x ∈ ids, InI x.1 ∧ InI x.2) (hnm : ∀ x ∈ names, x.length ≤ 150000000000000) :
    Calls Tryd.prog 3 #[.slice p1 L1 c1, .slice p2 L2 c2] w fun e w' => e = .returned (.bool true) ∧ Below w.heap.size w w' := by
  obtain ⟨n, hn⟩ : ∃ n, min ids.length names.length = n := ⟨_, rfl⟩
  have hl1 : ids.length ≤ 12 := by omega
  have hl2 : names.length ≤ 12 := by omega
  have cb := fun W (hW : Lb W) => begun_any W hW
  have cs : ∀ W, Below w.heap.size w W → Calls Tryd.prog 8 #[.slice p1 ids.length c1, .slice p2 names.length c2] W fun e w' => ∃ p, e = .returned (.slice p n n) ∧ Nms w' p (shownL ids names n) ∧ Below W.heap.size W w' := fun W hb => by
    have := shown_any ids names p1 p2 c1 c2 W (hL.below hb) (h1.below hb) (h2.below hb) (by omega) (by omega) (by omega) hid hnm
    rw [hn] at this
    exact this.mono fun e w' ⟨p, he, h⟩ => ⟨p, he, h.out.1, h.out.2⟩
  have cr : ∀ W, Below w.heap.size w W → Calls Tryd.prog 9 #[.slice p1 ids.length c1, .slice p2 names.length c2] W fun e w' => ∃ p c, e = .returned (.slice p n c) ∧ Nms w' p (shownL ids names n) ∧ Below W.heap.size W w' := fun W hb => by
    have := rshown_core ids names p1 p2 ids.length names.length n c1 c2 W (h1.below hb) (h2.below hb) (by omega) (by omega) (by omega) (by omega) hid hnm
    exact this.mono fun e w' ⟨p, c, he, h⟩ => ⟨p, c, he, h.out.1, h.out.2⟩
  have hnn : n ≤ 12 := by omega
  have hsl := shown_len ids names n
  generalize shownL ids names n = sh at *
  have HL := Lib.hid hL
  clear hL h1 h2 hid hnm hn hl1 hl2
  rcases hA with ⟨hA, ea⟩ | ⟨hA, ea⟩ <;> rcases hB with ⟨hB, eb⟩ | ⟨hB, eb⟩
  · rw [ea, eb] at cs cr
    clear ea eb
    have hAI : (12 : Int) < (L1 : Int) := by omega
    have hA12 : 12 ≤ c1 := by omega
    have hBI : (12 : Int) < (L2 : Int) := by omega
    have hB12 : 12 ≤ c2 := by omega
    go_enter Tryd.func3, Tryd.ntmps3
    go_wp2_with (first
      | (go_at_call 7
         refine (cb _ HL.out).mono ?_
         rintro e w2 ⟨rfl, hb2⟩
         have B2 := Lib.hid hb2
         clear hb2 cb)
      | (go_at_call 8
         refine (cs _ B2.out).mono ?_
         rintro e w3 ⟨pl, rfl, hn3, hb3⟩
         have B3 := Lib.hid (below_then B2.out hb3)
         have N3 := Lib.hid hn3
         clear hb3 hn3 cs)
      | (go_at_call 9
         refine (cr _ B3.out).mono ?_
         rintro e w4 ⟨pm, cm, rfl, hn4, hb4⟩
         have B4 := Lib.hid (below_then B3.out hb4)
         have N4 := Lib.hid (And.intro (N3.out.below hb4) hn4)
         clear hb4 hn4 cr))
    go_loopw [8] (fun ii wr => ∃ (i : Nat), ii = .int .i64 i ∧ i ≤ n ∧ Hid (Below w.heap.size w wr ∧ Nms wr pl sh ∧ Nms wr pm sh)) (fun ii _ => n - (RowKit.intOf ii).toNat)
    case atStart => exact ⟨0, rfl, Nat.zero_le _, B4.out, N4.out.1, N4.out.2⟩
    case round =>
      obtain ⟨i, rfl, hi, HI⟩ := hrel
      by_cases hlt : i < n
      · have hltI : (i : Int) < (n : Int) := by omega
        obtain ⟨x, hx⟩ : ∃ x, sh[i]? = some x := ⟨_, List.getElem?_eq_getElem (by omega)⟩
        obtain ⟨g1, o1, rfl, q1⟩ := HI.out.2.1 i x hx
        obtain ⟨g2, o2, rfl, q2⟩ := HI.out.2.2 i x hx
        have qq : ((bas x).toList == (bas x).toList) = true := by rw [bas_beq]; exact decide_eq_true rfl
        clear hx
        go_wp2_with fail
        go_quiet (fail)
        go_wp2_with fail
        exact ⟨⟨i + 1, by simp, by omega, below_then HI.out.1 (below_drewN wr _), HI.out.2.1.below (below_drewN wr _), HI.out.2.2.below (below_drewN wr _)⟩, by simp [RowKit.intOf]; omega⟩
      · obtain rfl : n = i := by omega
        go_wp2_with fail
        go_ret
        exact ⟨rfl, HI.out.1⟩
  · rw [ea, eb] at cs cr
    clear ea eb
    have hAI : (12 : Int) < (L1 : Int) := by omega
    have hA12 : 12 ≤ c1 := by omega
    have hBI : ¬ (12 : Int) < (L2 : Int) := by omega
    go_enter Tryd.func3, Tryd.ntmps3
    go_wp2_with (first
      | (go_at_call 7
         refine (cb _ HL.out).mono ?_
         rintro e w2 ⟨rfl, hb2⟩
         have B2 := Lib.hid hb2
         clear hb2 cb)
      | (go_at_call 8
         refine (cs _ B2.out).mono ?_
         rintro e w3 ⟨pl, rfl, hn3, hb3⟩
         have B3 := Lib.hid (below_then B2.out hb3)
         have N3 := Lib.hid hn3
         clear hb3 hn3 cs)
      | (go_at_call 9
         refine (cr _ B3.out).mono ?_
         rintro e w4 ⟨pm, cm, rfl, hn4, hb4⟩
         have B4 := Lib.hid (below_then B3.out hb4)
         have N4 := Lib.hid (And.intro (N3.out.below hb4) hn4)
         clear hb4 hn4 cr))
    go_loopw [8] (fun ii wr => ∃ (i : Nat), ii = .int .i64 i ∧ i ≤ n ∧ Hid (Below w.heap.size w wr ∧ Nms wr pl sh ∧ Nms wr pm sh)) (fun ii _ => n - (RowKit.intOf ii).toNat)
    case atStart => exact ⟨0, rfl, Nat.zero_le _, B4.out, N4.out.1, N4.out.2⟩
    case round =>
      obtain ⟨i, rfl, hi, HI⟩ := hrel
      by_cases hlt : i < n
      · have hltI : (i : Int) < (n : Int) := by omega
        obtain ⟨x, hx⟩ : ∃ x, sh[i]? = some x := ⟨_, List.getElem?_eq_getElem (by omega)⟩
        obtain ⟨g1, o1, rfl, q1⟩ := HI.out.2.1 i x hx
        obtain ⟨g2, o2, rfl, q2⟩ := HI.out.2.2 i x hx
        have qq : ((bas x).toList == (bas x).toList) = true := by rw [bas_beq]; exact decide_eq_true rfl
        clear hx
        go_wp2_with fail
        go_quiet (fail)
        go_wp2_with fail
        exact ⟨⟨i + 1, by simp, by omega, below_then HI.out.1 (below_drewN wr _), HI.out.2.1.below (below_drewN wr _), HI.out.2.2.below (below_drewN wr _)⟩, by simp [RowKit.intOf]; omega⟩
      · obtain rfl : n = i := by omega
        go_wp2_with fail
        go_ret
        exact ⟨rfl, HI.out.1⟩
  · rw [ea, eb] at cs cr
    clear ea eb
    have hAI : ¬ (12 : Int) < (L1 : Int) := by omega
    have hBI : (12 : Int) < (L2 : Int) := by omega
    have hB12 : 12 ≤ c2 := by omega
    go_enter Tryd.func3, Tryd.ntmps3
    go_wp2_with (first
      | (go_at_call 7
         refine (cb _ HL.out).mono ?_
         rintro e w2 ⟨rfl, hb2⟩
         have B2 := Lib.hid hb2
         clear hb2 cb)
      | (go_at_call 8
         refine (cs _ B2.out).mono ?_
         rintro e w3 ⟨pl, rfl, hn3, hb3⟩
         have B3 := Lib.hid (below_then B2.out hb3)
         have N3 := Lib.hid hn3
         clear hb3 hn3 cs)
      | (go_at_call 9
         refine (cr _ B3.out).mono ?_
         rintro e w4 ⟨pm, cm, rfl, hn4, hb4⟩
         have B4 := Lib.hid (below_then B3.out hb4)
         have N4 := Lib.hid (And.intro (N3.out.below hb4) hn4)
         clear hb4 hn4 cr))
    go_loopw [8] (fun ii wr => ∃ (i : Nat), ii = .int .i64 i ∧ i ≤ n ∧ Hid (Below w.heap.size w wr ∧ Nms wr pl sh ∧ Nms wr pm sh)) (fun ii _ => n - (RowKit.intOf ii).toNat)
    case atStart => exact ⟨0, rfl, Nat.zero_le _, B4.out, N4.out.1, N4.out.2⟩
    case round =>
      obtain ⟨i, rfl, hi, HI⟩ := hrel
      by_cases hlt : i < n
      · have hltI : (i : Int) < (n : Int) := by omega
        obtain ⟨x, hx⟩ : ∃ x, sh[i]? = some x := ⟨_, List.getElem?_eq_getElem (by omega)⟩
        obtain ⟨g1, o1, rfl, q1⟩ := HI.out.2.1 i x hx
        obtain ⟨g2, o2, rfl, q2⟩ := HI.out.2.2 i x hx
        have qq : ((bas x).toList == (bas x).toList) = true := by rw [bas_beq]; exact decide_eq_true rfl
        clear hx
        go_wp2_with fail
        go_quiet (fail)
        go_wp2_with fail
        exact ⟨⟨i + 1, by simp, by omega, below_then HI.out.1 (below_drewN wr _), HI.out.2.1.below (below_drewN wr _), HI.out.2.2.below (below_drewN wr _)⟩, by simp [RowKit.intOf]; omega⟩
      · obtain rfl : n = i := by omega
        go_wp2_with fail
        go_ret
        exact ⟨rfl, HI.out.1⟩
  · rw [ea, eb] at cs cr
    clear ea eb
    have hAI : ¬ (12 : Int) < (L1 : Int) := by omega
    have hBI : ¬ (12 : Int) < (L2 : Int) := by omega
    go_enter Tryd.func3, Tryd.ntmps3
    go_wp2_with (first
      | (go_at_call 7
         refine (cb _ HL.out).mono ?_
         rintro e w2 ⟨rfl, hb2⟩
         have B2 := Lib.hid hb2
         clear hb2 cb)
      | (go_at_call 8
         refine (cs _ B2.out).mono ?_
         rintro e w3 ⟨pl, rfl, hn3, hb3⟩
         have B3 := Lib.hid (below_then B2.out hb3)
         have N3 := Lib.hid hn3
         clear hb3 hn3 cs)
      | (go_at_call 9
         refine (cr _ B3.out).mono ?_
         rintro e w4 ⟨pm, cm, rfl, hn4, hb4⟩
         have B4 := Lib.hid (below_then B3.out hb4)
         have N4 := Lib.hid (And.intro (N3.out.below hb4) hn4)
         clear hb4 hn4 cr))
    go_loopw [8] (fun ii wr => ∃ (i : Nat), ii = .int .i64 i ∧ i ≤ n ∧ Hid (Below w.heap.size w wr ∧ Nms wr pl sh ∧ Nms wr pm sh)) (fun ii _ => n - (RowKit.intOf ii).toNat)
    case atStart => exact ⟨0, rfl, Nat.zero_le _, B4.out, N4.out.1, N4.out.2⟩
    case round =>
      obtain ⟨i, rfl, hi, HI⟩ := hrel
      by_cases hlt : i < n
      · have hltI : (i : Int) < (n : Int) := by omega
        obtain ⟨x, hx⟩ : ∃ x, sh[i]? = some x := ⟨_, List.getElem?_eq_getElem (by omega)⟩
        obtain ⟨g1, o1, rfl, q1⟩ := HI.out.2.1 i x hx
        obtain ⟨g2, o2, rfl, q2⟩ := HI.out.2.2 i x hx
        have qq : ((bas x).toList == (bas x).toList) = true := by rw [bas_beq]; exact decide_eq_true rfl
        clear hx
        go_wp2_with fail
        go_quiet (fail)
        go_wp2_with fail
        exact ⟨⟨i + 1, by simp, by omega, below_then HI.out.1 (below_drewN wr _), HI.out.2.1.below (below_drewN wr _), HI.out.2.2.below (below_drewN wr _)⟩, by simp [RowKit.intOf]; omega⟩
      · obtain rfl : n = i := by omega
        go_wp2_with fail
        go_ret
        exact ⟨rfl, HI.out.1⟩

theorem Ids.take {w : World} {p : Option Addr} {ids : List (Int × Int)} (h : Ids w p ids) (k : Nat) : Ids w p (ids.take k) := fun j x hx => by
  rw [List.getElem?_take] at hx
  split at hx
  · exact h j x hx
  · cases hx
theorem Nms.take {w : World} {p : Option Addr} {names : List (List UInt8)} (h : Nms w p names) (k : Nat) : Nms w p (names.take k) := fun j x hx => by
  rw [List.getElem?_take] at hx
  split at hx
  · exact h j x hx
  · cases hx
theorem clashShown_law (ids : List (Int × Int)) (names : List (List UInt8)) (p1 p2 : Option Addr) (c1 c2 : Nat) (w : World) (hL : Lb w) (h1 : Ids w p1 ids) (h2 : Nms w p2 names) (hc1 : ids.length ≤ c1) (hc2 : names.length ≤ c2) (hid : ∀ x ∈ ids, InI x.1 ∧ InI x.2) (hnm : ∀ x ∈ names, x.length ≤ 150000000000000) :
    Calls Tryd.prog 3 #[.slice p1 ids.length c1, .slice p2 names.length c2] w fun e w' => e = .returned (.bool true) ∧ Below w.heap.size w w' := by
  refine shown_law (ids.take 12) (names.take 12) p1 p2 ids.length names.length c1 c2 w hL (h1.take 12) (h2.take 12) hc1 hc2 ?_ ?_ (fun x hx => hid x (List.mem_of_mem_take hx)) (fun x hx => hnm x (List.mem_of_mem_take hx))
  · rw [List.length_take]; omega
  · rw [List.length_take]; omega

end Go.Proofs.YtjajbhpcjickbaaDoor.Ck.Sh
