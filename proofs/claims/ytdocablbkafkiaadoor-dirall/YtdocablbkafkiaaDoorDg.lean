/-
  The place of a name in a block.
-/
import Derived.Test.YtdocablbkafkiaaDoorDf
namespace Go.Proofs.YtdocablbkafkiaaDoor.Cd
open Go.RowKit

theorem lb_eq {l : List En} {nm : List UInt8} {i : Nat} (hlt : ∀ k x, k < i → l[k]? = some x → Op.bytesLess x.name nm = true) (hi : i ≤ l.length) (hat : ∀ x, l[i]? = some x → Op.bytesLess x.name nm = false) : lb l nm = i := by
  rcases Nat.lt_trichotomy (lb l nm) i with h | h | h
  · obtain ⟨x, hx⟩ : ∃ x, l[lb l nm]? = some x := ⟨_, List.getElem?_eq_getElem (by omega)⟩
    have h1 := lb_at hx
    rw [hlt _ x h hx] at h1; cases h1
  · exact h
  · have := lb_le l nm
    obtain ⟨x, hx⟩ : ∃ x, l[i]? = some x := ⟨_, List.getElem?_eq_getElem (by omega)⟩
    have h1 := lb_lt h hx
    rw [hat x hx] at h1; cases h1

set_option maxRecDepth 8000 in
set_option maxHeartbeats 1000000 in
theorem find1_any (a b : ByteArray) (k : Int) (w : World) : Calls Tryd.prog 60 #[.agg #[.string a, .int .i64 k], .string b] w fun e w' => e = .returned (.int .i64 (Lib.compareBytes a.data.toList b.data.toList)) ∧ Below w.heap.size w w' := by
  have c := fun w => compare_any a b w
  go_enter Tryd.func60, Tryd.ntmps60
  go_wp2_with (go_at_call 61; refine Calls_on (c _) ?_)
  go_ret
  exact ⟨rfl, (Below.refl _ w).alloc (Nat.le_refl _) _⟩

set_option maxRecDepth 8000 in
set_option maxHeartbeats 4000000 in
theorem search_any (g cp : Nat) (L : List En) (s : ByteArray) (w : World) (p : Option Addr) (hp : 0 < L.length → p = some ⟨g, 0, none⟩) (hs : Srt L) (hl : L.length ≤ 8) (hlc : L.length ≤ cp)
    (hc : ∀ (i j : Nat) (x : En), L[i]? = some x → j < 2 → w.cell? ⟨g, i * 2 + j, none⟩ = (entCells x)[j]?) :
    Calls Tryd.prog 59 #[.slice p L.length cp, .string s, .func (.func 60) #[] #[]] w fun e w' => e = .returned (.tuple #[.int .i64 (lb L s.data.toList : Nat), .bool (hasB L s.data.toList)]) ∧ Below w.heap.size w w' := by
  obtain ⟨n, hn⟩ : ∃ n, n = L.length := ⟨_, rfl⟩
  have HN : Hid (n = L.length) := hn
  have HC : Hid (∀ (W : World), Below w.heap.size w W → ∀ (i : Nat) (x : En), L[i]? = some x → W.cell? ⟨g, i * 2, none⟩ = some (.string (bas x.name)) ∧ W.cell? ⟨g, i * 2 + 1, none⟩ = some (.int .i64 (x.num : Nat))) := fun W hb i x hx => by
    have h0 := hc i 0 x hx (by omega)
    have h1 := hc i 1 x hx (by omega)
    exact ⟨(hb.cell (p := ⟨g, i * 2, none⟩) (cell_lt h0)).trans h0, (hb.cell (p := ⟨g, i * 2 + 1, none⟩) (cell_lt h1)).trans h1⟩
  have HP : Hid (0 < L.length → p = some ⟨g, 0, none⟩) := hp
  have HS : Hid (Srt L) := hs
  rw [← hn] at hl hlc
  rw [← hn]
  clear hn hc hp hs
  go_enter Tryd.func59, Tryd.ntmps59
  go_wp2_with fail
  go_loopw [9, 10] (fun ii jj wr => ∃ i j : Nat, i ≤ j ∧ j ≤ n ∧ ii = .int .i64 i ∧ jj = .int .i64 j ∧ Hid (Below w.heap.size w wr ∧ (∀ k x, k < i → L[k]? = some x → Op.bytesLess x.name s.data.toList = true) ∧ (∀ k x, j ≤ k → L[k]? = some x → Op.bytesLess x.name s.data.toList = false))) (fun ii jj _ => (intOf jj).toNat - (intOf ii).toNat)
  case atStart => exact ⟨0, n, by omega, by omega, rfl, rfl, Below.refl _ _, (fun k x hk => by omega), (fun k x hk hx => by have := (List.getElem?_eq_some_iff.1 hx).1; rw [← HN.out] at this; omega)⟩
  case round =>
    obtain ⟨i, j, hij, hjn, rfl, rfl, HI⟩ := hrel
    by_cases hlt : i < j
    · have hltI : (i : Int) < j := by omega
      obtain ⟨h, hh⟩ : ∃ h, (i + j) / 2 = h := ⟨_, rfl⟩
      have hhI : ((i : Int) + (j : Int)) / 2 = (h : Nat) := by omega
      have hhn : h < n := by omega
      have hhnI : (h : Int) < n := by omega
      obtain ⟨x, hx⟩ : ∃ x, L[h]? = some x := ⟨_, List.getElem?_eq_getElem (by rw [← HN.out]; exact hhn)⟩
      obtain rfl : p = some ⟨g, 0, none⟩ := HP.out (by rw [← HN.out]; omega)
      obtain ⟨c0, c1⟩ := HC.out wr HI.out.1 h x hx
      have cF := fun w => find1_any (bas x.name) s (x.num : Nat) w
      rw [bas_data] at cF
      have HX : Hid (L[h]? = some x ∧ (i + j) / 2 = h) := ⟨hx, hh⟩
      obtain ⟨z, hz⟩ : ∃ z, Lib.compareBytes x.name s.data.toList = z := ⟨_, rfl⟩
      have HZ : Hid (Lib.compareBytes x.name s.data.toList = z) := hz
      rw [hz] at cF
      clear hx hh hz
      by_cases hz0 : z < 0
      · have HL : Hid (Op.bytesLess x.name s.data.toList = true) := by
          rcases cmp_cases x.name s.data.toList with ⟨_, h2⟩ | ⟨h1, _⟩ | ⟨h1, _⟩
          · exact h2
          · rw [HZ.out] at h1; omega
          · rw [HZ.out] at h1; omega
        go_wp2_with (go_at_call 60; refine (cF _).mono ?_; rintro e w1 ⟨rfl, hb1⟩; have HB : Hid (Below wr.heap.size wr w1) := hb1; clear hb1 cF)
        all_goals go_roundw
        case rel => exact ⟨h + 1, j, by omega, by omega, by go_num, rfl, HI.out.1.trans (HB.out.mono HI.out.1.size), (fun k y hk hy => by
            by_cases e : k = h
            · subst e; rw [HX.out.1] at hy; cases hy; exact HL.out
            · have h1 := List.pairwise_iff_getElem.1 HS.out k h (List.getElem?_eq_some_iff.1 hy).1 (List.getElem?_eq_some_iff.1 HX.out.1).1 (by omega)
              rw [(List.getElem?_eq_some_iff.1 hy).2, (List.getElem?_eq_some_iff.1 HX.out.1).2] at h1
              exact less_trans _ _ _ h1 HL.out), HI.out.2.2⟩
        case measure => simp [intOf]; omega
      · have HL : Hid (Op.bytesLess x.name s.data.toList = false) := by
          rcases cmp_cases x.name s.data.toList with ⟨h1, _⟩ | ⟨_, h1⟩ | ⟨_, h1⟩
          · rw [HZ.out] at h1; omega
          · show _ = _; rw [h1]; exact less_irrefl _
          · exact less_asymm h1
        go_wp2_with (go_at_call 60; refine (cF _).mono ?_; rintro e w1 ⟨rfl, hb1⟩; have HB : Hid (Below wr.heap.size wr w1) := hb1; clear hb1 cF)
        all_goals go_roundw
        case rel => exact ⟨i, h, by omega, by omega, rfl, rfl, HI.out.1.trans (HB.out.mono HI.out.1.size), HI.out.2.1, (fun k y hk hy => by
            by_cases e : k = h
            · subst e; rw [HX.out.1] at hy; cases hy; exact HL.out
            · have h1 := List.pairwise_iff_getElem.1 HS.out h k (List.getElem?_eq_some_iff.1 HX.out.1).1 (List.getElem?_eq_some_iff.1 hy).1 (by omega)
              rw [(List.getElem?_eq_some_iff.1 hy).2, (List.getElem?_eq_some_iff.1 HX.out.1).2] at h1
              cases e2 : Op.bytesLess y.name s.data.toList with
              | false => rfl
              | true => rw [less_trans _ _ _ h1 e2] at HL; cases HL.out)⟩
        case measure => simp [intOf]; omega
    · obtain rfl : i = j := by omega
      have hge : ¬ (i : Int) < i := by omega
      have hlb : lb L s.data.toList = i := lb_eq HI.out.2.1 (by rw [← HN.out]; omega) (fun x hx => HI.out.2.2 i x (Nat.le_refl _) hx)
      by_cases hin : i < n
      · have hinI : (i : Int) < n := by omega
        obtain ⟨x, hx⟩ : ∃ x, L[i]? = some x := ⟨_, List.getElem?_eq_getElem (by rw [← HN.out]; exact hin)⟩
        obtain rfl : p = some ⟨g, 0, none⟩ := HP.out (by rw [← HN.out]; omega)
        obtain ⟨c0, c1⟩ := HC.out wr HI.out.1 i x hx
        have cF := fun w => find1_any (bas x.name) s (x.num : Nat) w
        rw [bas_data] at cF
        obtain ⟨z, hz⟩ : ∃ z, Lib.compareBytes x.name s.data.toList = z := ⟨_, rfl⟩
        have HR : Hid (lb L s.data.toList = i ∧ hasB L s.data.toList = decide (z = 0)) := by
          refine ⟨hlb, ?_⟩
          unfold hasB
          rw [hlb, hx]
          rcases cmp_cases x.name s.data.toList with ⟨h1, h2⟩ | ⟨h1, h2⟩ | ⟨h1, h2⟩
          · rw [hz] at h1; subst h1
            have := less_ne h2
            simp [this]
          · rw [hz] at h1; subst h1; simp [h2]
          · rw [hz] at h1; subst h1
            have := (less_ne h2).symm
            simp [this]
        rw [hz] at cF
        clear hx hz hlb
        go_wp2_with (go_at_call 60; refine (cF _).mono ?_; rintro e w1 ⟨rfl, hb1⟩; have HB : Hid (Below wr.heap.size wr w1) := hb1; clear hb1 cF)
        all_goals go_ret2
        all_goals exact ⟨by rw [HR.out.1, HR.out.2]; rfl, HI.out.1.trans (HB.out.mono HI.out.1.size)⟩
      · obtain rfl : i = n := by omega
        have HR : Hid (lb L s.data.toList = i ∧ hasB L s.data.toList = false) := by
          refine ⟨hlb, ?_⟩
          unfold hasB
          rw [hlb, List.getElem?_eq_none (by rw [← HN.out]; omega)]
        clear hlb
        go_wp2
        go_ret2
        exact ⟨by rw [HR.out.1, HR.out.2]; rfl, HI.out.1⟩

set_option maxRecDepth 8000 in
set_option maxHeartbeats 1000000 in
theorem find_any (base : Nat) (v : Value) (L : List En) (s : ByteArray) (w : World) (h : Blk w base v L) (hs : Srt L) (hl : L.length ≤ 8) :
    Calls Tryd.prog 38 #[v, .string s] w fun e w' => e = .returned (.tuple #[.int .i64 (lb L s.data.toList : Nat), .bool (hasB L s.data.toList)]) ∧ Below w.heap.size w w' := by
  obtain ⟨p, c, rfl, hlc, _, he⟩ := h.form
  have cS : Calls Tryd.prog 59 #[.slice p L.length c, .string s, .func (.func 60) #[] #[]] w fun e w' => e = .returned (.tuple #[.int .i64 (lb L s.data.toList : Nat), .bool (hasB L s.data.toList)]) ∧ Below w.heap.size w w' := by
    rcases Nat.eq_zero_or_pos L.length with h0 | h0
    · refine search_any 0 c L s w p (fun h => by omega) hs hl hlc (fun i j x hx => ?_)
      have := (List.getElem?_eq_some_iff.1 hx).1; omega
    · rcases h.2 with ⟨_, e0⟩ | ⟨g, cap, cur, e, hb, hg, r⟩
      · omega
      · cases e
        refine search_any g c L s w _ (fun _ => rfl) hs hl hlc (fun i j x hx hj => ?_)
        have hi := (List.getElem?_eq_some_iff.1 hx).1
        unfold Blk at h
        rw [h.cellAt (i * 2 + j) (by omega), ents_at L i j x hx hj]
  clear h hs he hlc
  generalize L.length = n at *
  go_enter Tryd.func38, Tryd.ntmps38
  go_wp2_with (go_at_call 59; refine cS.mono ?_; rintro e w1 ⟨rfl, hb1⟩; have HB : Hid (Below w.heap.size w w1) := hb1; clear hb1 cS)
  go_ret2
  exact ⟨rfl, HB.out⟩

end Go.Proofs.YtdocablbkafkiaaDoor.Cd
