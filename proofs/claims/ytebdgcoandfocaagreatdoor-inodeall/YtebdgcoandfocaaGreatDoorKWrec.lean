/-
  readRecord of package wal.
-/
import Derived.Test.YtebdgcoandfocaaGreatDoorKWalr

namespace Go.Proofs.YtebdgcoandfocaaGreatDoor
open Go.RowKit Go.Maps Go.Sort Go.Shelf

theorem own_below {W W' : World} {base : Nat} {v : Value} {n : Nat} {xs : List Value} (h : W.ownsRow base 5 1 v n xs) (hB : Below W.heap.size W W') : W'.ownsRow base 5 1 v n xs := by
  obtain ⟨h0, h | ⟨g, cap, cur, e, hg, hb, r⟩⟩ := h
  · exact ⟨h0, .inl h⟩
  · exact ⟨h0, .inr ⟨g, cap, cur, e, hg, below_block hb hB, r⟩⟩

set_option maxRecDepth 8000 in
set_option maxHeartbeats 1000000 in
theorem readRecord_none (at_ : Nat) (v : Nat) (commits turn next : Nat) (f : Option Nat) (count : Int) (d : DS) (w : World) (h : IsVol w v (dp d.a) commits turn next f count) (hd : Dev w d) (ht : Tab w)
    (htu : turn < 4611686018427387904) (ho : at_ < d.n → OldB turn (d.B at_)) :
    Calls Tryz.prog 81 #[dp v, .int .i64 at_] w fun e w' => e = .returned (.tuple #[.slice none 0 0, .int .i64 0]) ∧ Below w.heap.size w w' := by
  have c60 := readPage_none at_ v commits turn next f count d w h hd ht htu ho
  clear h hd ht ho
  go_enter Tryz.func81, Tryz.ntmps81
  go_wp2_with (go_at_call 99; refine c60.mono ?_; rintro e w1 ⟨rfl, hB1⟩; clear c60)
  go_ret2
  exact ⟨rfl, hB1⟩

set_option maxRecDepth 8000 in
set_option maxHeartbeats 4000000 in
theorem readRecord_some (at_ : Nat) (ps : Rec) (v : Nat) (commits turn next : Nat) (f : Option Nat) (count : Int) (d : DS) (w : World) (h : IsVol w v (dp d.a) commits turn next f count) (hd : Dev w d) (ht : Tab w) (hn : 16 ≤ d.n)
    (htu : turn < 4611686018427387904) (hok : okRec (nbOf d.n) ps) (hfit : at_ + pagesFor ps.length ≤ d.n) (hB : ∀ i, i < pagesFor ps.length → d.B (at_ + i) = pageB turn ps i) :
    Calls Tryz.prog 81 #[dp v, .int .i64 at_] w fun e w' => ∃ q c pm, e = .returned (.tuple #[.slice q ps.length c, .int .i64 (pagesFor ps.length)]) ∧ Below w.heap.size w w' ∧ PutsAt w' q pm ∧ pm.length = ps.length ∧ recOf pm = ps ∧ pm.all (goodPut (nbOf d.n)) = true := by
  have hl : ∀ p ∈ ps, p.2.length = 512 := fun p hp => (hok.2.2 p hp).2
  have hnb : nbOf d.n ≤ 65536 := by have := hd.hn; unfold nbOf; omega
  have hdn := hd.hn
  obtain ⟨N, hN⟩ : ∃ N, N = ps.length := ⟨_, rfl⟩
  obtain ⟨K, hK⟩ : ∃ K, K = pagesFor ps.length := ⟨_, rfl⟩
  have hN1 : 1 ≤ N := by rw [hN]; exact hok.1
  have hN2 : N ≤ nbOf d.n := by rw [hN]; exact hok.2.1
  have hK1 : 1 ≤ K := by rw [hK]; have := pagesFor_ge ps.length; omega
  have hKN : K * 496 < 8 + N * 520 + 496 := by rw [hK, hN]; exact pagesFor_lt _
  have hKN' : 8 + N * 520 ≤ K * 496 := by rw [hK, hN]; exact pagesFor_ge _
  rw [← hK] at hfit hB
  have hrl : (recP ps).length = K * 496 := by rw [recP_length ps hl, hK]
  have hpg : ∀ (i : Nat) (W : World), i < K → Below w.heap.size w W → Calls Tryz.prog 99 #[dp v, .int .i64 ((at_ + i : Nat) : Int)] W fun e w' => ∃ g o, e = .returned (.tuple #[.slice (some ⟨g, o, none⟩) 496 496, .bool true]) ∧ Bytes w' (some ⟨g, o, none⟩) (body ps i) ∧ Below W.heap.size W w' := by
    intro i W hi hW
    have hi' : i < pagesFor ps.length := by rw [← hK]; exact hi
    exact readPage_some (at_ + i) (body ps i) v commits turn next f count d W (h.below hW) (hd.below hW) (below_tab hW ht.lt ht) (by omega) htu (by rw [hB i hi]; exact opened_pageB turn ps hl i hi') (body_length ps hl i hi')
  have c60 := hpg 0 w (by omega) (Below.refl _ _)
  rw [Nat.add_zero] at c60
  have c38 : ∀ (W : World) (g o : Nat), Bytes W (some ⟨g, o, none⟩) (body ps 0) → Calls Tryz.prog 77 #[.slice (some ⟨g, o, none⟩) 496 496] W fun e w' => e = .returned (.int .i64 (N : Nat)) ∧ w' = W := by
    intro W g o hb
    have hbl := body_length ps hl 0 (by omega)
    have := number_any (some ⟨g, o, none⟩) (body ps 0) 496 W (by omega) (by omega) hb (by rw [body_count ps (by omega)]; omega)
    rw [hbl, body_count ps (by omega), ← hN] at this
    exact this
  have c9 : ∀ W : World, Below w.heap.size w W → Calls Tryz.prog 98 #[dp v] W fun e w' => e = .returned (.int .i64 (nbOf d.n)) ∧ w' = W := fun W hW => vBlocks v commits turn next f count d W (h.below hW) (hd.below hW) hn
  have c50 : ∀ W : World, Calls Tryz.prog 100 #[.int .i64 N] W fun e w' => e = .returned (.int .i64 K) ∧ w' = W := fun W => by
    have := pagesFor_any N W (by omega)
    rw [hN, ← hK] at this
    rw [hN]; exact this
  have c61 : ∀ (W : World) (g cp : Nat), Bytes W (some ⟨g, 0, none⟩) (recP ps) → (∃ cs fr, W.heap[g]? = some (.cells cs 5 fr)) → K * 496 ≤ cp → Calls Tryz.prog 101 #[.slice (some ⟨g, 0, none⟩) (K * 496) cp] W fun e w' => ∃ g' c', e = .returned (.slice (some ⟨g', 0, none⟩) N c') ∧ Below W.heap.size W w' ∧ PutsAt w' (some ⟨g', 0, none⟩) ((List.range N).map (putK g 0 (recP ps))) := by
    intro W g cp hb htg hcp
    have := putsOf_any g 0 (K * 496) cp N (recP ps) W hrl hb htg hcp (by omega) (by rw [recP_count ps (by omega), hN]) hN1 hKN' (fun k hk => by
      obtain ⟨p, hpk⟩ : ∃ p, ps[k]? = some p := ⟨_, List.getElem?_eq_getElem (by omega)⟩
      have hp := hok.2.2 p (List.mem_of_getElem? hpk)
      rw [recP_block ps hl k p hpk (by omega)]
      omega)
    refine this.mono ?_
    rintro e w' ⟨g', c', rfl, h1, _, h3⟩
    exact ⟨g', c', rfl, h1, h3⟩
  have c27 : ∀ (W : World) (g g' c' : Nat), Below w.heap.size w W → PutsAt W (some ⟨g', 0, none⟩) ((List.range N).map (putK g 0 (recP ps))) → Calls Tryz.prog 102 #[dp v, .slice (some ⟨g', 0, none⟩) N c'] W fun e w' => e = .returned (.bool true) ∧ Below W.heap.size W w' := by
    intro W g g' c' hW hp
    have := takes_any (some ⟨g', 0, none⟩) _ c' v commits turn next f count d W (h.below hW) (hd.below hW) hn hp (by simp; omega) (by simp; omega)
    have e1 : takesB (nbOf d.n) ((List.range N).map (putK g 0 (recP ps))) = true := by
      unfold takesB
      have hg := good_putK g 0 (nbOf d.n) ps hok (by omega)
      rw [← hN] at hg
      rw [hg]
      simp
      exact hN2
    rw [e1] at this
    simpa using this
  have HR : Hid (∀ g, recOf ((List.range N).map (putK g 0 (recP ps))) = ps ∧ ((List.range N).map (putK g 0 (recP ps))).all (goodPut (nbOf d.n)) = true) := by
    intro g
    rw [hN]
    exact ⟨recOf_putK g 0 ps hl (fun p hp => by have := (hok.2.2 p hp).1; omega), good_putK g 0 (nbOf d.n) ps hok (by omega)⟩
  have HRL : Hid ((recP ps).length = K * 496) := hrl
  obtain ⟨i0, hi0, hz0, hz1, hz2⟩ := info_parts Tryz.info5
  rw [← hK, ← hN]
  obtain ⟨nb, hnbe⟩ : ∃ nb, nb = nbOf d.n := ⟨_, rfl⟩
  rw [← hnbe] at c9 hN2 hnb HR
  rw [← hnbe]
  have HBL : Hid (∀ i, i < K → (body ps i).length = 496) := fun i hi => body_length ps hl i (by rw [← hK]; exact hi)
  clear h hd ht hB hrl hok hl hK hnbe hN
  have hN1I : ¬ (N : Int) < 1 := by omega
  have hN2I : ¬ (nb : Int) < N := by omega
  go_enter Tryz.func81, Tryz.ntmps81
  go_wp2_with (first
    | (go_at_call 99; refine c60.mono ?_; rintro e w1 ⟨g1, o1, rfl, hb1, hB1⟩; clear c60; have c38' := c38 w1 g1 o1 hb1; clear c38; have c9' := c9 w1 hB1; have c50' := c50 w1; clear c50 c9)
    | (go_at_call 77; refine Calls_on c38' ?_)
    | (go_at_call 98; refine Calls_on c9' ?_)
    | (go_at_call 100; refine Calls_on c50' ?_)
    | (at_make; refine wpList_make_own _ rfl _ _ 30 rfl w.heap.size 5 i0 (.int .u8 0) 1 Tryz.underlying30 hi0 hz0 hz1 .i64 .i64 _ (K * 496) rfl rfl (by go_num) (by rw [hz2]; omega) (by unfold maxLen; omega) hB1.size ?_; intro w2 hrow2 hg2; have HJ2 : Hid (w2.ownsRow w.heap.size 5 1 (.slice (some ⟨w1.heap.size, 0, none⟩) 0 (K * 496)) 0 [] ∧ Below w.heap.size w w2) := ⟨hrow2, hB1.grown hg2 hB1.size (by simp)⟩; clear hrow2 hg2))
  go_loopw [10, 41] (fun vv ii wr => ∃ i : Nat, ii = .int .i64 i ∧ i ≤ K ∧ Hid (wr.ownsRow w.heap.size 5 1 vv (i * 496) (((recP ps).take (i * 496)).map u8v) ∧ Below w.heap.size w wr)) (fun _ ii _ => K - (intOf ii).toNat)
  case atStart => exact ⟨0, rfl, Nat.zero_le _, by simpa using HJ2.out.1, HJ2.out.2⟩
  case round =>
    obtain ⟨i, rfl, hi, HJ⟩ := hrel
    obtain ⟨p0, l0, c0, hv⟩ : ∃ p l c, u10 = Value.slice p l c := by
      rcases HJ.out.1.2 with ⟨e, _⟩ | ⟨g, cap, cur, e, _⟩ <;> exact ⟨_, _, _, e⟩
    subst hv
    by_cases hlt : i < K
    · have hltI : (i : Int) < K := by omega
      have c60 := hpg i wr hlt HJ.out.2
      rw [show (((at_ + i : Nat)) : Int) = (at_ : Int) + i by omega] at c60
      have hbl := HBL.out i hlt
      clear c61 c27 hpg HJ2
      go_wp2_with (first
        | (go_at_call 99; refine c60.mono ?_; rintro e w3 ⟨g3, o3, rfl, hb3, hB3⟩; clear c60; have HB3 : Hid (Bytes w3 (some ⟨g3, o3, none⟩) (body ps i) ∧ Below w.heap.size w w3 ∧ w3.ownsRow w.heap.size 5 1 (.slice p0 l0 c0) (i * 496) (((recP ps).take (i * 496)).map u8v)) := ⟨hb3, HJ.out.2.trans (hB3.mono HJ.out.2.size), own_below HJ.out.1 hB3⟩; clear hb3)
        | (at_builtin; refine wpList_append_bytes rfl _ _ rfl w.heap.size _ (i * 496) _ rfl HB3.out.2.2 (some ⟨g3, o3, none⟩) (body ps i) 496 (by rw [hbl]; rfl) HB3.out.1 (by rw [hbl]; omega) HB3.out.2.1.size ?_; intro v4 w4 hown4 hg4 _))
      rw [hbl, ← List.map_append, ← bodies_step] at hown4
      obtain ⟨g4, cap4, rfl, _⟩ := hown4.form (by omega)
      have HW4 : Hid (w4.ownsRow w.heap.size 5 1 (.slice (some ⟨g4, 0, none⟩) (i * 496 + 496) cap4) (i * 496 + 496) (((recP ps).take ((i + 1) * 496)).map u8v) ∧ Below w.heap.size w w4) := ⟨hown4, HB3.out.2.1.grown hg4 HB3.out.2.1.size (owns_block HB3.out.2.2)⟩
      clear hown4 hg4
      go_wp2
      go_roundw
      case rel =>
        refine ⟨i + 1, by go_num, by omega, ?_, HW4.out.2⟩
        rw [show (i + 1) * 496 = i * 496 + 496 by omega]
        have := HW4.out.1
        rw [show (i + 1) * 496 = i * 496 + 496 by omega] at this
        exact this
      case measure => simp [intOf]; omega
    · obtain rfl : i = K := by omega
      have hown := HJ.out.1
      rw [List.take_of_length_le (by rw [HRL.out]; exact Nat.le_refl _)] at hown
      obtain ⟨g4, cap4, e4, hg4, hb4⟩ := owns_bytes hown (by omega)
      have hcap4 : i * 496 ≤ cap4 ∧ ∃ cs fr, wr.heap[g4]? = some (.cells cs 5 fr) := by
        rcases hown.2 with ⟨e, _⟩ | ⟨g', cap', cur', e, _, hblk, hcap, _⟩
        · rw [e4] at e; cases e
        · rw [e4] at e; cases e; exact ⟨hcap, _, _, hblk⟩
      cases e4
      have c61' := c61 wr g4 c0 hb4 hcap4.2 hcap4.1
      clear c61 hpg hown HJ2
      go_wp2_with (first
        | (go_at_call 101; refine c61'.mono ?_; rintro e w5 ⟨g5, c5, rfl, hB5, hp5⟩; clear c61'; have hB5' : Below w.heap.size w w5 := HJ.out.2.trans (hB5.mono HJ.out.2.size); have c27' := c27 w5 g4 g5 c5 hB5' hp5; have HP5 : Hid (PutsAt w5 (some ⟨g5, 0, none⟩) ((List.range N).map (putK g4 0 (recP ps)))) := hp5; clear hp5 c27)
        | (go_at_call 102; refine c27'.mono ?_; rintro e w6 ⟨rfl, hB6⟩; clear c27'))
      go_ret2
      refine ⟨_, _, _, rfl, hB5'.trans (hB6.mono hB5'.size), HP5.out.below hB6, by simp, (HR.out g4).1, (HR.out g4).2⟩

end Go.Proofs.YtebdgcoandfocaaGreatDoor
