/-
  write of package wal, where the log must be begun anew and holds no block.
-/
import Derived.Test.YtlcojcldbdikgaaGreatDoorKa
import Derived.Test.YtlcojcldbdikgaaGreatDoorRg

/-
  A record is read as it was written: as functions of lists of bytes.
-/
namespace Go.Proofs.YtlcojcldbdikgaaGreatDoor
open Go.RowKit Go.Maps Go.Sort Go.Shelf

theorem flat_drop : ∀ (ps : Rec) (_ : ∀ p ∈ ps, p.2.length = 512) (k : Nat) (p : Nat × By), ps[k]? = some p → ∃ rest, ((ps.map fun p => le8 p.1 ++ p.2).flatten).drop (k * 520) = le8 p.1 ++ (p.2 ++ rest)
  | [], _, k, p, h => by simp at h
  | q :: ps, hl, 0, p, h => by
    simp at h
    subst h
    exact ⟨_, by simp; rfl⟩
  | q :: ps, hl, k + 1, p, h => by
    obtain ⟨rest, hr⟩ := flat_drop ps (fun p hp => hl p (by simp [hp])) k p (by simpa using h)
    refine ⟨rest, ?_⟩
    rw [List.map_cons, List.flatten_cons, List.drop_append, ← hr]
    have hq := hl q (by simp)
    have hq' : (le8 q.1 ++ q.2).length = 520 := by rw [List.length_append, le8_length, hq]
    rw [List.drop_of_length_le (by omega), hq', List.nil_append, show (k + 1) * 520 - 520 = k * 520 by omega]

theorem recP_drop (ps : Rec) (hl : ∀ p ∈ ps, p.2.length = 512) (k : Nat) (p : Nat × By) (hk : ps[k]? = some p) : ∃ rest, (recP ps).drop (8 + k * 520) = le8 p.1 ++ (p.2 ++ rest) := by
  obtain ⟨rest, hr⟩ := flat_drop ps hl k p hk
  have hlt := (List.getElem?_eq_some_iff.1 hk).1
  have hfl := flat_length ps hl
  unfold recP recBytes
  rw [← List.drop_drop, List.append_assoc, List.drop_left' (le8_length _), List.drop_append, hr]
  exact ⟨rest ++ (List.replicate (pagesFor ps.length * 496 - (le8 ps.length ++ (ps.map fun p => le8 p.1 ++ p.2).flatten).length) 0#8).drop (k * 520 - ((ps.map fun p => le8 p.1 ++ p.2).flatten).length), by simp⟩

theorem recP_block (ps : Rec) (hl : ∀ p ∈ ps, p.2.length = 512) (k : Nat) (p : Nat × By) (hk : ps[k]? = some p) (hp : p.1 < 18446744073709551616) : leN (((recP ps).drop (8 + k * 520)).take 8) = p.1 := by
  obtain ⟨rest, hr⟩ := recP_drop ps hl k p hk
  rw [hr, List.take_left' (le8_length _), leN_le8 _ hp]
theorem recP_data (ps : Rec) (hl : ∀ p ∈ ps, p.2.length = 512) (k : Nat) (p : Nat × By) (hk : ps[k]? = some p) : ((recP ps).drop (8 + k * 520 + 8)).take 512 = p.2 := by
  obtain ⟨rest, hr⟩ := recP_drop ps hl k p hk
  rw [← List.drop_drop, hr, List.drop_left' (le8_length _), List.take_left' (hl p (List.mem_of_getElem? hk))]
theorem recP_count (ps : Rec) (h : ps.length < 18446744073709551616) : leN ((recP ps).take 8) = ps.length := by
  unfold recP recBytes
  rw [List.append_assoc, List.take_left' (le8_length _), leN_le8 _ h]
theorem body_count (ps : Rec) (h : ps.length < 18446744073709551616) : leN ((body ps 0).take 8) = ps.length := by
  unfold body
  rw [Nat.zero_mul, List.drop_zero, List.take_take]
  exact recP_count ps h
/-- The bodies, one behind the other. -/
theorem bodies_step (ps : Rec) (i : Nat) : (recP ps).take ((i + 1) * 496) = (recP ps).take (i * 496) ++ body ps i := by
  unfold body
  rw [Nat.add_mul, Nat.one_mul, List.take_add]

/-- The puts that putsOf finds. -/
theorem recOf_putK (g o : Nat) (ps : Rec) (hl : ∀ p ∈ ps, p.2.length = 512) (hp : ∀ p ∈ ps, p.1 < 18446744073709551616) : recOf ((List.range ps.length).map (putK g o (recP ps))) = ps := by
  unfold recOf
  rw [List.map_map]
  apply List.ext_getElem?
  intro k
  by_cases hk : k < ps.length
  · obtain ⟨p, hpk⟩ : ∃ p, ps[k]? = some p := ⟨_, List.getElem?_eq_getElem hk⟩
    rw [List.getElem?_map, List.getElem?_range hk, hpk]
    show some ((((leN (((recP ps).drop (8 + k * 520)).take 8) : Nat) : Int)).toNat, ((recP ps).drop (8 + k * 520 + 8)).take 512) = some p
    rw [recP_block ps hl k p hpk (hp p (List.mem_of_getElem? hpk)), recP_data ps hl k p hpk]
    rfl
  · rw [List.getElem?_eq_none (by simpa using hk), List.getElem?_eq_none (by simpa using hk)]
theorem good_putK (g o nb : Nat) (ps : Rec) (hok : okRec nb ps) (hnb : nb < 18446744073709551616) : ((List.range ps.length).map (putK g o (recP ps))).all (goodPut nb) = true := by
  have hl : ∀ p ∈ ps, p.2.length = 512 := fun p hp => (hok.2.2 p hp).2
  rw [List.all_eq_true]
  intro x hx
  obtain ⟨k, hk, rfl⟩ := List.mem_map.1 hx
  have hk' := List.mem_range.1 hk
  obtain ⟨p, hpk⟩ : ∃ p, ps[k]? = some p := ⟨_, List.getElem?_eq_getElem hk'⟩
  have hp := hok.2.2 p (List.mem_of_getElem? hpk)
  have h1 : (putK g o (recP ps) k).block = (p.1 : Int) := by
    show ((leN (((recP ps).drop (8 + k * 520)).take 8) : Nat) : Int) = _
    rw [recP_block ps hl k p hpk (by omega)]
  have h2 : (putK g o (recP ps) k).bytes = p.2 := recP_data ps hl k p hpk
  unfold goodPut
  rw [h1, h2, hp.2]
  simp
  omega

end Go.Proofs.YtlcojcldbdikgaaGreatDoor

/-
  readRecord of package wal.
-/
namespace Go.Proofs.YtlcojcldbdikgaaGreatDoor
open Go.RowKit Go.Maps Go.Sort Go.Shelf

theorem own_below {W W' : World} {base : Nat} {v : Value} {n : Nat} {xs : List Value} (h : W.ownsRow base 5 1 v n xs) (hB : Below W.heap.size W W') : W'.ownsRow base 5 1 v n xs := by
  obtain ⟨h0, h | ⟨g, cap, cur, e, hg, hb, r⟩⟩ := h
  · exact ⟨h0, .inl h⟩
  · exact ⟨h0, .inr ⟨g, cap, cur, e, hg, below_block hb hB, r⟩⟩

set_option maxRecDepth 8000 in
set_option maxHeartbeats 1000000 in
theorem readRecord_none (at_ : Nat) (v : Nat) (commits turn next : Nat) (f : Option Nat) (count : Int) (d : DS) (w : World) (h : IsVol w v (dp d.a) commits turn next f count) (hd : Dev w d) (ht : Tab w)
    (htu : turn < 4611686018427387904) (ho : at_ < d.n → OldB turn (d.B at_)) :
    Calls Tryz.prog 84 #[dp v, .int .i64 at_] w fun e w' => e = .returned (.tuple #[.slice none 0 0, .int .i64 0]) ∧ Below w.heap.size w w' := by
  have c60 := readPage_none at_ v commits turn next f count d w h hd ht htu ho
  clear h hd ht ho
  go_enter Tryz.func84, Tryz.ntmps84
  go_wp2_with (go_at_call 110; refine c60.mono ?_; rintro e w1 ⟨rfl, hB1⟩; clear c60)
  go_ret2
  exact ⟨rfl, hB1⟩

set_option maxRecDepth 8000 in
set_option maxHeartbeats 4000000 in
theorem readRecord_some (at_ : Nat) (ps : Rec) (v : Nat) (commits turn next : Nat) (f : Option Nat) (count : Int) (d : DS) (w : World) (h : IsVol w v (dp d.a) commits turn next f count) (hd : Dev w d) (ht : Tab w) (hn : 16 ≤ d.n)
    (htu : turn < 4611686018427387904) (hok : okRec (nbOf d.n) ps) (hfit : at_ + pagesFor ps.length ≤ d.n) (hB : ∀ i, i < pagesFor ps.length → d.B (at_ + i) = pageB turn ps i) :
    Calls Tryz.prog 84 #[dp v, .int .i64 at_] w fun e w' => ∃ q c pm, e = .returned (.tuple #[.slice q ps.length c, .int .i64 (pagesFor ps.length)]) ∧ Below w.heap.size w w' ∧ PutsAt w' q pm ∧ pm.length = ps.length ∧ recOf pm = ps ∧ pm.all (goodPut (nbOf d.n)) = true := by
  have hl : ∀ p ∈ ps, p.2.length = 512 := fun p hp => (hok.2.2 p hp).2
  have hnb : nbOf d.n ≤ 65536 := by have := hd.hn; unfold nbOf; omega
  have hdn := hd.hn
  obtain ⟨N, hN⟩ : ∃ N, N = ps.length := ⟨_, rfl⟩
  obtain ⟨K, hK⟩ : ∃ K, K = pagesFor ps.length := ⟨_, rfl⟩
  have hN1 : 1 ≤ N := by rw [hN]; exact hok.1
  have hN2 : N ≤ nbOf d.n := by rw [hN]; exact hok.2.1
  have hK1 : 1 ≤ K := by rw [hK]; have := pagesFor_ge ps.length; omega
  have hKN : K * 496 < 8 + N * 520 + 496 := by rw [hK, hN]; exact pagesFor_lt _
  have hKN' : 8 + N * 520 ≤ K * 496 := by rw [hK, hN]; exact pagesFor_ge _
  rw [← hK] at hfit hB
  have hrl : (recP ps).length = K * 496 := by rw [recP_length ps hl, hK]
  have hpg : ∀ (i : Nat) (W : World), i < K → Below w.heap.size w W → Calls Tryz.prog 110 #[dp v, .int .i64 ((at_ + i : Nat) : Int)] W fun e w' => ∃ g o, e = .returned (.tuple #[.slice (some ⟨g, o, none⟩) 496 496, .bool true]) ∧ Bytes w' (some ⟨g, o, none⟩) (body ps i) ∧ Below W.heap.size W w' := by
    intro i W hi hW
    have hi' : i < pagesFor ps.length := by rw [← hK]; exact hi
    exact readPage_some (at_ + i) (body ps i) v commits turn next f count d W (h.below hW) (hd.below hW) (below_tab hW ht.lt ht) (by omega) htu (by rw [hB i hi]; exact opened_pageB turn ps hl i hi') (body_length ps hl i hi')
  have c60 := hpg 0 w (by omega) (Below.refl _ _)
  rw [Nat.add_zero] at c60
  have c38 : ∀ (W : World) (g o : Nat), Bytes W (some ⟨g, o, none⟩) (body ps 0) → Calls Tryz.prog 80 #[.slice (some ⟨g, o, none⟩) 496 496] W fun e w' => e = .returned (.int .i64 (N : Nat)) ∧ w' = W := by
    intro W g o hb
    have hbl := body_length ps hl 0 (by omega)
    have := number_any (some ⟨g, o, none⟩) (body ps 0) 496 W (by omega) (by omega) hb (by rw [body_count ps (by omega)]; omega)
    rw [hbl, body_count ps (by omega), ← hN] at this
    exact this
  have c9 : ∀ W : World, Below w.heap.size w W → Calls Tryz.prog 33 #[dp v] W fun e w' => e = .returned (.int .i64 (nbOf d.n)) ∧ w' = W := fun W hW => vBlocks v commits turn next f count d W (h.below hW) (hd.below hW) hn
  have c50 : ∀ W : World, Calls Tryz.prog 100 #[.int .i64 N] W fun e w' => e = .returned (.int .i64 K) ∧ w' = W := fun W => by
    have := pagesFor_any N W (by omega)
    rw [hN, ← hK] at this
    rw [hN]; exact this
  have c61 : ∀ (W : World) (g cp : Nat), Bytes W (some ⟨g, 0, none⟩) (recP ps) → (∃ cs fr, W.heap[g]? = some (.cells cs 5 fr)) → K * 496 ≤ cp → Calls Tryz.prog 111 #[.slice (some ⟨g, 0, none⟩) (K * 496) cp] W fun e w' => ∃ g' c', e = .returned (.slice (some ⟨g', 0, none⟩) N c') ∧ Below W.heap.size W w' ∧ PutsAt w' (some ⟨g', 0, none⟩) ((List.range N).map (putK g 0 (recP ps))) := by
    intro W g cp hb htg hcp
    have := putsOf_any g 0 (K * 496) cp N (recP ps) W hrl hb htg hcp (by omega) (by rw [recP_count ps (by omega), hN]) hN1 hKN' (fun k hk => by
      obtain ⟨p, hpk⟩ : ∃ p, ps[k]? = some p := ⟨_, List.getElem?_eq_getElem (by omega)⟩
      have hp := hok.2.2 p (List.mem_of_getElem? hpk)
      rw [recP_block ps hl k p hpk (by omega)]
      omega)
    refine this.mono ?_
    rintro e w' ⟨g', c', rfl, h1, _, h3⟩
    exact ⟨g', c', rfl, h1, h3⟩
  have c27 : ∀ (W : World) (g g' c' : Nat), Below w.heap.size w W → PutsAt W (some ⟨g', 0, none⟩) ((List.range N).map (putK g 0 (recP ps))) → Calls Tryz.prog 68 #[dp v, .slice (some ⟨g', 0, none⟩) N c'] W fun e w' => e = .returned (.bool true) ∧ Below W.heap.size W w' := by
    intro W g g' c' hW hp
    have := takes_any (some ⟨g', 0, none⟩) _ c' v commits turn next f count d W (h.below hW) (hd.below hW) hn hp (by simp; omega) (by simp; omega)
    have e1 : takesB (nbOf d.n) ((List.range N).map (putK g 0 (recP ps))) = true := by
      unfold takesB
      have hg := good_putK g 0 (nbOf d.n) ps hok (by omega)
      rw [← hN] at hg
      rw [hg]
      simp
      exact hN2
    rw [e1] at this
    simpa using this
  have HR : Hid (∀ g, recOf ((List.range N).map (putK g 0 (recP ps))) = ps ∧ ((List.range N).map (putK g 0 (recP ps))).all (goodPut (nbOf d.n)) = true) := by
    intro g
    rw [hN]
    exact ⟨recOf_putK g 0 ps hl (fun p hp => by have := (hok.2.2 p hp).1; omega), good_putK g 0 (nbOf d.n) ps hok (by omega)⟩
  have HRL : Hid ((recP ps).length = K * 496) := hrl
  obtain ⟨i0, hi0, hz0, hz1, hz2⟩ := info_parts Tryz.info5
  rw [← hK, ← hN]
  obtain ⟨nb, hnbe⟩ : ∃ nb, nb = nbOf d.n := ⟨_, rfl⟩
  rw [← hnbe] at c9 hN2 hnb HR
  rw [← hnbe]
  have HBL : Hid (∀ i, i < K → (body ps i).length = 496) := fun i hi => body_length ps hl i (by rw [← hK]; exact hi)
  clear h hd ht hB hrl hok hl hK hnbe hN
  have hN1I : ¬ (N : Int) < 1 := by omega
  have hN2I : ¬ (nb : Int) < N := by omega
  go_enter Tryz.func84, Tryz.ntmps84
  go_wp2_with (first
    | (go_at_call 110; refine c60.mono ?_; rintro e w1 ⟨g1, o1, rfl, hb1, hB1⟩; clear c60; have c38' := c38 w1 g1 o1 hb1; clear c38; have c9' := c9 w1 hB1; have c50' := c50 w1; clear c50 c9)
    | (go_at_call 80; refine Calls_on c38' ?_)
    | (go_at_call 33; refine Calls_on c9' ?_)
    | (go_at_call 100; refine Calls_on c50' ?_)
    | (at_make; refine wpList_make_own _ rfl _ _ 33 rfl w.heap.size 5 i0 (.int .u8 0) 1 Tryz.underlying33 hi0 hz0 hz1 .i64 .i64 _ (K * 496) rfl rfl (by go_num) (by rw [hz2]; omega) (by unfold maxLen; omega) hB1.size ?_; intro w2 hrow2 hg2; have HJ2 : Hid (w2.ownsRow w.heap.size 5 1 (.slice (some ⟨w1.heap.size, 0, none⟩) 0 (K * 496)) 0 [] ∧ Below w.heap.size w w2) := ⟨hrow2, hB1.grown hg2 hB1.size (by simp)⟩; clear hrow2 hg2))
  go_loopw [10, 41] (fun vv ii wr => ∃ i : Nat, ii = .int .i64 i ∧ i ≤ K ∧ Hid (wr.ownsRow w.heap.size 5 1 vv (i * 496) (((recP ps).take (i * 496)).map u8v) ∧ Below w.heap.size w wr)) (fun _ ii _ => K - (intOf ii).toNat)
  case atStart => exact ⟨0, rfl, Nat.zero_le _, by simpa using HJ2.out.1, HJ2.out.2⟩
  case round =>
    obtain ⟨i, rfl, hi, HJ⟩ := hrel
    obtain ⟨p0, l0, c0, hv⟩ : ∃ p l c, u10 = Value.slice p l c := by
      rcases HJ.out.1.2 with ⟨e, _⟩ | ⟨g, cap, cur, e, _⟩ <;> exact ⟨_, _, _, e⟩
    subst hv
    by_cases hlt : i < K
    · have hltI : (i : Int) < K := by omega
      have c60 := hpg i wr hlt HJ.out.2
      rw [show (((at_ + i : Nat)) : Int) = (at_ : Int) + i by omega] at c60
      have hbl := HBL.out i hlt
      clear c61 c27 hpg HJ2
      go_wp2_with (first
        | (go_at_call 110; refine c60.mono ?_; rintro e w3 ⟨g3, o3, rfl, hb3, hB3⟩; clear c60; have HB3 : Hid (Bytes w3 (some ⟨g3, o3, none⟩) (body ps i) ∧ Below w.heap.size w w3 ∧ w3.ownsRow w.heap.size 5 1 (.slice p0 l0 c0) (i * 496) (((recP ps).take (i * 496)).map u8v)) := ⟨hb3, HJ.out.2.trans (hB3.mono HJ.out.2.size), own_below HJ.out.1 hB3⟩; clear hb3)
        | (at_builtin; refine wpList_append_bytes rfl _ _ rfl w.heap.size _ (i * 496) _ rfl HB3.out.2.2 (some ⟨g3, o3, none⟩) (body ps i) 496 (by rw [hbl]; rfl) HB3.out.1 (by rw [hbl]; omega) HB3.out.2.1.size ?_; intro v4 w4 hown4 hg4 _))
      rw [hbl, ← List.map_append, ← bodies_step] at hown4
      obtain ⟨g4, cap4, rfl, _⟩ := hown4.form (by omega)
      have HW4 : Hid (w4.ownsRow w.heap.size 5 1 (.slice (some ⟨g4, 0, none⟩) (i * 496 + 496) cap4) (i * 496 + 496) (((recP ps).take ((i + 1) * 496)).map u8v) ∧ Below w.heap.size w w4) := ⟨hown4, HB3.out.2.1.grown hg4 HB3.out.2.1.size (owns_block HB3.out.2.2)⟩
      clear hown4 hg4
      go_wp2
      go_roundw
      case rel =>
        refine ⟨i + 1, by go_num, by omega, ?_, HW4.out.2⟩
        rw [show (i + 1) * 496 = i * 496 + 496 by omega]
        have := HW4.out.1
        rw [show (i + 1) * 496 = i * 496 + 496 by omega] at this
        exact this
      case measure => simp [intOf]; omega
    · obtain rfl : i = K := by omega
      have hown := HJ.out.1
      rw [List.take_of_length_le (by rw [HRL.out]; exact Nat.le_refl _)] at hown
      obtain ⟨g4, cap4, e4, hg4, hb4⟩ := owns_bytes hown (by omega)
      have hcap4 : i * 496 ≤ cap4 ∧ ∃ cs fr, wr.heap[g4]? = some (.cells cs 5 fr) := by
        rcases hown.2 with ⟨e, _⟩ | ⟨g', cap', cur', e, _, hblk, hcap, _⟩
        · rw [e4] at e; cases e
        · rw [e4] at e; cases e; exact ⟨hcap, _, _, hblk⟩
      cases e4
      have c61' := c61 wr g4 c0 hb4 hcap4.2 hcap4.1
      clear c61 hpg hown HJ2
      go_wp2_with (first
        | (go_at_call 111; refine c61'.mono ?_; rintro e w5 ⟨g5, c5, rfl, hB5, hp5⟩; clear c61'; have hB5' : Below w.heap.size w w5 := HJ.out.2.trans (hB5.mono HJ.out.2.size); have c27' := c27 w5 g4 g5 c5 hB5' hp5; have HP5 : Hid (PutsAt w5 (some ⟨g5, 0, none⟩) ((List.range N).map (putK g4 0 (recP ps)))) := hp5; clear hp5 c27)
        | (go_at_call 68; refine c27'.mono ?_; rintro e w6 ⟨rfl, hB6⟩; clear c27'))
      go_ret2
      refine ⟨_, _, _, rfl, hB5'.trans (hB6.mono hB5'.size), HP5.out.below hB6, by simp, (HR.out g4).1, (HR.out g4).2⟩

end Go.Proofs.YtlcojcldbdikgaaGreatDoor

/-
  readLog of package wal.
-/
namespace Go.Proofs.YtlcojcldbdikgaaGreatDoor
open Go.RowKit Go.Maps Go.Sort Go.Shelf

/-- The log from block at_ on: these records, and no page of this turn behind them. -/
def LogIs (B : Nat → By) (n nb turn : Nat) : Nat → List Rec → Prop
  | at_, [] => at_ ≤ n ∧ (at_ < n → OldB turn (B at_))
  | at_, ps :: rs => okRec nb ps ∧ at_ + pagesFor ps.length ≤ n ∧ (∀ i, i < pagesFor ps.length → B (at_ + i) = pageB turn ps i) ∧ LogIs B n nb turn (at_ + pagesFor ps.length) rs
theorem le_pagesFor (k : Nat) : k ≤ pagesFor k := by unfold pagesFor; omega
theorem pagesFor_pos (k : Nat) : 1 ≤ pagesFor k := by unfold pagesFor; omega
theorem LogIs.le {B : Nat → By} {n nb turn : Nat} : ∀ {at_ : Nat} {rs : List Rec}, LogIs B n nb turn at_ rs → at_ + rs.flatten.length ≤ n ∧ at_ + rs.length ≤ n
  | at_, [], h => by have := h.1; simpa using this
  | at_, ps :: rs, h => by
    have h1 := LogIs.le h.2.2.2
    have h2 := le_pagesFor ps.length
    have h3 := pagesFor_pos ps.length
    simp only [List.flatten_cons, List.length_append, List.length_cons]
    omega

/-- A volume's struct alone is turned. -/
theorem Dev.butV {w w' : World} {d : DS} (hd : Dev w d) {v : Nat} {pd : Option Addr} {commits turn next : Nat} {f : Option Nat} {count : Int} (h : IsVol w v (.pointer pd) commits turn next f count) (hb : But (fun k => k = v) w w') : Dev w' d :=
  hd.but hb (fun k hk e => by subst e; exact h.mine hd hk) (fun g l hg e => by subst e; have := h; rw [IsVol, hg] at this; simp at this)
theorem IsVol.noTab {w : World} {v : Nat} {pd : Option Addr} {commits turn next : Nat} {f : Option Nat} {count : Int} (h : IsVol w v (.pointer pd) commits turn next f count) (ht : Tab w) : ¬ (0 = v) := by
  intro e
  have h0 := ht 0 0 rfl
  have hx := h
  rw [← e] at hx
  have := cellOf hx 0
  rw [h0] at this
  simp [volCells] at this

/-- What readLog has done behind some records. -/
structure LogInv (w W : World) (v : Nat) (d : DS) (commits turn next f : Nat) (count : Int) (done : List Rec) : Prop where
  vol : IsVol W v (dp d.a) (commits + done.length) turn next (some f) count
  fr : ∃ F, Fresh W f done.flatten.length F (laidOn (fun _ => none) done.flatten)
  but : But (fun k => k = v) w W
  flt : w.heap.size ≤ f

set_option maxRecDepth 8000 in
set_option maxHeartbeats 4000000 in
theorem readLog_any (recs : List Rec) (v : Nat) (commits turn next : Nat) (f0 : Option Nat) (count : Int) (d : DS) (w : World) (h : IsVol w v (dp d.a) commits turn next f0 count) (hd : Dev w d) (ht : Tab w) (hn : 16 ≤ d.n)
    (htu : turn < 4611686018427387904) (hc : commits < 4000000000000000000) (hlog : LogIs d.B d.n (nbOf d.n) turn (1 + nbOf d.n) recs) :
    Calls Tryz.prog 55 #[dp v] w fun e w' => ∃ f, e = .returned (.int .i64 0) ∧ LogInv w w' v d commits turn d.n f count recs := by
  have hmm := @run_makeMap Tryz.prog
  have hle := hd.hn
  have hnb : nbOf d.n ≤ 65536 := by unfold nbOf; omega
  have m4 := cellOf h 4
  have f4 := frozenOf h 4
  have hvlt := h.lt
  simp [volCells] at m4
  obtain ⟨w1, hw1⟩ : ∃ w1, w1 = (w.setCell ⟨v, 4, none⟩ (.map (some w.heap.size))).alloc (.map #[] 0) := ⟨_, rfl⟩
  have hsz : (w.setCell ⟨v, 4, none⟩ (.map (some w.heap.size))).heap.size = w.heap.size := by simp [World.setCell]
  have hv1 : IsVol w1 v (dp d.a) commits turn next (some w.heap.size) count := by rw [hw1]; exact (Below.heap_alloc _ _ _ (by rw [hsz]; exact h.lt)).trans (h.setF w.heap.size)
  have hm1 : w1.heap[w.heap.size]? = some (.map #[] 0) := by rw [hw1]; have := (MapKept.heap_alloc (w.setCell ⟨v, 4, none⟩ (.map (some w.heap.size))) (.map #[] 0)).1; rw [hsz] at this; exact this
  have hb1 : But (fun k => k = v) w w1 := by rw [hw1]; exact ((But.refl (fun k => k = v) w).setCell ⟨v, 4, none⟩ rfl _).alloc _
  have hL1 : LogInv w w1 v d commits turn next w.heap.size count [] := ⟨hv1, ⟨_, Fresh.empty hm1⟩, hb1, Nat.le_refl _⟩
  have c42 := vStart v commits turn next (some w.heap.size) count d w1 hv1 (hd.butV h hb1) hn
  have HV : Hid (IsVol w v (dp d.a) commits turn next f0 count) := h
  have HD : Hid (Dev w d) := hd
  have HT : Hid (Tab w) := ht
  have HL : Hid (LogIs d.B d.n (nbOf d.n) turn (1 + nbOf d.n) recs) := hlog
  have HL1 : Hid (LogInv w w1 v d commits turn next w.heap.size count []) := hL1
  clear h hd ht hlog hv1 hm1 hb1 hL1 hsz
  go_enter Tryz.func55, Tryz.ntmps55
  go_wp2_with (go_at_call 83; refine Stop.out ?_)
  refine Stop.mk ?_
  rw [← hw1]
  refine Calls_on c42 ?_
  obtain ⟨f, hf⟩ : ∃ f, f = w.heap.size := ⟨_, rfl⟩
  rw [← hf] at HL1
  clear hw1 c42 m4 f4 hvlt hmm
  go_wp2_with fail
  go_loopw [3] (fun ii wr => ∃ (at_ : Nat) (done rest : List Rec), ii = .int .i64 (at_ : Nat) ∧ Hid (recs = done ++ rest ∧ LogIs d.B d.n (nbOf d.n) turn at_ rest ∧ LogInv w wr v d commits turn next f count done)) (fun ii _ => d.n + 1 - (intOf ii).toNat)
  case atStart => exact ⟨_, [], recs, rfl, rfl, HL.out, HL1.out⟩
  case round =>
    obtain ⟨at_, done, rest, rfl, HJ⟩ := hrel
    obtain ⟨hrec, hlog, hinv⟩ := HJ.out
    have hd := HD.out.butV HV.out hinv.but
    have ht := hinv.but.tab HT.out (HV.out.noTab HT.out)
    have hrl : recs.length ≤ d.n := by have := HL.out.le; omega
    have hrf : recs.flatten.length ≤ d.n := by have := HL.out.le; omega
    rw [hrec] at hrl hrf
    simp only [List.length_append, List.flatten_append] at hrl hrf
    cases rest with
    | nil =>
      have c43 := readRecord_none at_ v (commits + done.length) turn next (some f) count d wr hinv.vol hd ht htu hlog.2
      have c31 : ∀ W : World, Below wr.heap.size wr W → Calls Tryz.prog 63 #[dp d.a] W fun e w' => e = .returned (.int .i64 d.n) ∧ w' = W := fun W hW => dev_blocks d W (hd.below hW)
      have cells : ∀ W : World, Below wr.heap.size wr W → W.cell? ⟨v, 0, none⟩ = some (dp d.a) ∧ W.cell? ⟨v, 3, none⟩ = some (.int .i64 next) ∧ W.frozen? ⟨v, 3, none⟩ = false := by
        intro W hW
        refine ⟨?_, ?_, frozenOf (hinv.vol.below hW) 3⟩
        · have := cellOf (hinv.vol.below hW) 0; simpa [volCells] using this
        · have := cellOf (hinv.vol.below hW) 3; simpa [volCells] using this
      have HI : Hid (LogInv w wr v d commits turn next f count done) := hinv
      clear hlog hinv hd ht
      go_wp2_with (first
        | (go_at_call 84; refine c43.mono ?_; rintro e w2 ⟨rfl, hB2⟩; clear c43; have c31' := c31 w2 hB2; obtain ⟨x0, x3, x4⟩ := cells w2 hB2; clear c31 cells)
        | (go_at_call 63; refine Calls_on c31' ?_))
      go_ret
      refine ⟨f, rfl, ?_⟩
      have hinv := HI.out
      have hr : recs = done := by rw [hrec]; simp
      rw [hr]
      obtain ⟨F, hF⟩ := hinv.fr
      have hv2 := hinv.vol.below hB2
      have hF2 := hF.below hB2
      have hb3 : But (fun k => k = v) w2 (w2.setCell ⟨v, 3, none⟩ (.int .i64 d.n)) := (But.refl (fun k => k = v) w2).setCell ⟨v, 3, none⟩ rfl _
      refine ⟨hv2.setN d.n, ⟨F, hF2.but hb3 (fun e => ?_) (fun k cs fr hk e => ?_)⟩, (hinv.but.trans (But.of_below hB2)).trans hb3, hinv.flt⟩
      · exact hF2.noCell v 1 _ (cellOf hv2 1) e.symm
      · subst e; have := hv2; rw [IsVol, hk] at this; simp at this
    | cons ps rs =>
      obtain ⟨hok, hfit, hBp, hlog'⟩ := hlog
      have c43 := readRecord_some at_ ps v (commits + done.length) turn next (some f) count d wr hinv.vol hd ht hn htu hok hfit hBp
      obtain ⟨K, hK⟩ : ∃ K, K = pagesFor ps.length := ⟨_, rfl⟩
      have hK1 : 1 ≤ K := by rw [hK]; exact pagesFor_pos _
      rw [← hK] at c43 hfit hlog'
      have hKb : ((K : Int) == 0) = false := by simp; omega
      have HI : Hid (LogInv w wr v d commits turn next f count done ∧ LogIs d.B d.n (nbOf d.n) turn (at_ + K) rs) := ⟨hinv, hlog'⟩
      have hps : ps.length ≤ d.n := by have := le_pagesFor ps.length; rw [← hK] at this; omega
      have c29 : ∀ (W : World) (q : Option Addr) (c : Nat) (pm : List PutM), Below wr.heap.size wr W → PutsAt W q pm → pm.length = ps.length → recOf pm = ps → pm.all (goodPut (nbOf d.n)) = true →
          Calls Tryz.prog 70 #[dp v, .slice q ps.length c] W fun e w' => e = .returned (.tuple #[]) ∧ LogInv w w' v d commits turn next f count (done ++ [ps]) := by
        intro W q c pm hW hp hl hr hg
        obtain ⟨F, hF⟩ := HI.out.1.fr
        have := take_any q pm c v (some ⟨d.a, 0, none⟩) (commits + done.length) turn next f done.flatten.length F _ count (nbOf d.n) W (HI.out.1.vol.below hW) (hF.below hW) hp hg (by omega) (by rw [hl]; omega) (by omega)
        rw [hl] at this
        refine this.mono ?_
        rintro e w' ⟨rfl, hv', ⟨F', hF'⟩, hb'⟩
        refine ⟨rfl, ⟨?_, ⟨F', ?_⟩, ?_, HI.out.1.flt⟩⟩
        · rw [List.length_append, List.length_singleton, ← Nat.add_assoc]; exact hv'
        · rw [hr] at hF'
          have e1 : (done ++ [ps]).flatten = done.flatten ++ ps := by simp
          rw [e1, List.length_append, laidOn_append]
          exact hF'
        · have h1 := HI.out.1.but.trans (But.of_below hW)
          refine ⟨hb'.os.trans h1.os, hb'.tape.trans h1.tape, hb'.output.trans h1.output, Nat.le_trans h1.size hb'.size, fun k hk hn => (hb'.block k (Nat.lt_of_lt_of_le hk h1.size) ?_).trans (h1.block k hk hn)⟩
          rintro (e | e)
          · exact hn e
          · have := HI.out.1.flt; omega
      clear hlog' hinv hd ht hok hBp
      go_wp2_with (first
        | (go_at_call 84; refine c43.mono ?_; rintro e w2 ⟨q2, cc2, pm2, rfl, hB2, hp2, hl2, hr2, hg2⟩; clear c43; have c29' := c29 w2 q2 cc2 pm2 hB2 hp2 hl2 hr2 hg2; clear c29 hp2)
        | (go_at_call 70; refine c29'.mono ?_; rintro e w3 ⟨rfl, hI3⟩; clear c29'; have HI3 : Hid (LogInv w w3 v d commits turn next f count (done ++ [ps])) := hI3; clear hI3))
      go_roundw
      case rel => exact ⟨at_ + K, done ++ [ps], rs, by go_num, by rw [hrec]; simp, HI.out.2, HI3.out⟩
      case measure => simp [intOf]; omega

end Go.Proofs.YtlcojcldbdikgaaGreatDoor

/-
  Mount of package wal.
-/
namespace Go.Proofs.YtlcojcldbdikgaaGreatDoor
open Go.RowKit Go.Maps Go.Sort Go.Shelf

/-- The steps of Mount. -/
def mntSteps (v : Nat) : List (Nat × Value) := [(48, dp v), (53, dp v), (54, dp v), (55, dp v), (56, dp v)]
theorem mnt_enters (v : Nat) : ∀ x ∈ mntSteps v, ∀ args w, (callFunc x.1 args).run Tryz.prog w = .ok (.enter x.1 args) w := by
  intro x hx
  simp only [mntSteps, List.mem_cons, List.not_mem_nil, or_false] at hx
  rcases hx with rfl | rfl | rfl | rfl | rfl
  · exact enters_of Tryz.func48 (by kernel_rfl) rfl
  · exact enters_of Tryz.func53 (by kernel_rfl) rfl
  · exact enters_of Tryz.func54 (by kernel_rfl) rfl
  · exact enters_of Tryz.func55 (by kernel_rfl) rfl
  · exact enters_of Tryz.func56 (by kernel_rfl) rfl

set_option maxRecDepth 8000 in
set_option maxHeartbeats 1000000 in
/-- Mount is its steps; then the count is taken. -/
theorem mount_steps (dv : Value) (p : Option Addr) (hdv : dv = .pointer p) (w : World) (Q : Int → World → Prop) (R : Ending → World → Prop)
    (hr : Runs Tryz.prog (w.heap.size + 1) (mntSteps w.heap.size) ((w.alloc (.cells (volCells dv 0 0 0 none 0) 85)).alloc (.cells ((mntSteps w.heap.size).map stepV).toArray 42)) Q)
    (hno : ∀ z w', z ≠ 0 → Q z w' → R (.returned (.tuple #[.pointer none, .int .i64 z])) w')
    (hyes : ∀ w', Q 0 w' → ∃ (count old : Int), Calls Tryz.prog 57 #[dv] w' (fun e w'' => e = .returned (.int .i64 count) ∧ w'' = w') ∧ w'.cell? ⟨w.heap.size, 5, none⟩ = some (.int .i64 old) ∧ w'.frozen? ⟨w.heap.size, 5, none⟩ = false ∧ R (.returned (.tuple #[dp w.heap.size, .int .i64 0])) (w'.setCell ⟨w.heap.size, 5, none⟩ (.int .i64 count))) :
    Calls Tryz.prog 26 #[dv] w R := by
  have hc := inOrder_any (w.heap.size + 1) (mntSteps w.heap.size) 5 _ Q (mnt_enters _) (by simp [mntSteps]) (by
    have := heap_alloc_new (w.alloc (.cells (volCells dv 0 0 0 none 0) 85)) (.cells ((mntSteps w.heap.size).map stepV).toArray 42)
    rw [World.size_alloc] at this
    exact this) hr
  have hl : (mntSteps w.heap.size).length = 5 := rfl
  have hcell : ((mntSteps w.heap.size).map stepV).toArray = #[.func (.func 48) #[dp w.heap.size] #[], .func (.func 53) #[dp w.heap.size] #[], .func (.func 54) #[dp w.heap.size] #[], .func (.func 55) #[dp w.heap.size] #[], .func (.func 56) #[dp w.heap.size] #[]] := rfl
  rw [hl, hcell] at hc
  have HNO : Hid (∀ z w', z ≠ 0 → Q z w' → R (.returned (.tuple #[.pointer none, .int .i64 z])) w') := hno
  have HYES : Hid (∀ w', Q 0 w' → ∃ (count old : Int), Calls Tryz.prog 57 #[dv] w' (fun e w'' => e = .returned (.int .i64 count) ∧ w'' = w') ∧ w'.cell? ⟨w.heap.size, 5, none⟩ = some (.int .i64 old) ∧ w'.frozen? ⟨w.heap.size, 5, none⟩ = false ∧ R (.returned (.tuple #[dp w.heap.size, .int .i64 0])) (w'.setCell ⟨w.heap.size, 5, none⟩ (.int .i64 count))) := hyes
  clear hr hl hcell hno hyes
  subst hdv
  have hmf := mkf
  go_enter Tryz.func26, Tryz.ntmps26
  go_wp2_with (go_at_call 47; refine Stop.out ?_)
  refine Stop.mk ?_
  refine (show Calls Tryz.prog 47 _ _ _ from hc).mono ?_
  clear hc
  rintro e w1 ⟨z, rfl, hQ⟩
  by_cases hz : z = 0
  · subst hz
    obtain ⟨count, old, c23, x5, f5, hR⟩ := HYES.out w1 hQ
    have HR : Hid (R (.returned (.tuple #[dp w.heap.size, .int .i64 0])) (w1.setCell ⟨w.heap.size, 5, none⟩ (.int .i64 count))) := hR
    clear hQ hR
    go_wp2_with (go_at_call 57; refine Calls_on c23 ?_)
    exact HR.out
  · have hzb : (z != 0) = true := by simpa using hz
    have HR : Hid (R (.returned (.tuple #[.pointer none, .int .i64 z])) w1) := HNO.out z w1 hz hQ
    clear hQ
    go_wp2
    exact HR.out

theorem mount_nil (w : World) : Calls Tryz.prog 26 #[.pointer none] w fun e w' => e = .returned (.tuple #[.pointer none, .int .i64 22]) ∧ Below w.heap.size w w' := by
  refine mount_steps (.pointer none) none rfl w (fun z w' => z = 22 ∧ Below w.heap.size w w') _ ?_ (by rintro z w' _ ⟨rfl, hB⟩; exact ⟨rfl, hB⟩) (by rintro w' ⟨h, _⟩; cases h)
  refine (checkRoom_nil w.heap.size 0 0 0 none 0 _ (new_vol _ _ _ _ _ _ _ _)).mono ?_
  rintro e w' ⟨rfl, rfl⟩
  exact ⟨22, rfl, rfl, .inl ⟨by decide, rfl, ((Below.refl _ w).alloc (Nat.le_refl _) _).alloc (by simp) _⟩⟩

theorem mount_small (d : DS) (w : World) (hd : Dev w d) (hn : d.n < 16) : Calls Tryz.prog 26 #[dp d.a] w fun e w' => e = .returned (.tuple #[.pointer none, .int .i64 22]) ∧ Below w.heap.size w w' := by
  refine mount_steps (dp d.a) _ rfl w (fun z w' => z = 22 ∧ Below w.heap.size w w') _ ?_ (by rintro z w' _ ⟨rfl, hB⟩; exact ⟨rfl, hB⟩) (by rintro w' ⟨h, _⟩; cases h)
  refine (checkRoom_no w.heap.size 0 0 0 none 0 d _ (new_vol _ _ _ _ _ _ _ _) (hd.below (((Below.refl _ w).alloc (Nat.le_refl _) _).alloc (by simp) _)) hn).mono ?_
  rintro e w' ⟨rfl, rfl⟩
  exact ⟨22, rfl, rfl, .inl ⟨by decide, rfl, ((Below.refl _ w).alloc (Nat.le_refl _) _).alloc (by simp) _⟩⟩

/-- A volume that is mounted. -/
structure Mounted (w W : World) (v : Nat) (d : DS) (commits turn f : Nat) (recs : List Rec) : Prop where
  vol : IsVol W v (dp d.a) commits turn d.n (some f) d.count
  fr : ∃ F, Fresh W f recs.flatten.length F (laidOn (fun _ => none) recs.flatten)
  below : Below w.heap.size w W
  flt : w.heap.size ≤ f
  vlt : w.heap.size ≤ v

theorem mount_none (d : DS) (w : World) (hd : Dev w d) (ht : Tab w) (hn : 16 ≤ d.n) (hdd : d.dead = false) (ho : opened (d.B 0) = none) : Calls Tryz.prog 26 #[dp d.a] w fun e w' => e = .returned (.tuple #[.pointer none, .int .i64 74]) ∧ Below w.heap.size w w' := by
  refine mount_steps (dp d.a) _ rfl w (fun z w' => z = 74 ∧ Below w.heap.size w w') _ ?_ (by rintro z w' _ ⟨rfl, hB⟩; exact ⟨rfl, hB⟩) (by rintro w' ⟨h, _⟩; cases h)
  obtain ⟨w0, hw0⟩ : ∃ w0, w0 = (w.alloc (.cells (volCells (dp d.a) 0 0 0 none 0) 85)).alloc (.cells ((mntSteps w.heap.size).map stepV).toArray 42) := ⟨_, rfl⟩
  have hB0 : Below w.heap.size w w0 := by rw [hw0]; exact ((Below.refl _ w).alloc (Nat.le_refl _) _).alloc (by simp) _
  have hv0 : IsVol w0 w.heap.size (dp d.a) 0 0 0 none 0 := by rw [hw0]; exact new_vol _ _ _ _ _ _ _ _
  obtain ⟨cs, hg0⟩ : ∃ cs, w0.heap[w.heap.size + 1]? = some (.cells cs 42 (0, 0)) := ⟨_, by
    rw [hw0]
    have := heap_alloc_new (w.alloc (.cells (volCells (dp d.a) 0 0 0 none 0) 85)) (.cells ((mntSteps w.heap.size).map stepV).toArray 42)
    rw [World.size_alloc] at this
    exact this⟩
  rw [← hw0]
  clear hw0
  have hd0 := hd.below hB0
  refine (checkRoom_yes w.heap.size 0 0 0 none 0 d w0 hv0 hd0 hn).mono ?_
  rintro e w1 ⟨rfl, rfl⟩
  refine ⟨0, rfl, rfl, .inr ⟨rfl, ?_⟩⟩
  refine (checkLife w.heap.size 0 0 0 none 0 d w1 hv0 hd0).mono ?_
  rintro e w2 ⟨rfl, rfl⟩
  rw [hdd]
  refine ⟨0, rfl, rfl, .inr ⟨rfl, ?_⟩⟩
  refine (readHead_none w.heap.size 0 0 0 none 0 d w2 hv0 hd0 (below_tab hB0 ht.lt ht) ho).mono ?_
  rintro e w3 ⟨rfl, hB3⟩
  exact ⟨74, rfl, below_block hg0 hB3 ▸ hg0.symm, .inl ⟨by decide, rfl, hB0.trans (hB3.mono hB0.size)⟩⟩

theorem mount_ok (recs : List Rec) (t c : Nat) (d : DS) (w : World) (hd : Dev w d) (ht : Tab w) (hn : 16 ≤ d.n) (hdd : d.dead = false) (hD : d.D = .map []) (hb0 : d.B 0 = headB t c d.n) (hc : c < 4000000000000000000) (htu : t < 4611686018427387904)
    (hlog : LogIs d.B d.n (nbOf d.n) t (1 + nbOf d.n) recs) :
    Calls Tryz.prog 26 #[dp d.a] w fun e w' => ∃ v f, e = .returned (.tuple #[dp v, .int .i64 0]) ∧ Mounted w w' v d (c + recs.length) t f recs := by
  refine mount_steps (dp d.a) _ rfl w (fun z w' => z = 0 ∧ Below w.heap.size w w' ∧ ∃ f F, w.heap.size ≤ f ∧ IsVol w' w.heap.size (dp d.a) (c + recs.length) t d.n (some f) 0 ∧ Fresh w' f recs.flatten.length F (laidOn (fun _ => none) recs.flatten)) _ ?_ (by rintro z w' hz ⟨rfl, _⟩; exact absurd rfl hz) ?_
  · obtain ⟨w0, hw0⟩ : ∃ w0, w0 = (w.alloc (.cells (volCells (dp d.a) 0 0 0 none 0) 85)).alloc (.cells ((mntSteps w.heap.size).map stepV).toArray 42) := ⟨_, rfl⟩
    have hB0 : Below w.heap.size w w0 := by rw [hw0]; exact ((Below.refl _ w).alloc (Nat.le_refl _) _).alloc (by simp) _
    have hv0 : IsVol w0 w.heap.size (dp d.a) 0 0 0 none 0 := by rw [hw0]; exact new_vol _ _ _ _ _ _ _ _
    obtain ⟨cs, hg0⟩ : ∃ cs, w0.heap[w.heap.size + 1]? = some (.cells cs 42 (0, 0)) := ⟨_, by
      rw [hw0]
      have := heap_alloc_new (w.alloc (.cells (volCells (dp d.a) 0 0 0 none 0) 85)) (.cells ((mntSteps w.heap.size).map stepV).toArray 42)
      rw [World.size_alloc] at this
      exact this⟩
    rw [← hw0]
    clear hw0
    have hd0 := hd.below hB0
    have ht0 := below_tab hB0 ht.lt ht
    have keepG : ∀ {A B : World}, A.heap[w.heap.size + 1]? = some (.cells cs 42 (0, 0)) → But (fun k => k = w.heap.size) A B → B.heap[w.heap.size + 1]? = A.heap[w.heap.size + 1]? := fun {A B} hA hb => hb.block _ (Array.getElem?_eq_some_iff.1 hA).1 (by omega)
    refine (checkRoom_yes w.heap.size 0 0 0 none 0 d w0 hv0 hd0 hn).mono ?_
    rintro e w1 ⟨rfl, rfl⟩
    refine ⟨0, rfl, rfl, .inr ⟨rfl, ?_⟩⟩
    refine (checkLife w.heap.size 0 0 0 none 0 d w1 hv0 hd0).mono ?_
    rintro e w2 ⟨rfl, rfl⟩
    rw [hdd]
    refine ⟨0, rfl, rfl, .inr ⟨rfl, ?_⟩⟩
    refine (readHead_ok w.heap.size 0 0 0 none 0 t c d w2 hv0 hd0 ht0 hb0 (by omega) htu).mono ?_
    rintro e w3 ⟨rfl, hv3, hb3⟩
    have k3 := keepG hg0 hb3
    refine ⟨0, rfl, k3, .inr ⟨rfl, ?_⟩⟩
    have hd3 := hd0.butV hv0 hb3
    have ht3 := hb3.tab ht0 (hv0.noTab ht0)
    refine (readLog_any recs w.heap.size c t 0 none 0 d w3 hv3 hd3 ht3 hn htu hc hlog).mono ?_
    rintro e w4 ⟨f, rfl, hL⟩
    have k4 := keepG (k3.trans hg0) hL.but
    refine ⟨0, rfl, k4, .inr ⟨rfl, ?_⟩⟩
    have hd4 := hd3.butV hv3 hL.but
    refine (settle_none w.heap.size (c + recs.length) t d.n (some f) 0 d w4 hL.vol hd4 hD).mono ?_
    rintro e w5 ⟨rfl, hB5⟩
    have g4 := k4.trans (k3.trans hg0)
    refine ⟨0, rfl, below_block g4 hB5 ▸ g4.symm, .inr ⟨rfl, rfl, ?_, ?_⟩⟩
    · have hbb : Below w.heap.size w w4 := by
        have h1 : RowKit.Below w.heap.size _ w3 := hb3.below hB0.size (fun k hk => by omega)
        have h2 : Below w.heap.size w3 w4 := hL.but.below (Nat.le_trans hB0.size hb3.size) (fun k hk => by omega)
        exact (hB0.trans h1).trans h2
      exact hbb.trans (hB5.mono hbb.size)
    · obtain ⟨F, hF⟩ := hL.fr
      exact ⟨f, F, Nat.le_trans (Nat.le_trans hB0.size hb3.size) hL.flt, hL.vol.below hB5, hF.below hB5⟩
  · rintro w' ⟨_, hB, f, F, hf, hv, hF⟩
    have hd' := hd.below hB
    refine ⟨d.count, 0, dev_count d w' hd', by have := cellOf hv 5; simpa [volCells] using this, frozenOf hv 5, w.heap.size, f, rfl, ⟨hv.setK d.count, ⟨F, hF.but (S := fun k => k = w.heap.size) ((But.refl (fun k => k = w.heap.size) w').setCell ⟨w.heap.size, 5, none⟩ rfl _) (fun e => ?_) (fun k cs fr hk e => ?_)⟩, hB.setCell (p := ⟨w.heap.size, 5, none⟩) (Nat.le_refl _) _, hf, Nat.le_refl _⟩⟩
    · exact hF.noCell w.heap.size 1 _ (cellOf hv 1) e.symm
    · subst e; have := hv; rw [IsVol, hk] at this; simp at this

end Go.Proofs.YtlcojcldbdikgaaGreatDoor

/-
  appendNumber of package wal, once more: which blocks it turns.
-/
namespace Go.Proofs.YtlcojcldbdikgaaGreatDoor
open Go.RowKit Go.Maps

/-- Of the old blocks just the row's own may be turned; the row is the old one, or a new one. -/
def Mine (v v' : Value) (w w' : World) : Prop := But (fun k => some k = v.ownBlock) w w' ∧ (v'.ownBlock = v.ownBlock ∨ ∃ k, w.heap.size ≤ k ∧ v'.ownBlock = some k)
theorem Mine.refl (v : Value) (w : World) : Mine v v w w := ⟨But.refl _ _, .inl rfl⟩
theorem Mine.grow {v v' v'' : Value} {w W W' : World} (h : Mine v v' w W) (hg : W.grownBy W' v'.ownBlock) (ho : v''.ownBlock = v'.ownBlock ∨ ∃ k, W.heap.size ≤ k ∧ v''.ownBlock = some k) : Mine v v'' w W' := by
  refine ⟨⟨hg.os.trans h.1.os, hg.tape.trans h.1.tape, hg.output.trans h.1.output, Nat.le_trans h.1.size hg.size, fun k hk hn => (hg.block k (Nat.lt_of_lt_of_le hk h.1.size) (fun e => ?_)).trans (h.1.block k hk hn)⟩, ?_⟩
  · rcases h.2 with e' | ⟨j, hj, e'⟩
    · exact hn (e.trans e')
    · rw [e'] at e; cases e; omega
  · rcases ho with e | ⟨j, hj, e⟩
    · rw [e]; exact h.2
    · exact .inr ⟨j, Nat.le_trans h.1.size hj, e⟩
theorem Mine.alloc {v v' : Value} {w W : World} (h : Mine v v' w W) (o : Obj) : Mine v v' w (W.alloc o) := ⟨h.1.alloc o, h.2⟩
theorem Mine.step {v v' v'' : Value} {w W W' : World} (h : Mine v v' w W) (o : Obj) (hg : (W.alloc o).grownBy W' v'.ownBlock) (ho : v''.ownBlock = v'.ownBlock ∨ v''.ownBlock = some (W.alloc o).heap.size) : Mine v v'' w W' :=
  (h.alloc o).grow hg (ho.imp id fun e => ⟨_, Nat.le_refl _, e⟩)

set_option maxRecDepth 8000 in
set_option maxHeartbeats 2000000 in
theorem appendNumber_own (v : Value) (k : Nat) (bs : By) (n : Nat) (base : Nat) (w : World) (hown : w.ownsRow base 5 1 v k (bs.map u8v)) (hk : k ≤ 1073741824) (hn : n < 4611686018427387904) (hbase : base ≤ w.heap.size) :
    Calls Tryz.prog 104 #[v, .int .i64 n] w fun e w' => ∃ v', e = .returned v' ∧ w'.ownsRow base 5 1 v' (k + 8) ((bs ++ le8 n).map u8v) ∧ Below base w w' ∧ Mine v v' w w' := by
  have HO : Hid (w.ownsRow base 5 1 v k (bs.map u8v)) := hown
  clear hown
  go_enter Tryz.func104, Tryz.ntmps104
  go_wp2_with fail
  go_loopw [0, 6] (fun vv ii wr => ∃ i : Nat, i ≤ 8 ∧ ii = .int .i64 i ∧ Hid (wr.ownsRow base 5 1 vv (k + i) ((bs ++ (le8 n).take i).map u8v) ∧ Below base w wr ∧ Mine v vv w wr)) (fun _ ii _ => 8 - (intOf ii).toNat)
  case atStart => exact ⟨0, Nat.zero_le _, rfl, by simpa using HO.out, Below.refl _ _, Mine.refl _ _⟩
  case round =>
    obtain ⟨i, hi, rfl, HJ⟩ := hrel
    obtain ⟨p0, l0, c0, hv⟩ : ∃ p l c, u0 = Value.slice p l c := by
      rcases HJ.out.1.2 with ⟨e, _⟩ | ⟨g, cap, cur, e, _⟩ <;> exact ⟨_, _, _, e⟩
    subst hv
    have hj : i = 0 ∨ i = 1 ∨ i = 2 ∨ i = 3 ∨ i = 4 ∨ i = 5 ∨ i = 6 ∨ i = 7 ∨ i = 8 := by omega
    rcases hj with rfl | rfl | rfl | rfl | rfl | rfl | rfl | rfl | rfl
    · have HZ : Hid (Value.int .u8 ((n : Int) % 256) = u8v (BitVec.ofNat 8 (n / 256 ^ 0))) := u8_of n _ _ (by simp)
      have HST : Hid (_ = _) := le8_step n 0 (by omega) _ rfl
      go_wp2_with (at_builtin; refine wpList_append_bytes rfl _ _ rfl base _ (k + 0) _ rfl (HJ.out.1.alloc _) _ [BitVec.ofNat 8 (n / 256 ^ 0)] 1 rfl (bytes_new _ _ _ _ HZ.out) (by simp; omega) (by have := HJ.out.2.1.size; simp; omega) ?_; intro v' w1 hown1 hg1 hob1)
      refine ⟨⟨1, by omega, rfl, ?_, ?_, HJ.out.2.2.step _ hg1 hob1⟩, by simp [intOf]⟩
      · rw [HST.out, ← List.append_assoc, List.map_append]; exact hown1
      · exact (HJ.out.2.1.alloc (by have := HJ.out.2.1.size; omega) _).grown hg1 (by have := HJ.out.2.1.size; simp; omega) (owns_block HJ.out.1)
    · have HZ : Hid (Value.int .u8 ((n : Int) / 256 % 256) = u8v (BitVec.ofNat 8 (n / 256 ^ 1))) := u8_of n _ _ (by simp)
      have HST : Hid (_ = _) := le8_step n 1 (by omega) _ rfl
      go_wp2_with (at_builtin; refine wpList_append_bytes rfl _ _ rfl base _ (k + 1) _ rfl (HJ.out.1.alloc _) _ [BitVec.ofNat 8 (n / 256 ^ 1)] 1 rfl (bytes_new _ _ _ _ HZ.out) (by simp; omega) (by have := HJ.out.2.1.size; simp; omega) ?_; intro v' w1 hown1 hg1 hob1)
      refine ⟨⟨2, by omega, rfl, ?_, ?_, HJ.out.2.2.step _ hg1 hob1⟩, by simp [intOf]⟩
      · rw [HST.out, ← List.append_assoc, List.map_append]; exact hown1
      · exact (HJ.out.2.1.alloc (by have := HJ.out.2.1.size; omega) _).grown hg1 (by have := HJ.out.2.1.size; simp; omega) (owns_block HJ.out.1)
    · have HZ : Hid (Value.int .u8 ((n : Int) / 65536 % 256) = u8v (BitVec.ofNat 8 (n / 256 ^ 2))) := u8_of n _ _ (by simp)
      have HST : Hid (_ = _) := le8_step n 2 (by omega) _ rfl
      go_wp2_with (at_builtin; refine wpList_append_bytes rfl _ _ rfl base _ (k + 2) _ rfl (HJ.out.1.alloc _) _ [BitVec.ofNat 8 (n / 256 ^ 2)] 1 rfl (bytes_new _ _ _ _ HZ.out) (by simp; omega) (by have := HJ.out.2.1.size; simp; omega) ?_; intro v' w1 hown1 hg1 hob1)
      refine ⟨⟨3, by omega, rfl, ?_, ?_, HJ.out.2.2.step _ hg1 hob1⟩, by simp [intOf]⟩
      · rw [HST.out, ← List.append_assoc, List.map_append]; exact hown1
      · exact (HJ.out.2.1.alloc (by have := HJ.out.2.1.size; omega) _).grown hg1 (by have := HJ.out.2.1.size; simp; omega) (owns_block HJ.out.1)
    · have HZ : Hid (Value.int .u8 ((n : Int) / 16777216 % 256) = u8v (BitVec.ofNat 8 (n / 256 ^ 3))) := u8_of n _ _ (by simp)
      have HST : Hid (_ = _) := le8_step n 3 (by omega) _ rfl
      go_wp2_with (at_builtin; refine wpList_append_bytes rfl _ _ rfl base _ (k + 3) _ rfl (HJ.out.1.alloc _) _ [BitVec.ofNat 8 (n / 256 ^ 3)] 1 rfl (bytes_new _ _ _ _ HZ.out) (by simp; omega) (by have := HJ.out.2.1.size; simp; omega) ?_; intro v' w1 hown1 hg1 hob1)
      refine ⟨⟨4, by omega, rfl, ?_, ?_, HJ.out.2.2.step _ hg1 hob1⟩, by simp [intOf]⟩
      · rw [HST.out, ← List.append_assoc, List.map_append]; exact hown1
      · exact (HJ.out.2.1.alloc (by have := HJ.out.2.1.size; omega) _).grown hg1 (by have := HJ.out.2.1.size; simp; omega) (owns_block HJ.out.1)
    · have HZ : Hid (Value.int .u8 ((n : Int) / 4294967296 % 256) = u8v (BitVec.ofNat 8 (n / 256 ^ 4))) := u8_of n _ _ (by simp)
      have HST : Hid (_ = _) := le8_step n 4 (by omega) _ rfl
      go_wp2_with (at_builtin; refine wpList_append_bytes rfl _ _ rfl base _ (k + 4) _ rfl (HJ.out.1.alloc _) _ [BitVec.ofNat 8 (n / 256 ^ 4)] 1 rfl (bytes_new _ _ _ _ HZ.out) (by simp; omega) (by have := HJ.out.2.1.size; simp; omega) ?_; intro v' w1 hown1 hg1 hob1)
      refine ⟨⟨5, by omega, rfl, ?_, ?_, HJ.out.2.2.step _ hg1 hob1⟩, by simp [intOf]⟩
      · rw [HST.out, ← List.append_assoc, List.map_append]; exact hown1
      · exact (HJ.out.2.1.alloc (by have := HJ.out.2.1.size; omega) _).grown hg1 (by have := HJ.out.2.1.size; simp; omega) (owns_block HJ.out.1)
    · have HZ : Hid (Value.int .u8 ((n : Int) / 1099511627776 % 256) = u8v (BitVec.ofNat 8 (n / 256 ^ 5))) := u8_of n _ _ (by simp)
      have HST : Hid (_ = _) := le8_step n 5 (by omega) _ rfl
      go_wp2_with (at_builtin; refine wpList_append_bytes rfl _ _ rfl base _ (k + 5) _ rfl (HJ.out.1.alloc _) _ [BitVec.ofNat 8 (n / 256 ^ 5)] 1 rfl (bytes_new _ _ _ _ HZ.out) (by simp; omega) (by have := HJ.out.2.1.size; simp; omega) ?_; intro v' w1 hown1 hg1 hob1)
      refine ⟨⟨6, by omega, rfl, ?_, ?_, HJ.out.2.2.step _ hg1 hob1⟩, by simp [intOf]⟩
      · rw [HST.out, ← List.append_assoc, List.map_append]; exact hown1
      · exact (HJ.out.2.1.alloc (by have := HJ.out.2.1.size; omega) _).grown hg1 (by have := HJ.out.2.1.size; simp; omega) (owns_block HJ.out.1)
    · have HZ : Hid (Value.int .u8 ((n : Int) / 281474976710656 % 256) = u8v (BitVec.ofNat 8 (n / 256 ^ 6))) := u8_of n _ _ (by simp)
      have HST : Hid (_ = _) := le8_step n 6 (by omega) _ rfl
      go_wp2_with (at_builtin; refine wpList_append_bytes rfl _ _ rfl base _ (k + 6) _ rfl (HJ.out.1.alloc _) _ [BitVec.ofNat 8 (n / 256 ^ 6)] 1 rfl (bytes_new _ _ _ _ HZ.out) (by simp; omega) (by have := HJ.out.2.1.size; simp; omega) ?_; intro v' w1 hown1 hg1 hob1)
      refine ⟨⟨7, by omega, rfl, ?_, ?_, HJ.out.2.2.step _ hg1 hob1⟩, by simp [intOf]⟩
      · rw [HST.out, ← List.append_assoc, List.map_append]; exact hown1
      · exact (HJ.out.2.1.alloc (by have := HJ.out.2.1.size; omega) _).grown hg1 (by have := HJ.out.2.1.size; simp; omega) (owns_block HJ.out.1)
    · have HZ : Hid (Value.int .u8 ((n : Int) / 72057594037927936) = u8v (BitVec.ofNat 8 (n / 256 ^ 7))) := u8_of n _ _ (by simp; omega)
      have HST : Hid (_ = _) := le8_step n 7 (by omega) _ rfl
      go_wp2_with (at_builtin; refine wpList_append_bytes rfl _ _ rfl base _ (k + 7) _ rfl (HJ.out.1.alloc _) _ [BitVec.ofNat 8 (n / 256 ^ 7)] 1 rfl (bytes_new _ _ _ _ HZ.out) (by simp; omega) (by have := HJ.out.2.1.size; simp; omega) ?_; intro v' w1 hown1 hg1 hob1)
      refine ⟨⟨8, by omega, rfl, ?_, ?_, HJ.out.2.2.step _ hg1 hob1⟩, by simp [intOf]⟩
      · rw [HST.out, ← List.append_assoc, List.map_append]; exact hown1
      · exact (HJ.out.2.1.alloc (by have := HJ.out.2.1.size; omega) _).grown hg1 (by have := HJ.out.2.1.size; simp; omega) (owns_block HJ.out.1)
    · go_wp2
      go_ret
      have h8 : (le8 n).take 8 = le8 n := List.take_of_length_le (by rw [le8_length]; omega)
      have := HJ.out
      rw [h8] at this
      exact ⟨_, rfl, this.1, this.2.1, this.2.2⟩

end Go.Proofs.YtlcojcldbdikgaaGreatDoor

/-
  recordOf of package wal.
-/
namespace Go.Proofs.YtlcojcldbdikgaaGreatDoor
open Go.RowKit Go.Maps Go.Sort Go.Shelf

/-- A record as far as i of its puts are written. -/
def recUpto (pm : List PutM) (i : Nat) : By := le8 pm.length ++ ((recOf (pm.take i)).map fun p => le8 p.1 ++ p.2).flatten
theorem recUpto_all (pm : List PutM) : recUpto pm pm.length = recBytes (recOf pm) := by
  unfold recUpto recBytes
  rw [List.take_length]
  simp [recOf]
theorem recUpto_step (pm : List PutM) (i : Nat) (x : PutM) (hx : pm[i]? = some x) : recUpto pm (i + 1) = recUpto pm i ++ le8 x.block.toNat ++ x.bytes := by
  unfold recUpto recOf
  rw [List.take_add_one, hx]
  simp
theorem recUpto_length (pm : List PutM) (i : Nat) (hi : i ≤ pm.length) (h : ∀ (j : Nat) (x : PutM), pm[j]? = some x → x.bytes.length = 512) : (recUpto pm i).length = 8 + i * 520 := by
  induction i with
  | zero => simp [recUpto, recOf, le8_length]
  | succ i ih =>
    obtain ⟨x, hx⟩ : ∃ x, pm[i]? = some x := ⟨_, List.getElem?_eq_getElem (by omega)⟩
    rw [recUpto_step pm i x hx, List.length_append, List.length_append, le8_length, ih (by omega), h i x hx]
    omega

/-- A block of another type than the row's is kept. -/
theorem Mine.keep {v v' : Value} {w w' : World} {base n : Nat} {xs : List Value} (h : Mine v v' w w') (hown : w.ownsRow base 5 1 v n xs) {b : Nat} {cs : Array Value} {t : TypeId} {fr : Nat × Nat} (hb : w.heap[b]? = some (.cells cs t fr)) (ht : t ≠ 5) : w'.heap[b]? = some (.cells cs t fr) := by
  refine (h.1.block b (Array.getElem?_eq_some_iff.1 hb).1 (fun e => ?_)).trans hb
  rcases hown.2 with ⟨rfl, _⟩ | ⟨g, cap, cur, rfl, _, hg, _⟩
  · cases e
  · simp [Value.ownBlock] at e
    subst e
    rw [hb] at hg
    simp at hg
    exact ht hg.2.1

set_option maxRecDepth 8000 in
set_option maxHeartbeats 2000000 in
theorem recordOf_any (q : Option Addr) (pm : List PutM) (c nb : Nat) (w : World) (hps : PutsAt w q pm) (hg : pm.all (goodPut nb) = true) (hnb : nb ≤ 1000000) (hl1 : pm.length ≤ nb) :
    Calls Tryz.prog 103 #[.slice q pm.length c] w fun e w' => ∃ g cap, e = .returned (.slice (some ⟨g, 0, none⟩) (8 + pm.length * 520) cap) ∧ 8 + pm.length * 520 ≤ cap ∧ Bytes w' (some ⟨g, 0, none⟩) (recBytes (recOf pm)) ∧ Below w.heap.size w w' ∧ w.heap.size ≤ g := by
  obtain ⟨i0, hi0, hz0, hz1, hz2⟩ := info_parts Tryz.info5
  have hgood : ∀ (j : Nat) (x : PutM), pm[j]? = some x → 0 ≤ x.block ∧ x.block < nb ∧ x.bytes.length = 512 := by
    intro j x hj
    have := (List.all_eq_true.1 hg) x (List.mem_of_getElem? hj)
    unfold goodPut at this
    simp at this
    exact ⟨this.1.1, this.1.2, this.2⟩
  have HG : Hid (∀ (j : Nat) (x : PutM), pm[j]? = some x → 0 ≤ x.block ∧ x.block < nb ∧ x.bytes.length = 512) := hgood
  have HP : Hid (PutsAt w q pm) := hps
  have c54 : ∀ W : World, W.ownsRow w.heap.size 5 1 (.slice (some ⟨w.heap.size, 0, none⟩) 0 (8 + pm.length * 520)) 0 [] → Below w.heap.size w W → Calls Tryz.prog 104 #[.slice (some ⟨w.heap.size, 0, none⟩) 0 (8 + pm.length * 520), .int .i64 pm.length] W fun e w' => ∃ v', e = .returned v' ∧ w'.ownsRow w.heap.size 5 1 v' 8 ((recUpto pm 0).map u8v) ∧ Below w.heap.size w w' := by
    intro W hW hB
    refine (appendNumber_any _ 0 [] pm.length w.heap.size W hW (by omega) (by omega) hB.size).mono ?_
    rintro e w' ⟨v', rfl, h1, h2⟩
    refine ⟨v', rfl, ?_, hB.trans h2⟩
    simpa [recUpto, recOf] using h1
  clear hps hg hgood
  go_enter Tryz.func103, Tryz.ntmps103
  go_wp2_with (first
    | (at_make; refine wpList_make_own _ rfl _ _ 33 rfl w.heap.size 5 i0 (.int .u8 0) 1 Tryz.underlying33 hi0 hz0 hz1 .i64 .i64 _ (8 + pm.length * 520) rfl rfl (by go_num) (by rw [hz2]; omega) (by unfold maxLen; omega) (Nat.le_refl _) ?_; intro w1 hrow1 hg1; have c54' := c54 w1 hrow1 ((Below.refl _ w).grown hg1 (Nat.le_refl _) (by simp)); clear hrow1 hg1 c54)
    | (go_at_call 104; refine c54'.mono ?_; rintro e w2 ⟨v2, rfl, hr2, hB2⟩; clear c54'; have HJ2 : Hid (w2.ownsRow w.heap.size 5 1 v2 8 ((recUpto pm 0).map u8v) ∧ Below w.heap.size w w2) := ⟨hr2, hB2⟩; clear hr2 hB2))
  go_loopw [3, 17] (fun vv ii wr => ∃ i : Nat, ii = .int .i64 i ∧ i ≤ pm.length ∧ Hid (wr.ownsRow w.heap.size 5 1 vv (8 + i * 520) ((recUpto pm i).map u8v) ∧ Below w.heap.size w wr)) (fun _ ii _ => pm.length - (intOf ii).toNat)
  case atStart => exact ⟨0, rfl, Nat.zero_le _, HJ2.out.1, HJ2.out.2⟩
  case round =>
    obtain ⟨i, rfl, hi, HJ⟩ := hrel
    obtain ⟨p0, l0, c0, hv⟩ : ∃ p l c, u3 = Value.slice p l c := by
      rcases HJ.out.1.2 with ⟨e, _⟩ | ⟨g, cap, cur, e, _⟩ <;> exact ⟨_, _, _, e⟩
    subst hv
    by_cases hlt : i < pm.length
    · have hltI : (i : Int) < pm.length := by omega
      have hpi := HP.out.but (S := fun k => w.heap.size ≤ k) ⟨HJ.out.2.os, HJ.out.2.tape, HJ.out.2.output, HJ.out.2.size, fun k hk _ => HJ.out.2.block k hk⟩ (fun k cs t fr hk _ => by have := (Array.getElem?_eq_some_iff.1 hk).1; omega)
      obtain ⟨b, o, rfl, _, hx⟩ := hpi.1 (by omega)
      obtain ⟨x, hxi⟩ : ∃ x, pm[i]? = some x := ⟨_, List.getElem?_eq_getElem hlt⟩
      obtain ⟨hg0, hg1, hg2⟩ := HG.out i x hxi
      obtain ⟨y0, y1⟩ := hx i x hxi
      obtain ⟨bn, hbn⟩ : ∃ bn : Nat, x.block = (bn : Int) := ⟨x.block.toNat, by omega⟩
      rw [hbn] at y0
      rw [hg2] at y1
      obtain ⟨s, so, hs, hsx⟩ := (hpi.2 i x hxi).2.1 (by omega)
      rw [hs] at y1
      obtain ⟨w3, hw3⟩ : ∃ w3, w3 = wr.alloc (.cells #[.int .i64 (bn : Nat), .slice (some ⟨s, so, none⟩) 512 x.cap] 77) := ⟨_, rfl⟩
      have hB3 : Below wr.heap.size wr w3 := by rw [hw3]; exact (Below.refl _ wr).alloc (Nat.le_refl _) _
      have hb3 : w3.heap[wr.heap.size]? = some (.cells #[.int .i64 (bn : Nat), .slice (some ⟨s, so, none⟩) 512 x.cap] 77 (0, 0)) := by rw [hw3]; exact heap_alloc_new wr _
      have x0 := cellOf hb3 0
      have x1 := cellOf hb3 1
      simp at x0 x1
      have hown3 := own_below HJ.out.1 hB3
      have hBB : Below w.heap.size w w3 := HJ.out.2.trans (hB3.mono HJ.out.2.size)
      have c54 := appendNumber_own (.slice p0 l0 c0) (8 + i * 520) (recUpto pm i) bn w.heap.size w3 hown3 (by omega) (by omega) hBB.size
      have hslt : s < w.heap.size := by
        obtain ⟨s', so', e, hx'⟩ := (HP.out.2 i x hxi).2.1 (by omega)
        rw [hs] at e
        cases e
        obtain ⟨y, hy⟩ : ∃ y, x.bytes[0]? = some y := ⟨_, List.getElem?_eq_getElem (by omega)⟩
        exact cell_lt (hx' 0 y hy)
      have hsb : Bytes w (some ⟨s, so, none⟩) x.bytes := by rw [← hs]; exact (HP.out.2 i x hxi).2.1
      have HX : Hid (pm[i]? = some x ∧ x.block = (bn : Int) ∧ x.bytes.length = 512 ∧ Below w.heap.size w w3 ∧ w3.heap[wr.heap.size]? = some (.cells #[.int .i64 (bn : Nat), .slice (some ⟨s, so, none⟩) 512 x.cap] 77 (0, 0))) := ⟨hxi, hbn, hg2, hBB, hb3⟩
      have HSB : Hid (Bytes w (some ⟨s, so, none⟩) x.bytes) := hsb
      have hwr : w.heap.size ≤ wr.heap.size := HJ.out.2.size
      have h512 : x.bytes.length = 512 := hg2
      clear hx hxi hg0 hg1 hbn hs hsx hpi hBB hb3 hsb hg2 hB3
      have HOWN : Hid (w3.ownsRow w.heap.size 5 1 (.slice p0 l0 c0) (8 + i * 520) ((recUpto pm i).map u8v)) := hown3
      clear hown3
      go_wp2_with fail
      rw [← hw3]
      refine c54.mono ?_
      clear c54
      rintro e w4 ⟨v4, rfl, hr4, hB4, hM4⟩
      have hb4 := hM4.keep HOWN.out HX.out.2.2.2.2 (by decide)
      have x4 := cellOf hb4 1
      simp at x4
      have hBB4 : Below w.heap.size w w4 := HX.out.2.2.2.1.trans hB4
      obtain ⟨g4, cap4, rfl, _⟩ := hr4.form (by omega)
      have HR4 : Hid (w4.ownsRow w.heap.size 5 1 (.slice (some ⟨g4, 0, none⟩) (8 + i * 520 + 8) cap4) (8 + i * 520 + 8) ((recUpto pm i ++ le8 bn).map u8v) ∧ Below w.heap.size w w4 ∧ Bytes w4 (some ⟨s, so, none⟩) x.bytes) := ⟨hr4, hBB4, below_bytes hBB4 HSB.out⟩
      clear hr4 hB4 hM4 hb4 hBB4 hw3 x0 x1
      go_wp2_with (at_builtin; refine wpList_append_bytes rfl _ _ rfl w.heap.size _ (8 + i * 520 + 8) _ rfl HR4.out.1 (some ⟨s, so, none⟩) x.bytes x.cap (by rw [h512]; rfl) HR4.out.2.2 (by rw [h512]; omega) HR4.out.2.1.size ?_; intro v5 w5 hown5 hg5 _)
      rw [← List.map_append, h512] at hown5
      obtain ⟨g5, cap5, rfl, _⟩ := hown5.form (by omega)
      have HW5 : Hid (w5.ownsRow w.heap.size 5 1 (.slice (some ⟨g5, 0, none⟩) (8 + i * 520 + 8 + 512) cap5) (8 + i * 520 + 8 + 512) ((recUpto pm i ++ le8 bn ++ x.bytes).map u8v) ∧ Below w.heap.size w w5) := ⟨hown5, HR4.out.2.1.grown hg5 HR4.out.2.1.size (owns_block HR4.out.1)⟩
      clear hown5 hg5
      go_wp2
      go_roundw
      case rel =>
        refine ⟨i + 1, by go_num, by omega, ?_, HW5.out.2⟩
        have e1 : recUpto pm (i + 1) = recUpto pm i ++ le8 bn ++ x.bytes := by rw [recUpto_step pm i x HX.out.1, HX.out.2.1]; rfl
        have := HW5.out.1
        rw [← e1] at this
        rw [show 8 + (i + 1) * 520 = 8 + i * 520 + 8 + 512 by omega]
        exact this
      case measure => simp [intOf]; omega
    · obtain rfl : i = pm.length := by omega
      have hown := HJ.out.1
      rw [recUpto_all] at hown
      obtain ⟨g, cap, e, hg, hb⟩ := owns_bytes hown (by omega)
      have hcap : 8 + pm.length * 520 ≤ cap := by
        rcases hown.2 with ⟨e', _⟩ | ⟨g', cap', cur', e', _, _, hcap, _⟩
        · rw [e] at e'; cases e'
        · rw [e] at e'; cases e'; exact hcap
      have HZ : Hid (Bytes wr (some ⟨g, 0, none⟩) (recBytes (recOf pm)) ∧ Below w.heap.size w wr) := ⟨hb, HJ.out.2⟩
      clear hown hb
      rw [e]
      go_wp2
      go_ret
      exact ⟨g, _, rfl, hcap, HZ.out.1, HZ.out.2, hg⟩

end Go.Proofs.YtlcojcldbdikgaaGreatDoor

/-
  writeHomes of package wal, where the log holds no block.
-/
namespace Go.Proofs.YtlcojcldbdikgaaGreatDoor
open Go.RowKit Go.Maps Go.Sort Go.Shelf

set_option maxRecDepth 8000 in
set_option maxHeartbeats 2000000 in
theorem writeHomes_none (v : Nat) (commits turn next f nf : Nat) (count : Int) (d : DS) (w : World) (h : IsVol w v (dp d.a) commits turn next (some f) count) (hown : w.ownsMap Tryz.prog 3 slElem f nf (.map [])) :
    Calls Tryz.prog 119 #[dp v] w fun e w' => e = .returned (.int .i64 0) ∧ Below w.heap.size w w' := by
  refine (callsIn_wide (n := 6)).1 ?_
  have hbl := hown.lt
  have k4 := cellOf h 4
  simp [volCells] at k4
  have hseq : SeqGives Fence.wide 2 Tryz.prog 143 #[.pointer (some ⟨w.heap.size, 0, none⟩)] encZ (fun ss => ss.Perm (intKeys (.map [] : DataW Value))) (Maps.size (.map [] : DataW Value)) (w.alloc (.cells #[.map (some f)] 83)) :=
    AnyZI.keys_gives (ρ := Tryz.keysB_ren) { Tryz.keysB with } Fence.wide _ trivial rfl (by omega) w.heap.size f nf (.map []) _ (by simp) (by simp) (by
      obtain ⟨es, clock, hb, Ft, hs, hD⟩ := hown
      exact ⟨es, clock, (Below.heap_alloc _ _ f hbl).trans hb, Ft, hs, hD⟩)
  have cK : ∀ mb W, CallsIn Fence.wide 5 Tryz.prog 128 #[.map mb] W fun e w' => e = .returned (.func (.func 143) #[] #[.pointer (some ⟨W.heap.size, 0, none⟩)]) ∧ w' = W.alloc (.cells #[.map mb] 83) := fun mb W => AnyZI.keys_in Tryz.keysB Fence.wide 5 trivial rfl mb W
  have cS := AnyZI.sorted_in Tryz.sortedA Fence.wide 5 trivial trivial trivial trivial rfl (by omega) (sortsA _) (enters_of Tryz.func107 (by kernel_rfl) rfl) 143 #[.pointer (some ⟨w.heap.size, 0, none⟩)] trivial (enters_of Tryz.func143 (by kernel_rfl) rfl) _ _ (by show 0 ≤ maxLen; omega) (by show 0 * 8 ≤ _; omega) _ hseq
  change CallsIn _ _ Tryz.prog 71 _ _ _ at cS
  have cS' : CallsIn Fence.wide 5 Tryz.prog 71 #[.func (.func 143) #[] #[.pointer (some ⟨w.heap.size, 0, none⟩)]] (w.alloc (.cells #[.map (some f)] 83)) fun e w' => e = .returned (.slice none 0 0) ∧ Below w.heap.size w w' := by
    refine cS.mono ?_
    rintro e w' ⟨u, ss, rfl, hp, hrow, hnil, hb⟩
    have hss : ss = [] := by
      have h0 : intKeys (.map [] : DataW Value) = [] := by rfl
      rw [h0] at hp
      exact List.Perm.eq_nil hp
    refine ⟨by rw [hnil.2 hss], ((Below.refl _ w).alloc (Nat.le_refl _) _).trans (hb.mono (by simp))⟩
  have hfK : Fence.wide.fn 128 := trivial
  have hfS : Fence.wide.fn 71 := trivial
  clear hown h hseq cS
  refine callsIn_of_wp Tryz.func119 rfl trivial ?_ rfl
  simp only [Tryz.ntmps119, List.size_toArray, List.length_cons, List.length_nil, Nat.reduceAdd, Nat.reduceSub, Array.replicate_succ, Array.replicate_zero, List.push_toArray, List.append_toArray, List.nil_append, List.cons_append]
  gi_wp2_with (first
    | (gi_at_call 128; refine (cK _ _).mono ?_; rintro e w' ⟨rfl, rfl⟩)
    | (gi_at_call 71; refine cS'.mono ?_; rintro e w2 ⟨rfl, hB2⟩; clear cS'))
  gi_loopw [13] (fun ii wr => ii = .int .i64 0 ∧ wr = w2) (fun _ _ => 0)
  case atStart => exact ⟨rfl, rfl⟩
  case round =>
    obtain ⟨rfl, rfl⟩ := hrel
    gi_wp2
    go_ret
    exact ⟨rfl, hB2⟩

end Go.Proofs.YtlcojcldbdikgaaGreatDoor

/-
  restart of package wal: it is its steps.
-/
namespace Go.Proofs.YtlcojcldbdikgaaGreatDoor
open Go.RowKit Go.Maps Go.Sort Go.Shelf

/-- The steps of restart. -/
def rstSteps (a v n : Nat) : List (Nat × Value) := [(50, dp a), (119, dp v), (50, dp a), (52, dp n), (50, dp a)]
theorem rst_enters (a v n : Nat) : ∀ x ∈ rstSteps a v n, ∀ args w, (callFunc x.1 args).run Tryz.prog w = .ok (.enter x.1 args) w := by
  intro x hx
  simp only [rstSteps, List.mem_cons, List.not_mem_nil, or_false] at hx
  rcases hx with rfl | rfl | rfl | rfl | rfl
  · exact enters_of Tryz.func50 (by kernel_rfl) rfl
  · exact enters_of Tryz.func119 (by kernel_rfl) rfl
  · exact enters_of Tryz.func50 (by kernel_rfl) rfl
  · exact enters_of Tryz.func52 (by kernel_rfl) rfl
  · exact enters_of Tryz.func50 (by kernel_rfl) rfl

theorem IsVol.setD {w : World} {v : Nat} {d : Value} {commits turn next : Nat} {f : Option Nat} {count : Int} (h : IsVol w v d commits turn next f count) (x : Nat) : IsVol (w.setCell ⟨v, 0, none⟩ (dp x)) v (dp x) commits turn next f count := by
  unfold IsVol at *; simp [World.setCell, Array.getElem?_modify, h, volCells]

set_option maxRecDepth 8000 in
set_option maxHeartbeats 8000000 in
/-- restart where all its steps are done: the volume is what the new one is. -/
theorem restart_steps (v : Nat) (commits turn next f : Nat) (count : Int) (d : DS) (w : World) (h : IsVol w v (dp d.a) commits turn next (some f) count) (hd : Dev w d) (hn : 16 ≤ d.n) (htu : turn < 4000000000000000000)
    (Q : World → Prop)
    (hr : ∀ Wc : World, Below w.heap.size w Wc → Wc.heap[w.heap.size]? = some (.map #[] 0) → IsVol Wc (w.heap.size + 1) (dp d.a) commits (turn + 1) (1 + nbOf d.n) (some w.heap.size) 0 → (∃ cs, Wc.heap[w.heap.size + 2]? = some (.cells cs 42 (0, 0))) →
      Runs Tryz.prog (w.heap.size + 2) (rstSteps d.a v (w.heap.size + 1)) Wc (fun z W' => z = 0 ∧ Q W' ∧ IsVol W' (w.heap.size + 1) (dp d.a) commits (turn + 1) (1 + nbOf d.n) (some w.heap.size) 0 ∧ IsVol W' v (dp d.a) commits turn next (some f) count)) :
    Calls Tryz.prog 101 #[dp v] w fun e w' => e = .returned (.int .i64 0) ∧ ∃ W', Q W' ∧ IsVol w' v (dp d.a) commits (turn + 1) (1 + nbOf d.n) (some w.heap.size) 0 ∧ But (fun k => k = v) W' w' := by
  have hmm := @run_makeMap Tryz.prog
  have hmix : Tryz.prog.follows .mixedOrders = true := by kernel_rfl
  have hwr : IntKind.i64.wrap ((turn : Int) + 1) = (turn : Int) + 1 := by simp [IntKind.wrap, IntKind.bits, IntKind.signed]; omega
  have k0 := cellOf h 0
  have k1 := cellOf h 1
  have k2 := cellOf h 2
  simp [volCells] at k0 k1 k2
  obtain ⟨Wa, hWa⟩ : ∃ Wa, Wa = (w.alloc (.map #[] 0)).drew := ⟨_, rfl⟩
  have hBa : Below w.heap.size w Wa := by rw [hWa]; exact ((Below.refl _ w).alloc (Nat.le_refl _) _).drew
  have hsa : Wa.heap.size = w.heap.size + 1 := by rw [hWa]; show (w.alloc _).heap.size = _; simp
  have hma : Wa.heap[w.heap.size]? = some (.map #[] 0) := by rw [hWa]; exact (MapKept.heap_alloc w (.map #[] 0)).1
  have hva := h.below hBa
  have a0 := cellOf hva 0
  have a1 := cellOf hva 1
  have a2 := cellOf hva 2
  simp [volCells] at a0 a1 a2
  have cSt : ∀ W : World, W = w.drew → Calls Tryz.prog 83 #[dp v] W fun e w' => e = .returned (.int .i64 ((1 + nbOf d.n : Nat) : Int)) ∧ w' = W := by
    rintro W rfl
    exact vStart v commits turn next (some f) count d w.drew h hd.drew hn
  have cStA := vStart v commits turn next (some f) count d Wa hva (hd.below hBa) hn
  obtain ⟨Wb, hWb⟩ : ∃ Wb, Wb = Wa.alloc (.cells (volCells (dp d.a) commits (turn + 1) (1 + nbOf d.n) (some w.heap.size) 0) 85) := ⟨_, rfl⟩
  have hBb : Below w.heap.size w Wb := by rw [hWb]; exact hBa.alloc hBa.size _
  have hsb : Wb.heap.size = w.heap.size + 2 := by rw [hWb]; simp [hsa]
  have hmb : Wb.heap[w.heap.size]? = some (.map #[] 0) := by rw [hWb]; exact (Below.heap_alloc _ _ _ (by omega)).trans hma
  have hvb : IsVol Wb (w.heap.size + 1) (dp d.a) commits (turn + 1) (1 + nbOf d.n) (some w.heap.size) 0 := by rw [hWb, ← hsa]; exact heap_alloc_new Wa _
  have b0 := cellOf (h.below hBb) 0
  simp [volCells] at b0
  obtain ⟨Wc, hWc⟩ : ∃ Wc, Wc = (Wb.alloc (.cells ((rstSteps d.a v (w.heap.size + 1)).map stepV).toArray 42)).drew := ⟨_, rfl⟩
  have hBc : Below Wb.heap.size Wb Wc := by rw [hWc]; exact ((Below.refl _ Wb).alloc (Nat.le_refl _) _).drew
  have hgc : Wc.heap[w.heap.size + 2]? = some (.cells ((rstSteps d.a v (w.heap.size + 1)).map stepV).toArray 42 (0, 0)) := by rw [hWc, ← hsb]; exact heap_alloc_new Wb _
  have hIO := inOrder_any (w.heap.size + 2) (rstSteps d.a v (w.heap.size + 1)) 5 Wc _ (rst_enters _ _ _) (by simp [rstSteps]) hgc (hr Wc (hBb.trans (hBc.mono hBb.size)) (below_block hmb hBc) (hvb.below hBc) ⟨_, hgc⟩)
  have hlen : (rstSteps d.a v (w.heap.size + 1)).length = 5 := rfl
  rw [hlen] at hIO
  have hcs : ((rstSteps d.a v (w.heap.size + 1)).map stepV).toArray = #[.func (.func 50) #[dp d.a] #[], .func (.func 119) #[dp v] #[], .func (.func 50) #[dp d.a] #[], .func (.func 52) #[dp (w.heap.size + 1)] #[], .func (.func 50) #[dp d.a] #[]] := rfl
  rw [hcs] at hWc
  refine (callsIn_wide (n := 6)).1 ?_
  refine callsIn_of_wp Tryz.func101 rfl trivial ?_ rfl
  simp only [Tryz.ntmps101, List.size_toArray, List.length_cons, List.length_nil, Nat.reduceAdd, Nat.reduceSub, Array.replicate_succ, Array.replicate_zero, List.push_toArray, List.append_toArray, List.nil_append, List.cons_append]
  gi_wp2_with fail
  refine region_done hmix (by kernel_rfl) (fun b ac wd => ac = { tmps := #[dp v, undef, .int .i64 0, (if b 18 = true then .pointer (some ⟨w.heap.size + 1, 0, none⟩) else undef), undef, (if b 0 = true then dp v else undef), (if b 1 = true then dp v else undef), (if b 2 = true then .pointer (some ⟨v, 0, none⟩) else undef), (if b 3 = true then dp d.a else undef), (if b 4 = true then dp v else undef), (if b 5 = true then dp v else undef), (if b 6 = true then .pointer (some ⟨v, 1, none⟩) else undef), (if b 7 = true then .int .i64 commits else undef), (if b 8 = true then dp v else undef), (if b 9 = true then dp v else undef), (if b 10 = true then .pointer (some ⟨v, 2, none⟩) else undef), (if b 11 = true then .int .i64 turn else undef), (if b 12 = true then .int .i64 ((turn : Int) + 1) else undef), (if b 13 = true then dp v else undef), (if b 14 = true then .int .i64 ((1 + nbOf d.n : Nat) : Int) else undef), (if b 15 = true then .map (some w.heap.size) else undef), (if b 16 = true then .agg #[dp d.a, .int .i64 commits, .int .i64 ((turn : Int) + 1), .int .i64 ((1 + nbOf d.n : Nat) : Int), .map (some w.heap.size), .int .i64 0] else undef), (if b 17 = true then .pointer (some ⟨w.heap.size + 1, 0, none⟩) else undef), undef, undef, undef, undef, undef, undef, undef, undef, undef, undef, undef, undef, undef, undef, undef, undef, undef, undef, undef, undef, undef, undef, undef, undef, undef, undef, undef, undef, undef], defers := [] } ∧ wd = (if b 17 = true then Wb else if b 15 = true then Wa else w.drew)) ⟨rfl, rfl⟩ ?_ ?_
  · rintro b ac wd i op ⟨rfl, rfl⟩ hcl hop hbi hd
    have h163 : b 16 = true → b 3 = true := fun h => hcl 16 _ rfl h ⟨3, .data⟩ (by simp) rfl
    have h167 : b 16 = true → b 7 = true := fun h => hcl 16 _ rfl h ⟨7, .data⟩ (by simp) rfl
    have h1612 : b 16 = true → b 12 = true := fun h => hcl 16 _ rfl h ⟨12, .data⟩ (by simp) rfl
    have h1614 : b 16 = true → b 14 = true := fun h => hcl 16 _ rfl h ⟨14, .data⟩ (by simp) rfl
    have h1615 : b 16 = true → b 15 = true := fun h => hcl 16 _ rfl h ⟨15, .data⟩ (by simp) rfl
    have h1211 : b 12 = true → b 11 = true := fun h => hcl 12 _ rfl h ⟨11, .data⟩ (by simp) rfl
    have h1716 : b 17 = true → b 16 = true := fun h => hcl 17 _ rfl h ⟨16, .data⟩ (by simp) rfl
    match i with
    | 0 =>
      simp only [List.getElem?_toArray, List.getElem?_cons_zero, Option.some.injEq] at hop
      subst hop
      refine op_value_w rfl rfl (by intro c h; cases h) (v := dp v) (w' := if b 17 = true then Wb else if b 15 = true then Wa else w.drew) ?_ ?_
      · simp [execOp, go_sem]
      · exact ⟨by simp [Act.put, did], by simp [did]⟩
    | 1 =>
      simp only [List.getElem?_toArray, List.getElem?_cons_zero, List.getElem?_cons_succ, Option.some.injEq] at hop
      subst hop
      have p0 : b 0 = true := hd ⟨0, .data⟩ (by simp) rfl
      refine op_value_w rfl rfl (by intro c h; cases h) (v := dp v) (w' := if b 17 = true then Wb else if b 15 = true then Wa else w.drew) ?_ ?_
      · simp [execOp, go_sem, p0]
      · exact ⟨by simp [Act.put, did], by simp [did]⟩
    | 2 =>
      simp only [List.getElem?_toArray, List.getElem?_cons_zero, List.getElem?_cons_succ, Option.some.injEq] at hop
      subst hop
      have p1 : b 1 = true := hd ⟨1, .data⟩ (by simp) rfl
      refine op_value_w rfl rfl (by intro c h; cases h) (v := .pointer (some ⟨v, 0, none⟩)) (w' := if b 17 = true then Wb else if b 15 = true then Wa else w.drew) ?_ ?_
      · simp [execOp, go_sem, p1]
      · exact ⟨by simp [Act.put, did], by simp [did]⟩
    | 3 =>
      simp only [List.getElem?_toArray, List.getElem?_cons_zero, List.getElem?_cons_succ, Option.some.injEq] at hop
      subst hop
      have p2 : b 2 = true := hd ⟨2, .data⟩ (by simp) rfl
      have h16 : b 16 = false := by cases h : b 16; rfl; rw [h163 h] at hbi; cases hbi
      have h17 : b 17 = false := by cases h : b 17; rfl; rw [h1716 h] at h16; cases h16
      refine op_value_w rfl rfl (by intro c h; cases h) (v := dp d.a) (w' := if b 17 = true then Wb else if b 15 = true then Wa else w.drew) ?_ ?_
      · rw [h17]; cases b 15 <;> simp [execOp, go_sem, p2, k0, a0]
      · exact ⟨by simp [Act.put, did], by simp [did]⟩
    | 4 =>
      simp only [List.getElem?_toArray, List.getElem?_cons_zero, List.getElem?_cons_succ, Option.some.injEq] at hop
      subst hop
      refine op_value_w rfl rfl (by intro c h; cases h) (v := dp v) (w' := if b 17 = true then Wb else if b 15 = true then Wa else w.drew) ?_ ?_
      · simp [execOp, go_sem]
      · exact ⟨by simp [Act.put, did], by simp [did]⟩
    | 5 =>
      simp only [List.getElem?_toArray, List.getElem?_cons_zero, List.getElem?_cons_succ, Option.some.injEq] at hop
      subst hop
      have p4 : b 4 = true := hd ⟨4, .data⟩ (by simp) rfl
      refine op_value_w rfl rfl (by intro c h; cases h) (v := dp v) (w' := if b 17 = true then Wb else if b 15 = true then Wa else w.drew) ?_ ?_
      · simp [execOp, go_sem, p4]
      · exact ⟨by simp [Act.put, did], by simp [did]⟩
    | 6 =>
      simp only [List.getElem?_toArray, List.getElem?_cons_zero, List.getElem?_cons_succ, Option.some.injEq] at hop
      subst hop
      have p5 : b 5 = true := hd ⟨5, .data⟩ (by simp) rfl
      refine op_value_w rfl rfl (by intro c h; cases h) (v := .pointer (some ⟨v, 1, none⟩)) (w' := if b 17 = true then Wb else if b 15 = true then Wa else w.drew) ?_ ?_
      · simp [execOp, go_sem, p5]
      · exact ⟨by simp [Act.put, did], by simp [did]⟩
    | 7 =>
      simp only [List.getElem?_toArray, List.getElem?_cons_zero, List.getElem?_cons_succ, Option.some.injEq] at hop
      subst hop
      have p6 : b 6 = true := hd ⟨6, .data⟩ (by simp) rfl
      have h16 : b 16 = false := by cases h : b 16; rfl; rw [h167 h] at hbi; cases hbi
      have h17 : b 17 = false := by cases h : b 17; rfl; rw [h1716 h] at h16; cases h16
      refine op_value_w rfl rfl (by intro c h; cases h) (v := .int .i64 commits) (w' := if b 17 = true then Wb else if b 15 = true then Wa else w.drew) ?_ ?_
      · rw [h17]; cases b 15 <;> simp [execOp, go_sem, p6, k1, a1]
      · exact ⟨by simp [Act.put, did], by simp [did]⟩
    | 8 =>
      simp only [List.getElem?_toArray, List.getElem?_cons_zero, List.getElem?_cons_succ, Option.some.injEq] at hop
      subst hop
      refine op_value_w rfl rfl (by intro c h; cases h) (v := dp v) (w' := if b 17 = true then Wb else if b 15 = true then Wa else w.drew) ?_ ?_
      · simp [execOp, go_sem]
      · exact ⟨by simp [Act.put, did], by simp [did]⟩
    | 9 =>
      simp only [List.getElem?_toArray, List.getElem?_cons_zero, List.getElem?_cons_succ, Option.some.injEq] at hop
      subst hop
      have p8 : b 8 = true := hd ⟨8, .data⟩ (by simp) rfl
      refine op_value_w rfl rfl (by intro c h; cases h) (v := dp v) (w' := if b 17 = true then Wb else if b 15 = true then Wa else w.drew) ?_ ?_
      · simp [execOp, go_sem, p8]
      · exact ⟨by simp [Act.put, did], by simp [did]⟩
    | 10 =>
      simp only [List.getElem?_toArray, List.getElem?_cons_zero, List.getElem?_cons_succ, Option.some.injEq] at hop
      subst hop
      have p9 : b 9 = true := hd ⟨9, .data⟩ (by simp) rfl
      refine op_value_w rfl rfl (by intro c h; cases h) (v := .pointer (some ⟨v, 2, none⟩)) (w' := if b 17 = true then Wb else if b 15 = true then Wa else w.drew) ?_ ?_
      · simp [execOp, go_sem, p9]
      · exact ⟨by simp [Act.put, did], by simp [did]⟩
    | 11 =>
      simp only [List.getElem?_toArray, List.getElem?_cons_zero, List.getElem?_cons_succ, Option.some.injEq] at hop
      subst hop
      have p10 : b 10 = true := hd ⟨10, .data⟩ (by simp) rfl
      have h12 : b 12 = false := by cases h : b 12; rfl; rw [h1211 h] at hbi; cases hbi
      have h16 : b 16 = false := by cases h : b 16; rfl; rw [h1612 h] at h12; cases h12
      have h17 : b 17 = false := by cases h : b 17; rfl; rw [h1716 h] at h16; cases h16
      refine op_value_w rfl rfl (by intro c h; cases h) (v := .int .i64 turn) (w' := if b 17 = true then Wb else if b 15 = true then Wa else w.drew) ?_ ?_
      · rw [h17]; cases b 15 <;> simp [execOp, go_sem, p10, k2, a2]
      · exact ⟨by simp [Act.put, did], by simp [did]⟩
    | 12 =>
      simp only [List.getElem?_toArray, List.getElem?_cons_zero, List.getElem?_cons_succ, Option.some.injEq] at hop
      subst hop
      have p11 : b 11 = true := hd ⟨11, .data⟩ (by simp) rfl
      refine op_value_w rfl rfl (by intro c h; cases h) (v := .int .i64 ((turn : Int) + 1)) (w' := if b 17 = true then Wb else if b 15 = true then Wa else w.drew) ?_ ?_
      · simp [execOp, go_sem, p11, hwr]
      · exact ⟨by simp [Act.put, did], by simp [did]⟩
    | 13 =>
      simp only [List.getElem?_toArray, List.getElem?_cons_zero, List.getElem?_cons_succ, Option.some.injEq] at hop
      subst hop
      refine op_value_w rfl rfl (by intro c h; cases h) (v := dp v) (w' := if b 17 = true then Wb else if b 15 = true then Wa else w.drew) ?_ ?_
      · simp [execOp, go_sem]
      · exact ⟨by simp [Act.put, did], by simp [did]⟩
    | 14 =>
      simp only [List.getElem?_toArray, List.getElem?_cons_zero, List.getElem?_cons_succ, Option.some.injEq] at hop
      subst hop
      have p13 : b 13 = true := hd ⟨13, .data⟩ (by simp) rfl
      have h16 : b 16 = false := by cases h : b 16; rfl; rw [h1614 h] at hbi; cases hbi
      have h17 : b 17 = false := by cases h : b 17; rfl; rw [h1716 h] at h16; cases h16
      refine op_enter_w rfl rfl (by intro c h; cases h) (f := 83) (args := #[dp v]) (w' := if b 17 = true then Wb else if b 15 = true then Wa else w.drew) ?_ ?_
      · simp [execOp, go_sem, p13]
      · rw [h17]
        cases h15 : b 15
        · refine (cSt w.drew rfl).mono ?_
          rintro e w' ⟨rfl, rfl⟩
          exact ⟨_, rfl, by simp [Act.put, did, h17, h15], by simp [did, h17, h15]⟩
        · refine cStA.mono ?_
          rintro e w' ⟨rfl, rfl⟩
          exact ⟨_, rfl, by simp [Act.put, did, h17, h15], by simp [did, h17, h15]⟩
    | 15 =>
      simp only [List.getElem?_toArray, List.getElem?_cons_zero, List.getElem?_cons_succ, Option.some.injEq] at hop
      subst hop
      have h16 : b 16 = false := by cases h : b 16; rfl; rw [h1615 h] at hbi; cases hbi
      have h17 : b 17 = false := by cases h : b 17; rfl; rw [h1716 h] at h16; cases h16
      refine op_value_w rfl rfl (by intro c h; cases h) (v := .map (some w.heap.size)) (w' := Wa) ?_ ?_
      · rw [h17, hbi]; simp [execOp, go_sem, hmm, hWa]
      · exact ⟨by simp [Act.put, did], by simp [did, h17]⟩
    | 16 =>
      simp only [List.getElem?_toArray, List.getElem?_cons_zero, List.getElem?_cons_succ, Option.some.injEq] at hop
      subst hop
      have p3 : b 3 = true := hd ⟨3, .data⟩ (by simp) rfl
      have p7 : b 7 = true := hd ⟨7, .data⟩ (by simp) rfl
      have p12 : b 12 = true := hd ⟨12, .data⟩ (by simp) rfl
      have p14 : b 14 = true := hd ⟨14, .data⟩ (by simp) rfl
      have p15 : b 15 = true := hd ⟨15, .data⟩ (by simp) rfl
      refine op_value_w rfl rfl (by intro c h; cases h) (v := .agg #[dp d.a, .int .i64 commits, .int .i64 ((turn : Int) + 1), .int .i64 ((1 + nbOf d.n : Nat) : Int), .map (some w.heap.size), .int .i64 0]) (w' := if b 17 = true then Wb else if b 15 = true then Wa else w.drew) ?_ ?_
      · simp [execOp, go_sem, p3, p7, p12, p14, p15]
      · exact ⟨by simp [Act.put, did], by simp [did]⟩
    | 17 =>
      simp only [List.getElem?_toArray, List.getElem?_cons_zero, List.getElem?_cons_succ, Option.some.injEq] at hop
      subst hop
      have p16 : b 16 = true := hd ⟨16, .data⟩ (by simp) rfl
      have p15 : b 15 = true := h1615 p16
      refine op_value_w rfl rfl (by intro c h; cases h) (v := .pointer (some ⟨w.heap.size + 1, 0, none⟩)) (w' := Wb) ?_ ?_
      · rw [hbi, p15]; simp [execOp, go_sem, p16, hWb, hsa, volCells]
      · exact ⟨by simp [Act.put, did], by simp [did]⟩
    | 18 =>
      simp only [List.getElem?_toArray, List.getElem?_cons_zero, List.getElem?_cons_succ, Option.some.injEq] at hop
      subst hop
      have p17 : b 17 = true := hd ⟨17, .data⟩ (by simp) rfl
      refine op_value_w rfl rfl (by intro c h; cases h) (v := .pointer (some ⟨w.heap.size + 1, 0, none⟩)) (w' := if b 17 = true then Wb else if b 15 = true then Wa else w.drew) ?_ ?_
      · simp [execOp, go_sem, p17]
      · exact ⟨by simp [Act.put, did], by simp [did]⟩
    | k + 19 => simp at hop
  · rintro b ac wd ⟨rfl, rfl⟩ hall
    have q0 := hall 0 (by simp)
    have q1 := hall 1 (by simp)
    have q2 := hall 2 (by simp)
    have q3 := hall 3 (by simp)
    have q4 := hall 4 (by simp)
    have q5 := hall 5 (by simp)
    have q6 := hall 6 (by simp)
    have q7 := hall 7 (by simp)
    have q8 := hall 8 (by simp)
    have q9 := hall 9 (by simp)
    have q10 := hall 10 (by simp)
    have q11 := hall 11 (by simp)
    have q12 := hall 12 (by simp)
    have q13 := hall 13 (by simp)
    have q14 := hall 14 (by simp)
    have q15 := hall 15 (by simp)
    have q16 := hall 16 (by simp)
    have q17 := hall 17 (by simp)
    have q18 := hall 18 (by simp)
    simp only [q0, q1, q2, q3, q4, q5, q6, q7, q8, q9, q10, q11, q12, q13, q14, q15, q16, q17, q18, if_true]
    clear q0 q1 q2 q3 q4 q5 q6 q7 q8 q9 q10 q11 q12 q13 q14 q15 q16 q17 q18 hall b
    gi_wp2_with fail
    refine region_done hmix (by kernel_rfl) (fun b ac wd => ∃ z W', (b 20 = true → (z = 0 ∧ Q W' ∧ IsVol W' (w.heap.size + 1) (dp d.a) commits (turn + 1) (1 + nbOf d.n) (some w.heap.size) 0 ∧ IsVol W' v (dp d.a) commits turn next (some f) count)) ∧ ac = { tmps := #[dp v, undef, .int .i64 0, .pointer (some ⟨w.heap.size + 1, 0, none⟩), (if b 21 = true then .int .i64 z else undef), dp v, dp v, .pointer (some ⟨v, 0, none⟩), dp d.a, dp v, dp v, .pointer (some ⟨v, 1, none⟩), .int .i64 commits, dp v, dp v, .pointer (some ⟨v, 2, none⟩), .int .i64 turn, .int .i64 ((turn : Int) + 1), dp v, .int .i64 ((1 + nbOf d.n : Nat) : Int), .map (some w.heap.size), .agg #[dp d.a, .int .i64 commits, .int .i64 ((turn : Int) + 1), .int .i64 ((1 + nbOf d.n : Nat) : Int), .map (some w.heap.size), .int .i64 0], .pointer (some ⟨w.heap.size + 1, 0, none⟩), (if b 0 = true then dp v else undef), (if b 1 = true then dp v else undef), (if b 2 = true then .pointer (some ⟨v, 0, none⟩) else undef), (if b 3 = true then dp d.a else undef), (if b 4 = true then .func (.func 50) #[dp d.a] #[] else undef), (if b 5 = true then dp v else undef), (if b 6 = true then .func (.func 119) #[dp v] #[] else undef), (if b 7 = true then dp v else undef), (if b 8 = true then dp v else undef), (if b 9 = true then .pointer (some ⟨v, 0, none⟩) else undef), (if b 10 = true then dp d.a else undef), (if b 11 = true then .func (.func 50) #[dp d.a] #[] else undef), (if b 12 = true then .pointer (some ⟨w.heap.size + 1, 0, none⟩) else undef), (if b 13 = true then .func (.func 52) #[.pointer (some ⟨w.heap.size + 1, 0, none⟩)] #[] else undef), (if b 14 = true then dp v else undef), (if b 15 = true then dp v else undef), (if b 16 = true then .pointer (some ⟨v, 0, none⟩) else undef), (if b 17 = true then dp d.a else undef), (if b 18 = true then .func (.func 50) #[dp d.a] #[] else undef), (if b 19 = true then .slice (some ⟨w.heap.size + 2, 0, none⟩) 5 5 else undef), (if b 20 = true then .int .i64 z else undef), undef, undef, undef, undef, undef, undef, undef, undef], defers := [] } ∧ wd = (if b 20 = true then W' else if b 19 = true then Wc else Wb.drew)) ⟨0, w, fun h => by (cases h), rfl, rfl⟩ ?_ ?_
    · rintro b ac wd i op ⟨z, W', hz, rfl, rfl⟩ hcl hop hbi hd
      have h2019 : b 20 = true → b 19 = true := fun h => hcl 20 _ rfl h ⟨19, .data⟩ (by simp) rfl
      have h2120 : b 21 = true → b 20 = true := fun h => hcl 21 _ rfl h ⟨20, .data⟩ (by simp) rfl
      have h2120n : b 20 = false → b 21 = false := fun h => by cases h1 : b 21; rfl; rw [h2120 h1] at h; cases h
      have h194 : b 19 = true → b 4 = true := fun h => hcl 19 _ rfl h ⟨4, .data⟩ (by simp) rfl
      have h1911 : b 19 = true → b 11 = true := fun h => hcl 19 _ rfl h ⟨11, .data⟩ (by simp) rfl
      have h1918 : b 19 = true → b 18 = true := fun h => hcl 19 _ rfl h ⟨18, .data⟩ (by simp) rfl
      have h3L : b 19 = true → b 3 = true := fun h => hcl 4 _ rfl (h194 h) ⟨3, .data⟩ (by simp) rfl
      have h10L : b 19 = true → b 10 = true := fun h => hcl 11 _ rfl (h1911 h) ⟨10, .data⟩ (by simp) rfl
      have h17L : b 19 = true → b 17 = true := fun h => hcl 18 _ rfl (h1918 h) ⟨17, .data⟩ (by simp) rfl
      match i with
      | 0 =>
        simp only [List.getElem?_toArray, List.getElem?_cons_zero, Option.some.injEq] at hop
        subst hop
        refine op_value_w rfl rfl (by intro c h; cases h) (v := dp v) (w' := if b 20 = true then W' else if b 19 = true then Wc else Wb.drew) ?_ ?_
        · simp [execOp, go_sem]
        · exact ⟨z, W', fun h => hz (by simpa [did] using h), by simp [Act.put, did], by simp [did]⟩
      | 1 =>
        simp only [List.getElem?_toArray, List.getElem?_cons_zero, List.getElem?_cons_succ, Option.some.injEq] at hop
        subst hop
        have p0 : b 0 = true := hd ⟨0, .data⟩ (by simp) rfl
        refine op_value_w rfl rfl (by intro c h; cases h) (v := dp v) (w' := if b 20 = true then W' else if b 19 = true then Wc else Wb.drew) ?_ ?_
        · simp [execOp, go_sem, p0]
        · exact ⟨z, W', fun h => hz (by simpa [did] using h), by simp [Act.put, did], by simp [did]⟩
      | 2 =>
        simp only [List.getElem?_toArray, List.getElem?_cons_zero, List.getElem?_cons_succ, Option.some.injEq] at hop
        subst hop
        have p1 : b 1 = true := hd ⟨1, .data⟩ (by simp) rfl
        refine op_value_w rfl rfl (by intro c h; cases h) (v := .pointer (some ⟨v, 0, none⟩)) (w' := if b 20 = true then W' else if b 19 = true then Wc else Wb.drew) ?_ ?_
        · simp [execOp, go_sem, p1]
        · exact ⟨z, W', fun h => hz (by simpa [did] using h), by simp [Act.put, did], by simp [did]⟩
      | 3 =>
        simp only [List.getElem?_toArray, List.getElem?_cons_zero, List.getElem?_cons_succ, Option.some.injEq] at hop
        subst hop
        have p2 : b 2 = true := hd ⟨2, .data⟩ (by simp) rfl
        have h19 : b 19 = false := by cases h : b 19; rfl; rw [h3L h] at hbi; cases hbi
        have h20 : b 20 = false := by cases h : b 20; rfl; rw [h2019 h] at h19; cases h19
        refine op_value_w rfl rfl (by intro c h; cases h) (v := dp d.a) (w' := if b 20 = true then W' else if b 19 = true then Wc else Wb.drew) ?_ ?_
        · rw [h19, h20]; simp [execOp, go_sem, p2, b0]
        · exact ⟨z, W', fun h => hz (by simpa [did] using h), by simp [Act.put, did], by simp [did]⟩
      | 4 =>
        simp only [List.getElem?_toArray, List.getElem?_cons_zero, List.getElem?_cons_succ, Option.some.injEq] at hop
        subst hop
        have p3 : b 3 = true := hd ⟨3, .data⟩ (by simp) rfl
        refine op_value_w rfl rfl (by intro c h; cases h) (v := .func (.func 50) #[dp d.a] #[]) (w' := if b 20 = true then W' else if b 19 = true then Wc else Wb.drew) ?_ ?_
        · simp [execOp, go_sem, p3]
        · exact ⟨z, W', fun h => hz (by simpa [did] using h), by simp [Act.put, did], by simp [did]⟩
      | 5 =>
        simp only [List.getElem?_toArray, List.getElem?_cons_zero, List.getElem?_cons_succ, Option.some.injEq] at hop
        subst hop
        refine op_value_w rfl rfl (by intro c h; cases h) (v := dp v) (w' := if b 20 = true then W' else if b 19 = true then Wc else Wb.drew) ?_ ?_
        · simp [execOp, go_sem]
        · exact ⟨z, W', fun h => hz (by simpa [did] using h), by simp [Act.put, did], by simp [did]⟩
      | 6 =>
        simp only [List.getElem?_toArray, List.getElem?_cons_zero, List.getElem?_cons_succ, Option.some.injEq] at hop
        subst hop
        have p5 : b 5 = true := hd ⟨5, .data⟩ (by simp) rfl
        refine op_value_w rfl rfl (by intro c h; cases h) (v := .func (.func 119) #[dp v] #[]) (w' := if b 20 = true then W' else if b 19 = true then Wc else Wb.drew) ?_ ?_
        · simp [execOp, go_sem, p5]
        · exact ⟨z, W', fun h => hz (by simpa [did] using h), by simp [Act.put, did], by simp [did]⟩
      | 7 =>
        simp only [List.getElem?_toArray, List.getElem?_cons_zero, List.getElem?_cons_succ, Option.some.injEq] at hop
        subst hop
        refine op_value_w rfl rfl (by intro c h; cases h) (v := dp v) (w' := if b 20 = true then W' else if b 19 = true then Wc else Wb.drew) ?_ ?_
        · simp [execOp, go_sem]
        · exact ⟨z, W', fun h => hz (by simpa [did] using h), by simp [Act.put, did], by simp [did]⟩
      | 8 =>
        simp only [List.getElem?_toArray, List.getElem?_cons_zero, List.getElem?_cons_succ, Option.some.injEq] at hop
        subst hop
        have p7 : b 7 = true := hd ⟨7, .data⟩ (by simp) rfl
        refine op_value_w rfl rfl (by intro c h; cases h) (v := dp v) (w' := if b 20 = true then W' else if b 19 = true then Wc else Wb.drew) ?_ ?_
        · simp [execOp, go_sem, p7]
        · exact ⟨z, W', fun h => hz (by simpa [did] using h), by simp [Act.put, did], by simp [did]⟩
      | 9 =>
        simp only [List.getElem?_toArray, List.getElem?_cons_zero, List.getElem?_cons_succ, Option.some.injEq] at hop
        subst hop
        have p8 : b 8 = true := hd ⟨8, .data⟩ (by simp) rfl
        refine op_value_w rfl rfl (by intro c h; cases h) (v := .pointer (some ⟨v, 0, none⟩)) (w' := if b 20 = true then W' else if b 19 = true then Wc else Wb.drew) ?_ ?_
        · simp [execOp, go_sem, p8]
        · exact ⟨z, W', fun h => hz (by simpa [did] using h), by simp [Act.put, did], by simp [did]⟩
      | 10 =>
        simp only [List.getElem?_toArray, List.getElem?_cons_zero, List.getElem?_cons_succ, Option.some.injEq] at hop
        subst hop
        have p9 : b 9 = true := hd ⟨9, .data⟩ (by simp) rfl
        have h19 : b 19 = false := by cases h : b 19; rfl; rw [h10L h] at hbi; cases hbi
        have h20 : b 20 = false := by cases h : b 20; rfl; rw [h2019 h] at h19; cases h19
        refine op_value_w rfl rfl (by intro c h; cases h) (v := dp d.a) (w' := if b 20 = true then W' else if b 19 = true then Wc else Wb.drew) ?_ ?_
        · rw [h19, h20]; simp [execOp, go_sem, p9, b0]
        · exact ⟨z, W', fun h => hz (by simpa [did] using h), by simp [Act.put, did], by simp [did]⟩
      | 11 =>
        simp only [List.getElem?_toArray, List.getElem?_cons_zero, List.getElem?_cons_succ, Option.some.injEq] at hop
        subst hop
        have p10 : b 10 = true := hd ⟨10, .data⟩ (by simp) rfl
        refine op_value_w rfl rfl (by intro c h; cases h) (v := .func (.func 50) #[dp d.a] #[]) (w' := if b 20 = true then W' else if b 19 = true then Wc else Wb.drew) ?_ ?_
        · simp [execOp, go_sem, p10]
        · exact ⟨z, W', fun h => hz (by simpa [did] using h), by simp [Act.put, did], by simp [did]⟩
      | 12 =>
        simp only [List.getElem?_toArray, List.getElem?_cons_zero, List.getElem?_cons_succ, Option.some.injEq] at hop
        subst hop
        refine op_value_w rfl rfl (by intro c h; cases h) (v := .pointer (some ⟨w.heap.size + 1, 0, none⟩)) (w' := if b 20 = true then W' else if b 19 = true then Wc else Wb.drew) ?_ ?_
        · simp [execOp, go_sem]
        · exact ⟨z, W', fun h => hz (by simpa [did] using h), by simp [Act.put, did], by simp [did]⟩
      | 13 =>
        simp only [List.getElem?_toArray, List.getElem?_cons_zero, List.getElem?_cons_succ, Option.some.injEq] at hop
        subst hop
        have p12 : b 12 = true := hd ⟨12, .data⟩ (by simp) rfl
        refine op_value_w rfl rfl (by intro c h; cases h) (v := .func (.func 52) #[.pointer (some ⟨w.heap.size + 1, 0, none⟩)] #[]) (w' := if b 20 = true then W' else if b 19 = true then Wc else Wb.drew) ?_ ?_
        · simp [execOp, go_sem, p12]
        · exact ⟨z, W', fun h => hz (by simpa [did] using h), by simp [Act.put, did], by simp [did]⟩
      | 14 =>
        simp only [List.getElem?_toArray, List.getElem?_cons_zero, List.getElem?_cons_succ, Option.some.injEq] at hop
        subst hop
        refine op_value_w rfl rfl (by intro c h; cases h) (v := dp v) (w' := if b 20 = true then W' else if b 19 = true then Wc else Wb.drew) ?_ ?_
        · simp [execOp, go_sem]
        · exact ⟨z, W', fun h => hz (by simpa [did] using h), by simp [Act.put, did], by simp [did]⟩
      | 15 =>
        simp only [List.getElem?_toArray, List.getElem?_cons_zero, List.getElem?_cons_succ, Option.some.injEq] at hop
        subst hop
        have p14 : b 14 = true := hd ⟨14, .data⟩ (by simp) rfl
        refine op_value_w rfl rfl (by intro c h; cases h) (v := dp v) (w' := if b 20 = true then W' else if b 19 = true then Wc else Wb.drew) ?_ ?_
        · simp [execOp, go_sem, p14]
        · exact ⟨z, W', fun h => hz (by simpa [did] using h), by simp [Act.put, did], by simp [did]⟩
      | 16 =>
        simp only [List.getElem?_toArray, List.getElem?_cons_zero, List.getElem?_cons_succ, Option.some.injEq] at hop
        subst hop
        have p15 : b 15 = true := hd ⟨15, .data⟩ (by simp) rfl
        refine op_value_w rfl rfl (by intro c h; cases h) (v := .pointer (some ⟨v, 0, none⟩)) (w' := if b 20 = true then W' else if b 19 = true then Wc else Wb.drew) ?_ ?_
        · simp [execOp, go_sem, p15]
        · exact ⟨z, W', fun h => hz (by simpa [did] using h), by simp [Act.put, did], by simp [did]⟩
      | 17 =>
        simp only [List.getElem?_toArray, List.getElem?_cons_zero, List.getElem?_cons_succ, Option.some.injEq] at hop
        subst hop
        have p16 : b 16 = true := hd ⟨16, .data⟩ (by simp) rfl
        have h19 : b 19 = false := by cases h : b 19; rfl; rw [h17L h] at hbi; cases hbi
        have h20 : b 20 = false := by cases h : b 20; rfl; rw [h2019 h] at h19; cases h19
        refine op_value_w rfl rfl (by intro c h; cases h) (v := dp d.a) (w' := if b 20 = true then W' else if b 19 = true then Wc else Wb.drew) ?_ ?_
        · rw [h19, h20]; simp [execOp, go_sem, p16, b0]
        · exact ⟨z, W', fun h => hz (by simpa [did] using h), by simp [Act.put, did], by simp [did]⟩
      | 18 =>
        simp only [List.getElem?_toArray, List.getElem?_cons_zero, List.getElem?_cons_succ, Option.some.injEq] at hop
        subst hop
        have p17 : b 17 = true := hd ⟨17, .data⟩ (by simp) rfl
        refine op_value_w rfl rfl (by intro c h; cases h) (v := .func (.func 50) #[dp d.a] #[]) (w' := if b 20 = true then W' else if b 19 = true then Wc else Wb.drew) ?_ ?_
        · simp [execOp, go_sem, p17]
        · exact ⟨z, W', fun h => hz (by simpa [did] using h), by simp [Act.put, did], by simp [did]⟩
      | 19 =>
        simp only [List.getElem?_toArray, List.getElem?_cons_zero, List.getElem?_cons_succ, Option.some.injEq] at hop
        subst hop
        have p4 : b 4 = true := hd ⟨4, .data⟩ (by simp) rfl
        have p6 : b 6 = true := hd ⟨6, .data⟩ (by simp) rfl
        have p11 : b 11 = true := hd ⟨11, .data⟩ (by simp) rfl
        have p13 : b 13 = true := hd ⟨13, .data⟩ (by simp) rfl
        have p18 : b 18 = true := hd ⟨18, .data⟩ (by simp) rfl
        have h20 : b 20 = false := by cases h : b 20; rfl; rw [h2019 h] at hbi; cases hbi
        refine op_value_w rfl rfl (by intro c h; cases h) (v := .slice (some ⟨w.heap.size + 2, 0, none⟩) 5 5) (w' := Wc) ?_ ?_
        · rw [hbi, h20]; simp [execOp, go_sem, p4, p6, p11, p13, p18, hWc, hsb]
        · exact ⟨z, W', fun h => hz (by simpa [did] using h), by simp [Act.put, did], by simp [did, h20]⟩
      | 20 =>
        simp only [List.getElem?_toArray, List.getElem?_cons_zero, List.getElem?_cons_succ, Option.some.injEq] at hop
        subst hop
        have p19 : b 19 = true := hd ⟨19, .data⟩ (by simp) rfl
        refine op_enter_w rfl rfl (by intro c h; cases h) (f := 47) (args := #[.slice (some ⟨w.heap.size + 2, 0, none⟩) 5 5]) (w' := Wc) ?_ ?_
        · rw [hbi, p19]; simp [execOp, go_sem]
        · refine hIO.mono ?_
          rintro e w' ⟨z', rfl, hQ⟩
          exact ⟨_, rfl, z', w', fun _ => hQ, by simp [Act.put, did, hbi, h2120n hbi], by simp [did]⟩
      | 21 =>
        simp only [List.getElem?_toArray, List.getElem?_cons_zero, List.getElem?_cons_succ, Option.some.injEq] at hop
        subst hop
        have p20 : b 20 = true := hd ⟨20, .data⟩ (by simp) rfl
        refine op_value_w rfl rfl (by intro c h; cases h) (v := .int .i64 z) (w' := if b 20 = true then W' else if b 19 = true then Wc else Wb.drew) ?_ ?_
        · simp [execOp, go_sem, p20]
        · exact ⟨z, W', fun h => hz (by simpa [did] using h), by simp [Act.put, did], by simp [did]⟩
      | k + 22 => simp at hop
    · rintro b ac wd ⟨z, W', hz, rfl, rfl⟩ hall2
      have r0 := hall2 0 (by simp)
      have r1 := hall2 1 (by simp)
      have r2 := hall2 2 (by simp)
      have r3 := hall2 3 (by simp)
      have r4 := hall2 4 (by simp)
      have r5 := hall2 5 (by simp)
      have r6 := hall2 6 (by simp)
      have r7 := hall2 7 (by simp)
      have r8 := hall2 8 (by simp)
      have r9 := hall2 9 (by simp)
      have r10 := hall2 10 (by simp)
      have r11 := hall2 11 (by simp)
      have r12 := hall2 12 (by simp)
      have r13 := hall2 13 (by simp)
      have r14 := hall2 14 (by simp)
      have r15 := hall2 15 (by simp)
      have r16 := hall2 16 (by simp)
      have r17 := hall2 17 (by simp)
      have r18 := hall2 18 (by simp)
      have r19 := hall2 19 (by simp)
      have r20 := hall2 20 (by simp)
      have r21 := hall2 21 (by simp)
      obtain ⟨rfl, hQ, hvn, hvo⟩ := hz r20
      simp only [r0, r1, r2, r3, r4, r5, r6, r7, r8, r9, r10, r11, r12, r13, r14, r15, r16, r17, r18, r19, r20, r21, if_true]
      have n0 := cellOf hvn 0
      have n1 := cellOf hvn 1
      have n2 := cellOf hvn 2
      have n3 := cellOf hvn 3
      have n4 := cellOf hvn 4
      have n5 := cellOf hvn 5
      have o0 := cellOf hvo 0
      have o1 := cellOf hvo 1
      have o2 := cellOf hvo 2
      have o3 := cellOf hvo 3
      have o4 := cellOf hvo 4
      have o5 := cellOf hvo 5
      have g0 := frozenOf hvo 0
      have g1 := frozenOf hvo 1
      have g2 := frozenOf hvo 2
      have g3 := frozenOf hvo 3
      have g4 := frozenOf hvo 4
      have g5 := frozenOf hvo 5
      simp [volCells] at n0 n1 n2 n3 n4 n5 o0 o1 o2 o3 o4 o5
      have HQ : Hid (Q W') := hQ
      have HVO : Hid (IsVol W' v (dp d.a) commits turn next (some f) count) := hvo
      clear r0 r1 r2 r3 r4 r5 r6 r7 r8 r9 r10 r11 r12 r13 r14 r15 r16 r17 r18 r19 r20 r21 hall2 b hQ hIO hz
      gi_wp2
      go_ret
      refine ⟨rfl, W', HQ.out, ?_, ?_⟩
      · have := (((((HVO.out.setD d.a).setC commits).setT (turn + 1)).setN (1 + nbOf d.n)).setF w.heap.size).setK 0
        rw [show ((turn + 1 : Nat) : Int) = (turn : Int) + 1 by omega, show ((1 + nbOf d.n : Nat) : Int) = 1 + (nbOf d.n : Int) by omega] at this
        exact this
      · exact ((((((But.refl (fun k => k = v) W').setCell ⟨v, 0, none⟩ rfl _).setCell ⟨v, 1, none⟩ rfl _).setCell ⟨v, 2, none⟩ rfl _).setCell ⟨v, 3, none⟩ rfl _).setCell ⟨v, 4, none⟩ rfl _).setCell ⟨v, 5, none⟩ rfl _

end Go.Proofs.YtlcojcldbdikgaaGreatDoor

/-
  restart of package wal, where the log holds no block.
-/
namespace Go.Proofs.YtlcojcldbdikgaaGreatDoor
open Go.RowKit Go.Maps Go.Sort Go.Shelf

/-- Behind restart's steps. -/
structure Rst (w W : World) (d d' : DS) (commits turn f : Nat) : Prop where
  but : But d.mine w W
  near : Near w d d'
  dev : Dev W d'
  n : d'.n = d.n
  D : d'.D = .map []
  B : d'.B = upd d.B 0 (headB (turn + 1) commits d.n)
  count : d'.count = d.count + 4
  fused : d'.fused = d.fused
  map : W.heap[f]? = some (.map #[] 0)
  fm : f ≠ d'.m

theorem But.pass {w W : World} {d : DS} (hd : Dev w d) (hb : But d.mine w W) {g : Nat} {l : Array Value} {t : TypeId} {fr : Nat × Nat} (hg : w.heap[g]? = some (.cells l t fr)) (h1 : t ≠ 106) (h2 : t ≠ 103) : W.heap[g]? = some (.cells l t fr) :=
  (hb.block g (Array.getElem?_eq_some_iff.1 hg).1 (hd.other hg h1 h2)).trans hg

theorem map_cells_ne {w : World} {f b : Nat} {es : Array MapEntry} {clock : Nat} {cs : Array Value} {t : TypeId} {fr : Nat × Nat} (hm : w.heap[f]? = some (.map es clock)) (hb : w.heap[b]? = some (.cells cs t fr)) : f ≠ b := by
  rintro rfl
  rw [hm] at hb
  cases hb

theorem restart_none (v : Nat) (commits turn next f nf : Nat) (count : Int) (d : DS) (w : World) (h : IsVol w v (dp d.a) commits turn next (some f) count) (hd : Dev w d) (ht : Tab w) (hn : 16 ≤ d.n)
    (hown : w.ownsMap Tryz.prog 3 slElem f nf (.map [])) (hfm : f ≠ d.m) (hc : commits < 4000000000000000000) (htu : turn < 4000000000000000000) (hl : d.lives 4) (hcn : d.count < 900000000) :
    Calls Tryz.prog 101 #[dp v] w fun e w' => e = .returned (.int .i64 0) ∧ ∃ d', IsVol w' v (dp d.a) commits (turn + 1) (1 + nbOf d.n) (some w.heap.size) 0 ∧ Dev w' d' ∧ Near w d d' ∧ d'.n = d.n ∧ d'.D = .map [] ∧ d'.B = upd d.B 0 (headB (turn + 1) commits d.n) ∧ d'.count = d.count + 4 ∧ d'.fused = d.fused ∧ w'.heap[w.heap.size]? = some (.map #[] 0) ∧ w.heap.size ≠ d'.m ∧ But (fun k => k = v ∨ d.mine k) w w' := by
  refine (restart_steps v commits turn next f count d w h hd hn htu (fun W' => (∃ d', Rst w W' d d' commits turn w.heap.size) ∧ IsVol W' v (dp d.a) commits turn next (some f) count) ?_).mono ?_
  · intro Wc hBc hmc hvn hsc
    obtain ⟨cs, hgc⟩ := hsc
    have hdc := hd.below hBc
    have hvc := h.below hBc
    have hownc : Wc.ownsMap Tryz.prog 3 slElem f nf (.map []) := by
      have hlt := hown.lt
      obtain ⟨es, clock, he, r⟩ := hown
      exact ⟨es, clock, (hBc.block f hlt).trans he, r⟩
    have bc : But d.mine w Wc := But.of_below hBc
    have hmlt := hd.mlt
    have halt := hd.alt
    have hslt := hd.slt
    -- Flush
    refine (dev_flush d Wc hdc (hl.alive (by omega)) (by omega)).mono ?_
    rintro e w1 ⟨m1, rfl, hm1, hd1, b1⟩
    have n1 : Near w d (d.flushed m1) := Near.flushed (Nat.le_trans hBc.size hm1)
    have b1' := (Near.refl w d).but bc b1
    have hg1 := But.pass hdc b1 hgc (by decide) (by decide)
    have hvn1 := But.pass hdc b1 hvn (by decide) (by decide)
    have hv1 := But.pass hdc b1 hvc (by decide) (by decide)
    have hmc1 : w1.heap[w.heap.size]? = some (.map #[] 0) := (b1.block _ (Array.getElem?_eq_some_iff.1 hmc).1 (by rintro (e | e | e) <;> omega)).trans hmc
    have hown1 : w1.ownsMap Tryz.prog 3 slElem f nf (.map []) := by
      have hlt := hownc.lt
      obtain ⟨es, clock, he, r⟩ := hownc
      refine ⟨es, clock, (b1.block f hlt ?_).trans he, r⟩
      rintro (e | e | e)
      · exact map_cells_ne he hdc.dev e
      · obtain ⟨_, hr, _⟩ := hdc.row; exact map_cells_ne he hr e
      · exact hfm e
    refine ⟨0, rfl, hg1.trans hgc.symm, .inr ⟨rfl, ?_⟩⟩
    -- writeHomes
    refine (writeHomes_none v commits turn next f nf count d w1 hv1 hown1).mono ?_
    rintro e w2 ⟨rfl, hB2⟩
    refine ⟨0, rfl, (below_block hg1 hB2).trans hg1.symm, .inr ⟨rfl, ?_⟩⟩
    have hd2 := hd1.below hB2
    have b2' := b1'.trans (But.of_below hB2)
    have l2 : (d.flushed m1).lives 3 := DS.lives.flushed (k := 3) hl m1
    -- Flush
    refine (dev_flush (d.flushed m1) w2 hd2 (l2.alive (by omega)) (by simp [DS.flushed]; omega)).mono ?_
    rintro e w3 ⟨m3, rfl, hm3, hd3, b3⟩
    have hg2 := below_block hg1 hB2
    have hg3 := But.pass hd2 b3 hg2 (by decide) (by decide)
    have hvn3 := But.pass hd2 b3 (below_block hvn1 hB2) (by decide) (by decide)
    have hv3 := But.pass hd2 b3 (below_block hv1 hB2) (by decide) (by decide)
    have n3 := n1.trans (Near.flushed (d := d.flushed m1) hm3) b2'.size
    have b3' := n1.but b2' b3
    have hm2 := below_block hmc1 hB2
    have hmc3 : w3.heap[w.heap.size]? = some (.map #[] 0) := (b3.block _ (Array.getElem?_eq_some_iff.1 hm2).1 (by
      rintro (e | e | e)
      · have e' : w.heap.size = d.a := e; omega
      · have e' : w.heap.size = d.s := e; omega
      · have e' : w.heap.size = m1 := e
        have := (Array.getElem?_eq_some_iff.1 hmc).1
        omega)).trans hm2
    refine ⟨0, rfl, hg3.trans hg2.symm, .inr ⟨rfl, ?_⟩⟩
    have l3 := DS.lives.flushed (k := 2) l2 m3
    have ht3 : Tab w3 := b3'.tab ht (hd.noTab ht)
    -- writeHead
    refine (writeHead_any (w.heap.size + 1) commits (turn + 1) (1 + nbOf d.n) (some w.heap.size) 0 ((d.flushed m1).flushed m3) w3 hvn3 hd3 ht3 (by omega) (by omega) (l3.alive (by omega)) (by simp [DS.flushed]; omega)).mono ?_
    rintro e w4 ⟨rfl, b4, p4, hp4, hd4⟩
    have hg4 := But.pass hd3 b4 hg3 (by decide) (by decide)
    have hvn4 := But.pass hd3 b4 hvn3 (by decide) (by decide)
    have hv4 := But.pass hd3 b4 hv3 (by decide) (by decide)
    have b4' := n3.but b3' b4
    have n4 := n3.trans (Near.wrote w3 ((d.flushed m1).flushed m3) 0 (headB (turn + 1) commits d.n) (loosened ((d.flushed m1).flushed m3).D 0 p4)) b3'.size
    have hmc4 : w4.heap[w.heap.size]? = some (.map #[] 0) := (b4.block _ (Array.getElem?_eq_some_iff.1 hmc3).1 (by
      rintro (e | e | e)
      · have e' : w.heap.size = d.a := e; omega
      · have e' : w.heap.size = d.s := e; omega
      · have e' : w.heap.size = m3 := e
        have := (Array.getElem?_eq_some_iff.1 hm2).1
        omega)).trans hmc3
    refine ⟨0, rfl, hg4.trans hg3.symm, .inr ⟨rfl, ?_⟩⟩
    have l4 := DS.lives.wrote (k := 1) l3 0 (headB (turn + 1) commits d.n) (loosened ((d.flushed m1).flushed m3).D 0 p4)
    -- Flush
    refine (dev_flush _ w4 hd4 (l4.alive (by omega)) (by simp [DS.flushed, DS.wrote]; omega)).mono ?_
    rintro e w5 ⟨m5, rfl, hm5, hd5, b5⟩
    have hg5 := But.pass hd4 b5 hg4 (by decide) (by decide)
    have hmc5 : w5.heap[w.heap.size]? = some (.map #[] 0) := (b5.block _ (Array.getElem?_eq_some_iff.1 hmc4).1 (by
      rintro (e | e | e)
      · have e' : w.heap.size = d.a := e; omega
      · have e' : w.heap.size = d.s := e; omega
      · have e' : w.heap.size = m3 := e
        have := (Array.getElem?_eq_some_iff.1 hm2).1
        omega)).trans hmc4
    refine ⟨0, rfl, hg5.trans hg4.symm, .inr ⟨rfl, rfl, ⟨⟨_, n4.but b4' b5, n4.trans (Near.flushed hm5) b4'.size, hd5, rfl, rfl, rfl, ?_, rfl, hmc5, by have e := (Array.getElem?_eq_some_iff.1 hmc4).1; show w.heap.size ≠ m5; omega⟩, But.pass hd4 b5 hv4 (by decide) (by decide)⟩, But.pass hd4 b5 hvn4 (by decide) (by decide), But.pass hd4 b5 hv4 (by decide) (by decide)⟩⟩
    simp [DS.flushed, DS.wrote]; omega
  · rintro e w' ⟨rfl, W', ⟨⟨d', hR⟩, hvo⟩, hv', hb'⟩
    have hlt := h.lt
    refine ⟨rfl, d', hv', hR.dev.butV hvo hb', hR.near, hR.n, hR.D, hR.B, hR.count, hR.fused, (hb'.block _ (Array.getElem?_eq_some_iff.1 hR.map).1 (by omega)).trans hR.map, hR.fm, (hR.but.mono (fun k _ hk => .inr hk)).trans (hb'.mono (fun k _ hk => .inl hk))⟩

end Go.Proofs.YtlcojcldbdikgaaGreatDoor

/-
  writeHomes of package wal, whatever the log holds.
-/
namespace Go.Proofs.YtlcojcldbdikgaaGreatDoor
open Go.RowKit Go.Maps Go.Sort Go.Shelf

theorem slook_un {w : World} {m nn : Nat} {D : DataW Value} (h : w.ownsMap Tryz.prog 3 slElem m nn D) {i : Nat} (hi : i < 9223372036854775808) :
    ∃ p n c, (Instr.lookup 83 (.map (some m)) (.int .i64 i) false).run Tryz.prog w = .ok (.slice p n c) w ∧ D.atKey (.int .i64 i) (slD none 0 0) = slD p n c := by
  obtain ⟨v, ps, hrun, hv⟩ := h.lookup keyed Tryz.underlying83 (Tryz.zero33 w) (zd := slD none 0 0) (zp := []) rfl (key_i64 hi)
  obtain ⟨p, n, c, rfl, hz⟩ := slElem_inv hv
  simp only [Prod.mk.injEq] at hz
  exact ⟨p, n, c, hrun, hz.1⟩

/-- The device behind some homes. -/
def DS.homedBy (d : DS) (fr : Nat → Option By) (l : List Nat) (D : DataW Value) : DS := { d with nn := d.nn + l.length, D := D, B := putHomes d.B fr l, count := d.count + l.length }

/-- What writeHomes has done behind the first k keys. -/
structure HInv (w W : World) (d : DS) (v commits turn next f nf : Nat) (count : Int) (F : DataW Value) (fr : Nat → Option By) (nb k : Nat) (p : Option Addr) : Prop where
  vol : IsVol W v (dp d.a) commits turn next (some f) count
  dev : ∃ D, Dev W (d.homedBy fr ((homeKeys fr nb).take k) D)
  fresh : Fresh W f nf F fr
  src : 0 < (homeKeys fr nb).length → ∃ g cur, p = some ⟨g, 0, none⟩ ∧ W.heap[g]? = some (.cells cur 3 (0, 0)) ∧ ∀ (k : Nat) (x : Nat), (homeKeys fr nb)[k]? = some x → cur[k]? = some (.int .i64 x)
  but : But d.mine w W

set_option maxRecDepth 8000 in
set_option maxHeartbeats 4000000 in
theorem writeHomes_any (v : Nat) (commits turn next f nf nb : Nat) (count : Int) (F : DataW Value) (fr : Nat → Option By) (d : DS) (w : World) (h : IsVol w v (dp d.a) commits turn next (some f) count) (hd : Dev w d) (hF : Fresh w f nf F fr) (hfm : f ≠ d.m)
    (hfr : ∀ i, nb ≤ i → fr i = none) (hnb : 1 + nb ≤ d.n) (hnf : nf ≤ 1000000) (hfu : d.fused = false) (hcn : d.count < 800000000) :
    Calls Tryz.prog 119 #[dp v] w fun e w' => e = .returned (.int .i64 0) ∧ But d.mine w w' ∧ ∃ D, Dev w' (d.homedBy fr (homeKeys fr nb) D) := by
  have hle := hd.hn
  have hkeys := fresh_keys hF hfr (by omega)
  have hL := homeKeys_len fr nb
  obtain ⟨L, hLe⟩ : ∃ L, L = homeKeys fr nb := ⟨_, rfl⟩
  rw [← hLe] at hkeys hL
  have hsz : Maps.size F ≤ nf := hF.own.size_le
  refine (callsIn_wide (n := 6)).1 ?_
  have hown := hF.own
  have hbl := hown.lt
  have k4 := cellOf h 4
  simp [volCells] at k4
  have hseq : SeqGives Fence.wide 2 Tryz.prog 143 #[.pointer (some ⟨w.heap.size, 0, none⟩)] encZ (fun ss => ss.Perm (intKeys F)) (Maps.size F) (w.alloc (.cells #[.map (some f)] 83)) :=
    AnyZI.keys_gives (ρ := Tryz.keysB_ren) { Tryz.keysB with } Fence.wide _ trivial rfl (by omega) w.heap.size f nf F _ (by simp) (by simp) (by
      obtain ⟨es, clock, hb, Ft, hs, hD⟩ := hown
      exact ⟨es, clock, (Below.heap_alloc _ _ f hbl).trans hb, Ft, hs, hD⟩)
  have cK : ∀ mb W, CallsIn Fence.wide 5 Tryz.prog 128 #[.map mb] W fun e w' => e = .returned (.func (.func 143) #[] #[.pointer (some ⟨W.heap.size, 0, none⟩)]) ∧ w' = W.alloc (.cells #[.map mb] 83) := fun mb W => AnyZI.keys_in Tryz.keysB Fence.wide 5 trivial rfl mb W
  have cS := AnyZI.sorted_in Tryz.sortedA Fence.wide 5 trivial trivial trivial trivial rfl (by omega) (sortsA _) (enters_of Tryz.func107 (by kernel_rfl) rfl) 143 #[.pointer (some ⟨w.heap.size, 0, none⟩)] trivial (enters_of Tryz.func143 (by kernel_rfl) rfl) _ _ (show Maps.size F ≤ maxLen by unfold maxLen; omega) (show Maps.size F * 8 ≤ _ by omega) _ hseq
  change CallsIn _ _ Tryz.prog 71 _ _ _ at cS
  have cS' : CallsIn Fence.wide 5 Tryz.prog 71 #[.func (.func 143) #[] #[.pointer (some ⟨w.heap.size, 0, none⟩)]] (w.alloc (.cells #[.map (some f)] 83)) fun e w' => ∃ p cp, e = .returned (.slice p L.length cp) ∧ Below w.heap.size w w' ∧
      (0 < L.length → ∃ g cur, p = some ⟨g, 0, none⟩ ∧ w'.heap[g]? = some (.cells cur 3 (0, 0)) ∧ ∀ (k : Nat) (x : Nat), L[k]? = some x → cur[k]? = some (.int .i64 x)) := by
    refine cS.mono ?_
    rintro e w' ⟨u, ss, rfl, hperm, hrow, hnil, hb⟩
    have hk : ss.mergeSort (fun x y => decide (x ≤ y)) = keys F := mergeSort_of_perm_i hperm
    have hlen : ss.length = L.length := by
      have : (ss.mergeSort (fun x y => decide (x ≤ y))).length = L.length := by rw [hk, hkeys]; simp
      simpa using this
    rw [hk, hlen, hkeys] at hrow
    have hB' : Below w.heap.size w w' := ((Below.refl _ w).alloc (Nat.le_refl _) _).trans (hb.mono (by simp))
    obtain ⟨_, hrow⟩ := hrow
    rcases hrow with ⟨rfl, h0⟩ | ⟨g, cap, cur, rfl, hg, hblk, hcap, _, hsz, htk⟩
    · exact ⟨none, 0, by rw [h0], hB', fun hp => by omega⟩
    · refine ⟨_, cap, rfl, hB', fun _ => ⟨g, cur, rfl, hblk, fun k x hx => ?_⟩⟩
      have h1 : (cur.toList.take (L.length * 1))[k]? = some (encZ x) := by rw [htk]; simp [hx]
      rw [List.getElem?_take] at h1
      split at h1
      · simpa [encZ] using h1
      · cases h1
  have hfK : Fence.wide.fn 128 := trivial
  have hfS : Fence.wide.fn 71 := trivial
  have H0 : Hid (IsVol w v (dp d.a) commits turn next (some f) count ∧ Dev w d ∧ Fresh w f nf F fr ∧ L = homeKeys fr nb) := ⟨h, hd, hF, hLe⟩
  clear hown h hd hF hseq cS hkeys hLe
  refine callsIn_of_wp Tryz.func119 rfl trivial ?_ rfl
  simp only [Tryz.ntmps119, List.size_toArray, List.length_cons, List.length_nil, Nat.reduceAdd, Nat.reduceSub, Array.replicate_succ, Array.replicate_zero, List.push_toArray, List.append_toArray, List.nil_append, List.cons_append]
  gi_wp2_with (first
    | (gi_at_call 128; refine (cK _ _).mono ?_; rintro e w' ⟨rfl, rfl⟩)
    | (gi_at_call 71; refine cS'.mono ?_; rintro e w2 ⟨p, cp, rfl, hB2, hsrc⟩; clear cS'))
  have start : Hid (HInv w w2 d v commits turn next f nf count F fr nb 0 p) := by
    obtain ⟨h, hd, hF, hLe⟩ := H0.out
    refine ⟨h.below hB2, ⟨d.D, ?_⟩, hF.below hB2, by rw [← hLe]; exact hsrc, But.of_below hB2⟩
    have e : d.homedBy fr ((homeKeys fr nb).take 0) d.D = d := by unfold DS.homedBy; rw [List.take_zero, putHomes_nil]; simp
    rw [e]
    exact hd.below hB2
  clear hsrc
  refine wpIn_wide.2 ?_
  go_loopw [13] (fun ii wr => ∃ k : Nat, k ≤ L.length ∧ ii = .int .i64 k ∧ Hid (HInv w wr d v commits turn next f nf count F fr nb k p)) (fun ii _ => L.length - (intOf ii).toNat)
  case atStart => exact ⟨0, Nat.zero_le _, rfl, start⟩
  case round =>
    clear start
    obtain ⟨k, hk, rfl, HI⟩ := hrel
    by_cases hlt : k < L.length
    · have hltI : (k : Int) < L.length := by omega
      have hi := HI.out
      have hLe := H0.out.2.2.2
      obtain ⟨i, hx⟩ : ∃ i, L[k]? = some i := ⟨_, List.getElem?_eq_getElem hlt⟩
      have hmem : i ∈ homeKeys fr nb := by rw [← hLe]; exact List.mem_of_getElem? hx
      obtain ⟨hin, hsome⟩ := homeKeys_mem.1 hmem
      obtain ⟨b, hb⟩ : ∃ b, fr i = some b := Option.isSome_iff_exists.1 hsome
      obtain ⟨g3, cur3, hp3, hb3, hc3⟩ := hi.src (by rw [← hLe]; omega)
      subst hp3
      have l3 : wr.cell? ⟨g3, k, none⟩ = some (.int .i64 i) := (cellOf hb3 k).trans (hc3 k _ (by rw [← hLe]; exact hx))
      have y0 : wr.drew.cell? ⟨v, 0, none⟩ = some (dp d.a) := by have := cellOf hi.vol 0; simpa [volCells] using this
      have y4 : wr.drew.cell? ⟨v, 4, none⟩ = some (.map (some f)) := by have := cellOf hi.vol 4; simpa [volCells] using this
      obtain ⟨hbl512, g0, cp0, hat, hcp0, hbb0, _⟩ := hi.fresh.val i b (by omega) hb
      have lk : (Instr.lookup 83 (.map (some f)) (.int .i64 i) false).run Tryz.prog wr.drew = .ok (.slice (some ⟨g0, 0, none⟩) 512 cp0) wr.drew := by
        have hown : wr.drew.ownsMap Tryz.prog 3 slElem f nf F := hi.fresh.own
        obtain ⟨p, n, c, hrun, he⟩ := slook_un hown (i := i) (by omega)
        rw [hat] at he
        simp only [slD, DataW.held.injEq, Value.slice.injEq] at he
        obtain ⟨rfl, rfl, rfl⟩ := he
        exact hrun
      have c16 := fun W => homeOf_any i W (by omega)
      obtain ⟨D, hdk⟩ := hi.dev
      rw [← hLe] at hdk
      have hlk : (L.take k).length = k := by rw [List.length_take]; omega
      have cW : Calls Tryz.prog 77 #[dp d.a, .int .i64 ((1 + i : Nat) : Int), .slice (some ⟨g0, 0, none⟩) 512 cp0] wr.drew fun e w' => e = .returned (.int .i64 0) ∧ Hid (HInv w w' d v commits turn next f nf count F fr nb (k + 1) (some ⟨g3, 0, none⟩)) := by
        refine (dev_write (d.homedBy fr (L.take k) D) (1 + i) b g0 0 cp0 wr.drew hdk.drew (by show 1 + i < d.n; omega) hbl512 hbb0 (by show (d.fused && _) = false; rw [hfu]; rfl) (by show d.count + (L.take k).length < _; rw [hlk]; omega)).mono ?_
        rintro e w' ⟨rfl, hbx, q, _, hdx⟩
        have hbx' : But d.mine wr w' := ⟨hbx.os, hbx.tape, hbx.output, hbx.size, hbx.block⟩
        refine ⟨rfl, hi.vol.but hbx' (fun hm => IsVol.mine (d := d.homedBy fr (L.take k) D) hi.vol hdk hm), ⟨loosened D (1 + i) q, ?_⟩, hi.fresh.but hbx' ?_ (fun k' cs fr' hk' => Dev.other (d := d.homedBy fr (L.take k) D) hdk hk' (by decide) (by decide)), fun hp => ?_, hi.but.trans hbx'⟩
        · rw [← hLe]
          have e2 : (d.homedBy fr (L.take k) D).wrote (1 + i) b (loosened D (1 + i) q) = d.homedBy fr (L.take (k + 1)) (loosened D (1 + i) q) := by
            unfold DS.wrote DS.homedBy
            simp only [putHomes_step d.B fr hx hb, hfu, stepped, hlk]
            have : (L.take (k + 1)).length = k + 1 := by rw [List.length_take]; omega
            rw [this]
            simp [Nat.add_assoc]
            omega
          rw [← e2]
          exact hdx
        · rintro (e | e | e)
          · obtain ⟨es, clock, hm, _⟩ := hi.fresh.own; exact map_cells_ne hm hdk.dev e
          · obtain ⟨es, clock, hm, _⟩ := hi.fresh.own; obtain ⟨_, hr, _⟩ := hdk.row; exact map_cells_ne hm hr e
          · exact hfm e
        · refine ⟨g3, cur3, rfl, (hbx'.block g3 (Array.getElem?_eq_some_iff.1 hb3).1 (Dev.other (d := d.homedBy fr (L.take k) D) hdk hb3 (by decide) (by decide))).trans hb3, hc3⟩
      clear hi hLe hx hmem hin hsome hb hb3 hc3 hat hcp0 hbb0 hdk hlk hbl512
      go_wp2_with fail
      go_region_with (first
        | (go_at_call 45; refine Calls_on (c16 _) ?_)
        | (go_at_call 77; refine cW.mono ?_; rintro e W2 ⟨rfl, HI2⟩))
      all_goals go_wp2
      all_goals go_roundw
      all_goals first | exact ⟨k + 1, by omega, by go_num, HI2⟩ | (simp [intOf]; omega)
    · obtain rfl : k = L.length := by omega
      go_wp2
      gi_wp2
      go_ret
      obtain ⟨D, hD⟩ := HI.out.dev
      rw [← H0.out.2.2.2, List.take_length] at hD
      exact ⟨rfl, HI.out.but, D, by rw [← H0.out.2.2.2]; exact hD⟩

end Go.Proofs.YtlcojcldbdikgaaGreatDoor

/-
  What write of package wal lays on the device, page by page.
-/
namespace Go.Proofs.YtlcojcldbdikgaaGreatDoor
open Go.RowKit Go.Maps Go.Sort Go.Shelf

attribute [local go_sem] Oper.semAt_some

/-- Blocks laid one behind the other. -/
def laidP (B : Nat → By) (nx : Nat) (pg : List By) : Nat → By := fun j => if nx ≤ j then (pg[j - nx]?).getD (B j) else B j
theorem laidP_nil (B : Nat → By) (nx : Nat) : laidP B nx [] = B := by funext j; unfold laidP; split <;> simp
theorem laidP_step (B : Nat → By) (nx : Nat) (pg : List By) (l : By) : upd (laidP B nx pg) (nx + pg.length) l = laidP B nx (pg ++ [l]) := by
  funext j
  unfold upd laidP
  by_cases h : j = nx + pg.length
  · subst h
    rw [if_pos rfl, if_pos (by omega), show nx + pg.length - nx = pg.length by omega]
    simp
  · rw [if_neg h]
    by_cases h2 : nx ≤ j
    · rw [if_pos h2, if_pos h2, List.getElem?_append]
      split
      · rfl
      · rename_i h3
        rw [List.getElem?_eq_none (by omega), List.getElem?_eq_none (by simp; omega)]
    · rw [if_neg h2, if_neg h2]

/-- The device behind some pages. -/
def DS.paged (d : DS) (nx : Nat) (pg : List By) (D : DataW Value) : DS := { d with nn := d.nn + pg.length, D := D, B := laidP d.B nx pg, count := d.count + pg.length }

theorem wpListIn_append_bytes {l n : Nat} {W : World} {ops : Array Oper} {rest : List Oper} {o : Oper} {a : Act} {Q : Exit → Act → World → Prop} (hgd : o.guard = none) (s x : Operand)
    (ho : o.op = .call { callee := .builtin .append, args := #[s, x], argTypes := #[33, 33] })
    (base : Nat) (v : Value) (k : Nat) (xs : List Value) (hs : a.eval s = v) (hown : W.ownsRow base 5 1 v k xs)
    (p : Option Addr) (bs : By) (cp : Nat) (hx : a.eval x = .slice p bs.length cp) (hb : Bytes W p bs) (h63 : k + bs.length ≤ 1099511627776) (hbase : base ≤ W.heap.size)
    (h : ∀ v' w', w'.ownsRow base 5 1 v' (k + bs.length) (xs ++ bs.map u8v) → W.grownBy w' v.ownBlock → wpListIn (Fence.wide.inRound l) n Tryz.prog ops Q rest (a.put o.dst v') w') :
    wpListIn (Fence.wide.inRound l) n Tryz.prog ops Q (o :: rest) a W := by
  refine wpListIn_plain hgd fun K hK => ?_
  obtain ⟨v', w', hr, h2, h3, _⟩ := run_append_bytes (ty := o.type) hown p bs cp hb h63 hbase
  unfold Oper.wpIn
  refine ⟨fun _ _ => trivial, ?_⟩
  rw [Oper.semAt_plain _ _ _ (by rw [ho]; intro c hc'; cases hc')]
  simp only [execOp, ho, resolve, invoke, builtin, Sem.run_bind, Sem.run_pure, Result.andThen_ok, List.map_toArray, List.map_cons, List.map_nil, hs, hx, hr]
  exact hK _ _ (h v' w' h2 h3)

/-- What write has done behind some pages. -/
structure WInv (W1 W : World) (d : DS) (v commits turn nx f b0 : Nat) (g : Nat) (rc : By) (pg : List By) : Prop where
  vol : IsVol W v (dp d.a) commits turn (nx + pg.length) (some f) 0
  dev : ∃ D, Dev W (d.paged nx pg D)
  bV : Boxed W b0 24 (dp v)
  bR : Boxed W (b0 + 1) 36 (.int .i64 0)
  byt : Bytes W (some ⟨g, 0, none⟩) rc
  map : W.heap[f]? = some (.map #[] 0)
  but : But (fun k => k = v ∨ d.mine k) W1 W

theorem WInv.own {β : Type} (W1 : World) (d : DS) (v commits turn nx f b0 g : Nat) (rc : By) (pg : β → List By) (B : Nat) (hB : B = W1.heap.size) (hm : d.m < B) (hf : f < B) :
    OwnFrom B (fun (pre : β) W => WInv W1 W d v commits turn nx f b0 g rc (pg pre)) := by
  rintro s X Y row hi hgr hrow
  have key : ∀ (b : Nat) cs (t : TypeId) fr, X.heap[b]? = some (.cells cs t fr) → Y.heap[b]? = some (.cells cs t fr) := by
    intro b cs t fr hx
    refine (hgr.block b (Array.getElem?_eq_some_iff.1 hx).1 (fun e => ?_)).trans hx
    obtain ⟨_, o, ho, hcell⟩ := hrow b e.symm
    rw [hx] at ho; cases ho; cases hcell
  have keyL : ∀ (b : Nat) o, b < B → X.heap[b]? = some o → Y.heap[b]? = some o := by
    intro b o hb hx
    refine (hgr.block b (Array.getElem?_eq_some_iff.1 hx).1 (fun e => ?_)).trans hx
    have := (hrow b e.symm).1
    omega
  have keyC : ∀ (b j : Nat) x, X.cell? ⟨b, j, none⟩ = some x → Y.cell? ⟨b, j, none⟩ = some x := by
    intro b j x hx
    refine hgr.cell hx (fun e => ?_)
    obtain ⟨_, o, ho, hcell⟩ := hrow b e.symm
    simp only [World.cell?, ho] at hx
    cases o <;> simp [Obj.isCells] at hcell hx
  have hbut : But (fun k => some k = row) X Y := But.of_grown hgr (fun k e => e.symm)
  refine ⟨key _ _ _ _ hi.vol, ?_, key _ _ _ _ hi.bV, key _ _ _ _ hi.bR, fun hp => ?_, keyL _ _ hf hi.map, ?_⟩
  · obtain ⟨D, hD⟩ := hi.dev
    refine ⟨D, hD.but hbut (fun k hk e => ?_) (fun g l hg e => ?_)⟩
    · obtain ⟨hBk, o, ho, hcell⟩ := hrow k e.symm
      rcases hk with rfl | rfl | rfl
      · have := hD.dev; rw [IsDevAt] at this; rw [show X.heap[(d.paged nx (pg s) D).a]? = some o from ho] at this; cases this; cases hcell
      · obtain ⟨_, hr, _⟩ := hD.row; rw [show X.heap[(d.paged nx (pg s) D).s]? = some o from ho] at hr; cases hr; cases hcell
      · have : d.m = (d.paged nx (pg s) D).m := rfl
        omega
    · obtain ⟨_, o, ho, hcell⟩ := hrow g e.symm
      rw [hg] at ho; cases ho; cases hcell
  · obtain ⟨b, o, e, hx⟩ := hi.byt hp
    exact ⟨b, o, e, fun j x hj => keyC _ _ _ (hx j x hj)⟩
  · refine ⟨hgr.os.trans hi.but.os, hgr.tape.trans hi.but.tape, hgr.output.trans hi.but.output, Nat.le_trans hi.but.size hgr.size, fun k hk hn => (hgr.block k (Nat.lt_of_lt_of_le hk hi.but.size) (fun e => ?_)).trans (hi.but.block k hk hn)⟩
    have := (hrow k e.symm).1
    omega

end Go.Proofs.YtlcojcldbdikgaaGreatDoor

namespace Go.Proofs.YtlcojcldbdikgaaGreatDoor
open Go.RowKit Go.Maps Go.Sort Go.Shelf

attribute [local go_sem] Oper.semAt_some

/-- Other cells are none of the volume's nor of its device's. -/
theorem away {w : World} {d : DS} {v : Nat} {pd : Option Addr} {commits turn next : Nat} {f : Option Nat} {count : Int} (h : IsVol w v (.pointer pd) commits turn next f count) (hd : Dev w d) {k : Nat} {cs : Array Value} {t : TypeId} {fr : Nat × Nat}
    (hk : w.heap[k]? = some (.cells cs t fr)) (h1 : t ≠ 106) (h2 : t ≠ 103) (h3 : t ≠ 85) : ¬ (k = v ∨ d.mine k) := by
  rintro (rfl | hm)
  · have := h; rw [IsVol, hk] at this; simp at this; exact h3 this.2.1
  · exact hd.other hk h1 h2 hm

theorem pieces_rec (N : Nat) : pagesFor N = pieces (8 + N * 520) 496 := by unfold pagesFor pieces; rfl
end Go.Proofs.YtlcojcldbdikgaaGreatDoor
