/-
  recordOf of package wal.
-/
import Derived.Test.YtphedokdckoccaaGreatDoorWnumb
namespace Go.Proofs.YtphedokdckoccaaGreatDoor
open Go.RowKit Go.Maps Go.Sort Go.Shelf

/-- A record as far as i of its puts are written. -/
def recUpto (pm : List PutM) (i : Nat) : By := le8 pm.length ++ ((recOf (pm.take i)).map fun p => le8 p.1 ++ p.2).flatten
theorem recUpto_all (pm : List PutM) : recUpto pm pm.length = recBytes (recOf pm) := by
  unfold recUpto recBytes
  rw [List.take_length]
  simp [recOf]
theorem recUpto_step (pm : List PutM) (i : Nat) (x : PutM) (hx : pm[i]? = some x) : recUpto pm (i + 1) = recUpto pm i ++ le8 x.block.toNat ++ x.bytes := by
  unfold recUpto recOf
  rw [List.take_add_one, hx]
  simp
theorem recUpto_length (pm : List PutM) (i : Nat) (hi : i ≤ pm.length) (h : ∀ (j : Nat) (x : PutM), pm[j]? = some x → x.bytes.length = 512) : (recUpto pm i).length = 8 + i * 520 := by
  induction i with
  | zero => simp [recUpto, recOf, le8_length]
  | succ i ih =>
    obtain ⟨x, hx⟩ : ∃ x, pm[i]? = some x := ⟨_, List.getElem?_eq_getElem (by omega)⟩
    rw [recUpto_step pm i x hx, List.length_append, List.length_append, le8_length, ih (by omega), h i x hx]
    omega

/-- A block of another type than the row's is kept. -/
theorem Mine.keep {v v' : Value} {w w' : World} {base n : Nat} {xs : List Value} (h : Mine v v' w w') (hown : w.ownsRow base 5 1 v n xs) {b : Nat} {cs : Array Value} {t : TypeId} {fr : Nat × Nat} (hb : w.heap[b]? = some (.cells cs t fr)) (ht : t ≠ 5) : w'.heap[b]? = some (.cells cs t fr) := by
  refine (h.1.block b (Array.getElem?_eq_some_iff.1 hb).1 (fun e => ?_)).trans hb
  rcases hown.2 with ⟨rfl, _⟩ | ⟨g, cap, cur, rfl, _, hg, _⟩
  · cases e
  · simp [Value.ownBlock] at e
    subst e
    rw [hb] at hg
    simp at hg
    exact ht hg.2.1

set_option maxRecDepth 8000 in
set_option maxHeartbeats 2000000 in
theorem recordOf_any (q : Option Addr) (pm : List PutM) (c nb : Nat) (w : World) (hps : PutsAt w q pm) (hg : pm.all (goodPut nb) = true) (hnb : nb ≤ 1000000) (hl1 : pm.length ≤ nb) :
    Calls Tryz.prog 148 #[.slice q pm.length c] w fun e w' => ∃ g cap, e = .returned (.slice (some ⟨g, 0, none⟩) (8 + pm.length * 520) cap) ∧ 8 + pm.length * 520 ≤ cap ∧ Bytes w' (some ⟨g, 0, none⟩) (recBytes (recOf pm)) ∧ Below w.heap.size w w' ∧ w.heap.size ≤ g := by
  obtain ⟨i0, hi0, hz0, hz1, hz2⟩ := info_parts Tryz.info5
  have hgood : ∀ (j : Nat) (x : PutM), pm[j]? = some x → 0 ≤ x.block ∧ x.block < nb ∧ x.bytes.length = 512 := by
    intro j x hj
    have := (List.all_eq_true.1 hg) x (List.mem_of_getElem? hj)
    unfold goodPut at this
    simp at this
    exact ⟨this.1.1, this.1.2, this.2⟩
  have HG : Hid (∀ (j : Nat) (x : PutM), pm[j]? = some x → 0 ≤ x.block ∧ x.block < nb ∧ x.bytes.length = 512) := hgood
  have HP : Hid (PutsAt w q pm) := hps
  have c54 : ∀ W : World, W.ownsRow w.heap.size 5 1 (.slice (some ⟨w.heap.size, 0, none⟩) 0 (8 + pm.length * 520)) 0 [] → Below w.heap.size w W → Calls Tryz.prog 149 #[.slice (some ⟨w.heap.size, 0, none⟩) 0 (8 + pm.length * 520), .int .i64 pm.length] W fun e w' => ∃ v', e = .returned v' ∧ w'.ownsRow w.heap.size 5 1 v' 8 ((recUpto pm 0).map u8v) ∧ Below w.heap.size w w' := by
    intro W hW hB
    refine (appendNumber_any _ 0 [] pm.length w.heap.size W hW (by omega) (by omega) hB.size).mono ?_
    rintro e w' ⟨v', rfl, h1, h2⟩
    refine ⟨v', rfl, ?_, hB.trans h2⟩
    simpa [recUpto, recOf] using h1
  clear hps hg hgood
  go_enter Tryz.func148, Tryz.ntmps148
  go_wp2_with (first
    | (at_make; refine wpList_make_own _ rfl _ _ 55 rfl w.heap.size 5 i0 (.int .u8 0) 1 Tryz.underlying55 hi0 hz0 hz1 .i64 .i64 _ (8 + pm.length * 520) rfl rfl (by go_num) (by rw [hz2]; omega) (by unfold maxLen; omega) (Nat.le_refl _) ?_; intro w1 hrow1 hg1; have c54' := c54 w1 hrow1 ((Below.refl _ w).grown hg1 (Nat.le_refl _) (by simp)); clear hrow1 hg1 c54)
    | (go_at_call 149; refine c54'.mono ?_; rintro e w2 ⟨v2, rfl, hr2, hB2⟩; clear c54'; have HJ2 : Hid (w2.ownsRow w.heap.size 5 1 v2 8 ((recUpto pm 0).map u8v) ∧ Below w.heap.size w w2) := ⟨hr2, hB2⟩; clear hr2 hB2))
  go_loopw [3, 17] (fun vv ii wr => ∃ i : Nat, ii = .int .i64 i ∧ i ≤ pm.length ∧ Hid (wr.ownsRow w.heap.size 5 1 vv (8 + i * 520) ((recUpto pm i).map u8v) ∧ Below w.heap.size w wr)) (fun _ ii _ => pm.length - (intOf ii).toNat)
  case atStart => exact ⟨0, rfl, Nat.zero_le _, HJ2.out.1, HJ2.out.2⟩
  case round =>
    obtain ⟨i, rfl, hi, HJ⟩ := hrel
    obtain ⟨p0, l0, c0, hv⟩ : ∃ p l c, u3 = Value.slice p l c := by
      rcases HJ.out.1.2 with ⟨e, _⟩ | ⟨g, cap, cur, e, _⟩ <;> exact ⟨_, _, _, e⟩
    subst hv
    by_cases hlt : i < pm.length
    · have hltI : (i : Int) < pm.length := by omega
      have hpi := HP.out.but (S := fun k => w.heap.size ≤ k) ⟨HJ.out.2.os, HJ.out.2.tape, HJ.out.2.output, HJ.out.2.size, fun k hk _ => HJ.out.2.block k hk⟩ (fun k cs t fr hk _ => by have := (Array.getElem?_eq_some_iff.1 hk).1; omega)
      obtain ⟨b, o, rfl, _, hx⟩ := hpi.1 (by omega)
      obtain ⟨x, hxi⟩ : ∃ x, pm[i]? = some x := ⟨_, List.getElem?_eq_getElem hlt⟩
      obtain ⟨hg0, hg1, hg2⟩ := HG.out i x hxi
      obtain ⟨y0, y1⟩ := hx i x hxi
      obtain ⟨bn, hbn⟩ : ∃ bn : Nat, x.block = (bn : Int) := ⟨x.block.toNat, by omega⟩
      rw [hbn] at y0
      rw [hg2] at y1
      obtain ⟨s, so, hs, hsx⟩ := (hpi.2 i x hxi).2.1 (by omega)
      rw [hs] at y1
      obtain ⟨w3, hw3⟩ : ∃ w3, w3 = wr.alloc (.cells #[.int .i64 (bn : Nat), .slice (some ⟨s, so, none⟩) 512 x.cap] 91) := ⟨_, rfl⟩
      have hB3 : Below wr.heap.size wr w3 := by rw [hw3]; exact (Below.refl _ wr).alloc (Nat.le_refl _) _
      have hb3 : w3.heap[wr.heap.size]? = some (.cells #[.int .i64 (bn : Nat), .slice (some ⟨s, so, none⟩) 512 x.cap] 91 (0, 0)) := by rw [hw3]; exact heap_alloc_new wr _
      have x0 := cellOf hb3 0
      have x1 := cellOf hb3 1
      simp at x0 x1
      have hown3 := own_below HJ.out.1 hB3
      have hBB : Below w.heap.size w w3 := HJ.out.2.trans (hB3.mono HJ.out.2.size)
      have c54 := appendNumber_own (.slice p0 l0 c0) (8 + i * 520) (recUpto pm i) bn w.heap.size w3 hown3 (by omega) (by omega) hBB.size
      have hslt : s < w.heap.size := by
        obtain ⟨s', so', e, hx'⟩ := (HP.out.2 i x hxi).2.1 (by omega)
        rw [hs] at e
        cases e
        obtain ⟨y, hy⟩ : ∃ y, x.bytes[0]? = some y := ⟨_, List.getElem?_eq_getElem (by omega)⟩
        exact cell_lt (hx' 0 y hy)
      have hsb : Bytes w (some ⟨s, so, none⟩) x.bytes := by rw [← hs]; exact (HP.out.2 i x hxi).2.1
      have HX : Hid (pm[i]? = some x ∧ x.block = (bn : Int) ∧ x.bytes.length = 512 ∧ Below w.heap.size w w3 ∧ w3.heap[wr.heap.size]? = some (.cells #[.int .i64 (bn : Nat), .slice (some ⟨s, so, none⟩) 512 x.cap] 91 (0, 0))) := ⟨hxi, hbn, hg2, hBB, hb3⟩
      have HSB : Hid (Bytes w (some ⟨s, so, none⟩) x.bytes) := hsb
      have hwr : w.heap.size ≤ wr.heap.size := HJ.out.2.size
      have h512 : x.bytes.length = 512 := hg2
      clear hx hxi hg0 hg1 hbn hs hsx hpi hBB hb3 hsb hg2 hB3
      have HOWN : Hid (w3.ownsRow w.heap.size 5 1 (.slice p0 l0 c0) (8 + i * 520) ((recUpto pm i).map u8v)) := hown3
      clear hown3
      go_wp2_with fail
      rw [← hw3]
      refine c54.mono ?_
      clear c54
      rintro e w4 ⟨v4, rfl, hr4, hB4, hM4⟩
      have hb4 := hM4.keep HOWN.out HX.out.2.2.2.2 (by decide)
      have x4 := cellOf hb4 1
      simp at x4
      have hBB4 : Below w.heap.size w w4 := HX.out.2.2.2.1.trans hB4
      obtain ⟨g4, cap4, rfl, _⟩ := hr4.form (by omega)
      have HR4 : Hid (w4.ownsRow w.heap.size 5 1 (.slice (some ⟨g4, 0, none⟩) (8 + i * 520 + 8) cap4) (8 + i * 520 + 8) ((recUpto pm i ++ le8 bn).map u8v) ∧ Below w.heap.size w w4 ∧ Bytes w4 (some ⟨s, so, none⟩) x.bytes) := ⟨hr4, hBB4, below_bytes hBB4 HSB.out⟩
      clear hr4 hB4 hM4 hb4 hBB4 hw3 x0 x1
      go_wp2_with (at_builtin; refine wpList_append_bytes rfl _ _ rfl w.heap.size _ (8 + i * 520 + 8) _ rfl HR4.out.1 (some ⟨s, so, none⟩) x.bytes x.cap (by rw [h512]; rfl) HR4.out.2.2 (by rw [h512]; omega) HR4.out.2.1.size ?_; intro v5 w5 hown5 hg5 _)
      rw [← List.map_append, h512] at hown5
      obtain ⟨g5, cap5, rfl, _⟩ := hown5.form (by omega)
      have HW5 : Hid (w5.ownsRow w.heap.size 5 1 (.slice (some ⟨g5, 0, none⟩) (8 + i * 520 + 8 + 512) cap5) (8 + i * 520 + 8 + 512) ((recUpto pm i ++ le8 bn ++ x.bytes).map u8v) ∧ Below w.heap.size w w5) := ⟨hown5, HR4.out.2.1.grown hg5 HR4.out.2.1.size (owns_block HR4.out.1)⟩
      clear hown5 hg5
      go_wp2
      go_roundw
      case rel =>
        refine ⟨i + 1, by go_num, by omega, ?_, HW5.out.2⟩
        have e1 : recUpto pm (i + 1) = recUpto pm i ++ le8 bn ++ x.bytes := by rw [recUpto_step pm i x HX.out.1, HX.out.2.1]; rfl
        have := HW5.out.1
        rw [← e1] at this
        rw [show 8 + (i + 1) * 520 = 8 + i * 520 + 8 + 512 by omega]
        exact this
      case measure => simp [intOf]; omega
    · obtain rfl : i = pm.length := by omega
      have hown := HJ.out.1
      rw [recUpto_all] at hown
      obtain ⟨g, cap, e, hg, hb⟩ := owns_bytes hown (by omega)
      have hcap : 8 + pm.length * 520 ≤ cap := by
        rcases hown.2 with ⟨e', _⟩ | ⟨g', cap', cur', e', _, _, hcap, _⟩
        · rw [e] at e'; cases e'
        · rw [e] at e'; cases e'; exact hcap
      have HZ : Hid (Bytes wr (some ⟨g, 0, none⟩) (recBytes (recOf pm)) ∧ Below w.heap.size w wr) := ⟨hb, HJ.out.2⟩
      clear hown hb
      rw [e]
      go_wp2
      go_ret
      exact ⟨g, _, rfl, hcap, HZ.out.1, HZ.out.2, hg⟩

end Go.Proofs.YtphedokdckoccaaGreatDoor
