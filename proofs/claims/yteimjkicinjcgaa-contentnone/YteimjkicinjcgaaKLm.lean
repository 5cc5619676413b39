/-
  see, put.
-/
import Derived.Test.YteimjkicinjcgaaKLk

namespace Go.Proofs.Yteimjkicinjcgaa.Ck.Y.L
open Go.RowKit Go.Maps Go.Lib

theorem FMem.seenAfter {w W : World} {fb : Nat} {E : List KP} {sn : List Int} {H : List VG} {mv : Value} {sp : Option Addr} {sc : Nat} {hv : Value} (h : FMem w fb E sn H mv sp sc hv) (hO : Only (fun b => hv.ownBlock = some b) w W) : SeenF W fb sn := by
  have hh : Hard w (fun b => hv.ownBlock = some b) := fun b hb => h.hard b (.inr (.inr hb))
  exact ⟨sp, sc, cellOf ((hO.block fb (block_lt h.blk) h.rowne).trans h.blk) 1, (own_lies (own_kept h.sown hO fun b hb cs t ht => (hh b hb cs t ht).1)).1⟩
theorem FMem.headsAfter {w W : World} {fb : Nat} {E : List KP} {sn : List Int} {H : List VG} {mv : Value} {sp : Option Addr} {sc : Nat} {hv : Value} (h : FMem w fb E sn H mv sp sc hv) (hO : Only (fun b => hv.ownBlock = some b) w W) : ∀ x ∈ H, VOwn W 0 x :=
  fun x hx => (h.hown x hx).kept hO fun b hb => h.hard b (.inr (.inr hb))

/-- What was seen behind a version that has seen ns. -/
def seeN (sn ns : List Int) : List Int := if Vc.leqB ns sn then sn else Vc.vec (Vc.maxAt [sn, ns])

set_option maxRecDepth 8000 in
set_option maxHeartbeats 2000000 in
theorem see_any {w : World} {fb : Nat} {E : List KP} {sn : List Int} {H : List VG} {mv : Value} {sp : Option Addr} {sc : Nat} {hv : Value} (h : FMem w fb E sn H mv sp sc hv) (hk : ∀ x ∈ H, seenB x.sq x.n sn = false)
    (q : Option Addr) (ns : List Int) (ml mc : Nat) (hml : ns.length = ml) (hq : Cd.Lies w q (ns.map Cd.iv)) :
    Calls Try.prog 29 #[.pointer (some ⟨fb, 0, none⟩), .slice q ml mc] w fun e w' => e = .returned (.tuple #[]) ∧ ∃ sp' sc' hv', FMem w' fb E (seeN sn ns) (H.filter (keepV (seeN sn ns))) mv sp' sc' hv' ∧ Only (Foot fb mv hv) w w' ∧ hv'.ownBlock = hv.ownBlock := by
  have HH : Hid (FMem w fb E sn H mv sp sc hv) := h
  have c1 := Vc.leq_any q sp ns sn mc sc w hq (own_lies h.sown).1
  rw [hml] at c1
  have f1 : w.cell? ⟨fb, 1, none⟩ = some (.slice sp sn.length sc) := cellOf h.blk 1
  have f2 : w.cell? ⟨fb, 2, none⟩ = some hv := cellOf h.blk 2
  have g1 := frozenOf h.blk 1
  cases hl : Vc.leqB ns sn with
  | true =>
    rw [hl] at c1
    have e1 : seeN sn ns = sn := by unfold seeN; rw [hl]; rfl
    have e2 : H.filter (keepV sn) = H := List.filter_eq_self.2 fun x hx => by unfold keepV; rw [hk x hx]; rfl
    rw [e1, e2]
    clear h hk hq e1 e2 hl f2 g1
    generalize sn.length = sl at *
    go_enter Try.func29, Try.ntmps29
    go_wp2_with (go_at_call 50; refine Calls_on c1 ?_; clear c1)
    refine bodyPost_ret (results_none rfl _ _ _) rfl ?_
    exact ⟨rfl, sp, sc, hv, HH.out, Only.refl _ _, rfl⟩
  | false =>
    rw [hl] at c1
    have e1 : seeN sn ns = Vc.vec (Vc.maxAt [sn, ns]) := by unfold seeN; rw [hl]; rfl
    rw [e1]
    obtain ⟨S2, hS2⟩ : ∃ S2, Vc.vec (Vc.maxAt [sn, ns]) = S2 := ⟨_, rfl⟩
    rw [hS2]
    have hS2l : S2.length ≤ 64 := by rw [← hS2]; exact Vc.vec_le _
    obtain ⟨A, hA⟩ : ∃ A, A = w.alloc (.cells #[.slice sp sn.length sc, .slice q ml mc] 33) := ⟨_, rfl⟩
    have bA : Below w.heap.size w A := by rw [hA]; exact (below_new w _).out
    have kA : A.heap[w.heap.size]? = some (.cells #[.slice sp sn.length sc, .slice q ml mc] 33 (0, 0)) := by rw [hA]; exact heap_alloc_new w _
    have HM : Hid (Calls Try.prog 51 #[.slice (some ⟨w.heap.size, 0, none⟩) 2 2] A (Vc.AnsO A S2)) := by
      have := Vc.max_own (some ⟨w.heap.size, 0, none⟩) [sn, ns] 2 A (by simp) (fun j v hv => by
        match j with
        | 0 => simp at hv; subst hv; exact ⟨w.heap.size, 0, sp, sc, rfl, cellOf kA 0, Cd.below_lies bA (own_lies h.sown).1⟩
        | 1 => simp at hv; subst hv; exact ⟨w.heap.size, 0, q, mc, rfl, by rw [← hml] at kA; exact cellOf kA 1, Cd.below_lies bA hq⟩
        | j + 2 => simp at hv)
      rw [hS2] at this
      exact this
    have HA : Hid (A = w.alloc (.cells #[.slice sp sn.length sc, .slice q ml mc] 33)) := hA
    have HB : Hid (FMem A fb E sn H mv sp sc hv ∧ Below w.heap.size w A) := ⟨h.below bA, bA⟩
    have HL : Hid (S2.length ≤ 64) := hS2l
    have HX : Hid (H.length ≤ 900) := h.hl
    clear h hk hq e1 hl hS2 hS2l bA kA hA
    go_enter Try.func29, Try.ntmps29
    go_wp2_with (first
      | (go_at_call 50; refine Calls_on c1 ?_; clear c1)
      | (go_at_call 51; rw [← HA.out]; refine HM.out.mono ?_; clear HM; rintro e w2 ⟨p2, c2, rfl, ho, hb⟩; have F2 := HB.out.1.below hb; have F3 := F2.setSeen (Vc.own_base ho (Nat.zero_le _)) HL.out; have H3 : Hid (FMem (w2.setCell ⟨fb, 1, none⟩ (.slice p2 S2.length c2)) fb E S2 H mv p2 c2 hv ∧ Only (fun b => b = fb) w2 (w2.setCell ⟨fb, 1, none⟩ (.slice p2 S2.length c2)) ∧ Below w.heap.size w w2) := ⟨F3.1, F3.2, below_thenH HB.out.2 hb⟩; have k1 : w2.cell? ⟨fb, 1, none⟩ = some (.slice sp sn.length sc) := cellOf F2.blk 1; have k2 := frozenOf F2.blk 1; have k3 : (w2.setCell ⟨fb, 1, none⟩ (.slice p2 S2.length c2)).cell? ⟨fb, 2, none⟩ = some hv := cellOf F3.1.blk 2; clear F2 F3 ho hb f1 f2 g1)
      | (go_at_call 52; refine (del_any fb S2 0 hv H _ H3.out.1.hrow (Nat.le_trans HX.out (by decide)) (fun W hW => H3.out.1.seenAfter hW)).mono ?_; rintro e w4 ⟨v4, rfl, hr4, ho4, hv4⟩; obtain ⟨p4, c4, rfl, _⟩ := hr4.shape; have F5 := H3.out.1.setHeads ho4 hr4 (fun x hx => H3.out.1.headsAfter ho4 x (List.mem_filter.1 hx).1) (Nat.le_trans (List.length_filter_le _ _) HX.out); have H5 : Hid (FMem (w4.setCell ⟨fb, 2, none⟩ (.slice p4 (H.filter (keepV S2)).length c4)) fb E S2 (H.filter (keepV S2)) mv p2 c2 (.slice p4 (H.filter (keepV S2)).length c4) ∧ Only (Foot fb mv hv) (w2.setCell ⟨fb, 1, none⟩ (.slice p2 S2.length c2)) (w4.setCell ⟨fb, 2, none⟩ (.slice p4 (H.filter (keepV S2)).length c4)) ∧ (Value.slice p4 (H.filter (keepV S2)).length c4).ownBlock = hv.ownBlock) := ⟨F5.1, F5.2, hv4⟩; have k4 := (ho4.block fb (block_lt H3.out.1.blk) H3.out.1.rowne).trans H3.out.1.blk; have k5 : w4.cell? ⟨fb, 2, none⟩ = some hv := cellOf k4 2; have k6 := frozenOf k4 2; clear F5 k4 hr4 ho4 hv4 k1 k2 k3))
    go_end0
    refine ⟨rfl, p2, c2, _, H5.out.1, ?_, H5.out.2.2⟩
    exact ((Below.only H3.out.2.2 _).next (only_subV H3.out.2.1 fun b hb => .inl hb)).next H5.out.2.1

end Go.Proofs.Yteimjkicinjcgaa.Ck.Y.L
