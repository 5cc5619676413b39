/-
  Paths: Above; the document's Parse.
-/
import Derived.Test.YtjggnmeeeofepaaDoorKTpd

namespace Go.Proofs.YtjggnmeeeofepaaDoor.Ck.Sh
open Go.RowKit Go.Lib

attribute [local go_sem] Oper.semAt_some

theorem getD_bas {names : List (List UInt8)} {j : Nat} (h : j < names.length) : ∃ x, names[j]? = some x ∧ (names.map bas).getD j ByteArray.empty = bas x := by
  refine ⟨names[j], List.getElem?_eq_getElem h, ?_⟩
  rw [List.getD_eq_getElem?_getD, List.getElem?_map, List.getElem?_eq_getElem h]
  rfl
theorem map_bas_inj {a b : List (List UInt8)} (h : a.map bas = b.map bas) : a = b := by rw [← map_bas a, h, map_bas]
/-- Two rows of as many texts are held against each other. -/
theorem eqs_any (a b : List (List UInt8)) (hab : a.length = b.length) (p1 p2 : Option Addr) (c1 c2 : Nat) (hl : a.length < 1000000000000) (w : World) (h1 : Nms w p1 a) (h2 : Nms w p2 b) :
    Calls Tryd.prog 20 #[.slice p1 a.length c1, .slice p2 a.length c2] w fun e w' => e = .returned (.bool (decide (a = b))) ∧ Below w.heap.size w w' := by
  by_cases h0 : a = []
  · subst h0
    have hb : b = [] := List.length_eq_zero_iff.1 hab.symm
    subst hb
    exact (Any.slices_Equal_string_empty Tryd.lays193 p1 p2 c1 0 c2 w (by decide)).mono fun e w' ⟨he, hw⟩ => ⟨he, hw ▸ Below.refl _ _⟩
  · have hb0 : b ≠ [] := fun e => h0 (List.length_eq_zero_iff.1 (by rw [hab, e]; rfl))
    obtain ⟨g1, o1, rfl, _⟩ := h1.some h0
    obtain ⟨g2, o2, rfl, _⟩ := h2.some hb0
    have ce := Any.slices_Equal_string Tryd.lays193 g1 o1 a.length c1 g2 o2 a.length c2 (a.map bas) (b.map bas) w (by simp) (by rw [List.length_map, hab]; exact Nat.le_refl _) (by omega) (by omega)
      (fun j hj => by
        obtain ⟨x, hx, e⟩ := getD_bas (names := a) (by simpa using hj)
        rw [e]
        exact h1.at hx)
      (fun j hj => by
        obtain ⟨x, hx, e⟩ := getD_bas (names := b) (by simpa using hj)
        rw [e]
        exact h2.at hx)
    refine ce.mono fun e w' ⟨he, q, hw⟩ => ⟨?_, hw ▸ below_drewN w q⟩
    rw [he]
    have e1 : (a.map bas).take a.length = a.map bas := List.take_of_length_le (by simp)
    have e2 : (b.map bas).take a.length = b.map bas := List.take_of_length_le (by rw [List.length_map, hab]; exact Nat.le_refl _)
    rw [e1, e2]
    refine congrArg (fun b => Ending.returned (Value.bool b)) ?_
    by_cases hq : a = b
    · rw [decide_eq_true hq, decide_eq_true (by rw [hq])]
    · rw [decide_eq_false hq, decide_eq_false (fun e => hq (map_bas_inj e))]

/-- Is a a front of b, and shorter? -/
def aboveB (a b : List (List UInt8)) : Bool := decide (a.length < b.length) && decide (a = b.take a.length)
set_option maxRecDepth 8000 in
set_option maxHeartbeats 1000000 in
theorem above_any (a b : List (List UInt8)) (p1 p2 : Option Addr) (c1 c2 : Nat) (hl : a.length < 1000000000000) (hc : b.length ≤ c2) (w : World) (h1 : Nms w p1 a) (h2 : Nms w p2 b) :
    Calls Tryd.prog 12 #[.slice p1 a.length c1, .slice p2 b.length c2] w fun e w' => e = .returned (.bool (aboveB a b)) ∧ Below w.heap.size w w' := by
  by_cases hlt : a.length < b.length
  · have hltI : (a.length : Int) < (b.length : Int) := by omega
    have hlc : (a.length : Int) ≤ (c2 : Int) := by omega
    have hlcN : a.length ≤ c2 := by omega
    have ce := eqs_any a (b.take a.length) (by simp; omega) p1 p2 c1 c2 hl w h1 (h2.take _)
    have HE : Hid (aboveB a b = decide (a = b.take a.length)) := by show _ = _; unfold aboveB; rw [decide_eq_true hlt, Bool.true_and]
    generalize decide (a = b.take a.length) = r at ce HE
    generalize a.length = n at *
    clear h1 h2 hlt
    go_enter Tryd.func12, Tryd.ntmps12
    go_wp2_with (go_at_call 20; refine ce.mono ?_; rintro e w1 ⟨rfl, hb1⟩; have b1 := Lib.hid hb1; clear hb1 ce)
    go_ret
    rw [HE.out]
    exact ⟨rfl, b1.out⟩
  · have hltI : ¬ (a.length : Int) < (b.length : Int) := by omega
    have HE : Hid (aboveB a b = false) := by show _ = _; unfold aboveB; rw [decide_eq_false hlt, Bool.false_and]
    clear h1 h2 hlt
    go_enter Tryd.func12, Tryd.ntmps12
    go_wp2_with fail
    go_ret
    rw [HE.out]
    exact ⟨rfl, Below.refl _ _⟩

end Go.Proofs.YtjggnmeeeofepaaDoor.Ck.Sh
