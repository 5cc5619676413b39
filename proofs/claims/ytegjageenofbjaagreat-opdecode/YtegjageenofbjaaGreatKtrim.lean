/-
  A vector without the zeros at its end.
-/
import Derived.Test.YtegjageenofbjaaGreatKbase
namespace Go.Proofs.YtegjageenofbjaaGreat.Cd
open Go.RowKit

/-- How many of the first k are left without the zeros at the end. -/
def tl (ns : List Int) : Nat → Nat
  | 0 => 0
  | k + 1 => if ns[k]? = some 0 then tl ns k else k + 1
theorem tl_le (ns : List Int) : ∀ k, tl ns k ≤ k
  | 0 => Nat.le_refl _
  | k + 1 => by
    rw [tl]; split
    · exact Nat.le_succ_of_le (tl_le ns k)
    · exact Nat.le_refl _
def lenV : Value → Nat | .slice _ n _ => n | _ => 0

set_option maxRecDepth 8000 in
set_option maxRecDepth 8000 in
set_option maxHeartbeats 400000 in
theorem withoutEnd_any (p : Option Addr) (ns : List Int) (cp : Nat) (w : World) (hl : ns.length ≤ cp) (hl1 : ns.length ≤ 1000) (hp : Lies w p (ns.map iv)) :
    Calls Tryz.prog 68 #[.slice p ns.length cp] w fun e w' => e = .returned (.slice p (tl ns ns.length) cp) ∧ w' = w := by
  have HP : Hid (Lies w p (ns.map iv)) := hp
  clear hp
  go_enter Tryz.func68, Tryz.ntmps68
  go_wp2_with fail
  go_loopw [0] (fun vv wr => ∃ k : Nat, vv = .slice p k cp ∧ k ≤ ns.length ∧ Hid (tl ns k = tl ns ns.length) ∧ wr = w) (fun vv _ => lenV vv)
  case atStart => exact ⟨_, rfl, Nat.le_refl _, rfl, rfl⟩
  case round =>
    obtain ⟨k, rfl, hk, HE, rfl⟩ := hrel
    cases k with
    | zero =>
      go_wp2
      go_ret
      refine ⟨?_, rfl⟩
      have := HE.out
      rw [tl] at this
      rw [← this]
      rfl
    | succ k =>
      obtain ⟨b, o, rfl, hc⟩ := HP.out (by simp; omega)
      obtain ⟨x, hx⟩ : ∃ x, ns[k]? = some x := ⟨_, List.getElem?_eq_getElem (by omega)⟩
      have c1 := hc k (iv x) (by rw [List.getElem?_map, hx]; rfl)
      have HX : Hid (ns[k]? = some x) := hx
      clear hc hx
      by_cases hz : x = 0
      · subst hz
        go_wp2
        go_roundw
        case rel =>
          refine ⟨k, by simp, by omega, ?_, trivial⟩
          have := HE.out
          rw [tl, if_pos HX.out] at this
          exact this
        case measure => simp [lenV]
      · have hz' : (x == 0) = false := by simpa using hz
        go_wp2
        go_ret
        refine ⟨?_, rfl⟩
        have := HE.out
        rw [tl, if_neg (by rw [HX.out]; intro e; cases e; exact hz rfl)] at this
        rw [← this]
        rfl

end Go.Proofs.YtegjageenofbjaaGreat.Cd
