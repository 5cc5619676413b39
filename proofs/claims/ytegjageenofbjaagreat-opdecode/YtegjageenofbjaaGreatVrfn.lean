/-
  The document's own text: short, Norm, With, Max, Min, each a vector in normal form.
-/
import Derived.Test.YtegjageenofbjaaGreatVcmp
namespace Go.Proofs.YtegjageenofbjaaGreat.Vc
open Go.RowKit

set_option maxRecDepth 8000 in
set_option maxRecDepth 8000 in
set_option maxHeartbeats 400000 in
theorem short_any (g : Nat) (ns : List Int) (cp : Nat) (w : World) (hl : ns.length ≤ cp) (hl1 : ns.length ≤ 1000) (hp : Lies w (some ⟨g, 0, none⟩) (ns.map iv)) :
    Calls Tryz.prog 92 #[.slice (some ⟨g, 0, none⟩) ns.length cp] w fun e w' => e = .returned (.slice (some ⟨g, 0, none⟩) (tl ns ns.length) (tl ns ns.length)) ∧ w' = w := by
  have HP : Hid (Lies w (some ⟨g, 0, none⟩) (ns.map iv)) := hp
  clear hp
  go_enter Tryz.func92, Tryz.ntmps92
  go_wp2_with fail
  go_loop [3] (fun vv => ∃ k : Nat, vv = .int .i64 k ∧ k ≤ ns.length ∧ Hid (tl ns k = tl ns ns.length)) (fun vv => (intOf vv).toNat)
  case atStart => exact ⟨_, rfl, Nat.le_refl _, rfl⟩
  case round =>
    obtain ⟨k, rfl, hk, HE⟩ := hrel
    cases k with
    | zero =>
      go_wp2
      go_ret
      refine ⟨?_, rfl⟩
      have := HE.out
      rw [tl] at this
      rw [← this]
      rfl
    | succ k =>
      obtain ⟨x, hx⟩ : ∃ x, ns[k]? = some x := ⟨_, List.getElem?_eq_getElem (by omega)⟩
      obtain ⟨b, o, e, c1⟩ := lies_at HP.out hx
      cases e
      rw [Nat.zero_add] at c1
      have HX : Hid (ns[k]? = some x) := hx
      clear hx
      by_cases hz : x = 0
      · subst hz
        go_wp2
        go_round
        case rel =>
          refine ⟨k, by go_num, by omega, ?_⟩
          have := HE.out
          rw [tl, if_pos HX.out] at this
          exact this
        case measure => simp [intOf]
      · have hz' : (x == 0) = false := by simpa using hz
        go_wp2
        go_ret
        refine ⟨?_, rfl⟩
        have := HE.out
        rw [tl, if_neg (by rw [HX.out]; intro e; cases e; exact hz rfl)] at this
        rw [← this]
        rfl

/-- A row of sixty-four numbers that was built, cut to its normal form. -/
theorem short_own {W w : World} {vv : Value} {n : Nat} {f : Nat → Int} (hb : Below W.heap.size W w) (ho : w.ownsRow W.heap.size 2 1 vv n ((nums f).map iv)) : Calls Tryz.prog 92 #[vv] w (Ans W (vec f)) := by
  obtain ⟨_, p, c, rfl, hc, hl⟩ := owns_lies ho
  rw [List.length_map] at hc ⊢
  obtain ⟨b, o, rfl, hx⟩ := hl (by rw [List.length_map, nums_length]; decide)
  have hb0 : o = 0 := by
    rcases ho.2 with ⟨e, _⟩ | ⟨g, cap, cur, e, _⟩
    · cases e
    · cases e; rfl
  subst hb0
  refine (short_any b (nums f) c w hc (by rw [nums_length]; decide) hl).mono ?_
  rintro e w' ⟨rfl, rfl⟩
  rw [nums_length]
  refine Ans.mk rfl (vec_length f).symm ?_ hb
  unfold vec
  exact lies_take hl _

set_option maxRecDepth 8000 in
set_option maxRecDepth 8000 in
set_option maxHeartbeats 400000 in
theorem rnorm_any (p : Option Addr) (ns : List Int) (cp : Nat) (w : World) (hp : Lies w p (ns.map iv)) :
    Calls Tryz.prog 54 #[.slice p ns.length cp] w (Ans w (vec (atOf ns))) := by
  have C : Hid (∀ (w' : World) (k : Nat), Below w.heap.size w w' → k < 64 → Calls Tryz.prog 24 #[.slice p ns.length cp, .int .i64 k] w' fun e w'' => e = .returned (.int .i64 (atOf ns k)) ∧ w'' = w') :=
    fun w' k hB hk => rat_nat p ns cp k w' (below_lies hB hp) hk
  clear hp
  generalize atOf ns = f at *
  go_enter Tryz.func54, Tryz.ntmps54
  go_wp2_with fail
  go_loopw [3, 4] (fun vv ii wr => ∃ i : Nat, ii = .int .i64 i ∧ i ≤ 64 ∧ Hid (wr.ownsRow w.heap.size 2 1 vv i ((numsTo f i).map iv)) ∧ Hid (Below w.heap.size w wr)) (fun _ ii _ => 64 - (intOf ii).toNat)
  case atStart => exact ⟨0, rfl, by omega, World.ownsRow_nil _ _ _ _, Below.refl _ _⟩
  case round =>
    obtain ⟨i, rfl, hi, HO, HB⟩ := hrel
    by_cases hlt : i < 64
    · have hltI : (i : Int) < 64 := by omega
      have c7 := C.out wr i HB.out hlt
      generalize hy : f i = y at c7
      have HY : Hid (f i = y) := hy
      have H1 : Hid (i ≤ 1000000) := by show _ ≤ _; omega
      have H2 : Hid (w.heap.size ≤ wr.heap.size) := HB.out.size
      have tok : True := trivial
      clear hy
      go_wp2_with (first
        | (go_at_call 24; refine Calls_on c7 ?_)
        | (have tk := tok; refine wpList_append_num rfl _ _ 26 2 rfl Tryz.underlying26 Tryz.info2 w.heap.size _ i _ rfl wr y rfl HO rfl H1 H2 ?_; clear tk tok; intro v' w1 K1 K2))
      go_roundw
      case rel =>
        refine ⟨i + 1, by go_num, by omega, ?_, below_grown HB.out (Nat.le_refl _) HO.out K2.out⟩
        rw [numsTo_succ, List.map_append, HY.out]; exact K1
      case measure => simp [intOf]; omega
    · obtain rfl : i = 64 := by omega
      have c31 := short_own (f := f) HB.out HO.out
      obtain ⟨_, p', c', rfl, _, _⟩ := owns_lies HO.out
      clear hlt HO C
      generalize (List.map iv (numsTo f 64)).length = m at *
      go_wp2_with (go_at_call 92; refine Calls.mono c31 ?_; rintro e w2 ⟨p2, c2, rfl, hl2, hb2⟩; have HL : Hid (Lies w2 p2 ((vec f).map iv)) := hl2; have HB2 : Hid (Below w.heap.size w w2) := hb2; clear hl2 hb2)
      go_ret
      exact ⟨p2, c2, rfl, HL.out, HB2.out⟩

end Go.Proofs.YtegjageenofbjaaGreat.Vc
