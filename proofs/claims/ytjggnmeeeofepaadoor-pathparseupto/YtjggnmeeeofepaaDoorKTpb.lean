/-
  Package path: split, check, Parse, Join, Fresh, Above.
-/
import Derived.Test.YtjggnmeeeofepaaDoorKTpa
import Derived.Test.YtjggnmeeeofepaaDoorKAg
import Derived.Shelf.Strings.PiecesUse

namespace Go.Proofs.YtjggnmeeeofepaaDoor.Ck.Sh
open Go.RowKit Go.Lib

attribute [local go_sem] Oper.semAt_some

/-- Texts that lie in a row. -/
def Nms (w : World) (p : Option Addr) (names : List (List UInt8)) : Prop := ∀ (j : Nat) (x : List UInt8), names[j]? = some x → ∃ g o, p = some ⟨g, o, none⟩ ∧ w.cell? ⟨g, o + j, none⟩ = some (.string (bas x))
theorem Nms.below {w w' : World} {p : Option Addr} {names : List (List UInt8)} (h : Nms w p names) (hb : Below w.heap.size w w') : Nms w' p names := fun j x hx => by
  obtain ⟨g, o, e, hc⟩ := h j x hx
  exact ⟨g, o, e, cell_kept hc hb⟩
theorem Nms.nil (w : World) (p : Option Addr) : Nms w p [] := fun j x hx => by simp at hx
theorem Nms.at {w : World} {g o : Nat} {names : List (List UInt8)} (h : Nms w (some ⟨g, o, none⟩) names) {j : Nat} {x : List UInt8} (hx : names[j]? = some x) : w.cell? ⟨g, o + j, none⟩ = some (.string (bas x)) := by
  obtain ⟨g', o', e, hc⟩ := h j x hx
  cases e
  exact hc
theorem Nms.some {w : World} {p : Option Addr} {names : List (List UInt8)} (h : Nms w p names) (hn : names ≠ []) : ∃ g o, p = some ⟨g, o, none⟩ ∧ g < w.heap.size := by
  cases names with
  | nil => exact absurd rfl hn
  | cons x l =>
    obtain ⟨g, o, e, hc⟩ := h 0 x rfl
    exact ⟨g, o, e, cell_lt hc⟩
theorem Nms.take {w : World} {p : Option Addr} {names : List (List UInt8)} (h : Nms w p names) (k : Nat) : Nms w p (names.take k) := fun j x hx => h j x (by
  have hl := (List.getElem?_eq_some_iff.1 hx).1
  rw [List.getElem?_take_of_lt (by simp at hl; omega)] at hx
  exact hx)
/-- The names are answered, as new memory or none. -/
def SlA (names : List (List UInt8)) (w : World) (e : Ending) (w' : World) : Prop := ∃ p c, e = .returned (.slice p names.length c) ∧ Nms w' p names ∧ names.length ≤ c ∧ Below w.heap.size w w'

theorem bas_map {xs : List ByteArray} {L : List (List UInt8)} (h : xs.map (·.data.toList) = L) : xs = L.map bas := by
  rw [← h, List.map_map]
  conv => lhs; rw [← List.map_id xs]
  exact List.map_congr_left fun x _ => (bas_of x).symm
theorem split47_any (l : List UInt8) (hl : l.length < 4294967281) (w : World) (h : Lb w) : Calls Tryd.prog 22 #[.string (bas l), .string ⟨#[47]⟩] w fun e w' => SlA (cutAt [] l) w e w' := by
  obtain ⟨m, hm⟩ := h.len
  have c := Any.strings_Split Tryd.lays146 (by kernel_rfl) (bas l) ⟨#[47]⟩ m w (by rw [bas_size]; exact hl) hm (by decide)
  refine c.mono fun e w' ⟨he, hw⟩ => ?_
  have hc : Lib.countB (bas l) ⟨#[47]⟩ = l.count 47 := Lib.count_one 47 l
  have hd := Lib.splitB_data ⟨#[47]⟩ 0 (Lib.countB (bas l) ⟨#[47]⟩) (bas l)
  rw [hc, bas_data] at hd
  have hd' := bas_map (hd.trans (split_cut l))
  rw [hc, hd'] at hw
  rw [hc, ← cutAt_len l []] at he
  refine ⟨_, _, he, fun j x hx => ⟨_, _, rfl, ?_⟩, Nat.le_refl _, by rw [hw]; exact (below_new w _).out⟩
  rw [hw]
  exact Lib.pieces_cell w _ 9 j (bas x) (by rw [List.getElem?_map, hx]; rfl)

theorem extract_one (l : List UInt8) : (bas (47 :: l)).extract 1 (bas (47 :: l)).size = bas l := by
  have := ext_tail (47 :: l) 1
  rw [bas_size]
  exact this
set_option maxRecDepth 8000 in
set_option maxHeartbeats 1000000 in
theorem psplit_any (s : List UInt8) (h47 : s.head? = some 47) (hl : s.length < 4294967281) (w : World) (h : Lb w) : Calls Tryd.prog 14 #[.string (bas s)] w fun e w' => SlA (namesOf s) w e w' := by
  cases s with
  | nil => cases h47
  | cons c0 l =>
    obtain rfl : c0 = 47 := by simpa using h47
    clear h47
    have hq := bas_beq (47 :: l) [47]
    by_cases h1 : l = []
    · subst h1
      have e1 : bas [47] = ⟨#[47]⟩ := rfl
      go_enter Tryd.func14, Tryd.ntmps14
      go_wp2_with fail
      go_ret
      exact ⟨none, 0, rfl, Nms.nil _ _, Nat.le_refl _, Below.refl _ _⟩
    · have hne : ¬ ((47 : UInt8) :: l) = [47] := fun e => h1 (by simpa using e)
      have hN : Hid (namesOf (47 :: l) = cutAt [] l) := by show _ = _; unfold namesOf; rw [if_neg hne]; rfl
      rw [decide_eq_false hne] at hq
      have e1 : (bas [47]).toList = [47] := bas_toList _
      rw [e1] at hq
      have hx := extract_one l
      have hsz := bas_size (47 :: l)
      rw [List.length_cons] at hl hsz
      obtain ⟨z, hz⟩ : ∃ z, bas (47 :: l) = z := ⟨_, rfl⟩
      rw [hz] at hq hx hsz ⊢
      have ck := fun W => sclone_any (bas l) W (by rw [bas_size]; omega)
      have cs := fun W (hW : Lb W) => split47_any l (by omega) W hW
      have HL : Hid (Lb w) := h
      have h1I : (1 : Int) ≤ (z.size : Int) := by omega
      clear h h1 hne hz e1 hsz hl
      go_enter Tryd.func14, Tryd.ntmps14
      go_wp2_with (first
        | (go_at_call 23
           refine (ck _).mono ?_
           rintro e w1 ⟨rfl, hb1⟩
           have b1 := Lib.hid hb1
           clear hb1 ck)
        | (go_at_call 22
           refine (cs _ (HL.out.below b1.out)).mono ?_
           rintro e w2 ⟨p, c, rfl, hn, hc, hb2⟩
           have HA := Lib.hid (And.intro hn (And.intro hc (below_then b1.out hb2)))
           clear hn hc hb2 cs))
      go_ret
      rw [hN.out]
      exact ⟨p, c, rfl, HA.out⟩

theorem splitV_is (l : List UInt8) (r : Option (List UInt8 × Int × Int)) : ∃ a x y, splitV l r = .tuple #[.string (bas a), .agg #[.int .i64 x, .int .i64 y], .bool r.isSome] := by
  cases r with
  | none => exact ⟨l, 0, 0, rfl⟩
  | some z => obtain ⟨nm, t, n⟩ := z; exact ⟨nm, t, n, rfl⟩
set_option maxRecDepth 8000 in
set_option maxHeartbeats 1000000 in
theorem pcheck_any (l : List UInt8) (hl : l.length < 4294967281) (w : World) (h : Lb w) : Calls Tryd.prog 15 #[.string (bas l)] w fun e w' => e = .returned (.int .i64 (nmE l)) ∧ Below w.heap.size w w' := by
  have cs := split_any l hl w h
  have cn := fun W => name_any l W (by omega)
  unfold nmE
  obtain ⟨a, x, y, hv⟩ := splitV_is l (splitP l)
  rw [hv] at cs
  generalize (splitP l).isSome = b at cs
  generalize nameN l = n at cn
  clear hv hl h
  cases b with
  | false =>
    go_enter Tryd.func15, Tryd.ntmps15
    go_wp2_with (first
      | (go_at_call 24
         refine cs.mono ?_
         rintro e w1 ⟨rfl, hb1⟩
         have b1 := Lib.hid hb1
         have f0 := (IdC.new w1 0 0).fz 0
         have f1 := (IdC.new w1 0 0).fz 1
         have d0 := (IdC.new w1 0 0).c0
         have d1 := (IdC.new w1 0 0).c1
         clear hb1 cs)
      | (go_at_call 19; refine Calls_on (cn _) ?_))
    go_ret
    exact ⟨rfl, below_then b1.out (below_new _ _).out⟩
  | true =>
    clear cn
    go_enter Tryd.func15, Tryd.ntmps15
    go_wp2_with (first
      | (go_at_call 24
         refine cs.mono ?_
         rintro e w1 ⟨rfl, hb1⟩
         have b1 := Lib.hid hb1
         have f0 := (IdC.new w1 0 0).fz 0
         have f1 := (IdC.new w1 0 0).fz 1
         have d0 := (IdC.new w1 0 0).c0
         have d1 := (IdC.new w1 0 0).c1
         clear hb1 cs))
    go_ret
    exact ⟨rfl, below_then b1.out (below_new _ _).out⟩

end Go.Proofs.YtjggnmeeeofepaaDoor.Ck.Sh
