/-
  Package path: Parse, Join, Fresh, Above.
-/
import Derived.Test.YtjggnmeeeofepaaDoorKTpb

namespace Go.Proofs.YtjggnmeeeofepaaDoor.Ck.Sh
open Go.RowKit Go.Lib

attribute [local go_sem] Oper.semAt_some

/-- What Parse answers. -/
def ParseA (s : List UInt8) (w : World) (e : Ending) (w' : World) : Prop := ∃ p c, e = .returned (.tuple #[.slice p (nmsOf s).length c, .int .i64 (parseE s)]) ∧ Nms w' p (nmsOf s) ∧ (nmsOf s).length ≤ c ∧ Below w.heap.size w w'
theorem ParseA.bad {s : List UInt8} {w w' : World} {e : Ending} {k : Int} (he : e = .returned (.tuple #[.slice none 0 0, .int .i64 k])) (hk : parseE s = k) (h0 : k ≠ 0) (hb : Below w.heap.size w w') : ParseA s w e w' := by
  have hn : nmsOf s = [] := by unfold nmsOf; rw [if_neg (by rw [hk]; exact h0)]
  refine ⟨none, 0, ?_, ?_, ?_, hb⟩
  · rw [hn, hk]; exact he
  · rw [hn]; exact Nms.nil _ _
  · rw [hn]; exact Nat.le_refl _
theorem prefix_head (s : List UInt8) : Lib.hasPrefix s [47] = decide (s.head? = some 47) := by
  cases s with
  | nil => rfl
  | cons c l =>
    show ([47] : List UInt8).isPrefixOf (c :: l) = _
    by_cases h : c = 47
    · subst h
      simp [List.isPrefixOf]
    · have h' : ¬ (47 : UInt8) = c := fun e => h e.symm
      simp [List.isPrefixOf, h, h']
theorem hasp_any (s : List UInt8) (w : World) : Calls Tryd.prog 13 #[.string (bas s), .string ⟨#[47]⟩] w fun e w' => e = .returned (.bool (decide (s.head? = some 47))) ∧ w' = w := by
  have c := Any.strings_HasPrefix Tryd.lays99 (bas s) ⟨#[47]⟩ w
  rw [bas_data] at c
  have e := prefix_head s
  exact c.mono fun e' w' ⟨he, hw⟩ => ⟨by rw [he]; exact congrArg (fun b => Ending.returned (Value.bool b)) e, hw⟩

set_option maxRecDepth 8000 in
set_option maxRecDepth 8000 in
set_option maxHeartbeats 2000000 in
theorem pparse_any (s : List UInt8) (hl : s.length < 4294967281) (w : World) (h : Lb w) : Calls Tryd.prog 6 #[.string (bas s)] w fun e w' => ParseA s w e w' := by
  have ch := hasp_any s w
  have hsz := bas_size s
  by_cases h47 : s.head? = some 47
  · rw [decide_eq_true h47] at ch
    by_cases h1024 : 1024 < s.length
    · have hI : (1024 : Int) < (s.length : Int) := by omega
      have HE : Hid (parseE s = 36) := by show _ = _; unfold parseE; rw [if_neg (fun e => e h47), if_pos (.inl h1024)]
      clear h47 h1024
      go_enter Tryd.func6, Tryd.ntmps6
      go_wp2_with (first
        | (go_at_call 13; refine Calls_on ch ?_))
      go_ret2
      exact ParseA.bad rfl HE.out (by decide) (Below.refl _ _)
    · have hI : ¬ (1024 : Int) < (s.length : Int) := by omega
      have cs := psplit_any s h47 hl w h
      have HM : Hid (∀ x ∈ namesOf s, x.length < 4294967281) := fun x hx => Nat.lt_of_le_of_lt (namesOf_mem s x hx) hl
      obtain ⟨names, hN⟩ : ∃ names, namesOf s = names := ⟨_, rfl⟩
      have HE : Hid (parseE s = if 64 < names.length then 36 else firstE names) := by
        show _ = _
        unfold parseE
        rw [if_neg (fun e => e h47), hN]
        by_cases h64 : 64 < names.length
        · rw [if_pos (.inr h64), if_pos h64]
        · rw [if_neg (fun e => e.elim h1024 h64), if_neg h64]
      have HN : Hid (namesOf s = names) := hN
      rw [hN] at cs HM
      have HL : Hid (Lb w) := h
      clear h hN h47 h1024 hl
      by_cases h64 : 64 < names.length
      · have hJ : (64 : Int) < (names.length : Int) := by omega
        have HE' : Hid (parseE s = 36) := by show _ = _; rw [HE.out, if_pos h64]
        go_enter Tryd.func6, Tryd.ntmps6
        go_wp2_with (first
          | (go_at_call 13; refine Calls_on ch ?_)
          | (go_at_call 14
             refine cs.mono ?_
             rintro e w1 ⟨p, c, rfl, hn, hc, hb1⟩
             have b1 := Lib.hid hb1
             clear hb1 hn cs))
        go_ret2
        exact ParseA.bad rfl HE'.out (by decide) b1.out
      · have hJ : ¬ (64 : Int) < (names.length : Int) := by omega
        have HE' : Hid (parseE s = firstE names) := by show _ = _; rw [HE.out, if_neg h64]
        have hn64 : names.length ≤ 64 := by omega
        clear HE h64
        go_enter Tryd.func6, Tryd.ntmps6
        go_wp2_with (first
          | (go_at_call 13; refine Calls_on ch ?_)
          | (go_at_call 14
             refine cs.mono ?_
             rintro e w1 ⟨p, c, rfl, hn, hc, hb1⟩
             have b1 := Lib.hid hb1
             have N1 := Lib.hid hn
             have C1 := Lib.hid hc
             clear hb1 hn hc cs))
        go_loopw [21] (fun ii wr => ∃ i : Nat, ii = .int .i64 i ∧ i ≤ names.length ∧ Hid (Below w.heap.size w wr ∧ Nms wr p names ∧ Lb wr ∧ ∀ j x, j < i → names[j]? = some x → nmE x = 0)) (fun ii _ => names.length - (RowKit.intOf ii).toNat)
        case atStart => exact ⟨0, rfl, Nat.zero_le _, b1.out, N1.out, HL.out.below b1.out, fun j x hj => by omega⟩
        case round =>
          obtain ⟨i, rfl, hi, HI⟩ := hrel
          by_cases hlt : i < names.length
          · have hltI : (i : Int) < (names.length : Int) := by omega
            obtain ⟨x, hx⟩ : ∃ x, names[i]? = some x := ⟨_, List.getElem?_eq_getElem hlt⟩
            obtain ⟨g, o, hp, hc0⟩ := HI.out.2.1 i x hx
            subst hp
            have HX : Hid (names[i]? = some x) := hx
            have cc := pcheck_any x (HM.out x (List.mem_of_getElem? hx)) wr HI.out.2.2.1
            clear hx
            by_cases hz : nmE x = 0
            · rw [hz] at cc
              have HZ : Hid (nmE x = 0) := hz
              clear hz
              go_wp2_with (first
                | (go_at_call 15
                   refine cc.mono ?_
                   rintro e w2 ⟨rfl, hb2⟩
                   have HI2 : Hid (Below w.heap.size w w2 ∧ Nms w2 (some ⟨g, o, none⟩) names ∧ Lb w2 ∧ ∀ j x, j < i + 1 → names[j]? = some x → nmE x = 0) := by
                     obtain ⟨i1, i2, i3, i4⟩ := HI.out
                     refine ⟨below_then i1 hb2, i2.below hb2, i3.below hb2, fun j y hj hy => ?_⟩
                     by_cases hji : j = i
                     · subst hji
                       have := HX.out
                       rw [hy] at this
                       cases this
                       exact HZ.out
                     · exact i4 j y (by omega) hy
                   clear hb2 cc hc0))
              exact ⟨⟨i + 1, by simp, by omega, HI2⟩, by simp [RowKit.intOf]; omega⟩
            · have HF : Hid (parseE s = nmE x) := by
                show _ = _
                rw [HE'.out]
                exact firstE_at HI.out.2.2.2 HX.out hz
              generalize nmE x = k at cc hz HF
              have hz1 : (k != 0) = true := by simpa using hz
              have HZ : Hid (k ≠ 0) := hz
              clear hz
              go_wp2_with (first
                | (go_at_call 15
                   refine cc.mono ?_
                   rintro e w2 ⟨rfl, hb2⟩
                   have B2 := Lib.hid (below_then HI.out.1 hb2)
                   clear hb2 cc hc0))
              go_ret2
              exact ParseA.bad rfl HF.out HZ.out B2.out
          · obtain rfl : i = names.length := by omega
            have HF : Hid (parseE s = 0) := by
              show _ = _
              rw [HE'.out]
              exact firstE_all HI.out.2.2.2
            go_wp2_with fail
            go_ret2
            have hnm : nmsOf s = names := by unfold nmsOf; rw [if_pos HF.out, HN.out]
            refine ⟨p, c, ?_, ?_, ?_, HI.out.1⟩
            · rw [hnm, HF.out]; rfl
            · rw [hnm]; exact HI.out.2.1
            · rw [hnm]; exact C1.out
  · rw [decide_eq_false h47] at ch
    have HE : Hid (parseE s = 22) := by show _ = _; unfold parseE; rw [if_pos h47]
    clear h47 h
    go_enter Tryd.func6, Tryd.ntmps6
    go_wp2_with (go_at_call 13; refine Calls_on ch ?_)
    go_ret2
    exact ParseA.bad rfl HE.out (by decide) (Below.refl _ _)

end Go.Proofs.YtjggnmeeeofepaaDoor.Ck.Sh
