/-
  ContentAll: what each call of its round answers.
-/
import Derived.Test.YteimjkicinjcgaaKLcb
import Derived.Test.YteimjkicinjcgaaQLta

namespace Go.Proofs.Yteimjkicinjcgaa.Ck.Y.L
open Go.RowKit Go.Maps Go.Lib

structure Stp (p : Prop) : Prop where
  out : p
theorem of_any {W : World} {x : OG} {ns : List Int} {bs : List (BitVec 8)} (h : WIn W x ns bs) :
    Calls Try.prog 18 #[opgv x] W fun e w' => ∃ y : VG, e = .returned (vgv y) ∧ y.c = vcOf x ns bs ∧ VIn w' y ∧ Below W.heap.size W w' := by
  refine (of_in x.t x.n x.sq x.kd x.ot x.on x.pt x.pn x.nm ns x.sp x.sc x.sl bs x.dp x.dc x.dl W h.sl h.dl h.seen h.le h.data h.bl).mono ?_
  rintro e w' ⟨p1, c1, p2, c2, rfl, hx, hb⟩
  refine ⟨⟨x.t, x.n, x.sq, ns, p1, c1, bs, p2, c2⟩, ?_, rfl, hx.comes, hb⟩
  simp only [vgv, vgC, h.sl, h.dl]
section
variable {u wr : World} {base lb fb : Nat} {v vl : Value} {m : List OG} {nsf : OG → List Int} {bsf : OG → List (BitVec 8)} {i j : Nat}
theorem AllI.win (h : AllI u wr base lb fb v m nsf bsf vl i j) (hc : Con u nsf bsf m) {x : OG} (hx : x ∈ m) : WIn wr x (nsf x) (bsf x) := (hc.each x hx).1.below h.below
theorem AllI.old (h : AllI u wr base lb fb v m nsf bsf vl (i + 1) j) (hc : Con u nsf bsf m) {x : OG} (hx : m[i]? = some x) (hk : x.kd = 4) :
    Calls Try.prog 10 #[.pointer (some ⟨fb, 0, none⟩), opgv x] wr fun e w' => e = .returned (.int .i64 17) ∧ Below wr.heap.size wr w' := by
  have hw := h.win hc (List.mem_of_getElem? hx)
  obtain ⟨F, h⟩ := h
  refine fadd_old h.one.f hw hk (hc.each x (List.mem_of_getElem? hx)).2 ?_
  rw [List.take_add_one, hx, Option.toList_some, vcs_snoc, if_pos hk, List.map_append]
  exact List.mem_append.2 (.inr (by simp [vcOf, VC.key]))
theorem AllI.heads (h : AllI u wr base lb fb v m nsf bsf vl i j) (hc : Con u nsf bsf m) {HC : List VC} (hs : IsHd (vcs nsf bsf (m.take i)) HC) :
    Calls Try.prog 14 #[.pointer (some ⟨fb, 0, none⟩)] wr fun e w' => ∃ x, e = .returned x ∧ Below wr.heap.size wr w' ∧ FinH HC x w' := by
  obtain ⟨F, h⟩ := h
  refine (fheads h.one.f (hc.sq' i) hs).mono ?_
  rintro e w' ⟨x, M, rfl, h1, h2, h3, h4⟩
  exact ⟨x, rfl, h4, _, M, h1, h2, fun y hy => (h3 y hy).comes⟩
theorem AllI.value (h : AllI u wr base lb fb v m nsf bsf vl i j) (hc : Con u nsf bsf m) {HC : List VC} (hs : IsHd (vcs nsf bsf (m.take i)) HC) :
    Calls Try.prog 15 #[.pointer (some ⟨fb, 0, none⟩)] wr fun e w' => ∃ x, e = .returned x ∧ Below wr.heap.size wr w' ∧ FinV (Cd.strOf (lastC HC)) x w' := by
  obtain ⟨F, h⟩ := h
  refine (fvalueR h.one.f (Below.refl _ _) (hc.sq' i) hs).mono ?_
  rintro e w' ⟨p, n, c, rfl, h1, h2⟩
  exact ⟨_, rfl, h2, p, n, c, rfl, h1⟩
theorem AllI.size (h : AllI u wr base lb fb v m nsf bsf vl i j) (hc : Con u nsf bsf m) {HC : List VC} (hs : IsHd (vcs nsf bsf (m.take i)) HC) :
    Calls Try.prog 16 #[.pointer (some ⟨fb, 0, none⟩)] wr fun e w' => e = .returned (.int .i64 ((lastC HC).length : Nat)) ∧ Below wr.heap.size wr w' := by
  obtain ⟨F, h⟩ := h
  exact fsize h.one.f (hc.sq' i) hs
theorem AllI.len (h : AllI u wr base lb fb v m nsf bsf vl i j) :
    Calls Try.prog 17 #[.pointer (some ⟨fb, 0, none⟩)] wr fun e w' => e = .returned (.int .i64 (((m.take i).filter isW).length : Nat)) ∧ Below wr.heap.size wr w' := by
  obtain ⟨F, h⟩ := h
  have := len_any h.one.f
  rwa [vcs_map, List.length_map] at this
theorem is_heads {HC : List VC} {H : List OG} {bo : Nat} {v' x : Value} {W : World} (hx : FinH HC x W) (hr : RowG W bo v' H) (hw : ∀ o ∈ H, WIn W o (nsf o) (bsf o)) (he : HC = H.map fun o => vcOf o (nsf o) (bsf o)) (hl : H.length ≤ 1000) :
    Calls Try.prog 13 #[x, v'] W fun e w' => e = .returned (.bool true) ∧ Below W.heap.size W w' := by
  obtain ⟨bv, M, h1, h2, h3⟩ := hx
  exact is_true bv bo x v' M H nsf bsf W h1 hr h3 hw (h2.trans he) hl
theorem is_one {x : OG} {y : VG} {b b' : Nat} {v1 v6 : Value} {W : World} (h1 : RowV W b v1 [y]) (h6 : RowG W b' v6 [x]) (hy : VIn W y) (hx : WIn W x (nsf x) (bsf x)) (hc : y.c = vcOf x (nsf x) (bsf x)) :
    Calls Try.prog 13 #[v1, v6] W fun e w' => e = .returned (.bool true) ∧ Below W.heap.size W w' :=
  is_true b b' v1 v6 [y] [x] nsf bsf W h1 h6 (fun z hz => by have : z = y := by simpa using hz
                                                             subst this; exact hy) (fun z hz => by have : z = x := by simpa using hz
                                                                                                   subst this; exact hx) (by simp [hc]) (by simp)
theorem behind_two {y : VG} {z : OG} {x : OG} {v : Value} {W : World} (hv : FinO (vcOf z (nsf z) (bsf z)) v W) (hc : y.c = vcOf x (nsf x) (bsf x)) :
    Calls Try.prog 19 #[vgv y, v] W fun e w' => e = .returned (.bool (seenB x.sq x.n (nsf z))) ∧ Below W.heap.size W w' := by
  obtain ⟨y2, rfl, h1, h2⟩ := hv
  have := behind_any y y2 W h2
  injection hc with _ e1 e2 _ _
  injection h1 with _ _ _ e3 _
  rwa [e1, e2, e3] at this
end

end Go.Proofs.Yteimjkicinjcgaa.Ck.Y.L
