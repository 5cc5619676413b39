/-
  ContentOrders, for every slice of operations, whatever the memory and the order that Go leaves open, returns true and leaves its arguments and all memory that was there as it was. There is no condition.
-/
import Derived.Test.YteimjkicinjcgaaQOmx
import Derived.Deep.RegionWith
import Derived.ProofKit
import Derived.OpenShut
import Derived.ChangeOld
import Derived.Deep.Slices
import Derived.Deep.Grids
import Derived.Test.YteimjkicinjcgaaRows
import Derived.Below

/-
  The law's operations, added to a file.
-/
namespace Go.Proofs.Yteimjkicinjcgaa.Ck.Y.L
open Go.RowKit Go.Maps Go.Lib

/-- What the operations say: numbers and bytes. -/
structure Con (u : World) (nsf : OG → List Int) (bsf : OG → List (BitVec 8)) (l : List OG) : Prop where
  each : ∀ o ∈ l, WIn u o (nsf o) (bsf o) ∧ mayW o (nsf o) = true
  apart : l.Pairwise fun a b => (a.t, a.n) ≠ (b.t, b.n)
theorem Taken.con {u : World} {l : List OG} (h : Taken u l) : ∃ nsf bsf, Con u nsf bsf l := by
  classical
  refine ⟨fun o => if q : ∃ ns bs, WIn u o ns bs ∧ mayW o ns = true then q.choose else [], fun o => if q : ∃ ns bs, WIn u o ns bs ∧ mayW o ns = true then q.choose_spec.choose else [], ⟨fun o ho => ?_, h.apart⟩⟩
  obtain ⟨ns, bs, h1, h2, _⟩ := h.each o ho
  have q : ∃ ns bs, WIn u o ns bs ∧ mayW o ns = true := ⟨ns, bs, h1, h2⟩
  simp only [dif_pos q]
  exact q.choose_spec.choose_spec
def isW (o : OG) : Bool := decide (o.kd = 4)
def vcs (nsf : OG → List Int) (bsf : OG → List (BitVec 8)) (l : List OG) : List VC := (l.filter isW).map fun o => vcOf o (nsf o) (bsf o)
section
variable {nsf : OG → List Int} {bsf : OG → List (BitVec 8)}
theorem vcs_snoc (l : List OG) (o : OG) : vcs nsf bsf (l ++ [o]) = if o.kd = 4 then vcs nsf bsf l ++ [vcOf o (nsf o) (bsf o)] else vcs nsf bsf l := by
  unfold vcs
  rw [List.filter_append]
  by_cases h : o.kd = 4
  · rw [if_pos h]; simp [isW, h]
  · rw [if_neg h]; simp [isW, h]
theorem vcs_len (l : List OG) : (vcs nsf bsf l).length ≤ l.length := by
  unfold vcs
  rw [List.length_map]
  exact List.length_filter_le _ _
theorem vcs_key {l : List OG} {k : KP} (h : k ∈ (vcs nsf bsf l).map VC.key) : ∃ o ∈ l, (o.t, o.n) = k := by
  unfold vcs at h
  rw [List.mem_map] at h
  obtain ⟨c, hc, rfl⟩ := h
  rw [List.mem_map] at hc
  obtain ⟨o, ho, rfl⟩ := hc
  exact ⟨o, (List.mem_filter.1 ho).1, rfl⟩
theorem may_sq {o : OG} {ns : List Int} (h : mayW o ns = true) : 1 ≤ o.sq := by
  unfold mayW Cd.mayO Cd.countB at h
  simp only [Bool.and_eq_true, decide_eq_true_eq] at h
  exact h.1.2.1.1.1
theorem Con.sq {u : World} {l : List OG} (h : Con u nsf bsf l) : ∀ x ∈ vcs nsf bsf l, 1 ≤ x.sq := by
  intro x hx
  unfold vcs at hx
  rw [List.mem_map] at hx
  obtain ⟨o, ho, rfl⟩ := hx
  exact may_sq (h.each o (List.mem_filter.1 ho).1).2
theorem pairwise_at {l : List OG} (h : l.Pairwise fun a b => (a.t, a.n) ≠ (b.t, b.n)) {i : Nat} {x : OG} (hx : l[i]? = some x) : ∀ y ∈ l.take i, (y.t, y.n) ≠ (x.t, x.n) := by
  intro y hy
  obtain ⟨j, hj, e⟩ := List.getElem_of_mem hy
  rw [List.length_take] at hj
  obtain ⟨hi, ex⟩ := List.getElem?_eq_some_iff.1 hx
  have := List.pairwise_iff_getElem.1 h j i (by omega) hi (by omega)
  rw [ex] at this
  rw [List.getElem_take] at e
  rw [e] at this
  exact this
theorem vcs_new {l : List OG} (h : l.Pairwise fun a b => (a.t, a.n) ≠ (b.t, b.n)) {i : Nat} {x : OG} (hx : l[i]? = some x) : (x.t, x.n) ∉ (vcs nsf bsf (l.take i)).map VC.key := by
  intro hk
  obtain ⟨o, ho, e⟩ := vcs_key hk
  exact pairwise_at h hx o ho e
end
theorem IsHd.same {S T HC : List VC} (h : IsHd S HC) (hm : ∀ x, x ∈ S ↔ x ∈ T) : IsHd T HC := by
  refine ⟨h.rise, fun x => ?_⟩
  have e : headC S x = headC T x := by
    rw [Bool.eq_iff_iff]
    unfold headC
    rw [List.all_eq_true, List.all_eq_true]
    exact ⟨fun k c hc => k c ((hm c).2 hc), fun k c hc => k c ((hm c).1 hc)⟩
  rw [h.mem, hm x, e]

/-- Add of one that may be, whatever its kind. -/
theorem add_step {u w : World} {F : Nat → Prop} {fb : Nat} {S : List VC} (hf : FileS F w fb S) (hb : Below u.heap.size u w) (hF : ∀ b, F b → u.heap.size ≤ b) {o : OG} {ns : List Int} {bs : List (BitVec 8)} (h : WIn u o ns bs) (hm : mayW o ns = true) (hq : (o.t, o.n) ∉ S.map VC.key) (hl : S.length < 800) :
    Calls Try.prog 10 #[.pointer (some ⟨fb, 0, none⟩), opgv o] w fun e w' => ∃ z : Int, e = .returned (.int .i64 z) ∧ ∃ F', FileS F' w' fb (if o.kd = 4 then S ++ [vcOf o ns bs] else S) ∧ (∀ b, F' b → F b ∨ w.heap.size ≤ b) ∧ Only F w w' := by
  by_cases hk : o.kd = 4
  · rw [if_pos hk]
    refine (add_new hf (h.below hb) hk hm hq hl fun W hW => h.below (hb.trans (hW.below hb.size hF))).mono ?_
    rintro e w' ⟨rfl, F', h1, h2, h3⟩
    exact ⟨0, rfl, F', h1, h2, h3⟩
  · rw [if_neg hk]
    refine (add_bad (h.below hb) (Or.inl hk)).mono ?_
    rintro e w' ⟨rfl, hb'⟩
    exact ⟨22, rfl, F, hf.below hb', fun b hb => .inl hb, Below.only hb' _⟩
theorem new_at (w : World) : Calls Try.prog 8 #[] w fun e w' => ∃ fb, e = .returned (.pointer (some ⟨fb, 0, none⟩)) ∧ fb = w.heap.size ∧ Below w.heap.size w w' ∧ FileS (fun b => b = fb) w' fb [] := by
  refine (new_any w).mono ?_
  rintro e w' ⟨rfl, h1, h2⟩
  exact ⟨_, rfl, rfl, h1, h2⟩

/-- Two files beside one another, and the law's operations. -/
structure Two (u wr : World) (base fb gb : Nat) (v : Value) (l : List OG) (F G : Nat → Prop) (S T : List VC) : Prop where
  f : FileS F wr fb S
  g : FileS G wr gb T
  apart : ∀ b, F b → ¬ G b
  fu : ∀ b, F b → u.heap.size ≤ b
  gu : ∀ b, G b → u.heap.size ≤ b
  row : RowG wr base v l
  below : Below u.heap.size u wr
section
variable {u wr : World} {base fb gb : Nat} {v : Value} {l : List OG} {F G : Nat → Prop} {S T : List VC}
theorem Two.swap (h : Two u wr base fb gb v l F G S T) : Two u wr base gb fb v l G F T S := ⟨h.g, h.f, fun b hb hf => h.apart b hf hb, h.gu, h.fu, h.row, h.below⟩
theorem Two.add (h : Two u wr base fb gb v l F G S T) {o : OG} {ns : List Int} {bs : List (BitVec 8)} (hi : WIn u o ns bs) (hm : mayW o ns = true) (hq : (o.t, o.n) ∉ S.map VC.key) (hl : S.length < 800) :
    Calls Try.prog 10 #[.pointer (some ⟨fb, 0, none⟩), opgv o] wr fun e w' => ∃ z : Int, e = .returned (.int .i64 z) ∧ ∃ F', Two u w' base fb gb v l F' G (if o.kd = 4 then S ++ [vcOf o ns bs] else S) T := by
  refine (add_step h.f h.below h.fu hi hm hq hl).mono ?_
  rintro e w' ⟨z, rfl, F', h1, h2, h3⟩
  refine ⟨z, rfl, F', h1, h.g.kept h3 (fun b hG hF => h.apart b hF hG) h.f.hard, fun b hb hG => ?_, fun b hb => ?_, h.gu, h.row.kept h3 fun g hg => ?_, h.below.trans (h3.below h.below.size h.fu)⟩
  · rcases h2 b hb with e | e
    · exact h.apart b e hG
    · have := h.g.lt b hG; omega
  · rcases h2 b hb with e | e
    · exact h.fu b e
    · have := h.below.size; omega
  · obtain ⟨cs, hcs, _⟩ := h.row.tag hg
    exact h.f.notF hcs (by decide) (by decide)
end
/-- What ContentOrders keeps: f has those up to i, g those up to j from behind. -/
def OrdI (u wr : World) (base fb gb : Nat) (v : Value) (nsf : OG → List Int) (bsf : OG → List (BitVec 8)) (l : List OG) (i j : Nat) : Prop := ∃ F G, Two u wr base fb gb v l F G (vcs nsf bsf (l.take i)) (vcs nsf bsf (l.reverse.take j))
section
variable {u wr : World} {base fb gb : Nat} {v : Value} {nsf : OG → List Int} {bsf : OG → List (BitVec 8)} {l : List OG} {i j : Nat}
theorem OrdI.row (h : OrdI u wr base fb gb v nsf bsf l i j) : RowG wr base v l := by obtain ⟨F, G, h⟩ := h; exact h.row
theorem OrdI.addf (h : OrdI u wr base fb gb v nsf bsf l i j) (hc : Con u nsf bsf l) (hl : l.length ≤ 700) {x : OG} (hx : l[i]? = some x) :
    Calls Try.prog 10 #[.pointer (some ⟨fb, 0, none⟩), opgv x] wr fun e w' => ∃ z : Int, e = .returned (.int .i64 z) ∧ OrdI u w' base fb gb v nsf bsf l (i + 1) j := by
  obtain ⟨F, G, h⟩ := h
  obtain ⟨h1, h2⟩ := hc.each x (List.mem_of_getElem? hx)
  refine (h.add h1 h2 (vcs_new hc.apart hx) (by have := @vcs_len nsf bsf (l.take i); rw [List.length_take] at this; omega)).mono ?_
  rintro e w' ⟨z, rfl, F', h3⟩
  refine ⟨z, rfl, F', G, ?_⟩
  rw [List.take_add_one, hx, Option.toList_some, vcs_snoc]
  exact h3
theorem OrdI.addg (h : OrdI u wr base fb gb v nsf bsf l i j) (hc : Con u nsf bsf l) (hl : l.length ≤ 700) {x : OG} (hx : l.reverse[j]? = some x) :
    Calls Try.prog 10 #[.pointer (some ⟨gb, 0, none⟩), opgv x] wr fun e w' => ∃ z : Int, e = .returned (.int .i64 z) ∧ OrdI u w' base fb gb v nsf bsf l i (j + 1) := by
  obtain ⟨F, G, h⟩ := h
  obtain ⟨h1, h2⟩ := hc.each x (List.mem_reverse.1 (List.mem_of_getElem? hx))
  have hp : l.reverse.Pairwise fun a b : OG => (a.t, a.n) ≠ (b.t, b.n) := by
    rw [List.pairwise_reverse]
    exact hc.apart.imp fun h e => h e.symm
  refine (h.swap.add h1 h2 (vcs_new hp hx) (by have := @vcs_len nsf bsf (l.reverse.take j); rw [List.length_take, List.length_reverse] at this; omega)).mono ?_
  rintro e w' ⟨z, rfl, G', h3⟩
  refine ⟨z, rfl, F, G', ?_⟩
  rw [List.take_add_one, hx, Option.toList_some, vcs_snoc]
  exact h3.swap
/-- At the end. -/
theorem OrdI.fin (h : OrdI u wr base fb gb v nsf bsf l l.length l.length) (hc : Con u nsf bsf l) : ∃ HC F G, FileS F wr fb (vcs nsf bsf l) ∧ FileS G wr gb (vcs nsf bsf l.reverse) ∧ IsHd (vcs nsf bsf l) HC ∧ IsHd (vcs nsf bsf l.reverse) HC ∧ (∀ x ∈ vcs nsf bsf l, 1 ≤ x.sq) ∧ (∀ x ∈ vcs nsf bsf l.reverse, 1 ≤ x.sq) ∧ Below u.heap.size u wr := by
  obtain ⟨F, G, h⟩ := h
  have h1 := h.f
  have h2 := h.g
  rw [List.take_length] at h1
  rw [List.take_of_length_le (by rw [List.length_reverse]; omega)] at h2
  have hm : ∀ x, x ∈ vcs nsf bsf l ↔ x ∈ vcs nsf bsf l.reverse := fun x => by unfold vcs; simp
  obtain ⟨HC, hHC⟩ := h1.hd hc.sq
  exact ⟨HC, F, G, h1, h2, hHC, hHC.same hm, hc.sq, fun x hx => hc.sq x ((hm x).2 hx), h.below⟩
theorem OrdI.start {w : World} {fb gb : Nat} {v : Value} (hf : FileS (fun b => b = fb) w fb []) (hg : FileS (fun b => b = gb) w gb []) (hn : fb ≠ gb) (h1 : u.heap.size ≤ fb) (h2 : u.heap.size ≤ gb) (hr : RowG w base v l) (hb : Below u.heap.size u w) : OrdI u w base fb gb v nsf bsf l 0 0 :=
  ⟨_, _, hf, hg, fun b hb hg => hn (hb.symm.trans hg), fun b hb => by rw [show b = fb from hb]; exact h1, fun b hb => by rw [show b = gb from hb]; exact h2, hr, hb⟩
end

end Go.Proofs.Yteimjkicinjcgaa.Ck.Y.L

/-
  ContentOrders, the law.
-/
namespace Go.Proofs.Yteimjkicinjcgaa.Ck.Y.L
open Go.RowKit Go.Maps Go.Lib

theorem fheadsR {F : Nat → Prop} {w w0 : World} {fb : Nat} {S HC : List VC} (h : FileS F w0 fb S) (hb : Below w0.heap.size w0 w) (hq : ∀ x ∈ S, 1 ≤ x.sq) (hs : IsHd S HC) :
    Calls Try.prog 14 #[.pointer (some ⟨fb, 0, none⟩)] w fun e w' => ∃ p c M, e = .returned (.slice p HC.length c) ∧ RowV w' w.heap.size (.slice p HC.length c) M ∧ M.map VG.c = HC ∧ Below w.heap.size w w' := by
  refine (fheads (h.below hb) hq hs).mono ?_
  rintro e w' ⟨v, M, rfl, hr, hm, _, hb'⟩
  obtain ⟨p, c, rfl, _⟩ := hr.caps
  have : M.length = HC.length := by rw [← hm, List.length_map]
  rw [this] at hr ⊢
  exact ⟨p, c, M, rfl, hr, hm, hb'⟩
theorem fvalueR {F : Nat → Prop} {w w0 : World} {fb : Nat} {S HC : List VC} (h : FileS F w0 fb S) (hb : Below w0.heap.size w0 w) (hq : ∀ x ∈ S, 1 ≤ x.sq) (hs : IsHd S HC) :
    Calls Try.prog 15 #[.pointer (some ⟨fb, 0, none⟩)] w fun e w' => ∃ p n c, e = .returned (.slice p n c) ∧ (∀ W, Below w'.heap.size w' W → (convert 31 9 (.slice p n c)).run Try.prog W = .ok (.string (Cd.strOf (lastC HC))) W) ∧ Below w.heap.size w w' := by
  refine (fvalue (h.below hb) hq hs).mono ?_
  rintro e w' ⟨v, rfl, ho, hb'⟩
  obtain ⟨_, p, c, rfl, _, hby, _⟩ := Cd.owns_bytes ho
  exact ⟨p, _, c, rfl, fun W hW => Cd.run_str W p (lastC HC) c (Cd.below_bytes hW hby), hb'⟩

set_option maxRecDepth 8000 in
set_option maxHeartbeats 8000000 in
theorem orders_law (p : Option Addr) (L : List OG) (c : Nat) (w : World) (hp : OpsL w p L) (hL : L.length ≤ maxLen) :
    Calls Try.prog 4 #[.slice p L.length c] w fun e w' => e = .returned (.bool true) ∧ Below w.heap.size w w' := by
  have HP : Hid (OpsL w p L ∧ L.length ≤ maxLen) := ⟨hp, hL⟩
  have tok1 : True := trivial
  have tok2 : True := trivial
  clear hp hL
  go_enter Try.func4, Try.ntmps4
  go_wp2_with (first
    | (go_at_call 7; refine Calls_new (begun_any _) ?_; intro w1 HB1)
    | (go_at_call 8; have tk := tok1; clear tok1; refine (new_at w1).mono ?_; clear tk; rintro e w2 ⟨fb, rfl, hfb, hb2, hf2⟩; have H2 : Hid (fb = w1.heap.size ∧ FileS (fun b => b = fb) w2 fb [] ∧ Below w.heap.size w w2) := ⟨hfb, hf2, below_thenH HB1.out hb2⟩; clear hfb hb2 hf2)
    | (go_at_call 8; have tk := tok2; clear tok2; refine (new_at w2).mono ?_; clear tk; rintro e w3 ⟨gb, rfl, hgb, hb3, hf3⟩; have H3 : Hid (gb = w2.heap.size ∧ FileS (fun b => b = gb) w3 gb [] ∧ FileS (fun b => b = fb) w3 fb [] ∧ Below w.heap.size w w3) := ⟨hgb, hf3, H2.out.2.1.below hb3, below_thenH H2.out.2.2 hb3⟩; clear hgb hb3 hf3)
    | (go_at_call 9; refine (some_any p L c 20 w w3 H3.out.2.2.2 HP.out.1 HP.out.2 (by decide)).mono ?_; rintro e w4 ⟨v, l, rfl, hr4, ht4, hl4, hb4⟩; have H4 : Hid (RowG w4 w3.heap.size v l ∧ Taken w l ∧ l.length ≤ 20 ∧ Below w3.heap.size w3 w4) := ⟨hr4, ht4, hl4, hb4⟩; clear hr4 ht4 hl4 hb4))
  obtain ⟨q, d, rfl⟩ := H4.out.1.slice
  obtain ⟨nsf, bsf, hcon⟩ := H4.out.2.1.con
  have HC : Hid (Con w nsf bsf l ∧ l.length ≤ 700) := ⟨hcon, by have := H4.out.2.2.1; omega⟩
  have HO : Hid (OrdI w w4 w3.heap.size fb gb (.slice q l.length d) nsf bsf l 0 0) := by
    have h1 := HB1.out.size
    have h2 := H2.out.2.2.size
    have h3 := H2.out.2.1.lt fb rfl
    exact OrdI.start (H3.out.2.2.1.below H4.out.2.2.2) (H3.out.2.1.below H4.out.2.2.2) (by have := H3.out.1; omega) (by have := H2.out.1; omega) (by have := H3.out.1; omega) H4.out.1 (below_thenH H3.out.2.2.2 H4.out.2.2.2)
  clear hcon
  go_loopw [7] (fun ii wr => ∃ i : Nat, ii = .int .i64 i ∧ i ≤ l.length ∧ Hid (OrdI w wr w3.heap.size fb gb (.slice q l.length d) nsf bsf l i i)) (fun ii _ => l.length - (RowKit.intOf ii).toNat)
  case atStart => exact ⟨0, rfl, by omega, HO⟩
  case round =>
    obtain ⟨i, rfl, hi, HI⟩ := hrel
    generalize wr = wo at *
    by_cases hlt : i < l.length
    · have hltI : (i : Int) < l.length := by omega
      have HLT : Hid (i < l.length) := hlt
      have hi9 : i ≤ 700 := by have := HC.out.2; omega
      have hl9 : l.length ≤ 700 := HC.out.2
      obtain ⟨x, hx⟩ : ∃ x, l[i]? = some x := ⟨_, List.getElem?_eq_getElem hlt⟩
      obtain ⟨k, hk⟩ : ∃ k, l.length = i + k + 1 := ⟨l.length - i - 1, by omega⟩
      have hkl : k < l.length := by omega
      obtain ⟨y, hy⟩ : ∃ y, l[k]? = some y := ⟨_, List.getElem?_eq_getElem hkl⟩
      have hy2 : l.reverse[i]? = some y := by rw [List.getElem?_reverse hlt, show l.length - 1 - i = k by omega]; exact hy
      have HX : Hid (l[i]? = some x ∧ l[k]? = some y ∧ l.reverse[i]? = some y) := ⟨hx, hy, hy2⟩
      have hkI : (l.length : Int) - 1 - (i : Int) = (k : Int) := by omega
      have hklI : (k : Int) < l.length := by omega
      obtain ⟨p1, c1, e1, h1⟩ := RowG.caps HI.out.row
      cases e1
      obtain ⟨g, rfl, a0, a1, a2, a3, a4, a5, a6, a7, a8, a9, a10⟩ := h1 i x hx
      have tok3 : True := trivial
      have tok4 : True := trivial
      have cA := HI.out.addf HC.out.1 HC.out.2 hx
      simp only [opgv, opgC] at cA
      clear hx hy hy2 h1 hlt hk
      go_wp2_with (first
        | (go_at_call 10; have tk := tok3; clear tok3; refine cA.mono ?_; clear tk cA; rintro e w5 ⟨z5, rfl, ho5⟩; have H5 : Hid (OrdI w w5 w3.heap.size fb gb (.slice (some ⟨g, 0, none⟩) l.length d) nsf bsf l (i + 1) i) := ho5; obtain ⟨p2, c2, e2, h2⟩ := RowG.caps ho5.row; cases e2; obtain ⟨g2, e3, d0, d1, d2, d3, d4, d5, d6, d7, d8, d9, d10⟩ := h2 k y HX.out.2.1; cases e3; have cB := ho5.addg HC.out.1 HC.out.2 HX.out.2.2; simp only [opgv, opgC] at cB; clear h2 ho5 a0 a1 a2 a3 a4 a5 a6 a7 a8 a9 a10)
        | (go_at_call 10; have tk := tok4; clear tok4; refine cB.mono ?_; clear tk cB; rintro e w6 ⟨z6, rfl, ho6⟩; have H6 : Hid (OrdI w w6 w3.heap.size fb gb (.slice (some ⟨g, 0, none⟩) l.length d) nsf bsf l (i + 1) (i + 1)) := ho6; clear ho6 d0 d1 d2 d3 d4 d5 d6 d7 d8 d9 d10))
      go_roundw
      case rel => exact ⟨i + 1, by go_num, HLT.out, H6⟩
      case measure => have := HLT.out; simp [RowKit.intOf]; omega
    · obtain rfl : i = l.length := by omega
      obtain ⟨HCs, F, G, hf, hg, i1, i2, s1, s2, hbw⟩ := HI.out.fin HC.out.1
      have HF : Hid (FileS F wo fb (vcs nsf bsf l) ∧ (∀ x ∈ vcs nsf bsf l, 1 ≤ x.sq) ∧ IsHd (vcs nsf bsf l) HCs) := ⟨hf, s1, i1⟩
      have HG : Hid (FileS G wo gb (vcs nsf bsf l.reverse) ∧ (∀ x ∈ vcs nsf bsf l.reverse, 1 ≤ x.sq) ∧ IsHd (vcs nsf bsf l.reverse) HCs ∧ HCs.length ≤ 700) := ⟨hg, s2, i2, by
        obtain ⟨sn, H, mv, sp, sc, hv, k1, k2, _, k3, _⟩ := hf
        have := (k2.isHd s1).unique i1
        rw [← this, List.length_map]
        have := @vcs_len nsf bsf l
        have := HC.out.2
        omega⟩
      have HBW : Hid (Below w.heap.size w wo) := hbw
      clear hf hg i1 i2 s1 s2 hbw hlt
      have tok3 : True := trivial
      have tok4 : True := trivial
      go_wp2_with (first
        | (go_at_call 14; have tk := tok3; clear tok3; refine (fheadsR HF.out.1 (Below.refl _ _) HF.out.2.1 HF.out.2.2).mono ?_; clear tk; rintro e w5 ⟨px, cx, MX, rfl, hrx, hmx, hbx⟩; have H5 : Hid (RowV w5 wo.heap.size (.slice px HCs.length cx) MX ∧ MX.map VG.c = HCs ∧ Below wo.heap.size wo w5) := ⟨hrx, hmx, hbx⟩; clear hrx hmx hbx)
        | (go_at_call 14; have tk := tok4; clear tok4; refine (fheadsR HG.out.1 H5.out.2.2 HG.out.2.1 HG.out.2.2.1).mono ?_; clear tk; rintro e w6 ⟨py, cy, MY, rfl, hry, hmy, hby⟩; have H6 : Hid (RowV w6 w5.heap.size (.slice py HCs.length cy) MY ∧ MY.map VG.c = HCs ∧ RowV w6 wo.heap.size (.slice px HCs.length cx) MX ∧ MX.map VG.c = HCs ∧ Below wo.heap.size wo w6) := ⟨hry, hmy, H5.out.1.below hby, H5.out.2.1, below_thenH H5.out.2.2 hby⟩; clear hry hmy hby))
      go_loopw [10] (fun ii wr => ∃ i : Nat, ii = .int .i64 i ∧ i ≤ HCs.length ∧ Hid (Below w6.heap.size w6 wr)) (fun ii _ => HCs.length - (RowKit.intOf ii).toNat)
      case atStart => exact ⟨0, rfl, by omega, Below.refl _ _⟩
      case round =>
        obtain ⟨i, rfl, hi, HB⟩ := hrel
        by_cases hlt : i < HCs.length
        · have hltI : (i : Int) < HCs.length := by omega
          have HLT : Hid (i < HCs.length) := hlt
          have hi9 : i ≤ 700 := by have := HG.out.2.2.2; omega
          obtain ⟨x, y, hx, hy, e1, e2⟩ : ∃ x y : VG, MX[i]? = some x ∧ MY[i]? = some y ∧ y.t = x.t ∧ y.n = x.n := by
            have h1 : i < MX.length := by rw [← List.length_map (f := VG.c), H6.out.2.2.2.1]; exact hlt
            have h2 : i < MY.length := by rw [← List.length_map (f := VG.c), H6.out.2.1]; exact hlt
            have e : (MX.map VG.c)[i]? = (MY.map VG.c)[i]? := by rw [H6.out.2.2.2.1, H6.out.2.1]
            rw [List.getElem?_map, List.getElem?_map, List.getElem?_eq_getElem h1, List.getElem?_eq_getElem h2] at e
            simp only [Option.map_some, Option.some.injEq] at e
            exact ⟨_, _, List.getElem?_eq_getElem h1, List.getElem?_eq_getElem h2, (congrArg VC.t e).symm, (congrArg VC.n e).symm⟩
          obtain ⟨p1, k1, f1, h1⟩ := (H6.out.2.2.1.below HB.out).caps
          obtain ⟨p2, k2, f2, h2⟩ := (H6.out.1.below HB.out).caps
          obtain ⟨gx, r1, a0, a1, _⟩ := h1 i x hx
          obtain ⟨gy, r2, d0, d1, _⟩ := h2 i y hy
          rw [r1] at f1
          rw [r2] at f2
          obtain ⟨rfl, _⟩ : px = some ⟨gx, 0, none⟩ ∧ True := ⟨by injection f1, trivial⟩
          obtain ⟨rfl, _⟩ : py = some ⟨gy, 0, none⟩ ∧ True := ⟨by injection f2, trivial⟩
          rw [e1] at d0
          rw [e2] at d1
          have hcall : ∀ W, Calls Try.prog 21 #[idv x.t x.n, idv x.t x.n] W fun e w' => e = .returned (.bool true) ∧ Below W.heap.size W w' := fun W => by
            have := same_any x.t x.n x.t x.n W
            rwa [show sameB x.t x.n x.t x.n = true by simp [sameB]] at this
          clear h1 h2 f1 f2 r1 r2 hx hy e1 e2 hlt
          go_wp2_with fail
          have HSx : ∀ W W', (W.cell? ⟨gx, i * 5, none⟩ = some (.int .i64 x.t) ∧ W.cell? ⟨gx, i * 5 + 1, none⟩ = some (.int .i64 x.n) ∧ W.cell? ⟨gy, i * 5, none⟩ = some (.int .i64 x.t) ∧ W.cell? ⟨gy, i * 5 + 1, none⟩ = some (.int .i64 x.n) ∧ Hid (Below wr.heap.size wr W)) → Hid (Below W.heap.size W W') → W'.cell? ⟨gx, i * 5, none⟩ = some (.int .i64 x.t) ∧ W'.cell? ⟨gx, i * 5 + 1, none⟩ = some (.int .i64 x.n) ∧ W'.cell? ⟨gy, i * 5, none⟩ = some (.int .i64 x.t) ∧ W'.cell? ⟨gy, i * 5 + 1, none⟩ = some (.int .i64 x.n) ∧ Hid (Below wr.heap.size wr W') := fun W W' h1 h2 =>
            have hb := below_thenH h1.2.2.2.2.out h2.out
            ⟨cell_keptH a0 hb, cell_keptH a1 hb, cell_keptH d0 hb, cell_keptH d1 hb, hb⟩
          have S1 : wr.drew.cell? ⟨gx, i * 5, none⟩ = some (.int .i64 x.t) ∧ wr.drew.cell? ⟨gx, i * 5 + 1, none⟩ = some (.int .i64 x.n) ∧ wr.drew.cell? ⟨gy, i * 5, none⟩ = some (.int .i64 x.t) ∧ wr.drew.cell? ⟨gy, i * 5 + 1, none⟩ = some (.int .i64 x.n) ∧ Hid (Below wr.heap.size wr wr.drew) := ⟨a0, a1, d0, d1, below_drewH wr⟩
          have S2 : wr.cell? ⟨gx, i * 5, none⟩ = some (.int .i64 x.t) ∧ wr.cell? ⟨gx, i * 5 + 1, none⟩ = some (.int .i64 x.n) ∧ wr.cell? ⟨gy, i * 5, none⟩ = some (.int .i64 x.t) ∧ wr.cell? ⟨gy, i * 5 + 1, none⟩ = some (.int .i64 x.n) ∧ Hid (Below wr.heap.size wr wr) := ⟨a0, a1, d0, d1, Below.refl _ _⟩
          have HFr : ∀ W, (W.cell? ⟨gx, i * 5, none⟩ = some (.int .i64 x.t) ∧ W.cell? ⟨gx, i * 5 + 1, none⟩ = some (.int .i64 x.n) ∧ W.cell? ⟨gy, i * 5, none⟩ = some (.int .i64 x.t) ∧ W.cell? ⟨gy, i * 5 + 1, none⟩ = some (.int .i64 x.n) ∧ Hid (Below wr.heap.size wr W)) → Below wr.heap.size wr W := fun W hW => hW.2.2.2.2.out
          go_region_held3 (fun W => W.cell? ⟨gx, i * 5, none⟩ = some (.int .i64 x.t) ∧ W.cell? ⟨gx, i * 5 + 1, none⟩ = some (.int .i64 x.n) ∧ W.cell? ⟨gy, i * 5, none⟩ = some (.int .i64 x.t) ∧ W.cell? ⟨gy, i * 5 + 1, none⟩ = some (.int .i64 x.n) ∧ Hid (Below wr.heap.size wr W))
            (first | exact S1 | exact S2 | assumption | exact HSx _ _ (by assumption) (by assumption))
            (first | (go_at_call 21; refine Calls_new (hcall _) ?_; intro w3 HB3))
          have HB2 : Hid (Below wr.heap.size wr _) := HFr _ (by assumption)
          go_wp2_with fail
          go_roundw
          case rel => exact ⟨i + 1, by go_num, HLT.out, below_thenH HB.out HB2.out⟩
          case measure => have := HLT.out; simp [RowKit.intOf]; omega
        · obtain rfl : i = HCs.length := by omega
          have HBV : Hid (Below wo.heap.size wo wr) := below_thenH H6.out.2.2.2.2 HB.out
          have tok5 : True := trivial
          have tok6 : True := trivial
          clear hlt
          have HBD : Hid (Below wo.heap.size wo wr.drew) := below_thenH HBV.out (below_drewH wr)
          go_wp2_with fail
          go_region_with (first
              | (go_at_call 15; have tk := tok5; clear tok5; refine (fvalueR HF.out.1 HBD.out HF.out.2.1 HF.out.2.2).mono ?_; clear tk; rintro e w7 ⟨p7, n7, c7, rfl, hc7, hb7⟩; have H7 : Hid (Below wo.heap.size wo w7) := below_thenH HBD.out hb7; have hc7' := hc7 w7 (Below.refl _ _); clear hb7)
              | (go_at_call 15; have tk := tok6; clear tok6; refine (fvalueR HG.out.1 H7.out HG.out.2.1 HG.out.2.2.1).mono ?_; clear tk; rintro e w8 ⟨p8, n8, c8, rfl, hc8, hb8⟩; have H8 : Hid (Below wo.heap.size wo w8) := below_thenH H7.out hb8; have hc8' := hc8 w8 (Below.refl _ _); have hc78 := hc7 w8 hb8; clear hb8))
          all_goals
            go_wp2_with fail
            go_ret
            exact ⟨by first | rfl | (simp; done), below_thenH HBW.out H8.out⟩

end Go.Proofs.Yteimjkicinjcgaa.Ck.Y.L

/-
  An operation, and bytes, that came in, read cell by cell.
-/
namespace Go.Proofs.Yteimjkicinjcgaa.Cd
open Go.ChangeShapes Go.WideShapes Go.ChangeAt Go.RowKit Go.Deep

theorem cellsU8 : Try.prog.cellsOf 5 = 1 := by kernel_rfl
theorem cellsI64 : Try.prog.cellsOf 2 = 1 := by kernel_rfl
theorem cellsInt : Try.prog.cellsOf 3 = 1 := by kernel_rfl
theorem cellsStr : Try.prog.cellsOf 9 = 1 := by kernel_rfl
theorem cellsId : Try.prog.cellsOf 30 = 2 := by kernel_rfl
theorem cellsBs : Try.prog.cellsOf 31 = 1 := by kernel_rfl
theorem cellsVec : Try.prog.cellsOf 33 = 1 := by kernel_rfl
theorem cellsOp : Try.prog.cellsOf 35 = 11 := by kernel_rfl

def byteOf (z : Int) : BitVec 8 := BitVec.ofNat 8 z.toNat
theorem byteOf_val {z : Int} (h : (Lit.int .u8 z).wf = true) : u8v (byteOf z) = .int .u8 z := by
  simp [Lit.wf] at h
  have h1 : (0 : Int) ≤ z := h.1
  have h2 : z ≤ 255 := h.2
  unfold u8v byteOf
  rw [BitVec.toNat_ofNat, Nat.mod_eq_of_lt (by omega)]
  congr 1
  omega
theorem row_of_cells {W : World} {k : IntKind} {a : Addr} {len cap : Nat} {zs : List Int} (hl : len ≤ cap) (hz : zs.length = cap)
    (hc : ∀ i, i < cap → W.cell? (a.add i) = some (.int k (zs.getD i 0))) (hp : 0 < len) : ∃ b o, a = ⟨b, o, none⟩ ∧ ∀ (j : Nat) (x : Int), (zs.take len)[j]? = some x → W.cell? ⟨b, o + j, none⟩ = some (.int k x) := by
  obtain ⟨b, off, spot⟩ := a
  have h0 := hc 0 (by omega)
  have hspot : spot = none := by simpa [Addr.add] using World.cell?_spot h0
  subst hspot
  refine ⟨b, off, rfl, fun j x hj => ?_⟩
  rw [List.getElem?_take] at hj
  split at hj
  · have hcell := hc j (by omega)
    rw [Addr.add_lit, List.getD, hj, Option.getD_some] at hcell
    exact hcell
  · cases hj

/-- A slice of bytes, by its value. -/
theorem bytes_in {H : Type} {enc : TypeId × Value → H} {W : World} {fuel : Nat} {cs : List Value} {r : DataW H × List MemPlace} (h : DataW.trod enc Try.prog W 0 (fun _ => true) true fuel 31 cs = some r) :
    ∃ a cap, ∃ bs : List (BitVec 8), cs = [.slice a bs.length cap] ∧ bs.length ≤ cap ∧ bs.length ≤ maxLen ∧ Bytes W a bs := by
  rcases open_ints Try.underlying31 Try.underlying5 cellsU8 h with ⟨hcs, _⟩ | ⟨x, len, cap, zs, hcs, _, hl, hm, hz, _, hcell, hw⟩
  · exact ⟨none, 0, [], hcs, Nat.le_refl _, Nat.zero_le _, bytes_nil _ _⟩
  · have hz' : zs.length = cap := by simpa using hz
    have hlen : ((zs.take len).map byteOf).length = len := by simp; omega
    refine ⟨some x, cap, (zs.take len).map byteOf, by rw [hlen]; exact hcs, by rw [hlen]; exact hl, by rw [hlen]; omega, fun hp => ?_⟩
    rw [hlen] at hp
    obtain ⟨b, o, rfl, hx⟩ := row_of_cells hl hz' (fun i hi => hcell i (by omega)) hp
    refine ⟨b, o, rfl, fun j y hj => ?_⟩
    rw [List.getElem?_map] at hj
    obtain ⟨z, hzj, rfl⟩ := Option.map_eq_some_iff.1 hj
    rw [hx j z hzj, byteOf_val (hw z (List.mem_of_mem_take (List.mem_of_getElem? hzj)))]
/-- A slice of numbers, by its value. -/
theorem ints_in {H : Type} {enc : TypeId × Value → H} {W : World} {fuel : Nat} {cs : List Value} {r : DataW H × List MemPlace} (h : DataW.trod enc Try.prog W 0 (fun _ => true) true fuel 33 cs = some r) :
    ∃ a cap, ∃ ns : List Int, cs = [.slice a ns.length cap] ∧ ns.length ≤ cap ∧ ns.length ≤ maxLen ∧ Lies W a (ns.map iv) := by
  rcases open_ints Try.underlying33 Try.underlying2 cellsI64 h with ⟨hcs, _⟩ | ⟨x, len, cap, zs, hcs, _, hl, hm, hz, _, hcell, hw⟩
  · exact ⟨none, 0, [], hcs, Nat.le_refl _, Nat.zero_le _, lies_nil _ _⟩
  · have hz' : zs.length = cap := by simpa using hz
    have hlen : (zs.take len).length = len := by simp; omega
    refine ⟨some x, cap, zs.take len, by rw [hlen]; exact hcs, by rw [hlen]; exact hl, by rw [hlen]; omega, fun hp => ?_⟩
    rw [List.length_map, hlen] at hp
    obtain ⟨b, o, rfl, hx⟩ := row_of_cells hl hz' (fun i hi => hcell i (by omega)) hp
    refine ⟨b, o, rfl, fun j y hj => ?_⟩
    rw [List.getElem?_map] at hj
    obtain ⟨z, hzj, rfl⟩ := Option.map_eq_some_iff.1 hj
    exact hx j z hzj

theorem list2 {α : Type} {l : List α} (h : l.length = 2) : ∃ a b, l = [a, b] := by
  match l, h with
  | [a, b], _ => exact ⟨a, b, rfl⟩
theorem list8 {α : Type} {l : List α} (h : l.length = 8) : ∃ a b c d e f g i, l = [a, b, c, d, e, f, g, i] := by
  match l, h with
  | [a, b, c, d, e, f, g, i], _ => exact ⟨a, b, c, d, e, f, g, i, rfl⟩
theorem list11 {α : Type} {l : List α} (h : l.length = 11) : ∃ a b c d e f g i j k m, l = [a, b, c, d, e, f, g, i, j, k, m] := by
  match l, h with
  | [a, b, c, d, e, f, g, i, j, k, m], _ => exact ⟨a, b, c, d, e, f, g, i, j, k, m, rfl⟩

/-- The cells of a stamp. -/
theorem id_cells {H : Type} {enc : TypeId × Value → H} {W : World} {fuel : Nat} {cs : List Value} {x : DataW H × List MemPlace} (h : DataW.trod enc Try.prog W 0 (fun _ => true) true fuel 30 cs = some x) :
    ∃ t n : Int, cs = [.int .i64 t, .int .i64 n] := by
  obtain ⟨zs, n', _, _, hl, hlen, hf⟩ := DataW.trod_struct Try.underlying30 h
  rw [cellsId] at hl
  obtain ⟨v0, v1, rfl⟩ := list2 hl
  obtain ⟨z0, z1, rfl⟩ := list2 (show zs.length = 2 from hlen)
  have g0 := hf 0 _ rfl
  have g1 := hf 1 _ rfl
  simp [cellsInt, cellsI64] at g0 g1
  obtain ⟨tt, e3, _, _⟩ := DataW.trod_int Try.underlying2 g0
  obtain ⟨dd, e4, _, _⟩ := DataW.trod_int Try.underlying3 g1
  simp at e3 e4
  subst e3 e4
  exact ⟨tt, dd, rfl⟩

end Go.Proofs.Yteimjkicinjcgaa.Cd

/-
  The law's operations, as they come in.
-/
namespace Go.Proofs.Yteimjkicinjcgaa.Ck.Y.L
open Go.ChangeShapes Go.WideShapes Go.ChangeAt Go.RowKit Go.Deep

theorem elems_in {H : Type} {enc : TypeId × Value → H} {W : World} {fuel : Nat} {a : Option Addr} {len cap : Nat} {y : DataW H × List MemPlace} {t e : TypeId} {S : Nat} (hu : Try.prog.underlying t = some (.slice e)) (hS : Try.prog.cellsOf e = S) (h0 : 0 < S)
    {α : Type} (dflt : α) (R : Nat → Nat → α → Prop) (h : DataW.trod enc Try.prog W 0 (fun _ => true) true fuel t [.slice a len cap] = some y)
    (hel : ∀ (b o : Nat) (cs : List Value) (n : Nat) (x : DataW H × List MemPlace), W.cells? 0 ⟨b, o, none⟩ S = some cs → DataW.trod enc Try.prog W 0 (fun _ => true) true n e cs = some x → ∃ i, R b o i) :
    ∃ l : List α, l.length = len ∧ (0 < len → ∃ g o, a = some ⟨g, o, none⟩ ∧ ∀ (j : Nat) (x : α), l[j]? = some x → R g (o + j * S) x) := by
  rcases open_slice hu h with ⟨hcs, _⟩ | ⟨⟨b, off, spot⟩, len', cap', m, n, D, Pl, hcs, _, hl, hmax, hm, hx, hel'⟩
  · simp at hcs
    obtain ⟨rfl, rfl, rfl⟩ := hcs
    exact ⟨[], rfl, fun h => absurd h (by simp)⟩
  · simp at hcs
    obtain ⟨rfl, rfl, rfl⟩ := hcs
    simp only [if_true] at hm
    subst hm
    rw [hS] at hel'
    by_cases hp : 0 < len
    · have hspot : spot = none := by
        obtain ⟨cs, hc, _⟩ := hel' 0 (by omega)
        obtain ⟨_, _, hcell⟩ := World.cells?_some hc
        have h0' := hcell 0 (by omega)
        have hl6 := (World.cells?_some hc).2.1
        rw [List.getElem?_eq_getElem (by omega)] at h0'
        simpa [Addr.add] using World.cell?_spot h0'
      subst hspot
      have hex : ∀ k, ∃ i : α, k < len → R b (off + k * S) i := by
        intro k
        by_cases hk : k < len
        · obtain ⟨cs, hc, ht⟩ := hel' k (by omega)
          rw [Addr.add_lit] at hc
          obtain ⟨i, h2⟩ := hel b (off + k * S) cs n _ hc ht
          exact ⟨i, fun _ => h2⟩
        · exact ⟨dflt, fun h => absurd h hk⟩
      obtain ⟨f, hf⟩ : ∃ f : Nat → α, ∀ k, k < len → R b (off + k * S) (f k) := ⟨fun k => (hex k).choose, fun k => (hex k).choose_spec⟩
      have hlen : ((List.range len).map f).length = len := by simp
      refine ⟨(List.range len).map f, hlen, fun _ => ⟨b, off, rfl, fun j x hj => ?_⟩⟩
      have hlt := (List.getElem?_eq_some_iff.1 hj).1
      rw [hlen] at hlt
      rw [List.getElem?_map, List.getElem?_range hlt] at hj
      cases hj
      exact hf j hlt
    · have h0' : len = 0 := by omega
      subst h0'
      exact ⟨[], rfl, fun h => absurd h (by simp)⟩


set_option maxRecDepth 8000 in
set_option maxHeartbeats 1000000 in
/-- An operation's cells. -/
theorem opcells_in {H : Type} {enc : TypeId × Value → H} {W : World} {fuel : Nat} {cs : List Value} {x : DataW H × List MemPlace} (h : DataW.trod enc Try.prog W 0 (fun _ => true) true fuel 35 cs = some x) :
    ∃ o : OG, cs = opG o ∧ ∃ ns bs, RawIn W o ns bs := by
  obtain ⟨zs, n', _, _, hl, hlen, hf⟩ := DataW.trod_struct Try.underlying35 h
  rw [Cd.cellsOp] at hl
  obtain ⟨v0, v1, v2, v3, v4, v5, v6, v7, v8, v9, v10, rfl⟩ := Cd.list11 hl
  obtain ⟨z0, z1, z2, z3, z4, z5, z6, z7, rfl⟩ := Cd.list8 (show zs.length = 8 from hlen)
  have g0 := hf 0 _ rfl
  have g1 := hf 1 _ rfl
  have g2 := hf 2 _ rfl
  have g3 := hf 3 _ rfl
  have g4 := hf 4 _ rfl
  have g5 := hf 5 _ rfl
  have g6 := hf 6 _ rfl
  have g7 := hf 7 _ rfl
  simp [Cd.cellsInt, Cd.cellsI64, Cd.cellsId, Cd.cellsStr, Cd.cellsBs, Cd.cellsVec] at g0 g1 g2 g3 g4 g5 g6 g7
  obtain ⟨t, n, e0⟩ := Cd.id_cells g0
  obtain ⟨sq, e1, _, _⟩ := DataW.trod_int Try.underlying2 g1
  obtain ⟨kd, e2, _, _⟩ := DataW.trod_int Try.underlying3 g2
  obtain ⟨ot, on, e3⟩ := Cd.id_cells g3
  obtain ⟨pt, pn, e4⟩ := Cd.id_cells g4
  obtain ⟨s, e5, _, _⟩ := DataW.trod_string Try.underlying9 g5
  obtain ⟨p, c, data, e6, k1, _, k2⟩ := Cd.bytes_in g6
  obtain ⟨q, d, ns, e7, k3, k4, k5⟩ := Cd.ints_in g7
  simp at e0 e1 e2 e3 e4 e5 e6 e7
  refine ⟨⟨t, n, sq, kd, ot, on, pt, pn, s, p, data.length, c, q, ns.length, d⟩, ?_, ns, data, ⟨k5, rfl, k3, k4, k2, rfl, k1⟩⟩
  show _ = [_, _, _, _, _, _, _, _, _, _, _]
  rw [e0.1, e0.2, e1, e2, e3.1, e3.2, e4.1, e4.2, e5, e6, e7]
/-- A row of operations. -/
theorem ops_in {H : Type} {enc : TypeId × Value → H} {W : World} {fuel : Nat} {a : Option Addr} {len cap : Nat} {y : DataW H × List MemPlace} (h : DataW.trod enc Try.prog W 0 (fun _ => true) true fuel 22 [.slice a len cap] = some y) :
    ∃ L : List OG, L.length = len ∧ OpsL W a L ∧ L.length ≤ maxLen := by
  have hmax : len ≤ maxLen := by
    rcases open_slice Try.underlying22 h with ⟨hcs, _⟩ | ⟨_, len', cap', _, _, _, _, hcs, _, hl, hmax, _⟩
    · simp at hcs; rw [hcs.2.1]; exact Nat.zero_le _
    · simp at hcs
      rw [hcs.2.1]
      omega
  obtain ⟨l, hl, hr⟩ := elems_in Try.underlying22 Cd.cellsOp (by decide) (⟨0, 0, 0, 0, 0, 0, 0, 0, ⟨#[]⟩, none, 0, 0, none, 0, 0⟩ : OG) (fun b o x => (∀ k : Nat, k < 11 → W.cell? ⟨b, o + k, none⟩ = (opG x)[k]?) ∧ ∃ ns bs, RawIn W x ns bs) h (fun b o cs n x hc ht => by
    obtain ⟨z, rfl, hz⟩ := opcells_in ht
    obtain ⟨_, _, hcell⟩ := World.cells?_some hc
    exact ⟨z, fun k hk => by have := hcell k hk; rwa [Addr.add_lit] at this, hz⟩)
  refine ⟨l, hl, fun h0 => ?_, by omega⟩
  obtain ⟨g, o, e, hc⟩ := hr (by omega)
  refine ⟨g, o, e, fun j x hj => ?_⟩
  obtain ⟨h1, h2⟩ := hc j x hj
  exact ⟨⟨h1 0 (by omega), h1 1 (by omega), h1 2 (by omega), h1 3 (by omega), h1 4 (by omega), h1 5 (by omega), h1 6 (by omega), h1 7 (by omega), h1 8 (by omega), h1 9 (by omega), h1 10 (by omega)⟩, h2⟩

end Go.Proofs.Yteimjkicinjcgaa.Ck.Y.L

namespace Go.Proofs.Yteimjkicinjcgaa
open Go.ChangeShapes Go.WideShapes Go.ChangeAt Go.RowKit

theorem ownKnobs : ownKnob Try.prog.godebug = none := by kernel_rfl
theorem laidOut : laidOutB Try.prog = true := by kernel_rfl

set_option maxRecDepth 100000 in
theorem corders_lifted (os : Os) (started : os.Started) (H : Type) (enc : TypeId × Value → H) :
    ReturnsInHanded {} Try.checked os 4 .any (Rows.contentOrdersSpec.pre6 enc Try.prog Try.f4 Rows.contentOrdersRow.domain false) (Rows.contentOrdersSpec.post enc Try.prog Try.f4 false true false false) := by
  refine returnsInHanded_of_change (C := Try.checked) ownKnobs started (by kernel_rfl) Try.func4
    (ChangeSpec.witness6 (enc := enc) (C := Try.checked) false ⟨#[], #[.slice none 0 0], []⟩ 8 (by kernel_rfl) (by kernel_rfl) (by kernel_rfl) (by kernel_rfl)) ?_
  intro W base args ds gs before hval0 hW hcnd _
  have hval : ∀ (j : Nat) t v, Try.f4.params[j]? = some t → args[j]? = some v → Value.okWide Try.prog W .any base t v := hval0
  have hW' := hW
  obtain ⟨p, q, hA0, hV, rfl, hfz, hnd⟩ := hW
  have hA : DataW.TrodAll enc Try.prog W 0 (fun _ => true) true Try.f4.params.toList args.toList ds p := hA0
  rw [Try.params4] at hA hval
  obtain ⟨v0, vs0, d0, ds0, p0, q0, hargs, rfl, rfl, h0, r0⟩ := trodAll_cons hA
  obtain ⟨rfl, rfl, rfl⟩ := trodAll_nil r0
  obtain rfl : args = #[v0] := by cases args; simp_all
  obtain ⟨rfl, rfl⟩ := trodVars_none hV
  obtain ⟨a0, len0, cap0, rfl⟩ := okWide_slice Try.underlying22 (hval 0 22 v0 rfl rfl)
  have k0 := h0
  have lt0 : ∀ x ∈ p0, x.block < W.heap.size := by obtain ⟨m, hm⟩ := k0; exact DataW.trod_lt m _ _ _ hm
  obtain ⟨L, rfl, hL, hmax⟩ : ∃ L : List Ck.Y.OG, L.length = len0 ∧ Ck.Y.L.OpsL W a0 L ∧ L.length ≤ maxLen := by
    obtain ⟨fuel, hf⟩ := h0
    exact Ck.Y.L.ops_in (by simpa [Value.cells] using hf)
  clear hA0 hval0
  refine (Ck.Y.L.orders_law a0 L cap0 W hL hmax).mono fun e W' ⟨he, bel⟩ => ?_
  subst he
  exact ⟨_, rfl, _, _, _, [], _, [], hW', trodAll_mk1 (shut_bool Try.underlying4 _), (trodAll_cons_mk (Below.trod laidOut (by kernel_rfl) (of_decide_eq_true (by kernel_rfl)) k0 bel lt0) trodAll_mk0), rfl, bel.frame _, fun h => by cases h⟩

theorem contentOrders_holds : Rows.ContentOrdersSaid :=
  OpenClaim.holds_of_wide 4 Try.f4 rfl rfl rfl rfl rfl rfl rfl ⟨rfl, rfl, rfl, rfl, rfl⟩ rfl rfl rfl rfl rfl (by kernel_rfl) Try.func4 (by kernel_rfl)
    (of_decide_eq_true (by kernel_rfl)) (by unfold Func.isWrapper; first | (rw [if_pos (by decide +kernel)]; kernel_rfl) | (rw [if_neg (by decide +kernel)]; exact ⟨rfl, rfl⟩))
    (fun os started H enc _ => corders_lifted os started H enc)

#print axioms contentOrders_holds
end Go.Proofs.Yteimjkicinjcgaa
