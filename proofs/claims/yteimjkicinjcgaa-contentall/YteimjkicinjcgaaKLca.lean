/-
  ContentAll: the document's heads are the file's; what its loop keeps.
-/
import Derived.Test.YteimjkicinjcgaaQLta
import Derived.Laws.Tables

namespace Go.Proofs.Yteimjkicinjcgaa.Ck.Y.L
open Go.RowKit Go.Maps Go.Lib

theorem heads_isHd {nsf : OG → List Int} {bsf : OG → List (BitVec 8)} {l s : List OG} (hap : l.Pairwise fun a b => (a.t, a.n) ≠ (b.t, b.n)) (hr : RngG l) (hl : l.length < 1000000) (hs : IsSortedG l s) :
    IsHd (l.map fun o => vcOf o (nsf o) (bsf o)) ((headsG nsf s).map fun o => vcOf o (nsf o) (bsf o)) := by
  obtain ⟨P, rfl, hp, hrise⟩ := hs
  have hperm : (P.map stripG).Perm l := by have := hp.map stripG; rwa [strip_enumG] at this
  have hm : ∀ x, x ∈ P.map stripG ↔ x ∈ l := fun x => hperm.mem_iff
  have hapP : P.Pairwise fun a b => (a.o.t, a.o.n) ≠ (b.o.t, b.o.n) := by
    have h1 : (P.map stripG).Pairwise fun a b => (a.t, a.n) ≠ (b.t, b.n) := (hperm.pairwise_iff (fun h e => h e.symm)).2 hap
    rw [List.pairwise_map] at h1
    exact h1
  have hok : ∀ a ∈ P, a.ok := fun a ha => enumG_ok hr hl a (hp.mem_iff.1 ha)
  have hless : P.Pairwise fun a b => lessB a.o.t a.o.n b.o.t b.o.n = true := by
    refine List.Pairwise.imp_of_mem (fun {a b} ha hb h => ?_) (List.Pairwise.and (show P.Pairwise _ from hrise) hapP)
    rcases (keyG_lt (hok a ha) (hok b hb)).1 h.1 with h1 | ⟨h1, _⟩
    · exact h1
    · have h2 : ¬ (a.o.t = b.o.t ∧ a.o.n = b.o.n) := fun e => h.2 (Prod.ext e.1 e.2)
      have h3 : ¬ lessB b.o.t b.o.n a.o.t a.o.n = true := by rw [h1]; exact Bool.false_ne_true
      rw [lessB_true] at h3 ⊢
      omega
  refine ⟨?_, fun x => ?_⟩
  · unfold headsG
    rw [List.pairwise_map]
    refine List.Pairwise.filter _ ?_
    rw [List.pairwise_map]
    exact hless
  · rw [List.mem_map, List.mem_map]
    constructor
    · rintro ⟨o, ho, rfl⟩
      obtain ⟨h1, h2⟩ := List.mem_filter.1 ho
      refine ⟨⟨o, (hm o).1 h1, rfl⟩, ?_⟩
      unfold headC
      rw [List.all_map, List.all_eq_true]
      intro y hy
      exact List.all_eq_true.1 h2 y ((hm y).2 hy)
    · rintro ⟨⟨o, ho, rfl⟩, h2⟩
      refine ⟨o, List.mem_filter.2 ⟨(hm o).2 ho, ?_⟩, rfl⟩
      unfold headC at h2
      rw [List.all_map, List.all_eq_true] at h2
      refine List.all_eq_true.2 fun y hy => ?_
      exact h2 y ((hm y).1 hy)
theorem may_own {o : OG} {ns : List Int} (h : mayW o ns = true) : seenB o.sq o.n ns = false := by
  unfold mayW Cd.mayO Cd.countB at h
  simp only [Bool.and_eq_true, decide_eq_true_eq] at h
  have := h.1.2.2
  unfold seenB
  rw [decide_eq_false_iff_not]
  omega
theorem may_rng {o : OG} {ns : List Int} (h : mayW o ns = true) : Rng o.t o.n := by
  unfold mayW Cd.mayO at h
  simp only [Bool.and_eq_true] at h
  have := Ck.validB_true.1 h.1.1
  unfold Rng B63
  omega
theorem Con.rng {u : World} {nsf : OG → List Int} {bsf : OG → List (BitVec 8)} {l : List OG} (h : Con u nsf bsf l) : RngG l := fun x hx => may_rng (h.each x hx).2
theorem Con.sq' {u : World} {nsf : OG → List Int} {bsf : OG → List (BitVec 8)} {l : List OG} (h : Con u nsf bsf l) (k : Nat) : ∀ x ∈ vcs nsf bsf (l.take k), 1 ≤ x.sq := by
  intro x hx
  unfold vcs at hx
  rw [List.mem_map] at hx
  obtain ⟨o, ho, rfl⟩ := hx
  exact may_sq (h.each o (List.mem_of_mem_take (List.mem_filter.1 ho).1)).2
/-- A file, the law's operations, and those that were taken. -/
structure AllF (u wr : World) (base lb fb : Nat) (v : Value) (m : List OG) (nsf : OG → List Int) (bsf : OG → List (BitVec 8)) (vl : Value) (i j : Nat) (F : Nat → Prop) : Prop where
  one : One u wr base fb v m F (vcs nsf bsf (m.take i))
  lrow : RowG wr lb vl ((m.take j).filter isW)
  lu : u.heap.size ≤ lb
  lw : lb ≤ wr.heap.size
  off : ∀ g, v.ownBlock = some g → g < lb
def AllI (u wr : World) (base lb fb : Nat) (v : Value) (m : List OG) (nsf : OG → List Int) (bsf : OG → List (BitVec 8)) (vl : Value) (i j : Nat) : Prop := ∃ F, AllF u wr base lb fb v m nsf bsf vl i j F
section
variable {u wr : World} {base lb fb : Nat} {v vl : Value} {m : List OG} {nsf : OG → List Int} {bsf : OG → List (BitVec 8)} {i j : Nat}
theorem AllI.later (h : AllI u wr base lb fb v m nsf bsf vl i j) {w : World} (hb : Below wr.heap.size wr w) : AllI u w base lb fb v m nsf bsf vl i j := by
  obtain ⟨F, h⟩ := h
  exact ⟨F, h.one.later hb, h.lrow.below hb, h.lu, Nat.le_trans h.lw hb.size, h.off⟩
theorem AllI.row (h : AllI u wr base lb fb v m nsf bsf vl i j) : RowG wr base v m := by obtain ⟨F, h⟩ := h; exact h.one.row
theorem AllI.lrow (h : AllI u wr base lb fb v m nsf bsf vl i j) : RowG wr lb vl ((m.take j).filter isW) := by obtain ⟨F, h⟩ := h; exact h.lrow
theorem AllI.below (h : AllI u wr base lb fb v m nsf bsf vl i j) : Below u.heap.size u wr := by obtain ⟨F, h⟩ := h; exact h.one.below
theorem AllI.lw (h : AllI u wr base lb fb v m nsf bsf vl i j) : lb ≤ wr.heap.size := by obtain ⟨F, h⟩ := h; exact h.lw
theorem AllI.start {w : World} (hf : FileS (fun b => b = fb) w fb []) (h1 : u.heap.size ≤ fb) (hr : RowG w base v m) (hb : Below u.heap.size u w) : AllI u w base w.heap.size fb v m nsf bsf (.slice none 0 0) 0 0 :=
  ⟨_, ⟨hf, fun b hb => by rw [show b = fb from hb]; exact h1, hr, hb⟩, RowG.nil _ _, hb.size, Nat.le_refl _, fun g hg => by obtain ⟨cs, hc, _⟩ := hr.tag hg; exact block_lt hc⟩
/-- The file takes one more. -/
theorem AllI.turn {F F' : Nat → Prop} (h : AllF u wr base lb fb v m nsf bsf vl i j F) {w : World} {k : Nat} (h1 : FileS F' w fb (vcs nsf bsf (m.take k))) (h2 : ∀ b, F' b → F b ∨ wr.heap.size ≤ b) (h3 : Only F wr w) : AllI u w base lb fb v m nsf bsf vl k j :=
  ⟨F', h.one.turn h1 h2 h3, h.lrow.kept h3 fun g hg => by
    obtain ⟨cs, hcs, _⟩ := h.lrow.tag hg
    exact h.one.f.notF hcs (by decide) (by decide), h.lu, Nat.le_trans h.lw h3.size, h.off⟩
theorem AllI.addW (h : AllI u wr base lb fb v m nsf bsf vl i j) (hc : Con u nsf bsf m) (hl : m.length ≤ 700) {x : OG} (hx : m[i]? = some x) (hk : x.kd = 4) :
    Calls Try.prog 10 #[.pointer (some ⟨fb, 0, none⟩), opgv x] wr fun e w' => e = .returned (.int .i64 0) ∧ AllI u w' base lb fb v m nsf bsf vl (i + 1) j := by
  obtain ⟨F, h⟩ := h
  obtain ⟨h1, h2⟩ := hc.each x (List.mem_of_getElem? hx)
  have e : vcs nsf bsf (m.take (i + 1)) = vcs nsf bsf (m.take i) ++ [vcOf x (nsf x) (bsf x)] := by rw [List.take_add_one, hx, Option.toList_some, vcs_snoc, if_pos hk]
  refine (add_new h.one.f (h1.below h.one.below) hk h2 (vcs_new hc.apart hx) (by have := @vcs_len nsf bsf (m.take i); rw [List.length_take] at this; omega) fun W hW => h1.below (h.one.below.trans (hW.below h.one.below.size h.one.fu))).mono ?_
  rintro e' w' ⟨rfl, F', k1, k2, k3⟩
  rw [← e] at k1
  exact ⟨rfl, AllI.turn h k1 k2 k3⟩
theorem AllI.addN (h : AllI u wr base lb fb v m nsf bsf vl i i) (hc : Con u nsf bsf m) {x : OG} (hx : m[i]? = some x) (hk : x.kd ≠ 4) :
    Calls Try.prog 10 #[.pointer (some ⟨fb, 0, none⟩), opgv x] wr fun e w' => e = .returned (.int .i64 22) ∧ AllI u w' base lb fb v m nsf bsf vl (i + 1) (i + 1) := by
  obtain ⟨F, h⟩ := h
  obtain ⟨h1, h2⟩ := hc.each x (List.mem_of_getElem? hx)
  have e : vcs nsf bsf (m.take (i + 1)) = vcs nsf bsf (m.take i) := by rw [List.take_add_one, hx, Option.toList_some, vcs_snoc, if_neg hk]
  have e' : (m.take (i + 1)).filter isW = (m.take i).filter isW := by rw [List.take_add_one, hx, Option.toList_some, List.filter_append]; simp [isW, hk]
  refine (add_bad (h1.below h.one.below) (Or.inl hk)).mono ?_
  rintro z w' ⟨rfl, hb⟩
  refine ⟨rfl, F, ?_, ?_, h.lu, Nat.le_trans h.lw hb.size, h.off⟩
  · rw [e]; exact h.one.later hb
  · rw [e']; exact h.lrow.below hb
/-- The law's own list takes one more. -/
theorem AllI.app (h : AllI u wr base lb fb v m nsf bsf vl i j) {x : OG} (hx : m[j]? = some x) (hk : x.kd = 4) {w : World} {p : Option Addr} {n c : Nat}
    (ha : RowG w lb (.slice p n c) ((m.take j).filter isW ++ [x]) ∧ (wr.alloc (.cells (opgC x) 35)).grownBy w vl.ownBlock) : AllI u w base lb fb v m nsf bsf (.slice p n c) i (j + 1) := by
  obtain ⟨F, h⟩ := h
  obtain ⟨a1, a2⟩ := ha
  have b3 : Below wr.heap.size wr (wr.alloc (.cells (opgC x) 35)) := (below_new _ _).out
  have hO : Only (fun b => vl.ownBlock = some b) (wr.alloc (.cells (opgC x) 35)) w := ⟨a2.os, a2.tape, a2.output, a2.size, fun k hk hn => a2.block k hk (fun e => hn e.symm)⟩
  have k3 := h.one.later b3
  have r3 := h.lrow.below b3
  have e' : (m.take (j + 1)).filter isW = (m.take j).filter isW ++ [x] := by rw [List.take_add_one, hx, Option.toList_some, List.filter_append]; simp [isW, hk]
  have hard : Hard (wr.alloc (.cells (opgC x) 35)) (fun b => vl.ownBlock = some b) := by
    intro b hb cs t ht
    obtain ⟨cs', hc', _⟩ := r3.tag hb
    rw [hc'] at ht; cases ht; decide
  refine ⟨F, ⟨k3.f.kept hO (fun b hF hb => ?_) hard, k3.fu, k3.row.kept hO (fun g hg hv => ?_), k3.below.trans (hO.below k3.below.size fun b hb => ?_)⟩, by rw [e']; exact a1, h.lu, ?_, h.off⟩
  · obtain ⟨cs', hc', _⟩ := r3.tag hb
    exact k3.f.notF hc' (by decide) (by decide) hF
  · obtain ⟨_, _, hb⟩ := r3.tag hv
    have := h.off g hg
    omega
  · obtain ⟨_, _, hb⟩ := r3.tag hb
    have := h.lu
    omega
  · have s1 := h.lw
    have s2 := b3.size
    have s3 := hO.size
    omega
theorem filt_len : ((m.take j).filter isW).length ≤ m.length := Nat.le_trans (List.length_filter_le _ _) (by rw [List.length_take]; omega)
theorem mem_filt {x : OG} (h : x ∈ (m.take j).filter isW) : x ∈ m ∧ x.kd = 4 := by
  obtain ⟨h1, h2⟩ := List.mem_filter.1 h
  exact ⟨List.mem_of_mem_take h1, by simpa [isW] using h2⟩
theorem vcs_map (k : Nat) : vcs nsf bsf (m.take k) = ((m.take k).filter isW).map fun o => vcOf o (nsf o) (bsf o) := rfl
/-- The document's heads. -/
structure HdG (u : World) (nsf : OG → List Int) (bsf : OG → List (BitVec 8)) (m : List OG) (k : Nat) (H : List OG) : Prop where
  isHd : IsHd (vcs nsf bsf (m.take k)) (H.map fun o => vcOf o (nsf o) (bsf o))
  mem : ∀ o ∈ H, o ∈ m
  len : H.length ≤ m.length
theorem Con.hd (hc : Con u nsf bsf m) (hl : m.length ≤ 700) {k : Nat} {s : List OG} (hs : IsSortedG ((m.take k).filter isW) s) : HdG u nsf bsf m k (headsG nsf s) := by
  have hp := isSortedG_perm hs
  have hm : ∀ o ∈ s, o ∈ m := fun o ho => (mem_filt (hp.mem_iff.1 ho)).1
  refine ⟨?_, fun o ho => hm o (List.mem_filter.1 ho).1, ?_⟩
  · rw [vcs_map]
    refine heads_isHd ((hc.apart.sublist (List.take_sublist _ _)).sublist List.filter_sublist) (fun x hx => hc.rng x (mem_filt hx).1) ?_ hs
    have := @filt_len m k
    omega
  · have h1 : (headsG nsf s).length ≤ s.length := List.length_filter_le _ _
    have h2 := hp.length_eq
    have := @filt_len m k
    omega
end
/-- What the document calls the value. -/
def lastO (H : List OG) (bsf : OG → List (BitVec 8)) : List (BitVec 8) := match H.getLast? with
  | none => []
  | some x => bsf x
theorem lastC_map (H : List OG) (nsf : OG → List Int) (bsf : OG → List (BitVec 8)) : lastC (H.map fun o => vcOf o (nsf o) (bsf o)) = lastO H bsf := by
  unfold lastC lastO
  rw [List.getLast?_map]
  cases H.getLast? <;> rfl
theorem lastO_at {H : List OG} {bsf : OG → List (BitVec 8)} {k : Nat} {x : OG} (hk : H.length = k + 1) (hx : H[k]? = some x) : lastO H bsf = bsf x := by
  unfold lastO
  rw [List.getLast?_eq_getElem?, hk, Nat.add_sub_cancel, hx]
theorem lastO_nil {H : List OG} {bsf : OG → List (BitVec 8)} (hk : H.length = 0) : lastO H bsf = [] := by
  rw [List.eq_nil_of_length_eq_zero hk]; rfl

theorem infoVer : (Try.prog.info? 43).map (·.size) = some 5 := by kernel_rfl
theorem vgC_one (y : VG) : (vgC y).all (·.oneCell') = true := by simp [vgC, Value.oneCell']
theorem wpList_putV {w : World} {ops : Array Oper} {rest : List Oper} {o : Oper} {a : Act} {Q : Exit → Act → World → Prop} (hgd : o.guard = none) (ty : TypeId) (x y : Operand) (ho : o.op = .store ty x y)
    (g : Nat) (cells : Array Value) (hx : a.eval x = .pointer (some ⟨g, 0, none⟩)) (hy : a.eval y = .agg cells) (t : TypeId) (old : Array Value) (hg : Hid (w.heap[g]? = some (.cells old t (0, 0)))) (hi : (Try.prog.info? ty).map (·.size) = some cells.size) (hold : old.size = cells.size) (h1 : cells.all (·.oneCell') = true)
    (h : ∀ w', Hid (w'.heap[g]? = some (.cells cells t (0, 0)) ∧ Only (· = g) w w' ∧ w'.heap.size = w.heap.size) → wpList Try.prog ops Q rest (a.put o.dst undef) w') : wpList Try.prog ops Q (o :: rest) a w :=
  wpList_store_row hgd ty x y ho g cells hx hy t old hg.out hi hold h1 (h _ ⟨setRow_heap w g _ _ t _ hg.out, ⟨rfl, rfl, rfl, by simp, fun k _ hk => setRow_other w g k cells hk⟩, by simp⟩)

end Go.Proofs.Yteimjkicinjcgaa.Ck.Y.L
