/-
  TreeCross, whatever the memory and the order that Go leaves open, and whatever its five arguments are, returns true and leaves all memory that was there as it was.
-/
import Derived.Test.YtgpbphjplbhfmaaQPz
import Derived.Test.YtgpbphjplbhfmaaRows
import Derived.ProofKit
import Derived.OpenShut
import Derived.ChangeOld

/-
  TreeCross: two moves that would put two directories into one another.
-/
namespace Go.Proofs.Ytgpbphjplbhfmaa.Ck.Y
open Go.RowKit Go.Maps Go.Lib

def coa : OG := ⟨1, 0, 1, 1, 1, 0, 0, 0, ⟨#[97]⟩, none, 0, 0, none, 0, 0⟩
def cob (vb : Nat) : OG := ⟨2, 0, 2, 1, 2, 0, 0, 0, ⟨#[98]⟩, none, 0, 0, some ⟨vb, 0, none⟩, 1, 1⟩
def cox (t n : Int) : OG := ⟨t, n, 1, 3, 1, 0, 2, 0, ⟨#[97]⟩, none, 0, 0, none, 0, 0⟩
def coy (t n : Int) : OG := ⟨t, n, 1, 3, 2, 0, 1, 0, ⟨#[98]⟩, none, 0, 0, none, 0, 0⟩
theorem maya : mayG coa [] = true := by kernel_rfl
theorem mayb (vb : Nat) : mayG (cob vb) [1] = true := by kernel_rfl
theorem atZ_nil (n : Int) : Vc.atZ [] n = 0 := by
  rw [Cd.atZ_vc]
  split
  · simp [Cd.atOf]
  · rfl
theorem mayx {t n : Int} (h1 : 10 ≤ t) (h2 : t ≤ 1000) (h3 : 1 ≤ n) (h4 : n ≤ 9) : mayG (cox t n) [] = true := by
  have v : validB t n = true := validB_true.2 ⟨by omega, by omega, by omega, by omega⟩
  have l1 : lessB 1 0 t n = true := lessB_true.2 (.inl (by omega))
  have l2 : lessB 2 0 t n = true := lessB_true.2 (.inl (by omega))
  have o1 : Cd.olderB 1 0 t n = true := by unfold Cd.olderB; rw [l1]; rfl
  have o2 : Cd.olderB 2 0 t n = true := by unfold Cd.olderB; rw [l2]; rfl
  unfold mayG Cd.mayO cox
  simp only
  rw [v]
  unfold Cd.countB Cd.kindB
  rw [atZ_nil, o1, o2]
  rfl
theorem mayy {t n : Int} (h1 : 10 ≤ t) (h2 : t ≤ 1000) (h3 : 1 ≤ n) (h4 : n ≤ 9) : mayG (coy t n) [] = true := by
  have v : validB t n = true := validB_true.2 ⟨by omega, by omega, by omega, by omega⟩
  have l1 : lessB 1 0 t n = true := lessB_true.2 (.inl (by omega))
  have l2 : lessB 2 0 t n = true := lessB_true.2 (.inl (by omega))
  have o1 : Cd.olderB 1 0 t n = true := by unfold Cd.olderB; rw [l1]; rfl
  have o2 : Cd.olderB 2 0 t n = true := by unfold Cd.olderB; rw [l2]; rfl
  unfold mayG Cd.mayO coy
  simp only
  rw [v]
  unfold Cd.countB Cd.kindB
  rw [atZ_nil, o1, o2]
  rfl
def cT2 : List OB := [⟨1, 0, 0, 0, ⟨#[97]⟩, true⟩, ⟨2, 0, 0, 0, ⟨#[98]⟩, true⟩]
def cTx : List OB := [⟨1, 0, 2, 0, ⟨#[97]⟩, true⟩, ⟨2, 0, 0, 0, ⟨#[98]⟩, true⟩]
def cTy : List OB := [⟨1, 0, 0, 0, ⟨#[97]⟩, true⟩, ⟨2, 0, 1, 0, ⟨#[98]⟩, true⟩]
theorem cfold2 (vb : Nat) : FoldT [] 0 [coa, cob vb] cT2 0 := by
  refine .cons (StepT.make (.inl rfl) rfl rfl rfl) (.cons (StepT.make (T := [madeO coa]) (.inl rfl) rfl rfl rfl) ?_)
  exact .nil _ _
theorem nobel2a : ¬ Bel cT2 (2, 0) (1, 0) := fun h => by
  rw [Bel.next (c := (0, 0)) rfl (by decide)] at h
  exact Bel.not rfl h
theorem nobel2b : ¬ Bel cT2 (1, 0) (2, 0) := fun h => by
  rw [Bel.next (c := (0, 0)) rfl (by decide)] at h
  exact Bel.not rfl h
theorem cfoldx (vb : Nat) (t n t' n' : Int) : FoldT [] 0 [coa, cob vb, cox t n, coy t' n'] cTx 1 := by
  have h := (cfold2 vb).append (.cons (StepT.move (o := cox t n) (k := 0) (b := ⟨1, 0, 0, 0, ⟨#[97]⟩, true⟩) rfl rfl rfl rfl (by simp [cox]) nobel2a) (.cons (StepT.moved (T := cTx) (o := coy t' n') rfl (.inr (.inr (.inr (.one rfl))))) (.nil _ _)))
  exact h
theorem cfoldy (vb : Nat) (t n t' n' : Int) : FoldT [] 0 [coa, cob vb, coy t' n', cox t n] cTy 1 := by
  have h := (cfold2 vb).append (.cons (StepT.move (o := coy t' n') (k := 1) (b := ⟨2, 0, 0, 0, ⟨#[98]⟩, true⟩) rfl rfl rfl rfl (by simp [coy]) nobel2b) (.cons (StepT.moved (T := cTy) (o := cox t n) rfl (.inr (.inr (.inr (.one rfl))))) (.nil _ _)))
  exact h
theorem belx_ab : Bel cTx (1, 0) (2, 0) := .one rfl
theorem belx_ba : ¬ Bel cTx (2, 0) (1, 0) := fun h => by
  rw [Bel.next (c := (0, 0)) rfl (by decide)] at h
  exact Bel.not rfl h
theorem bely_ba : Bel cTy (2, 0) (1, 0) := .one rfl
theorem bely_ab : ¬ Bel cTy (1, 0) (2, 0) := fun h => by
  rw [Bel.next (c := (0, 0)) rfl (by decide)] at h
  exact Bel.not rfl h
theorem livex_a : Bel cTx (1, 0) (0, 0) := Bel.far (show upT cTx (1, 0) = some (2, 0) from rfl) (.one rfl)
theorem livex_b : Bel cTx (2, 0) (0, 0) := .one rfl
theorem livey_a : Bel cTy (1, 0) (0, 0) := .one rfl
theorem livey_b : Bel cTy (2, 0) (0, 0) := Bel.far (show upT cTy (2, 0) = some (1, 0) from rfl) (.one rfl)

end Go.Proofs.Ytgpbphjplbhfmaa.Ck.Y

/-
  TreeCross: the walk.
-/
namespace Go.Proofs.Ytgpbphjplbhfmaa.Ck.Y
open Go.RowKit Go.Maps Go.Lib

section
variable {w W : World} {gt A B V : Nat}
theorem cg_apply1 {F : Nat → Prop} (h : BG w F W gt A B []) : Calls Try.prog 10 #[.pointer (some ⟨gt, 0, none⟩), opgv coa] W fun e W' => e = .returned (.tuple #[.int .i64 0, .int .i64 0]) ∧ BGo w gt A B [coa] W' := by
  have hin : OpIn W coa [] := ⟨Cd.lies_nil _ _, rfl, Nat.le_refl _, by decide, by decide, by decide⟩
  refine (apply_new h.tw hin maya (fun x hx => by simp at hx) (Nat.zero_le _)).mono ?_
  rintro e W' ⟨i, rfl, hi, h1, h2⟩
  have h0 : i = 0 := by have := hi.le; simpa using this
  subst h0
  exact ⟨rfl, (h.next h1 h2).out⟩
theorem cg_apply2 (h : Hid (∃ F, BG w F W gt A B [coa])) : Calls Try.prog 10 #[.pointer (some ⟨gt, 0, none⟩), opgv (cob W.heap.size)] (W.alloc (.cells #[.int .i64 1] 2)) fun e W' => (∃ x, e = .returned (.tuple #[.int .i64 x, .int .i64 0])) ∧ BGo w gt A B [coa, cob W.heap.size] W' := by
  obtain ⟨F, h⟩ := h.out
  have h' := h.below (W' := W.alloc (.cells #[.int .i64 1] 2)) ((Below.refl W.heap.size W).alloc (Nat.le_refl _) _)
  have hv := heap_alloc_new W (.cells #[.int .i64 1] 2)
  have hin : OpIn (W.alloc (.cells #[.int .i64 1] 2)) (cob W.heap.size) [1] := ⟨fun _ => ⟨W.heap.size, 0, rfl, fun j x hj => by
    have := cellOf hv j
    rw [Nat.zero_add, this]
    simpa using hj⟩, rfl, Nat.le_refl _, by decide, (show (0 : Nat) < 9000000000000000000 by decide), (show (⟨#[98]⟩ : ByteArray).size ≤ 1000000 by decide)⟩
  refine (apply_new h'.tw hin (mayb _) (fun x hx => by rw [List.mem_singleton.1 hx]; intro e; cases e) (show 1 ≤ 700 by decide)).mono ?_
  rintro e W' ⟨i, rfl, hi, h1, h2⟩
  have h0 : i = 1 := by
    have hle := hi.le
    have hle : i ≤ 1 := hle
    by_cases h0 : i = 0
    · subst h0
      have := hi.hi 0 coa (Nat.le_refl _) rfl
      exact absurd this (show ¬ lessB 2 0 1 0 = true by decide)
    · omega
  subst h0
  exact ⟨⟨_, rfl⟩, (h'.next h1 h2).out⟩
end
/-- The law's tree, its two stamps and its two moves. -/
structure CG (w : World) (F : Nat → Prop) (W : World) (gt A B X Y : Nat) (t1 n1 t2 n2 : Int) (l : List OG) : Prop where
  bg : BG w F W gt A B l
  x : W.heap[X]? = some (.cells #[.int .i64 t1, .int .i64 n1, .int .i64 1, .int .i64 3, .int .i64 1, .int .i64 0, .int .i64 2, .int .i64 0, .string ⟨#[97]⟩, .slice none 0 0, .slice none 0 0] 36 (0, 0))
  y : W.heap[Y]? = some (.cells #[.int .i64 t2, .int .i64 n2, .int .i64 1, .int .i64 3, .int .i64 2, .int .i64 0, .int .i64 1, .int .i64 0, .string ⟨#[98]⟩, .slice none 0 0, .slice none 0 0] 36 (0, 0))
  nx : ¬ F X
  ny : ¬ F Y
section
variable {w : World} {gt A B X Y : Nat} {t1 n1 t2 n2 : Int} {l : List OG}
theorem CG.next {F : Nat → Prop} {W W' : World} {l' : List OG} (h : CG w F W gt A B X Y t1 n1 t2 n2 l) (ht : TW (growF F W W') W' gt l') (ho : Only F W W') : CG w (growF F W W') W' gt A B X Y t1 n1 t2 n2 l' := by
  have la := block_lt h.x
  have lb := block_lt h.y
  refine ⟨h.bg.next ht ho, (ho.block _ la h.nx).trans h.x, (ho.block _ lb h.ny).trans h.y, ?_, ?_⟩
  · rintro (e | e)
    · exact h.nx e
    · omega
  · rintro (e | e)
    · exact h.ny e
    · omega
theorem CG.below {F : Nat → Prop} {W W' : World} (h : CG w F W gt A B X Y t1 n1 t2 n2 l) (hb : Below W.heap.size W W') : CG w F W' gt A B X Y t1 n1 t2 n2 l :=
  ⟨h.bg.below hb, (hb.block _ (block_lt h.x)).trans h.x, (hb.block _ (block_lt h.y)).trans h.y, h.nx, h.ny⟩
end
def CGo (w : World) (gt A B X Y : Nat) (t1 n1 t2 n2 : Int) (l : List OG) (W' : World) : Prop := W'.cell? ⟨A, 0, none⟩ = some (.int .i64 1) ∧ W'.cell? ⟨A, 1, none⟩ = some (.int .i64 0) ∧ W'.cell? ⟨B, 0, none⟩ = some (.int .i64 2) ∧ W'.cell? ⟨B, 1, none⟩ = some (.int .i64 0) ∧ W'.cell? ⟨X, 0, none⟩ = some (.int .i64 t1) ∧ W'.cell? ⟨X, 1, none⟩ = some (.int .i64 n1) ∧ W'.cell? ⟨X, 2, none⟩ = some (.int .i64 1) ∧ W'.cell? ⟨X, 3, none⟩ = some (.int .i64 3) ∧ W'.cell? ⟨X, 4, none⟩ = some (.int .i64 1) ∧ W'.cell? ⟨X, 5, none⟩ = some (.int .i64 0) ∧ W'.cell? ⟨X, 6, none⟩ = some (.int .i64 2) ∧ W'.cell? ⟨X, 7, none⟩ = some (.int .i64 0) ∧ W'.cell? ⟨X, 8, none⟩ = some (.string ⟨#[97]⟩) ∧ W'.cell? ⟨X, 9, none⟩ = some (.slice none 0 0) ∧ W'.cell? ⟨X, 10, none⟩ = some (.slice none 0 0) ∧ W'.cell? ⟨Y, 0, none⟩ = some (.int .i64 t2) ∧ W'.cell? ⟨Y, 1, none⟩ = some (.int .i64 n2) ∧ W'.cell? ⟨Y, 2, none⟩ = some (.int .i64 1) ∧ W'.cell? ⟨Y, 3, none⟩ = some (.int .i64 3) ∧ W'.cell? ⟨Y, 4, none⟩ = some (.int .i64 2) ∧ W'.cell? ⟨Y, 5, none⟩ = some (.int .i64 0) ∧ W'.cell? ⟨Y, 6, none⟩ = some (.int .i64 1) ∧ W'.cell? ⟨Y, 7, none⟩ = some (.int .i64 0) ∧ W'.cell? ⟨Y, 8, none⟩ = some (.string ⟨#[98]⟩) ∧ W'.cell? ⟨Y, 9, none⟩ = some (.slice none 0 0) ∧ W'.cell? ⟨Y, 10, none⟩ = some (.slice none 0 0) ∧ A < W'.heap.size ∧ B < W'.heap.size ∧ X < W'.heap.size ∧ Y < W'.heap.size ∧ Hid (∃ F, CG w F W' gt A B X Y t1 n1 t2 n2 l)
section
variable {w W : World} {gt A B X Y : Nat} {t1 n1 t2 n2 : Int} {l : List OG}
theorem CG.out {F : Nat → Prop} (h : CG w F W gt A B X Y t1 n1 t2 n2 l) : CGo w gt A B X Y t1 n1 t2 n2 l W :=
  ⟨cellOf h.bg.a 0, cellOf h.bg.a 1, cellOf h.bg.b 0, cellOf h.bg.b 1, cellOf h.x 0, cellOf h.x 1, cellOf h.x 2, cellOf h.x 3, cellOf h.x 4, cellOf h.x 5, cellOf h.x 6, cellOf h.x 7, cellOf h.x 8, cellOf h.x 9, cellOf h.x 10, cellOf h.y 0, cellOf h.y 1, cellOf h.y 2, cellOf h.y 3, cellOf h.y 4, cellOf h.y 5, cellOf h.y 6, cellOf h.y 7, cellOf h.y 8, cellOf h.y 9, cellOf h.y 10, block_lt h.bg.a, block_lt h.bg.b, block_lt h.x, block_lt h.y, F, h⟩
theorem cg_add {F : Nat → Prop} (h : CG w F W gt A B X Y t1 n1 t2 n2 l) {o : OG} (hin : OpIn W o []) (hm : mayG o [] = true) (hnew : ∀ x ∈ l, (x.t, x.n) ≠ (o.t, o.n)) (hl : l.length ≤ 700) {l' : List OG} (hl' : ∀ i, InsAt l (o.t, o.n) i → l.take i ++ o :: l.drop i = l') : Calls Try.prog 10 #[.pointer (some ⟨gt, 0, none⟩), opgv o] W fun e W' => (∃ x, e = .returned (.tuple #[.int .i64 x, .int .i64 0])) ∧ CGo w gt A B X Y t1 n1 t2 n2 l' W' := by
  refine (apply_new h.bg.tw hin hm hnew hl).mono ?_
  rintro e W' ⟨i, rfl, hi, h1, h2⟩
  have := hl' i hi
  subst this
  exact ⟨⟨_, rfl⟩, (h.next h1 h2).out⟩
theorem opin_x (W : World) (t n : Int) : OpIn W (cox t n) [] := ⟨Cd.lies_nil _ _, rfl, Nat.le_refl _, by decide, (show (0 : Nat) < 9000000000000000000 by decide), (show (⟨#[97]⟩ : ByteArray).size ≤ 1000000 by decide)⟩
theorem opin_y (W : World) (t n : Int) : OpIn W (coy t n) [] := ⟨Cd.lies_nil _ _, rfl, Nat.le_refl _, by decide, (show (0 : Nat) < 9000000000000000000 by decide), (show (⟨#[98]⟩ : ByteArray).size ≤ 1000000 by decide)⟩
theorem ins2 {V : Nat} {t n : Int} (h1 : 10 ≤ t) {i : Nat} (hi : InsAt [coa, cob V] (t, n) i) : i = 2 := by
  have hle : i ≤ 2 := hi.le
  have e1 : lessP (2, 0) (t, n) := lessB_true.2 (.inl (by simp; omega))
  by_cases h : i ≤ 1
  · exact (lessP_asymm e1 (hi.hi 1 (cob V) h rfl)).elim
  · omega
theorem ins3 {V : Nat} {o : OG} {t n : Int} (h1 : 10 ≤ t) {i : Nat} (hi : InsAt [coa, cob V, o] (t, n) i) : (lessB o.t o.n t n = true → i = 3) ∧ (lessB t n o.t o.n = true → i = 2) := by
  have hle : i ≤ 3 := hi.le
  have e1 : lessP (2, 0) (t, n) := lessB_true.2 (.inl (by simp; omega))
  have h2 : 2 ≤ i := by
    by_cases h : i ≤ 1
    · exact (lessP_asymm e1 (hi.hi 1 (cob V) h rfl)).elim
    · omega
  constructor
  · intro ho
    by_cases h : i ≤ 2
    · exact (lessP_asymm (show lessP (o.t, o.n) (t, n) from ho) (hi.hi 2 o h rfl)).elim
    · omega
  · intro ho
    by_cases h : i = 3
    · exact (lessP_asymm (show lessP (t, n) (o.t, o.n) from ho) (hi.lo 2 o (by omega) rfl)).elim
    · omega
theorem new2 {V : Nat} {t n : Int} (h1 : 10 ≤ t) : ∀ x ∈ [coa, cob V], (x.t, x.n) ≠ (t, n) := by
  intro x hx e
  simp at hx
  rcases hx with rfl | rfl
  · have := (Prod.mk.inj e).1; simp [coa] at this; omega
  · have := (Prod.mk.inj e).1; simp [cob] at this; omega
theorem new3 {V : Nat} {o : OG} {t n : Int} (h1 : 10 ≤ t) (ho : (o.t, o.n) ≠ (t, n)) : ∀ x ∈ [coa, cob V, o], (x.t, x.n) ≠ (t, n) := by
  intro x hx
  rw [show [coa, cob V, o] = [coa, cob V] ++ [o] from rfl, List.mem_append] at hx
  rcases hx with hx | hx
  · exact new2 h1 x hx
  · rw [List.mem_singleton.1 hx]; exact ho
theorem cg_start {V : Nat} (h : Hid (∃ F, BG w F W gt A B [coa, cob V])) : ∃ F, CG w F ((W.alloc (.cells #[.int .i64 t1, .int .i64 n1, .int .i64 1, .int .i64 3, .int .i64 1, .int .i64 0, .int .i64 2, .int .i64 0, .string ⟨#[97]⟩, .slice none 0 0, .slice none 0 0] 36)).alloc (.cells #[.int .i64 t2, .int .i64 n2, .int .i64 1, .int .i64 3, .int .i64 2, .int .i64 0, .int .i64 1, .int .i64 0, .string ⟨#[98]⟩, .slice none 0 0, .slice none 0 0] 36)) gt A B W.heap.size (W.heap.size + 1) t1 n1 t2 n2 [coa, cob V] := by
  obtain ⟨F, h⟩ := h.out
  have hB : Below W.heap.size W ((W.alloc (.cells #[.int .i64 t1, .int .i64 n1, .int .i64 1, .int .i64 3, .int .i64 1, .int .i64 0, .int .i64 2, .int .i64 0, .string ⟨#[97]⟩, .slice none 0 0, .slice none 0 0] 36)).alloc (.cells #[.int .i64 t2, .int .i64 n2, .int .i64 1, .int .i64 3, .int .i64 2, .int .i64 0, .int .i64 1, .int .i64 0, .string ⟨#[98]⟩, .slice none 0 0, .slice none 0 0] 36)) := (((Below.refl W.heap.size W).alloc (Nat.le_refl _) _).alloc (by simp) _)
  have hl := h.tw.low
  refine ⟨F, h.below hB, ?_, ?_, fun e => ?_, fun e => ?_⟩
  · rw [heap_alloc_old _ _ (by simp)]; exact heap_alloc_new W _
  · have := heap_alloc_new (W.alloc (.cells #[.int .i64 t1, .int .i64 n1, .int .i64 1, .int .i64 3, .int .i64 1, .int .i64 0, .int .i64 2, .int .i64 0, .string ⟨#[97]⟩, .slice none 0 0, .slice none 0 0] 36)) (.cells #[.int .i64 t2, .int .i64 n2, .int .i64 1, .int .i64 3, .int .i64 2, .int .i64 0, .int .i64 1, .int .i64 0, .string ⟨#[98]⟩, .slice none 0 0, .slice none 0 0] 36)
    simpa using this
  · have := hl _ e; omega
  · have := hl _ e; omega
theorem cg_skipped {c : Bool} (hc : FoldT [] 0 l (if c then cTx else cTy) 1) (h : Hid (∃ F, CG w F W gt A B X Y t1 n1 t2 n2 l)) : Calls Try.prog 20 #[.pointer (some ⟨gt, 0, none⟩)] W fun e W' => e = .returned (.int .i64 1) ∧ CGo w gt A B X Y t1 n1 t2 n2 l W' := by
  obtain ⟨F, h⟩ := h.out
  refine (skipped_any h.bg.tw hc).mono ?_
  rintro e W' ⟨rfl, h1, h2⟩
  exact ⟨rfl, (h.next h1 h2).out⟩
theorem cg_below1 {c : Bool} (hc : FoldT [] 0 l (if c then cTx else cTy) 1) (h : Hid (∃ F, CG w F W gt A B X Y t1 n1 t2 n2 l)) : Calls Try.prog 13 #[.pointer (some ⟨gt, 0, none⟩), idv 1 0, idv 2 0] W fun e W' => e = .returned (.bool c) ∧ CGo w gt A B X Y t1 n1 t2 n2 l W' := by
  obtain ⟨F, h⟩ := h.out
  refine (pbelow_any h.bg.tw hc 1 0 2 0).mono ?_
  rintro e W' ⟨r, rfl, hr, h1, h2⟩
  refine ⟨?_, (h.next h1 h2).out⟩
  cases c
  · rw [show r = false from Bool.eq_false_iff.2 fun e => bely_ab (hr.1 e)]
  · rw [show r = true from hr.2 belx_ab]
theorem cg_below2 {c : Bool} (hc : FoldT [] 0 l (if c then cTx else cTy) 1) (h : Hid (∃ F, CG w F W gt A B X Y t1 n1 t2 n2 l)) : Calls Try.prog 13 #[.pointer (some ⟨gt, 0, none⟩), idv 2 0, idv 1 0] W fun e W' => e = .returned (.bool (!c)) ∧ CGo w gt A B X Y t1 n1 t2 n2 l W' := by
  obtain ⟨F, h⟩ := h.out
  refine (pbelow_any h.bg.tw hc 2 0 1 0).mono ?_
  rintro e W' ⟨r, rfl, hr, h1, h2⟩
  refine ⟨?_, (h.next h1 h2).out⟩
  cases c
  · rw [show r = true from hr.2 bely_ba]; rfl
  · rw [show r = false from Bool.eq_false_iff.2 fun e => belx_ba (hr.1 e)]; rfl
theorem cg_live1 {c : Bool} (hc : FoldT [] 0 l (if c then cTx else cTy) 1) (h : Hid (∃ F, CG w F W gt A B X Y t1 n1 t2 n2 l)) : Calls Try.prog 17 #[.pointer (some ⟨gt, 0, none⟩), idv 1 0] W fun e W' => e = .returned (.bool true) ∧ CGo w gt A B X Y t1 n1 t2 n2 l W' := by
  obtain ⟨F, h⟩ := h.out
  refine (plive_any h.bg.tw hc 1 0).mono ?_
  rintro e W' ⟨r, rfl, hr, h1, h2⟩
  refine ⟨?_, (h.next h1 h2).out⟩
  cases c
  · rw [hr.2 (.inr livey_a)]
  · rw [hr.2 (.inr livex_a)]
theorem cg_live2 {c : Bool} (hc : FoldT [] 0 l (if c then cTx else cTy) 1) (h : Hid (∃ F, CG w F W gt A B X Y t1 n1 t2 n2 l)) : Calls Try.prog 17 #[.pointer (some ⟨gt, 0, none⟩), idv 2 0] W fun e W' => e = .returned (.bool true) ∧ CGo w gt A B X Y t1 n1 t2 n2 l W' := by
  obtain ⟨F, h⟩ := h.out
  refine (plive_any h.bg.tw hc 2 0).mono ?_
  rintro e W' ⟨r, rfl, hr, h1, h2⟩
  refine ⟨?_, (h.next h1 h2).out⟩
  cases c
  · rw [hr.2 (.inr livey_b)]
  · rw [hr.2 (.inr livex_b)]
theorem cg_less {c : Bool} (hc : lessB t1 n1 t2 n2 = c) (h : Hid (∃ F, CG w F W gt A B X Y t1 n1 t2 n2 l)) : Calls Try.prog 19 #[idv t1 n1, idv t2 n2] W fun e W' => e = .returned (.bool c) ∧ CGo w gt A B X Y t1 n1 t2 n2 l W' := by
  obtain ⟨F, h⟩ := h.out
  subst hc
  refine (rless_any t1 n1 t2 n2 W).mono ?_
  rintro e W' ⟨rfl, hb⟩
  exact ⟨rfl, (h.below hb).out⟩
def cL (V : Nat) (t1 n1 t2 n2 : Int) (c : Bool) : List OG := if c then [coa, cob V, cox t1 n1, coy t2 n2] else [coa, cob V, coy t2 n2, cox t1 n1]
theorem cL_fold (V : Nat) (t1 n1 t2 n2 : Int) (c : Bool) : FoldT [] 0 (cL V t1 n1 t2 n2 c) (if c then cTx else cTy) 1 := by
  cases c
  · exact cfoldy _ _ _ _ _
  · exact cfoldx _ _ _ _ _
theorem less_other {t n t' n' : Int} (h : lessB t n t' n' = false) (hne : ¬ (t = t' ∧ n = n')) : lessB t' n' t n = true := by
  rw [lessB_false] at h
  rw [lessB_true]
  omega
variable {V : Nat} {c : Bool}
theorem cg_x1 (h1 : 10 ≤ t1) (h2 : t1 ≤ 1000) (h3 : 1 ≤ n1) (h4 : n1 ≤ 9) (h : Hid (∃ F, BG w F W gt A B [coa, cob V])) : Calls Try.prog 10 #[.pointer (some ⟨gt, 0, none⟩), opgv (cox t1 n1)] ((W.alloc (.cells #[.int .i64 t1, .int .i64 n1, .int .i64 1, .int .i64 3, .int .i64 1, .int .i64 0, .int .i64 2, .int .i64 0, .string ⟨#[97]⟩, .slice none 0 0, .slice none 0 0] 36)).alloc (.cells #[.int .i64 t2, .int .i64 n2, .int .i64 1, .int .i64 3, .int .i64 2, .int .i64 0, .int .i64 1, .int .i64 0, .string ⟨#[98]⟩, .slice none 0 0, .slice none 0 0] 36)) fun e W' => (∃ x, e = .returned (.tuple #[.int .i64 x, .int .i64 0])) ∧ CGo w gt A B W.heap.size (W.heap.size + 1) t1 n1 t2 n2 [coa, cob V, cox t1 n1] W' := by
  obtain ⟨F, h⟩ := cg_start (t1 := t1) (n1 := n1) (t2 := t2) (n2 := n2) h
  exact cg_add h (opin_x _ _ _) (mayx h1 h2 h3 h4) (new2 h1) (show 2 ≤ 700 by decide) (fun i hi => by rw [ins2 h1 hi]; rfl)
theorem cg_y1 (h1 : 10 ≤ t2) (h2 : t2 ≤ 1000) (h3 : 1 ≤ n2) (h4 : n2 ≤ 9) (h : Hid (∃ F, BG w F W gt A B [coa, cob V])) : Calls Try.prog 10 #[.pointer (some ⟨gt, 0, none⟩), opgv (coy t2 n2)] ((W.alloc (.cells #[.int .i64 t1, .int .i64 n1, .int .i64 1, .int .i64 3, .int .i64 1, .int .i64 0, .int .i64 2, .int .i64 0, .string ⟨#[97]⟩, .slice none 0 0, .slice none 0 0] 36)).alloc (.cells #[.int .i64 t2, .int .i64 n2, .int .i64 1, .int .i64 3, .int .i64 2, .int .i64 0, .int .i64 1, .int .i64 0, .string ⟨#[98]⟩, .slice none 0 0, .slice none 0 0] 36)) fun e W' => (∃ x, e = .returned (.tuple #[.int .i64 x, .int .i64 0])) ∧ CGo w gt A B W.heap.size (W.heap.size + 1) t1 n1 t2 n2 [coa, cob V, coy t2 n2] W' := by
  obtain ⟨F, h⟩ := cg_start (t1 := t1) (n1 := n1) (t2 := t2) (n2 := n2) h
  exact cg_add h (opin_y _ _ _) (mayy h1 h2 h3 h4) (new2 h1) (show 2 ≤ 700 by decide) (fun i hi => by rw [ins2 h1 hi]; rfl)
theorem cg_y2 (h1 : 10 ≤ t2) (h2 : t2 ≤ 1000) (h3 : 1 ≤ n2) (h4 : n2 ≤ 9) (h9 : ¬ (t1 = t2 ∧ n1 = n2)) (hc : lessB t1 n1 t2 n2 = c) (h : Hid (∃ F, CG w F W gt A B X Y t1 n1 t2 n2 [coa, cob V, cox t1 n1])) : Calls Try.prog 10 #[.pointer (some ⟨gt, 0, none⟩), opgv (coy t2 n2)] W fun e W' => (∃ x, e = .returned (.tuple #[.int .i64 x, .int .i64 0])) ∧ CGo w gt A B X Y t1 n1 t2 n2 (cL V t1 n1 t2 n2 c) W' := by
  obtain ⟨F, h⟩ := h.out
  refine cg_add h (opin_y _ _ _) (mayy h1 h2 h3 h4) (new3 h1 fun e => h9 ⟨(Prod.mk.inj e).1, (Prod.mk.inj e).2⟩) (show 3 ≤ 700 by decide) (fun i hi => ?_)
  have hi := ins3 h1 hi
  cases c
  · rw [hi.2 (less_other hc h9)]; rfl
  · rw [hi.1 hc]; rfl
theorem cg_x2 (h1 : 10 ≤ t1) (h2 : t1 ≤ 1000) (h3 : 1 ≤ n1) (h4 : n1 ≤ 9) (h9 : ¬ (t1 = t2 ∧ n1 = n2)) (hc : lessB t1 n1 t2 n2 = c) (h : Hid (∃ F, CG w F W gt A B X Y t1 n1 t2 n2 [coa, cob V, coy t2 n2])) : Calls Try.prog 10 #[.pointer (some ⟨gt, 0, none⟩), opgv (cox t1 n1)] W fun e W' => (∃ x, e = .returned (.tuple #[.int .i64 x, .int .i64 0])) ∧ CGo w gt A B X Y t1 n1 t2 n2 (cL V t1 n1 t2 n2 c) W' := by
  obtain ⟨F, h⟩ := h.out
  refine cg_add h (opin_x _ _ _) (mayx h1 h2 h3 h4) (new3 h1 fun e => h9 ⟨(Prod.mk.inj e).1.symm, (Prod.mk.inj e).2.symm⟩) (show 3 ≤ 700 by decide) (fun i hi => ?_)
  have hi := ins3 h1 hi
  cases c
  · rw [hi.1 (less_other hc h9)]; rfl
  · rw [hi.2 hc]; rfl
end
theorem cg_new {w : World} (v : World) (hv : Hid (Below w.heap.size w v)) : Calls Try.prog 8 #[] v fun e W0 => e = .returned (.pointer (some ⟨v.heap.size, 0, none⟩)) ∧ Calls Try.prog 10 #[.pointer (some ⟨v.heap.size, 0, none⟩), opgv coa] ((W0.alloc (.cells #[.int .i64 1, .int .i64 0] 31)).alloc (.cells #[.int .i64 2, .int .i64 0] 31)) fun e W' => e = .returned (.tuple #[.int .i64 0, .int .i64 0]) ∧ BGo w v.heap.size W0.heap.size (W0.heap.size + 1) [coa] W' := by
  refine (new_any v).mono ?_
  rintro e W0 ⟨rfl, hT, hb⟩
  refine ⟨rfl, ?_⟩
  have hB : Below W0.heap.size W0 ((W0.alloc (.cells #[.int .i64 1, .int .i64 0] 31)).alloc (.cells #[.int .i64 2, .int .i64 0] 31)) := (((Below.refl W0.heap.size W0).alloc (Nat.le_refl _) _).alloc (by simp) _)
  have hl := hT.low
  have z := hb.size
  have zv := hv.out.size
  have hlt := hl v.heap.size rfl
  refine cg_apply1 (F := (· = v.heap.size)) ⟨hT.below hB, ?_, ?_, fun e => by omega, fun e => by omega, fun b hb => by omega, hv.out.trans ((hb.trans (hB.mono z)).mono zv)⟩
  · rw [heap_alloc_old _ _ (by simp)]; exact heap_alloc_new W0 _
  · have := heap_alloc_new (W0.alloc (.cells #[.int .i64 1, .int .i64 0] 31)) (.cells #[.int .i64 2, .int .i64 0] 31)
    simpa using this

end Go.Proofs.Ytgpbphjplbhfmaa.Ck.Y

/-
  TreeCross: the walk.
-/
namespace Go.Proofs.Ytgpbphjplbhfmaa.Ck.Y
open Go.RowKit Go.Maps Go.Lib

set_option maxRecDepth 8000 in
set_option maxHeartbeats 4000000 in
theorem cross_ft {t1 t2 n1 n2 : Int} (h1 : 10 ≤ t1) (h2 : t1 ≤ 1000) (h3 : 10 ≤ t2) (h4 : t2 ≤ 1000) (h5 : 1 ≤ n1) (h6 : n1 ≤ 9) (h7 : 1 ≤ n2) (h8 : n2 ≤ 9) (h9 : ¬ (t1 = t2 ∧ n1 = n2)) (hne : ¬ t1 = t2) (hc : lessB t1 n1 t2 n2 = true) (w : World) : Calls Try.prog 5 #[.int .i64 t1, .int .i64 t2, .int .i64 n1, .int .i64 n2, .bool false] w fun e w' => e = .returned (.bool true) ∧ Below w.heap.size w w' := by
  go_enter Try.func5, Try.ntmps5
  go_wp2_with (first
    | (go_at_call 7; refine (begun_any _).mono ?_; rintro e Wb ⟨rfl, hb⟩; have H3 : Hid (Below w.heap.size w Wb) := hb; clear hb)
    | (go_at_call 8; refine (cg_new _ H3).mono ?_; rintro e W0 ⟨rfl, hA1⟩; unfold coa at hA1; obtain ⟨A, hA⟩ : ∃ A, A = W0.heap.size := ⟨_, rfl⟩; have HA0 : Hid (A = W0.heap.size) := hA; clear hA)
    | (go_at_call 10; refine hA1.mono ?_; rintro e W1 ⟨rfl, a0, a1, b0, b1, la, lb, hB1⟩; clear hA1; have hA2 := cg_apply2 hB1; unfold cob at hA2; clear hB1)
    | (go_at_call 10; refine hA2.mono ?_; rintro e W2 ⟨⟨x, rfl⟩, a20, a21, b20, b21, la2, lb2, hB2⟩; clear hA2 a0 a1 b0 b1 la lb)
    | (go_at_call 10; refine (cg_x1 h1 h2 h5 h6 (V := W1.heap.size) hB2).mono ?_; rintro e W3 ⟨⟨x3, rfl⟩, p300, p301, p302, p303, p304, p305, p306, p307, p308, p309, p310, p311, p312, p313, p314, p315, p316, p317, p318, p319, p320, p321, p322, p323, p324, p325, p326, p327, p328, p329, hC3⟩; clear hB2 a20 a21 b20 b21 la2 lb2)
    | (go_at_call 10; refine (cg_y2 h3 h4 h7 h8 h9 hc hC3).mono ?_; rintro e W4 ⟨⟨x4, rfl⟩, p400, p401, p402, p403, p404, p405, p406, p407, p408, p409, p410, p411, p412, p413, p414, p415, p416, p417, p418, p419, p420, p421, p422, p423, p424, p425, p426, p427, p428, p429, hC4⟩; clear hC3 p300 p301 p302 p303 p304 p305 p306 p307 p308 p309 p310 p311 p312 p313 p314 p315 p316 p317 p318 p319 p320 p321 p322 p323 p324 p325 p326 p327 p328 p329)
    | (go_at_call 19; refine (cg_less hc hC4).mono ?_; rintro e W5 ⟨rfl, p500, p501, p502, p503, p504, p505, p506, p507, p508, p509, p510, p511, p512, p513, p514, p515, p516, p517, p518, p519, p520, p521, p522, p523, p524, p525, p526, p527, p528, p529, hC5⟩; clear hC4 p400 p401 p402 p403 p404 p405 p406 p407 p408 p409 p410 p411 p412 p413 p414 p415 p416 p417 p418 p419 p420 p421 p422 p423 p424 p425 p426 p427 p428 p429)
    | (go_at_call 20; refine (cg_skipped (cL_fold _ _ _ _ _ true) hC5).mono ?_; rintro e W6 ⟨rfl, p600, p601, p602, p603, p604, p605, p606, p607, p608, p609, p610, p611, p612, p613, p614, p615, p616, p617, p618, p619, p620, p621, p622, p623, p624, p625, p626, p627, p628, p629, hC6⟩; clear hC5 p500 p501 p502 p503 p504 p505 p506 p507 p508 p509 p510 p511 p512 p513 p514 p515 p516 p517 p518 p519 p520 p521 p522 p523 p524 p525 p526 p527 p528 p529)
    | (go_at_call 13; refine (cg_below1 (cL_fold _ _ _ _ _ true) hC6).mono ?_; rintro e W7 ⟨rfl, p700, p701, p702, p703, p704, p705, p706, p707, p708, p709, p710, p711, p712, p713, p714, p715, p716, p717, p718, p719, p720, p721, p722, p723, p724, p725, p726, p727, p728, p729, hC7⟩; clear hC6 p600 p601 p602 p603 p604 p605 p606 p607 p608 p609 p610 p611 p612 p613 p614 p615 p616 p617 p618 p619 p620 p621 p622 p623 p624 p625 p626 p627 p628 p629)
    | (go_at_call 13; refine (cg_below2 (cL_fold _ _ _ _ _ true) hC7).mono ?_; rintro e W8 ⟨rfl, p800, p801, p802, p803, p804, p805, p806, p807, p808, p809, p810, p811, p812, p813, p814, p815, p816, p817, p818, p819, p820, p821, p822, p823, p824, p825, p826, p827, p828, p829, hC8⟩; clear hC7 p700 p701 p702 p703 p704 p705 p706 p707 p708 p709 p710 p711 p712 p713 p714 p715 p716 p717 p718 p719 p720 p721 p722 p723 p724 p725 p726 p727 p728 p729)
    | (go_at_call 17; refine (cg_live1 (cL_fold _ _ _ _ _ true) hC8).mono ?_; rintro e W9 ⟨rfl, p900, p901, p902, p903, p904, p905, p906, p907, p908, p909, p910, p911, p912, p913, p914, p915, p916, p917, p918, p919, p920, p921, p922, p923, p924, p925, p926, p927, p928, p929, hC9⟩; clear hC8 p800 p801 p802 p803 p804 p805 p806 p807 p808 p809 p810 p811 p812 p813 p814 p815 p816 p817 p818 p819 p820 p821 p822 p823 p824 p825 p826 p827 p828 p829)
    | (go_at_call 17; refine (cg_live2 (cL_fold _ _ _ _ _ true) hC9).mono ?_; rintro e W10 ⟨rfl, p1000, p1001, p1002, p1003, p1004, p1005, p1006, p1007, p1008, p1009, p1010, p1011, p1012, p1013, p1014, p1015, p1016, p1017, p1018, p1019, p1020, p1021, p1022, p1023, p1024, p1025, p1026, p1027, p1028, p1029, hC10⟩; clear hC9 p900 p901 p902 p903 p904 p905 p906 p907 p908 p909 p910 p911 p912 p913 p914 p915 p916 p917 p918 p919 p920 p921 p922 p923 p924 p925 p926 p927 p928 p929))
  all_goals first
    | exact absurd ⟨rfl, rfl⟩ h9
    | (go_ret; obtain ⟨F, hF⟩ := hC10.out; exact ⟨rfl, hF.bg.bel⟩)

end Go.Proofs.Ytgpbphjplbhfmaa.Ck.Y

/-
  TreeCross: the walk.
-/
namespace Go.Proofs.Ytgpbphjplbhfmaa.Ck.Y
open Go.RowKit Go.Maps Go.Lib

set_option maxRecDepth 8000 in
set_option maxHeartbeats 4000000 in
theorem cross_ff {t1 t2 n1 n2 : Int} (h1 : 10 ≤ t1) (h2 : t1 ≤ 1000) (h3 : 10 ≤ t2) (h4 : t2 ≤ 1000) (h5 : 1 ≤ n1) (h6 : n1 ≤ 9) (h7 : 1 ≤ n2) (h8 : n2 ≤ 9) (h9 : ¬ (t1 = t2 ∧ n1 = n2)) (hne : ¬ t1 = t2) (hc : lessB t1 n1 t2 n2 = false) (w : World) : Calls Try.prog 5 #[.int .i64 t1, .int .i64 t2, .int .i64 n1, .int .i64 n2, .bool false] w fun e w' => e = .returned (.bool true) ∧ Below w.heap.size w w' := by
  go_enter Try.func5, Try.ntmps5
  go_wp2_with (first
    | (go_at_call 7; refine (begun_any _).mono ?_; rintro e Wb ⟨rfl, hb⟩; have H3 : Hid (Below w.heap.size w Wb) := hb; clear hb)
    | (go_at_call 8; refine (cg_new _ H3).mono ?_; rintro e W0 ⟨rfl, hA1⟩; unfold coa at hA1; obtain ⟨A, hA⟩ : ∃ A, A = W0.heap.size := ⟨_, rfl⟩; have HA0 : Hid (A = W0.heap.size) := hA; clear hA)
    | (go_at_call 10; refine hA1.mono ?_; rintro e W1 ⟨rfl, a0, a1, b0, b1, la, lb, hB1⟩; clear hA1; have hA2 := cg_apply2 hB1; unfold cob at hA2; clear hB1)
    | (go_at_call 10; refine hA2.mono ?_; rintro e W2 ⟨⟨x, rfl⟩, a20, a21, b20, b21, la2, lb2, hB2⟩; clear hA2 a0 a1 b0 b1 la lb)
    | (go_at_call 10; refine (cg_x1 h1 h2 h5 h6 (V := W1.heap.size) hB2).mono ?_; rintro e W3 ⟨⟨x3, rfl⟩, p300, p301, p302, p303, p304, p305, p306, p307, p308, p309, p310, p311, p312, p313, p314, p315, p316, p317, p318, p319, p320, p321, p322, p323, p324, p325, p326, p327, p328, p329, hC3⟩; clear hB2 a20 a21 b20 b21 la2 lb2)
    | (go_at_call 10; refine (cg_y2 h3 h4 h7 h8 h9 hc hC3).mono ?_; rintro e W4 ⟨⟨x4, rfl⟩, p400, p401, p402, p403, p404, p405, p406, p407, p408, p409, p410, p411, p412, p413, p414, p415, p416, p417, p418, p419, p420, p421, p422, p423, p424, p425, p426, p427, p428, p429, hC4⟩; clear hC3 p300 p301 p302 p303 p304 p305 p306 p307 p308 p309 p310 p311 p312 p313 p314 p315 p316 p317 p318 p319 p320 p321 p322 p323 p324 p325 p326 p327 p328 p329)
    | (go_at_call 19; refine (cg_less hc hC4).mono ?_; rintro e W5 ⟨rfl, p500, p501, p502, p503, p504, p505, p506, p507, p508, p509, p510, p511, p512, p513, p514, p515, p516, p517, p518, p519, p520, p521, p522, p523, p524, p525, p526, p527, p528, p529, hC5⟩; clear hC4 p400 p401 p402 p403 p404 p405 p406 p407 p408 p409 p410 p411 p412 p413 p414 p415 p416 p417 p418 p419 p420 p421 p422 p423 p424 p425 p426 p427 p428 p429)
    | (go_at_call 20; refine (cg_skipped (cL_fold _ _ _ _ _ false) hC5).mono ?_; rintro e W6 ⟨rfl, p600, p601, p602, p603, p604, p605, p606, p607, p608, p609, p610, p611, p612, p613, p614, p615, p616, p617, p618, p619, p620, p621, p622, p623, p624, p625, p626, p627, p628, p629, hC6⟩; clear hC5 p500 p501 p502 p503 p504 p505 p506 p507 p508 p509 p510 p511 p512 p513 p514 p515 p516 p517 p518 p519 p520 p521 p522 p523 p524 p525 p526 p527 p528 p529)
    | (go_at_call 13; refine (cg_below1 (cL_fold _ _ _ _ _ false) hC6).mono ?_; rintro e W7 ⟨rfl, p700, p701, p702, p703, p704, p705, p706, p707, p708, p709, p710, p711, p712, p713, p714, p715, p716, p717, p718, p719, p720, p721, p722, p723, p724, p725, p726, p727, p728, p729, hC7⟩; clear hC6 p600 p601 p602 p603 p604 p605 p606 p607 p608 p609 p610 p611 p612 p613 p614 p615 p616 p617 p618 p619 p620 p621 p622 p623 p624 p625 p626 p627 p628 p629)
    | (go_at_call 13; refine (cg_below2 (cL_fold _ _ _ _ _ false) hC7).mono ?_; rintro e W8 ⟨rfl, p800, p801, p802, p803, p804, p805, p806, p807, p808, p809, p810, p811, p812, p813, p814, p815, p816, p817, p818, p819, p820, p821, p822, p823, p824, p825, p826, p827, p828, p829, hC8⟩; clear hC7 p700 p701 p702 p703 p704 p705 p706 p707 p708 p709 p710 p711 p712 p713 p714 p715 p716 p717 p718 p719 p720 p721 p722 p723 p724 p725 p726 p727 p728 p729)
    | (go_at_call 17; refine (cg_live1 (cL_fold _ _ _ _ _ false) hC8).mono ?_; rintro e W9 ⟨rfl, p900, p901, p902, p903, p904, p905, p906, p907, p908, p909, p910, p911, p912, p913, p914, p915, p916, p917, p918, p919, p920, p921, p922, p923, p924, p925, p926, p927, p928, p929, hC9⟩; clear hC8 p800 p801 p802 p803 p804 p805 p806 p807 p808 p809 p810 p811 p812 p813 p814 p815 p816 p817 p818 p819 p820 p821 p822 p823 p824 p825 p826 p827 p828 p829)
    | (go_at_call 17; refine (cg_live2 (cL_fold _ _ _ _ _ false) hC9).mono ?_; rintro e W10 ⟨rfl, p1000, p1001, p1002, p1003, p1004, p1005, p1006, p1007, p1008, p1009, p1010, p1011, p1012, p1013, p1014, p1015, p1016, p1017, p1018, p1019, p1020, p1021, p1022, p1023, p1024, p1025, p1026, p1027, p1028, p1029, hC10⟩; clear hC9 p900 p901 p902 p903 p904 p905 p906 p907 p908 p909 p910 p911 p912 p913 p914 p915 p916 p917 p918 p919 p920 p921 p922 p923 p924 p925 p926 p927 p928 p929))
  all_goals first
    | exact absurd ⟨rfl, rfl⟩ h9
    | (go_ret; obtain ⟨F, hF⟩ := hC10.out; exact ⟨rfl, hF.bg.bel⟩)

end Go.Proofs.Ytgpbphjplbhfmaa.Ck.Y

/-
  TreeCross: the walk.
-/
namespace Go.Proofs.Ytgpbphjplbhfmaa.Ck.Y
open Go.RowKit Go.Maps Go.Lib

set_option maxRecDepth 8000 in
set_option maxHeartbeats 4000000 in
theorem cross_tt {t1 t2 n1 n2 : Int} (h1 : 10 ≤ t1) (h2 : t1 ≤ 1000) (h3 : 10 ≤ t2) (h4 : t2 ≤ 1000) (h5 : 1 ≤ n1) (h6 : n1 ≤ 9) (h7 : 1 ≤ n2) (h8 : n2 ≤ 9) (h9 : ¬ (t1 = t2 ∧ n1 = n2)) (hne : ¬ t1 = t2) (hc : lessB t1 n1 t2 n2 = true) (w : World) : Calls Try.prog 5 #[.int .i64 t1, .int .i64 t2, .int .i64 n1, .int .i64 n2, .bool true] w fun e w' => e = .returned (.bool true) ∧ Below w.heap.size w w' := by
  go_enter Try.func5, Try.ntmps5
  go_wp2_with (first
    | (go_at_call 7; refine (begun_any _).mono ?_; rintro e Wb ⟨rfl, hb⟩; have H3 : Hid (Below w.heap.size w Wb) := hb; clear hb)
    | (go_at_call 8; refine (cg_new _ H3).mono ?_; rintro e W0 ⟨rfl, hA1⟩; unfold coa at hA1; obtain ⟨A, hA⟩ : ∃ A, A = W0.heap.size := ⟨_, rfl⟩; have HA0 : Hid (A = W0.heap.size) := hA; clear hA)
    | (go_at_call 10; refine hA1.mono ?_; rintro e W1 ⟨rfl, a0, a1, b0, b1, la, lb, hB1⟩; clear hA1; have hA2 := cg_apply2 hB1; unfold cob at hA2; clear hB1)
    | (go_at_call 10; refine hA2.mono ?_; rintro e W2 ⟨⟨x, rfl⟩, a20, a21, b20, b21, la2, lb2, hB2⟩; clear hA2 a0 a1 b0 b1 la lb)
    | (go_at_call 10; refine (cg_y1 h3 h4 h7 h8 (V := W1.heap.size) hB2).mono ?_; rintro e W3 ⟨⟨x3, rfl⟩, p300, p301, p302, p303, p304, p305, p306, p307, p308, p309, p310, p311, p312, p313, p314, p315, p316, p317, p318, p319, p320, p321, p322, p323, p324, p325, p326, p327, p328, p329, hC3⟩; clear hB2 a20 a21 b20 b21 la2 lb2)
    | (go_at_call 10; refine (cg_x2 h1 h2 h5 h6 h9 hc hC3).mono ?_; rintro e W4 ⟨⟨x4, rfl⟩, p400, p401, p402, p403, p404, p405, p406, p407, p408, p409, p410, p411, p412, p413, p414, p415, p416, p417, p418, p419, p420, p421, p422, p423, p424, p425, p426, p427, p428, p429, hC4⟩; clear hC3 p300 p301 p302 p303 p304 p305 p306 p307 p308 p309 p310 p311 p312 p313 p314 p315 p316 p317 p318 p319 p320 p321 p322 p323 p324 p325 p326 p327 p328 p329)
    | (go_at_call 19; refine (cg_less hc hC4).mono ?_; rintro e W5 ⟨rfl, p500, p501, p502, p503, p504, p505, p506, p507, p508, p509, p510, p511, p512, p513, p514, p515, p516, p517, p518, p519, p520, p521, p522, p523, p524, p525, p526, p527, p528, p529, hC5⟩; clear hC4 p400 p401 p402 p403 p404 p405 p406 p407 p408 p409 p410 p411 p412 p413 p414 p415 p416 p417 p418 p419 p420 p421 p422 p423 p424 p425 p426 p427 p428 p429)
    | (go_at_call 20; refine (cg_skipped (cL_fold _ _ _ _ _ true) hC5).mono ?_; rintro e W6 ⟨rfl, p600, p601, p602, p603, p604, p605, p606, p607, p608, p609, p610, p611, p612, p613, p614, p615, p616, p617, p618, p619, p620, p621, p622, p623, p624, p625, p626, p627, p628, p629, hC6⟩; clear hC5 p500 p501 p502 p503 p504 p505 p506 p507 p508 p509 p510 p511 p512 p513 p514 p515 p516 p517 p518 p519 p520 p521 p522 p523 p524 p525 p526 p527 p528 p529)
    | (go_at_call 13; refine (cg_below1 (cL_fold _ _ _ _ _ true) hC6).mono ?_; rintro e W7 ⟨rfl, p700, p701, p702, p703, p704, p705, p706, p707, p708, p709, p710, p711, p712, p713, p714, p715, p716, p717, p718, p719, p720, p721, p722, p723, p724, p725, p726, p727, p728, p729, hC7⟩; clear hC6 p600 p601 p602 p603 p604 p605 p606 p607 p608 p609 p610 p611 p612 p613 p614 p615 p616 p617 p618 p619 p620 p621 p622 p623 p624 p625 p626 p627 p628 p629)
    | (go_at_call 13; refine (cg_below2 (cL_fold _ _ _ _ _ true) hC7).mono ?_; rintro e W8 ⟨rfl, p800, p801, p802, p803, p804, p805, p806, p807, p808, p809, p810, p811, p812, p813, p814, p815, p816, p817, p818, p819, p820, p821, p822, p823, p824, p825, p826, p827, p828, p829, hC8⟩; clear hC7 p700 p701 p702 p703 p704 p705 p706 p707 p708 p709 p710 p711 p712 p713 p714 p715 p716 p717 p718 p719 p720 p721 p722 p723 p724 p725 p726 p727 p728 p729)
    | (go_at_call 17; refine (cg_live1 (cL_fold _ _ _ _ _ true) hC8).mono ?_; rintro e W9 ⟨rfl, p900, p901, p902, p903, p904, p905, p906, p907, p908, p909, p910, p911, p912, p913, p914, p915, p916, p917, p918, p919, p920, p921, p922, p923, p924, p925, p926, p927, p928, p929, hC9⟩; clear hC8 p800 p801 p802 p803 p804 p805 p806 p807 p808 p809 p810 p811 p812 p813 p814 p815 p816 p817 p818 p819 p820 p821 p822 p823 p824 p825 p826 p827 p828 p829)
    | (go_at_call 17; refine (cg_live2 (cL_fold _ _ _ _ _ true) hC9).mono ?_; rintro e W10 ⟨rfl, p1000, p1001, p1002, p1003, p1004, p1005, p1006, p1007, p1008, p1009, p1010, p1011, p1012, p1013, p1014, p1015, p1016, p1017, p1018, p1019, p1020, p1021, p1022, p1023, p1024, p1025, p1026, p1027, p1028, p1029, hC10⟩; clear hC9 p900 p901 p902 p903 p904 p905 p906 p907 p908 p909 p910 p911 p912 p913 p914 p915 p916 p917 p918 p919 p920 p921 p922 p923 p924 p925 p926 p927 p928 p929))
  all_goals first
    | exact absurd ⟨rfl, rfl⟩ h9
    | (go_ret; obtain ⟨F, hF⟩ := hC10.out; exact ⟨rfl, hF.bg.bel⟩)

end Go.Proofs.Ytgpbphjplbhfmaa.Ck.Y

/-
  TreeCross: the walk.
-/
namespace Go.Proofs.Ytgpbphjplbhfmaa.Ck.Y
open Go.RowKit Go.Maps Go.Lib

set_option maxRecDepth 8000 in
set_option maxHeartbeats 4000000 in
theorem cross_tf {t1 t2 n1 n2 : Int} (h1 : 10 ≤ t1) (h2 : t1 ≤ 1000) (h3 : 10 ≤ t2) (h4 : t2 ≤ 1000) (h5 : 1 ≤ n1) (h6 : n1 ≤ 9) (h7 : 1 ≤ n2) (h8 : n2 ≤ 9) (h9 : ¬ (t1 = t2 ∧ n1 = n2)) (hne : ¬ t1 = t2) (hc : lessB t1 n1 t2 n2 = false) (w : World) : Calls Try.prog 5 #[.int .i64 t1, .int .i64 t2, .int .i64 n1, .int .i64 n2, .bool true] w fun e w' => e = .returned (.bool true) ∧ Below w.heap.size w w' := by
  go_enter Try.func5, Try.ntmps5
  go_wp2_with (first
    | (go_at_call 7; refine (begun_any _).mono ?_; rintro e Wb ⟨rfl, hb⟩; have H3 : Hid (Below w.heap.size w Wb) := hb; clear hb)
    | (go_at_call 8; refine (cg_new _ H3).mono ?_; rintro e W0 ⟨rfl, hA1⟩; unfold coa at hA1; obtain ⟨A, hA⟩ : ∃ A, A = W0.heap.size := ⟨_, rfl⟩; have HA0 : Hid (A = W0.heap.size) := hA; clear hA)
    | (go_at_call 10; refine hA1.mono ?_; rintro e W1 ⟨rfl, a0, a1, b0, b1, la, lb, hB1⟩; clear hA1; have hA2 := cg_apply2 hB1; unfold cob at hA2; clear hB1)
    | (go_at_call 10; refine hA2.mono ?_; rintro e W2 ⟨⟨x, rfl⟩, a20, a21, b20, b21, la2, lb2, hB2⟩; clear hA2 a0 a1 b0 b1 la lb)
    | (go_at_call 10; refine (cg_y1 h3 h4 h7 h8 (V := W1.heap.size) hB2).mono ?_; rintro e W3 ⟨⟨x3, rfl⟩, p300, p301, p302, p303, p304, p305, p306, p307, p308, p309, p310, p311, p312, p313, p314, p315, p316, p317, p318, p319, p320, p321, p322, p323, p324, p325, p326, p327, p328, p329, hC3⟩; clear hB2 a20 a21 b20 b21 la2 lb2)
    | (go_at_call 10; refine (cg_x2 h1 h2 h5 h6 h9 hc hC3).mono ?_; rintro e W4 ⟨⟨x4, rfl⟩, p400, p401, p402, p403, p404, p405, p406, p407, p408, p409, p410, p411, p412, p413, p414, p415, p416, p417, p418, p419, p420, p421, p422, p423, p424, p425, p426, p427, p428, p429, hC4⟩; clear hC3 p300 p301 p302 p303 p304 p305 p306 p307 p308 p309 p310 p311 p312 p313 p314 p315 p316 p317 p318 p319 p320 p321 p322 p323 p324 p325 p326 p327 p328 p329)
    | (go_at_call 19; refine (cg_less hc hC4).mono ?_; rintro e W5 ⟨rfl, p500, p501, p502, p503, p504, p505, p506, p507, p508, p509, p510, p511, p512, p513, p514, p515, p516, p517, p518, p519, p520, p521, p522, p523, p524, p525, p526, p527, p528, p529, hC5⟩; clear hC4 p400 p401 p402 p403 p404 p405 p406 p407 p408 p409 p410 p411 p412 p413 p414 p415 p416 p417 p418 p419 p420 p421 p422 p423 p424 p425 p426 p427 p428 p429)
    | (go_at_call 20; refine (cg_skipped (cL_fold _ _ _ _ _ false) hC5).mono ?_; rintro e W6 ⟨rfl, p600, p601, p602, p603, p604, p605, p606, p607, p608, p609, p610, p611, p612, p613, p614, p615, p616, p617, p618, p619, p620, p621, p622, p623, p624, p625, p626, p627, p628, p629, hC6⟩; clear hC5 p500 p501 p502 p503 p504 p505 p506 p507 p508 p509 p510 p511 p512 p513 p514 p515 p516 p517 p518 p519 p520 p521 p522 p523 p524 p525 p526 p527 p528 p529)
    | (go_at_call 13; refine (cg_below1 (cL_fold _ _ _ _ _ false) hC6).mono ?_; rintro e W7 ⟨rfl, p700, p701, p702, p703, p704, p705, p706, p707, p708, p709, p710, p711, p712, p713, p714, p715, p716, p717, p718, p719, p720, p721, p722, p723, p724, p725, p726, p727, p728, p729, hC7⟩; clear hC6 p600 p601 p602 p603 p604 p605 p606 p607 p608 p609 p610 p611 p612 p613 p614 p615 p616 p617 p618 p619 p620 p621 p622 p623 p624 p625 p626 p627 p628 p629)
    | (go_at_call 13; refine (cg_below2 (cL_fold _ _ _ _ _ false) hC7).mono ?_; rintro e W8 ⟨rfl, p800, p801, p802, p803, p804, p805, p806, p807, p808, p809, p810, p811, p812, p813, p814, p815, p816, p817, p818, p819, p820, p821, p822, p823, p824, p825, p826, p827, p828, p829, hC8⟩; clear hC7 p700 p701 p702 p703 p704 p705 p706 p707 p708 p709 p710 p711 p712 p713 p714 p715 p716 p717 p718 p719 p720 p721 p722 p723 p724 p725 p726 p727 p728 p729)
    | (go_at_call 17; refine (cg_live1 (cL_fold _ _ _ _ _ false) hC8).mono ?_; rintro e W9 ⟨rfl, p900, p901, p902, p903, p904, p905, p906, p907, p908, p909, p910, p911, p912, p913, p914, p915, p916, p917, p918, p919, p920, p921, p922, p923, p924, p925, p926, p927, p928, p929, hC9⟩; clear hC8 p800 p801 p802 p803 p804 p805 p806 p807 p808 p809 p810 p811 p812 p813 p814 p815 p816 p817 p818 p819 p820 p821 p822 p823 p824 p825 p826 p827 p828 p829)
    | (go_at_call 17; refine (cg_live2 (cL_fold _ _ _ _ _ false) hC9).mono ?_; rintro e W10 ⟨rfl, p1000, p1001, p1002, p1003, p1004, p1005, p1006, p1007, p1008, p1009, p1010, p1011, p1012, p1013, p1014, p1015, p1016, p1017, p1018, p1019, p1020, p1021, p1022, p1023, p1024, p1025, p1026, p1027, p1028, p1029, hC10⟩; clear hC9 p900 p901 p902 p903 p904 p905 p906 p907 p908 p909 p910 p911 p912 p913 p914 p915 p916 p917 p918 p919 p920 p921 p922 p923 p924 p925 p926 p927 p928 p929))
  all_goals first
    | exact absurd ⟨rfl, rfl⟩ h9
    | (go_ret; obtain ⟨F, hF⟩ := hC10.out; exact ⟨rfl, hF.bg.bel⟩)

end Go.Proofs.Ytgpbphjplbhfmaa.Ck.Y

/-
  TreeCross: the walk.
-/
namespace Go.Proofs.Ytgpbphjplbhfmaa.Ck.Y
open Go.RowKit Go.Maps Go.Lib

set_option maxRecDepth 8000 in
set_option maxHeartbeats 4000000 in
theorem cross_fte {t1 n1 n2 : Int} (h1 : 10 ≤ t1) (h2 : t1 ≤ 1000) (h3 : 10 ≤ t1) (h4 : t1 ≤ 1000) (h5 : 1 ≤ n1) (h6 : n1 ≤ 9) (h7 : 1 ≤ n2) (h8 : n2 ≤ 9) (hne : ¬ n1 = n2) (hc : lessB t1 n1 t1 n2 = true) (w : World) : Calls Try.prog 5 #[.int .i64 t1, .int .i64 t1, .int .i64 n1, .int .i64 n2, .bool false] w fun e w' => e = .returned (.bool true) ∧ Below w.heap.size w w' := by
  go_enter Try.func5, Try.ntmps5
  go_wp2_with (first
    | (go_at_call 7; refine (begun_any _).mono ?_; rintro e Wb ⟨rfl, hb⟩; have H3 : Hid (Below w.heap.size w Wb) := hb; clear hb)
    | (go_at_call 8; refine (cg_new _ H3).mono ?_; rintro e W0 ⟨rfl, hA1⟩; unfold coa at hA1; obtain ⟨A, hA⟩ : ∃ A, A = W0.heap.size := ⟨_, rfl⟩; have HA0 : Hid (A = W0.heap.size) := hA; clear hA)
    | (go_at_call 10; refine hA1.mono ?_; rintro e W1 ⟨rfl, a0, a1, b0, b1, la, lb, hB1⟩; clear hA1; have hA2 := cg_apply2 hB1; unfold cob at hA2; clear hB1)
    | (go_at_call 10; refine hA2.mono ?_; rintro e W2 ⟨⟨x, rfl⟩, a20, a21, b20, b21, la2, lb2, hB2⟩; clear hA2 a0 a1 b0 b1 la lb)
    | (go_at_call 10; refine (cg_x1 h1 h2 h5 h6 (V := W1.heap.size) hB2).mono ?_; rintro e W3 ⟨⟨x3, rfl⟩, p300, p301, p302, p303, p304, p305, p306, p307, p308, p309, p310, p311, p312, p313, p314, p315, p316, p317, p318, p319, p320, p321, p322, p323, p324, p325, p326, p327, p328, p329, hC3⟩; clear hB2 a20 a21 b20 b21 la2 lb2)
    | (go_at_call 10; refine (cg_y2 h3 h4 h7 h8 (fun e => hne e.2) hc hC3).mono ?_; rintro e W4 ⟨⟨x4, rfl⟩, p400, p401, p402, p403, p404, p405, p406, p407, p408, p409, p410, p411, p412, p413, p414, p415, p416, p417, p418, p419, p420, p421, p422, p423, p424, p425, p426, p427, p428, p429, hC4⟩; clear hC3 p300 p301 p302 p303 p304 p305 p306 p307 p308 p309 p310 p311 p312 p313 p314 p315 p316 p317 p318 p319 p320 p321 p322 p323 p324 p325 p326 p327 p328 p329)
    | (go_at_call 19; refine (cg_less hc hC4).mono ?_; rintro e W5 ⟨rfl, p500, p501, p502, p503, p504, p505, p506, p507, p508, p509, p510, p511, p512, p513, p514, p515, p516, p517, p518, p519, p520, p521, p522, p523, p524, p525, p526, p527, p528, p529, hC5⟩; clear hC4 p400 p401 p402 p403 p404 p405 p406 p407 p408 p409 p410 p411 p412 p413 p414 p415 p416 p417 p418 p419 p420 p421 p422 p423 p424 p425 p426 p427 p428 p429)
    | (go_at_call 20; refine (cg_skipped (cL_fold _ _ _ _ _ true) hC5).mono ?_; rintro e W6 ⟨rfl, p600, p601, p602, p603, p604, p605, p606, p607, p608, p609, p610, p611, p612, p613, p614, p615, p616, p617, p618, p619, p620, p621, p622, p623, p624, p625, p626, p627, p628, p629, hC6⟩; clear hC5 p500 p501 p502 p503 p504 p505 p506 p507 p508 p509 p510 p511 p512 p513 p514 p515 p516 p517 p518 p519 p520 p521 p522 p523 p524 p525 p526 p527 p528 p529)
    | (go_at_call 13; refine (cg_below1 (cL_fold _ _ _ _ _ true) hC6).mono ?_; rintro e W7 ⟨rfl, p700, p701, p702, p703, p704, p705, p706, p707, p708, p709, p710, p711, p712, p713, p714, p715, p716, p717, p718, p719, p720, p721, p722, p723, p724, p725, p726, p727, p728, p729, hC7⟩; clear hC6 p600 p601 p602 p603 p604 p605 p606 p607 p608 p609 p610 p611 p612 p613 p614 p615 p616 p617 p618 p619 p620 p621 p622 p623 p624 p625 p626 p627 p628 p629)
    | (go_at_call 13; refine (cg_below2 (cL_fold _ _ _ _ _ true) hC7).mono ?_; rintro e W8 ⟨rfl, p800, p801, p802, p803, p804, p805, p806, p807, p808, p809, p810, p811, p812, p813, p814, p815, p816, p817, p818, p819, p820, p821, p822, p823, p824, p825, p826, p827, p828, p829, hC8⟩; clear hC7 p700 p701 p702 p703 p704 p705 p706 p707 p708 p709 p710 p711 p712 p713 p714 p715 p716 p717 p718 p719 p720 p721 p722 p723 p724 p725 p726 p727 p728 p729)
    | (go_at_call 17; refine (cg_live1 (cL_fold _ _ _ _ _ true) hC8).mono ?_; rintro e W9 ⟨rfl, p900, p901, p902, p903, p904, p905, p906, p907, p908, p909, p910, p911, p912, p913, p914, p915, p916, p917, p918, p919, p920, p921, p922, p923, p924, p925, p926, p927, p928, p929, hC9⟩; clear hC8 p800 p801 p802 p803 p804 p805 p806 p807 p808 p809 p810 p811 p812 p813 p814 p815 p816 p817 p818 p819 p820 p821 p822 p823 p824 p825 p826 p827 p828 p829)
    | (go_at_call 17; refine (cg_live2 (cL_fold _ _ _ _ _ true) hC9).mono ?_; rintro e W10 ⟨rfl, p1000, p1001, p1002, p1003, p1004, p1005, p1006, p1007, p1008, p1009, p1010, p1011, p1012, p1013, p1014, p1015, p1016, p1017, p1018, p1019, p1020, p1021, p1022, p1023, p1024, p1025, p1026, p1027, p1028, p1029, hC10⟩; clear hC9 p900 p901 p902 p903 p904 p905 p906 p907 p908 p909 p910 p911 p912 p913 p914 p915 p916 p917 p918 p919 p920 p921 p922 p923 p924 p925 p926 p927 p928 p929))
  all_goals first
    | exact absurd rfl hne
    | (go_ret; obtain ⟨F, hF⟩ := hC10.out; exact ⟨rfl, hF.bg.bel⟩)
    | (exfalso; simp_all <;> omega)
    | (exfalso; simp_all; omega)

end Go.Proofs.Ytgpbphjplbhfmaa.Ck.Y

/-
  TreeCross: the walk.
-/
namespace Go.Proofs.Ytgpbphjplbhfmaa.Ck.Y
open Go.RowKit Go.Maps Go.Lib

set_option maxRecDepth 8000 in
set_option maxHeartbeats 4000000 in
theorem cross_ffe {t1 n1 n2 : Int} (h1 : 10 ≤ t1) (h2 : t1 ≤ 1000) (h3 : 10 ≤ t1) (h4 : t1 ≤ 1000) (h5 : 1 ≤ n1) (h6 : n1 ≤ 9) (h7 : 1 ≤ n2) (h8 : n2 ≤ 9) (hne : ¬ n1 = n2) (hc : lessB t1 n1 t1 n2 = false) (w : World) : Calls Try.prog 5 #[.int .i64 t1, .int .i64 t1, .int .i64 n1, .int .i64 n2, .bool false] w fun e w' => e = .returned (.bool true) ∧ Below w.heap.size w w' := by
  go_enter Try.func5, Try.ntmps5
  go_wp2_with (first
    | (go_at_call 7; refine (begun_any _).mono ?_; rintro e Wb ⟨rfl, hb⟩; have H3 : Hid (Below w.heap.size w Wb) := hb; clear hb)
    | (go_at_call 8; refine (cg_new _ H3).mono ?_; rintro e W0 ⟨rfl, hA1⟩; unfold coa at hA1; obtain ⟨A, hA⟩ : ∃ A, A = W0.heap.size := ⟨_, rfl⟩; have HA0 : Hid (A = W0.heap.size) := hA; clear hA)
    | (go_at_call 10; refine hA1.mono ?_; rintro e W1 ⟨rfl, a0, a1, b0, b1, la, lb, hB1⟩; clear hA1; have hA2 := cg_apply2 hB1; unfold cob at hA2; clear hB1)
    | (go_at_call 10; refine hA2.mono ?_; rintro e W2 ⟨⟨x, rfl⟩, a20, a21, b20, b21, la2, lb2, hB2⟩; clear hA2 a0 a1 b0 b1 la lb)
    | (go_at_call 10; refine (cg_x1 h1 h2 h5 h6 (V := W1.heap.size) hB2).mono ?_; rintro e W3 ⟨⟨x3, rfl⟩, p300, p301, p302, p303, p304, p305, p306, p307, p308, p309, p310, p311, p312, p313, p314, p315, p316, p317, p318, p319, p320, p321, p322, p323, p324, p325, p326, p327, p328, p329, hC3⟩; clear hB2 a20 a21 b20 b21 la2 lb2)
    | (go_at_call 10; refine (cg_y2 h3 h4 h7 h8 (fun e => hne e.2) hc hC3).mono ?_; rintro e W4 ⟨⟨x4, rfl⟩, p400, p401, p402, p403, p404, p405, p406, p407, p408, p409, p410, p411, p412, p413, p414, p415, p416, p417, p418, p419, p420, p421, p422, p423, p424, p425, p426, p427, p428, p429, hC4⟩; clear hC3 p300 p301 p302 p303 p304 p305 p306 p307 p308 p309 p310 p311 p312 p313 p314 p315 p316 p317 p318 p319 p320 p321 p322 p323 p324 p325 p326 p327 p328 p329)
    | (go_at_call 19; refine (cg_less hc hC4).mono ?_; rintro e W5 ⟨rfl, p500, p501, p502, p503, p504, p505, p506, p507, p508, p509, p510, p511, p512, p513, p514, p515, p516, p517, p518, p519, p520, p521, p522, p523, p524, p525, p526, p527, p528, p529, hC5⟩; clear hC4 p400 p401 p402 p403 p404 p405 p406 p407 p408 p409 p410 p411 p412 p413 p414 p415 p416 p417 p418 p419 p420 p421 p422 p423 p424 p425 p426 p427 p428 p429)
    | (go_at_call 20; refine (cg_skipped (cL_fold _ _ _ _ _ false) hC5).mono ?_; rintro e W6 ⟨rfl, p600, p601, p602, p603, p604, p605, p606, p607, p608, p609, p610, p611, p612, p613, p614, p615, p616, p617, p618, p619, p620, p621, p622, p623, p624, p625, p626, p627, p628, p629, hC6⟩; clear hC5 p500 p501 p502 p503 p504 p505 p506 p507 p508 p509 p510 p511 p512 p513 p514 p515 p516 p517 p518 p519 p520 p521 p522 p523 p524 p525 p526 p527 p528 p529)
    | (go_at_call 13; refine (cg_below1 (cL_fold _ _ _ _ _ false) hC6).mono ?_; rintro e W7 ⟨rfl, p700, p701, p702, p703, p704, p705, p706, p707, p708, p709, p710, p711, p712, p713, p714, p715, p716, p717, p718, p719, p720, p721, p722, p723, p724, p725, p726, p727, p728, p729, hC7⟩; clear hC6 p600 p601 p602 p603 p604 p605 p606 p607 p608 p609 p610 p611 p612 p613 p614 p615 p616 p617 p618 p619 p620 p621 p622 p623 p624 p625 p626 p627 p628 p629)
    | (go_at_call 13; refine (cg_below2 (cL_fold _ _ _ _ _ false) hC7).mono ?_; rintro e W8 ⟨rfl, p800, p801, p802, p803, p804, p805, p806, p807, p808, p809, p810, p811, p812, p813, p814, p815, p816, p817, p818, p819, p820, p821, p822, p823, p824, p825, p826, p827, p828, p829, hC8⟩; clear hC7 p700 p701 p702 p703 p704 p705 p706 p707 p708 p709 p710 p711 p712 p713 p714 p715 p716 p717 p718 p719 p720 p721 p722 p723 p724 p725 p726 p727 p728 p729)
    | (go_at_call 17; refine (cg_live1 (cL_fold _ _ _ _ _ false) hC8).mono ?_; rintro e W9 ⟨rfl, p900, p901, p902, p903, p904, p905, p906, p907, p908, p909, p910, p911, p912, p913, p914, p915, p916, p917, p918, p919, p920, p921, p922, p923, p924, p925, p926, p927, p928, p929, hC9⟩; clear hC8 p800 p801 p802 p803 p804 p805 p806 p807 p808 p809 p810 p811 p812 p813 p814 p815 p816 p817 p818 p819 p820 p821 p822 p823 p824 p825 p826 p827 p828 p829)
    | (go_at_call 17; refine (cg_live2 (cL_fold _ _ _ _ _ false) hC9).mono ?_; rintro e W10 ⟨rfl, p1000, p1001, p1002, p1003, p1004, p1005, p1006, p1007, p1008, p1009, p1010, p1011, p1012, p1013, p1014, p1015, p1016, p1017, p1018, p1019, p1020, p1021, p1022, p1023, p1024, p1025, p1026, p1027, p1028, p1029, hC10⟩; clear hC9 p900 p901 p902 p903 p904 p905 p906 p907 p908 p909 p910 p911 p912 p913 p914 p915 p916 p917 p918 p919 p920 p921 p922 p923 p924 p925 p926 p927 p928 p929))
  all_goals first
    | exact absurd rfl hne
    | (go_ret; obtain ⟨F, hF⟩ := hC10.out; exact ⟨rfl, hF.bg.bel⟩)
    | (exfalso; simp_all <;> omega)
    | (exfalso; simp_all; omega)

end Go.Proofs.Ytgpbphjplbhfmaa.Ck.Y

/-
  TreeCross: the walk.
-/
namespace Go.Proofs.Ytgpbphjplbhfmaa.Ck.Y
open Go.RowKit Go.Maps Go.Lib

set_option maxRecDepth 8000 in
set_option maxHeartbeats 4000000 in
theorem cross_tte {t1 n1 n2 : Int} (h1 : 10 ≤ t1) (h2 : t1 ≤ 1000) (h3 : 10 ≤ t1) (h4 : t1 ≤ 1000) (h5 : 1 ≤ n1) (h6 : n1 ≤ 9) (h7 : 1 ≤ n2) (h8 : n2 ≤ 9) (hne : ¬ n1 = n2) (hc : lessB t1 n1 t1 n2 = true) (w : World) : Calls Try.prog 5 #[.int .i64 t1, .int .i64 t1, .int .i64 n1, .int .i64 n2, .bool true] w fun e w' => e = .returned (.bool true) ∧ Below w.heap.size w w' := by
  go_enter Try.func5, Try.ntmps5
  go_wp2_with (first
    | (go_at_call 7; refine (begun_any _).mono ?_; rintro e Wb ⟨rfl, hb⟩; have H3 : Hid (Below w.heap.size w Wb) := hb; clear hb)
    | (go_at_call 8; refine (cg_new _ H3).mono ?_; rintro e W0 ⟨rfl, hA1⟩; unfold coa at hA1; obtain ⟨A, hA⟩ : ∃ A, A = W0.heap.size := ⟨_, rfl⟩; have HA0 : Hid (A = W0.heap.size) := hA; clear hA)
    | (go_at_call 10; refine hA1.mono ?_; rintro e W1 ⟨rfl, a0, a1, b0, b1, la, lb, hB1⟩; clear hA1; have hA2 := cg_apply2 hB1; unfold cob at hA2; clear hB1)
    | (go_at_call 10; refine hA2.mono ?_; rintro e W2 ⟨⟨x, rfl⟩, a20, a21, b20, b21, la2, lb2, hB2⟩; clear hA2 a0 a1 b0 b1 la lb)
    | (go_at_call 10; refine (cg_y1 h3 h4 h7 h8 (V := W1.heap.size) hB2).mono ?_; rintro e W3 ⟨⟨x3, rfl⟩, p300, p301, p302, p303, p304, p305, p306, p307, p308, p309, p310, p311, p312, p313, p314, p315, p316, p317, p318, p319, p320, p321, p322, p323, p324, p325, p326, p327, p328, p329, hC3⟩; clear hB2 a20 a21 b20 b21 la2 lb2)
    | (go_at_call 10; refine (cg_x2 h1 h2 h5 h6 (fun e => hne e.2) hc hC3).mono ?_; rintro e W4 ⟨⟨x4, rfl⟩, p400, p401, p402, p403, p404, p405, p406, p407, p408, p409, p410, p411, p412, p413, p414, p415, p416, p417, p418, p419, p420, p421, p422, p423, p424, p425, p426, p427, p428, p429, hC4⟩; clear hC3 p300 p301 p302 p303 p304 p305 p306 p307 p308 p309 p310 p311 p312 p313 p314 p315 p316 p317 p318 p319 p320 p321 p322 p323 p324 p325 p326 p327 p328 p329)
    | (go_at_call 19; refine (cg_less hc hC4).mono ?_; rintro e W5 ⟨rfl, p500, p501, p502, p503, p504, p505, p506, p507, p508, p509, p510, p511, p512, p513, p514, p515, p516, p517, p518, p519, p520, p521, p522, p523, p524, p525, p526, p527, p528, p529, hC5⟩; clear hC4 p400 p401 p402 p403 p404 p405 p406 p407 p408 p409 p410 p411 p412 p413 p414 p415 p416 p417 p418 p419 p420 p421 p422 p423 p424 p425 p426 p427 p428 p429)
    | (go_at_call 20; refine (cg_skipped (cL_fold _ _ _ _ _ true) hC5).mono ?_; rintro e W6 ⟨rfl, p600, p601, p602, p603, p604, p605, p606, p607, p608, p609, p610, p611, p612, p613, p614, p615, p616, p617, p618, p619, p620, p621, p622, p623, p624, p625, p626, p627, p628, p629, hC6⟩; clear hC5 p500 p501 p502 p503 p504 p505 p506 p507 p508 p509 p510 p511 p512 p513 p514 p515 p516 p517 p518 p519 p520 p521 p522 p523 p524 p525 p526 p527 p528 p529)
    | (go_at_call 13; refine (cg_below1 (cL_fold _ _ _ _ _ true) hC6).mono ?_; rintro e W7 ⟨rfl, p700, p701, p702, p703, p704, p705, p706, p707, p708, p709, p710, p711, p712, p713, p714, p715, p716, p717, p718, p719, p720, p721, p722, p723, p724, p725, p726, p727, p728, p729, hC7⟩; clear hC6 p600 p601 p602 p603 p604 p605 p606 p607 p608 p609 p610 p611 p612 p613 p614 p615 p616 p617 p618 p619 p620 p621 p622 p623 p624 p625 p626 p627 p628 p629)
    | (go_at_call 13; refine (cg_below2 (cL_fold _ _ _ _ _ true) hC7).mono ?_; rintro e W8 ⟨rfl, p800, p801, p802, p803, p804, p805, p806, p807, p808, p809, p810, p811, p812, p813, p814, p815, p816, p817, p818, p819, p820, p821, p822, p823, p824, p825, p826, p827, p828, p829, hC8⟩; clear hC7 p700 p701 p702 p703 p704 p705 p706 p707 p708 p709 p710 p711 p712 p713 p714 p715 p716 p717 p718 p719 p720 p721 p722 p723 p724 p725 p726 p727 p728 p729)
    | (go_at_call 17; refine (cg_live1 (cL_fold _ _ _ _ _ true) hC8).mono ?_; rintro e W9 ⟨rfl, p900, p901, p902, p903, p904, p905, p906, p907, p908, p909, p910, p911, p912, p913, p914, p915, p916, p917, p918, p919, p920, p921, p922, p923, p924, p925, p926, p927, p928, p929, hC9⟩; clear hC8 p800 p801 p802 p803 p804 p805 p806 p807 p808 p809 p810 p811 p812 p813 p814 p815 p816 p817 p818 p819 p820 p821 p822 p823 p824 p825 p826 p827 p828 p829)
    | (go_at_call 17; refine (cg_live2 (cL_fold _ _ _ _ _ true) hC9).mono ?_; rintro e W10 ⟨rfl, p1000, p1001, p1002, p1003, p1004, p1005, p1006, p1007, p1008, p1009, p1010, p1011, p1012, p1013, p1014, p1015, p1016, p1017, p1018, p1019, p1020, p1021, p1022, p1023, p1024, p1025, p1026, p1027, p1028, p1029, hC10⟩; clear hC9 p900 p901 p902 p903 p904 p905 p906 p907 p908 p909 p910 p911 p912 p913 p914 p915 p916 p917 p918 p919 p920 p921 p922 p923 p924 p925 p926 p927 p928 p929))
  all_goals first
    | exact absurd rfl hne
    | (go_ret; obtain ⟨F, hF⟩ := hC10.out; exact ⟨rfl, hF.bg.bel⟩)
    | (exfalso; simp_all <;> omega)
    | (exfalso; simp_all; omega)

end Go.Proofs.Ytgpbphjplbhfmaa.Ck.Y

/-
  TreeCross: the walk.
-/
namespace Go.Proofs.Ytgpbphjplbhfmaa.Ck.Y
open Go.RowKit Go.Maps Go.Lib

set_option maxRecDepth 8000 in
set_option maxHeartbeats 4000000 in
theorem cross_tfe {t1 n1 n2 : Int} (h1 : 10 ≤ t1) (h2 : t1 ≤ 1000) (h3 : 10 ≤ t1) (h4 : t1 ≤ 1000) (h5 : 1 ≤ n1) (h6 : n1 ≤ 9) (h7 : 1 ≤ n2) (h8 : n2 ≤ 9) (hne : ¬ n1 = n2) (hc : lessB t1 n1 t1 n2 = false) (w : World) : Calls Try.prog 5 #[.int .i64 t1, .int .i64 t1, .int .i64 n1, .int .i64 n2, .bool true] w fun e w' => e = .returned (.bool true) ∧ Below w.heap.size w w' := by
  go_enter Try.func5, Try.ntmps5
  go_wp2_with (first
    | (go_at_call 7; refine (begun_any _).mono ?_; rintro e Wb ⟨rfl, hb⟩; have H3 : Hid (Below w.heap.size w Wb) := hb; clear hb)
    | (go_at_call 8; refine (cg_new _ H3).mono ?_; rintro e W0 ⟨rfl, hA1⟩; unfold coa at hA1; obtain ⟨A, hA⟩ : ∃ A, A = W0.heap.size := ⟨_, rfl⟩; have HA0 : Hid (A = W0.heap.size) := hA; clear hA)
    | (go_at_call 10; refine hA1.mono ?_; rintro e W1 ⟨rfl, a0, a1, b0, b1, la, lb, hB1⟩; clear hA1; have hA2 := cg_apply2 hB1; unfold cob at hA2; clear hB1)
    | (go_at_call 10; refine hA2.mono ?_; rintro e W2 ⟨⟨x, rfl⟩, a20, a21, b20, b21, la2, lb2, hB2⟩; clear hA2 a0 a1 b0 b1 la lb)
    | (go_at_call 10; refine (cg_y1 h3 h4 h7 h8 (V := W1.heap.size) hB2).mono ?_; rintro e W3 ⟨⟨x3, rfl⟩, p300, p301, p302, p303, p304, p305, p306, p307, p308, p309, p310, p311, p312, p313, p314, p315, p316, p317, p318, p319, p320, p321, p322, p323, p324, p325, p326, p327, p328, p329, hC3⟩; clear hB2 a20 a21 b20 b21 la2 lb2)
    | (go_at_call 10; refine (cg_x2 h1 h2 h5 h6 (fun e => hne e.2) hc hC3).mono ?_; rintro e W4 ⟨⟨x4, rfl⟩, p400, p401, p402, p403, p404, p405, p406, p407, p408, p409, p410, p411, p412, p413, p414, p415, p416, p417, p418, p419, p420, p421, p422, p423, p424, p425, p426, p427, p428, p429, hC4⟩; clear hC3 p300 p301 p302 p303 p304 p305 p306 p307 p308 p309 p310 p311 p312 p313 p314 p315 p316 p317 p318 p319 p320 p321 p322 p323 p324 p325 p326 p327 p328 p329)
    | (go_at_call 19; refine (cg_less hc hC4).mono ?_; rintro e W5 ⟨rfl, p500, p501, p502, p503, p504, p505, p506, p507, p508, p509, p510, p511, p512, p513, p514, p515, p516, p517, p518, p519, p520, p521, p522, p523, p524, p525, p526, p527, p528, p529, hC5⟩; clear hC4 p400 p401 p402 p403 p404 p405 p406 p407 p408 p409 p410 p411 p412 p413 p414 p415 p416 p417 p418 p419 p420 p421 p422 p423 p424 p425 p426 p427 p428 p429)
    | (go_at_call 20; refine (cg_skipped (cL_fold _ _ _ _ _ false) hC5).mono ?_; rintro e W6 ⟨rfl, p600, p601, p602, p603, p604, p605, p606, p607, p608, p609, p610, p611, p612, p613, p614, p615, p616, p617, p618, p619, p620, p621, p622, p623, p624, p625, p626, p627, p628, p629, hC6⟩; clear hC5 p500 p501 p502 p503 p504 p505 p506 p507 p508 p509 p510 p511 p512 p513 p514 p515 p516 p517 p518 p519 p520 p521 p522 p523 p524 p525 p526 p527 p528 p529)
    | (go_at_call 13; refine (cg_below1 (cL_fold _ _ _ _ _ false) hC6).mono ?_; rintro e W7 ⟨rfl, p700, p701, p702, p703, p704, p705, p706, p707, p708, p709, p710, p711, p712, p713, p714, p715, p716, p717, p718, p719, p720, p721, p722, p723, p724, p725, p726, p727, p728, p729, hC7⟩; clear hC6 p600 p601 p602 p603 p604 p605 p606 p607 p608 p609 p610 p611 p612 p613 p614 p615 p616 p617 p618 p619 p620 p621 p622 p623 p624 p625 p626 p627 p628 p629)
    | (go_at_call 13; refine (cg_below2 (cL_fold _ _ _ _ _ false) hC7).mono ?_; rintro e W8 ⟨rfl, p800, p801, p802, p803, p804, p805, p806, p807, p808, p809, p810, p811, p812, p813, p814, p815, p816, p817, p818, p819, p820, p821, p822, p823, p824, p825, p826, p827, p828, p829, hC8⟩; clear hC7 p700 p701 p702 p703 p704 p705 p706 p707 p708 p709 p710 p711 p712 p713 p714 p715 p716 p717 p718 p719 p720 p721 p722 p723 p724 p725 p726 p727 p728 p729)
    | (go_at_call 17; refine (cg_live1 (cL_fold _ _ _ _ _ false) hC8).mono ?_; rintro e W9 ⟨rfl, p900, p901, p902, p903, p904, p905, p906, p907, p908, p909, p910, p911, p912, p913, p914, p915, p916, p917, p918, p919, p920, p921, p922, p923, p924, p925, p926, p927, p928, p929, hC9⟩; clear hC8 p800 p801 p802 p803 p804 p805 p806 p807 p808 p809 p810 p811 p812 p813 p814 p815 p816 p817 p818 p819 p820 p821 p822 p823 p824 p825 p826 p827 p828 p829)
    | (go_at_call 17; refine (cg_live2 (cL_fold _ _ _ _ _ false) hC9).mono ?_; rintro e W10 ⟨rfl, p1000, p1001, p1002, p1003, p1004, p1005, p1006, p1007, p1008, p1009, p1010, p1011, p1012, p1013, p1014, p1015, p1016, p1017, p1018, p1019, p1020, p1021, p1022, p1023, p1024, p1025, p1026, p1027, p1028, p1029, hC10⟩; clear hC9 p900 p901 p902 p903 p904 p905 p906 p907 p908 p909 p910 p911 p912 p913 p914 p915 p916 p917 p918 p919 p920 p921 p922 p923 p924 p925 p926 p927 p928 p929))
  all_goals first
    | exact absurd rfl hne
    | (go_ret; obtain ⟨F, hF⟩ := hC10.out; exact ⟨rfl, hF.bg.bel⟩)
    | (exfalso; simp_all <;> omega)
    | (exfalso; simp_all; omega)

end Go.Proofs.Ytgpbphjplbhfmaa.Ck.Y

/-
  TreeCross: numbers out of range.
-/
namespace Go.Proofs.Ytgpbphjplbhfmaa.Ck.Y
open Go.RowKit Go.Maps Go.Lib

theorem cg_new0 {w : World} (v : World) (hv : Hid (Below w.heap.size w v)) : Calls Try.prog 8 #[] v fun e W0 => e = .returned (.pointer (some ⟨v.heap.size, 0, none⟩)) ∧ Hid (Below w.heap.size w W0) := by
  refine (new_any v).mono ?_
  rintro e W0 ⟨rfl, hT, hb⟩
  exact ⟨rfl, hv.out.trans (hb.mono hv.out.size)⟩
set_option maxRecDepth 8000 in
set_option maxHeartbeats 4000000 in
theorem cross_out {t1 t2 n1 n2 : Int} (b : Bool) (hg : t1 < 10 ∨ t2 < 10 ∨ 1000 < t1 ∨ 1000 < t2 ∨ n1 < 1 ∨ 9 < n1 ∨ n2 < 1 ∨ 9 < n2 ∨ (t1 = t2 ∧ n1 = n2)) (w : World) : Calls Try.prog 5 #[.int .i64 t1, .int .i64 t2, .int .i64 n1, .int .i64 n2, .bool b] w fun e w' => e = .returned (.bool true) ∧ Below w.heap.size w w' := by
  go_enter Try.func5, Try.ntmps5
  go_wp2_with (first
    | (go_at_call 7; refine (begun_any _).mono ?_; rintro e Wb ⟨rfl, hb⟩; have H3 : Hid (Below w.heap.size w Wb) := hb; clear hb)
    | (go_at_call 8; refine (cg_new0 _ H3).mono ?_; rintro e W0 ⟨rfl, H4⟩))

  all_goals first
    | (go_ret; exact ⟨rfl, H4.out⟩)
    | (exfalso; simp_all <;> omega)
    | (exfalso; simp_all; omega)

end Go.Proofs.Ytgpbphjplbhfmaa.Ck.Y

/-
  TreeCross: the law, whatever comes in.
-/
namespace Go.Proofs.Ytgpbphjplbhfmaa.Ck.Y
open Go.RowKit Go.Maps Go.Lib

theorem cross_law (t1 t2 n1 n2 : Int) (b : Bool) (w : World) : Calls Try.prog 5 #[.int .i64 t1, .int .i64 t2, .int .i64 n1, .int .i64 n2, .bool b] w fun e w' => e = .returned (.bool true) ∧ Below w.heap.size w w' := by
  by_cases hg : t1 < 10 ∨ t2 < 10 ∨ 1000 < t1 ∨ 1000 < t2 ∨ n1 < 1 ∨ 9 < n1 ∨ n2 < 1 ∨ 9 < n2 ∨ (t1 = t2 ∧ n1 = n2)
  · exact cross_out b hg w
  · have h1 : 10 ≤ t1 := by omega
    have h2 : t1 ≤ 1000 := by omega
    have h3 : 10 ≤ t2 := by omega
    have h4 : t2 ≤ 1000 := by omega
    have h5 : 1 ≤ n1 := by omega
    have h6 : n1 ≤ 9 := by omega
    have h7 : 1 ≤ n2 := by omega
    have h8 : n2 ≤ 9 := by omega
    have h9 : ¬ (t1 = t2 ∧ n1 = n2) := by omega
    clear hg
    by_cases hne : t1 = t2
    · subst hne
      have hn : ¬ n1 = n2 := fun e => h9 ⟨rfl, e⟩
      cases hc : lessB t1 n1 t1 n2 <;> cases b
      · exact cross_ffe h1 h2 h3 h4 h5 h6 h7 h8 hn hc w
      · exact cross_tfe h1 h2 h3 h4 h5 h6 h7 h8 hn hc w
      · exact cross_fte h1 h2 h3 h4 h5 h6 h7 h8 hn hc w
      · exact cross_tte h1 h2 h3 h4 h5 h6 h7 h8 hn hc w
    · cases hc : lessB t1 n1 t2 n2 <;> cases b
      · exact cross_ff h1 h2 h3 h4 h5 h6 h7 h8 h9 hne hc w
      · exact cross_tf h1 h2 h3 h4 h5 h6 h7 h8 h9 hne hc w
      · exact cross_ft h1 h2 h3 h4 h5 h6 h7 h8 h9 hne hc w
      · exact cross_tt h1 h2 h3 h4 h5 h6 h7 h8 h9 hne hc w

end Go.Proofs.Ytgpbphjplbhfmaa.Ck.Y

namespace Go.Proofs.Ytgpbphjplbhfmaa
open Go.ChangeShapes Go.WideShapes Go.ChangeAt Go.RowKit

theorem ownc : ownKnob Try.prog.godebug = none := by kernel_rfl
theorem laidOutc : laidOutB Try.prog = true := by kernel_rfl

set_option maxRecDepth 100000 in
theorem tcross_lifted (os : Os) (started : os.Started) (H : Type) (enc : TypeId × Value → H) :
    ReturnsInHanded {} Try.checked os 5 .any (Rows.treeCrossSpec.pre6 enc Try.prog Try.f5 Rows.treeCrossRow.domain false) (Rows.treeCrossSpec.post enc Try.prog Try.f5 false true false false) := by
  refine returnsInHanded_of_change (C := Try.checked) ownc started (by kernel_rfl) Try.func5
    (ChangeSpec.witness6 (enc := enc) (C := Try.checked) false ⟨#[], #[.int .i64 0, .int .i64 0, .int .i64 0, .int .i64 0, .bool false], []⟩ 8 (by kernel_rfl) (by kernel_rfl) (by kernel_rfl) (by kernel_rfl)) ?_
  intro W base args ds gs before hval0 hW hcnd _
  have hval : ∀ (j : Nat) t v, Try.f5.params[j]? = some t → args[j]? = some v → Value.okWide Try.prog W .any base t v := hval0
  have hW' := hW
  obtain ⟨p, q, hA0, hV, rfl, hfz, hnd⟩ := hW
  have hA : DataW.TrodAll enc Try.prog W 0 (fun _ => true) true Try.f5.params.toList args.toList ds p := hA0
  rw [Try.params5] at hA hval
  obtain ⟨v0, vs0, d0, ds0, p0, q0, hargs, rfl, rfl, h0, r0⟩ := trodAll_cons hA
  obtain ⟨v1, vs1, d1, ds1, p1, q1, rfl, rfl, rfl, h1, r1⟩ := trodAll_cons r0
  obtain ⟨v2, vs2, d2, ds2, p2, q2, rfl, rfl, rfl, h2, r2⟩ := trodAll_cons r1
  obtain ⟨v3, vs3, d3, ds3, p3, q3, rfl, rfl, rfl, h3, r3⟩ := trodAll_cons r2
  obtain ⟨v4, vs4, d4, ds4, p4, q4, rfl, rfl, rfl, h4, r4⟩ := trodAll_cons r3
  obtain ⟨rfl, rfl, rfl⟩ := trodAll_nil r4
  obtain rfl : args = #[v0, v1, v2, v3, v4] := by cases args; simp_all
  obtain ⟨rfl, rfl⟩ := trodVars_none hV
  obtain ⟨x0, rfl⟩ := okWide_int Try.underlying2 (hval 0 2 v0 rfl rfl)
  obtain ⟨x1, rfl⟩ := okWide_int Try.underlying2 (hval 1 2 v1 rfl rfl)
  obtain ⟨x2, rfl⟩ := okWide_int Try.underlying3 (hval 2 3 v2 rfl rfl)
  obtain ⟨x3, rfl⟩ := okWide_int Try.underlying3 (hval 3 3 v3 rfl rfl)
  obtain ⟨bk, rfl⟩ := okWide_bool Try.underlying4 (hval 4 4 v4 rfl rfl)
  have k0 := h0
  have k1 := h1
  have k2 := h2
  have k3 := h3
  have k4 := h4
  have lt0 : ∀ x ∈ p0, x.block < W.heap.size := by obtain ⟨m, hm⟩ := k0; exact DataW.trod_lt m _ _ _ hm
  have lt1 : ∀ x ∈ p1, x.block < W.heap.size := by obtain ⟨m, hm⟩ := k1; exact DataW.trod_lt m _ _ _ hm
  have lt2 : ∀ x ∈ p2, x.block < W.heap.size := by obtain ⟨m, hm⟩ := k2; exact DataW.trod_lt m _ _ _ hm
  have lt3 : ∀ x ∈ p3, x.block < W.heap.size := by obtain ⟨m, hm⟩ := k3; exact DataW.trod_lt m _ _ _ hm
  have lt4 : ∀ x ∈ p4, x.block < W.heap.size := by obtain ⟨m, hm⟩ := k4; exact DataW.trod_lt m _ _ _ hm
  clear hA0 hval0
  refine (Ck.Y.cross_law x0 x1 x2 x3 bk W).mono fun e W' ⟨he, bel⟩ => ?_
  subst he
  exact ⟨_, rfl, _, _, _, [], _, [], hW', trodAll_mk1 (shut_bool Try.underlying4 _), (trodAll_cons_mk (Below.trod laidOutc (by kernel_rfl) (of_decide_eq_true (by kernel_rfl)) k0 bel lt0) (trodAll_cons_mk (Below.trod laidOutc (by kernel_rfl) (of_decide_eq_true (by kernel_rfl)) k1 bel lt1) (trodAll_cons_mk (Below.trod laidOutc (by kernel_rfl) (of_decide_eq_true (by kernel_rfl)) k2 bel lt2) (trodAll_cons_mk (Below.trod laidOutc (by kernel_rfl) (of_decide_eq_true (by kernel_rfl)) k3 bel lt3) (trodAll_cons_mk (Below.trod laidOutc (by kernel_rfl) (of_decide_eq_true (by kernel_rfl)) k4 bel lt4) trodAll_mk0))))), rfl, bel.frame _, fun h => by cases h⟩

theorem treeCross_holds : Rows.TreeCrossSaid :=
  OpenClaim.holds_of_wide 5 Try.f5 rfl rfl rfl rfl rfl rfl rfl ⟨rfl, rfl, rfl, rfl, rfl⟩ rfl rfl rfl rfl rfl (by kernel_rfl) Try.func5 (by kernel_rfl)
    (of_decide_eq_true (by kernel_rfl)) (by unfold Func.isWrapper; first | (rw [if_pos (by decide +kernel)]; kernel_rfl) | (rw [if_neg (by decide +kernel)]; exact ⟨rfl, rfl⟩))
    (fun os started H enc _ => tcross_lifted os started H enc)

#print axioms treeCross_holds
end Go.Proofs.Ytgpbphjplbhfmaa
