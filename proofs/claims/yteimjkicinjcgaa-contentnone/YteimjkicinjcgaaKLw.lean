/-
  A file as the laws ask it; a write that is made of a text.
-/
import Derived.Test.YteimjkicinjcgaaKLs
import Derived.Test.YteimjkicinjcgaaKOe
import Derived.Test.YteimjkicinjcgaaKVcmp

namespace Go.Proofs.Yteimjkicinjcgaa.Ck.Y.L
open Go.RowKit Go.Maps Go.Lib

/-- The heads of S, by rising stamps. -/
structure IsHd (S HC : List VC) : Prop where
  rise : HC.Pairwise ltC
  mem : ∀ x, x ∈ HC ↔ x ∈ S ∧ headC S x = true
theorem IsHd.unique {S A B : List VC} (h : IsHd S A) (k : IsHd S B) : A = B := rise_unique h.rise k.rise fun x => (h.mem x).trans (k.mem x).symm
theorem HF.isHd {S : List VC} {sn : List Int} {H : List VC} (h : L.HF S sn H) (hq : ∀ x ∈ S, 1 ≤ x.sq) : IsHd S H :=
  ⟨h.rise, fun x => by
    rw [h.mem]
    constructor
    · rintro ⟨h1, h2⟩; exact ⟨h1, (h.headC (hq x h1)).1 h2⟩
    · rintro ⟨h1, h2⟩; exact ⟨h1, (h.headC (hq x h1)).2 h2⟩⟩
def lastC (HC : List VC) : List (BitVec 8) := match HC.getLast? with
  | none => []
  | some x => x.bs
theorem lastB_map (H : List VG) : lastB H = lastC (H.map VG.c) := by
  unfold lastB lastC
  rw [List.getLast?_map]
  cases H.getLast? <;> rfl
section
variable {F : Nat → Prop} {w w' : World} {fb : Nat} {S : List VC}
theorem FileS.below (h : FileS F w fb S) (hb : Below w.heap.size w w') : FileS F w' fb S := by
  obtain ⟨sn, H, mv, sp, sc, hv, h1, h2⟩ := h
  exact ⟨sn, H, mv, sp, sc, hv, h1.below hb, h2⟩
theorem FileS.lt (h : FileS F w fb S) : ∀ b, F b → b < w.heap.size := by
  obtain ⟨sn, H, mv, sp, sc, hv, h1, h2, rfl, h3⟩ := h
  exact h1.lt
theorem fheads (h : FileS F w fb S) (hq : ∀ x ∈ S, 1 ≤ x.sq) {HC : List VC} (hs : IsHd S HC) :
    Calls Try.prog 14 #[.pointer (some ⟨fb, 0, none⟩)] w fun e w' => ∃ v M, e = .returned v ∧ RowV w' w.heap.size v M ∧ M.map VG.c = HC ∧ (∀ y ∈ M, VOwn w' w.heap.size y) ∧ Below w.heap.size w w' := by
  obtain ⟨sn, H, mv, sp, sc, hv, h1, h2, rfl, h3⟩ := h
  have e := (h2.isHd hq).unique hs
  rw [← e]
  exact heads_any h1
theorem fvalue (h : FileS F w fb S) (hq : ∀ x ∈ S, 1 ≤ x.sq) {HC : List VC} (hs : IsHd S HC) :
    Calls Try.prog 15 #[.pointer (some ⟨fb, 0, none⟩)] w fun e w' => ∃ v, e = .returned v ∧ w'.ownsRow w.heap.size 5 1 v (lastC HC).length ((lastC HC).map Cd.u8v) ∧ Below w.heap.size w w' := by
  obtain ⟨sn, H, mv, sp, sc, hv, h1, h2, rfl, h3⟩ := h
  have e := (h2.isHd hq).unique hs
  rw [← e, ← lastB_map]
  exact value_any h1
theorem fsize (h : FileS F w fb S) (hq : ∀ x ∈ S, 1 ≤ x.sq) {HC : List VC} (hs : IsHd S HC) :
    Calls Try.prog 16 #[.pointer (some ⟨fb, 0, none⟩)] w fun e w' => e = .returned (.int .i64 ((lastC HC).length : Nat)) ∧ Below w.heap.size w w' := by
  obtain ⟨sn, H, mv, sp, sc, hv, h1, h2, rfl, h3⟩ := h
  have e := (h2.isHd hq).unique hs
  rw [← e, ← lastB_map]
  exact size_any h1
end
/-- What an operation says is kept through the file's turns, where its rows are no blocks of the file. -/
theorem WIn.kept {w w' : World} {S : Nat → Prop} {o : OG} {ns : List Int} {bs : List (BitVec 8)} (h : WIn w o ns bs) (ho : Only S w w') (h1 : ∀ b k, o.sp = some ⟨b, k, none⟩ → ¬ S b) (h2 : ∀ b k, o.dp = some ⟨b, k, none⟩ → ¬ S b) : WIn w' o ns bs := by
  have key : ∀ (b k : Nat) (v : Value), ¬ S b → w.cell? ⟨b, k, none⟩ = some v → w'.cell? ⟨b, k, none⟩ = some v := fun b k v hn hc => by
    have := ho.block b (cell_lt hc) hn
    rw [← hc]
    unfold World.cell?
    rw [this]
  refine ⟨fun hl => ?_, h.sl, h.sc, h.le, fun hl => ?_, h.dl, h.dc, h.bl, h.nm⟩
  · obtain ⟨b, k, e, hc⟩ := h.seen hl
    exact ⟨b, k, e, fun j u hj => key b _ u (h1 b k e) (hc j u hj)⟩
  · obtain ⟨b, k, e, hc⟩ := h.data hl
    exact ⟨b, k, e, fun j u hj => key b _ _ (h2 b k e) (hc j u hj)⟩

end Go.Proofs.Yteimjkicinjcgaa.Ck.Y.L
