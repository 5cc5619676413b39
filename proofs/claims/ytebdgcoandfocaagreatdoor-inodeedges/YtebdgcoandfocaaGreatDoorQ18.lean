/-
  What the proof leans on, part 19.
-/
import Derived.Test.YtebdgcoandfocaaGreatDoorQ17
import Derived.Test.YtebdgcoandfocaaGreatDoorQ13
import Derived.Test.YtebdgcoandfocaaGreatDoorQ16

/-
  A walk that plans a write, as a function: all numbers. Pure: no program.
-/
namespace Go.Proofs.YtebdgcoandfocaaGreatDoor
open Go.RowKit

theorem lev_pass {σ : Type} {step : Ino.Stp σ} {f t first sp : Nat} : ∀ (l : List (BitVec 32)) (i : Nat) (s : σ), (∀ j, i ≤ j → t ≤ first + j * sp) → Ino.lev step f t first sp l i s = (l, 0, s)
  | [], _, _, _ => rfl
  | n :: l, i, s, h => by
    rw [Ino.lev_skip (.inr (h i (Nat.le_refl _))), lev_pass l (i + 1) s (fun j hj => h j (by omega))]

theorem tab1_get (G : Ino.Gs) (j : Nat) (h : j < 64) : (Ino.tab1 G)[j]? = some (G (8 + j)) := by simp [Ino.tab1, h]
theorem tab2_get (G : Ino.Gs) (j : Nat) (h : j < 64) : (Ino.tab2 G)[j]? = some (if j < 56 then G (72 + j) else 0#32) := by simp [Ino.tab2, h]

/-- What a table of numbers has to do with blocks. -/
structure TabOk (nb : Nat) (V : Nat → By) (G : Ino.Gs) : Prop where
  o0 : G 128 = 0 → Ino.tab1 G = Ino.zT
  o1 : G 128 ≠ 0 → (G 128).toNat < nb ∧ tabOf (V (G 128).toNat) = Ino.tab1 G
  t0 : G 130 = 0 → Ino.tab2 G = Ino.zT
  t1 : G 130 ≠ 0 → (G 130).toNat < nb ∧ tabOf (V (G 130).toNat) = Ino.tab2 G
  d0 : G 129 = 0 → Ino.tabd G = Ino.zT
  d1 : G 129 ≠ 0 → (G 129).toNat < nb ∧ tabOf (V (G 129).toNat) = Ino.tabd G

def putIf (c : Prop) [Decidable c] (n : BitVec 32) (T T0 : List (BitVec 32)) : List (Nat × By) := if c then (if T = T0 then [] else [(n.toNat, Ino.tabB T)]) else []
def spots (G G' : Ino.Gs) (L : List Nat) : List (Nat × BitVec 32 × Bool) := L.map fun p => (p, G' p, decide (G p = 0))
theorem spots_congr {G G' H H' : Ino.Gs} {L : List Nat} (h : ∀ p ∈ L, G p = H p ∧ G' p = H' p) : spots G G' L = spots H H' L := List.map_congr_left fun p hp => by rw [(h p hp).1, (h p hp).2]

theorem one_ens (F : List Nat) (hF : ∀ x ∈ F.map (BitVec.ofNat 32), x ≠ 0) (nb : Nat) (V : Nat → By) (f t : Nat) (G : Ino.Gs) (s : WS) (hok : TabOk nb V G) (hc : f < 72 ∧ 8 < t) (hft : f < t) (ht : t ≤ 128) :
    (Ino.ensure (F.map (BitVec.ofNat 32)) G s.k (128 :: Ino.span (max f 8) (min t 72)) = none → (Ino.thr1 (wOps F nb V) true f t (fnd F) 8 (G 128) s).2.1 = 28) ∧
    (∀ G' k', Ino.ensure (F.map (BitVec.ofNat 32)) G s.k (128 :: Ino.span (max f 8) (min t 72)) = some (G', k') →
      ∃ b', Ino.thr1 (wOps F nb V) true f t (fnd F) 8 (G 128) s = (G' 128, 0, ⟨b', k', s.G, s.P ++ putIf True (G' 128) (Ino.tab1 G') (Ino.tab1 G), s.X ++ spots G G' (Ino.span (max f 8) (min t 72))⟩)) := by
  have := thr_ens F hF nb V f t 8 128 Ino.tab1 G s (by omega) (by omega) (fun G => by simp [Ino.tab1]) (fun G j _ _ hj => tab1_get G j hj) (fun G1 G2 h j hj => by
    by_cases h64 : j < 64
    · rw [tab1_get G1 j h64, tab1_get G2 j h64, h (8 + j) hj (by omega)]
    · rw [List.getElem?_eq_none (by simp [Ino.tab1]; omega), List.getElem?_eq_none (by simp [Ino.tab1]; omega)]) hok.o0 hok.o1 (by omega)
  simpa [putIf, spots] using this

theorem two_ens (F : List Nat) (hF : ∀ x ∈ F.map (BitVec.ofNat 32), x ≠ 0) (nb : Nat) (V : Nat → By) (f t : Nat) (G : Ino.Gs) (s : WS) (hok : TabOk nb V G) (hc : 72 < t) (ht : t ≤ 128) (hft : f < t) :
    (Ino.ensure (F.map (BitVec.ofNat 32)) G s.k (130 :: Ino.span (max f 72) t) = none → (Ino.thr1 (wOps F nb V) true f t (fnd F) 72 (G 130) s).2.1 = 28) ∧
    (∀ G' k', Ino.ensure (F.map (BitVec.ofNat 32)) G s.k (130 :: Ino.span (max f 72) t) = some (G', k') →
      ∃ b', Ino.thr1 (wOps F nb V) true f t (fnd F) 72 (G 130) s = (G' 130, 0, ⟨b', k', s.G, s.P ++ putIf True (G' 130) (Ino.tab2 G') (Ino.tab2 G), s.X ++ spots G G' (Ino.span (max f 72) t)⟩)) := by
  have := thr_ens F hF nb V f t 72 130 Ino.tab2 G s (by omega) (by omega) (fun G => by simp [Ino.tab2]) (fun G j _ h2 hj => by rw [tab2_get G j hj, if_pos (by omega)]) (fun G1 G2 h j hj => by
    by_cases h64 : j < 64
    · rw [tab2_get G1 j h64, tab2_get G2 j h64]
      by_cases h56 : j < 56
      · rw [if_pos h56, if_pos h56, h (72 + j) hj (by omega)]
      · rw [if_neg h56, if_neg h56]
    · rw [List.getElem?_eq_none (by simp [Ino.tab2]; omega), List.getElem?_eq_none (by simp [Ino.tab2]; omega)]) hok.t0 hok.t1 (by omega)
  rw [show min t (72 + 64) = t by omega] at this
  simpa [putIf, spots] using this

theorem TabOk.upd {nb : Nat} {V : Nat → By} {G H : Ino.Gs} (h : TabOk nb V G) (he : ∀ p, 8 ≤ p → H p = G p) : TabOk nb V H := by
  have e1 : Ino.tab1 H = Ino.tab1 G := Ino.tab1_eq.2 fun p h1 _ => he p h1
  have e2 : Ino.tab2 H = Ino.tab2 G := Ino.tab2_eq.2 fun p h1 _ => he p (by omega)
  have e3 : Ino.tabd H = Ino.tabd G := Ino.tabd_eq (he 130 (by omega))
  refine ⟨?_, ?_, ?_, ?_, ?_, ?_⟩
  · rw [he 128 (by omega), e1]; exact h.o0
  · rw [he 128 (by omega), e1]; exact h.o1
  · rw [he 130 (by omega), e2]; exact h.t0
  · rw [he 130 (by omega), e2]; exact h.t1
  · rw [he 129 (by omega), e3]; exact h.d0
  · rw [he 129 (by omega), e3]; exact h.d1

theorem dbl_ens (F : List Nat) (hF : ∀ x ∈ F.map (BitVec.ofNat 32), x ≠ 0) (nb : Nat) (V : Nat → By) (f t : Nat) (G : Ino.Gs) (s : WS) (ht0 : G 130 = 0 → Ino.tab2 G = Ino.zT) (ht1 : G 130 ≠ 0 → (G 130).toNat < nb ∧ tabOf (V (G 130).toNat) = Ino.tab2 G) (hd0 : G 129 = 0 → Ino.tabd G = Ino.zT) (hd1 : G 129 ≠ 0 → (G 129).toNat < nb ∧ tabOf (V (G 129).toNat) = Ino.tabd G) (hc : 72 < t) (ht : t ≤ 128) (hft : f < t) :
    (Ino.ensure (F.map (BitVec.ofNat 32)) G s.k (129 :: 130 :: Ino.span (max f 72) t) = none → (Ino.thr2 (wOps F nb V) true f t (fnd F) 72 (G 129) s).2.1 = 28) ∧
    (∀ G' k', Ino.ensure (F.map (BitVec.ofNat 32)) G s.k (129 :: 130 :: Ino.span (max f 72) t) = some (G', k') →
      ∃ b', Ino.thr2 (wOps F nb V) true f t (fnd F) 72 (G 129) s = (G' 129, 0, ⟨b', k', s.G, s.P ++ putIf True (G' 130) (Ino.tab2 G') (Ino.tab2 G) ++ putIf True (G' 129) (Ino.tabd G') (Ino.tabd G), s.X ++ spots G G' (Ino.span (max f 72) t)⟩)) := by
  obtain ⟨o1, o2⟩ := opn_ens F nb V G 129 (Ino.tabd G) s hd0 hd1
  have happ := Ino.ensure_app (F.map (BitVec.ofNat 32)) [129] (130 :: Ino.span (max f 72) t) G s.k
  rw [List.singleton_append] at happ
  have hnh : ¬ (G 129 = 0 ∧ (true : Bool) = false) := fun h => by cases h.2
  cases he : Ino.ensure (F.map (BitVec.ofNat 32)) G s.k [129] with
  | none =>
    rw [he] at happ
    rw [happ]
    refine ⟨fun _ => ?_, (fun G' k' h => by cases h)⟩
    obtain ⟨s', ho⟩ := o1 he
    show (Ino.thr _ true _ (G 129) s).2.1 = 28
    rw [Ino.thr_open hnh ho (by decide)]
  | some x =>
    obtain ⟨G1, k1⟩ := x
    rw [he] at happ
    have happ : Ino.ensure (F.map (BitVec.ofNat 32)) G s.k (129 :: 130 :: Ino.span (max f 72) t) = Ino.ensure (F.map (BitVec.ofNat 32)) G1 k1 (130 :: Ino.span (max f 72) t) := happ
    obtain ⟨b1, ho⟩ := o2 G1 k1 he
    have hG1 : ∀ p, p ≠ 129 → G1 p = G p := fun p hp => ensure_else he p (by simpa using hp)
    have e2 : Ino.tab2 G1 = Ino.tab2 G := Ino.tab2_eq.2 fun p _ h2 => hG1 p (by omega)
    have h130 : G1 130 = G 130 := hG1 130 (by omega)
    have t2 := thr_ens F hF nb V f t 72 130 Ino.tab2 G1 ⟨b1, k1, s.G, s.P, s.X⟩ (by omega) (by omega) (fun G => by simp [Ino.tab2]) (fun G j _ h2 hj => by rw [tab2_get G j hj, if_pos (by omega)]) (fun G1 G2 h j hj => by
      by_cases h64 : j < 64
      · rw [tab2_get G1 j h64, tab2_get G2 j h64]
        by_cases h56 : j < 56
        · rw [if_pos h56, if_pos h56, h (72 + j) hj (by omega)]
        · rw [if_neg h56, if_neg h56]
      · rw [List.getElem?_eq_none (by simp [Ino.tab2]; omega), List.getElem?_eq_none (by simp [Ino.tab2]; omega)]) (by rw [h130, e2]; exact ht0) (by rw [h130, e2]; exact ht1) (by omega)
    rw [show min t (72 + 64) = t by omega, h130] at t2
    obtain ⟨l1, l2⟩ := t2
    have hlevE : ∀ n' er s', Ino.thr1 (wOps F nb V) true f t (fnd F) 72 (G 130) ⟨b1, k1, s.G, s.P, s.X⟩ = (n', er, s') → (er ≠ 0 → (Ino.lev (Ino.thr1 (wOps F nb V) true f t (fnd F)) f t 72 64 (Ino.tabd G) 0 ⟨b1, k1, s.G, s.P, s.X⟩).2 = (er, s')) ∧ (er = 0 → Ino.lev (Ino.thr1 (wOps F nb V) true f t (fnd F)) f t 72 64 (Ino.tabd G) 0 ⟨b1, k1, s.G, s.P, s.X⟩ = (n' :: List.replicate 63 0#32, 0, s')) := by
      intro n' er s' hx
      have hcc : ¬ (72 + 0 * 64 + 64 ≤ f ∨ t ≤ 72 + 0 * 64) := by omega
      unfold Ino.tabd
      refine ⟨fun h => ?_, fun h => ?_⟩
      · rw [Ino.lev_fail (n' := n') (er := er) (s' := s') hcc hx h]
      · subst h
        rw [Ino.lev_step (n' := n') (s' := s') hcc hx, lev_pass _ _ _ (fun j hj => by omega)]
    rw [happ]
    refine ⟨fun h => ?_, fun G' k' h => ?_⟩
    · have h28 := l1 h
      cases hx : Ino.thr1 (wOps F nb V) true f t (fnd F) 72 (G 130) ⟨b1, k1, s.G, s.P, s.X⟩ with
      | mk n' r =>
        obtain ⟨er, s2⟩ := r
        rw [hx] at h28
        have h28 : er = 28 := h28
        subst h28
        have hl := (hlevE n' 28 s2 hx).1 (by decide)
        show (Ino.thr _ true _ (G 129) s).2.1 = 28
        cases hy : Ino.lev (Ino.thr1 (wOps F nb V) true f t (fnd F)) f t 72 64 (Ino.tabd G) 0 ⟨b1, k1, s.G, s.P, s.X⟩ with
        | mk l r =>
          rw [hy] at hl
          obtain rfl : r = (28, s2) := hl
          rw [Ino.thr_level hnh ho hy (by decide)]
    · obtain ⟨b', hx⟩ := l2 G' k' h
      have hlv := (hlevE _ 0 _ hx).2 rfl
      obtain ⟨n1, _⟩ := ensure_nz hF h
      have h129 : G' 129 = G1 129 := ensure_else h 129 (by simp [Ino.mem_span]; omega)
      have hnow : G' 130 :: List.replicate 63 0#32 = Ino.tabd G' := rfl
      rw [hnow] at hlv
      have hnz : Ino.tabd G' ≠ Ino.zT := fun e => n1 130 List.mem_cons_self (by
        have : (Ino.tabd G')[0]? = Ino.zT[0]? := by rw [e]
        simpa [Ino.tabd, Ino.zT] using this)
      have hsp : (Ino.span (max f 72) t).map (fun p => (p, G' p, decide (G1 p = 0))) = spots G G' (Ino.span (max f 72) t) := List.map_congr_left fun p hp => by
        have := Ino.mem_span.1 hp
        rw [hG1 p (by omega)]
      rw [hsp, e2] at hlv
      have hpi : (if Ino.tab2 G' = Ino.tab2 G then [] else [((G' 130).toNat, Ino.tabB (Ino.tab2 G'))]) = putIf True (G' 130) (Ino.tab2 G') (Ino.tab2 G) := by unfold putIf; rw [if_pos trivial]
      rw [hpi] at hlv
      by_cases hw : Ino.tabd G' = Ino.tabd G
      · refine ⟨b', ?_⟩
        rw [show putIf True (G' 129) (Ino.tabd G') (Ino.tabd G) = [] by unfold putIf; rw [if_pos trivial, if_pos hw], List.append_nil, h129]
        have := Ino.thr_same (lv := fun l s => Ino.lev (Ino.thr1 (wOps F nb V) true f t (fnd F)) f t 72 64 l 0 s) hnh ho hlv hnz hw
        exact this
      · refine ⟨b' + 1, ?_⟩
        rw [show putIf True (G' 129) (Ino.tabd G') (Ino.tabd G) = [((G' 129).toNat, Ino.tabB (Ino.tabd G'))] by unfold putIf; rw [if_pos trivial, if_neg hw], h129]
        have := Ino.thr_put (lv := fun l s => Ino.lev (Ino.thr1 (wOps F nb V) true f t (fnd F)) f t 72 64 l 0 s) hnh ho hlv hnz hw
        exact this

end Go.Proofs.YtebdgcoandfocaaGreatDoor

/-
  A walk that plans a write is ensure. Pure: no program.
-/
namespace Go.Proofs.YtebdgcoandfocaaGreatDoor
open Go.RowKit

def nums (G : Ino.Gs) : List (BitVec 32) := (List.range 8).map G ++ [G 128, G 129]
theorem nums_length (G : Ino.Gs) : (nums G).length = 10 := by simp [nums]

theorem stB (F : List Nat) (hF : ∀ x ∈ F.map (BitVec.ofNat 32), x ≠ 0) (nb : Nat) (V : Nat → By) (f t : Nat) (G : Ino.Gs) (s : WS) (hok : TabOk nb V G) (ht : t ≤ 128) (hft : f < t) :
    (Ino.ensure (F.map (BitVec.ofNat 32)) G s.k (if f < 72 ∧ 8 < t then 128 :: Ino.span (max f 8) (min t 72) else []) = none → (Ino.lev (Ino.thr1 (wOps F nb V) true f t (fnd F)) f t 8 64 [G 128] 0 s).2.1 = 28) ∧
    (∀ G' k', Ino.ensure (F.map (BitVec.ofNat 32)) G s.k (if f < 72 ∧ 8 < t then 128 :: Ino.span (max f 8) (min t 72) else []) = some (G', k') →
      ∃ b', Ino.lev (Ino.thr1 (wOps F nb V) true f t (fnd F)) f t 8 64 [G 128] 0 s = ([G' 128], 0, ⟨b', k', s.G, s.P ++ putIf (f < 72 ∧ 8 < t) (G' 128) (Ino.tab1 G') (Ino.tab1 G), s.X ++ spots G G' (if f < 72 ∧ 8 < t then Ino.span (max f 8) (min t 72) else [])⟩)) := by
  by_cases hc : f < 72 ∧ 8 < t
  · have hcc : ¬ (8 + 0 * 64 + 64 ≤ f ∨ t ≤ 8 + 0 * 64) := by omega
    rw [if_pos hc, if_pos hc]
    obtain ⟨h1, h2⟩ := one_ens F hF nb V f t G s hok hc hft ht
    refine ⟨fun h => ?_, fun G' k' h => ?_⟩
    · have h28 := h1 h
      cases hx : Ino.thr1 (wOps F nb V) true f t (fnd F) 8 (G 128) s with
      | mk n' r =>
        obtain ⟨er, s'⟩ := r
        rw [hx] at h28
        have h28 : er = 28 := h28
        subst h28
        rw [Ino.lev_fail (n' := n') (er := 28) (s' := s') hcc hx (by decide)]
    · obtain ⟨b', hx⟩ := h2 G' k' h
      refine ⟨b', ?_⟩
      rw [Ino.lev_step hcc hx, Ino.lev_nil]
      unfold putIf
      rw [if_pos trivial, if_pos hc]
  · rw [if_neg hc, if_neg hc, Ino.ensure_nil]
    refine ⟨(fun h => by cases h), fun G' k' h => ?_⟩
    obtain ⟨rfl, rfl⟩ : G = G' ∧ s.k = k' := by simpa using h
    refine ⟨s.b, ?_⟩
    rw [Ino.lev_skip (by omega), Ino.lev_nil]
    unfold putIf spots
    rw [if_neg hc]
    simp

theorem stC (F : List Nat) (hF : ∀ x ∈ F.map (BitVec.ofNat 32), x ≠ 0) (nb : Nat) (V : Nat → By) (f t : Nat) (G : Ino.Gs) (s : WS) (ht0 : G 130 = 0 → Ino.tab2 G = Ino.zT) (ht1 : G 130 ≠ 0 → (G 130).toNat < nb ∧ tabOf (V (G 130).toNat) = Ino.tab2 G) (hd0 : G 129 = 0 → Ino.tabd G = Ino.zT) (hd1 : G 129 ≠ 0 → (G 129).toNat < nb ∧ tabOf (V (G 129).toNat) = Ino.tabd G) (ht : t ≤ 128) (hft : f < t) :
    (Ino.ensure (F.map (BitVec.ofNat 32)) G s.k (if 72 < t then 129 :: 130 :: Ino.span (max f 72) t else []) = none → (Ino.lev (Ino.thr2 (wOps F nb V) true f t (fnd F)) f t 72 4096 [G 129] 0 s).2.1 = 28) ∧
    (∀ G' k', Ino.ensure (F.map (BitVec.ofNat 32)) G s.k (if 72 < t then 129 :: 130 :: Ino.span (max f 72) t else []) = some (G', k') →
      ∃ b', Ino.lev (Ino.thr2 (wOps F nb V) true f t (fnd F)) f t 72 4096 [G 129] 0 s = ([G' 129], 0, ⟨b', k', s.G, s.P ++ putIf (72 < t) (G' 130) (Ino.tab2 G') (Ino.tab2 G) ++ putIf (72 < t) (G' 129) (Ino.tabd G') (Ino.tabd G), s.X ++ spots G G' (if 72 < t then Ino.span (max f 72) t else [])⟩)) := by
  by_cases hc : 72 < t
  · have hcc : ¬ (72 + 0 * 4096 + 4096 ≤ f ∨ t ≤ 72 + 0 * 4096) := by omega
    rw [if_pos hc, if_pos hc]
    obtain ⟨h1, h2⟩ := dbl_ens F hF nb V f t G s ht0 ht1 hd0 hd1 hc ht hft
    refine ⟨fun h => ?_, fun G' k' h => ?_⟩
    · have h28 := h1 h
      cases hx : Ino.thr2 (wOps F nb V) true f t (fnd F) 72 (G 129) s with
      | mk n' r =>
        obtain ⟨er, s'⟩ := r
        rw [hx] at h28
        have h28 : er = 28 := h28
        subst h28
        rw [Ino.lev_fail (n' := n') (er := 28) (s' := s') hcc hx (by decide)]
    · obtain ⟨b', hx⟩ := h2 G' k' h
      refine ⟨b', ?_⟩
      rw [Ino.lev_step hcc hx, Ino.lev_nil]
      unfold putIf
      rw [if_pos trivial, if_pos trivial, if_pos hc, if_pos hc]
  · rw [if_neg hc, if_neg hc, Ino.ensure_nil]
    refine ⟨(fun h => by cases h), fun G' k' h => ?_⟩
    obtain ⟨rfl, rfl⟩ : G = G' ∧ s.k = k' := by simpa using h
    refine ⟨s.b, ?_⟩
    rw [Ino.lev_skip (by omega), Ino.lev_nil]
    unfold putIf spots
    rw [if_neg hc, if_neg hc]
    simp

def wPuts (f t : Nat) (G G' : Ino.Gs) : List (Nat × By) := putIf (f < 72 ∧ 8 < t) (G' 128) (Ino.tab1 G') (Ino.tab1 G) ++ putIf (72 < t) (G' 130) (Ino.tab2 G') (Ino.tab2 G) ++ putIf (72 < t) (G' 129) (Ino.tabd G') (Ino.tabd G)
def wSpan (f t : Nat) : List Nat := Ino.span f (min t 8) ++ (if f < 72 ∧ 8 < t then Ino.span (max f 8) (min t 72) else []) ++ (if 72 < t then Ino.span (max f 72) t else [])

theorem ovr_ens (F : List Nat) (hF : ∀ x ∈ F.map (BitVec.ofNat 32), x ≠ 0) (nb : Nat) (V : Nat → By) (f t : Nat) (G : Ino.Gs) (s : WS) (hok : TabOk nb V G) (ht : t ≤ 128) (hft : f < t) :
    (Ino.ensure (F.map (BitVec.ofNat 32)) G s.k (Ino.idx f t) = none → (Ino.ovr (wOps F nb V) true f t (fnd F) (nums G) s).2.1 = 28) ∧
    (∀ G' k', Ino.ensure (F.map (BitVec.ofNat 32)) G s.k (Ino.idx f t) = some (G', k') →
      ∃ b', Ino.ovr (wOps F nb V) true f t (fnd F) (nums G) s = (nums G', 0, ⟨b', k', s.G, s.P ++ wPuts f t G G', s.X ++ spots G G' (wSpan f t)⟩)) := by
  have n8 : (nums G).take 8 = (List.range 8).map G := by unfold nums; rw [List.take_left' (by simp)]
  have n9 : ((nums G).drop 8).take 1 = [G 128] := by unfold nums; rw [List.drop_left' (by simp)]; rfl
  have n10 : (nums G).drop 9 = [G 129] := by unfold nums; rfl
  obtain ⟨a1, a2⟩ := lev_ens F f t 0 ((List.range 8).map G) 0 s G (by
    intro j n hn _ _
    rw [List.getElem?_map] at hn
    obtain ⟨q, hq, rfl⟩ := Option.map_eq_some_iff.1 hn
    have : q = j := by
      obtain ⟨h1, h2⟩ := List.getElem?_eq_some_iff.1 hq
      simpa using h2.symm
    rw [this]; simp)
  simp only [List.length_map, List.length_range, Nat.zero_add, Nat.max_zero] at a1 a2
  have hsp : Ino.idx f t = Ino.span f (min t 8) ++ ((if f < 72 ∧ 8 < t then 128 :: Ino.span (max f 8) (min t 72) else []) ++ (if 72 < t then 129 :: 130 :: Ino.span (max f 72) t else [])) := by unfold Ino.idx; rw [List.append_assoc]
  rw [hsp, Ino.ensure_app]
  cases hA : Ino.ensure (F.map (BitVec.ofNat 32)) G s.k (Ino.span f (min t 8)) with
  | none =>
    refine ⟨fun _ => ?_, (fun G' k' h => by cases h)⟩
    have h28 := a1 hA
    unfold Ino.ovr
    dsimp only
    rw [n8, if_pos (by rw [h28]; decide)]
    exact h28
  | some x =>
    obtain ⟨G1, k1⟩ := x
    obtain ⟨l1, b1, e1, hl1, hj1⟩ := a2 G1 k1 hA
    have g1 : ∀ p, 8 ≤ p → G1 p = G p := fun p hp => ensure_else hA p (fun h => by have := Ino.mem_span.1 h; omega)
    have hl : l1 = (List.range 8).map G1 := by
      apply List.ext_getElem?
      intro j
      by_cases hj : j < 8
      · rw [hj1 j (G j) (by simp [hj]), List.getElem?_map, List.getElem?_range hj]
        by_cases hc : f ≤ 0 + j ∧ 0 + j < t
        · simp at hc ⊢; intro h1; omega
        · have : G1 j = G j := ensure_else hA j (fun h => by have := Ino.mem_span.1 h; omega)
          simp [this]
      · rw [List.getElem?_eq_none (by rw [hl1]; omega), List.getElem?_eq_none (by simp; omega)]
    subst hl
    have hok1 := hok.upd g1
    obtain ⟨c1, c2⟩ := stB F hF nb V f t G1 ⟨b1, k1, s.G, s.P, s.X ++ (Ino.span f (min t 8)).map fun p => (p, G1 p, decide (G p = 0))⟩ hok1 ht hft
    rw [g1 128 (by omega)] at c1 c2
    show (Ino.ensure _ G1 k1 _ = none → _) ∧ (∀ G' k', Ino.ensure _ G1 k1 _ = some (G', k') → _)
    rw [Ino.ensure_app]
    cases hB : Ino.ensure (F.map (BitVec.ofNat 32)) G1 k1 (if f < 72 ∧ 8 < t then 128 :: Ino.span (max f 8) (min t 72) else []) with
    | none =>
      refine ⟨fun _ => ?_, (fun G' k' h => by cases h)⟩
      have h28 := c1 hB
      unfold Ino.ovr
      dsimp only
      rw [n8, e1, n9]
      dsimp only
      rw [if_neg (by decide), if_pos (by rw [h28]; decide)]
      exact h28
    | some x =>
      obtain ⟨G2, k2⟩ := x
      obtain ⟨b2, e2⟩ := c2 G2 k2 hB
      have g2 : ∀ p, 72 ≤ p → p ≠ 128 → G2 p = G p := fun p hp hne => (ensure_else hB p (fun h => by
        split at h
        · rcases List.mem_cons.1 h with e | h
          · exact hne e
          · have := Ino.mem_span.1 h; omega
        · cases h)).trans (g1 p (by omega))
      have et2 : Ino.tab2 G2 = Ino.tab2 G := Ino.tab2_eq.2 fun p h1 h2 => g2 p h1 (by omega)
      have etd : Ino.tabd G2 = Ino.tabd G := Ino.tabd_eq (g2 130 (by omega) (by omega))
      obtain ⟨d1, d2⟩ := stC F hF nb V f t G2 ⟨b2, k2, s.G, s.P ++ putIf (f < 72 ∧ 8 < t) (G2 128) (Ino.tab1 G2) (Ino.tab1 G1), (s.X ++ (Ino.span f (min t 8)).map fun p => (p, G1 p, decide (G p = 0))) ++ spots G1 G2 (if f < 72 ∧ 8 < t then Ino.span (max f 8) (min t 72) else [])⟩ (by rw [g2 130 (by omega) (by omega), et2]; exact hok.t0) (by rw [g2 130 (by omega) (by omega), et2]; exact hok.t1) (by rw [g2 129 (by omega) (by omega), etd]; exact hok.d0) (by rw [g2 129 (by omega) (by omega), etd]; exact hok.d1) ht hft
      rw [g2 129 (by omega) (by omega)] at d1 d2
      show (Ino.ensure _ G2 k2 _ = none → _) ∧ (∀ G' k', Ino.ensure _ G2 k2 _ = some (G', k') → _)
      refine ⟨fun h => ?_, fun G' k' h => ?_⟩
      · have h28 := d1 h
        unfold Ino.ovr
        dsimp only
        rw [n8, e1, n9, n10]
        dsimp only
        rw [if_neg (by decide), e2]
        dsimp only
        rw [if_neg (by decide), if_pos (by rw [h28]; decide)]
        exact h28
      · obtain ⟨b3, e3⟩ := d2 G' k' h
        have g3 : ∀ p, (72 ≤ p → ¬ (72 < t)) ∨ (p < 72 ∨ p = 128) → G' p = G2 p := fun p hp => ensure_else h p (fun hh => by
          split at hh
          · rename_i hc
            rcases List.mem_cons.1 hh with e | hh
            · rcases hp with hp | hp
              · exact hp (by omega) hc
              · omega
            · rcases List.mem_cons.1 hh with e | hh
              · rcases hp with hp | hp
                · exact hp (by omega) hc
                · omega
              · have := Ino.mem_span.1 hh
                rcases hp with hp | hp
                · exact hp (by omega) hc
                · omega
          · cases hh)
        have g21 : ∀ p, p < 8 → G2 p = G1 p := fun p hp => ensure_else hB p (fun hh => by
          split at hh
          · rcases List.mem_cons.1 hh with e | hh
            · omega
            · have := Ino.mem_span.1 hh; omega
          · cases hh)
        refine ⟨b3, ?_⟩
        unfold Ino.ovr
        dsimp only
        rw [n8, e1, n9, n10]
        dsimp only
        rw [if_neg (by decide), e2]
        dsimp only
        rw [if_neg (by decide), e3]
        dsimp only
        rw [if_neg (by decide)]
        have q1 : (List.range 8).map G1 ++ [G2 128] ++ [G' 129] = nums G' := by
          unfold nums
          rw [List.append_assoc]
          congr 1
          · refine List.map_congr_left fun p hp => ?_
            have := List.mem_range.1 hp
            rw [g3 p (.inr (.inl (by omega))), g21 p this]
          · rw [g3 128 (.inr (.inr rfl))]; rfl
        have q2 : Ino.tab1 G2 = Ino.tab1 G' := Ino.tab1_eq.2 fun p _ h2 => (g3 p (.inr (.inl h2))).symm
        have q3 : Ino.tab1 G1 = Ino.tab1 G := Ino.tab1_eq.2 fun p h1 _ => g1 p h1
        have q4 : G2 128 = G' 128 := (g3 128 (.inr (.inr rfl))).symm
        rw [q1, q2, q3, q4, et2, etd]
        have x1 : (Ino.span f (min t 8)).map (fun p => (p, G1 p, decide (G p = 0))) = spots G G' (Ino.span f (min t 8)) := List.map_congr_left fun p hp => by
          have := Ino.mem_span.1 hp
          rw [g3 p (.inr (.inl (by omega))), g21 p (by omega)]
        have x2 : spots G1 G2 (if f < 72 ∧ 8 < t then Ino.span (max f 8) (min t 72) else []) = spots G G' (if f < 72 ∧ 8 < t then Ino.span (max f 8) (min t 72) else []) := spots_congr fun p hp => by
          split at hp
          · have := Ino.mem_span.1 hp
            exact ⟨g1 p (by omega), (g3 p (.inr (.inl (by omega)))).symm⟩
          · cases hp
        have x3 : spots G2 G' (if 72 < t then Ino.span (max f 72) t else []) = spots G G' (if 72 < t then Ino.span (max f 72) t else []) := spots_congr fun p hp => by
          split at hp
          · have := Ino.mem_span.1 hp
            exact ⟨g2 p (by omega) (by omega), rfl⟩
          · cases hp
        rw [x1, x2, x3]
        unfold wPuts wSpan spots
        simp only [List.map_append, List.append_assoc]

end Go.Proofs.YtebdgcoandfocaaGreatDoor

/-
  Package inode: a change of one block is done.
-/
namespace Go.Proofs.YtebdgcoandfocaaGreatDoor
open Go.RowKit Go.Maps Go.Sort Go.Shelf

/-- One put that lies in a row. -/
structure Put1 (w : World) (g cap r dg : Nat) (D : By) : Prop where
  row : ∃ cur, w.heap[g]? = some (.cells cur 143 (0, 0)) ∧ cur[0]? = some (.int .i64 (r : Nat)) ∧ cur[1]? = some (.slice (some ⟨dg, 0, none⟩) 512 512)
  dat : w.heap[dg]? = some (.cells (D.map u8v).toArray 5 (0, 0))
theorem Put1.c0 {w : World} {g cap r dg : Nat} {D : By} (h : Put1 w g cap r dg D) : w.cell? ⟨g, 0, none⟩ = some (.int .i64 (r : Nat)) := by
  obtain ⟨cur, h1, h2, _⟩ := h.row; rw [cellOf h1 0]; exact h2
theorem Put1.c1 {w : World} {g cap r dg : Nat} {D : By} (h : Put1 w g cap r dg D) : w.cell? ⟨g, 1, none⟩ = some (.slice (some ⟨dg, 0, none⟩) 512 512) := by
  obtain ⟨cur, h1, _, h2⟩ := h.row; rw [cellOf h1 1]; exact h2
theorem Put1.below {w w' : World} {g cap r dg : Nat} {D : By} (h : Put1 w g cap r dg D) (hb : Below w.heap.size w w') : Put1 w' g cap r dg D := by
  obtain ⟨cur, h1, h2, h3⟩ := h.row
  exact ⟨⟨cur, (hb.block g (Array.getElem?_eq_some_iff.1 h1).1).trans h1, h2, h3⟩, (hb.block dg (Array.getElem?_eq_some_iff.1 h.dat).1).trans h.dat⟩
theorem Put1.cache {w0 w w' : World} {g cap r dg : Nat} {D : By} (h : Put1 w g cap r dg D) (hb : But (Cmn w0 w) w w') : Put1 w' g cap r dg D := by
  obtain ⟨cur, h1, h2, h3⟩ := h.row
  exact ⟨⟨cur, (hb.block g (Array.getElem?_eq_some_iff.1 h1).1 (cmn_not h1 (cTag_not (by decide) (by decide) (by decide)))).trans h1, h2, h3⟩, (hb.block dg (Array.getElem?_eq_some_iff.1 h.dat).1 (cmn_not h.dat (cTag_not (by decide) (by decide) (by decide)))).trans h.dat⟩

/-- A cache in which one block was put. -/
def pinned1 (A : AC) (x : Nat) (d : By) : AC := A.meet x d (fun e => { e with pins := e.pins + 1 })

theorem cmn_after {w0 w w1 w2 : World} (hb : Below w.heap.size w w1) (h : But (Cmn w0 w1) w1 w2) : But (Cmn w0 w) w w2 :=
  (But.of_below (S := Cmn w0 w) hb).after h fun i hi hc => ⟨hc.1, fun cs t fr hk => hc.2 cs t fr ((hb.block i hi).trans hk)⟩
theorem cmn_trans {w0 w w1 w2 : World} (h1 : But (Cmn w0 w) w w1) (h2 : But (Cmn w0 w1) w1 w2) : But (Cmn w0 w) w w2 := by
  refine h1.after h2 fun i hi hc => ⟨hc.1, fun cs t fr hk => ?_⟩
  apply Classical.byContradiction
  intro hn
  have := h1.block i hi (fun hc' => hn (hc'.2 cs t fr hk))
  exact hn (hc.2 cs t fr (this.trans hk))

set_option maxRecDepth 8000 in
set_option maxHeartbeats 1000000 in
theorem unpin_one (w0 w : World) (wb c g cap r dg b : Nat) (cs : List Value) (t : TypeId) (D : By) (vs : VS) (A : AC) (hw : BlkAt w wb cs t) (h0 : cs[0]? = some (ep c)) (hP : Put1 w g cap r dg D) (hC : CW w0 w c vs A b) (he : ∃ e ∈ A.L, e.block = r ∧ 0 < e.pins ∧ e.pins < 1000000) :
    Calls Tryz.prog 86 #[.pointer (some ⟨wb, 0, none⟩), .slice (some ⟨g, 0, none⟩) 1 cap] w fun e w' => e = .returned (.tuple #[]) ∧ CW w0 w' c vs (A.unpin r) (b + 1) ∧ But (Cmn w0 w) w w' := by
  have p0 := hP.c0
  have p1 := hP.c1
  have HW : Hid (BlkAt w wb cs t ∧ Put1 w g cap r dg D ∧ CW w0 w c vs A b) := ⟨hw, hP, hC⟩
  clear hw hP hC
  go_enter Tryz.func86, Tryz.ntmps86
  go_wp2_with fail
  go_loopw [8] (fun ii wr => ∃ i : Nat, i ≤ 1 ∧ ii = .int .i64 i ∧ Hid ((i = 0 ∧ wr = w) ∨ (i = 1 ∧ CW w0 wr c vs (A.unpin r) (b + 1) ∧ But (Cmn w0 w) w wr))) (fun ii _ => 1 - (intOf ii).toNat)
  case atStart => exact ⟨0, by omega, rfl, .inl ⟨rfl, rfl⟩⟩
  case round =>
    obtain ⟨i, hi, rfl, HI⟩ := hrel
    by_cases hi0 : i = 0
    · subst hi0
      obtain rfl : wr = w := by
        rcases HI.out with ⟨_, e⟩ | ⟨e, _⟩
        · exact e
        · cases e
      clear HI
      obtain ⟨w1, hw1⟩ : ∃ w1, w1 = wr.alloc (.cells #[.int .i64 (r : Nat), .slice (some ⟨dg, 0, none⟩) 512 512] 143) := ⟨_, rfl⟩
      have hB1 : Below wr.heap.size wr w1 := by rw [hw1]; exact (Below.refl _ wr).alloc (Nat.le_refl _) _
      have d0 := (HW.out.1.below hB1).cell h0
      have q0 : w1.cell? ⟨wr.heap.size, 0, none⟩ = some (.int .i64 (r : Nat)) := by rw [hw1, cellOf (heap_alloc_new wr _) 0]; rfl
      have cU := cw_unpin w0 w1.drew c vs A b r ((HW.out.2.2.below hB1).below ((Below.refl _ w1).drew)) he
      have H1 : Hid (Below wr.heap.size wr w1) := hB1
      clear hB1
      go_wp2_with fail
      rw [← hw1]
      clear hw1 p0 p1
      go_region_with (go_at_call 106; refine cU.mono ?_; rintro e w2 ⟨rfl, hC2, hb2⟩)
      all_goals
        have H2 : Hid (CW w0 w2 c vs (A.unpin r) (b + 1) ∧ But (Cmn w0 wr) wr w2) := ⟨hC2, cmn_after H1.out.drew hb2⟩
        clear cU hC2 hb2 d0 q0
        go_wp2
        exact ⟨⟨1, by omega, rfl, .inr ⟨rfl, H2.out⟩⟩, by simp [intOf]⟩
    · obtain rfl : i = 1 := by omega
      go_wp2
      go_end0
      rcases HI.out with ⟨e, _⟩ | ⟨_, h⟩
      · omega
      · exact ⟨rfl, h⟩

end Go.Proofs.YtebdgcoandfocaaGreatDoor

/-
  Package inode: putAll of one put.
-/
namespace Go.Proofs.YtebdgcoandfocaaGreatDoor
open Go.RowKit Go.Maps Go.Sort Go.Shelf

set_option maxRecDepth 8000 in
set_option maxHeartbeats 4000000 in
theorem putAll_one (w0 w : World) (wb c g cap r dg b : Nat) (cs : List Value) (t : TypeId) (D : By) (vs : VS) (A : AC) (hw : BlkAt w wb cs t) (ht : ¬ cTag t) (h0 : cs[0]? = some (ep c)) (h4 : cs[4]? = some (.slice (some ⟨g, 0, none⟩) 1 cap)) (hP : Put1 w g cap r dg D) (hDl : D.length = 512) (hC : CW w0 w c vs A b) (hb : b < 700000) (hr : r < nbOf vs.d.n) (hok : A.held r = true ∨ A.full = false) (hp : ∀ e ∈ A.L, e.pins < 1000000)
    (he1 : ∃ e ∈ (pinned1 A r (vs.cont r)).L, e.block = r ∧ e.dirty = false) (he2 : ∃ e ∈ ((pinned1 A r (vs.cont r)).put r D).L, e.block = r ∧ 0 < e.pins ∧ e.pins < 1000000) :
    Calls Tryz.prog 65 #[.pointer (some ⟨wb, 0, none⟩)] w fun e w' => e = .returned (.int .i64 0) ∧ CW w0 w' c vs (((pinned1 A r (vs.cont r)).put r D).unpin r) (b + 3) ∧ But (Cmn w0 w) w w' := by
  have d4 := hw.cell h4
  have p0 := hP.c0
  have p1 := hP.c1
  have HW : Hid (BlkAt w wb cs t ∧ Put1 w g cap r dg D ∧ CW w0 w c vs A b) := ⟨hw, hP, hC⟩
  clear hw hP hC
  go_enter Tryz.func65, Tryz.ntmps65
  go_wp2_with fail
  go_loopw [13] (fun ii wr => ∃ i : Nat, i ≤ 1 ∧ ii = .int .i64 i ∧ Hid ((i = 0 ∧ wr = w) ∨ (i = 1 ∧ CW w0 wr c vs (pinned1 A r (vs.cont r)) (b + 1) ∧ But (Cmn w0 w) w wr))) (fun ii _ => 1 - (intOf ii).toNat)
  case atStart => exact ⟨0, by omega, rfl, .inl ⟨rfl, rfl⟩⟩
  case round =>
    obtain ⟨i, hi, rfl, HI⟩ := hrel
    by_cases hi0 : i = 0
    · subst hi0
      obtain rfl : wr = w := by
        rcases HI.out with ⟨_, e⟩ | ⟨e, _⟩
        · exact e
        · cases e
      clear HI
      obtain ⟨w1, hw1⟩ : ∃ w1, w1 = wr.alloc (.cells #[.int .i64 (r : Nat), .slice (some ⟨dg, 0, none⟩) 512 512] 143) := ⟨_, rfl⟩
      have hB1 : Below wr.heap.size wr w1 := by rw [hw1]; exact (Below.refl _ wr).alloc (Nat.le_refl _) _
      have d0 := (HW.out.1.below hB1).cell h0
      have q0 : w1.cell? ⟨wr.heap.size, 0, none⟩ = some (.int .i64 (r : Nat)) := by rw [hw1, cellOf (heap_alloc_new wr _) 0]; rfl
      have cU := cw_pin w0 w1.drew c vs A b r ((HW.out.2.2.below hB1).below ((Below.refl _ w1).drew)) (by omega) hr hok hp
      have H1 : Hid (Below wr.heap.size wr w1) := hB1
      clear hB1
      go_wp2_with fail
      rw [← hw1]
      clear hw1 p0 p1
      go_region_with (go_at_call 85; refine cU.mono ?_; rintro e w2 ⟨rfl, hC2, hb2⟩)
      all_goals
        have H2 : Hid (CW w0 w2 c vs (pinned1 A r (vs.cont r)) (b + 1) ∧ But (Cmn w0 wr) wr w2) := ⟨hC2, cmn_after H1.out.drew hb2⟩
        clear cU hC2 hb2 d0 q0
        go_wp2
        exact ⟨⟨1, by omega, rfl, .inr ⟨rfl, H2.out⟩⟩, by simp [intOf]⟩
    · obtain rfl : i = 1 := by omega
      have H1 : Hid (CW w0 wr c vs (pinned1 A r (vs.cont r)) (b + 1) ∧ But (Cmn w0 w) w wr) := by
        rcases HI.out with ⟨e, _⟩ | ⟨_, h⟩
        · omega
        · exact h
      clear HI d4 p0 p1
      have hw1 := HW.out.1.cache H1.out.2 ht
      have d4 := hw1.cell h4
      have hP1 := HW.out.2.1.cache H1.out.2
      have p0 := hP1.c0
      have p1 := hP1.c1
      clear hw1 hP1
      obtain ⟨wa, rfl⟩ : ∃ wa, wa = wr := ⟨_, rfl⟩
      go_wp2_with fail
      go_loopw [42] (fun ii wr => ∃ i : Nat, i ≤ 1 ∧ ii = .int .i64 i ∧ Hid ((i = 0 ∧ wr = wa) ∨ (i = 1 ∧ CW w0 wr c vs ((pinned1 A r (vs.cont r)).put r D) (b + 2) ∧ But (Cmn w0 w) w wr))) (fun ii _ => 1 - (intOf ii).toNat)
      case atStart => exact ⟨0, by omega, rfl, .inl ⟨rfl, rfl⟩⟩
      case round =>
        obtain ⟨j, hj, rfl, HJ⟩ := hrel
        by_cases hj0 : j = 0
        · subst hj0
          obtain rfl : wr = wa := by
            rcases HJ.out with ⟨_, e⟩ | ⟨e, _⟩
            · exact e
            · cases e
          clear HJ d4
          obtain ⟨w1, hw1⟩ : ∃ w1, w1 = wr.alloc (.cells #[.int .i64 (r : Nat), .slice (some ⟨dg, 0, none⟩) 512 512] 143) := ⟨_, rfl⟩
          have hB1 : Below wr.heap.size wr w1 := by rw [hw1]; exact (Below.refl _ wr).alloc (Nat.le_refl _) _
          have d0 := ((HW.out.1.cache H1.out.2 ht).below hB1).cell h0
          have q0 : w1.cell? ⟨wr.heap.size, 0, none⟩ = some (.int .i64 (r : Nat)) := by rw [hw1, cellOf (heap_alloc_new wr _) 0]; rfl
          have q1 : w1.cell? ⟨wr.heap.size, 1, none⟩ = some (.slice (some ⟨dg, 0, none⟩) 512 512) := by rw [hw1, cellOf (heap_alloc_new wr _) 1]; rfl
          have hPb := (HW.out.2.1.cache H1.out.2).below hB1
          have cU := cw_put w0 w1.drew c vs (pinned1 A r (vs.cont r)) (b + 1) r (some ⟨dg, 0, none⟩) 512 D ((H1.out.1.below hB1).below ((Below.refl _ w1).drew)) (by omega) he1 (bytes_block hPb.dat) hDl (fun g' o' e => by
            cases e
            exact ⟨_, _, hPb.dat⟩)
          have HB1 : Hid (Below wr.heap.size wr w1) := hB1
          clear hB1 hPb
          go_wp2_with fail
          rw [← hw1]
          clear hw1 p0 p1
          go_region_with (go_at_call 87; refine cU.mono ?_; rintro e w2 ⟨rfl, hC2, hb2⟩)
          all_goals
            have H2 : Hid (CW w0 w2 c vs ((pinned1 A r (vs.cont r)).put r D) (b + 2) ∧ But (Cmn w0 w) w w2) := ⟨hC2, cmn_trans H1.out.2 (cmn_after HB1.out.drew hb2)⟩
            clear cU hC2 hb2 d0 q0 q1
            go_wp2
            go_roundw
            case rel => exact ⟨_, _, _, _, _, _, _, _, _, _, _, _, _, _, _, ⟨1, by omega, rfl, .inr ⟨rfl, H2.out⟩⟩, rfl⟩
            case measure => simp [intOf]
        · obtain rfl : j = 1 := by omega
          have H2 : Hid (CW w0 wr c vs ((pinned1 A r (vs.cont r)).put r D) (b + 2) ∧ But (Cmn w0 w) w wr) := by
            rcases HJ.out with ⟨e, _⟩ | ⟨_, h⟩
            · omega
            · exact h
          clear HJ d4 p0 p1
          have hw2 := HW.out.1.cache H2.out.2 ht
          have d4 := hw2.cell h4
          have cU := unpin_one w0 wr wb c g cap r dg (b + 2) cs t D vs _ hw2 h0 (HW.out.2.1.cache H2.out.2) H2.out.1 he2
          clear hw2
          go_wp2_with (go_at_call 86; refine cU.mono ?_; rintro e w3 ⟨rfl, hC3, hb3⟩; clear cU)
          go_ret
          exact ⟨rfl, hC3, cmn_trans H2.out.2 hb3⟩

end Go.Proofs.YtebdgcoandfocaaGreatDoor

/-
  Package inode: the puts of a change are put into the cache.
-/
namespace Go.Proofs.YtebdgcoandfocaaGreatDoor
open Go.RowKit Go.Maps Go.Sort Go.Shelf

/-- Puts that lie in a row. -/
structure PR (w : World) (lo : Nat) (P : List (Nat × By)) (sP : Value) (D : List (Nat × Nat)) : Prop where
  p : w.ownsRow lo 143 2 sP P.length (putC P D)
  dl : D.length = P.length
  d : ∀ (i : Nat) (p : Nat × By) (d : Nat × Nat), P[i]? = some p → D[i]? = some d → Bytes w (some ⟨d.1, 0, none⟩) p.2 ∧ p.2.length = 512 ∧ (∃ cs fr, w.heap[d.1]? = some (.cells cs 5 fr)) ∧ lo ≤ d.1
theorem CR.pr {w : World} {lo : Nat} {T G : List Nat} {P : List (Nat × By)} {sT sG sP : Value} {D : List (Nat × Nat)} (h : CR w lo T G P sT sG sP D) : PR w lo P sP D := ⟨h.p, h.dl, h.d⟩
theorem PR.but {w w' : World} {lo : Nat} {P : List (Nat × By)} {sP : Value} {D : List (Nat × Nat)} {S : Nat → Prop} (h : PR w lo P sP D) (hb : But S w w') (hS : ∀ k cs t fr, w.heap[k]? = some (.cells cs t fr) → t = 143 ∨ t = 5 → ¬ S k) : PR w' lo P sP D := by
  refine ⟨own_butI h.p hb (fun k cs _ hk => hS k cs 143 _ hk (.inl rfl)), h.dl, ?_⟩
  intro i p d h1 h2
  obtain ⟨h3, h4, ⟨cs, fr, h5⟩, h8⟩ := h.d i p d h1 h2
  obtain ⟨h6, h7⟩ := bytes_kept h3 ⟨cs, fr, h5⟩ hb (hS d.1 cs 5 fr h5 (.inr rfl))
  exact ⟨h6, h4, h7, h8⟩
theorem PR.cache {w0 w w' : World} {lo : Nat} {P : List (Nat × By)} {sP : Value} {D : List (Nat × Nat)} (h : PR w lo P sP D) (hb : But (Cmn w0 w) w w') : PR w' lo P sP D := h.but hb (fun k cs t fr hk e => cmn_not hk (by rcases e with rfl | rfl <;> exact cTag_not (by decide) (by decide) (by decide)))
theorem PR.below {w w' : World} {lo : Nat} {P : List (Nat × By)} {sP : Value} {D : List (Nat × Nat)} (h : PR w lo P sP D) (hb : Below w.heap.size w w') : PR w' lo P sP D := h.but (But.of_below (S := fun _ => False) hb) (fun _ _ _ _ _ _ h => h)
theorem PR.cells {w : World} {lo : Nat} {P : List (Nat × By)} {g cap i : Nat} {D : List (Nat × Nat)} (h : PR w lo P (.slice (some ⟨g, 0, none⟩) P.length cap) D) {p : Nat × By} {d : Nat × Nat} (hp : P[i]? = some p) (hd : D[i]? = some d) : w.cell? ⟨g, i * 2, none⟩ = some (.int .i64 (p.1 : Nat)) ∧ w.cell? ⟨g, i * 2 + 1, none⟩ = some (.slice (some ⟨d.1, 0, none⟩) 512 d.2) := by
  obtain ⟨c0, c1⟩ := putC_get hp hd
  have d0 := h.p.cells (g := g) rfl _ _ c0
  have d1 := h.p.cells (g := g) rfl _ _ c1
  rw [Addr.add_lit, Nat.zero_add, Nat.mul_comm] at d0
  rw [Addr.add_lit, Nat.zero_add, Nat.mul_comm] at d1
  exact ⟨d0, d1⟩

def cntB (P : List (Nat × By)) (x : Nat) : Nat := (P.map Prod.fst).count x
theorem cntB_snoc (P : List (Nat × By)) (p : Nat × By) : cntB (P ++ [p]) = updF (cntB P) p.1 (cntB P p.1 + 1) := by
  funext x
  unfold cntB updF
  rw [List.map_append, List.count_append]
  by_cases h : x = p.1
  · subst h; simp
  · rw [if_neg h]
    simp [Ne.symm h]
theorem cntB_cons (P : List (Nat × By)) (p : Nat × By) : cntB P = updF (cntB (p :: P)) p.1 (cntB (p :: P) p.1 - 1) := by
  funext x
  unfold cntB updF
  rw [List.map_cons]
  by_cases h : x = p.1
  · subst h; simp
  · rw [if_neg h]
    simp [Ne.symm h]
theorem cntB_le (P : List (Nat × By)) (x : Nat) : cntB P x ≤ P.length := by
  have := List.count_le_length (a := x) (l := P.map Prod.fst)
  simpa [cntB] using this
theorem cntB_pos {P : List (Nat × By)} {p : Nat × By} (h : p ∈ P) : 0 < cntB P p.1 := List.count_pos_iff.2 (List.mem_map.2 ⟨p, h, rfl⟩)
theorem putsV_snoc : ∀ (P : List (Nat × By)) (V : Nat → By) (p : Nat × By), Ino.putsV V (P ++ [p]) = updF (Ino.putsV V P) p.1 p.2
  | [], V, p => by funext x; rfl
  | q :: P, V, p => by
    rw [List.cons_append, Ino.putsV, Ino.putsV, putsV_snoc P]

set_option maxRecDepth 8000 in
set_option maxHeartbeats 1000000 in
theorem unpin_L (w0 w : World) (wb c g cap b lo : Nat) (cs : List Value) (t : TypeId) (vs : VS) (V : Nat → By) (P : List (Nat × By)) (D : List (Nat × Nat)) (hw : BlkAt w wb cs t) (ht : ¬ cTag t) (h0 : cs[0]? = some (ep c)) (hP : PR w lo P (.slice (some ⟨g, 0, none⟩) P.length cap) D) (hC : LC w0 w c vs V (cntB P) b) (hl : P.length ≤ 1000) :
    Calls Tryz.prog 86 #[.pointer (some ⟨wb, 0, none⟩), .slice (some ⟨g, 0, none⟩) P.length cap] w fun e w' => e = .returned (.tuple #[]) ∧ LC w0 w' c vs V (fun _ => 0) (b + P.length) ∧ But (Cmn w0 w) w w' := by
  obtain ⟨L, hLn⟩ : ∃ L, P.length = L := ⟨_, rfl⟩
  have HW := hide (⟨hw, hP, hC, hLn⟩ : _ ∧ _ ∧ _ ∧ _)
  rw [hLn] at hl ⊢
  clear hw hP hC hLn
  go_enter Tryz.func86, Tryz.ntmps86
  go_wp2_with fail
  go_loopw [8] (fun ii wr => ∃ i : Nat, i ≤ L ∧ ii = .int .i64 i ∧ Hid (LC w0 wr c vs V (cntB (P.drop i)) (b + i) ∧ But (Cmn w0 w) w wr)) (fun ii _ => L - (intOf ii).toNat)
  case atStart => exact ⟨0, Nat.zero_le _, rfl, HW.out.2.2.1, But.refl _ _⟩
  case round =>
    obtain ⟨i, hi, rfl, HI⟩ := hrel
    by_cases hlt : i < L
    · have hlti : (i : Int) < L := by omega
      have hLn := HW.out.2.2.2
      obtain ⟨p, hp⟩ : ∃ p, P[i]? = some p := ⟨_, List.getElem?_eq_getElem (by omega)⟩
      obtain ⟨d, hd⟩ : ∃ d, D[i]? = some d := ⟨_, List.getElem?_eq_getElem (by rw [HW.out.2.1.dl]; omega)⟩
      obtain ⟨p0, p1⟩ := (HW.out.2.1.cache HI.out.2).cells hp hd
      obtain ⟨w1, hw1⟩ : ∃ w1, w1 = wr.alloc (.cells #[.int .i64 (p.1 : Nat), .slice (some ⟨d.1, 0, none⟩) 512 d.2] 143) := ⟨_, rfl⟩
      have hB1 : Below wr.heap.size wr w1 := by rw [hw1]; exact (Below.refl _ wr).alloc (Nat.le_refl _) _
      have d0 := ((HW.out.1.cache HI.out.2 ht).below hB1).cell h0
      have q0 : w1.cell? ⟨wr.heap.size, 0, none⟩ = some (.int .i64 (p.1 : Nat)) := by rw [hw1, cellOf (heap_alloc_new wr _) 0]; rfl
      have hdr : P.drop i = p :: P.drop (i + 1) := by
        obtain ⟨h1, h2⟩ := List.getElem?_eq_some_iff.1 hp
        rw [List.drop_eq_getElem_cons h1, h2]
      have hpos : 0 < cntB (P.drop i) p.1 := by rw [hdr]; exact cntB_pos List.mem_cons_self
      have hle := cntB_le (P.drop i) p.1
      rw [List.length_drop] at hle
      have cU := lc_unpin w0 w1.drew c vs V _ (b + i) p.1 ((HI.out.1.below hB1).below ((Below.refl _ w1).drew)) hpos (by omega)
      rw [hdr, ← cntB_cons] at cU
      have H1 : Hid (Below wr.heap.size wr w1 ∧ But (Cmn w0 w) w wr) := ⟨hB1, HI.out.2⟩
      clear hB1 hdr hpos hle hp hd HI hLn
      go_wp2_with fail
      rw [← hw1]
      clear hw1 p0 p1
      go_region_with (go_at_call 106; refine cU.mono ?_; rintro e w2 ⟨rfl, hC2, hb2⟩)
      all_goals
        have H2 : Hid (LC w0 w2 c vs V (cntB (P.drop (i + 1))) (b + (i + 1)) ∧ But (Cmn w0 w) w w2) := ⟨hC2, cmn_trans H1.out.2 (cmn_after H1.out.1.drew hb2)⟩
        clear cU hC2 hb2 d0 q0
        go_wp2
        exact ⟨⟨i + 1, by omega, by go_num, H2.out⟩, by simp [intOf]; omega⟩
    · obtain rfl : i = L := by omega
      have H1 : Hid (LC w0 wr c vs V (fun _ => 0) (b + i) ∧ But (Cmn w0 w) w wr) := by
        refine ⟨?_, HI.out.2⟩
        have h1 := HI.out.1
        rw [List.drop_of_length_le (by rw [HW.out.2.2.2]; exact Nat.le_refl _)] at h1
        exact h1
      clear HI
      go_wp2
      go_end0
      exact ⟨rfl, H1.out⟩

set_option maxRecDepth 8000 in
set_option maxHeartbeats 4000000 in
theorem putAll_L (w0 w : World) (wb c g cap b lo : Nat) (cs : List Value) (t : TypeId) (vs : VS) (V : Nat → By) (P : List (Nat × By)) (D : List (Nat × Nat)) (hw : BlkAt w wb cs t) (ht : ¬ cTag t) (h0 : cs[0]? = some (ep c)) (h4 : cs[4]? = some (.slice (some ⟨g, 0, none⟩) P.length cap)) (hP : PR w lo P (.slice (some ⟨g, 0, none⟩) P.length cap) D) (hC : LC w0 w c vs V (fun _ => 0) b) (hl : P.length ≤ 1000) (hb : b + 3000 ≤ 800000) (hlt : ∀ q ∈ P, q.1 < nbOf vs.d.n) :
    Calls Tryz.prog 65 #[.pointer (some ⟨wb, 0, none⟩)] w fun e w' => e = .returned (.int .i64 0) ∧ LC w0 w' c vs (Ino.putsV V P) (fun _ => 0) (b + P.length + P.length + P.length) ∧ But (Cmn w0 w) w w' := by
  obtain ⟨L, hLn⟩ : ∃ L, P.length = L := ⟨_, rfl⟩
  have HW := hide (⟨hw, hP, hC, hLn, hlt⟩ : _ ∧ _ ∧ _ ∧ _ ∧ _)
  have d4 := hw.cell h4
  rw [hLn] at hl d4 h4 ⊢
  have HLN := hide hLn
  clear hw hP hC hLn hlt
  go_enter Tryz.func65, Tryz.ntmps65
  go_wp2_with fail
  go_loopw [13] (fun ii wr => ∃ i : Nat, i ≤ L ∧ ii = .int .i64 i ∧ Hid (LC w0 wr c vs V (cntB (P.take i)) (b + i) ∧ But (Cmn w0 w) w wr)) (fun ii _ => L - (intOf ii).toNat)
  case atStart => exact ⟨0, Nat.zero_le _, rfl, HW.out.2.2.1, But.refl _ _⟩
  case round =>
    obtain ⟨i, hi, rfl, HI⟩ := hrel
    by_cases hlt : i < L
    · have hlti : (i : Int) < L := by omega
      have hLn := HW.out.2.2.2.1
      obtain ⟨p, hp⟩ : ∃ p, P[i]? = some p := ⟨_, List.getElem?_eq_getElem (by omega)⟩
      obtain ⟨d, hd⟩ : ∃ d, D[i]? = some d := ⟨_, List.getElem?_eq_getElem (by rw [HW.out.2.1.dl]; omega)⟩
      obtain ⟨p0, p1⟩ := (HW.out.2.1.cache HI.out.2).cells hp hd
      obtain ⟨w1, hw1⟩ : ∃ w1, w1 = wr.alloc (.cells #[.int .i64 (p.1 : Nat), .slice (some ⟨d.1, 0, none⟩) 512 d.2] 143) := ⟨_, rfl⟩
      have hB1 : Below wr.heap.size wr w1 := by rw [hw1]; exact (Below.refl _ wr).alloc (Nat.le_refl _) _
      have d0 := ((HW.out.1.cache HI.out.2 ht).below hB1).cell h0
      have q0 : w1.cell? ⟨wr.heap.size, 0, none⟩ = some (.int .i64 (p.1 : Nat)) := by rw [hw1, cellOf (heap_alloc_new wr _) 0]; rfl
      have htk : P.take (i + 1) = P.take i ++ [p] := by rw [List.take_add_one, hp]; rfl
      have cU := lc_pin w0 w1.drew c vs V _ (b + i) p.1 ((HI.out.1.below hB1).below ((Below.refl _ w1).drew)) (by omega) (HW.out.2.2.2.2 p (List.mem_of_getElem? hp)) (fun y => by have := cntB_le (P.take i) y; rw [List.length_take] at this; omega)
      rw [← cntB_snoc, ← htk] at cU
      have H1 : Hid (Below wr.heap.size wr w1 ∧ But (Cmn w0 w) w wr) := ⟨hB1, HI.out.2⟩
      clear hB1 htk hp hd HI hLn d4
      go_wp2_with fail
      rw [← hw1]
      clear hw1 p0 p1
      go_region_with (go_at_call 85; refine cU.mono ?_; rintro e w2 ⟨rfl, hC2, hb2⟩)
      all_goals
        have H2 : Hid (LC w0 w2 c vs V (cntB (P.take (i + 1))) (b + (i + 1)) ∧ But (Cmn w0 w) w w2) := ⟨hC2, cmn_trans H1.out.2 (cmn_after H1.out.1.drew hb2)⟩
        clear cU hC2 hb2 d0 q0
        go_wp2
        exact ⟨⟨i + 1, by omega, by go_num, H2.out⟩, by simp [intOf]; omega⟩
    · obtain rfl : i = L := by omega
      have H1 : Hid (LC w0 wr c vs V (cntB P) (b + i) ∧ But (Cmn w0 w) w wr) := by
        refine ⟨?_, HI.out.2⟩
        have h1 := HI.out.1
        rw [List.take_of_length_le (by rw [HLN.out]; exact Nat.le_refl _)] at h1
        exact h1
      clear HI d4
      have d4 := (HW.out.1.cache H1.out.2 ht).cell h4
      obtain ⟨wa, rfl⟩ : ∃ wa, wa = wr := ⟨_, rfl⟩
      go_wp2_with fail
      go_loopw [42] (fun ii wr => ∃ j : Nat, j ≤ i ∧ ii = .int .i64 j ∧ Hid (LC w0 wr c vs (Ino.putsV V (P.take j)) (cntB P) (b + i + j) ∧ But (Cmn w0 w) w wr)) (fun ii _ => i - (intOf ii).toNat)
      case atStart => exact ⟨0, Nat.zero_le _, rfl, H1.out.1, H1.out.2⟩
      case round =>
        obtain ⟨j, hj, rfl, HJ⟩ := hrel
        by_cases hlt : j < i
        · have hlti : (j : Int) < i := by omega
          have hLn := HW.out.2.2.2.1
          obtain ⟨p, hp⟩ : ∃ p, P[j]? = some p := ⟨_, List.getElem?_eq_getElem (by omega)⟩
          obtain ⟨d, hd⟩ : ∃ d, D[j]? = some d := ⟨_, List.getElem?_eq_getElem (by rw [HW.out.2.1.dl]; omega)⟩
          have hPr := HW.out.2.1.cache HJ.out.2
          obtain ⟨p0, p1⟩ := hPr.cells hp hd
          obtain ⟨w1, hw1⟩ : ∃ w1, w1 = wr.alloc (.cells #[.int .i64 (p.1 : Nat), .slice (some ⟨d.1, 0, none⟩) 512 d.2] 143) := ⟨_, rfl⟩
          have hB1 : Below wr.heap.size wr w1 := by rw [hw1]; exact (Below.refl _ wr).alloc (Nat.le_refl _) _
          have d0 := ((HW.out.1.cache HJ.out.2 ht).below hB1).cell h0
          have q0 : w1.cell? ⟨wr.heap.size, 0, none⟩ = some (.int .i64 (p.1 : Nat)) := by rw [hw1, cellOf (heap_alloc_new wr _) 0]; rfl
          have q1 : w1.cell? ⟨wr.heap.size, 1, none⟩ = some (.slice (some ⟨d.1, 0, none⟩) 512 d.2) := by rw [hw1, cellOf (heap_alloc_new wr _) 1]; rfl
          have htk : P.take (j + 1) = P.take j ++ [p] := by rw [List.take_add_one, hp]; rfl
          obtain ⟨e1, e2, e3, _⟩ := (hPr.below hB1.drew).d j p d hp hd
          have cU := lc_put w0 w1.drew c vs _ _ (b + i + j) p.1 (some ⟨d.1, 0, none⟩) d.2 p.2 (HJ.out.1.below hB1.drew) (by omega) (cntB_pos (List.mem_of_getElem? hp)) e1 e2 (fun g' o' e => by cases e; exact e3)
          rw [← putsV_snoc, ← htk] at cU
          have H3 : Hid (Below wr.heap.size wr w1 ∧ But (Cmn w0 w) w wr) := ⟨hB1, HJ.out.2⟩
          clear hB1 htk hp hd HJ hLn d4 hPr e1 e2 e3
          go_wp2_with fail
          rw [← hw1]
          clear hw1 p0 p1
          go_region_with (go_at_call 87; refine cU.mono ?_; rintro e w2 ⟨rfl, hC2, hb2⟩)
          all_goals
            have H2 : Hid (LC w0 w2 c vs (Ino.putsV V (P.take (j + 1))) (cntB P) (b + i + (j + 1)) ∧ But (Cmn w0 w) w w2) := ⟨hC2, cmn_trans H3.out.2 (cmn_after H3.out.1.drew hb2)⟩
            clear cU hC2 hb2 d0 q0 q1
            go_wp2
            go_roundw
            case rel => exact ⟨j + 1, by omega, by go_num, H2.out⟩
            case measure => simp [intOf]; omega
        · obtain rfl : j = i := by omega
          have H2 : Hid (LC w0 wr c vs (Ino.putsV V P) (cntB P) (b + j + j) ∧ But (Cmn w0 w) w wr) := by
            refine ⟨?_, HJ.out.2⟩
            have h1 := HJ.out.1
            rw [List.take_of_length_le (by rw [HLN.out]; exact Nat.le_refl _)] at h1
            exact h1
          clear HJ d4
          have hw2 := HW.out.1.cache H2.out.2 ht
          have d4 := hw2.cell h4
          have cU := unpin_L w0 wr wb c g cap (b + j + j) lo cs t vs (Ino.putsV V P) P D hw2 ht h0 (HW.out.2.1.cache H2.out.2) H2.out.1 (by rw [HLN.out]; exact hl)
          rw [HLN.out] at cU
          clear hw2
          go_wp2_with (go_at_call 86; refine cU.mono ?_; rintro e w3 ⟨rfl, hC3, hb3⟩; clear cU)
          go_ret
          exact ⟨rfl, hC3, cmn_trans H2.out.2 hb3⟩

end Go.Proofs.YtebdgcoandfocaaGreatDoor
