/-
  A walk that plans a write is ensure. Pure: no program.
-/
import Derived.Test.YtebdgcoandfocaaGreatDoorQUd

/-
  A walk that plans a write, as a function: a level of places. Pure: no program.
-/
namespace Go.Proofs.YtebdgcoandfocaaGreatDoor
open Go.RowKit

theorem fnd_has {F : List Nat} {p : Nat} {x : BitVec 32} {s : WS} (h : x ≠ 0) : fnd F p x s = (x, 0, { s with b := s.b + 1, X := s.X ++ [(p, x, false)] }) := by unfold fnd; rw [if_neg h]
theorem fnd_take {F : List Nat} {p r : Nat} {s : WS} (h : F[s.k]? = some r) : fnd F p 0 s = (BitVec.ofNat 32 r, 0, { s with b := s.b + 2, k := s.k + 1, X := s.X ++ [(p, BitVec.ofNat 32 r, true)] }) := by
  have e : tk F s = (BitVec.ofNat 32 r, 0, { s with b := s.b + 1, k := s.k + 1 }) := by unfold tk; rw [h]
  unfold fnd
  rw [if_pos rfl, e]
  rfl
theorem fnd_out {F : List Nat} {p : Nat} {s : WS} (h : F[s.k]? = none) : ∃ s', fnd F p 0 s = (0, 28, s') := by
  have e : tk F s = (0, 28, { s with b := s.b + 1 }) := by unfold tk; rw [h]
  refine ⟨{ s with b := s.b + 1 }, ?_⟩
  unfold fnd
  rw [if_pos rfl, e, if_neg (by simp)]

theorem ensure_else {fr : List (BitVec 32)} : ∀ {L : List Nat} {G G' : Ino.Gs} {k k' : Nat}, Ino.ensure fr G k L = some (G', k') → ∀ i, i ∉ L → G' i = G i
  | [], G, G', k, k', h, i, _ => by
    obtain ⟨rfl, rfl⟩ : G = G' ∧ k = k' := by simpa [Ino.ensure] using h
    rfl
  | j :: L, G, G', k, k', h, i, hi => by
    simp only [List.mem_cons, not_or] at hi
    by_cases hj : G j = 0
    · cases hr : fr[k]? with
      | none => rw [Ino.ensure_out hj hr] at h; cases h
      | some r =>
        rw [Ino.ensure_take hj hr] at h
        rw [ensure_else h i hi.2, Ino.upd_ne _ _ hi.1]
    · rw [Ino.ensure_has hj] at h
      exact ensure_else h i hi.2

/-- A level of places of which those from f up to t are visited. -/
theorem lev_ens (F : List Nat) (f t first : Nat) : ∀ (l : List (BitVec 32)) (i : Nat) (s : WS) (G : Ino.Gs), (∀ j n, l[j]? = some n → f ≤ first + i + j → first + i + j < t → n = G (first + i + j)) →
    (Ino.ensure (F.map (BitVec.ofNat 32)) G s.k (Ino.span (max f (first + i)) (min t (first + i + l.length))) = none → (Ino.lev (fnd F) f t first 1 l i s).2.1 = 28) ∧
    (∀ G' k', Ino.ensure (F.map (BitVec.ofNat 32)) G s.k (Ino.span (max f (first + i)) (min t (first + i + l.length))) = some (G', k') →
      ∃ l' b', Ino.lev (fnd F) f t first 1 l i s = (l', 0, ⟨b', k', s.G, s.P, s.X ++ (Ino.span (max f (first + i)) (min t (first + i + l.length))).map fun p => (p, G' p, decide (G p = 0))⟩) ∧ l'.length = l.length ∧ ∀ j n, l[j]? = some n → l'[j]? = some (if f ≤ first + i + j ∧ first + i + j < t then G' (first + i + j) else n))
  | [], i, s, G, _ => by
    have e : Ino.span (max f (first + i)) (min t (first + i + ([] : List (BitVec 32)).length)) = [] := Ino.span_nil (by simp; omega)
    rw [e, Ino.ensure_nil]
    refine ⟨(fun h => by cases h), fun G' k' h => ?_⟩
    obtain ⟨rfl, rfl⟩ : G = G' ∧ s.k = k' := by simpa using h
    exact ⟨[], s.b, by rw [Ino.lev_nil]; simp, rfl, fun j n h => by simp at h⟩
  | n :: l, i, s, G, hl => by
    have hlen : first + i + (n :: l).length = first + (i + 1) + l.length := by simp; omega
    have hl' : ∀ G2 : Ino.Gs, (∀ q, q ≠ first + i → G2 q = G q) → ∀ j m, l[j]? = some m → f ≤ first + (i + 1) + j → first + (i + 1) + j < t → m = G2 (first + (i + 1) + j) := by
      intro G2 hG j m hm h1 h2
      rw [hG _ (by omega)]
      have := hl (j + 1) m (by simpa using hm) (by omega) (by omega)
      rw [this]; congr 1; omega
    by_cases hc : first + i * 1 + 1 ≤ f ∨ t ≤ first + i * 1
    · have hsp : Ino.span (max f (first + i)) (min t (first + i + (n :: l).length)) = Ino.span (max f (first + (i + 1))) (min t (first + (i + 1) + l.length)) := by
        rw [hlen]
        rcases hc with h | h
        · rw [show max f (first + i) = max f (first + (i + 1)) by omega]
        · rw [Ino.span_nil (by omega), Ino.span_nil (by omega)]
      obtain ⟨h1, h2⟩ := lev_ens F f t first l (i + 1) s G (hl' G fun _ _ => rfl)
      rw [hsp, Ino.lev_skip hc]
      refine ⟨h1, fun G' k' h => ?_⟩
      obtain ⟨l', b', e, hll, hj⟩ := h2 G' k' h
      refine ⟨n :: l', b', by rw [e], by simp [hll], fun j m hm => ?_⟩
      rcases j with _ | j
      · simp only [List.getElem?_cons_zero, Option.some.injEq] at hm ⊢
        rw [if_neg (by omega)]; exact hm
      · simp only [List.getElem?_cons_succ] at hm ⊢
        rw [hj j m hm, show first + (i + 1) + j = first + i + (j + 1) by omega]
    · have hsp : Ino.span (max f (first + i)) (min t (first + i + (n :: l).length)) = (first + i) :: Ino.span (max f (first + (i + 1))) (min t (first + (i + 1) + l.length)) := by
        rw [hlen, show max f (first + i) = first + i by omega, Ino.span_cons (by omega), show max f (first + (i + 1)) = first + i + 1 by omega]
      have hn0 : n = G (first + i) := by
        have := hl 0 n rfl (by omega) (by omega)
        simpa using this
      have hpl : first + i * 1 = first + i := by omega
      have hnotin : first + i ∉ Ino.span (max f (first + (i + 1))) (min t (first + (i + 1) + l.length)) := fun h => by have := Ino.mem_span.1 h; omega
      rw [hsp]
      by_cases hz : G (first + i) = 0
      · have hn : n = 0 := hn0.trans hz
        subst hn
        cases hr : F[s.k]? with
        | none =>
          obtain ⟨s', hf⟩ := fnd_out (p := first + i) hr
          have hfr : (F.map (BitVec.ofNat 32))[s.k]? = none := by rw [List.getElem?_map, hr]; rfl
          rw [Ino.ensure_out hz hfr]
          refine ⟨fun _ => ?_, (fun G' k' h => by cases h)⟩
          rw [Ino.lev_fail (n' := 0) (er := 28) (s' := s') hc (by rw [hpl]; exact hf) (by decide)]
        | some r =>
          have hf := fnd_take (p := first + i) hr
          have hfr : (F.map (BitVec.ofNat 32))[s.k]? = some (BitVec.ofNat 32 r) := by rw [List.getElem?_map, hr]; rfl
          rw [Ino.ensure_take hz hfr, Ino.lev_step hc (by rw [hpl]; exact hf)]
          obtain ⟨h1, h2⟩ := lev_ens F f t first l (i + 1) { s with b := s.b + 2, k := s.k + 1, X := s.X ++ [(first + i, BitVec.ofNat 32 r, true)] } (Ino.upd G (first + i) (BitVec.ofNat 32 r)) (hl' _ fun q hq => Ino.upd_ne _ _ hq)
          refine ⟨h1, fun G' k' h => ?_⟩
          obtain ⟨l', b', e, hll, hj⟩ := h2 G' k' h
          have hG' : G' (first + i) = BitVec.ofNat 32 r := (ensure_else h _ hnotin).trans (Ino.upd_same _ _ _)
          refine ⟨BitVec.ofNat 32 r :: l', b', ?_, by simp [hll], fun j m hm => ?_⟩
          · rw [e]
            simp only [List.map_cons, List.append_assoc, List.cons_append, List.nil_append]
            rw [hG', hz]
            congr 5
            refine List.map_congr_left fun q hq => ?_
            have hne : q ≠ first + i := fun e => hnotin (e ▸ hq)
            rw [Ino.upd_ne _ _ hne]
          · rcases j with _ | j
            · simp only [List.getElem?_cons_zero, Option.some.injEq]
              rw [if_pos ⟨by omega, by omega⟩]; exact hG'.symm
            · simp only [List.getElem?_cons_succ] at hm ⊢
              rw [hj j m hm, show first + (i + 1) + j = first + i + (j + 1) by omega]
      · have hn : n ≠ 0 := hn0 ▸ hz
        have hf := fnd_has (F := F) (p := first + i) (s := s) hn
        rw [Ino.ensure_has hz, Ino.lev_step hc (by rw [hpl]; exact hf)]
        obtain ⟨h1, h2⟩ := lev_ens F f t first l (i + 1) { s with b := s.b + 1, X := s.X ++ [(first + i, n, false)] } G (hl' G fun _ _ => rfl)
        refine ⟨h1, fun G' k' h => ?_⟩
        obtain ⟨l', b', e, hll, hj⟩ := h2 G' k' h
        have hG' : G' (first + i) = n := (ensure_else h _ hnotin).trans hn0.symm
        refine ⟨n :: l', b', ?_, by simp [hll], fun j m hm => ?_⟩
        · rw [e]
          simp only [List.map_cons, List.append_assoc, List.cons_append, List.nil_append]
          rw [hG', decide_eq_false hz]
        · rcases j with _ | j
          · simp only [List.getElem?_cons_zero, Option.some.injEq]
            rw [if_pos ⟨by omega, by omega⟩]; exact hG'.symm
          · simp only [List.getElem?_cons_succ] at hm ⊢
            rw [hj j m hm, show first + (i + 1) + j = first + i + (j + 1) by omega]

end Go.Proofs.YtebdgcoandfocaaGreatDoor

/-
  A walk that plans a write, as a function: blocks of numbers. Pure: no program.
-/
namespace Go.Proofs.YtebdgcoandfocaaGreatDoor
open Go.RowKit

theorem ensure_nz {fr : List (BitVec 32)} (hf : ∀ x ∈ fr, x ≠ 0) : ∀ {L : List Nat} {G G' : Ino.Gs} {k k' : Nat}, Ino.ensure fr G k L = some (G', k') → (∀ i ∈ L, G' i ≠ 0) ∧ (∀ i, G i ≠ 0 → G' i = G i)
  | [], G, G', k, k', h => by
    obtain ⟨rfl, rfl⟩ : G = G' ∧ k = k' := by simpa [Ino.ensure] using h
    exact ⟨(fun i hi => by cases hi), fun _ _ => rfl⟩
  | j :: L, G, G', k, k', h => by
    by_cases hj : G j = 0
    · cases hr : fr[k]? with
      | none => rw [Ino.ensure_out hj hr] at h; cases h
      | some r =>
        rw [Ino.ensure_take hj hr] at h
        obtain ⟨h1, h2⟩ := ensure_nz hf h
        have hr0 := hf r (List.mem_of_getElem? hr)
        have hj' : G' j = r := by rw [h2 j (by rw [Ino.upd_same]; exact hr0), Ino.upd_same]
        refine ⟨fun i hi => ?_, fun i hi => ?_⟩
        · rcases List.mem_cons.1 hi with rfl | hi
          · rw [hj']; exact hr0
          · exact h1 i hi
        · have hne : i ≠ j := fun e => by subst e; exact hi hj
          rw [h2 i (by rw [Ino.upd_ne _ _ hne]; exact hi), Ino.upd_ne _ _ hne]
    · rw [Ino.ensure_has hj] at h
      obtain ⟨h1, h2⟩ := ensure_nz hf h
      refine ⟨fun i hi => ?_, h2⟩
      rcases List.mem_cons.1 hi with rfl | hi
      · rw [h2 i hj]; exact hj
      · exact h1 i hi

/-- What opening the block of index q gives. -/
theorem opn_ens (F : List Nat) (nb : Nat) (V : Nat → By) (G : Ino.Gs) (q : Nat) (T : List (BitVec 32)) (s : WS) (h0 : G q = 0 → T = Ino.zT) (h1 : G q ≠ 0 → (G q).toNat < nb ∧ tabOf (V (G q).toNat) = T) :
    (Ino.ensure (F.map (BitVec.ofNat 32)) G s.k [q] = none → ∃ s', Ino.opn (wOps F nb V) (G q) s = (0, Ino.zT, 28, s')) ∧
    (∀ G' k', Ino.ensure (F.map (BitVec.ofNat 32)) G s.k [q] = some (G', k') → ∃ b', Ino.opn (wOps F nb V) (G q) s = (G' q, T, 0, ⟨b', k', s.G, s.P, s.X⟩)) := by
  by_cases hz : G q = 0
  · rw [hz]
    cases hr : F[s.k]? with
    | none =>
      have hfr : (F.map (BitVec.ofNat 32))[s.k]? = none := by rw [List.getElem?_map, hr]; rfl
      have et : (wOps F nb V).take s = (0, 28, { s with b := s.b + 1 }) := by show tk F s = _; unfold tk; rw [hr]
      rw [Ino.ensure_out hz hfr]
      refine ⟨fun _ => ⟨{ s with b := s.b + 1 }, ?_⟩, (fun G' k' h => by cases h)⟩
      unfold Ino.opn; rw [if_pos rfl, et]
    | some r =>
      have hfr : (F.map (BitVec.ofNat 32))[s.k]? = some (BitVec.ofNat 32 r) := by rw [List.getElem?_map, hr]; rfl
      have et : (wOps F nb V).take s = (BitVec.ofNat 32 r, 0, { s with b := s.b + 1, k := s.k + 1 }) := by show tk F s = _; unfold tk; rw [hr]
      rw [Ino.ensure_take hz hfr, Ino.ensure_nil]
      refine ⟨(fun h => by cases h), fun G' k' h => ?_⟩
      obtain ⟨rfl, rfl⟩ : Ino.upd G q (BitVec.ofNat 32 r) = G' ∧ s.k + 1 = k' := by simpa using h
      refine ⟨s.b + 1, ?_⟩
      unfold Ino.opn; rw [if_pos rfl, et, Ino.upd_same, h0 hz]
  · obtain ⟨h2, h3⟩ := h1 hz
    have eg : (wOps F nb V).get s (G q) = (T, 0, { s with b := s.b + 1 }) := by
      show (if (G q).toNat < nb then _ else _ : List (BitVec 32) × Int × WS) = _
      rw [if_pos h2, h3]
    rw [Ino.ensure_has hz, Ino.ensure_nil]
    refine ⟨(fun h => by cases h), fun G' k' h => ?_⟩
    obtain ⟨rfl, rfl⟩ : G = G' ∧ s.k = k' := by simpa using h
    refine ⟨s.b + 1, ?_⟩
    unfold Ino.opn; rw [if_neg hz, eg, if_pos rfl]

/-- A block of numbers of places, of which some are visited. -/
theorem thr_ens (F : List Nat) (hF : ∀ x ∈ F.map (BitVec.ofNat 32), x ≠ 0) (nb : Nat) (V : Nat → By) (f t a q : Nat) (T : Ino.Gs → List (BitVec 32)) (G : Ino.Gs) (s : WS)
    (hq : ¬ (f ≤ q ∧ q < t)) (hq128 : ¬ q < 128) (hlen : ∀ G, (T G).length = 64) (hT : ∀ G j, f ≤ a + j → a + j < t → j < 64 → (T G)[j]? = some (G (a + j)))
    (hTo : ∀ G1 G2 : Ino.Gs, (∀ p, ¬ (f ≤ p ∧ p < t) → p < 128 → G1 p = G2 p) → ∀ j, ¬ (f ≤ a + j ∧ a + j < t) → (T G1)[j]? = (T G2)[j]?)
    (h0 : G q = 0 → T G = Ino.zT) (h1 : G q ≠ 0 → (G q).toNat < nb ∧ tabOf (V (G q).toNat) = T G) (hv : max f a < min t (a + 64)) :
    (Ino.ensure (F.map (BitVec.ofNat 32)) G s.k (q :: Ino.span (max f a) (min t (a + 64))) = none → (Ino.thr1 (wOps F nb V) true f t (fnd F) a (G q) s).2.1 = 28) ∧
    (∀ G' k', Ino.ensure (F.map (BitVec.ofNat 32)) G s.k (q :: Ino.span (max f a) (min t (a + 64))) = some (G', k') →
      ∃ b', Ino.thr1 (wOps F nb V) true f t (fnd F) a (G q) s = (G' q, 0, ⟨b', k', s.G, s.P ++ (if T G' = T G then [] else [((G' q).toNat, Ino.tabB (T G'))]), s.X ++ (Ino.span (max f a) (min t (a + 64))).map fun p => (p, G' p, decide (G p = 0))⟩)) := by
  obtain ⟨o1, o2⟩ := opn_ens F nb V G q (T G) s h0 h1
  have happ := Ino.ensure_app (F.map (BitVec.ofNat 32)) [q] (Ino.span (max f a) (min t (a + 64))) G s.k
  rw [List.singleton_append] at happ
  have hnh : ¬ (G q = 0 ∧ (true : Bool) = false) := fun h => by cases h.2
  have hqs : q ∉ Ino.span (max f a) (min t (a + 64)) := fun h => by have := Ino.mem_span.1 h; omega
  cases he : Ino.ensure (F.map (BitVec.ofNat 32)) G s.k [q] with
  | none =>
    rw [he] at happ
    rw [happ]
    refine ⟨fun _ => ?_, (fun G' k' h => by cases h)⟩
    obtain ⟨s', ho⟩ := o1 he
    show (Ino.thr _ true _ (G q) s).2.1 = 28
    rw [Ino.thr_open hnh ho (by decide)]
  | some x =>
    obtain ⟨G1, k1⟩ := x
    rw [he] at happ
    have happ : Ino.ensure (F.map (BitVec.ofNat 32)) G s.k (q :: Ino.span (max f a) (min t (a + 64))) = Ino.ensure (F.map (BitVec.ofNat 32)) G1 k1 (Ino.span (max f a) (min t (a + 64))) := happ
    obtain ⟨b1, ho⟩ := o2 G1 k1 he
    have hG1 : ∀ p, p ≠ q → G1 p = G p := fun p hp => ensure_else he p (by simpa using hp)
    obtain ⟨l1, l2⟩ := lev_ens F f t a (T G) 0 ⟨b1, k1, s.G, s.P, s.X⟩ G1 (by
      intro j m hm h2 h3
      have hj : j < 64 := by have := (List.getElem?_eq_some_iff.1 hm).1; rw [hlen] at this; exact this
      have := hT G j (by omega) (by omega) hj
      rw [hm] at this
      rw [Option.some.inj this, hG1 (a + 0 + j) (fun e => hq (by omega))]; rfl)
    rw [hlen, Nat.add_zero] at l1 l2
    rw [happ]
    refine ⟨fun h => ?_, fun G' k' h => ?_⟩
    · have := l1 h
      show (Ino.thr _ true _ (G q) s).2.1 = 28
      cases hx : Ino.lev (fnd F) f t a 1 (T G) 0 ⟨b1, k1, s.G, s.P, s.X⟩ with
      | mk l r =>
        obtain ⟨er, s2⟩ := r
        rw [hx] at this
        have this : er = 28 := this
        subst this
        rw [Ino.thr_level hnh ho hx (by decide)]
    · obtain ⟨l', b', hlv, hll, hj⟩ := l2 G' k' h
      obtain ⟨n1, n2⟩ := ensure_nz hF h
      have hG' : ∀ p, p ≠ q → p ∉ Ino.span (max f a) (min t (a + 64)) → G' p = G p := fun p hp hs => (ensure_else h p hs).trans (hG1 p hp)
      have hq' : G' q = G1 q := ensure_else h q hqs
      have hnow : l' = T G' := by
        apply List.ext_getElem?
        intro j
        by_cases hj64 : j < 64
        · obtain ⟨m, hm⟩ : ∃ m, (T G)[j]? = some m := ⟨_, List.getElem?_eq_getElem (by rw [hlen]; exact hj64)⟩
          rw [hj j m hm]
          by_cases hc : f ≤ a + j ∧ a + j < t
          · rw [if_pos hc, hT G' j hc.1 hc.2 hj64]
          · rw [if_neg hc, ← hm]
            refine (hTo G' G (fun p hp h2 => hG' p (fun e => hq128 (by omega)) (fun hs => ?_)) j hc).symm
            have := Ino.mem_span.1 hs
            omega
        · rw [List.getElem?_eq_none (by rw [hll]; omega), List.getElem?_eq_none (by rw [hlen]; omega)]
      subst hnow
      have hnz : T G' ≠ Ino.zT := by
        intro e
        have hm := n1 (max f a) (Ino.mem_span.2 ⟨Nat.le_refl _, hv⟩)
        have := hT G' (max f a - a) (by omega) (by omega) (by omega)
        rw [e, show a + (max f a - a) = max f a by omega] at this
        rw [Ino.zT, List.getElem?_replicate] at this
        split at this
        · exact hm (Option.some.inj this).symm
        · cases this
      have hd : ∀ p ∈ Ino.span (max f a) (min t (a + 64)), decide (G1 p = 0) = decide (G p = 0) := fun p hp => by rw [hG1 p (fun e => hqs (e ▸ hp))]
      have hmap : (Ino.span (max f a) (min t (a + 64))).map (fun p => (p, G' p, decide (G1 p = 0))) = (Ino.span (max f a) (min t (a + 64))).map fun p => (p, G' p, decide (G p = 0)) := List.map_congr_left fun p hp => by rw [hd p hp]
      rw [hmap] at hlv
      by_cases hw : T G' = T G
      · refine ⟨b', ?_⟩
        rw [if_pos hw, List.append_nil, hq']
        exact Ino.thr_same hnh ho hlv hnz hw
      · refine ⟨b' + 1, ?_⟩
        rw [if_neg hw, hq']
        have hput := Ino.thr_put (lv := fun l s => Ino.lev (fnd F) f t a 1 l 0 s) hnh ho hlv hnz hw
        exact hput

end Go.Proofs.YtebdgcoandfocaaGreatDoor

/-
  A walk that plans a write, as a function: all numbers. Pure: no program.
-/
namespace Go.Proofs.YtebdgcoandfocaaGreatDoor
open Go.RowKit

theorem lev_pass {σ : Type} {step : Ino.Stp σ} {f t first sp : Nat} : ∀ (l : List (BitVec 32)) (i : Nat) (s : σ), (∀ j, i ≤ j → t ≤ first + j * sp) → Ino.lev step f t first sp l i s = (l, 0, s)
  | [], _, _, _ => rfl
  | n :: l, i, s, h => by
    rw [Ino.lev_skip (.inr (h i (Nat.le_refl _))), lev_pass l (i + 1) s (fun j hj => h j (by omega))]

theorem tab1_get (G : Ino.Gs) (j : Nat) (h : j < 64) : (Ino.tab1 G)[j]? = some (G (8 + j)) := by simp [Ino.tab1, h]
theorem tab2_get (G : Ino.Gs) (j : Nat) (h : j < 64) : (Ino.tab2 G)[j]? = some (if j < 56 then G (72 + j) else 0#32) := by simp [Ino.tab2, h]

/-- What a table of numbers has to do with blocks. -/
structure TabOk (nb : Nat) (V : Nat → By) (G : Ino.Gs) : Prop where
  o0 : G 128 = 0 → Ino.tab1 G = Ino.zT
  o1 : G 128 ≠ 0 → (G 128).toNat < nb ∧ tabOf (V (G 128).toNat) = Ino.tab1 G
  t0 : G 130 = 0 → Ino.tab2 G = Ino.zT
  t1 : G 130 ≠ 0 → (G 130).toNat < nb ∧ tabOf (V (G 130).toNat) = Ino.tab2 G
  d0 : G 129 = 0 → Ino.tabd G = Ino.zT
  d1 : G 129 ≠ 0 → (G 129).toNat < nb ∧ tabOf (V (G 129).toNat) = Ino.tabd G

def putIf (c : Prop) [Decidable c] (n : BitVec 32) (T T0 : List (BitVec 32)) : List (Nat × By) := if c then (if T = T0 then [] else [(n.toNat, Ino.tabB T)]) else []
def spots (G G' : Ino.Gs) (L : List Nat) : List (Nat × BitVec 32 × Bool) := L.map fun p => (p, G' p, decide (G p = 0))
theorem spots_congr {G G' H H' : Ino.Gs} {L : List Nat} (h : ∀ p ∈ L, G p = H p ∧ G' p = H' p) : spots G G' L = spots H H' L := List.map_congr_left fun p hp => by rw [(h p hp).1, (h p hp).2]

theorem one_ens (F : List Nat) (hF : ∀ x ∈ F.map (BitVec.ofNat 32), x ≠ 0) (nb : Nat) (V : Nat → By) (f t : Nat) (G : Ino.Gs) (s : WS) (hok : TabOk nb V G) (hc : f < 72 ∧ 8 < t) (hft : f < t) (ht : t ≤ 128) :
    (Ino.ensure (F.map (BitVec.ofNat 32)) G s.k (128 :: Ino.span (max f 8) (min t 72)) = none → (Ino.thr1 (wOps F nb V) true f t (fnd F) 8 (G 128) s).2.1 = 28) ∧
    (∀ G' k', Ino.ensure (F.map (BitVec.ofNat 32)) G s.k (128 :: Ino.span (max f 8) (min t 72)) = some (G', k') →
      ∃ b', Ino.thr1 (wOps F nb V) true f t (fnd F) 8 (G 128) s = (G' 128, 0, ⟨b', k', s.G, s.P ++ putIf True (G' 128) (Ino.tab1 G') (Ino.tab1 G), s.X ++ spots G G' (Ino.span (max f 8) (min t 72))⟩)) := by
  have := thr_ens F hF nb V f t 8 128 Ino.tab1 G s (by omega) (by omega) (fun G => by simp [Ino.tab1]) (fun G j _ _ hj => tab1_get G j hj) (fun G1 G2 h j hj => by
    by_cases h64 : j < 64
    · rw [tab1_get G1 j h64, tab1_get G2 j h64, h (8 + j) hj (by omega)]
    · rw [List.getElem?_eq_none (by simp [Ino.tab1]; omega), List.getElem?_eq_none (by simp [Ino.tab1]; omega)]) hok.o0 hok.o1 (by omega)
  simpa [putIf, spots] using this

theorem two_ens (F : List Nat) (hF : ∀ x ∈ F.map (BitVec.ofNat 32), x ≠ 0) (nb : Nat) (V : Nat → By) (f t : Nat) (G : Ino.Gs) (s : WS) (hok : TabOk nb V G) (hc : 72 < t) (ht : t ≤ 128) (hft : f < t) :
    (Ino.ensure (F.map (BitVec.ofNat 32)) G s.k (130 :: Ino.span (max f 72) t) = none → (Ino.thr1 (wOps F nb V) true f t (fnd F) 72 (G 130) s).2.1 = 28) ∧
    (∀ G' k', Ino.ensure (F.map (BitVec.ofNat 32)) G s.k (130 :: Ino.span (max f 72) t) = some (G', k') →
      ∃ b', Ino.thr1 (wOps F nb V) true f t (fnd F) 72 (G 130) s = (G' 130, 0, ⟨b', k', s.G, s.P ++ putIf True (G' 130) (Ino.tab2 G') (Ino.tab2 G), s.X ++ spots G G' (Ino.span (max f 72) t)⟩)) := by
  have := thr_ens F hF nb V f t 72 130 Ino.tab2 G s (by omega) (by omega) (fun G => by simp [Ino.tab2]) (fun G j _ h2 hj => by rw [tab2_get G j hj, if_pos (by omega)]) (fun G1 G2 h j hj => by
    by_cases h64 : j < 64
    · rw [tab2_get G1 j h64, tab2_get G2 j h64]
      by_cases h56 : j < 56
      · rw [if_pos h56, if_pos h56, h (72 + j) hj (by omega)]
      · rw [if_neg h56, if_neg h56]
    · rw [List.getElem?_eq_none (by simp [Ino.tab2]; omega), List.getElem?_eq_none (by simp [Ino.tab2]; omega)]) hok.t0 hok.t1 (by omega)
  rw [show min t (72 + 64) = t by omega] at this
  simpa [putIf, spots] using this

theorem TabOk.upd {nb : Nat} {V : Nat → By} {G H : Ino.Gs} (h : TabOk nb V G) (he : ∀ p, 8 ≤ p → H p = G p) : TabOk nb V H := by
  have e1 : Ino.tab1 H = Ino.tab1 G := Ino.tab1_eq.2 fun p h1 _ => he p h1
  have e2 : Ino.tab2 H = Ino.tab2 G := Ino.tab2_eq.2 fun p h1 _ => he p (by omega)
  have e3 : Ino.tabd H = Ino.tabd G := Ino.tabd_eq (he 130 (by omega))
  refine ⟨?_, ?_, ?_, ?_, ?_, ?_⟩
  · rw [he 128 (by omega), e1]; exact h.o0
  · rw [he 128 (by omega), e1]; exact h.o1
  · rw [he 130 (by omega), e2]; exact h.t0
  · rw [he 130 (by omega), e2]; exact h.t1
  · rw [he 129 (by omega), e3]; exact h.d0
  · rw [he 129 (by omega), e3]; exact h.d1

theorem dbl_ens (F : List Nat) (hF : ∀ x ∈ F.map (BitVec.ofNat 32), x ≠ 0) (nb : Nat) (V : Nat → By) (f t : Nat) (G : Ino.Gs) (s : WS) (ht0 : G 130 = 0 → Ino.tab2 G = Ino.zT) (ht1 : G 130 ≠ 0 → (G 130).toNat < nb ∧ tabOf (V (G 130).toNat) = Ino.tab2 G) (hd0 : G 129 = 0 → Ino.tabd G = Ino.zT) (hd1 : G 129 ≠ 0 → (G 129).toNat < nb ∧ tabOf (V (G 129).toNat) = Ino.tabd G) (hc : 72 < t) (ht : t ≤ 128) (hft : f < t) :
    (Ino.ensure (F.map (BitVec.ofNat 32)) G s.k (129 :: 130 :: Ino.span (max f 72) t) = none → (Ino.thr2 (wOps F nb V) true f t (fnd F) 72 (G 129) s).2.1 = 28) ∧
    (∀ G' k', Ino.ensure (F.map (BitVec.ofNat 32)) G s.k (129 :: 130 :: Ino.span (max f 72) t) = some (G', k') →
      ∃ b', Ino.thr2 (wOps F nb V) true f t (fnd F) 72 (G 129) s = (G' 129, 0, ⟨b', k', s.G, s.P ++ putIf True (G' 130) (Ino.tab2 G') (Ino.tab2 G) ++ putIf True (G' 129) (Ino.tabd G') (Ino.tabd G), s.X ++ spots G G' (Ino.span (max f 72) t)⟩)) := by
  obtain ⟨o1, o2⟩ := opn_ens F nb V G 129 (Ino.tabd G) s hd0 hd1
  have happ := Ino.ensure_app (F.map (BitVec.ofNat 32)) [129] (130 :: Ino.span (max f 72) t) G s.k
  rw [List.singleton_append] at happ
  have hnh : ¬ (G 129 = 0 ∧ (true : Bool) = false) := fun h => by cases h.2
  cases he : Ino.ensure (F.map (BitVec.ofNat 32)) G s.k [129] with
  | none =>
    rw [he] at happ
    rw [happ]
    refine ⟨fun _ => ?_, (fun G' k' h => by cases h)⟩
    obtain ⟨s', ho⟩ := o1 he
    show (Ino.thr _ true _ (G 129) s).2.1 = 28
    rw [Ino.thr_open hnh ho (by decide)]
  | some x =>
    obtain ⟨G1, k1⟩ := x
    rw [he] at happ
    have happ : Ino.ensure (F.map (BitVec.ofNat 32)) G s.k (129 :: 130 :: Ino.span (max f 72) t) = Ino.ensure (F.map (BitVec.ofNat 32)) G1 k1 (130 :: Ino.span (max f 72) t) := happ
    obtain ⟨b1, ho⟩ := o2 G1 k1 he
    have hG1 : ∀ p, p ≠ 129 → G1 p = G p := fun p hp => ensure_else he p (by simpa using hp)
    have e2 : Ino.tab2 G1 = Ino.tab2 G := Ino.tab2_eq.2 fun p _ h2 => hG1 p (by omega)
    have h130 : G1 130 = G 130 := hG1 130 (by omega)
    have t2 := thr_ens F hF nb V f t 72 130 Ino.tab2 G1 ⟨b1, k1, s.G, s.P, s.X⟩ (by omega) (by omega) (fun G => by simp [Ino.tab2]) (fun G j _ h2 hj => by rw [tab2_get G j hj, if_pos (by omega)]) (fun G1 G2 h j hj => by
      by_cases h64 : j < 64
      · rw [tab2_get G1 j h64, tab2_get G2 j h64]
        by_cases h56 : j < 56
        · rw [if_pos h56, if_pos h56, h (72 + j) hj (by omega)]
        · rw [if_neg h56, if_neg h56]
      · rw [List.getElem?_eq_none (by simp [Ino.tab2]; omega), List.getElem?_eq_none (by simp [Ino.tab2]; omega)]) (by rw [h130, e2]; exact ht0) (by rw [h130, e2]; exact ht1) (by omega)
    rw [show min t (72 + 64) = t by omega, h130] at t2
    obtain ⟨l1, l2⟩ := t2
    have hlevE : ∀ n' er s', Ino.thr1 (wOps F nb V) true f t (fnd F) 72 (G 130) ⟨b1, k1, s.G, s.P, s.X⟩ = (n', er, s') → (er ≠ 0 → (Ino.lev (Ino.thr1 (wOps F nb V) true f t (fnd F)) f t 72 64 (Ino.tabd G) 0 ⟨b1, k1, s.G, s.P, s.X⟩).2 = (er, s')) ∧ (er = 0 → Ino.lev (Ino.thr1 (wOps F nb V) true f t (fnd F)) f t 72 64 (Ino.tabd G) 0 ⟨b1, k1, s.G, s.P, s.X⟩ = (n' :: List.replicate 63 0#32, 0, s')) := by
      intro n' er s' hx
      have hcc : ¬ (72 + 0 * 64 + 64 ≤ f ∨ t ≤ 72 + 0 * 64) := by omega
      unfold Ino.tabd
      refine ⟨fun h => ?_, fun h => ?_⟩
      · rw [Ino.lev_fail (n' := n') (er := er) (s' := s') hcc hx h]
      · subst h
        rw [Ino.lev_step (n' := n') (s' := s') hcc hx, lev_pass _ _ _ (fun j hj => by omega)]
    rw [happ]
    refine ⟨fun h => ?_, fun G' k' h => ?_⟩
    · have h28 := l1 h
      cases hx : Ino.thr1 (wOps F nb V) true f t (fnd F) 72 (G 130) ⟨b1, k1, s.G, s.P, s.X⟩ with
      | mk n' r =>
        obtain ⟨er, s2⟩ := r
        rw [hx] at h28
        have h28 : er = 28 := h28
        subst h28
        have hl := (hlevE n' 28 s2 hx).1 (by decide)
        show (Ino.thr _ true _ (G 129) s).2.1 = 28
        cases hy : Ino.lev (Ino.thr1 (wOps F nb V) true f t (fnd F)) f t 72 64 (Ino.tabd G) 0 ⟨b1, k1, s.G, s.P, s.X⟩ with
        | mk l r =>
          rw [hy] at hl
          obtain rfl : r = (28, s2) := hl
          rw [Ino.thr_level hnh ho hy (by decide)]
    · obtain ⟨b', hx⟩ := l2 G' k' h
      have hlv := (hlevE _ 0 _ hx).2 rfl
      obtain ⟨n1, _⟩ := ensure_nz hF h
      have h129 : G' 129 = G1 129 := ensure_else h 129 (by simp [Ino.mem_span]; omega)
      have hnow : G' 130 :: List.replicate 63 0#32 = Ino.tabd G' := rfl
      rw [hnow] at hlv
      have hnz : Ino.tabd G' ≠ Ino.zT := fun e => n1 130 List.mem_cons_self (by
        have : (Ino.tabd G')[0]? = Ino.zT[0]? := by rw [e]
        simpa [Ino.tabd, Ino.zT] using this)
      have hsp : (Ino.span (max f 72) t).map (fun p => (p, G' p, decide (G1 p = 0))) = spots G G' (Ino.span (max f 72) t) := List.map_congr_left fun p hp => by
        have := Ino.mem_span.1 hp
        rw [hG1 p (by omega)]
      rw [hsp, e2] at hlv
      have hpi : (if Ino.tab2 G' = Ino.tab2 G then [] else [((G' 130).toNat, Ino.tabB (Ino.tab2 G'))]) = putIf True (G' 130) (Ino.tab2 G') (Ino.tab2 G) := by unfold putIf; rw [if_pos trivial]
      rw [hpi] at hlv
      by_cases hw : Ino.tabd G' = Ino.tabd G
      · refine ⟨b', ?_⟩
        rw [show putIf True (G' 129) (Ino.tabd G') (Ino.tabd G) = [] by unfold putIf; rw [if_pos trivial, if_pos hw], List.append_nil, h129]
        have := Ino.thr_same (lv := fun l s => Ino.lev (Ino.thr1 (wOps F nb V) true f t (fnd F)) f t 72 64 l 0 s) hnh ho hlv hnz hw
        exact this
      · refine ⟨b' + 1, ?_⟩
        rw [show putIf True (G' 129) (Ino.tabd G') (Ino.tabd G) = [((G' 129).toNat, Ino.tabB (Ino.tabd G'))] by unfold putIf; rw [if_pos trivial, if_neg hw], h129]
        have := Ino.thr_put (lv := fun l s => Ino.lev (Ino.thr1 (wOps F nb V) true f t (fnd F)) f t 72 64 l 0 s) hnh ho hlv hnz hw
        exact this

end Go.Proofs.YtebdgcoandfocaaGreatDoor

namespace Go.Proofs.YtebdgcoandfocaaGreatDoor
open Go.RowKit

def nums (G : Ino.Gs) : List (BitVec 32) := (List.range 8).map G ++ [G 128, G 129]
theorem nums_length (G : Ino.Gs) : (nums G).length = 10 := by simp [nums]

theorem stB (F : List Nat) (hF : ∀ x ∈ F.map (BitVec.ofNat 32), x ≠ 0) (nb : Nat) (V : Nat → By) (f t : Nat) (G : Ino.Gs) (s : WS) (hok : TabOk nb V G) (ht : t ≤ 128) (hft : f < t) :
    (Ino.ensure (F.map (BitVec.ofNat 32)) G s.k (if f < 72 ∧ 8 < t then 128 :: Ino.span (max f 8) (min t 72) else []) = none → (Ino.lev (Ino.thr1 (wOps F nb V) true f t (fnd F)) f t 8 64 [G 128] 0 s).2.1 = 28) ∧
    (∀ G' k', Ino.ensure (F.map (BitVec.ofNat 32)) G s.k (if f < 72 ∧ 8 < t then 128 :: Ino.span (max f 8) (min t 72) else []) = some (G', k') →
      ∃ b', Ino.lev (Ino.thr1 (wOps F nb V) true f t (fnd F)) f t 8 64 [G 128] 0 s = ([G' 128], 0, ⟨b', k', s.G, s.P ++ putIf (f < 72 ∧ 8 < t) (G' 128) (Ino.tab1 G') (Ino.tab1 G), s.X ++ spots G G' (if f < 72 ∧ 8 < t then Ino.span (max f 8) (min t 72) else [])⟩)) := by
  by_cases hc : f < 72 ∧ 8 < t
  · have hcc : ¬ (8 + 0 * 64 + 64 ≤ f ∨ t ≤ 8 + 0 * 64) := by omega
    rw [if_pos hc, if_pos hc]
    obtain ⟨h1, h2⟩ := one_ens F hF nb V f t G s hok hc hft ht
    refine ⟨fun h => ?_, fun G' k' h => ?_⟩
    · have h28 := h1 h
      cases hx : Ino.thr1 (wOps F nb V) true f t (fnd F) 8 (G 128) s with
      | mk n' r =>
        obtain ⟨er, s'⟩ := r
        rw [hx] at h28
        have h28 : er = 28 := h28
        subst h28
        rw [Ino.lev_fail (n' := n') (er := 28) (s' := s') hcc hx (by decide)]
    · obtain ⟨b', hx⟩ := h2 G' k' h
      refine ⟨b', ?_⟩
      rw [Ino.lev_step hcc hx, Ino.lev_nil]
      unfold putIf
      rw [if_pos trivial, if_pos hc]
  · rw [if_neg hc, if_neg hc, Ino.ensure_nil]
    refine ⟨(fun h => by cases h), fun G' k' h => ?_⟩
    obtain ⟨rfl, rfl⟩ : G = G' ∧ s.k = k' := by simpa using h
    refine ⟨s.b, ?_⟩
    rw [Ino.lev_skip (by omega), Ino.lev_nil]
    unfold putIf spots
    rw [if_neg hc]
    simp

theorem stC (F : List Nat) (hF : ∀ x ∈ F.map (BitVec.ofNat 32), x ≠ 0) (nb : Nat) (V : Nat → By) (f t : Nat) (G : Ino.Gs) (s : WS) (ht0 : G 130 = 0 → Ino.tab2 G = Ino.zT) (ht1 : G 130 ≠ 0 → (G 130).toNat < nb ∧ tabOf (V (G 130).toNat) = Ino.tab2 G) (hd0 : G 129 = 0 → Ino.tabd G = Ino.zT) (hd1 : G 129 ≠ 0 → (G 129).toNat < nb ∧ tabOf (V (G 129).toNat) = Ino.tabd G) (ht : t ≤ 128) (hft : f < t) :
    (Ino.ensure (F.map (BitVec.ofNat 32)) G s.k (if 72 < t then 129 :: 130 :: Ino.span (max f 72) t else []) = none → (Ino.lev (Ino.thr2 (wOps F nb V) true f t (fnd F)) f t 72 4096 [G 129] 0 s).2.1 = 28) ∧
    (∀ G' k', Ino.ensure (F.map (BitVec.ofNat 32)) G s.k (if 72 < t then 129 :: 130 :: Ino.span (max f 72) t else []) = some (G', k') →
      ∃ b', Ino.lev (Ino.thr2 (wOps F nb V) true f t (fnd F)) f t 72 4096 [G 129] 0 s = ([G' 129], 0, ⟨b', k', s.G, s.P ++ putIf (72 < t) (G' 130) (Ino.tab2 G') (Ino.tab2 G) ++ putIf (72 < t) (G' 129) (Ino.tabd G') (Ino.tabd G), s.X ++ spots G G' (if 72 < t then Ino.span (max f 72) t else [])⟩)) := by
  by_cases hc : 72 < t
  · have hcc : ¬ (72 + 0 * 4096 + 4096 ≤ f ∨ t ≤ 72 + 0 * 4096) := by omega
    rw [if_pos hc, if_pos hc]
    obtain ⟨h1, h2⟩ := dbl_ens F hF nb V f t G s ht0 ht1 hd0 hd1 hc ht hft
    refine ⟨fun h => ?_, fun G' k' h => ?_⟩
    · have h28 := h1 h
      cases hx : Ino.thr2 (wOps F nb V) true f t (fnd F) 72 (G 129) s with
      | mk n' r =>
        obtain ⟨er, s'⟩ := r
        rw [hx] at h28
        have h28 : er = 28 := h28
        subst h28
        rw [Ino.lev_fail (n' := n') (er := 28) (s' := s') hcc hx (by decide)]
    · obtain ⟨b', hx⟩ := h2 G' k' h
      refine ⟨b', ?_⟩
      rw [Ino.lev_step hcc hx, Ino.lev_nil]
      unfold putIf
      rw [if_pos trivial, if_pos trivial, if_pos hc, if_pos hc]
  · rw [if_neg hc, if_neg hc, Ino.ensure_nil]
    refine ⟨(fun h => by cases h), fun G' k' h => ?_⟩
    obtain ⟨rfl, rfl⟩ : G = G' ∧ s.k = k' := by simpa using h
    refine ⟨s.b, ?_⟩
    rw [Ino.lev_skip (by omega), Ino.lev_nil]
    unfold putIf spots
    rw [if_neg hc, if_neg hc]
    simp

def wPuts (f t : Nat) (G G' : Ino.Gs) : List (Nat × By) := putIf (f < 72 ∧ 8 < t) (G' 128) (Ino.tab1 G') (Ino.tab1 G) ++ putIf (72 < t) (G' 130) (Ino.tab2 G') (Ino.tab2 G) ++ putIf (72 < t) (G' 129) (Ino.tabd G') (Ino.tabd G)
def wSpan (f t : Nat) : List Nat := Ino.span f (min t 8) ++ (if f < 72 ∧ 8 < t then Ino.span (max f 8) (min t 72) else []) ++ (if 72 < t then Ino.span (max f 72) t else [])

theorem ovr_ens (F : List Nat) (hF : ∀ x ∈ F.map (BitVec.ofNat 32), x ≠ 0) (nb : Nat) (V : Nat → By) (f t : Nat) (G : Ino.Gs) (s : WS) (hok : TabOk nb V G) (ht : t ≤ 128) (hft : f < t) :
    (Ino.ensure (F.map (BitVec.ofNat 32)) G s.k (Ino.idx f t) = none → (Ino.ovr (wOps F nb V) true f t (fnd F) (nums G) s).2.1 = 28) ∧
    (∀ G' k', Ino.ensure (F.map (BitVec.ofNat 32)) G s.k (Ino.idx f t) = some (G', k') →
      ∃ b', Ino.ovr (wOps F nb V) true f t (fnd F) (nums G) s = (nums G', 0, ⟨b', k', s.G, s.P ++ wPuts f t G G', s.X ++ spots G G' (wSpan f t)⟩)) := by
  have n8 : (nums G).take 8 = (List.range 8).map G := by unfold nums; rw [List.take_left' (by simp)]
  have n9 : ((nums G).drop 8).take 1 = [G 128] := by unfold nums; rw [List.drop_left' (by simp)]; rfl
  have n10 : (nums G).drop 9 = [G 129] := by unfold nums; rfl
  obtain ⟨a1, a2⟩ := lev_ens F f t 0 ((List.range 8).map G) 0 s G (by
    intro j n hn _ _
    rw [List.getElem?_map] at hn
    obtain ⟨q, hq, rfl⟩ := Option.map_eq_some_iff.1 hn
    have : q = j := by
      obtain ⟨h1, h2⟩ := List.getElem?_eq_some_iff.1 hq
      simpa using h2.symm
    rw [this]; simp)
  simp only [List.length_map, List.length_range, Nat.zero_add, Nat.max_zero] at a1 a2
  have hsp : Ino.idx f t = Ino.span f (min t 8) ++ ((if f < 72 ∧ 8 < t then 128 :: Ino.span (max f 8) (min t 72) else []) ++ (if 72 < t then 129 :: 130 :: Ino.span (max f 72) t else [])) := by unfold Ino.idx; rw [List.append_assoc]
  rw [hsp, Ino.ensure_app]
  cases hA : Ino.ensure (F.map (BitVec.ofNat 32)) G s.k (Ino.span f (min t 8)) with
  | none =>
    refine ⟨fun _ => ?_, (fun G' k' h => by cases h)⟩
    have h28 := a1 hA
    unfold Ino.ovr
    dsimp only
    rw [n8, if_pos (by rw [h28]; decide)]
    exact h28
  | some x =>
    obtain ⟨G1, k1⟩ := x
    obtain ⟨l1, b1, e1, hl1, hj1⟩ := a2 G1 k1 hA
    have g1 : ∀ p, 8 ≤ p → G1 p = G p := fun p hp => ensure_else hA p (fun h => by have := Ino.mem_span.1 h; omega)
    have hl : l1 = (List.range 8).map G1 := by
      apply List.ext_getElem?
      intro j
      by_cases hj : j < 8
      · rw [hj1 j (G j) (by simp [hj]), List.getElem?_map, List.getElem?_range hj]
        by_cases hc : f ≤ 0 + j ∧ 0 + j < t
        · simp at hc ⊢; intro h1; omega
        · have : G1 j = G j := ensure_else hA j (fun h => by have := Ino.mem_span.1 h; omega)
          simp [this]
      · rw [List.getElem?_eq_none (by rw [hl1]; omega), List.getElem?_eq_none (by simp; omega)]
    subst hl
    have hok1 := hok.upd g1
    obtain ⟨c1, c2⟩ := stB F hF nb V f t G1 ⟨b1, k1, s.G, s.P, s.X ++ (Ino.span f (min t 8)).map fun p => (p, G1 p, decide (G p = 0))⟩ hok1 ht hft
    rw [g1 128 (by omega)] at c1 c2
    show (Ino.ensure _ G1 k1 _ = none → _) ∧ (∀ G' k', Ino.ensure _ G1 k1 _ = some (G', k') → _)
    rw [Ino.ensure_app]
    cases hB : Ino.ensure (F.map (BitVec.ofNat 32)) G1 k1 (if f < 72 ∧ 8 < t then 128 :: Ino.span (max f 8) (min t 72) else []) with
    | none =>
      refine ⟨fun _ => ?_, (fun G' k' h => by cases h)⟩
      have h28 := c1 hB
      unfold Ino.ovr
      dsimp only
      rw [n8, e1, n9]
      dsimp only
      rw [if_neg (by decide), if_pos (by rw [h28]; decide)]
      exact h28
    | some x =>
      obtain ⟨G2, k2⟩ := x
      obtain ⟨b2, e2⟩ := c2 G2 k2 hB
      have g2 : ∀ p, 72 ≤ p → p ≠ 128 → G2 p = G p := fun p hp hne => (ensure_else hB p (fun h => by
        split at h
        · rcases List.mem_cons.1 h with e | h
          · exact hne e
          · have := Ino.mem_span.1 h; omega
        · cases h)).trans (g1 p (by omega))
      have et2 : Ino.tab2 G2 = Ino.tab2 G := Ino.tab2_eq.2 fun p h1 h2 => g2 p h1 (by omega)
      have etd : Ino.tabd G2 = Ino.tabd G := Ino.tabd_eq (g2 130 (by omega) (by omega))
      obtain ⟨d1, d2⟩ := stC F hF nb V f t G2 ⟨b2, k2, s.G, s.P ++ putIf (f < 72 ∧ 8 < t) (G2 128) (Ino.tab1 G2) (Ino.tab1 G1), (s.X ++ (Ino.span f (min t 8)).map fun p => (p, G1 p, decide (G p = 0))) ++ spots G1 G2 (if f < 72 ∧ 8 < t then Ino.span (max f 8) (min t 72) else [])⟩ (by rw [g2 130 (by omega) (by omega), et2]; exact hok.t0) (by rw [g2 130 (by omega) (by omega), et2]; exact hok.t1) (by rw [g2 129 (by omega) (by omega), etd]; exact hok.d0) (by rw [g2 129 (by omega) (by omega), etd]; exact hok.d1) ht hft
      rw [g2 129 (by omega) (by omega)] at d1 d2
      show (Ino.ensure _ G2 k2 _ = none → _) ∧ (∀ G' k', Ino.ensure _ G2 k2 _ = some (G', k') → _)
      refine ⟨fun h => ?_, fun G' k' h => ?_⟩
      · have h28 := d1 h
        unfold Ino.ovr
        dsimp only
        rw [n8, e1, n9, n10]
        dsimp only
        rw [if_neg (by decide), e2]
        dsimp only
        rw [if_neg (by decide), if_pos (by rw [h28]; decide)]
        exact h28
      · obtain ⟨b3, e3⟩ := d2 G' k' h
        have g3 : ∀ p, (72 ≤ p → ¬ (72 < t)) ∨ (p < 72 ∨ p = 128) → G' p = G2 p := fun p hp => ensure_else h p (fun hh => by
          split at hh
          · rename_i hc
            rcases List.mem_cons.1 hh with e | hh
            · rcases hp with hp | hp
              · exact hp (by omega) hc
              · omega
            · rcases List.mem_cons.1 hh with e | hh
              · rcases hp with hp | hp
                · exact hp (by omega) hc
                · omega
              · have := Ino.mem_span.1 hh
                rcases hp with hp | hp
                · exact hp (by omega) hc
                · omega
          · cases hh)
        have g21 : ∀ p, p < 8 → G2 p = G1 p := fun p hp => ensure_else hB p (fun hh => by
          split at hh
          · rcases List.mem_cons.1 hh with e | hh
            · omega
            · have := Ino.mem_span.1 hh; omega
          · cases hh)
        refine ⟨b3, ?_⟩
        unfold Ino.ovr
        dsimp only
        rw [n8, e1, n9, n10]
        dsimp only
        rw [if_neg (by decide), e2]
        dsimp only
        rw [if_neg (by decide), e3]
        dsimp only
        rw [if_neg (by decide)]
        have q1 : (List.range 8).map G1 ++ [G2 128] ++ [G' 129] = nums G' := by
          unfold nums
          rw [List.append_assoc]
          congr 1
          · refine List.map_congr_left fun p hp => ?_
            have := List.mem_range.1 hp
            rw [g3 p (.inr (.inl (by omega))), g21 p this]
          · rw [g3 128 (.inr (.inr rfl))]; rfl
        have q2 : Ino.tab1 G2 = Ino.tab1 G' := Ino.tab1_eq.2 fun p _ h2 => (g3 p (.inr (.inl h2))).symm
        have q3 : Ino.tab1 G1 = Ino.tab1 G := Ino.tab1_eq.2 fun p h1 _ => g1 p h1
        have q4 : G2 128 = G' 128 := (g3 128 (.inr (.inr rfl))).symm
        rw [q1, q2, q3, q4, et2, etd]
        have x1 : (Ino.span f (min t 8)).map (fun p => (p, G1 p, decide (G p = 0))) = spots G G' (Ino.span f (min t 8)) := List.map_congr_left fun p hp => by
          have := Ino.mem_span.1 hp
          rw [g3 p (.inr (.inl (by omega))), g21 p (by omega)]
        have x2 : spots G1 G2 (if f < 72 ∧ 8 < t then Ino.span (max f 8) (min t 72) else []) = spots G G' (if f < 72 ∧ 8 < t then Ino.span (max f 8) (min t 72) else []) := spots_congr fun p hp => by
          split at hp
          · have := Ino.mem_span.1 hp
            exact ⟨g1 p (by omega), (g3 p (.inr (.inl (by omega)))).symm⟩
          · cases hp
        have x3 : spots G2 G' (if 72 < t then Ino.span (max f 72) t else []) = spots G G' (if 72 < t then Ino.span (max f 72) t else []) := spots_congr fun p hp => by
          split at hp
          · have := Ino.mem_span.1 hp
            exact ⟨g2 p (by omega) (by omega), rfl⟩
          · cases hp
        rw [x1, x2, x3]
        unfold wPuts wSpan spots
        simp only [List.map_append, List.append_assoc]

end Go.Proofs.YtebdgcoandfocaaGreatDoor
