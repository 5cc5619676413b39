/-
  What a file knows of its versions, as lists alone.
-/
import Derived.Test.YteimjkicinjcgaaKLn

namespace Go.Proofs.Yteimjkicinjcgaa.Ck.Y.L
open Go.RowKit Go.Maps

def VC.key (c : VC) : KP := (c.t, c.n)
def ltC (x y : VC) : Prop := lessB x.t x.n y.t y.n = true
/-- What a file knows: for each node the most that was seen; its heads, by rising stamps. -/
structure HF (S : List VC) (sn : List Int) (H : List VC) : Prop where
  seen : ∀ k, k < 64 → Vc.atOf sn k = Vc.maxAt (S.map (·.ns)) k
  rise : H.Pairwise ltC
  mem : ∀ x, x ∈ H ↔ x ∈ S ∧ seenB x.sq x.n sn = false
theorem ltC_trans {x y z : VC} (h : ltC x y) (k : ltC y z) : ltC x z := by
  unfold ltC at *
  rw [lessB_true] at *; omega
theorem ltC_irrefl (x : VC) : ¬ ltC x x := by
  unfold ltC
  rw [lessB_true]; omega
theorem ltC_or {x y : VC} (h : ¬ ltC x y) (hk : x.key ≠ y.key) : ltC y x := by
  unfold ltC at *
  rw [lessB_true] at *
  have : ¬ (x.t = y.t ∧ x.n = y.n) := fun e => hk (Prod.ext e.1 e.2)
  omega
theorem HF.nil : HF [] [] [] := ⟨fun k _ => by simp [Vc.atOf, Vc.maxAt], List.Pairwise.nil, fun x => by simp⟩
theorem seeN_at {sn ns : List Int} (k : Nat) (hk : k < 64) : Vc.atOf (seeN sn ns) k = max (Vc.atOf sn k) (Vc.atOf ns k) := by
  unfold seeN
  split
  · next hl =>
    have := (Vc.leqB_iff ns sn).1 hl k hk
    omega
  · rw [Vc.at_max hk, Vc.maxAt_two]
theorem atZ_see {sn ns : List Int} (z : Int) : Vc.atZ (seeN sn ns) z = max (Vc.atZ sn z) (Vc.atZ ns z) := by
  unfold Vc.atZ
  split
  · next hz => exact seeN_at _ (by omega)
  · rfl
theorem HF.seen_add {S : List VC} {sn : List Int} {H : List VC} (h : HF S sn H) (c : VC) : ∀ k, k < 64 → Vc.atOf (seeN sn c.ns) k = Vc.maxAt ((S ++ [c]).map (·.ns)) k := by
  intro k hk
  rw [seeN_at k hk, List.map_append, List.map_cons, List.map_nil, Vc.maxAt_snoc, h.seen k hk]
theorem seenB_less {sn ns : List Int} {sq n : Int} (hf : seenB sq n (seeN sn ns) = false) : seenB sq n sn = false := by
  unfold seenB at *
  rw [atZ_see] at hf
  simp only [decide_eq_false_iff_not] at *
  omega
def keepC (sn : List Int) (x : VC) : Bool := !seenB x.sq x.n sn
theorem HF.mem_add {S : List VC} {sn : List Int} {H : List VC} (h : HF S sn H) (c x : VC) : x ∈ H.filter (keepC (seeN sn c.ns)) ↔ x ∈ S ∧ seenB x.sq x.n (seeN sn c.ns) = false := by
  rw [List.mem_filter, h.mem]
  unfold keepC
  constructor
  · rintro ⟨⟨h1, _⟩, h2⟩; exact ⟨h1, by simpa using h2⟩
  · rintro ⟨h1, h2⟩; exact ⟨⟨h1, seenB_less h2⟩, by simpa using h2⟩
/-- One more, that was seen already. -/
theorem HF.add_seen {S : List VC} {sn : List Int} {H : List VC} (h : HF S sn H) (c : VC) (hs : seenB c.sq c.n (seeN sn c.ns) = true) : HF (S ++ [c]) (seeN sn c.ns) (H.filter (keepC (seeN sn c.ns))) := by
  refine ⟨h.seen_add c, h.rise.filter _, fun x => ?_⟩
  rw [h.mem_add, List.mem_append, List.mem_singleton]
  constructor
  · rintro ⟨h1, h2⟩; exact ⟨.inl h1, h2⟩
  · rintro ⟨h1 | rfl, h2⟩
    · exact ⟨h1, h2⟩
    · rw [hs] at h2; cases h2
/-- One more head. -/
theorem HF.add_new {S : List VC} {sn : List Int} {H : List VC} (h : HF S sn H) (c : VC) (hk : c.key ∉ S.map VC.key) (hs : seenB c.sq c.n (seeN sn c.ns) = false) {i : Nat}
    (hlo : ∀ x ∈ (H.filter (keepC (seeN sn c.ns))).take i, ltC x c) (hhi : ∀ x ∈ (H.filter (keepC (seeN sn c.ns))).drop i, ¬ ltC x c) :
    HF (S ++ [c]) (seeN sn c.ns) ((H.filter (keepC (seeN sn c.ns))).take i ++ c :: (H.filter (keepC (seeN sn c.ns))).drop i) := by
  have hr : (H.filter (keepC (seeN sn c.ns))).Pairwise ltC := h.rise.filter _
  have hm : ∀ x, x ∈ (H.filter (keepC (seeN sn c.ns))).take i ++ (H.filter (keepC (seeN sn c.ns))).drop i ↔ x ∈ S ∧ seenB x.sq x.n (seeN sn c.ns) = false := fun x => by rw [List.take_append_drop]; exact h.mem_add c x
  have hr2 : ((H.filter (keepC (seeN sn c.ns))).take i ++ (H.filter (keepC (seeN sn c.ns))).drop i).Pairwise ltC := by rw [List.take_append_drop]; exact hr
  generalize (H.filter (keepC (seeN sn c.ns))).take i = A at *
  generalize (H.filter (keepC (seeN sn c.ns))).drop i = B at *
  have hp := List.pairwise_append.1 hr2
  refine ⟨h.seen_add c, List.pairwise_append.2 ⟨hp.1, List.pairwise_cons.2 ⟨fun b hb => ?_, hp.2.1⟩, fun a ha b hb => ?_⟩, fun x => ?_⟩
  · refine ltC_or (hhi b hb) fun e => hk ?_
    rw [← e]
    exact List.mem_map_of_mem ((hm b).1 (List.mem_append.2 (.inr hb))).1
  · rcases List.mem_cons.1 hb with rfl | hb
    · exact hlo a ha
    · exact hp.2.2 a ha b hb
  · have e : x ∈ A ++ c :: B ↔ x = c ∨ x ∈ A ++ B := by simp [or_left_comm]
    rw [e, hm, List.mem_append, List.mem_singleton]
    constructor
    · rintro (rfl | ⟨h1, h2⟩)
      · exact ⟨.inr rfl, hs⟩
      · exact ⟨.inl h1, h2⟩
    · rintro ⟨h1 | rfl, h2⟩
      · exact .inr ⟨h1, h2⟩
      · exact .inl rfl
/-- The heads are one list alone. -/
theorem rise_unique : ∀ {l m : List VC}, l.Pairwise ltC → m.Pairwise ltC → (∀ x, x ∈ l ↔ x ∈ m) → l = m
  | [], [], _, _, _ => rfl
  | [], y :: m, _, _, h => by have := (h y).2 List.mem_cons_self; simp at this
  | x :: l, [], _, _, h => by have := (h x).1 List.mem_cons_self; simp at this
  | x :: l, y :: m, hl, hm, h => by
    have h1 := List.pairwise_cons.1 hl
    have h2 := List.pairwise_cons.1 hm
    have e : x = y := by
      rcases List.mem_cons.1 ((h x).1 List.mem_cons_self) with e | e
      · exact e
      · rcases List.mem_cons.1 ((h y).2 List.mem_cons_self) with e' | e'
        · exact e'.symm
        · exact absurd (ltC_trans (h1.1 y e') (h2.1 x e)) (ltC_irrefl x)
    subst e
    rw [rise_unique h1.2 h2.2 fun z => ?_]
    constructor
    · intro hz
      rcases List.mem_cons.1 ((h z).1 (List.mem_cons_of_mem _ hz)) with e | e
      · subst e; exact absurd (h1.1 z hz) (ltC_irrefl z)
      · exact e
    · intro hz
      rcases List.mem_cons.1 ((h z).2 (List.mem_cons_of_mem _ hz)) with e | e
      · subst e; exact absurd (h2.1 z hz) (ltC_irrefl z)
      · exact e
/-- One that no other has seen. -/
def headC (S : List VC) (x : VC) : Bool := S.all fun c => !seenB x.sq x.n c.ns
theorem HF.headC {S : List VC} {sn : List Int} {H : List VC} (h : HF S sn H) {x : VC} (hq : 1 ≤ x.sq) : seenB x.sq x.n sn = false ↔ headC S x = true := by
  unfold L.headC seenB
  simp only [decide_eq_false_iff_not, List.all_eq_true, Bool.not_eq_true']
  unfold Vc.atZ
  by_cases hz : 0 ≤ x.n ∧ x.n < 64
  · simp only [hz, and_self, if_true]
    rw [h.seen _ (by omega)]
    have key' : ∀ l : List VC, (x.sq ≤ Vc.maxAt (l.reverse.map (·.ns)) x.n.toNat ↔ ∃ c ∈ l.reverse, x.sq ≤ Vc.atOf c.ns x.n.toNat) := by
      intro l
      induction l with
      | nil => simp [Vc.maxAt]; omega
      | cons c l ih =>
        rw [List.reverse_cons, List.map_append, List.map_cons, List.map_nil, Vc.maxAt_snoc]
        constructor
        · intro hm
          by_cases hc : x.sq ≤ Vc.atOf c.ns x.n.toNat
          · exact ⟨c, by simp, hc⟩
          · obtain ⟨d, hd, e⟩ := ih.1 (by omega)
            exact ⟨d, by simp [hd], e⟩
        · rintro ⟨d, hd, e⟩
          rcases List.mem_append.1 hd with hd | hd
          · have := ih.2 ⟨d, hd, e⟩; omega
          · have : d = c := by simpa using hd
            subst this; omega
    have key := key' S.reverse
    rw [List.reverse_reverse] at key
    rw [key]
    constructor
    · intro hn c hc hle
      exact hn ⟨c, hc, hle⟩
    · rintro hn ⟨c, hc, hle⟩
      exact hn c hc hle
  · simp only [hz, if_false]
    constructor
    · intro _ c _; omega
    · intro _; omega

end Go.Proofs.Yteimjkicinjcgaa.Ck.Y.L
