/-
  Operations by their keys: one list alone is in order.
-/
import Derived.Test.YtgophojgofmkeaaZj
namespace Go.Proofs.Ytgophojgofmkeaa.Ck
open Go.RowKit Go.Maps

def strip (e : QE) : OT := ⟨e.t, e.n, e.k⟩
def enumO (b : Nat) : List OT → List QE
  | [] => []
  | x :: l => ⟨x.t, x.n, x.k, b⟩ :: enumO (b + 1) l
theorem strip_enum : ∀ (l : List OT) (b : Nat), (enumO b l).map strip = l
  | [], _ => rfl
  | x :: l, b => by rw [enumO, List.map_cons, strip_enum l]; rfl
theorem enumO_length : ∀ (l : List OT) (b : Nat), (enumO b l).length = l.length
  | [], _ => rfl
  | x :: l, b => by rw [enumO, List.length_cons, enumO_length l, List.length_cons]
theorem enumO_snoc : ∀ (l : List OT) (b : Nat) (x : OT), enumO b (l ++ [x]) = enumO b l ++ [⟨x.t, x.n, x.k, b + l.length⟩]
  | [], _, _ => rfl
  | y :: l, b, x => by rw [List.cons_append, enumO, enumO_snoc l, enumO, List.cons_append, List.length_cons, show b + 1 + l.length = b + (l.length + 1) by omega]
theorem enumO_came : ∀ (l : List OT) (b : Nat), ∀ e ∈ enumO b l, b ≤ e.came ∧ e.came < b + l.length
  | [], _, e, h => by simp [enumO] at h
  | x :: l, b, e, h => by
    rw [enumO, List.mem_cons] at h
    rcases h with rfl | h
    · simp
    · have := enumO_came l (b + 1) e h
      simp only [List.length_cons]
      omega
/-- All stamps are numbers of 64 bits. -/
def RngL (l : List OT) : Prop := ∀ x ∈ l, Rng x.t x.n
theorem enumO_ok {l : List OT} (h : RngL l) (hl : l.length < 1000000) : ∀ e ∈ enumO 0 l, e.ok := by
  have key : ∀ (l : List OT) (b : Nat), RngL l → ∀ e ∈ enumO b l, Rng e.t e.n := by
    intro l
    induction l with
    | nil => intro b _ e he; simp [enumO] at he
    | cons x l ih =>
      intro b hr e he
      rw [enumO, List.mem_cons] at he
      rcases he with rfl | he
      · exact hr x (by simp)
      · exact ih (b + 1) (fun y hy => hr y (by simp [hy])) e he
  intro e he
  have := enumO_came l 0 e he
  exact ⟨key l 0 h e he, by omega⟩

/-- Keys rise. -/
def Rise (key : QE → Nat) (l : List QE) : Prop := l.Pairwise fun a b => key a < key b
theorem rise_unique {key : QE → Nat} : ∀ {l m : List QE}, Rise key l → Rise key m → l.Perm m → l = m
  | [], m, _, _, h => (List.Perm.nil_eq h)
  | x :: l, [], _, _, h => by have := h.length_eq; simp at this
  | x :: l, y :: m, h1, h2, h => by
    have a1 := List.pairwise_cons.1 h1
    have a2 := List.pairwise_cons.1 h2
    have e : x = y := by
      have hx : x ∈ y :: m := h.mem_iff.1 (by simp)
      have hy : y ∈ x :: l := h.mem_iff.2 (by simp)
      rcases List.mem_cons.1 hx with e | hx
      · exact e
      · rcases List.mem_cons.1 hy with e | hy
        · exact e.symm
        · have b1 := a2.1 x hx
          have b2 := a1.1 y hy
          omega
    subst e
    rw [rise_unique a1.2 a2.2 (List.Perm.cons_inv h)]
/-- One is put in: ahead of it those with lesser keys, behind it those with greater ones. -/
theorem rise_ins {key : QE → Nat} {l : List QE} {x : QE} {j : Nat} (h : Rise key l) (h1 : ∀ a ∈ l.take j, key a < key x) (h2 : ∀ a ∈ l.drop j, key x < key a) : Rise key (l.take j ++ x :: l.drop j) := by
  unfold Rise at *
  have h' := h
  rw [← List.take_append_drop j l, List.pairwise_append] at h'
  rw [List.pairwise_append]
  refine ⟨h'.1, List.pairwise_cons.2 ⟨h2, h'.2.1⟩, fun a ha b hb => ?_⟩
  rcases List.mem_cons.1 hb with rfl | hb
  · exact h1 a ha
  · exact h'.2.2 a ha b hb
theorem rise_snoc {key : QE → Nat} {l : List QE} {x : QE} (h : Rise key l) (h1 : ∀ a ∈ l, key a < key x) : Rise key (l ++ [x]) := by
  unfold Rise at *
  rw [List.pairwise_append]
  exact ⟨h, by simp, fun a ha b hb => by rw [List.mem_singleton.1 hb]; exact h1 a ha⟩

theorem enumO_keys {l : List OT} {bk : Bool} (h : RngL l) (hl : l.length < 1000000) : ((enumO 0 l).map (keyE bk)).Nodup := by
  have key : ∀ (l : List OT) (b : Nat), (enumO b l).Pairwise fun a c => a.came < c.came := by
    intro l
    induction l with
    | nil => intro b; exact List.Pairwise.nil
    | cons x l ih =>
      intro b
      rw [enumO, List.pairwise_cons]
      exact ⟨fun c hc => by have := (enumO_came l (b + 1) c hc).1; show b < c.came; omega, ih _⟩
  have ok := enumO_ok h hl
  unfold List.Nodup
  rw [List.pairwise_map]
  refine List.Pairwise.imp_of_mem ?_ (key l 0)
  intro a c ha hc hlt e
  have := (keyE_inj (ok a ha) (ok c hc) e).2.2
  omega

/-- What the popping of a queue keeps: those that are out, in order, and those that are in it. -/
structure Outs (key : QE → Nat) (E P L : List QE) : Prop where
  perm : (P ++ L).Perm E
  rise : Rise key P
  ahead : ∀ a ∈ P, ∀ b ∈ L, key a < key b
theorem Outs.start (key : QE → Nat) (E : List QE) : Outs key E [] E := ⟨List.Perm.refl _, List.Pairwise.nil, fun a ha => by simp at ha⟩
theorem Outs.pop {key : QE → Nat} {E P L L' : List QE} {x : QE} (h : Outs key E P L) (hd : (E.map key).Nodup) (hle : ∀ b ∈ L, key x ≤ key b) (hp : (L' ++ [x]).Perm L) : Outs key E (P ++ [x]) L' := by
  have hx : x ∈ L := hp.mem_iff.1 (by simp)
  have hp2 : (P ++ [x] ++ L').Perm E := by
    refine List.Perm.trans ?_ h.perm
    rw [List.append_assoc]
    exact List.Perm.append_left P ((List.perm_append_comm (l₁ := [x]) (l₂ := L')).trans hp)
  refine ⟨hp2, rise_snoc h.rise (fun a ha => h.ahead a ha x hx), fun a ha b hb => ?_⟩
  have hbL : b ∈ L := hp.mem_iff.1 (by simp [hb])
  rcases List.mem_append.1 ha with ha | ha
  · exact h.ahead a ha b hbL
  · rw [List.mem_singleton.1 ha]
    have h1 := hle b hbL
    have h2 := (hp2.map key).nodup_iff.2 hd
    rw [List.append_assoc, List.map_append, List.nodup_append] at h2
    have h3 := h2.2.1
    simp only [List.singleton_append, List.map_cons, List.nodup_cons] at h3
    have : key x ≠ key b := fun e => h3.1 (e ▸ List.mem_map_of_mem hb)
    omega
theorem Outs.done {key : QE → Nat} {E P : List QE} (h : Outs key E P []) : P.Perm E ∧ Rise key P := ⟨by have := h.perm; simpa using this, h.rise⟩

/-- The operations in the order of their stamps, equal ones as they stood. -/
def IsSorted (l m : List OT) : Prop := ∃ P, m = P.map strip ∧ P.Perm (enumO 0 l) ∧ Rise (keyE false) P
theorem isSorted_unique {l m m' : List OT} (h : IsSorted l m) (h' : IsSorted l m') : m = m' := by
  obtain ⟨P, rfl, h1, h2⟩ := h
  obtain ⟨P', rfl, h1', h2'⟩ := h'
  rw [rise_unique h2 h2' (h1.trans h1'.symm)]
theorem isSorted_length {l m : List OT} (h : IsSorted l m) : m.length = l.length := by
  obtain ⟨P, rfl, h1, _⟩ := h
  rw [List.length_map, h1.length_eq, enumO_length]
end Go.Proofs.Ytgophojgofmkeaa.Ck
