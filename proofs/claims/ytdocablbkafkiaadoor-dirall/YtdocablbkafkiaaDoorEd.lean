/-
  What a block's bytes give when they are read: the entries that were written.
-/
import Derived.Test.YtdocablbkafkiaaDoorEc
namespace Go.Proofs.YtdocablbkafkiaaDoor.Cd
open Go.RowKit

theorem rbytes_numB (bs rest : List (BitVec 8)) (h : bs.length ≤ 65536) : rbytes (some (numB bs.length ++ bs ++ rest)) = (bs, some rest) := by
  unfold rbytes
  rw [List.append_assoc, rnum_numB (bs ++ rest) h (by decide)]
  simp only
  rw [if_neg (by simp), List.take_left' rfl, List.drop_left' rfl]
theorem rent_entB (x : En) (rest : List (BitVec 8)) (h1 : x.name.length ≤ 64) (h2 : x.num ≤ 2147483647) : rent (some (entB x ++ rest)) = (x, some rest) := by
  unfold rent entB
  have e : numB x.name.length ++ bits8 x.name ++ numB x.num ++ rest = numB (bits8 x.name).length ++ bits8 x.name ++ (numB x.num ++ rest) := by
    rw [bits8_length]; simp
  rw [e, rbytes_numB _ _ (by rw [bits8_length]; omega)]
  simp only
  rw [rnum_numB rest (by omega) (Nat.le_refl _), strOf_bits8]
  rfl
theorem rents_entB (rest : List (BitVec 8)) (L : List En) (h : ∀ x ∈ L, x.name.length ≤ 64 ∧ x.num ≤ 2147483647) : ∀ j, j ≤ L.length → rents j (some ((L.map entB).flatten ++ rest)) = (L.take j, some (((L.drop j).map entB).flatten ++ rest))
  | 0, _ => by simp [rents]
  | j + 1, hj => by
    have ih := rents_entB rest L h j (by omega)
    obtain ⟨x, hx⟩ : ∃ x, L[j]? = some x := ⟨_, List.getElem?_eq_getElem (by omega)⟩
    have hxg := List.getElem?_eq_some_iff.1 hx
    have hm := h x (List.mem_of_getElem? hx)
    have e : L.drop j = x :: L.drop (j + 1) := by rw [List.drop_eq_getElem_cons hxg.1, hxg.2]
    rw [rents_succ, ih, e]
    simp only [List.map_cons, List.flatten_cons, List.append_assoc]
    rw [rent_entB x _ hm.1 hm.2, List.take_add_one, hx]
    rfl
/-- A block's bytes are read. -/
theorem img_read (n : Nat) (L : List En) (rest : List (BitVec 8)) (hn : n ≤ 512) (hl : L.length ≤ 7) (h : ∀ x ∈ L, x.name.length ≤ 64 ∧ x.num ≤ 2147483647) :
    rnum 4611686018427387904 (some (imgB n L ++ rest)) = (n, some (numB L.length ++ ((L.map entB).flatten ++ rest))) ∧ rnum 4611686018427387904 (some (numB L.length ++ ((L.map entB).flatten ++ rest))) = (L.length, some ((L.map entB).flatten ++ rest)) ∧
    rents L.length (some ((L.map entB).flatten ++ rest)) = (L, some rest) := by
  refine ⟨?_, rnum_numB _ (by omega) (Nat.le_refl _), ?_⟩
  · unfold imgB
    rw [List.append_assoc, List.append_assoc]
    exact rnum_numB _ (by omega) (Nat.le_refl _)
  · rw [rents_entB rest L h L.length (Nat.le_refl _)]
    simp

theorem Mem_append : ∀ (l m : List En) (P : En → Prop) (q : En), Mem P (l ++ m) q ↔ Mem (Mem P l) m q
  | [], _, _, _ => Iff.rfl
  | _ :: l, m, _, q => Mem_append l m _ q
/-- Puts of names that are apart. -/
theorem Mem_apart : ∀ (l : List En) (P : En → Prop) (q : En), l.Pairwise (fun x y => x.name ≠ y.name) → (∀ x ∈ l, ∀ y, P y → y.name ≠ x.name) → (Mem P l q ↔ P q ∨ q ∈ l)
  | [], P, q, _, _ => by simp [Mem]
  | x :: l, P, q, hp, hP => by
    have hp' := List.pairwise_cons.1 hp
    show Mem (fun q => (P q ∧ q.name ≠ x.name) ∨ q = x) l q ↔ _
    rw [Mem_apart l _ q hp'.2 (fun y hy z hz => by
      rcases hz with hz | rfl
      · exact hP y (List.mem_cons_of_mem _ hy) z hz.1
      · exact hp'.1 y hy)]
    constructor
    · rintro ((⟨h1, _⟩ | h1) | h1)
      · exact .inl h1
      · exact .inr (by rw [h1]; exact List.mem_cons_self ..)
      · exact .inr (List.mem_cons_of_mem _ h1)
    · rintro (h1 | h1)
      · exact .inl (.inl ⟨h1, hP x (List.mem_cons_self ..) q h1⟩)
      · rcases List.mem_cons.1 h1 with h1 | h1
        · exact .inl (.inr h1)
        · exact .inr h1

/-- Piece k of some bytes; the number and the entries that it tells. -/
def pieceB (bs : List (BitVec 8)) (k : Nat) : List (BitVec 8) := (bs.drop (k * 512)).take 512
def pS1 (bs : List (BitVec 8)) (k : Nat) : St := (rnum 4611686018427387904 (some (pieceB bs k))).2
def pC (bs : List (BitVec 8)) (k : Nat) : Nat := (rnum 4611686018427387904 (pS1 bs k)).1
def pS2 (bs : List (BitVec 8)) (k : Nat) : St := (rnum 4611686018427387904 (pS1 bs k)).2
def pEl (bs : List (BitVec 8)) (k : Nat) : List En := (rents (pC bs k) (pS2 bs k)).1
def pAll (bs : List (BitVec 8)) : Nat → List En
  | 0 => []
  | k + 1 => pAll bs k ++ pEl bs k
theorem own_piece {D : List (List En)} (h : Good D) {k : Nat} {L : List En} (hL : D[k]? = some L) : pieceB (dirB D) k = pad (imgB D.length L) := by
  have hk := (List.getElem?_eq_some_iff.1 hL).1
  have e : dirB D = ((D.take k).map fun L => pad (imgB D.length L)).flatten ++ (pad (imgB D.length L) ++ ((D.drop (k + 1)).map fun L => pad (imgB D.length L)).flatten) := by
    unfold dirB
    have e1 : D = D.take k ++ L :: D.drop (k + 1) := by
      conv => lhs; rw [← List.take_append_drop k D, List.drop_eq_getElem_cons hk]
      rw [(List.getElem?_eq_some_iff.1 hL).2]
    generalize D.length = m at *
    conv => lhs; rw [e1]
    simp
  have hlen := imgB_len h.small (h.short hL).1 (h.short hL).2
  unfold pieceB
  rw [e, List.drop_left' (front_len h (by omega)), List.take_left' (pad_len (by omega))]
theorem own_read {D : List (List En)} (h : Good D) {k : Nat} {L : List En} (hL : D[k]? = some L) : pC (dirB D) k = L.length ∧ pEl (dirB D) k = L ∧ (rents (pC (dirB D) k) (pS2 (dirB D) k)).2 ≠ none := by
  have hp := own_piece h hL
  obtain ⟨r1, r2, r3⟩ := img_read D.length L (List.replicate (512 - (imgB D.length L).length) 0#8) h.small (h.short hL).1 (h.short hL).2
  have e1 : pS1 (dirB D) k = some (numB L.length ++ ((L.map entB).flatten ++ List.replicate (512 - (imgB D.length L).length) 0#8)) := by unfold pS1; rw [hp]; unfold pad; rw [r1]
  have e2 : pC (dirB D) k = L.length := by unfold pC; rw [e1, r2]
  have e3 : pS2 (dirB D) k = some ((L.map entB).flatten ++ List.replicate (512 - (imgB D.length L).length) 0#8) := by unfold pS2; rw [e1, r2]
  refine ⟨e2, by unfold pEl; rw [e2, e3, r3], by rw [e2, e3, r3]; simp⟩
theorem own_all {D : List (List En)} (h : Good D) : ∀ k, k ≤ D.length → pAll (dirB D) k = (D.take k).flatten
  | 0, _ => by simp [pAll]
  | k + 1, hk => by
    obtain ⟨L, hL⟩ : ∃ L, D[k]? = some L := ⟨_, List.getElem?_eq_getElem (by omega)⟩
    rw [pAll, own_all h k (by omega), (own_read h hL).2.1, take_flat hL]
/-- The same entries: the same directory. -/
theorem Good.same {D E : List (List En)} (h : Good D) (k : Good E) (hm : ∀ q, q ∈ D.flatten ↔ q ∈ E.flatten) : D = E := by
  have nd : ∀ {F : List (List En)}, Good F → F.flatten.Nodup := fun hF => hF.wf.names.imp (fun {a b} hab e => hab (by rw [e]))
  have ht : total D = total E := Nat.le_antisymm (sub_length (nd h) (fun x hx => (hm x).1 hx)) (sub_length (nd k) (fun x hx => (hm x).2 hx))
  have hl : D.length = E.length := by rw [h.len, k.len, ht]
  exact h.wf.same (by rw [hl]; exact k.wf) H1_ok hm

end Go.Proofs.YtdocablbkafkiaaDoor.Cd
