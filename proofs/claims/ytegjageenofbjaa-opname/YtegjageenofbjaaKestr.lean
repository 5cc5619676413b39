/-
  The document's own way to write: bytes, a truth, an ID, a vector.
-/
import Derived.Test.YtegjageenofbjaaKenum
import Derived.Test.YtegjageenofbjaaKqvec
namespace Go.Proofs.Ytegjageenofbjaa.Cd
open Go.RowKit

def eBytes (cs : List (BitVec 8)) : St := if cs.length ≤ 65536 then some (numB cs.length ++ cs) else none
def eID (t n : Int) : St := if 0 ≤ t ∧ t ≤ 1152921504606846976 ∧ 0 ≤ n ∧ n < 64 then some (numB t.toNat ++ numB n.toNat) else none
def numsB (ns : List Int) : List (BitVec 8) := ns.flatMap fun x => numB x.toNat
def eVec (ns : List Int) : St := if mayB ns = true then some (numB (normOf ns).length ++ numsB (normOf ns)) else none

theorem own_base {W : World} {base base' e : Nat} {v : Value} {n : Nat} {xs : List Value} (h : W.ownsRow base e 1 v n xs) (hb : base' ≤ base) : W.ownsRow base' e 1 v n xs := by
  refine ⟨h.1, ?_⟩
  rcases h.2 with h0 | ⟨g, cap, cur, rfl, h1, r⟩
  · exact .inl h0
  · exact .inr ⟨g, cap, cur, rfl, Nat.le_trans hb h1, r⟩
theorem Cloned.slice {w w' : World} {bs : List (BitVec 8)} {v : Value} (h : Cloned w bs v w') : ∃ p c, v = .slice p bs.length c ∧ bs.length ≤ c ∧ Bytes w' p bs := by
  obtain ⟨_, p, c, e, h1, h2, _⟩ := owns_bytes h.1
  exact ⟨p, c, e, h1, h2⟩

theorem normOf_ok (ns : List Int) : ∀ x ∈ normOf ns, okN x = true := by
  intro x hx
  have := List.mem_of_mem_take hx
  unfold allOf at this
  obtain ⟨k, _, rfl⟩ := List.mem_map.1 this
  unfold atOf
  split
  · split
    · assumption
    · rfl
  · rfl
theorem normOf_le (ns : List Int) : (normOf ns).length ≤ 64 := by
  unfold normOf; rw [List.length_take, allOf_length]; omega
theorem numsB_len (ns : List Int) (h : ∀ x ∈ ns, okN x = true) : (numsB ns).length ≤ 9 * ns.length := by
  induction ns with
  | nil => simp [numsB]
  | cons x l ih =>
    have h1 := ih (fun y hy => h y (List.mem_cons_of_mem _ hy))
    have h2 := h x (List.mem_cons_self ..)
    unfold okN at h2
    simp at h2
    have h3 := numB_len9 x.toNat (by omega)
    have : numsB (x :: l) = numB x.toNat ++ numsB l := rfl
    rw [this, List.length_append, List.length_cons]
    omega
theorem numsB_take (ns : List Int) (i : Nat) (x : Int) (h : ns[i]? = some x) : numsB (ns.take (i + 1)) = numsB (ns.take i) ++ numB x.toNat := by
  unfold numsB
  rw [List.take_add_one, h]
  simp

end Go.Proofs.Ytegjageenofbjaa.Cd
