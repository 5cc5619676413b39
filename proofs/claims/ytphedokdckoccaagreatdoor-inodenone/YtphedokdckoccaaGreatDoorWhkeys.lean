/-
  The keys of a volume's map of fresh blocks, rising; the homes that take over what it holds.
-/
import Derived.Test.YtphedokdckoccaaGreatDoorWfresh
import Derived.Maps.Ext
namespace Go.Proofs.YtphedokdckoccaaGreatDoor
open Go.RowKit Go.Maps Go.Sort Go.Shelf Go.ChangeMaps Go.MapKept
open Go.WideElems (Fit rd rg pl rd_val elemAt rd_key rg_of)

/-- Which blocks the log holds, rising. -/
def homeKeys (fr : Nat → Option By) (nb : Nat) : List Nat := (List.range nb).filter fun j => (fr j).isSome

theorem homeKeys_mem {fr : Nat → Option By} {nb i : Nat} : i ∈ homeKeys fr nb ↔ i < nb ∧ (fr i).isSome = true := by
  unfold homeKeys
  rw [List.mem_filter, List.mem_range]
theorem homeKeys_len (fr : Nat → Option By) (nb : Nat) : (homeKeys fr nb).length ≤ nb :=
  Nat.le_trans (List.length_filter_le _ _) (by simp)

set_option maxRecDepth 100000 in
theorem fresh_keys {w : World} {f nf nb : Nat} {F : DataW Value} {fr : Nat → Option By} (hF : Fresh w f nf F fr) (hfr : ∀ i, nb ≤ i → fr i = none) (hnb : nb ≤ 1000000000) :
    keys F = (homeKeys fr nb).map fun j : Nat => (j : Int) := by
  have hown := hF.own
  have hhas := hF.has
  have hrng := hF.rng
  obtain ⟨es, rfl, hp⟩ := hown.tidy keyed
  have hk : ∀ p ∈ es, ∃ x, p.1 = .int .i64 x := by
    intro p hpm
    obtain ⟨es0, clock, _, F, _, hD⟩ := hown
    cases hD
    obtain ⟨x, hx, rfl⟩ := List.mem_map.1 (mem_sorted.1 hpm)
    obtain ⟨y, hy⟩ := F.reads x hx
    rw [rg_of hy]
    obtain ⟨x, _, hx, _⟩ := Maps.keyOf_i64 Tryz.underlying3 (rd_key hy)
    exact ⟨x, hx⟩
  have hnd : ((homeKeys fr nb).map fun j : Nat => (j : Int)).Nodup := by
    refine List.pairwise_map.2 (List.Pairwise.imp (R := (· < ·)) (fun h => by omega) ?_)
    exact List.Pairwise.filter _ List.pairwise_lt_range
  have hperm := perm_intKeys hp hk hnd (fun x => by
    constructor
    · intro hx
      obtain ⟨j, hj, rfl⟩ := List.mem_map.1 hx
      obtain ⟨h1, h2⟩ := homeKeys_mem.1 hj
      rw [hhas j (by omega)]
      exact h2
    · intro hx
      obtain ⟨h0, h1⟩ := hrng x hx
      obtain ⟨j, rfl⟩ := Int.eq_ofNat_of_zero_le h0
      rw [hhas j (by omega)] at hx
      refine List.mem_map.2 ⟨j, homeKeys_mem.2 ⟨?_, hx⟩, rfl⟩
      apply Classical.byContradiction
      intro hlt
      rw [hfr j (by omega)] at hx
      cases hx)
  unfold keys
  rw [← mergeSort_of_perm_i hperm]
  refine List.mergeSort_of_pairwise ?_
  rw [List.pairwise_map]
  refine List.Pairwise.imp (R := (· < ·)) (fun h => by simp; omega) ?_
  exact List.Pairwise.filter _ List.pairwise_lt_range

/-- The homes of these blocks hold what the log does. -/
def putHomes (B : Nat → By) (fr : Nat → Option By) (l : List Nat) : Nat → By := fun j => if 1 ≤ j ∧ (j - 1) ∈ l then (fr (j - 1)).getD (B j) else B j
/-- All homes. -/
def homed (B : Nat → By) (fr : Nat → Option By) : Nat → By := fun j => if 1 ≤ j then (fr (j - 1)).getD (B j) else B j

theorem putHomes_nil (B : Nat → By) (fr : Nat → Option By) : putHomes B fr [] = B := by funext j; simp [putHomes]
theorem putHomes_step (B : Nat → By) (fr : Nat → Option By) {l : List Nat} {k i : Nat} {b : By} (hk : l[k]? = some i) (hb : fr i = some b) : upd (putHomes B fr (l.take k)) (1 + i) b = putHomes B fr (l.take (k + 1)) := by
  have hlt : k < l.length := (List.getElem?_eq_some_iff.1 hk).1
  have e : l.take (k + 1) = l.take k ++ [i] := by
    rw [List.take_succ_eq_append_getElem hlt]
    have : l[k] = i := by rw [List.getElem?_eq_getElem hlt] at hk; exact Option.some.inj hk
    rw [this]
  funext j
  unfold upd putHomes
  rw [e]
  by_cases h : j = 1 + i
  · subst h
    have h1 : 1 + i - 1 = i := by omega
    rw [if_pos rfl, if_pos ⟨by omega, by rw [h1]; simp⟩, h1, hb]
    rfl
  · rw [if_neg h]
    have hm : (1 ≤ j ∧ (j - 1) ∈ l.take k ++ [i]) ↔ (1 ≤ j ∧ (j - 1) ∈ l.take k) := by
      rw [List.mem_append, List.mem_singleton]
      constructor
      · rintro ⟨h1, h2 | h2⟩
        · exact ⟨h1, h2⟩
        · omega
      · rintro ⟨h1, h2⟩; exact ⟨h1, .inl h2⟩
    by_cases hx : 1 ≤ j ∧ (j - 1) ∈ l.take k
    · rw [if_pos hx, if_pos (hm.2 hx)]
    · rw [if_neg hx, if_neg (fun h' => hx (hm.1 h'))]
theorem putHomes_all (B : Nat → By) (fr : Nat → Option By) (nb : Nat) (hfr : ∀ i, nb ≤ i → fr i = none) : putHomes B fr (homeKeys fr nb) = homed B fr := by
  funext j
  unfold putHomes homed
  by_cases hj : 1 ≤ j
  · rw [if_pos hj]
    by_cases hm : (j - 1) ∈ homeKeys fr nb
    · rw [if_pos ⟨hj, hm⟩]
    · rw [if_neg (fun h => hm h.2)]
      cases hf : fr (j - 1) with
      | none => rfl
      | some b =>
        exfalso
        refine hm (homeKeys_mem.2 ⟨?_, by rw [hf]; rfl⟩)
        apply Classical.byContradiction
        intro hlt
        rw [hfr _ (by omega)] at hf
        cases hf
  · rw [if_neg (fun h => hj h.1), if_neg hj]

end Go.Proofs.YtphedokdckoccaaGreatDoor
