/-
  A record is read as it was written: as functions of lists of bytes.
-/
import Derived.Test.YtebdgcoandfocaaGreatDoorKWtake

namespace Go.Proofs.YtebdgcoandfocaaGreatDoor
open Go.RowKit Go.Maps Go.Sort Go.Shelf

theorem flat_drop : ∀ (ps : Rec) (_ : ∀ p ∈ ps, p.2.length = 512) (k : Nat) (p : Nat × By), ps[k]? = some p → ∃ rest, ((ps.map fun p => le8 p.1 ++ p.2).flatten).drop (k * 520) = le8 p.1 ++ (p.2 ++ rest)
  | [], _, k, p, h => by simp at h
  | q :: ps, hl, 0, p, h => by
    simp at h
    subst h
    exact ⟨_, by simp; rfl⟩
  | q :: ps, hl, k + 1, p, h => by
    obtain ⟨rest, hr⟩ := flat_drop ps (fun p hp => hl p (by simp [hp])) k p (by simpa using h)
    refine ⟨rest, ?_⟩
    rw [List.map_cons, List.flatten_cons, List.drop_append, ← hr]
    have hq := hl q (by simp)
    have hq' : (le8 q.1 ++ q.2).length = 520 := by rw [List.length_append, le8_length, hq]
    rw [List.drop_of_length_le (by omega), hq', List.nil_append, show (k + 1) * 520 - 520 = k * 520 by omega]

theorem recP_drop (ps : Rec) (hl : ∀ p ∈ ps, p.2.length = 512) (k : Nat) (p : Nat × By) (hk : ps[k]? = some p) : ∃ rest, (recP ps).drop (8 + k * 520) = le8 p.1 ++ (p.2 ++ rest) := by
  obtain ⟨rest, hr⟩ := flat_drop ps hl k p hk
  have hlt := (List.getElem?_eq_some_iff.1 hk).1
  have hfl := flat_length ps hl
  unfold recP recBytes
  rw [← List.drop_drop, List.append_assoc, List.drop_left' (le8_length _), List.drop_append, hr]
  exact ⟨rest ++ (List.replicate (pagesFor ps.length * 496 - (le8 ps.length ++ (ps.map fun p => le8 p.1 ++ p.2).flatten).length) 0#8).drop (k * 520 - ((ps.map fun p => le8 p.1 ++ p.2).flatten).length), by simp⟩

theorem recP_block (ps : Rec) (hl : ∀ p ∈ ps, p.2.length = 512) (k : Nat) (p : Nat × By) (hk : ps[k]? = some p) (hp : p.1 < 18446744073709551616) : leN (((recP ps).drop (8 + k * 520)).take 8) = p.1 := by
  obtain ⟨rest, hr⟩ := recP_drop ps hl k p hk
  rw [hr, List.take_left' (le8_length _), leN_le8 _ hp]
theorem recP_data (ps : Rec) (hl : ∀ p ∈ ps, p.2.length = 512) (k : Nat) (p : Nat × By) (hk : ps[k]? = some p) : ((recP ps).drop (8 + k * 520 + 8)).take 512 = p.2 := by
  obtain ⟨rest, hr⟩ := recP_drop ps hl k p hk
  rw [← List.drop_drop, hr, List.drop_left' (le8_length _), List.take_left' (hl p (List.mem_of_getElem? hk))]
theorem recP_count (ps : Rec) (h : ps.length < 18446744073709551616) : leN ((recP ps).take 8) = ps.length := by
  unfold recP recBytes
  rw [List.append_assoc, List.take_left' (le8_length _), leN_le8 _ h]
theorem body_count (ps : Rec) (h : ps.length < 18446744073709551616) : leN ((body ps 0).take 8) = ps.length := by
  unfold body
  rw [Nat.zero_mul, List.drop_zero, List.take_take]
  exact recP_count ps h
/-- The bodies, one behind the other. -/
theorem bodies_step (ps : Rec) (i : Nat) : (recP ps).take ((i + 1) * 496) = (recP ps).take (i * 496) ++ body ps i := by
  unfold body
  rw [Nat.add_mul, Nat.one_mul, List.take_add]

/-- The puts that putsOf finds. -/
theorem recOf_putK (g o : Nat) (ps : Rec) (hl : ∀ p ∈ ps, p.2.length = 512) (hp : ∀ p ∈ ps, p.1 < 18446744073709551616) : recOf ((List.range ps.length).map (putK g o (recP ps))) = ps := by
  unfold recOf
  rw [List.map_map]
  apply List.ext_getElem?
  intro k
  by_cases hk : k < ps.length
  · obtain ⟨p, hpk⟩ : ∃ p, ps[k]? = some p := ⟨_, List.getElem?_eq_getElem hk⟩
    rw [List.getElem?_map, List.getElem?_range hk, hpk]
    show some ((((leN (((recP ps).drop (8 + k * 520)).take 8) : Nat) : Int)).toNat, ((recP ps).drop (8 + k * 520 + 8)).take 512) = some p
    rw [recP_block ps hl k p hpk (hp p (List.mem_of_getElem? hpk)), recP_data ps hl k p hpk]
    rfl
  · rw [List.getElem?_eq_none (by simpa using hk), List.getElem?_eq_none (by simpa using hk)]
theorem good_putK (g o nb : Nat) (ps : Rec) (hok : okRec nb ps) (hnb : nb < 18446744073709551616) : ((List.range ps.length).map (putK g o (recP ps))).all (goodPut nb) = true := by
  have hl : ∀ p ∈ ps, p.2.length = 512 := fun p hp => (hok.2.2 p hp).2
  rw [List.all_eq_true]
  intro x hx
  obtain ⟨k, hk, rfl⟩ := List.mem_map.1 hx
  have hk' := List.mem_range.1 hk
  obtain ⟨p, hpk⟩ : ∃ p, ps[k]? = some p := ⟨_, List.getElem?_eq_getElem hk'⟩
  have hp := hok.2.2 p (List.mem_of_getElem? hpk)
  have h1 : (putK g o (recP ps) k).block = (p.1 : Int) := by
    show ((leN (((recP ps).drop (8 + k * 520)).take 8) : Nat) : Int) = _
    rw [recP_block ps hl k p hpk (by omega)]
  have h2 : (putK g o (recP ps) k).bytes = p.2 := recP_data ps hl k p hpk
  unfold goodPut
  rw [h1, h2, hp.2]
  simp
  omega

end Go.Proofs.YtebdgcoandfocaaGreatDoor
