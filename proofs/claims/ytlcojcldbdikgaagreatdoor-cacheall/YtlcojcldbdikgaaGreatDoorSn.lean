/-
  The document's own cache against the list of the held blocks (pure): each call is a step of it.
-/
import Derived.Test.YtlcojcldbdikgaaGreatDoorSm
namespace Go.Proofs.YtlcojcldbdikgaaGreatDoor.Rc
open Go.RowKit

/-- An entry, its bytes being told by D. -/
def he (D : SV → List (BitVec 8)) (y : RE) : HE := ⟨y.block, y.pins, y.used, y.dirty, D y.b⟩
def abs (D : SV → List (BitVec 8)) (S : RS) : AC := ⟨S.room, S.L.map (he D), S.time, S.hit, S.miss, S.outs⟩
def Apart (L : List RE) : Prop := (L.map RE.block).Nodup
theorem better_he (D : SV → List (BitVec 8)) (o : Option RE) (x : RE) : better (o.map (he D)) (he D x) = (betterR o x).map (he D) := by
  unfold better betterR
  have e : (he D x).idle = x.idle := rfl
  rw [e]
  cases x.idle
  · rfl
  · cases o with
    | none => rfl
    | some y =>
      simp only [if_true, Option.map_some]
      by_cases h : x.used < y.used
      · rw [if_pos h, if_pos (show (he D x).used < (he D y).used from h)]; rfl
      · rw [if_neg h, if_neg (show ¬ (he D x).used < (he D y).used from h)]; rfl
theorem victim_he (D : SV → List (BitVec 8)) (L : List RE) : victim (L.map (he D)) = (victimR L).map (he D) := by
  have : ∀ (o : Option RE), (L.map (he D)).foldl better (o.map (he D)) = (L.foldl betterR o).map (he D) := by
    induction L with
    | nil => intro o; rfl
    | cons x L ih => intro o; rw [List.map_cons, List.foldl_cons, List.foldl_cons, better_he]; exact ih _
  exact this none
theorem placeR_iff (L : List RE) (b : Nat) : 0 ≤ placeR L b ↔ ∃ y ∈ L, y.block = b := by
  unfold placeR
  cases hf : L.findIdx? (fun h => decide ((h.block : Int) = (b : Nat))) with
  | some i =>
    rw [List.findIdx?_eq_some_iff_getElem] at hf
    obtain ⟨hl, he, _⟩ := hf
    simp only [decide_eq_true_eq] at he
    exact ⟨fun _ => ⟨_, List.getElem_mem hl, by omega⟩, fun _ => by simp⟩
  | none =>
    rw [List.findIdx?_eq_none_iff] at hf
    refine ⟨fun h => absurd h (by decide), ?_⟩
    rintro ⟨y, hy, e⟩
    have := hf y hy
    simp only [decide_eq_false_iff_not] at this
    omega
theorem held_abs (D : SV → List (BitVec 8)) (S : RS) (b : Nat) : (abs D S).held b = decide (0 ≤ placeR S.L b) := by
  unfold AC.held abs
  simp only [List.any_map]
  rw [Bool.eq_iff_iff, decide_eq_true_eq, placeR_iff, List.any_eq_true]
  simp [he]
theorem full_abs (D : SV → List (BitVec 8)) (S : RS) : (abs D S).full = true ↔ S.room ≤ S.L.length ∧ victimR S.L = none := by
  unfold AC.full abs
  simp only [List.length_map, victim_he]
  simp
theorem heldR_abs (D : SV → List (BitVec 8)) (S : RS) (n : Nat) : heldR S.L n = (List.range n).filter fun j => (abs D S).held j := by
  unfold heldR
  congr 1
  funext b
  rw [held_abs]
theorem apart_at {L : List RE} (h : Apart L) {i j : Nat} {x y : RE} (hx : L[i]? = some x) (hy : L[j]? = some y) (e : x.block = y.block) : i = j := by
  have h1 := List.getElem?_eq_some_iff.1 hx
  have h2 := List.getElem?_eq_some_iff.1 hy
  have := (List.getElem_inj (xs := L.map RE.block) (h₀ := by simpa using h1.1) (h₁ := by simpa using h2.1) h).1 (by simp [h1.2, h2.2, e])
  exact this
/-- What stands at a block's place alone is turned. -/
theorem map_at {L : List RE} (h : Apart L) {k : Nat} {y : RE} (hy : L[k]? = some y) (f : RE → RE) : L.map (fun x => if x.block = y.block then f x else x) = L.set k (f y) := by
  refine List.ext_getElem? fun i => ?_
  rw [List.getElem?_map, List.getElem?_set]
  by_cases e : k = i
  · subst e
    rw [if_pos rfl, if_pos (List.getElem?_eq_some_iff.1 hy).1, hy]
    simp
  · rw [if_neg e]
    cases hx : L[i]? with
    | none => rfl
    | some x =>
      simp only [Option.map_some]
      rw [if_neg (fun e' => e (apart_at h hy hx e'.symm))]
theorem cut_at {L : List RE} (h : Apart L) {j : Nat} {y : RE} (hy : L[j]? = some y) : L.filter (fun x => x.block != y.block) = L.take j ++ L.drop (j + 1) := by
  induction L generalizing j with
  | nil => simp at hy
  | cons z L ih =>
    have hn := List.nodup_cons.1 (show (z.block :: L.map RE.block).Nodup from h)
    cases j with
    | zero =>
      simp at hy
      subst hy
      rw [List.filter_cons_of_neg (by simp)]
      simp only [List.take_zero, List.nil_append, Nat.zero_add, List.drop_succ_cons, List.drop_zero]
      refine List.filter_eq_self.2 fun x hx => ?_
      simp only [bne_iff_ne, ne_eq]
      intro e
      exact hn.1 (List.mem_map.2 ⟨x, hx, e⟩)
    | succ j =>
      have hy' : L[j]? = some y := by simpa using hy
      have hne : z.block ≠ y.block := fun e => hn.1 (by rw [e]; exact List.mem_map.2 ⟨y, List.mem_of_getElem? hy', rfl⟩)
      rw [List.filter_cons_of_pos (by simpa using hne), ih hn.2 hy']
      rfl
theorem Apart.cut {L : List RE} (h : Apart L) (j : Nat) : Apart (L.take j ++ L.drop (j + 1)) := by
  unfold Apart at h ⊢
  refine List.Nodup.sublist (List.Sublist.map _ ?_) h
  conv => rhs; rw [← List.take_append_drop j L]
  refine List.Sublist.append_left ?_ _
  have := List.drop_sublist 1 (L.drop j)
  rw [List.drop_drop] at this
  exact this

/-- The list once a block is held, as a step. -/
theorem holds_abs {D : SV → List (BitVec 8)} {S S1 : RS} {b k : Nat} {d : List (BitVec 8)} (ha : Apart S.L) (h : HoldsTo S b S1 k) (hd : ∀ sv, S.V[b]? = some sv → D sv = d) :
    abs D S1 = (if (abs D S).held b then abs D S else (abs D S).evict.add b d) ∧ Apart S1.L ∧ ∃ y, S1.L[k]? = some y ∧ y.block = b := by
  rcases h with ⟨hp, rfl⟩ | ⟨hp, S0, sv, hS, hsv, rfl, rfl⟩
  · obtain ⟨y, hy, e⟩ := place_at hp
    rw [held_abs, hp]
    exact ⟨by simp, ha, y, hy, by omega⟩
  · have hnot : ¬ ∃ y ∈ S.L, y.block = b := fun hh => by
      have := (placeR_iff S.L b).2 hh
      rw [hp] at this
      exact absurd this (by decide)
    rw [held_abs, hp]
    have hev : (abs D S).evict = abs D S0 ∧ Apart S0.L ∧ ∀ y ∈ S0.L, y ∈ S.L := by
      rcases hS with ⟨h1, rfl⟩ | ⟨j, y, h1, hy, hv, rfl⟩
      · refine ⟨?_, ha, fun y hy => hy⟩
        unfold AC.evict
        rw [if_pos (by simpa [abs] using h1)]
      · refine ⟨?_, ha.cut j, fun z hz => ?_⟩
        · unfold AC.evict
          rw [if_neg (by simp [abs]; omega)]
          have : victim (abs D S).L = some (he D y) := by show victim (S.L.map (he D)) = _; rw [victim_he, hv]; rfl
          rw [this]
          simp only [abs]
          congr 1
          rw [List.filter_map, ← cut_at ha hy]
          rfl
        · rcases List.mem_append.1 hz with hz | hz
          · exact List.mem_of_mem_take hz
          · exact List.mem_of_mem_drop hz
    refine ⟨?_, ?_, ⟨b, 0, 0, false, sv⟩, List.getElem?_concat_length, rfl⟩
    · rw [if_neg (by decide), hev.1]
      unfold AC.add abs
      simp [he, hd sv hsv]
    · unfold Apart
      rw [List.map_append, List.nodup_append]
      refine ⟨hev.2.1, by simp, fun q hq r hr => ?_⟩
      obtain ⟨y, hy, rfl⟩ := List.mem_map.1 hq
      simp at hr
      subst hr
      exact fun e => hnot ⟨y, hev.2.2 y hy, e⟩
theorem touch_abs {D : SV → List (BitVec 8)} {S1 : RS} {k : Nat} {y : RE} (ha : Apart S1.L) (hy : S1.L[k]? = some y) (g : RE → RE) (f : HE → HE) (hf : ∀ x, f (he D x) = he D (g x)) (h m : Nat) :
    abs D { useR S1 k y h m with L := S1.L.set k (g { y with used := S1.time + 1 }) } = AC.touch { abs D S1 with hit := S1.hit + h, miss := S1.miss + m } y.block f := by
  unfold abs AC.touch useR
  simp only
  congr 1
  rw [← map_at ha hy (fun x => g { x with used := S1.time + 1 }), List.map_map, List.map_map]
  refine List.map_congr_left fun x _ => ?_
  simp only [Function.comp]
  by_cases e : x.block = y.block
  · rw [if_pos e, if_pos (show (he D x).block = y.block from e), ← hf]
    rfl
  · rw [if_neg e, if_neg (show ¬ (he D x).block = y.block from e)]
theorem drop_abs (D : SV → List (BitVec 8)) (S : RS) : abs D { S with L := cleanL S.L } = { abs D S with L := (abs D S).L.filter fun x => !x.dirty } := by
  unfold abs cleanL
  simp only [List.filter_map]
  rfl

end Go.Proofs.YtlcojcldbdikgaaGreatDoor.Rc
