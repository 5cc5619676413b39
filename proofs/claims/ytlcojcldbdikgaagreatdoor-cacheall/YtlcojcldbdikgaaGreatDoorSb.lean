/-
  The document's own cache: where a block is held, which one goes out (pure); place.
-/
import Derived.Test.YtlcojcldbdikgaaGreatDoorSa
namespace Go.Proofs.YtlcojcldbdikgaaGreatDoor.Rc
open Go.RowKit

/-- Where a block is held. -/
def placeR (L : List RE) (x : Int) : Int := match L.findIdx? (fun h => decide ((h.block : Int) = x)) with
  | some i => (i : Nat)
  | none => -1
def RE.idle (x : RE) : Bool := x.pins == 0 && !x.dirty
def betterR (o : Option RE) (x : RE) : Option RE :=
  if x.idle then (match o with | none => some x | some y => if x.used < y.used then some x else some y) else o
def victimR (L : List RE) : Option RE := L.foldl betterR none
theorem placeR_some {L : List RE} {x : Int} {i : Nat} {h : RE} (hi : L[i]? = some h) (hx : (h.block : Int) = x) (hlt : ∀ j, j < i → ∀ y, L[j]? = some y → (y.block : Int) ≠ x) : placeR L x = (i : Nat) := by
  unfold placeR
  have hl := (List.getElem?_eq_some_iff.1 hi).1
  have e : L.findIdx? (fun h => decide ((h.block : Int) = x)) = some i := by
    rw [List.findIdx?_eq_some_iff_getElem]
    refine ⟨hl, ?_, fun j hj => ?_⟩
    · have := (List.getElem?_eq_some_iff.1 hi).2
      rw [this]; simpa using hx
    · have := hlt j hj _ (List.getElem?_eq_getElem (by omega))
      simpa using this
  rw [e]
theorem placeR_none {L : List RE} {x : Int} (hlt : ∀ (j : Nat) (y : RE), L[j]? = some y → (y.block : Int) ≠ x) : placeR L x = -1 := by
  unfold placeR
  have e : L.findIdx? (fun h => decide ((h.block : Int) = x)) = none := by
    rw [List.findIdx?_eq_none_iff]
    intro y hy
    obtain ⟨j, hj, e⟩ := List.getElem_of_mem hy
    have := hlt j y (by rw [List.getElem?_eq_getElem hj, e])
    simpa using this
  rw [e]

/-- What the search has found among the first ones. -/
def OutR (L : List RE) (i : Nat) (out : Int) : Prop := (out = -1 ∧ (L.take i).foldl betterR none = none) ∨ ∃ j y, j < i ∧ out = (j : Nat) ∧ L[j]? = some y ∧ (L.take i).foldl betterR none = some y
theorem OutR.step {L : List RE} {i : Nat} {out : Int} {x : RE} (h : OutR L i out) (hx : L[i]? = some x) (hi : x.idle = false) : OutR L (i + 1) out := by
  have e : (L.take (i + 1)).foldl betterR none = (L.take i).foldl betterR none := by
    rw [List.take_add_one, hx, Option.toList_some, List.foldl_append]
    simp [betterR, hi]
  rcases h with ⟨h1, h2⟩ | ⟨j, y, h1, h2, h3, h4⟩
  · exact .inl ⟨h1, by rw [e]; exact h2⟩
  · exact .inr ⟨j, y, by omega, h2, h3, by rw [e]; exact h4⟩
theorem OutR.first {L : List RE} {i : Nat} {x : RE} (h : OutR L i (-1)) (hx : L[i]? = some x) (hi : x.idle = true) : OutR L (i + 1) (i : Nat) := by
  refine .inr ⟨i, x, by omega, rfl, hx, ?_⟩
  rcases h with ⟨_, h2⟩ | ⟨j, y, _, h2, _⟩
  · rw [List.take_add_one, hx, Option.toList_some, List.foldl_append, h2]
    simp [betterR, hi]
  · omega
theorem OutR.less {L : List RE} {i j : Nat} {x y : RE} (h : OutR L i (j : Nat)) (hx : L[i]? = some x) (hi : x.idle = true) (hy : L[j]? = some y) (hl : x.used < y.used) : OutR L (i + 1) (i : Nat) := by
  refine .inr ⟨i, x, by omega, rfl, hx, ?_⟩
  rcases h with ⟨h1, _⟩ | ⟨j', y', _, h2, h3, h4⟩
  · omega
  · obtain rfl : j = j' := by omega
    rw [hy] at h3
    cases h3
    rw [List.take_add_one, hx, Option.toList_some, List.foldl_append, h4]
    simp [betterR, hi, hl]
theorem OutR.more {L : List RE} {i j : Nat} {x y : RE} (h : OutR L i (j : Nat)) (hx : L[i]? = some x) (hi : x.idle = true) (hy : L[j]? = some y) (hl : ¬ x.used < y.used) : OutR L (i + 1) (j : Nat) := by
  rcases h with ⟨h1, _⟩ | ⟨j', y', h1, h2, h3, h4⟩
  · omega
  · obtain rfl : j = j' := by omega
    rw [hy] at h3
    cases h3
    refine .inr ⟨j, y, by omega, rfl, hy, ?_⟩
    rw [List.take_add_one, hx, Option.toList_some, List.foldl_append, h4]
    simp [betterR, hi, hl]

set_option maxRecDepth 8000 in
set_option maxHeartbeats 1000000 in
theorem place_any (base r : Nat) (vv : Value) (q : Option Addr) (cq : Nat) (S : RS) (x : Int) (w : World) (h : RF w base r vv (.slice q S.L.length cq) S) (hl : S.L.length < 1000000) (P : Int) (hP : placeR S.L x = P) :
    Calls Tryz.prog 32 #[.pointer (some ⟨r, 0, none⟩), .int .i64 x] w fun e w' => e = .returned (.int .i64 P) ∧ w' = w := by
  have c2 : w.cell? ⟨r, 2, none⟩ = some (.slice q S.L.length cq) := by rw [cellOf h.cell 2]; rfl
  have H0 : Hid (RF w base r vv (.slice q S.L.length cq) S ∧ placeR S.L x = P) := ⟨h, hP⟩
  obtain ⟨n, hn⟩ : ∃ n, n = S.L.length := ⟨_, rfl⟩
  rw [← hn] at c2 hl
  have HN : Hid (n = S.L.length) := hn
  clear h hP hn
  go_enter Tryz.func32, Tryz.ntmps32
  go_wp2_with fail
  go_loop [5] (fun ii => ∃ i : Nat, i ≤ n ∧ ii = .int .i64 i ∧ Hid (∀ j, j < i → ∀ y, S.L[j]? = some y → (y.block : Int) ≠ x)) (fun ii => n - (intOf ii).toNat)
  case atStart => exact ⟨0, Nat.zero_le _, rfl, fun j hj => absurd hj (Nat.not_lt_zero j)⟩
  case round =>
    obtain ⟨i, hle, rfl, HI⟩ := hrel
    by_cases hlt : i < n
    · have hltI : (i : Int) < n := by omega
      obtain ⟨y, hy⟩ : ∃ y, S.L[i]? = some y := ⟨_, List.getElem?_eq_getElem (by rw [← HN.out]; exact hlt)⟩
      obtain ⟨g, c, e, _, hc⟩ := H0.out.1.at_ hy
      obtain rfl : q = some ⟨g, 0, none⟩ := by injection e
      have d0 : w.cell? ⟨g, i * 5, none⟩ = some (.int .i64 (y.block : Nat)) := hc 0 (by omega)
      have HY : Hid (S.L[i]? = some y) := hy
      clear hc e hy
      obtain ⟨bk, hbk⟩ : ∃ bk, bk = y.block := ⟨_, rfl⟩
      rw [← hbk] at d0
      have HK : Hid (bk = y.block) := hbk
      clear hbk
      by_cases hxy : (bk : Int) = x
      · subst hxy
        obtain rfl : P = (i : Nat) := by rw [← H0.out.2]; exact placeR_some HY.out (by rw [HK.out]) HI.out
        go_wp2
        go_ret
        exact ⟨rfl, rfl⟩
      · go_wp2
        all_goals go_round
        all_goals first
          | exact ⟨i + 1, by omega, by go_num, fun j hj z hz => by
              rcases Nat.lt_or_ge j i with k | k
              · exact HI.out j k z hz
              · obtain rfl : j = i := by omega
                have : z = y := Option.some.inj (hz.symm.trans HY.out)
                rw [this, ← HK.out]; exact hxy⟩
          | (simp [intOf]; omega)
    · obtain rfl : i = n := by omega
      obtain rfl : P = -1 := by
        rw [← H0.out.2]
        refine placeR_none fun j y hy => HI.out j ?_ y hy
        have := (List.getElem?_eq_some_iff.1 hy).1
        rw [HN.out]; exact this
      go_wp2
      go_ret
      exact ⟨rfl, rfl⟩

end Go.Proofs.YtlcojcldbdikgaaGreatDoor.Rc
