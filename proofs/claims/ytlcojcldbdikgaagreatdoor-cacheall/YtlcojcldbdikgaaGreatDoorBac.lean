/-
  A cache as the document has it: a list of the blocks that are held (pure).
-/
import Derived.Test.YtlcojcldbdikgaaGreatDoorCsum
namespace Go.Proofs.YtlcojcldbdikgaaGreatDoor
open Go.RowKit


structure HE where
  block : Nat
  pins : Nat
  used : Nat
  dirty : Bool
  data : List (BitVec 8)

def HE.idle (x : HE) : Bool := x.pins == 0 && !x.dirty
/-- Of what is idle the least lately used one, as a search from the front finds it. -/
def better (o : Option HE) (x : HE) : Option HE :=
  if x.idle then (match o with | none => some x | some y => if x.used < y.used then some x else some y) else o
def victim (L : List HE) : Option HE := L.foldl better none

structure AC where
  room : Nat
  L : List HE
  time : Nat
  hit : Nat
  miss : Nat
  outs : Nat

def AC.held (A : AC) (b : Nat) : Bool := A.L.any (fun x => x.block == b)
def AC.full (A : AC) : Bool := decide (A.room ≤ A.L.length) && (victim A.L).isNone
def AC.evict (A : AC) : AC := if A.L.length < A.room then A else match victim A.L with
  | some o => { A with L := A.L.filter (fun x => x.block != o.block), outs := A.outs + 1 }
  | none => A
/-- A block is used. -/
def AC.touch (A : AC) (b : Nat) (f : HE → HE) : AC := { A with time := A.time + 1, L := A.L.map fun x => if x.block = b then f { x with used := A.time + 1 } else x }
def AC.add (A : AC) (b : Nat) (d : List (BitVec 8)) : AC := { A with L := A.L ++ [⟨b, 0, 0, false, d⟩] }
/-- A Get or a Pin of a block that may be held. -/
def AC.meet (A : AC) (b : Nat) (d : List (BitVec 8)) (f : HE → HE) : AC :=
  if A.held b then AC.touch { A with hit := A.hit + 1 } b f else AC.touch { A.evict.add b d with miss := A.miss + 1 } b f
def AC.dataOf (A : AC) (b : Nat) : List (BitVec 8) := ((A.L.find? fun x => x.block == b).map HE.data).getD []

theorem better_some {o : Option HE} {x : HE} (h : o.isSome = true) : (better o x).isSome = true := by
  unfold better
  split
  · split
    · rfl
    · split <;> rfl
  · exact h
theorem victim_fold (L : List HE) : ∀ (o : Option HE), (∀ y, L.foldl better o = some y → (o = some y ∨ (y ∈ L ∧ y.idle = true)) ∧ (∀ x ∈ L, x.idle = true → y.used ≤ x.used) ∧ ∀ z, o = some z → y.used ≤ z.used) ∧ (L.foldl better o = none → o = none ∧ ∀ x ∈ L, x.idle = false) := by
  induction L with
  | nil =>
    intro o
    exact ⟨fun y h => ⟨.inl h, (fun x hx => by cases hx), (fun z hz => by rw [List.foldl_nil, hz] at h; cases h; exact Nat.le_refl _)⟩, fun h => ⟨h, (fun x hx => by cases hx)⟩⟩
  | cons x L ih =>
    intro o
    obtain ⟨h1, h2⟩ := ih (better o x)
    refine ⟨fun y hy => ?_, fun hn => ?_⟩
    · obtain ⟨k1, k2, k3⟩ := h1 y hy
      have key : (better o x = some y → o = some y ∨ (y = x ∧ x.idle = true)) := by
        intro hb
        unfold better at hb
        split at hb
        · rename_i hi
          split at hb
          · cases hb; exact .inr ⟨rfl, hi⟩
          · split at hb
            · cases hb; exact .inr ⟨rfl, hi⟩
            · cases hb; exact .inl rfl
        · exact .inl hb
      have lex : x.idle = true → ∃ z, better o x = some z ∧ z.used ≤ x.used := by
        intro hi
        unfold better
        rw [if_pos hi]
        split
        · exact ⟨x, rfl, Nat.le_refl _⟩
        · rename_i z
          split
          · exact ⟨x, rfl, Nat.le_refl _⟩
          · exact ⟨z, rfl, by omega⟩
      have leo : ∀ z, o = some z → ∃ z', better o x = some z' ∧ z'.used ≤ z.used := by
        intro z hz
        subst hz
        unfold better
        split
        · simp only
          split
          · exact ⟨x, rfl, by omega⟩
          · exact ⟨z, rfl, Nat.le_refl _⟩
        · exact ⟨z, rfl, Nat.le_refl _⟩
      refine ⟨?_, fun x' hx' hi => ?_, fun z hz => ?_⟩
      · rcases k1 with k1 | ⟨k1, k1'⟩
        · rcases key k1 with e | ⟨rfl, e⟩
          · exact .inl e
          · exact .inr ⟨by simp, e⟩
        · exact .inr ⟨by simp [k1], k1'⟩
      · rcases List.mem_cons.1 hx' with rfl | hx'
        · obtain ⟨z, hz, hle⟩ := lex hi
          exact Nat.le_trans (k3 z hz) hle
        · exact k2 x' hx' hi
      · obtain ⟨z', hz', hle⟩ := leo z hz
        exact Nat.le_trans (k3 z' hz') hle
    · obtain ⟨k1, k2⟩ := h2 hn
      have : o = none ∧ x.idle = false := by
        unfold better at k1
        split at k1
        · split at k1
          · cases k1
          · split at k1 <;> cases k1
        · rename_i hi
          exact ⟨k1, by simpa using hi⟩
      refine ⟨this.1, fun x' hx' => ?_⟩
      rcases List.mem_cons.1 hx' with rfl | hx'
      · exact this.2
      · exact k2 x' hx'
theorem victim_none {L : List HE} (h : ∀ x ∈ L, x.idle = false) : victim L = none := by
  cases hv : victim L with
  | none => rfl
  | some y =>
    obtain ⟨h1, _⟩ := (victim_fold L none).1 y hv
    rcases h1 with h1 | ⟨h1, h2⟩
    · cases h1
    · rw [h y h1] at h2; cases h2
theorem victim_some {L : List HE} {o : HE} (ho : o ∈ L) (hi : o.idle = true) (hmin : ∀ x ∈ L, x.idle = true → o.used ≤ x.used) (hinj : ∀ x ∈ L, ∀ y ∈ L, x.used = y.used → x = y) : victim L = some o := by
  cases hv : victim L with
  | none =>
    have := ((victim_fold L none).2 hv).2 o ho
    rw [hi] at this; cases this
  | some y =>
    obtain ⟨h1, h2, _⟩ := (victim_fold L none).1 y hv
    rcases h1 with h1 | ⟨h1, h3⟩
    · cases h1
    · have := h2 o ho hi
      have := hmin y h1 h3
      rw [hinj y h1 o ho (by omega)]

end Go.Proofs.YtlcojcldbdikgaaGreatDoor
