import Derived.Test.YthhakekbffembaaGreatDoorQEva
import Derived.Test.YthhakekbffembaaGreatDoorQOd

namespace Go.Proofs.YthhakekbffembaaGreatDoor.Ck.Y.L
open Go.RowKit Go.Maps Go.Lib
def isW (o : OG) : Bool := decide (o.kd = 4)
def vcs (nsf : OG → List Int) (bsf : OG → List (BitVec 8)) (l : List OG) : List VC := (l.filter isW).map fun o => vcOf o (nsf o) (bsf o)
section
variable {nsf : OG → List Int} {bsf : OG → List (BitVec 8)}
theorem vcs_snoc (l : List OG) (o : OG) : vcs nsf bsf (l ++ [o]) = if o.kd = 4 then vcs nsf bsf l ++ [vcOf o (nsf o) (bsf o)] else vcs nsf bsf l := by
 unfold vcs
 rw [List.filter_append]
 by_cases h : o.kd = 4
 · rw [if_pos h]; simp [isW, h]
 · rw [if_neg h]; simp [isW, h]
theorem vcs_len (l : List OG) : (vcs nsf bsf l).length ≤ l.length := by
 unfold vcs
 rw [List.length_map]
 exact List.length_filter_le _ _
theorem vcs_key {l : List OG} {k : KP} (h : k ∈ (vcs nsf bsf l).map VC.key) : ∃ o ∈ l, (o.t, o.n) = k := by
 unfold vcs at h
 rw [List.mem_map] at h
 obtain ⟨c, hc, rfl⟩ := h
 rw [List.mem_map] at hc
 obtain ⟨o, ho, rfl⟩ := hc
 exact ⟨o, (List.mem_filter.1 ho).1, rfl⟩
end
section
variable {u wr : World} {base fb gb : Nat} {v : Value} {l : List OG} {F G : Nat → Prop} {S T : List VC}
end
section
variable {u wr : World} {base fb gb : Nat} {v : Value} {nsf : OG → List Int} {bsf : OG → List (BitVec 8)} {l : List OG} {i j : Nat}
end
end Go.Proofs.YthhakekbffembaaGreatDoor.Ck.Y.L
