/-
  Crash of package device.
-/
import Derived.Test.YtebdgcoandfocaaGreatDoorKDloose
import Derived.Test.YtebdgcoandfocaaGreatDoorKDwrite
import Derived.Recover
import Derived.Deep.RegionHeld3
import Derived.BigRegion

namespace Go.Proofs.YtebdgcoandfocaaGreatDoor
open Go.RowKit Go.Maps Go.Sort Go.Shelf

/-- The row of blocks of a device that a crash leaves, behind the first k of the loose blocks: of each key x among them that is not kept the flushed pointer, else the written one. -/
def RowAt (D : DataW Value) (kb : Int → Bool) (cur curk : Array Value) (n k : Nat) : Prop :=
  n ≤ curk.size ∧ ∀ i, i < n → ∃ q, curk[i]? = some (.pointer q) ∧
    (((i : Int) ∈ (keys D).take k ∧ kb i = false) → D.atKey (.int .i64 i) (ptrD none) = ptrD q) ∧ (¬ ((i : Int) ∈ (keys D).take k ∧ kb i = false) → cur[i]? = some (.pointer q))

section
variable {w W W' : World} {D : DataW Value} {kb : Int → Bool} {cur : Array Value} {T : Nat → Prop} {n cap a' g m' k N m nn : Nat} {p3 : Option Addr} {J : Nat → World → Prop}

end

end Go.Proofs.YtebdgcoandfocaaGreatDoor
