/-
  A volume and its log as one word: what holds of them between the calls.
-/
import Derived.Test.YtebdgcoandfocaaGreatDoorKRg
import Derived.Test.YtebdgcoandfocaaGreatDoorKWchunk
import Derived.Test.YtebdgcoandfocaaGreatDoorKWmnt
import Derived.Test.YtebdgcoandfocaaGreatDoorKWfresh
import Derived.Maps.Ext

/-
  Read of package wal, of a block that the log doesn't hold; and of one that isn't there.
-/
namespace Go.Proofs.YtebdgcoandfocaaGreatDoor
open Go.RowKit Go.Maps Go.Sort Go.Shelf

set_option maxRecDepth 8000 in
set_option maxHeartbeats 1000000 in
theorem vRead_no (i : Int) (v : Nat) (commits turn next : Nat) (f : Option Nat) (count : Int) (d : DS) (w : World) (h : IsVol w v (dp d.a) commits turn next f count) (hd : Dev w d) (hn : 16 ≤ d.n) (hi : ¬ (0 ≤ i ∧ i < nbOf d.n)) :
    Calls Tryz.prog 109 #[dp v, .int .i64 i] w fun e w' => e = .returned (.tuple #[.slice none 0 0, .int .i64 22]) ∧ w' = w := by
  have c47 := vHas i v commits turn next f count d w h hd hn
  rw [show decide ((0 : Int) ≤ i ∧ i < (nbOf d.n : Nat)) = false from decide_eq_false hi] at c47
  clear h hd
  go_enter Tryz.func109, Tryz.ntmps109
  go_wp2_with (go_at_call 116; refine Calls_on c47 ?_)
  go_ret2
  exact ⟨rfl, rfl⟩

end Go.Proofs.YtebdgcoandfocaaGreatDoor

namespace Go.Proofs.YtebdgcoandfocaaGreatDoor
open Go.RowKit Go.Maps Go.Sort Go.Shelf

/-- Where the log's records end. -/
def logEnd : Nat → List Rec → Nat
  | at_, [] => at_
  | at_, ps :: rs => logEnd (at_ + pagesFor ps.length) rs
/-- A volume: where its parts lie, and what they hold. -/
structure VS where
  v : Nat
  f : Nat
  nf : Nat
  commits : Nat
  turn : Nat
  next : Nat
  F : DataW Value
  fr : Nat → Option By
  d : DS
  recs : List Rec

/-- What a block of the volume is. -/
def VS.cont (s : VS) (i : Nat) : By := (s.fr i).getD (s.d.B (1 + i))

/-- The log is whole. -/
structure Log (s : VS) : Prop where
  fr : s.fr = laidOn (fun _ => none) s.recs.flatten
  nb : ∀ i, nbOf s.d.n ≤ i → s.fr i = none
  len : s.recs.length ≤ s.commits
  head : s.d.B 0 = headB s.turn (s.commits - s.recs.length) s.d.n
  log : LogIs s.d.B s.d.n (nbOf s.d.n) s.turn (1 + nbOf s.d.n) s.recs
  next : s.next = s.d.n ∨ s.next = logEnd (1 + nbOf s.d.n) s.recs
  old : ∀ j, 1 + nbOf s.d.n ≤ j → j < s.d.n → OldB (s.turn + 1) (s.d.B j)
  old2 : ∀ j, logEnd (1 + nbOf s.d.n) s.recs ≤ j → j < s.d.n → OldB s.turn (s.d.B j)

structure VI (w : World) (s : VS) : Prop where
  vol : IsVol w s.v (dp s.d.a) s.commits s.turn s.next (some s.f) s.d.count
  dev : Dev w s.d
  fresh : Fresh w s.f s.nf s.F s.fr
  fm : s.f ≠ s.d.m
  fused : s.d.fused = false
  n16 : 16 ≤ s.d.n
  n200 : s.d.n ≤ 900
  lg : Log s

/-- How much was done. -/
structure Bud (s : VS) (b : Nat) : Prop where
  nf : s.nf ≤ b * 100
  count : s.d.count ≤ b * 1000
  commits : s.commits ≤ b
  turn : s.turn ≤ b + 1

/-- The blocks that a call of the volume may turn. -/
def VS.mine (s : VS) : Nat → Prop := fun k => k = s.v ∨ k = s.f ∨ s.d.mine k

theorem VI.mapAt {w : World} {s : VS} (h : VI w s) : ∃ es clock, w.heap[s.f]? = some (.map es clock) := by
  obtain ⟨es, clock, hm, _⟩ := h.fresh.own
  exact ⟨es, clock, hm⟩
/-- Cells of other types are none of the volume's. -/
theorem VI.other {w : World} {s : VS} (h : VI w s) {k : Nat} {cs : Array Value} {t : TypeId} {fr : Nat × Nat} (hk : w.heap[k]? = some (.cells cs t fr)) (h1 : t ≠ 127) (h2 : t ≠ 155) (h3 : t ≠ 115) : ¬ s.mine k := by
  rintro (rfl | rfl | hm)
  · have := h.vol; rw [IsVol, hk] at this; simp at this; exact h3 this.2.1
  · obtain ⟨es, clock, hm⟩ := h.mapAt; rw [hm] at hk; cases hk
  · exact h.dev.other hk h1 h2 hm
theorem VI.below {w w' : World} {s : VS} (h : VI w s) (hb : Below w.heap.size w w') : VI w' s :=
  ⟨h.vol.below hb, h.dev.below hb, h.fresh.below hb, h.fm, h.fused, h.n16, h.n200, h.lg⟩

end Go.Proofs.YtebdgcoandfocaaGreatDoor
