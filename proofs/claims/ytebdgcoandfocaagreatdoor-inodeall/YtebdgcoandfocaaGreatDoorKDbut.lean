/-
  What a call leaves alone: all blocks but those of a set.
-/
import Derived.Test.YtebdgcoandfocaaGreatDoorKDread

namespace Go.Proofs.YtebdgcoandfocaaGreatDoor
open Go.RowKit Go.Maps

/-- Every old block outside S is as it was; the streams are as they were; no block has gone. -/
structure But (S : Nat → Prop) (w w' : World) : Prop where
  os : w'.os = w.os
  tape : w'.tape = w.tape
  output : w'.output = w.output
  size : w.heap.size ≤ w'.heap.size
  block : ∀ k, k < w.heap.size → ¬ S k → w'.heap[k]? = w.heap[k]?

theorem But.refl (S : Nat → Prop) (w : World) : But S w w := ⟨rfl, rfl, rfl, Nat.le_refl _, fun _ _ _ => rfl⟩
theorem But.trans {S : Nat → Prop} {a b c : World} (h : But S a b) (k : But S b c) : But S a c :=
  ⟨k.os.trans h.os, k.tape.trans h.tape, k.output.trans h.output, Nat.le_trans h.size k.size, fun i hi hn => (k.block i (Nat.lt_of_lt_of_le hi h.size) hn).trans (h.block i hi hn)⟩
theorem But.mono {S T : Nat → Prop} {a b : World} (h : But S a b) (hs : ∀ k, k < a.heap.size → S k → T k) : But T a b :=
  ⟨h.os, h.tape, h.output, h.size, fun i hi hn => h.block i hi (fun hs' => hn (hs i hi hs'))⟩
theorem But.drew {S : Nat → Prop} {a b : World} (h : But S a b) : But S a b.drew := ⟨h.os, h.tape, h.output, h.size, h.block⟩
theorem But.of_grown {S : Nat → Prop} {a b : World} {row : Option Nat} (h : a.grownBy b row) (hs : ∀ k, row = some k → S k) : But S a b :=
  ⟨h.os, h.tape, h.output, h.size, fun i hi hn => h.block i hi (fun e => hn (hs i e.symm))⟩
theorem But.alloc {S : Nat → Prop} {a b : World} (h : But S a b) (o : Obj) : But S a (b.alloc o) :=
  h.trans ⟨rfl, rfl, rfl, by simp, fun k hk _ => Below.heap_alloc _ _ _ hk⟩
theorem But.setCell {S : Nat → Prop} {a b : World} (h : But S a b) (p : Addr) (hp : S p.block) (u : Value) : But S a (b.setCell p u) :=
  h.trans (But.of_grown (grown_set _ _ _) (by intro k hk; cases hk; exact hp))
theorem But.below {S : Nat → Prop} {a b : World} (h : But S a b) {B : Nat} (hB : B ≤ a.heap.size) (hS : ∀ k, S k → B ≤ k) : Below B a b :=
  ⟨h.os, h.tape, h.output, h.size, fun k hk => h.block k (by omega) (fun hs => by have := hS k hs; omega)⟩
theorem But.of_below {S : Nat → Prop} {a b : World} (h : Below a.heap.size a b) : But S a b :=
  ⟨h.os, h.tape, h.output, h.size, fun k hk _ => h.block k hk⟩

/-- How an element of the map reads: as the pointer itself. -/
def ptrElem : Value → Option (DataW Value × List MemPlace)
  | .pointer p => some (.held (.pointer p), [])
  | _ => none
theorem ptrElem_inv {v : Value} {z : DataW Value × List MemPlace} (h : ptrElem v = some z) : ∃ p, v = .pointer p ∧ z = (.held (.pointer p), []) := by
  unfold ptrElem at h
  split at h
  · cases h; exact ⟨_, rfl, rfl⟩
  · cases h

theorem Tryz.zero155 (w : World) : (zeroValue 155).run Tryz.prog w = .ok (.pointer none) w := by kernel_rfl
theorem keyed : Keyed Tryz.prog 3 := int_keyed Tryz.underlying3

/-- The datum of a pointer. -/
def ptrD (p : Option Addr) : DataW Value := .held (.pointer p)

theorem key_i64 {i : Nat} (h : i < 9223372036854775808) : keyOf Tryz.prog 3 (.int .i64 i) = some (.int .i64 i) :=
  keyOf_int_mk Tryz.underlying3 (WalkArith.wf_i64 (by omega))

/-- 'v, ok := m[i]'. -/
theorem look_ok {w : World} {m nn : Nat} {D : DataW Value} (h : w.ownsMap Tryz.prog 3 ptrElem m nn D) {i : Nat} (hi : i < 9223372036854775808) :
    ∃ q, (Instr.lookup 125 (.map (some m)) (.int .i64 i) true).run Tryz.prog w = .ok (.tuple #[.pointer q, .bool (Maps.has D (.int .i64 i))]) w ∧ D.atKey (.int .i64 i) (ptrD none) = ptrD q := by
  obtain ⟨v, ps, hrun, hv⟩ := h.look_ok keyed Tryz.underlying125 (Tryz.zero155 w) (zd := ptrD none) (zp := []) rfl (key_i64 hi)
  obtain ⟨q, rfl, hz⟩ := ptrElem_inv hv
  simp only [Prod.mk.injEq] at hz
  exact ⟨q, hrun, hz.1⟩

/-- 'm[i] = p'. -/
theorem put_run {w : World} {m nn : Nat} {D : DataW Value} (h : w.ownsMap Tryz.prog 3 ptrElem m nn D) (hn : nn < maxLen) {i : Nat} (hi : i < 9223372036854775808) (p : Option Addr) :
    ∃ w', (Instr.mapUpdate 125 (.map (some m)) (.int .i64 i) (.pointer p)).run Tryz.prog w = .ok () w' ∧ w'.ownsMap Tryz.prog 3 ptrElem m (nn + 1) (D.put (.int .i64 i) (ptrD p)) ∧ w.mapTurned w' m :=
  h.store keyed Tryz.underlying125 hn (key_i64 hi) (d := ptrD p) (ps := []) rfl

theorem zc_tBlk : Tryz.zeroCells158 = zeros.toArray := by kernel_rfl

end Go.Proofs.YtebdgcoandfocaaGreatDoor
