/-
  A crash of a device whose head alone is loose.
-/
import Derived.Test.YtcchhalmlkdepaaGreatDoorWffmt
namespace Go.Proofs.YtcchhalmlkdepaaGreatDoor
open Go.RowKit Go.Maps Go.Sort Go.Shelf

theorem loosened_keys (p : Option Addr) : keys (loosened (.map []) 0 p) = [0] := by
  have h : intKeys (loosened (.map []) 0 p) = [0] := by rfl
  unfold keys
  rw [h]
  exact List.mergeSort_singleton 0
theorem loosened_at (p : Option Addr) : (loosened (.map []) 0 p).atKey (.int .i64 (0 : Nat)) (ptrD none) = ptrD p := by rfl

/-- Crash of a device whose block 0 alone is loose, and was zeros. -/
theorem dev_crash_head (kv : Value) (b : Bool) (p : Option Addr) (d : DS) (w : World) (h : Dev w d) (hD : d.D = loosened (.map []) 0 p) (hp : Holds512 w p (zeroB.map u8v))
    (hk : ∀ W, Below w.heap.size w W → Calls Tryz.prog 37 #[kv, .int .i64 0] W fun e W' => e = .returned (.bool b) ∧ Below W.heap.size W W') :
    Calls Tryz.prog 15 #[dp d.a, kv] w fun e w' => ∃ a s c m, e = .returned (.pointer (some ⟨a, 0, none⟩)) ∧ Dev w' { newDS a s c m d.n with B := if b then d.B else upd d.B 0 zeroB } ∧ Below w.heap.size w w' ∧ w.heap.size ≤ a ∧ w.heap.size ≤ s ∧ w.heap.size ≤ m := by
  obtain ⟨cur, hr, hcs, hx⟩ := h.row
  have hown := h.own
  rw [hD] at hown
  have hlt := h.mlt
  have hn1 := h.hn1
  refine (crash_any kv d.a d.s d.n d.c d.m d.nn (loosened (.map []) 0 p) cur d.fused d.left d.count w h.dev hr hown h.hn1 h.hn hcs (fun i hi => (hx i hi).imp fun p hp => hp.1) (by show 1 ≤ maxLen; unfold maxLen; omega) (by show 1 * 8 ≤ _; omega)
    (by rw [loosened_keys]; intro x hx; simp at hx; subst hx; omega) (by rw [loosened_keys]; simp) (fun _ => b) (fun _ => False) (fun _ h => h.elim) (fun _ W => But (fun _ => False) w W) (But.refl _ w)
    (fun k W W' h1 h2 => ⟨h2.os.trans h1.os, h2.tape.trans h1.tape, h2.output.trans h1.output, Nat.le_trans h1.size h2.size, fun g hg _ => (h2.block g (Nat.lt_of_lt_of_le hg h1.size) (by omega)).trans (h1.block g hg (fun h => h))⟩)
    (fun k x W hk' h1 => ?_)).mono ?_
  · rw [loosened_keys] at hk'
    have hk0 : k = 0 := by have := (List.getElem?_eq_some_iff.1 hk').1; simp at this; exact this
    subst hk0
    simp at hk'
    subst hk'
    refine (hk W (h1.below (Nat.le_refl _) (fun _ h => h.elim))).mono ?_
    rintro e W' ⟨rfl, hB⟩
    exact ⟨rfl, h1.trans (But.of_below hB), But.of_below hB⟩
  rintro e w' ⟨a', g, cap, m', rfl, hin, _⟩
  obtain ⟨curk, hrk, hcap, hrow⟩ := hin.row
  have hB : Below w.heap.size w w' := hin.but.below (Nat.le_refl _) (fun _ h => h.elim)
  have hlen : ∀ i, i < d.n → ((if b then d.B else upd d.B 0 zeroB) i).length = 512 := by
    intro i hi
    cases b
    · simp only [Bool.false_eq_true, if_false, upd]
      split
      · exact zeroB_length
      · exact h.len i hi
    · exact h.len i hi
  refine ⟨a', g, cap, m', rfl, ⟨hin.dev, ⟨curk, hrk, hcap, fun i hi => ?_⟩, ownsMap_empty hin.map, hin.ag, h.hn1, h.hn, hlen, Int.le_refl _, Int.le_refl _, fun h => by cases h⟩, hB, hin.ga, hin.gg, hin.gm⟩
  obtain ⟨q, hq, hq1, hq2⟩ := hrow i hi
  refine ⟨q, hq, ?_⟩
  rw [loosened_keys] at hq1 hq2
  obtain ⟨p', hp', hh⟩ := hx i hi
  have keepH : ∀ {q l}, Holds512 w q l → Holds512 w' q l := fun hh => hh.keep fun g' hg' => hB.block g' (Array.getElem?_eq_some_iff.1 hg').1
  by_cases hi0 : i = 0 ∧ b = false
  · obtain ⟨rfl, rfl⟩ := hi0
    have := hq1 ⟨by simp, rfl⟩
    rw [loosened_at] at this
    have e : p = q := by simpa [ptrD] using this
    subst e
    exact keepH hp
  · have := hq2 (by rintro ⟨h1, h2⟩; simp at h1; exact hi0 ⟨h1, h2⟩)
    rw [hp'] at this
    cases this
    have e : (if b then d.B else upd d.B 0 zeroB) i = d.B i := by
      cases b
      · have : i ≠ 0 := fun e => hi0 ⟨e, rfl⟩
        simp [upd, this]
      · rfl
    show Holds512 w' q (((if b then d.B else upd d.B 0 zeroB) i).map u8v)
    rw [e]
    exact keepH hh

/-- Crash, with whatever keeper, of a device that has nothing loose. -/
theorem dev_crash_still (kv : Value) (d : DS) (w : World) (h : Dev w d) (hD : d.D = .map []) :
    Calls Tryz.prog 15 #[dp d.a, kv] w fun e w' => ∃ a s c m, e = .returned (.pointer (some ⟨a, 0, none⟩)) ∧ Dev w' { newDS a s c m d.n with B := d.B } ∧ Below w.heap.size w w' ∧ w.heap.size ≤ a ∧ w.heap.size ≤ s ∧ w.heap.size ≤ m := by
  obtain ⟨cur, hr, hcs, hx⟩ := h.row
  have hown := h.own
  rw [hD] at hown
  have hlt := h.mlt
  refine (crash_any kv d.a d.s d.n d.c d.m d.nn (.map []) cur d.fused d.left d.count w h.dev hr hown h.hn1 h.hn hcs (fun i hi => (hx i hi).imp fun p hp => hp.1) (by show 0 ≤ maxLen; omega) (by show 0 * 8 ≤ _; omega)
    (by rw [keys_empty]; intro x hx; cases hx) (by rw [keys_empty]; simp) (fun _ => false) (fun _ => False) (fun _ h => h.elim) (fun _ _ => True) trivial (fun _ _ _ _ _ => trivial)
    (fun k x W hk _ => by rw [keys_empty] at hk; cases hk)).mono ?_
  rintro e w' ⟨a', g, cap, m', rfl, hin, _⟩
  obtain ⟨curk, hrk, hcap, hrow⟩ := hin.row
  have hB : Below w.heap.size w w' := hin.but.below (Nat.le_refl _) (fun _ h => h.elim)
  refine ⟨a', g, cap, m', rfl, ⟨hin.dev, ⟨curk, hrk, hcap, fun i hi => ?_⟩, ownsMap_empty hin.map, hin.ag, h.hn1, h.hn, h.len, Int.le_refl _, Int.le_refl _, fun h => by cases h⟩, hB, hin.ga, hin.gg, hin.gm⟩
  obtain ⟨q, hq, _, hq2⟩ := hrow i hi
  obtain ⟨p, hp, hh⟩ := hx i hi
  have := hq2 (by rw [keys_empty]; simp)
  rw [hp] at this
  cases this
  exact ⟨_, hq, hh.keep fun g' hg' => hB.block g' (Array.getElem?_eq_some_iff.1 hg').1⟩

end Go.Proofs.YtcchhalmlkdepaaGreatDoor
