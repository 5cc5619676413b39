/-
  What is found behind a Format that may have died, and a crash.
-/
import Derived.Test.YtcchhalmlkdepaaGreatDoorWkpr
namespace Go.Proofs.YtcchhalmlkdepaaGreatDoor
open Go.RowKit Go.Maps Go.Sort Go.Shelf

/-- The device behind the crash: no head, and the format has died; or the head, and zeros. -/
structure FoundD (w w' : World) (n : Nat) (d : DS) (z : Int) : Prop where
  dev : Dev w' d
  below : Below w.heap.size w w'
  eqn : d.n = n
  D : d.D = .map []
  dead : d.dead = false
  what : (z = 5 ∧ opened (d.B 0) = none) ∨ ((z = 0 ∨ z = 5) ∧ d.B 0 = headB 1 0 n ∧ ∀ i, 0 < i → i < n → d.B i = zeroB)

theorem crash_found (g : Nat) (p : Option Addr) (c : Nat) (ks : List Bool) (d0 d : DS) (z : Int) (w0 w : World) (hd : Dev w d) (hdn : d.n = d0.n) (hw : Below w0.heap.size w0 w) (hz : ∀ i, i < d0.n → d0.B i = zeroB) (hn : 1 ≤ d0.n) (he : FmtEnd w0 d0 d z)
    (hg : w.heap[g]? = some (.cells #[.slice p ks.length c] 47 (0, 0))) (hl : ks.length < 9223372036854775808) (hks : Bools w p ks) :
    Calls Tryz.prog 15 #[dp d.a, .func (.func 42) #[] #[.pointer (some ⟨g, 0, none⟩)]] w fun e w' => ∃ d', e = .returned (dp d'.a) ∧ FoundD w w' d0.n d' z := by
  rcases he with ⟨rfl, hD, hB⟩ | ⟨rfl, ⟨q, hD, hq⟩, hB⟩ | ⟨rfl, hD, hB⟩
  · refine (dev_crash_still _ d w hd hD).mono ?_
    rintro e w' ⟨a, s, c', m, rfl, hd', hb, _⟩
    refine ⟨_, rfl, hd', hb, hdn, rfl, rfl, .inl ⟨rfl, ?_⟩⟩
    show opened (d.B 0) = none
    rw [hB, hz 0 hn]
    exact opened_zero
  · have hq' : Holds512 w q (zeroB.map u8v) := hq.keep fun g' hg' => hw.block g' (Array.getElem?_eq_some_iff.1 hg').1
    refine (dev_crash_head _ (ks.headD false) q d w hd hD hq' (fun W hW => kept_keeper g p c ks W (below_block hg hW) hl (hks.below hW (Nat.le_refl _)))).mono ?_
    rintro e w' ⟨a, s, c', m, rfl, hd', hb, _⟩
    refine ⟨_, rfl, hd', hb, hdn, rfl, rfl, ?_⟩
    cases ks.headD false
    · left
      refine ⟨rfl, ?_⟩
      show opened (upd d.B 0 zeroB 0) = none
      exact opened_zero
    · right
      refine ⟨.inr rfl, ?_, fun i h0 hi => ?_⟩
      · show d.B 0 = _
        rw [hB]; simp [upd]
      · show d.B i = _
        rw [hB]
        have : i ≠ 0 := by omega
        simp only [upd, this, if_false]
        exact hz i hi
  · refine (dev_crash_still _ d w hd hD).mono ?_
    rintro e w' ⟨a, s, c', m, rfl, hd', hb, _⟩
    refine ⟨_, rfl, hd', hb, hdn, rfl, rfl, .inr ⟨.inl rfl, ?_, fun i h0 hi => ?_⟩⟩
    · show d.B 0 = _
      rw [hB]; simp [upd]
    · show d.B i = _
      rw [hB]
      have : i ≠ 0 := by omega
      simp only [upd, this, if_false]
      exact hz i hi

/-- Mount of a volume of zeros. -/
theorem mount_zeros (n : Nat) (d : DS) (w0 w : World) (z : Int) (h : FoundD w0 w n d z) (ht : Tab w) (hn : 16 ≤ n) (hb0 : d.B 0 = headB 1 0 n) (hz : ∀ i, 0 < i → i < n → d.B i = zeroB) :
    Calls Tryz.prog 14 #[dp d.a] w fun e w' => ∃ v f, e = .returned (.tuple #[dp v, .int .i64 0]) ∧ Mounted w w' v d 0 1 f [] := by
  have hn' := h.eqn
  have := mount_ok [] 1 0 d w h.dev ht (by omega) h.dead h.D (by rw [hb0, hn']) (by omega) (by omega) (by
    refine ⟨by unfold nbOf; omega, fun hlt => ?_⟩
    rw [hz _ (by omega) (by omega)]
    exact oldB_zero _)
  exact this

end Go.Proofs.YtcchhalmlkdepaaGreatDoor
