/-
  Crash of the document's device.
-/
import Derived.Test.YtnobebgnbofdpaaRefd
namespace Go.Proofs.Ytnobebgnbofdpaa
open Go.RowKit Go.Maps

/-- Is a loose block kept? By its number, over and over. -/
def keepsB (ks : List Bool) (j : Nat) : Bool := decide (0 < ks.length) && (ks[j % ks.length]?.getD false)

/-- What a crash of the document's leaves at place j: its two rows, its loose marks, what is kept. -/
def chosen (ks : List Bool) (aS aN aL : Array Value) (j : Nat) : Option Value :=
  match aL[j]? with
  | some (.bool b) => if (b && keepsB ks j) = true then aN[j]? else aS[j]?
  | _ => aS[j]?
theorem chosen_of {ks : List Bool} {aS aN aL : Array Value} {j : Nat} {b : Bool} (h : aL[j]? = some (.bool b)) : chosen ks aS aN aL j = if (b && keepsB ks j) = true then aN[j]? else aS[j]? := by
  unfold chosen; rw [h]

/-- What the loop of Crash has done behind k rounds. -/
structure XInv (w wr : World) (r' n sS' cS' sN' cN' sL' cL' : Nat) (L : Array Value) (ks : List Bool) (aS aN aL : Array Value) (k : Nat) (A B : Array Value) : Prop where
  rv : RV wr r' n sS' cS' sN' cN' sL' cL' A B L (-1) 0
  szA : n ≤ A.size
  szB : n ≤ B.size
  doneA : ∀ j, j < k → A[j]? = chosen ks aS aN aL j
  doneB : ∀ j, j < k → B[j]? = chosen ks aS aN aL j
  bel : Below w.heap.size w wr
  gS : w.heap.size ≤ sS'
  gN : w.heap.size ≤ sN'

theorem XInv.step {w wr : World} {r' n sS' cS' sN' cN' sL' cL' : Nat} {L : Array Value} {ks : List Bool} {aS aN aL : Array Value} {k : Nat} {A B : Array Value}
    (h : XInv w wr r' n sS' cS' sN' cN' sL' cL' L ks aS aN aL k A B) (hk : k < n) {v : Value} (hv : chosen ks aS aN aL k = some v) :
    XInv w ((wr.setCell ⟨sS', k, none⟩ v).setCell ⟨sN', k, none⟩ v) r' n sS' cS' sN' cN' sL' cL' L ks aS aN aL (k + 1) (A.setIfInBounds k v) (B.setIfInBounds k v) := by
  have rsS := ne_of_tag h.rv.ref h.rv.rS (by decide)
  have rsN := ne_of_tag h.rv.ref h.rv.rN (by decide)
  have nL := ne_of_tag h.rv.rN h.rv.rL (by decide)
  have sL := ne_of_tag h.rv.rS h.rv.rL (by decide)
  have h1 := h.rv.rS
  have h2 : (wr.setCell ⟨sS', k, none⟩ v).heap[sN']? = some (.cells B 28 (0, 0)) := (Below.heap_setCell wr ⟨sS', k, none⟩ v sN' h.rv.ne.symm).trans h.rv.rN
  have hA := h.szA
  have hB := h.szB
  refine ⟨⟨?_, ?_, ?_, ?_, h.rv.ne⟩, by simpa using h.szA, by simpa using h.szB, fun j hj => ?_, fun j hj => ?_, (h.bel.setCell (p := ⟨sS', k, none⟩) h.gS _).setCell (p := ⟨sN', k, none⟩) h.gN _, h.gS, h.gN⟩
  · exact (Below.heap_setCell _ ⟨sN', k, none⟩ _ r' rsN).trans ((Below.heap_setCell _ ⟨sS', k, none⟩ _ r' rsS).trans h.rv.ref)
  · rw [Below.heap_setCell _ ⟨sN', k, none⟩ _ sS' h.rv.ne]
    simp [World.setCell, Array.getElem?_modify, h1]
  · generalize wr.setCell ⟨sS', k, none⟩ v = W at h2
    simp [World.setCell, Array.getElem?_modify, h2]
  · exact (Below.heap_setCell _ ⟨sN', k, none⟩ _ sL' nL.symm).trans ((Below.heap_setCell _ ⟨sS', k, none⟩ _ sL' sL.symm).trans h.rv.rL)
  · rw [Array.getElem?_setIfInBounds]
    by_cases hkj : k = j
    · subst hkj; rw [if_pos rfl, if_pos (by omega)]; exact hv.symm
    · rw [if_neg hkj]; exact h.doneA j (by omega)
  · rw [Array.getElem?_setIfInBounds]
    by_cases hkj : k = j
    · subst hkj; rw [if_pos rfl, if_pos (by omega)]; exact hv.symm
    · rw [if_neg hkj]; exact h.doneB j (by omega)

theorem row_block {w : World} {base e n g c : Nat} {xs : List Value} (h : w.ownsRow base e 1 (.slice (some ⟨g, 0, none⟩) n c) n xs) : base ≤ g ∧ ∃ cur, w.heap[g]? = some (.cells cur e (0, 0)) ∧ n ≤ cur.size := by
  rcases h.2 with ⟨h0, _⟩ | ⟨g', cap, cur, hv, hb, hg, hnc, _, hsz, _⟩
  · cases h0
  · cases hv
    exact ⟨hb, cur, hg, by omega⟩

set_option maxHeartbeats 2000000 in
theorem rcrash_any (kp : Option Addr) (kc : Nat) (ks : List Bool) (r n sS cS sN cN sL cL : Nat) (aS aN aL : Array Value) (lef cnt : Int) (w : World) (h : RV w r n sS cS sN cN sL cL aS aN aL lef cnt)
    (hn1 : 1 ≤ n) (hn : n ≤ 65536) (hSv : ∀ j, j < n → ∃ q l c, aS[j]? = some (.slice q l c)) (hNv : ∀ j, j < n → ∃ q l c, aN[j]? = some (.slice q l c)) (hLv : ∀ j, j < n → ∃ b, aL[j]? = some (.bool b))
    (hkl : ks.length < 9223372036854775808) (hks : 0 < ks.length → ∃ kb ko, kp = some ⟨kb, ko, none⟩ ∧ ∀ j x, ks[j]? = some x → w.cell? ⟨kb, ko + j, none⟩ = some (.bool x)) :
    Calls Try.prog 18 #[.pointer (some ⟨r, 0, none⟩), .slice kp ks.length kc] w fun e w' => ∃ r' sS' cS' sN' cN' sL' A B L, e = .returned (.pointer (some ⟨r', 0, none⟩)) ∧
      XInv w w' r' n sS' cS' sN' cN' sL' n L ks aS aN aL n A B ∧ w.heap.size ≤ r' ∧ w.heap.size ≤ sL' ∧ n ≤ L.size ∧ ∀ j, j < n → L[j]? = some (.bool false) := by
  have k1 := cellOf h.ref 1
  simp [refCells] at k1
  have rlt := h.rlt
  have HR : Hid (RV w r n sS cS sN cN sL cL aS aN aL lef cnt) := h
  have HK : Hid (0 < ks.length → ∃ kb ko, kp = some ⟨kb, ko, none⟩ ∧ ∀ j x, ks[j]? = some x → w.cell? ⟨kb, ko + j, none⟩ = some (.bool x)) := hks
  have c8 := rnew_yes n w hn1 hn
  clear h hks
  go_enter Try.func18, Try.ntmps18
  go_wp2_with (go_at_call 8; refine c8.mono ?_; rintro e w1 ⟨r', z, sS', cS', sN', cN', rfl, hr', href', hz, hrows, hbools, hB1⟩)
  obtain ⟨hgS, A0, hA0, hA0n⟩ := row_block hrows.s
  obtain ⟨hgN, B0, hB0, hB0n⟩ := row_block hrows.n
  have hne : sS' ≠ sN' := by
    rcases hrows.ne with h0 | h0
    · cases h0
    · intro e; exact h0 (by rw [e]; rfl)
  have start : XInv w w1 r' n sS' cS' sN' cN' w.heap.size n (List.replicate n (.bool false)).toArray ks aS aN aL 0 A0 B0 :=
    ⟨⟨href', hA0, hB0, hbools, hne⟩, hA0n, hB0n, fun j hj => absurd hj (Nat.not_lt_zero _), fun j hj => absurd hj (Nat.not_lt_zero _), hB1, hgS, hgN⟩
  clear hrows hA0 hB0 hbools hz href' c8
  go_loopw [6] (fun ix wr => ∃ k : Nat, k ≤ n ∧ ix = .int .i64 k ∧ ∃ A B, XInv w wr r' n sS' cS' sN' cN' w.heap.size n (List.replicate n (.bool false)).toArray ks aS aN aL k A B) (fun ix _ => n - (intOf ix).toNat)
  case atStart => exact ⟨0, Nat.zero_le _, rfl, _, _, start⟩
  case round =>
    clear start
    obtain ⟨k, hk, rfl, A, B, hinv⟩ := hrel
    have hRr := HR.out
    have l0 : wr.cell? ⟨r, 0, none⟩ = some (.slice (some ⟨sS, 0, none⟩) n cS) := by rw [hinv.bel.cell (p := ⟨r, 0, none⟩) rlt]; have := cellOf hRr.ref 0; simpa [refCells] using this
    have l1 : wr.cell? ⟨r, 1, none⟩ = some (.slice (some ⟨sN, 0, none⟩) n cN) := by rw [hinv.bel.cell (p := ⟨r, 1, none⟩) rlt]; exact k1
    have l2 : wr.cell? ⟨r, 2, none⟩ = some (.slice (some ⟨sL, 0, none⟩) n cL) := by rw [hinv.bel.cell (p := ⟨r, 2, none⟩) rlt]; have := cellOf hRr.ref 2; simpa [refCells] using this
    by_cases hlt : k < n
    · obtain ⟨qS, lS, dS, hvS⟩ := hSv k hlt
      obtain ⟨qN, lN, dN, hvN⟩ := hNv k hlt
      obtain ⟨b, hvL⟩ := hLv k hlt
      have e1 : wr.cell? ⟨sS, k, none⟩ = some (.slice qS lS dS) := by rw [hinv.bel.cell (p := ⟨sS, k, none⟩) hRr.Slt]; exact (cellOf hRr.rS k).trans hvS
      have e2 : wr.cell? ⟨sN, k, none⟩ = some (.slice qN lN dN) := by rw [hinv.bel.cell (p := ⟨sN, k, none⟩) hRr.Nlt]; exact (cellOf hRr.rN k).trans hvN
      have e3 : wr.cell? ⟨sL, k, none⟩ = some (.bool b) := by rw [hinv.bel.cell (p := ⟨sL, k, none⟩) hRr.Llt]; exact (cellOf hRr.rL k).trans hvL
      have m0 := cellOf hinv.rv.ref 0
      have m1 := cellOf hinv.rv.ref 1
      simp [refCells] at m0 m1
      have hA := hinv.szA
      have hB := hinv.szB
      obtain ⟨u0, n0⟩ : ∃ u, wr.cell? ⟨sS', k, none⟩ = some u := ⟨A[k]'(by omega), by rw [cellOf hinv.rv.rS k]; simp⟩
      have g0 := frozenOf hinv.rv.rS k
      obtain ⟨u1, n1⟩ : ∃ u, wr.cell? ⟨sN', k, none⟩ = some u := ⟨B[k]'(by omega), by rw [cellOf hinv.rv.rN k]; simp⟩
      have g1 := frozenOf hinv.rv.rN k
      have rsS' := ne_of_tag hinv.rv.ref hinv.rv.rS (by decide)
      have p1 : ∀ v, (wr.setCell ⟨sS', k, none⟩ v).cell? ⟨r', 1, none⟩ = some (.slice (some ⟨sN', 0, none⟩) n cN') := fun v => cell_set_other m1 rsS'
      have p2 : ∀ v, (wr.setCell ⟨sS', k, none⟩ v).cell? ⟨sN', k, none⟩ = some u1 := fun v => cell_set_other n1 hne.symm
      have p3 : ∀ v, (wr.setCell ⟨sS', k, none⟩ v).frozen? ⟨sN', k, none⟩ = false := fun v => frozen_set g1
      have HI : Hid (XInv w wr r' n sS' cS' sN' cN' w.heap.size n (List.replicate n (.bool false)).toArray ks aS aN aL k A B) := hinv
      have hltI : (k : Int) < n := by omega
      clear hinv hRr hA hB
      by_cases hkp : b = true ∧ keepsB ks k = true
      · obtain ⟨rfl, hkb⟩ := hkp
        have hch : Hid (chosen ks aS aN aL k = some (.slice qN lN dN)) := by show _ = _; rw [chosen_of hvL, if_pos (by rw [hkb]; rfl)]; exact hvN
        have hpos : 0 < ks.length := by simp [keepsB] at hkb; exact hkb.1
        obtain ⟨kb, ko, hkpE, hkc⟩ := HK.out hpos
        subst hkpE
        have hmod : k % ks.length < ks.length := Nat.mod_lt _ hpos
        obtain ⟨y, hy⟩ : ∃ y, ks[k % ks.length]? = some y := ⟨_, List.getElem?_eq_getElem hmod⟩
        have hyt : y = true := by simp [keepsB, hy] at hkb; exact hkb.2
        subst hyt
        have ck : wr.cell? ⟨kb, ko + k % ks.length, none⟩ = some (.bool true) := by
          rw [HI.out.bel.cell (p := ⟨kb, _, none⟩) (World.block_lt_of_cell? w _ (hkc _ _ hy))]; exact hkc _ _ hy
        have hposI : (0 : Int) < ks.length := by omega
        clear hy hkc hkb hvS hvN hvL hSv hNv hLv
        go_wp2
        exact ⟨⟨k + 1, by omega, by go_num, _, _, HI.out.step hlt hch.out⟩, by simp [intOf]; omega⟩
      · have hch : Hid (chosen ks aS aN aL k = some (.slice qS lS dS)) := by
          show _ = _
          rw [chosen_of hvL, if_neg (by simpa using hkp)]
          exact hvS
        cases b with
        | false =>
          clear hkp hvS hvN hvL hSv hNv hLv
          go_wp2
          exact ⟨⟨k + 1, by omega, by go_num, _, _, HI.out.step hlt hch.out⟩, by simp [intOf]; omega⟩
        | true =>
          by_cases hpos : 0 < ks.length
          · obtain ⟨kb, ko, hkpE, hkc⟩ := HK.out hpos
            subst hkpE
            have hmod : k % ks.length < ks.length := Nat.mod_lt _ hpos
            obtain ⟨y, hy⟩ : ∃ y, ks[k % ks.length]? = some y := ⟨_, List.getElem?_eq_getElem hmod⟩
            have hyt : y = false := by simpa [keepsB, hy, hpos] using hkp
            subst hyt
            have ck : wr.cell? ⟨kb, ko + k % ks.length, none⟩ = some (.bool false) := by
              rw [HI.out.bel.cell (p := ⟨kb, _, none⟩) (World.block_lt_of_cell? w _ (hkc _ _ hy))]; exact hkc _ _ hy
            have hposI : (0 : Int) < ks.length := by omega
            clear hy hkc hkp hvS hvN hvL hSv hNv hLv
            go_wp2
            exact ⟨⟨k + 1, by omega, by go_num, _, _, HI.out.step hlt hch.out⟩, by simp [intOf]; omega⟩
          · have hz : ks.length = 0 := by omega
            clear hkp hvS hvN hvL hSv hNv hLv
            go_wp2
            exact ⟨⟨k + 1, by omega, by go_num, _, _, HI.out.step hlt hch.out⟩, by simp [intOf]; omega⟩
    · obtain rfl : k = n := by omega
      go_wp2
      go_ret
      exact ⟨r', sS', cS', sN', cN', w.heap.size, A, B, _, rfl, hinv, hr', Nat.le_refl _, by simp, fun j hj => by rw [List.getElem?_toArray, List.getElem?_replicate, if_pos hj]⟩

end Go.Proofs.Ytnobebgnbofdpaa
