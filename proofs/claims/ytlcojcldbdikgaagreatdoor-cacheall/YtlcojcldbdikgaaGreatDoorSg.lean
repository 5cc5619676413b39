/-
  The document's own cache: use.
-/
import Derived.Test.YtlcojcldbdikgaaGreatDoorSf
namespace Go.Proofs.YtlcojcldbdikgaaGreatDoor.Rc
open Go.RowKit Go.Maps

attribute [local go_sem] Oper.semAt_some

/-- The list once a block is held; its place. -/
def HoldsTo (S : RS) (x : Nat) (S1 : RS) (k : Nat) : Prop :=
  (placeR S.L x = (k : Nat) ∧ S1 = S) ∨
  (placeR S.L x = -1 ∧ ∃ S0 sv, ((S.L.length < S.room ∧ S0 = S) ∨ ∃ j y, S.room ≤ S.L.length ∧ S.L[j]? = some y ∧ victimR S.L = some y ∧ S0 = { S with L := S.L.take j ++ S.L.drop (j + 1), outs := S.outs + 1 }) ∧ S.V[x]? = some sv ∧ k = S0.L.length ∧ S1 = { S0 with L := S0.L ++ [⟨x, 0, 0, false, sv⟩] })
theorem place_at {L : List RE} {x : Int} {k : Nat} (h : placeR L x = (k : Nat)) : ∃ y, L[k]? = some y ∧ (y.block : Int) = x := by
  unfold placeR at h
  cases hf : L.findIdx? (fun h => decide ((h.block : Int) = x)) with
  | none => rw [hf] at h; simp at h
  | some i =>
    rw [hf] at h
    have h' : (i : Int) = (k : Nat) := h
    obtain rfl : i = k := by omega
    rw [List.findIdx?_eq_some_iff_getElem] at hf
    obtain ⟨hl, he, _⟩ := hf
    exact ⟨_, List.getElem?_eq_getElem hl, by simpa using he⟩
theorem HoldsTo.get {S S1 : RS} {x k : Nat} (h : HoldsTo S x S1 k) : (∃ y, S1.L[k]? = some y) ∧ S1.time = S.time ∧ S1.hit = S.hit ∧ S1.miss = S.miss ∧ S1.V = S.V := by
  rcases h with ⟨hp, rfl⟩ | ⟨_, S0, sv, hS, _, rfl, rfl⟩
  · obtain ⟨y, hy, _⟩ := place_at hp
    exact ⟨⟨y, hy⟩, rfl, rfl, rfl, rfl⟩
  · refine ⟨⟨_, List.getElem?_concat_length⟩, ?_⟩
    rcases hS with ⟨_, rfl⟩ | ⟨_, _, _, _, _, rfl⟩ <;> exact ⟨rfl, rfl, rfl, rfl⟩
/-- A block is used. -/
def useR (S1 : RS) (k : Nat) (y : RE) (h m : Nat) : RS := { S1 with hit := S1.hit + h, miss := S1.miss + m, time := S1.time + 1, L := S1.L.set k { y with used := S1.time + 1 } }
/-- What use leaves. -/
def Used (base r : Nat) (vv lv : Value) (S : RS) (x : Int) (count : Bool) (w : World) (e : Ending) (w' : World) : Prop :=
  Fr base w w' ∧ ((¬ (0 ≤ x ∧ x < S.V.length) ∧ e = .returned (.tuple #[.int .i64 0, .int .i64 22]) ∧ RF w' base r vv lv S) ∨
    (∃ b : Nat, x = (b : Nat) ∧ b < S.V.length ∧ placeR S.L b = -1 ∧ S.room ≤ S.L.length ∧ victimR S.L = none ∧ e = .returned (.tuple #[.int .i64 0, .int .i64 28]) ∧ RF w' base r vv lv S) ∨
    (∃ (b k : Nat) (S1 : RS) (y : RE) (lv' : Value) (h m : Nat), x = (b : Nat) ∧ b < S.V.length ∧ HoldsTo S b S1 k ∧ S1.L[k]? = some y ∧ (h = if count && decide (0 ≤ placeR S.L b) then 1 else 0) ∧ (m = if count && !decide (0 ≤ placeR S.L b) then 1 else 0) ∧
      e = .returned (.tuple #[.int .i64 (k : Nat), .int .i64 0]) ∧ RF w' base r vv lv' (useR S1 k y h m)))

set_option maxRecDepth 8000 in
set_option maxHeartbeats 4000000 in
theorem use_out (base r : Nat) (vv lv : Value) (S : RS) (x : Int) (count : Bool) (w : World) (h : RF w base r vv lv S) (hx : ¬ (0 ≤ x ∧ x < S.V.length)) : Calls Tryz.prog 30 #[.pointer (some ⟨r, 0, none⟩), .int .i64 x, .bool count] w (Used base r vv lv S x count w) := by
  obtain ⟨pV, cV, rfl, _, _⟩ := own_form h.vrow
  have c0 : w.cell? ⟨r, 0, none⟩ = some (.slice pV S.V.length cV) := cellOf h.cell 0
  have HF : Hid (Used base r (.slice pV S.V.length cV) lv S x count w (.returned (.tuple #[.int .i64 0, .int .i64 22])) w) := ⟨Fr.refl _ _, .inl ⟨hx, rfl, h⟩⟩
  have hcase : x < 0 ∨ (¬ x < 0 ∧ (S.V.length : Int) ≤ x) := by omega
  clear h hx
  generalize S.V.length = n at *
  rcases hcase with h1 | ⟨h1, h2⟩
  · go_enter Tryz.func30, Tryz.ntmps30
    go_wp2
    go_ret2
    exact HF.out
  · go_enter Tryz.func30, Tryz.ntmps30
    go_wp2
    go_ret2
    exact HF.out

set_option maxRecDepth 8000 in
set_option maxHeartbeats 8000000 in
theorem use_in (base r b : Nat) (vv lv : Value) (S : RS) (count : Bool) (w : World) (h : RF w base r vv lv S) (hx : b < S.V.length) (hl : S.L.length ≤ 10000) (hbig : S.outs < 1000000000000 ∧ S.hit < 1000000000000 ∧ S.miss < 1000000000000 ∧ S.time < 1000000000000) : Calls Tryz.prog 30 #[.pointer (some ⟨r, 0, none⟩), .int .i64 (b : Nat), .bool count] w (Used base r vv lv S (b : Nat) count w) := by
  obtain ⟨pL, cL, rfl, _, _⟩ := own_form h.row
  obtain ⟨P, hP⟩ : ∃ P, placeR S.L b = P := ⟨_, rfl⟩
  have cP := place_any base r vv pL cL S b w h (by omega) P hP
  have cH := hold_any base r b vv _ S w h hx hl hbig.1
  obtain ⟨pV, cV, rfl, _, _⟩ := own_form h.vrow
  have c0 : w.cell? ⟨r, 0, none⟩ = some (.slice pV S.V.length cV) := cellOf h.cell 0
  have H0 : Hid (placeR S.L b = P) := hP
  have hxI : (b : Int) < (S.V.length : Int) := by omega
  have hxJ : ¬ (S.V.length : Int) ≤ (b : Int) := by omega
  have hxK : ¬ S.V.length ≤ b := by omega
  obtain ⟨nV, hnV⟩ : ∃ nV, S.V.length = nV := ⟨_, rfl⟩
  clear h hP
  go_enter Tryz.func30, Tryz.ntmps30
  go_wp2_with (first | (go_at_call 32; refine Calls_on cP ?_; clear cP) | (go_at_call 58; refine cH.mono ?_; clear cH))
  rintro e W1 ⟨hf1, ⟨k, hp, rfl, hR1⟩ | ⟨hp, hroom, hvic, rfl, hR1⟩ | ⟨hp, S0, sv, lv1, hS0, hsv, rfl, hR1⟩⟩
  · obtain rfl : P = (k : Nat) := by rw [← H0.out]; exact hp
    have HH : Hid (HoldsTo S b S k) := .inl ⟨hp, rfl⟩
    obtain ⟨y, hy, _⟩ := place_at hp
    have HY : Hid (S.L[k]? = some y) := hy
    have hkn0 := (List.getElem?_eq_some_iff.1 hy).1
    obtain ⟨gL, cL1, eL, _, _⟩ := hR1.at_ hy
    injection eL with eL1 eL2 eL3
    subst eL1
    subst eL3
    obtain ⟨nL, hnL⟩ : ∃ nL, S.L.length = nL := ⟨_, rfl⟩
    have hkn : k < nL := by omega
    rw [hnL] at hR1
    clear hp hy eL2
    cases count with
    | true =>
      have hA := hR1.setR (q := 4) (u := .int .i64 ((S.hit + 1 : Nat) : Int)) (S' := { S with hit := S.hit + 1 }) ⟨rfl, rfl⟩ (by simp)
      have hB := hA.1.setR (q := 3) (u := .int .i64 ((S.time + 1 : Nat) : Int)) (S' := { S with hit := S.hit + 1, miss := S.miss + 0, time := S.time + 1 }) ⟨rfl, rfl⟩ (by simp)
      have hfB := (hf1.trans hA.2).trans hB.2
      obtain ⟨W3, hW3⟩ : ∃ W3, W3 = (W1.setCell ⟨r, 4, none⟩ (.int .i64 ((S.hit : Int) + 1))).setCell ⟨r, 3, none⟩ (.int .i64 ((S.time : Int) + 1)) := ⟨_, rfl⟩
      have HB : Hid (RF W3 base r (.slice pV S.V.length cV) (.slice (some ⟨gL, 0, none⟩) nL cL) ({ S with hit := S.hit + 1, miss := S.miss + 0, time := S.time + 1 }) ∧ Fr base w W3) := by rw [hW3]; exact ⟨hB.1, hfB⟩
      clear hB hfB hA
      have c4 : W1.cell? ⟨r, 4, none⟩ = some (.int .i64 (S.hit : Nat)) := cellOf hR1.cell 4
      have f4 := frozenOf hR1.cell 4
      have c3 : W1.cell? ⟨r, 3, none⟩ = some (.int .i64 (S.time : Nat)) := cellOf hR1.cell 3
      have f3 := frozenOf hR1.cell 3
      clear hR1 hf1
      go_wp2_with fail
      rw [← hW3]
      obtain ⟨hR3, hf3⟩ := HB.out
      obtain ⟨g', c', e', _, hc'⟩ := hR3.at_ (i := k) (x := y) HY.out
      injection e' with e1 e2 e3
      injection e1 with e1
      injection e1 with e1
      subst e1
      refine use_reg12 (by kernel_rfl) r k nL cL gL (S.time + 1) (.int .i64 (y.used : Nat)) W3 rfl rfl rfl (cellOf hR3.cell 2) (cellOf hR3.cell 3) hkn (hc' 2 (by omega)) (own_tag hR3.row rfl).2 (fun e => hR3.ne.1 (by rw [e]; rfl)) ?_
      intro W0 hb0
      simp only [putAll, List.setIfInBounds_toArray, List.set_cons_zero, List.set_cons_succ]
      have hR0 := hR3.below hb0
      have hE := RF.setE (q := 2) (u := .int .i64 ((S.time + 1 : Nat) : Int)) (y' := { y with used := S.time + 1 }) (S := { S with hit := S.hit + 1, miss := S.miss + 0, time := S.time + 1 }) (k := k) (cL := cL) (by rw [show ({ S with hit := S.hit + 1, miss := S.miss + 0, time := S.time + 1 } : RS).L.length = nL from hnL]; exact hR0) HY.out (by omega) rfl
      have HF : Hid (Used base r (.slice pV S.V.length cV) (.slice (some ⟨gL, 0, none⟩) S.L.length cL) S (b : Nat) true w (.returned (.tuple #[.int .i64 (k : Nat), .int .i64 0])) (W0.setCell ⟨gL, k * 5 + 2, none⟩ (.int .i64 ((S.time + 1 : Nat) : Int)))) := ⟨(hf3.trans (Fr.below hb0)).trans hE.2, .inr (.inr ⟨b, k, S, y, _, 1, 0, rfl, by omega, HH.out, HY.out, by rw [H0.out]; rfl, by rw [H0.out]; rfl, rfl, hE.1⟩)⟩
      clear hE hR0 hb0 hR3 hf3 HB hc' e2 e3
      go_wp2
      go_ret2
      first
        | exact HF.out
        | (have h9 := HF.out; rw [hnV] at h9; exact h9)
        | (have h9 := HF.out; rw [hnL] at h9; exact h9)
        | (have h9 := HF.out; rw [hnV, hnL] at h9; exact h9)
        | exact (0 : Nat)
    | false =>
      have hB := hR1.setR (q := 3) (u := .int .i64 ((S.time + 1 : Nat) : Int)) (S' := { S with hit := S.hit + 0, miss := S.miss + 0, time := S.time + 1 }) ⟨rfl, rfl⟩ (by simp)
      have hfB := hf1.trans hB.2
      obtain ⟨W3, hW3⟩ : ∃ W3, W3 = W1.setCell ⟨r, 3, none⟩ (.int .i64 ((S.time : Int) + 1)) := ⟨_, rfl⟩
      have HB : Hid (RF W3 base r (.slice pV S.V.length cV) (.slice (some ⟨gL, 0, none⟩) nL cL) ({ S with hit := S.hit + 0, miss := S.miss + 0, time := S.time + 1 }) ∧ Fr base w W3) := by rw [hW3]; exact ⟨hB.1, hfB⟩
      clear hB hfB
      have c3 : W1.cell? ⟨r, 3, none⟩ = some (.int .i64 (S.time : Nat)) := cellOf hR1.cell 3
      have f3 := frozenOf hR1.cell 3
      clear hR1 hf1
      go_wp2_with fail
      rw [← hW3]
      obtain ⟨hR3, hf3⟩ := HB.out
      obtain ⟨g', c', e', _, hc'⟩ := hR3.at_ (i := k) (x := y) HY.out
      injection e' with e1 e2 e3
      injection e1 with e1
      injection e1 with e1
      subst e1
      refine use_reg12 (by kernel_rfl) r k nL cL gL (S.time + 1) (.int .i64 (y.used : Nat)) W3 rfl rfl rfl (cellOf hR3.cell 2) (cellOf hR3.cell 3) hkn (hc' 2 (by omega)) (own_tag hR3.row rfl).2 (fun e => hR3.ne.1 (by rw [e]; rfl)) ?_
      intro W0 hb0
      simp only [putAll, List.setIfInBounds_toArray, List.set_cons_zero, List.set_cons_succ]
      have hR0 := hR3.below hb0
      have hE := RF.setE (q := 2) (u := .int .i64 ((S.time + 1 : Nat) : Int)) (y' := { y with used := S.time + 1 }) (S := { S with hit := S.hit + 0, miss := S.miss + 0, time := S.time + 1 }) (k := k) (cL := cL) (by rw [show ({ S with hit := S.hit + 0, miss := S.miss + 0, time := S.time + 1 } : RS).L.length = nL from hnL]; exact hR0) HY.out (by omega) rfl
      have HF : Hid (Used base r (.slice pV S.V.length cV) (.slice (some ⟨gL, 0, none⟩) S.L.length cL) S (b : Nat) false w (.returned (.tuple #[.int .i64 (k : Nat), .int .i64 0])) (W0.setCell ⟨gL, k * 5 + 2, none⟩ (.int .i64 ((S.time + 1 : Nat) : Int)))) := ⟨(hf3.trans (Fr.below hb0)).trans hE.2, .inr (.inr ⟨b, k, S, y, _, 0, 0, rfl, by omega, HH.out, HY.out, by rw [H0.out]; rfl, by rw [H0.out]; rfl, rfl, hE.1⟩)⟩
      clear hE hR0 hb0 hR3 hf3 HB hc' e2 e3
      go_wp2
      go_ret2
      first
        | exact HF.out
        | (have h9 := HF.out; rw [hnV] at h9; exact h9)
        | (have h9 := HF.out; rw [hnL] at h9; exact h9)
        | (have h9 := HF.out; rw [hnV, hnL] at h9; exact h9)
        | exact (0 : Nat)
  · have HF : Hid (Used base r (.slice pV S.V.length cV) (.slice pL S.L.length cL) S (b : Nat) count w (.returned (.tuple #[.int .i64 0, .int .i64 28])) W1) := ⟨hf1, .inr (.inl ⟨b, rfl, by omega, hp, hroom, hvic, rfl, hR1⟩)⟩
    clear hf1 hp hroom hvic hR1
    go_wp2
    go_ret2
    exact HF.out
  · obtain rfl : P = -1 := by rw [← H0.out]; exact hp
    obtain ⟨S1, hS1⟩ : ∃ S1 : RS, S1 = { S0 with L := S0.L ++ [⟨b, 0, 0, false, sv⟩] } := ⟨_, rfl⟩
    obtain ⟨k, hk⟩ : ∃ k, S0.L.length = k := ⟨_, rfl⟩
    rw [← hS1] at hR1
    rw [hk]
    have HH : Hid (HoldsTo S b S1 k) := .inr ⟨hp, S0, sv, hS0, hsv, hk.symm, hS1⟩
    obtain ⟨⟨y, hy⟩, ht1, hh1, hm1, _⟩ := HH.out.get
    have HY : Hid (S1.L[k]? = some y) := hy
    have hkn0 := (List.getElem?_eq_some_iff.1 hy).1
    have hbt : S1.time < 1000000000000 ∧ S1.hit < 1000000000000 ∧ S1.miss < 1000000000000 := ⟨by omega, by omega, by omega⟩
    obtain ⟨gL, cLn, rfl, _, _⟩ := hR1.at_ hy
    obtain ⟨nL, hnL⟩ : ∃ nL, S1.L.length = nL := ⟨_, rfl⟩
    have hkn : k < nL := by omega
    have hkI : ¬ (k : Int) < 0 := by omega
    rw [hnL] at hR1
    clear hp hy hS0 hsv hS1 hk ht1 hh1 hm1
    cases count with
    | true =>
      have hA := hR1.setR (q := 5) (u := .int .i64 ((S1.miss + 1 : Nat) : Int)) (S' := { S1 with miss := S1.miss + 1 }) ⟨rfl, rfl⟩ (by simp)
      have hB := hA.1.setR (q := 3) (u := .int .i64 ((S1.time + 1 : Nat) : Int)) (S' := { S1 with hit := S1.hit + 0, miss := S1.miss + 1, time := S1.time + 1 }) ⟨rfl, rfl⟩ (by simp)
      have hfB := (hf1.trans hA.2).trans hB.2
      obtain ⟨W3, hW3⟩ : ∃ W3, W3 = (W1.setCell ⟨r, 5, none⟩ (.int .i64 ((S1.miss : Int) + 1))).setCell ⟨r, 3, none⟩ (.int .i64 ((S1.time : Int) + 1)) := ⟨_, rfl⟩
      have HB : Hid (RF W3 base r (.slice pV S.V.length cV) (.slice (some ⟨gL, 0, none⟩) nL cLn) ({ S1 with hit := S1.hit + 0, miss := S1.miss + 1, time := S1.time + 1 }) ∧ Fr base w W3) := by rw [hW3]; exact ⟨hB.1, hfB⟩
      clear hB hfB hA
      have c4 : W1.cell? ⟨r, 5, none⟩ = some (.int .i64 (S1.miss : Nat)) := cellOf hR1.cell 5
      have f4 := frozenOf hR1.cell 5
      have c3 : W1.cell? ⟨r, 3, none⟩ = some (.int .i64 (S1.time : Nat)) := cellOf hR1.cell 3
      have f3 := frozenOf hR1.cell 3
      clear hR1 hf1
      go_wp2_with fail
      rw [← hW3]
      obtain ⟨hR3, hf3⟩ := HB.out
      obtain ⟨g', c', e', _, hc'⟩ := hR3.at_ (i := k) (x := y) HY.out
      injection e' with e1 e2 e3
      injection e1 with e1
      injection e1 with e1
      subst e1
      refine use_reg12 (by kernel_rfl) r k nL cLn gL (S1.time + 1) (.int .i64 (y.used : Nat)) W3 rfl rfl rfl (cellOf hR3.cell 2) (cellOf hR3.cell 3) hkn (hc' 2 (by omega)) (own_tag hR3.row rfl).2 (fun e => hR3.ne.1 (by rw [e]; rfl)) ?_
      intro W0 hb0
      simp only [putAll, List.setIfInBounds_toArray, List.set_cons_zero, List.set_cons_succ]
      have hR0 := hR3.below hb0
      have hE := RF.setE (q := 2) (u := .int .i64 ((S1.time + 1 : Nat) : Int)) (y' := { y with used := S1.time + 1 }) (S := { S1 with hit := S1.hit + 0, miss := S1.miss + 1, time := S1.time + 1 }) (k := k) (cL := cLn) (by rw [show ({ S1 with hit := S1.hit + 0, miss := S1.miss + 1, time := S1.time + 1 } : RS).L.length = nL from hnL]; exact hR0) HY.out (by omega) rfl
      have HF : Hid (Used base r (.slice pV S.V.length cV) (.slice pL S.L.length cL) S (b : Nat) true w (.returned (.tuple #[.int .i64 (k : Nat), .int .i64 0])) (W0.setCell ⟨gL, k * 5 + 2, none⟩ (.int .i64 ((S1.time + 1 : Nat) : Int)))) := ⟨(hf3.trans (Fr.below hb0)).trans hE.2, .inr (.inr ⟨b, k, S1, y, _, 0, 1, rfl, by omega, HH.out, HY.out, by rw [H0.out]; rfl, by rw [H0.out]; rfl, rfl, hE.1⟩)⟩
      clear hE hR0 hb0 hR3 hf3 HB hc' e2 e3
      go_wp2
      go_ret2
      first
        | exact HF.out
        | (have h9 := HF.out; rw [hnV] at h9; exact h9)
        | (have h9 := HF.out; rw [hnL] at h9; exact h9)
        | (have h9 := HF.out; rw [hnV, hnL] at h9; exact h9)
        | exact (0 : Nat)
    | false =>
      have hB := hR1.setR (q := 3) (u := .int .i64 ((S1.time + 1 : Nat) : Int)) (S' := { S1 with hit := S1.hit + 0, miss := S1.miss + 0, time := S1.time + 1 }) ⟨rfl, rfl⟩ (by simp)
      have hfB := hf1.trans hB.2
      obtain ⟨W3, hW3⟩ : ∃ W3, W3 = W1.setCell ⟨r, 3, none⟩ (.int .i64 ((S1.time : Int) + 1)) := ⟨_, rfl⟩
      have HB : Hid (RF W3 base r (.slice pV S.V.length cV) (.slice (some ⟨gL, 0, none⟩) nL cLn) ({ S1 with hit := S1.hit + 0, miss := S1.miss + 0, time := S1.time + 1 }) ∧ Fr base w W3) := by rw [hW3]; exact ⟨hB.1, hfB⟩
      clear hB hfB
      have c3 : W1.cell? ⟨r, 3, none⟩ = some (.int .i64 (S1.time : Nat)) := cellOf hR1.cell 3
      have f3 := frozenOf hR1.cell 3
      clear hR1 hf1
      go_wp2_with fail
      rw [← hW3]
      obtain ⟨hR3, hf3⟩ := HB.out
      obtain ⟨g', c', e', _, hc'⟩ := hR3.at_ (i := k) (x := y) HY.out
      injection e' with e1 e2 e3
      injection e1 with e1
      injection e1 with e1
      subst e1
      refine use_reg12 (by kernel_rfl) r k nL cLn gL (S1.time + 1) (.int .i64 (y.used : Nat)) W3 rfl rfl rfl (cellOf hR3.cell 2) (cellOf hR3.cell 3) hkn (hc' 2 (by omega)) (own_tag hR3.row rfl).2 (fun e => hR3.ne.1 (by rw [e]; rfl)) ?_
      intro W0 hb0
      simp only [putAll, List.setIfInBounds_toArray, List.set_cons_zero, List.set_cons_succ]
      have hR0 := hR3.below hb0
      have hE := RF.setE (q := 2) (u := .int .i64 ((S1.time + 1 : Nat) : Int)) (y' := { y with used := S1.time + 1 }) (S := { S1 with hit := S1.hit + 0, miss := S1.miss + 0, time := S1.time + 1 }) (k := k) (cL := cLn) (by rw [show ({ S1 with hit := S1.hit + 0, miss := S1.miss + 0, time := S1.time + 1 } : RS).L.length = nL from hnL]; exact hR0) HY.out (by omega) rfl
      have HF : Hid (Used base r (.slice pV S.V.length cV) (.slice pL S.L.length cL) S (b : Nat) false w (.returned (.tuple #[.int .i64 (k : Nat), .int .i64 0])) (W0.setCell ⟨gL, k * 5 + 2, none⟩ (.int .i64 ((S1.time + 1 : Nat) : Int)))) := ⟨(hf3.trans (Fr.below hb0)).trans hE.2, .inr (.inr ⟨b, k, S1, y, _, 0, 0, rfl, by omega, HH.out, HY.out, by rw [H0.out]; rfl, by rw [H0.out]; rfl, rfl, hE.1⟩)⟩
      clear hE hR0 hb0 hR3 hf3 HB hc' e2 e3
      go_wp2
      go_ret2
      first
        | exact HF.out
        | (have h9 := HF.out; rw [hnV] at h9; exact h9)
        | (have h9 := HF.out; rw [hnL] at h9; exact h9)
        | (have h9 := HF.out; rw [hnV, hnL] at h9; exact h9)
        | exact (0 : Nat)

end Go.Proofs.YtlcojcldbdikgaaGreatDoor.Rc
