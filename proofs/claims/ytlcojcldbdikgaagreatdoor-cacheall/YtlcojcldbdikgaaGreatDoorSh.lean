/-
  The document's own cache: Get, Pin, Unpin.
-/
import Derived.Test.YtlcojcldbdikgaaGreatDoorSg
namespace Go.Proofs.YtlcojcldbdikgaaGreatDoor.Rc
open Go.RowKit Go.Maps

attribute [local go_sem] Oper.semAt_some

/-- What a call leaves that uses a block. -/
def Met (base r : Nat) (vv lv : Value) (S : RS) (x : Int) (count : Bool) (w : World) (out full : Ending) (ok : Nat → RE → Ending) (fin : RS → Nat → RE → RS) (e : Ending) (w' : World) : Prop :=
  Fr base w w' ∧ ((¬ (0 ≤ x ∧ x < S.V.length) ∧ e = out ∧ RF w' base r vv lv S) ∨
    (∃ b : Nat, x = (b : Nat) ∧ b < S.V.length ∧ placeR S.L b = -1 ∧ S.room ≤ S.L.length ∧ victimR S.L = none ∧ e = full ∧ RF w' base r vv lv S) ∨
    (∃ (b k : Nat) (S1 : RS) (y : RE) (lv' : Value) (h m : Nat), x = (b : Nat) ∧ b < S.V.length ∧ HoldsTo S b S1 k ∧ S1.L[k]? = some y ∧ (h = if count && decide (0 ≤ placeR S.L b) then 1 else 0) ∧ (m = if count && !decide (0 ≤ placeR S.L b) then 1 else 0) ∧
      e = ok k y ∧ RF w' base r vv lv' (fin (useR S1 k y h m) k { y with used := S1.time + 1 })))
def Small (S : RS) : Prop := S.L.length ≤ 10000 ∧ S.outs < 1000000000000 ∧ S.hit < 1000000000000 ∧ S.miss < 1000000000000 ∧ S.time < 1000000000000
theorem use_any (base r : Nat) (vv lv : Value) (S : RS) (x : Int) (count : Bool) (w : World) (h : RF w base r vv lv S) (hs : Small S) : Calls Tryz.prog 30 #[.pointer (some ⟨r, 0, none⟩), .int .i64 x, .bool count] w (Used base r vv lv S x count w) := by
  by_cases hx : 0 ≤ x ∧ x < S.V.length
  · obtain ⟨b, rfl⟩ := Int.eq_ofNat_of_zero_le hx.1
    exact use_in base r b vv lv S count w h (by omega) hs.1 hs.2
  · exact use_out base r vv lv S x count w h hx
theorem useR_at {S1 : RS} {k : Nat} {y : RE} (hy : S1.L[k]? = some y) (h m : Nat) : (useR S1 k y h m).L[k]? = some { y with used := S1.time + 1 } := by
  unfold useR
  simp only
  rw [List.getElem?_set_self (List.getElem?_eq_some_iff.1 hy).1]

set_option maxRecDepth 8000 in
set_option maxHeartbeats 4000000 in
theorem rget_any (base r : Nat) (vv lv : Value) (S : RS) (x : Int) (w : World) (h : RF w base r vv lv S) (hs : Small S) :
    Calls Tryz.prog 8 #[.pointer (some ⟨r, 0, none⟩), .int .i64 x] w (Met base r vv lv S x true w (.returned (.tuple #[.slice none 0 0, .int .i64 22])) (.returned (.tuple #[.slice none 0 0, .int .i64 28])) (fun _ y => .returned (.tuple #[y.b.val, .int .i64 0])) (fun S _ _ => S)) := by
  have cU := use_any base r vv lv S x true w h hs
  clear h hs
  go_enter Tryz.func8, Tryz.ntmps8
  go_wp2_with fail
  refine cU.mono ?_
  rintro e W1 ⟨hf, ⟨h1, rfl, hR⟩ | ⟨b, h1, h2, h3, h4, h5, rfl, hR⟩ | ⟨b, k, S1, y, lv', hh, mm, h1, h2, h3, hy, h5, h6, rfl, hR⟩⟩
  · have HF : Hid (Met base r vv lv S x true w (.returned (.tuple #[.slice none 0 0, .int .i64 22])) (.returned (.tuple #[.slice none 0 0, .int .i64 28])) (fun _ y => .returned (.tuple #[y.b.val, .int .i64 0])) (fun S _ _ => S) (.returned (.tuple #[.slice none 0 0, .int .i64 22])) W1) := ⟨hf, .inl ⟨h1, rfl, hR⟩⟩
    clear hf h1 hR cU
    go_wp2
    go_ret2
    exact HF.out
  · have HF : Hid (Met base r vv lv S x true w (.returned (.tuple #[.slice none 0 0, .int .i64 22])) (.returned (.tuple #[.slice none 0 0, .int .i64 28])) (fun _ y => .returned (.tuple #[y.b.val, .int .i64 0])) (fun S _ _ => S) (.returned (.tuple #[.slice none 0 0, .int .i64 28])) W1) := ⟨hf, .inr (.inl ⟨b, h1, h2, h3, h4, h5, rfl, hR⟩)⟩
    clear hf h1 h2 h3 h4 h5 hR cU
    go_wp2
    go_ret2
    exact HF.out
  · have HF : Hid (Met base r vv lv S x true w (.returned (.tuple #[.slice none 0 0, .int .i64 22])) (.returned (.tuple #[.slice none 0 0, .int .i64 28])) (fun _ y => .returned (.tuple #[y.b.val, .int .i64 0])) (fun S _ _ => S) (.returned (.tuple #[y.b.val, .int .i64 0])) W1) := ⟨hf, .inr (.inr ⟨b, k, S1, y, lv', hh, mm, h1, h2, h3, hy, h5, h6, rfl, hR⟩)⟩
    obtain ⟨gL, cL, rfl, _, hc⟩ := hR.at_ (useR_at hy hh mm)
    have c2 : W1.cell? ⟨r, 2, none⟩ = some (.slice (some ⟨gL, 0, none⟩) (useR S1 k y hh mm).L.length cL) := cellOf hR.cell 2
    have d4 : W1.cell? ⟨gL, k * 5 + 4, none⟩ = some y.b.val := hc 4 (by omega)
    have hkl : k < (useR S1 k y hh mm).L.length := (List.getElem?_eq_some_iff.1 (useR_at hy hh mm)).1
    obtain ⟨n, hn⟩ : ∃ n, (useR S1 k y hh mm).L.length = n := ⟨_, rfl⟩
    rw [hn] at c2 hkl
    have hkI : (k : Int) < (n : Int) := by omega
    obtain ⟨bp, bn, bc, hb⟩ : ∃ bp bn bc, y.b = ⟨bp, bn, bc⟩ := ⟨y.b.p, y.b.n, y.b.c, rfl⟩
    rw [hb] at d4 HF
    simp only [SV.val] at d4 HF
    clear hf h1 h2 h3 hy h5 h6 hR hc cU hn hb
    go_wp2
    go_ret2
    exact HF.out

set_option maxRecDepth 8000 in
set_option maxHeartbeats 4000000 in
theorem rpin_any (base r : Nat) (vv lv : Value) (S : RS) (x : Int) (w : World) (h : RF w base r vv lv S) (hs : Small S) (hp : ∀ y ∈ S.L, y.pins < 1000000000000) :
    Calls Tryz.prog 10 #[.pointer (some ⟨r, 0, none⟩), .int .i64 x] w (Met base r vv lv S x true w (.returned (.int .i64 22)) (.returned (.int .i64 28)) (fun _ _ => .returned (.int .i64 0)) (fun S k y => { S with L := S.L.set k { y with pins := y.pins + 1 } })) := by
  have cU := use_any base r vv lv S x true w h hs
  have HP : Hid (∀ y ∈ S.L, y.pins < 1000000000000) := hp
  clear h hs hp
  go_enter Tryz.func10, Tryz.ntmps10
  go_wp2_with fail
  refine cU.mono ?_
  rintro e W1 ⟨hf, ⟨h1, rfl, hR⟩ | ⟨b, h1, h2, h3, h4, h5, rfl, hR⟩ | ⟨b, k, S1, y, lv', hh, mm, h1, h2, h3, hy, h5, h6, rfl, hR⟩⟩
  · have HF : Hid (Met base r vv lv S x true w (.returned (.int .i64 22)) (.returned (.int .i64 28)) (fun _ _ => .returned (.int .i64 0)) (fun S k y => { S with L := S.L.set k { y with pins := y.pins + 1 } }) (.returned (.int .i64 22)) W1) := ⟨hf, .inl ⟨h1, rfl, hR⟩⟩
    clear hf h1 hR cU
    go_wp2
    go_ret
    exact HF.out
  · have HF : Hid (Met base r vv lv S x true w (.returned (.int .i64 22)) (.returned (.int .i64 28)) (fun _ _ => .returned (.int .i64 0)) (fun S k y => { S with L := S.L.set k { y with pins := y.pins + 1 } }) (.returned (.int .i64 28)) W1) := ⟨hf, .inr (.inl ⟨b, h1, h2, h3, h4, h5, rfl, hR⟩)⟩
    clear hf h1 h2 h3 h4 h5 hR cU
    go_wp2
    go_ret
    exact HF.out
  · obtain ⟨gL, cL, rfl, _, hc⟩ := hR.at_ (useR_at hy hh mm)
    have hE := RF.setE (q := 1) (u := .int .i64 ((y.pins + 1 : Nat) : Int)) (y' := { y with used := S1.time + 1, pins := y.pins + 1 }) hR (useR_at hy hh mm) (by omega) rfl
    have HF : Hid (Met base r vv lv S x true w (.returned (.int .i64 22)) (.returned (.int .i64 28)) (fun _ _ => .returned (.int .i64 0)) (fun S k y => { S with L := S.L.set k { y with pins := y.pins + 1 } }) (.returned (.int .i64 0)) (W1.setCell ⟨gL, k * 5 + 1, none⟩ (.int .i64 ((y.pins : Int) + 1)))) := ⟨hf.trans hE.2, .inr (.inr ⟨b, k, S1, y, _, hh, mm, h1, h2, h3, hy, h5, h6, rfl, hE.1⟩)⟩
    have c2 : W1.cell? ⟨r, 2, none⟩ = some (.slice (some ⟨gL, 0, none⟩) (useR S1 k y hh mm).L.length cL) := cellOf hR.cell 2
    have d1 : W1.cell? ⟨gL, k * 5 + 1, none⟩ = some (.int .i64 (y.pins : Nat)) := hc 1 (by omega)
    have f1 : W1.frozen? ⟨gL, k * 5 + 1, none⟩ = false := by
      obtain ⟨_, cur, hg⟩ := own_tag hR.row rfl
      exact frozenOf hg _
    have hkl : k < (useR S1 k y hh mm).L.length := (List.getElem?_eq_some_iff.1 (useR_at hy hh mm)).1
    have hpy : y.pins < 1000000000000 := by
      rcases h3 with ⟨_, rfl⟩ | ⟨_, S0, sv, hS, _, rfl, rfl⟩
      · exact HP.out y (List.mem_of_getElem? hy)
      · rw [List.getElem?_concat_length] at hy
        cases hy
        show (0 : Nat) < 1000000000000
        omega
    obtain ⟨n, hn⟩ : ∃ n, (useR S1 k y hh mm).L.length = n := ⟨_, rfl⟩
    rw [hn] at c2 hkl
    have hkI : (k : Int) < (n : Int) := by omega
    obtain ⟨pp, hpp⟩ : ∃ pp, y.pins = pp := ⟨_, rfl⟩
    rw [hpp] at d1 hpy
    have HF2 : Hid (Met base r vv lv S x true w (.returned (.int .i64 22)) (.returned (.int .i64 28)) (fun _ _ => .returned (.int .i64 0)) (fun S k y => { S with L := S.L.set k { y with pins := y.pins + 1 } }) (.returned (.int .i64 0)) (W1.setCell ⟨gL, k * 5 + 1, none⟩ (.int .i64 ((pp : Int) + 1)))) := by rw [← hpp]; exact HF.out
    clear hf h1 h2 h3 hy h5 h6 hR hc cU hn hE HF hpp
    go_wp2
    go_ret
    exact HF2.out

/-- What Unpin leaves. -/
def Unpd (base r : Nat) (vv lv : Value) (S : RS) (x : Int) (w : World) (e : Ending) (w' : World) : Prop :=
  Fr base w w' ∧ (((∀ k : Nat, placeR S.L x = (k : Nat) → ∃ y, S.L[k]? = some y ∧ y.pins = 0) ∧ e = .returned (.int .i64 22) ∧ RF w' base r vv lv S) ∨
    ∃ (k : Nat) (y : RE), placeR S.L x = (k : Nat) ∧ S.L[k]? = some y ∧ ¬ y.pins = 0 ∧ e = .returned (.int .i64 0) ∧ RF w' base r vv lv { S with L := S.L.set k { y with pins := y.pins - 1 } })
set_option maxRecDepth 8000 in
set_option maxHeartbeats 4000000 in
theorem runpin_any (base r : Nat) (vv lv : Value) (S : RS) (x : Int) (w : World) (h : RF w base r vv lv S) (hs : Small S) (hp : ∀ y ∈ S.L, y.pins < 1000000000000) :
    Calls Tryz.prog 12 #[.pointer (some ⟨r, 0, none⟩), .int .i64 x] w (Unpd base r vv lv S x w) := by
  obtain ⟨pL, cL, rfl, _, _⟩ := own_form h.row
  obtain ⟨P, hP⟩ : ∃ P, placeR S.L x = P := ⟨_, rfl⟩
  have cP := place_any base r vv pL cL S x w h (by have := hs.1; omega) P hP
  by_cases hp0 : P < 0
  · have HF : Hid (Unpd base r vv (.slice pL S.L.length cL) S x w (.returned (.int .i64 22)) w) := ⟨Fr.refl _ _, .inl ⟨fun k hk => by rw [hP] at hk; omega, rfl, h⟩⟩
    clear h hs hp hP
    go_enter Tryz.func12, Tryz.ntmps12
    go_wp2_with (go_at_call 32; refine Calls_on cP ?_; clear cP)
    go_ret
    exact HF.out
  · obtain ⟨k, rfl⟩ := Int.eq_ofNat_of_zero_le (show 0 ≤ P by omega)
    obtain ⟨y, hy, _⟩ := place_at hP
    obtain ⟨gL, cL', eL, _, hc⟩ := h.at_ hy
    injection eL with eL1 eL2 eL3
    subst eL1
    have c2 : w.cell? ⟨r, 2, none⟩ = some (.slice (some ⟨gL, 0, none⟩) S.L.length cL) := cellOf h.cell 2
    have d1 : w.cell? ⟨gL, k * 5 + 1, none⟩ = some (.int .i64 (y.pins : Nat)) := hc 1 (by omega)
    have f1 : w.frozen? ⟨gL, k * 5 + 1, none⟩ = false := by
      obtain ⟨_, cur, hg⟩ := own_tag h.row rfl
      exact frozenOf hg _
    have hkl : k < S.L.length := (List.getElem?_eq_some_iff.1 hy).1
    have hpy := hp y (List.mem_of_getElem? hy)
    by_cases hz : y.pins = 0
    · have HF : Hid (Unpd base r vv (.slice (some ⟨gL, 0, none⟩) S.L.length cL) S x w (.returned (.int .i64 22)) w) := by
        refine ⟨Fr.refl _ _, .inl ⟨fun k' hk => ?_, rfl, h⟩⟩
        rw [hP] at hk
        have hkk : k' = k := by omega
        rw [hkk]
        exact ⟨y, hy, hz⟩
      rw [hz] at d1
      obtain ⟨n, hn⟩ : ∃ n, S.L.length = n := ⟨_, rfl⟩
      rw [hn] at c2 hkl
      have hkI : (k : Int) < (n : Int) := by omega
      clear h hs hp hP hc hy hpy hz eL2 eL3 hn
      go_enter Tryz.func12, Tryz.ntmps12
      go_wp2_with (go_at_call 32; refine Calls_on cP ?_; clear cP)
      go_ret
      exact HF.out
    · obtain ⟨pp, hpp⟩ : ∃ pp, y.pins = pp + 1 := ⟨y.pins - 1, by omega⟩
      have hE := RF.setE (q := 1) (u := .int .i64 ((pp : Nat) : Int)) (y' := { y with pins := pp }) h hy (by omega) rfl
      have HF : Hid (Unpd base r vv (.slice (some ⟨gL, 0, none⟩) S.L.length cL) S x w (.returned (.int .i64 0)) (w.setCell ⟨gL, k * 5 + 1, none⟩ (.int .i64 (pp : Nat)))) := ⟨hE.2, .inr ⟨k, y, hP, hy, hz, rfl, by rw [show y.pins - 1 = pp by omega]; exact hE.1⟩⟩
      rw [hpp] at d1 hpy
      have hz1 : ¬ ((pp + 1 : Nat) : Int) = 0 := by omega
      have hz2 : ¬ (pp : Int) + 1 = 0 := by omega
      have hz3 : ((pp : Int) + 1 == 0) = false := by simp; omega
      have hk0 : ¬ (k : Int) < 0 := by omega
      have hs1 : ((pp + 1 : Nat) : Int) - 1 = (pp : Nat) := by omega
      have hs2 : (pp : Int) + 1 - 1 = (pp : Nat) := by omega
      obtain ⟨n, hn⟩ : ∃ n, S.L.length = n := ⟨_, rfl⟩
      rw [hn] at c2 hkl
      have hkI : (k : Int) < (n : Int) := by omega
      clear h hs hp hP hc hy hz eL2 eL3 hn hE hpp
      go_enter Tryz.func12, Tryz.ntmps12
      go_wp2_with (go_at_call 32; refine Calls_on cP ?_; clear cP)
      go_ret
      exact HF.out

end Go.Proofs.YtlcojcldbdikgaaGreatDoor.Rc
