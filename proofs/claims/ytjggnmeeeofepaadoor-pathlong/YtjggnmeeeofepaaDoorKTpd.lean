/-
  Paths: Join, Fresh, Above; the document's Join and Fresh.
-/
import Derived.Test.YtjggnmeeeofepaaDoorKTpc

namespace Go.Proofs.YtjggnmeeeofepaaDoor.Ck.Sh
open Go.RowKit Go.Lib

attribute [local go_sem] Oper.semAt_some

theorem extraZ : Builder.Extra Tryd.prog Tryd.lays156_ren where
  sizeBuilder := by kernel_rfl
  liesBuilder := by kernel_rfl
  t5 := Tryd.underlying5
  a5 := Tryd.isAgg5
  z5 := Tryd.sizeOf5
  v5 := Tryd.zeroValue5
  infoByte := by kernel_rfl
  cellsByte := by kernel_rfl
  sizeByte := by kernel_rfl
  neB5 := by decide
theorem map_bas (names : List (List UInt8)) : (names.map bas).map (·.data.toList) = names := by
  rw [List.map_map]
  conv => rhs; rw [← List.map_id names]
  exact List.map_congr_left fun x _ => bas_data x
/-- The library's Join. -/
theorem sjoin_any (names : List (List UInt8)) (p : Option Addr) (c : Nat) (hc : names.length ≤ c) (hn : names.length ≤ 140737488355328) (hl : (Lib.join names [47]).length ≤ 140737488355328) (w : World) (h : Nms w p names) :
    Calls Tryd.prog 18 #[.slice p names.length c, .string ⟨#[47]⟩] w fun e w' => e = .returned (.string (bas (Lib.join names [47]))) ∧ Below w.heap.size w w' := by
  by_cases h0 : names = []
  · subst h0
    exact (Any.strings_Join_none Tryd.lays156 extraZ p c ⟨#[47]⟩ w).mono fun e w' ⟨he, hw⟩ => ⟨he, hw ▸ Below.refl _ _⟩
  · obtain ⟨g, o, rfl, hg⟩ := h.some h0
    have cj := Any.strings_Join Tryd.lays156 extraZ g o c (names.map bas) ⟨#[47]⟩ w (fun j x hx => by
        rw [List.getElem?_map] at hx
        obtain ⟨y, hy, rfl⟩ := Option.map_eq_some_iff.1 hx
        exact h.at hy) hg (by rw [List.length_map]; exact hn) (by rw [List.length_map]; exact hc) (by rw [map_bas]; exact hl)
    rw [map_bas, List.length_map] at cj
    exact cj

set_option maxRecDepth 8000 in
set_option maxHeartbeats 1000000 in
theorem pjoin_any (names : List (List UInt8)) (p : Option Addr) (c : Nat) (hc : names.length ≤ c) (hn : names.length ≤ 140737488355328) (hl : (Lib.join names [47]).length ≤ 140737488355328) (w : World) (h : Nms w p names) :
    Calls Tryd.prog 8 #[.slice p names.length c] w fun e w' => e = .returned (.string (bas (pathL names))) ∧ Below w.heap.size w w' := by
  have cj := sjoin_any names p c hc hn hl w h
  have hp := path_join names
  generalize pathL names = z at hp ⊢
  generalize Lib.join names [47] = y at cj hp hl
  have az : ∀ W, (Op.stringOp .add ⟨#[47]⟩ (bas y)).run Tryd.prog W = .ok (.string (bas z)) W := fun W => by rw [hp]; exact cat_run [47] y W (by simp; omega)
  clear hp hl h hn
  go_enter Tryd.func8, Tryd.ntmps8
  go_wp2_with (go_at_call 18; refine cj.mono ?_; rintro e w1 ⟨rfl, hb⟩; have HB := Lib.hid hb; clear hb cj)
  go_ret
  exact ⟨rfl, HB.out⟩

/-- What Fresh answers. -/
def freshE (names : List (List UInt8)) : Int := match names.getLast? with | some x => nameN x | none => 17
theorem last_at {names : List (List UInt8)} (h : names ≠ []) : ∃ x, names.getLast? = some x ∧ names[names.length - 1]? = some x ∧ x ∈ names := by
  refine ⟨names.getLast h, List.getLast?_eq_some_getLast h, ?_, List.getLast_mem h⟩
  rw [← List.getLast?_eq_getElem?]
  exact List.getLast?_eq_some_getLast h
set_option maxRecDepth 8000 in
set_option maxHeartbeats 1000000 in
theorem fresh_any (names : List (List UInt8)) (hm : ∀ x ∈ names, x.length < 1000000000000000) (hn : names.length < 1000000000000) (p : Option Addr) (c : Nat) (w : World) (h : Nms w p names) :
    Calls Tryd.prog 10 #[.slice p names.length c] w fun e w' => e = .returned (.int .i64 (freshE names)) ∧ w' = w := by
  by_cases h0 : names = []
  · subst h0
    clear h hm hn
    go_enter Tryd.func10, Tryd.ntmps10
    go_wp2_with fail
    go_ret
    exact ⟨rfl, rfl⟩
  · obtain ⟨x, h1, h2, h3⟩ := last_at h0
    obtain ⟨g, o, rfl, hx⟩ := h _ x h2
    have cn := fun W => name_any x W (hm x h3)
    have HE : Hid (freshE names = nameN x) := by show _ = _; unfold freshE; rw [h1]
    obtain ⟨k, hk⟩ : ∃ k, names.length = k + 1 := ⟨names.length - 1, by have := List.length_pos_iff.2 h0; omega⟩
    rw [hk, Nat.add_sub_cancel] at hx
    rw [hk] at hn ⊢
    generalize nameN x = n at cn HE
    have hz : (((k + 1 : Nat) : Int) == 0) = false := by rw [beq_eq_false_iff_ne]; omega
    have hw : IntKind.i64.wrap (((k + 1 : Nat) : Int) - 1) = (k : Int) := by
      have e : (((k + 1 : Nat) : Int) - 1) = (k : Int) := by omega
      rw [e]
      rw [IntKind.wrap_i64]
      omega
    clear h h0 h1 h2 h3 hm hk
    go_enter Tryd.func10, Tryd.ntmps10
    go_wp2_with (go_at_call 19; refine Calls_on (cn _) ?_)
    go_ret
    exact ⟨by rw [HE.out]; rfl, rfl⟩
end Go.Proofs.YtjggnmeeeofepaaDoor.Ck.Sh
