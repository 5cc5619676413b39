/-
  Crash of package device.
-/
import Derived.Test.YtlcojcldbdikgaaGreatDoorDloose
import Derived.Test.YtlcojcldbdikgaaGreatDoorDkept
import Derived.Deep.RegionHeld3
import Derived.BigRegion
namespace Go.Proofs.YtlcojcldbdikgaaGreatDoor
open Go.RowKit Go.Maps Go.Sort Go.Shelf

/-- The row of blocks of a device that a crash leaves, behind the first k of the loose blocks: of each key x among them that is not kept the flushed pointer, else the written one. -/
def RowAt (D : DataW Value) (kb : Int → Bool) (cur curk : Array Value) (n k : Nat) : Prop :=
  n ≤ curk.size ∧ ∀ i, i < n → ∃ q, curk[i]? = some (.pointer q) ∧
    (((i : Int) ∈ (keys D).take k ∧ kb i = false) → D.atKey (.int .i64 i) (ptrD none) = ptrD q) ∧ (¬ ((i : Int) ∈ (keys D).take k ∧ kb i = false) → cur[i]? = some (.pointer q))

/-- What a crash has made behind the first k of the loose blocks. -/
structure CInv (w W : World) (D : DataW Value) (kb : Int → Bool) (cur : Array Value) (T : Nat → Prop) (n cap a' g m' k : Nat) : Prop where
  dev : IsDevAt W a' (.slice (some ⟨g, 0, none⟩) n cap) m' false 0 0
  map : W.heap[m']? = some (.map #[] 0)
  row : ∃ curk, W.heap[g]? = some (.cells curk 103 (0, 0)) ∧ RowAt D kb cur curk n k
  but : But T w W
  ag : a' ≠ g
  ga : w.heap.size ≤ a'
  gg : w.heap.size ≤ g
  gm : w.heap.size ≤ m'

/-- The loop's relation. -/
structure LInv (w W : World) (D : DataW Value) (kb : Int → Bool) (cur : Array Value) (T : Nat → Prop) (n cap a' g m' k N m nn : Nat) (p3 : Option Addr) (J : Nat → World → Prop) : Prop where
  inv : CInv w W D kb cur T n cap a' g m' k
  cb : J k W
  src : 0 < N → ∃ g3 cur3, p3 = some ⟨g3, 0, none⟩ ∧ g3 ≠ a' ∧ g3 ≠ g ∧ w.heap.size ≤ g3 ∧ W.heap[g3]? = some (.cells cur3 3 (0, 0)) ∧ ∀ (k : Nat) x, (keys D)[k]? = some x → cur3[k]? = some (.int .i64 x)
  own : W.ownsMap Tryz.prog 3 ptrElem m nn D

theorem mem_take_succ {l : List Int} {k : Nat} {x : Int} (hx : l[k]? = some x) (y : Int) : y ∈ l.take (k + 1) ↔ y ∈ l.take k ∨ y = x := by
  have hlt : k < l.length := (List.getElem?_eq_some_iff.1 hx).1
  rw [List.take_succ_eq_append_getElem hlt]
  have : l[k] = x := by rw [List.getElem?_eq_getElem hlt] at hx; exact Option.some.inj hx
  simp [this]

theorem RowAt.kept {D : DataW Value} {kb : Int → Bool} {cur curk : Array Value} {n k : Nat} (h : RowAt D kb cur curk n k) {x : Int} (hx : (keys D)[k]? = some x) (hkb : kb x = true) : RowAt D kb cur curk n (k + 1) := by
  refine ⟨h.1, fun i hi => ?_⟩
  obtain ⟨q, hq, h1, h2⟩ := h.2 i hi
  have e : ((i : Int) ∈ (keys D).take (k + 1) ∧ kb i = false) ↔ ((i : Int) ∈ (keys D).take k ∧ kb i = false) := by
    rw [mem_take_succ hx]
    constructor
    · rintro ⟨h | rfl, hf⟩
      · exact ⟨h, hf⟩
      · rw [hkb] at hf; cases hf
    · rintro ⟨h, hf⟩; exact ⟨.inl h, hf⟩
  exact ⟨q, hq, fun hh => h1 (e.1 hh), fun hh => h2 (fun h' => hh (e.2 h'))⟩

theorem RowAt.lost {D : DataW Value} {kb : Int → Bool} {cur curk : Array Value} {n k : Nat} (h : RowAt D kb cur curk n k) {i : Nat} (hi : i < n) (hx : (keys D)[k]? = some (i : Int)) (hkb : kb i = false) {q : Option Addr}
    (hat : D.atKey (.int .i64 i) (ptrD none) = ptrD q) : RowAt D kb cur (curk.setIfInBounds i (.pointer q)) n (k + 1) := by
  refine ⟨by simpa using h.1, fun j hj => ?_⟩
  by_cases hij : i = j
  · subst hij
    refine ⟨q, ?_, fun _ => hat, fun hh => absurd ⟨(mem_take_succ hx _).2 (.inr rfl), hkb⟩ hh⟩
    have := h.1
    simp [Array.getElem?_setIfInBounds]; omega
  · obtain ⟨q', hq, h1, h2⟩ := h.2 j hj
    have e : ((j : Int) ∈ (keys D).take (k + 1) ∧ kb j = false) ↔ ((j : Int) ∈ (keys D).take k ∧ kb j = false) := by
      rw [mem_take_succ hx]
      constructor
      · rintro ⟨h | h, hf⟩
        · exact ⟨h, hf⟩
        · exact absurd (by omega) hij
      · rintro ⟨h, hf⟩; exact ⟨.inl h, hf⟩
    refine ⟨q', ?_, fun hh => h1 (e.1 hh), fun hh => h2 (fun h' => hh (e.2 h'))⟩
    rw [Array.getElem?_setIfInBounds, if_neg hij]
    exact hq

section
variable {w W W' : World} {D : DataW Value} {kb : Int → Bool} {cur : Array Value} {T : Nat → Prop} {n cap a' g m' k N m nn : Nat} {p3 : Option Addr} {J : Nat → World → Prop}

/-- A callback turns nothing that the crash has made. -/
theorem LInv.back (h : LInv w W D kb cur T n cap a' g m' k N m nn p3 J) (hT : ∀ b, T b → b < w.heap.size ∧ b ≠ m) (hb : But T W W') :
    IsDevAt W' a' (.slice (some ⟨g, 0, none⟩) n cap) m' false 0 0 ∧ W'.heap[m']? = some (.map #[] 0) ∧ (∃ curk, W'.heap[g]? = some (.cells curk 103 (0, 0)) ∧ RowAt D kb cur curk n k) ∧ But T w W' ∧
    (0 < N → ∃ g3 cur3, p3 = some ⟨g3, 0, none⟩ ∧ g3 ≠ a' ∧ g3 ≠ g ∧ w.heap.size ≤ g3 ∧ W'.heap[g3]? = some (.cells cur3 3 (0, 0)) ∧ ∀ (k : Nat) x, (keys D)[k]? = some x → cur3[k]? = some (.int .i64 x)) ∧
    W'.ownsMap Tryz.prog 3 ptrElem m nn D := by
  have new : ∀ b o, w.heap.size ≤ b → W.heap[b]? = some o → W'.heap[b]? = some o := fun b o hb' ho =>
    (hb.block b (Array.getElem?_eq_some_iff.1 ho).1 (fun t => by have := (hT b t).1; omega)).trans ho
  refine ⟨new _ _ h.inv.ga h.inv.dev, new _ _ h.inv.gm h.inv.map, ?_, h.inv.but.trans hb, ?_, ?_⟩
  · obtain ⟨curk, hr, hrow⟩ := h.inv.row
    exact ⟨curk, new _ _ h.inv.gg hr, hrow⟩
  · intro hp
    obtain ⟨g3, cur3, e, h1, h2, h3, h4, h5⟩ := h.src hp
    exact ⟨g3, cur3, e, h1, h2, h3, new _ _ h3 h4, h5⟩
  · have hlt := h.own.lt
    obtain ⟨es, clock, hm, r⟩ := h.own
    exact ⟨es, clock, (hb.block m hlt (fun t => (hT m t).2 rfl)).trans hm, r⟩

/-- What the round reads behind the callback. -/
theorem LInv.lookAt (h : LInv w W D kb cur T n cap a' g m' k N m nn p3 J) (hT : ∀ b, T b → b < w.heap.size ∧ b ≠ m) (hb : But T W W') {i : Nat} (hin : i < n) (hi : i < 9223372036854775808) :
    ∃ q q0, (Instr.lookup 104 (.map (some m)) (.int .i64 i) false).run Tryz.prog W'.drew = .ok (.pointer q) W'.drew ∧ Hid (D.atKey (.int .i64 i) (ptrD none) = ptrD q) ∧
      W'.cell? ⟨a', 0, none⟩ = some (.slice (some ⟨g, 0, none⟩) n cap) ∧ W'.cell? ⟨g, i, none⟩ = some (.pointer q0) ∧ W'.frozen? ⟨g, i, none⟩ = false := by
  obtain ⟨b1, b2, ⟨curk, b3, b3'⟩, b4, b5, b6⟩ := h.back hT hb
  obtain ⟨q, hlk, hat⟩ := look_un (w := W'.drew) b6 (i := i) hi
  obtain ⟨q0, e1, _⟩ := b3'.2 i hin
  exact ⟨q, q0, hlk, hat, by have := cellOf b1 0; simpa [devCells] using this, (cellOf b3 i).trans e1, frozenOf b3 i⟩

theorem LInv.kept (h : LInv w W D kb cur T n cap a' g m' k N m nn p3 J) (hT : ∀ b, T b → b < w.heap.size ∧ b ≠ m) (hb : But T W W') (hj : J (k + 1) W') {x : Int} (hx : (keys D)[k]? = some x) (hkb : kb x = true) :
    LInv w W' D kb cur T n cap a' g m' (k + 1) N m nn p3 J := by
  obtain ⟨b1, b2, ⟨curk, b3, b3'⟩, b4, b5, b6⟩ := h.back hT hb
  exact ⟨⟨b1, b2, ⟨curk, b3, b3'.kept hx hkb⟩, b4, h.inv.ag, h.inv.ga, h.inv.gg, h.inv.gm⟩, hj, b5, b6⟩

theorem LInv.lost (h : LInv w W D kb cur T n cap a' g m' k N m nn p3 J) (hT : ∀ b, T b → b < w.heap.size ∧ b ≠ m) (hmw : m < w.heap.size) (hb : But T W W') (hj : J (k + 1) W') (hJ : ∀ k W W', J k W → But (fun b => w.heap.size ≤ b) W W' → J k W')
    {i : Nat} (hi : i < n) (hx : (keys D)[k]? = some (i : Int)) (hkb : kb i = false) {q : Option Addr} (hat : D.atKey (.int .i64 i) (ptrD none) = ptrD q) :
    LInv w (W'.setCell ⟨g, i, none⟩ (.pointer q)) D kb cur T n cap a' g m' (k + 1) N m nn p3 J := by
  obtain ⟨b1, b2, ⟨curk, b3, b3'⟩, b4, b5, b6⟩ := h.back hT hb
  have gm : m' ≠ g := by rintro rfl; rw [b2] at b3; cases b3
  have hgg := h.inv.gg
  have hbu : But (fun b => w.heap.size ≤ b) W' (W'.setCell ⟨g, i, none⟩ (.pointer q)) := (But.refl _ W').setCell _ h.inv.gg _
  refine ⟨⟨?_, ?_, ⟨curk.setIfInBounds i (.pointer q), ?_, b3'.lost hi hx hkb hat⟩, ?_, h.inv.ag, h.inv.ga, h.inv.gg, h.inv.gm⟩, hJ _ _ _ hj hbu, ?_, ?_⟩
  · exact (Below.heap_setCell W' ⟨g, i, none⟩ _ _ h.inv.ag).trans b1
  · exact (Below.heap_setCell W' ⟨g, i, none⟩ _ _ gm).trans b2
  · simp [World.setCell, Array.getElem?_modify, b3]
  · exact ⟨b4.os, b4.tape, b4.output, by have := b4.size; simpa [World.setCell] using this, fun b hb' hn => (Below.heap_setCell W' ⟨g, i, none⟩ _ _ (by show b ≠ g; omega)).trans (b4.block b hb' hn)⟩
  · intro hp
    obtain ⟨g3, cur3, e, h1, h2, h3, h4, h5⟩ := b5 hp
    exact ⟨g3, cur3, e, h1, h2, h3, (Below.heap_setCell W' ⟨g, i, none⟩ _ _ h2).trans h4, h5⟩
  · exact b6.setCell (by show m ≠ g; omega) _

theorem LInv.drew (h : LInv w W D kb cur T n cap a' g m' k N m nn p3 J) (hJ : ∀ k W W', J k W → But (fun b => w.heap.size ≤ b) W W' → J k W') : LInv w W.drew D kb cur T n cap a' g m' k N m nn p3 J :=
  ⟨⟨h.inv.dev, h.inv.map, h.inv.row, h.inv.but.drew, h.inv.ag, h.inv.ga, h.inv.gg, h.inv.gm⟩, hJ _ _ _ h.cb (But.refl _ W).drew, h.src, h.own⟩

end

end Go.Proofs.YtlcojcldbdikgaaGreatDoor
