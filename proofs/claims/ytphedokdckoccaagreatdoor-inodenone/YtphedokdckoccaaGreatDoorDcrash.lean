/-
  Crash of package device.
-/
import Derived.Test.YtphedokdckoccaaGreatDoorDloose
import Derived.Test.YtphedokdckoccaaGreatDoorDkept
import Derived.Deep.RegionHeld3
import Derived.BigRegion
namespace Go.Proofs.YtphedokdckoccaaGreatDoor
open Go.RowKit Go.Maps Go.Sort Go.Shelf

set_option maxRecDepth 8000 in
set_option maxHeartbeats 400000 in
theorem crash_nil (kv : Value) (w : World) :
    Calls Tryz.prog 20 #[.pointer none, kv] w fun e w' => e = .returned (.pointer none) ∧ w' = w := by
  go_enter Tryz.func20, Tryz.ntmps20
  go_wp2
  go_ret
  exact ⟨rfl, rfl⟩

/-- slices.Clone of a device's row of blocks. -/
theorem clone_any (s n c : Nat) (cur : Array Value) (w : World) (hs : w.heap[s]? = some (.cells cur 102 (0, 0))) (hn1 : 1 ≤ n) (hn : n ≤ 65536) (hcn : n ≤ cur.size)
    (hone : ∀ v ∈ cur.toList.take n, v.oneCell' = true) :
    Calls Tryz.prog 67 #[.slice (some ⟨s, 0, none⟩) n c] w fun e w' => ∃ g cap, e = .returned (.slice (some ⟨g, 0, none⟩) n cap) ∧ w.heap.size ≤ g ∧
      (∃ cur', w'.heap[g]? = some (.cells cur' 102 (0, 0)) ∧ n ≤ cur'.size ∧ cur'.toList.take n = cur.toList.take n) ∧ Below w.heap.size w w' := by
  obtain ⟨i0, hi, hz0, hz1, hz2⟩ := info_parts Tryz.info102
  have hl : (cur.toList.take n).length = n * 1 := by simp; omega
  have c := AnyE.slices_Clone Tryz.cloneA i0 (.pointer none) 1 8 hi hz0 hz1 hz2 rfl (by decide) Tryz.sizeOf102 s 0 n c (cur.toList.take n) w hl (by unfold maxLen; omega) (by omega)
    (fun j u hj => by
      rw [Nat.zero_add, cellOf hs j]
      rw [List.getElem?_take] at hj
      split at hj
      · simpa using hj
      · cases hj) hone
  refine (show Calls Tryz.prog 67 _ _ _ from c).mono ?_
  rintro e w' ⟨v', rfl, hrow, hnil, hb⟩
  obtain ⟨_, hrow⟩ := hrow
  rcases hrow with ⟨_, h0⟩ | ⟨g, cap, cur', rfl, hg, hblk, hcap, _, hsz, htk⟩
  · omega
  · exact ⟨g, cap, rfl, hg, ⟨cur', hblk, by omega, by simpa using htk⟩, hb⟩

/-- The row of blocks of a device that a crash leaves, behind the first k of the loose blocks: of each key x among them that is not kept the flushed pointer, else the written one. -/
def RowAt (D : DataW Value) (kb : Int → Bool) (cur curk : Array Value) (n k : Nat) : Prop :=
  n ≤ curk.size ∧ ∀ i, i < n → ∃ q, curk[i]? = some (.pointer q) ∧
    (((i : Int) ∈ (keys D).take k ∧ kb i = false) → D.atKey (.int .i64 i) (ptrD none) = ptrD q) ∧ (¬ ((i : Int) ∈ (keys D).take k ∧ kb i = false) → cur[i]? = some (.pointer q))

/-- What a crash has made behind the first k of the loose blocks. -/
structure CInv (w W : World) (D : DataW Value) (kb : Int → Bool) (cur : Array Value) (T : Nat → Prop) (n cap a' g m' k : Nat) : Prop where
  dev : IsDevAt W a' (.slice (some ⟨g, 0, none⟩) n cap) m' false 0 0
  map : W.heap[m']? = some (.map #[] 0)
  row : ∃ curk, W.heap[g]? = some (.cells curk 102 (0, 0)) ∧ RowAt D kb cur curk n k
  but : But T w W
  ag : a' ≠ g
  ga : w.heap.size ≤ a'
  gg : w.heap.size ≤ g
  gm : w.heap.size ≤ m'

/-- The loop's relation. -/
structure LInv (w W : World) (D : DataW Value) (kb : Int → Bool) (cur : Array Value) (T : Nat → Prop) (n cap a' g m' k N m nn : Nat) (p3 : Option Addr) (J : Nat → World → Prop) : Prop where
  inv : CInv w W D kb cur T n cap a' g m' k
  cb : J k W
  src : 0 < N → ∃ g3 cur3, p3 = some ⟨g3, 0, none⟩ ∧ g3 ≠ a' ∧ g3 ≠ g ∧ w.heap.size ≤ g3 ∧ W.heap[g3]? = some (.cells cur3 3 (0, 0)) ∧ ∀ (k : Nat) x, (keys D)[k]? = some x → cur3[k]? = some (.int .i64 x)
  own : W.ownsMap Tryz.prog 3 ptrElem m nn D

theorem mem_take_succ {l : List Int} {k : Nat} {x : Int} (hx : l[k]? = some x) (y : Int) : y ∈ l.take (k + 1) ↔ y ∈ l.take k ∨ y = x := by
  have hlt : k < l.length := (List.getElem?_eq_some_iff.1 hx).1
  rw [List.take_succ_eq_append_getElem hlt]
  have : l[k] = x := by rw [List.getElem?_eq_getElem hlt] at hx; exact Option.some.inj hx
  simp [this]

theorem RowAt.kept {D : DataW Value} {kb : Int → Bool} {cur curk : Array Value} {n k : Nat} (h : RowAt D kb cur curk n k) {x : Int} (hx : (keys D)[k]? = some x) (hkb : kb x = true) : RowAt D kb cur curk n (k + 1) := by
  refine ⟨h.1, fun i hi => ?_⟩
  obtain ⟨q, hq, h1, h2⟩ := h.2 i hi
  have e : ((i : Int) ∈ (keys D).take (k + 1) ∧ kb i = false) ↔ ((i : Int) ∈ (keys D).take k ∧ kb i = false) := by
    rw [mem_take_succ hx]
    constructor
    · rintro ⟨h | rfl, hf⟩
      · exact ⟨h, hf⟩
      · rw [hkb] at hf; cases hf
    · rintro ⟨h, hf⟩; exact ⟨.inl h, hf⟩
  exact ⟨q, hq, fun hh => h1 (e.1 hh), fun hh => h2 (fun h' => hh (e.2 h'))⟩

theorem RowAt.lost {D : DataW Value} {kb : Int → Bool} {cur curk : Array Value} {n k : Nat} (h : RowAt D kb cur curk n k) {i : Nat} (hi : i < n) (hx : (keys D)[k]? = some (i : Int)) (hkb : kb i = false) {q : Option Addr}
    (hat : D.atKey (.int .i64 i) (ptrD none) = ptrD q) : RowAt D kb cur (curk.setIfInBounds i (.pointer q)) n (k + 1) := by
  refine ⟨by simpa using h.1, fun j hj => ?_⟩
  by_cases hij : i = j
  · subst hij
    refine ⟨q, ?_, fun _ => hat, fun hh => absurd ⟨(mem_take_succ hx _).2 (.inr rfl), hkb⟩ hh⟩
    have := h.1
    simp [Array.getElem?_setIfInBounds]; omega
  · obtain ⟨q', hq, h1, h2⟩ := h.2 j hj
    have e : ((j : Int) ∈ (keys D).take (k + 1) ∧ kb j = false) ↔ ((j : Int) ∈ (keys D).take k ∧ kb j = false) := by
      rw [mem_take_succ hx]
      constructor
      · rintro ⟨h | h, hf⟩
        · exact ⟨h, hf⟩
        · exact absurd (by omega) hij
      · rintro ⟨h, hf⟩; exact ⟨.inl h, hf⟩
    refine ⟨q', ?_, fun hh => h1 (e.1 hh), fun hh => h2 (fun h' => hh (e.2 h'))⟩
    rw [Array.getElem?_setIfInBounds, if_neg hij]
    exact hq

section
variable {w W W' : World} {D : DataW Value} {kb : Int → Bool} {cur : Array Value} {T : Nat → Prop} {n cap a' g m' k N m nn : Nat} {p3 : Option Addr} {J : Nat → World → Prop}

/-- A callback turns nothing that the crash has made. -/
theorem LInv.back (h : LInv w W D kb cur T n cap a' g m' k N m nn p3 J) (hT : ∀ b, T b → b < w.heap.size ∧ b ≠ m) (hb : But T W W') :
    IsDevAt W' a' (.slice (some ⟨g, 0, none⟩) n cap) m' false 0 0 ∧ W'.heap[m']? = some (.map #[] 0) ∧ (∃ curk, W'.heap[g]? = some (.cells curk 102 (0, 0)) ∧ RowAt D kb cur curk n k) ∧ But T w W' ∧
    (0 < N → ∃ g3 cur3, p3 = some ⟨g3, 0, none⟩ ∧ g3 ≠ a' ∧ g3 ≠ g ∧ w.heap.size ≤ g3 ∧ W'.heap[g3]? = some (.cells cur3 3 (0, 0)) ∧ ∀ (k : Nat) x, (keys D)[k]? = some x → cur3[k]? = some (.int .i64 x)) ∧
    W'.ownsMap Tryz.prog 3 ptrElem m nn D := by
  have new : ∀ b o, w.heap.size ≤ b → W.heap[b]? = some o → W'.heap[b]? = some o := fun b o hb' ho =>
    (hb.block b (Array.getElem?_eq_some_iff.1 ho).1 (fun t => by have := (hT b t).1; omega)).trans ho
  refine ⟨new _ _ h.inv.ga h.inv.dev, new _ _ h.inv.gm h.inv.map, ?_, h.inv.but.trans hb, ?_, ?_⟩
  · obtain ⟨curk, hr, hrow⟩ := h.inv.row
    exact ⟨curk, new _ _ h.inv.gg hr, hrow⟩
  · intro hp
    obtain ⟨g3, cur3, e, h1, h2, h3, h4, h5⟩ := h.src hp
    exact ⟨g3, cur3, e, h1, h2, h3, new _ _ h3 h4, h5⟩
  · have hlt := h.own.lt
    obtain ⟨es, clock, hm, r⟩ := h.own
    exact ⟨es, clock, (hb.block m hlt (fun t => (hT m t).2 rfl)).trans hm, r⟩

/-- What the round reads behind the callback. -/
theorem LInv.lookAt (h : LInv w W D kb cur T n cap a' g m' k N m nn p3 J) (hT : ∀ b, T b → b < w.heap.size ∧ b ≠ m) (hb : But T W W') {i : Nat} (hin : i < n) (hi : i < 9223372036854775808) :
    ∃ q q0, (Instr.lookup 103 (.map (some m)) (.int .i64 i) false).run Tryz.prog W'.drew = .ok (.pointer q) W'.drew ∧ Hid (D.atKey (.int .i64 i) (ptrD none) = ptrD q) ∧
      W'.cell? ⟨a', 0, none⟩ = some (.slice (some ⟨g, 0, none⟩) n cap) ∧ W'.cell? ⟨g, i, none⟩ = some (.pointer q0) ∧ W'.frozen? ⟨g, i, none⟩ = false := by
  obtain ⟨b1, b2, ⟨curk, b3, b3'⟩, b4, b5, b6⟩ := h.back hT hb
  obtain ⟨q, hlk, hat⟩ := look_un (w := W'.drew) b6 (i := i) hi
  obtain ⟨q0, e1, _⟩ := b3'.2 i hin
  exact ⟨q, q0, hlk, hat, by have := cellOf b1 0; simpa [devCells] using this, (cellOf b3 i).trans e1, frozenOf b3 i⟩

theorem LInv.kept (h : LInv w W D kb cur T n cap a' g m' k N m nn p3 J) (hT : ∀ b, T b → b < w.heap.size ∧ b ≠ m) (hb : But T W W') (hj : J (k + 1) W') {x : Int} (hx : (keys D)[k]? = some x) (hkb : kb x = true) :
    LInv w W' D kb cur T n cap a' g m' (k + 1) N m nn p3 J := by
  obtain ⟨b1, b2, ⟨curk, b3, b3'⟩, b4, b5, b6⟩ := h.back hT hb
  exact ⟨⟨b1, b2, ⟨curk, b3, b3'.kept hx hkb⟩, b4, h.inv.ag, h.inv.ga, h.inv.gg, h.inv.gm⟩, hj, b5, b6⟩

theorem LInv.lost (h : LInv w W D kb cur T n cap a' g m' k N m nn p3 J) (hT : ∀ b, T b → b < w.heap.size ∧ b ≠ m) (hmw : m < w.heap.size) (hb : But T W W') (hj : J (k + 1) W') (hJ : ∀ k W W', J k W → But (fun b => w.heap.size ≤ b) W W' → J k W')
    {i : Nat} (hi : i < n) (hx : (keys D)[k]? = some (i : Int)) (hkb : kb i = false) {q : Option Addr} (hat : D.atKey (.int .i64 i) (ptrD none) = ptrD q) :
    LInv w (W'.setCell ⟨g, i, none⟩ (.pointer q)) D kb cur T n cap a' g m' (k + 1) N m nn p3 J := by
  obtain ⟨b1, b2, ⟨curk, b3, b3'⟩, b4, b5, b6⟩ := h.back hT hb
  have gm : m' ≠ g := by rintro rfl; rw [b2] at b3; cases b3
  have hgg := h.inv.gg
  have hbu : But (fun b => w.heap.size ≤ b) W' (W'.setCell ⟨g, i, none⟩ (.pointer q)) := (But.refl _ W').setCell _ h.inv.gg _
  refine ⟨⟨?_, ?_, ⟨curk.setIfInBounds i (.pointer q), ?_, b3'.lost hi hx hkb hat⟩, ?_, h.inv.ag, h.inv.ga, h.inv.gg, h.inv.gm⟩, hJ _ _ _ hj hbu, ?_, ?_⟩
  · exact (Below.heap_setCell W' ⟨g, i, none⟩ _ _ h.inv.ag).trans b1
  · exact (Below.heap_setCell W' ⟨g, i, none⟩ _ _ gm).trans b2
  · simp [World.setCell, Array.getElem?_modify, b3]
  · exact ⟨b4.os, b4.tape, b4.output, by have := b4.size; simpa [World.setCell] using this, fun b hb' hn => (Below.heap_setCell W' ⟨g, i, none⟩ _ _ (by show b ≠ g; omega)).trans (b4.block b hb' hn)⟩
  · intro hp
    obtain ⟨g3, cur3, e, h1, h2, h3, h4, h5⟩ := b5 hp
    exact ⟨g3, cur3, e, h1, h2, h3, (Below.heap_setCell W' ⟨g, i, none⟩ _ _ h2).trans h4, h5⟩
  · exact b6.setCell (by show m ≠ g; omega) _

theorem LInv.drew (h : LInv w W D kb cur T n cap a' g m' k N m nn p3 J) (hJ : ∀ k W W', J k W → But (fun b => w.heap.size ≤ b) W W' → J k W') : LInv w W.drew D kb cur T n cap a' g m' k N m nn p3 J :=
  ⟨⟨h.inv.dev, h.inv.map, h.inv.row, h.inv.but.drew, h.inv.ag, h.inv.ga, h.inv.gg, h.inv.gm⟩, hJ _ _ _ h.cb (But.refl _ W).drew, h.src, h.own⟩

end

set_option maxRecDepth 8000 in
set_option maxHeartbeats 2000000 in
theorem crash_any (kv : Value) (a s n c m nn : Nat) (D : DataW Value) (cur : Array Value) (fused : Bool) (left count : Int) (w : World)
    (h : IsDevAt w a (.slice (some ⟨s, 0, none⟩) n c) m fused left count) (hs : w.heap[s]? = some (.cells cur 102 (0, 0))) (hown : w.ownsMap Tryz.prog 3 ptrElem m nn D)
    (hn1 : 1 ≤ n) (hn : n ≤ 65536) (hcn : n ≤ cur.size) (hptr : ∀ i, i < n → ∃ q, cur[i]? = some (.pointer q))
    (hmax : Maps.size D ≤ maxLen) (hbytes : Maps.size D * 8 ≤ 140737488355328) (hkeys : ∀ x ∈ keys D, 0 ≤ x ∧ x < n) (hlen : (keys D).length ≤ 65536)
    (kb : Int → Bool) (T : Nat → Prop) (hT : ∀ b, T b → b < w.heap.size ∧ b ≠ m) (J : Nat → World → Prop)
    (hJ0 : J 0 w) (hJ : ∀ k W W', J k W → But (fun b => w.heap.size ≤ b) W W' → J k W')
    (hkept : ∀ (k : Nat) x W, (keys D)[k]? = some x → J k W → Calls Tryz.prog 69 #[kv, .int .i64 x] W fun e W' => e = .returned (.bool (kb x)) ∧ J (k + 1) W' ∧ But T W W') :
    Calls Tryz.prog 20 #[.pointer (some ⟨a, 0, none⟩), kv] w fun e w' => ∃ a' g cap m', e = .returned (.pointer (some ⟨a', 0, none⟩)) ∧
      CInv w w' D kb cur T n cap a' g m' (keys D).length ∧ J (keys D).length w' := by
  have hone : ∀ v ∈ cur.toList.take n, v.oneCell' = true := by
    intro v hv
    obtain ⟨i, hi⟩ := List.mem_iff_getElem?.1 hv
    rw [List.getElem?_take] at hi
    split at hi
    · rename_i hlt
      obtain ⟨q, hq⟩ := hptr i hlt
      rw [Array.getElem?_toList, hq] at hi
      cases hi
      rfl
    · cases hi
  have halt := (Array.getElem?_eq_some_iff.1 h).1
  have hslt := (Array.getElem?_eq_some_iff.1 hs).1
  have hmlt := hown.lt
  have k0 := cellOf h 0
  have k1 := cellOf h 1
  simp [devCells] at k0 k1
  have SOf : ∀ W, Below w.heap.size w W → W.cell? ⟨a, 0, none⟩ = some (.slice (some ⟨s, 0, none⟩) n c) ∧ W.cell? ⟨a, 1, none⟩ = some (.map (some m)) ∧ Below w.heap.size w W :=
    fun W hB => ⟨(hB.cell (p := ⟨a, 0, none⟩) halt).trans k0, (hB.cell (p := ⟨a, 1, none⟩) halt).trans k1, hB⟩
  have cCl : ∀ W, (W.cell? ⟨a, 0, none⟩ = some (.slice (some ⟨s, 0, none⟩) n c) ∧ W.cell? ⟨a, 1, none⟩ = some (.map (some m)) ∧ Below w.heap.size w W) →
      Calls Tryz.prog 67 #[.slice (some ⟨s, 0, none⟩) n c] W fun e w' => ∃ g cap, e = .returned (.slice (some ⟨g, 0, none⟩) n cap) ∧ w.heap.size ≤ g ∧
        (∃ cur', w'.heap[g]? = some (.cells cur' 102 (0, 0)) ∧ n ≤ cur'.size ∧ cur'.toList.take n = cur.toList.take n) ∧ Below w.heap.size w w' := by
    rintro W ⟨_, _, hB⟩
    refine (clone_any s n c cur W ((hB.block s hslt).trans hs) hn1 hn hcn hone).mono ?_
    rintro e w' ⟨g, cap, rfl, hg, hrow, hb⟩
    exact ⟨g, cap, rfl, Nat.le_trans hB.size hg, hrow, hB.trans (hb.mono hB.size)⟩
  have cHo : ∀ g cap W, (W.cell? ⟨a, 0, none⟩ = some (.slice (some ⟨s, 0, none⟩) n c) ∧ W.cell? ⟨a, 1, none⟩ = some (.map (some m)) ∧ Below w.heap.size w W) →
      (∃ cur', W.heap[g]? = some (.cells cur' 102 (0, 0)) ∧ n ≤ cur'.size ∧ cur'.toList.take n = cur.toList.take n) → w.heap.size ≤ g →
      Calls Tryz.prog 66 #[.slice (some ⟨g, 0, none⟩) n cap] W fun e w' => ∃ a' m', e = .returned (.pointer (some ⟨a', 0, none⟩)) ∧ w.heap.size ≤ g ∧ w.heap.size ≤ m' ∧ w.heap.size ≤ a' ∧ a' ≠ g ∧
        IsDevAt w' a' (.slice (some ⟨g, 0, none⟩) n cap) m' false 0 0 ∧ w'.heap[m']? = some (.map #[] 0) ∧
        (∃ cur', w'.heap[g]? = some (.cells cur' 102 (0, 0)) ∧ n ≤ cur'.size ∧ cur'.toList.take n = cur.toList.take n) ∧ Below w.heap.size w w' := by
    rintro g cap W ⟨_, _, hB⟩ ⟨cur', hg, r1, r2⟩ hgw
    have hglt := (Array.getElem?_eq_some_iff.1 hg).1
    refine (hold_any _ _ _ _ rfl _).mono ?_
    rintro e w' ⟨rfl, rfl⟩
    refine ⟨W.heap.size + 1, W.heap.size, rfl, hgw, hB.size, Nat.le_succ_of_le hB.size, by omega, ?_, ?_, ⟨cur', ?_, r1, r2⟩, ?_⟩
    · have := heap_alloc_new (W.alloc (.map #[] 0)) (.cells (devCells (.slice (some ⟨g, 0, none⟩) n cap) W.heap.size false 0 0) 105)
      rw [World.size_alloc] at this
      exact this
    · rw [Below.heap_alloc _ _ _ (by simp)]
      exact (MapKept.heap_alloc W _).1
    · rw [Below.heap_alloc _ _ _ (by simp; omega), Below.heap_alloc _ _ _ hglt]
      exact hg
    · exact (hB.alloc hB.size _).alloc (by simp; have := hB.size; omega) _
  have cLo : ∀ W, (W.cell? ⟨a, 0, none⟩ = some (.slice (some ⟨s, 0, none⟩) n c) ∧ W.cell? ⟨a, 1, none⟩ = some (.map (some m)) ∧ Below w.heap.size w W) →
      Calls Tryz.prog 68 #[.pointer (some ⟨a, 0, none⟩)] W fun e w' => ∃ (p : Option Addr) (cp : Nat), e = .returned (.slice p (keys D).length cp) ∧
        (0 < (keys D).length → ∃ g3 cur3, p = some ⟨g3, 0, none⟩ ∧ W.heap.size ≤ g3 ∧ w'.heap[g3]? = some (.cells cur3 3 (0, 0)) ∧ ∀ (k : Nat) x, (keys D)[k]? = some x → cur3[k]? = some (.int .i64 x)) ∧ Below W.heap.size W w' := by
    rintro W ⟨_, _, hB⟩
    exact loose_keys a _ m nn D fused left count W ((hB.block a halt).trans h) (by
      obtain ⟨es, clock, hb, r⟩ := hown
      exact ⟨es, clock, (hB.block m hmlt).trans hb, r⟩) hmax hbytes
  have HH : Hid (IsDevAt w a (.slice (some ⟨s, 0, none⟩) n c) m fused left count) := h
  have HS : Hid (w.heap[s]? = some (.cells cur 102 (0, 0))) := hs
  have HO : Hid (w.ownsMap Tryz.prog 3 ptrElem m nn D) := hown
  clear h hs hown
  go_enter Tryz.func20, Tryz.ntmps20
  go_wp2
  go_region_held3 (fun W => W.cell? ⟨a, 0, none⟩ = some (.slice (some ⟨s, 0, none⟩) n c) ∧ W.cell? ⟨a, 1, none⟩ = some (.map (some m)) ∧ Below w.heap.size w W)
    (exact SOf _ (by first | assumption | exact (Below.refl _ _).drew))
    (first
      | (go_at_call 67; refine (cCl _ (by assumption)).mono ?_; rintro e W1 ⟨g, cap, rfl, hg, hrow1, hB1⟩)
      | (go_at_call 66; refine (cHo _ _ _ (by assumption) hrow1 hg).mono ?_; rintro e W2 ⟨a', m', rfl, hg', hm', ha', hag, hdev, hmap, hrow2, hB2⟩)
      | (go_at_call 68; refine (cLo _ (by assumption)).mono ?_; rintro e W3 ⟨p3, cp3, rfl, hp3, hB3'⟩; have hB3 : Below w.heap.size w W3 := hB2.trans (hB3'.mono hB2.size)))
  go_wp2
  have hB23 := hB2.size
  have hglt2 : g < W2.heap.size := by obtain ⟨_, hr, _⟩ := hrow2; exact (Array.getElem?_eq_some_iff.1 hr).1
  have halt2 : a' < W2.heap.size := (Array.getElem?_eq_some_iff.1 hdev).1
  have hmlt2 : m' < W2.heap.size := (Array.getElem?_eq_some_iff.1 hmap).1
  have start : LInv w W3 D kb cur T n cap a' g m' 0 (keys D).length m nn p3 J := by
    refine ⟨⟨(hB3'.block a' halt2).trans hdev, (hB3'.block m' hmlt2).trans hmap, ?_, But.of_below hB3, hag, ha', hg', hm'⟩, hJ 0 w W3 hJ0 (But.of_below hB3), ?_, ?_⟩
    · obtain ⟨cur', hr, h1, h2⟩ := hrow2
      refine ⟨cur', (hB3'.block g hglt2).trans hr, h1, fun i hi => ?_⟩
      obtain ⟨q, hq⟩ := hptr i hi
      refine ⟨q, ?_, fun hx => by simp at hx, fun _ => hq⟩
      have e1 : (cur'.toList.take n)[i]? = (cur.toList.take n)[i]? := by rw [h2]
      rw [List.getElem?_take, List.getElem?_take, if_pos hi, if_pos hi] at e1
      simpa [hq] using e1
    · intro hpos
      obtain ⟨g3, cur3, rfl, hge, hb3, hc3⟩ := hp3 hpos
      exact ⟨g3, cur3, rfl, by omega, by omega, by omega, hb3, hc3⟩
    · obtain ⟨es, clock, hb, r⟩ := HO.out
      exact ⟨es, clock, (hB3.block m hmlt).trans hb, r⟩
  clear hB3 hB3' hB2 hrow2 hdev hmap hp3 SOf cCl cHo cLo hrow1 hB1 HH HS HO k0 k1
  go_loopw [26] (fun ix wr => ∃ k : Nat, k ≤ (keys D).length ∧ ix = .int .i64 k ∧ LInv w wr D kb cur T n cap a' g m' k (keys D).length m nn p3 J) (fun ix _ => (keys D).length - (intOf ix).toNat)
  case atStart => exact ⟨0, Nat.zero_le _, rfl, start⟩
  case round =>
    clear start
    obtain ⟨k, hk, rfl, hinv⟩ := hrel
    by_cases hlt : k < (keys D).length
    · obtain ⟨x, hx⟩ : ∃ x, (keys D)[k]? = some x := ⟨_, List.getElem?_eq_getElem hlt⟩
      obtain ⟨hx0, hxn⟩ := hkeys x (List.mem_of_getElem? hx)
      obtain ⟨i, rfl⟩ := Int.eq_ofNat_of_zero_le hx0
      have hin : i < n := by omega
      obtain ⟨g3, cur3, hp3, hg3a, hg3g, hg3w, hb3, hc3⟩ := hinv.src (by omega)
      subst hp3
      have l3 : wr.cell? ⟨g3, k, none⟩ = some (.int .i64 i) := (cellOf hb3 k).trans (hc3 k _ hx)
      have hc := hkept k _ wr hx hinv.cb
      have HX : Hid ((keys D)[k]? = some (i : Int)) := hx
      have hlk0 : True := trivial
      cases hkb : kb i
      · rw [hkb] at hc
        have HK : Hid (kb i = false) := hkb
        clear hkb hx hx0 hxn
        go_wp2_with (go_at_call 69; refine hc.mono ?_; rintro e W4 ⟨rfl, hj4, hb4⟩; clear hc; obtain ⟨q, q0, hlk, HAT, e0, e2, f2⟩ := hinv.lookAt hT hb4 hin (by omega))
        go_region
        all_goals go_wp2
        all_goals go_roundw
        all_goals first | exact ⟨k + 1, by omega, by go_num, (hinv.lost hT hmlt hb4 hj4 hJ hin HX.out HK.out HAT.out).drew hJ⟩ | (simp [intOf]; omega)
      · rw [hkb] at hc
        have HK : Hid (kb i = true) := hkb
        clear hkb hx hx0 hxn
        go_wp2_with (go_at_call 69; refine hc.mono ?_; rintro e W4 ⟨rfl, hj4, hb4⟩; clear hc)
        go_roundw
        case rel => exact ⟨k + 1, by omega, by go_num, hinv.kept hT hb4 hj4 HX.out HK.out⟩
        case measure => simp [intOf]; omega
    · obtain rfl : k = (keys D).length := by omega
      go_wp2
      go_ret
      exact ⟨a', g, cap, m', rfl, hinv.inv, hinv.cb⟩

end Go.Proofs.YtphedokdckoccaaGreatDoor
