/-
  A device in memory as one word: what its blocks hold; its calls over that.
-/
import Derived.Test.YtebdgcoandfocaaGreatDoorKDcrash
import Derived.Test.YtebdgcoandfocaaGreatDoorKWseal

namespace Go.Proofs.YtebdgcoandfocaaGreatDoor
open Go.RowKit Go.Maps Go.Sort Go.Shelf

/-- A device: where its parts lie, and what they hold. -/
structure DS where
  a : Nat
  s : Nat
  c : Nat
  m : Nat
  nn : Nat
  n : Nat
  D : DataW Value
  B : Nat → By
  fused : Bool
  left : Int
  count : Int

theorem zeros_bytes : zeroB.map u8v = zeros := by
  unfold zeroB zeros
  rw [List.map_replicate]
  rfl

structure Dev (w : World) (d : DS) : Prop where
  dev : IsDevAt w d.a (.slice (some ⟨d.s, 0, none⟩) d.n d.c) d.m d.fused d.left d.count
  row : ∃ cur, w.heap[d.s]? = some (.cells cur 155 (0, 0)) ∧ d.n ≤ cur.size ∧ ∀ i, i < d.n → ∃ p, cur[i]? = some (.pointer p) ∧ Holds512 w p ((d.B i).map u8v)
  own : w.ownsMap Tryz.prog 3 ptrElem d.m d.nn d.D
  aNs : d.a ≠ d.s
  hn1 : 1 ≤ d.n
  hn : d.n ≤ 65536
  len : ∀ i, i < d.n → (d.B i).length = 512
  cnt : 0 ≤ d.count
  nnc : (d.nn : Int) ≤ d.count
  fuse : d.fused = true → d.left ≤ 9223372036854775807

/-- A block of bytes is put in. -/
def upd (B : Nat → By) (i : Nat) (l : By) : Nat → By := fun j => if j = i then l else B j

theorem Holds512.keep {w w' : World} {p : Option Addr} {l : List Value} (h : Holds512 w p l) (hk : ∀ g : Nat, w.heap[g]? = some (Obj.cells l.toArray 158 (0, 0)) → w'.heap[g]? = w.heap[g]?) : Holds512 w' p l := by
  rcases h with h | ⟨g, e, hg, r⟩
  · exact .inl h
  · exact .inr ⟨g, e, (hk g hg).trans hg, r⟩

section
variable {w w' : World} {d : DS}
theorem Dev.alt (h : Dev w d) : d.a < w.heap.size := (Array.getElem?_eq_some_iff.1 h.dev).1
theorem Dev.slt (h : Dev w d) : d.s < w.heap.size := by obtain ⟨_, hr, _⟩ := h.row; exact (Array.getElem?_eq_some_iff.1 hr).1
theorem Dev.mlt (h : Dev w d) : d.m < w.heap.size := h.own.lt
/-- The blocks that a call of the device may turn. -/
def DS.mine (d : DS) : Nat → Prop := fun k => k = d.a ∨ k = d.s ∨ k = d.m
theorem Dev.blk (h : Dev w d) {g : Nat} {l : Array Value} (hg : w.heap[g]? = some (.cells l 158 (0, 0))) : ¬ d.mine g := by
  rintro (rfl | rfl | rfl)
  · have := h.dev; rw [IsDevAt, hg] at this; simp at this
  · obtain ⟨_, hr, _⟩ := h.row; rw [hg] at hr; simp at hr
  · exact map_ne_cells h.own hg rfl

/-- A block of cells of another type than a device's struct and row is none of the device's. -/
theorem Dev.other (h : Dev w d) {g : Nat} {l : Array Value} {t : TypeId} {f : Nat × Nat} (hg : w.heap[g]? = some (.cells l t f)) (h1 : t ≠ 127) (h2 : t ≠ 155) : ¬ d.mine g := by
  rintro (rfl | rfl | rfl)
  · have := h.dev; rw [IsDevAt, hg] at this; simp at this; exact h1 this.2.1
  · obtain ⟨_, hr, _⟩ := h.row; rw [hg] at hr; simp at hr; exact h2 hr.2.1
  · exact map_ne_cells h.own hg rfl

theorem Dev.but (h : Dev w d) {S : Nat → Prop} (hb : But S w w') (hS : ∀ k, d.mine k → ¬ S k) (hg : ∀ g l, w.heap[g]? = some (.cells l 158 (0, 0)) → ¬ S g) : Dev w' d := by
  refine ⟨(hb.block d.a h.alt (hS _ (.inl rfl))).trans h.dev, ?_, ?_, h.aNs, h.hn1, h.hn, h.len, h.cnt, h.nnc, h.fuse⟩
  · obtain ⟨cur, hr, hc, hx⟩ := h.row
    refine ⟨cur, (hb.block d.s h.slt (hS _ (.inr (.inl rfl)))).trans hr, hc, fun i hi => ?_⟩
    obtain ⟨p, hp, hh⟩ := hx i hi
    exact ⟨p, hp, hh.keep fun g hg' => hb.block g (Array.getElem?_eq_some_iff.1 hg').1 (hg g _ hg')⟩
  · have hlt := h.mlt
    obtain ⟨es, clock, he, r⟩ := h.own
    exact ⟨es, clock, (hb.block d.m hlt (hS _ (.inr (.inr rfl)))).trans he, r⟩
theorem Dev.below (h : Dev w d) (hb : Below w.heap.size w w') : Dev w' d :=
  h.but (S := fun _ => False) (But.of_below hb) (fun _ _ h => h) (fun _ _ _ h => h)
theorem Dev.drew (h : Dev w d) : Dev w.drew d := ⟨h.dev, h.row, h.own, h.aNs, h.hn1, h.hn, h.len, h.cnt, h.nnc, h.fuse⟩
end

theorem ownsMap_empty {w : World} {m : Nat} (h : w.heap[m]? = some (.map #[] 0)) : w.ownsMap Tryz.prog 3 ptrElem m 0 (.map []) :=
  ⟨#[], 0, h, ⟨by simp, MapKept.stamped_empty 0, by simp⟩, Nat.le_refl _, rfl⟩

/-- A new device. -/
def newDS (a s c m n : Nat) : DS := ⟨a, s, c, m, 0, n, .map [], fun _ => zeroB, false, 0, 0⟩

theorem dev_new (n : Nat) (w : World) (h1 : 1 ≤ n) (h2 : n ≤ 65536) :
    Calls Tryz.prog 34 #[.int .i64 n] w fun e w' => ∃ a s c m, e = .returned (.pointer (some ⟨a, 0, none⟩)) ∧ Dev w' (newDS a s c m n) ∧ Below w.heap.size w w' ∧ w.heap.size ≤ a ∧ w.heap.size ≤ s ∧ w.heap.size ≤ m := by
  refine (new_yes n w h1 h2).mono ?_
  rintro e w' ⟨a, m, rfl, hm, hm', hma, ha, hd, hr, hmap, hB⟩
  refine ⟨a, w.heap.size, n, m, rfl, ⟨hd, ⟨_, hr, by simp [newDS], fun i hi => ⟨none, ?_, .inl ⟨rfl, zeros_bytes⟩⟩⟩, ownsMap_empty hmap, ?_, h1, h2, fun _ _ => zeroB_length, Int.le_refl _, Int.le_refl _, fun h => by cases h⟩, hB, by omega, Nat.le_refl _, hm⟩
  · rw [List.getElem?_toArray, List.getElem?_replicate, if_pos (by simpa [newDS] using hi)]
  · show a ≠ w.heap.size
    omega

theorem dev_read (d : DS) (i : Nat) (w : World) (h : Dev w d) (hi : i < d.n) :
    Calls Tryz.prog 75 #[.pointer (some ⟨d.a, 0, none⟩), .int .i64 i] w fun e w' => e = .returned (.tuple #[.slice (some ⟨w.heap.size, 0, none⟩) 512 512, .int .i64 0]) ∧
      w'.heap[w.heap.size]? = some (.cells ((d.B i).map u8v).toArray 5 (0, 0)) ∧ Below w.heap.size w w' := by
  obtain ⟨cur, hr, hc, hx⟩ := h.row
  obtain ⟨p, hp, hh⟩ := hx i hi
  exact read_yes i d.a d.s d.n d.c d.m d.fused d.left d.count cur p _ w h.dev hr hi hp hh
theorem dev_read_no (d : DS) (i : Int) (w : World) (h : Dev w d) (hi : ¬ (0 ≤ i ∧ i < d.n)) :
    Calls Tryz.prog 75 #[.pointer (some ⟨d.a, 0, none⟩), .int .i64 i] w fun e w' => e = .returned (.tuple #[.slice none 0 0, .int .i64 22]) ∧ w' = w :=
  read_no i d.a _ d.n d.c d.m d.fused d.left d.count w h.dev hi
theorem dev_blocks (d : DS) (w : World) (h : Dev w d) : Calls Tryz.prog 69 #[.pointer (some ⟨d.a, 0, none⟩)] w fun e w' => e = .returned (.int .i64 d.n) ∧ w' = w :=
  blocks_any d.a _ d.n d.c d.m d.fused d.left d.count w h.dev
theorem dev_count (d : DS) (w : World) (h : Dev w d) : Calls Tryz.prog 59 #[.pointer (some ⟨d.a, 0, none⟩)] w fun e w' => e = .returned (.int .i64 d.count) ∧ w' = w :=
  count_any d.a _ d.m d.fused d.left d.count w h.dev
/-- The fuse has burnt. -/
def DS.dead (d : DS) : Bool := d.fused && decide (d.left < 1)
theorem dev_dead (d : DS) (w : World) (h : Dev w d) : Calls Tryz.prog 71 #[.pointer (some ⟨d.a, 0, none⟩)] w fun e w' => e = .returned (.bool d.dead) ∧ w' = w :=
  dead_any d.a _ d.m d.fused d.left d.count w h.dev

theorem Dev.left1 {w : World} {d : DS} (h : Dev w d) (hd : d.dead = false) : d.fused = true → 1 ≤ d.left ∧ d.left ≤ 9223372036854775807 := by
  intro hf
  refine ⟨?_, h.fuse hf⟩
  unfold DS.dead at hd
  rw [hf] at hd
  simp at hd
  exact hd

/-- Behind a Write. -/
def DS.wrote (d : DS) (i : Nat) (l : By) (D : DataW Value) : DS := { d with nn := d.nn + 1, D := D, B := upd d.B i l, left := stepped d.fused d.left, count := d.count + 1 }

theorem dev_write (d : DS) (i : Nat) (l : By) (bb bo bc : Nat) (w : World) (h : Dev w d) (hi : i < d.n) (hl : l.length = 512) (hb : Bytes w (some ⟨bb, bo, none⟩) l) (hd : d.dead = false) (hc : d.count < 1000000000) :
    Calls Tryz.prog 73 #[.pointer (some ⟨d.a, 0, none⟩), .int .i64 i, .slice (some ⟨bb, bo, none⟩) 512 bc] w fun e w' => e = .returned (.int .i64 0) ∧
      But d.mine w w' ∧ ∃ p, Holds512 w' p ((d.B i).map u8v) ∧ Dev w' (d.wrote i l (loosened d.D i p)) := by
  obtain ⟨cur, hr, hcs, hx⟩ := h.row
  obtain ⟨p, hp, hh⟩ := hx i hi
  have hsrc : ∀ j v, (l.map u8v)[j]? = some v → w.cell? ⟨bb, bo + j, none⟩ = some v := by
    intro j v hj
    rw [List.getElem?_map] at hj
    obtain ⟨x, hx', rfl⟩ := Option.map_eq_some_iff.1 hj
    obtain ⟨b, o, e, hc⟩ := hb (by omega)
    cases e
    exact hc j x hx'
  have hnn := h.nnc
  refine (write_yes i bb bo bc (l.map u8v) d.a d.s d.n d.c d.m d.nn d.D cur p d.fused d.left d.count w h.dev hr h.own (by unfold maxLen; omega) h.aNs hi h.hn hp (by simpa using hl) (u8v_one l) hsrc hd h.cnt hc (h.left1 hd)).mono ?_
  rintro e w' ⟨g, rfl, hw⟩
  refine ⟨rfl, hw.but, p, hh.keep (fun g' hg' => hw.but.block g' (Array.getElem?_eq_some_iff.1 hg').1 (h.blk hg')), ⟨hw.dev, ⟨_, hw.row, by simpa [DS.wrote] using hcs, fun j hj => ?_⟩, hw.own, h.aNs, h.hn1, h.hn, fun j hj => ?_, by have := h.cnt; simp [DS.wrote]; omega, by simp [DS.wrote]; omega, fun hf => ?_⟩⟩
  · by_cases hij : j = i
    · subst hij
      refine ⟨some ⟨g, 0, none⟩, ?_, .inr ⟨g, rfl, ?_, ?_, ?_⟩⟩
      · rw [Array.getElem?_setIfInBounds, if_pos rfl, if_pos (by omega)]
      · have := hw.blk; simpa [DS.wrote, upd] using this
      · simp [DS.wrote, upd, hl]
      · simp only [DS.wrote, upd, if_true]; exact u8v_one l
    · obtain ⟨q, hq, hqh⟩ := hx j hj
      refine ⟨q, ?_, ?_⟩
      · rw [Array.getElem?_setIfInBounds, if_neg (fun e => hij e.symm)]; exact hq
      · have e : (d.wrote i l (loosened d.D i p)).B j = d.B j := by simp [DS.wrote, upd, hij]
        rw [e]
        exact hqh.keep fun g' hg' => hw.but.block g' (Array.getElem?_eq_some_iff.1 hg').1 (h.blk hg')
  · by_cases hij : j = i
    · simp [DS.wrote, upd, hij, hl]
    · simpa [DS.wrote, upd, hij] using h.len j hj
  · have hf' : d.fused = true := hf
    have := h.fuse hf'
    simp [DS.wrote, stepped, hf']; omega

/-- Behind a Flush. -/
def DS.flushed (d : DS) (m : Nat) : DS := { d with m := m, nn := 0, D := .map [], left := stepped d.fused d.left, count := d.count + 1 }

theorem dev_flush (d : DS) (w : World) (h : Dev w d) (hd : d.dead = false) (hc : d.count < 1000000000) :
    Calls Tryz.prog 52 #[.pointer (some ⟨d.a, 0, none⟩)] w fun e w' => ∃ m, e = .returned (.int .i64 0) ∧ w.heap.size ≤ m ∧ Dev w' (d.flushed m) ∧ But d.mine w w' := by
  refine (flush_yes d.a _ d.m d.fused d.left d.count w h.dev hd h.cnt hc (h.left1 hd)).mono ?_
  rintro e w' ⟨m, rfl, hm, hdv, hmap, hbut⟩
  refine ⟨m, rfl, hm, ⟨hdv, ?_, ownsMap_empty hmap, h.aNs, h.hn1, h.hn, h.len, by have := h.cnt; simp [DS.flushed]; omega, by have := h.cnt; simp [DS.flushed]; omega, fun hf => ?_⟩, hbut.mono (fun k _ hk => .inl hk)⟩
  · obtain ⟨cur, hr, hcs, hx⟩ := h.row
    refine ⟨cur, (hbut.block d.s h.slt (fun e => h.aNs e.symm)).trans hr, hcs, fun i hi => ?_⟩
    obtain ⟨p, hp, hh⟩ := hx i hi
    exact ⟨p, hp, hh.keep fun g hg' => hbut.block g (Array.getElem?_eq_some_iff.1 hg').1 (fun e => h.blk hg' (.inl e))⟩
  · have hf' : d.fused = true := hf
    have := h.fuse hf'
    simp [DS.flushed, stepped, hf']; omega
theorem keys_empty : keys (.map []) = [] := by
  have h : intKeys (.map [] : DataW Value) = [] := by rfl
  unfold keys
  rw [h]
  exact List.mergeSort_nil

/-- Loose of a device that was flushed. -/
theorem dev_loose_none (d : DS) (w : World) (h : Dev w d) (hD : d.D = .map []) :
    Calls Tryz.prog 83 #[.pointer (some ⟨d.a, 0, none⟩)] w fun e w' => ∃ p c, e = .returned (.slice p 0 c) ∧ Below w.heap.size w w' := by
  have hown := h.own
  rw [hD] at hown
  refine (loose_keys d.a _ d.m d.nn (.map []) d.fused d.left d.count w h.dev hown (by show 0 ≤ maxLen; omega) (by show 0 * 8 ≤ _; omega)).mono ?_
  rintro e w' ⟨p, c, rfl, _, hB⟩
  rw [keys_empty]
  exact ⟨p, c, rfl, hB⟩

end Go.Proofs.YtebdgcoandfocaaGreatDoor
