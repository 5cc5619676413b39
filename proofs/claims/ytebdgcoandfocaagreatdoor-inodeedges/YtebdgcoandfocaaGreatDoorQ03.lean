/-
  What the proof leans on, part 4.
-/
import Derived.Test.YtebdgcoandfocaaGreatDoorQ02
import Derived.Laws.Small
import Derived.Laws.BytesArg
import Derived.Lib.AppendStr
import Derived.Lib.SliceRun

/-
  A device in memory as one word: what its blocks hold; its calls over that.
-/
namespace Go.Proofs.YtebdgcoandfocaaGreatDoor
open Go.RowKit Go.Maps Go.Sort Go.Shelf

/-- A device: where its parts lie, and what they hold. -/
structure DS where
  a : Nat
  s : Nat
  c : Nat
  m : Nat
  nn : Nat
  n : Nat
  D : DataW Value
  B : Nat → By
  fused : Bool
  left : Int
  count : Int

theorem zeros_bytes : zeroB.map u8v = zeros := by
  unfold zeroB zeros
  rw [List.map_replicate]
  rfl

structure Dev (w : World) (d : DS) : Prop where
  dev : IsDevAt w d.a (.slice (some ⟨d.s, 0, none⟩) d.n d.c) d.m d.fused d.left d.count
  row : ∃ cur, w.heap[d.s]? = some (.cells cur 155 (0, 0)) ∧ d.n ≤ cur.size ∧ ∀ i, i < d.n → ∃ p, cur[i]? = some (.pointer p) ∧ Holds512 w p ((d.B i).map u8v)
  own : w.ownsMap Tryz.prog 3 ptrElem d.m d.nn d.D
  aNs : d.a ≠ d.s
  hn1 : 1 ≤ d.n
  hn : d.n ≤ 65536
  len : ∀ i, i < d.n → (d.B i).length = 512
  cnt : 0 ≤ d.count
  nnc : (d.nn : Int) ≤ d.count
  fuse : d.fused = true → d.left ≤ 9223372036854775807

/-- A block of bytes is put in. -/
def upd (B : Nat → By) (i : Nat) (l : By) : Nat → By := fun j => if j = i then l else B j

theorem Holds512.keep {w w' : World} {p : Option Addr} {l : List Value} (h : Holds512 w p l) (hk : ∀ g : Nat, w.heap[g]? = some (Obj.cells l.toArray 158 (0, 0)) → w'.heap[g]? = w.heap[g]?) : Holds512 w' p l := by
  rcases h with h | ⟨g, e, hg, r⟩
  · exact .inl h
  · exact .inr ⟨g, e, (hk g hg).trans hg, r⟩

section
variable {w w' : World} {d : DS}
theorem Dev.alt (h : Dev w d) : d.a < w.heap.size := (Array.getElem?_eq_some_iff.1 h.dev).1
theorem Dev.slt (h : Dev w d) : d.s < w.heap.size := by obtain ⟨_, hr, _⟩ := h.row; exact (Array.getElem?_eq_some_iff.1 hr).1
theorem Dev.mlt (h : Dev w d) : d.m < w.heap.size := h.own.lt
/-- The blocks that a call of the device may turn. -/
def DS.mine (d : DS) : Nat → Prop := fun k => k = d.a ∨ k = d.s ∨ k = d.m
theorem Dev.blk (h : Dev w d) {g : Nat} {l : Array Value} (hg : w.heap[g]? = some (.cells l 158 (0, 0))) : ¬ d.mine g := by
  rintro (rfl | rfl | rfl)
  · have := h.dev; rw [IsDevAt, hg] at this; simp at this
  · obtain ⟨_, hr, _⟩ := h.row; rw [hg] at hr; simp at hr
  · exact map_ne_cells h.own hg rfl

/-- A block of cells of another type than a device's struct and row is none of the device's. -/
theorem Dev.other (h : Dev w d) {g : Nat} {l : Array Value} {t : TypeId} {f : Nat × Nat} (hg : w.heap[g]? = some (.cells l t f)) (h1 : t ≠ 127) (h2 : t ≠ 155) : ¬ d.mine g := by
  rintro (rfl | rfl | rfl)
  · have := h.dev; rw [IsDevAt, hg] at this; simp at this; exact h1 this.2.1
  · obtain ⟨_, hr, _⟩ := h.row; rw [hg] at hr; simp at hr; exact h2 hr.2.1
  · exact map_ne_cells h.own hg rfl

theorem Dev.but (h : Dev w d) {S : Nat → Prop} (hb : But S w w') (hS : ∀ k, d.mine k → ¬ S k) (hg : ∀ g l, w.heap[g]? = some (.cells l 158 (0, 0)) → ¬ S g) : Dev w' d := by
  refine ⟨(hb.block d.a h.alt (hS _ (.inl rfl))).trans h.dev, ?_, ?_, h.aNs, h.hn1, h.hn, h.len, h.cnt, h.nnc, h.fuse⟩
  · obtain ⟨cur, hr, hc, hx⟩ := h.row
    refine ⟨cur, (hb.block d.s h.slt (hS _ (.inr (.inl rfl)))).trans hr, hc, fun i hi => ?_⟩
    obtain ⟨p, hp, hh⟩ := hx i hi
    exact ⟨p, hp, hh.keep fun g hg' => hb.block g (Array.getElem?_eq_some_iff.1 hg').1 (hg g _ hg')⟩
  · have hlt := h.mlt
    obtain ⟨es, clock, he, r⟩ := h.own
    exact ⟨es, clock, (hb.block d.m hlt (hS _ (.inr (.inr rfl)))).trans he, r⟩
theorem Dev.below (h : Dev w d) (hb : Below w.heap.size w w') : Dev w' d :=
  h.but (S := fun _ => False) (But.of_below hb) (fun _ _ h => h) (fun _ _ _ h => h)
theorem Dev.drew (h : Dev w d) : Dev w.drew d := ⟨h.dev, h.row, h.own, h.aNs, h.hn1, h.hn, h.len, h.cnt, h.nnc, h.fuse⟩
end

theorem ownsMap_empty {w : World} {m : Nat} (h : w.heap[m]? = some (.map #[] 0)) : w.ownsMap Tryz.prog 3 ptrElem m 0 (.map []) :=
  ⟨#[], 0, h, ⟨by simp, MapKept.stamped_empty 0, by simp⟩, Nat.le_refl _, rfl⟩

/-- A new device. -/
def newDS (a s c m n : Nat) : DS := ⟨a, s, c, m, 0, n, .map [], fun _ => zeroB, false, 0, 0⟩

theorem dev_new (n : Nat) (w : World) (h1 : 1 ≤ n) (h2 : n ≤ 65536) :
    Calls Tryz.prog 34 #[.int .i64 n] w fun e w' => ∃ a s c m, e = .returned (.pointer (some ⟨a, 0, none⟩)) ∧ Dev w' (newDS a s c m n) ∧ Below w.heap.size w w' ∧ w.heap.size ≤ a ∧ w.heap.size ≤ s ∧ w.heap.size ≤ m := by
  refine (new_yes n w h1 h2).mono ?_
  rintro e w' ⟨a, m, rfl, hm, hm', hma, ha, hd, hr, hmap, hB⟩
  refine ⟨a, w.heap.size, n, m, rfl, ⟨hd, ⟨_, hr, by simp [newDS], fun i hi => ⟨none, ?_, .inl ⟨rfl, zeros_bytes⟩⟩⟩, ownsMap_empty hmap, ?_, h1, h2, fun _ _ => zeroB_length, Int.le_refl _, Int.le_refl _, fun h => by cases h⟩, hB, by omega, Nat.le_refl _, hm⟩
  · rw [List.getElem?_toArray, List.getElem?_replicate, if_pos (by simpa [newDS] using hi)]
  · show a ≠ w.heap.size
    omega

theorem dev_read (d : DS) (i : Nat) (w : World) (h : Dev w d) (hi : i < d.n) :
    Calls Tryz.prog 75 #[.pointer (some ⟨d.a, 0, none⟩), .int .i64 i] w fun e w' => e = .returned (.tuple #[.slice (some ⟨w.heap.size, 0, none⟩) 512 512, .int .i64 0]) ∧
      w'.heap[w.heap.size]? = some (.cells ((d.B i).map u8v).toArray 5 (0, 0)) ∧ Below w.heap.size w w' := by
  obtain ⟨cur, hr, hc, hx⟩ := h.row
  obtain ⟨p, hp, hh⟩ := hx i hi
  exact read_yes i d.a d.s d.n d.c d.m d.fused d.left d.count cur p _ w h.dev hr hi hp hh
theorem dev_read_no (d : DS) (i : Int) (w : World) (h : Dev w d) (hi : ¬ (0 ≤ i ∧ i < d.n)) :
    Calls Tryz.prog 75 #[.pointer (some ⟨d.a, 0, none⟩), .int .i64 i] w fun e w' => e = .returned (.tuple #[.slice none 0 0, .int .i64 22]) ∧ w' = w :=
  read_no i d.a _ d.n d.c d.m d.fused d.left d.count w h.dev hi
theorem dev_blocks (d : DS) (w : World) (h : Dev w d) : Calls Tryz.prog 69 #[.pointer (some ⟨d.a, 0, none⟩)] w fun e w' => e = .returned (.int .i64 d.n) ∧ w' = w :=
  blocks_any d.a _ d.n d.c d.m d.fused d.left d.count w h.dev
theorem dev_count (d : DS) (w : World) (h : Dev w d) : Calls Tryz.prog 59 #[.pointer (some ⟨d.a, 0, none⟩)] w fun e w' => e = .returned (.int .i64 d.count) ∧ w' = w :=
  count_any d.a _ d.m d.fused d.left d.count w h.dev
/-- The fuse has burnt. -/
def DS.dead (d : DS) : Bool := d.fused && decide (d.left < 1)
theorem dev_dead (d : DS) (w : World) (h : Dev w d) : Calls Tryz.prog 71 #[.pointer (some ⟨d.a, 0, none⟩)] w fun e w' => e = .returned (.bool d.dead) ∧ w' = w :=
  dead_any d.a _ d.m d.fused d.left d.count w h.dev

theorem Dev.left1 {w : World} {d : DS} (h : Dev w d) (hd : d.dead = false) : d.fused = true → 1 ≤ d.left ∧ d.left ≤ 9223372036854775807 := by
  intro hf
  refine ⟨?_, h.fuse hf⟩
  unfold DS.dead at hd
  rw [hf] at hd
  simp at hd
  exact hd

/-- Behind a Write. -/
def DS.wrote (d : DS) (i : Nat) (l : By) (D : DataW Value) : DS := { d with nn := d.nn + 1, D := D, B := upd d.B i l, left := stepped d.fused d.left, count := d.count + 1 }

theorem dev_write (d : DS) (i : Nat) (l : By) (bb bo bc : Nat) (w : World) (h : Dev w d) (hi : i < d.n) (hl : l.length = 512) (hb : Bytes w (some ⟨bb, bo, none⟩) l) (hd : d.dead = false) (hc : d.count < 1000000000) :
    Calls Tryz.prog 73 #[.pointer (some ⟨d.a, 0, none⟩), .int .i64 i, .slice (some ⟨bb, bo, none⟩) 512 bc] w fun e w' => e = .returned (.int .i64 0) ∧
      But d.mine w w' ∧ ∃ p, Holds512 w' p ((d.B i).map u8v) ∧ Dev w' (d.wrote i l (loosened d.D i p)) := by
  obtain ⟨cur, hr, hcs, hx⟩ := h.row
  obtain ⟨p, hp, hh⟩ := hx i hi
  have hsrc : ∀ j v, (l.map u8v)[j]? = some v → w.cell? ⟨bb, bo + j, none⟩ = some v := by
    intro j v hj
    rw [List.getElem?_map] at hj
    obtain ⟨x, hx', rfl⟩ := Option.map_eq_some_iff.1 hj
    obtain ⟨b, o, e, hc⟩ := hb (by omega)
    cases e
    exact hc j x hx'
  have hnn := h.nnc
  refine (write_yes i bb bo bc (l.map u8v) d.a d.s d.n d.c d.m d.nn d.D cur p d.fused d.left d.count w h.dev hr h.own (by unfold maxLen; omega) h.aNs hi h.hn hp (by simpa using hl) (u8v_one l) hsrc hd h.cnt hc (h.left1 hd)).mono ?_
  rintro e w' ⟨g, rfl, hw⟩
  refine ⟨rfl, hw.but, p, hh.keep (fun g' hg' => hw.but.block g' (Array.getElem?_eq_some_iff.1 hg').1 (h.blk hg')), ⟨hw.dev, ⟨_, hw.row, by simpa [DS.wrote] using hcs, fun j hj => ?_⟩, hw.own, h.aNs, h.hn1, h.hn, fun j hj => ?_, by have := h.cnt; simp [DS.wrote]; omega, by simp [DS.wrote]; omega, fun hf => ?_⟩⟩
  · by_cases hij : j = i
    · subst hij
      refine ⟨some ⟨g, 0, none⟩, ?_, .inr ⟨g, rfl, ?_, ?_, ?_⟩⟩
      · rw [Array.getElem?_setIfInBounds, if_pos rfl, if_pos (by omega)]
      · have := hw.blk; simpa [DS.wrote, upd] using this
      · simp [DS.wrote, upd, hl]
      · simp only [DS.wrote, upd, if_true]; exact u8v_one l
    · obtain ⟨q, hq, hqh⟩ := hx j hj
      refine ⟨q, ?_, ?_⟩
      · rw [Array.getElem?_setIfInBounds, if_neg (fun e => hij e.symm)]; exact hq
      · have e : (d.wrote i l (loosened d.D i p)).B j = d.B j := by simp [DS.wrote, upd, hij]
        rw [e]
        exact hqh.keep fun g' hg' => hw.but.block g' (Array.getElem?_eq_some_iff.1 hg').1 (h.blk hg')
  · by_cases hij : j = i
    · simp [DS.wrote, upd, hij, hl]
    · simpa [DS.wrote, upd, hij] using h.len j hj
  · have hf' : d.fused = true := hf
    have := h.fuse hf'
    simp [DS.wrote, stepped, hf']; omega

/-- Behind a Flush. -/
def DS.flushed (d : DS) (m : Nat) : DS := { d with m := m, nn := 0, D := .map [], left := stepped d.fused d.left, count := d.count + 1 }

theorem dev_flush (d : DS) (w : World) (h : Dev w d) (hd : d.dead = false) (hc : d.count < 1000000000) :
    Calls Tryz.prog 52 #[.pointer (some ⟨d.a, 0, none⟩)] w fun e w' => ∃ m, e = .returned (.int .i64 0) ∧ w.heap.size ≤ m ∧ Dev w' (d.flushed m) ∧ But d.mine w w' := by
  refine (flush_yes d.a _ d.m d.fused d.left d.count w h.dev hd h.cnt hc (h.left1 hd)).mono ?_
  rintro e w' ⟨m, rfl, hm, hdv, hmap, hbut⟩
  refine ⟨m, rfl, hm, ⟨hdv, ?_, ownsMap_empty hmap, h.aNs, h.hn1, h.hn, h.len, by have := h.cnt; simp [DS.flushed]; omega, by have := h.cnt; simp [DS.flushed]; omega, fun hf => ?_⟩, hbut.mono (fun k _ hk => .inl hk)⟩
  · obtain ⟨cur, hr, hcs, hx⟩ := h.row
    refine ⟨cur, (hbut.block d.s h.slt (fun e => h.aNs e.symm)).trans hr, hcs, fun i hi => ?_⟩
    obtain ⟨p, hp, hh⟩ := hx i hi
    exact ⟨p, hp, hh.keep fun g hg' => hbut.block g (Array.getElem?_eq_some_iff.1 hg').1 (fun e => h.blk hg' (.inl e))⟩
  · have hf' : d.fused = true := hf
    have := h.fuse hf'
    simp [DS.flushed, stepped, hf']; omega
theorem keys_empty : keys (.map []) = [] := by
  have h : intKeys (.map [] : DataW Value) = [] := by rfl
  unfold keys
  rw [h]
  exact List.mergeSort_nil

/-- Loose of a device that was flushed. -/
theorem dev_loose_none (d : DS) (w : World) (h : Dev w d) (hD : d.D = .map []) :
    Calls Tryz.prog 83 #[.pointer (some ⟨d.a, 0, none⟩)] w fun e w' => ∃ p c, e = .returned (.slice p 0 c) ∧ Below w.heap.size w w' := by
  have hown := h.own
  rw [hD] at hown
  refine (loose_keys d.a _ d.m d.nn (.map []) d.fused d.left d.count w h.dev hown (by show 0 ≤ maxLen; omega) (by show 0 * 8 ≤ _; omega)).mono ?_
  rintro e w' ⟨p, c, rfl, _, hB⟩
  rw [keys_empty]
  exact ⟨p, c, rfl, hB⟩

end Go.Proofs.YtebdgcoandfocaaGreatDoor

/-
  A volume in memory; its small methods.
-/
namespace Go.Proofs.YtebdgcoandfocaaGreatDoor
open Go.RowKit Go.Maps Go.Sort Go.Shelf

/-- The six cells of a volume. -/
def volCells (d : Value) (commits turn next : Nat) (f : Option Nat) (count : Int) : Array Value :=
  #[d, .int .i64 commits, .int .i64 turn, .int .i64 next, .map f, .int .i64 count]
def IsVol (w : World) (v : Nat) (d : Value) (commits turn next : Nat) (f : Option Nat) (count : Int) : Prop :=
  w.heap[v]? = some (.cells (volCells d commits turn next f count) 115 (0, 0))

theorem IsVol.lt {w : World} {v : Nat} {d : Value} {commits turn next : Nat} {f : Option Nat} {count : Int} (h : IsVol w v d commits turn next f count) : v < w.heap.size := (Array.getElem?_eq_some_iff.1 h).1
theorem IsVol.but {w w' : World} {v : Nat} {d : Value} {commits turn next : Nat} {f : Option Nat} {count : Int} (h : IsVol w v d commits turn next f count) {S : Nat → Prop} (hb : But S w w') (hv : ¬ S v) : IsVol w' v d commits turn next f count :=
  (hb.block v h.lt hv).trans h
theorem IsVol.below {w w' : World} {v : Nat} {d : Value} {commits turn next : Nat} {f : Option Nat} {count : Int} (h : IsVol w v d commits turn next f count) (hb : Below w.heap.size w w') : IsVol w' v d commits turn next f count :=
  (hb.block v h.lt).trans h
theorem IsVol.mine {w : World} {v : Nat} {dv : Value} {commits turn next : Nat} {f : Option Nat} {count : Int} {d : DS} (h : IsVol w v dv commits turn next f count) (hd : Dev w d) : ¬ d.mine v :=
  hd.other h (by decide) (by decide)

theorem IsVol.setC {w : World} {v : Nat} {d : Value} {commits turn next : Nat} {f : Option Nat} {count : Int} (h : IsVol w v d commits turn next f count) (x : Nat) : IsVol (w.setCell ⟨v, 1, none⟩ (.int .i64 (x : Nat))) v d x turn next f count := by
  unfold IsVol at *; simp [World.setCell, Array.getElem?_modify, h, volCells]
theorem IsVol.setT {w : World} {v : Nat} {d : Value} {commits turn next : Nat} {f : Option Nat} {count : Int} (h : IsVol w v d commits turn next f count) (x : Nat) : IsVol (w.setCell ⟨v, 2, none⟩ (.int .i64 (x : Nat))) v d commits x next f count := by
  unfold IsVol at *; simp [World.setCell, Array.getElem?_modify, h, volCells]
theorem IsVol.setN {w : World} {v : Nat} {d : Value} {commits turn next : Nat} {f : Option Nat} {count : Int} (h : IsVol w v d commits turn next f count) (x : Nat) : IsVol (w.setCell ⟨v, 3, none⟩ (.int .i64 (x : Nat))) v d commits turn x f count := by
  unfold IsVol at *; simp [World.setCell, Array.getElem?_modify, h, volCells]
theorem IsVol.setF {w : World} {v : Nat} {d : Value} {commits turn next : Nat} {f : Option Nat} {count : Int} (h : IsVol w v d commits turn next f count) (x : Nat) : IsVol (w.setCell ⟨v, 4, none⟩ (.map (some x))) v d commits turn next (some x) count := by
  unfold IsVol at *; simp [World.setCell, Array.getElem?_modify, h, volCells]
theorem IsVol.setK {w : World} {v : Nat} {d : Value} {commits turn next : Nat} {f : Option Nat} {count : Int} (h : IsVol w v d commits turn next f count) (x : Int) : IsVol (w.setCell ⟨v, 5, none⟩ (.int .i64 x)) v d commits turn next f x := by
  unfold IsVol at *; simp [World.setCell, Array.getElem?_modify, h, volCells]

/-- Where a device's pointer points. -/
abbrev dp (a : Nat) : Value := .pointer (some ⟨a, 0, none⟩)

/-- How many blocks a volume has. -/
def nbOf (n : Nat) : Nat := (n - 8) / 4

set_option maxRecDepth 8000 in
set_option maxHeartbeats 400000 in
theorem vBlocks (v : Nat) (commits turn next : Nat) (f : Option Nat) (count : Int) (d : DS) (w : World) (h : IsVol w v (dp d.a) commits turn next f count) (hd : Dev w d) (hn : 16 ≤ d.n) :
    Calls Tryz.prog 98 #[dp v] w fun e w' => e = .returned (.int .i64 (nbOf d.n)) ∧ w' = w := by
  have c31 := dev_blocks d w hd
  have h0 := cellOf h 0
  simp [volCells] at h0
  have hle := hd.hn
  clear h hd
  obtain ⟨k, hk⟩ : ∃ k, nbOf d.n = k := ⟨_, rfl⟩
  have e1 : (((d.n : Int) - 8) / 4) = (k : Int) := by rw [← hk]; unfold nbOf; omega
  have e2 : Int.tdiv ((d.n : Int) - 8) 4 = (k : Int) := by rw [Int.tdiv_eq_ediv_of_nonneg (by omega)]; exact e1
  have hk' : (k : Int) ≤ 65536 := by omega
  rw [hk]
  have hm : (if (k : Int) > 0 then (k : Int) else 0) = k := by split <;> omega
  go_enter Tryz.func98, Tryz.ntmps98
  go_wp2_with (go_at_call 69; refine Calls_on c31 ?_)
  go_ret
  exact ⟨rfl, rfl⟩

set_option maxRecDepth 8000 in
set_option maxHeartbeats 400000 in
theorem vHas (i : Int) (v : Nat) (commits turn next : Nat) (f : Option Nat) (count : Int) (d : DS) (w : World) (h : IsVol w v (dp d.a) commits turn next f count) (hd : Dev w d) (hn : 16 ≤ d.n) :
    Calls Tryz.prog 116 #[dp v, .int .i64 i] w fun e w' => e = .returned (.bool (decide (0 ≤ i ∧ i < nbOf d.n))) ∧ w' = w := by
  have c9 := vBlocks v commits turn next f count d w h hd hn
  clear h hd
  by_cases hi : 0 ≤ i
  · go_enter Tryz.func116, Tryz.ntmps116
    go_wp2_with (go_at_call 98; refine Calls_on c9 ?_)
    go_ret
    exact ⟨by simp [hi], rfl⟩
  · go_enter Tryz.func116, Tryz.ntmps116
    go_wp2_with (go_at_call 98; refine Calls_on c9 ?_)
    go_ret
    exact ⟨by simp; omega, rfl⟩

set_option maxRecDepth 8000 in
set_option maxHeartbeats 400000 in
theorem homeOf_any (i : Nat) (w : World) (hi : i < 1000000000) : Calls Tryz.prog 97 #[.int .i64 i] w fun e w' => e = .returned (.int .i64 ((1 + i : Nat) : Int)) ∧ w' = w := by
  go_enter Tryz.func97, Tryz.ntmps97
  go_wp2
  go_ret
  exact ⟨by simp, rfl⟩

set_option maxRecDepth 8000 in
set_option maxHeartbeats 400000 in
theorem vStart (v : Nat) (commits turn next : Nat) (f : Option Nat) (count : Int) (d : DS) (w : World) (h : IsVol w v (dp d.a) commits turn next f count) (hd : Dev w d) (hn : 16 ≤ d.n) :
    Calls Tryz.prog 80 #[dp v] w fun e w' => e = .returned (.int .i64 ((1 + nbOf d.n : Nat) : Int)) ∧ w' = w := by
  have c9 := vBlocks v commits turn next f count d w h hd hn
  have hle := hd.hn
  have c16 := homeOf_any (nbOf d.n) w (by unfold nbOf; omega)
  clear h hd
  go_enter Tryz.func80, Tryz.ntmps80
  go_wp2_with (first | (go_at_call 98; refine Calls_on c9 ?_) | (go_at_call 97; refine Calls_on c16 ?_))
  go_ret
  exact ⟨rfl, rfl⟩

set_option maxRecDepth 8000 in
set_option maxHeartbeats 400000 in
theorem checkRoom_yes (v : Nat) (commits turn next : Nat) (f : Option Nat) (count : Int) (d : DS) (w : World) (h : IsVol w v (dp d.a) commits turn next f count) (hd : Dev w d) (hn : 16 ≤ d.n) :
    Calls Tryz.prog 50 #[dp v] w fun e w' => e = .returned (.int .i64 0) ∧ w' = w := by
  have c31 := dev_blocks d w hd
  have h0 := cellOf h 0
  simp [volCells] at h0
  have hnI : ¬ (d.n : Int) < 16 := by omega
  clear h hd
  go_enter Tryz.func50, Tryz.ntmps50
  go_wp2_with (go_at_call 69; refine Calls_on c31 ?_)
  go_ret
  exact ⟨rfl, rfl⟩

set_option maxRecDepth 8000 in
set_option maxHeartbeats 400000 in
theorem checkLife (v : Nat) (commits turn next : Nat) (f : Option Nat) (count : Int) (d : DS) (w : World) (h : IsVol w v (dp d.a) commits turn next f count) (hd : Dev w d) :
    Calls Tryz.prog 55 #[dp v] w fun e w' => e = .returned (.int .i64 (if d.dead then 5 else 0)) ∧ w' = w := by
  have c36 := dev_dead d w hd
  have h0 := cellOf h 0
  simp [volCells] at h0
  clear h hd
  cases hx : d.dead
  · rw [hx] at c36
    clear hx
    go_enter Tryz.func55, Tryz.ntmps55
    go_wp2_with (go_at_call 71; refine Calls_on c36 ?_)
    go_ret
    exact ⟨rfl, rfl⟩
  · rw [hx] at c36
    clear hx
    go_enter Tryz.func55, Tryz.ntmps55
    go_wp2_with (go_at_call 71; refine Calls_on c36 ?_)
    go_ret
    exact ⟨rfl, rfl⟩

theorem Dev.drewN {w : World} {d : DS} (h : Dev w d) : ∀ k, Dev (w.drewN k) d := fun _ => ⟨h.dev, h.row, h.own, h.aNs, h.hn1, h.hn, h.len, h.cnt, h.nnc, h.fuse⟩

set_option maxRecDepth 8000 in
set_option maxHeartbeats 400000 in
theorem catchUp_idle (v : Nat) (commits turn next : Nat) (f : Option Nat) (d : DS) (w : World) (h : IsVol w v (dp d.a) commits turn next f d.count) (hd : Dev w d) :
    Calls Tryz.prog 123 #[dp v] w fun e w' => e = .returned (.tuple #[]) ∧ ∃ k, w' = w.drewN k := by
  have c23 := fun k => dev_count d (w.drewN k) (hd.drewN k)
  have h0 := cellOf h 0
  have h5 := cellOf h 5
  simp [volCells] at h0 h5
  have hq : (d.count == d.count) = true := by simp
  clear h hd
  go_enter Tryz.func123, Tryz.ntmps123
  go_wp2_with fail
  go_quiet ((go_at_call 59; exact Calls.quiet_of_same (c23 _)))
  go_wp2
  first | go_end0 | refine bodyPost_ret (results_none rfl _ _ _) rfl ?_
  exact ⟨rfl, _, rfl⟩

set_option maxRecDepth 8000 in
set_option maxHeartbeats 400000 in
theorem isCount_yes (n : Nat) (w : World) (hn : n < 4611686018427387904) : Calls Tryz.prog 78 #[.int .i64 n] w fun e w' => e = .returned (.bool true) ∧ w' = w := by
  have h1 : ¬ (n : Int) < 0 := by omega
  have h2 : (n : Int) < 4611686018427387904 := by omega
  go_enter Tryz.func78, Tryz.ntmps78
  go_wp2
  go_ret
  exact ⟨rfl, rfl⟩

set_option maxRecDepth 8000 in
set_option maxHeartbeats 400000 in
theorem pagesFor_any (k : Nat) (w : World) (hk : k < 1000000000) : Calls Tryz.prog 100 #[.int .i64 k] w fun e w' => e = .returned (.int .i64 (pagesFor k)) ∧ w' = w := by
  obtain ⟨q, hq⟩ : ∃ q, pagesFor k = q := ⟨_, rfl⟩
  have e1 : (8 + (k : Int) * 520 + 496 - 1) / 496 = (q : Int) := by rw [← hq]; unfold pagesFor; omega
  have e2 : Int.tdiv (8 + (k : Int) * 520 + 496 - 1) 496 = (q : Int) := by rw [Int.tdiv_eq_ediv_of_nonneg (by omega)]; exact e1
  rw [hq]
  go_enter Tryz.func100, Tryz.ntmps100
  go_wp2
  go_ret
  exact ⟨rfl, rfl⟩

set_option maxRecDepth 8000 in
set_option maxHeartbeats 400000 in
/-- settle where no block is loose. -/
theorem settle_none (v : Nat) (commits turn next : Nat) (f : Option Nat) (count : Int) (d : DS) (w : World) (h : IsVol w v (dp d.a) commits turn next f count) (hd : Dev w d) (hD : d.D = .map []) :
    Calls Tryz.prog 58 #[dp v] w fun e w' => e = .returned (.int .i64 0) ∧ Below w.heap.size w w' := by
  have c44 := dev_loose_none d w hd hD
  have h0 := cellOf h 0
  simp [volCells] at h0
  clear h hd hD
  go_enter Tryz.func58, Tryz.ntmps58
  go_wp2_with (go_at_call 83; refine c44.mono ?_; rintro e w1 ⟨p1, cc1, rfl, hB1⟩; clear c44)
  go_ret
  exact ⟨rfl, hB1⟩

end Go.Proofs.YtebdgcoandfocaaGreatDoor

/-
  inOrder of package wal: steps, in order, until one tells an error; bytes.Equal.
-/
namespace Go.Proofs.YtebdgcoandfocaaGreatDoor
open Go.RowKit Go.Maps Go.Sort Go.Shelf

/-- The text of some bytes. -/
def strOf (bs : By) : ByteArray := strOfNums (bs.map fun b => (b.toNat : Int))

theorem run_str (W : World) (p : Option Addr) (bs : By) (c : Nat) (h : Bytes W p bs) :
    (convert 30 9 (.slice p bs.length c)).run Tryz.prog W = .ok (.string (strOf bs)) W := by
  by_cases hl : 0 < bs.length
  · obtain ⟨g, o, rfl, hx⟩ := h hl
    refine run_convert_bytes_arg W 30 5 Tryz.underlying30 Tryz.underlying5 g o bs.length c (bs.map fun b => (b.toNat : Int)) (by simp) (fun i hi => ?_) 9 Tryz.underlying9
    rw [hx i bs[i] (List.getElem?_eq_getElem hi)]
    simp [u8v, hi]
  · have h0 : bs = [] := List.eq_nil_of_length_eq_zero (by omega)
    subst h0
    rcases p with _ | ad
    · exact run_convert_bytes_nil W 30 5 Tryz.underlying30 Tryz.underlying5 0 c 9 Tryz.underlying9
    · have hl0 : (loadCells ad 0).run Tryz.prog W = .ok #[] W := by
        have := run_loadCells_list (P := Tryz.prog) W ad [] (fun j v hj => by simp at hj)
        simpa using this
      show (convert 30 9 (.slice (some ad) 0 c)).run Tryz.prog W = _
      rw [run_convert_bytes_string W 30 9 5 _ 0 c Tryz.underlying30 Tryz.underlying5 Tryz.underlying9]
      simp [Conv.bytesToString, hl0]
      rfl

theorem strOf_cells (bs : List (BitVec 8)) : Lib.strCells (strOf bs) = bs.map u8v := by
  unfold Lib.strCells strOf strOfNums
  simp only [List.map_map]
  apply List.ext_getElem
  · simp
  · intro i h1 h2
    simp at h2
    simp [u8v]
theorem strOf_size (bs : List (BitVec 8)) : (strOf bs).size = bs.length := by
  rw [← Lib.strCells_length, strOf_cells, List.length_map]

theorem wpList_append_text {W : World} {ops : Array Oper} {rest : List Oper} {o : Oper} {a : Act} {Q : Exit → Act → World → Prop} (hgd : o.guard = none) (s x : Operand)
    (ho : o.op = .call { callee := .builtin .append, args := #[s, x], argTypes := #[30, 9] })
    (base : Nat) (v : Value) (n : Nat) (xs : List Value) (hs : a.eval s = v) (hown : W.ownsRow base 5 1 v n xs)
    (bs : List (BitVec 8)) (hx : a.eval x = .string (strOf bs)) (h63 : n + bs.length ≤ 1099511627776) (hbase : base ≤ W.heap.size)
    (h : ∀ v' w', w'.ownsRow base 5 1 v' (n + bs.length) (xs ++ bs.map u8v) → W.grownBy w' v.ownBlock → wpList Tryz.prog ops Q rest (a.put o.dst v') w') :
    wpList Tryz.prog ops Q (o :: rest) a W := by
  refine wpList_plain hgd fun K hK => ?_
  obtain ⟨i0, hi0, hz0, hz1, hz2⟩ := info_parts Tryz.info5
  have hsz := strOf_size bs
  obtain ⟨v', w', hr, h2, h3, _⟩ := Lib.run_append_own_string (P := Tryz.prog) W base 30 9 o.type 5 i0 Tryz.underlying30 Tryz.underlying9 hi0 hz0 hz1 hz2 v n xs hown (strOf bs) (by unfold maxLen; omega) (by omega) hbase
  rw [hsz, strOf_cells] at h2
  unfold Oper.wp execOp
  simp only [ho, resolve, invoke, builtin, Sem.run_bind, Sem.run_pure, Result.andThen_ok, List.map_toArray, List.map_cons, List.map_nil, hs, hx, hr]
  exact hK _ _ (h v' w' h2 h3)

theorem u8v_inj {x y : BitVec 8} (h : u8v x = u8v y) : x = y := by
  unfold u8v at h
  simp only [Value.int.injEq, true_and] at h
  exact BitVec.eq_of_toNat_eq (by omega)
theorem map_u8v_inj : ∀ {xs ys : By}, xs.map u8v = ys.map u8v → xs = ys
  | [], [], _ => rfl
  | [], _ :: _, h => by simp at h
  | _ :: _, [], h => by simp at h
  | x :: xs, y :: ys, h => by
    simp only [List.map_cons, List.cons.injEq] at h
    rw [u8v_inj h.1, map_u8v_inj h.2]
theorem strOf_inj {xs ys : By} (h : strOf xs = strOf ys) : xs = ys := by
  have := congrArg Lib.strCells h
  rw [strOf_cells, strOf_cells] at this
  exact map_u8v_inj this

theorem loop_eq (bs : ByteArray) (i : Nat) (r : List UInt8) : ByteArray.toList.loop bs i r = r.reverse ++ bs.data.toList.drop i := by
  unfold ByteArray.toList.loop
  split
  · rename_i h
    rw [loop_eq bs (i + 1) _]
    have hd : i < bs.data.toList.length := by simpa using h
    rw [List.drop_eq_getElem_cons hd]
    have hg : bs.get! i = bs.data.toList[i] := by
      have h' : i < bs.data.size := by simpa using h
      show bs.data[i]! = _
      rw [getElem!_pos bs.data i h']
      simp
    rw [hg]
    simp
  · rename_i h
    have hd : bs.data.toList.length ≤ i := by simpa using h
    rw [List.drop_of_length_le hd]
    simp
termination_by bs.size - i
theorem toList_data (bs : ByteArray) : bs.toList = bs.data.toList := by
  show ByteArray.toList.loop bs 0 [] = _
  rw [loop_eq]; simp

theorem str_eq (xs ys : By) : ((strOf xs).toList == (strOf ys).toList) = decide (xs = ys) := by
  by_cases h : xs = ys
  · subst h; simp
  · have hs : ¬ (strOf xs).toList = (strOf ys).toList := fun e => h (strOf_inj (by
      rw [toList_data, toList_data] at e
      have e' : (strOf xs).data = (strOf ys).data := Array.toList_inj.1 e
      cases hx : strOf xs; cases hy : strOf ys
      rw [hx, hy] at e'
      simpa using e'))
    simp [h, hs]

set_option maxRecDepth 8000 in
set_option maxHeartbeats 400000 in
theorem equal_any (p q : Option Addr) (xs ys : By) (c c' : Nat) (w : World) (hx : Bytes w p xs) (hy : Bytes w q ys) :
    Calls Tryz.prog 79 #[.slice p xs.length c, .slice q ys.length c'] w fun e w' => e = .returned (.bool (decide (xs = ys))) ∧ w' = w := by
  have r1 := run_str w p xs c hx
  have r2 := run_str w q ys c' hy
  have HQ : Hid (((strOf xs).toList == (strOf ys).toList) = decide (xs = ys)) := str_eq xs ys
  generalize strOf xs = sx at *
  generalize strOf ys = sy at *
  generalize decide (xs = ys) = dd at *
  clear hx hy
  go_enter Tryz.func79, Tryz.ntmps79
  go_wp2
  go_ret
  exact ⟨by rw [← HQ.out]; rfl, rfl⟩

/-- The steps, in order, until one tells an error; none of them turns block g. -/
def Runs (P : Program) (g : Nat) : List (Nat × Value) → World → (Int → World → Prop) → Prop
  | [], w, Q => Q 0 w
  | (K, r) :: fs, w, Q => Calls P K #[r] w fun e w' => ∃ z : Int, e = .returned (.int .i64 z) ∧ w'.heap[g]? = w.heap[g]? ∧ ((z ≠ 0 ∧ Q z w') ∨ (z = 0 ∧ Runs P g fs w' Q))

/-- A step as a value. -/
def stepV (x : Nat × Value) : Value := .func (.func x.1) #[x.2] #[]

set_option maxRecDepth 8000 in
set_option maxHeartbeats 1000000 in
theorem inOrder_any (g : Nat) (fs : List (Nat × Value)) (cp : Nat) (w : World) (Q : Int → World → Prop) (hent : ∀ x ∈ fs, ∀ args w, (callFunc x.1 args).run Tryz.prog w = .ok (.enter x.1 args) w)
    (hl : fs.length ≤ 100) (hg : w.heap[g]? = some (.cells (fs.map stepV).toArray 117 (0, 0))) (hr : Runs Tryz.prog g fs w Q) :
    Calls Tryz.prog 49 #[.slice (some ⟨g, 0, none⟩) fs.length cp] w fun e w' => ∃ z : Int, e = .returned (.int .i64 z) ∧ Q z w' := by
  have HE : Hid (∀ x ∈ fs, ∀ args w, (callFunc x.1 args).run Tryz.prog w = .ok (.enter x.1 args) w) := hent
  have HG : Hid (w.heap[g]? = some (.cells (fs.map stepV).toArray 117 (0, 0))) := hg
  have HR : Hid (Runs Tryz.prog g fs w Q) := hr
  clear hent hg hr
  go_enter Tryz.func49, Tryz.ntmps49
  go_wp2_with fail
  go_loopw [8] (fun ii wr => ∃ i : Nat, ii = .int .i64 i ∧ i ≤ fs.length ∧ Hid (wr.heap[g]? = some (.cells (fs.map stepV).toArray 117 (0, 0)) ∧ Runs Tryz.prog g (fs.drop i) wr Q)) (fun ii _ => fs.length - (intOf ii).toNat)
  case atStart => exact ⟨0, rfl, Nat.zero_le _, HG.out, HR.out⟩
  case round =>
    obtain ⟨i, rfl, hi, HJ⟩ := hrel
    by_cases hlt : i < fs.length
    · have hltI : (i : Int) < fs.length := by omega
      obtain ⟨⟨K, r⟩, hx⟩ : ∃ x, fs[i]? = some x := ⟨_, List.getElem?_eq_getElem hlt⟩
      have hx' : fs.drop i = (K, r) :: fs.drop (i + 1) := by
        rw [List.drop_eq_getElem_cons hlt]
        rw [List.getElem?_eq_getElem hlt] at hx
        rw [Option.some.inj hx]
      have c1 : wr.cell? ⟨g, i, none⟩ = some (.func (.func K) #[r] #[]) := by
        rw [cellOf HJ.out.1 i, List.getElem?_toArray, List.getElem?_map, hx]; rfl
      have he := HE.out _ (List.mem_of_getElem? hx)
      have hc := HJ.out.2
      rw [hx'] at hc
      unfold Runs at hc
      clear hx hx'
      go_wp2_with fail
      refine hc.mono ?_
      rintro e w1 ⟨z, rfl, hk, hz⟩
      clear hc c1
      have HK : Hid (w1.heap[g]? = wr.heap[g]?) := hk
      rcases hz with ⟨hz, hQ⟩ | ⟨rfl, hR⟩
      · have hzb : (z != 0) = true := by simpa using hz
        have HQ : Hid (Q z w1) := hQ
        clear hQ hk
        go_wp2
        go_ret
        exact ⟨z, rfl, HQ.out⟩
      · have HR1 : Hid (Runs Tryz.prog g (fs.drop (i + 1)) w1 Q) := hR
        clear hR hk
        go_wp2
        go_roundw
        case rel => exact ⟨i + 1, by go_num, by omega, HK.out.trans HJ.out.1, HR1.out⟩
        case measure => simp [intOf]; omega
    · obtain rfl : i = fs.length := by omega
      have hQ := HJ.out.2
      rw [List.drop_length] at hQ
      have HQ : Hid (Q 0 wr) := hQ
      clear hQ
      go_wp2
      go_ret
      exact ⟨0, rfl, HQ.out⟩

end Go.Proofs.YtebdgcoandfocaaGreatDoor

/-
  The head of a volume: head and writeHead of package wal.
-/
namespace Go.Proofs.YtebdgcoandfocaaGreatDoor
open Go.RowKit Go.Maps Go.Sort Go.Shelf

theorem mark_str : strOf mark = ⟨#[108, 97, 103, 111, 111, 110, 58, 32, 97, 32, 118, 111, 108, 117, 109, 101, 32, 111, 102, 32, 98, 108, 111, 99, 107, 115]⟩ := by decide

set_option maxRecDepth 8000 in
set_option maxHeartbeats 1000000 in
theorem head_any (v : Nat) (commits turn next : Nat) (f : Option Nat) (count : Int) (d : DS) (w : World) (h : IsVol w v (dp d.a) commits turn next f count) (hd : Dev w d) (ht : Tab w)
    (hc : commits < 4611686018427387904) (htu : turn < 4611686018427387904) :
    Calls Tryz.prog 74 #[dp v] w fun e w' => ∃ g, e = .returned (.slice (some ⟨g, 0, none⟩) 512 512) ∧ w.heap.size ≤ g ∧
      w'.heap[g]? = some (.cells ((headB turn commits d.n).map u8v).toArray 5 (0, 0)) ∧ Below w.heap.size w w' := by
  have hn := hd.hn
  have HT : Hid (Tab w) := ht
  have HD : Hid (Dev w d) := hd
  have HV : Hid (IsVol w v (dp d.a) commits turn next f count) := h
  have h2 := cellOf h 2
  simp [volCells] at h2
  have c54a := appendNumber_any (.slice none 0 0) 0 [] turn w.heap.size w (World.ownsRow_nil _ _ _ _) (by omega) htu (Nat.le_refl _)
  clear h hd ht
  go_enter Tryz.func74, Tryz.ntmps74
  go_wp2_with fail
  refine c54a.mono ?_
  rintro e w1 ⟨v1, rfl, hr1, hB1⟩
  clear c54a h2
  have h1 := cellOf (HV.out.below hB1) 1
  simp [volCells] at h1
  have c54b := appendNumber_any v1 8 (le8 turn) commits w.heap.size w1 hr1 (by omega) hc hB1.size
  clear hr1
  go_wp2_with fail
  refine c54b.mono ?_
  rintro e w2 ⟨v2, rfl, hr2, hB2'⟩
  have hB2 := hB1.trans hB2'
  clear c54b h1 hB1 hB2'
  have h0 := cellOf (HV.out.below hB2) 0
  simp [volCells] at h0
  have c31 := dev_blocks d w2 (HD.out.below hB2)
  have c54c := appendNumber_any v2 16 (le8 turn ++ le8 commits) d.n w.heap.size w2 hr2 (by omega) (by omega) hB2.size
  clear hr2
  go_wp2_with (first | (go_at_call 69; refine Calls_on c31 ?_; clear c31) | (go_at_call 94; refine c54c.mono ?_; rintro e w3 ⟨v3, rfl, hr3, hB3'⟩; clear c54c; refine Stop.out ?_))
  refine Stop.mk ?_
  have hB3 := hB2.trans hB3'
  clear hB2 hB3' h0
  obtain ⟨g3, cap3, rfl, _⟩ := hr3.form (by omega)
  have HR3 : Hid (w3.ownsRow w.heap.size 5 1 (.slice (some ⟨g3, 0, none⟩) 24 cap3) 24 ((le8 turn ++ le8 commits ++ le8 d.n).map u8v)) := hr3
  have HB3 : Hid (Below w.heap.size w w3) := hB3
  clear hr3 hB3
  have hms := mark_str
  go_wp2_with (at_builtin; refine wpList_append_text rfl _ _ rfl w.heap.size _ 24 _ rfl HR3.out mark (by rw [hms]; rfl) (by decide) HB3.out.size ?_; intro v4 w4 hr4 hg4; refine Stop.out ?_)
  refine Stop.mk ?_
  have hB4 : Below w.heap.size w w4 := HB3.out.grown hg4 HB3.out.size (by intro k hk; exact owns_block HR3.out k hk)
  rw [← List.map_append] at hr4
  obtain ⟨g4, cap4, rfl, hg4', hb4⟩ := owns_bytes hr4 (by simp [mark])
  have c56 := seal_any (some ⟨g4, 0, none⟩) (headC turn commits d.n) cap4 w4 (below_tab hB4 HT.out.lt HT.out) (by rw [headC_length]; omega) (by
    have e : headC turn commits d.n = le8 turn ++ le8 commits ++ le8 d.n ++ mark := by simp [headC]
    rw [e]; exact hb4)
  rw [headC_length] at c56
  have HB4 : Hid (Below w.heap.size w w4) := hB4
  clear hr4 hb4 hB4 hg4
  show wpList Tryz.prog _ _ _ { tmps := _, defers := _ } w4
  go_wp2_with (go_at_call 95; refine c56.mono ?_; rintro e w5 ⟨g5, rfl, hg5, hb5, hB5⟩; clear c56)
  go_ret
  exact ⟨g5, rfl, Nat.le_trans HB4.out.size hg5, hb5, HB4.out.trans (hB5.mono HB4.out.size)⟩

/-- writeHead: the head is block 0. -/
theorem below_block {w w' : World} {g : Nat} {o : Obj} (h : w.heap[g]? = some o) (hb : Below w.heap.size w w') : w'.heap[g]? = some o := (hb.block g (Array.getElem?_eq_some_iff.1 h).1).trans h

set_option maxRecDepth 8000 in
set_option maxHeartbeats 1000000 in
theorem writeHead_any (v : Nat) (commits turn next : Nat) (f : Option Nat) (count : Int) (d : DS) (w : World) (h : IsVol w v (dp d.a) commits turn next f count) (hd : Dev w d) (ht : Tab w)
    (hc : commits < 4611686018427387904) (htu : turn < 4611686018427387904) (hdd : d.dead = false) (hcnt : d.count < 1000000000) :
    Calls Tryz.prog 54 #[dp v] w fun e w' => e = .returned (.int .i64 0) ∧ But d.mine w w' ∧ ∃ p, Holds512 w' p ((d.B 0).map u8v) ∧ Dev w' (d.wrote 0 (headB turn commits d.n) (loosened d.D 0 p)) := by
  have hn1 := hd.hn1
  have SOf : ∀ W, Below w.heap.size w W → W.cell? ⟨v, 0, none⟩ = some (dp d.a) ∧ Below w.heap.size w W := fun W hB => ⟨by have := cellOf (h.below hB) 0; simpa [volCells] using this, hB⟩
  have cH : ∀ W, (W.cell? ⟨v, 0, none⟩ = some (dp d.a) ∧ Below w.heap.size w W) → Calls Tryz.prog 74 #[dp v] W fun e w' => ∃ g, e = .returned (.slice (some ⟨g, 0, none⟩) 512 512) ∧
      w'.heap[g]? = some (.cells ((headB turn commits d.n).map u8v).toArray 5 (0, 0)) ∧ Below w.heap.size w w' := by
    rintro W ⟨_, hB⟩
    refine (head_any v commits turn next f count d W (h.below hB) (hd.below hB) (below_tab hB ht.lt ht) hc htu).mono ?_
    rintro e w' ⟨g, rfl, _, hg, hB'⟩
    exact ⟨g, rfl, hg, hB.trans (hB'.mono hB.size)⟩
  have cW : ∀ g W, (W.cell? ⟨v, 0, none⟩ = some (dp d.a) ∧ Below w.heap.size w W) → W.heap[g]? = some (.cells ((headB turn commits d.n).map u8v).toArray 5 (0, 0)) →
      Calls Tryz.prog 73 #[dp d.a, .int .i64 0, .slice (some ⟨g, 0, none⟩) 512 512] W fun e w' => e = .returned (.int .i64 0) ∧ But d.mine w w' ∧ ∃ p, Holds512 w' p ((d.B 0).map u8v) ∧ Dev w' (d.wrote 0 (headB turn commits d.n) (loosened d.D 0 p)) := by
    rintro g W ⟨_, hB⟩ hg
    refine (dev_write d 0 (headB turn commits d.n) g 0 512 W (hd.below hB) (by omega) (headB_length _ _ _) (bytes_block hg) hdd hcnt).mono ?_
    rintro e w' ⟨rfl, hbut, p, hp, hdv⟩
    exact ⟨rfl, (But.of_below hB).trans hbut, p, hp, hdv⟩
  clear h hd ht
  go_enter Tryz.func54, Tryz.ntmps54
  go_wp2_with fail
  have S0 := SOf w.drew (Below.refl _ _).drew
  go_region_with (first
    | (go_at_call 74; refine (cH _ S0).mono ?_; rintro e W1 ⟨g, rfl, hg, hB1⟩; have S1 := SOf _ hB1)
    | (go_at_call 73; refine (cW _ _ S1 hg).mono ?_; rintro e W2 ⟨rfl, hbut2, p2, hp2, hdv2⟩))
  all_goals go_wp2
  all_goals go_ret
  all_goals exact ⟨rfl, hbut2, p2, hp2, hdv2⟩

end Go.Proofs.YtebdgcoandfocaaGreatDoor

/-
  erase of package wal, where all is zeros already; and its two callers.
-/
namespace Go.Proofs.YtebdgcoandfocaaGreatDoor
open Go.RowKit Go.Maps Go.Sort Go.Shelf

set_option maxRecDepth 8000 in
set_option maxHeartbeats 1000000 in
theorem erase_zeros (frm to : Nat) (v : Nat) (commits turn next : Nat) (f : Option Nat) (count : Int) (d : DS) (w : World) (h : IsVol w v (dp d.a) commits turn next f count) (hd : Dev w d)
    (hto : to ≤ d.n) (hft : frm ≤ to) (hz : ∀ i, i < d.n → d.B i = zeroB) :
    Calls Tryz.prog 70 #[dp v, .int .i64 frm, .int .i64 to] w fun e w' => e = .returned (.int .i64 0) ∧ Below w.heap.size w w' := by
  obtain ⟨i0, hi0, hz0, hz1, hz2⟩ := info_parts Tryz.info5
  have hn := hd.hn
  have HV : Hid (IsVol w v (dp d.a) commits turn next f count) := h
  have HD : Hid (Dev w d) := hd
  have HZ : Hid (∀ i, i < d.n → d.B i = zeroB) := hz
  clear h hd hz
  go_enter Tryz.func70, Tryz.ntmps70
  go_wp2_with (at_make; refine wpList_make_full _ rfl _ _ 30 rfl 0 5 i0 (.int .u8 0) 1 Tryz.underlying30 hi0 hz0 hz1 .i64 .i64 _ _ 512 rfl rfl rfl rfl (by rw [hz2]; omega) (by unfold maxLen; omega) (Nat.zero_le _) ?_; intro w1 hrow hg1; have hrep : Hid (w1.heap[w.heap.size]? = some (.cells (zeroB.map u8v).toArray 5 (0, 0))) := by { have := made_zeros hrow; rw [← zeros_bytes] at this; exact this }; have HB1 : Hid (Below w.heap.size w w1) := (Below.refl _ w).grown hg1 (Nat.le_refl _) (by simp); clear hrow hg1)
  go_loopw [8] (fun ii wr => ∃ i : Nat, frm ≤ i ∧ i ≤ to ∧ ii = .int .i64 i ∧ Hid (Below w.heap.size w wr ∧ wr.heap[w.heap.size]? = some (.cells (zeroB.map u8v).toArray 5 (0, 0)))) (fun ii _ => to - (intOf ii).toNat)
  case atStart => exact ⟨frm, Nat.le_refl _, hft, rfl, HB1.out, hrep.out⟩
  case round =>
    obtain ⟨i, hfi, hi, rfl, HJ⟩ := hrel
    by_cases hlt : i < to
    · have hltI : (i : Int) < to := by omega
      obtain ⟨hB, hzz⟩ := HJ.out
      have c0 := cellOf (HV.out.below hB) 0
      simp [volCells] at c0
      have c15 := dev_read d i wr (HD.out.below hB) (by omega)
      rw [HZ.out i (by omega)] at c15
      have c40 : ∀ w2 : World, w2.heap[wr.heap.size]? = some (.cells (zeroB.map u8v).toArray 5 (0, 0)) → Below wr.heap.size wr w2 → Calls Tryz.prog 79 #[.slice (some ⟨wr.heap.size, 0, none⟩) 512 512, .slice (some ⟨w.heap.size, 0, none⟩) 512 512] w2 fun e w' => e = .returned (.bool true) ∧ w' = w2 := by
        intro w2 h2 hB2
        have := equal_any (some ⟨wr.heap.size, 0, none⟩) (some ⟨w.heap.size, 0, none⟩) zeroB zeroB 512 512 w2 (bytes_block h2) (bytes_block (below_block hzz hB2))
        rw [zeroB_length, decide_eq_true rfl] at this
        exact this
      clear hB hzz
      go_wp2_with (first
        | (go_at_call 75; refine c15.mono ?_; rintro e w2 ⟨rfl, hg2, hB2⟩; clear c15; have c40' := c40 w2 hg2 hB2; clear c40)
        | (go_at_call 79; refine Calls_on c40' ?_))
      go_roundw
      case rel => exact ⟨i + 1, by omega, by omega, by go_num, HJ.out.1.trans (hB2.mono HJ.out.1.size), below_block HJ.out.2 hB2⟩
      case measure => simp [intOf]; omega
    · obtain rfl : i = to := by omega
      go_wp2
      go_ret
      exact ⟨rfl, HJ.out.1⟩

set_option maxRecDepth 8000 in
set_option maxHeartbeats 400000 in
theorem eraseHead_zeros (v : Nat) (commits turn next : Nat) (f : Option Nat) (count : Int) (d : DS) (w : World) (h : IsVol w v (dp d.a) commits turn next f count) (hd : Dev w d) (hz : ∀ i, i < d.n → d.B i = zeroB) :
    Calls Tryz.prog 51 #[dp v] w fun e w' => e = .returned (.int .i64 0) ∧ Below w.heap.size w w' := by
  have c58 := erase_zeros 0 1 v commits turn next f count d w h hd hd.hn1 (by omega) hz
  clear h hd hz
  go_enter Tryz.func51, Tryz.ntmps51
  go_wp2_with (go_at_call 70; refine (show Calls Tryz.prog 70 #[dp v, .int .i64 0, .int .i64 1] _ _ from c58).mono ?_; rintro e w1 ⟨rfl, hB1⟩; clear c58)
  go_ret
  exact ⟨rfl, hB1⟩

set_option maxRecDepth 8000 in
set_option maxHeartbeats 400000 in
theorem eraseRest_zeros (v : Nat) (commits turn next : Nat) (f : Option Nat) (count : Int) (d : DS) (w : World) (h : IsVol w v (dp d.a) commits turn next f count) (hd : Dev w d) (hz : ∀ i, i < d.n → d.B i = zeroB) :
    Calls Tryz.prog 53 #[dp v] w fun e w' => e = .returned (.int .i64 0) ∧ Below w.heap.size w w' := by
  have c58 := erase_zeros 1 d.n v commits turn next f count d w h hd (Nat.le_refl _) hd.hn1 hz
  have c31 := dev_blocks d w hd
  have c0 := cellOf h 0
  simp [volCells] at c0
  clear h hd hz
  go_enter Tryz.func53, Tryz.ntmps53
  go_wp2_with (first
    | (go_at_call 69; refine Calls_on c31 ?_)
    | (go_at_call 70; refine (show Calls Tryz.prog 70 #[dp v, .int .i64 1, .int .i64 d.n] _ _ from c58).mono ?_; rintro e w1 ⟨rfl, hB1⟩; clear c58))
  go_ret
  exact ⟨rfl, hB1⟩

end Go.Proofs.YtebdgcoandfocaaGreatDoor

/-
  Format of package wal: of no device, of a small one, of one of zeros.
-/
namespace Go.Proofs.YtebdgcoandfocaaGreatDoor
open Go.RowKit Go.Maps Go.Sort Go.Shelf

theorem mkf (fn : Fn) (first cap : Array Value) (w : World) : (Instr.makeFunc fn first cap).run Tryz.prog w = .ok (.func fn first cap) w := rfl

/-- A later state of the same device. -/
structure Near (w : World) (d d' : DS) : Prop where
  a : d'.a = d.a
  s : d'.s = d.s
  m : d'.m = d.m ∨ w.heap.size ≤ d'.m
theorem Near.refl (w : World) (d : DS) : Near w d d := ⟨rfl, rfl, .inl rfl⟩
theorem Near.but {w w1 w2 : World} {d d' : DS} (hn : Near w d d') (h : But d.mine w w1) (h' : But d'.mine w1 w2) : But d.mine w w2 := by
  refine ⟨h'.os.trans h.os, h'.tape.trans h.tape, h'.output.trans h.output, Nat.le_trans h.size h'.size, fun k hk hm => (h'.block k (Nat.lt_of_lt_of_le hk h.size) ?_).trans (h.block k hk hm)⟩
  rintro (e | e | e)
  · exact hm (.inl (e.trans hn.a))
  · exact hm (.inr (.inl (e.trans hn.s)))
  · rcases hn.m with h1 | h1
    · exact hm (.inr (.inr (e.trans h1)))
    · omega
theorem Near.trans {w w1 : World} {d d' d'' : DS} (h : Near w d d') (h' : Near w1 d' d'') (hs : w.heap.size ≤ w1.heap.size) : Near w d d'' := by
  refine ⟨h'.a.trans h.a, h'.s.trans h.s, ?_⟩
  rcases h'.m with e | e
  · rcases h.m with e' | e'
    · exact .inl (e.trans e')
    · exact .inr (by omega)
  · exact .inr (by omega)

/-- A block of steps is none of the device's. -/
theorem keep_steps {w w' : World} {d : DS} {g : Nat} {l : Array Value} (hg : w.heap[g]? = some (.cells l 117 (0, 0))) (hd : Dev w d) (hb : But d.mine w w') : w'.heap[g]? = w.heap[g]? :=
  hb.block g (Array.getElem?_eq_some_iff.1 hg).1 (hd.other hg (by decide) (by decide))

theorem new_vol (w : World) (o : Obj) (dv : Value) (commits turn next : Nat) (f : Option Nat) (count : Int) : IsVol ((w.alloc (.cells (volCells dv commits turn next f count) 115)).alloc o) w.heap.size dv commits turn next f count :=
  (Below.heap_alloc _ _ _ (by simp)).trans (heap_alloc_new w _)

theorem Dev.noTab {w : World} {d : DS} (h : Dev w d) (ht : Tab w) : ¬ d.mine 0 := by
  have h0 := ht 0 0 rfl
  have lt := ht.lt
  rintro (e | e | e)
  · have hx := h.dev
    rw [← e] at hx
    have := cellOf hx 0
    rw [h0] at this
    simp [devCells] at this
  · obtain ⟨cur, hr, hc, hx⟩ := h.row
    rw [← e] at hr
    obtain ⟨p, hp, _⟩ := hx 0 h.hn1
    have := cellOf hr 0
    rw [h0, hp] at this
    simp at this
  · obtain ⟨es, clock, hm, _⟩ := h.own
    rw [← e] at hm
    simp [World.cell?, hm] at h0
theorem But.tab {S : Nat → Prop} {w w' : World} (hb : But S w w') (ht : Tab w) (h0 : ¬ S 0) : Tab w' := fun k z hk =>
  (World.cell?_of_block (w := w) (hb.block 0 ht.lt h0)).trans (ht k z hk)

/-- Format is its steps. -/
theorem format_steps (dv : Value) (p : Option Addr) (hdv : dv = .pointer p) (w : World) (Q : Int → World → Prop)
    (fs : List (Nat × Value)) (hfs : fs = [(50, dp w.heap.size), (51, dp w.heap.size), (52, dv), (53, dp w.heap.size), (52, dv), (54, dp w.heap.size), (52, dv)])
    (hr : Runs Tryz.prog (w.heap.size + 1) fs ((w.alloc (.cells (volCells dv 0 1 0 none 0) 115)).alloc (.cells (fs.map stepV).toArray 117)) Q) :
    Calls Tryz.prog 35 #[dv] w fun e w' => ∃ z : Int, e = .returned (.int .i64 z) ∧ Q z w' := by
  have hent : ∀ x ∈ fs, ∀ args w, (callFunc x.1 args).run Tryz.prog w = .ok (.enter x.1 args) w := by
    subst hfs
    intro x hx
    simp only [List.mem_cons, List.not_mem_nil, or_false] at hx
    rcases hx with rfl | rfl | rfl | rfl | rfl | rfl | rfl
    · exact enters_of Tryz.func50 (by kernel_rfl) rfl
    · exact enters_of Tryz.func51 (by kernel_rfl) rfl
    · exact enters_of Tryz.func52 (by kernel_rfl) rfl
    · exact enters_of Tryz.func53 (by kernel_rfl) rfl
    · exact enters_of Tryz.func52 (by kernel_rfl) rfl
    · exact enters_of Tryz.func54 (by kernel_rfl) rfl
    · exact enters_of Tryz.func52 (by kernel_rfl) rfl
  have hc := inOrder_any (w.heap.size + 1) fs 7 _ Q hent (by rw [hfs]; simp) (by
    have := heap_alloc_new (w.alloc (.cells (volCells dv 0 1 0 none 0) 115)) (.cells (fs.map stepV).toArray 117)
    rw [World.size_alloc] at this
    exact this) hr
  have hl : fs.length = 7 := by rw [hfs]; rfl
  have hcell : (fs.map stepV).toArray = #[.func (.func 50) #[dp w.heap.size] #[], .func (.func 51) #[dp w.heap.size] #[], .func (.func 52) #[dv] #[], .func (.func 53) #[dp w.heap.size] #[], .func (.func 52) #[dv] #[], .func (.func 54) #[dp w.heap.size] #[], .func (.func 52) #[dv] #[]] := by rw [hfs]; rfl
  rw [hl, hcell] at hc
  clear hr hent hfs hl hcell
  subst hdv
  have hmf := mkf
  go_enter Tryz.func35, Tryz.ntmps35
  go_wp2_with (go_at_call 49; refine (show Calls Tryz.prog 49 _ _ _ from hc).mono ?_; rintro e w1 ⟨z, rfl, hQ⟩; clear hc)
  go_ret
  exact ⟨z, rfl, hQ⟩

/-- The device lives for k more steps. -/
def DS.lives (d : DS) (k : Int) : Prop := d.fused = true → k ≤ d.left
theorem DS.lives.alive {d : DS} {k : Int} (h : d.lives k) (hk : 1 ≤ k) : d.dead = false := by
  unfold DS.dead
  cases hf : d.fused
  · rfl
  · have := h hf; simp; omega
theorem DS.lives.flushed {d : DS} {k : Int} (h : d.lives (k + 1)) (m : Nat) : (d.flushed m).lives k := by
  intro hf
  have hf' : d.fused = true := hf
  have := h hf'
  simp [DS.flushed, stepped, hf']; omega
theorem DS.lives.wrote {d : DS} {k : Int} (h : d.lives (k + 1)) (i : Nat) (l : By) (D : DataW Value) : (d.wrote i l D).lives k := by
  intro hf
  have hf' : d.fused = true := hf
  have := h hf'
  simp [DS.wrote, stepped, hf']; omega

theorem Near.flushed {w : World} {d : DS} {m : Nat} (h : w.heap.size ≤ m) : Near w d (d.flushed m) := ⟨rfl, rfl, .inr h⟩
theorem Near.wrote (w : World) (d : DS) (i : Nat) (l : By) (D : DataW Value) : Near w d (d.wrote i l D) := ⟨rfl, rfl, .inl rfl⟩

/-- Format of a device of zeros that lives on. -/
theorem format_ok (d : DS) (w : World) (hd : Dev w d) (ht : Tab w) (hn : 16 ≤ d.n) (hz : ∀ i, i < d.n → d.B i = zeroB) (hl : d.lives 4) (hc : d.count < 900000000) :
    Calls Tryz.prog 35 #[dp d.a] w fun e w' => ∃ d', e = .returned (.int .i64 0) ∧ But d.mine w w' ∧ Near w d d' ∧ Dev w' d' ∧ d'.n = d.n ∧ d'.D = .map [] ∧ d'.B = upd d.B 0 (headB 1 0 d.n) ∧ d'.count = d.count + 4 ∧ d'.fused = d.fused := by
  refine (format_steps (dp d.a) _ rfl w (fun z w' => z = 0 ∧ ∃ d', But d.mine w w' ∧ Near w d d' ∧ Dev w' d' ∧ d'.n = d.n ∧ d'.D = .map [] ∧ d'.B = upd d.B 0 (headB 1 0 d.n) ∧ d'.count = d.count + 4 ∧ d'.fused = d.fused) _ rfl ?_).mono (by rintro e w' ⟨z, rfl, rfl, d', hB⟩; exact ⟨d', rfl, hB⟩)
  obtain ⟨w0, hw0⟩ : ∃ w0, w0 = (w.alloc (.cells (volCells (dp d.a) 0 1 0 none 0) 115)).alloc (.cells (([(50, dp w.heap.size), (51, dp w.heap.size), (52, dp d.a), (53, dp w.heap.size), (52, dp d.a), (54, dp w.heap.size), (52, dp d.a)] : List (Nat × Value)).map stepV).toArray 117) := ⟨_, rfl⟩
  rw [← hw0]
  have hB0 : Below w.heap.size w w0 := by rw [hw0]; exact ((Below.refl _ w).alloc (Nat.le_refl _) _).alloc (by simp) _
  have hv0 : IsVol w0 w.heap.size (dp d.a) 0 1 0 none 0 := by rw [hw0]; exact new_vol _ _ _ _ _ _ _ _
  obtain ⟨cs, hg0⟩ : ∃ cs, w0.heap[w.heap.size + 1]? = some (.cells cs 117 (0, 0)) := ⟨_, by
    rw [hw0]
    have := heap_alloc_new (w.alloc (.cells (volCells (dp d.a) 0 1 0 none 0) 115)) (.cells (([(50, dp w.heap.size), (51, dp w.heap.size), (52, dp d.a), (53, dp w.heap.size), (52, dp d.a), (54, dp w.heap.size), (52, dp d.a)] : List (Nat × Value)).map stepV).toArray 117)
    rw [World.size_alloc] at this
    exact this⟩
  clear hw0
  have hd0 := hd.below hB0
  refine (checkRoom_yes w.heap.size 0 1 0 none 0 d w0 hv0 hd0 hn).mono ?_
  rintro e w1 ⟨rfl, rfl⟩
  refine ⟨0, rfl, rfl, .inr ⟨rfl, ?_⟩⟩
  refine (eraseHead_zeros w.heap.size 0 1 0 none 0 d w1 hv0 hd0 hz).mono ?_
  rintro e w2 ⟨rfl, hB2⟩
  refine ⟨0, rfl, below_block hg0 hB2 ▸ hg0.symm, .inr ⟨rfl, ?_⟩⟩
  have hg2 := below_block hg0 hB2
  have hv2 := hv0.below hB2
  have hd2 := hd0.below hB2
  have b2 : But d.mine w w2 := But.of_below (hB0.trans (hB2.mono hB0.size))
  refine (dev_flush d w2 hd2 (hl.alive (by omega)) (by omega)).mono ?_
  rintro e w3 ⟨m3, rfl, hm3, hd3, b3⟩
  refine ⟨0, rfl, keep_steps hg2 hd2 b3, .inr ⟨rfl, ?_⟩⟩
  have hg3 := (keep_steps hg2 hd2 b3).trans hg2
  have hv3 := hv2.but b3 (hv2.mine hd2)
  have n3 : Near w d (d.flushed m3) := Near.flushed (Nat.le_trans b2.size hm3)
  have b3' := (Near.refl w d).but b2 b3
  refine (eraseRest_zeros w.heap.size 0 1 0 none 0 (d.flushed m3) w3 hv3 hd3 hz).mono ?_
  rintro e w4 ⟨rfl, hB4⟩
  refine ⟨0, rfl, below_block hg3 hB4 ▸ hg3.symm, .inr ⟨rfl, ?_⟩⟩
  have hg4 := below_block hg3 hB4
  have hv4 := hv3.below hB4
  have hd4 := hd3.below hB4
  have b4 := b3'.trans (But.of_below hB4)
  have l4 : (d.flushed m3).lives 3 := DS.lives.flushed (k := 3) hl m3
  refine (dev_flush (d.flushed m3) w4 hd4 (l4.alive (by omega)) (by simp [DS.flushed]; omega)).mono ?_
  rintro e w5 ⟨m5, rfl, hm5, hd5, b5⟩
  refine ⟨0, rfl, keep_steps hg4 hd4 b5, .inr ⟨rfl, ?_⟩⟩
  have hg5 := (keep_steps hg4 hd4 b5).trans hg4
  have hv5 := hv4.but b5 (hv4.mine hd4)
  have n5 : Near w d ((d.flushed m3).flushed m5) := n3.trans (Near.flushed hm5) b4.size
  have b5' := n3.but b4 b5
  have l5 : ((d.flushed m3).flushed m5).lives 2 := DS.lives.flushed (k := 2) l4 m5
  have ht5 : Tab w5 := b5'.tab ht (hd.noTab ht)
  refine (writeHead_any w.heap.size 0 1 0 none 0 ((d.flushed m3).flushed m5) w5 hv5 hd5 ht5 (by omega) (by omega) (l5.alive (by omega)) (by simp [DS.flushed]; omega)).mono ?_
  rintro e w6 ⟨rfl, b6, p6, hp6, hd6⟩
  refine ⟨0, rfl, keep_steps hg5 hd5 b6, .inr ⟨rfl, ?_⟩⟩
  have n6 := n5.trans (Near.wrote w5 ((d.flushed m3).flushed m5) 0 (headB 1 0 d.n) (loosened ((d.flushed m3).flushed m5).D 0 p6)) b5'.size
  have b6' := n5.but b5' b6
  have l6 := DS.lives.wrote (k := 1) l5 0 (headB 1 0 d.n) (loosened ((d.flushed m3).flushed m5).D 0 p6)
  refine (dev_flush _ w6 hd6 (l6.alive (by omega)) (by simp [DS.flushed, DS.wrote]; omega)).mono ?_
  rintro e w7 ⟨m7, rfl, hm7, hd7, b7⟩
  refine ⟨0, rfl, keep_steps ((keep_steps hg5 hd5 b6).trans hg5) hd6 b7, .inr ⟨rfl, rfl, _, n6.but b6' b7, n6.trans (Near.flushed hm7) b6'.size, hd7, rfl, rfl, rfl, ?_, rfl⟩⟩
  simp [DS.flushed, DS.wrote]; omega

end Go.Proofs.YtebdgcoandfocaaGreatDoor
