/-
  What WalWhole lays in memory: a block of bytes over and over; a row of puts.
-/
import Derived.Test.YtebdgcoandfocaaGreatDoorKWseal
import Derived.Deep.RegionHeld3
import Derived.Maps.AppendAt
import Derived.Test.YtebdgcoandfocaaGreatDoorKDbut
import Derived.BigRegion
import Derived.Test.YtebdgcoandfocaaGreatDoorQWrhome
import Derived.Test.YtebdgcoandfocaaGreatDoorKCsum

/-
  A heap of keys: what a step up and a step down keep.
-/
namespace Go.Proofs.YtebdgcoandfocaaGreatDoor

def par (k : Nat) : Nat := (k - 1) / 2
/-- The keys f of the first n places make a heap. -/
def HeapF (f : Nat → Nat) (n : Nat) : Prop := ∀ k, 0 < k → k < n → f (par k) ≤ f k
/-- But for the way to place j from above. -/
def UpOk (f : Nat → Nat) (n j : Nat) : Prop := (∀ k, 0 < k → k < n → k ≠ j → f (par k) ≤ f k) ∧ ∀ k, 0 < k → k < n → par k = j → 0 < j → f (par j) ≤ f k
/-- But for the ways to and from place i. -/
def FixOk (f : Nat → Nat) (n i : Nat) : Prop := (∀ k, 0 < k → k < n → k ≠ i → par k ≠ i → f (par k) ≤ f k) ∧ ∀ k, 0 < k → k < n → par k = i → 0 < i → f (par i) ≤ f k
/-- Two places' keys change places. -/
def swF (f : Nat → Nat) (i j : Nat) : Nat → Nat := fun k => if k = j then f i else if k = i then f j else f k

theorem par_lt {k : Nat} (h : 0 < k) : par k < k := by unfold par; omega
theorem swF_j (f : Nat → Nat) (i j : Nat) : swF f i j j = f i := by simp [swF]
theorem swF_i (f : Nat → Nat) (i j : Nat) (h : i ≠ j) : swF f i j i = f j := by simp [swF, h]
theorem swF_o (f : Nat → Nat) (i j k : Nat) (h1 : k ≠ i) (h2 : k ≠ j) : swF f i j k = f k := by simp [swF, h1, h2]

theorem UpOk.step {f : Nat → Nat} {n j : Nat} (h : UpOk f n j) (hj : 0 < j) (hn : j < n) (hlt : f j < f (par j)) : UpOk (swF f (par j) j) n (par j) := by
  obtain ⟨h1, h2⟩ := h
  have hp := par_lt hj
  refine ⟨fun k k0 kn ki => ?_, fun k k0 kn kp i0 => ?_⟩
  · by_cases e1 : k = j
    · subst e1
      rw [swF_i _ _ _ (by omega), swF_j]; omega
    · rw [swF_o f _ _ k ki e1]
      by_cases e2 : par k = j
      · rw [e2, swF_j]; exact h2 k k0 kn e2 hj
      · by_cases e3 : par k = par j
        · rw [e3, swF_i _ _ _ (by omega)]
          have := h1 k k0 kn e1
          rw [e3] at this; omega
        · rw [swF_o f _ _ _ e3 e2]; exact h1 k k0 kn e1
  · have hpp := par_lt i0
    rw [swF_o f _ _ (par (par j)) (by omega) (by omega)]
    have hi := h1 (par j) i0 (by omega) (by omega)
    by_cases e1 : k = j
    · subst e1; rw [swF_j]; exact hi
    · have hk := par_lt k0
      rw [swF_o f _ _ k (by omega) e1]
      have := h1 k k0 kn e1
      rw [kp] at this; omega
theorem UpOk.done {f : Nat → Nat} {n j : Nat} (h : UpOk f n j) (hd : j = 0 ∨ f (par j) ≤ f j) : HeapF f n := by
  intro k k0 kn
  by_cases e : k = j
  · subst e
    rcases hd with hd | hd
    · omega
    · exact hd
  · exact h.1 k k0 kn e
theorem par_child {i k : Nat} (h : par k = i) (h0 : 0 < k) : k = 2 * i + 1 ∨ k = 2 * i + 2 := by unfold par at h; omega
theorem FixOk.step {f : Nat → Nat} {n i j : Nat} (h : FixOk f n i) (hj : par j = i) (hj0 : 0 < j) (hn : j < n) (hlt : f j < f i) (hmin : ∀ k, 0 < k → k < n → par k = i → f j ≤ f k) :
    FixOk (swF f i j) n j ∧ swF f i j (par j) ≤ swF f i j j := by
  obtain ⟨h1, h2⟩ := h
  have hp := par_lt hj0
  refine ⟨⟨fun k k0 kn kj kpj => ?_, fun k k0 kn kp _ => ?_⟩, ?_⟩
  · have hk := par_lt k0
    by_cases e1 : k = i
    · subst e1
      rw [swF_i _ _ _ (by omega), swF_o f _ _ (par k) (by omega) kpj]
      exact h2 j hj0 hn hj (by omega)
    · rw [swF_o f _ _ k e1 kj]
      by_cases e2 : par k = i
      · rw [e2, swF_i _ _ _ (by omega)]; exact hmin k k0 kn e2
      · rw [swF_o f _ _ _ e2 kpj]; exact h1 k k0 kn e1 e2
  · have hk := par_lt k0
    rw [hj, swF_i _ _ _ (by omega), swF_o f _ _ k (by omega) (by omega)]
    have := h1 k k0 kn (by omega) (by omega)
    rw [kp] at this; exact this
  · rw [hj, swF_i _ _ _ (by omega), swF_j]; omega
theorem FixOk.stay {f : Nat → Nat} {n i : Nat} (h : FixOk f n i) (hd : ∀ k, 0 < k → k < n → par k = i → f i ≤ f k) : UpOk f n i := by
  refine ⟨fun k k0 kn ki => ?_, h.2⟩
  by_cases e : par k = i
  · rw [e]; exact hd k k0 kn e
  · exact h.1 k k0 kn ki e
theorem HeapF.least {f : Nat → Nat} {n : Nat} (h : HeapF f n) : ∀ k, k < n → f 0 ≤ f k := by
  intro k
  induction k using Nat.strongRecOn with
  | _ k ih =>
    intro hk
    by_cases e : k = 0
    · rw [e]; exact Nat.le_refl _
    · have hp := par_lt (show 0 < k by omega)
      exact Nat.le_trans (ih (par k) hp (by omega)) (h k (by omega) hk)
/-- One key was changed. -/
theorem HeapF.fix {f g : Nat → Nat} {m n i : Nat} (h : HeapF f m) (hnm : n ≤ m) (hi : i < m) (hg : ∀ k, k < n → k ≠ i → g k = f k) : FixOk g n i := by
  refine ⟨fun k k0 kn ki kp => ?_, fun k k0 kn kp i0 => ?_⟩
  · have hk := par_lt k0
    rw [hg k kn ki, hg (par k) (by omega) kp]; exact h k k0 (by omega)
  · have hk := par_lt k0
    have hp := par_lt i0
    rw [hg k kn (by omega), hg (par i) (by omega) (by omega)]
    have a := h k k0 (by omega)
    rw [kp] at a
    exact Nat.le_trans (h i i0 hi) a
theorem HeapF.push {f g : Nat → Nat} {n : Nat} (h : HeapF f n) (hg : ∀ k, k < n → g k = f k) : UpOk g (n + 1) n := by
  refine ⟨fun k k0 kn ki => ?_, fun k k0 kn kp i0 => ?_⟩
  · have hk := par_lt k0
    rw [hg k (by omega), hg (par k) (by omega)]; exact h k k0 (by omega)
  · rcases par_child kp k0 with e | e <;> omega
theorem HeapF.less {f g : Nat → Nat} {m n : Nat} (h : HeapF f m) (hnm : n ≤ m) (hg : ∀ k, k < n → g k = f k) : HeapF g n := by
  intro k k0 kn
  have hk := par_lt k0
  rw [hg k kn, hg (par k) (by omega)]; exact h k k0 (by omega)

/-- Two places of a list change places. -/
def swapL (I : List Nat) (i j : Nat) : List Nat := (I.set i (I.getD j 0)).set j (I.getD i 0)
def kvOf (key : Nat → Nat) (I : List Nat) : Nat → Nat := fun k => key (I.getD k 0)
theorem swapL_length (I : List Nat) (i j : Nat) : (swapL I i j).length = I.length := by simp [swapL]
theorem swapL_getD (I : List Nat) (i j k : Nat) (hi : i < I.length) (hj : j < I.length) : (swapL I i j).getD k 0 = if k = j then I.getD i 0 else if k = i then I.getD j 0 else I.getD k 0 := by
  unfold swapL
  simp only [List.getD_eq_getElem?_getD, List.getElem?_set, List.length_set]
  by_cases e1 : k = j
  · subst e1; simp [hj]
  · by_cases e2 : k = i
    · subst e2; simp [hi, Ne.symm e1, e1]
    · simp [Ne.symm e1, Ne.symm e2, e1, e2]
theorem kvOf_swap (key : Nat → Nat) (I : List Nat) (i j : Nat) (hi : i < I.length) (hj : j < I.length) : kvOf key (swapL I i j) = swF (kvOf key I) i j := by
  funext k
  unfold kvOf swF
  rw [swapL_getD I i j k hi hj]
  split
  · rfl
  · split <;> rfl
theorem swapL_perm (I : List Nat) (i j : Nat) (hi : i < I.length) (hj : j < I.length) : (swapL I i j).Perm I := by
  unfold swapL
  have e1 : I.getD j 0 = I[j] := by simp [List.getD, hj]
  have e2 : I.getD i 0 = I[i] := by simp [List.getD, hi]
  rw [e1, e2]
  exact List.set_set_perm hi hj
end Go.Proofs.YtebdgcoandfocaaGreatDoor

/-
  The heap of package bcache in memory: its row, its entries; Len, Less and Swap.
-/
namespace Go.Proofs.YtebdgcoandfocaaGreatDoor
open Go.RowKit Go.Maps

/-- What an entry holds, but for its place in the heap. -/
structure EV where
  block : Nat
  p : Option Addr
  n : Nat
  cp : Nat
  pins : Nat
  dirty : Bool
  used : Nat

def entCells (e : EV) (at_ : Int) : Array Value :=
  #[.int .i64 e.block, .slice e.p e.n e.cp, .int .i64 e.pins, .bool e.dirty, .int .i64 e.used, .int .i64 at_]
def IsEnt (w : World) (a : Nat) (e : EV) (at_ : Int) : Prop := w.heap[a]? = some (.cells (entCells e at_) 154 (0, 0))
abbrev ep (a : Nat) : Value := .pointer (some ⟨a, 0, none⟩)

/-- A cache's cells, but for its heap. -/
structure CK where
  v : Value
  room : Value
  held : Value
  dirty : Value
  uses : Value
  met : Value
  missed : Value
  out : Value
def CK.cells (k : CK) (iv : Value) : Array Value := #[k.v, k.room, k.held, k.dirty, iv, k.uses, k.met, k.missed, k.out]

/-- The heap's row and its entries. -/
structure HP (w : World) (c : Nat) (k : CK) (p : Option Addr) (cap : Nat) (I : List Nat) (U : Nat → EV) : Prop where
  cell : w.heap[c]? = some (.cells (k.cells (.slice p I.length cap)) 91 (0, 0))
  row : w.ownsRow 0 148 1 (.slice p I.length cap) I.length (I.map ep)
  ents : ∀ k, k < I.length → IsEnt w (I.getD k 0) (U (I.getD k 0)) k
  nodup : I.Nodup
  len : I.length < 1000000
  used : ∀ a, (U a).used < 1000000000

theorem HP.form {w : World} {c : Nat} {ck : CK} {p : Option Addr} {cap : Nat} {I : List Nat} {U : Nat → EV} (h : HP w c ck p cap I U) (hn : 0 < I.length) :
    ∃ g cur, p = some ⟨g, 0, none⟩ ∧ w.heap[g]? = some (.cells cur 148 (0, 0)) ∧ I.length ≤ cap ∧ cap ≤ maxLen ∧ cur.size = cap ∧ cur.toList.take I.length = I.map ep := by
  rcases h.row.2 with ⟨e, h0⟩ | ⟨g, cap', cur, e, _, hb, h1, h2, h3, h4⟩
  · omega
  · cases e
    rw [Nat.mul_one] at h3 h4
    exact ⟨g, cur, rfl, hb, h1, h2, h3, h4⟩
theorem HP.cellAt {w : World} {c : Nat} {ck : CK} {g cap : Nat} {I : List Nat} {U : Nat → EV} (h : HP w c ck (some ⟨g, 0, none⟩) cap I U) (k : Nat) (hk : k < I.length) : w.cell? ⟨g, k, none⟩ = some (ep (I.getD k 0)) := by
  rw [h.row.cellAt k (by simpa using hk), List.getElem?_map, List.getElem?_eq_getElem hk]
  simp [List.getD, hk]
theorem HP.usedAt {w : World} {c : Nat} {ck : CK} {p : Option Addr} {cap : Nat} {I : List Nat} {U : Nat → EV} (h : HP w c ck p cap I U) (k : Nat) (hk : k < I.length) : w.cell? ⟨I.getD k 0, 4, none⟩ = some (.int .i64 (U (I.getD k 0)).used) := by
  have := cellOf (h.ents k hk) 4
  simpa [entCells] using this

set_option maxRecDepth 8000 in
set_option maxHeartbeats 400000 in
theorem iLen_any (p : Option Addr) (n cap : Nat) (w : World) :
    Calls Tryz.prog 176 #[.slice p n cap] w fun e w' => e = .returned (.int .i64 n) ∧ w' = w := by
  go_enter Tryz.func176, Tryz.ntmps176
  go_wp2
  go_ret
  exact ⟨rfl, rfl⟩

set_option maxRecDepth 8000 in
set_option maxHeartbeats 1000000 in
theorem iLess_any (c : Nat) (ck : CK) (p : Option Addr) (cap : Nat) (I : List Nat) (U : Nat → EV) (i j : Nat) (w : World) (h : HP w c ck p cap I U) (hi : i < I.length) (hj : j < I.length) :
    Calls Tryz.prog 177 #[.slice p I.length cap, .int .i64 i, .int .i64 j] w fun e w' => e = .returned (.bool (decide ((U (I.getD i 0)).used < (U (I.getD j 0)).used))) ∧ ∃ q, w' = w.drewN q := by
  obtain ⟨g, cur, rfl, hb, h1, h2, h3, h4⟩ := h.form (by omega)
  have c1 := h.cellAt i hi
  have c2 := h.cellAt j hj
  have c3 := h.usedAt i hi
  have c4 := h.usedAt j hj
  have hlen := h.len
  have b1 : (0 : Int) ≤ (i : Int) := by omega
  have b2 : (0 : Int) ≤ (j : Int) := by omega
  have b3 : (i : Int) < (I.length : Int) := by omega
  have b4 : (j : Int) < (I.length : Int) := by omega
  generalize I.getD i 0 = x at *
  generalize I.getD j 0 = y at *
  generalize (U x).used = ux at *
  generalize (U y).used = uy at *
  clear h hb h1 h2 h3 h4
  go_enter Tryz.func177, Tryz.ntmps177
  go_wp2_with fail
  go_quiet (fail)
  go_wp2
  go_ret
  exact ⟨by simp, _, rfl⟩

theorem apart_tags {W : World} {g g' : Nat} {cs cs' : Array Value} {t t' : TypeId} {fr fr' : Nat × Nat} (h : W.heap[g]? = some (.cells cs t fr)) (h' : W.heap[g']? = some (.cells cs' t' fr')) (ht : t ≠ t') : g ≠ g' := by
  rintro rfl
  rw [h] at h'
  simp only [Option.some.injEq, Obj.cells.injEq] at h'
  exact ht h'.2.1
theorem IsEnt.setAt {w : World} {a : Nat} {e : EV} {x : Int} (h : IsEnt w a e x) (y : Int) : IsEnt (w.setCell ⟨a, 5, none⟩ (.int .i64 y)) a e y := by
  unfold IsEnt at *
  rw [heap_setCell_same w a 5 _ _ _ h]
  rfl
theorem IsEnt.other {w : World} {a : Nat} {e : EV} {x : Int} (h : IsEnt w a e x) (p : Addr) (hp : a ≠ p.block) (v : Value) : IsEnt (w.setCell p v) a e x := by
  unfold IsEnt at *
  rw [heap_setCell_other w p a v hp]
  exact h
theorem getD_mem {I : List Nat} {k : Nat} (h : k < I.length) : I.getD k 0 ∈ I := by
  simp [List.getD, h]
theorem getD_inj {I : List Nat} (hn : I.Nodup) {i j : Nat} (hi : i < I.length) (hj : j < I.length) (h : I.getD i 0 = I.getD j 0) : i = j := by
  simp [List.getD, hi, hj] at h
  exact (List.getElem_inj hn).1 h
theorem HP.drew {w : World} {c : Nat} {ck : CK} {p : Option Addr} {cap : Nat} {I : List Nat} {U : Nat → EV} (h : HP w c ck p cap I U) : HP w.drew c ck p cap I U := ⟨h.cell, h.row, h.ents, h.nodup, h.len, h.used⟩
theorem HP.drewN {w : World} {c : Nat} {ck : CK} {p : Option Addr} {cap : Nat} {I : List Nat} {U : Nat → EV} (h : HP w c ck p cap I U) (q : Nat) : HP (w.drewN q) c ck p cap I U := ⟨h.cell, h.row, h.ents, h.nodup, h.len, h.used⟩

theorem HP.swap {w : World} {c g cap : Nat} {ck : CK} {I : List Nat} {U : Nat → EV} (h : HP w c ck (some ⟨g, 0, none⟩) cap I U) {i j : Nat} (hi : i < I.length) (hj : j < I.length) (hij : i ≠ j) :
    HP ((((w.setCell ⟨g, i, none⟩ (ep (I.getD j 0))).setCell ⟨g, j, none⟩ (ep (I.getD i 0))).setCell ⟨I.getD j 0, 5, none⟩ (.int .i64 (i : Nat))).setCell ⟨I.getD i 0, 5, none⟩ (.int .i64 (j : Nat))) c ck (some ⟨g, 0, none⟩) cap (swapL I i j) U := by
  obtain ⟨g', cur, e, hb, h1, h2, h3, h4⟩ := h.form (by omega)
  cases e
  have hc := h.cell
  have hx := h.ents i hi
  have hy := h.ents j hj
  have hxy : I.getD i 0 ≠ I.getD j 0 := fun e => hij (getD_inj h.nodup hi hj e)
  have gx : g ≠ I.getD i 0 := apart_tags hb hx (by decide)
  have gy : g ≠ I.getD j 0 := apart_tags hb hy (by decide)
  have cg : c ≠ g := apart_tags hc hb (by decide)
  have cx : c ≠ I.getD i 0 := apart_tags hc hx (by decide)
  have cy : c ≠ I.getD j 0 := apart_tags hc hy (by decide)
  refine ⟨?_, ?_, fun k hk => ?_, (swapL_perm I i j hi hj).nodup_iff.2 h.nodup, by rw [swapL_length]; exact h.len, h.used⟩
  · rw [heap_setCell_other _ _ _ _ cx, heap_setCell_other _ _ _ _ cy, heap_setCell_other _ _ _ _ cg, heap_setCell_other _ _ _ _ cg, swapL_length]
    exact hc
  · refine ⟨by simp, .inr ⟨g, cap, (cur.setIfInBounds i (ep (I.getD j 0))).setIfInBounds j (ep (I.getD i 0)), by rw [swapL_length], Nat.zero_le _, ?_, by rw [swapL_length]; exact h1, h2, by simp [h3], ?_⟩⟩
    · rw [heap_setCell_other _ _ _ _ gx, heap_setCell_other _ _ _ _ gy]
      have e1 := heap_setCell_same w g i cur 148 (ep (I.getD j 0)) hb
      exact heap_setCell_same _ g j _ 148 (ep (I.getD i 0)) e1
    · rw [swapL_length, Nat.mul_one, Array.toList_setIfInBounds, Array.toList_setIfInBounds, List.take_set, List.take_set, h4]
      unfold swapL
      rw [List.map_set, List.map_set]
  · rw [swapL_length] at hk
    rw [swapL_getD I i j k hi hj]
    by_cases e1 : k = j
    · subst e1
      rw [if_pos rfl]
      refine IsEnt.setAt (x := (i : Nat)) (IsEnt.other (IsEnt.other (IsEnt.other hx _ (Ne.symm gx) _) _ (Ne.symm gx) _) _ hxy _) _
    · rw [if_neg e1]
      by_cases e2 : k = i
      · subst e2
        rw [if_pos rfl]
        exact IsEnt.other (IsEnt.setAt (IsEnt.other (IsEnt.other hy _ (Ne.symm gy) _) _ (Ne.symm gy) _) _) _ (Ne.symm hxy) _
      · rw [if_neg e2]
        have hz := h.ents k hk
        have gz : g ≠ I.getD k 0 := apart_tags hb hz (by decide)
        exact IsEnt.other (IsEnt.other (IsEnt.other (IsEnt.other hz _ (Ne.symm gz) _) _ (Ne.symm gz) _) _ (fun e => e1 (getD_inj h.nodup hk hj e)) _) _ (fun e => e2 (getD_inj h.nodup hk hi e)) _

/-- The blocks that the heap's methods may turn. -/
def hpMine (p : Option Addr) (I : List Nat) : Nat → Prop := fun k => p.map Addr.block = some k ∨ k ∈ I

set_option maxRecDepth 8000 in
set_option maxHeartbeats 2000000 in
theorem iSwap_any (c : Nat) (ck : CK) (p : Option Addr) (cap : Nat) (I : List Nat) (U : Nat → EV) (i j : Nat) (w : World) (h : HP w c ck p cap I U) (hi : i < I.length) (hj : j < I.length) (hij : i ≠ j) :
    Calls Tryz.prog 178 #[.slice p I.length cap, .int .i64 i, .int .i64 j] w fun e w' => e = .returned (.tuple #[]) ∧ HP w' c ck p cap (swapL I i j) U ∧ But (hpMine p I) w w' := by
  obtain ⟨g, cur, rfl, hb, h1, h2, h3, h4⟩ := h.form (by omega)
  have c1 := h.cellAt i hi
  have c2 := h.cellAt j hj
  have hx := h.ents i hi
  have hy := h.ents j hj
  have c3 : w.cell? ⟨I.getD i 0, 5, none⟩ = some (.int .i64 (i : Nat)) := by rw [cellOf hx 5]; rfl
  have c4 : w.cell? ⟨I.getD j 0, 5, none⟩ = some (.int .i64 (j : Nat)) := by rw [cellOf hy 5]; rfl
  have f1 := frozenOf hb i
  have f2 := frozenOf hb j
  have f3 := frozenOf hx 5
  have f4 := frozenOf hy 5
  have hxy : I.getD i 0 ≠ I.getD j 0 := fun e => hij (getD_inj h.nodup hi hj e)
  have gx : g ≠ I.getD i 0 := apart_tags hb hx (by decide)
  have gy : g ≠ I.getD j 0 := apart_tags hb hy (by decide)
  have hlen := h.len
  have b1 : (0 : Int) ≤ (i : Int) := by omega
  have b2 : (0 : Int) ≤ (j : Int) := by omega
  have b3 : (i : Int) < (I.length : Int) := by omega
  have b4 : (j : Int) < (I.length : Int) := by omega
  have hS := h.swap hi hj hij
  have mx : I.getD i 0 ∈ I := getD_mem hi
  have my : I.getD j 0 ∈ I := getD_mem hj
  have HS : Hid (HP ((((w.setCell ⟨g, i, none⟩ (ep (I.getD j 0))).setCell ⟨g, j, none⟩ (ep (I.getD i 0))).setCell ⟨I.getD j 0, 5, none⟩ (.int .i64 (i : Nat))).setCell ⟨I.getD i 0, 5, none⟩ (.int .i64 (j : Nat))) c ck (some ⟨g, 0, none⟩) cap (swapL I i j) U ∧ I.getD i 0 ∈ I ∧ I.getD j 0 ∈ I) := ⟨hS, mx, my⟩
  generalize I.getD i 0 = x at *
  generalize I.getD j 0 = y at *
  have hyx : y ≠ x := Ne.symm hxy
  have hji : j ≠ i := Ne.symm hij
  have gx' : x ≠ g := Ne.symm gx
  have gy' : y ≠ g := Ne.symm gy
  clear h hb h1 h2 h3 h4 hx hy hS mx my
  go_enter Tryz.func178, Tryz.ntmps178
  go_wp2_with fail
  go_region
  all_goals go_wp2_with fail
  all_goals go_region
  all_goals go_wp2_with fail
  go_end0
  refine ⟨rfl, HS.out.1.drew.drew, ?_⟩
  have hS := HS.out
  exact ((((((But.refl _ _).setCell _ (.inl rfl) _).setCell _ (.inl rfl) _).setCell _ (.inr hS.2.2) _).setCell _ (.inr hS.2.1) _).drew).drew

end Go.Proofs.YtebdgcoandfocaaGreatDoor

/-
  Push and Pop of package bcache's heap.
-/
namespace Go.Proofs.YtebdgcoandfocaaGreatDoor
open Go.RowKit Go.Maps

theorem Tryz.info148 : (Tryz.prog.info? 148).map (fun i => (i.zero, i.size, i.bytes)) = some (some (.pointer none), 1, 8) := by kernel_rfl

theorem HP.cell4 {w : World} {c : Nat} {ck : CK} {p : Option Addr} {cap : Nat} {I : List Nat} {U : Nat → EV} (h : HP w c ck p cap I U) : w.cell? ⟨c, 4, none⟩ = some (.slice p I.length cap) := by
  rw [cellOf h.cell 4]; rfl
theorem HP.froz4 {w : World} {c : Nat} {ck : CK} {p : Option Addr} {cap : Nat} {I : List Nat} {U : Nat → EV} (h : HP w c ck p cap I U) : w.frozen? ⟨c, 4, none⟩ = false := frozenOf h.cell 4

/-- The last one is taken off. -/
theorem HP.pop {w : World} {c g cap a : Nat} {ck : CK} {I : List Nat} {U : Nat → EV} (h : HP w c ck (some ⟨g, 0, none⟩) cap (I ++ [a]) U) :
    HP (((w.setCell ⟨g, I.length, none⟩ (.pointer none)).setCell ⟨c, 4, none⟩ (.slice (some ⟨g, 0, none⟩) I.length cap)).setCell ⟨a, 5, none⟩ (.int .i64 (-1))) c ck (some ⟨g, 0, none⟩) cap I U ∧
    IsEnt (((w.setCell ⟨g, I.length, none⟩ (.pointer none)).setCell ⟨c, 4, none⟩ (.slice (some ⟨g, 0, none⟩) I.length cap)).setCell ⟨a, 5, none⟩ (.int .i64 (-1))) a (U a) (-1) := by
  have hl : (I ++ [a]).length = I.length + 1 := by simp
  obtain ⟨g', cur, e, hb, h1, h2, h3, h4⟩ := h.form (by omega)
  cases e
  have hc := h.cell
  have ha : IsEnt w a (U a) I.length := by
    have := h.ents I.length (by omega)
    simpa [List.getD] using this
  have ga : g ≠ a := apart_tags hb ha (by decide)
  have cg : c ≠ g := apart_tags hc hb (by decide)
  have ca : c ≠ a := apart_tags hc ha (by decide)
  have hnd := h.nodup
  refine ⟨⟨?_, ?_, fun k hk => ?_, (List.nodup_append.1 hnd).1, by have := h.len; omega, h.used⟩, ?_⟩
  · rw [heap_setCell_other _ _ _ _ ca]
    have e1 : (w.setCell ⟨g, I.length, none⟩ (.pointer none)).heap[c]? = some (.cells (ck.cells (.slice (some ⟨g, 0, none⟩) (I ++ [a]).length cap)) 91 (0, 0)) := by
      rw [heap_setCell_other _ _ _ _ cg]; exact hc
    rw [heap_setCell_same _ c 4 _ _ _ e1]
    rfl
  · refine ⟨by simp, .inr ⟨g, cap, cur.setIfInBounds I.length (.pointer none), rfl, Nat.zero_le _, ?_, by omega, h2, by simp [h3], ?_⟩⟩
    · rw [heap_setCell_other _ _ _ _ ga, heap_setCell_other _ _ _ _ (Ne.symm cg)]
      exact heap_setCell_same w g I.length cur 148 _ hb
    · rw [Nat.mul_one, Array.toList_setIfInBounds, List.take_set_of_le (Nat.le_refl _)]
      have e2 : (cur.toList.take (I ++ [a]).length).take I.length = ((I ++ [a]).map ep).take I.length := by rw [h4]
      rw [List.take_take, hl, Nat.min_eq_left (by omega)] at e2
      rw [e2]
      simp
  · have hz := h.ents k (by omega)
    have ek : (I ++ [a]).getD k 0 = I.getD k 0 := by simp [List.getD, List.getElem?_append_left hk]
    rw [ek] at hz
    have hka : I.getD k 0 ≠ a := fun e => (List.nodup_append.1 hnd).2.2 _ (getD_mem hk) a (by simp) e
    have gz : g ≠ I.getD k 0 := apart_tags hb hz (by decide)
    have cz : c ≠ I.getD k 0 := apart_tags hc hz (by decide)
    exact IsEnt.other (IsEnt.other (IsEnt.other hz _ (Ne.symm gz) _) _ (Ne.symm cz) _) _ hka _
  · exact IsEnt.setAt (IsEnt.other (IsEnt.other ha _ (Ne.symm ga) _) _ (Ne.symm ca) _) _

set_option maxRecDepth 8000 in
set_option maxHeartbeats 1000000 in
theorem iPop_any (c : Nat) (ck : CK) (p : Option Addr) (cap a : Nat) (I : List Nat) (U : Nat → EV) (w : World) (h : HP w c ck p cap (I ++ [a]) U) :
    Calls Tryz.prog 179 #[.pointer (some ⟨c, 4, none⟩)] w fun e w' => e = .returned (.iface 148 (ep a)) ∧ HP w' c ck p cap I U ∧ IsEnt w' a (U a) (-1) ∧ But (fun k => k = c ∨ hpMine p (I ++ [a]) k) w w' := by
  have hl : (I ++ [a]).length = I.length + 1 := by simp
  obtain ⟨g, cur, rfl, hb, h1, h2, h3, h4⟩ := h.form (by omega)
  have c4 := h.cell4
  have f4 := h.froz4
  have ha := h.ents I.length (by omega)
  have ea : (I ++ [a]).getD I.length 0 = a := by simp [List.getD]
  rw [ea] at ha
  have c1 := h.cellAt I.length (by omega)
  rw [ea] at c1
  have f1 := frozenOf hb I.length
  have c5 : w.cell? ⟨a, 5, none⟩ = some (.int .i64 (I.length : Nat)) := by rw [cellOf ha 5]; rfl
  have f5 := frozenOf ha 5
  have hc := h.cell
  have ga : g ≠ a := apart_tags hb ha (by decide)
  have cg : c ≠ g := apart_tags hc hb (by decide)
  have ca : c ≠ a := apart_tags hc ha (by decide)
  have ga' := Ne.symm ga
  have cg' := Ne.symm cg
  have ca' := Ne.symm ca
  have hS := h.pop
  have hlen := h.len
  rw [hl] at c4 hlen h1
  have HS : Hid (HP (((w.setCell ⟨g, I.length, none⟩ (.pointer none)).setCell ⟨c, 4, none⟩ (.slice (some ⟨g, 0, none⟩) I.length cap)).setCell ⟨a, 5, none⟩ (.int .i64 (-1))) c ck (some ⟨g, 0, none⟩) cap I U ∧
    IsEnt (((w.setCell ⟨g, I.length, none⟩ (.pointer none)).setCell ⟨c, 4, none⟩ (.slice (some ⟨g, 0, none⟩) I.length cap)).setCell ⟨a, 5, none⟩ (.int .i64 (-1))) a (U a) (-1)) := hS
  generalize hn : I.length = n at *
  have b1 : (0 : Int) ≤ (n : Int) := by omega
  have b2 : (n : Int) < ((n + 1 : Nat) : Int) := by omega
  have b3 : (n : Int) ≤ (cap : Int) := by omega
  clear h hb h2 h3 h4 hS ha hc ea hl
  go_enter Tryz.func179, Tryz.ntmps179
  go_wp2_with fail
  go_ret
  refine ⟨rfl, HS.out.1, HS.out.2, ?_⟩
  exact ((((But.refl _ _).setCell _ (.inr (.inl rfl)) _).setCell _ (.inl rfl) _).setCell _ (.inr (.inr (by simp))) _)

theorem own0_alloc {W : World} {e : TypeId} {size : Nat} {v : Value} {n : Nat} {xs : List Value} (h : W.ownsRow 0 e size v n xs) (o : Obj) : (W.alloc o).ownsRow 0 e size v n xs := by
  refine ⟨h.1, ?_⟩
  rcases h.2 with h0 | ⟨g, cap, cur, hv, hb, hblk, r⟩
  · exact .inl h0
  · exact .inr ⟨g, cap, cur, hv, hb, (Below.heap_alloc W o g (Array.getElem?_eq_some_iff.1 hblk).1).trans hblk, r⟩
theorem own0_set {W : World} {e : TypeId} {size : Nat} {v : Value} {n : Nat} {xs : List Value} (h : W.ownsRow 0 e size v n xs) {b : Nat} {cs : Array Value} {t : TypeId} {fr : Nat × Nat} (hb : W.heap[b]? = some (.cells cs t fr)) (ht : t ≠ e) (o : Nat) (u : Value) : (W.setCell ⟨b, o, none⟩ u).ownsRow 0 e size v n xs := by
  refine ⟨h.1, ?_⟩
  rcases h.2 with h0 | ⟨g, cap, cur, hv, hbs, hblk, r⟩
  · exact .inl h0
  · exact .inr ⟨g, cap, cur, hv, hbs, (heap_setCell_other W ⟨b, o, none⟩ g u (Ne.symm (apart_tags hb hblk ht))).trans hblk, r⟩
theorem cell_one_laid (w : World) (x : Value) (t : TypeId) : ∀ j u, [x][j]? = some u → (w.alloc (.cells #[x] t)).cell? ((⟨w.heap.size, 0, none⟩ : Addr).add j) = some u := by
  intro j u hj
  rw [Addr.add_lit, Nat.zero_add, cellOf (heap_alloc_new w _) j]
  simpa using hj
theorem own_tagT {W : World} {base : Nat} {e : TypeId} {size : Nat} {v : Value} {n : Nat} {xs : List Value} (h : W.ownsRow base e size v n xs) {g : Nat} {cs : Array Value} {t : TypeId} {fr : Nat × Nat} (hg : v.ownBlock = some g) (hc : W.heap[g]? = some (.cells cs t fr)) : t = e := by
  rcases h.2 with ⟨rfl, _⟩ | ⟨g', cap, cur, rfl, _, hblk, _⟩
  · simp [Value.ownBlock] at hg
  · have e' : g' = g := by simpa [Value.ownBlock] using hg
    rw [e', hc] at hblk
    simp only [Option.some.injEq, Obj.cells.injEq] at hblk
    exact hblk.2.1
theorem own_slice {W : World} {e : TypeId} {n : Nat} {v : Value} {xs : List Value} (h : W.ownsRow 0 e 1 v n xs) : ∃ p cap, v = .slice p n cap := by
  rcases h.2 with ⟨rfl, h0⟩ | ⟨g', cap, cur, rfl, _⟩
  · exact ⟨none, 0, by rw [h0]⟩
  · exact ⟨_, _, rfl⟩

theorem assert_entry (a : Nat) (w : World) : (Instr.typeAssert (.iface 148 (.pointer (some ⟨a, 0, none⟩))) 20 148 false).run Tryz.prog w = .ok (.pointer (some ⟨a, 0, none⟩)) w := by kernel_rfl

/-- One more at the end. -/
theorem HP.push {w w1 : World} {c cap a : Nat} {ck : CK} {p p' : Option Addr} {cap' : Nat} {I : List Nat} {U : Nat → EV} {x : Int} {o : Obj} (h : HP w c ck p cap I U) (ha : IsEnt w a (U a) x) (hna : a ∉ I) (hl1 : I.length + 1 < 1000000)
    (hown : w1.ownsRow 0 148 1 (.slice p' (I.length + 1) cap') (I.length + 1) (I.map ep ++ [ep a])) (hg : ((w.setCell ⟨a, 5, none⟩ (.int .i64 (I.length : Nat))).alloc o).grownBy w1 (Value.slice p I.length cap).ownBlock) :
    w1.heap[c]? = some (.cells (ck.cells (.slice p I.length cap)) 91 (0, 0)) ∧ HP (w1.setCell ⟨c, 4, none⟩ (.slice p' (I.length + 1) cap')) c ck p' cap' (I ++ [a]) U ∧ But (fun k => k = c ∨ k = a ∨ hpMine p I k) w (w1.setCell ⟨c, 4, none⟩ (.slice p' (I.length + 1) cap')) := by
  have hl : (I ++ [a]).length = I.length + 1 := by simp
  have ha2 : IsEnt (w.setCell ⟨a, 5, none⟩ (.int .i64 (I.length : Nat))) a (U a) (I.length : Nat) := ha.setAt _
  have ca : c ≠ a := apart_tags h.cell ha (by decide)
  have row2 : (w.setCell ⟨a, 5, none⟩ (.int .i64 (I.length : Nat))).ownsRow 0 148 1 (.slice p I.length cap) I.length (I.map ep) := own0_set h.row ha (by decide) _ _
  have keep : ∀ (k : Nat) cs t, (w.setCell ⟨a, 5, none⟩ (.int .i64 (I.length : Nat))).heap[k]? = some (.cells cs t (0, 0)) → t ≠ 148 → w1.heap[k]? = some (.cells cs t (0, 0)) := by
    intro k cs t hk ht
    have hk2 : ((w.setCell ⟨a, 5, none⟩ (.int .i64 (I.length : Nat))).alloc o).heap[k]? = some (.cells cs t (0, 0)) := (Below.heap_alloc _ o k (Array.getElem?_eq_some_iff.1 hk).1).trans hk
    exact (hg.block k (Array.getElem?_eq_some_iff.1 hk2).1 (fun e => ht (own_tagT (own0_alloc row2 o) e.symm hk2))).trans hk2
  have hc2 : (w.setCell ⟨a, 5, none⟩ (.int .i64 (I.length : Nat))).heap[c]? = some (.cells (ck.cells (.slice p I.length cap)) 91 (0, 0)) := (heap_setCell_other _ _ _ _ ca).trans h.cell
  have hc1 := keep c _ _ hc2 (by decide)
  refine ⟨hc1, ⟨?_, ?_, fun k hk => ?_, ?_, by omega, h.used⟩, ?_⟩
  · rw [hl, heap_setCell_same _ c 4 _ _ _ hc1]
    rfl
  · rw [hl, List.map_append]
    exact own0_set hown hc1 (by decide) _ _
  · by_cases e : k = I.length
    · subst e
      have ek : (I ++ [a]).getD I.length 0 = a := by simp [List.getD]
      rw [ek]
      exact IsEnt.other (keep a _ _ ha2 (by decide)) _ (Ne.symm ca) _
    · have hk' : k < I.length := by omega
      have ek : (I ++ [a]).getD k 0 = I.getD k 0 := by simp [List.getD, List.getElem?_append_left hk']
      rw [ek]
      have hz := h.ents k hk'
      have cz : c ≠ I.getD k 0 := apart_tags h.cell hz (by decide)
      have az : I.getD k 0 ≠ a := fun e => hna (e ▸ getD_mem hk')
      exact IsEnt.other (keep _ _ _ (IsEnt.other hz _ az _) (by decide)) _ (Ne.symm cz) _
  · rw [List.nodup_append]
    exact ⟨h.nodup, by simp, fun x hx y hy => by rw [List.mem_singleton.1 hy]; exact fun e => hna (e ▸ hx)⟩
  · refine (((((But.refl (fun k => k = c ∨ k = a ∨ hpMine p I k) w).setCell ⟨a, 5, none⟩ (.inr (.inl rfl)) _).alloc o).trans (But.of_grown hg fun k e => ?_))).setCell _ (.inl rfl) _
    rcases p with _ | ⟨g, o', s⟩
    · simp [Value.ownBlock] at e
    · right; right; left
      rcases h.row.2 with ⟨e', _⟩ | ⟨g', cap2, cur, e', _⟩
      · cases e'
      · cases e'
        simpa [Value.ownBlock] using e

set_option maxRecDepth 8000 in
set_option maxHeartbeats 1000000 in
theorem iPush_any (c : Nat) (ck : CK) (p : Option Addr) (cap a : Nat) (I : List Nat) (U : Nat → EV) (x : Int) (w : World) (h : HP w c ck p cap I U) (ha : IsEnt w a (U a) x) (hna : a ∉ I) (hl1 : I.length + 1 < 1000000) :
    Calls Tryz.prog 180 #[.pointer (some ⟨c, 4, none⟩), .iface 148 (ep a)] w fun e w' => e = .returned (.tuple #[]) ∧ ∃ p' cap', HP w' c ck p' cap' (I ++ [a]) U ∧ But (fun k => k = c ∨ k = a ∨ hpMine p I k) w w' ∧ ∀ k, k < w.heap.size → p'.map Addr.block = some k → p.map Addr.block = some k := by
  have c4 := h.cell4
  have f4 := h.froz4
  have c5 : w.cell? ⟨a, 5, none⟩ = some (.int .i64 x) := by rw [cellOf ha 5]; rfl
  have f5 := frozenOf ha 5
  have ca : c ≠ a := apart_tags h.cell ha (by decide)
  have ca' := Ne.symm ca
  obtain ⟨k0, hk0, hx0, hx1, hx2⟩ := info_parts Tryz.info148
  have hS : Hid (∀ p' cap' w1, w1.ownsRow 0 148 1 (.slice p' (I.length + 1) cap') (I.length + 1) (I.map ep ++ [ep a]) → ((w.setCell ⟨a, 5, none⟩ (.int .i64 (I.length : Nat))).alloc (.cells #[ep a] 148)).grownBy w1 (Value.slice p I.length cap).ownBlock →
    w1.heap[c]? = some (.cells (ck.cells (.slice p I.length cap)) 91 (0, 0)) ∧ HP (w1.setCell ⟨c, 4, none⟩ (.slice p' (I.length + 1) cap')) c ck p' cap' (I ++ [a]) U ∧ But (fun k => k = c ∨ k = a ∨ hpMine p I k) w (w1.setCell ⟨c, 4, none⟩ (.slice p' (I.length + 1) cap'))) := fun p' cap' w1 h1 h2 => h.push ha hna hl1 h1 h2
  have hrow : Hid ((w.setCell ⟨a, 5, none⟩ (.int .i64 (I.length : Nat))).ownsRow 0 148 1 (.slice p I.length cap) I.length (I.map ep)) := own0_set h.row ha (by decide) _ _
  have hta := assert_entry a
  clear h ha
  go_enter Tryz.func180, Tryz.ntmps180
  go_wp2_with (at_builtin; refine Stop.out ?_)
  refine Stop.mk ?_
  refine wpList_append_own_at _ rfl _ _ 89 rfl 0 148 k0 (.pointer none) 1 8 Tryz.underlying89 hk0 hx0 hx1 hx2 rfl (by decide) (.slice p I.length cap) I.length (I.map ep) rfl (own0_alloc hrow.out _) ⟨w.heap.size, 0, none⟩ 1 1 [ep a] rfl rfl (by have := cell_one_laid (w.setCell ⟨a, 5, none⟩ (.int .i64 (I.length : Nat))) (ep a) 148; rw [World.size_setCell] at this; exact this) (by intro u hu; rw [List.mem_singleton.1 hu]; rfl) (by unfold maxLen; omega) (by omega) (Nat.zero_le _) ?_
  intro v1 w1 hown hg _ hpl
  obtain ⟨p', cap', rfl⟩ := own_slice hown
  have hP : Hid (∀ k, k < w.heap.size → p'.map Addr.block = some k → p.map Addr.block = some k) := by
    intro k hk e
    rcases p' with _ | a'
    · simp at e
    · have e' : a'.block = k := by simpa using e
      rcases hpl with h1 | h1
      · rcases p with _ | a2
        · simp [Value.ownBlock] at h1
        · simp [Value.ownBlock] at h1
          simp; omega
      · simp [Value.ownBlock] at h1
        omega
  clear hpl
  have hF := hS.out p' cap' w1 hown hg
  have d4 : w1.cell? ⟨c, 4, none⟩ = some (.slice p I.length cap) := by rw [cellOf hF.1 4]; rfl
  have g4 := frozenOf hF.1 4
  have HF : Hid (HP (w1.setCell ⟨c, 4, none⟩ (.slice p' (I.length + 1) cap')) c ck p' cap' (I ++ [a]) U ∧ But (fun k => k = c ∨ k = a ∨ hpMine p I k) w (w1.setCell ⟨c, 4, none⟩ (.slice p' (I.length + 1) cap'))) := hF.2
  clear hF hS hrow hown hg c4 f4 c5 f5
  go_wp2_with fail
  go_end0
  exact ⟨rfl, _, _, HF.out.1, HF.out.2, hP.out⟩

end Go.Proofs.YtebdgcoandfocaaGreatDoor

/-
  up and down of container/heap over package bcache's heap.
-/
namespace Go.Proofs.YtebdgcoandfocaaGreatDoor
open Go.RowKit Go.Maps

def keyU (U : Nat → EV) : Nat → Nat := fun a => (U a).used
abbrev hI (c : Nat) : Value := .iface 182 (.pointer (some ⟨c, 4, none⟩))

theorem meth_len (c : Nat) (v : Value) (w : World) (h : w.cell? ⟨c, 4, none⟩ = some v) : (method 341 182 (.pointer (some ⟨c, 4, none⟩)) "Len").run Tryz.prog w = .ok (176, v) w := by
  have e : (method 341 182 (.pointer (some ⟨c, 4, none⟩)) "Len").run Tryz.prog w = (do let x ← loadVar 89 ⟨c, 4, none⟩; pure (176, x) : Sem (FuncId × Value)).run Tryz.prog w := by kernel_rfl
  rw [e]
  simp [go_sem, h]
theorem meth_less (c : Nat) (v : Value) (w : World) (h : w.cell? ⟨c, 4, none⟩ = some v) : (method 341 182 (.pointer (some ⟨c, 4, none⟩)) "Less").run Tryz.prog w = .ok (177, v) w := by
  have e : (method 341 182 (.pointer (some ⟨c, 4, none⟩)) "Less").run Tryz.prog w = (do let x ← loadVar 89 ⟨c, 4, none⟩; pure (177, x) : Sem (FuncId × Value)).run Tryz.prog w := by kernel_rfl
  rw [e]
  simp [go_sem, h]
theorem meth_swap (c : Nat) (v : Value) (w : World) (h : w.cell? ⟨c, 4, none⟩ = some v) : (method 341 182 (.pointer (some ⟨c, 4, none⟩)) "Swap").run Tryz.prog w = .ok (178, v) w := by
  have e : (method 341 182 (.pointer (some ⟨c, 4, none⟩)) "Swap").run Tryz.prog w = (do let x ← loadVar 89 ⟨c, 4, none⟩; pure (178, x) : Sem (FuncId × Value)).run Tryz.prog w := by kernel_rfl
  rw [e]
  simp [go_sem, h]
theorem meth_pop (c : Nat) (w : World) : (method 341 182 (.pointer (some ⟨c, 4, none⟩)) "Pop").run Tryz.prog w = .ok (179, .pointer (some ⟨c, 4, none⟩)) w := by kernel_rfl
theorem meth_push (c : Nat) (w : World) : (method 341 182 (.pointer (some ⟨c, 4, none⟩)) "Push").run Tryz.prog w = .ok (180, .pointer (some ⟨c, 4, none⟩)) w := by kernel_rfl

theorem iLess_lt (c : Nat) (ck : CK) (p : Option Addr) (cap : Nat) (I : List Nat) (U : Nat → EV) (i j : Nat) (w : World) (h : HP w c ck p cap I U) (hi : i < I.length) (hj : j < I.length) (r : Bool) (hr : decide (kvOf (keyU U) I i < kvOf (keyU U) I j) = r) :
    Calls Tryz.prog 177 #[.slice p I.length cap, .int .i64 i, .int .i64 j] w fun e w' => e = .returned (.bool r) ∧ ∃ q, w' = w.drewN q := by
  rw [← hr]
  exact iLess_any c ck p cap I U i j w h hi hj

set_option maxRecDepth 8000 in
set_option maxHeartbeats 2000000 in
theorem hUp_any (c : Nat) (ck : CK) (p : Option Addr) (cap : Nat) (I : List Nat) (U : Nat → EV) (n j : Nat) (w : World) (h : HP w c ck p cap I U) (hn : n ≤ I.length) (hj : j < n) (hu : UpOk (kvOf (keyU U) I) n j) :
    Calls Tryz.prog 140 #[hI c, .int .i64 j] w fun e w' => e = .returned (.tuple #[]) ∧ ∃ I', HP w' c ck p cap I' U ∧ I'.Perm I ∧ HeapF (kvOf (keyU U) I') n ∧ (∀ k, n ≤ k → I'.getD k 0 = I.getD k 0) ∧ But (hpMine p I) w w' := by
  have hlen := h.len
  have H0 : Hid (HP w c ck p cap I U ∧ UpOk (kvOf (keyU U) I) n j) := ⟨h, hu⟩
  clear h hu
  go_enter Tryz.func140, Tryz.ntmps140
  go_wp2_with fail
  go_loopw [1] (fun jj wr => ∃ (j : Nat) (I' : List Nat), jj = .int .i64 j ∧ j < n ∧ I'.length = I.length ∧ Hid (HP wr c ck p cap I' U ∧ UpOk (kvOf (keyU U) I') n j ∧ I'.Perm I ∧ (∀ k, n ≤ k → I'.getD k 0 = I.getD k 0) ∧ But (hpMine p I) w wr)) (fun jj _ => (intOf jj).toNat)
  case atStart => exact ⟨j, I, rfl, hj, rfl, H0.out.1, H0.out.2, List.Perm.refl _, fun _ _ => rfl, But.refl _ _⟩
  case round =>
    obtain ⟨j, I', rfl, hj, hl, HI⟩ := hrel
    have m1 := meth_less c _ wr HI.out.1.cell4
    rw [hl] at m1
    by_cases h0 : j = 0
    · subst h0
      have e0 : ((0 : Nat) : Int) - 1 = -1 := by omega
      go_wp2_with fail
      go_end0
      obtain ⟨a1, a2, a3, a4, a5⟩ := HI.out
      exact ⟨rfl, I', a1, a3, a2.done (.inl rfl), a4, a5⟩
    · have e1 : Int.tdiv ((j : Int) - 1) 2 = ((par j : Nat) : Int) := by unfold par; rw [Int.tdiv_eq_ediv_of_nonneg (by omega)]; omega
      have e2 : ((j : Int) - 1) / 2 = ((par j : Nat) : Int) := by unfold par; omega
      have hp := par_lt (show 0 < j by omega)
      have e3 : (((par j : Nat) : Int) == (j : Int)) = false := by rw [beq_eq_false_iff_ne]; omega
      by_cases hlt : kvOf (keyU U) I' j < kvOf (keyU U) I' (par j)
      · have cL := iLess_lt c ck p cap I' U j (par j) wr HI.out.1 (by omega) (by omega) true (by simpa using hlt)
        rw [hl] at cL
        have m2 : ∀ q, (method 341 182 (.pointer (some ⟨c, 4, none⟩)) "Swap").run Tryz.prog (wr.drewN q) = .ok (178, .slice p I.length cap) (wr.drewN q) := fun q => by
          have := meth_swap c _ (wr.drewN q) (HI.out.1.drewN q).cell4
          rw [hl] at this
          exact this
        have cS : ∀ q, Calls Tryz.prog 178 #[.slice p I.length cap, .int .i64 (par j : Nat), .int .i64 j] (wr.drewN q) fun e w' => e = .returned (.tuple #[]) ∧ HP w' c ck p cap (swapL I' (par j) j) U ∧ But (hpMine p I') (wr.drewN q) w' := fun q => by
          have := iSwap_any c ck p cap I' U (par j) j (wr.drewN q) (HI.out.1.drewN q) (by omega) (by omega) (by omega)
          rw [hl] at this
          exact this
        go_wp2_with (first
          | (go_at_call 177; refine cL.mono ?_; rintro e w1 ⟨rfl, q1, rfl⟩; clear cL m1)
          | (go_at_call 178; refine (cS _).mono ?_; rintro e w2 ⟨rfl, h2, b2⟩; clear cS m2; have H2 : Hid (HP w2 c ck p cap (swapL I' (par j) j) U ∧ But (hpMine p I') wr w2) := ⟨h2, ⟨b2.os, b2.tape, b2.output, b2.size, b2.block⟩⟩; clear h2 b2))
        go_roundw
        case rel =>
          obtain ⟨a1, a2, a3, a4, a5⟩ := HI.out
          have hpj : par j < I'.length := by omega
          have hjl : j < I'.length := by omega
          refine ⟨par j, swapL I' (par j) j, rfl, by omega, by rw [swapL_length]; exact hl, H2.out.1, ?_, (swapL_perm I' _ _ hpj hjl).trans a3, fun k hk => ?_, a5.trans (H2.out.2.mono fun k _ hk => ?_)⟩
          · rw [kvOf_swap _ _ _ _ hpj hjl]
            exact a2.step (by omega) hj hlt
          · rw [swapL_getD I' _ _ k hpj hjl, if_neg (by omega), if_neg (by omega)]
            exact a4 k hk
          · rcases hk with hk | hk
            · exact .inl hk
            · exact .inr (a3.mem_iff.1 hk)
        case measure => simp [intOf]; omega
      · have cL := iLess_lt c ck p cap I' U j (par j) wr HI.out.1 (by omega) (by omega) false (by simpa using hlt)
        rw [hl] at cL
        go_wp2_with (go_at_call 177; refine cL.mono ?_; rintro e w1 ⟨rfl, q1, rfl⟩; clear cL m1)
        go_end0
        obtain ⟨a1, a2, a3, a4, a5⟩ := HI.out
        exact ⟨rfl, I', a1.drewN q1, a3, a2.done (.inr (by omega)), a4, ⟨a5.os, a5.tape, a5.output, a5.size, a5.block⟩⟩

end Go.Proofs.YtebdgcoandfocaaGreatDoor

/-
  down of container/heap over package bcache's heap. (Printed by mkdown.py.)
-/
namespace Go.Proofs.YtebdgcoandfocaaGreatDoor
open Go.RowKit Go.Maps

theorem iLess_hp (c : Nat) (ck : CK) (p : Option Addr) (cap : Nat) (I : List Nat) (U : Nat → EV) (i j m : Nat) (w : World) (h : HP w c ck p cap I U) (hm : I.length = m) (hi : i < m) (hj : j < m) (r : Bool) (hr : decide (kvOf (keyU U) I i < kvOf (keyU U) I j) = r) :
    Calls Tryz.prog 177 #[.slice p m cap, .int .i64 i, .int .i64 j] w fun e w' => e = .returned (.bool r) ∧ HP w' c ck p cap I U ∧ But (fun _ => False) w w' := by
  subst hm
  refine (iLess_lt c ck p cap I U i j w h hi hj r hr).mono ?_
  rintro e w' ⟨rfl, q, rfl⟩
  exact ⟨rfl, h.drewN q, ⟨rfl, rfl, rfl, Nat.le_refl _, fun _ _ _ => rfl⟩⟩
theorem iSwap_hp (c : Nat) (ck : CK) (p : Option Addr) (cap : Nat) (I : List Nat) (U : Nat → EV) (i j m : Nat) (w : World) (h : HP w c ck p cap I U) (hm : I.length = m) (hi : i < m) (hj : j < m) (hij : i ≠ j) :
    Calls Tryz.prog 178 #[.slice p m cap, .int .i64 i, .int .i64 j] w fun e w' => e = .returned (.tuple #[]) ∧ HP w' c ck p cap (swapL I i j) U ∧ But (hpMine p I) w w' := by
  subst hm
  exact iSwap_any c ck p cap I U i j w h hi hj hij
theorem meth_less' (c : Nat) (ck : CK) (p : Option Addr) (cap : Nat) (I : List Nat) (U : Nat → EV) (m : Nat) (w : World) (h : HP w c ck p cap I U) (hm : I.length = m) : (method 341 182 (.pointer (some ⟨c, 4, none⟩)) "Less").run Tryz.prog w = .ok (177, .slice p m cap) w := by
  subst hm; exact meth_less c _ w h.cell4
theorem meth_swap' (c : Nat) (ck : CK) (p : Option Addr) (cap : Nat) (I : List Nat) (U : Nat → EV) (m : Nat) (w : World) (h : HP w c ck p cap I U) (hm : I.length = m) : (method 341 182 (.pointer (some ⟨c, 4, none⟩)) "Swap").run Tryz.prog w = .ok (178, .slice p m cap) w := by
  subst hm; exact meth_swap c _ w h.cell4
theorem meth_len' (c : Nat) (ck : CK) (p : Option Addr) (cap : Nat) (I : List Nat) (U : Nat → EV) (m : Nat) (w : World) (h : HP w c ck p cap I U) (hm : I.length = m) : (method 341 182 (.pointer (some ⟨c, 4, none⟩)) "Len").run Tryz.prog w = .ok (176, .slice p m cap) w := by
  subst hm; exact meth_len c _ w h.cell4

/-- What down's loop keeps. -/
structure DnI (w0 wr : World) (c : Nat) (ck : CK) (p : Option Addr) (cap : Nat) (I I' : List Nat) (U : Nat → EV) (n i0 i : Nat) : Prop where
  hp : HP wr c ck p cap I' U
  fix : FixOk (kvOf (keyU U) I') n i
  perm : I'.Perm I
  far : ∀ k, n ≤ k → I'.getD k 0 = I.getD k 0
  but : But (hpMine p I) w0 wr
  way : i = i0 ∨ (i0 < i ∧ kvOf (keyU U) I' (par i) ≤ kvOf (keyU U) I' i)
theorem DnI.step {w0 wr w1 w2 : World} {c : Nat} {ck : CK} {p : Option Addr} {cap : Nat} {I I' : List Nat} {U : Nat → EV} {n i0 i j : Nat} (h : DnI w0 wr c ck p cap I I' U n i0 i) (hn : n ≤ I'.length) (hi0 : i0 ≤ i) (hj : par j = i) (hj0 : 0 < j) (hjn : j < n)
    (hlt : kvOf (keyU U) I' j < kvOf (keyU U) I' i) (hmin : ∀ k, 0 < k → k < n → par k = i → kvOf (keyU U) I' j ≤ kvOf (keyU U) I' k) (hb1 : But (fun _ => False) wr w1) (h2 : HP w2 c ck p cap (swapL I' i j) U) (hb2 : But (hpMine p I') w1 w2) : DnI w0 w2 c ck p cap I (swapL I' i j) U n i0 j := by
  have hp := par_lt hj0
  obtain ⟨f1, f2⟩ := h.fix.step hj hj0 hjn hlt hmin
  have e := kvOf_swap (keyU U) I' i j (by omega) (by omega)
  refine ⟨h2, by rw [e]; exact f1, (swapL_perm I' i j (by omega) (by omega)).trans h.perm, fun k hk => ?_, h.but.trans ((hb1.mono fun _ _ h => h.elim).trans (hb2.mono fun k _ hk => ?_)), .inr ⟨by omega, by rw [e]; exact f2⟩⟩
  · rw [swapL_getD I' _ _ k (by omega) (by omega), if_neg (by omega), if_neg (by omega)]
    exact h.far k hk
  · rcases hk with hk | hk
    · exact .inl hk
    · exact .inr (h.perm.mem_iff.1 hk)
/-- What down answers. -/
structure DnE (w0 w' : World) (c : Nat) (ck : CK) (p : Option Addr) (cap : Nat) (I I' : List Nat) (U : Nat → EV) (n i0 : Nat) (r : Bool) : Prop where
  hp : HP w' c ck p cap I' U
  perm : I'.Perm I
  far : ∀ k, n ≤ k → I'.getD k 0 = I.getD k 0
  but : But (hpMine p I) w0 w'
  yes : r = true → HeapF (kvOf (keyU U) I') n
  no : r = false → UpOk (kvOf (keyU U) I') n i0
theorem DnI.stop {w0 wr w1 : World} {c : Nat} {ck : CK} {p : Option Addr} {cap : Nat} {I I' : List Nat} {U : Nat → EV} {n i0 i : Nat} (h : DnI w0 wr c ck p cap I I' U n i0 i) (hmin : ∀ k, 0 < k → k < n → par k = i → kvOf (keyU U) I' i ≤ kvOf (keyU U) I' k) (h1 : HP w1 c ck p cap I' U) (hb1 : But (fun _ => False) wr w1) :
    DnE w0 w1 c ck p cap I I' U n i0 (decide (i > i0)) := by
  have hu := h.fix.stay hmin
  refine ⟨h1, h.perm, h.far, h.but.trans (hb1.mono fun _ _ h => h.elim), fun hr => ?_, fun hr => ?_⟩
  · have : i0 < i := by simpa using hr
    rcases h.way with e | ⟨_, e⟩
    · omega
    · exact hu.done (.inr e)
  · have : ¬ i0 < i := by simpa using hr
    rcases h.way with e | ⟨e, _⟩
    · subst e; exact hu
    · omega

set_option maxRecDepth 8000 in
set_option maxHeartbeats 4000000 in
theorem hDown_any (c : Nat) (ck : CK) (p : Option Addr) (cap : Nat) (I : List Nat) (U : Nat → EV) (n i0 : Nat) (w : World) (h : HP w c ck p cap I U) (hn : n ≤ I.length) (hi0 : i0 < n) (hf : FixOk (kvOf (keyU U) I) n i0) :
    Calls Tryz.prog 139 #[hI c, .int .i64 i0, .int .i64 n] w fun e w' => ∃ I' r, e = .returned (.bool r) ∧ DnE w w' c ck p cap I I' U n i0 r := by
  have hlen := h.len
  have HJ : Hid (DnI w w c ck p cap I I U n i0 i0) := ⟨h, hf, List.Perm.refl _, fun _ _ => rfl, But.refl _ _, .inl rfl⟩
  clear h hf
  go_enter Tryz.func139, Tryz.ntmps139
  go_wp2_with fail
  go_loopw [7] (fun ii wr => ∃ (i : Nat) (I' : List Nat), ii = .int .i64 i ∧ i0 ≤ i ∧ i < n ∧ I'.length = I.length ∧ Hid (DnI w wr c ck p cap I I' U n i0 i)) (fun ii _ => n - (intOf ii).toNat)
  case atStart => exact ⟨i0, I, rfl, Nat.le_refl _, hi0, rfl, HJ⟩
  case round =>
    clear HJ
    obtain ⟨i, I', rfl, hii, hin, hl, HI⟩ := hrel
    have B0 : But (fun _ => False) wr wr := But.refl _ _
    by_cases hA : n ≤ 2 * i + 1
    · have hAI : (2 : Int) * (i : Int) + 1 ≥ (n : Int) := by omega
      go_wp2_with fail
      go_ret
      exact ⟨I', _, rfl, by
        have := HI.out.stop (fun k k0 kn kp => by rcases par_child kp k0 with e | e <;> omega) HI.out.hp B0
        simpa using this⟩
    · have a1 : ¬ (2 : Int) * (i : Int) + 1 ≥ (n : Int) := by omega
      have a2 : ¬ (2 : Int) * (i : Int) + 1 < 0 := by omega
      have q1 : (2 : Int) * (i : Int) + 1 = ((2 * i + 1 : Nat) : Int) := by omega
      have q2 : ((2 * i + 1 : Nat) : Int) + 1 = ((2 * i + 2 : Nat) : Int) := by omega
      have p1 : par (2 * i + 1) = i := by unfold par; omega
      have p2 : par (2 * i + 2) = i := by unfold par; omega
      have m1 := meth_less' c ck p cap I' U I.length wr HI.out.hp hl
      by_cases hB : 2 * i + 2 < n
      · by_cases hc : kvOf (keyU U) I' (2 * i + 2) < kvOf (keyU U) I' (2 * i + 1)
        · generalize hj1 : 2 * i + 1 = j1 at *
          generalize hj2 : 2 * i + 2 = j2 at *
          have cL1 := iLess_hp c ck p cap I' U j2 j1 I.length wr HI.out.hp hl (by omega) (by omega) true (by simpa using hc)
          have hk : (j2 : Int) < (n : Int) := by omega
          have Hj : Hid (2 * i + 1 = j1 ∧ 2 * i + 2 = j2) := ⟨hj1, hj2⟩
          have hb1 : j1 < n := by omega
          have hb2 : i < j1 := by omega
          have hb3 : j2 = j1 + 1 := by omega
          clear hj1 hj2 hb3 hA B0
          by_cases hd : kvOf (keyU U) I' j2 < kvOf (keyU U) I' i
          · go_wp2_with (first
              | (go_at_call 177; refine cL1.mono ?_; rintro e w1 ⟨rfl, h1, b1⟩; clear cL1 m1; have H1 : Hid (HP w1 c ck p cap I' U ∧ But (fun _ => False) wr w1) := ⟨h1, b1⟩; clear h1 b1; have m2 := meth_less' c ck p cap I' U I.length w1 H1.out.1 hl; have cL2 := iLess_hp c ck p cap I' U j2 i I.length w1 H1.out.1 hl (by omega) (by omega) true (by simpa using hd))
              | (go_at_call 177; refine cL2.mono ?_; rintro e w2 ⟨rfl, h2, b2⟩; clear cL2 m2; have H2 : Hid (HP w2 c ck p cap I' U ∧ But (fun _ => False) wr w2) := ⟨h2, H1.out.2.trans b2⟩; clear h2 b2 H1; have m3 := meth_swap' c ck p cap I' U I.length w2 H2.out.1 hl; have cS := iSwap_hp c ck p cap I' U i j2 I.length w2 H2.out.1 hl (by omega) (by omega) (by omega))
              | (go_at_call 178; refine cS.mono ?_; rintro e w3 ⟨rfl, h3, b3⟩; clear cS m3; have H3 : Hid (HP w3 c ck p cap (swapL I' i j2) U ∧ But (hpMine p I') w2 w3) := ⟨h3, b3⟩; clear h3 b3))
            go_roundw
            case rel =>
              obtain ⟨rfl, rfl⟩ := Hj.out
              exact ⟨_, _, rfl, by omega, by omega, by rw [swapL_length]; exact hl, HI.out.step (by omega) hii (by first | exact p1 | exact p2) (by omega) (by omega) hd (fun k k0 kn kp => by rcases par_child kp k0 with rfl | rfl <;> omega) H2.out.2 H3.out.1 H3.out.2⟩
            case measure => simp [intOf]; omega
          · go_wp2_with (first
              | (go_at_call 177; refine cL1.mono ?_; rintro e w1 ⟨rfl, h1, b1⟩; clear cL1 m1; have H1 : Hid (HP w1 c ck p cap I' U ∧ But (fun _ => False) wr w1) := ⟨h1, b1⟩; clear h1 b1; have m2 := meth_less' c ck p cap I' U I.length w1 H1.out.1 hl; have cL2 := iLess_hp c ck p cap I' U j2 i I.length w1 H1.out.1 hl (by omega) (by omega) false (by simpa using hd))
              | (go_at_call 177; refine cL2.mono ?_; rintro e w2 ⟨rfl, h2, b2⟩; clear cL2 m2; have H2 : Hid (HP w2 c ck p cap I' U ∧ But (fun _ => False) wr w2) := ⟨h2, H1.out.2.trans b2⟩; clear h2 b2 H1))
            go_ret
            obtain ⟨rfl, rfl⟩ := Hj.out
            exact ⟨I', _, rfl, by
              have := HI.out.stop (fun k k0 kn kp => by rcases par_child kp k0 with rfl | rfl <;> omega) H2.out.1 H2.out.2
              simpa using this⟩
        · generalize hj1 : 2 * i + 1 = j1 at *
          generalize hj2 : 2 * i + 2 = j2 at *
          have cL1 := iLess_hp c ck p cap I' U j2 j1 I.length wr HI.out.hp hl (by omega) (by omega) false (by simpa using hc)
          have hk : (j2 : Int) < (n : Int) := by omega
          have Hj : Hid (2 * i + 1 = j1 ∧ 2 * i + 2 = j2) := ⟨hj1, hj2⟩
          have hb1 : j1 < n := by omega
          have hb2 : i < j1 := by omega
          have hb3 : j2 = j1 + 1 := by omega
          clear hj1 hj2 hb3 hA B0
          by_cases hd : kvOf (keyU U) I' j1 < kvOf (keyU U) I' i
          · go_wp2_with (first
              | (go_at_call 177; refine cL1.mono ?_; rintro e w1 ⟨rfl, h1, b1⟩; clear cL1 m1; have H1 : Hid (HP w1 c ck p cap I' U ∧ But (fun _ => False) wr w1) := ⟨h1, b1⟩; clear h1 b1; have m2 := meth_less' c ck p cap I' U I.length w1 H1.out.1 hl; have cL2 := iLess_hp c ck p cap I' U j1 i I.length w1 H1.out.1 hl (by omega) (by omega) true (by simpa using hd))
              | (go_at_call 177; refine cL2.mono ?_; rintro e w2 ⟨rfl, h2, b2⟩; clear cL2 m2; have H2 : Hid (HP w2 c ck p cap I' U ∧ But (fun _ => False) wr w2) := ⟨h2, H1.out.2.trans b2⟩; clear h2 b2 H1; have m3 := meth_swap' c ck p cap I' U I.length w2 H2.out.1 hl; have cS := iSwap_hp c ck p cap I' U i j1 I.length w2 H2.out.1 hl (by omega) (by omega) (by omega))
              | (go_at_call 178; refine cS.mono ?_; rintro e w3 ⟨rfl, h3, b3⟩; clear cS m3; have H3 : Hid (HP w3 c ck p cap (swapL I' i j1) U ∧ But (hpMine p I') w2 w3) := ⟨h3, b3⟩; clear h3 b3))
            go_roundw
            case rel =>
              obtain ⟨rfl, rfl⟩ := Hj.out
              exact ⟨_, _, rfl, by omega, by omega, by rw [swapL_length]; exact hl, HI.out.step (by omega) hii (by first | exact p1 | exact p2) (by omega) (by omega) hd (fun k k0 kn kp => by rcases par_child kp k0 with rfl | rfl <;> omega) H2.out.2 H3.out.1 H3.out.2⟩
            case measure => simp [intOf]; omega
          · go_wp2_with (first
              | (go_at_call 177; refine cL1.mono ?_; rintro e w1 ⟨rfl, h1, b1⟩; clear cL1 m1; have H1 : Hid (HP w1 c ck p cap I' U ∧ But (fun _ => False) wr w1) := ⟨h1, b1⟩; clear h1 b1; have m2 := meth_less' c ck p cap I' U I.length w1 H1.out.1 hl; have cL2 := iLess_hp c ck p cap I' U j1 i I.length w1 H1.out.1 hl (by omega) (by omega) false (by simpa using hd))
              | (go_at_call 177; refine cL2.mono ?_; rintro e w2 ⟨rfl, h2, b2⟩; clear cL2 m2; have H2 : Hid (HP w2 c ck p cap I' U ∧ But (fun _ => False) wr w2) := ⟨h2, H1.out.2.trans b2⟩; clear h2 b2 H1))
            go_ret
            obtain ⟨rfl, rfl⟩ := Hj.out
            exact ⟨I', _, rfl, by
              have := HI.out.stop (fun k k0 kn kp => by rcases par_child kp k0 with rfl | rfl <;> omega) H2.out.1 H2.out.2
              simpa using this⟩
      · generalize hj1 : 2 * i + 1 = j1 at *
        generalize hj2 : 2 * i + 2 = j2 at *
        have H1 : Hid (HP wr c ck p cap I' U ∧ But (fun _ => False) wr wr) := ⟨HI.out.hp, B0⟩
        have hk : ¬ (j2 : Int) < (n : Int) := by omega
        have Hj : Hid (2 * i + 1 = j1 ∧ 2 * i + 2 = j2) := ⟨hj1, hj2⟩
        have hb1 : j1 < n := by omega
        have hb2 : i < j1 := by omega
        have hb3 : j2 = j1 + 1 := by omega
        clear hj1 hj2 hb3 hA B0
        by_cases hd : kvOf (keyU U) I' j1 < kvOf (keyU U) I' i
        · have cL2 := iLess_hp c ck p cap I' U j1 i I.length wr H1.out.1 hl (by omega) (by omega) true (by simpa using hd)
          go_wp2_with (first
            | (go_at_call 177; refine cL2.mono ?_; rintro e w2 ⟨rfl, h2, b2⟩; clear cL2 m1; have H2 : Hid (HP w2 c ck p cap I' U ∧ But (fun _ => False) wr w2) := ⟨h2, H1.out.2.trans b2⟩; clear h2 b2 H1; have m3 := meth_swap' c ck p cap I' U I.length w2 H2.out.1 hl; have cS := iSwap_hp c ck p cap I' U i j1 I.length w2 H2.out.1 hl (by omega) (by omega) (by omega))
            | (go_at_call 178; refine cS.mono ?_; rintro e w3 ⟨rfl, h3, b3⟩; clear cS m3; have H3 : Hid (HP w3 c ck p cap (swapL I' i j1) U ∧ But (hpMine p I') w2 w3) := ⟨h3, b3⟩; clear h3 b3))
          go_roundw
          case rel =>
            obtain ⟨rfl, rfl⟩ := Hj.out
            exact ⟨_, _, rfl, by omega, by omega, by rw [swapL_length]; exact hl, HI.out.step (by omega) hii (by first | exact p1 | exact p2) (by omega) (by omega) hd (fun k k0 kn kp => by rcases par_child kp k0 with rfl | rfl <;> omega) H2.out.2 H3.out.1 H3.out.2⟩
          case measure => simp [intOf]; omega
        · have cL2 := iLess_hp c ck p cap I' U j1 i I.length wr H1.out.1 hl (by omega) (by omega) false (by simpa using hd)
          go_wp2_with (first
            | (go_at_call 177; refine cL2.mono ?_; rintro e w2 ⟨rfl, h2, b2⟩; clear cL2 m1; have H2 : Hid (HP w2 c ck p cap I' U ∧ But (fun _ => False) wr w2) := ⟨h2, H1.out.2.trans b2⟩; clear h2 b2 H1))
          go_ret
          obtain ⟨rfl, rfl⟩ := Hj.out
          exact ⟨I', _, rfl, by
            have := HI.out.stop (fun k k0 kn kp => by rcases par_child kp k0 with rfl | rfl <;> omega) H2.out.1 H2.out.2
            simpa using this⟩

end Go.Proofs.YtebdgcoandfocaaGreatDoor

/-
  Fix, Push and Remove of container/heap over package bcache's heap.
-/
namespace Go.Proofs.YtebdgcoandfocaaGreatDoor
open Go.RowKit Go.Maps

theorem But.after {S T : Nat → Prop} {a b c : World} (h : But S a b) (k : But T b c) (hs : ∀ i, i < a.heap.size → T i → S i) : But S a c :=
  ⟨k.os.trans h.os, k.tape.trans h.tape, k.output.trans h.output, Nat.le_trans h.size k.size, fun i hi hn => (k.block i (Nat.lt_of_lt_of_le hi h.size) (fun ht => hn (hs i hi ht))).trans (h.block i hi hn)⟩
theorem FixOk.cut {f g : Nat → Nat} {m n i : Nat} (h : FixOk f m i) (hnm : n ≤ m) (hg : ∀ k, k < n → k ≠ i → g k = f k) : FixOk g n i := by
  refine ⟨fun k k0 kn ki kp => ?_, fun k k0 kn kp i0 => ?_⟩
  · have hk := par_lt k0
    rw [hg k kn ki, hg (par k) (by omega) kp]; exact h.1 k k0 (by omega) ki kp
  · have hk := par_lt k0
    have hp := par_lt i0
    rw [hg k kn (by omega), hg (par i) (by omega) (by omega)]
    exact h.2 k k0 (by omega) kp i0
theorem FixOk.last {f g : Nat → Nat} {n : Nat} (h : FixOk f (n + 1) n) (hg : ∀ k, k < n → g k = f k) : HeapF g n := by
  intro k k0 kn
  have hk := par_lt k0
  rw [hg k kn, hg (par k) (by omega)]
  exact h.1 k k0 (by omega) (by omega) (by omega)
theorem HeapF.toFix {f : Nat → Nat} {n i : Nat} (h : HeapF f n) (hi : i < n) : FixOk f n i := h.fix (Nat.le_refl _) hi fun _ _ _ => rfl
theorem snoc_of {I : List Nat} {n a : Nat} (hl : I.length = n + 1) (ha : I.getD n 0 = a) : ∃ J, I = J ++ [a] ∧ J.length = n := by
  refine ⟨I.take n, ?_, by simp; omega⟩
  have h1 : I.take (n + 1) = I := List.take_of_length_le (by omega)
  have h2 := List.take_succ_eq_append_getElem (l := I) (i := n) (by omega)
  have h3 : I[n]'(by omega) = a := by rw [← ha]; simp [List.getD, hl]
  rw [h1, h3] at h2
  exact h2

set_option maxRecDepth 8000 in
set_option maxHeartbeats 1000000 in
theorem hFix_any (c : Nat) (ck : CK) (p : Option Addr) (cap : Nat) (I : List Nat) (U : Nat → EV) (i : Nat) (w : World) (h : HP w c ck p cap I U) (hi : i < I.length) (hf : FixOk (kvOf (keyU U) I) I.length i) :
    Calls Tryz.prog 125 #[hI c, .int .i64 i] w fun e w' => e = .returned (.tuple #[]) ∧ ∃ I', HP w' c ck p cap I' U ∧ I'.Perm I ∧ HeapF (kvOf (keyU U) I') I'.length ∧ But (hpMine p I) w w' := by
  have m0 := meth_len' c ck p cap I U I.length w h rfl
  have cD := hDown_any c ck p cap I U I.length i w h (Nat.le_refl _) hi hf
  clear h hf
  go_enter Tryz.func125, Tryz.ntmps125
  go_wp2_with (first
    | (go_at_call 176; refine Calls_on (iLen_any _ _ _ _) ?_)
    | (go_at_call 139; refine cD.mono ?_; rintro e w1 ⟨I1, r, rfl, h1⟩; clear cD m0; refine Stop.out ?_))
  refine Stop.mk ?_
  have hl1 : I1.length = I.length := h1.perm.length_eq
  cases r
  · have cU := hUp_any c ck p cap I1 U I.length i w1 h1.hp (by omega) hi (h1.no rfl)
    have H1 : Hid (DnE w w1 c ck p cap I I1 U I.length i false) := h1
    clear h1
    go_wp2_with (go_at_call 140; refine cU.mono ?_; rintro e w2 ⟨rfl, I2, h2, hp2, hh2, _, hb2⟩; clear cU; have H2 : Hid (HP w2 c ck p cap I2 U ∧ I2.Perm I1 ∧ HeapF (kvOf (keyU U) I2) I.length ∧ But (hpMine p I1) w1 w2) := ⟨h2, hp2, hh2, hb2⟩; clear h2 hp2 hh2 hb2)
    go_end0
    obtain ⟨h2, hp2, hh2, hb2⟩ := H2.out
    have hl2 : I2.length = I.length := hp2.length_eq.trans hl1
    refine ⟨rfl, I2, h2, hp2.trans H1.out.perm, by rw [hl2]; exact hh2, H1.out.but.trans (hb2.mono fun k _ hk => ?_)⟩
    rcases hk with hk | hk
    · exact .inl hk
    · exact .inr (H1.out.perm.mem_iff.1 hk)
  · have H1 : Hid (DnE w w1 c ck p cap I I1 U I.length i true) := h1
    clear h1
    go_wp2_with fail
    go_end0
    exact ⟨rfl, I1, H1.out.hp, H1.out.perm, by rw [hl1]; exact H1.out.yes rfl, H1.out.but⟩

set_option maxRecDepth 8000 in
set_option maxHeartbeats 1000000 in
theorem hPush_any (c : Nat) (ck : CK) (p : Option Addr) (cap a : Nat) (I : List Nat) (U : Nat → EV) (x : Int) (w : World) (h : HP w c ck p cap I U) (ha : IsEnt w a (U a) x) (hna : a ∉ I) (hl1 : I.length + 1 < 1000000) (hh : HeapF (kvOf (keyU U) I) I.length) :
    Calls Tryz.prog 126 #[hI c, .iface 148 (ep a)] w fun e w' => e = .returned (.tuple #[]) ∧ ∃ p' cap' I', HP w' c ck p' cap' I' U ∧ I'.Perm (I ++ [a]) ∧ HeapF (kvOf (keyU U) I') I'.length ∧ But (fun k => k = c ∨ k = a ∨ hpMine p I k) w w' ∧ ∀ k, k < w.heap.size → p'.map Addr.block = some k → p.map Addr.block = some k := by
  have m0 := meth_push c w
  have cP := iPush_any c ck p cap a I U x w h ha hna hl1
  have hl : (I ++ [a]).length = I.length + 1 := by simp
  clear h ha
  go_enter Tryz.func126, Tryz.ntmps126
  go_wp2_with (go_at_call 180; refine cP.mono ?_; rintro e w1 ⟨rfl, p', cap', h1, b1, hp1⟩; clear cP m0; refine Stop.out ?_)
  refine Stop.mk ?_
  have m1 := meth_len' c ck p' cap' (I ++ [a]) U (I.length + 1) w1 h1 hl
  have cU := hUp_any c ck p' cap' (I ++ [a]) U (I.length + 1) I.length w1 h1 (by omega) (by omega) (hh.push fun k hk => by unfold kvOf; simp [List.getD, List.getElem?_append_left hk])
  have H1 : Hid (But (fun k => k = c ∨ k = a ∨ hpMine p I k) w w1 ∧ ∀ k, k < w.heap.size → p'.map Addr.block = some k → p.map Addr.block = some k) := ⟨b1, hp1⟩
  have e1 : ((I.length + 1 : Nat) : Int) - 1 = (I.length : Int) := by omega
  clear h1 b1 hp1 hh hl
  go_wp2_with (first
    | (go_at_call 176; refine Calls_on (iLen_any _ _ _ _) ?_)
    | (go_at_call 140; refine cU.mono ?_; rintro e w2 ⟨rfl, I2, h2, hp2, hh2, _, hb2⟩; clear cU m1; have H2 : Hid (HP w2 c ck p' cap' I2 U ∧ I2.Perm (I ++ [a]) ∧ HeapF (kvOf (keyU U) I2) (I.length + 1) ∧ But (hpMine p' (I ++ [a])) w1 w2) := ⟨h2, hp2, hh2, hb2⟩; clear h2 hp2 hh2 hb2))
  go_end0
  obtain ⟨h2, hp2, hh2, hb2⟩ := H2.out
  have hl2 : I2.length = I.length + 1 := hp2.length_eq.trans (by simp)
  refine ⟨rfl, p', cap', I2, h2, hp2, by rw [hl2]; exact hh2, H1.out.1.after hb2 (fun k hk ht => ?_), H1.out.2⟩
  rcases ht with ht | ht
  · exact .inr (.inr (.inl (H1.out.2 k hk ht)))
  · rcases List.mem_append.1 ht with ht | ht
    · exact .inr (.inr (.inr ht))
    · exact .inr (.inl (List.mem_singleton.1 ht))

set_option maxRecDepth 8000 in
set_option maxHeartbeats 2000000 in
theorem hRemove_any (c : Nat) (ck : CK) (p : Option Addr) (cap : Nat) (I : List Nat) (U : Nat → EV) (i a : Nat) (w : World) (h : HP w c ck p cap I U) (hi : i < I.length) (ha : I.getD i 0 = a) (hf : FixOk (kvOf (keyU U) I) I.length i) :
    Calls Tryz.prog 127 #[hI c, .int .i64 i] w fun e w' => e = .returned (.iface 148 (ep a)) ∧ ∃ I', HP w' c ck p cap I' U ∧ (I' ++ [a]).Perm I ∧ HeapF (kvOf (keyU U) I') I'.length ∧ IsEnt w' a (U a) (-1) ∧ But (fun k => k = c ∨ hpMine p I k) w w' := by
  obtain ⟨n, hn⟩ : ∃ n, I.length = n + 1 := ⟨I.length - 1, by omega⟩
  have m0 := meth_len' c ck p cap I U (n + 1) w h hn
  have hlen := h.len
  have e1 : ((n + 1 : Nat) : Int) - 1 = (n : Int) := by omega
  by_cases hin : i = n
  · subst hin
    obtain ⟨J, rfl, hJ⟩ := snoc_of hn ha
    have e2 : ((i : Int) != (i : Int)) = false := by simp
    have mP := meth_pop c w
    have cP := iPop_any c ck p cap a J U w h
    have hh : HeapF (kvOf (keyU U) J) J.length := by
      rw [hn] at hf
      rw [hJ]
      exact hf.last fun k hk => by unfold kvOf; simp [List.getD, List.getElem?_append_left (show k < J.length by omega)]
    clear h hf hn ha
    go_enter Tryz.func127, Tryz.ntmps127
    go_wp2_with (first
      | (go_at_call 176; refine Calls_on (iLen_any _ _ _ _) ?_)
      | (go_at_call 179; refine cP.mono ?_; rintro e w1 ⟨rfl, h1, hE1, b1⟩; clear cP m0))
    go_ret
    exact ⟨rfl, J, h1, List.Perm.refl _, hh, hE1, b1⟩
  · have hlt : i < n := by omega
    have e2 : ((n : Int) != (i : Int)) = true := by rw [bne_iff_ne]; omega
    have m1 := meth_swap' c ck p cap I U (n + 1) w h hn
    have cS := iSwap_hp c ck p cap I U i n (n + 1) w h hn (by omega) (by omega) hin
    have hI1 : i < I.length := hi
    have hI2 : n < I.length := by omega
    have hf2 : FixOk (kvOf (keyU U) (swapL I i n)) n i := by
      rw [hn] at hf
      refine hf.cut (by omega) fun k hk hki => ?_
      rw [kvOf_swap _ _ _ _ hI1 hI2, swF_o _ _ _ _ hki (by omega)]
    have hlast : (swapL I i n).getD n 0 = a := by rw [swapL_getD I i n n hI1 hI2, if_pos rfl]; exact ha
    have hperm := swapL_perm I i n hI1 hI2
    have hl2 : (swapL I i n).length = n + 1 := by rw [swapL_length]; exact hn
    generalize swapL I i n = I1 at *
    have HA : Hid (FixOk (kvOf (keyU U) I1) n i ∧ I1.getD n 0 = a ∧ I1.Perm I) := ⟨hf2, hlast, hperm⟩
    have mine1 : Hid (∀ k, hpMine p I1 k → hpMine p I k) := fun k hk => by
      rcases hk with hk | hk
      · exact .inl hk
      · exact .inr (hperm.mem_iff.1 hk)
    clear h hf hf2 hlast hperm hI1 hI2 ha hi
    go_enter Tryz.func127, Tryz.ntmps127
    go_wp2_with (first
      | (go_at_call 176; refine Calls_on (iLen_any _ _ _ _) ?_)
      | (go_at_call 178; refine cS.mono ?_; rintro e w1 ⟨rfl, h1, b1⟩; clear cS m0 m1; have cD := hDown_any c ck p cap I1 U n i w1 h1 (by omega) hlt HA.out.1; have H1 : Hid (But (hpMine p I) w w1) := b1; clear h1 b1)
      | (go_at_call 139; refine cD.mono ?_; rintro e w2 ⟨I2, r, rfl, h2⟩; clear cD; refine Stop.out ?_))
    refine Stop.mk ?_
    have hl3 : I2.length = n + 1 := h2.perm.length_eq.trans hl2
    have hlast2 : I2.getD n 0 = a := (h2.far n (Nat.le_refl _)).trans HA.out.2.1
    cases r
    · have cU := hUp_any c ck p cap I2 U n i w2 h2.hp (by omega) hlt (h2.no rfl)
      have H2 : Hid (DnE w1 w2 c ck p cap I1 I2 U n i false ∧ I2.getD n 0 = a) := ⟨h2, hlast2⟩
      clear h2 hlast2
      go_wp2_with (first
        | (go_at_call 140; refine cU.mono ?_; rintro e w3 ⟨rfl, I3, h3, hp3, hh3, hf3, hb3⟩; clear cU; refine Stop.out ?_))
      refine Stop.mk ?_
      have hl4 : I3.length = n + 1 := hp3.length_eq.trans hl3
      obtain ⟨J, rfl, hJ⟩ := snoc_of hl4 ((hf3 n (Nat.le_refl _)).trans H2.out.2)
      have mP := meth_pop c w3
      have cP := iPop_any c ck p cap a J U w3 h3
      have hh : HeapF (kvOf (keyU U) J) J.length := by
        rw [hJ]
        exact hh3.less (Nat.le_refl _) fun k hk => by unfold kvOf; simp [List.getD, List.getElem?_append_left (show k < J.length by omega)]
      have H3 : Hid ((J ++ [a]).Perm I2 ∧ HeapF (kvOf (keyU U) J) J.length ∧ But (hpMine p I2) w2 w3) := ⟨hp3, hh, hb3⟩
      clear h3 hp3 hh3 hf3 hb3 hh
      go_wp2_with (go_at_call 179; refine cP.mono ?_; rintro e w4 ⟨rfl, h4, hE4, b4⟩; clear cP mP)
      go_ret
      obtain ⟨q1, q2, q3⟩ := H3.out
      have pm : (J ++ [a]).Perm I := q1.trans (H2.out.1.perm.trans HA.out.2.2)
      refine ⟨rfl, J, h4, pm, q2, hE4, ?_⟩
      have mono : ∀ {L : List Nat}, L.Perm I → ∀ k, hpMine p L k → hpMine p I k := fun hL k hk => by
        rcases hk with hk | hk
        · exact .inl hk
        · exact .inr (hL.mem_iff.1 hk)
      refine ((((H1.out.mono fun k _ hk => .inr hk).trans (H2.out.1.but.mono fun k _ hk => .inr (mono HA.out.2.2 k hk))).trans (q3.mono fun k _ hk => .inr (mono (H2.out.1.perm.trans HA.out.2.2) k hk))).trans (b4.mono fun k _ hk => ?_))
      rcases hk with hk | hk
      · exact .inl hk
      · exact .inr (mono pm k hk)
    · obtain ⟨J, rfl, hJ⟩ := snoc_of hl3 hlast2
      have mP := meth_pop c w2
      have cP := iPop_any c ck p cap a J U w2 h2.hp
      have hh : HeapF (kvOf (keyU U) J) J.length := by
        rw [hJ]
        exact (h2.yes rfl).less (Nat.le_refl _) fun k hk => by unfold kvOf; simp [List.getD, List.getElem?_append_left (show k < J.length by omega)]
      have H2 : Hid (DnE w1 w2 c ck p cap I1 (J ++ [a]) U n i true ∧ HeapF (kvOf (keyU U) J) J.length) := ⟨h2, hh⟩
      clear h2 hlast2 hh
      go_wp2_with (go_at_call 179; refine cP.mono ?_; rintro e w4 ⟨rfl, h4, hE4, b4⟩; clear cP mP)
      go_ret
      have pm : (J ++ [a]).Perm I := H2.out.1.perm.trans HA.out.2.2
      refine ⟨rfl, J, h4, pm, H2.out.2, hE4, ?_⟩
      have mono : ∀ {L : List Nat}, L.Perm I → ∀ k, hpMine p L k → hpMine p I k := fun hL k hk => by
        rcases hk with hk | hk
        · exact .inl hk
        · exact .inr (hL.mem_iff.1 hk)
      refine (((H1.out.mono fun k _ hk => .inr hk).trans (H2.out.1.but.mono fun k _ hk => .inr (mono HA.out.2.2 k hk))).trans (b4.mono fun k _ hk => ?_))
      rcases hk with hk | hk
      · exact .inl hk
      · exact .inr (mono pm k hk)

end Go.Proofs.YtebdgcoandfocaaGreatDoor

/-
  A cache of package bcache in memory: its struct, its map, its entries, its rows.
-/
namespace Go.Proofs.YtebdgcoandfocaaGreatDoor
open Go.RowKit Go.Maps

theorem key_i64Z {x : Int} (h1 : -9223372036854775808 ≤ x) (h2 : x < 9223372036854775808) : keyOf Tryz.prog 3 (.int .i64 x) = some (.int .i64 x) :=
  keyOf_int_mk Tryz.underlying3 (WalkArith.wf_i64 ⟨by omega, by omega⟩)
theorem Tryz.zero148 (w : World) : (zeroValue 148).run Tryz.prog w = .ok (.pointer none) w := by kernel_rfl
theorem litK {i : Nat} (h : i < 1000000) : WideAt.IsKeyLit (Lit.int .i64 (i : Int)) := keyed.key (key_i64 (by omega))

theorem ptrD_inj {p q : Option Addr} (h : ptrD p = ptrD q) : p = q :=
  congrArg (fun d : DataW Value => match d with | .held (.pointer p) => p | _ => none) h
theorem lit_inj {x y : Int} (h : Lit.int .i64 x = Lit.int .i64 y) : x = y := by cases h; rfl
theorem but_turned {w w' : World} {h : Nat} (ht : w.mapTurned w' h) : But (fun k => k = h) w w' :=
  But.of_grown ht.grown (fun _ e => (Option.some.inj e).symm)

/-- The map of the entries that are held. -/
structure HM (w : World) (h nh : Nat) (F : DataW Value) (A : List Nat) (blk : Nat → Nat) : Prop where
  own : w.ownsMap Tryz.prog 3 ptrElem h nh F
  has : ∀ x : Int, Maps.has F (.int .i64 x) = true ↔ ∃ a ∈ A, (blk a : Int) = x
  val : ∀ a ∈ A, F.atKey (.int .i64 (blk a)) (ptrD none) = ptrD (some ⟨a, 0, none⟩)
  inj : ∀ a ∈ A, ∀ b ∈ A, blk a = blk b → a = b
  nodup : A.Nodup
  small : ∀ a ∈ A, blk a < 1000000
  size : Maps.size F = A.length

theorem HM.congr {w : World} {h nh : Nat} {F : DataW Value} {A : List Nat} {blk blk' : Nat → Nat} (hm : HM w h nh F A blk) (he : ∀ a ∈ A, blk' a = blk a) : HM w h nh F A blk' := by
  refine ⟨hm.own, fun x => ?_, fun a ha => by rw [he a ha]; exact hm.val a ha, fun a ha b hb e => hm.inj a ha b hb (by rw [← he a ha, ← he b hb]; exact e), hm.nodup, fun a ha => by rw [he a ha]; exact hm.small a ha, hm.size⟩
  rw [hm.has x]
  constructor
  · rintro ⟨a, ha, e⟩; exact ⟨a, ha, by rw [he a ha]; exact e⟩
  · rintro ⟨a, ha, e⟩; exact ⟨a, ha, by rw [← he a ha]; exact e⟩
theorem HM.but {w w' : World} {h nh : Nat} {F : DataW Value} {A : List Nat} {blk : Nat → Nat} (hm : HM w h nh F A blk) {S : Nat → Prop} (hb : But S w w') (hS : ¬ S h) : HM w' h nh F A blk := by
  refine ⟨?_, hm.has, hm.val, hm.inj, hm.nodup, hm.small, hm.size⟩
  have hlt := hm.own.lt
  obtain ⟨es, clock, he, r⟩ := hm.own
  exact ⟨es, clock, (hb.block h hlt hS).trans he, r⟩
theorem HM.empty {w : World} {h : Nat} (hh : w.heap[h]? = some (.map #[] 0)) (blk : Nat → Nat) : HM w h 0 (.map []) [] blk :=
  ⟨⟨#[], 0, hh, ⟨by simp, MapKept.stamped_empty 0, by simp⟩, Nat.le_refl _, rfl⟩, fun x => ⟨fun h => absurd (show false = true from h) (by decide), fun ⟨a, ha, _⟩ => by cases ha⟩, fun a ha => (by cases ha), fun a ha => (by cases ha), List.nodup_nil, fun a ha => (by cases ha), rfl⟩

/-- 'x, ok := held[block]', where it is held. -/
theorem HM.look_yes {w : World} {h nh : Nat} {F : DataW Value} {A : List Nat} {blk : Nat → Nat} (hm : HM w h nh F A blk) {a : Nat} (ha : a ∈ A) :
    (Instr.lookup 87 (.map (some h)) (.int .i64 (blk a : Nat)) true).run Tryz.prog w = .ok (.tuple #[.pointer (some ⟨a, 0, none⟩), .bool true]) w := by
  have hs := hm.small a ha
  obtain ⟨v, ps, hrun, hv⟩ := hm.own.look_ok keyed Tryz.underlying87 (Tryz.zero148 w) (zd := ptrD none) (zp := []) rfl (key_i64 (i := blk a) (by omega))
  obtain ⟨q, rfl, hz⟩ := ptrElem_inv hv
  simp only [Prod.mk.injEq] at hz
  have e := hm.val a ha
  rw [hz.1] at e
  have hq : q = some ⟨a, 0, none⟩ := ptrD_inj e
  rw [hrun, hq, (hm.has _).2 ⟨a, ha, rfl⟩]
/-- .. where it is not. -/
theorem HM.look_no {w : World} {h nh : Nat} {F : DataW Value} {A : List Nat} {blk : Nat → Nat} (hm : HM w h nh F A blk) {x : Int} (h1 : -9223372036854775808 ≤ x) (h2 : x < 9223372036854775808) (hx : ∀ a ∈ A, (blk a : Int) ≠ x) :
    (Instr.lookup 87 (.map (some h)) (.int .i64 x) true).run Tryz.prog w = .ok (.tuple #[.pointer none, .bool false]) w := by
  obtain ⟨v, ps, hrun, hv⟩ := hm.own.look_ok keyed Tryz.underlying87 (Tryz.zero148 w) (zd := ptrD none) (zp := []) rfl (key_i64Z h1 h2)
  obtain ⟨q, rfl, hz⟩ := ptrElem_inv hv
  simp only [Prod.mk.injEq] at hz
  have hno : Maps.has F (.int .i64 x) = false := by
    cases hh : Maps.has F (.int .i64 x) with
    | false => rfl
    | true =>
      obtain ⟨a, ha, e⟩ := (hm.has x).1 hh
      exact absurd e (hx a ha)
  have e := atKey_of_not_has hno (ptrD none)
  rw [hz.1] at e
  have hq : q = none := ptrD_inj e
  rw [hrun, hq, hno]
/-- 'held[block] = x', of a block that is not held. -/
theorem HM.ins {w : World} {h nh : Nat} {F : DataW Value} {A : List Nat} {blk : Nat → Nat} (hm : HM w h nh F A blk) {a : Nat} (ha : a ∉ A) (hb : blk a < 1000000) (hx : ∀ b ∈ A, blk b ≠ blk a) (hn : nh < 1000000) :
    ∃ w' F', (Instr.mapUpdate 87 (.map (some h)) (.int .i64 (blk a : Nat)) (.pointer (some ⟨a, 0, none⟩))).run Tryz.prog w = .ok () w' ∧ HM w' h (nh + 1) F' (A ++ [a]) blk ∧ But (fun k => k = h) w w' := by
  obtain ⟨w', hrun, hown, hturn⟩ := hm.own.store keyed Tryz.underlying87 (by unfold maxLen; omega) (key_i64 (i := blk a) (by omega)) (val := .pointer (some ⟨a, 0, none⟩)) (d := ptrD (some ⟨a, 0, none⟩)) (ps := []) rfl
  have hno : Maps.has F (.int .i64 (blk a : Nat)) = false := by
    cases hh : Maps.has F (.int .i64 (blk a : Nat)) with
    | false => rfl
    | true =>
      obtain ⟨b, hbm, e⟩ := (hm.has _).1 hh
      exact absurd (by omega) (hx b hbm)
  refine ⟨w', _, hrun, ⟨hown, fun x => ?_, fun b hbm => ?_, fun b hb1 b' hb2 e => ?_, ?_, fun b hbm => ?_, ?_⟩, but_turned hturn⟩
  · by_cases e : x = (blk a : Int)
    · subst e
      rw [has_put_same hm.own.isMap (litK hb)]
      simp
    · rw [has_put_other (fun e' => e (lit_inj e')), hm.has x]
      constructor
      · rintro ⟨b, hb1, e1⟩; exact ⟨b, by simp [hb1], e1⟩
      · rintro ⟨b, hb1, e1⟩
        rcases List.mem_append.1 hb1 with hb1 | hb1
        · exact ⟨b, hb1, e1⟩
        · rw [List.mem_singleton.1 hb1] at e1; exact absurd e1.symm e
  · rcases List.mem_append.1 hbm with hb1 | hb1
    · rw [atKey_put_other (fun e => hx b hb1 (by have := lit_inj e; omega))]
      exact hm.val b hb1
    · rw [List.mem_singleton.1 hb1]
      exact atKey_put_same hm.own.isMap (litK hb) _ _
  · rcases List.mem_append.1 hb1 with h1 | h1 <;> rcases List.mem_append.1 hb2 with h2 | h2
    · exact hm.inj b h1 b' h2 e
    · rw [List.mem_singleton.1 h2] at e; exact absurd e (hx b h1)
    · rw [List.mem_singleton.1 h1] at e; exact absurd e.symm (hx b' h2)
    · rw [List.mem_singleton.1 h1, List.mem_singleton.1 h2]
  · rw [List.nodup_append]
    exact ⟨hm.nodup, by simp, fun x hx y hy => by rw [List.mem_singleton.1 hy]; exact fun e => ha (e ▸ hx)⟩
  · rcases List.mem_append.1 hbm with hb1 | hb1
    · exact hm.small b hb1
    · rw [List.mem_singleton.1 hb1]; exact hb
  · rw [size_put (hm.own.tidy keyed), hno]
    simp [hm.size]
/-- 'delete(held, block)'. -/
theorem HM.del {w : World} {h nh : Nat} {F : DataW Value} {A : List Nat} {blk : Nat → Nat} (hm : HM w h nh F A blk) {a : Nat} (ha : a ∈ A) (ty : TypeId) :
    ∃ w' F', (Builtin.delete_ #[87, 3] ty #[.map (some h), .int .i64 (blk a : Nat)]).run Tryz.prog w = .ok (.tuple #[]) w' ∧ HM w' h nh F' (A.filter (fun b => b != a)) blk ∧ But (fun k => k = h) w w' := by
  have hs := hm.small a ha
  obtain ⟨w', hrun, hown, hturn⟩ := hm.own.drop keyed Tryz.underlying87 (key_i64 (i := blk a) (by omega)) ty
  have hmem : ∀ b, b ∈ A.filter (fun b => b != a) ↔ b ∈ A ∧ b ≠ a := fun b => by simp [List.mem_filter]
  refine ⟨w', _, hrun, ⟨hown, fun x => ?_, fun b hbm => ?_, fun b hb1 b' hb2 e => hm.inj b ((hmem b).1 hb1).1 b' ((hmem b').1 hb2).1 e, hm.nodup.filter _, fun b hbm => hm.small b ((hmem b).1 hbm).1, ?_⟩, but_turned hturn⟩
  · by_cases e : x = (blk a : Int)
    · subst e
      rw [has_del_same]
      constructor
      · intro h; cases h
      · rintro ⟨b, hb1, e1⟩
        exact absurd (hm.inj b ((hmem b).1 hb1).1 a ha (by omega)) ((hmem b).1 hb1).2
    · rw [has_del_other (fun e' => e (lit_inj e')), hm.has x]
      constructor
      · rintro ⟨b, hb1, e1⟩; exact ⟨b, (hmem b).2 ⟨hb1, fun e2 => e (by rw [← e1, e2])⟩, e1⟩
      · rintro ⟨b, hb1, e1⟩; exact ⟨b, ((hmem b).1 hb1).1, e1⟩
  · obtain ⟨h1, h2⟩ := (hmem b).1 hbm
    rw [atKey_del_other (fun e => h2 (hm.inj b h1 a ha (by have := lit_inj e; omega)))]
    exact hm.val b h1
  · have e1 := size_del (k := .int .i64 (blk a : Nat)) (hm.own.tidy keyed)
    rw [(hm.has _).2 ⟨a, ha, rfl⟩, if_pos rfl, hm.size] at e1
    have e2 : (A.filter (fun b => b != a)).length + 1 = A.length := by
      rw [← hm.nodup.erase_eq_filter a, List.length_erase_of_mem ha]
      have := List.length_pos_of_mem ha
      omega
    omega

end Go.Proofs.YtebdgcoandfocaaGreatDoor

/-
  A cache's state, and what its parts' steps make of it.
-/
namespace Go.Proofs.YtebdgcoandfocaaGreatDoor
open Go.RowKit Go.Maps

structure CS where
  c : Nat
  v : Nat
  room : Nat
  h : Nat
  nh : Nat
  F : DataW Value
  dq : Option Addr
  dcap : Nat
  D : List Nat
  ip : Option Addr
  icap : Nat
  I : List Nat
  A : List Nat
  U : Nat → EV
  uses : Nat
  met : Nat
  missed : Nat
  out : Nat

def CS.ck (s : CS) : CK := ⟨ep s.v, .int .i64 s.room, .map (some s.h), .slice s.dq s.D.length s.dcap, .int .i64 s.uses, .int .i64 s.met, .int .i64 s.missed, .int .i64 s.out⟩

/-- A cache in memory. -/
structure CM (w : World) (s : CS) : Prop where
  hp : HP w s.c s.ck s.ip s.icap s.I s.U
  rest : ∀ a ∈ s.A, a ∉ s.I → IsEnt w a (s.U a) (-1)
  sub : ∀ a ∈ s.I, a ∈ s.A
  hm : HM w s.h s.nh s.F s.A (fun a => (s.U a).block)
  row : w.ownsRow 0 148 1 (.slice s.dq s.D.length s.dcap) s.D.length (s.D.map ep)
  apart : ∀ k, s.dq.map Addr.block = some k → s.ip.map Addr.block ≠ some k
  lo : s.h < s.c ∧ (∀ a ∈ s.A, s.h < a) ∧ (∀ k, s.ip.map Addr.block = some k → s.h < k) ∧ ∀ k, s.dq.map Addr.block = some k → s.h < k

def cTag (t : TypeId) : Prop := t = 91 ∨ t = 148 ∨ t = 154
/-- The blocks that a call of a cache may turn. -/
def cMine (w : World) (h : Nat) : Nat → Prop := fun k => k = h ∨ (h ≤ k ∧ ∃ cs t fr, w.heap[k]? = some (.cells cs t fr) ∧ cTag t)

theorem cMine_trans {w w1 w2 : World} {h : Nat} (h1 : But (cMine w h) w w1) (h2 : But (cMine w1 h) w1 w2) : But (cMine w h) w w2 := by
  refine h1.after h2 fun i hi ht => ?_
  rcases ht with e | ⟨hle, cs, t, fr, hb, hc⟩
  · exact .inl e
  · apply Classical.byContradiction
    intro hn
    have := h1.block i hi hn
    rw [hb] at this
    exact hn (.inr ⟨hle, cs, t, fr, this.symm, hc⟩)

theorem own_but {w w' : World} {e : TypeId} {v : Value} {n : Nat} {xs : List Value} {S : Nat → Prop} (h : w.ownsRow 0 e 1 v n xs) (hb : But S w w') (hS : ∀ g cs fr, v.ownBlock = some g → w.heap[g]? = some (.cells cs e fr) → ¬ S g) : w'.ownsRow 0 e 1 v n xs := by
  refine ⟨h.1, ?_⟩
  rcases h.2 with h0 | ⟨g, cap, cur, hv, hg, hblk, r⟩
  · exact .inl h0
  · exact .inr ⟨g, cap, cur, hv, hg, (hb.block g (Array.getElem?_eq_some_iff.1 hblk).1 (hS g cur _ (by rw [hv]; rfl) hblk)).trans hblk, r⟩
theorem IsEnt.but {w w' : World} {a : Nat} {e : EV} {x : Int} {S : Nat → Prop} (h : IsEnt w a e x) (hb : But S w w') (hS : ¬ S a) : IsEnt w' a e x :=
  (hb.block a (Array.getElem?_eq_some_iff.1 h).1 hS).trans h

theorem CM.but {w w' : World} {s : CS} (h : CM w s) {S : Nat → Prop} (hb : But S w w') (hh : ¬ S s.h) (hS : ∀ k cs t fr, w.heap[k]? = some (.cells cs t fr) → cTag t → ¬ S k) : CM w' s :=
  ⟨⟨(hb.block s.c (Array.getElem?_eq_some_iff.1 h.hp.cell).1 (hS _ _ _ _ h.hp.cell (.inl rfl))).trans h.hp.cell, own_but h.hp.row hb (fun _ _ _ _ hk => hS _ _ _ _ hk (.inr (.inl rfl))), fun k hk => (h.hp.ents k hk).but hb (hS _ _ _ _ (h.hp.ents k hk) (.inr (.inr rfl))), h.hp.nodup, h.hp.len, h.hp.used⟩,
    fun a ha hi => (h.rest a ha hi).but hb (hS _ _ _ _ (h.rest a ha hi) (.inr (.inr rfl))), h.sub, h.hm.but hb hh, own_but h.row hb (fun _ _ _ _ hk => hS _ _ _ _ hk (.inr (.inl rfl))), h.apart, h.lo⟩
theorem CM.below {w w' : World} {s : CS} (h : CM w s) (hb : Below w.heap.size w w') : CM w' s :=
  h.but (S := fun _ => False) (But.of_below hb) (fun h => h) (fun _ _ _ _ _ _ h => h)
theorem CM.drewN {w : World} {s : CS} (h : CM w s) (q : Nat) : CM (w.drewN q) s := h.but (S := fun _ => False) ⟨rfl, rfl, rfl, Nat.le_refl _, fun _ _ _ => rfl⟩ (fun h => h) (fun _ _ _ _ _ _ h => h)

/-- Where an entry stands. -/
theorem CM.ent {w : World} {s : CS} (h : CM w s) {a : Nat} (ha : a ∈ s.A) : ∃ x : Int, IsEnt w a (s.U a) x ∧ (a ∈ s.I → ∃ k, k < s.I.length ∧ s.I.getD k 0 = a ∧ x = (k : Nat)) ∧ (a ∉ s.I → x = -1) := by
  by_cases hi : a ∈ s.I
  · obtain ⟨k, hk, e⟩ := List.getElem_of_mem hi
    have e' : s.I.getD k 0 = a := by simp [List.getD, hk, e]
    refine ⟨k, by have := h.hp.ents k hk; rw [e'] at this; exact this, fun _ => ⟨k, hk, e', rfl⟩, fun hn => absurd hi hn⟩
  · exact ⟨-1, h.rest a ha hi, fun hn => absurd hn hi, fun _ => rfl⟩
theorem CM.entAny {w : World} {s : CS} (h : CM w s) {a : Nat} (ha : a ∈ s.A) : ∃ x : Int, IsEnt w a (s.U a) x := (h.ent ha).imp fun _ hx => hx.1
theorem CM.alt {w : World} {s : CS} (h : CM w s) {a : Nat} (ha : a ∈ s.A) : a < w.heap.size := by
  obtain ⟨x, hx⟩ := h.entAny ha
  exact (Array.getElem?_eq_some_iff.1 hx).1
theorem CM.hne {w : World} {s : CS} (h : CM w s) {k : Nat} {cs : Array Value} {t : TypeId} {fr : Nat × Nat} (hk : w.heap[k]? = some (.cells cs t fr)) : s.h ≠ k := by
  obtain ⟨es, clock, hm, _⟩ := h.hm.own
  rintro rfl
  rw [hm] at hk
  cases hk

theorem CM.mineC {w : World} {s : CS} (h : CM w s) : cMine w s.h s.c := .inr ⟨Nat.le_of_lt h.lo.1, _, _, _, h.hp.cell, .inl rfl⟩
theorem CM.mineE {w : World} {s : CS} (h : CM w s) {a : Nat} (ha : a ∈ s.A) : cMine w s.h a := by
  obtain ⟨x, hx⟩ := h.entAny ha
  exact .inr ⟨Nat.le_of_lt (h.lo.2.1 a ha), _, _, _, hx, .inr (.inr rfl)⟩

def updU (U : Nat → EV) (a : Nat) (e : EV) : Nat → EV := fun k => if k = a then e else U k
theorem updU_same (U : Nat → EV) (a : Nat) (e : EV) : updU U a e a = e := by simp [updU]
theorem updU_other (U : Nat → EV) {a k : Nat} (e : EV) (h : k ≠ a) : updU U a e k = U k := by simp [updU, h]

/-- The cells of the cache's struct are turned: all else stays. -/
theorem CM.setC {w : World} {s : CS} (h : CM w s) (j : Nat) (v : Value) {uses met missed out : Nat}
    (hc : (s.ck.cells (.slice s.ip s.I.length s.icap)).setIfInBounds j v = (CS.ck { s with uses := uses, met := met, missed := missed, out := out }).cells (.slice s.ip s.I.length s.icap)) :
    CM (w.setCell ⟨s.c, j, none⟩ v) { s with uses := uses, met := met, missed := missed, out := out } := by
  have hb : But (fun k => k = s.c) w (w.setCell ⟨s.c, j, none⟩ v) := (But.refl (fun k => k = s.c) w).setCell _ rfl _
  have ne : ∀ {k : Nat} {cs : Array Value} {t : TypeId} {fr : Nat × Nat}, w.heap[k]? = some (.cells cs t fr) → t ≠ 91 → ¬ k = s.c := fun hk ht e => apart_tags hk h.hp.cell ht e
  refine ⟨⟨?_, own_but h.hp.row hb (fun _ _ _ _ hk => ne hk (by decide)), fun k hk => (h.hp.ents k hk).but hb (ne (h.hp.ents k hk) (by decide)), h.hp.nodup, h.hp.len, h.hp.used⟩, fun a ha hi => (h.rest a ha hi).but hb (ne (h.rest a ha hi) (by decide)), h.sub, h.hm.but hb (h.hne h.hp.cell), own_but h.row hb (fun _ _ _ _ hk => ne hk (by decide)), h.apart, h.lo⟩
  show (w.setCell ⟨s.c, j, none⟩ v).heap[s.c]? = _
  rw [heap_setCell_same w s.c j _ _ v h.hp.cell, hc]
theorem CM.setUses {w : World} {s : CS} (h : CM w s) (n : Nat) : CM (w.setCell ⟨s.c, 5, none⟩ (.int .i64 (n : Nat))) { s with uses := n } := h.setC 5 _ (uses := n) (met := s.met) (missed := s.missed) (out := s.out) rfl
theorem CM.setMet {w : World} {s : CS} (h : CM w s) (n : Nat) : CM (w.setCell ⟨s.c, 6, none⟩ (.int .i64 (n : Nat))) { s with met := n } := h.setC 6 _ (uses := s.uses) (met := n) (missed := s.missed) (out := s.out) rfl
theorem CM.setMissed {w : World} {s : CS} (h : CM w s) (n : Nat) : CM (w.setCell ⟨s.c, 7, none⟩ (.int .i64 (n : Nat))) { s with missed := n } := h.setC 7 _ (uses := s.uses) (met := s.met) (missed := n) (out := s.out) rfl
theorem CM.setOut {w : World} {s : CS} (h : CM w s) (n : Nat) : CM (w.setCell ⟨s.c, 8, none⟩ (.int .i64 (n : Nat))) { s with out := n } := h.setC 8 _ (uses := s.uses) (met := s.met) (missed := s.missed) (out := n) rfl

/-- A cell of an entry is turned. -/
theorem CM.setE {w : World} {s : CS} (h : CM w s) {a : Nat} (ha : a ∈ s.A) (j : Nat) (v : Value) (e' : EV) (he : ∀ x, (entCells (s.U a) x).setIfInBounds j v = entCells e' x) (hblk : e'.block = (s.U a).block) (hu : e'.used < 1000000000) :
    CM (w.setCell ⟨a, j, none⟩ v) { s with U := updU s.U a e' } := by
  have hb : But (fun k => k = a) w (w.setCell ⟨a, j, none⟩ v) := (But.refl (fun k => k = a) w).setCell _ rfl _
  obtain ⟨x0, hx0⟩ := h.entAny ha
  have ne : ∀ {k : Nat} {cs : Array Value} {t : TypeId} {fr : Nat × Nat}, w.heap[k]? = some (.cells cs t fr) → t ≠ 154 → ¬ k = a := fun hk ht e => apart_tags hk hx0 ht e
  have ent : ∀ k x, IsEnt w k (s.U k) x → IsEnt (w.setCell ⟨a, j, none⟩ v) k (updU s.U a e' k) x := fun k x hx => by
    by_cases e : k = a
    · subst e
      rw [updU_same]
      unfold IsEnt at *
      rw [heap_setCell_same w k j _ _ v hx, he]
    · rw [updU_other _ _ e]
      exact hx.other _ e _
  refine ⟨⟨(hb.block s.c (Array.getElem?_eq_some_iff.1 h.hp.cell).1 (ne h.hp.cell (by decide))).trans h.hp.cell, own_but h.hp.row hb (fun _ _ _ _ hk => ne hk (by decide)), fun k hk => ent _ _ (h.hp.ents k hk), h.hp.nodup, h.hp.len, fun k => ?_⟩, fun k hk hi => ent _ _ (h.rest k hk hi), h.sub, (h.hm.but hb (h.hne hx0)).congr fun k _ => ?_, own_but h.row hb (fun _ _ _ _ hk => ne hk (by decide)), h.apart, h.lo⟩
  · by_cases e : k = a
    · rw [e]; show (updU s.U a e' a).used < _; rw [updU_same]; exact hu
    · show (updU s.U a e' k).used < _; rw [updU_other _ _ e]; exact h.hp.used k
  · by_cases e : k = a
    · rw [e]; show (updU s.U a e' a).block = _; rw [updU_same]; exact hblk
    · show (updU s.U a e' k).block = _; rw [updU_other _ _ e]

/-- The heap was turned. -/
theorem CM.heap {w w' : World} {s : CS} (h : CM w s) {ip : Option Addr} {icap : Nat} {I' : List Nat} {S : Nat → Prop} (hp : HP w' s.c s.ck ip icap I' s.U) (hb : But S w w') (hh : ¬ S s.h)
    (hrest : ∀ a ∈ s.A, a ∉ I' → IsEnt w' a (s.U a) (-1)) (hsub : ∀ a ∈ I', a ∈ s.A) (hd : ∀ k, s.dq.map Addr.block = some k → ¬ S k) (hap : ∀ k, s.dq.map Addr.block = some k → ip.map Addr.block ≠ some k) (hil : ∀ k, ip.map Addr.block = some k → s.h < k) : CM w' { s with ip := ip, icap := icap, I := I' } := by
  refine ⟨hp, hrest, hsub, h.hm.but hb hh, own_but h.row hb (fun g cs fr hg hk => ?_), hap, h.lo.1, h.lo.2.1, hil, h.lo.2.2.2⟩
  refine hd g ?_
  cases hq : s.dq with
  | none => rw [hq] at hg; simp [Value.ownBlock] at hg
  | some a' =>
    rw [hq] at hg
    rcases h.row.2 with ⟨e, _⟩ | ⟨g', cap', cur, e, _⟩
    · rw [hq] at e; cases e
    · rw [hq] at e; cases e
      simpa [Value.ownBlock] using hg

/-- The blocks that the heap's methods turn are the cache's. -/
theorem CM.hpMine {w : World} {s : CS} (h : CM w s) {k : Nat} (hk : k = s.c ∨ hpMine s.ip s.I k) : cMine w s.h k ∧ k ≠ s.h ∧ ∀ g, s.dq.map Addr.block = some g → k ≠ g := by
  have dtag : ∀ g, s.dq.map Addr.block = some g → ∃ cs, w.heap[g]? = some (.cells cs 148 (0, 0)) := fun g hg => by
    rcases h.row.2 with ⟨e, _⟩ | ⟨g', cap', cur, e, _, hb, _⟩
    · cases hq : s.dq with
      | none => rw [hq] at hg; cases hg
      | some a' => rw [hq] at e; cases e
    · cases hq : s.dq with
      | none => rw [hq] at hg; cases hg
      | some a' =>
        rw [hq] at e hg
        cases e
        cases hg
        exact ⟨cur, hb⟩
  rcases hk with rfl | hk | hk
  · refine ⟨.inr ⟨Nat.le_of_lt h.lo.1, _, _, _, h.hp.cell, .inl rfl⟩, Ne.symm (h.hne h.hp.cell), fun g hg => ?_⟩
    obtain ⟨cs, hc⟩ := dtag g hg
    exact apart_tags h.hp.cell hc (by decide)
  · rcases h.hp.row.2 with ⟨e, _⟩ | ⟨g', cap', cur, e, _, hb, _⟩
    · cases hq : s.ip with
      | none => rw [hq] at hk; cases hk
      | some a' => rw [hq] at e; cases e
    · cases hq : s.ip with
      | none => rw [hq] at hk; cases hk
      | some a' =>
        have hk0 := hk
        rw [hq] at e hk
        cases e
        cases hk
        exact ⟨.inr ⟨Nat.le_of_lt (h.lo.2.2.1 _ hk0), _, _, _, hb, .inr (.inl rfl)⟩, Ne.symm (h.hne hb), fun g hg e => h.apart g hg (by rw [← e]; exact hk0)⟩
  · obtain ⟨x, hx⟩ := h.entAny (h.sub k hk)
    refine ⟨.inr ⟨Nat.le_of_lt (h.lo.2.1 k (h.sub k hk)), _, _, _, hx, .inr (.inr rfl)⟩, Ne.symm (h.hne hx), fun g hg => ?_⟩
    obtain ⟨cs, hc⟩ := dtag g hg
    exact apart_tags hx hc (by decide)

/-- An entry more, not in the heap. -/
theorem CM.ins {w w' : World} {s : CS} (h : CM w s) {e : EV} {nh : Nat} {F : DataW Value} (hu : e.used < 1000000000) (hhm : HM w' s.h nh F (s.A ++ [w.heap.size]) (fun a => (updU s.U w.heap.size e a).block)) (hb : But (fun k => k = s.h) (w.alloc (.cells (entCells e (-1)) 154)) w') :
    CM w' { s with nh := nh, F := F, A := s.A ++ [w.heap.size], U := updU s.U w.heap.size e } ∧ But (cMine w s.h) w w' := by
  have hA : ∀ a ∈ s.A, a ≠ w.heap.size := fun a ha => by have := h.alt ha; omega
  have hbw : But (fun k => k = s.h) w w' := ((But.refl _ w).alloc _).trans hb
  have hnew : (w.alloc (.cells (entCells e (-1)) 154)).heap[w.heap.size]? = some (.cells (entCells e (-1)) 154 (0, 0)) := heap_alloc_new w _
  have hlt := h.hm.own.lt
  have cell := h.hp.cell
  have hIA : w.heap.size ∉ s.I := fun hi => hA _ (h.sub _ hi) rfl
  refine ⟨⟨⟨(hbw.block s.c (Array.getElem?_eq_some_iff.1 cell).1 (Ne.symm (h.hne cell))).trans cell, own_but h.hp.row hbw (fun _ _ _ _ hk => Ne.symm (h.hne hk)), fun k hk => ?_, h.hp.nodup, h.hp.len, fun k => ?_⟩, fun a ha hi => ?_, fun a ha => List.mem_append.2 (.inl (h.sub a ha)), hhm, own_but h.row hbw (fun _ _ _ _ hk => Ne.symm (h.hne hk)), h.apart, h.lo.1, (fun a ha => by
    rcases List.mem_append.1 ha with ha | ha
    · exact h.lo.2.1 a ha
    · rw [List.mem_singleton.1 ha]; exact hlt), h.lo.2.2⟩, hbw.mono fun k _ hk => .inl hk⟩
  · have hz := h.hp.ents k hk
    have : s.I.getD k 0 ≠ w.heap.size := hA _ (h.sub _ (getD_mem hk))
    show IsEnt w' (s.I.getD k 0) (updU s.U w.heap.size e (s.I.getD k 0)) k
    rw [updU_other _ _ this]
    exact hz.but hbw (Ne.symm (h.hne hz))
  · show (updU s.U w.heap.size e k).used < _
    by_cases e' : k = w.heap.size
    · rw [e', updU_same]; exact hu
    · rw [updU_other _ _ e']; exact h.hp.used k
  · show IsEnt w' a (updU s.U w.heap.size e a) (-1)
    rcases List.mem_append.1 ha with ha | ha
    · rw [updU_other _ _ (hA a ha)]
      have hz := h.rest a ha hi
      exact hz.but hbw (Ne.symm (h.hne hz))
    · rw [List.mem_singleton.1 ha, updU_same]
      exact (hb.block _ (by simp) (by omega)).trans hnew

/-- An entry less, that was not in the heap. -/
theorem CM.del {w w' : World} {s : CS} (h : CM w s) {a : Nat} (ha : a ∉ s.I) {F : DataW Value} (hhm : HM w' s.h s.nh F (s.A.filter fun b => b != a) (fun a => (s.U a).block)) (hb : But (fun k => k = s.h) w w') :
    CM w' { s with F := F, A := s.A.filter fun b => b != a } := by
  have cell := h.hp.cell
  have hmem : ∀ b, b ∈ s.A.filter (fun b => b != a) ↔ b ∈ s.A ∧ b ≠ a := fun b => by simp [List.mem_filter]
  refine ⟨⟨(hb.block s.c (Array.getElem?_eq_some_iff.1 cell).1 (Ne.symm (h.hne cell))).trans cell, own_but h.hp.row hb (fun _ _ _ _ hk => Ne.symm (h.hne hk)), fun k hk => (h.hp.ents k hk).but hb (Ne.symm (h.hne (h.hp.ents k hk))), h.hp.nodup, h.hp.len, h.hp.used⟩,
    fun b hbm hi => (h.rest b ((hmem b).1 hbm).1 hi).but hb (Ne.symm (h.hne (h.rest b ((hmem b).1 hbm).1 hi))), fun b hbi => (hmem b).2 ⟨h.sub b hbi, fun e => ha (e ▸ hbi)⟩, hhm, own_but h.row hb (fun _ _ _ _ hk => Ne.symm (h.hne hk)), h.apart, h.lo.1, (fun b hbm => h.lo.2.1 b ((hmem b).1 hbm).1), h.lo.2.2⟩

end Go.Proofs.YtebdgcoandfocaaGreatDoor

/-
  isIdle, rank and use of package bcache.
-/
namespace Go.Proofs.YtebdgcoandfocaaGreatDoor
open Go.RowKit Go.Maps

def idleE (e : EV) : Bool := e.pins == 0 && !e.dirty

set_option maxRecDepth 8000 in
set_option maxHeartbeats 400000 in
theorem isIdle_any (a : Nat) (e : EV) (x : Int) (w : World) (h : IsEnt w a e x) (r : Bool) (hr : idleE e = r) :
    Calls Tryz.prog 124 #[ep a] w fun e w' => e = .returned (.bool r) ∧ w' = w := by
  have c2 : w.cell? ⟨a, 2, none⟩ = some (.int .i64 (e.pins : Nat)) := by rw [cellOf h 2]; rfl
  have c3 : w.cell? ⟨a, 3, none⟩ = some (.bool e.dirty) := by rw [cellOf h 3]; rfl
  clear h
  by_cases hp : e.pins = 0
  · have hp' : ((e.pins : Nat) : Int) = 0 := by omega
    rw [hp'] at c2
    go_enter Tryz.func124, Tryz.ntmps124
    go_wp2
    go_ret
    exact ⟨by rw [← hr]; unfold idleE; rw [hp]; simp, rfl⟩
  · have hp' : (((e.pins : Nat) : Int) == 0) = false := by rw [beq_eq_false_iff_ne]; omega
    go_enter Tryz.func124, Tryz.ntmps124
    go_wp2
    go_ret
    exact ⟨by rw [← hr]; unfold idleE; simp [hp], rfl⟩

/-- The heap's order, but for one entry. -/
def HX (s : CS) (a : Nat) : Prop := (∀ k, k < s.I.length → s.I.getD k 0 = a → FixOk (kvOf (keyU s.U) s.I) s.I.length k) ∧ (a ∉ s.I → HeapF (kvOf (keyU s.U) s.I) s.I.length)

/-- What rank makes of a cache. -/
structure Rk (w w' : World) (s s' : CS) (a : Nat) : Prop where
  cm : CM w' s'
  eq : ∃ ip icap I', s' = { s with ip := ip, icap := icap, I := I' }
  ord : HeapF (kvOf (keyU s'.U) s'.I) s'.I.length
  mem : ∀ b, b ∈ s'.I ↔ (b ∈ s.I ∧ b ≠ a) ∨ (b = a ∧ idleE (s.U a) = true)
  but : But (cMine w s.h) w w'

theorem Rk.fix {w w' : World} {s : CS} {a : Nat} {I' : List Nat} (h : CM w s) (hi : a ∈ s.I) (hid : idleE (s.U a) = true) (hp : HP w' s.c s.ck s.ip s.icap I' s.U) (hperm : I'.Perm s.I) (ho : HeapF (kvOf (keyU s.U) I') I'.length) (hb : But (hpMine s.ip s.I) w w') : Rk w w' s { s with I := I' } a := by
  have hm : ∀ k, hpMine s.ip s.I k → cMine w s.h k ∧ k ≠ s.h ∧ ∀ g, s.dq.map Addr.block = some g → k ≠ g := fun k hk => h.hpMine (.inr hk)
  refine ⟨h.heap (I' := I') hp hb (fun hs => (hm _ hs).2.1 rfl) (fun b hbm hbi => ?_) (fun b hbi => h.sub b (hperm.mem_iff.1 hbi)) (fun k hk hs => (hm _ hs).2.2 k hk rfl) h.apart h.lo.2.2.1, ⟨_, _, _, rfl⟩, ho, fun b => ?_, hb.mono fun k _ hk => (hm k hk).1⟩
  · have hbi' : b ∉ s.I := fun hx => hbi (hperm.mem_iff.2 hx)
    have hz := h.rest b hbm hbi'
    refine hz.but hb fun hs => ?_
    rcases hs with hs | hs
    · obtain ⟨h1, _, _⟩ := hm b (.inl hs)
      rcases h.hp.row.2 with ⟨e, _⟩ | ⟨g', cap', cur, e, _, hblk, _⟩
      · cases hq : s.ip with
        | none => rw [hq] at hs; cases hs
        | some a' => rw [hq] at e; cases e
      · cases hq : s.ip with
        | none => rw [hq] at hs; cases hs
        | some a' =>
          rw [hq] at e hs
          cases e
          cases hs
          exact apart_tags hz hblk (by decide) rfl
    · exact hbi' hs
  · show b ∈ I' ↔ _
    rw [hperm.mem_iff]
    constructor
    · intro hx
      by_cases e : b = a
      · exact .inr ⟨e, hid⟩
      · exact .inl ⟨hx, e⟩
    · rintro (⟨hx, _⟩ | ⟨rfl, _⟩)
      · exact hx
      · exact hi
theorem ip_tag {w : World} {s : CS} (h : CM w s) {k : Nat} (hk : s.ip.map Addr.block = some k) : ∃ cs, w.heap[k]? = some (.cells cs 148 (0, 0)) := by
  rcases h.hp.row.2 with ⟨e, _⟩ | ⟨g', cap', cur, e, _, hblk, _⟩
  · cases hq : s.ip with
    | none => rw [hq] at hk; cases hk
    | some a' => rw [hq] at e; cases e
  · cases hq : s.ip with
    | none => rw [hq] at hk; cases hk
    | some a' =>
      rw [hq] at e hk
      cases e
      cases hk
      exact ⟨_, hblk⟩
theorem dq_tag {w : World} {s : CS} (h : CM w s) {k : Nat} (hk : s.dq.map Addr.block = some k) : ∃ cs, w.heap[k]? = some (.cells cs 148 (0, 0)) := by
  rcases h.row.2 with ⟨e, _⟩ | ⟨g', cap', cur, e, _, hblk, _⟩
  · cases hq : s.dq with
    | none => rw [hq] at hk; cases hk
    | some a' => rw [hq] at e; cases e
  · cases hq : s.dq with
    | none => rw [hq] at hk; cases hk
    | some a' =>
      rw [hq] at e hk
      cases e
      cases hk
      exact ⟨_, hblk⟩
theorem Rk.push {w w' : World} {s : CS} {a : Nat} {ip : Option Addr} {icap : Nat} {I' : List Nat} (h : CM w s) (ha : a ∈ s.A) (hi : a ∉ s.I) (hid : idleE (s.U a) = true) (hp : HP w' s.c s.ck ip icap I' s.U) (hperm : I'.Perm (s.I ++ [a])) (ho : HeapF (kvOf (keyU s.U) I') I'.length) (hb : But (fun k => k = s.c ∨ k = a ∨ hpMine s.ip s.I k) w w')
    (hpl : ∀ k, k < w.heap.size → ip.map Addr.block = some k → s.ip.map Addr.block = some k) : Rk w w' s { s with ip := ip, icap := icap, I := I' } a := by
  obtain ⟨xa, hxa⟩ := h.entAny ha
  have hmem : ∀ b, b ∈ I' ↔ b ∈ s.I ∨ b = a := fun b => by rw [hperm.mem_iff]; simp
  have hm : ∀ k, (k = s.c ∨ k = a ∨ hpMine s.ip s.I k) → cMine w s.h k ∧ k ≠ s.h ∧ ∀ g, s.dq.map Addr.block = some g → k ≠ g := fun k hk => by
    rcases hk with hk | rfl | hk
    · exact h.hpMine (.inl hk)
    · refine ⟨h.mineE ha, Ne.symm (h.hne hxa), fun g hg => ?_⟩
      obtain ⟨cs, hc⟩ := dq_tag h hg
      exact apart_tags hxa hc (by decide)
    · exact h.hpMine (.inr hk)
  refine ⟨h.heap (I' := I') hp hb (fun hs => (hm _ hs).2.1 rfl) (fun b hbm hbi => ?_) (fun b hbi => ?_) (fun k hk hs => (hm _ hs).2.2 k hk rfl) (fun k hk e => ?_) (fun k hk => ?_), ⟨_, _, _, rfl⟩, ho, fun b => ?_, hb.mono fun k _ hk => (hm k hk).1⟩
  · have hbi' : b ∉ s.I := fun hx => hbi ((hmem b).2 (.inl hx))
    have hba : b ≠ a := fun e => hbi ((hmem b).2 (.inr e))
    have hz := h.rest b hbm hbi'
    refine hz.but hb fun hs => ?_
    rcases hs with rfl | hs | hs | hs
    · exact apart_tags hz h.hp.cell (by decide) rfl
    · exact hba hs
    · obtain ⟨cs, hc⟩ := ip_tag h hs
      exact apart_tags hz hc (by decide) rfl
    · exact hbi' hs
  · rcases (hmem b).1 hbi with hx | rfl
    · exact h.sub b hx
    · exact ha
  · obtain ⟨cs, hc⟩ := dq_tag h hk
    exact h.apart k hk (hpl k (Array.getElem?_eq_some_iff.1 hc).1 e)
  · by_cases hlt : k < w.heap.size
    · exact h.lo.2.2.1 k (hpl k hlt hk)
    · have := h.hm.own.lt
      omega
  · show b ∈ I' ↔ _
    rw [hmem]
    constructor
    · rintro (hx | rfl)
      · exact .inl ⟨hx, fun e => hi (e ▸ hx)⟩
      · exact .inr ⟨rfl, hid⟩
    · rintro (⟨hx, _⟩ | ⟨rfl, _⟩)
      · exact .inl hx
      · exact .inr rfl
theorem Rk.remove {w w' : World} {s : CS} {a : Nat} {I' : List Nat} (h : CM w s) (hi : a ∈ s.I) (hid : idleE (s.U a) = false) (hp : HP w' s.c s.ck s.ip s.icap I' s.U) (hperm : (I' ++ [a]).Perm s.I) (ho : HeapF (kvOf (keyU s.U) I') I'.length) (hE : IsEnt w' a (s.U a) (-1)) (hb : But (fun k => k = s.c ∨ hpMine s.ip s.I k) w w') : Rk w w' s { s with I := I' } a ∧ a ∉ I' := by
  have hnd : (I' ++ [a]).Nodup := hperm.nodup_iff.2 h.hp.nodup
  have hna : a ∉ I' := fun hx => (List.nodup_append.1 hnd).2.2 a hx a (by simp) rfl
  have hmem : ∀ b, b ∈ s.I ↔ b ∈ I' ∨ b = a := fun b => by rw [← hperm.mem_iff]; simp
  have hm : ∀ k, (k = s.c ∨ hpMine s.ip s.I k) → cMine w s.h k ∧ k ≠ s.h ∧ ∀ g, s.dq.map Addr.block = some g → k ≠ g := fun k hk => h.hpMine hk
  refine ⟨⟨h.heap (I' := I') hp hb (fun hs => (hm _ hs).2.1 rfl) (fun b hbm hbi => ?_) (fun b hbi => h.sub b ((hmem b).2 (.inl hbi))) (fun k hk hs => (hm _ hs).2.2 k hk rfl) h.apart h.lo.2.2.1, ⟨_, _, _, rfl⟩, ho, fun b => ?_, hb.mono fun k _ hk => (hm k hk).1⟩, hna⟩
  · by_cases e : b = a
    · subst e; exact hE
    · have hbi' : b ∉ s.I := fun hx => by
        rcases (hmem b).1 hx with hx | hx
        · exact hbi hx
        · exact e hx
      have hz := h.rest b hbm hbi'
      refine hz.but hb fun hs => ?_
      rcases hs with rfl | hs | hs
      · exact apart_tags hz h.hp.cell (by decide) rfl
      · obtain ⟨cs, hc⟩ := ip_tag h hs
        exact apart_tags hz hc (by decide) rfl
      · exact hbi' hs
  · show b ∈ I' ↔ _
    constructor
    · intro hx
      exact .inl ⟨(hmem b).2 (.inl hx), fun e => hna (e ▸ hx)⟩
    · rintro (⟨hx, hne⟩ | ⟨_, hx⟩)
      · rcases (hmem b).1 hx with hx | hx
        · exact hx
        · exact absurd hx hne
      · rw [hid] at hx; cases hx

set_option maxRecDepth 8000 in
set_option maxHeartbeats 2000000 in
theorem rank_any (s : CS) (a : Nat) (w : World) (h : CM w s) (ha : a ∈ s.A) (hx : HX s a) (hl : s.I.length + 1 < 1000000) :
    Calls Tryz.prog 110 #[ep s.c, ep a] w fun e w' => e = .returned (.tuple #[]) ∧ ∃ s', Rk w w' s s' a := by
  obtain ⟨x, hE, hin, hout⟩ := h.ent ha
  have c5 : w.cell? ⟨a, 5, none⟩ = some (.int .i64 x) := by rw [cellOf hE 5]; rfl
  by_cases hi : a ∈ s.I
  · obtain ⟨k, hk, hka, rfl⟩ := hin hi
    have hne : (((k : Nat) : Int) != -1) = true := by rw [bne_iff_ne]; omega
    by_cases hid : idleE (s.U a) = true
    · have cI := isIdle_any a (s.U a) _ w hE true hid
      have cF : ∀ q, Calls Tryz.prog 125 #[hI s.c, .int .i64 (k : Nat)] (w.drewN q) fun e w' => e = .returned (.tuple #[]) ∧ ∃ I', HP w' s.c s.ck s.ip s.icap I' s.U ∧ I'.Perm s.I ∧ HeapF (kvOf (keyU s.U) I') I'.length ∧ But (hpMine s.ip s.I) w w' := fun q => by
        refine (hFix_any s.c s.ck s.ip s.icap s.I s.U k (w.drewN q) (h.hp.drewN q) hk (hx.1 k hk hka)).mono ?_
        rintro e w' ⟨rfl, I', h1, h2, h3, h4⟩
        exact ⟨rfl, I', h1, h2, h3, ⟨h4.os, h4.tape, h4.output, h4.size, h4.block⟩⟩
      have cF' := cF 1
      have H0 : Hid (CM w s) := h
      clear h hx cF hE hin hout
      go_enter Tryz.func110, Tryz.ntmps110
      go_wp2_with (go_at_call 124; refine Calls_on cI ?_)
      go_region_with (go_at_call 125; refine (show Calls Tryz.prog 125 #[hI s.c, .int .i64 (k : Nat)] w.drew _ from cF').mono ?_; rintro e w1 ⟨rfl, I1, h1, h2, h3, h4⟩)
      all_goals go_wp2
      all_goals go_end0
      all_goals exact ⟨rfl, _, Rk.fix H0.out hi hid h1 h2 h3 h4⟩
    · have hid' : idleE (s.U a) = false := by simpa using hid
      have cI := isIdle_any a (s.U a) _ w hE false hid'
      have cF' : Calls Tryz.prog 127 #[hI s.c, .int .i64 (k : Nat)] w.drew fun e w' => e = .returned (.iface 148 (ep a)) ∧ ∃ I', HP w' s.c s.ck s.ip s.icap I' s.U ∧ (I' ++ [a]).Perm s.I ∧ HeapF (kvOf (keyU s.U) I') I'.length ∧ IsEnt w' a (s.U a) (-1) ∧ But (fun k => k = s.c ∨ hpMine s.ip s.I k) w w' := by
        refine (hRemove_any s.c s.ck s.ip s.icap s.I s.U k a w.drew h.hp.drew hk hka (hx.1 k hk hka)).mono ?_
        rintro e w' ⟨rfl, I', h1, h2, h3, h4, h5⟩
        exact ⟨rfl, I', h1, h2, h3, h4, ⟨h5.os, h5.tape, h5.output, h5.size, h5.block⟩⟩
      have H0 : Hid (CM w s) := h
      clear h hx hE hin hout
      go_enter Tryz.func110, Tryz.ntmps110
      go_wp2_with (go_at_call 124; refine Calls_on cI ?_)
      go_region_with (go_at_call 127; refine cF'.mono ?_; rintro e w1 ⟨rfl, I1, h1, h2, h3, h4, h5⟩)
      all_goals go_wp2
      all_goals go_end0
      all_goals exact ⟨rfl, _, (Rk.remove H0.out hi hid' h1 h2 h3 h4 h5).1⟩
  · obtain rfl := hout hi
    have hne : ((-1 : Int) != -1) = false := by decide
    by_cases hid : idleE (s.U a) = true
    · have cI := isIdle_any a (s.U a) _ w hE true hid
      have cF' := hPush_any s.c s.ck s.ip s.icap a s.I s.U (-1) w h.hp hE hi hl (hx.2 hi)
      have H0 : Hid (CM w s) := h
      clear h hx hE hin hout
      go_enter Tryz.func110, Tryz.ntmps110
      go_wp2_with (first
        | (go_at_call 124; refine Calls_on cI ?_)
        | (go_at_call 126; refine cF'.mono ?_; rintro e w1 ⟨rfl, p1, cap1, I1, h1, h2, h3, h4, h5⟩))
      go_end0
      exact ⟨rfl, _, Rk.push H0.out ha hi hid h1 h2 h3 h4 h5⟩
    · have hid' : idleE (s.U a) = false := by simpa using hid
      have cI := isIdle_any a (s.U a) _ w hE false hid'
      have H0 : Hid (CM w s ∧ HeapF (kvOf (keyU s.U) s.I) s.I.length) := ⟨h, hx.2 hi⟩
      clear h hx hE hin hout
      go_enter Tryz.func110, Tryz.ntmps110
      go_wp2_with (go_at_call 124; refine Calls_on cI ?_)
      go_end0
      refine ⟨rfl, s, H0.out.1, ⟨_, _, _, rfl⟩, H0.out.2, fun b => ?_, But.refl _ _⟩
      constructor
      · intro hb
        exact .inl ⟨hb, fun e => hi (e ▸ hb)⟩
      · rintro (⟨hb, _⟩ | ⟨_, hb⟩)
        · exact hb
        · rw [hid'] at hb; cases hb

/-- What use makes of a cache. -/
structure Us (w w' : World) (s s' : CS) (a : Nat) : Prop where
  cm : CM w' s'
  eq : ∃ ip icap I', s' = { s with uses := s.uses + 1, U := updU s.U a { s.U a with used := s.uses + 1 }, ip := ip, icap := icap, I := I' }
  ord : HeapF (kvOf (keyU s'.U) s'.I) s'.I.length
  mem : ∀ b, b ∈ s'.I ↔ (b ∈ s.I ∧ b ≠ a) ∨ (b = a ∧ idleE (s.U a) = true)
  but : But (cMine w s.h) w w'

theorem kvOf_upd {U : Nat → EV} {I : List Nat} {a : Nat} (hn : I.Nodup) (e : EV) {k i : Nat} (hi : I.getD i 0 = a) (hil : i < I.length) (hk : k < I.length) (hki : k ≠ i) : kvOf (keyU (updU U a e)) I k = kvOf (keyU U) I k := by
  unfold kvOf keyU
  rw [updU_other _ _ (fun e' => hki (getD_inj hn hk hil (e'.trans hi.symm)))]
theorem kvOf_upd_not {U : Nat → EV} {I : List Nat} {a : Nat} (hi : a ∉ I) (e : EV) {k : Nat} (hk : k < I.length) : kvOf (keyU (updU U a e)) I k = kvOf (keyU U) I k := by
  have hne : I.getD k 0 ≠ a := fun e' => hi (e' ▸ getD_mem hk)
  unfold kvOf keyU
  rw [updU_other _ _ hne]
/-- An entry's key is turned: the heap's order holds but for it. -/
theorem hx_upd {s : CS} {a : Nat} (hn : s.I.Nodup) (hx : HX s a) (e : EV) : HX { s with U := updU s.U a e } a := by
  refine ⟨fun k hk hka => ?_, fun hi => ?_⟩
  · show FixOk (kvOf (keyU (updU s.U a e)) s.I) s.I.length k
    exact (hx.1 k hk hka).cut (Nat.le_refl _) fun j hj hjk => kvOf_upd hn e hka hk hj hjk
  · show HeapF (kvOf (keyU (updU s.U a e)) s.I) s.I.length
    exact (hx.2 hi).less (Nat.le_refl _) fun j hj => kvOf_upd_not hi e hj
theorem hx_of_ord {s : CS} {a : Nat} (h : HeapF (kvOf (keyU s.U) s.I) s.I.length) : HX s a := ⟨fun _ hk _ => h.toFix hk, fun _ => h⟩

set_option maxRecDepth 8000 in
set_option maxHeartbeats 1000000 in
theorem use_any (s : CS) (a : Nat) (w : World) (h : CM w s) (ha : a ∈ s.A) (hx : HX s a) (hl : s.I.length + 1 < 1000000) (hu : s.uses < 1000000) :
    Calls Tryz.prog 91 #[ep s.c, ep a] w fun e w' => e = .returned (.tuple #[]) ∧ ∃ s', Us w w' s s' a := by
  obtain ⟨x, hE⟩ := h.entAny ha
  have c5 : w.cell? ⟨s.c, 5, none⟩ = some (.int .i64 (s.uses : Nat)) := by rw [cellOf h.hp.cell 5]; rfl
  have f5 := frozenOf h.hp.cell 5
  have c4 : w.cell? ⟨a, 4, none⟩ = some (.int .i64 ((s.U a).used : Nat)) := by rw [cellOf hE 4]; rfl
  have f4 := frozenOf hE 4
  have ca : s.c ≠ a := apart_tags h.hp.cell hE (by decide)
  have ca' := Ne.symm ca
  have h1 := h.setUses (s.uses + 1)
  have h2 := h1.setE (a := a) ha 4 (.int .i64 (s.uses + 1 : Nat)) { s.U a with used := s.uses + 1 } (fun _ => rfl) rfl (by show s.uses + 1 < _; omega)
  have hx2 := hx_upd (s := { s with uses := s.uses + 1 }) (a := a) h.hp.nodup ⟨hx.1, hx.2⟩ { s.U a with used := s.uses + 1 }
  have cR := rank_any _ a _ h2 ha hx2 hl
  obtain ⟨z, hz, e1⟩ : ∃ z : Int, ((s.uses + 1 : Nat) : Int) = z ∧ ((s.uses : Nat) : Int) + 1 = z := ⟨_, rfl, by omega⟩
  have mC : cMine w s.h s.c := h.mineC
  have mE : cMine w s.h a := h.mineE ha
  have hB : But (cMine w s.h) w ((w.setCell ⟨s.c, 5, none⟩ (.int .i64 (s.uses + 1 : Nat))).setCell ⟨a, 4, none⟩ (.int .i64 (s.uses + 1 : Nat))) := (((But.refl (cMine w s.h) w).setCell _ mC _).setCell _ mE _)
  have HB : Hid (But (cMine w s.h) w ((w.setCell ⟨s.c, 5, none⟩ (.int .i64 (s.uses + 1 : Nat))).setCell ⟨a, 4, none⟩ (.int .i64 (s.uses + 1 : Nat)))) := hB
  clear h h1 h2 hx hx2 hE hB mC mE
  rw [hz] at cR HB
  clear hz
  go_enter Tryz.func91, Tryz.ntmps91
  go_wp2_with fail
  refine cR.mono ?_
  rintro e w' ⟨rfl, s', hR⟩
  clear cR
  go_wp2
  go_end0
  obtain ⟨ip, icap, I', he⟩ := hR.eq
  refine ⟨rfl, s', hR.cm, ⟨ip, icap, I', he⟩, hR.ord, fun b => ?_, cMine_trans HB.out hR.but⟩
  have := hR.mem b
  simp only [updU_same] at this
  exact this

end Go.Proofs.YtebdgcoandfocaaGreatDoor

/-
  makeRoom and hold of package bcache.
-/
namespace Go.Proofs.YtebdgcoandfocaaGreatDoor
open Go.RowKit Go.Maps

theorem cm_removed {w w' : World} {s : CS} {a : Nat} {I' : List Nat} (h : CM w s) (hp : HP w' s.c s.ck s.ip s.icap I' s.U) (hperm : (I' ++ [a]).Perm s.I) (hE : IsEnt w' a (s.U a) (-1)) (hb : But (fun k => k = s.c ∨ hpMine s.ip s.I k) w w') :
    CM w' { s with I := I' } ∧ a ∉ I' ∧ (∀ b, b ∈ s.I ↔ b ∈ I' ∨ b = a) ∧ But (cMine w s.h) w w' := by
  have hnd : (I' ++ [a]).Nodup := hperm.nodup_iff.2 h.hp.nodup
  have hna : a ∉ I' := fun hx => (List.nodup_append.1 hnd).2.2 a hx a (by simp) rfl
  have hmem : ∀ b, b ∈ s.I ↔ b ∈ I' ∨ b = a := fun b => by rw [← hperm.mem_iff]; simp
  have hm : ∀ k, (k = s.c ∨ hpMine s.ip s.I k) → cMine w s.h k ∧ k ≠ s.h ∧ ∀ g, s.dq.map Addr.block = some g → k ≠ g := fun k hk => h.hpMine hk
  refine ⟨h.heap (I' := I') hp hb (fun hs => (hm _ hs).2.1 rfl) (fun b hbm hbi => ?_) (fun b hbi => h.sub b ((hmem b).2 (.inl hbi))) (fun k hk hs => (hm _ hs).2.2 k hk rfl) h.apart h.lo.2.2.1, hna, hmem, hb.mono fun k _ hk => (hm k hk).1⟩
  by_cases e : b = a
  · subst e; exact hE
  · have hbi' : b ∉ s.I := fun hx => by
      rcases (hmem b).1 hx with hx | hx
      · exact hbi hx
      · exact e hx
    have hz := h.rest b hbm hbi'
    refine hz.but hb fun hs => ?_
    rcases hs with rfl | hs | hs
    · exact apart_tags hz h.hp.cell (by decide) rfl
    · obtain ⟨cs, hc⟩ := ip_tag h hs
      exact apart_tags hz hc (by decide) rfl
    · exact hbi' hs

theorem held_len {w : World} {s : CS} (h : CM w s) (ty : TypeId) : (Builtin.len_ #[87] ty #[.map (some s.h)]).run Tryz.prog w = .ok (.int .i64 (s.A.length : Nat)) w := by
  have := h.hm.own.len Tryz.underlying87 ty
  rw [h.hm.size] at this
  exact this

set_option maxRecDepth 8000 in
set_option maxHeartbeats 1000000 in
theorem makeRoom_yes (s : CS) (w : World) (h : CM w s) (hlt : s.A.length < s.room) (_hr : s.room ≤ 4096) :
    Calls Tryz.prog 122 #[ep s.c] w fun e w' => e = .returned (.int .i64 0) ∧ ∃ q, w' = w.drewN q := by
  have c1 : w.cell? ⟨s.c, 1, none⟩ = some (.int .i64 (s.room : Nat)) := by rw [cellOf h.hp.cell 1]; rfl
  have c2 : w.cell? ⟨s.c, 2, none⟩ = some (.map (some s.h)) := by rw [cellOf h.hp.cell 2]; rfl
  have l1 : ∀ ty q, (Builtin.len_ #[87] ty #[.map (some s.h)]).run Tryz.prog (w.drewN q) = .ok (.int .i64 (s.A.length : Nat)) (w.drewN q) := fun ty q => held_len (h.drewN q) ty
  have hltI : ((s.A.length : Nat) : Int) < (s.room : Nat) := by omega
  clear h
  go_enter Tryz.func122, Tryz.ntmps122
  go_wp2_with fail
  go_quiet (fail)
  go_wp2
  go_ret
  exact ⟨rfl, _, rfl⟩

set_option maxRecDepth 8000 in
set_option maxHeartbeats 1000000 in
theorem makeRoom_no (s : CS) (w : World) (h : CM w s) (hlt : s.room ≤ s.A.length) (hI : s.I = []) :
    Calls Tryz.prog 122 #[ep s.c] w fun e w' => e = .returned (.int .i64 28) ∧ ∃ q, w' = w.drewN q := by
  have c1 : w.cell? ⟨s.c, 1, none⟩ = some (.int .i64 (s.room : Nat)) := by rw [cellOf h.hp.cell 1]; rfl
  have c2 : w.cell? ⟨s.c, 2, none⟩ = some (.map (some s.h)) := by rw [cellOf h.hp.cell 2]; rfl
  have c4 := h.hp.cell4
  rw [hI] at c4
  have l1 : ∀ ty q, (Builtin.len_ #[87] ty #[.map (some s.h)]).run Tryz.prog (w.drewN q) = .ok (.int .i64 (s.A.length : Nat)) (w.drewN q) := fun ty q => held_len (h.drewN q) ty
  have hltI : ¬ ((s.A.length : Nat) : Int) < (s.room : Nat) := by omega
  clear h
  go_enter Tryz.func122, Tryz.ntmps122
  go_wp2_with fail
  go_quiet (fail)
  go_wp2
  go_ret
  exact ⟨rfl, _, rfl⟩

/-- What is taken out. -/
structure Mr (w w' : World) (s s' : CS) (a : Nat) : Prop where
  cm : CM w' s'
  eq : ∃ F I', s' = { s with F := F, I := I', A := s.A.filter (fun b => b != a), out := s.out + 1 }
  ord : HeapF (kvOf (keyU s'.U) s'.I) s'.I.length
  inI : a ∈ s.I
  least : ∀ b ∈ s.I, (s.U a).used ≤ (s.U b).used
  mem : ∀ b, b ∈ s'.I ↔ b ∈ s.I ∧ b ≠ a
  but : But (cMine w s.h) w w'

set_option maxRecDepth 8000 in
set_option maxHeartbeats 2000000 in
theorem makeRoom_out (s : CS) (w : World) (h : CM w s) (hlt : s.room ≤ s.A.length) (hpos : 0 < s.I.length) (ho : HeapF (kvOf (keyU s.U) s.I) s.I.length) (hout : s.out < 1000000) :
    Calls Tryz.prog 122 #[ep s.c] w fun e w' => e = .returned (.int .i64 0) ∧ ∃ a s', Mr w w' s s' a := by
  have c1 : w.cell? ⟨s.c, 1, none⟩ = some (.int .i64 (s.room : Nat)) := by rw [cellOf h.hp.cell 1]; rfl
  have c2 : w.cell? ⟨s.c, 2, none⟩ = some (.map (some s.h)) := by rw [cellOf h.hp.cell 2]; rfl
  have c4 := h.hp.cell4
  obtain ⟨g, cur, hip, hb, hl1, hl2, hl3, hl4⟩ := h.hp.form hpos
  obtain ⟨n, hn⟩ : ∃ n, s.I.length = n + 1 := ⟨s.I.length - 1, by omega⟩
  obtain ⟨a, ha⟩ : ∃ a, s.I.getD 0 0 = a := ⟨_, rfl⟩
  have g0 : w.cell? ⟨g, 0, none⟩ = some (ep a) := by
    have h' := h.hp
    rw [hip] at h'
    have := h'.cellAt 0 hpos
    rw [ha] at this
    exact this
  have hE : IsEnt w a (s.U a) ((0 : Nat) : Int) := by have := h.hp.ents 0 hpos; rw [ha] at this; exact this
  have a5 : w.cell? ⟨a, 5, none⟩ = some (.int .i64 0) := by rw [cellOf hE 5]; rfl
  have l1 : ∀ ty q, (Builtin.len_ #[87] ty #[.map (some s.h)]).run Tryz.prog (w.drewN q) = .ok (.int .i64 (s.A.length : Nat)) (w.drewN q) := fun ty q => held_len (h.drewN q) ty
  have hltI : ¬ ((s.A.length : Nat) : Int) < (s.room : Nat) := by omega
  have haI : a ∈ s.I := by rw [← ha]; exact getD_mem hpos
  have hleast : ∀ b ∈ s.I, (s.U a).used ≤ (s.U b).used := fun b hbm => by
    obtain ⟨k, hk, e⟩ := List.getElem_of_mem hbm
    have := ho.least k hk
    unfold kvOf keyU at this
    rw [ha] at this
    simpa [List.getD, hk, e] using this
  have cF : ∀ q, Calls Tryz.prog 127 #[hI s.c, .int .i64 0] (w.drewN q) fun e w' => e = .returned (.iface 148 (ep a)) ∧ ∃ I', HP w' s.c s.ck s.ip s.icap I' s.U ∧ (I' ++ [a]).Perm s.I ∧ HeapF (kvOf (keyU s.U) I') I'.length ∧ IsEnt w' a (s.U a) (-1) ∧ But (fun k => k = s.c ∨ hpMine s.ip s.I k) w w' := fun q => by
    refine (hRemove_any s.c s.ck s.ip s.icap s.I s.U 0 a (w.drewN q) (h.hp.drewN q) hpos ha (ho.toFix hpos)).mono ?_
    rintro e w' ⟨rfl, I', h1, h2, h3, h4, h5⟩
    exact ⟨rfl, I', h1, h2, h3, h4, ⟨h5.os, h5.tape, h5.output, h5.size, h5.block⟩⟩
  rw [hip, hn] at c4
  have H0 : Hid (CM w s ∧ a ∈ s.I ∧ (∀ b ∈ s.I, (s.U a).used ≤ (s.U b).used)) := ⟨h, haI, hleast⟩
  have hz : (((n + 1 : Nat) : Int) == 0) = false := by rw [beq_eq_false_iff_ne]; omega
  clear h ho hb hl1 hl2 hl3 hl4 hE haI hleast ha hip
  go_enter Tryz.func122, Tryz.ntmps122
  go_wp2_with fail
  go_quiet (fail)
  go_wp2_with fail
  have a5' : (w.drewN nq).cell? ⟨a, 5, none⟩ = some (.int .i64 0) := a5
  have cF' : Calls Tryz.prog 127 #[hI s.c, .int .i64 0] ((w.drewN nq).drew) fun e w' => e = .returned (.iface 148 (ep a)) ∧ ∃ I', HP w' s.c s.ck s.ip s.icap I' s.U ∧ (I' ++ [a]).Perm s.I ∧ HeapF (kvOf (keyU s.U) I') I'.length ∧ IsEnt w' a (s.U a) (-1) ∧ But (fun k => k = s.c ∨ hpMine s.ip s.I k) w w' := cF (nq + 1)
  generalize w.drewN nq = W at a5' cF' ⊢
  clear a5 cF l1 c1 c2 c4 g0
  go_region_with (go_at_call 127; refine cF'.mono ?_; rintro e w1 ⟨rfl, I1, h1, h2, h3, h4, h5⟩)
  all_goals
    clear cF' a5'
    obtain ⟨cm1, hna, hmem, hb1⟩ := cm_removed H0.out.1 h1 h2 h4 h5
    have d2 : w1.cell? ⟨s.c, 2, none⟩ = some (.map (some s.h)) := by rw [cellOf cm1.hp.cell 2]; rfl
    have d0 : w1.cell? ⟨a, 0, none⟩ = some (.int .i64 ((s.U a).block : Nat)) := by rw [cellOf h4 0]; rfl
    have hm1 : HM w1.drew s.h s.nh s.F s.A (fun a => (s.U a).block) := cm1.hm.but (S := fun _ => False) ⟨rfl, rfl, rfl, Nat.le_refl _, fun _ _ _ => rfl⟩ (fun h => h)
    obtain ⟨w3, F3, hdel, hm3, hb3⟩ := hm1.del (H0.out.1.sub a H0.out.2.1) 0
    have hb3' : But (fun k => k = s.h) w1 w3 := ⟨hb3.os, hb3.tape, hb3.output, hb3.size, hb3.block⟩
    have cm3 := cm1.del (a := a) hna hm3 hb3'
    have d8 : w3.cell? ⟨s.c, 8, none⟩ = some (.int .i64 (s.out : Nat)) := by rw [cellOf cm3.hp.cell 8]; rfl
    have f8 := frozenOf cm3.hp.cell 8
    have cm4 := cm3.setOut (s.out + 1)
    have mC : cMine w3 s.h s.c := cm3.mineC
    obtain ⟨z, hz, e1⟩ : ∃ z : Int, ((s.out + 1 : Nat) : Int) = z ∧ ((s.out : Nat) : Int) + 1 = z := ⟨_, rfl, by omega⟩
    have hB3 : But (cMine w s.h) w w3 := cMine_trans hb1 (hb3'.mono fun k _ hk => .inl hk)
    have hB4 : But (cMine w s.h) w (w3.setCell ⟨s.c, 8, none⟩ (.int .i64 ((s.out + 1 : Nat) : Int))) := cMine_trans hB3 ((But.refl (cMine w3 s.h) w3).setCell _ mC _)
    have HF : Hid (Mr w (w3.setCell ⟨s.c, 8, none⟩ (.int .i64 ((s.out + 1 : Nat) : Int))) s { s with F := F3, I := I1, A := s.A.filter (fun b => b != a), out := s.out + 1 } a) := ⟨cm4, ⟨_, _, rfl⟩, h3, H0.out.2.1, H0.out.2.2, fun b => ⟨fun hb => ⟨(hmem b).2 (.inl hb), fun e => hna (e ▸ hb)⟩, fun hb => ((hmem b).1 hb.1).resolve_right hb.2⟩, hB4⟩
    rw [hz] at HF
    clear hz cm1 hna hmem hb1 h1 h2 h3 h4 h5 hm1 hm3 hb3 hb3' cm3 cm4 mC hB3 hB4
    go_wp2_with fail
    go_region
    all_goals go_wp2
    all_goals go_ret
    all_goals exact ⟨rfl, a, _, HF.out⟩

end Go.Proofs.YtebdgcoandfocaaGreatDoor

/-
  hold of package bcache.
-/
namespace Go.Proofs.YtebdgcoandfocaaGreatDoor
open Go.RowKit Go.Maps

def newE (block : Nat) : EV := ⟨block, none, 0, 0, 0, false, 0⟩

set_option maxRecDepth 8000 in
set_option maxHeartbeats 1000000 in
theorem hold_yes (s : CS) (a : Nat) (w : World) (h : CM w s) (ha : a ∈ s.A) :
    Calls Tryz.prog 107 #[ep s.c, .int .i64 ((s.U a).block : Nat)] w fun e w' => e = .returned (.tuple #[ep a, .int .i64 0]) ∧ w' = w := by
  have c2 : w.cell? ⟨s.c, 2, none⟩ = some (.map (some s.h)) := by rw [cellOf h.hp.cell 2]; rfl
  have l1 := h.hm.look_yes ha
  clear h
  go_enter Tryz.func107, Tryz.ntmps107
  go_wp2
  go_ret2
  exact ⟨rfl, rfl⟩

set_option maxRecDepth 8000 in
set_option maxHeartbeats 1000000 in
theorem hold_no (s : CS) (block : Nat) (w : World) (h : CM w s) (hb : block < 1000000) (hno : ∀ a ∈ s.A, (s.U a).block ≠ block) (hlt : s.room ≤ s.A.length) (hI0 : s.I = []) :
    Calls Tryz.prog 107 #[ep s.c, .int .i64 (block : Nat)] w fun e w' => e = .returned (.tuple #[.pointer none, .int .i64 28]) ∧ ∃ q, w' = w.drewN q := by
  have c2 : w.cell? ⟨s.c, 2, none⟩ = some (.map (some s.h)) := by rw [cellOf h.hp.cell 2]; rfl
  have l1 := h.hm.look_no (x := (block : Int)) (by omega) (by omega) (fun a ha e => hno a ha (by omega))
  have cM := makeRoom_no s w h hlt hI0
  clear h
  go_enter Tryz.func107, Tryz.ntmps107
  go_wp2_with (go_at_call 122; refine cM.mono ?_; rintro e w1 ⟨rfl, q, rfl⟩)
  go_ret2
  exact ⟨rfl, q, rfl⟩

set_option maxRecDepth 8000 in
set_option maxHeartbeats 2000000 in
theorem hold_new (s : CS) (block : Nat) (w : World) (h : CM w s) (hb : block < 1000000) (hno : ∀ a ∈ s.A, (s.U a).block ≠ block) (Q : World → CS → Prop)
    (cM : Calls Tryz.prog 122 #[ep s.c] w fun e w1 => e = .returned (.int .i64 0) ∧ ∃ s1, Hid (CM w1 s1 ∧ s1.c = s.c ∧ s1.h = s.h ∧ (∀ a ∈ s1.A, a ∈ s.A) ∧ s1.U = s.U ∧ s1.nh < 1000000 ∧ Q w1 s1)) :
    Calls Tryz.prog 107 #[ep s.c, .int .i64 (block : Nat)] w fun e w' => ∃ w1 s1 F, e = .returned (.tuple #[ep w1.heap.size, .int .i64 0]) ∧ Q w1 s1 ∧ CM w1 s1 ∧ CM w' { s1 with nh := s1.nh + 1, F := F, A := s1.A ++ [w1.heap.size], U := updU s1.U w1.heap.size (newE block) } ∧ But (cMine w1 s1.h) w1 w' := by
  have c2 : w.cell? ⟨s.c, 2, none⟩ = some (.map (some s.h)) := by rw [cellOf h.hp.cell 2]; rfl
  have l1 := h.hm.look_no (x := (block : Int)) (by omega) (by omega) (fun a ha e => hno a ha (by omega))
  clear h
  go_enter Tryz.func107, Tryz.ntmps107
  go_wp2_with (go_at_call 122; refine cM.mono ?_; rintro e w1 ⟨rfl, s1, HQ⟩; clear cM; refine Stop.out ?_)
  refine Stop.mk ?_
  obtain ⟨cm1, hc, hh, hA, hU, hnh, _⟩ := HQ.out
  have d2 : w1.cell? ⟨s.c, 2, none⟩ = some (.map (some s.h)) := by rw [← hc, cellOf cm1.hp.cell 2, ← hh]; rfl
  have hcl : s.c < w1.heap.size := by rw [← hc]; exact (Array.getElem?_eq_some_iff.1 cm1.hp.cell).1
  have hcn : s.c ≠ w1.heap.size := by omega
  have hnA : w1.heap.size ∉ s1.A := fun hx => by have := cm1.alt hx; omega
  have hneA : ∀ b ∈ s1.A, b ≠ w1.heap.size := fun b hbm e => hnA (e ▸ hbm)
  have hm1 : HM (w1.alloc (.cells #[.int .i64 (block : Nat), .slice none 0 0, .int .i64 0, .bool false, .int .i64 0, .int .i64 (-1)] 154)) s1.h s1.nh s1.F s1.A (fun a => (updU s1.U w1.heap.size (newE block) a).block) :=
    (cm1.hm.but (S := fun _ => False) ((But.refl _ w1).alloc _) (fun h => h)).congr fun a ha => by rw [updU_other _ _ (hneA a ha)]
  have hbl : (updU s1.U w1.heap.size (newE block) w1.heap.size).block = block := by rw [updU_same]; rfl
  obtain ⟨w2, F, hput, hm2, hb2⟩ := hm1.ins (a := w1.heap.size) hnA (by rw [hbl]; exact hb) (fun b hbm => by rw [hbl, updU_other _ _ (hneA b hbm), hU]; exact hno b (hA b hbm)) hnh
  rw [hbl, hh] at hput
  obtain ⟨cm2, hB2⟩ := cm1.ins (e := newE block) (by show 0 < 1000000000; omega) hm2 hb2
  have HF : Hid (CM w2 { s1 with nh := s1.nh + 1, F := F, A := s1.A ++ [w1.heap.size], U := updU s1.U w1.heap.size (newE block) } ∧ But (cMine w1 s1.h) w1 w2) := ⟨cm2, hB2⟩
  clear cm1 hc hh hA hU hnh hnA hneA hm1 hbl hm2 hb2 cm2 hB2 l1 c2
  go_wp2
  go_ret2
  exact ⟨w1, s1, F, rfl, HQ.out.2.2.2.2.2.2, HQ.out.1, HF.out.1, HF.out.2⟩

end Go.Proofs.YtebdgcoandfocaaGreatDoor

/-
  Read of a volume, and where what it answers lies.
-/
namespace Go.Proofs.YtebdgcoandfocaaGreatDoor
open Go.RowKit Go.Maps Go.Sort Go.Shelf

set_option maxRecDepth 8000 in
set_option maxHeartbeats 1000000 in
theorem vReadT_fresh (i : Nat) (b : By) (v : Nat) (commits turn next : Nat) (f nf : Nat) (F : DataW Value) (fr : Nat → Option By) (d : DS) (w : World) (h : IsVol w v (dp d.a) commits turn next (some f) d.count) (hd : Dev w d) (hn : 16 ≤ d.n) (hF : Fresh w f nf F fr) (hi : i < nbOf d.n) (hfr : fr i = some b) :
    Calls Tryz.prog 109 #[dp v, .int .i64 i] w fun e w' => ∃ g cp, e = .returned (.tuple #[.slice (some ⟨g, 0, none⟩) 512 cp, .int .i64 0]) ∧ 512 ≤ cp ∧ b.length = 512 ∧ Bytes w' (some ⟨g, 0, none⟩) b ∧ Below w.heap.size w w' ∧ w.heap.size ≤ g ∧ ∃ cs fr, w'.heap[g]? = some (.cells cs 5 fr) := by
  have hle := hd.hn
  have hnb : nbOf d.n ≤ 65536 := by unfold nbOf; omega
  have c47 := vHas i v commits turn next (some f) d.count d w h hd hn
  rw [show decide ((0 : Int) ≤ (i : Int) ∧ (i : Int) < (nbOf d.n : Nat)) = true by simp; omega] at c47
  have c13 := catchUp_idle v commits turn next (some f) d w h hd
  obtain ⟨hbl, g0, cp0, hat, hcp0, hb0, _⟩ := hF.val i b (by omega) hfr
  have hhas := hF.has i (by omega)
  rw [hfr] at hhas
  have lk : ∀ k, (Instr.lookup 113 (.map (some f)) (.int .i64 i) true).run Tryz.prog (w.drewN k) = .ok (.tuple #[.slice (some ⟨g0, 0, none⟩) 512 cp0, .bool true]) (w.drewN k) := by
    intro k
    have hown : (w.drewN k).ownsMap Tryz.prog 3 slElem f nf F := hF.own
    obtain ⟨p, n, c, hrun, he⟩ := slook_ok hown (i := i) (by omega)
    rw [hat] at he
    simp only [slD, DataW.held.injEq, Value.slice.injEq] at he
    obtain ⟨rfl, rfl, rfl⟩ := he
    rw [hhas] at hrun
    exact hrun
  have x4 : ∀ k, (w.drewN k).cell? ⟨v, 4, none⟩ = some (.map (some f)) := fun k => by have := cellOf h 4; simpa [volCells] using this
  have cl : ∀ k, Calls Tryz.prog 92 #[.slice (some ⟨g0, 0, none⟩) 512 cp0] (w.drewN k) fun e w' => ∃ g cap, e = .returned (.slice (some ⟨g, 0, none⟩) 512 cap) ∧ w.heap.size ≤ g ∧ 512 ≤ cap ∧ Bytes w' (some ⟨g, 0, none⟩) b ∧ Below w.heap.size w w' ∧ ∃ cs fr, w'.heap[g]? = some (.cells cs 5 fr) := by
    intro k
    have := clone_bytes g0 0 b cp0 (w.drewN k) (below_bytes (below_drewN (Below.refl _ w) k) hb0) (by omega) (by omega)
    rw [hbl] at this
    refine this.mono ?_
    rintro e w' ⟨g, cap, rfl, h1, h2, h3, h4, h5⟩
    exact ⟨g, cap, rfl, h1, h2, h3, (below_drewN (Below.refl _ w) k).trans h4, h5⟩
  clear h hd hF hat hb0 hhas hfr
  go_enter Tryz.func109, Tryz.ntmps109
  go_wp2_with (first
    | (go_at_call 116; refine Calls_on c47 ?_)
    | (go_at_call 123; refine c13.mono ?_; rintro e w1 ⟨rfl, k1, rfl⟩; clear c13; have lk' := lk k1; have x4' := x4 k1; have cl' := cl k1; clear lk x4 cl)
    | (go_at_call 92; refine cl'.mono ?_; rintro e w2 ⟨g2, cap2, rfl, hg2, hc2, hb2, hB2, ht2⟩; clear cl'))
  go_ret2
  exact ⟨g2, cap2, rfl, hc2, hbl, hb2, hB2, hg2, ht2⟩

set_option maxRecDepth 8000 in
set_option maxHeartbeats 1000000 in
theorem vReadT_home (i : Nat) (v : Nat) (commits turn next : Nat) (f nf : Nat) (F : DataW Value) (fr : Nat → Option By) (d : DS) (w : World) (h : IsVol w v (dp d.a) commits turn next (some f) d.count) (hd : Dev w d) (hn : 16 ≤ d.n) (hF : Fresh w f nf F fr) (hi : i < nbOf d.n) (hfr : fr i = none) :
    Calls Tryz.prog 109 #[dp v, .int .i64 i] w fun e w' => ∃ g, e = .returned (.tuple #[.slice (some ⟨g, 0, none⟩) 512 512, .int .i64 0]) ∧ Bytes w' (some ⟨g, 0, none⟩) (d.B (1 + i)) ∧ Below w.heap.size w w' ∧ w.heap.size ≤ g ∧ ∃ cs fr, w'.heap[g]? = some (.cells cs 5 fr) := by
  have hle := hd.hn
  have hnb : nbOf d.n ≤ 65536 := by unfold nbOf; omega
  have hin : 1 + i < d.n := by unfold nbOf at hi; omega
  have c47 := vHas i v commits turn next (some f) d.count d w h hd hn
  rw [show decide ((0 : Int) ≤ (i : Int) ∧ (i : Int) < (nbOf d.n : Nat)) = true by simp; omega] at c47
  have c13 := catchUp_idle v commits turn next (some f) d w h hd
  have c16 := fun W => homeOf_any i W (by omega)
  have HD : Hid (Dev w d) := hd
  have hhas := hF.has i (by omega)
  rw [hfr] at hhas
  have lk : ∀ k, ∃ p n c, (Instr.lookup 113 (.map (some f)) (.int .i64 i) true).run Tryz.prog (w.drewN k) = .ok (.tuple #[.slice p n c, .bool false]) (w.drewN k) := by
    intro k
    have hown : (w.drewN k).ownsMap Tryz.prog 3 slElem f nf F := hF.own
    obtain ⟨p, n, c, hrun, he⟩ := slook_ok hown (i := i) (by omega)
    rw [hhas] at hrun
    exact ⟨p, n, c, hrun⟩
  have x4 : ∀ k, (w.drewN k).cell? ⟨v, 4, none⟩ = some (.map (some f)) := fun k => by have := cellOf h 4; simpa [volCells] using this
  have x0 : ∀ k, (w.drewN k).cell? ⟨v, 0, none⟩ = some (dp d.a) := fun k => by have := cellOf h 0; simpa [volCells] using this
  clear h hd hF hhas hfr
  go_enter Tryz.func109, Tryz.ntmps109
  go_wp2_with (first
    | (go_at_call 116; refine Calls_on c47 ?_)
    | (go_at_call 123; refine c13.mono ?_; rintro e w1 ⟨rfl, k1, rfl⟩; clear c13; obtain ⟨p, n, c, lk'⟩ := lk k1; have x4' := x4 k1; clear lk x4))
  obtain ⟨W3, hW3⟩ : ∃ W3, W3 = w.drewN k1 := ⟨_, rfl⟩
  have x0' : W3.drew.cell? ⟨v, 0, none⟩ = some (dp d.a) := by rw [hW3]; exact x0 k1
  have c15' := dev_read d (1 + i) W3.drew (by rw [hW3]; exact (HD.out.drewN k1).drew) hin
  have B3 : Below w.heap.size w W3.drew := by rw [hW3]; exact (below_drewN (Below.refl _ w) k1).drew
  rw [← hW3]
  clear hW3 x0 x4' lk'
  go_region_with (first
    | (go_at_call 97; refine Calls_on (c16 _) ?_)
    | (go_at_call 75; refine c15'.mono ?_; rintro e w2 ⟨rfl, hb2, hB2⟩))
  all_goals go_wp2
  all_goals go_ret2
  all_goals exact ⟨_, rfl, bytes_block hb2, B3.trans (hB2.mono B3.size), B3.size, _, _, hb2⟩

/-- Read of a block, and where it lies. -/
theorem vReadT_any (i : Nat) (s : VS) (w : World) (h : VI w s) (hi : i < nbOf s.d.n) :
    Calls Tryz.prog 109 #[dp s.v, .int .i64 i] w fun e w' => ∃ g cp, e = .returned (.tuple #[.slice (some ⟨g, 0, none⟩) 512 cp, .int .i64 0]) ∧ 512 ≤ cp ∧ (s.cont i).length = 512 ∧ Bytes w' (some ⟨g, 0, none⟩) (s.cont i) ∧ Below w.heap.size w w' ∧ w.heap.size ≤ g ∧ ∃ cs fr, w'.heap[g]? = some (.cells cs 5 fr) := by
  cases hf : s.fr i with
  | none =>
    have hl : (s.d.B (1 + i)).length = 512 := h.dev.len _ (by have := h.n16; unfold nbOf at hi; omega)
    refine (vReadT_home i s.v s.commits s.turn s.next s.f s.nf s.F s.fr s.d w h.vol h.dev h.n16 h.fresh hi hf).mono ?_
    rintro e w' ⟨g, rfl, hb, hB, hg, ht⟩
    have e : s.cont i = s.d.B (1 + i) := by unfold VS.cont; rw [hf]; rfl
    rw [e]
    exact ⟨g, 512, rfl, Nat.le_refl _, hl, hb, hB, hg, ht⟩
  | some b =>
    refine (vReadT_fresh i b s.v s.commits s.turn s.next s.f s.nf s.F s.fr s.d w h.vol h.dev h.n16 h.fresh hi hf).mono ?_
    rintro e w' ⟨g, cp, rfl, hc, hl, hb, hB, hg, ht⟩
    have e : s.cont i = b := by unfold VS.cont; rw [hf]; rfl
    rw [e]
    exact ⟨g, cp, rfl, hc, hl, hb, hB, hg, ht⟩

end Go.Proofs.YtebdgcoandfocaaGreatDoor

/-
  A cache over a volume: what holds of both between the calls; hold of a block that is not held.
-/
namespace Go.Proofs.YtebdgcoandfocaaGreatDoor
open Go.RowKit Go.Maps Go.Sort Go.Shelf

/-- What hold makes of a cache where it takes a new entry. -/
structure Hn (w w' : World) (s : CS) (block a : Nat) (A1 I1 : List Nat) (out1 : Nat) (F : DataW Value) : Prop where
  cm : CM w' { s with nh := s.nh + 1, F := F, I := I1, A := A1 ++ [a], U := updU s.U a (newE block), out := out1 }
  ord : HeapF (kvOf (keyU s.U) I1) I1.length
  new : w.heap.size ≤ a
  sub : ∀ b, b ∈ A1 → b ∈ s.A
  ev : (s.A.length < s.room ∧ A1 = s.A ∧ I1 = s.I ∧ out1 = s.out) ∨ (s.room ≤ s.A.length ∧ ∃ o, o ∈ s.I ∧ (∀ b ∈ s.I, (s.U o).used ≤ (s.U b).used) ∧ A1 = s.A.filter (fun b => b != o) ∧ (∀ b, b ∈ I1 ↔ b ∈ s.I ∧ b ≠ o) ∧ out1 = s.out + 1)
  but : But (cMine w s.h) w w'

theorem bhold_any (s : CS) (block : Nat) (w : World) (h : CM w s) (hb : block < 1000000) (hno : ∀ a ∈ s.A, (s.U a).block ≠ block) (hr : s.room ≤ 4096) (ho : HeapF (kvOf (keyU s.U) s.I) s.I.length) (hout : s.out < 1000000) (hnh : s.nh < 1000000) (hroom : s.A.length < s.room ∨ 0 < s.I.length) :
    Calls Tryz.prog 107 #[ep s.c, .int .i64 (block : Nat)] w fun e w' => ∃ a A1 I1 out1 F, e = .returned (.tuple #[ep a, .int .i64 0]) ∧ Hn w w' s block a A1 I1 out1 F := by
  by_cases hlt : s.A.length < s.room
  · refine (hold_new s block w h hb hno (fun w1 s1 => s1 = s ∧ But (cMine w s.h) w w1) ?_).mono ?_
    · refine (makeRoom_yes s w h hlt hr).mono ?_
      rintro e w1 ⟨rfl, q, rfl⟩
      exact ⟨rfl, s, h.drewN q, rfl, rfl, fun _ h => h, rfl, hnh, rfl, ⟨rfl, rfl, rfl, Nat.le_refl _, fun _ _ _ => rfl⟩⟩
    · rintro e w' ⟨w1, s1, F, rfl, ⟨rfl, hB1⟩, _, cm2, hB2⟩
      exact ⟨w1.heap.size, s1.A, s1.I, s1.out, F, rfl, cm2, ho, hB1.size, fun _ h => h, .inl ⟨hlt, rfl, rfl, rfl⟩, cMine_trans hB1 hB2⟩
  · have hpos : 0 < s.I.length := hroom.resolve_left hlt
    refine (hold_new s block w h hb hno (fun w1 s1 => ∃ o, Mr w w1 s s1 o) ?_).mono ?_
    · refine (makeRoom_out s w h (by omega) hpos ho hout).mono ?_
      rintro e w1 ⟨rfl, o, s1, hM⟩
      obtain ⟨F, I', rfl⟩ := hM.eq
      exact ⟨rfl, _, hM.cm, rfl, rfl, fun a ha => (List.mem_filter.1 ha).1, rfl, hnh, o, hM⟩
    · rintro e w' ⟨w1, s1, F, rfl, ⟨o, hM⟩, _, cm2, hB2⟩
      obtain ⟨F1, I', rfl⟩ := hM.eq
      refine ⟨w1.heap.size, _, I', s.out + 1, F, rfl, cm2, hM.ord, hM.but.size, fun b hb => (List.mem_filter.1 hb).1, .inr ⟨by omega, o, hM.inI, hM.least, rfl, hM.mem, rfl⟩, cMine_trans hM.but hB2⟩

/-- Where the bytes of a cache's entries lie: X. -/
def Lk (s : CS) (X : Nat → Prop) : Prop := ∀ a ∈ s.A, ∀ g o f, (s.U a).p = some ⟨g, o, f⟩ → X g
/-- An entry's bytes. -/
def DatAt (w : World) (e : EV) (b : By) : Prop := e.n = 512 ∧ b.length = 512 ∧ 512 ≤ e.cp ∧ ∃ g, e.p = some ⟨g, 0, none⟩ ∧ Bytes w (some ⟨g, 0, none⟩) b ∧ ∃ cs fr, w.heap[g]? = some (.cells cs 5 fr)
theorem bytes_but {w w' : World} {g : Nat} {b : By} {S : Nat → Prop} (hbb : Bytes w (some ⟨g, 0, none⟩) b) (ht : ∃ cs fr, w.heap[g]? = some (.cells cs 5 fr)) (hb : But S w w') (hS : ∀ k cs fr, w.heap[k]? = some (.cells cs 5 fr) → ¬ S k) : Bytes w' (some ⟨g, 0, none⟩) b ∧ ∃ cs fr, w'.heap[g]? = some (.cells cs 5 fr) := by
  obtain ⟨cs, fr, ht⟩ := ht
  have hk := hb.block g (Array.getElem?_eq_some_iff.1 ht).1 (hS g cs fr ht)
  refine ⟨fun hp => ?_, cs, fr, hk.trans ht⟩
  obtain ⟨g', o', e, hx⟩ := hbb hp
  cases e
  exact ⟨g, 0, rfl, fun j x hj => (World.cell?_of_block (w := w) hk).trans (hx j x hj)⟩
theorem DatAt.but {w w' : World} {e : EV} {b : By} (h : DatAt w e b) {S : Nat → Prop} (hb : But S w w') (hS : ∀ k cs fr, w.heap[k]? = some (.cells cs 5 fr) → ¬ S k) : DatAt w' e b := by
  obtain ⟨h1, h2, h3, g, hg, hbb, ht⟩ := h
  obtain ⟨k1, k2⟩ := bytes_but hbb ht hb hS
  exact ⟨h1, h2, h3, g, hg, k1, k2⟩

/-- A cache and its volume, but for the rank of the entries of ex. -/
structure CX (ex : Nat → Prop) (w : World) (s : CS) (vs : VS) (B : Nat → By) : Prop where
  cm : CM w s
  vi : VI w vs
  vv : s.v = vs.v
  hf : s.h ≠ vs.f
  hd : s.h ≠ vs.d.m
  dat : ∀ a ∈ s.A, DatAt w (s.U a) (B a)
  hx : ∀ a, ex a → HX s a
  ord : (∀ a, ¬ ex a) → HeapF (kvOf (keyU s.U) s.I) s.I.length
  idle : ∀ b, ¬ ex b → (b ∈ s.I ↔ b ∈ s.A ∧ idleE (s.U b) = true)
  dirty : ∀ b, b ∈ s.D ↔ b ∈ s.A ∧ (s.U b).dirty = true
  dnd : s.D.Nodup
  used : ∀ b ∈ s.A, ¬ ex b → (s.U b).used ≤ s.uses
  uinj : ∀ b ∈ s.A, ∀ c ∈ s.A, ¬ ex b → ¬ ex c → (s.U b).used = (s.U c).used → b = c
  blk : ∀ b ∈ s.A, (s.U b).block < nbOf vs.d.n
  clean : ∀ b ∈ s.A, (s.U b).dirty = false → B b = vs.cont (s.U b).block
  room : 1 ≤ s.room ∧ s.room ≤ 4096 ∧ s.A.length ≤ s.room

abbrev CI := CX (fun _ => False)
/-- How much was done. -/
structure CB (s : CS) (b : Nat) : Prop where
  nh : s.nh ≤ b
  uses : s.uses ≤ b
  met : s.met ≤ b
  missed : s.missed ≤ b
  out : s.out ≤ b

theorem CX.nb {ex : Nat → Prop} {w : World} {s : CS} {vs : VS} {B : Nat → By} (h : CX ex w s vs B) : nbOf vs.d.n ≤ 223 := by have := h.vi.n200; unfold nbOf; omega
theorem vi_but {w w' : World} {s : VS} (h : VI w s) {S : Nat → Prop} (hb : But S w w') (hS : ∀ k, s.mine k → ¬ S k) (h5 : ∀ g cs t fr, w.heap[g]? = some (.cells cs t fr) → t = 5 ∨ t = 158 → ¬ S g) : VI w' s :=
  ⟨h.vol.but hb (hS _ (.inl rfl)), h.dev.but hb (fun k hk => hS k (.inr (.inr hk))) (fun g _ hg => h5 g _ _ _ hg (.inr rfl)), h.fresh.but hb (hS _ (.inr (.inl rfl))) (fun k cs fr hk => h5 k cs 5 fr hk (.inl rfl)), h.fm, h.fused, h.n16, h.n200, h.lg⟩
/-- A cache's steps turn nothing of its volume, and no bytes. -/
theorem CX.noMine {ex : Nat → Prop} {w : World} {s : CS} {vs : VS} {B : Nat → By} (h : CX ex w s vs B) : (∀ k, vs.mine k → ¬ cMine w s.h k) ∧ (∀ g cs t fr, w.heap[g]? = some (.cells cs t fr) → t = 5 ∨ t = 158 → ¬ cMine w s.h g) := by
  refine ⟨fun k hk hm => ?_, fun g cs t fr hg ht hm => ?_⟩
  · rcases hm with e | ⟨_, cs, t, fr, hb, ht⟩
    · rcases hk with e' | e' | e' | e' | e'
      · exact h.cm.hne h.vi.vol (e ▸ e')
      · exact h.hf (e ▸ e')
      · exact h.cm.hne h.vi.dev.dev (e ▸ e')
      · obtain ⟨_, hr, _⟩ := h.vi.dev.row
        exact h.cm.hne hr (e ▸ e')
      · exact h.hd (e ▸ e')
    · refine h.vi.other hb ?_ ?_ ?_ hk
      · rcases ht with rfl | rfl | rfl <;> decide
      · rcases ht with rfl | rfl | rfl <;> decide
      · rcases ht with rfl | rfl | rfl <;> decide
  · rcases hm with rfl | ⟨_, cs', t', fr', hb, ht'⟩
    · exact h.cm.hne hg rfl
    · rw [hg] at hb
      simp only [Option.some.injEq, Obj.cells.injEq] at hb
      obtain ⟨_, rfl, _⟩ := hb
      rcases ht with rfl | rfl <;> rcases ht' with h' | h' | h' <;> exact absurd h' (by decide)
theorem CX.keep {ex : Nat → Prop} {w w' : World} {s : CS} {vs : VS} {B : Nat → By} (h : CX ex w s vs B) (hb : But (cMine w s.h) w w') : VI w' vs ∧ ∀ e b, DatAt w e b → DatAt w' e b :=
  ⟨vi_but h.vi hb h.noMine.1 h.noMine.2, fun _ _ hd => hd.but hb fun k cs fr hk => h.noMine.2 k cs 5 fr hk (.inl rfl)⟩
theorem CX.below {ex : Nat → Prop} {w w' : World} {s : CS} {vs : VS} {B : Nat → By} (h : CX ex w s vs B) (hb : Below w.heap.size w w') : CX ex w' s vs B :=
  ⟨h.cm.below hb, h.vi.below hb, h.vv, h.hf, h.hd, fun a ha => (h.dat a ha).but (S := fun _ => False) (But.of_below hb) (fun _ _ _ _ h => h), h.hx, h.ord, h.idle, h.dirty, h.dnd, h.used, h.uinj, h.blk, h.clean, h.room⟩

end Go.Proofs.YtebdgcoandfocaaGreatDoor

/-
  meet of package bcache.
-/
namespace Go.Proofs.YtebdgcoandfocaaGreatDoor
open Go.RowKit Go.Maps Go.Sort Go.Shelf

theorem filter_len {A : List Nat} (hn : A.Nodup) {o : Nat} (ho : o ∈ A) : (A.filter (fun b => b != o)).length + 1 = A.length := by
  rw [← hn.erase_eq_filter o, List.length_erase_of_mem ho]
  have := List.length_pos_of_mem ho
  omega

/-- An entry more: all holds but for its rank. -/
theorem cx_new {w w1 w' : World} {s : CS} {vs : VS} {B : Nat → By} {block a : Nat} {A1 I1 : List Nat} {out1 : Nat} {F F' : DataW Value} (h : CI w1 s vs B) (hn : Hn w1 w s block a A1 I1 out1 F) (hblk : block < nbOf vs.d.n)
    (e : EV) (b : By) (ms dcap : Nat) (D' : List Nat) (dq : Option Addr) (nh : Nat)
    (cm : CM w' { s with nh := nh, F := F', I := I1, A := A1 ++ [a], U := updU s.U a e, out := out1, missed := ms, D := D', dq := dq, dcap := dcap }) (hB : But (cMine w1 s.h) w1 w')
    (heb : e.block = block) (hdat : DatAt w' e b) (hD : (e.dirty = false ∧ D' = s.D ∧ b = vs.cont block) ∨ (e.dirty = true ∧ D' = s.D ++ [a])) :
    CX (fun k => k = a) w' { s with nh := nh, F := F', I := I1, A := A1 ++ [a], U := updU s.U a e, out := out1, missed := ms, D := D', dq := dq, dcap := dcap } vs (fun k => if k = a then b else B k) := by
  obtain ⟨hvi, hkeep⟩ := h.keep hB
  have hA : ∀ k ∈ s.A, k ≠ a := fun k hk e => by have := h.cm.alt hk; have := hn.new; omega
  have hA1 : ∀ k ∈ A1, k ≠ a := fun k hk => hA k (hn.sub k hk)
  have hI1 : ∀ k, k ∈ I1 → k ∈ s.I := fun k hk => by
    rcases hn.ev with ⟨_, _, e, _⟩ | ⟨_, o, _, _, _, hm, _⟩
    · rw [← e]; exact hk
    · exact ((hm k).1 hk).1
  have haI : a ∉ I1 := fun hx => hA a (h.cm.sub a (hI1 a hx)) rfl
  have mem : ∀ k, k ≠ a → (k ∈ A1 ++ [a] ↔ k ∈ A1) := fun k hk => by simp [hk]
  have U1 : ∀ k, k ≠ a → updU s.U a e k = s.U k := fun k hk => updU_other _ _ hk
  have hnotD : ∀ o, o ∈ s.I → o ∉ s.D := fun o ho hd => by
    have h1 := ((h.idle o (fun h => h)).1 ho).2
    have h2 := ((h.dirty o).1 hd).2
    unfold idleE at h1
    rw [h2] at h1
    simp at h1
  have haD : a ∉ s.D := fun hd => hA a ((h.dirty a).1 hd).1 rfl
  have hdA1 : ∀ k, k ∈ s.D → k ∈ A1 := fun k hk => by
    have hkA := ((h.dirty k).1 hk).1
    rcases hn.ev with ⟨_, e, _⟩ | ⟨_, o, ho, _, e, _⟩
    · rw [e]; exact hkA
    · rw [e]; simp [hkA]; rintro rfl; exact hnotD k ho hk
  refine ⟨cm, hvi, h.vv, h.hf, h.hd, fun k hk => ?_, fun k hk => ?_, fun hall => absurd rfl (hall a), fun k hk => ?_, fun k => ?_, ?_, fun k hk hka => ?_, fun k hk k' hk' hka hka' e' => ?_, fun k hk => ?_, fun k hk hdk => ?_, h.room.1, h.room.2.1, ?_⟩
  · show DatAt w' (updU s.U a e k) (if k = a then b else B k)
    by_cases e' : k = a
    · subst e'
      rw [updU_same, if_pos rfl]; exact hdat
    · rw [U1 k e', if_neg e']
      exact hkeep _ _ (h.dat k (hn.sub k ((mem k e').1 hk)))
  · have e' : k = a := hk
    rw [e']
    refine ⟨fun j hj hja => absurd (hja ▸ getD_mem hj) haI, fun _ => ?_⟩
    show HeapF (kvOf (keyU (updU s.U a e)) I1) I1.length
    exact hn.ord.less (Nat.le_refl _) fun j hj => kvOf_upd_not haI e hj
  · show k ∈ I1 ↔ k ∈ A1 ++ [a] ∧ idleE (updU s.U a e k) = true
    rw [mem k hk, U1 k hk]
    have h1 := h.idle k (fun h => h)
    rcases hn.ev with ⟨_, e1, e2, _⟩ | ⟨_, o, ho, _, e1, hm, _⟩
    · rw [e1, e2]; exact h1
    · rw [e1, hm k, h1]
      simp [List.mem_filter]
      constructor
      · rintro ⟨⟨h1, h2⟩, h3⟩; exact ⟨⟨h1, h3⟩, h2⟩
      · rintro ⟨⟨h1, h3⟩, h2⟩; exact ⟨⟨h1, h2⟩, h3⟩
  · show k ∈ D' ↔ k ∈ A1 ++ [a] ∧ (updU s.U a e k).dirty = true
    by_cases e' : k = a
    · subst e'
      rw [updU_same]
      rcases hD with ⟨h1, h2, _⟩ | ⟨h1, h2⟩
      · rw [h1, h2]; simp [haD]
      · rw [h1, h2]; simp
    · rw [mem k e', U1 k e']
      have : k ∈ D' ↔ k ∈ s.D := by
        rcases hD with ⟨_, h2, _⟩ | ⟨_, h2⟩
        · rw [h2]
        · rw [h2]; simp [e']
      rw [this]
      constructor
      · intro hk; exact ⟨hdA1 k hk, ((h.dirty k).1 hk).2⟩
      · rintro ⟨h1, h2⟩; exact (h.dirty k).2 ⟨hn.sub k h1, h2⟩
  · show D'.Nodup
    rcases hD with ⟨_, h2, _⟩ | ⟨_, h2⟩
    · rw [h2]; exact h.dnd
    · rw [h2, List.nodup_append]
      exact ⟨h.dnd, by simp, fun x hx y hy => by rw [List.mem_singleton.1 hy]; exact fun e => haD (e ▸ hx)⟩
  · show (updU s.U a e k).used ≤ s.uses
    rw [U1 k hka]
    exact h.used k (hn.sub k ((mem k hka).1 hk)) (fun h => h)
  · have e2 : (updU s.U a e k).used = (updU s.U a e k').used := e'
    rw [U1 k hka, U1 k' hka'] at e2
    exact h.uinj k (hn.sub k ((mem k hka).1 hk)) k' (hn.sub k' ((mem k' hka').1 hk')) (fun h => h) (fun h => h) e2
  · show (updU s.U a e k).block < _
    by_cases e' : k = a
    · rw [e', updU_same, heb]; exact hblk
    · rw [U1 k e']; exact h.blk k (hn.sub k ((mem k e').1 hk))
  · show (if k = a then b else B k) = vs.cont (updU s.U a e k).block
    have hdk' : (updU s.U a e k).dirty = false := hdk
    by_cases e' : k = a
    · subst e'
      rw [updU_same] at hdk' ⊢
      rw [if_pos rfl, heb]
      rcases hD with ⟨_, _, h3⟩ | ⟨h1, _⟩
      · exact h3
      · rw [h1] at hdk'; cases hdk'
    · rw [U1 k e'] at hdk' ⊢
      rw [if_neg e']
      exact h.clean k (hn.sub k ((mem k e').1 hk)) hdk'
  · show (A1 ++ [a]).length ≤ s.room
    rcases hn.ev with ⟨h1, e1, _⟩ | ⟨_, o, ho, _, e1, _⟩
    · rw [e1]; simp; omega
    · have := filter_len h.cm.hm.nodup (h.cm.sub o ho)
      have := h.room.2.2
      rw [e1]; simp only [List.length_append, List.length_singleton]; omega

set_option maxRecDepth 8000 in
set_option maxHeartbeats 1000000 in
theorem meet_out (s : CS) (vs : VS) (B : Nat → By) (x : Int) (w : World) (h : CI w s vs B) (h1 : -9223372036854775808 ≤ x) (h2 : x < 9223372036854775808) (hx : ¬ (0 ≤ x ∧ x < nbOf vs.d.n)) :
    Calls Tryz.prog 90 #[ep s.c, .int .i64 x] w fun e w' => e = .returned (.tuple #[.pointer none, .int .i64 22]) ∧ w' = w := by
  have c0 : w.cell? ⟨s.c, 0, none⟩ = some (dp vs.v) := by rw [cellOf h.cm.hp.cell 0, ← h.vv]; rfl
  have c2 : w.cell? ⟨s.c, 2, none⟩ = some (.map (some s.h)) := by rw [cellOf h.cm.hp.cell 2]; rfl
  have l1 := h.cm.hm.look_no h1 h2 (fun a ha e => hx (by have := h.blk a ha; omega))
  have cR := vRead_no x vs.v vs.commits vs.turn vs.next (some vs.f) vs.d.count vs.d w h.vi.vol h.vi.dev h.vi.n16 hx
  clear h
  go_enter Tryz.func90, Tryz.ntmps90
  go_wp2_with (go_at_call 109; refine Calls_on cR ?_)
  go_ret2
  exact ⟨rfl, rfl⟩

set_option maxRecDepth 8000 in
set_option maxHeartbeats 1000000 in
theorem meet_hit (s : CS) (vs : VS) (B : Nat → By) (a : Nat) (w : World) (h : CI w s vs B) (ha : a ∈ s.A) (hm : s.met < 1000000) :
    Calls Tryz.prog 90 #[ep s.c, .int .i64 ((s.U a).block : Nat)] w fun e w' => e = .returned (.tuple #[ep a, .int .i64 0]) ∧ CI w' { s with met := s.met + 1 } vs B ∧ But (cMine w s.h) w w' := by
  have c2 : w.cell? ⟨s.c, 2, none⟩ = some (.map (some s.h)) := by rw [cellOf h.cm.hp.cell 2]; rfl
  have c6 : w.cell? ⟨s.c, 6, none⟩ = some (.int .i64 (s.met : Nat)) := by rw [cellOf h.cm.hp.cell 6]; rfl
  have f6 := frozenOf h.cm.hp.cell 6
  have l1 := h.cm.hm.look_yes ha
  have mC : cMine w s.h s.c := h.cm.mineC
  obtain ⟨z, hz, e1⟩ : ∃ z : Int, ((s.met + 1 : Nat) : Int) = z ∧ ((s.met : Nat) : Int) + 1 = z := ⟨_, rfl, by omega⟩
  have hB : But (cMine w s.h) w (w.setCell ⟨s.c, 6, none⟩ (.int .i64 ((s.met + 1 : Nat) : Int))) := (But.refl (cMine w s.h) w).setCell _ mC _
  obtain ⟨hvi, hkeep⟩ := h.keep hB
  have HF : Hid (CI (w.setCell ⟨s.c, 6, none⟩ (.int .i64 ((s.met + 1 : Nat) : Int))) { s with met := s.met + 1 } vs B ∧ But (cMine w s.h) w (w.setCell ⟨s.c, 6, none⟩ (.int .i64 ((s.met + 1 : Nat) : Int)))) :=
    ⟨⟨h.cm.setMet _, hvi, h.vv, h.hf, h.hd, fun k hk => hkeep _ _ (h.dat k hk), fun _ h => h.elim, h.ord, h.idle, h.dirty, h.dnd, h.used, h.uinj, h.blk, h.clean, h.room⟩, hB⟩
  rw [hz] at HF
  clear hz h mC hB hvi hkeep
  go_enter Tryz.func90, Tryz.ntmps90
  go_wp2
  go_ret2
  exact ⟨rfl, HF.out.1, HF.out.2⟩

/-- What meet makes of a cache where it takes a new entry. -/
structure Mt (w w' : World) (s : CS) (vs : VS) (B : Nat → By) (block a : Nat) (s' : CS) (B' : Nat → By) : Prop where
  cx : CX (fun k => k = a) w' s' vs B'
  eq : ∃ F A1 I1 out1 p cp, s' = { s with nh := s.nh + 1, F := F, I := I1, A := A1 ++ [a], U := updU s.U a ⟨block, p, 512, cp, 0, false, 0⟩, out := out1, missed := s.missed + 1 } ∧
    ((s.A.length < s.room ∧ A1 = s.A ∧ I1 = s.I ∧ out1 = s.out) ∨ (s.room ≤ s.A.length ∧ ∃ o, o ∈ s.I ∧ (∀ b ∈ s.I, (s.U o).used ≤ (s.U b).used) ∧ A1 = s.A.filter (fun b => b != o) ∧ (∀ b, b ∈ I1 ↔ b ∈ s.I ∧ b ≠ o) ∧ out1 = s.out + 1))
  bytes : B' = fun k => if k = a then vs.cont block else B k
  new : w.heap.size ≤ a
  but : But (cMine w s.h) w w'
  lk : ∀ X : Nat → Prop, (∀ g, w.heap.size ≤ g → X g) → Lk s X → Lk s' X

set_option maxRecDepth 8000 in
set_option maxHeartbeats 2000000 in
theorem meet_miss (s : CS) (vs : VS) (B : Nat → By) (block b : Nat) (w : World) (h : CI w s vs B) (hz : CB s b) (hbz : b < 900000) (hb : block < nbOf vs.d.n) (hno : ∀ a ∈ s.A, (s.U a).block ≠ block) (hroom : s.A.length < s.room ∨ 0 < s.I.length) :
    Calls Tryz.prog 90 #[ep s.c, .int .i64 (block : Nat)] w fun e w' => ∃ a s' B', e = .returned (.tuple #[ep a, .int .i64 0]) ∧ Mt w w' s vs B block a s' B' := by
  have hnb := h.nb
  obtain ⟨z1, z2, z3, z4, z5⟩ := hz
  have c0 : w.cell? ⟨s.c, 0, none⟩ = some (dp vs.v) := by rw [cellOf h.cm.hp.cell 0, ← h.vv]; rfl
  have c2 : w.cell? ⟨s.c, 2, none⟩ = some (.map (some s.h)) := by rw [cellOf h.cm.hp.cell 2]; rfl
  have l1 := h.cm.hm.look_no (x := (block : Int)) (by omega) (by omega) (fun a ha e => hno a ha (by omega))
  have cR := vReadT_any block vs w h.vi hb
  have H0 : Hid (CI w s vs B ∧ (∀ a ∈ s.A, (s.U a).block ≠ block)) := ⟨h, hno⟩
  clear h hno
  go_enter Tryz.func90, Tryz.ntmps90
  go_wp2_with (first
    | (go_at_call 109; refine cR.mono ?_; rintro e w1 ⟨g, cp, rfl, hcp, hl, hb1, hB1, hg1, ht1⟩; clear cR; have cH := bhold_any s block w1 ((H0.out.1.below hB1).cm) (by omega) H0.out.2 H0.out.1.room.2.1 (H0.out.1.ord (fun _ h => h)) (by omega) (by omega) hroom; have H1 : Hid (512 ≤ cp ∧ (vs.cont block).length = 512 ∧ Bytes w1 (some ⟨g, 0, none⟩) (vs.cont block) ∧ Below w.heap.size w w1 ∧ (∃ cs fr, w1.heap[g]? = some (.cells cs 5 fr)) ∧ w.heap.size ≤ g) := ⟨hcp, hl, hb1, hB1, ht1, hg1⟩; clear hcp hl hb1 hB1 hg1 ht1)
    | (go_at_call 107; refine cH.mono ?_; rintro e w2 ⟨a, A1, I1, out1, F, rfl, hH⟩; clear cH; refine Stop.out ?_))
  refine Stop.mk ?_
  obtain ⟨hcp, hl, hb1, hB1, ht1, hg1⟩ := H1.out
  have h1 := H0.out.1.below hB1
  have ha2 : a ∈ A1 ++ [a] := by simp
  obtain ⟨x, hE⟩ := hH.cm.entAny ha2
  have hE' : IsEnt w2 a (newE block) x := by rw [show newE block = updU s.U a (newE block) a from (updU_same _ _ _).symm]; exact hE
  have d7 : w2.cell? ⟨s.c, 7, none⟩ = some (.int .i64 (s.missed : Nat)) := by rw [cellOf hH.cm.hp.cell 7]; rfl
  have f7 := frozenOf hH.cm.hp.cell 7
  have d1 : w2.cell? ⟨a, 1, none⟩ = some (.slice none 0 0) := by rw [cellOf hE' 1]; rfl
  have f1 := frozenOf hE' 1
  have ca : s.c ≠ a := apart_tags hH.cm.hp.cell hE' (by decide)
  have ca' := Ne.symm ca
  obtain ⟨z, hz, e1⟩ : ∃ z : Int, ((s.missed + 1 : Nat) : Int) = z ∧ ((s.missed : Nat) : Int) + 1 = z := ⟨_, rfl, by omega⟩
  have cm3 := hH.cm.setMissed (s.missed + 1)
  have cm4 := cm3.setE (a := a) ha2 1 (.slice (some ⟨g, 0, none⟩) 512 cp) ⟨block, some ⟨g, 0, none⟩, 512, cp, 0, false, 0⟩ (fun x => by show (entCells (updU s.U a (newE block) a) x).setIfInBounds 1 _ = _; rw [updU_same]; rfl) (by show block = (updU s.U a (newE block) a).block; rw [updU_same]; rfl) (by show 0 < 1000000000; omega)
  have eU : updU (updU s.U a (newE block)) a ⟨block, some ⟨g, 0, none⟩, 512, cp, 0, false, 0⟩ = updU s.U a ⟨block, some ⟨g, 0, none⟩, 512, cp, 0, false, 0⟩ := by
    funext k; unfold updU; split <;> rfl
  have cm5 : CM ((w2.setCell ⟨s.c, 7, none⟩ (.int .i64 ((s.missed + 1 : Nat) : Int))).setCell ⟨a, 1, none⟩ (.slice (some ⟨g, 0, none⟩) 512 cp)) { s with nh := s.nh + 1, F := F, I := I1, A := A1 ++ [a], U := updU s.U a ⟨block, some ⟨g, 0, none⟩, 512, cp, 0, false, 0⟩, out := out1, missed := s.missed + 1 } := by
    rw [← eU]; exact cm4
  have mC : cMine w2 s.h s.c := hH.cm.mineC
  have mE : cMine w2 s.h a := hH.cm.mineE ha2
  have hB5 : But (cMine w1 s.h) w1 ((w2.setCell ⟨s.c, 7, none⟩ (.int .i64 ((s.missed + 1 : Nat) : Int))).setCell ⟨a, 1, none⟩ (.slice (some ⟨g, 0, none⟩) 512 cp)) := cMine_trans hH.but (((But.refl (cMine w2 s.h) w2).setCell _ mC _).setCell _ mE _)
  have hdat : DatAt ((w2.setCell ⟨s.c, 7, none⟩ (.int .i64 ((s.missed + 1 : Nat) : Int))).setCell ⟨a, 1, none⟩ (.slice (some ⟨g, 0, none⟩) 512 cp)) ⟨block, some ⟨g, 0, none⟩, 512, cp, 0, false, 0⟩ (vs.cont block) :=
    (h1.keep hB5).2 _ _ ⟨rfl, hl, hcp, g, rfl, hb1, ht1⟩
  have cx := cx_new h1 hH hb ⟨block, some ⟨g, 0, none⟩, 512, cp, 0, false, 0⟩ (vs.cont block) (s.missed + 1) s.dcap s.D s.dq (s.nh + 1) cm5 hB5 rfl hdat (.inl ⟨rfl, rfl, rfl⟩)
  have bw : But (cMine w s.h) w w1 := But.of_below hB1
  have hlk : ∀ X : Nat → Prop, (∀ g, w.heap.size ≤ g → X g) → Lk s X → Lk { s with nh := s.nh + 1, F := F, I := I1, A := A1 ++ [a], U := updU s.U a ⟨block, some ⟨g, 0, none⟩, 512, cp, 0, false, 0⟩, out := out1, missed := s.missed + 1 } X := by
    intro X hX hs k hk g' o' f' hp
    have hp : (updU s.U a ⟨block, some ⟨g, 0, none⟩, 512, cp, 0, false, 0⟩ k).p = some ⟨g', o', f'⟩ := hp
    by_cases hka : k = a
    · rw [hka, updU_same] at hp
      cases hp
      exact hX _ hg1
    · rw [updU_other _ _ hka] at hp
      have hk : k ∈ A1 ++ [a] := hk
      rcases List.mem_append.1 hk with hk | hk
      · refine hs k ?_ g' o' f' hp
        rcases hH.ev with ⟨_, rfl, _⟩ | ⟨_, o, _, _, rfl, _⟩
        · exact hk
        · exact (List.mem_filter.1 hk).1
      · exact absurd (List.mem_singleton.1 hk) hka
  have HF : Hid (Mt w ((w2.setCell ⟨s.c, 7, none⟩ (.int .i64 ((s.missed + 1 : Nat) : Int))).setCell ⟨a, 1, none⟩ (.slice (some ⟨g, 0, none⟩) 512 cp)) s vs B block a { s with nh := s.nh + 1, F := F, I := I1, A := A1 ++ [a], U := updU s.U a ⟨block, some ⟨g, 0, none⟩, 512, cp, 0, false, 0⟩, out := out1, missed := s.missed + 1 } (fun k => if k = a then vs.cont block else B k)) :=
    ⟨cx, ⟨F, A1, I1, out1, _, _, rfl, hH.ev⟩, rfl, by have := hB1.size; have := hH.new; omega, cMine_trans bw hB5, hlk⟩
  rw [hz] at HF
  clear hz hcp hl hb1 hB1 ht1 hg1 hlk h1 ha2 hE hE' cm3 cm4 cm5 eU mC mE hB5 hdat cx bw hH H1 l1 c0 c2
  go_wp2
  go_ret2
  exact ⟨a, rfl, _, _, HF.out⟩

end Go.Proofs.YtebdgcoandfocaaGreatDoor

/-
  A cache as the document has it: a list of the blocks that are held (pure).
-/
namespace Go.Proofs.YtebdgcoandfocaaGreatDoor
open Go.RowKit


structure HE where
  block : Nat
  pins : Nat
  used : Nat
  dirty : Bool
  data : List (BitVec 8)

def HE.idle (x : HE) : Bool := x.pins == 0 && !x.dirty
/-- Of what is idle the least lately used one, as a search from the front finds it. -/
def better (o : Option HE) (x : HE) : Option HE :=
  if x.idle then (match o with | none => some x | some y => if x.used < y.used then some x else some y) else o
def victim (L : List HE) : Option HE := L.foldl better none

structure AC where
  room : Nat
  L : List HE
  time : Nat
  hit : Nat
  miss : Nat
  outs : Nat

def AC.held (A : AC) (b : Nat) : Bool := A.L.any (fun x => x.block == b)
def AC.full (A : AC) : Bool := decide (A.room ≤ A.L.length) && (victim A.L).isNone
def AC.evict (A : AC) : AC := if A.L.length < A.room then A else match victim A.L with
  | some o => { A with L := A.L.filter (fun x => x.block != o.block), outs := A.outs + 1 }
  | none => A
/-- A block is used. -/
def AC.touch (A : AC) (b : Nat) (f : HE → HE) : AC := { A with time := A.time + 1, L := A.L.map fun x => if x.block = b then f { x with used := A.time + 1 } else x }
def AC.add (A : AC) (b : Nat) (d : List (BitVec 8)) : AC := { A with L := A.L ++ [⟨b, 0, 0, false, d⟩] }
/-- A Get or a Pin of a block that may be held. -/
def AC.meet (A : AC) (b : Nat) (d : List (BitVec 8)) (f : HE → HE) : AC :=
  if A.held b then AC.touch { A with hit := A.hit + 1 } b f else AC.touch { A.evict.add b d with miss := A.miss + 1 } b f
def AC.dataOf (A : AC) (b : Nat) : List (BitVec 8) := ((A.L.find? fun x => x.block == b).map HE.data).getD []

theorem victim_fold (L : List HE) : ∀ (o : Option HE), (∀ y, L.foldl better o = some y → (o = some y ∨ (y ∈ L ∧ y.idle = true)) ∧ (∀ x ∈ L, x.idle = true → y.used ≤ x.used) ∧ ∀ z, o = some z → y.used ≤ z.used) ∧ (L.foldl better o = none → o = none ∧ ∀ x ∈ L, x.idle = false) := by
  induction L with
  | nil =>
    intro o
    exact ⟨fun y h => ⟨.inl h, (fun x hx => by cases hx), (fun z hz => by rw [List.foldl_nil, hz] at h; cases h; exact Nat.le_refl _)⟩, fun h => ⟨h, (fun x hx => by cases hx)⟩⟩
  | cons x L ih =>
    intro o
    obtain ⟨h1, h2⟩ := ih (better o x)
    refine ⟨fun y hy => ?_, fun hn => ?_⟩
    · obtain ⟨k1, k2, k3⟩ := h1 y hy
      have key : (better o x = some y → o = some y ∨ (y = x ∧ x.idle = true)) := by
        intro hb
        unfold better at hb
        split at hb
        · rename_i hi
          split at hb
          · cases hb; exact .inr ⟨rfl, hi⟩
          · split at hb
            · cases hb; exact .inr ⟨rfl, hi⟩
            · cases hb; exact .inl rfl
        · exact .inl hb
      have lex : x.idle = true → ∃ z, better o x = some z ∧ z.used ≤ x.used := by
        intro hi
        unfold better
        rw [if_pos hi]
        split
        · exact ⟨x, rfl, Nat.le_refl _⟩
        · rename_i z
          split
          · exact ⟨x, rfl, Nat.le_refl _⟩
          · exact ⟨z, rfl, by omega⟩
      have leo : ∀ z, o = some z → ∃ z', better o x = some z' ∧ z'.used ≤ z.used := by
        intro z hz
        subst hz
        unfold better
        split
        · simp only
          split
          · exact ⟨x, rfl, by omega⟩
          · exact ⟨z, rfl, Nat.le_refl _⟩
        · exact ⟨z, rfl, Nat.le_refl _⟩
      refine ⟨?_, fun x' hx' hi => ?_, fun z hz => ?_⟩
      · rcases k1 with k1 | ⟨k1, k1'⟩
        · rcases key k1 with e | ⟨rfl, e⟩
          · exact .inl e
          · exact .inr ⟨by simp, e⟩
        · exact .inr ⟨by simp [k1], k1'⟩
      · rcases List.mem_cons.1 hx' with rfl | hx'
        · obtain ⟨z, hz, hle⟩ := lex hi
          exact Nat.le_trans (k3 z hz) hle
        · exact k2 x' hx' hi
      · obtain ⟨z', hz', hle⟩ := leo z hz
        exact Nat.le_trans (k3 z' hz') hle
    · obtain ⟨k1, k2⟩ := h2 hn
      have : o = none ∧ x.idle = false := by
        unfold better at k1
        split at k1
        · split at k1
          · cases k1
          · split at k1 <;> cases k1
        · rename_i hi
          exact ⟨k1, by simpa using hi⟩
      refine ⟨this.1, fun x' hx' => ?_⟩
      rcases List.mem_cons.1 hx' with rfl | hx'
      · exact this.2
      · exact k2 x' hx'
theorem victim_none {L : List HE} (h : ∀ x ∈ L, x.idle = false) : victim L = none := by
  cases hv : victim L with
  | none => rfl
  | some y =>
    obtain ⟨h1, _⟩ := (victim_fold L none).1 y hv
    rcases h1 with h1 | ⟨h1, h2⟩
    · cases h1
    · rw [h y h1] at h2; cases h2
theorem victim_some {L : List HE} {o : HE} (ho : o ∈ L) (hi : o.idle = true) (hmin : ∀ x ∈ L, x.idle = true → o.used ≤ x.used) (hinj : ∀ x ∈ L, ∀ y ∈ L, x.used = y.used → x = y) : victim L = some o := by
  cases hv : victim L with
  | none =>
    have := ((victim_fold L none).2 hv).2 o ho
    rw [hi] at this; cases this
  | some y =>
    obtain ⟨h1, h2, _⟩ := (victim_fold L none).1 y hv
    rcases h1 with h1 | ⟨h1, h3⟩
    · cases h1
    · have := h2 o ho hi
      have := hmin y h1 h3
      rw [hinj y h1 o ho (by omega)]

end Go.Proofs.YtebdgcoandfocaaGreatDoor

/-
  A cache as the document has it: a list of the blocks that are held; what the program's cache is as such a list.
-/
namespace Go.Proofs.YtebdgcoandfocaaGreatDoor
open Go.RowKit Go.Maps Go.Sort Go.Shelf


/-- An entry, as the document has it. -/
def heOf (U : Nat → EV) (B : Nat → By) (a : Nat) : HE := ⟨(U a).block, (U a).pins, (U a).used, (U a).dirty, B a⟩
def acOf (s : CS) (B : Nat → By) : AC := ⟨s.room, s.A.map (heOf s.U B), s.uses, s.met, s.missed, s.out⟩
theorem heOf_idle (U : Nat → EV) (B : Nat → By) (a : Nat) : (heOf U B a).idle = idleE (U a) := rfl

theorem held_iff {s : CS} {B : Nat → By} {b : Nat} : (acOf s B).held b = true ↔ ∃ a ∈ s.A, (s.U a).block = b := by
  unfold AC.held acOf
  simp [heOf]
theorem held_not {s : CS} {B : Nat → By} {b : Nat} (h : (acOf s B).held b = false) : ∀ a ∈ s.A, (s.U a).block ≠ b := fun a ha e => by
  have : (acOf s B).held b = true := held_iff.2 ⟨a, ha, e⟩
  rw [h] at this; cases this

section
variable {w : World} {s : CS} {vs : VS} {B : Nat → By}
theorem CX.full_iff (h : CI w s vs B) : (acOf s B).full = true ↔ s.room ≤ s.A.length ∧ s.I = [] := by
  unfold AC.full
  rw [Bool.and_eq_true, decide_eq_true_iff]
  have e1 : (acOf s B).L.length = s.A.length := by simp [acOf]
  rw [e1]
  refine and_congr Iff.rfl ⟨fun hv => ?_, fun hI => ?_⟩
  · have hv' : victim (acOf s B).L = none := by
      cases hx : victim (acOf s B).L with
      | none => rfl
      | some y => rw [hx] at hv; cases hv
    have := ((victim_fold _ none).2 hv').2
    refine List.eq_nil_iff_forall_not_mem.2 fun a ha => ?_
    obtain ⟨h1, h2⟩ := (h.idle a (fun h => h)).1 ha
    have := this (heOf s.U B a) (List.mem_map.2 ⟨a, h1, rfl⟩)
    rw [heOf_idle, h2] at this
    cases this
  · have : victim (acOf s B).L = none := victim_none fun x hx => by
      obtain ⟨a, ha, rfl⟩ := List.mem_map.1 hx
      rw [heOf_idle]
      cases hi : idleE (s.U a) with
      | false => rfl
      | true =>
        have := (h.idle a (fun h => h)).2 ⟨ha, hi⟩
        rw [hI] at this; cases this
    rw [this]; rfl
/-- What the heap's first one is. -/
theorem CX.victim (h : CI w s vs B) {o : Nat} (ho : o ∈ s.I) (hmin : ∀ b ∈ s.I, (s.U o).used ≤ (s.U b).used) : victim (acOf s B).L = some (heOf s.U B o) := by
  obtain ⟨h1, h2⟩ := (h.idle o (fun h => h)).1 ho
  refine victim_some (List.mem_map.2 ⟨o, h1, rfl⟩) h2 (fun x hx hi => ?_) (fun x hx y hy e => ?_)
  · obtain ⟨a, ha, rfl⟩ := List.mem_map.1 hx
    exact hmin a ((h.idle a (fun h => h)).2 ⟨ha, hi⟩)
  · obtain ⟨a, ha, rfl⟩ := List.mem_map.1 hx
    obtain ⟨b, hb, rfl⟩ := List.mem_map.1 hy
    rw [h.uinj a ha b hb (fun h => h) (fun h => h) e]
/-- What is left behind a taking out. -/
theorem CX.filtered (h : CI w s vs B) {o : Nat} (ho : o ∈ s.A) : (s.A.filter (fun b => b != o)).map (heOf s.U B) = (acOf s B).L.filter (fun x => x.block != (s.U o).block) := by
  show _ = (s.A.map (heOf s.U B)).filter _
  rw [List.filter_map]
  congr 1
  refine List.filter_congr fun a ha => ?_
  show (a != o) = ((s.U a).block != (s.U o).block)
  by_cases e : a = o
  · rw [e, bne_self_eq_false, bne_self_eq_false]
  · have h2 : (s.U a).block ≠ (s.U o).block := fun e' => e (h.cm.hm.inj a ha o ho e')
    rw [bne_iff_ne.2 e, bne_iff_ne.2 h2]
/-- One entry is turned. -/
theorem touched_abs (cm : CM w s) {a : Nat} (ha : a ∈ s.A) (e : EV) (b : By) (f : HE → HE) (hf : f (heOf s.U B a) = ⟨e.block, e.pins, e.used, e.dirty, b⟩) : s.A.map (heOf (updU s.U a e) (fun k => if k = a then b else B k)) = (acOf s B).L.map fun x => if x.block = (s.U a).block then f x else x := by
  show _ = (s.A.map (heOf s.U B)).map _
  rw [List.map_map]
  refine List.map_congr_left fun k hk => ?_
  show heOf (updU s.U a e) (fun k => if k = a then b else B k) k = if (s.U k).block = (s.U a).block then f (heOf s.U B k) else heOf s.U B k
  by_cases e' : k = a
  · subst e'
    rw [if_pos rfl, hf]
    unfold heOf
    simp [updU_same]
  · have : (s.U k).block ≠ (s.U a).block := fun e'' => e' (cm.hm.inj k hk a ha e'')
    rw [if_neg this]
    unfold heOf
    simp [updU_other _ _ e', e']
end

end Go.Proofs.YtebdgcoandfocaaGreatDoor

/-
  use over a cache and its volume; Get and Pin of package bcache.
-/
namespace Go.Proofs.YtebdgcoandfocaaGreatDoor
open Go.RowKit Go.Maps Go.Sort Go.Shelf

section
variable {w w' : World} {s : CS} {vs : VS} {B : Nat → By} {a : Nat}
theorem CX.weak (h : CI w s vs B) (a : Nat) : CX (fun k => k = a) w s vs B :=
  ⟨h.cm, h.vi, h.vv, h.hf, h.hd, h.dat, fun _ _ => hx_of_ord (h.ord fun _ h => h), fun _ => h.ord fun _ h => h, fun b _ => h.idle b (fun h => h), h.dirty, h.dnd, fun b hb _ => h.used b hb (fun h => h), fun b hb c hc _ _ => h.uinj b hb c hc (fun h => h) (fun h => h), h.blk, h.clean, h.room⟩
theorem len_sub : ∀ {I A : List Nat}, I.Nodup → (∀ a ∈ I, a ∈ A) → I.length ≤ A.length
  | [], _, _, _ => Nat.zero_le _
  | a :: I, A, hn, hs => by
    have ha := hs a (by simp)
    have h1 := len_sub (I := I) (A := A.erase a) (List.nodup_cons.1 hn).2 (fun b hb => by
      have hne : b ≠ a := fun e => (List.nodup_cons.1 hn).1 (e ▸ hb)
      exact (List.mem_erase_of_ne hne).2 (hs b (by simp [hb])))
    rw [List.length_erase_of_mem ha] at h1
    have := List.length_pos_of_mem ha
    simp only [List.length_cons]
    omega
theorem CX.ilen {ex : Nat → Prop} (h : CX ex w s vs B) : s.I.length ≤ 4096 := by
  have := len_sub h.cm.hp.nodup h.cm.sub
  have := h.room.2.1
  have := h.room.2.2
  omega

/-- An entry is turned: all holds but for its rank. -/
theorem cx_setE (h : CX (fun k => k = a) w s vs B) (e : EV) (b : By) (D' : List Nat) (dq : Option Addr) (dcap : Nat) (cm : CM w' { s with U := updU s.U a e, D := D', dq := dq, dcap := dcap }) (hB : But (cMine w s.h) w w') (ha : a ∈ s.A)
    (heb : e.block = (s.U a).block) (hdat : DatAt w' e b) (hD : (e.dirty = (s.U a).dirty ∧ D' = s.D) ∨ (e.dirty = true ∧ (s.U a).dirty = false ∧ D' = s.D ++ [a])) (hcl : e.dirty = false → b = B a) :
    CX (fun k => k = a) w' { s with U := updU s.U a e, D := D', dq := dq, dcap := dcap } vs (fun k => if k = a then b else B k) := by
  obtain ⟨hvi, hkeep⟩ := h.keep hB
  have U1 : ∀ k, k ≠ a → updU s.U a e k = s.U k := fun k hk => updU_other _ _ hk
  refine ⟨cm, hvi, h.vv, h.hf, h.hd, fun k hk => ?_, fun k hk => ?_, fun hall => absurd rfl (hall a), fun k hk => ?_, fun k => ?_, ?_, fun k hk hka => ?_, fun k hk k' hk' hka hka' e' => ?_, fun k hk => ?_, fun k hk hdk => ?_, h.room⟩
  · show DatAt w' (updU s.U a e k) (if k = a then b else B k)
    by_cases e' : k = a
    · subst e'; rw [updU_same, if_pos rfl]; exact hdat
    · rw [U1 k e', if_neg e']; exact hkeep _ _ (h.dat k hk)
  · have e' : k = a := hk
    rw [e']
    have := hx_upd h.cm.hp.nodup (h.hx a rfl) e
    exact ⟨this.1, this.2⟩
  · show k ∈ s.I ↔ k ∈ s.A ∧ idleE (updU s.U a e k) = true
    rw [U1 k hk]; exact h.idle k hk
  · show k ∈ D' ↔ k ∈ s.A ∧ (updU s.U a e k).dirty = true
    by_cases e' : k = a
    · subst e'
      rw [updU_same]
      rcases hD with ⟨h1, h2⟩ | ⟨h1, _, h2⟩
      · rw [h1, h2]; exact h.dirty k
      · rw [h1, h2]; simp [ha]
    · rw [U1 k e']
      rcases hD with ⟨_, h2⟩ | ⟨_, _, h2⟩
      · rw [h2]; exact h.dirty k
      · rw [h2, List.mem_append, List.mem_singleton, ← h.dirty k]
        exact ⟨fun h => h.resolve_right e', .inl⟩
  · show D'.Nodup
    rcases hD with ⟨_, h2⟩ | ⟨_, h3, h2⟩
    · rw [h2]; exact h.dnd
    · have haD : a ∉ s.D := fun hd => by have := ((h.dirty a).1 hd).2; rw [h3] at this; cases this
      rw [h2, List.nodup_append]
      exact ⟨h.dnd, by simp, fun x hx y hy => by rw [List.mem_singleton.1 hy]; exact fun e => haD (e ▸ hx)⟩
  · show (updU s.U a e k).used ≤ s.uses
    rw [U1 k hka]; exact h.used k hk hka
  · have e2 : (updU s.U a e k).used = (updU s.U a e k').used := e'
    rw [U1 k hka, U1 k' hka'] at e2
    exact h.uinj k hk k' hk' hka hka' e2
  · show (updU s.U a e k).block < _
    by_cases e' : k = a
    · rw [e', updU_same, heb]; exact h.blk a ha
    · rw [U1 k e']; exact h.blk k hk
  · show (if k = a then b else B k) = vs.cont (updU s.U a e k).block
    have hdk' : (updU s.U a e k).dirty = false := hdk
    by_cases e' : k = a
    · subst e'
      rw [updU_same] at hdk' ⊢
      rw [if_pos rfl, heb, hcl hdk']
      refine h.clean k hk ?_
      rcases hD with ⟨h1, _⟩ | ⟨_, h1, _⟩
      · rw [← h1]; exact hdk'
      · exact h1
    · rw [U1 k e'] at hdk' ⊢
      rw [if_neg e']
      exact h.clean k hk hdk'

/-- Behind use all holds. -/
theorem cx_used {s' : CS} (h : CX (fun k => k = a) w s vs B) (ha : a ∈ s.A) (hu : Us w w' s s' a) : CI w' s' vs B := by
  obtain ⟨hvi, hkeep⟩ := h.keep hu.but
  obtain ⟨ip, icap, I', rfl⟩ := hu.eq
  have U1 : ∀ k, k ≠ a → updU s.U a { s.U a with used := s.uses + 1 } k = s.U k := fun k hk => updU_other _ _ hk
  have Ua : updU s.U a { s.U a with used := s.uses + 1 } a = { s.U a with used := s.uses + 1 } := updU_same _ _ _
  have hdir : ∀ k, (updU s.U a { s.U a with used := s.uses + 1 } k).dirty = (s.U k).dirty := fun k => by
    by_cases e : k = a
    · rw [e, Ua]
    · rw [U1 k e]
  have hblk : ∀ k, (updU s.U a { s.U a with used := s.uses + 1 } k).block = (s.U k).block := fun k => by
    by_cases e : k = a
    · rw [e, Ua]
    · rw [U1 k e]
  refine ⟨hu.cm, hvi, h.vv, h.hf, h.hd, fun k hk => ?_, fun _ h => h.elim, fun _ => hu.ord, fun k _ => ?_, fun k => ?_, h.dnd, fun k hk _ => ?_, fun k hk k' hk' _ _ e' => ?_, fun k hk => ?_, fun k hk hdk => ?_, h.room⟩
  · show DatAt w' (updU s.U a { s.U a with used := s.uses + 1 } k) (B k)
    by_cases e : k = a
    · rw [e, Ua]
      have := hkeep _ _ (h.dat a ha)
      exact this
    · rw [U1 k e]; exact hkeep _ _ (h.dat k hk)
  · show k ∈ I' ↔ k ∈ s.A ∧ idleE (updU s.U a { s.U a with used := s.uses + 1 } k) = true
    rw [show (k ∈ I' ↔ _) from hu.mem k]
    by_cases e : k = a
    · subst e
      rw [Ua]
      constructor
      · rintro (⟨_, h1⟩ | ⟨_, h1⟩)
        · exact absurd rfl h1
        · exact ⟨ha, h1⟩
      · rintro ⟨_, h1⟩; exact .inr ⟨rfl, h1⟩
    · rw [U1 k e, ← h.idle k e]
      constructor
      · rintro (⟨h1, _⟩ | ⟨h1, _⟩)
        · exact h1
        · exact absurd h1 e
      · intro h1; exact .inl ⟨h1, e⟩
  · show k ∈ s.D ↔ k ∈ s.A ∧ (updU s.U a { s.U a with used := s.uses + 1 } k).dirty = true
    rw [hdir]; exact h.dirty k
  · show (updU s.U a { s.U a with used := s.uses + 1 } k).used ≤ s.uses + 1
    by_cases e : k = a
    · rw [e, Ua]; exact Nat.le_refl _
    · rw [U1 k e]; exact Nat.le_trans (h.used k hk e) (Nat.le_succ _)
  · have e2 : (updU s.U a { s.U a with used := s.uses + 1 } k).used = (updU s.U a { s.U a with used := s.uses + 1 } k').used := e'
    by_cases e : k = a
    · by_cases e3 : k' = a
      · rw [e, e3]
      · rw [e, Ua, U1 k' e3] at e2
        have := h.used k' hk' e3
        have e4 : s.uses + 1 = (s.U k').used := e2
        omega
    · by_cases e3 : k' = a
      · rw [e3, Ua, U1 k e] at e2
        have := h.used k hk e
        have e4 : (s.U k).used = s.uses + 1 := e2
        omega
      · rw [U1 k e, U1 k' e3] at e2
        exact h.uinj k hk k' hk' e e3 e2
  · show (updU s.U a { s.U a with used := s.uses + 1 } k).block < _
    rw [hblk]; exact h.blk k hk
  · show B k = vs.cont (updU s.U a { s.U a with used := s.uses + 1 } k).block
    have hdk' : (updU s.U a { s.U a with used := s.uses + 1 } k).dirty = false := hdk
    rw [hdir] at hdk'
    rw [hblk]; exact h.clean k hk hdk'
theorem acOf_used {s' : CS} (cm : CM w s) (ha : a ∈ s.A) (hu : Us w w' s s' a) : acOf s' B = (acOf s B).touch (s.U a).block id := by
  obtain ⟨ip, icap, I', rfl⟩ := hu.eq
  have := touched_abs (B := B) cm ha { s.U a with used := s.uses + 1 } (B a) (fun x => { x with used := s.uses + 1 }) rfl
  have eB : (fun k => if k = a then B a else B k) = B := by funext k; split <;> simp_all
  rw [eB] at this
  unfold acOf AC.touch
  congr 1
theorem use_cx (h : CX (fun k => k = a) w s vs B) (ha : a ∈ s.A) {b : Nat} (hz : CB s b) (hb : b < 900000) :
    Calls Tryz.prog 91 #[ep s.c, ep a] w fun e w' => e = .returned (.tuple #[]) ∧ ∃ s', CI w' s' vs B ∧ Us w w' s s' a ∧ acOf s' B = (acOf s B).touch (s.U a).block id := by
  have hl := h.ilen
  have := hz.uses
  refine (use_any s a w h.cm ha (h.hx a rfl) (by omega) (by omega)).mono ?_
  rintro e w' ⟨rfl, s', hu⟩
  exact ⟨rfl, s', cx_used h ha hu, hu, acOf_used h.cm ha hu⟩
end

/-- Behind meet: the block's entry, held but for its rank. -/
structure Mx (w w' : World) (s s' : CS) (vs : VS) (B B' : Nat → By) (block a b : Nat) : Prop where
  cx : CX (fun k => k = a) w' s' vs B'
  inA : a ∈ s'.A
  blk : (s'.U a).block = block
  ac : acOf s' B' = if (acOf s B).held block then { acOf s B with hit := s.met + 1 } else { (acOf s B).evict.add block (vs.cont block) with miss := s.missed + 1 }
  cb : CB s' (b + 1) ∧ s'.uses = s.uses
  c : s'.c = s.c
  h : s'.h = s.h
  but : But (cMine w s.h) w w'
  lk : ∀ X : Nat → Prop, (∀ g, w.heap.size ≤ g → X g) → Lk s X → Lk s' X

theorem not_full {w : World} {s : CS} {vs : VS} {B : Nat → By} (h : CI w s vs B) (hf : (acOf s B).full = false) : s.A.length < s.room ∨ 0 < s.I.length := by
  by_cases hlt : s.A.length < s.room
  · exact .inl hlt
  · right
    apply Classical.byContradiction
    intro hI
    have : (acOf s B).full = true := h.full_iff.2 ⟨by omega, List.eq_nil_of_length_eq_zero (by omega)⟩
    rw [hf] at this; cases this

theorem evict_abs {w : World} {s : CS} {vs : VS} {B : Nat → By} (h : CI w s vs B) {A1 I1 : List Nat} {out1 : Nat}
    (hev : (s.A.length < s.room ∧ A1 = s.A ∧ I1 = s.I ∧ out1 = s.out) ∨ (s.room ≤ s.A.length ∧ ∃ o, o ∈ s.I ∧ (∀ b ∈ s.I, (s.U o).used ≤ (s.U b).used) ∧ A1 = s.A.filter (fun b => b != o) ∧ (∀ b, b ∈ I1 ↔ b ∈ s.I ∧ b ≠ o) ∧ out1 = s.out + 1)) :
    (acOf s B).evict = { acOf s B with L := A1.map (heOf s.U B), outs := out1 } := by
  have e1 : (acOf s B).L.length = s.A.length := by simp [acOf]
  have e2 : (acOf s B).room = s.room := rfl
  unfold AC.evict
  rw [e1, e2]
  rcases hev with ⟨hlt, rfl, _, rfl⟩ | ⟨hge, o, ho, hmin, rfl, _, rfl⟩
  · rw [if_pos hlt]; rfl
  · rw [if_neg (by omega), h.victim ho hmin]
    show ({ acOf s B with L := (acOf s B).L.filter (fun x => x.block != (s.U o).block), outs := _ } : AC) = _
    rw [h.filtered (h.cm.sub o ho)]
    rfl

theorem meet_ok (s : CS) (vs : VS) (B : Nat → By) (block b : Nat) (w : World) (h : CI w s vs B) (hz : CB s b) (hbz : b < 900000) (hb : block < nbOf vs.d.n) (hok : (acOf s B).held block = true ∨ (acOf s B).full = false) :
    Calls Tryz.prog 90 #[ep s.c, .int .i64 (block : Nat)] w fun e w' => ∃ a s' B', e = .returned (.tuple #[ep a, .int .i64 0]) ∧ Mx w w' s s' vs B B' block a b := by
  cases hh : (acOf s B).held block with
  | true =>
    obtain ⟨a, ha, rfl⟩ := held_iff.1 hh
    have := hz.met
    refine (meet_hit s vs B a w h ha (by omega)).mono ?_
    rintro e w' ⟨rfl, hI, hB⟩
    refine ⟨a, _, B, rfl, hI.weak a, ha, rfl, ?_, ⟨⟨?_, ?_, ?_, ?_, ?_⟩, rfl⟩, rfl, rfl, hB, fun X _ h => h⟩
    · rw [hh]; rfl
    · have := hz.nh; show s.nh ≤ _; omega
    · have := hz.uses; show s.uses ≤ _; omega
    · show s.met + 1 ≤ _; omega
    · have := hz.missed; show s.missed ≤ _; omega
    · have := hz.out; show s.out ≤ _; omega
  | false =>
    have hf : (acOf s B).full = false := by
      rcases hok with h1 | h1
      · rw [hh] at h1; cases h1
      · exact h1
    refine (meet_miss s vs B block b w h hz hbz hb (held_not hh) (not_full h hf)).mono ?_
    rintro e w' ⟨a, s', B', rfl, hM⟩
    obtain ⟨F, A1, I1, out1, p, cp, rfl, hev⟩ := hM.eq
    have hcx := hM.cx
    have hbB := hM.bytes
    subst hbB
    refine ⟨a, _, _, rfl, hcx, by simp, ?_, ?_, ⟨⟨?_, ?_, ?_, ?_, ?_⟩, rfl⟩, rfl, rfl, hM.but, hM.lk⟩
    · show (updU s.U a _ a).block = block
      rw [updU_same]
    · rw [hh, if_neg (by simp), evict_abs h hev]
      have hA1 : ∀ k ∈ A1, k ≠ a := fun k hk e => by
        have hks : k ∈ s.A := by
          rcases hev with ⟨_, rfl, _⟩ | ⟨_, o, _, _, rfl, _⟩
          · exact hk
          · exact (List.mem_filter.1 hk).1
        have := h.cm.alt hks
        have := hM.new
        omega
      have e1 : A1.map (heOf (updU s.U a ⟨block, p, 512, cp, 0, false, 0⟩) (fun k => if k = a then vs.cont block else B k)) = A1.map (heOf s.U B) := List.map_congr_left fun k hk => by
        unfold heOf
        simp [updU_other _ _ (hA1 k hk), hA1 k hk]
      unfold acOf AC.add
      simp only [List.map_append, List.map_cons, List.map_nil, e1]
      congr 2
      unfold heOf
      simp [updU_same]
    · have := hz.nh; show s.nh + 1 ≤ _; omega
    · have := hz.uses; show s.uses ≤ _; omega
    · have := hz.met; show s.met ≤ _; omega
    · have := hz.missed; show s.missed + 1 ≤ _; omega
    · have := hz.out
      show out1 ≤ _
      rcases hev with ⟨_, _, _, rfl⟩ | ⟨_, o, _, _, _, _, rfl⟩ <;> omega

/-- A step of a cache. -/
structure Cst (w w' : World) (s s' : CS) (vs : VS) (B' : Nat → By) (b : Nat) : Prop where
  ci : CI w' s' vs B'
  cb : CB s' (b + 1)
  c : s'.c = s.c
  h : s'.h = s.h
  but : But (cMine w s.h) w w'

theorem dataOf_ent {w : World} {s : CS} {B : Nat → By} (cm : CM w s) {a : Nat} (ha : a ∈ s.A) : (acOf s B).dataOf (s.U a).block = B a := by
  unfold AC.dataOf
  show (((s.A.map (heOf s.U B)).find? fun x => x.block == (s.U a).block).map HE.data).getD [] = B a
  have : (s.A.map (heOf s.U B)).find? (fun x => x.block == (s.U a).block) = some (heOf s.U B a) := by
    rw [List.find?_map]
    have hf : s.A.find? ((fun x : HE => x.block == (s.U a).block) ∘ heOf s.U B) = some a := by
      cases hx : s.A.find? ((fun x : HE => x.block == (s.U a).block) ∘ heOf s.U B) with
      | none =>
        have := List.find?_eq_none.1 hx a ha
        simp [heOf] at this
      | some c =>
        have h1 := List.mem_of_find?_eq_some hx
        have h2 := List.find?_some hx
        have h3 : (s.U c).block = (s.U a).block := by simpa [heOf] using h2
        rw [cm.hm.inj c h1 a ha h3]
    rw [hf]; rfl
  rw [this]; rfl

set_option maxRecDepth 8000 in
set_option maxHeartbeats 1000000 in
theorem get_out (s : CS) (vs : VS) (B : Nat → By) (x : Int) (w : World) (h : CI w s vs B) (h1 : -9223372036854775808 ≤ x) (h2 : x < 9223372036854775808) (hx : ¬ (0 ≤ x ∧ x < nbOf vs.d.n)) :
    Calls Tryz.prog 68 #[ep s.c, .int .i64 x] w fun e w' => e = .returned (.tuple #[.slice none 0 0, .int .i64 22]) ∧ w' = w := by
  have cM := meet_out s vs B x w h h1 h2 hx
  clear h
  go_enter Tryz.func68, Tryz.ntmps68
  go_wp2_with (go_at_call 90; refine Calls_on cM ?_)
  go_ret2
  exact ⟨rfl, rfl⟩
end Go.Proofs.YtebdgcoandfocaaGreatDoor

/-
  Pin, Unpin, Has, Counts of package bcache.
-/
namespace Go.Proofs.YtebdgcoandfocaaGreatDoor
open Go.RowKit Go.Maps Go.Sort Go.Shelf

theorem touch_two (A : AC) (b : Nat) (f : HE → HE) (hf : ∀ x : HE, (f x).block = x.block ∧ ∀ t, ({ f x with used := t } : HE) = f { x with used := t }) : AC.touch { A with L := A.L.map fun x => if x.block = b then f x else x } b id = A.touch b f := by
  unfold AC.touch
  simp only [List.map_map]
  congr 1
  refine List.map_congr_left fun x _ => ?_
  show (if (if x.block = b then f x else x).block = b then id { (if x.block = b then f x else x) with used := A.time + 1 } else (if x.block = b then f x else x)) = if x.block = b then f { x with used := A.time + 1 } else x
  by_cases e : x.block = b
  · simp only [if_pos e]
    rw [if_pos (by rw [(hf x).1]; exact e)]
    exact (hf x).2 _
  · simp only [if_neg e]

set_option maxRecDepth 8000 in
set_option maxHeartbeats 1000000 in
theorem pin_ok (s : CS) (vs : VS) (B : Nat → By) (block b : Nat) (w : World) (h : CI w s vs B) (hz : CB s b) (hbz : b < 800000) (hb : block < nbOf vs.d.n) (hok : (acOf s B).held block = true ∨ (acOf s B).full = false) (hpin : ∀ a ∈ s.A, (s.U a).pins < 1000000) :
    Calls Tryz.prog 85 #[ep s.c, .int .i64 (block : Nat)] w fun e w' => e = .returned (.int .i64 0) ∧ ∃ s' B', Cst w w' s s' vs B' b ∧ acOf s' B' = (acOf s B).meet block (vs.cont block) (fun x => { x with pins := x.pins + 1 }) := by
  have cM := meet_ok s vs B block b w h hz (by omega) hb hok
  have hpinA : Hid (∀ x ∈ (acOf s B).L, x.pins < 1000000) := fun x hx => by
    obtain ⟨a, ha, rfl⟩ := List.mem_map.1 hx
    exact hpin a ha
  clear h hpin
  go_enter Tryz.func85, Tryz.ntmps85
  go_wp2_with (go_at_call 90; refine cM.mono ?_; rintro e w1 ⟨a, s1, B1, rfl, hM⟩; clear cM; refine Stop.out ?_)
  refine Stop.mk ?_
  obtain ⟨x, hE⟩ := hM.cx.cm.entAny hM.inA
  have hps : (s1.U a).pins < 1000000 := by
    have h1 : heOf s1.U B1 a ∈ (acOf s1 B1).L := List.mem_map.2 ⟨a, hM.inA, rfl⟩
    rw [hM.ac] at h1
    split at h1
    · exact hpinA.out _ h1
    · rcases List.mem_append.1 (show heOf s1.U B1 a ∈ (acOf s B).evict.L ++ [_] from h1) with h1 | h1
      · refine hpinA.out (heOf s1.U B1 a) ?_
        revert h1
        unfold AC.evict
        split
        · exact id
        · split
          · intro h1; exact (List.mem_filter.1 h1).1
          · exact id
      · have : (heOf s1.U B1 a).pins = 0 := by rw [List.mem_singleton.1 h1]
        have e2 : (s1.U a).pins = 0 := this
        omega
  have d2 : w1.cell? ⟨a, 2, none⟩ = some (.int .i64 ((s1.U a).pins : Nat)) := by rw [cellOf hE 2]; rfl
  have f2 := frozenOf hE 2
  obtain ⟨z, hzz, e1⟩ : ∃ z : Int, (((s1.U a).pins + 1 : Nat) : Int) = z ∧ (((s1.U a).pins : Nat) : Int) + 1 = z := ⟨_, rfl, by omega⟩
  have cm2 := hM.cx.cm.setE hM.inA 2 (.int .i64 (((s1.U a).pins + 1 : Nat) : Int)) { s1.U a with pins := (s1.U a).pins + 1 } (fun _ => rfl) rfl (hM.cx.cm.hp.used a)
  have mE : cMine w1 s1.h a := hM.cx.cm.mineE hM.inA
  have hB2 : But (cMine w1 s1.h) w1 (w1.setCell ⟨a, 2, none⟩ (.int .i64 (((s1.U a).pins + 1 : Nat) : Int))) := (But.refl (cMine w1 s1.h) w1).setCell _ mE _
  have hdat := (hM.cx.keep hB2).2 _ _ (hM.cx.dat a hM.inA)
  have cx2 := cx_setE hM.cx { s1.U a with pins := (s1.U a).pins + 1 } (B1 a) s1.D s1.dq s1.dcap cm2 hB2 hM.inA rfl hdat (.inl ⟨rfl, rfl⟩) (fun _ => rfl)
  have eB : (fun k => if k = a then B1 a else B1 k) = B1 := by funext k; split <;> simp_all
  have htab := touched_abs (B := B1) hM.cx.cm hM.inA { s1.U a with pins := (s1.U a).pins + 1 } (B1 a) (fun x => { x with pins := x.pins + 1 }) rfl
  rw [eB] at cx2 htab
  have hcb2 : CB { s1 with U := updU s1.U a { s1.U a with pins := (s1.U a).pins + 1 } } (b + 1) := ⟨hM.cb.1.nh, hM.cb.1.uses, hM.cb.1.met, hM.cb.1.missed, hM.cb.1.out⟩
  have cU := use_cx cx2 hM.inA hcb2 (by omega)
  have hc1 : ({ s1 with U := updU s1.U a { s1.U a with pins := (s1.U a).pins + 1 } } : CS).c = s.c := hM.c
  rw [hc1] at cU
  have H1 : Hid (Mx w w1 s s1 vs B B1 block a b ∧ But (cMine w1 s1.h) w1 (w1.setCell ⟨a, 2, none⟩ (.int .i64 (((s1.U a).pins + 1 : Nat) : Int))) ∧ s1.A.map (heOf (updU s1.U a { s1.U a with pins := (s1.U a).pins + 1 }) B1) = (acOf s1 B1).L.map fun x => if x.block = (s1.U a).block then { x with pins := x.pins + 1 } else x) := ⟨hM, hB2, htab⟩
  rw [hzz] at cU H1
  clear hzz hE cm2 mE hB2 hdat cx2 eB htab hcb2 hc1 hM
  go_wp2_with (go_at_call 91; refine cU.mono ?_; rintro e w2 ⟨rfl, s2, hI2, hU2, hac2⟩; clear cU)
  go_ret
  obtain ⟨hM, hB2, htab⟩ := H1.out
  obtain ⟨ip, icap, I', he2⟩ := hU2.eq
  have hB3 : But (cMine w s.h) w w2 := by
    refine cMine_trans hM.but ?_
    rw [← hM.h]
    exact cMine_trans hB2 hU2.but
  refine ⟨rfl, s2, B1, ⟨hI2, ?_, by rw [he2], by rw [he2]; exact hM.h, hB3⟩, ?_⟩
  · obtain ⟨⟨q1, q2, q3, q4, q5⟩, q6⟩ := hM.cb
    have := hz.uses
    rw [he2]
    exact ⟨q1, by show s1.uses + 1 ≤ _; omega, q3, q4, q5⟩
  · rw [hac2]
    have hb1 : (updU s1.U a { s1.U a with pins := (s1.U a).pins + 1 } a).block = block := by rw [updU_same]; exact hM.blk
    show AC.touch (acOf { s1 with U := updU s1.U a { s1.U a with pins := (s1.U a).pins + 1 } } B1) (updU s1.U a _ a).block id = _
    rw [hb1]
    have e3 : acOf { s1 with U := updU s1.U a { s1.U a with pins := (s1.U a).pins + 1 } } B1 = { acOf s1 B1 with L := (acOf s1 B1).L.map fun x => if x.block = block then { x with pins := x.pins + 1 } else x } := by
      unfold acOf
      simp only
      rw [htab, hM.blk]
      rfl
    rw [e3, touch_two _ _ (fun x : HE => { x with pins := x.pins + 1 }) (fun x => ⟨rfl, fun _ => rfl⟩), hM.ac]
    unfold AC.meet
    split <;> rfl

/-- Behind rank all holds. -/
theorem cx_ranked {w w' : World} {s s' : CS} {vs : VS} {B : Nat → By} {a : Nat} (h : CX (fun k => k = a) w s vs B) (ha : a ∈ s.A) (hu : (s.U a).used ≤ s.uses) (hj : ∀ b ∈ s.A, b ≠ a → (s.U b).used ≠ (s.U a).used) (hr : Rk w w' s s' a) : CI w' s' vs B ∧ acOf s' B = acOf s B := by
  obtain ⟨hvi, hkeep⟩ := h.keep hr.but
  obtain ⟨ip, icap, I', rfl⟩ := hr.eq
  refine ⟨⟨hr.cm, hvi, h.vv, h.hf, h.hd, fun k hk => hkeep _ _ (h.dat k hk), fun _ h => h.elim, fun _ => hr.ord, fun k _ => ?_, h.dirty, h.dnd, fun k hk _ => ?_, fun k hk k' hk' _ _ e' => ?_, h.blk, h.clean, h.room⟩, rfl⟩
  · show k ∈ I' ↔ k ∈ s.A ∧ idleE (s.U k) = true
    rw [show (k ∈ I' ↔ _) from hr.mem k]
    by_cases e : k = a
    · subst e
      constructor
      · rintro (⟨_, h1⟩ | ⟨_, h1⟩)
        · exact absurd rfl h1
        · exact ⟨ha, h1⟩
      · rintro ⟨_, h1⟩; exact .inr ⟨rfl, h1⟩
    · rw [← h.idle k e]
      constructor
      · rintro (⟨h1, _⟩ | ⟨h1, _⟩)
        · exact h1
        · exact absurd h1 e
      · intro h1; exact .inl ⟨h1, e⟩
  · by_cases e : k = a
    · rw [e]; exact hu
    · exact h.used k hk e
  · by_cases e : k = a
    · by_cases e3 : k' = a
      · rw [e, e3]
      · subst e; exact absurd (show (s.U k').used = (s.U k).used from e'.symm) (hj k' hk' e3)
    · by_cases e3 : k' = a
      · subst e3; exact absurd e' (hj k hk e)
      · exact h.uinj k hk k' hk' e e3 e'

def AC.unpin (A : AC) (b : Nat) : AC := { A with L := A.L.map fun x => if x.block = b then { x with pins := x.pins - 1 } else x }

set_option maxRecDepth 8000 in
set_option maxHeartbeats 1000000 in
theorem unpin_ok (s : CS) (vs : VS) (B : Nat → By) (a b : Nat) (w : World) (h : CI w s vs B) (hz : CB s b) (ha : a ∈ s.A) (hp : 0 < (s.U a).pins) (hp2 : (s.U a).pins < 1000000) :
    Calls Tryz.prog 106 #[ep s.c, .int .i64 ((s.U a).block : Nat)] w fun e w' => e = .returned (.int .i64 0) ∧ ∃ s', Cst w w' s s' vs B b ∧ acOf s' B = (acOf s B).unpin (s.U a).block := by
  have c2 : w.cell? ⟨s.c, 2, none⟩ = some (.map (some s.h)) := by rw [cellOf h.cm.hp.cell 2]; rfl
  have l1 := h.cm.hm.look_yes ha
  obtain ⟨x, hE⟩ := h.cm.entAny ha
  have d2 : w.cell? ⟨a, 2, none⟩ = some (.int .i64 ((s.U a).pins : Nat)) := by rw [cellOf hE 2]; rfl
  have f2 := frozenOf hE 2
  have hp0 : ((((s.U a).pins : Nat) : Int) == 0) = false := by rw [beq_eq_false_iff_ne]; omega
  obtain ⟨z, hzz, e1⟩ : ∃ z : Int, (((s.U a).pins - 1 : Nat) : Int) = z ∧ (((s.U a).pins : Nat) : Int) - 1 = z := ⟨_, rfl, by omega⟩
  have hw := h.weak a
  have cm2 := h.cm.setE ha 2 (.int .i64 (((s.U a).pins - 1 : Nat) : Int)) { s.U a with pins := (s.U a).pins - 1 } (fun _ => rfl) rfl (h.cm.hp.used a)
  have mE : cMine w s.h a := h.cm.mineE ha
  have hB2 : But (cMine w s.h) w (w.setCell ⟨a, 2, none⟩ (.int .i64 (((s.U a).pins - 1 : Nat) : Int))) := (But.refl (cMine w s.h) w).setCell _ mE _
  have hdat := (h.keep hB2).2 _ _ (h.dat a ha)
  have cx2 := cx_setE hw { s.U a with pins := (s.U a).pins - 1 } (B a) s.D s.dq s.dcap cm2 hB2 ha rfl hdat (.inl ⟨rfl, rfl⟩) (fun _ => rfl)
  have eB : (fun k => if k = a then B a else B k) = B := by funext k; split <;> simp_all
  have htab := touched_abs (B := B) h.cm ha { s.U a with pins := (s.U a).pins - 1 } (B a) (fun x => { x with pins := x.pins - 1 }) rfl
  rw [eB] at cx2 htab
  have hil := cx2.ilen
  have cR := rank_any _ a _ cx2.cm ha (cx2.hx a rfl) (by omega)
  have hU2 : ∀ w' s', Rk (w.setCell ⟨a, 2, none⟩ (.int .i64 (((s.U a).pins - 1 : Nat) : Int))) w' { s with U := updU s.U a { s.U a with pins := (s.U a).pins - 1 } } s' a → CI w' s' vs B ∧ acOf s' B = acOf { s with U := updU s.U a { s.U a with pins := (s.U a).pins - 1 } } B := fun w' s' hr => by
    refine cx_ranked cx2 ha ?_ (fun k hk hka => ?_) hr
    · show (updU s.U a _ a).used ≤ s.uses
      rw [updU_same]; exact h.used a ha (fun h => h)
    · show (updU s.U a _ k).used ≠ (updU s.U a _ a).used
      rw [updU_same, updU_other _ _ hka]
      exact fun e => hka (h.uinj k hk a ha (fun h => h) (fun h => h) e)
  have H1 : Hid ((∀ w' s', Rk (w.setCell ⟨a, 2, none⟩ (.int .i64 (((s.U a).pins - 1 : Nat) : Int))) w' { s with U := updU s.U a { s.U a with pins := (s.U a).pins - 1 } } s' a → CI w' s' vs B ∧ acOf s' B = acOf { s with U := updU s.U a { s.U a with pins := (s.U a).pins - 1 } } B) ∧ But (cMine w s.h) w (w.setCell ⟨a, 2, none⟩ (.int .i64 (((s.U a).pins - 1 : Nat) : Int))) ∧ s.A.map (heOf (updU s.U a { s.U a with pins := (s.U a).pins - 1 }) B) = (acOf s B).L.map fun x => if x.block = (s.U a).block then { x with pins := x.pins - 1 } else x) := ⟨hU2, hB2, htab⟩
  rw [hzz] at cR H1
  clear hzz hE cm2 mE hB2 hdat cx2 eB htab hU2 hw h hil
  go_enter Tryz.func106, Tryz.ntmps106
  go_wp2_with (go_at_call 110; refine cR.mono ?_; rintro e w2 ⟨rfl, s2, hR2⟩; clear cR)
  go_ret
  obtain ⟨hU2, hB2, htab⟩ := H1.out
  obtain ⟨hI2, hac⟩ := hU2 w2 s2 hR2
  obtain ⟨ip, icap, I', he2⟩ := hR2.eq
  refine ⟨rfl, s2, ⟨hI2, ?_, by rw [he2], by rw [he2], cMine_trans hB2 hR2.but⟩, ?_⟩
  · obtain ⟨q1, q2, q3, q4, q5⟩ := hz
    rw [he2]
    exact ⟨by show s.nh ≤ _; omega, by show s.uses ≤ _; omega, by show s.met ≤ _; omega, by show s.missed ≤ _; omega, by show s.out ≤ _; omega⟩
  · rw [hac]
    unfold acOf AC.unpin
    simp only
    rw [htab]
    rfl

end Go.Proofs.YtebdgcoandfocaaGreatDoor

/-
  fresh of the law: a device with a volume of zeros, and its model.
-/
namespace Go.Proofs.YtebdgcoandfocaaGreatDoor
open Go.RowKit Go.Maps Go.Sort Go.Shelf

/-- A volume of zeros that is just mounted. -/
theorem zero_log (v f nf n : Nat) (F : DataW Value) (d : DS) (hn : d.n = n) (h16 : 16 ≤ n) (hb0 : d.B 0 = headB 1 0 n) (hz : ∀ i, 0 < i → i < n → d.B i = zeroB) : Log ⟨v, f, nf, 0, 1, d.n, F, fun _ => none, d, []⟩ := by
  have hle : 1 + nbOf d.n ≤ d.n := by unfold nbOf; omega
  refine ⟨rfl, fun _ _ => rfl, Nat.le_refl _, by rw [hn]; exact hb0, ⟨hle, fun hlt => ?_⟩, .inl rfl, fun j hj hj' => ?_, fun j hj hj' => ?_⟩
  · show OldB 1 (d.B (1 + nbOf d.n))
    rw [hz _ (by omega) (by have : 1 + nbOf d.n < d.n := hlt; omega)]; exact oldB_zero _
  · show OldB 2 (d.B j)
    have h1 : 1 + nbOf d.n ≤ j := hj
    have h2 : j < d.n := hj'
    rw [hz j (by omega) (by omega)]; exact oldB_zero _
  · show OldB 1 (d.B j)
    have h1 : 1 + nbOf d.n ≤ j := hj
    have h2 : j < d.n := hj'
    rw [hz j (by omega) (by omega)]; exact oldB_zero _

end Go.Proofs.YtebdgcoandfocaaGreatDoor

namespace Go.Proofs.YtebdgcoandfocaaGreatDoor
open Go.RowKit Go.Maps Go.Sort Go.Shelf

/-- n bytes of some bytes, over and over. -/
def fullB (bs : By) (n : Nat) : By := (List.range n).map fun i => (bs[i % bs.length]?).getD 0
theorem fullB_length (bs : By) (n : Nat) : (fullB bs n).length = n := by simp [fullB]

theorem full_bytes (bs : By) (bp : Option Addr) (bc n : Nat) (w : World) (hn : n ≤ 70000) (hbl : bs.length < 9223372036854775808) (hb : Bytes w bp bs) :
    Calls Tryz.prog 10 #[.slice bp bs.length bc, .int .i64 n] w fun e w' => e = .returned (.slice (some ⟨w.heap.size, 0, none⟩) n n) ∧
      w'.heap[w.heap.size]? = some (.cells ((fullB bs n).map u8v).toArray 5 (0, 0)) ∧ Below w.heap.size w w' := by
  have hl : (bs.map fun b => (b.toNat : Int)).length = bs.length := by simp
  have := full_any (bs.map fun b => (b.toNat : Int)) bp bc n w hn (by rw [hl]; exact hbl) (fun hp => by
    rw [hl] at hp
    obtain ⟨bb, bo, e, hx⟩ := hb hp
    refine ⟨bb, bo, e, fun j x hj => ?_⟩
    rw [List.getElem?_map] at hj
    obtain ⟨y, hy, rfl⟩ := Option.map_eq_some_iff.1 hj
    exact hx j y hy)
  rw [hl] at this
  refine this.mono ?_
  rintro e w' ⟨rfl, h1, h2⟩
  refine ⟨rfl, ?_, h2⟩
  rw [h1]
  have : (full (bs.map fun b => (b.toNat : Int)) n).map u8 = (fullB bs n).map u8v := by
    unfold full fullB
    rw [List.map_map, List.map_map]
    refine List.map_congr_left (fun i _ => ?_)
    simp only [Function.comp, List.length_map, List.getElem?_map]
    cases bs[i % bs.length]? with
    | none => rfl
    | some b => rfl
  rw [this]

end Go.Proofs.YtebdgcoandfocaaGreatDoor
