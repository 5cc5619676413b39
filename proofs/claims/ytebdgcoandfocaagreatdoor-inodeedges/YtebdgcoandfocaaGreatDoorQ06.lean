/-
  What the proof leans on, part 7.
-/
import Derived.Test.YtebdgcoandfocaaGreatDoorQ05
import Derived.Test.YtebdgcoandfocaaGreatDoorQ04
import Derived.Test.YtebdgcoandfocaaGreatDoorQ02
import Derived.Deep.RegionHeld3
import Derived.Maps.AppendAt

/-
  Read of package wal, of a block that the log doesn't hold; and of one that isn't there.
-/
namespace Go.Proofs.YtebdgcoandfocaaGreatDoor
open Go.RowKit Go.Maps Go.Sort Go.Shelf

set_option maxRecDepth 8000 in
set_option maxHeartbeats 1000000 in
theorem vRead_no (i : Int) (v : Nat) (commits turn next : Nat) (f : Option Nat) (count : Int) (d : DS) (w : World) (h : IsVol w v (dp d.a) commits turn next f count) (hd : Dev w d) (hn : 16 ≤ d.n) (hi : ¬ (0 ≤ i ∧ i < nbOf d.n)) :
    Calls Tryz.prog 109 #[dp v, .int .i64 i] w fun e w' => e = .returned (.tuple #[.slice none 0 0, .int .i64 22]) ∧ w' = w := by
  have c47 := vHas i v commits turn next f count d w h hd hn
  rw [show decide ((0 : Int) ≤ i ∧ i < (nbOf d.n : Nat)) = false from decide_eq_false hi] at c47
  clear h hd
  go_enter Tryz.func109, Tryz.ntmps109
  go_wp2_with (go_at_call 116; refine Calls_on c47 ?_)
  go_ret2
  exact ⟨rfl, rfl⟩

end Go.Proofs.YtebdgcoandfocaaGreatDoor

/-
  A volume and its log as one word: what holds of them between the calls.
-/
namespace Go.Proofs.YtebdgcoandfocaaGreatDoor
open Go.RowKit Go.Maps Go.Sort Go.Shelf

/-- Where the log's records end. -/
def logEnd : Nat → List Rec → Nat
  | at_, [] => at_
  | at_, ps :: rs => logEnd (at_ + pagesFor ps.length) rs
/-- A volume: where its parts lie, and what they hold. -/
structure VS where
  v : Nat
  f : Nat
  nf : Nat
  commits : Nat
  turn : Nat
  next : Nat
  F : DataW Value
  fr : Nat → Option By
  d : DS
  recs : List Rec

/-- What a block of the volume is. -/
def VS.cont (s : VS) (i : Nat) : By := (s.fr i).getD (s.d.B (1 + i))

/-- The log is whole. -/
structure Log (s : VS) : Prop where
  fr : s.fr = laidOn (fun _ => none) s.recs.flatten
  nb : ∀ i, nbOf s.d.n ≤ i → s.fr i = none
  len : s.recs.length ≤ s.commits
  head : s.d.B 0 = headB s.turn (s.commits - s.recs.length) s.d.n
  log : LogIs s.d.B s.d.n (nbOf s.d.n) s.turn (1 + nbOf s.d.n) s.recs
  next : s.next = s.d.n ∨ s.next = logEnd (1 + nbOf s.d.n) s.recs
  old : ∀ j, 1 + nbOf s.d.n ≤ j → j < s.d.n → OldB (s.turn + 1) (s.d.B j)
  old2 : ∀ j, logEnd (1 + nbOf s.d.n) s.recs ≤ j → j < s.d.n → OldB s.turn (s.d.B j)

structure VI (w : World) (s : VS) : Prop where
  vol : IsVol w s.v (dp s.d.a) s.commits s.turn s.next (some s.f) s.d.count
  dev : Dev w s.d
  fresh : Fresh w s.f s.nf s.F s.fr
  fm : s.f ≠ s.d.m
  fused : s.d.fused = false
  n16 : 16 ≤ s.d.n
  n200 : s.d.n ≤ 900
  lg : Log s

/-- How much was done. -/
structure Bud (s : VS) (b : Nat) : Prop where
  nf : s.nf ≤ b * 100
  count : s.d.count ≤ b * 1000
  commits : s.commits ≤ b
  turn : s.turn ≤ b + 1

/-- The blocks that a call of the volume may turn. -/
def VS.mine (s : VS) : Nat → Prop := fun k => k = s.v ∨ k = s.f ∨ s.d.mine k

theorem VI.mapAt {w : World} {s : VS} (h : VI w s) : ∃ es clock, w.heap[s.f]? = some (.map es clock) := by
  obtain ⟨es, clock, hm, _⟩ := h.fresh.own
  exact ⟨es, clock, hm⟩
/-- Cells of other types are none of the volume's. -/
theorem VI.other {w : World} {s : VS} (h : VI w s) {k : Nat} {cs : Array Value} {t : TypeId} {fr : Nat × Nat} (hk : w.heap[k]? = some (.cells cs t fr)) (h1 : t ≠ 127) (h2 : t ≠ 155) (h3 : t ≠ 115) : ¬ s.mine k := by
  rintro (rfl | rfl | hm)
  · have := h.vol; rw [IsVol, hk] at this; simp at this; exact h3 this.2.1
  · obtain ⟨es, clock, hm⟩ := h.mapAt; rw [hm] at hk; cases hk
  · exact h.dev.other hk h1 h2 hm
theorem VI.below {w w' : World} {s : VS} (h : VI w s) (hb : Below w.heap.size w w') : VI w' s :=
  ⟨h.vol.below hb, h.dev.below hb, h.fresh.below hb, h.fm, h.fused, h.n16, h.n200, h.lg⟩

end Go.Proofs.YtebdgcoandfocaaGreatDoor

/-
  A heap of keys: what a step up and a step down keep.
-/
namespace Go.Proofs.YtebdgcoandfocaaGreatDoor

def par (k : Nat) : Nat := (k - 1) / 2
/-- The keys f of the first n places make a heap. -/
def HeapF (f : Nat → Nat) (n : Nat) : Prop := ∀ k, 0 < k → k < n → f (par k) ≤ f k
/-- But for the way to place j from above. -/
def UpOk (f : Nat → Nat) (n j : Nat) : Prop := (∀ k, 0 < k → k < n → k ≠ j → f (par k) ≤ f k) ∧ ∀ k, 0 < k → k < n → par k = j → 0 < j → f (par j) ≤ f k
/-- But for the ways to and from place i. -/
def FixOk (f : Nat → Nat) (n i : Nat) : Prop := (∀ k, 0 < k → k < n → k ≠ i → par k ≠ i → f (par k) ≤ f k) ∧ ∀ k, 0 < k → k < n → par k = i → 0 < i → f (par i) ≤ f k
/-- Two places' keys change places. -/
def swF (f : Nat → Nat) (i j : Nat) : Nat → Nat := fun k => if k = j then f i else if k = i then f j else f k

theorem par_lt {k : Nat} (h : 0 < k) : par k < k := by unfold par; omega
theorem swF_j (f : Nat → Nat) (i j : Nat) : swF f i j j = f i := by simp [swF]
theorem swF_i (f : Nat → Nat) (i j : Nat) (h : i ≠ j) : swF f i j i = f j := by simp [swF, h]
theorem swF_o (f : Nat → Nat) (i j k : Nat) (h1 : k ≠ i) (h2 : k ≠ j) : swF f i j k = f k := by simp [swF, h1, h2]

theorem UpOk.step {f : Nat → Nat} {n j : Nat} (h : UpOk f n j) (hj : 0 < j) (hn : j < n) (hlt : f j < f (par j)) : UpOk (swF f (par j) j) n (par j) := by
  obtain ⟨h1, h2⟩ := h
  have hp := par_lt hj
  refine ⟨fun k k0 kn ki => ?_, fun k k0 kn kp i0 => ?_⟩
  · by_cases e1 : k = j
    · subst e1
      rw [swF_i _ _ _ (by omega), swF_j]; omega
    · rw [swF_o f _ _ k ki e1]
      by_cases e2 : par k = j
      · rw [e2, swF_j]; exact h2 k k0 kn e2 hj
      · by_cases e3 : par k = par j
        · rw [e3, swF_i _ _ _ (by omega)]
          have := h1 k k0 kn e1
          rw [e3] at this; omega
        · rw [swF_o f _ _ _ e3 e2]; exact h1 k k0 kn e1
  · have hpp := par_lt i0
    rw [swF_o f _ _ (par (par j)) (by omega) (by omega)]
    have hi := h1 (par j) i0 (by omega) (by omega)
    by_cases e1 : k = j
    · subst e1; rw [swF_j]; exact hi
    · have hk := par_lt k0
      rw [swF_o f _ _ k (by omega) e1]
      have := h1 k k0 kn e1
      rw [kp] at this; omega
theorem UpOk.done {f : Nat → Nat} {n j : Nat} (h : UpOk f n j) (hd : j = 0 ∨ f (par j) ≤ f j) : HeapF f n := by
  intro k k0 kn
  by_cases e : k = j
  · subst e
    rcases hd with hd | hd
    · omega
    · exact hd
  · exact h.1 k k0 kn e
theorem par_child {i k : Nat} (h : par k = i) (h0 : 0 < k) : k = 2 * i + 1 ∨ k = 2 * i + 2 := by unfold par at h; omega
theorem FixOk.step {f : Nat → Nat} {n i j : Nat} (h : FixOk f n i) (hj : par j = i) (hj0 : 0 < j) (hn : j < n) (hlt : f j < f i) (hmin : ∀ k, 0 < k → k < n → par k = i → f j ≤ f k) :
    FixOk (swF f i j) n j ∧ swF f i j (par j) ≤ swF f i j j := by
  obtain ⟨h1, h2⟩ := h
  have hp := par_lt hj0
  refine ⟨⟨fun k k0 kn kj kpj => ?_, fun k k0 kn kp _ => ?_⟩, ?_⟩
  · have hk := par_lt k0
    by_cases e1 : k = i
    · subst e1
      rw [swF_i _ _ _ (by omega), swF_o f _ _ (par k) (by omega) kpj]
      exact h2 j hj0 hn hj (by omega)
    · rw [swF_o f _ _ k e1 kj]
      by_cases e2 : par k = i
      · rw [e2, swF_i _ _ _ (by omega)]; exact hmin k k0 kn e2
      · rw [swF_o f _ _ _ e2 kpj]; exact h1 k k0 kn e1 e2
  · have hk := par_lt k0
    rw [hj, swF_i _ _ _ (by omega), swF_o f _ _ k (by omega) (by omega)]
    have := h1 k k0 kn (by omega) (by omega)
    rw [kp] at this; exact this
  · rw [hj, swF_i _ _ _ (by omega), swF_j]; omega
theorem FixOk.stay {f : Nat → Nat} {n i : Nat} (h : FixOk f n i) (hd : ∀ k, 0 < k → k < n → par k = i → f i ≤ f k) : UpOk f n i := by
  refine ⟨fun k k0 kn ki => ?_, h.2⟩
  by_cases e : par k = i
  · rw [e]; exact hd k k0 kn e
  · exact h.1 k k0 kn ki e
theorem HeapF.least {f : Nat → Nat} {n : Nat} (h : HeapF f n) : ∀ k, k < n → f 0 ≤ f k := by
  intro k
  induction k using Nat.strongRecOn with
  | _ k ih =>
    intro hk
    by_cases e : k = 0
    · rw [e]; exact Nat.le_refl _
    · have hp := par_lt (show 0 < k by omega)
      exact Nat.le_trans (ih (par k) hp (by omega)) (h k (by omega) hk)
/-- One key was changed. -/
theorem HeapF.fix {f g : Nat → Nat} {m n i : Nat} (h : HeapF f m) (hnm : n ≤ m) (hi : i < m) (hg : ∀ k, k < n → k ≠ i → g k = f k) : FixOk g n i := by
  refine ⟨fun k k0 kn ki kp => ?_, fun k k0 kn kp i0 => ?_⟩
  · have hk := par_lt k0
    rw [hg k kn ki, hg (par k) (by omega) kp]; exact h k k0 (by omega)
  · have hk := par_lt k0
    have hp := par_lt i0
    rw [hg k kn (by omega), hg (par i) (by omega) (by omega)]
    have a := h k k0 (by omega)
    rw [kp] at a
    exact Nat.le_trans (h i i0 hi) a
theorem HeapF.push {f g : Nat → Nat} {n : Nat} (h : HeapF f n) (hg : ∀ k, k < n → g k = f k) : UpOk g (n + 1) n := by
  refine ⟨fun k k0 kn ki => ?_, fun k k0 kn kp i0 => ?_⟩
  · have hk := par_lt k0
    rw [hg k (by omega), hg (par k) (by omega)]; exact h k k0 (by omega)
  · rcases par_child kp k0 with e | e <;> omega
theorem HeapF.less {f g : Nat → Nat} {m n : Nat} (h : HeapF f m) (hnm : n ≤ m) (hg : ∀ k, k < n → g k = f k) : HeapF g n := by
  intro k k0 kn
  have hk := par_lt k0
  rw [hg k kn, hg (par k) (by omega)]; exact h k k0 (by omega)

/-- Two places of a list change places. -/
def swapL (I : List Nat) (i j : Nat) : List Nat := (I.set i (I.getD j 0)).set j (I.getD i 0)
def kvOf (key : Nat → Nat) (I : List Nat) : Nat → Nat := fun k => key (I.getD k 0)
theorem swapL_length (I : List Nat) (i j : Nat) : (swapL I i j).length = I.length := by simp [swapL]
theorem swapL_getD (I : List Nat) (i j k : Nat) (hi : i < I.length) (hj : j < I.length) : (swapL I i j).getD k 0 = if k = j then I.getD i 0 else if k = i then I.getD j 0 else I.getD k 0 := by
  unfold swapL
  simp only [List.getD_eq_getElem?_getD, List.getElem?_set, List.length_set]
  by_cases e1 : k = j
  · subst e1; simp [hj]
  · by_cases e2 : k = i
    · subst e2; simp [hi, Ne.symm e1, e1]
    · simp [Ne.symm e1, Ne.symm e2, e1, e2]
theorem kvOf_swap (key : Nat → Nat) (I : List Nat) (i j : Nat) (hi : i < I.length) (hj : j < I.length) : kvOf key (swapL I i j) = swF (kvOf key I) i j := by
  funext k
  unfold kvOf swF
  rw [swapL_getD I i j k hi hj]
  split
  · rfl
  · split <;> rfl
theorem swapL_perm (I : List Nat) (i j : Nat) (hi : i < I.length) (hj : j < I.length) : (swapL I i j).Perm I := by
  unfold swapL
  have e1 : I.getD j 0 = I[j] := by simp [List.getD, hj]
  have e2 : I.getD i 0 = I[i] := by simp [List.getD, hi]
  rw [e1, e2]
  exact List.set_set_perm hi hj
end Go.Proofs.YtebdgcoandfocaaGreatDoor

/-
  The heap of package bcache in memory: its row, its entries; Len, Less and Swap.
-/
namespace Go.Proofs.YtebdgcoandfocaaGreatDoor
open Go.RowKit Go.Maps

/-- What an entry holds, but for its place in the heap. -/
structure EV where
  block : Nat
  p : Option Addr
  n : Nat
  cp : Nat
  pins : Nat
  dirty : Bool
  used : Nat

def entCells (e : EV) (at_ : Int) : Array Value :=
  #[.int .i64 e.block, .slice e.p e.n e.cp, .int .i64 e.pins, .bool e.dirty, .int .i64 e.used, .int .i64 at_]
def IsEnt (w : World) (a : Nat) (e : EV) (at_ : Int) : Prop := w.heap[a]? = some (.cells (entCells e at_) 154 (0, 0))
abbrev ep (a : Nat) : Value := .pointer (some ⟨a, 0, none⟩)

/-- A cache's cells, but for its heap. -/
structure CK where
  v : Value
  room : Value
  held : Value
  dirty : Value
  uses : Value
  met : Value
  missed : Value
  out : Value
def CK.cells (k : CK) (iv : Value) : Array Value := #[k.v, k.room, k.held, k.dirty, iv, k.uses, k.met, k.missed, k.out]

/-- The heap's row and its entries. -/
structure HP (w : World) (c : Nat) (k : CK) (p : Option Addr) (cap : Nat) (I : List Nat) (U : Nat → EV) : Prop where
  cell : w.heap[c]? = some (.cells (k.cells (.slice p I.length cap)) 91 (0, 0))
  row : w.ownsRow 0 148 1 (.slice p I.length cap) I.length (I.map ep)
  ents : ∀ k, k < I.length → IsEnt w (I.getD k 0) (U (I.getD k 0)) k
  nodup : I.Nodup
  len : I.length < 1000000
  used : ∀ a, (U a).used < 1000000000

theorem HP.form {w : World} {c : Nat} {ck : CK} {p : Option Addr} {cap : Nat} {I : List Nat} {U : Nat → EV} (h : HP w c ck p cap I U) (hn : 0 < I.length) :
    ∃ g cur, p = some ⟨g, 0, none⟩ ∧ w.heap[g]? = some (.cells cur 148 (0, 0)) ∧ I.length ≤ cap ∧ cap ≤ maxLen ∧ cur.size = cap ∧ cur.toList.take I.length = I.map ep := by
  rcases h.row.2 with ⟨e, h0⟩ | ⟨g, cap', cur, e, _, hb, h1, h2, h3, h4⟩
  · omega
  · cases e
    rw [Nat.mul_one] at h3 h4
    exact ⟨g, cur, rfl, hb, h1, h2, h3, h4⟩
theorem HP.cellAt {w : World} {c : Nat} {ck : CK} {g cap : Nat} {I : List Nat} {U : Nat → EV} (h : HP w c ck (some ⟨g, 0, none⟩) cap I U) (k : Nat) (hk : k < I.length) : w.cell? ⟨g, k, none⟩ = some (ep (I.getD k 0)) := by
  rw [h.row.cellAt k (by simpa using hk), List.getElem?_map, List.getElem?_eq_getElem hk]
  simp [List.getD, hk]
theorem HP.usedAt {w : World} {c : Nat} {ck : CK} {p : Option Addr} {cap : Nat} {I : List Nat} {U : Nat → EV} (h : HP w c ck p cap I U) (k : Nat) (hk : k < I.length) : w.cell? ⟨I.getD k 0, 4, none⟩ = some (.int .i64 (U (I.getD k 0)).used) := by
  have := cellOf (h.ents k hk) 4
  simpa [entCells] using this

set_option maxRecDepth 8000 in
set_option maxHeartbeats 400000 in
theorem iLen_any (p : Option Addr) (n cap : Nat) (w : World) :
    Calls Tryz.prog 176 #[.slice p n cap] w fun e w' => e = .returned (.int .i64 n) ∧ w' = w := by
  go_enter Tryz.func176, Tryz.ntmps176
  go_wp2
  go_ret
  exact ⟨rfl, rfl⟩

set_option maxRecDepth 8000 in
set_option maxHeartbeats 1000000 in
theorem iLess_any (c : Nat) (ck : CK) (p : Option Addr) (cap : Nat) (I : List Nat) (U : Nat → EV) (i j : Nat) (w : World) (h : HP w c ck p cap I U) (hi : i < I.length) (hj : j < I.length) :
    Calls Tryz.prog 177 #[.slice p I.length cap, .int .i64 i, .int .i64 j] w fun e w' => e = .returned (.bool (decide ((U (I.getD i 0)).used < (U (I.getD j 0)).used))) ∧ ∃ q, w' = w.drewN q := by
  obtain ⟨g, cur, rfl, hb, h1, h2, h3, h4⟩ := h.form (by omega)
  have c1 := h.cellAt i hi
  have c2 := h.cellAt j hj
  have c3 := h.usedAt i hi
  have c4 := h.usedAt j hj
  have hlen := h.len
  have b1 : (0 : Int) ≤ (i : Int) := by omega
  have b2 : (0 : Int) ≤ (j : Int) := by omega
  have b3 : (i : Int) < (I.length : Int) := by omega
  have b4 : (j : Int) < (I.length : Int) := by omega
  generalize I.getD i 0 = x at *
  generalize I.getD j 0 = y at *
  generalize (U x).used = ux at *
  generalize (U y).used = uy at *
  clear h hb h1 h2 h3 h4
  go_enter Tryz.func177, Tryz.ntmps177
  go_wp2_with fail
  go_quiet (fail)
  go_wp2
  go_ret
  exact ⟨by simp, _, rfl⟩

theorem apart_tags {W : World} {g g' : Nat} {cs cs' : Array Value} {t t' : TypeId} {fr fr' : Nat × Nat} (h : W.heap[g]? = some (.cells cs t fr)) (h' : W.heap[g']? = some (.cells cs' t' fr')) (ht : t ≠ t') : g ≠ g' := by
  rintro rfl
  rw [h] at h'
  simp only [Option.some.injEq, Obj.cells.injEq] at h'
  exact ht h'.2.1
theorem IsEnt.setAt {w : World} {a : Nat} {e : EV} {x : Int} (h : IsEnt w a e x) (y : Int) : IsEnt (w.setCell ⟨a, 5, none⟩ (.int .i64 y)) a e y := by
  unfold IsEnt at *
  rw [heap_setCell_same w a 5 _ _ _ h]
  rfl
theorem IsEnt.other {w : World} {a : Nat} {e : EV} {x : Int} (h : IsEnt w a e x) (p : Addr) (hp : a ≠ p.block) (v : Value) : IsEnt (w.setCell p v) a e x := by
  unfold IsEnt at *
  rw [heap_setCell_other w p a v hp]
  exact h
theorem getD_mem {I : List Nat} {k : Nat} (h : k < I.length) : I.getD k 0 ∈ I := by
  simp [List.getD, h]
theorem getD_inj {I : List Nat} (hn : I.Nodup) {i j : Nat} (hi : i < I.length) (hj : j < I.length) (h : I.getD i 0 = I.getD j 0) : i = j := by
  simp [List.getD, hi, hj] at h
  exact (List.getElem_inj hn).1 h
theorem HP.drew {w : World} {c : Nat} {ck : CK} {p : Option Addr} {cap : Nat} {I : List Nat} {U : Nat → EV} (h : HP w c ck p cap I U) : HP w.drew c ck p cap I U := ⟨h.cell, h.row, h.ents, h.nodup, h.len, h.used⟩
theorem HP.drewN {w : World} {c : Nat} {ck : CK} {p : Option Addr} {cap : Nat} {I : List Nat} {U : Nat → EV} (h : HP w c ck p cap I U) (q : Nat) : HP (w.drewN q) c ck p cap I U := ⟨h.cell, h.row, h.ents, h.nodup, h.len, h.used⟩

theorem HP.swap {w : World} {c g cap : Nat} {ck : CK} {I : List Nat} {U : Nat → EV} (h : HP w c ck (some ⟨g, 0, none⟩) cap I U) {i j : Nat} (hi : i < I.length) (hj : j < I.length) (hij : i ≠ j) :
    HP ((((w.setCell ⟨g, i, none⟩ (ep (I.getD j 0))).setCell ⟨g, j, none⟩ (ep (I.getD i 0))).setCell ⟨I.getD j 0, 5, none⟩ (.int .i64 (i : Nat))).setCell ⟨I.getD i 0, 5, none⟩ (.int .i64 (j : Nat))) c ck (some ⟨g, 0, none⟩) cap (swapL I i j) U := by
  obtain ⟨g', cur, e, hb, h1, h2, h3, h4⟩ := h.form (by omega)
  cases e
  have hc := h.cell
  have hx := h.ents i hi
  have hy := h.ents j hj
  have hxy : I.getD i 0 ≠ I.getD j 0 := fun e => hij (getD_inj h.nodup hi hj e)
  have gx : g ≠ I.getD i 0 := apart_tags hb hx (by decide)
  have gy : g ≠ I.getD j 0 := apart_tags hb hy (by decide)
  have cg : c ≠ g := apart_tags hc hb (by decide)
  have cx : c ≠ I.getD i 0 := apart_tags hc hx (by decide)
  have cy : c ≠ I.getD j 0 := apart_tags hc hy (by decide)
  refine ⟨?_, ?_, fun k hk => ?_, (swapL_perm I i j hi hj).nodup_iff.2 h.nodup, by rw [swapL_length]; exact h.len, h.used⟩
  · rw [heap_setCell_other _ _ _ _ cx, heap_setCell_other _ _ _ _ cy, heap_setCell_other _ _ _ _ cg, heap_setCell_other _ _ _ _ cg, swapL_length]
    exact hc
  · refine ⟨by simp, .inr ⟨g, cap, (cur.setIfInBounds i (ep (I.getD j 0))).setIfInBounds j (ep (I.getD i 0)), by rw [swapL_length], Nat.zero_le _, ?_, by rw [swapL_length]; exact h1, h2, by simp [h3], ?_⟩⟩
    · rw [heap_setCell_other _ _ _ _ gx, heap_setCell_other _ _ _ _ gy]
      have e1 := heap_setCell_same w g i cur 148 (ep (I.getD j 0)) hb
      exact heap_setCell_same _ g j _ 148 (ep (I.getD i 0)) e1
    · rw [swapL_length, Nat.mul_one, Array.toList_setIfInBounds, Array.toList_setIfInBounds, List.take_set, List.take_set, h4]
      unfold swapL
      rw [List.map_set, List.map_set]
  · rw [swapL_length] at hk
    rw [swapL_getD I i j k hi hj]
    by_cases e1 : k = j
    · subst e1
      rw [if_pos rfl]
      refine IsEnt.setAt (x := (i : Nat)) (IsEnt.other (IsEnt.other (IsEnt.other hx _ (Ne.symm gx) _) _ (Ne.symm gx) _) _ hxy _) _
    · rw [if_neg e1]
      by_cases e2 : k = i
      · subst e2
        rw [if_pos rfl]
        exact IsEnt.other (IsEnt.setAt (IsEnt.other (IsEnt.other hy _ (Ne.symm gy) _) _ (Ne.symm gy) _) _) _ (Ne.symm hxy) _
      · rw [if_neg e2]
        have hz := h.ents k hk
        have gz : g ≠ I.getD k 0 := apart_tags hb hz (by decide)
        exact IsEnt.other (IsEnt.other (IsEnt.other (IsEnt.other hz _ (Ne.symm gz) _) _ (Ne.symm gz) _) _ (fun e => e1 (getD_inj h.nodup hk hj e)) _) _ (fun e => e2 (getD_inj h.nodup hk hi e)) _

/-- The blocks that the heap's methods may turn. -/
def hpMine (p : Option Addr) (I : List Nat) : Nat → Prop := fun k => p.map Addr.block = some k ∨ k ∈ I

set_option maxRecDepth 8000 in
set_option maxHeartbeats 2000000 in
theorem iSwap_any (c : Nat) (ck : CK) (p : Option Addr) (cap : Nat) (I : List Nat) (U : Nat → EV) (i j : Nat) (w : World) (h : HP w c ck p cap I U) (hi : i < I.length) (hj : j < I.length) (hij : i ≠ j) :
    Calls Tryz.prog 178 #[.slice p I.length cap, .int .i64 i, .int .i64 j] w fun e w' => e = .returned (.tuple #[]) ∧ HP w' c ck p cap (swapL I i j) U ∧ But (hpMine p I) w w' := by
  obtain ⟨g, cur, rfl, hb, h1, h2, h3, h4⟩ := h.form (by omega)
  have c1 := h.cellAt i hi
  have c2 := h.cellAt j hj
  have hx := h.ents i hi
  have hy := h.ents j hj
  have c3 : w.cell? ⟨I.getD i 0, 5, none⟩ = some (.int .i64 (i : Nat)) := by rw [cellOf hx 5]; rfl
  have c4 : w.cell? ⟨I.getD j 0, 5, none⟩ = some (.int .i64 (j : Nat)) := by rw [cellOf hy 5]; rfl
  have f1 := frozenOf hb i
  have f2 := frozenOf hb j
  have f3 := frozenOf hx 5
  have f4 := frozenOf hy 5
  have hxy : I.getD i 0 ≠ I.getD j 0 := fun e => hij (getD_inj h.nodup hi hj e)
  have gx : g ≠ I.getD i 0 := apart_tags hb hx (by decide)
  have gy : g ≠ I.getD j 0 := apart_tags hb hy (by decide)
  have hlen := h.len
  have b1 : (0 : Int) ≤ (i : Int) := by omega
  have b2 : (0 : Int) ≤ (j : Int) := by omega
  have b3 : (i : Int) < (I.length : Int) := by omega
  have b4 : (j : Int) < (I.length : Int) := by omega
  have hS := h.swap hi hj hij
  have mx : I.getD i 0 ∈ I := getD_mem hi
  have my : I.getD j 0 ∈ I := getD_mem hj
  have HS : Hid (HP ((((w.setCell ⟨g, i, none⟩ (ep (I.getD j 0))).setCell ⟨g, j, none⟩ (ep (I.getD i 0))).setCell ⟨I.getD j 0, 5, none⟩ (.int .i64 (i : Nat))).setCell ⟨I.getD i 0, 5, none⟩ (.int .i64 (j : Nat))) c ck (some ⟨g, 0, none⟩) cap (swapL I i j) U ∧ I.getD i 0 ∈ I ∧ I.getD j 0 ∈ I) := ⟨hS, mx, my⟩
  generalize I.getD i 0 = x at *
  generalize I.getD j 0 = y at *
  have hyx : y ≠ x := Ne.symm hxy
  have hji : j ≠ i := Ne.symm hij
  have gx' : x ≠ g := Ne.symm gx
  have gy' : y ≠ g := Ne.symm gy
  clear h hb h1 h2 h3 h4 hx hy hS mx my
  go_enter Tryz.func178, Tryz.ntmps178
  go_wp2_with fail
  go_region
  all_goals go_wp2_with fail
  all_goals go_region
  all_goals go_wp2_with fail
  go_end0
  refine ⟨rfl, HS.out.1.drew.drew, ?_⟩
  have hS := HS.out
  exact ((((((But.refl _ _).setCell _ (.inl rfl) _).setCell _ (.inl rfl) _).setCell _ (.inr hS.2.2) _).setCell _ (.inr hS.2.1) _).drew).drew

end Go.Proofs.YtebdgcoandfocaaGreatDoor

/-
  Push and Pop of package bcache's heap.
-/
namespace Go.Proofs.YtebdgcoandfocaaGreatDoor
open Go.RowKit Go.Maps

theorem Tryz.info148 : (Tryz.prog.info? 148).map (fun i => (i.zero, i.size, i.bytes)) = some (some (.pointer none), 1, 8) := by kernel_rfl

theorem HP.cell4 {w : World} {c : Nat} {ck : CK} {p : Option Addr} {cap : Nat} {I : List Nat} {U : Nat → EV} (h : HP w c ck p cap I U) : w.cell? ⟨c, 4, none⟩ = some (.slice p I.length cap) := by
  rw [cellOf h.cell 4]; rfl
theorem HP.froz4 {w : World} {c : Nat} {ck : CK} {p : Option Addr} {cap : Nat} {I : List Nat} {U : Nat → EV} (h : HP w c ck p cap I U) : w.frozen? ⟨c, 4, none⟩ = false := frozenOf h.cell 4

/-- The last one is taken off. -/
theorem HP.pop {w : World} {c g cap a : Nat} {ck : CK} {I : List Nat} {U : Nat → EV} (h : HP w c ck (some ⟨g, 0, none⟩) cap (I ++ [a]) U) :
    HP (((w.setCell ⟨g, I.length, none⟩ (.pointer none)).setCell ⟨c, 4, none⟩ (.slice (some ⟨g, 0, none⟩) I.length cap)).setCell ⟨a, 5, none⟩ (.int .i64 (-1))) c ck (some ⟨g, 0, none⟩) cap I U ∧
    IsEnt (((w.setCell ⟨g, I.length, none⟩ (.pointer none)).setCell ⟨c, 4, none⟩ (.slice (some ⟨g, 0, none⟩) I.length cap)).setCell ⟨a, 5, none⟩ (.int .i64 (-1))) a (U a) (-1) := by
  have hl : (I ++ [a]).length = I.length + 1 := by simp
  obtain ⟨g', cur, e, hb, h1, h2, h3, h4⟩ := h.form (by omega)
  cases e
  have hc := h.cell
  have ha : IsEnt w a (U a) I.length := by
    have := h.ents I.length (by omega)
    simpa [List.getD] using this
  have ga : g ≠ a := apart_tags hb ha (by decide)
  have cg : c ≠ g := apart_tags hc hb (by decide)
  have ca : c ≠ a := apart_tags hc ha (by decide)
  have hnd := h.nodup
  refine ⟨⟨?_, ?_, fun k hk => ?_, (List.nodup_append.1 hnd).1, by have := h.len; omega, h.used⟩, ?_⟩
  · rw [heap_setCell_other _ _ _ _ ca]
    have e1 : (w.setCell ⟨g, I.length, none⟩ (.pointer none)).heap[c]? = some (.cells (ck.cells (.slice (some ⟨g, 0, none⟩) (I ++ [a]).length cap)) 91 (0, 0)) := by
      rw [heap_setCell_other _ _ _ _ cg]; exact hc
    rw [heap_setCell_same _ c 4 _ _ _ e1]
    rfl
  · refine ⟨by simp, .inr ⟨g, cap, cur.setIfInBounds I.length (.pointer none), rfl, Nat.zero_le _, ?_, by omega, h2, by simp [h3], ?_⟩⟩
    · rw [heap_setCell_other _ _ _ _ ga, heap_setCell_other _ _ _ _ (Ne.symm cg)]
      exact heap_setCell_same w g I.length cur 148 _ hb
    · rw [Nat.mul_one, Array.toList_setIfInBounds, List.take_set_of_le (Nat.le_refl _)]
      have e2 : (cur.toList.take (I ++ [a]).length).take I.length = ((I ++ [a]).map ep).take I.length := by rw [h4]
      rw [List.take_take, hl, Nat.min_eq_left (by omega)] at e2
      rw [e2]
      simp
  · have hz := h.ents k (by omega)
    have ek : (I ++ [a]).getD k 0 = I.getD k 0 := by simp [List.getD, List.getElem?_append_left hk]
    rw [ek] at hz
    have hka : I.getD k 0 ≠ a := fun e => (List.nodup_append.1 hnd).2.2 _ (getD_mem hk) a (by simp) e
    have gz : g ≠ I.getD k 0 := apart_tags hb hz (by decide)
    have cz : c ≠ I.getD k 0 := apart_tags hc hz (by decide)
    exact IsEnt.other (IsEnt.other (IsEnt.other hz _ (Ne.symm gz) _) _ (Ne.symm cz) _) _ hka _
  · exact IsEnt.setAt (IsEnt.other (IsEnt.other ha _ (Ne.symm ga) _) _ (Ne.symm ca) _) _

set_option maxRecDepth 8000 in
set_option maxHeartbeats 1000000 in
theorem iPop_any (c : Nat) (ck : CK) (p : Option Addr) (cap a : Nat) (I : List Nat) (U : Nat → EV) (w : World) (h : HP w c ck p cap (I ++ [a]) U) :
    Calls Tryz.prog 179 #[.pointer (some ⟨c, 4, none⟩)] w fun e w' => e = .returned (.iface 148 (ep a)) ∧ HP w' c ck p cap I U ∧ IsEnt w' a (U a) (-1) ∧ But (fun k => k = c ∨ hpMine p (I ++ [a]) k) w w' := by
  have hl : (I ++ [a]).length = I.length + 1 := by simp
  obtain ⟨g, cur, rfl, hb, h1, h2, h3, h4⟩ := h.form (by omega)
  have c4 := h.cell4
  have f4 := h.froz4
  have ha := h.ents I.length (by omega)
  have ea : (I ++ [a]).getD I.length 0 = a := by simp [List.getD]
  rw [ea] at ha
  have c1 := h.cellAt I.length (by omega)
  rw [ea] at c1
  have f1 := frozenOf hb I.length
  have c5 : w.cell? ⟨a, 5, none⟩ = some (.int .i64 (I.length : Nat)) := by rw [cellOf ha 5]; rfl
  have f5 := frozenOf ha 5
  have hc := h.cell
  have ga : g ≠ a := apart_tags hb ha (by decide)
  have cg : c ≠ g := apart_tags hc hb (by decide)
  have ca : c ≠ a := apart_tags hc ha (by decide)
  have ga' := Ne.symm ga
  have cg' := Ne.symm cg
  have ca' := Ne.symm ca
  have hS := h.pop
  have hlen := h.len
  rw [hl] at c4 hlen h1
  have HS : Hid (HP (((w.setCell ⟨g, I.length, none⟩ (.pointer none)).setCell ⟨c, 4, none⟩ (.slice (some ⟨g, 0, none⟩) I.length cap)).setCell ⟨a, 5, none⟩ (.int .i64 (-1))) c ck (some ⟨g, 0, none⟩) cap I U ∧
    IsEnt (((w.setCell ⟨g, I.length, none⟩ (.pointer none)).setCell ⟨c, 4, none⟩ (.slice (some ⟨g, 0, none⟩) I.length cap)).setCell ⟨a, 5, none⟩ (.int .i64 (-1))) a (U a) (-1)) := hS
  generalize hn : I.length = n at *
  have b1 : (0 : Int) ≤ (n : Int) := by omega
  have b2 : (n : Int) < ((n + 1 : Nat) : Int) := by omega
  have b3 : (n : Int) ≤ (cap : Int) := by omega
  clear h hb h2 h3 h4 hS ha hc ea hl
  go_enter Tryz.func179, Tryz.ntmps179
  go_wp2_with fail
  go_ret
  refine ⟨rfl, HS.out.1, HS.out.2, ?_⟩
  exact ((((But.refl _ _).setCell _ (.inr (.inl rfl)) _).setCell _ (.inl rfl) _).setCell _ (.inr (.inr (by simp))) _)

theorem own0_alloc {W : World} {e : TypeId} {size : Nat} {v : Value} {n : Nat} {xs : List Value} (h : W.ownsRow 0 e size v n xs) (o : Obj) : (W.alloc o).ownsRow 0 e size v n xs := by
  refine ⟨h.1, ?_⟩
  rcases h.2 with h0 | ⟨g, cap, cur, hv, hb, hblk, r⟩
  · exact .inl h0
  · exact .inr ⟨g, cap, cur, hv, hb, (Below.heap_alloc W o g (Array.getElem?_eq_some_iff.1 hblk).1).trans hblk, r⟩
theorem own0_set {W : World} {e : TypeId} {size : Nat} {v : Value} {n : Nat} {xs : List Value} (h : W.ownsRow 0 e size v n xs) {b : Nat} {cs : Array Value} {t : TypeId} {fr : Nat × Nat} (hb : W.heap[b]? = some (.cells cs t fr)) (ht : t ≠ e) (o : Nat) (u : Value) : (W.setCell ⟨b, o, none⟩ u).ownsRow 0 e size v n xs := by
  refine ⟨h.1, ?_⟩
  rcases h.2 with h0 | ⟨g, cap, cur, hv, hbs, hblk, r⟩
  · exact .inl h0
  · exact .inr ⟨g, cap, cur, hv, hbs, (heap_setCell_other W ⟨b, o, none⟩ g u (Ne.symm (apart_tags hb hblk ht))).trans hblk, r⟩
theorem cell_one_laid (w : World) (x : Value) (t : TypeId) : ∀ j u, [x][j]? = some u → (w.alloc (.cells #[x] t)).cell? ((⟨w.heap.size, 0, none⟩ : Addr).add j) = some u := by
  intro j u hj
  rw [Addr.add_lit, Nat.zero_add, cellOf (heap_alloc_new w _) j]
  simpa using hj
theorem own_tagT {W : World} {base : Nat} {e : TypeId} {size : Nat} {v : Value} {n : Nat} {xs : List Value} (h : W.ownsRow base e size v n xs) {g : Nat} {cs : Array Value} {t : TypeId} {fr : Nat × Nat} (hg : v.ownBlock = some g) (hc : W.heap[g]? = some (.cells cs t fr)) : t = e := by
  rcases h.2 with ⟨rfl, _⟩ | ⟨g', cap, cur, rfl, _, hblk, _⟩
  · simp [Value.ownBlock] at hg
  · have e' : g' = g := by simpa [Value.ownBlock] using hg
    rw [e', hc] at hblk
    simp only [Option.some.injEq, Obj.cells.injEq] at hblk
    exact hblk.2.1
theorem own_slice {W : World} {e : TypeId} {n : Nat} {v : Value} {xs : List Value} (h : W.ownsRow 0 e 1 v n xs) : ∃ p cap, v = .slice p n cap := by
  rcases h.2 with ⟨rfl, h0⟩ | ⟨g', cap, cur, rfl, _⟩
  · exact ⟨none, 0, by rw [h0]⟩
  · exact ⟨_, _, rfl⟩

theorem assert_entry (a : Nat) (w : World) : (Instr.typeAssert (.iface 148 (.pointer (some ⟨a, 0, none⟩))) 20 148 false).run Tryz.prog w = .ok (.pointer (some ⟨a, 0, none⟩)) w := by kernel_rfl

/-- One more at the end. -/
theorem HP.push {w w1 : World} {c cap a : Nat} {ck : CK} {p p' : Option Addr} {cap' : Nat} {I : List Nat} {U : Nat → EV} {x : Int} {o : Obj} (h : HP w c ck p cap I U) (ha : IsEnt w a (U a) x) (hna : a ∉ I) (hl1 : I.length + 1 < 1000000)
    (hown : w1.ownsRow 0 148 1 (.slice p' (I.length + 1) cap') (I.length + 1) (I.map ep ++ [ep a])) (hg : ((w.setCell ⟨a, 5, none⟩ (.int .i64 (I.length : Nat))).alloc o).grownBy w1 (Value.slice p I.length cap).ownBlock) :
    w1.heap[c]? = some (.cells (ck.cells (.slice p I.length cap)) 91 (0, 0)) ∧ HP (w1.setCell ⟨c, 4, none⟩ (.slice p' (I.length + 1) cap')) c ck p' cap' (I ++ [a]) U ∧ But (fun k => k = c ∨ k = a ∨ hpMine p I k) w (w1.setCell ⟨c, 4, none⟩ (.slice p' (I.length + 1) cap')) := by
  have hl : (I ++ [a]).length = I.length + 1 := by simp
  have ha2 : IsEnt (w.setCell ⟨a, 5, none⟩ (.int .i64 (I.length : Nat))) a (U a) (I.length : Nat) := ha.setAt _
  have ca : c ≠ a := apart_tags h.cell ha (by decide)
  have row2 : (w.setCell ⟨a, 5, none⟩ (.int .i64 (I.length : Nat))).ownsRow 0 148 1 (.slice p I.length cap) I.length (I.map ep) := own0_set h.row ha (by decide) _ _
  have keep : ∀ (k : Nat) cs t, (w.setCell ⟨a, 5, none⟩ (.int .i64 (I.length : Nat))).heap[k]? = some (.cells cs t (0, 0)) → t ≠ 148 → w1.heap[k]? = some (.cells cs t (0, 0)) := by
    intro k cs t hk ht
    have hk2 : ((w.setCell ⟨a, 5, none⟩ (.int .i64 (I.length : Nat))).alloc o).heap[k]? = some (.cells cs t (0, 0)) := (Below.heap_alloc _ o k (Array.getElem?_eq_some_iff.1 hk).1).trans hk
    exact (hg.block k (Array.getElem?_eq_some_iff.1 hk2).1 (fun e => ht (own_tagT (own0_alloc row2 o) e.symm hk2))).trans hk2
  have hc2 : (w.setCell ⟨a, 5, none⟩ (.int .i64 (I.length : Nat))).heap[c]? = some (.cells (ck.cells (.slice p I.length cap)) 91 (0, 0)) := (heap_setCell_other _ _ _ _ ca).trans h.cell
  have hc1 := keep c _ _ hc2 (by decide)
  refine ⟨hc1, ⟨?_, ?_, fun k hk => ?_, ?_, by omega, h.used⟩, ?_⟩
  · rw [hl, heap_setCell_same _ c 4 _ _ _ hc1]
    rfl
  · rw [hl, List.map_append]
    exact own0_set hown hc1 (by decide) _ _
  · by_cases e : k = I.length
    · subst e
      have ek : (I ++ [a]).getD I.length 0 = a := by simp [List.getD]
      rw [ek]
      exact IsEnt.other (keep a _ _ ha2 (by decide)) _ (Ne.symm ca) _
    · have hk' : k < I.length := by omega
      have ek : (I ++ [a]).getD k 0 = I.getD k 0 := by simp [List.getD, List.getElem?_append_left hk']
      rw [ek]
      have hz := h.ents k hk'
      have cz : c ≠ I.getD k 0 := apart_tags h.cell hz (by decide)
      have az : I.getD k 0 ≠ a := fun e => hna (e ▸ getD_mem hk')
      exact IsEnt.other (keep _ _ _ (IsEnt.other hz _ az _) (by decide)) _ (Ne.symm cz) _
  · rw [List.nodup_append]
    exact ⟨h.nodup, by simp, fun x hx y hy => by rw [List.mem_singleton.1 hy]; exact fun e => hna (e ▸ hx)⟩
  · refine (((((But.refl (fun k => k = c ∨ k = a ∨ hpMine p I k) w).setCell ⟨a, 5, none⟩ (.inr (.inl rfl)) _).alloc o).trans (But.of_grown hg fun k e => ?_))).setCell _ (.inl rfl) _
    rcases p with _ | ⟨g, o', s⟩
    · simp [Value.ownBlock] at e
    · right; right; left
      rcases h.row.2 with ⟨e', _⟩ | ⟨g', cap2, cur, e', _⟩
      · cases e'
      · cases e'
        simpa [Value.ownBlock] using e

set_option maxRecDepth 8000 in
set_option maxHeartbeats 1000000 in
theorem iPush_any (c : Nat) (ck : CK) (p : Option Addr) (cap a : Nat) (I : List Nat) (U : Nat → EV) (x : Int) (w : World) (h : HP w c ck p cap I U) (ha : IsEnt w a (U a) x) (hna : a ∉ I) (hl1 : I.length + 1 < 1000000) :
    Calls Tryz.prog 180 #[.pointer (some ⟨c, 4, none⟩), .iface 148 (ep a)] w fun e w' => e = .returned (.tuple #[]) ∧ ∃ p' cap', HP w' c ck p' cap' (I ++ [a]) U ∧ But (fun k => k = c ∨ k = a ∨ hpMine p I k) w w' ∧ ∀ k, k < w.heap.size → p'.map Addr.block = some k → p.map Addr.block = some k := by
  have c4 := h.cell4
  have f4 := h.froz4
  have c5 : w.cell? ⟨a, 5, none⟩ = some (.int .i64 x) := by rw [cellOf ha 5]; rfl
  have f5 := frozenOf ha 5
  have ca : c ≠ a := apart_tags h.cell ha (by decide)
  have ca' := Ne.symm ca
  obtain ⟨k0, hk0, hx0, hx1, hx2⟩ := info_parts Tryz.info148
  have hS : Hid (∀ p' cap' w1, w1.ownsRow 0 148 1 (.slice p' (I.length + 1) cap') (I.length + 1) (I.map ep ++ [ep a]) → ((w.setCell ⟨a, 5, none⟩ (.int .i64 (I.length : Nat))).alloc (.cells #[ep a] 148)).grownBy w1 (Value.slice p I.length cap).ownBlock →
    w1.heap[c]? = some (.cells (ck.cells (.slice p I.length cap)) 91 (0, 0)) ∧ HP (w1.setCell ⟨c, 4, none⟩ (.slice p' (I.length + 1) cap')) c ck p' cap' (I ++ [a]) U ∧ But (fun k => k = c ∨ k = a ∨ hpMine p I k) w (w1.setCell ⟨c, 4, none⟩ (.slice p' (I.length + 1) cap'))) := fun p' cap' w1 h1 h2 => h.push ha hna hl1 h1 h2
  have hrow : Hid ((w.setCell ⟨a, 5, none⟩ (.int .i64 (I.length : Nat))).ownsRow 0 148 1 (.slice p I.length cap) I.length (I.map ep)) := own0_set h.row ha (by decide) _ _
  have hta := assert_entry a
  clear h ha
  go_enter Tryz.func180, Tryz.ntmps180
  go_wp2_with (at_builtin; refine Stop.out ?_)
  refine Stop.mk ?_
  refine wpList_append_own_at _ rfl _ _ 89 rfl 0 148 k0 (.pointer none) 1 8 Tryz.underlying89 hk0 hx0 hx1 hx2 rfl (by decide) (.slice p I.length cap) I.length (I.map ep) rfl (own0_alloc hrow.out _) ⟨w.heap.size, 0, none⟩ 1 1 [ep a] rfl rfl (by have := cell_one_laid (w.setCell ⟨a, 5, none⟩ (.int .i64 (I.length : Nat))) (ep a) 148; rw [World.size_setCell] at this; exact this) (by intro u hu; rw [List.mem_singleton.1 hu]; rfl) (by unfold maxLen; omega) (by omega) (Nat.zero_le _) ?_
  intro v1 w1 hown hg _ hpl
  obtain ⟨p', cap', rfl⟩ := own_slice hown
  have hP : Hid (∀ k, k < w.heap.size → p'.map Addr.block = some k → p.map Addr.block = some k) := by
    intro k hk e
    rcases p' with _ | a'
    · simp at e
    · have e' : a'.block = k := by simpa using e
      rcases hpl with h1 | h1
      · rcases p with _ | a2
        · simp [Value.ownBlock] at h1
        · simp [Value.ownBlock] at h1
          simp; omega
      · simp [Value.ownBlock] at h1
        omega
  clear hpl
  have hF := hS.out p' cap' w1 hown hg
  have d4 : w1.cell? ⟨c, 4, none⟩ = some (.slice p I.length cap) := by rw [cellOf hF.1 4]; rfl
  have g4 := frozenOf hF.1 4
  have HF : Hid (HP (w1.setCell ⟨c, 4, none⟩ (.slice p' (I.length + 1) cap')) c ck p' cap' (I ++ [a]) U ∧ But (fun k => k = c ∨ k = a ∨ hpMine p I k) w (w1.setCell ⟨c, 4, none⟩ (.slice p' (I.length + 1) cap'))) := hF.2
  clear hF hS hrow hown hg c4 f4 c5 f5
  go_wp2_with fail
  go_end0
  exact ⟨rfl, _, _, HF.out.1, HF.out.2, hP.out⟩

end Go.Proofs.YtebdgcoandfocaaGreatDoor

/-
  up and down of container/heap over package bcache's heap.
-/
namespace Go.Proofs.YtebdgcoandfocaaGreatDoor
open Go.RowKit Go.Maps

def keyU (U : Nat → EV) : Nat → Nat := fun a => (U a).used
abbrev hI (c : Nat) : Value := .iface 182 (.pointer (some ⟨c, 4, none⟩))

theorem meth_len (c : Nat) (v : Value) (w : World) (h : w.cell? ⟨c, 4, none⟩ = some v) : (method 341 182 (.pointer (some ⟨c, 4, none⟩)) "Len").run Tryz.prog w = .ok (176, v) w := by
  have e : (method 341 182 (.pointer (some ⟨c, 4, none⟩)) "Len").run Tryz.prog w = (do let x ← loadVar 89 ⟨c, 4, none⟩; pure (176, x) : Sem (FuncId × Value)).run Tryz.prog w := by kernel_rfl
  rw [e]
  simp [go_sem, h]
theorem meth_less (c : Nat) (v : Value) (w : World) (h : w.cell? ⟨c, 4, none⟩ = some v) : (method 341 182 (.pointer (some ⟨c, 4, none⟩)) "Less").run Tryz.prog w = .ok (177, v) w := by
  have e : (method 341 182 (.pointer (some ⟨c, 4, none⟩)) "Less").run Tryz.prog w = (do let x ← loadVar 89 ⟨c, 4, none⟩; pure (177, x) : Sem (FuncId × Value)).run Tryz.prog w := by kernel_rfl
  rw [e]
  simp [go_sem, h]
theorem meth_swap (c : Nat) (v : Value) (w : World) (h : w.cell? ⟨c, 4, none⟩ = some v) : (method 341 182 (.pointer (some ⟨c, 4, none⟩)) "Swap").run Tryz.prog w = .ok (178, v) w := by
  have e : (method 341 182 (.pointer (some ⟨c, 4, none⟩)) "Swap").run Tryz.prog w = (do let x ← loadVar 89 ⟨c, 4, none⟩; pure (178, x) : Sem (FuncId × Value)).run Tryz.prog w := by kernel_rfl
  rw [e]
  simp [go_sem, h]
theorem meth_pop (c : Nat) (w : World) : (method 341 182 (.pointer (some ⟨c, 4, none⟩)) "Pop").run Tryz.prog w = .ok (179, .pointer (some ⟨c, 4, none⟩)) w := by kernel_rfl
theorem meth_push (c : Nat) (w : World) : (method 341 182 (.pointer (some ⟨c, 4, none⟩)) "Push").run Tryz.prog w = .ok (180, .pointer (some ⟨c, 4, none⟩)) w := by kernel_rfl

theorem iLess_lt (c : Nat) (ck : CK) (p : Option Addr) (cap : Nat) (I : List Nat) (U : Nat → EV) (i j : Nat) (w : World) (h : HP w c ck p cap I U) (hi : i < I.length) (hj : j < I.length) (r : Bool) (hr : decide (kvOf (keyU U) I i < kvOf (keyU U) I j) = r) :
    Calls Tryz.prog 177 #[.slice p I.length cap, .int .i64 i, .int .i64 j] w fun e w' => e = .returned (.bool r) ∧ ∃ q, w' = w.drewN q := by
  rw [← hr]
  exact iLess_any c ck p cap I U i j w h hi hj

set_option maxRecDepth 8000 in
set_option maxHeartbeats 2000000 in
theorem hUp_any (c : Nat) (ck : CK) (p : Option Addr) (cap : Nat) (I : List Nat) (U : Nat → EV) (n j : Nat) (w : World) (h : HP w c ck p cap I U) (hn : n ≤ I.length) (hj : j < n) (hu : UpOk (kvOf (keyU U) I) n j) :
    Calls Tryz.prog 140 #[hI c, .int .i64 j] w fun e w' => e = .returned (.tuple #[]) ∧ ∃ I', HP w' c ck p cap I' U ∧ I'.Perm I ∧ HeapF (kvOf (keyU U) I') n ∧ (∀ k, n ≤ k → I'.getD k 0 = I.getD k 0) ∧ But (hpMine p I) w w' := by
  have hlen := h.len
  have H0 : Hid (HP w c ck p cap I U ∧ UpOk (kvOf (keyU U) I) n j) := ⟨h, hu⟩
  clear h hu
  go_enter Tryz.func140, Tryz.ntmps140
  go_wp2_with fail
  go_loopw [1] (fun jj wr => ∃ (j : Nat) (I' : List Nat), jj = .int .i64 j ∧ j < n ∧ I'.length = I.length ∧ Hid (HP wr c ck p cap I' U ∧ UpOk (kvOf (keyU U) I') n j ∧ I'.Perm I ∧ (∀ k, n ≤ k → I'.getD k 0 = I.getD k 0) ∧ But (hpMine p I) w wr)) (fun jj _ => (intOf jj).toNat)
  case atStart => exact ⟨j, I, rfl, hj, rfl, H0.out.1, H0.out.2, List.Perm.refl _, fun _ _ => rfl, But.refl _ _⟩
  case round =>
    obtain ⟨j, I', rfl, hj, hl, HI⟩ := hrel
    have m1 := meth_less c _ wr HI.out.1.cell4
    rw [hl] at m1
    by_cases h0 : j = 0
    · subst h0
      have e0 : ((0 : Nat) : Int) - 1 = -1 := by omega
      go_wp2_with fail
      go_end0
      obtain ⟨a1, a2, a3, a4, a5⟩ := HI.out
      exact ⟨rfl, I', a1, a3, a2.done (.inl rfl), a4, a5⟩
    · have e1 : Int.tdiv ((j : Int) - 1) 2 = ((par j : Nat) : Int) := by unfold par; rw [Int.tdiv_eq_ediv_of_nonneg (by omega)]; omega
      have e2 : ((j : Int) - 1) / 2 = ((par j : Nat) : Int) := by unfold par; omega
      have hp := par_lt (show 0 < j by omega)
      have e3 : (((par j : Nat) : Int) == (j : Int)) = false := by rw [beq_eq_false_iff_ne]; omega
      by_cases hlt : kvOf (keyU U) I' j < kvOf (keyU U) I' (par j)
      · have cL := iLess_lt c ck p cap I' U j (par j) wr HI.out.1 (by omega) (by omega) true (by simpa using hlt)
        rw [hl] at cL
        have m2 : ∀ q, (method 341 182 (.pointer (some ⟨c, 4, none⟩)) "Swap").run Tryz.prog (wr.drewN q) = .ok (178, .slice p I.length cap) (wr.drewN q) := fun q => by
          have := meth_swap c _ (wr.drewN q) (HI.out.1.drewN q).cell4
          rw [hl] at this
          exact this
        have cS : ∀ q, Calls Tryz.prog 178 #[.slice p I.length cap, .int .i64 (par j : Nat), .int .i64 j] (wr.drewN q) fun e w' => e = .returned (.tuple #[]) ∧ HP w' c ck p cap (swapL I' (par j) j) U ∧ But (hpMine p I') (wr.drewN q) w' := fun q => by
          have := iSwap_any c ck p cap I' U (par j) j (wr.drewN q) (HI.out.1.drewN q) (by omega) (by omega) (by omega)
          rw [hl] at this
          exact this
        go_wp2_with (first
          | (go_at_call 177; refine cL.mono ?_; rintro e w1 ⟨rfl, q1, rfl⟩; clear cL m1)
          | (go_at_call 178; refine (cS _).mono ?_; rintro e w2 ⟨rfl, h2, b2⟩; clear cS m2; have H2 : Hid (HP w2 c ck p cap (swapL I' (par j) j) U ∧ But (hpMine p I') wr w2) := ⟨h2, ⟨b2.os, b2.tape, b2.output, b2.size, b2.block⟩⟩; clear h2 b2))
        go_roundw
        case rel =>
          obtain ⟨a1, a2, a3, a4, a5⟩ := HI.out
          have hpj : par j < I'.length := by omega
          have hjl : j < I'.length := by omega
          refine ⟨par j, swapL I' (par j) j, rfl, by omega, by rw [swapL_length]; exact hl, H2.out.1, ?_, (swapL_perm I' _ _ hpj hjl).trans a3, fun k hk => ?_, a5.trans (H2.out.2.mono fun k _ hk => ?_)⟩
          · rw [kvOf_swap _ _ _ _ hpj hjl]
            exact a2.step (by omega) hj hlt
          · rw [swapL_getD I' _ _ k hpj hjl, if_neg (by omega), if_neg (by omega)]
            exact a4 k hk
          · rcases hk with hk | hk
            · exact .inl hk
            · exact .inr (a3.mem_iff.1 hk)
        case measure => simp [intOf]; omega
      · have cL := iLess_lt c ck p cap I' U j (par j) wr HI.out.1 (by omega) (by omega) false (by simpa using hlt)
        rw [hl] at cL
        go_wp2_with (go_at_call 177; refine cL.mono ?_; rintro e w1 ⟨rfl, q1, rfl⟩; clear cL m1)
        go_end0
        obtain ⟨a1, a2, a3, a4, a5⟩ := HI.out
        exact ⟨rfl, I', a1.drewN q1, a3, a2.done (.inr (by omega)), a4, ⟨a5.os, a5.tape, a5.output, a5.size, a5.block⟩⟩

end Go.Proofs.YtebdgcoandfocaaGreatDoor
