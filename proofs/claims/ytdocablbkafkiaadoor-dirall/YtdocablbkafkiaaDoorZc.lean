/-
  up of container/heap over the heap by name.
-/
import Derived.Test.YtdocablbkafkiaaDoorEd
import Derived.Test.YtdocablbkafkiaaDoorWch
import Derived.RangeFuncBox
import Derived.RangeFuncWrites
import Derived.Maps.AppendAt
import Derived.Recover

/-
  A directory is loaded: Load.
-/
namespace Go.Proofs.YtdocablbkafkiaaDoor.Cd
open Go.RowKit Go.Shelf

attribute [local go_sem] Oper.semAt_some

theorem strOf_inj {a b : List (BitVec 8)} (h : strOf a = strOf b) : a = b := by
  have := congrArg Lib.strCells h
  rw [strOf_cells, strOf_cells] at this
  refine (List.map_inj_right (fun x y hxy => ?_)).1 this
  unfold u8v at hxy
  injection hxy with _ e
  exact BitVec.eq_of_toNat_eq (by omega)
theorem equal_any (p q : Option Addr) (xs ys : List (BitVec 8)) (c d : Nat) (w : World) (hx : Bytes w p xs) (hy : Bytes w q ys) : Calls Tryd.prog 29 #[.slice p xs.length c, .slice q ys.length d] w fun e w' => e = .returned (.bool (decide (xs = ys))) ∧ w' = w := by
  have c1 := run_str w p xs c hx
  have c2 := run_str w q ys d hy
  have HE : Hid (((strOf xs).toList == (strOf ys).toList) = decide (xs = ys)) := by
    show _ = _
    rw [Lib.toList_data, Lib.toList_data]
    by_cases h : xs = ys
    · simp [h]
    · have : (strOf xs).data.toList ≠ (strOf ys).data.toList := fun e => h (strOf_inj (by rw [← bas_of (strOf xs), ← bas_of (strOf ys), e]))
      simp only [h, decide_false]
      exact beq_eq_false_iff_ne.2 this
  clear hx hy
  generalize xs.length = m at *
  generalize ys.length = k at *
  go_enter Tryd.func29, Tryd.ntmps29
  go_wp2
  go_ret
  exact ⟨congrArg (fun b => Ending.returned (.bool b)) HE.out, rfl⟩

def Own10 (bs : List (BitVec 8)) : Prop := ∃ D0, Good D0 ∧ bs = dirB D0
def Ord10 {N : Nat} (pre : List (Fin N)) : Prop := pre.map Fin.val = List.range pre.length
/-- What holds in each round of Load. -/
structure LI (bs : List (BitVec 8)) (w : World) {N : Nat} (pre : List (Fin N)) (W : World) : Prop where
  r0 : W.heap[w.heap.size]? = some (.cells #[.pointer none] 24 (0, 0))
  r1 : W.heap[w.heap.size + 1]? = some (.cells #[.int .i64 0] 31 (0, 0))
  dc : W.heap[w.heap.size + 3]? = some (.cells #[.pointer (some ⟨w.heap.size + 2, 0, none⟩)] 24 (0, 0))
  bel : Below w.heap.size w W
  dir : ∃ D, DirOk W w.heap.size (w.heap.size + 2) D ∧ (Ord10 pre → (∀ q, q ∈ D.flatten ↔ Mem (fun _ => False) (pAll bs pre.length) q) ∧ (Own10 bs → total D ≤ (pAll bs pre.length).length))
/-- What holds where a block was refused. -/
structure LX (bs : List (BitVec 8)) (w : World) {N : Nat} (pre : List (Fin N)) (W : World) : Prop where
  r0 : W.heap[w.heap.size]? = some (.cells #[.pointer none] 24 (0, 0))
  r1 : W.heap[w.heap.size + 1]? = some (.cells #[.int .i64 74] 31 (0, 0))
  bel : Below w.heap.size w W
  no : Ord10 pre → ¬ Own10 bs
/-- What Load answers. -/
def Loaded (bs : List (BitVec 8)) (w : World) (e : Ending) (w' : World) : Prop :=
  Below w.heap.size w w' ∧ ((¬ Own10 bs ∧ e = .returned (.tuple #[.pointer none, .int .i64 74])) ∨
    ∃ D, e = .returned (.tuple #[.pointer (some ⟨w.heap.size + 2, 0, none⟩), .int .i64 0]) ∧ DirOk w' w.heap.size (w.heap.size + 2) D ∧ bs = dirB D)

theorem kept_row {W W' : World} {row : Option Nat} (hg : W.grownBy W' row) {B : Nat} (hrow : ∀ r, row = some r → B ≤ r ∧ ∃ o : Obj, W.heap[r]? = some o ∧ o.isCells = false) {k : Nat} {cs : Array Value} {t : TypeId} {f : Nat × Nat} (hk : W.heap[k]? = some (.cells cs t f)) : W'.heap[k]? = some (.cells cs t f) := by
  refine (hg.block k (block_lt hk) (fun e => ?_)).trans hk
  obtain ⟨_, o, ho, hcell⟩ := hrow k e.symm
  rw [hk] at ho; cases ho; cases hcell
theorem DirOk.row {W W' : World} {row : Option Nat} (hg : W.grownBy W' row) {B : Nat} (hrow : ∀ r, row = some r → B ≤ r ∧ ∃ o : Obj, W.heap[r]? = some o ∧ o.isCells = false) {base a : Nat} {D : List (List En)} (h : DirOk W base a D) : DirOk W' base a D := by
  obtain ⟨⟨bv, vs, h1⟩, h2⟩ := h
  refine ⟨⟨bv, vs, h1.kept (grown_only hg) (fun k _ _ hd e => ?_)⟩, h2⟩
  obtain ⟨cs, t, f, hk, _⟩ := hd
  obtain ⟨_, o, ho, hcell⟩ := hrow k e
  rw [hk] at ho; cases ho; cases hcell
theorem LI.own (bs : List (BitVec 8)) (w : World) (N B : Nat) (hB : w.heap.size ≤ B) : OwnFrom B (fun (pre : List (Fin N)) W => LI bs w pre W) := by
  rintro s X Y row h hg hrow
  obtain ⟨D, d1, d2⟩ := h.dir
  exact ⟨kept_row hg hrow h.r0, kept_row hg hrow h.r1, kept_row hg hrow h.dc, h.bel.grown hg h.bel.size (fun j e => by have := (hrow j e).1; omega), D, d1.row hg hrow, d2⟩
theorem LX.own (bs : List (BitVec 8)) (w : World) (N B : Nat) (hB : w.heap.size ≤ B) (c : Code) : OwnFrom B (fun (pre : List (Fin N)) W => c = .ret ∧ LX bs w pre W) := by
  rintro s X Y row ⟨hc, h⟩ hg hrow
  exact ⟨hc, kept_row hg hrow h.r0, kept_row hg hrow h.r1, h.bel.grown hg h.bel.size (fun j e => by have := (hrow j e).1; omega), h.no⟩

theorem below_block {w w' : World} {g : Nat} {o : Obj} (h : w.heap[g]? = some o) (hb : Below w.heap.size w w') : w'.heap[g]? = some o := (hb.block g (block_lt h)).trans h
theorem good_nil : Good [] := by
  refine ⟨⟨rfl, fun j b h => ?_, fun j b h => ?_, fun j b h => ?_, fun i j b c h => ?_⟩, bfor_zero.symm, by simp [total], fun x hx => by simp at hx⟩ <;> simp at h
theorem dir_new {w : World} {base a : Nat} (hb : base ≤ a) (h : w.heap[a]? = some (.cells #[.int .i64 0, .slice none 0 0] 49 (0, 0))) : DirOk w base a [] := by
  refine ⟨⟨.slice none 0 0, [], hb, by simpa [total] using h, World.ownsRow_nil _ _ _ _, rfl, fun i v L hv _ => ?_, fun i j v u g _ hv _ _ => ?_⟩, good_nil⟩ <;> simp at hv
theorem bytes_cut {w : World} {g o : Nat} {bs : List (BitVec 8)} (hb : Bytes w (some ⟨g, o, none⟩) bs) (k : Nat) : Bytes w (some ⟨g, o + k * 512, none⟩) (pieceB bs k) := bytes_take (bytes_drop hb _) _
theorem Fr.keep {base : Nat} {w w' : World} (h : Fr base w w') {k t : Nat} {cs : Array Value} {f : Nat × Nat} (hk : w.heap[k]? = some (.cells cs t f)) (h1 : t ≠ 49) (h2 : t ≠ 57) (h3 : t ≠ 55) : w'.heap[k]? = some (.cells cs t f) :=
  (h.block k (block_lt hk) (fun hs => not_DT hk h1 h2 h3 hs.2)).trans hk
theorem Fr.keepsFrom {base : Nat} {w w' : World} (h : Fr base w w') (B : Nat) : KeepsFrom B w w' := ⟨h.size, fun k o _ hk hc => (h.block k (block_lt hk) (fun hs => by
  obtain ⟨cs, t, f, e, _⟩ := hs.2
  rw [hk] at e; cases e; cases hc)).trans hk⟩
theorem Fr.kpC {base : Nat} {w w' w0 : World} (h : Fr base w w') {b1 b2 : Nat} {x1 x2 : Array Value} (h1 : w0.heap[b1]? = some (.cells x1 36 (0, 0))) (h2 : w0.heap[b2]? = some (.cells x2 3 (0, 0))) : KpC w0 b1 b2 w w' := by
  rintro ⟨e1, e2⟩
  exact ⟨(h.keep (e1.trans h1) (by decide) (by decide) (by decide)).trans h1.symm, (h.keep (e2.trans h2) (by decide) (by decide) (by decide)).trans h2.symm⟩
theorem Ord10.snoc {N : Nat} {pre : List (Fin N)} {x : Fin N} (h : Ord10 (pre ++ [x])) : Ord10 pre ∧ x.1 = pre.length := by
  unfold Ord10 at h
  rw [List.map_append, List.length_append, List.length_singleton, List.range_succ] at h
  have := List.append_inj h (by simp)
  exact ⟨this.1, by have := this.2; simpa using this⟩
theorem pieces_512 (N : Nat) : pieces (N * 512) 512 = N := by unfold pieces; omega
theorem take_len_le {D : List (List En)} (j : Nat) : ((D.take j).flatten).length ≤ total D := by
  have : total D = ((D.take j).flatten).length + ((D.drop j).flatten).length := by
    unfold total
    rw [← List.length_append, ← List.flatten_append, List.take_append_drop]
  omega
/-- A round of Load: what holds behind a block. -/
theorem li_step {bs : List (BitVec 8)} {w W W' : World} {N : Nat} (hN : bs.length = N * 512) {pre : List (Fin N)} {x : Fin N} {D D' : List (List En)} {E : Int} (h : LI bs w pre W)
    (hd : Ord10 pre → (∀ q, q ∈ D.flatten ↔ Mem (fun _ => False) (pAll bs pre.length) q) ∧ (Own10 bs → total D ≤ (pAll bs pre.length).length))
    (hr : RB w.heap.size (w.heap.size + 2) D (pC bs x.1) (pS2 bs x.1) W E D' W') :
    (E = 0 → LI bs w (pre ++ [x]) W') ∧ (E ≠ 0 → Ord10 (pre ++ [x]) → ¬ Own10 bs) := by
  have key : Ord10 pre → x.1 = pre.length → Own10 bs → E = 0 ∧ total D' ≤ (pAll bs (pre.length + 1)).length := by
    rintro ho hx ⟨D0, hg, rfl⟩
    have hl : D0.length = N := by have := dirB_len hg; omega
    obtain ⟨L, hL⟩ : ∃ L, D0[x.1]? = some L := ⟨_, List.getElem?_eq_getElem (by have := x.2; omega)⟩
    obtain ⟨r1, r2, r3⟩ := own_read hg hL
    have hm := (hd ho).2 ⟨D0, hg, rfl⟩
    have e1 : pAll (dirB D0) (pre.length + 1) = pAll (dirB D0) pre.length ++ L := by rw [pAll, ← hx, r2]
    have e2 := own_all hg (pre.length + 1) (by have := x.2; omega)
    have h3 := take_len_le (D := D0) (pre.length + 1)
    rw [← e2, e1, List.length_append] at h3
    have h4 := hg.most
    obtain ⟨y1, y2⟩ := hr.yes (by
      intro y hy
      have : y ∈ L := by rw [← r2]; exact hy
      exact hg.fine y (List.mem_flatten.2 ⟨L, List.mem_of_getElem? hL, this⟩)) r3 (by rw [r1]; omega)
    exact ⟨y1, by rw [e1, List.length_append]; rw [r1] at y2; omega⟩
  constructor
  · intro hE
    have g := hr.good hE
    refine ⟨hr.fr.keep h.r0 (by decide) (by decide) (by decide), hr.fr.keep h.r1 (by decide) (by decide) (by decide), hr.fr.keep h.dc (by decide) (by decide) (by decide), h.bel.trans (hr.fr.toBelow h.bel.size), D', hr.ok, fun ho => ?_⟩
    obtain ⟨o1, o2⟩ := ho.snoc
    rw [List.length_append, List.length_singleton]
    refine ⟨fun q => ?_, fun hw => (key o1 o2 hw).2⟩
    rw [g.2 q, pAll, Mem_append, ← o2]
    exact Mem_congr _ (fun q => by rw [(hd o1).1 q, o2]) q
  · intro hE ho hw
    obtain ⟨o1, o2⟩ := ho.snoc
    exact hE (key o1 o2 hw).1

theorem set2 {W : World} {sz : Nat} {x y : Value} (a b : Value) (r0 : W.heap[sz]? = some (.cells #[x] 24 (0, 0))) (r1 : W.heap[sz + 1]? = some (.cells #[y] 31 (0, 0))) :
    ((W.setCell ⟨sz, 0, none⟩ a).setCell ⟨sz + 1, 0, none⟩ b).heap[sz]? = some (.cells #[a] 24 (0, 0)) ∧ ((W.setCell ⟨sz, 0, none⟩ a).setCell ⟨sz + 1, 0, none⟩ b).heap[sz + 1]? = some (.cells #[b] 31 (0, 0)) ∧ Only (fun k => k = sz ∨ k = sz + 1) W ((W.setCell ⟨sz, 0, none⟩ a).setCell ⟨sz + 1, 0, none⟩ b) := by
  refine ⟨?_, ?_, (Only.setCell W ⟨sz, 0, none⟩ a (.inl rfl)).next (Only.setCell _ ⟨sz + 1, 0, none⟩ b (.inr rfl))⟩
  · simp [World.setCell, Array.getElem?_modify, r0]
  · simp [World.setCell, Array.getElem?_modify, r1]
theorem end_put {W : World} {sz D : Nat} {x y : Value} (r0 : W.heap[sz]? = some (.cells #[x] 24 (0, 0))) (r1 : W.heap[sz + 1]? = some (.cells #[y] 31 (0, 0))) (hK : W.heap[D]? = some (.deferred (some []))) :
    (W.putObj D (.deferred none)).cell? ⟨sz, 0, none⟩ = some x ∧ (W.putObj D (.deferred none)).cell? ⟨sz + 1, 0, none⟩ = some y ∧ Only (fun k => k = D) W (W.putObj D (.deferred none)) := by
  have ho : Only (fun k => k = D) W (W.putObj D (.deferred none)) := Only.grown (grownBy_putObj' W D (.deferred none)) (fun i e => by simpa using e.symm)
  refine ⟨ho.cell (cellOf r0 0) ?_, ho.cell (cellOf r1 0) ?_, ho⟩
  · rintro rfl; rw [hK] at r0; cases r0
  · rintro rfl; rw [hK] at r1; cases r1
theorem DirOk.but {S : Nat → Prop} {w w' : World} {base a : Nat} {D : List (List En)} (h : DirOk w base a D) (ho : Only S w w') (hn : ∀ k, S k → ¬ DT w.heap[k]?) : DirOk w' base a D := by
  obtain ⟨⟨bv, vs, h1⟩, h2⟩ := h
  exact ⟨⟨bv, vs, h1.kept ho (fun k _ _ hd hs => hn k hs hd)⟩, h2⟩
theorem lx_of {bs : List (BitVec 8)} {w W : World} {N : Nat} {pre : List (Fin N)} {x y : Value} (r0 : W.heap[w.heap.size]? = some (.cells #[x] 24 (0, 0))) (r1 : W.heap[w.heap.size + 1]? = some (.cells #[y] 31 (0, 0))) (hb : Below w.heap.size w W) (hn : Ord10 pre → ¬ Own10 bs) :
    LX bs w pre ((W.setCell ⟨w.heap.size, 0, none⟩ (.pointer none)).setCell ⟨w.heap.size + 1, 0, none⟩ (.int .i64 74)) := by
  obtain ⟨a, b, c⟩ := set2 (.pointer none) (.int .i64 74) r0 r1
  exact ⟨a, b, hb.trans (c.below hb.size (fun i hi => by omega)), hn⟩
theorem ord_all {N : Nat} {ys : List (Fin N)} (h : ys.map Fin.val = List.range N) : Ord10 ys ∧ ys.length = N := by
  have : ys.length = N := by have := congrArg List.length h; simpa using this
  exact ⟨by unfold Ord10; rw [this]; exact h, this⟩
/-- All blocks are read: bytes that a directory gave come back as that directory. -/
theorem own_same {bs : List (BitVec 8)} {N : Nat} (hN : bs.length = N * 512) {D : List (List En)} (hg : Good D) (hm : ∀ q, q ∈ D.flatten ↔ Mem (fun _ => False) (pAll bs N) q) (ho : Own10 bs) : dirB D = bs := by
  obtain ⟨D0, h0, rfl⟩ := ho
  have hl : D0.length = N := by have := dirB_len h0; omega
  have e := own_all h0 N (by omega)
  rw [← hl, List.take_length] at e
  rw [hg.same h0 (fun q => ?_)]
  rw [hm q, ← hl, e, Mem_apart _ _ _ h0.wf.names (fun _ _ _ h => h.elim)]
  simp

set_option maxRecDepth 8000 in
set_option maxHeartbeats 4000000 in
theorem load_any (g o cp : Nat) (bs : List (BitVec 8)) (w : World) (ht : Tab w) (hb : Bytes w (some ⟨g, o, none⟩) bs) (hl : bs.length ≤ 1000000) (hcp : bs.length ≤ cp) (N : Nat) (hN : bs.length = N * 512) :
    Calls Tryd.prog 14 #[.slice (some ⟨g, o, none⟩) bs.length cp] w (Loaded bs w) := by
  have hmod : (bs.length : Int) % 512 = 0 := by omega
  have cNew := new_dir ((w.alloc (.cells #[.pointer none] 24)).alloc (.cells #[.int .i64 0] 31))
  have HB : Hid (Bytes w (some ⟨g, o, none⟩) bs ∧ Tab w) := ⟨hb, ht⟩
  obtain ⟨L, hL⟩ : ∃ L, bs.length = L := ⟨_, rfl⟩
  rw [hL] at hmod hl hcp hN
  rw [hL]
  clear hb ht
  refine (callsIn_wide (n := 4)).1 ?_
  refine callsIn_of_wp_marks Tryd.func14 rfl trivial ?_ rfl
  simp only [Tryd.ntmps14, List.size_toArray, List.length_cons, List.length_nil, Nat.reduceAdd, Nat.reduceSub, Array.replicate_succ, Array.replicate_zero, List.push_toArray, List.append_toArray, List.nil_append, List.cons_append]
  gi_wp2_with (first
    | (refine ⟨trivial, ?_⟩; gi_at_call 7; refine (callsIn_wide.2 cNew).mono ?_; rintro e w3 ⟨rfl, hw3⟩; clear cNew)
    | (gi_at_call 7; refine (callsIn_wide.2 cNew).mono ?_; rintro e w3 ⟨rfl, hw3⟩; clear cNew))
  subst hw3
  subst hN
  obtain ⟨w4, hw4⟩ : ∃ w4, w4 = (((w.alloc (.cells #[.pointer none] 24)).alloc (.cells #[.int .i64 0] 31)).alloc (.cells #[.int .i64 0, .slice none 0 0] 49)).alloc (.cells #[.pointer (some ⟨w.heap.size + 1 + 1, 0, none⟩)] 24) := ⟨_, rfl⟩
  rw [← hw4]
  have hs4 : w4.heap.size = w.heap.size + 4 := by rw [hw4]; simp
  have cC := chunk_any (some ⟨g, o, none⟩) (N * 512) cp 512 w4 (by omega) (by omega)
  refine ⟨trivial, (callsIn_wide.2 cC).mono ?_⟩
  rintro e w6 ⟨rfl, hw6⟩
  clear cC
  have hb4 : Below w.heap.size w w4 := by rw [hw4]; exact ((((Below.refl _ w).alloc (Nat.le_refl _) _).alloc (by simp) _).alloc (by simp; omega) _).alloc (by simp; omega) _
  have q0 : w4.heap[w.heap.size]? = some (.cells #[.pointer none] 24 (0, 0)) := by rw [hw4]; exact (((Below.heap_alloc _ _ _ (by simp; omega)).trans (Below.heap_alloc _ _ _ (by simp; omega))).trans (Below.heap_alloc _ _ _ (by simp))).trans (heap_alloc_new _ _)
  have q1 : w4.heap[w.heap.size + 1]? = some (.cells #[.int .i64 0] 31 (0, 0)) := by
    rw [hw4]
    refine ((Below.heap_alloc _ _ _ (by simp)).trans (Below.heap_alloc _ _ _ (by simp))).trans ?_
    have := heap_alloc_new (w.alloc (.cells #[.pointer none] 24)) (.cells #[.int .i64 0] 31)
    rw [World.size_alloc] at this
    exact this
  have q2 : w4.heap[w.heap.size + 2]? = some (.cells #[.int .i64 0, .slice none 0 0] 49 (0, 0)) := by
    rw [hw4]
    refine (Below.heap_alloc _ _ _ (by simp)).trans ?_
    have := heap_alloc_new ((w.alloc (.cells #[.pointer none] 24)).alloc (.cells #[.int .i64 0] 31)) (.cells #[.int .i64 0, .slice none 0 0] 49)
    rw [World.size_alloc, World.size_alloc] at this
    exact this
  have q3 : w4.heap[w.heap.size + 3]? = some (.cells #[.pointer (some ⟨w.heap.size + 2, 0, none⟩)] 24 (0, 0)) := by
    rw [hw4]
    have := heap_alloc_new (((w.alloc (.cells #[.pointer none] 24)).alloc (.cells #[.int .i64 0] 31)).alloc (.cells #[.int .i64 0, .slice none 0 0] 49)) (.cells #[.pointer (some ⟨w.heap.size + 1 + 1, 0, none⟩)] 24)
    rw [World.size_alloc, World.size_alloc, World.size_alloc] at this
    exact this
  have bS : w6.heap[w4.heap.size]? = some (.cells #[.slice (some ⟨g, o, none⟩) (N * 512) cp] 36 (0, 0)) := by rw [hw6]; exact (Below.heap_alloc _ _ _ (by simp)).trans (heap_alloc_new _ _)
  have bN : w6.heap[w4.heap.size + 1]? = some (.cells #[.int .i64 512] 3 (0, 0)) := by
    rw [hw6]
    have := heap_alloc_new (w4.alloc (.cells #[.slice (some ⟨g, o, none⟩) (N * 512) cp] 36)) (.cells #[.int .i64 512] 3)
    rw [World.size_alloc] at this
    exact this
  have hb6 : Below w4.heap.size w4 w6 := by rw [hw6]; exact ((Below.refl _ w4).alloc (Nat.le_refl _) _).alloc (by simp) _
  have hs6 : w6.heap.size = w4.heap.size + 2 := by rw [hw6]; simp
  have hI0 : LI bs w (N := N) [] w6 := by
    refine ⟨below_block q0 hb6, below_block q1 hb6, below_block q3 hb6, hb4.trans (hb6.mono (by omega)), [], ?_, fun _ => ⟨fun q => by simp [Mem, pAll], fun _ => by simp [total]⟩⟩
    exact (dir_new (by omega) q2).below hb6
  clear hw4 hw6 q0 q1 q2 q3
  have hseq := chunk_stops w4.heap.size (w4.heap.size + 1) g o (N * 512) cp 512 N (pieces_512 N).symm (by omega) (by omega) (by omega) (by omega) w6 bS bN 3 (by omega)
  have hKb : ∀ (W : World) (l : Nat) (o o' : Obj), w6.heap.size ≤ l → W.heap[l]? = some o → o.isCells = false → o.isWalk = false → KpC w6 w4.heap.size (w4.heap.size + 1) W (W.putObj l o') := KpC.b (by omega) (by omega)
  have hI := LI.own bs w N w6.heap.size (by omega)
  have HBX : Hid (w6.heap[w4.heap.size]? = some (.cells #[.slice (some ⟨g, o, none⟩) (N * 512) cp] 36 (0, 0)) ∧ w6.heap[w4.heap.size + 1]? = some (.cells #[.int .i64 512] 3 (0, 0))) := ⟨bS, bN⟩
  have HS : Hid (w.heap.size + 6 = w6.heap.size) := by show _ = _; omega
  clear bS bN hs4 hs6 hb6 hb4
  gi_wp2_with fail
  refine wpIn_rangeFunc_ownG (α := Fin N) rfl (by omega) (gf := 49) (lb := #[.pointer (some ⟨w4.heap.size, 0, none⟩), .pointer (some ⟨w4.heap.size + 1, 0, none⟩)]) rfl trivial (enters_of Tryd.func49 (by kernel_rfl) rfl)
    hseq KpC.t hKb (Below.refl _ _) (fun _ => rfl) _ (fun c pre W => c = .ret ∧ LX bs w pre W) hI (LX.own bs w N w6.heap.size (by have := HS.out; omega)) hI0
    (fun x => { tmps := #[.slice (some ⟨g, o, none⟩) (N * 512) cp, undef, .pointer (some ⟨w.heap.size, 0, none⟩), .pointer (some ⟨w.heap.size + 1, 0, none⟩), .pointer (some ⟨w.heap.size + 1 + 1 + 1, 0, none⟩), pieceV g o (N * 512) 512 x.1, undef, .slice (some ⟨g, o, none⟩) (N * 512) cp, .int .i64 ((N : Int) * 512), .int .i64 0, .bool false, .pointer (some ⟨w.heap.size + 1 + 1, 0, none⟩), .slice (some ⟨g, o, none⟩) (N * 512) cp, .func (.func 49) #[] #[.pointer (some ⟨w4.heap.size, 0, none⟩), .pointer (some ⟨w4.heap.size + 1, 0, none⟩)], pieceV g o (N * 512) 512 x.1, undef, undef, undef, undef, undef, undef, undef, undef, undef, undef, undef, undef], defers := [] }) ?assign ?body ?done ?stop
  case assign =>
    intro l x W K hK
    gi_wp2
    exact hK
  case body =>
    rintro l pre ⟨k, hkN⟩ W hi hlt
    have hs := HS.out
    obtain ⟨D, hD, hd⟩ := hi.dir
    have hpl : (pieceB bs k).length = 512 := by
      have : (k + 1) * 512 ≤ N * 512 := Nat.mul_le_mul_right _ hkN
      unfold pieceB; rw [List.length_take, List.length_drop, hL]; omega
    have hpv : pieceV g o (N * 512) 512 k = .slice (some ⟨g, o + k * 512, none⟩) 512 512 := by
      have : (k + 1) * 512 ≤ N * 512 := Nat.mul_le_mul_right _ hkN
      unfold pieceV pieceLen
      rw [show min 512 (N * 512 - k * 512) = 512 by omega]
    have hbW : Bytes W (some ⟨g, o, none⟩) bs := below_bytes hi.bel HB.out.1
    have htW : Tab W := below_tab hi.bel HB.out.2.lt HB.out.2
    have cR : Calls Tryd.prog 28 #[.slice (some ⟨g, o + k * 512, none⟩) 512 512, .func (.func 10) #[.pointer (some ⟨w.heap.size + 2, 0, none⟩)] #[]] W fun e W' => ∃ E D', e = .returned (.int .i64 E) ∧ RB w.heap.size (w.heap.size + 2) D (pC bs k) (pS2 bs k) W E D' W' := by
      have := readBlock_any w.heap.size (w.heap.size + 2) D (some ⟨g, o + k * 512, none⟩) (pieceB bs k) 512 W htW HB.out.2.lt hD (bytes_cut hbW k) (by omega) _ (pC bs k) (pS1 bs k) (pS2 bs k) rfl rfl
      rw [hpl] at this
      exact this
    have hdc := cellOf hi.dc 0
    simp at hdc
    have hmf := mkf
    have HI : Hid (LI bs w pre W ∧ (Ord10 pre → (∀ q, q ∈ D.flatten ↔ Mem (fun _ => False) (pAll bs pre.length) q) ∧ (Own10 bs → total D ≤ (pAll bs pre.length).length))) := ⟨hi, hd⟩
    simp only [hpv]
    clear hi hd hD hpl hpv hbW htW hI hseq hI0 hKb
    gi_wp2_with fail
    refine ⟨trivial, CallsIn.inRound l (callsIn_wide.2 (cR.mono ?_))⟩
    rintro e W1 ⟨E, D1, rfl, hr⟩
    clear cR hdc
    have hi := HI.out.1
    have st := li_step hL (x := ⟨k, hkN⟩) hi HI.out.2 hr
    have r0 := hr.fr.keep hi.r0 (by decide) (by decide) (by decide)
    have r1 := hr.fr.keep hi.r1 (by decide) (by decide) (by decide)
    have hb1 : Below w.heap.size w W1 := hi.bel.trans (hr.fr.toBelow hi.bel.size)
    have hkf := hr.fr.keepsFrom w6.heap.size
    have hkp := hr.fr.kpC HBX.out.1 HBX.out.2
    clear hi hr
    by_cases hE : E = 0
    · subst hE
      have H9 : Hid (KeepsFrom w6.heap.size W W1 ∧ KpC w6 w4.heap.size (w4.heap.size + 1) W W1 ∧ LI bs w (pre ++ [⟨k, hkN⟩]) W1) := ⟨hkf, hkp, st.1 rfl⟩
      clear hkf hkp st r0 r1 hb1
      gi_wp2
      exact H9.out
    · have H9 : Hid (KeepsFrom w6.heap.size W ((W1.setCell ⟨w.heap.size, 0, none⟩ (.pointer none)).setCell ⟨w.heap.size + 1, 0, none⟩ (.int .i64 74)) ∧ LX bs w (pre ++ [⟨k, hkN⟩]) ((W1.setCell ⟨w.heap.size, 0, none⟩ (.pointer none)).setCell ⟨w.heap.size + 1, 0, none⟩ (.int .i64 74))) :=
        ⟨hkf.trans (((KeepsOthers.setCell _ _ _).trans (KeepsOthers.setCell _ _ _)).from _), lx_of r0 r1 hb1 (st.2 hE)⟩
      have x0 := cellOf r0 0
      have x1 := cellOf r1 0
      have f0 := frozenOf r0 0
      have f1 := frozenOf r1 0
      have hx01 : w.heap.size ≠ w.heap.size + 1 := by omega
      simp at x0 x1
      clear hkf hkp st r0 r1 hb1
      gi_wp2
      exact ⟨H9.out.1, rfl, H9.out.2⟩
  case done =>
    rintro Dd ys W hDd hys hi hKd
    obtain ⟨D, hD, hd⟩ := hi.dir
    obtain ⟨ho, hyl⟩ := ord_all hys
    have hm := (hd ho).1
    rw [hyl] at hm
    have hown := own_same hL hD.2 hm
    have cB := dbytes_any w.heap.size (w.heap.size + 2) D W hD
    have hdc := cellOf hi.dc 0
    simp at hdc
    have HI : Hid (LI bs w ys W ∧ DirOk W w.heap.size (w.heap.size + 2) D ∧ W.heap[Dd]? = some (.deferred (some [])) ∧ w6.heap.size ≤ Dd) := ⟨hi, hD, hKd, hDd⟩
    clear hi hd hD hm hI hseq hI0 hKb hKd
    gi_wp2_with fail
    refine ⟨trivial, (callsIn_wide.2 cB).mono ?_⟩
    rintro e W1 ⟨rfl, hrow, hb1⟩
    clear cB hdc
    have hi := HI.out.1
    have hbW1 : Below w.heap.size w W1 := hi.bel.trans (hb1.mono hi.bel.size)
    have hby : Bytes W1 (some ⟨W.heap.size, 0, none⟩) (dirB D) := by
      intro _
      refine ⟨W.heap.size, 0, rfl, fun j x hj => ?_⟩
      rw [Nat.zero_add, cellOf hrow]
      simp [hj]
    have cE := equal_any (some ⟨W.heap.size, 0, none⟩) (some ⟨g, o, none⟩) (dirB D) bs (D.length * 512) cp W1 hby (below_bytes hbW1 HB.out.1)
    rw [dirB_len HI.out.2.1.2, hL] at cE
    have r0 := below_block hi.r0 hb1
    have r1 := below_block hi.r1 hb1
    have rc := below_block hi.dc hb1
    have hK1 := below_block HI.out.2.2.1 hb1
    have hD1 := HI.out.2.1.below hb1
    have x0 := cellOf r0 0
    have x1 := cellOf r1 0
    have xc := cellOf rc 0
    have f0 := frozenOf r0 0
    have f1 := frozenOf r1 0
    have hx01 : w.heap.size ≠ w.heap.size + 1 := by omega
    simp at x0 x1 xc
    have HF : Hid (W1.heap[w.heap.size]? = some (.cells #[.pointer none] 24 (0, 0)) ∧ W1.heap[w.heap.size + 1]? = some (.cells #[.int .i64 0] 31 (0, 0)) ∧ W1.heap[Dd]? = some (.deferred (some [])) ∧ DirOk W1 w.heap.size (w.heap.size + 2) D ∧ Below w.heap.size w W1) := ⟨r0, r1, hK1, hD1, hbW1⟩
    have fin : ∀ a b, Hid (∃ Wf, Wf = ((W1.setCell ⟨w.heap.size, 0, none⟩ a).setCell ⟨w.heap.size + 1, 0, none⟩ b).putObj Dd (.deferred none) ∧ ((W1.setCell ⟨w.heap.size, 0, none⟩ a).setCell ⟨w.heap.size + 1, 0, none⟩ b).heap[Dd]? = some (.deferred (some [])) ∧ Wf.cell? ⟨w.heap.size, 0, none⟩ = some a ∧ Wf.cell? ⟨w.heap.size + 1, 0, none⟩ = some b ∧ Below w.heap.size w Wf ∧ DirOk Wf w.heap.size (w.heap.size + 2) D) := by
      intro a b
      obtain ⟨r0, r1, hK1, hD1, hbW1⟩ := HF.out
      obtain ⟨s0, s1, s2⟩ := set2 a b r0 r1
      have hK2 : ((W1.setCell ⟨w.heap.size, 0, none⟩ a).setCell ⟨w.heap.size + 1, 0, none⟩ b).heap[Dd]? = some (.deferred (some [])) := (s2.block Dd (block_lt hK1) (by rintro (rfl | rfl); rw [r0] at hK1; cases hK1; rw [r1] at hK1; cases hK1)).trans hK1
      obtain ⟨e0, e1, e2⟩ := end_put s0 s1 hK2
      have hb2 : Below w.heap.size w ((W1.setCell ⟨w.heap.size, 0, none⟩ a).setCell ⟨w.heap.size + 1, 0, none⟩ b) := hbW1.trans (s2.below hbW1.size (fun i hi => by omega))
      refine ⟨_, rfl, hK2, e0, e1, hb2.trans (e2.below hb2.size (fun i hi => by have := HS.out; have := HI.out.2.2.2; omega)), (hD1.but s2 ?_).but e2 ?_⟩
      · rintro k (rfl | rfl)
        · exact not_DT r0 (by decide) (by decide) (by decide)
        · exact not_DT r1 (by decide) (by decide) (by decide)
      · rintro k rfl ⟨cs, t, f, e, _⟩
        rw [hK2] at e
        cases e
    clear hi r0 r1 rc hK1 hD1 hbW1 hby hrow hb1
    by_cases heq : dirB D = bs
    · rw [decide_eq_true heq] at cE
      have HE : Hid (bs = dirB D) := heq.symm
      clear heq hown
      gi_wp2_with (refine ⟨trivial, (callsIn_wide.2 cE).mono ?_⟩; rintro e W2 ⟨rfl, rfl⟩; clear cE)
      obtain ⟨Wf, hWf, k0, k1, k2, k3, k4⟩ := (fin (.pointer (some ⟨w.heap.size + 2, 0, none⟩)) (.int .i64 0)).out
      refine ⟨by simp, .inl ⟨_, _, rfl, run_takeDeferred k0, ?_⟩⟩
      rw [← hWf]
      exact ⟨.tuple #[.pointer (some ⟨w.heap.size + 2, 0, none⟩), .int .i64 0], by simp [results, Tryd.results14, go_sem, k1, k2], k3, .inr ⟨D, rfl, k4, HE.out⟩⟩
    · rw [decide_eq_false heq] at cE
      have HE : Hid (¬ Own10 bs) := fun h => heq (hown h)
      clear heq hown
      gi_wp2_with (refine ⟨trivial, (callsIn_wide.2 cE).mono ?_⟩; rintro e W2 ⟨rfl, rfl⟩; clear cE)
      obtain ⟨Wf, hWf, k0, k1, k2, k3, k4⟩ := (fin (.pointer none) (.int .i64 74)).out
      refine ⟨by simp, .inl ⟨_, _, rfl, run_takeDeferred k0, ?_⟩⟩
      rw [← hWf]
      exact ⟨.tuple #[.pointer none, .int .i64 74], by simp [results, Tryd.results14, go_sem, k1, k2], k3, .inl ⟨HE.out, rfl⟩⟩
  case stop =>
    rintro Dd c pre W hDd ⟨kk, _, hpre⟩ ⟨rfl, hx⟩ hKd
    have hno := hx.no (by unfold Ord10; have : pre.length = kk := by have := congrArg List.length hpre; simpa using this
                          rw [this]; exact hpre)
    obtain ⟨e0, e1, e2⟩ := end_put hx.r0 hx.r1 hKd
    have hb : Below w.heap.size w (W.putObj Dd (.deferred none)) := hx.bel.trans (e2.below hx.bel.size (fun i hi => by have := HS.out; omega))
    clear hI hseq hI0 hKb
    gi_wp2
    refine ⟨by simp, .inl ⟨_, _, rfl, run_takeDeferred hKd, ?_⟩⟩
    exact ⟨.tuple #[.pointer none, .int .i64 74], by simp [results, Tryd.results14, go_sem, e0, e1], hb, .inl ⟨hno, rfl⟩⟩

theorem own_mod {bs : List (BitVec 8)} (h : Own10 bs) : bs.length % 512 = 0 := by
  obtain ⟨D0, h0, rfl⟩ := h
  rw [dirB_len h0]
  omega
set_option maxRecDepth 8000 in
set_option maxHeartbeats 4000000 in
theorem load_odd (g o cp : Nat) (bs : List (BitVec 8)) (w : World) (hl : bs.length ≤ 1000000) (hN : bs.length % 512 ≠ 0) :
    Calls Tryd.prog 14 #[.slice (some ⟨g, o, none⟩) bs.length cp] w (Loaded bs w) := by
  have hmod : ¬ (bs.length : Int) % 512 = 0 := by omega
  have HN : Hid (¬ Own10 bs) := fun h => hN (own_mod h)
  obtain ⟨L, hL⟩ : ∃ L, bs.length = L := ⟨_, rfl⟩
  rw [hL] at hmod hl hN
  rw [hL]
  refine (callsIn_wide (n := 4)).1 ?_
  refine callsIn_of_wp_marks Tryd.func14 rfl trivial ?_ rfl
  simp only [Tryd.ntmps14, List.size_toArray, List.length_cons, List.length_nil, Nat.reduceAdd, Nat.reduceSub, Array.replicate_succ, Array.replicate_zero, List.push_toArray, List.append_toArray, List.nil_append, List.cons_append]
  gi_wp2
  refine ⟨.tuple #[.pointer none, .int .i64 74], by simp [results, Tryd.results14, go_sem], ((Below.refl _ w).alloc (Nat.le_refl _) _).alloc (by simp) _, .inl ⟨HN.out, rfl⟩⟩
/-- Load, whatever it is handed. -/
theorem load_all (g o cp : Nat) (bs : List (BitVec 8)) (w : World) (ht : Tab w) (hb : Bytes w (some ⟨g, o, none⟩) bs) (hl : bs.length ≤ 1000000) (hcp : bs.length ≤ cp) :
    Calls Tryd.prog 14 #[.slice (some ⟨g, o, none⟩) bs.length cp] w (Loaded bs w) := by
  by_cases h : bs.length % 512 = 0
  · exact load_any g o cp bs w ht hb hl hcp (bs.length / 512) (by omega)
  · exact load_odd g o cp bs w hl h

end Go.Proofs.YtdocablbkafkiaaDoor.Cd

/-
  The heap by name: Len, Push (of any heap), Pop (of the last one), Swap of one with itself.
-/
namespace Go.Proofs.YtdocablbkafkiaaDoor.Cd
open Go.RowKit Go.Maps

attribute [local go_sem] Oper.semAt_some

/-- A heap of entries: its box, and its row. -/
structure HB (w : World) (base kb : Nat) (v : Value) (L : List En) : Prop where
  lo : base ≤ kb
  box : w.heap[kb]? = some (.cells #[v] 69 (0, 0))
  blk : Blk w base v L
/-- The blocks of a heap. -/
def hS (kb : Nat) (v : Value) (k : Nat) : Prop := k = kb ∨ v.ownBlock = some k
theorem HB.toBelow {w w' : World} {base kb : Nat} {v : Value} {L : List En} (h : HB w base kb v L) (ho : Only (hS kb v) w w') (hbw : base ≤ w.heap.size) : Below base w w' :=
  Only.below ho hbw (fun i hi => by rcases hi with rfl | hi; exact h.lo; exact (h.blk.tag hi).1)
def hI (kb : Nat) : Value := .iface 68 (.pointer (some ⟨kb, 0, none⟩))
def enV (x : En) : Value := .agg #[.string (bas x.name), .int .i64 (x.num : Nat)]
theorem HB.below {w w' : World} {base kb : Nat} {v : Value} {L : List En} (h : HB w base kb v L) (hb : Below w.heap.size w w') : HB w' base kb v L :=
  ⟨h.lo, below_block h.box hb, h.blk.kept (Below.only hb (fun _ => False)) (fun _ _ h => h)⟩
theorem HB.cell {w : World} {base kb : Nat} {v : Value} {L : List En} (h : HB w base kb v L) : w.cell? ⟨kb, 0, none⟩ = some v := by rw [cellOf h.box 0]; rfl
theorem HB.froz {w : World} {base kb : Nat} {v : Value} {L : List En} (h : HB w base kb v L) : w.frozen? ⟨kb, 0, none⟩ = false := frozenOf h.box 0
theorem HB.ne {w : World} {base kb : Nat} {v : Value} {L : List En} (h : HB w base kb v L) {j : Nat} (hj : v.ownBlock = some j) : j ≠ kb := by
  rintro rfl
  obtain ⟨_, _, cur, hc⟩ := h.blk.tag hj
  rw [h.box] at hc
  injection hc with hc
  injection hc with _ hc
  cases hc
theorem zmeth_len (kb : Nat) (v : Value) (w : World) (h : w.cell? ⟨kb, 0, none⟩ = some v) : (method 245 68 (.pointer (some ⟨kb, 0, none⟩)) "Len").run Tryd.prog w = .ok (34, v) w := by
  have e : (method 245 68 (.pointer (some ⟨kb, 0, none⟩)) "Len").run Tryd.prog w = (do let x ← loadVar 69 ⟨kb, 0, none⟩; pure (34, x) : Sem (FuncId × Value)).run Tryd.prog w := by kernel_rfl
  rw [e]
  simp [go_sem, h]
theorem zmeth_swap (kb : Nat) (v : Value) (w : World) (h : w.cell? ⟨kb, 0, none⟩ = some v) : (method 245 68 (.pointer (some ⟨kb, 0, none⟩)) "Swap").run Tryd.prog w = .ok (106, v) w := by
  have e : (method 245 68 (.pointer (some ⟨kb, 0, none⟩)) "Swap").run Tryd.prog w = (do let x ← loadVar 69 ⟨kb, 0, none⟩; pure (106, x) : Sem (FuncId × Value)).run Tryd.prog w := by kernel_rfl
  rw [e]
  simp [go_sem, h]
theorem zmeth_less (kb : Nat) (v : Value) (w : World) (h : w.cell? ⟨kb, 0, none⟩ = some v) : (method 245 68 (.pointer (some ⟨kb, 0, none⟩)) "Less").run Tryd.prog w = .ok (103, v) w := by
  have e : (method 245 68 (.pointer (some ⟨kb, 0, none⟩)) "Less").run Tryd.prog w = (do let x ← loadVar 69 ⟨kb, 0, none⟩; pure (103, x) : Sem (FuncId × Value)).run Tryd.prog w := by kernel_rfl
  rw [e]
  simp [go_sem, h]
theorem zmeth_pop (kb : Nat) (w : World) : (method 245 68 (.pointer (some ⟨kb, 0, none⟩)) "Pop").run Tryd.prog w = .ok (104, .pointer (some ⟨kb, 0, none⟩)) w := by kernel_rfl
theorem zmeth_push (kb : Nat) (w : World) : (method 245 68 (.pointer (some ⟨kb, 0, none⟩)) "Push").run Tryd.prog w = .ok (105, .pointer (some ⟨kb, 0, none⟩)) w := by kernel_rfl
theorem assert_ent (v : Value) (w : World) : (Instr.typeAssert (.iface 55 v) 20 55 false).run Tryd.prog w = .ok v w := by kernel_rfl

theorem zlen_any (p : Option Addr) (n c : Nat) (w : World) : Calls Tryd.prog 34 #[.slice p n c] w fun e w' => e = .returned (.int .i64 (n : Nat)) ∧ w' = w := by
  go_enter Tryd.func34, Tryd.ntmps34
  go_wp2
  go_ret
  exact ⟨rfl, rfl⟩

set_option maxRecDepth 8000 in
set_option maxHeartbeats 2000000 in
theorem zpush_any (base kb : Nat) (v0 : Value) (L : List En) (x : En) (w : World) (h : HB w base kb v0 L) (hl : L.length < 1000000) (hbw : base ≤ w.heap.size) :
    Calls Tryd.prog 105 #[.pointer (some ⟨kb, 0, none⟩), .iface 55 (enV x)] w fun e w' => e = .returned (.tuple #[]) ∧ (∃ v', HB w' base kb v' (L ++ [x])) ∧ Only (hS kb v0) w w' := by
  obtain ⟨i0, hi0, hz0, hz1, hz2⟩ := entInfo
  obtain ⟨W1, hW1⟩ : ∃ W1, W1 = w.drew.alloc (.cells #[.string (bas x.name), .int .i64 (x.num : Nat)] 55) := ⟨_, rfl⟩
  have hb1 : Below w.heap.size w W1 := by rw [hW1]; exact below_of_drew ((Below.refl _ w.drew).alloc (Nat.le_refl _) _)
  have hs1 : W1.heap.size = w.heap.size + 1 := by rw [hW1]; simp
  have hn1 : W1.heap[w.heap.size]? = some (.cells #[.string (bas x.name), .int .i64 (x.num : Nat)] 55 (0, 0)) := by rw [hW1]; exact heap_alloc_new w.drew _
  have h1 := h.below hb1
  obtain ⟨v1, W2, hrun, hown, hgr, _, hpl⟩ := run_append_own_at (P := Tryd.prog) (w := W1) base 69 69 55 i0 _ 2 _ Tryd.underlying69 hi0 hz0 hz1 hz2 rfl (by decide) v0 L.length (ents L) h1.blk ⟨w.heap.size, 0, none⟩ 1 1 (entCells x) rfl
    (fun j u hj => by
      rw [Addr.add_lit, Nat.zero_add, cellOf hn1 j]
      simpa [entCells] using hj) (by intro u hu; simp [entCells] at hu; rcases hu with rfl | rfl <;> rfl) (by unfold maxLen; omega) (by omega) (by omega)
  obtain ⟨p1, k1, hv1, _⟩ := Blk.form (L := L ++ [x]) (Blk.ext hown (by simp) (by simp [ents]))
  have hbox2 : W2.heap[kb]? = some (.cells #[v0] 69 (0, 0)) := (hgr.block kb (block_lt h1.box) (fun e => h1.ne e.symm rfl)).trans h1.box
  obtain ⟨W3, hW3⟩ : ∃ W3, W3 = W2.setCell ⟨kb, 0, none⟩ v1 := ⟨_, rfl⟩
  have hv1kb : ∀ j, v1.ownBlock = some j → j ≠ kb := by
    intro j hj
    rcases hpl with e | e
    · rw [hj] at e; exact h1.ne e.symm
    · rw [hj] at e; cases e
      have := block_lt h.box
      omega
  have H3 : Hid (HB W3 base kb v1 (L ++ [x]) ∧ Only (hS kb v0) w W3) := by
    refine ⟨⟨h.lo, ?_, ?_⟩, ?_⟩
    · rw [hW3]; simp [World.setCell, Array.getElem?_modify, hbox2]
    · rw [hW3]
      refine Blk.kept (Blk.ext hown (by simp) (by simp [ents])) (Only.setCell (S := (· = kb)) _ _ _ rfl) (fun j hj e => hv1kb j hj e)
    · rw [hW3]
      exact ((Below.only hb1 _).next (Only.grown hgr (fun i hi => .inr hi))).next (Only.setCell _ _ _ (.inl rfl))
  have c0 := h.cell
  have c1 := h1.cell
  have c2 : W2.cell? ⟨kb, 0, none⟩ = some v0 := by rw [cellOf hbox2 0]; rfl
  have f2 : W2.frozen? ⟨kb, 0, none⟩ = false := frozenOf hbox2 0
  have hta := assert_ent
  unfold enV
  clear h h1 hown hgr hpl hbox2 hv1kb hb1 hn1 hi0 hz0 hz1 hz2 hs1
  go_enter Tryd.func105, Tryd.ntmps105
  have hmix : Tryd.prog.follows .mixedOrders = true := by kernel_rfl
  have vv0 : ∀ g, vals ((fun g : Unit => ([(some 4, .pointer (some ⟨kb, 0, none⟩)), (some 5, .pointer (some ⟨kb, 0, none⟩)), (some 6, .pointer (some ⟨kb, 0, none⟩)), (some 7, v0), (some 8, .iface 55 (.agg #[.string (bas x.name), .int .i64 (x.num : Nat)])), (some 9, .agg #[.string (bas x.name), .int .i64 (x.num : Nat)]), (some 10, .slice (some ⟨w.heap.size, 0, none⟩) 1 1), (some 11, v1), (some 12, .pointer (some ⟨kb, 0, none⟩)), (none, undef)] : List (Option Tmp × Value))) g) 0 = .pointer (some ⟨kb, 0, none⟩) := fun g => rfl
  have vv1 : ∀ g, vals ((fun g : Unit => ([(some 4, .pointer (some ⟨kb, 0, none⟩)), (some 5, .pointer (some ⟨kb, 0, none⟩)), (some 6, .pointer (some ⟨kb, 0, none⟩)), (some 7, v0), (some 8, .iface 55 (.agg #[.string (bas x.name), .int .i64 (x.num : Nat)])), (some 9, .agg #[.string (bas x.name), .int .i64 (x.num : Nat)]), (some 10, .slice (some ⟨w.heap.size, 0, none⟩) 1 1), (some 11, v1), (some 12, .pointer (some ⟨kb, 0, none⟩)), (none, undef)] : List (Option Tmp × Value))) g) 1 = .pointer (some ⟨kb, 0, none⟩) := fun g => rfl
  have vv2 : ∀ g, vals ((fun g : Unit => ([(some 4, .pointer (some ⟨kb, 0, none⟩)), (some 5, .pointer (some ⟨kb, 0, none⟩)), (some 6, .pointer (some ⟨kb, 0, none⟩)), (some 7, v0), (some 8, .iface 55 (.agg #[.string (bas x.name), .int .i64 (x.num : Nat)])), (some 9, .agg #[.string (bas x.name), .int .i64 (x.num : Nat)]), (some 10, .slice (some ⟨w.heap.size, 0, none⟩) 1 1), (some 11, v1), (some 12, .pointer (some ⟨kb, 0, none⟩)), (none, undef)] : List (Option Tmp × Value))) g) 2 = .pointer (some ⟨kb, 0, none⟩) := fun g => rfl
  have vv3 : ∀ g, vals ((fun g : Unit => ([(some 4, .pointer (some ⟨kb, 0, none⟩)), (some 5, .pointer (some ⟨kb, 0, none⟩)), (some 6, .pointer (some ⟨kb, 0, none⟩)), (some 7, v0), (some 8, .iface 55 (.agg #[.string (bas x.name), .int .i64 (x.num : Nat)])), (some 9, .agg #[.string (bas x.name), .int .i64 (x.num : Nat)]), (some 10, .slice (some ⟨w.heap.size, 0, none⟩) 1 1), (some 11, v1), (some 12, .pointer (some ⟨kb, 0, none⟩)), (none, undef)] : List (Option Tmp × Value))) g) 3 = v0 := fun g => rfl
  have vv4 : ∀ g, vals ((fun g : Unit => ([(some 4, .pointer (some ⟨kb, 0, none⟩)), (some 5, .pointer (some ⟨kb, 0, none⟩)), (some 6, .pointer (some ⟨kb, 0, none⟩)), (some 7, v0), (some 8, .iface 55 (.agg #[.string (bas x.name), .int .i64 (x.num : Nat)])), (some 9, .agg #[.string (bas x.name), .int .i64 (x.num : Nat)]), (some 10, .slice (some ⟨w.heap.size, 0, none⟩) 1 1), (some 11, v1), (some 12, .pointer (some ⟨kb, 0, none⟩)), (none, undef)] : List (Option Tmp × Value))) g) 4 = .iface 55 (.agg #[.string (bas x.name), .int .i64 (x.num : Nat)]) := fun g => rfl
  have vv5 : ∀ g, vals ((fun g : Unit => ([(some 4, .pointer (some ⟨kb, 0, none⟩)), (some 5, .pointer (some ⟨kb, 0, none⟩)), (some 6, .pointer (some ⟨kb, 0, none⟩)), (some 7, v0), (some 8, .iface 55 (.agg #[.string (bas x.name), .int .i64 (x.num : Nat)])), (some 9, .agg #[.string (bas x.name), .int .i64 (x.num : Nat)]), (some 10, .slice (some ⟨w.heap.size, 0, none⟩) 1 1), (some 11, v1), (some 12, .pointer (some ⟨kb, 0, none⟩)), (none, undef)] : List (Option Tmp × Value))) g) 5 = .agg #[.string (bas x.name), .int .i64 (x.num : Nat)] := fun g => rfl
  have vv6 : ∀ g, vals ((fun g : Unit => ([(some 4, .pointer (some ⟨kb, 0, none⟩)), (some 5, .pointer (some ⟨kb, 0, none⟩)), (some 6, .pointer (some ⟨kb, 0, none⟩)), (some 7, v0), (some 8, .iface 55 (.agg #[.string (bas x.name), .int .i64 (x.num : Nat)])), (some 9, .agg #[.string (bas x.name), .int .i64 (x.num : Nat)]), (some 10, .slice (some ⟨w.heap.size, 0, none⟩) 1 1), (some 11, v1), (some 12, .pointer (some ⟨kb, 0, none⟩)), (none, undef)] : List (Option Tmp × Value))) g) 6 = .slice (some ⟨w.heap.size, 0, none⟩) 1 1 := fun g => rfl
  have vv7 : ∀ g, vals ((fun g : Unit => ([(some 4, .pointer (some ⟨kb, 0, none⟩)), (some 5, .pointer (some ⟨kb, 0, none⟩)), (some 6, .pointer (some ⟨kb, 0, none⟩)), (some 7, v0), (some 8, .iface 55 (.agg #[.string (bas x.name), .int .i64 (x.num : Nat)])), (some 9, .agg #[.string (bas x.name), .int .i64 (x.num : Nat)]), (some 10, .slice (some ⟨w.heap.size, 0, none⟩) 1 1), (some 11, v1), (some 12, .pointer (some ⟨kb, 0, none⟩)), (none, undef)] : List (Option Tmp × Value))) g) 7 = v1 := fun g => rfl
  have vv8 : ∀ g, vals ((fun g : Unit => ([(some 4, .pointer (some ⟨kb, 0, none⟩)), (some 5, .pointer (some ⟨kb, 0, none⟩)), (some 6, .pointer (some ⟨kb, 0, none⟩)), (some 7, v0), (some 8, .iface 55 (.agg #[.string (bas x.name), .int .i64 (x.num : Nat)])), (some 9, .agg #[.string (bas x.name), .int .i64 (x.num : Nat)]), (some 10, .slice (some ⟨w.heap.size, 0, none⟩) 1 1), (some 11, v1), (some 12, .pointer (some ⟨kb, 0, none⟩)), (none, undef)] : List (Option Tmp × Value))) g) 8 = .pointer (some ⟨kb, 0, none⟩) := fun g => rfl
  have vv9 : ∀ g, vals ((fun g : Unit => ([(some 4, .pointer (some ⟨kb, 0, none⟩)), (some 5, .pointer (some ⟨kb, 0, none⟩)), (some 6, .pointer (some ⟨kb, 0, none⟩)), (some 7, v0), (some 8, .iface 55 (.agg #[.string (bas x.name), .int .i64 (x.num : Nat)])), (some 9, .agg #[.string (bas x.name), .int .i64 (x.num : Nat)]), (some 10, .slice (some ⟨w.heap.size, 0, none⟩) 1 1), (some 11, v1), (some 12, .pointer (some ⟨kb, 0, none⟩)), (none, undef)] : List (Option Tmp × Value))) g) 9 = undef := fun g => rfl
  refine region_laidg hmix (by kernel_rfl) 13 rfl (by kernel_rfl) () ((fun g : Unit => ([(some 4, .pointer (some ⟨kb, 0, none⟩)), (some 5, .pointer (some ⟨kb, 0, none⟩)), (some 6, .pointer (some ⟨kb, 0, none⟩)), (some 7, v0), (some 8, .iface 55 (.agg #[.string (bas x.name), .int .i64 (x.num : Nat)])), (some 9, .agg #[.string (bas x.name), .int .i64 (x.num : Nat)]), (some 10, .slice (some ⟨w.heap.size, 0, none⟩) 1 1), (some 11, v1), (some 12, .pointer (some ⟨kb, 0, none⟩)), (none, undef)] : List (Option Tmp × Value)))) (fun g => rfl) (fun (g : Unit) b W => W = if b 9 = true then W3 else if b 7 = true then W2 else if b 6 = true then W1 else w.drew) rfl ?_ ?_
  · intro g b W io o a hS hcl ho hb hd ev kp yl
    match io with
    | 0 =>
      simp only [List.getElem?_toArray, List.getElem?_cons_zero, Option.some.injEq] at ho
      subst ho
      have e0 : a.tmps[0]?.getD undef = .pointer (some ⟨kb, 0, none⟩) := kp 0 (none_till (by kernel_rfl))
      refine doesg_value rfl (by intro c h; cases h) (v := .pointer (some ⟨kb, 0, none⟩)) (w' := W) ?_ ⟨g, fun _ _ => rfl, (vv0 g).symm, ?_⟩
      · simp [execOp, go_sem, e0]
      · simpa [did] using hS
    | 1 =>
      simp only [List.getElem?_toArray, List.getElem?_cons_zero, List.getElem?_cons_succ, Option.some.injEq] at ho
      subst ho
      have e0 : a.tmps[0]?.getD undef = .pointer (some ⟨kb, 0, none⟩) := kp 0 (none_till (by kernel_rfl))
      refine doesg_value rfl (by intro c h; cases h) (v := .pointer (some ⟨kb, 0, none⟩)) (w' := W) ?_ ⟨g, fun _ _ => rfl, (vv1 g).symm, ?_⟩
      · simp [execOp, go_sem, e0]
      · simpa [did] using hS
    | 2 =>
      simp only [List.getElem?_toArray, List.getElem?_cons_zero, List.getElem?_cons_succ, Option.some.injEq] at ho
      subst ho
      have p1 : b 1 = true := hd ⟨1, .data⟩ (by simp) rfl
      have e5 := (ev 1 5 rfl p1).trans (vv1 g)
      refine doesg_value rfl (by intro c h; cases h) (v := .pointer (some ⟨kb, 0, none⟩)) (w' := W) ?_ ⟨g, fun _ _ => rfl, (vv2 g).symm, ?_⟩
      · simp [execOp, go_sem, e5]
      · simpa [did] using hS
    | 3 =>
      simp only [List.getElem?_toArray, List.getElem?_cons_zero, List.getElem?_cons_succ, Option.some.injEq] at ho
      subst ho
      have p2 : b 2 = true := hd ⟨2, .data⟩ (by simp) rfl
      have e6 := (ev 2 6 rfl p2).trans (vv2 g)
      have h97 : b 9 = true → b 7 = true := fun h => hcl 9 _ rfl h ⟨7, .data⟩ (by simp) rfl
      have h7 : b 7 = false := by cases h : b 7; rfl; rw [hcl 7 _ rfl h ⟨3, .data⟩ (by simp) rfl] at hb; cases hb
      have h9 : b 9 = false := by cases h : b 9; rfl; rw [h97 h] at h7; cases h7
      rw [h9, h7] at hS
      have hl : W.cell? ⟨kb, 0, none⟩ = some v0 := by (rw [hS]; cases b 6; exact c0; exact c1)
      refine doesg_value rfl (by intro c h; cases h) (v := v0) (w' := W) ?_ ⟨g, fun _ _ => rfl, (vv3 g).symm, ?_⟩
      · simp [execOp, go_sem, e6, hl]
      · simpa [did, h9, h7] using hS
    | 4 =>
      simp only [List.getElem?_toArray, List.getElem?_cons_zero, List.getElem?_cons_succ, Option.some.injEq] at ho
      subst ho
      have e1 : a.tmps[1]?.getD undef = .iface 55 (.agg #[.string (bas x.name), .int .i64 (x.num : Nat)]) := kp 1 (none_till (by kernel_rfl))
      refine doesg_value rfl (by intro c h; cases h) (v := .iface 55 (.agg #[.string (bas x.name), .int .i64 (x.num : Nat)])) (w' := W) ?_ ⟨g, fun _ _ => rfl, (vv4 g).symm, ?_⟩
      · simp [execOp, go_sem, e1]
      · simpa [did] using hS
    | 5 =>
      simp only [List.getElem?_toArray, List.getElem?_cons_zero, List.getElem?_cons_succ, Option.some.injEq] at ho
      subst ho
      have p4 : b 4 = true := hd ⟨4, .data⟩ (by simp) rfl
      have e8 := (ev 4 8 rfl p4).trans (vv4 g)
      refine doesg_value rfl (by intro c h; cases h) (v := .agg #[.string (bas x.name), .int .i64 (x.num : Nat)]) (w' := W) ?_ ⟨g, fun _ _ => rfl, (vv5 g).symm, ?_⟩
      · simp [execOp, go_sem, e8, hta]
      · simpa [did] using hS
    | 6 =>
      simp only [List.getElem?_toArray, List.getElem?_cons_zero, List.getElem?_cons_succ, Option.some.injEq] at ho
      subst ho
      have p5 : b 5 = true := hd ⟨5, .data⟩ (by simp) rfl
      have e9 := (ev 5 9 rfl p5).trans (vv5 g)
      have h97 : b 9 = true → b 7 = true := fun h => hcl 9 _ rfl h ⟨7, .data⟩ (by simp) rfl
      have h7 : b 7 = false := by cases h : b 7; rfl; rw [hcl 7 _ rfl h ⟨6, .data⟩ (by simp) rfl] at hb; cases hb
      have h9 : b 9 = false := by cases h : b 9; rfl; rw [h97 h] at h7; cases h7
      rw [h9, h7, hb] at hS
      have hW : W = w.drew := hS
      subst hW
      refine doesg_value rfl (by intro c h; cases h) (v := .slice (some ⟨w.heap.size, 0, none⟩) 1 1) (w' := W1) ?_ ⟨g, fun _ _ => rfl, (vv6 g).symm, ?_⟩
      · simp [execOp, go_sem, e9, hW1]
      · simp [did, h9, h7]
    | 7 =>
      simp only [List.getElem?_toArray, List.getElem?_cons_zero, List.getElem?_cons_succ, Option.some.injEq] at ho
      subst ho
      have p3 : b 3 = true := hd ⟨3, .data⟩ (by simp) rfl
      have p6 : b 6 = true := hd ⟨6, .data⟩ (by simp) rfl
      have e7 := (ev 3 7 rfl p3).trans (vv3 g)
      have e10 := (ev 6 10 rfl p6).trans (vv6 g)
      have h97 : b 9 = true → b 7 = true := fun h => hcl 9 _ rfl h ⟨7, .data⟩ (by simp) rfl
      have h9 : b 9 = false := by cases h : b 9; rfl; rw [h97 h] at hb; cases hb
      rw [h9, hb, p6] at hS
      have hW : W = W1 := hS
      subst hW
      have q7 : a.eval (.tmp 7) = v0 := by simp [go_sem, e7]
      have q10 : a.eval (.tmp 10) = .slice (some ⟨w.heap.size, 0, none⟩) 1 1 := by simp [go_sem, e10]
      refine doesg_value rfl (by intro c h; cases h) (v := v1) (w' := W2) ?_ ⟨g, fun _ _ => rfl, (vv7 g).symm, ?_⟩
      · simp only [execOp, resolve, invoke, builtin, Sem.run_bind, Sem.run_pure, Result.andThen_ok, List.map_toArray, List.map_cons, List.map_nil, q7, q10, hrun]
      · simp [did, h9]
    | 8 =>
      simp only [List.getElem?_toArray, List.getElem?_cons_zero, List.getElem?_cons_succ, Option.some.injEq] at ho
      subst ho
      have p0 : b 0 = true := hd ⟨0, .data⟩ (by simp) rfl
      have e4 := (ev 0 4 rfl p0).trans (vv0 g)
      refine doesg_value rfl (by intro c h; cases h) (v := .pointer (some ⟨kb, 0, none⟩)) (w' := W) ?_ ⟨g, fun _ _ => rfl, (vv8 g).symm, ?_⟩
      · simp [execOp, go_sem, e4]
      · simpa [did] using hS
    | 9 =>
      simp only [List.getElem?_toArray, List.getElem?_cons_zero, List.getElem?_cons_succ, Option.some.injEq] at ho
      subst ho
      have p8 : b 8 = true := hd ⟨8, .data⟩ (by simp) rfl
      have p7 : b 7 = true := hd ⟨7, .data⟩ (by simp) rfl
      have e12 := (ev 8 12 rfl p8).trans (vv8 g)
      have e11 := (ev 7 11 rfl p7).trans (vv7 g)
      rw [hb, p7] at hS
      have hW : W = W2 := hS
      subst hW
      refine doesg_skip rfl (by intro c h; cases h) (w' := W3) ?_ ⟨g, fun _ _ => rfl, (vv9 g).symm, ?_⟩
      · simp [execOp, go_sem, e12, e11, c2, f2, hW3, hv1]
      · exact by simp [did]
    | k + 10 => simp at ho
  · intro g b' W hS hall
    have h9 := hall 9 (by decide)
    rw [if_pos h9] at hS
    subst hS
    simp only [putAll, List.setIfInBounds_toArray, List.set_cons_zero, List.set_cons_succ]
    go_end0
    exact ⟨rfl, ⟨_, H3.out.1⟩, H3.out.2⟩

end Go.Proofs.YtdocablbkafkiaaDoor.Cd

/-
  The heap by name, further: Pop, Swap, up and down where one entry is there; heap.Push, heap.Pop, add, least of one.
-/
namespace Go.Proofs.YtdocablbkafkiaaDoor.Cd
open Go.RowKit Go.Maps

attribute [local go_sem] Oper.semAt_some

theorem HB.row {w : World} {base kb : Nat} {v : Value} {L : List En} {x : En} (h : HB w base kb v (L ++ [x])) : ∃ q cap cur, v = .slice (some ⟨q, 0, none⟩) (L.length + 1) cap ∧ base ≤ q ∧ w.heap[q]? = some (.cells cur 55 (0, 0)) ∧ L.length + 1 ≤ cap ∧ cap ≤ maxLen ∧ cur.size = cap * 2 ∧ cur.toList.take ((L.length + 1) * 2) = ents L ++ entCells x := by
  have hb := h.blk
  unfold Blk at hb
  rw [List.length_append, List.length_singleton] at hb
  have e : ents (L ++ [x]) = ents L ++ entCells x := by simp [ents]
  rw [e] at hb
  rcases hb.2 with ⟨_, e2⟩ | ⟨q, cap, cur, h1, h2, h3, h4, h5, h6, h7⟩
  · simp at e2
  · exact ⟨q, cap, cur, h1, h2, h3, h4, h5, h6, h7⟩

set_option maxRecDepth 8000 in
set_option maxHeartbeats 1000000 in
theorem zpop_any (base kb : Nat) (v0 : Value) (L : List En) (x : En) (w : World) (h : HB w base kb v0 (L ++ [x])) (hl : L.length < 1000000) :
    Calls Tryd.prog 104 #[.pointer (some ⟨kb, 0, none⟩)] w fun e w' => e = .returned (.iface 55 (enV x)) ∧ (∃ v', HB w' base kb v' L ∧ v'.ownBlock = v0.ownBlock ∧ ∀ p n c, v0 = .slice p n c → v' = .slice p L.length c) ∧ Only (hS kb v0) w w' := by
  obtain ⟨q, cap, cur, rfl, h2, h3, h4, h5, h6, h7⟩ := h.row
  have el := ents_length L
  have g0 : cur[L.length * 2]? = some (.string (bas x.name)) := by
    have := congrArg (fun l => l[L.length * 2]?) h7
    simp only [List.getElem?_take] at this
    rw [if_pos (by omega), List.getElem?_append_right (by omega), el, Nat.sub_self] at this
    simpa [entCells] using this
  have g1 : cur[L.length * 2 + 1]? = some (.int .i64 (x.num : Nat)) := by
    have := congrArg (fun l => l[L.length * 2 + 1]?) h7
    simp only [List.getElem?_take] at this
    rw [if_pos (by omega), List.getElem?_append_right (by omega), el, show L.length * 2 + 1 - L.length * 2 = 1 by omega] at this
    simpa [entCells] using this
  have c0 := h.cell
  have f0 := h.froz
  have k0 : w.cell? ⟨q, L.length * 2, none⟩ = some (.string (bas x.name)) := by rw [cellOf h3]; exact g0
  have k1 : w.cell? ⟨q, L.length * 2 + 1, none⟩ = some (.int .i64 (x.num : Nat)) := by rw [cellOf h3]; exact g1
  have hkb := block_lt h.box
  have hqb := block_lt h3
  have hqk : q ≠ kb := h.ne rfl
  obtain ⟨W1, hW1⟩ : ∃ W1, W1 = w.setCell ⟨kb, 0, none⟩ (.slice (some ⟨q, 0, none⟩) L.length cap) := ⟨_, rfl⟩
  have hbx1 : W1.heap[kb]? = some (.cells #[.slice (some ⟨q, 0, none⟩) L.length cap] 69 (0, 0)) := by rw [hW1]; have := h.box; simp [World.setCell, Array.getElem?_modify, this]
  have hq1 : W1.heap[q]? = some (.cells cur 55 (0, 0)) := by rw [hW1]; exact (Below.heap_setCell _ _ _ _ hqk).trans h3
  have hb1 : Only (hS kb (.slice (some ⟨q, 0, none⟩) (L.length + 1) cap)) w W1 := by rw [hW1]; exact Only.setCell _ _ _ (.inl rfl)
  have hH1 : HB W1 base kb (.slice (some ⟨q, 0, none⟩) L.length cap) L := by
    refine ⟨h.lo, hbx1, el, .inr ⟨q, cap, cur, rfl, h2, hq1, by omega, h5, h6, ?_⟩⟩
    have := congrArg (List.take (L.length * 2)) h7
    rw [List.take_take, Nat.min_eq_left (by omega), List.take_left' el] at this
    exact this
  have HF : Hid (HB (W1.alloc (.cells #[.string (bas x.name), .int .i64 (x.num : Nat)] 55)) base kb (.slice (some ⟨q, 0, none⟩) L.length cap) L ∧ Only (hS kb (.slice (some ⟨q, 0, none⟩) (L.length + 1) cap)) w (W1.alloc (.cells #[.string (bas x.name), .int .i64 (x.num : Nat)] 55))) :=
    ⟨hH1.below ((Below.refl _ W1).alloc (Nat.le_refl _) _), hb1.next (Only.alloc _ _ _)⟩
  rw [hW1] at HF
  have hlc : L.length ≤ cap := by omega
  clear h h2 h3 h4 h5 h6 h7 el g0 g1 hb1 hH1 hq1 hbx1 hW1 W1
  generalize L.length = n at *
  have e1 : ((n + 1 : Nat) : Int) - 1 = (n : Nat) := by omega
  unfold enV
  go_enter Tryd.func104, Tryd.ntmps104
  go_wp2
  go_ret
  exact ⟨rfl, ⟨_, HF.out.1, rfl, fun p n c e => by cases e; rfl⟩, HF.out.2⟩

theorem set_same {w : World} {q i : Nat} {cur : Array Value} {t : TypeId} {v : Value} (h : w.heap[q]? = some (.cells cur t (0, 0))) (hv : cur[i]? = some v) : (w.setCell ⟨q, i, none⟩ v).heap[q]? = some (.cells cur t (0, 0)) := by
  simp only [World.setCell, Array.getElem?_modify, h]
  simp
  obtain ⟨hi, he⟩ := Array.getElem?_eq_some_iff.1 hv
  rw [← he]
  exact Array.ext (by simp) (fun k h1 h2 => by rw [Array.getElem_setIfInBounds]; split; subst_vars; rfl; rfl)

theorem HB.same {w : World} {base kb q n cap i : Nat} {cur : Array Value} {v : Value} {L : List En} (h : HB w base kb (.slice (some ⟨q, 0, none⟩) n cap) L) (hq : w.heap[q]? = some (.cells cur 55 (0, 0))) (hv : cur[i]? = some v) :
    HB (w.setCell ⟨q, i, none⟩ v) base kb (.slice (some ⟨q, 0, none⟩) n cap) L ∧ Only (hS kb (.slice (some ⟨q, 0, none⟩) n cap)) w (w.setCell ⟨q, i, none⟩ v) := by
  have hne : q ≠ kb := h.ne rfl
  refine ⟨⟨h.lo, (Below.heap_setCell _ _ _ _ hne.symm).trans h.box, ?_⟩, Only.setCell _ _ _ (.inr rfl)⟩
  have hb := h.blk
  rcases hb.2 with ⟨e2, _⟩ | ⟨q', cap', cur', e1, e2, e3, e4⟩
  · cases e2
  · cases e1
    rw [hq] at e3
    cases e3
    exact ⟨hb.1, .inr ⟨q, cap, cur, rfl, e2, set_same hq hv, e4⟩⟩

set_option maxRecDepth 8000 in
set_option maxHeartbeats 2000000 in
theorem zswap_one (base kb : Nat) (v0 : Value) (x : En) (w : World) (h : HB w base kb v0 [x]) :
    Calls Tryd.prog 106 #[v0, .int .i64 0, .int .i64 0] w fun e w' => e = .returned (.tuple #[]) ∧ HB w' base kb v0 [x] ∧ Only (hS kb v0) w w' := by
  obtain ⟨q, cap, cur, rfl, h2, h3, h4, h5, h6, h7⟩ := HB.row (L := []) h
  have g0 : cur[0]? = some (.string (bas x.name)) := by
    have := congrArg (fun l => l[0]?) h7
    simp only [List.getElem?_take] at this
    rw [if_pos (by omega)] at this
    simpa [entCells, ents] using this
  have g1 : cur[1]? = some (.int .i64 (x.num : Nat)) := by
    have := congrArg (fun l => l[1]?) h7
    simp only [List.getElem?_take] at this
    rw [if_pos (by simp)] at this
    simpa [entCells, ents] using this
  have k0 : w.cell? ⟨q, 0, none⟩ = some (.string (bas x.name)) := by rw [cellOf h3]; exact g0
  have k1 : w.cell? ⟨q, 1, none⟩ = some (.int .i64 (x.num : Nat)) := by rw [cellOf h3]; exact g1
  have f0 := frozenOf h3 0
  have f1 := frozenOf h3 1
  go_enter Tryd.func106, Tryd.ntmps106
  go_wp2_with fail
  obtain ⟨a1, b1⟩ := h.same h3 g0
  obtain ⟨a2, b2⟩ := a1.same (set_same h3 g0) g1
  obtain ⟨a3, b3⟩ := a2.same (set_same (set_same h3 g0) g1) g0
  obtain ⟨a4, b4⟩ := a3.same (set_same (set_same (set_same h3 g0) g1) g0) g1
  have hb4 := ((b1.next b2).next b3).next b4
  have HF : Hid (HB ((((w.setCell ⟨q, 0, none⟩ (.string (bas x.name))).setCell ⟨q, 1, none⟩ (.int .i64 (x.num : Nat))).setCell ⟨q, 0, none⟩ (.string (bas x.name))).setCell ⟨q, 1, none⟩ (.int .i64 (x.num : Nat))).drew base kb (.slice (some ⟨q, 0, none⟩) 1 cap) [x] ∧
      Only (hS kb (.slice (some ⟨q, 0, none⟩) 1 cap)) w ((((w.setCell ⟨q, 0, none⟩ (.string (bas x.name))).setCell ⟨q, 1, none⟩ (.int .i64 (x.num : Nat))).setCell ⟨q, 0, none⟩ (.string (bas x.name))).setCell ⟨q, 1, none⟩ (.int .i64 (x.num : Nat))).drew) := ⟨a4.below (Below.refl _ _).drew, ⟨hb4.os, hb4.tape, hb4.output, hb4.size, hb4.block⟩⟩
  clear a1 a2 a3 a4 b1 b2 b3 b4 hb4
  clear h h2 h3 h4 h5 h6 h7 g0 g1
  go_region
  go_end0
  exact ⟨rfl, HF.out⟩

theorem zup_0 (kb : Nat) (w : World) : Calls Tryd.prog 69 #[hI kb, .int .i64 0] w fun e w' => e = .returned (.tuple #[]) ∧ w' = w := by
  unfold hI
  go_enter Tryd.func69, Tryd.ntmps69
  go_wp2_with fail
  go_loopw [1] (fun jj wr => jj = .int .i64 0 ∧ wr = w) (fun _ _ => 0)
  case atStart => exact ⟨rfl, rfl⟩
  case round =>
    obtain ⟨rfl, rfl⟩ := hrel
    go_wp2_with fail
    go_end0
    exact ⟨rfl, rfl⟩
theorem zdown_0 (kb : Nat) (w : World) : Calls Tryd.prog 70 #[hI kb, .int .i64 0, .int .i64 0] w fun e w' => e = .returned (.bool false) ∧ w' = w := by
  unfold hI
  go_enter Tryd.func70, Tryd.ntmps70
  go_wp2_with fail
  go_loopw [7] (fun jj wr => jj = .int .i64 0 ∧ wr = w) (fun _ _ => 0)
  case atStart => exact ⟨rfl, rfl⟩
  case round =>
    obtain ⟨rfl, rfl⟩ := hrel
    go_wp2_with fail
    go_ret
    exact ⟨rfl, rfl⟩

theorem zhpush_one (base kb : Nat) (v0 : Value) (x : En) (w : World) (h : HB w base kb v0 []) (hbw : base ≤ w.heap.size) :
    Calls Tryd.prog 55 #[hI kb, .iface 55 (enV x)] w fun e w' => e = .returned (.tuple #[]) ∧ (∃ v', HB w' base kb v' [x]) ∧ Only (hS kb v0) w w' := by
  have cP := zpush_any base kb v0 [] x w h (by simp) hbw
  have cU := zup_0 kb
  have m1 := zmeth_push kb
  unfold hI at *
  clear h
  go_enter Tryd.func55, Tryd.ntmps55
  go_wp2_with fail
  refine cP.mono ?_
  rintro e w1 ⟨rfl, ⟨v1, h1⟩, hb1⟩
  obtain ⟨p, c, rfl, _⟩ := h1.blk.form
  have m2 := zmeth_len kb _ w1 h1.cell
  have HF : Hid (HB w1 base kb (.slice p [x].length c) [x] ∧ Only (hS kb v0) w w1) := ⟨h1, hb1⟩
  clear h1 hb1 cP
  simp only [List.nil_append, List.length_singleton] at m2 HF
  go_wp2_with (first
    | (go_at_call 34; refine Calls_on (zlen_any _ _ _ _) ?_)
    | (go_at_call 69; refine Calls_on (cU _) ?_))
  go_end0
  exact ⟨rfl, ⟨_, HF.out.1⟩, HF.out.2⟩
theorem zhpop_one (base kb : Nat) (v0 : Value) (x : En) (w : World) (h : HB w base kb v0 [x]) :
    Calls Tryd.prog 57 #[hI kb] w fun e w' => e = .returned (.iface 55 (enV x)) ∧ (∃ v', HB w' base kb v' [] ∧ v'.ownBlock = v0.ownBlock ∧ ∀ p n c, v0 = .slice p n c → v' = .slice p 0 c) ∧ Only (hS kb v0) w w' := by
  obtain ⟨p, c, rfl, _⟩ := h.blk.form
  have cS := zswap_one base kb _ x w h
  have cD := zdown_0 kb
  have m1 := zmeth_pop kb
  have m2 := zmeth_len kb _ w h.cell
  have m3 := zmeth_swap kb _ w h.cell
  unfold hI at *
  simp only [List.length_singleton] at m2 m3 cS
  clear h
  go_enter Tryd.func57, Tryd.ntmps57
  go_wp2_with (go_at_call 34; refine Calls_on (zlen_any _ _ _ _) ?_)
  refine cS.mono ?_
  rintro e w1 ⟨rfl, h1, hb1⟩
  have cP := zpop_any base kb _ [] x w1 h1 (by simp)
  have HF : Hid (Only (hS kb (.slice p 1 c)) w w1) := hb1
  clear h1 hb1 cS
  go_wp2_with (go_at_call 70; refine Calls_on (cD _) ?_)
  refine cP.mono ?_
  rintro e w2 ⟨rfl, ⟨v2, h2, h2', h2s⟩, hb2⟩
  go_wp2
  go_ret
  exact ⟨rfl, ⟨v2, h2, h2', h2s⟩, HF.out.next hb2⟩
theorem zhadd_one (base kb : Nat) (v0 : Value) (x : En) (w : World) (h : HB w base kb v0 []) (hbw : base ≤ w.heap.size) :
    Calls Tryd.prog 33 #[.pointer (some ⟨kb, 0, none⟩), enV x] w fun e w' => e = .returned (.tuple #[]) ∧ (∃ v', HB w' base kb v' [x]) ∧ Only (hS kb v0) w w' := by
  have hb0 : Below w.heap.size w (w.alloc (.cells #[.string (bas x.name), .int .i64 (x.num : Nat)] 55)) := (Below.refl _ w).alloc (Nat.le_refl _) _
  have cP := zhpush_one base kb v0 x _ (h.below hb0) (by simp; omega)
  unfold hI enV at *
  clear h
  go_enter Tryd.func33, Tryd.ntmps33
  go_wp2_with fail
  refine cP.mono ?_
  rintro e w1 ⟨rfl, h1, hb1⟩
  have HF : Hid ((∃ v', HB w1 base kb v' [x]) ∧ Only (hS kb v0) w w1) := ⟨h1, (Below.only hb0 _).next hb1⟩
  clear h1 hb1 cP
  go_wp2
  go_end0
  exact ⟨rfl, HF.out⟩
theorem zleast_one (base kb : Nat) (v0 : Value) (x : En) (w : World) (h : HB w base kb v0 [x]) :
    Calls Tryd.prog 36 #[.pointer (some ⟨kb, 0, none⟩)] w fun e w' => e = .returned (enV x) ∧ (∃ v', HB w' base kb v' [] ∧ v'.ownBlock = v0.ownBlock) ∧ Only (hS kb v0) w w' := by
  obtain ⟨W0, hW0⟩ : ∃ W0, W0 = w.alloc (.cells #[.string ⟨#[]⟩, .int .i64 0] 55) := ⟨_, rfl⟩
  have hb0 : Below w.heap.size w W0 := by rw [hW0]; exact (Below.refl _ w).alloc (Nat.le_refl _) _
  have hr0 : W0.heap[w.heap.size]? = some (.cells #[.string ⟨#[]⟩, .int .i64 0] 55 (0, 0)) := by rw [hW0]; exact heap_alloc_new w _
  have cP := zhpop_one base kb v0 x W0 (h.below hb0)
  have hta := assert_ent
  have hnot : ¬ hS kb v0 w.heap.size := by
    rintro (e | e)
    · have := block_lt h.box; omega
    · have := (h.blk.tag e).2.1; omega
  rw [hW0] at cP
  unfold hI enV at *
  clear h
  go_enter Tryd.func36, Tryd.ntmps36
  go_wp2_with fail
  refine cP.mono ?_
  rintro e w1 ⟨rfl, ⟨v1, h1, hv1, _⟩, ho1⟩
  rw [← hW0] at ho1
  have hr1 := (ho1.block _ (block_lt hr0) hnot).trans hr0
  have x0 : w1.cell? ⟨w.heap.size, 0, none⟩ = some (.string ⟨#[]⟩) := cellOf hr1 0
  have x1 : w1.cell? ⟨w.heap.size, 1, none⟩ = some (.int .i64 0) := cellOf hr1 1
  have f0 := frozenOf hr1 0
  have f1 := frozenOf hr1 1
  obtain ⟨W2, hW2⟩ : ∃ W2, W2 = (w1.setCell ⟨w.heap.size, 0, none⟩ (.string (bas x.name))).setCell ⟨w.heap.size, 1, none⟩ (.int .i64 (x.num : Nat)) := ⟨_, rfl⟩
  have ho2 : Only (· = w.heap.size) w1 W2 := by rw [hW2]; exact (Only.setCell (S := (· = w.heap.size)) w1 ⟨w.heap.size, 0, none⟩ _ rfl).next (Only.setCell (S := (· = w.heap.size)) _ ⟨w.heap.size, 1, none⟩ _ rfl)
  have hr2 : W2.heap[w.heap.size]? = some (.cells #[.string (bas x.name), .int .i64 (x.num : Nat)] 55 (0, 0)) := by rw [hW2]; simp [World.setCell, Array.getElem?_modify, hr1]
  have y0 : W2.cell? ⟨w.heap.size, 0, none⟩ = some (.string (bas x.name)) := cellOf hr2 0
  have y1 : W2.cell? ⟨w.heap.size, 1, none⟩ = some (.int .i64 (x.num : Nat)) := cellOf hr2 1
  have HF : Hid ((∃ v', HB W2 base kb v' [] ∧ v'.ownBlock = v0.ownBlock) ∧ Only (hS kb v0) w W2) := by
    refine ⟨⟨v1, ⟨h1.lo, (ho2.block kb (block_lt h1.box) (fun e => hnot (.inl e.symm))).trans h1.box, h1.blk.kept ho2 (fun j hj e => hnot (.inr (by rw [← hv1, hj, e])))⟩, hv1⟩, ?_⟩
    exact ((Below.only hb0 _).next ho1).trans ho2 (fun i hi => .inr (by have : i = w.heap.size := hi; omega))
  clear h1 ho1 ho2 hr1 hr2 hr0 hnot hb0 cP
  go_wp2
  rw [← hW2]
  refine bodyPost_ret (v := .agg #[.string (bas x.name), .int .i64 (x.num : Nat)]) (by simp [results, Tryd.results36, go_sem, y0, y1]) rfl ?_
  exact ⟨rfl, HF.out⟩

end Go.Proofs.YtdocablbkafkiaaDoor.Cd

/-
  Each and List of a directory that holds one name: tell, list.add.
-/
namespace Go.Proofs.YtdocablbkafkiaaDoor.Cd
open Go.RowKit Go.Maps

attribute [local go_sem] Oper.semAt_some

theorem catch_tell (w : World) :
    CallsD Tryd.prog 56 #[] .returning w fun e u' w' => e = .returned (.tuple #[]) ∧ u' = .returning ∧ w' = w := by
  refine callsD_of_wpS Tryd.func56 rfl fun c₀ cs hu => ?_
  apply wpS_region
  simp [wpOpsS, go_sem, recoverD, hu, Tryd.ntmps56]
  cases c₀
  simp_all [bodyPostS, results, Tryd.results56]

set_option maxRecDepth 8000 in
set_option maxHeartbeats 400000 in
theorem tell_fn (k : Nat) (pv : Value) (x : En) (w : World) (R : World → Prop) (hent : ∀ args w, (callFunc k args).run Tryd.prog w = .ok (.enter k args) w)
    (hc : Calls Tryd.prog k #[pv, .string (bas x.name), .int .i64 (x.num : Nat)] (w.alloc (.cells #[.string (bas x.name), .int .i64 (x.num : Nat)] 55)) fun e w' => e = .returned (.tuple #[]) ∧ R w') :
    Calls Tryd.prog 35 #[.func (.func k) #[pv] #[], enV x] w fun e w' => e = .returned (.tuple #[]) ∧ R w' := by
  unfold enV
  go_enter_defers Tryd.func35, Tryd.ntmps35
  go_wp2_with fail
  refine hc.mono ?_
  rintro e w' ⟨rfl, hQ⟩
  go_wp2
  refine leaves_cons (f := 56) (args := #[]) (by simp) (by simp [go_sem]) ?_
  refine (catch_tell _).mono ?_
  rintro e u' w'' ⟨rfl, rfl, rfl⟩
  exact ⟨_, results_none rfl _ _ _, rfl, hQ⟩

/-- A list of names: its box, and its row. -/
structure LB (w : World) (base kb : Nat) (v : Value) (L : List ByteArray) : Prop where
  lo : base ≤ kb
  box : w.heap[kb]? = some (.cells #[v] 67 (0, 0))
  row : w.ownsRow base 9 1 v L.length (L.map Value.string)
theorem Tryd.info9 : (Tryd.prog.info? 9).map (fun i => (i.zero, i.size, i.bytes)) = some (some (.string ⟨#[]⟩), 1, 16) := by kernel_rfl
theorem LB.ne {w : World} {base kb : Nat} {v : Value} {L : List ByteArray} (h : LB w base kb v L) {j : Nat} (hj : v.ownBlock = some j) : j ≠ kb := by
  rintro rfl
  obtain ⟨_, _, cur, hc⟩ := own_lt h.row hj
  rw [h.box] at hc
  injection hc with hc
  injection hc with _ hc
  cases hc
theorem LB.below {w w' : World} {base kb : Nat} {v : Value} {L : List ByteArray} (h : LB w base kb v L) (hb : Below w.heap.size w w') : LB w' base kb v L :=
  ⟨h.lo, below_block h.box hb, own_below h.row hb⟩

set_option maxRecDepth 8000 in
set_option maxHeartbeats 1000000 in
theorem listAdd_any (base kb : Nat) (v0 : Value) (L : List ByteArray) (s : ByteArray) (n : Int) (w : World) (h : LB w base kb v0 L) (hl : L.length < 1000000) (hbw : base ≤ w.heap.size) :
    Calls Tryd.prog 31 #[.pointer (some ⟨kb, 0, none⟩), .string s, .int .i64 n] w fun e w' => e = .returned (.tuple #[]) ∧ (∃ v', LB w' base kb v' (L ++ [s])) ∧ Only (hS kb v0) w w' := by
  obtain ⟨k0, hk0, hx0, hx1, hx2⟩ := info_parts Tryd.info9
  have c0 : w.cell? ⟨kb, 0, none⟩ = some v0 := by rw [cellOf h.box 0]; rfl
  have f0 := frozenOf h.box 0
  obtain ⟨W1, hW1⟩ : ∃ W1, W1 = w.alloc (.cells #[.string s] 9) := ⟨_, rfl⟩
  have hb1 : Below w.heap.size w W1 := by rw [hW1]; exact (Below.refl _ w).alloc (Nat.le_refl _) _
  have hn1 : W1.heap[w.heap.size]? = some (.cells #[.string s] 9 (0, 0)) := by rw [hW1]; exact heap_alloc_new w _
  have h1 := h.below hb1
  have hs1 : W1.heap.size = w.heap.size + 1 := by rw [hW1]; simp
  obtain ⟨v1, W2, hrun, hown, hgr, _, hpl⟩ := run_append_own_at (P := Tryd.prog) (w := W1) base 67 67 9 k0 _ 1 16 Tryd.underlying67 hk0 hx0 hx1 hx2 rfl (by decide) v0 L.length _ h1.row ⟨w.heap.size, 0, none⟩ 1 1 [.string s] rfl
    (fun j u hj => by
      rw [Addr.add_lit, Nat.zero_add, cellOf hn1 j]
      simpa using hj) (by intro u hu; simp at hu; subst hu; rfl) (by unfold maxLen; omega) (by omega) (by omega)
  have hbox2 : W2.heap[kb]? = some (.cells #[v0] 67 (0, 0)) := (hgr.block kb (block_lt h1.box) (fun e => h1.ne e.symm rfl)).trans h1.box
  have hv1kb : ∀ j, v1.ownBlock = some j → j ≠ kb := by
    intro j hj
    rcases hpl with e | e
    · rw [hj] at e; exact h1.ne e.symm
    · rw [hj] at e; cases e
      have := block_lt h.box
      omega
  obtain ⟨p1, k1, hv1⟩ : ∃ p1 k1, v1 = .slice p1 (L.length + 1) k1 := by
    rcases hown.2 with ⟨e, e2⟩ | ⟨q, cap, cur, e, _⟩
    · simp at e2
    · exact ⟨_, _, e⟩
  obtain ⟨W3, hW3⟩ : ∃ W3, W3 = W2.setCell ⟨kb, 0, none⟩ v1 := ⟨_, rfl⟩
  have H3 : Hid (LB W3 base kb v1 (L ++ [s]) ∧ Only (hS kb v0) w W3) := by
    refine ⟨⟨h.lo, ?_, ?_⟩, ?_⟩
    · rw [hW3]; simp [World.setCell, Array.getElem?_modify, hbox2]
    · rw [hW3, List.length_append, List.length_singleton, List.map_append]
      exact Only.owns (Only.setCell (S := (· = kb)) _ _ _ rfl) hown (fun j hj e => hv1kb j hj e)
    · rw [hW3]
      exact ((Below.only hb1 _).next (Only.grown hgr (fun i hi => .inr hi))).next (Only.setCell _ _ _ (.inl rfl))
  have c2 : W2.cell? ⟨kb, 0, none⟩ = some v0 := by rw [cellOf hbox2 0]; rfl
  have f2 : W2.frozen? ⟨kb, 0, none⟩ = false := frozenOf hbox2 0
  rw [hW1] at hrun
  clear h h1 hown hgr hpl hbox2 hv1kb hb1 hn1 hk0 hx0 hx1 hx2 hs1 hW1
  rw [hv1] at hrun hW3
  go_enter Tryd.func31, Tryd.ntmps31
  go_wp2_with (at_builtin; refine Lib.wpList_append_run _ rfl _ _ _ _ rfl _ _ rfl rfl _ _ hrun ?_)
  rw [← hW3]
  go_end0
  exact ⟨rfl, ⟨_, H3.out.1⟩, H3.out.2⟩

end Go.Proofs.YtdocablbkafkiaaDoor.Cd

/-
  Each and List of a directory that holds one name.
-/
namespace Go.Proofs.YtdocablbkafkiaaDoor.Cd
open Go.RowKit Go.Maps

attribute [local go_sem] Oper.semAt_some

theorem eql_visit (w : World) (k : Nat) (f c : Array Value) : (binOp .eql 43 (.func (.func k) f c) .nilFunc).run Tryd.prog w = .ok (.bool false) w := by
  have h : ∀ d : Nat, (Op.equalIn (d + 1) 43 (.func (.func k) f c) .nilFunc).run Tryd.prog w = .ok false w := fun d => by
    simp [Op.equalIn, run_underlying Tryd.underlying43]
  simp only [binOp]
  simp [Op.equal, Op.maxDepth, h 9999]

def vlen : Option Value → Nat
  | some (.slice _ n _) => n
  | _ => 0
def olen : Option Obj → Nat
  | some (.cells cs _ _) => vlen cs[0]?
  | _ => 0
def hlen (kb : Nat) (w : World) : Nat := olen w.heap[kb]?
theorem HB.len {w : World} {base kb : Nat} {v : Value} {L : List En} (h : HB w base kb v L) : hlen kb w = L.length := by
  obtain ⟨p, c, rfl, _⟩ := h.blk.form
  unfold hlen
  rw [h.box]
  rfl

/-- What holds while the heap is filled. -/
structure WI (w : World) (base a : Nat) (count : Nat) (bv : Value) (vs : List Value) (D : List (List En)) (hb kb : Nat) (x : En) (l : List En) (W : World) : Prop where
  dir : DirAt W base a count bv vs D
  bel : Below w.heap.size w W
  heap : l = [] ∨ l = [x] → ∃ v, HB W hb kb v l

set_option maxRecDepth 8000 in
set_option maxHeartbeats 2000000 in
theorem each_one (base a : Nat) (D : List (List En)) (x : En) (hD : D.flatten = [x]) (k : Nat) (pv : Value) (w : World) (h : DirOk w base a D) (J : World → Prop)
    (hent : ∀ args w, (callFunc k args).run Tryd.prog w = .ok (.enter k args) w)
    (hc : ∀ W, Below w.heap.size w W → Calls Tryd.prog k #[pv, .string (bas x.name), .int .i64 (x.num : Nat)] W fun e w' => e = .returned (.tuple #[]) ∧ J w' ∧ Only (fun k => k < w.heap.size) W w') :
    Calls Tryd.prog 18 #[.pointer (some ⟨a, 0, none⟩), .func (.func k) #[pv] #[]] w fun e w' => e = .returned (.tuple #[]) ∧ J w' := by
  have hq := eql_visit
  have hmf := mkf
  have hadd : ∀ args w, (callFunc 33 args).run Tryd.prog w = .ok (.enter 33 args) w := fun args w => by simp [callFunc, Tryd.func33, go_sem]; rfl
  have HH : Hid (DirOk w base a D ∧ D.flatten = [x] ∧ ∀ W, Below w.heap.size w W → Calls Tryd.prog k #[pv, .string (bas x.name), .int .i64 (x.num : Nat)] W fun e w' => e = .returned (.tuple #[]) ∧ J w' ∧ Only (fun k => k < w.heap.size) W w') := ⟨h, hD, hc⟩
  clear h hD hc
  go_enter Tryd.func18, Tryd.ntmps18
  go_wp2_with fail
  obtain ⟨w0, hw0⟩ : ∃ w0, w0 = (w.alloc (.cells #[] 55)).alloc (.cells #[.slice (some ⟨w.heap.size, 0, none⟩) 0 0] 69) := ⟨_, rfl⟩
  rw [← hw0]
  have hb0 : Below w.heap.size w w0 := by rw [hw0]; exact ((Below.refl _ w).alloc (Nat.le_refl _) _).alloc (by simp) _
  have hs0 : w0.heap.size = w.heap.size + 2 := by rw [hw0]; simp
  have hB0 : HB w0 w.heap.size (w.heap.size + 1) (.slice (some ⟨w.heap.size, 0, none⟩) 0 0) [] := by
    refine ⟨by omega, ?_, rfl, .inr ⟨w.heap.size, 0, #[], rfl, Nat.le_refl _, ?_, Nat.le_refl _, Nat.zero_le _, rfl, rfl⟩⟩
    · rw [hw0]
      have := heap_alloc_new (w.alloc (.cells #[] 55)) (.cells #[.slice (some ⟨w.heap.size, 0, none⟩) 0 0] 69)
      rw [World.size_alloc] at this
      exact this
    · rw [hw0]; exact (Below.heap_alloc _ _ _ (by simp)).trans (heap_alloc_new w _)
  obtain ⟨⟨bv, vs, hdir⟩, hgood⟩ := HH.out.1
  have cW := walk_any base a (total D) bv vs D 33 (.pointer (some ⟨w.heap.size + 1, 0, none⟩)) (WI w base a (total D) bv vs D w.heap.size (w.heap.size + 1) x) w0 (fun _ _ h => h.dir)
    (fun l W W' h hb => ⟨h.dir.below hb, h.bel.trans (hb.mono h.bel.size), fun hl => by obtain ⟨v, hv⟩ := h.heap hl; exact ⟨v, hv.below hb⟩⟩)
    (fun l y W hi hl => by
      obtain ⟨m, hm⟩ := hl
      rw [HH.out.2.1] at hm
      have hl0 : l = [] ∧ y = x := by
        cases l with
        | nil => simp at hm; exact ⟨rfl, hm.1.symm⟩
        | cons z l => simp at hm
      obtain ⟨rfl, rfl⟩ := hl0
      obtain ⟨v, hv⟩ := hi.heap (.inl rfl)
      refine (zhadd_one w.heap.size (w.heap.size + 1) v y W hv hi.bel.size).mono ?_
      rintro e W' ⟨rfl, hv', ho⟩
      have hbb := hv.toBelow ho hi.bel.size
      refine ⟨rfl, ?_, hi.bel.trans hbb, fun _ => hv'⟩
      exact hdir.below (hi.bel.trans hbb))
    hadd (by have := hgood.small; omega) (fun j b hj => hgood.wf.room j b hj) ⟨hdir.below hb0, hb0, fun _ => ⟨_, hB0⟩⟩
  rw [HH.out.2.1] at cW
  have HS : Hid (w0.heap.size = w.heap.size + 2 ∧ Below w.heap.size w w0) := ⟨hs0, hb0⟩
  clear hB0 hs0 hb0 hw0 hdir hgood
  refine cW.mono ?_
  rintro e w1 ⟨rfl, hw1⟩
  clear cW
  have H1 : Hid (Below w.heap.size w w1 ∧ ∃ v, HB w1 w.heap.size (w.heap.size + 1) v [x]) := ⟨hw1.bel, hw1.heap (.inr rfl)⟩
  clear hw1
  go_wp2_with fail
  go_loopw [13] (fun _ wr => Hid ((Below w.heap.size w wr ∧ ∃ v, HB wr w.heap.size (w.heap.size + 1) v [x]) ∨ (J wr ∧ ∃ v, HB wr w.heap.size (w.heap.size + 1) v []))) (fun _ wr => hlen (w.heap.size + 1) wr)
  case atStart => exact .inl H1.out
  case round =>
    rcases hrel.out with ⟨hbr, v, hv⟩ | ⟨hJ, v, hv⟩
    · obtain ⟨p, c, rfl, _⟩ := hv.blk.form
      have c0 := hv.cell
      have cL := zleast_one w.heap.size (w.heap.size + 1) _ x wr hv
      have hlen1 := hv.len
      have hbelow : ∀ w', Only (hS (w.heap.size + 1) (.slice p [x].length c)) wr w' → Below w.heap.size w w' := fun w' ho => hbr.trans (hv.toBelow ho hbr.size)
      have HX : Hid (∀ w', Only (hS (w.heap.size + 1) (.slice p [x].length c)) wr w' → Below w.heap.size w w') := hbelow
      clear hv hbelow hbr hrel
      simp only [List.length_singleton] at c0 cL hlen1 HX
      go_wp2_with (go_at_call 34; refine Calls_on (zlen_any _ _ _ _) ?_)
      refine cL.mono ?_
      rintro e w2 ⟨rfl, ⟨v2, hv2, _⟩, ho2⟩
      have hb2 := HX.out w2 ho2
      have hba : Below w2.heap.size w2 (w2.alloc (.cells #[.string (bas x.name), .int .i64 (x.num : Nat)] 55)) := (Below.refl _ w2).alloc (Nat.le_refl _) _
      have cT := tell_fn k pv x w2 (fun w' => J w' ∧ ∃ v, HB w' w.heap.size (w.heap.size + 1) v []) hent (by
        refine (HH.out.2.2 _ (hb2.trans (hba.mono hb2.size))).mono ?_
        rintro e w3 ⟨rfl, hJ, ho⟩
        refine ⟨rfl, hJ, v2, ?_⟩
        have hva := hv2.below hba
        refine ⟨hva.lo, (ho.block _ (block_lt hva.box) (by omega)).trans hva.box, hva.blk.kept ho (fun j hj hlt => ?_)⟩
        have := (hva.blk.tag hj).1
        omega)
      clear hv2 ho2 hb2 hba cL
      go_wp2_with fail
      refine cT.mono ?_
      rintro e w3 ⟨rfl, hJ, v3, hv3⟩
      have H3 : Hid (J w3 ∧ HB w3 w.heap.size (w.heap.size + 1) v3 []) := ⟨hJ, hv3⟩
      have hl3 := hv3.len
      clear hJ hv3 cT
      go_wp2
      go_roundw
      case rel => exact .inr ⟨H3.out.1, _, H3.out.2⟩
      case measure => rw [hl3, hlen1]; decide
    · obtain ⟨p, c, rfl, _⟩ := hv.blk.form
      have c0 := hv.cell
      have HJ : Hid (J wr) := hJ
      clear hv hJ hrel
      simp only [List.length_nil] at c0
      go_wp2_with (go_at_call 34; refine Calls_on (zlen_any _ _ _ _) ?_)
      go_end0
      exact ⟨rfl, HJ.out⟩

/-- List of a directory that holds one name. -/
theorem list_one (base a : Nat) (D : List (List En)) (x : En) (hD : D.flatten = [x]) (w : World) (h : DirOk w base a D) :
    Calls Tryd.prog 17 #[.pointer (some ⟨a, 0, none⟩)] w fun e w' => (∃ q c, e = .returned (.slice (some ⟨q, 0, none⟩) 1 c) ∧ w'.cell? ⟨q, 0, none⟩ = some (.string (bas x.name))) ∧ Below w.heap.size w w' := by
  have ht : total D = 1 := by unfold total; rw [hD]; rfl
  have cN : Calls Tryd.prog 16 #[.pointer (some ⟨a, 0, none⟩)] w fun e w' => e = .returned (.int .i64 1) ∧ w' = w := by
    obtain ⟨⟨bv, vs, h1⟩, _⟩ := h
    have := len_any a (total D) w h1.c0
    rw [ht] at this
    exact this
  obtain ⟨k0, hk0, hx0, hx1, hx2⟩ := info_parts Tryd.info9
  have hmk : (Instr.makeSlice 67 (.int .i64 0) (.int .i64 1)).run Tryd.prog w = .ok (.slice (some ⟨w.heap.size, 0, none⟩) 0 1) (w.alloc (.cells #[.string ⟨#[]⟩] 9)) := by
    have hh := run_make (P := Tryd.prog) w 67 9 k0 (.string ⟨#[]⟩) Tryd.underlying67 hk0 hx0 .i64 .i64 (0 : Int) (1 : Int) (by omega) (by omega) (by rw [hx2]; omega) (by omega)
    have hM : madeCells (Value.string ⟨#[]⟩).cells (((1 : Int).toNat) * k0.size) = #[.string ⟨#[]⟩] := by
      apply Array.toList_inj.1
      rw [hx1]
      refine (toList_madeCells_one _ _).trans ?_
      rfl
    rw [hM] at hh
    simpa using hh
  have hmf := mkf
  have hla : ∀ args w, (callFunc 31 args).run Tryd.prog w = .ok (.enter 31 args) w := fun args w => by simp [callFunc, Tryd.func31, go_sem]; rfl
  obtain ⟨W1, hW1⟩ : ∃ W1, W1 = (w.alloc (.cells #[.string ⟨#[]⟩] 9)).alloc (.cells #[.slice (some ⟨w.heap.size, 0, none⟩) 0 1] 67) := ⟨_, rfl⟩
  have hb1 : Below w.heap.size w W1 := by rw [hW1]; exact ((Below.refl _ w).alloc (Nat.le_refl _) _).alloc (by simp) _
  have hs1 : W1.heap.size = w.heap.size + 2 := by rw [hW1]; simp
  have hL1 : LB W1 w.heap.size (w.heap.size + 1) (.slice (some ⟨w.heap.size, 0, none⟩) 0 1) [] := by
    refine ⟨by omega, ?_, rfl, .inr ⟨w.heap.size, 1, #[.string ⟨#[]⟩], rfl, Nat.le_refl _, ?_, by decide, by decide, rfl, rfl⟩⟩
    · rw [hW1]
      have := heap_alloc_new (w.alloc (.cells #[.string ⟨#[]⟩] 9)) (.cells #[.slice (some ⟨w.heap.size, 0, none⟩) 0 1] 67)
      rw [World.size_alloc] at this
      exact this
    · rw [hW1]; exact (Below.heap_alloc _ _ _ (by simp)).trans (heap_alloc_new w _)
  have cE := each_one base a D x hD 31 (.pointer (some ⟨w.heap.size + 1, 0, none⟩)) W1 (h.below hb1) (fun w' => (∃ v, LB w' w.heap.size (w.heap.size + 1) v [bas x.name]) ∧ Below w.heap.size w w') hla
    (fun W hW => by
      have hL := hL1.below hW
      have hbW : w.heap.size ≤ W.heap.size := by have := hW.size; omega
      refine (listAdd_any w.heap.size (w.heap.size + 1) _ [] (bas x.name) (x.num : Nat) W hL (by simp) hbW).mono ?_
      rintro e w' ⟨rfl, hv, ho⟩
      refine ⟨rfl, ⟨hv, (hb1.trans (hW.mono (by omega))).trans (Only.below ho hbW (fun i hi => ?_))⟩, Only.weak ho (fun i _ hi => ?_)⟩
      · rcases hi with rfl | hi
        · omega
        · simp [Value.ownBlock] at hi; omega
      · rcases hi with rfl | hi
        · show _ < _; omega
        · simp [Value.ownBlock] at hi; show _ < _; omega)
  rw [hW1] at cE
  clear h hL1 hb1 hs1 hk0 hx0 hx1 hx2 ht hD hW1
  go_enter Tryd.func17, Tryd.ntmps17
  go_wp2_with (go_at_call 16; refine Calls_on cN ?_; clear cN)
  refine cE.mono ?_
  rintro e w2 ⟨rfl, ⟨v, hv⟩, hb2⟩
  obtain ⟨q, cap, cur, rfl, h1, h2, h3, h4, h5, h6⟩ : ∃ q cap cur, v = .slice (some ⟨q, 0, none⟩) 1 cap ∧ w.heap.size ≤ q ∧ w2.heap[q]? = some (.cells cur 9 (0, 0)) ∧ 1 ≤ cap ∧ cap ≤ maxLen ∧ cur.size = cap * 1 ∧ cur.toList.take (1 * 1) = [.string (bas x.name)] := by
    rcases hv.row.2 with ⟨_, e2⟩ | h
    · simp at e2
    · exact h
  have c0 : w2.cell? ⟨w.heap.size + 1, 0, none⟩ = some (.slice (some ⟨q, 0, none⟩) 1 cap) := by rw [cellOf hv.box 0]; rfl
  have HF : Hid (w2.cell? ⟨q, 0, none⟩ = some (.string (bas x.name)) ∧ Below w.heap.size w w2) := by
    refine ⟨?_, hb2⟩
    rw [cellOf h2 0]
    have := congrArg (fun l => l[0]?) h6
    simp only [List.getElem?_take] at this
    rw [if_pos (by omega)] at this
    simpa using this
  clear hv hb2 h1 h2 h3 h4 h5 h6 cE
  go_wp2
  go_ret
  exact ⟨⟨_, _, rfl, HF.out.1⟩, HF.out.2⟩

end Go.Proofs.YtdocablbkafkiaaDoor.Cd

/-
  The heap by name, whatever it holds: Less.
-/
namespace Go.Proofs.YtdocablbkafkiaaDoor.Cd
open Go.RowKit Go.Maps

attribute [local go_sem] Oper.semAt_some

/-- An entry of a heap lies in its row. -/
theorem HB.at_ {w : World} {base kb : Nat} {p : Option Addr} {n c : Nat} {L : List En} (h : HB w base kb (.slice p n c) L) {i : Nat} {x : En} (hx : L[i]? = some x) : ∃ q cur, p = some ⟨q, 0, none⟩ ∧ w.heap[q]? = some (.cells cur 55 (0, 0)) ∧ base ≤ q ∧ cur[i * 2]? = some (.string (bas x.name)) ∧ cur[i * 2 + 1]? = some (.int .i64 (x.num : Nat)) ∧ n = L.length ∧ n ≤ c ∧ c ≤ maxLen ∧ cur.size = c * 2 ∧ cur.toList.take (n * 2) = ents L := by
  have hil : i < L.length := (List.getElem?_eq_some_iff.1 hx).1
  rcases h.blk.2 with ⟨e1, e2⟩ | ⟨q, cap, cur, e1, e2, e3, e4, e5, e6, e7⟩
  · cases L with
    | nil => simp at hx
    | cons a l => simp at e2
  · cases e1
    have hg : ∀ j, j < 2 → cur[i * 2 + j]? = (entCells x)[j]? := fun j hj => by
      have := congrArg (fun l => l[i * 2 + j]?) e7
      simp only [List.getElem?_take] at this
      rw [if_pos (by omega), Array.getElem?_toList] at this
      rw [this]
      exact ents_at L i j x hx hj
    exact ⟨q, cur, rfl, e3, e2, hg 0 (by omega), hg 1 (by omega), rfl, e4, e5, e6, e7⟩

set_option maxRecDepth 8000 in
set_option maxHeartbeats 1000000 in
theorem zless_any (base kb : Nat) (p : Option Addr) (n c : Nat) (L : List En) (i j : Nat) (x y : En) (w : World) (h : HB w base kb (.slice p n c) L) (hx : L[i]? = some x) (hy : L[j]? = some y) (hn : n < 1000000) :
    Calls Tryd.prog 103 #[.slice p n c, .int .i64 i, .int .i64 j] w fun e w' => e = .returned (.bool (Op.bytesLess x.name y.name)) ∧ ∃ k, w' = w.drewN k := by
  obtain ⟨q, cur, rfl, h3, _, g0, _, rfl, _⟩ := h.at_ hx
  obtain ⟨q', cur', e, h3', _, k0, _⟩ := h.at_ hy
  cases e
  rw [h3] at h3'
  cases h3'
  have c0 : w.cell? ⟨q, i * 2, none⟩ = some (.string (bas x.name)) := by rw [cellOf h3]; exact g0
  have c1 : w.cell? ⟨q, j * 2, none⟩ = some (.string (bas y.name)) := by rw [cellOf h3]; exact k0
  have hi := (List.getElem?_eq_some_iff.1 hx).1
  have hj := (List.getElem?_eq_some_iff.1 hy).1
  have hiI : (i : Int) < (L.length : Int) := by omega
  have hjI : (j : Int) < (L.length : Int) := by omega
  clear hx hy h
  generalize L.length = m at *
  go_enter Tryd.func103, Tryd.ntmps103
  go_wp2_with fail
  go_region
  go_wp2
  go_ret
  refine ⟨?_, 1, rfl⟩
  rw [bas_toList, bas_toList]
  rfl

theorem ents_put : ∀ (L : List En) (i : Nat) (y : En), i < L.length → ents (L.set i y) = ((ents L).set (i * 2) (.string (bas y.name))).set (i * 2 + 1) (.int .i64 (y.num : Nat))
  | [], _, _, h => by simp at h
  | x :: L, 0, y, _ => by simp [ents_cons, entCells]
  | x :: L, i + 1, y, h => by
    rw [List.set_cons_succ, ents_cons, ents_cons, ents_put L i y (by simpa using h)]
    simp [entCells, show (i + 1) * 2 = i * 2 + 2 by omega]
theorem HB.put {w : World} {base kb q n c : Nat} {L : List En} (h : HB w base kb (.slice (some ⟨q, 0, none⟩) n c) L) (i : Nat) (y : En) (hi : i < L.length) :
    HB ((w.setCell ⟨q, i * 2, none⟩ (.string (bas y.name))).setCell ⟨q, i * 2 + 1, none⟩ (.int .i64 (y.num : Nat))) base kb (.slice (some ⟨q, 0, none⟩) n c) (L.set i y) ∧
    Only (hS kb (.slice (some ⟨q, 0, none⟩) n c)) w ((w.setCell ⟨q, i * 2, none⟩ (.string (bas y.name))).setCell ⟨q, i * 2 + 1, none⟩ (.int .i64 (y.num : Nat))) := by
  have hne : q ≠ kb := h.ne rfl
  obtain ⟨x, hx⟩ : ∃ x, L[i]? = some x := ⟨_, List.getElem?_eq_getElem hi⟩
  obtain ⟨q', cur, e, h3, hbq, _, _, rfl, hc1, hc2, hc3, hc4⟩ := h.at_ hx
  cases e
  refine ⟨⟨h.lo, ?_, ?_, .inr ⟨q, c, (cur.setIfInBounds (i * 2) (.string (bas y.name))).setIfInBounds (i * 2 + 1) (.int .i64 (y.num : Nat)), ?_, hbq, ?_, ?_, hc2, by simp [hc3], ?_⟩⟩, (Only.setCell w ⟨q, i * 2, none⟩ _ (.inr rfl)).next (Only.setCell _ ⟨q, i * 2 + 1, none⟩ _ (.inr rfl))⟩
  · exact (Below.heap_setCell _ _ _ _ hne.symm).trans ((Below.heap_setCell _ _ _ _ hne.symm).trans h.box)
  · rw [ents_length]
  · rw [List.length_set]
  · simp [World.setCell, Array.getElem?_modify, h3]
  · rw [List.length_set]; exact hc1
  · rw [List.length_set, ents_put L i y hi, ← hc4, Array.toList_setIfInBounds, Array.toList_setIfInBounds, List.take_set, List.take_set]

set_option maxRecDepth 8000 in
set_option maxHeartbeats 2000000 in
theorem zswap_any (base kb : Nat) (p : Option Addr) (n c : Nat) (L : List En) (i j : Nat) (x y : En) (w : World) (h : HB w base kb (.slice p n c) L) (hx : L[i]? = some x) (hy : L[j]? = some y) (hn : n < 1000000) (hij : i ≠ j) :
    Calls Tryd.prog 106 #[.slice p n c, .int .i64 i, .int .i64 j] w fun e w' => e = .returned (.tuple #[]) ∧ HB w' base kb (.slice p n c) ((L.set i y).set j x) ∧ Only (hS kb (.slice p n c)) w w' := by
  obtain ⟨q, cur, rfl, h3, hbq, g0, g1, rfl, hc1, hc2, hc3, hc4⟩ := h.at_ hx
  obtain ⟨q', cur', e, h3', _, k0, k1, _⟩ := h.at_ hy
  cases e
  rw [h3] at h3'
  cases h3'
  have a0 : w.cell? ⟨q, i * 2, none⟩ = some (.string (bas x.name)) := by rw [cellOf h3]; exact g0
  have a1 : w.cell? ⟨q, i * 2 + 1, none⟩ = some (.int .i64 (x.num : Nat)) := by rw [cellOf h3]; exact g1
  have b0 : w.cell? ⟨q, j * 2, none⟩ = some (.string (bas y.name)) := by rw [cellOf h3]; exact k0
  have b1 : w.cell? ⟨q, j * 2 + 1, none⟩ = some (.int .i64 (y.num : Nat)) := by rw [cellOf h3]; exact k1
  have f0 := frozenOf h3 (i * 2)
  have f1 := frozenOf h3 (i * 2 + 1)
  have f2 := frozenOf h3 (j * 2)
  have f3 := frozenOf h3 (j * 2 + 1)
  have hi := (List.getElem?_eq_some_iff.1 hx).1
  have hj := (List.getElem?_eq_some_iff.1 hy).1
  have hiI : (i : Int) < (L.length : Int) := by omega
  have hjI : (j : Int) < (L.length : Int) := by omega
  have o1 : ¬ i * 2 + 1 = j * 2 := by omega
  have o2 : ¬ j * 2 = i * 2 + 1 := by omega
  have o3 : ¬ j * 2 + 1 = i * 2 := by omega
  have o4 : ¬ i * 2 = j * 2 + 1 := by omega
  have o5 : ¬ j = i := by omega
  have HH : Hid (HB w base kb (.slice (some ⟨q, 0, none⟩) L.length c) L) := h
  obtain ⟨s1, t1⟩ := h.put i y hi
  obtain ⟨s2, t2⟩ := s1.put j x (by rw [List.length_set]; exact hj)
  have HF : Hid (HB ((((w.setCell ⟨q, i * 2, none⟩ (.string (bas y.name))).setCell ⟨q, i * 2 + 1, none⟩ (.int .i64 (y.num : Nat))).setCell ⟨q, j * 2, none⟩ (.string (bas x.name))).setCell ⟨q, j * 2 + 1, none⟩ (.int .i64 (x.num : Nat))).drew base kb (.slice (some ⟨q, 0, none⟩) L.length c) ((L.set i y).set j x) ∧
      Only (hS kb (.slice (some ⟨q, 0, none⟩) L.length c)) w ((((w.setCell ⟨q, i * 2, none⟩ (.string (bas y.name))).setCell ⟨q, i * 2 + 1, none⟩ (.int .i64 (y.num : Nat))).setCell ⟨q, j * 2, none⟩ (.string (bas x.name))).setCell ⟨q, j * 2 + 1, none⟩ (.int .i64 (x.num : Nat))).drew) :=
    ⟨s2.below (Below.refl _ _).drew, by have t3 := t1.next t2; exact ⟨t3.os, t3.tape, t3.output, t3.size, t3.block⟩⟩
  clear h hc4 s1 s2 t1 t2 HH
  go_enter Tryd.func106, Tryd.ntmps106
  go_wp2_with fail
  go_region
  go_end0
  exact ⟨rfl, HF.out⟩

end Go.Proofs.YtdocablbkafkiaaDoor.Cd

/-
  A heap of keys: what a step up and a step down keep.
-/
namespace Go.Proofs.YtdocablbkafkiaaDoor.Cd
open Go.RowKit Go.Maps

def par (k : Nat) : Nat := (k - 1) / 2
/-- The keys f of the first n places make a heap. -/
def HeapF (f : Nat → Nat) (n : Nat) : Prop := ∀ k, 0 < k → k < n → f (par k) ≤ f k
/-- But for the way to place j from above. -/
def UpOk (f : Nat → Nat) (n j : Nat) : Prop := (∀ k, 0 < k → k < n → k ≠ j → f (par k) ≤ f k) ∧ ∀ k, 0 < k → k < n → par k = j → 0 < j → f (par j) ≤ f k
/-- But for the ways to and from place i. -/
def FixOk (f : Nat → Nat) (n i : Nat) : Prop := (∀ k, 0 < k → k < n → k ≠ i → par k ≠ i → f (par k) ≤ f k) ∧ ∀ k, 0 < k → k < n → par k = i → 0 < i → f (par i) ≤ f k
/-- Two places' keys change places. -/
def swF (f : Nat → Nat) (i j : Nat) : Nat → Nat := fun k => if k = j then f i else if k = i then f j else f k

theorem par_lt {k : Nat} (h : 0 < k) : par k < k := by unfold par; omega
theorem swF_j (f : Nat → Nat) (i j : Nat) : swF f i j j = f i := by simp [swF]
theorem swF_i (f : Nat → Nat) (i j : Nat) (h : i ≠ j) : swF f i j i = f j := by simp [swF, h]
theorem swF_o (f : Nat → Nat) (i j k : Nat) (h1 : k ≠ i) (h2 : k ≠ j) : swF f i j k = f k := by simp [swF, h1, h2]

theorem UpOk.step {f : Nat → Nat} {n j : Nat} (h : UpOk f n j) (hj : 0 < j) (hn : j < n) (hlt : f j < f (par j)) : UpOk (swF f (par j) j) n (par j) := by
  obtain ⟨h1, h2⟩ := h
  have hp := par_lt hj
  refine ⟨fun k k0 kn ki => ?_, fun k k0 kn kp i0 => ?_⟩
  · by_cases e1 : k = j
    · subst e1
      rw [swF_i _ _ _ (by omega), swF_j]; omega
    · rw [swF_o f _ _ k ki e1]
      by_cases e2 : par k = j
      · rw [e2, swF_j]; exact h2 k k0 kn e2 hj
      · by_cases e3 : par k = par j
        · rw [e3, swF_i _ _ _ (by omega)]
          have := h1 k k0 kn e1
          rw [e3] at this; omega
        · rw [swF_o f _ _ _ e3 e2]; exact h1 k k0 kn e1
  · have hpp := par_lt i0
    rw [swF_o f _ _ (par (par j)) (by omega) (by omega)]
    have hi := h1 (par j) i0 (by omega) (by omega)
    by_cases e1 : k = j
    · subst e1; rw [swF_j]; exact hi
    · have hk := par_lt k0
      rw [swF_o f _ _ k (by omega) e1]
      have := h1 k k0 kn e1
      rw [kp] at this; omega
theorem UpOk.done {f : Nat → Nat} {n j : Nat} (h : UpOk f n j) (hd : j = 0 ∨ f (par j) ≤ f j) : HeapF f n := by
  intro k k0 kn
  by_cases e : k = j
  · subst e
    rcases hd with hd | hd
    · omega
    · exact hd
  · exact h.1 k k0 kn e
theorem par_child {i k : Nat} (h : par k = i) (h0 : 0 < k) : k = 2 * i + 1 ∨ k = 2 * i + 2 := by unfold par at h; omega
theorem FixOk.step {f : Nat → Nat} {n i j : Nat} (h : FixOk f n i) (hj : par j = i) (hj0 : 0 < j) (hn : j < n) (hlt : f j < f i) (hmin : ∀ k, 0 < k → k < n → par k = i → f j ≤ f k) :
    FixOk (swF f i j) n j ∧ swF f i j (par j) ≤ swF f i j j := by
  obtain ⟨h1, h2⟩ := h
  have hp := par_lt hj0
  refine ⟨⟨fun k k0 kn kj kpj => ?_, fun k k0 kn kp _ => ?_⟩, ?_⟩
  · have hk := par_lt k0
    by_cases e1 : k = i
    · subst e1
      rw [swF_i _ _ _ (by omega), swF_o f _ _ (par k) (by omega) kpj]
      exact h2 j hj0 hn hj (by omega)
    · rw [swF_o f _ _ k e1 kj]
      by_cases e2 : par k = i
      · rw [e2, swF_i _ _ _ (by omega)]; exact hmin k k0 kn e2
      · rw [swF_o f _ _ _ e2 kpj]; exact h1 k k0 kn e1 e2
  · have hk := par_lt k0
    rw [hj, swF_i _ _ _ (by omega), swF_o f _ _ k (by omega) (by omega)]
    have := h1 k k0 kn (by omega) (by omega)
    rw [kp] at this; exact this
  · rw [hj, swF_i _ _ _ (by omega), swF_j]; omega
theorem FixOk.stay {f : Nat → Nat} {n i : Nat} (h : FixOk f n i) (hd : ∀ k, 0 < k → k < n → par k = i → f i ≤ f k) : UpOk f n i := by
  refine ⟨fun k k0 kn ki => ?_, h.2⟩
  by_cases e : par k = i
  · rw [e]; exact hd k k0 kn e
  · exact h.1 k k0 kn ki e
theorem HeapF.least {f : Nat → Nat} {n : Nat} (h : HeapF f n) : ∀ k, k < n → f 0 ≤ f k := by
  intro k
  induction k using Nat.strongRecOn with
  | _ k ih =>
    intro hk
    by_cases e : k = 0
    · rw [e]; exact Nat.le_refl _
    · have hp := par_lt (show 0 < k by omega)
      exact Nat.le_trans (ih (par k) hp (by omega)) (h k (by omega) hk)
/-- One key was changed. -/
theorem HeapF.fix {f g : Nat → Nat} {m n i : Nat} (h : HeapF f m) (hnm : n ≤ m) (hi : i < m) (hg : ∀ k, k < n → k ≠ i → g k = f k) : FixOk g n i := by
  refine ⟨fun k k0 kn ki kp => ?_, fun k k0 kn kp i0 => ?_⟩
  · have hk := par_lt k0
    rw [hg k kn ki, hg (par k) (by omega) kp]; exact h k k0 (by omega)
  · have hk := par_lt k0
    have hp := par_lt i0
    rw [hg k kn (by omega), hg (par i) (by omega) (by omega)]
    have a := h k k0 (by omega)
    rw [kp] at a
    exact Nat.le_trans (h i i0 hi) a
theorem HeapF.push {f g : Nat → Nat} {n : Nat} (h : HeapF f n) (hg : ∀ k, k < n → g k = f k) : UpOk g (n + 1) n := by
  refine ⟨fun k k0 kn ki => ?_, fun k k0 kn kp i0 => ?_⟩
  · have hk := par_lt k0
    rw [hg k (by omega), hg (par k) (by omega)]; exact h k k0 (by omega)
  · rcases par_child kp k0 with e | e <;> omega
theorem HeapF.less {f g : Nat → Nat} {m n : Nat} (h : HeapF f m) (hnm : n ≤ m) (hg : ∀ k, k < n → g k = f k) : HeapF g n := by
  intro k k0 kn
  have hk := par_lt k0
  rw [hg k kn, hg (par k) (by omega)]; exact h k k0 (by omega)

/-- Two places of a list change places. -/
def swapL (I : List Nat) (i j : Nat) : List Nat := (I.set i (I.getD j 0)).set j (I.getD i 0)
def kvOf (key : Nat → Nat) (I : List Nat) : Nat → Nat := fun k => key (I.getD k 0)
theorem swapL_length (I : List Nat) (i j : Nat) : (swapL I i j).length = I.length := by simp [swapL]
theorem swapL_getD (I : List Nat) (i j k : Nat) (hi : i < I.length) (hj : j < I.length) : (swapL I i j).getD k 0 = if k = j then I.getD i 0 else if k = i then I.getD j 0 else I.getD k 0 := by
  unfold swapL
  simp only [List.getD_eq_getElem?_getD, List.getElem?_set, List.length_set]
  by_cases e1 : k = j
  · subst e1; simp [hj]
  · by_cases e2 : k = i
    · subst e2; simp [hi, Ne.symm e1, e1]
    · simp [Ne.symm e1, Ne.symm e2, e1, e2]
theorem kvOf_swap (key : Nat → Nat) (I : List Nat) (i j : Nat) (hi : i < I.length) (hj : j < I.length) : kvOf key (swapL I i j) = swF (kvOf key I) i j := by
  funext k
  unfold kvOf swF
  rw [swapL_getD I i j k hi hj]
  split
  · rfl
  · split <;> rfl
theorem swapL_perm (I : List Nat) (i j : Nat) (hi : i < I.length) (hj : j < I.length) : (swapL I i j).Perm I := by
  unfold swapL
  have e1 : I.getD j 0 = I[j] := by simp [List.getD, hj]
  have e2 : I.getD i 0 = I[i] := by simp [List.getD, hi]
  rw [e1, e2]
  exact List.set_set_perm hi hj

/-- The key of a place: entries are numbered in the order of their names. -/
def keyZ (k : Nat) : Nat := k
def Fq (kb : Nat) (p : Option Addr) (k : Nat) : Prop := k = kb ∨ ∃ ad, p = some ad ∧ ad.block = k
theorem hS_fq {kb : Nat} {p : Option Addr} {n c k : Nat} (h : hS kb (.slice p n c) k) : Fq kb p k := by
  rcases h with h | h
  · exact .inl h
  · cases p with
    | none => simp [Value.ownBlock] at h
    | some ad => exact .inr ⟨ad, rfl, by simpa [Value.ownBlock] using h⟩
/-- A heap of entries that are numbered by U. -/
structure HQ (w : World) (base kb : Nat) (p : Option Addr) (cap : Nat) (I : List Nat) (U : Nat → En) : Prop where
  hb : HB w base kb (.slice p I.length cap) (I.map U)
  len : I.length < 1000000
  ord : ∀ a ∈ I, ∀ b ∈ I, Op.bytesLess (U a).name (U b).name = decide (a < b)
theorem HQ.cell {w : World} {base kb : Nat} {p : Option Addr} {cap : Nat} {I : List Nat} {U : Nat → En} (h : HQ w base kb p cap I U) : w.cell? ⟨kb, 0, none⟩ = some (.slice p I.length cap) := h.hb.cell
theorem HQ.drewN {w : World} {base kb : Nat} {p : Option Addr} {cap : Nat} {I : List Nat} {U : Nat → En} (h : HQ w base kb p cap I U) (q : Nat) : HQ (w.drewN q) base kb p cap I U :=
  ⟨⟨h.hb.lo, h.hb.box, h.hb.blk⟩, h.len, h.ord⟩
theorem getD_at {I : List Nat} {i : Nat} (hi : i < I.length) : I[i]? = some (I.getD i 0) := by simp [List.getD, hi]
theorem getD_in {I : List Nat} {i : Nat} (hi : i < I.length) : I.getD i 0 ∈ I := List.mem_of_getElem? (getD_at hi)
theorem zLess_lt (base kb : Nat) (p : Option Addr) (cap : Nat) (I : List Nat) (U : Nat → En) (i j : Nat) (w : World) (h : HQ w base kb p cap I U) (hi : i < I.length) (hj : j < I.length) (r : Bool) (hr : decide (kvOf keyZ I i < kvOf keyZ I j) = r) :
    Calls Tryd.prog 103 #[.slice p I.length cap, .int .i64 i, .int .i64 j] w fun e w' => e = .returned (.bool r) ∧ ∃ q, w' = w.drewN q := by
  have := zless_any base kb p I.length cap (I.map U) i j (U (I.getD i 0)) (U (I.getD j 0)) w h.hb (by rw [List.getElem?_map, getD_at hi]; rfl) (by rw [List.getElem?_map, getD_at hj]; rfl) h.len
  rw [h.ord _ (getD_in hi) _ (getD_in hj)] at this
  rw [← hr]
  exact this
theorem swapL_mem {I : List Nat} {i j a : Nat} (hi : i < I.length) (hj : j < I.length) (h : a ∈ swapL I i j) : a ∈ I := (swapL_perm I i j hi hj).mem_iff.1 h
theorem zSwap_hq (base kb : Nat) (p : Option Addr) (cap : Nat) (I : List Nat) (U : Nat → En) (i j m : Nat) (w : World) (h : HQ w base kb p cap I U) (hm : I.length = m) (hi : i < m) (hj : j < m) (hij : i ≠ j) :
    Calls Tryd.prog 106 #[.slice p m cap, .int .i64 i, .int .i64 j] w fun e w' => e = .returned (.tuple #[]) ∧ HQ w' base kb p cap (swapL I i j) U ∧ Only (Fq kb p) w w' := by
  subst hm
  refine (zswap_any base kb p I.length cap (I.map U) i j (U (I.getD i 0)) (U (I.getD j 0)) w h.hb (by rw [List.getElem?_map, getD_at hi]; rfl) (by rw [List.getElem?_map, getD_at hj]; rfl) h.len hij).mono ?_
  rintro e w' ⟨rfl, h1, h2⟩
  refine ⟨rfl, ⟨?_, by rw [swapL_length]; exact h.len, fun a ha b hb => h.ord a (swapL_mem hi hj ha) b (swapL_mem hi hj hb)⟩, Only.weak h2 (fun _ _ h => hS_fq h)⟩
  rw [swapL_length]
  have e : (swapL I i j).map U = ((I.map U).set i (U (I.getD j 0))).set j (U (I.getD i 0)) := by unfold swapL; rw [List.map_set, List.map_set]
  rw [e]
  exact h1
theorem zLess_hq (base kb : Nat) (p : Option Addr) (cap : Nat) (I : List Nat) (U : Nat → En) (i j m : Nat) (w : World) (h : HQ w base kb p cap I U) (hm : I.length = m) (hi : i < m) (hj : j < m) (r : Bool) (hr : decide (kvOf keyZ I i < kvOf keyZ I j) = r) :
    Calls Tryd.prog 103 #[.slice p m cap, .int .i64 i, .int .i64 j] w fun e w' => e = .returned (.bool r) ∧ HQ w' base kb p cap I U ∧ Only (fun _ => False) w w' := by
  subst hm
  refine (zLess_lt base kb p cap I U i j w h hi hj r hr).mono ?_
  rintro e w' ⟨rfl, q, rfl⟩
  exact ⟨rfl, h.drewN q, ⟨rfl, rfl, rfl, Nat.le_refl _, fun _ _ _ => rfl⟩⟩
theorem zm_less (base kb : Nat) (p : Option Addr) (cap : Nat) (I : List Nat) (U : Nat → En) (m : Nat) (w : World) (h : HQ w base kb p cap I U) (hm : I.length = m) : (method 245 68 (.pointer (some ⟨kb, 0, none⟩)) "Less").run Tryd.prog w = .ok (103, .slice p m cap) w := by
  subst hm; exact zmeth_less kb _ w h.cell
theorem zm_swap (base kb : Nat) (p : Option Addr) (cap : Nat) (I : List Nat) (U : Nat → En) (m : Nat) (w : World) (h : HQ w base kb p cap I U) (hm : I.length = m) : (method 245 68 (.pointer (some ⟨kb, 0, none⟩)) "Swap").run Tryd.prog w = .ok (106, .slice p m cap) w := by
  subst hm; exact zmeth_swap kb _ w h.cell
theorem zm_len (base kb : Nat) (p : Option Addr) (cap : Nat) (I : List Nat) (U : Nat → En) (m : Nat) (w : World) (h : HQ w base kb p cap I U) (hm : I.length = m) : (method 245 68 (.pointer (some ⟨kb, 0, none⟩)) "Len").run Tryd.prog w = .ok (34, .slice p m cap) w := by
  subst hm; exact zmeth_len kb _ w h.cell

end Go.Proofs.YtdocablbkafkiaaDoor.Cd

namespace Go.Proofs.YtdocablbkafkiaaDoor.Cd
open Go.RowKit Go.Maps

set_option maxRecDepth 8000 in
set_option maxHeartbeats 2000000 in
theorem zup_any (base kb : Nat) (p : Option Addr) (cap : Nat) (I : List Nat) (U : Nat → En) (n j : Nat) (w : World) (h : HQ w base kb p cap I U) (hn : n ≤ I.length) (hj : j < n) (hu : UpOk (kvOf keyZ I) n j) :
    Calls Tryd.prog 69 #[hI kb, .int .i64 j] w fun e w' => e = .returned (.tuple #[]) ∧ ∃ I', HQ w' base kb p cap I' U ∧ I'.Perm I ∧ HeapF (kvOf keyZ I') n ∧ (∀ k, n ≤ k → I'.getD k 0 = I.getD k 0) ∧ Only (Fq kb p) w w' := by
  have hlen := h.len
  have H0 : Hid (HQ w base kb p cap I U ∧ UpOk (kvOf keyZ I) n j) := ⟨h, hu⟩
  clear h hu
  unfold hI
  go_enter Tryd.func69, Tryd.ntmps69
  go_wp2_with fail
  go_loopw [1] (fun jj wr => ∃ (j : Nat) (I' : List Nat), jj = .int .i64 j ∧ j < n ∧ I'.length = I.length ∧ Hid (HQ wr base kb p cap I' U ∧ UpOk (kvOf keyZ I') n j ∧ I'.Perm I ∧ (∀ k, n ≤ k → I'.getD k 0 = I.getD k 0) ∧ Only (Fq kb p) w wr)) (fun jj _ => (intOf jj).toNat)
  case atStart => exact ⟨j, I, rfl, hj, rfl, H0.out.1, H0.out.2, List.Perm.refl _, fun _ _ => rfl, Only.refl _ _⟩
  case round =>
    obtain ⟨j, I', rfl, hj, hl, HI⟩ := hrel
    have m1 := zmeth_less kb _ wr HI.out.1.cell
    rw [hl] at m1
    by_cases h0 : j = 0
    · subst h0
      have e0 : ((0 : Nat) : Int) - 1 = -1 := by omega
      go_wp2_with fail
      go_end0
      obtain ⟨a1, a2, a3, a4, a5⟩ := HI.out
      exact ⟨rfl, I', a1, a3, a2.done (.inl rfl), a4, a5⟩
    · have e1 : Int.tdiv ((j : Int) - 1) 2 = ((par j : Nat) : Int) := by unfold par; rw [Int.tdiv_eq_ediv_of_nonneg (by omega)]; omega
      have e2 : ((j : Int) - 1) / 2 = ((par j : Nat) : Int) := by unfold par; omega
      have hp := par_lt (show 0 < j by omega)
      have e3 : (((par j : Nat) : Int) == (j : Int)) = false := by rw [beq_eq_false_iff_ne]; omega
      by_cases hlt : kvOf keyZ I' j < kvOf keyZ I' (par j)
      · have cL := zLess_lt base kb p cap I' U j (par j) wr HI.out.1 (by omega) (by omega) true (by simpa using hlt)
        rw [hl] at cL
        have m2 : ∀ q, (method 245 68 (.pointer (some ⟨kb, 0, none⟩)) "Swap").run Tryd.prog (wr.drewN q) = .ok (106, .slice p I.length cap) (wr.drewN q) := fun q => by
          have := zmeth_swap kb _ (wr.drewN q) (HI.out.1.drewN q).cell
          rw [hl] at this
          exact this
        have cS : ∀ q, Calls Tryd.prog 106 #[.slice p I.length cap, .int .i64 (par j : Nat), .int .i64 j] (wr.drewN q) fun e w' => e = .returned (.tuple #[]) ∧ HQ w' base kb p cap (swapL I' (par j) j) U ∧ Only (Fq kb p) (wr.drewN q) w' := fun q => by
          have := zSwap_hq base kb p cap I' U (par j) j I'.length (wr.drewN q) (HI.out.1.drewN q) rfl (by omega) (by omega) (by omega)
          rw [hl] at this
          exact this
        go_wp2_with (first
          | (go_at_call 103; refine cL.mono ?_; rintro e w1 ⟨rfl, q1, rfl⟩; clear cL m1)
          | (go_at_call 106; refine (cS _).mono ?_; rintro e w2 ⟨rfl, h2, b2⟩; clear cS m2; have H2 : Hid (HQ w2 base kb p cap (swapL I' (par j) j) U ∧ Only (Fq kb p) wr w2) := ⟨h2, ⟨b2.os, b2.tape, b2.output, b2.size, b2.block⟩⟩; clear h2 b2))
        go_roundw
        case rel =>
          obtain ⟨a1, a2, a3, a4, a5⟩ := HI.out
          have hpj : par j < I'.length := by omega
          have hjl : j < I'.length := by omega
          refine ⟨par j, swapL I' (par j) j, rfl, by omega, by rw [swapL_length]; exact hl, H2.out.1, ?_, (swapL_perm I' _ _ hpj hjl).trans a3, fun k hk => ?_, a5.next H2.out.2⟩
          · rw [kvOf_swap _ _ _ _ hpj hjl]
            exact a2.step (by omega) hj hlt
          · rw [swapL_getD I' _ _ k hpj hjl, if_neg (by omega), if_neg (by omega)]
            exact a4 k hk
        case measure => simp [intOf]; omega
      · have cL := zLess_lt base kb p cap I' U j (par j) wr HI.out.1 (by omega) (by omega) false (by simpa using hlt)
        rw [hl] at cL
        go_wp2_with (go_at_call 103; refine cL.mono ?_; rintro e w1 ⟨rfl, q1, rfl⟩; clear cL m1)
        go_end0
        obtain ⟨a1, a2, a3, a4, a5⟩ := HI.out
        exact ⟨rfl, I', a1.drewN q1, a3, a2.done (.inr (by omega)), a4, ⟨a5.os, a5.tape, a5.output, a5.size, a5.block⟩⟩

end Go.Proofs.YtdocablbkafkiaaDoor.Cd
