/-
  A directory is loaded: Load.
-/
import Derived.Test.YtdocablbkafkiaaDoorEd
import Derived.Test.YtdocablbkafkiaaDoorWch
import Derived.RangeFuncBox
import Derived.RangeFuncWrites
namespace Go.Proofs.YtdocablbkafkiaaDoor.Cd
open Go.RowKit Go.Shelf

attribute [local go_sem] Oper.semAt_some

theorem strOf_inj {a b : List (BitVec 8)} (h : strOf a = strOf b) : a = b := by
  have := congrArg Lib.strCells h
  rw [strOf_cells, strOf_cells] at this
  refine (List.map_inj_right (fun x y hxy => ?_)).1 this
  unfold u8v at hxy
  injection hxy with _ e
  exact BitVec.eq_of_toNat_eq (by omega)
theorem equal_any (p q : Option Addr) (xs ys : List (BitVec 8)) (c d : Nat) (w : World) (hx : Bytes w p xs) (hy : Bytes w q ys) : Calls Tryd.prog 29 #[.slice p xs.length c, .slice q ys.length d] w fun e w' => e = .returned (.bool (decide (xs = ys))) ∧ w' = w := by
  have c1 := run_str w p xs c hx
  have c2 := run_str w q ys d hy
  have HE : Hid (((strOf xs).toList == (strOf ys).toList) = decide (xs = ys)) := by
    show _ = _
    rw [Lib.toList_data, Lib.toList_data]
    by_cases h : xs = ys
    · simp [h]
    · have : (strOf xs).data.toList ≠ (strOf ys).data.toList := fun e => h (strOf_inj (by rw [← bas_of (strOf xs), ← bas_of (strOf ys), e]))
      simp only [h, decide_false]
      exact beq_eq_false_iff_ne.2 this
  clear hx hy
  generalize xs.length = m at *
  generalize ys.length = k at *
  go_enter Tryd.func29, Tryd.ntmps29
  go_wp2
  go_ret
  exact ⟨congrArg (fun b => Ending.returned (.bool b)) HE.out, rfl⟩

def Own10 (bs : List (BitVec 8)) : Prop := ∃ D0, Good D0 ∧ bs = dirB D0
def Ord10 {N : Nat} (pre : List (Fin N)) : Prop := pre.map Fin.val = List.range pre.length
/-- What holds in each round of Load. -/
structure LI (bs : List (BitVec 8)) (w : World) {N : Nat} (pre : List (Fin N)) (W : World) : Prop where
  r0 : W.heap[w.heap.size]? = some (.cells #[.pointer none] 24 (0, 0))
  r1 : W.heap[w.heap.size + 1]? = some (.cells #[.int .i64 0] 31 (0, 0))
  dc : W.heap[w.heap.size + 3]? = some (.cells #[.pointer (some ⟨w.heap.size + 2, 0, none⟩)] 24 (0, 0))
  bel : Below w.heap.size w W
  dir : ∃ D, DirOk W w.heap.size (w.heap.size + 2) D ∧ (Ord10 pre → (∀ q, q ∈ D.flatten ↔ Mem (fun _ => False) (pAll bs pre.length) q) ∧ (Own10 bs → total D ≤ (pAll bs pre.length).length))
/-- What holds where a block was refused. -/
structure LX (bs : List (BitVec 8)) (w : World) {N : Nat} (pre : List (Fin N)) (W : World) : Prop where
  r0 : W.heap[w.heap.size]? = some (.cells #[.pointer none] 24 (0, 0))
  r1 : W.heap[w.heap.size + 1]? = some (.cells #[.int .i64 74] 31 (0, 0))
  bel : Below w.heap.size w W
  no : Ord10 pre → ¬ Own10 bs
/-- What Load answers. -/
def Loaded (bs : List (BitVec 8)) (w : World) (e : Ending) (w' : World) : Prop :=
  Below w.heap.size w w' ∧ ((¬ Own10 bs ∧ e = .returned (.tuple #[.pointer none, .int .i64 74])) ∨
    ∃ D, e = .returned (.tuple #[.pointer (some ⟨w.heap.size + 2, 0, none⟩), .int .i64 0]) ∧ DirOk w' w.heap.size (w.heap.size + 2) D ∧ bs = dirB D)

theorem kept_row {W W' : World} {row : Option Nat} (hg : W.grownBy W' row) {B : Nat} (hrow : ∀ r, row = some r → B ≤ r ∧ ∃ o : Obj, W.heap[r]? = some o ∧ o.isCells = false) {k : Nat} {cs : Array Value} {t : TypeId} {f : Nat × Nat} (hk : W.heap[k]? = some (.cells cs t f)) : W'.heap[k]? = some (.cells cs t f) := by
  refine (hg.block k (block_lt hk) (fun e => ?_)).trans hk
  obtain ⟨_, o, ho, hcell⟩ := hrow k e.symm
  rw [hk] at ho; cases ho; cases hcell
theorem DirOk.row {W W' : World} {row : Option Nat} (hg : W.grownBy W' row) {B : Nat} (hrow : ∀ r, row = some r → B ≤ r ∧ ∃ o : Obj, W.heap[r]? = some o ∧ o.isCells = false) {base a : Nat} {D : List (List En)} (h : DirOk W base a D) : DirOk W' base a D := by
  obtain ⟨⟨bv, vs, h1⟩, h2⟩ := h
  refine ⟨⟨bv, vs, h1.kept (grown_only hg) (fun k _ _ hd e => ?_)⟩, h2⟩
  obtain ⟨cs, t, f, hk, _⟩ := hd
  obtain ⟨_, o, ho, hcell⟩ := hrow k e
  rw [hk] at ho; cases ho; cases hcell
theorem LI.own (bs : List (BitVec 8)) (w : World) (N B : Nat) (hB : w.heap.size ≤ B) : OwnFrom B (fun (pre : List (Fin N)) W => LI bs w pre W) := by
  rintro s X Y row h hg hrow
  obtain ⟨D, d1, d2⟩ := h.dir
  exact ⟨kept_row hg hrow h.r0, kept_row hg hrow h.r1, kept_row hg hrow h.dc, h.bel.grown hg h.bel.size (fun j e => by have := (hrow j e).1; omega), D, d1.row hg hrow, d2⟩
theorem LX.own (bs : List (BitVec 8)) (w : World) (N B : Nat) (hB : w.heap.size ≤ B) (c : Code) : OwnFrom B (fun (pre : List (Fin N)) W => c = .ret ∧ LX bs w pre W) := by
  rintro s X Y row ⟨hc, h⟩ hg hrow
  exact ⟨hc, kept_row hg hrow h.r0, kept_row hg hrow h.r1, h.bel.grown hg h.bel.size (fun j e => by have := (hrow j e).1; omega), h.no⟩

theorem below_block {w w' : World} {g : Nat} {o : Obj} (h : w.heap[g]? = some o) (hb : Below w.heap.size w w') : w'.heap[g]? = some o := (hb.block g (block_lt h)).trans h
theorem good_nil : Good [] := by
  refine ⟨⟨rfl, fun j b h => ?_, fun j b h => ?_, fun j b h => ?_, fun i j b c h => ?_⟩, bfor_zero.symm, by simp [total], fun x hx => by simp at hx⟩ <;> simp at h
theorem dir_new {w : World} {base a : Nat} (hb : base ≤ a) (h : w.heap[a]? = some (.cells #[.int .i64 0, .slice none 0 0] 49 (0, 0))) : DirOk w base a [] := by
  refine ⟨⟨.slice none 0 0, [], hb, by simpa [total] using h, World.ownsRow_nil _ _ _ _, rfl, fun i v L hv _ => ?_, fun i j v u g _ hv _ _ => ?_⟩, good_nil⟩ <;> simp at hv
theorem bytes_cut {w : World} {g o : Nat} {bs : List (BitVec 8)} (hb : Bytes w (some ⟨g, o, none⟩) bs) (k : Nat) : Bytes w (some ⟨g, o + k * 512, none⟩) (pieceB bs k) := bytes_take (bytes_drop hb _) _
theorem Fr.keep {base : Nat} {w w' : World} (h : Fr base w w') {k t : Nat} {cs : Array Value} {f : Nat × Nat} (hk : w.heap[k]? = some (.cells cs t f)) (h1 : t ≠ 49) (h2 : t ≠ 57) (h3 : t ≠ 55) : w'.heap[k]? = some (.cells cs t f) :=
  (h.block k (block_lt hk) (fun hs => not_DT hk h1 h2 h3 hs.2)).trans hk
theorem Fr.keepsFrom {base : Nat} {w w' : World} (h : Fr base w w') (B : Nat) : KeepsFrom B w w' := ⟨h.size, fun k o _ hk hc => (h.block k (block_lt hk) (fun hs => by
  obtain ⟨cs, t, f, e, _⟩ := hs.2
  rw [hk] at e; cases e; cases hc)).trans hk⟩
theorem Fr.kpC {base : Nat} {w w' w0 : World} (h : Fr base w w') {b1 b2 : Nat} {x1 x2 : Array Value} (h1 : w0.heap[b1]? = some (.cells x1 36 (0, 0))) (h2 : w0.heap[b2]? = some (.cells x2 3 (0, 0))) : KpC w0 b1 b2 w w' := by
  rintro ⟨e1, e2⟩
  exact ⟨(h.keep (e1.trans h1) (by decide) (by decide) (by decide)).trans h1.symm, (h.keep (e2.trans h2) (by decide) (by decide) (by decide)).trans h2.symm⟩
theorem Ord10.snoc {N : Nat} {pre : List (Fin N)} {x : Fin N} (h : Ord10 (pre ++ [x])) : Ord10 pre ∧ x.1 = pre.length := by
  unfold Ord10 at h
  rw [List.map_append, List.length_append, List.length_singleton, List.range_succ] at h
  have := List.append_inj h (by simp)
  exact ⟨this.1, by have := this.2; simpa using this⟩
theorem pieces_512 (N : Nat) : pieces (N * 512) 512 = N := by unfold pieces; omega
theorem take_len_le {D : List (List En)} (j : Nat) : ((D.take j).flatten).length ≤ total D := by
  have : total D = ((D.take j).flatten).length + ((D.drop j).flatten).length := by
    unfold total
    rw [← List.length_append, ← List.flatten_append, List.take_append_drop]
  omega
/-- A round of Load: what holds behind a block. -/
theorem li_step {bs : List (BitVec 8)} {w W W' : World} {N : Nat} (hN : bs.length = N * 512) {pre : List (Fin N)} {x : Fin N} {D D' : List (List En)} {E : Int} (h : LI bs w pre W)
    (hd : Ord10 pre → (∀ q, q ∈ D.flatten ↔ Mem (fun _ => False) (pAll bs pre.length) q) ∧ (Own10 bs → total D ≤ (pAll bs pre.length).length))
    (hr : RB w.heap.size (w.heap.size + 2) D (pC bs x.1) (pS2 bs x.1) W E D' W') :
    (E = 0 → LI bs w (pre ++ [x]) W') ∧ (E ≠ 0 → Ord10 (pre ++ [x]) → ¬ Own10 bs) := by
  have key : Ord10 pre → x.1 = pre.length → Own10 bs → E = 0 ∧ total D' ≤ (pAll bs (pre.length + 1)).length := by
    rintro ho hx ⟨D0, hg, rfl⟩
    have hl : D0.length = N := by have := dirB_len hg; omega
    obtain ⟨L, hL⟩ : ∃ L, D0[x.1]? = some L := ⟨_, List.getElem?_eq_getElem (by have := x.2; omega)⟩
    obtain ⟨r1, r2, r3⟩ := own_read hg hL
    have hm := (hd ho).2 ⟨D0, hg, rfl⟩
    have e1 : pAll (dirB D0) (pre.length + 1) = pAll (dirB D0) pre.length ++ L := by rw [pAll, ← hx, r2]
    have e2 := own_all hg (pre.length + 1) (by have := x.2; omega)
    have h3 := take_len_le (D := D0) (pre.length + 1)
    rw [← e2, e1, List.length_append] at h3
    have h4 := hg.most
    obtain ⟨y1, y2⟩ := hr.yes (by
      intro y hy
      have : y ∈ L := by rw [← r2]; exact hy
      exact hg.fine y (List.mem_flatten.2 ⟨L, List.mem_of_getElem? hL, this⟩)) r3 (by rw [r1]; omega)
    exact ⟨y1, by rw [e1, List.length_append]; rw [r1] at y2; omega⟩
  constructor
  · intro hE
    have g := hr.good hE
    refine ⟨hr.fr.keep h.r0 (by decide) (by decide) (by decide), hr.fr.keep h.r1 (by decide) (by decide) (by decide), hr.fr.keep h.dc (by decide) (by decide) (by decide), h.bel.trans (hr.fr.toBelow h.bel.size), D', hr.ok, fun ho => ?_⟩
    obtain ⟨o1, o2⟩ := ho.snoc
    rw [List.length_append, List.length_singleton]
    refine ⟨fun q => ?_, fun hw => (key o1 o2 hw).2⟩
    rw [g.2 q, pAll, Mem_append, ← o2]
    exact Mem_congr _ (fun q => by rw [(hd o1).1 q, o2]) q
  · intro hE ho hw
    obtain ⟨o1, o2⟩ := ho.snoc
    exact hE (key o1 o2 hw).1

theorem set2 {W : World} {sz : Nat} {x y : Value} (a b : Value) (r0 : W.heap[sz]? = some (.cells #[x] 24 (0, 0))) (r1 : W.heap[sz + 1]? = some (.cells #[y] 31 (0, 0))) :
    ((W.setCell ⟨sz, 0, none⟩ a).setCell ⟨sz + 1, 0, none⟩ b).heap[sz]? = some (.cells #[a] 24 (0, 0)) ∧ ((W.setCell ⟨sz, 0, none⟩ a).setCell ⟨sz + 1, 0, none⟩ b).heap[sz + 1]? = some (.cells #[b] 31 (0, 0)) ∧ Only (fun k => k = sz ∨ k = sz + 1) W ((W.setCell ⟨sz, 0, none⟩ a).setCell ⟨sz + 1, 0, none⟩ b) := by
  refine ⟨?_, ?_, (Only.setCell W ⟨sz, 0, none⟩ a (.inl rfl)).next (Only.setCell _ ⟨sz + 1, 0, none⟩ b (.inr rfl))⟩
  · simp [World.setCell, Array.getElem?_modify, r0]
  · simp [World.setCell, Array.getElem?_modify, r1]
theorem end_put {W : World} {sz D : Nat} {x y : Value} (r0 : W.heap[sz]? = some (.cells #[x] 24 (0, 0))) (r1 : W.heap[sz + 1]? = some (.cells #[y] 31 (0, 0))) (hK : W.heap[D]? = some (.deferred (some []))) :
    (W.putObj D (.deferred none)).cell? ⟨sz, 0, none⟩ = some x ∧ (W.putObj D (.deferred none)).cell? ⟨sz + 1, 0, none⟩ = some y ∧ Only (fun k => k = D) W (W.putObj D (.deferred none)) := by
  have ho : Only (fun k => k = D) W (W.putObj D (.deferred none)) := Only.grown (grownBy_putObj' W D (.deferred none)) (fun i e => by simpa using e.symm)
  refine ⟨ho.cell (cellOf r0 0) ?_, ho.cell (cellOf r1 0) ?_, ho⟩
  · rintro rfl; rw [hK] at r0; cases r0
  · rintro rfl; rw [hK] at r1; cases r1
theorem DirOk.but {S : Nat → Prop} {w w' : World} {base a : Nat} {D : List (List En)} (h : DirOk w base a D) (ho : Only S w w') (hn : ∀ k, S k → ¬ DT w.heap[k]?) : DirOk w' base a D := by
  obtain ⟨⟨bv, vs, h1⟩, h2⟩ := h
  exact ⟨⟨bv, vs, h1.kept ho (fun k _ _ hd hs => hn k hs hd)⟩, h2⟩
theorem lx_of {bs : List (BitVec 8)} {w W : World} {N : Nat} {pre : List (Fin N)} {x y : Value} (r0 : W.heap[w.heap.size]? = some (.cells #[x] 24 (0, 0))) (r1 : W.heap[w.heap.size + 1]? = some (.cells #[y] 31 (0, 0))) (hb : Below w.heap.size w W) (hn : Ord10 pre → ¬ Own10 bs) :
    LX bs w pre ((W.setCell ⟨w.heap.size, 0, none⟩ (.pointer none)).setCell ⟨w.heap.size + 1, 0, none⟩ (.int .i64 74)) := by
  obtain ⟨a, b, c⟩ := set2 (.pointer none) (.int .i64 74) r0 r1
  exact ⟨a, b, hb.trans (c.below hb.size (fun i hi => by omega)), hn⟩
theorem ord_all {N : Nat} {ys : List (Fin N)} (h : ys.map Fin.val = List.range N) : Ord10 ys ∧ ys.length = N := by
  have : ys.length = N := by have := congrArg List.length h; simpa using this
  exact ⟨by unfold Ord10; rw [this]; exact h, this⟩
/-- All blocks are read: bytes that a directory gave come back as that directory. -/
theorem own_same {bs : List (BitVec 8)} {N : Nat} (hN : bs.length = N * 512) {D : List (List En)} (hg : Good D) (hm : ∀ q, q ∈ D.flatten ↔ Mem (fun _ => False) (pAll bs N) q) (ho : Own10 bs) : dirB D = bs := by
  obtain ⟨D0, h0, rfl⟩ := ho
  have hl : D0.length = N := by have := dirB_len h0; omega
  have e := own_all h0 N (by omega)
  rw [← hl, List.take_length] at e
  rw [hg.same h0 (fun q => ?_)]
  rw [hm q, ← hl, e, Mem_apart _ _ _ h0.wf.names (fun _ _ _ h => h.elim)]
  simp

set_option maxRecDepth 8000 in
set_option maxHeartbeats 4000000 in
theorem load_any (g o cp : Nat) (bs : List (BitVec 8)) (w : World) (ht : Tab w) (hb : Bytes w (some ⟨g, o, none⟩) bs) (hl : bs.length ≤ 1000000) (hcp : bs.length ≤ cp) (N : Nat) (hN : bs.length = N * 512) :
    Calls Tryd.prog 14 #[.slice (some ⟨g, o, none⟩) bs.length cp] w (Loaded bs w) := by
  have hmod : (bs.length : Int) % 512 = 0 := by omega
  have cNew := new_dir ((w.alloc (.cells #[.pointer none] 24)).alloc (.cells #[.int .i64 0] 31))
  have HB : Hid (Bytes w (some ⟨g, o, none⟩) bs ∧ Tab w) := ⟨hb, ht⟩
  obtain ⟨L, hL⟩ : ∃ L, bs.length = L := ⟨_, rfl⟩
  rw [hL] at hmod hl hcp hN
  rw [hL]
  clear hb ht
  refine (callsIn_wide (n := 4)).1 ?_
  refine callsIn_of_wp_marks Tryd.func14 rfl trivial ?_ rfl
  simp only [Tryd.ntmps14, List.size_toArray, List.length_cons, List.length_nil, Nat.reduceAdd, Nat.reduceSub, Array.replicate_succ, Array.replicate_zero, List.push_toArray, List.append_toArray, List.nil_append, List.cons_append]
  gi_wp2_with (first
    | (refine ⟨trivial, ?_⟩; gi_at_call 7; refine (callsIn_wide.2 cNew).mono ?_; rintro e w3 ⟨rfl, hw3⟩; clear cNew)
    | (gi_at_call 7; refine (callsIn_wide.2 cNew).mono ?_; rintro e w3 ⟨rfl, hw3⟩; clear cNew))
  subst hw3
  subst hN
  obtain ⟨w4, hw4⟩ : ∃ w4, w4 = (((w.alloc (.cells #[.pointer none] 24)).alloc (.cells #[.int .i64 0] 31)).alloc (.cells #[.int .i64 0, .slice none 0 0] 49)).alloc (.cells #[.pointer (some ⟨w.heap.size + 1 + 1, 0, none⟩)] 24) := ⟨_, rfl⟩
  rw [← hw4]
  have hs4 : w4.heap.size = w.heap.size + 4 := by rw [hw4]; simp
  have cC := chunk_any (some ⟨g, o, none⟩) (N * 512) cp 512 w4 (by omega) (by omega)
  refine ⟨trivial, (callsIn_wide.2 cC).mono ?_⟩
  rintro e w6 ⟨rfl, hw6⟩
  clear cC
  have hb4 : Below w.heap.size w w4 := by rw [hw4]; exact ((((Below.refl _ w).alloc (Nat.le_refl _) _).alloc (by simp) _).alloc (by simp; omega) _).alloc (by simp; omega) _
  have q0 : w4.heap[w.heap.size]? = some (.cells #[.pointer none] 24 (0, 0)) := by rw [hw4]; exact (((Below.heap_alloc _ _ _ (by simp; omega)).trans (Below.heap_alloc _ _ _ (by simp; omega))).trans (Below.heap_alloc _ _ _ (by simp))).trans (heap_alloc_new _ _)
  have q1 : w4.heap[w.heap.size + 1]? = some (.cells #[.int .i64 0] 31 (0, 0)) := by
    rw [hw4]
    refine ((Below.heap_alloc _ _ _ (by simp)).trans (Below.heap_alloc _ _ _ (by simp))).trans ?_
    have := heap_alloc_new (w.alloc (.cells #[.pointer none] 24)) (.cells #[.int .i64 0] 31)
    rw [World.size_alloc] at this
    exact this
  have q2 : w4.heap[w.heap.size + 2]? = some (.cells #[.int .i64 0, .slice none 0 0] 49 (0, 0)) := by
    rw [hw4]
    refine (Below.heap_alloc _ _ _ (by simp)).trans ?_
    have := heap_alloc_new ((w.alloc (.cells #[.pointer none] 24)).alloc (.cells #[.int .i64 0] 31)) (.cells #[.int .i64 0, .slice none 0 0] 49)
    rw [World.size_alloc, World.size_alloc] at this
    exact this
  have q3 : w4.heap[w.heap.size + 3]? = some (.cells #[.pointer (some ⟨w.heap.size + 2, 0, none⟩)] 24 (0, 0)) := by
    rw [hw4]
    have := heap_alloc_new (((w.alloc (.cells #[.pointer none] 24)).alloc (.cells #[.int .i64 0] 31)).alloc (.cells #[.int .i64 0, .slice none 0 0] 49)) (.cells #[.pointer (some ⟨w.heap.size + 1 + 1, 0, none⟩)] 24)
    rw [World.size_alloc, World.size_alloc, World.size_alloc] at this
    exact this
  have bS : w6.heap[w4.heap.size]? = some (.cells #[.slice (some ⟨g, o, none⟩) (N * 512) cp] 36 (0, 0)) := by rw [hw6]; exact (Below.heap_alloc _ _ _ (by simp)).trans (heap_alloc_new _ _)
  have bN : w6.heap[w4.heap.size + 1]? = some (.cells #[.int .i64 512] 3 (0, 0)) := by
    rw [hw6]
    have := heap_alloc_new (w4.alloc (.cells #[.slice (some ⟨g, o, none⟩) (N * 512) cp] 36)) (.cells #[.int .i64 512] 3)
    rw [World.size_alloc] at this
    exact this
  have hb6 : Below w4.heap.size w4 w6 := by rw [hw6]; exact ((Below.refl _ w4).alloc (Nat.le_refl _) _).alloc (by simp) _
  have hs6 : w6.heap.size = w4.heap.size + 2 := by rw [hw6]; simp
  have hI0 : LI bs w (N := N) [] w6 := by
    refine ⟨below_block q0 hb6, below_block q1 hb6, below_block q3 hb6, hb4.trans (hb6.mono (by omega)), [], ?_, fun _ => ⟨fun q => by simp [Mem, pAll], fun _ => by simp [total]⟩⟩
    exact (dir_new (by omega) q2).below hb6
  clear hw4 hw6 q0 q1 q2 q3
  have hseq := chunk_stops w4.heap.size (w4.heap.size + 1) g o (N * 512) cp 512 N (pieces_512 N).symm (by omega) (by omega) (by omega) (by omega) w6 bS bN 3 (by omega)
  have hKb : ∀ (W : World) (l : Nat) (o o' : Obj), w6.heap.size ≤ l → W.heap[l]? = some o → o.isCells = false → o.isWalk = false → KpC w6 w4.heap.size (w4.heap.size + 1) W (W.putObj l o') := KpC.b (by omega) (by omega)
  have hI := LI.own bs w N w6.heap.size (by omega)
  have HBX : Hid (w6.heap[w4.heap.size]? = some (.cells #[.slice (some ⟨g, o, none⟩) (N * 512) cp] 36 (0, 0)) ∧ w6.heap[w4.heap.size + 1]? = some (.cells #[.int .i64 512] 3 (0, 0))) := ⟨bS, bN⟩
  have HS : Hid (w.heap.size + 6 = w6.heap.size) := by show _ = _; omega
  clear bS bN hs4 hs6 hb6 hb4
  gi_wp2_with fail
  refine wpIn_rangeFunc_ownG (α := Fin N) rfl (by omega) (gf := 49) (lb := #[.pointer (some ⟨w4.heap.size, 0, none⟩), .pointer (some ⟨w4.heap.size + 1, 0, none⟩)]) rfl trivial (enters_of Tryd.func49 (by kernel_rfl) rfl)
    hseq KpC.t hKb (Below.refl _ _) (fun _ => rfl) _ (fun c pre W => c = .ret ∧ LX bs w pre W) hI (LX.own bs w N w6.heap.size (by have := HS.out; omega)) hI0
    (fun x => { tmps := #[.slice (some ⟨g, o, none⟩) (N * 512) cp, undef, .pointer (some ⟨w.heap.size, 0, none⟩), .pointer (some ⟨w.heap.size + 1, 0, none⟩), .pointer (some ⟨w.heap.size + 1 + 1 + 1, 0, none⟩), pieceV g o (N * 512) 512 x.1, undef, .slice (some ⟨g, o, none⟩) (N * 512) cp, .int .i64 ((N : Int) * 512), .int .i64 0, .bool false, .pointer (some ⟨w.heap.size + 1 + 1, 0, none⟩), .slice (some ⟨g, o, none⟩) (N * 512) cp, .func (.func 49) #[] #[.pointer (some ⟨w4.heap.size, 0, none⟩), .pointer (some ⟨w4.heap.size + 1, 0, none⟩)], pieceV g o (N * 512) 512 x.1, undef, undef, undef, undef, undef, undef, undef, undef, undef, undef, undef, undef], defers := [] }) ?assign ?body ?done ?stop
  case assign =>
    intro l x W K hK
    gi_wp2
    exact hK
  case body =>
    rintro l pre ⟨k, hkN⟩ W hi hlt
    have hs := HS.out
    obtain ⟨D, hD, hd⟩ := hi.dir
    have hpl : (pieceB bs k).length = 512 := by
      have : (k + 1) * 512 ≤ N * 512 := Nat.mul_le_mul_right _ hkN
      unfold pieceB; rw [List.length_take, List.length_drop, hL]; omega
    have hpv : pieceV g o (N * 512) 512 k = .slice (some ⟨g, o + k * 512, none⟩) 512 512 := by
      have : (k + 1) * 512 ≤ N * 512 := Nat.mul_le_mul_right _ hkN
      unfold pieceV pieceLen
      rw [show min 512 (N * 512 - k * 512) = 512 by omega]
    have hbW : Bytes W (some ⟨g, o, none⟩) bs := below_bytes hi.bel HB.out.1
    have htW : Tab W := below_tab hi.bel HB.out.2.lt HB.out.2
    have cR : Calls Tryd.prog 28 #[.slice (some ⟨g, o + k * 512, none⟩) 512 512, .func (.func 10) #[.pointer (some ⟨w.heap.size + 2, 0, none⟩)] #[]] W fun e W' => ∃ E D', e = .returned (.int .i64 E) ∧ RB w.heap.size (w.heap.size + 2) D (pC bs k) (pS2 bs k) W E D' W' := by
      have := readBlock_any w.heap.size (w.heap.size + 2) D (some ⟨g, o + k * 512, none⟩) (pieceB bs k) 512 W htW HB.out.2.lt hD (bytes_cut hbW k) (by omega) _ (pC bs k) (pS1 bs k) (pS2 bs k) rfl rfl
      rw [hpl] at this
      exact this
    have hdc := cellOf hi.dc 0
    simp at hdc
    have hmf := mkf
    have HI : Hid (LI bs w pre W ∧ (Ord10 pre → (∀ q, q ∈ D.flatten ↔ Mem (fun _ => False) (pAll bs pre.length) q) ∧ (Own10 bs → total D ≤ (pAll bs pre.length).length))) := ⟨hi, hd⟩
    simp only [hpv]
    clear hi hd hD hpl hpv hbW htW hI hseq hI0 hKb
    gi_wp2_with fail
    refine ⟨trivial, CallsIn.inRound l (callsIn_wide.2 (cR.mono ?_))⟩
    rintro e W1 ⟨E, D1, rfl, hr⟩
    clear cR hdc
    have hi := HI.out.1
    have st := li_step hL (x := ⟨k, hkN⟩) hi HI.out.2 hr
    have r0 := hr.fr.keep hi.r0 (by decide) (by decide) (by decide)
    have r1 := hr.fr.keep hi.r1 (by decide) (by decide) (by decide)
    have hb1 : Below w.heap.size w W1 := hi.bel.trans (hr.fr.toBelow hi.bel.size)
    have hkf := hr.fr.keepsFrom w6.heap.size
    have hkp := hr.fr.kpC HBX.out.1 HBX.out.2
    clear hi hr
    by_cases hE : E = 0
    · subst hE
      have H9 : Hid (KeepsFrom w6.heap.size W W1 ∧ KpC w6 w4.heap.size (w4.heap.size + 1) W W1 ∧ LI bs w (pre ++ [⟨k, hkN⟩]) W1) := ⟨hkf, hkp, st.1 rfl⟩
      clear hkf hkp st r0 r1 hb1
      gi_wp2
      exact H9.out
    · have H9 : Hid (KeepsFrom w6.heap.size W ((W1.setCell ⟨w.heap.size, 0, none⟩ (.pointer none)).setCell ⟨w.heap.size + 1, 0, none⟩ (.int .i64 74)) ∧ LX bs w (pre ++ [⟨k, hkN⟩]) ((W1.setCell ⟨w.heap.size, 0, none⟩ (.pointer none)).setCell ⟨w.heap.size + 1, 0, none⟩ (.int .i64 74))) :=
        ⟨hkf.trans (((KeepsOthers.setCell _ _ _).trans (KeepsOthers.setCell _ _ _)).from _), lx_of r0 r1 hb1 (st.2 hE)⟩
      have x0 := cellOf r0 0
      have x1 := cellOf r1 0
      have f0 := frozenOf r0 0
      have f1 := frozenOf r1 0
      have hx01 : w.heap.size ≠ w.heap.size + 1 := by omega
      simp at x0 x1
      clear hkf hkp st r0 r1 hb1
      gi_wp2
      exact ⟨H9.out.1, rfl, H9.out.2⟩
  case done =>
    rintro Dd ys W hDd hys hi hKd
    obtain ⟨D, hD, hd⟩ := hi.dir
    obtain ⟨ho, hyl⟩ := ord_all hys
    have hm := (hd ho).1
    rw [hyl] at hm
    have hown := own_same hL hD.2 hm
    have cB := dbytes_any w.heap.size (w.heap.size + 2) D W hD
    have hdc := cellOf hi.dc 0
    simp at hdc
    have HI : Hid (LI bs w ys W ∧ DirOk W w.heap.size (w.heap.size + 2) D ∧ W.heap[Dd]? = some (.deferred (some [])) ∧ w6.heap.size ≤ Dd) := ⟨hi, hD, hKd, hDd⟩
    clear hi hd hD hm hI hseq hI0 hKb hKd
    gi_wp2_with fail
    refine ⟨trivial, (callsIn_wide.2 cB).mono ?_⟩
    rintro e W1 ⟨rfl, hrow, hb1⟩
    clear cB hdc
    have hi := HI.out.1
    have hbW1 : Below w.heap.size w W1 := hi.bel.trans (hb1.mono hi.bel.size)
    have hby : Bytes W1 (some ⟨W.heap.size, 0, none⟩) (dirB D) := by
      intro _
      refine ⟨W.heap.size, 0, rfl, fun j x hj => ?_⟩
      rw [Nat.zero_add, cellOf hrow]
      simp [hj]
    have cE := equal_any (some ⟨W.heap.size, 0, none⟩) (some ⟨g, o, none⟩) (dirB D) bs (D.length * 512) cp W1 hby (below_bytes hbW1 HB.out.1)
    rw [dirB_len HI.out.2.1.2, hL] at cE
    have r0 := below_block hi.r0 hb1
    have r1 := below_block hi.r1 hb1
    have rc := below_block hi.dc hb1
    have hK1 := below_block HI.out.2.2.1 hb1
    have hD1 := HI.out.2.1.below hb1
    have x0 := cellOf r0 0
    have x1 := cellOf r1 0
    have xc := cellOf rc 0
    have f0 := frozenOf r0 0
    have f1 := frozenOf r1 0
    have hx01 : w.heap.size ≠ w.heap.size + 1 := by omega
    simp at x0 x1 xc
    have HF : Hid (W1.heap[w.heap.size]? = some (.cells #[.pointer none] 24 (0, 0)) ∧ W1.heap[w.heap.size + 1]? = some (.cells #[.int .i64 0] 31 (0, 0)) ∧ W1.heap[Dd]? = some (.deferred (some [])) ∧ DirOk W1 w.heap.size (w.heap.size + 2) D ∧ Below w.heap.size w W1) := ⟨r0, r1, hK1, hD1, hbW1⟩
    have fin : ∀ a b, Hid (∃ Wf, Wf = ((W1.setCell ⟨w.heap.size, 0, none⟩ a).setCell ⟨w.heap.size + 1, 0, none⟩ b).putObj Dd (.deferred none) ∧ ((W1.setCell ⟨w.heap.size, 0, none⟩ a).setCell ⟨w.heap.size + 1, 0, none⟩ b).heap[Dd]? = some (.deferred (some [])) ∧ Wf.cell? ⟨w.heap.size, 0, none⟩ = some a ∧ Wf.cell? ⟨w.heap.size + 1, 0, none⟩ = some b ∧ Below w.heap.size w Wf ∧ DirOk Wf w.heap.size (w.heap.size + 2) D) := by
      intro a b
      obtain ⟨r0, r1, hK1, hD1, hbW1⟩ := HF.out
      obtain ⟨s0, s1, s2⟩ := set2 a b r0 r1
      have hK2 : ((W1.setCell ⟨w.heap.size, 0, none⟩ a).setCell ⟨w.heap.size + 1, 0, none⟩ b).heap[Dd]? = some (.deferred (some [])) := (s2.block Dd (block_lt hK1) (by rintro (rfl | rfl); rw [r0] at hK1; cases hK1; rw [r1] at hK1; cases hK1)).trans hK1
      obtain ⟨e0, e1, e2⟩ := end_put s0 s1 hK2
      have hb2 : Below w.heap.size w ((W1.setCell ⟨w.heap.size, 0, none⟩ a).setCell ⟨w.heap.size + 1, 0, none⟩ b) := hbW1.trans (s2.below hbW1.size (fun i hi => by omega))
      refine ⟨_, rfl, hK2, e0, e1, hb2.trans (e2.below hb2.size (fun i hi => by have := HS.out; have := HI.out.2.2.2; omega)), (hD1.but s2 ?_).but e2 ?_⟩
      · rintro k (rfl | rfl)
        · exact not_DT r0 (by decide) (by decide) (by decide)
        · exact not_DT r1 (by decide) (by decide) (by decide)
      · rintro k rfl ⟨cs, t, f, e, _⟩
        rw [hK2] at e
        cases e
    clear hi r0 r1 rc hK1 hD1 hbW1 hby hrow hb1
    by_cases heq : dirB D = bs
    · rw [decide_eq_true heq] at cE
      have HE : Hid (bs = dirB D) := heq.symm
      clear heq hown
      gi_wp2_with (refine ⟨trivial, (callsIn_wide.2 cE).mono ?_⟩; rintro e W2 ⟨rfl, rfl⟩; clear cE)
      obtain ⟨Wf, hWf, k0, k1, k2, k3, k4⟩ := (fin (.pointer (some ⟨w.heap.size + 2, 0, none⟩)) (.int .i64 0)).out
      refine ⟨by simp, .inl ⟨_, _, rfl, run_takeDeferred k0, ?_⟩⟩
      rw [← hWf]
      exact ⟨.tuple #[.pointer (some ⟨w.heap.size + 2, 0, none⟩), .int .i64 0], by simp [results, Tryd.results14, go_sem, k1, k2], k3, .inr ⟨D, rfl, k4, HE.out⟩⟩
    · rw [decide_eq_false heq] at cE
      have HE : Hid (¬ Own10 bs) := fun h => heq (hown h)
      clear heq hown
      gi_wp2_with (refine ⟨trivial, (callsIn_wide.2 cE).mono ?_⟩; rintro e W2 ⟨rfl, rfl⟩; clear cE)
      obtain ⟨Wf, hWf, k0, k1, k2, k3, k4⟩ := (fin (.pointer none) (.int .i64 74)).out
      refine ⟨by simp, .inl ⟨_, _, rfl, run_takeDeferred k0, ?_⟩⟩
      rw [← hWf]
      exact ⟨.tuple #[.pointer none, .int .i64 74], by simp [results, Tryd.results14, go_sem, k1, k2], k3, .inl ⟨HE.out, rfl⟩⟩
  case stop =>
    rintro Dd c pre W hDd ⟨kk, _, hpre⟩ ⟨rfl, hx⟩ hKd
    have hno := hx.no (by unfold Ord10; have : pre.length = kk := by have := congrArg List.length hpre; simpa using this
                          rw [this]; exact hpre)
    obtain ⟨e0, e1, e2⟩ := end_put hx.r0 hx.r1 hKd
    have hb : Below w.heap.size w (W.putObj Dd (.deferred none)) := hx.bel.trans (e2.below hx.bel.size (fun i hi => by have := HS.out; omega))
    clear hI hseq hI0 hKb
    gi_wp2
    refine ⟨by simp, .inl ⟨_, _, rfl, run_takeDeferred hKd, ?_⟩⟩
    exact ⟨.tuple #[.pointer none, .int .i64 74], by simp [results, Tryd.results14, go_sem, e0, e1], hb, .inl ⟨hno, rfl⟩⟩

theorem own_mod {bs : List (BitVec 8)} (h : Own10 bs) : bs.length % 512 = 0 := by
  obtain ⟨D0, h0, rfl⟩ := h
  rw [dirB_len h0]
  omega
set_option maxRecDepth 8000 in
set_option maxHeartbeats 4000000 in
theorem load_odd (g o cp : Nat) (bs : List (BitVec 8)) (w : World) (hl : bs.length ≤ 1000000) (hN : bs.length % 512 ≠ 0) :
    Calls Tryd.prog 14 #[.slice (some ⟨g, o, none⟩) bs.length cp] w (Loaded bs w) := by
  have hmod : ¬ (bs.length : Int) % 512 = 0 := by omega
  have HN : Hid (¬ Own10 bs) := fun h => hN (own_mod h)
  obtain ⟨L, hL⟩ : ∃ L, bs.length = L := ⟨_, rfl⟩
  rw [hL] at hmod hl hN
  rw [hL]
  refine (callsIn_wide (n := 4)).1 ?_
  refine callsIn_of_wp_marks Tryd.func14 rfl trivial ?_ rfl
  simp only [Tryd.ntmps14, List.size_toArray, List.length_cons, List.length_nil, Nat.reduceAdd, Nat.reduceSub, Array.replicate_succ, Array.replicate_zero, List.push_toArray, List.append_toArray, List.nil_append, List.cons_append]
  gi_wp2
  refine ⟨.tuple #[.pointer none, .int .i64 74], by simp [results, Tryd.results14, go_sem], ((Below.refl _ w).alloc (Nat.le_refl _) _).alloc (by simp) _, .inl ⟨HN.out, rfl⟩⟩
/-- Load, whatever it is handed. -/
theorem load_all (g o cp : Nat) (bs : List (BitVec 8)) (w : World) (ht : Tab w) (hb : Bytes w (some ⟨g, o, none⟩) bs) (hl : bs.length ≤ 1000000) (hcp : bs.length ≤ cp) :
    Calls Tryd.prog 14 #[.slice (some ⟨g, o, none⟩) bs.length cp] w (Loaded bs w) := by
  by_cases h : bs.length % 512 = 0
  · exact load_any g o cp bs w ht hb hl hcp (bs.length / 512) (by omega)
  · exact load_odd g o cp bs w hl h

end Go.Proofs.YtdocablbkafkiaaDoor.Cd
