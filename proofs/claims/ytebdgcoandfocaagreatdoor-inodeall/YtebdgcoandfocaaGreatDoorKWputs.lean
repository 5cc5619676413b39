/-
  putsOf of package wal: the puts of a record.
-/
import Derived.Test.YtebdgcoandfocaaGreatDoorKRg
import Derived.Test.YtebdgcoandfocaaGreatDoorKWchunk
import Derived.RangeFuncBox

namespace Go.Proofs.YtebdgcoandfocaaGreatDoor
open Go.RowKit Go.Maps Go.Sort Go.Shelf

attribute [local go_sem] Oper.semAt_some

/-- A put in memory. -/
structure PutM where
  block : Int
  at_ : Option Addr
  cap : Nat
  bytes : By
def putCells (x : PutM) : List Value := [.int .i64 x.block, .slice x.at_ x.bytes.length x.cap]
/-- Some puts, one behind the other, from q on. -/
def PutsAt (w : World) (q : Option Addr) (ps : List PutM) : Prop :=
  (0 < ps.length → ∃ b o, q = some ⟨b, o, none⟩ ∧ (∃ cs fr, w.heap[b]? = some (.cells cs 143 fr)) ∧ ∀ (j : Nat) (x : PutM), ps[j]? = some x → w.cell? ⟨b, o + j * 2, none⟩ = some (.int .i64 x.block) ∧ w.cell? ⟨b, o + j * 2 + 1, none⟩ = some (.slice x.at_ x.bytes.length x.cap)) ∧
  ∀ (j : Nat) (x : PutM), ps[j]? = some x → x.bytes.length ≤ x.cap ∧ Bytes w x.at_ x.bytes ∧ ∀ b o, x.at_ = some ⟨b, o, none⟩ → ∃ cs fr, w.heap[b]? = some (.cells cs 5 fr)

theorem PutsAt.but {w w' : World} {q : Option Addr} {ps : List PutM} (h : PutsAt w q ps) {S : Nat → Prop} (hb : But S w w') (hS : ∀ k cs t fr, w.heap[k]? = some (.cells cs t fr) → t = 5 ∨ t = 143 → ¬ S k) : PutsAt w' q ps := by
  have key : ∀ (k : Nat) cs t fr, w.heap[k]? = some (.cells cs t fr) → t = 5 ∨ t = 143 → w'.heap[k]? = w.heap[k]? := fun k cs t fr hk ht => hb.block k (Array.getElem?_eq_some_iff.1 hk).1 (hS k cs t fr hk ht)
  refine ⟨fun hp => ?_, fun j x hj => ⟨(h.2 j x hj).1, fun hl => ?_, fun b o e => ?_⟩⟩
  · obtain ⟨b, o, e, ⟨cs, fr, ht⟩, hx⟩ := h.1 hp
    have hk := key b cs _ fr ht (.inr rfl)
    exact ⟨b, o, e, ⟨cs, fr, hk.trans ht⟩, fun j x hj => ⟨(World.cell?_of_block (w := w) hk).trans (hx j x hj).1, (World.cell?_of_block (w := w) hk).trans (hx j x hj).2⟩⟩
  · obtain ⟨b, o, e, hx⟩ := (h.2 j x hj).2.1 hl
    obtain ⟨cs, fr, ht⟩ := (h.2 j x hj).2.2 b o e
    exact ⟨b, o, e, fun j x hj => (World.cell?_of_block (w := w) (key b cs _ fr ht (.inl rfl))).trans (hx j x hj)⟩
  · obtain ⟨cs, fr, ht⟩ := (h.2 j x hj).2.2 b o e
    exact ⟨cs, fr, (key b cs _ fr ht (.inl rfl)).trans ht⟩
theorem PutsAt.below {w w' : World} {q : Option Addr} {ps : List PutM} (h : PutsAt w q ps) (hb : Below w.heap.size w w') : PutsAt w' q ps :=
  h.but (S := fun _ => False) (But.of_below hb) (fun _ _ _ _ _ _ h => h)

theorem Tryz.info143 : (Tryz.prog.info? 143).map (fun i => (i.zero, i.size, i.bytes)) = some (some (.agg #[.int .i64 0, .slice none 0 0]), 2, 32) := by kernel_rfl

theorem CallsIn_on {F : Fence} {n : Nat} {P : Program} {f : Nat} {args : Array Value} {w : World} {v : Ending} {K : Ending → World → Prop}
    (h : CallsIn F n P f args w fun e w' => e = v ∧ w' = w) (hk : K v w) : CallsIn F n P f args w K :=
  h.mono (by rintro e w' ⟨rfl, rfl⟩; exact hk)

/-- Put k of a record's bytes. -/
def putK (g o : Nat) (r : By) (k : Nat) : PutM := ⟨(leN (((r.drop (8 + k * 520))).take 8) : Nat), some ⟨g, o + (8 + k * 520 + 8), none⟩, 512, (r.drop (8 + k * 520 + 8)).take 512⟩

theorem pieceLen_put (n k : Nat) (hk : k < n) : pieceLen (n * 520) 520 k = 520 := by
  unfold pieceLen
  have : (k + 1) * 520 ≤ n * 520 := Nat.mul_le_mul_right _ hk
  omega
theorem pieces_put (n : Nat) : pieces (n * 520) 520 = n := by unfold pieces; omega

theorem fl_length {n : Nat} (f : Nat → PutM) (pre : List (Fin n)) : ((pre.map fun k => putCells (f k.1)).flatten).length = pre.length * 2 := by
  induction pre with
  | nil => rfl
  | cons x pre ih =>
    simp only [List.map_cons, List.flatten_cons, List.length_append, ih, List.length_cons]
    show 2 + _ = _
    omega
theorem flat_get (f : Nat → PutM) (n j : Nat) (hj : j < n) (i : Nat) (hi : i < 2) : (((List.range n).map fun k => putCells (f k)).flatten)[j * 2 + i]? = (putCells (f j))[i]? := by
  have key : ∀ (l : List Nat) (j : Nat) (x : Nat), l[j]? = some x → ((l.map fun k => putCells (f k)).flatten)[j * 2 + i]? = (putCells (f x))[i]? := by
    intro l
    induction l with
    | nil => intro j x h; simp at h
    | cons y l ih =>
      intro j x h
      cases j with
      | zero =>
        simp at h
        subst h
        rw [List.map_cons, List.flatten_cons, Nat.zero_mul, Nat.zero_add, List.getElem?_append_left (by show i < 2; exact hi)]
      | succ j =>
        rw [List.map_cons, List.flatten_cons, List.getElem?_append_right (by show 2 ≤ _; omega)]
        have e : (j + 1) * 2 + i - (putCells (f y)).length = j * 2 + i := by show (j + 1) * 2 + i - 2 = _; omega
        rw [e]
        exact ih j x (by simpa using h)
  exact key _ j j (List.getElem?_range hj)

/-- The row of puts, as far as it is filled. -/
def FillAt (W : World) (gp n : Nat) (xs : List Value) : Prop := ∃ cur, W.heap[gp]? = some (.cells cur 143 (0, 0)) ∧ cur.size = n * 2 ∧ ∀ (j : Nat) x, xs[j]? = some x → cur[j]? = some x
theorem collect_own {β : Type} (n₀ B B' gp n : Nat) (t : TypeId) (k : β → Nat) (f : β → List Value) (w : World) (hw : n₀ ≤ w.heap.size) (hb : n₀ ≤ B') :
    OwnFrom B' (fun (pre : β) W => Boxed W B t (.slice (some ⟨gp, 0, none⟩) (k pre) n) ∧ FillAt W gp n (f pre) ∧ Below n₀ w W) := by
  rintro s X Y row ⟨hv, ⟨cur, hc, r⟩, hB⟩ hg hrow
  have key : ∀ (b : Nat) cs (t : TypeId) fr, X.heap[b]? = some (.cells cs t fr) → Y.heap[b]? = some (.cells cs t fr) := by
    intro b cs t fr hx
    refine (hg.block b (Array.getElem?_eq_some_iff.1 hx).1 (fun e => ?_)).trans hx
    obtain ⟨_, o, ho, hcell⟩ := hrow b e.symm
    rw [hx] at ho; cases ho; cases hcell
  exact ⟨key _ _ _ _ hv, ⟨cur, key _ _ _ _ hc, r⟩, hB.grown hg (Nat.le_trans hw hB.size) (fun j e => by have := (hrow j e).1; omega)⟩

theorem FillAt.made {W : World} {base g n : Nat} (h : W.ownsRow base 143 2 (.slice (some ⟨g, 0, none⟩) 0 n) 0 []) : FillAt W g n [] := by
  rcases h.2 with ⟨e, _⟩ | ⟨g', cap, cur, e, _, hb, _, _, hs, _⟩
  · cases e
  · cases e
    exact ⟨cur, hb, hs, fun j x hj => by simp at hj⟩
theorem FillAt.alloc {W : World} {g n : Nat} {xs : List Value} (h : FillAt W g n xs) (o : Obj) : FillAt (W.alloc o) g n xs := by
  obtain ⟨cur, hc, r⟩ := h
  exact ⟨cur, (Below.heap_alloc _ _ _ (Array.getElem?_eq_some_iff.1 hc).1).trans hc, r⟩

set_option maxRecDepth 8000 in
set_option maxHeartbeats 4000000 in
theorem putsOf_any (g o L cp n : Nat) (r : By) (w : World) (hr : r.length = L) (hb : Bytes w (some ⟨g, o, none⟩) r) (htg : ∃ cs fr, w.heap[g]? = some (.cells cs 5 fr)) (hLc : L ≤ cp) (hL : L < 1099511627776) (hn : leN (r.take 8) = n) (hn1 : 1 ≤ n) (hnL : 8 + n * 520 ≤ L)
    (hbl : ∀ k, k < n → leN (((r.drop (8 + k * 520))).take 8) < 4611686018427387904) :
    Calls Tryz.prog 101 #[.slice (some ⟨g, o, none⟩) L cp] w fun e w' => ∃ g' c', e = .returned (.slice (some ⟨g', 0, none⟩) n c') ∧ Below w.heap.size w w' ∧ n ≤ c' ∧ PutsAt w' (some ⟨g', 0, none⟩) ((List.range n).map (putK g o r)) := by
  obtain ⟨i0, hi, hz0, hz1, hz2⟩ := info_parts Tryz.info143
  have c38 := number_any (some ⟨g, o, none⟩) r cp w (by omega) (by omega) hb (by omega)
  rw [hr, hn] at c38
  have HB : Hid (Bytes w (some ⟨g, o, none⟩) r) := hb
  refine (callsIn_wide (n := 4)).1 ?_
  refine callsIn_of_wp_marks Tryz.func101 rfl trivial ?_ rfl
  simp only [Tryz.ntmps101, List.size_toArray, List.length_cons, List.length_nil, Nat.reduceAdd, Nat.reduceSub, Array.replicate_succ, Array.replicate_zero, List.push_toArray, List.append_toArray, List.nil_append, List.cons_append]
  gi_wp2_with (first
    | (refine ⟨trivial, ?_⟩; gi_at_call 77; refine CallsIn_on (callsIn_wide.2 c38) ?_)
    | (gi_at_call 77; refine CallsIn_on (callsIn_wide.2 c38) ?_)
    | (gi_at_make; refine wpListIn_make_own _ rfl _ _ 66 rfl w.heap.size 143 i0 (.agg #[.int .i64 0, .slice none 0 0]) 2 Tryz.underlying66 hi hz0 hz1 .i64 .i64 _ n rfl rfl rfl (by rw [hz2]; omega) (by unfold maxLen; omega) (Nat.le_refl _) ?_; intro w1 hrow1 hg1)
    | (refine ⟨trivial, ?_⟩; gi_at_call 114; refine Stop.out ?_)
    | (gi_at_call 114; refine Stop.out ?_))
  refine Stop.mk ?_
  obtain ⟨w2, hw2⟩ : ∃ w2, w2 = w1.alloc (.cells #[.slice (some ⟨w.heap.size, 0, none⟩) 0 n] 66) := ⟨_, rfl⟩
  have hB1 : Below w.heap.size w w1 := (Below.refl _ w).grown hg1 (Nat.le_refl _) (by simp)
  have bO2 : Boxed w2 w1.heap.size 66 (.slice (some ⟨w.heap.size, 0, none⟩) 0 n) := by rw [hw2]; exact Boxed.new _ _ _
  have hr2 : FillAt w2 w.heap.size n [] := by rw [hw2]; exact FillAt.alloc (FillAt.made hrow1) _
  have hB2 : Below w.heap.size w w2 := by rw [hw2]; exact hB1.alloc hB1.size _
  have hs2 : w2.heap.size = w1.heap.size + 1 := by rw [hw2]; simp
  rw [← hw2]
  clear hw2 hrow1
  refine (callsIn_wide.2 (chunk_any (some ⟨g, o + 8, none⟩) (n * 520) (cp - 8) 520 w2 (by omega) (by omega))).mono ?_
  rintro e w3' ⟨rfl, hw3⟩
  have bS : w3'.heap[w2.heap.size]? = some (.cells #[.slice (some ⟨g, o + 8, none⟩) (n * 520) (cp - 8)] 30 (0, 0)) := by rw [hw3]; exact (Below.heap_alloc _ _ _ (by simp)).trans (heap_alloc_new _ _)
  have bN : w3'.heap[w2.heap.size + 1]? = some (.cells #[.int .i64 520] 3 (0, 0)) := by
    rw [hw3]
    have := heap_alloc_new (w2.alloc (.cells #[.slice (some ⟨g, o + 8, none⟩) (n * 520) (cp - 8)] 30)) (.cells #[.int .i64 520] 3)
    rw [World.size_alloc] at this
    exact this
  have hs3 : w3'.heap.size = w2.heap.size + 2 := by rw [hw3]; simp
  have bO3 : Boxed w3' w1.heap.size 66 (.slice (some ⟨w.heap.size, 0, none⟩) 0 n) := by rw [hw3]; exact (bO2.alloc _).alloc _
  have hr3 : FillAt w3' w.heap.size n [] := by rw [hw3]; exact FillAt.alloc (FillAt.alloc hr2 _) _
  have hB3 : Below w.heap.size w w3' := by rw [hw3]; exact (hB2.alloc hB2.size _).alloc (by simp; have := hB2.size; omega) _
  clear hw3 bO2 hr2
  have hseq := chunk_stops w2.heap.size (w2.heap.size + 1) g (o + 8) (n * 520) (cp - 8) 520 n (pieces_put n).symm (by omega) (by omega) (by omega) (by omega) w3' bS bN 3 (by omega)
  obtain ⟨fl, hfl⟩ : ∃ fl : List (Fin n) → List Value, fl = fun pre => (pre.map fun k => putCells (putK g o r k.1)).flatten := ⟨_, rfl⟩
  have hfl0 : fl [] = [] := by rw [hfl]; rfl
  have hI := collect_own (β := List (Fin n)) w.heap.size w1.heap.size w3'.heap.size w.heap.size n 66 List.length fl w (Nat.le_refl _) hB3.size
  have HS2 : Hid (w2.heap.size = w1.heap.size + 1) := hs2
  have HS3 : Hid (w3'.heap.size = w2.heap.size + 2) := hs3
  have HFL : Hid (fl = fun pre => (pre.map fun k => putCells (putK g o r k.1)).flatten) := hfl
  clear hfl
  have hKb : ∀ (W : World) (l : Nat) (o o' : Obj), w3'.heap.size ≤ l → W.heap[l]? = some o → o.isCells = false → o.isWalk = false → KpC w3' w2.heap.size (w2.heap.size + 1) W (W.putObj l o') := KpC.b (by omega) (by omega)
  clear hs2 hs3
  gi_wp2_with fail
  refine wpIn_rangeFunc_ownG (α := Fin n) rfl (by omega) (gf := 133) (lb := #[.pointer (some ⟨w2.heap.size, 0, none⟩), .pointer (some ⟨w2.heap.size + 1, 0, none⟩)]) rfl trivial (enters_of Tryz.func133 (by kernel_rfl) rfl)
    hseq KpC.t hKb (Below.refl _ _) (fun _ => rfl) _ (fun _ _ _ => False) hI (fun _ _ _ _ _ hs _ _ => hs) ⟨bO3, by rw [hfl0]; exact hr3, hB3⟩
    (fun x => { tmps := #[.slice (some ⟨g, o, none⟩) L cp, undef, .slice none 0 0, .int .i64 n, .pointer (some ⟨w1.heap.size, 0, none⟩), pieceV g (o + 8) (n * 520) 520 x.1, .slice (some ⟨g, o, none⟩) L cp, .int .i64 n, .int .i64 n, .slice (some ⟨w.heap.size, 0, none⟩) 0 n, .slice (some ⟨g, o, none⟩) L cp, .int .i64 n, .int .i64 (n * 520), .int .i64 (8 + n * 520), .slice (some ⟨g, o + 8, none⟩) (n * 520) (cp - 8), .func (.func 133) #[] #[.pointer (some ⟨w2.heap.size, 0, none⟩), .pointer (some ⟨w2.heap.size + 1, 0, none⟩)], pieceV g (o + 8) (n * 520) 520 x.1, undef, undef, undef, undef, undef, undef, undef, undef, undef], defers := [] }) ?assign ?body ?done ?stop
  case assign =>
    intro l x W K hK
    gi_wp2
    exact hK
  case body =>
    rintro l pre ⟨k, hkn⟩ W ⟨hv, ⟨cur, hcur, hcs, hcx⟩, hB⟩ hlt
    have hc := hv.cell
    have hk1 : (k + 1) * 520 ≤ n * 520 := Nat.mul_le_mul_right _ hkn
    obtain ⟨ao, hao⟩ : ∃ ao, ao = o + 8 + k * 520 := ⟨_, rfl⟩
    have hpv : pieceV g (o + 8) (n * 520) 520 k = .slice (some ⟨g, ao, none⟩) 520 520 := by
      unfold pieceV; rw [pieceLen_put n k hkn, hao]
    have hbk : Bytes W (some ⟨g, ao, none⟩) ((r.drop (8 + k * 520)).take 520) := by
      have := bytes_drop (below_bytes hB HB.out) (8 + k * 520) 520
      rw [← Nat.add_assoc, ← hao] at this
      exact this
    have hlk : ((r.drop (8 + k * 520)).take 520).length = 520 := by rw [List.length_take, List.length_drop]; omega
    obtain ⟨bk, hbkd⟩ : ∃ bk, bk = leN ((r.drop (8 + k * 520)).take 8) := ⟨_, rfl⟩
    have c38' : ∀ W' : World, Below W.heap.size W W' → Calls Tryz.prog 77 #[.slice (some ⟨g, ao, none⟩) 520 520] W' fun e w' => e = .returned (.int .i64 (bk : Nat)) ∧ w' = W' := by
      intro W' hW'
      have e8 : ((r.drop (8 + k * 520)).take 520).take 8 = (r.drop (8 + k * 520)).take 8 := by rw [List.take_take]; rfl
      have := number_any (some ⟨g, ao, none⟩) _ 520 W' (by omega) (by omega) (below_bytes hW' hbk) (by rw [e8]; exact hbl k hkn)
      rw [hlk, e8, ← hbkd] at this
      exact this
    have HBKD : Hid (bk = leN ((r.drop (8 + k * 520)).take 8)) := hbkd
    have HAO : Hid (ao = o + 8 + k * 520) := hao
    have hmix : Tryz.prog.follows .mixedOrders = true := by kernel_rfl
    have hR := (Below.refl W.heap.size W).drew
    simp only [hpv]
    clear hbk hlk hbkd hao hpv
    obtain ⟨x0, hx0⟩ : ∃ x, cur[pre.length * 2]? = some x := ⟨_, Array.getElem?_eq_getElem (by omega)⟩
    obtain ⟨x1, hx1⟩ : ∃ x, cur[pre.length * 2 + 1]? = some x := ⟨_, Array.getElem?_eq_getElem (by omega)⟩
    have hgp : w.heap.size < W.heap.size := (Array.getElem?_eq_some_iff.1 hcur).1
    have hroom : pre.length + 1 ≤ n := by omega
    have hgb : w1.heap.size ≠ w.heap.size := by
      intro e
      have h1 : W.heap[w1.heap.size]? = _ := hv
      rw [e, hcur] at h1
      simp at h1
    obtain ⟨W4, hW4⟩ : ∃ W4, W4 = (W.alloc (.cells #[.int .i64 (bk : Nat), .slice (some ⟨g, ao + 8, none⟩) 512 512] 143)).drew := ⟨_, rfl⟩
    have hB4 : Below W.heap.size W W4 := by rw [hW4]; exact ((Below.refl _ W).alloc (Nat.le_refl _) _).drew
    have hn4 : W4.heap[W.heap.size]? = some (.cells #[.int .i64 (bk : Nat), .slice (some ⟨g, ao + 8, none⟩) 512 512] 143 (0, 0)) := by rw [hW4]; exact heap_alloc_new W _
    have hcur4 : W4.heap[w.heap.size]? = some (.cells cur 143 (0, 0)) := below_block hcur hB4
    have hv4 : Boxed W4 w1.heap.size 66 (.slice (some ⟨w.heap.size, 0, none⟩) pre.length n) := below_block hv hB4
    have y0 : W4.cell? ⟨W.heap.size, 0, none⟩ = some (.int .i64 (bk : Nat)) := cellOf hn4 0
    have y1 : W4.cell? ⟨W.heap.size, 1, none⟩ = some (.slice (some ⟨g, ao + 8, none⟩) 512 512) := cellOf hn4 1
    have z0 : W4.cell? ⟨w.heap.size, pre.length * 2, none⟩ = some x0 := (cellOf hcur4 _).trans hx0
    have f0 : W4.frozen? ⟨w.heap.size, pre.length * 2, none⟩ = false := frozenOf hcur4 _
    have hcur45 : (W4.setCell ⟨w.heap.size, pre.length * 2, none⟩ (.int .i64 (bk : Nat))).heap[w.heap.size]? = some (.cells (cur.setIfInBounds (pre.length * 2) (.int .i64 (bk : Nat))) 143 (0, 0)) := by simp [World.setCell, Array.getElem?_modify, hcur4]
    have z1 : (W4.setCell ⟨w.heap.size, pre.length * 2, none⟩ (.int .i64 (bk : Nat))).cell? ⟨w.heap.size, pre.length * 2 + 1, none⟩ = some x1 := by rw [cellOf hcur45, Array.getElem?_setIfInBounds, if_neg (by omega)]; exact hx1
    have f1 : (W4.setCell ⟨w.heap.size, pre.length * 2, none⟩ (.int .i64 (bk : Nat))).frozen? ⟨w.heap.size, pre.length * 2 + 1, none⟩ = false := frozenOf hcur45 _
    obtain ⟨W5, hW5⟩ : ∃ W5, W5 = (W4.setCell ⟨w.heap.size, pre.length * 2, none⟩ (.int .i64 (bk : Nat))).setCell ⟨w.heap.size, pre.length * 2 + 1, none⟩ (.slice (some ⟨g, ao + 8, none⟩) 512 512) := ⟨_, rfl⟩
    have hcur5 : W5.heap[w.heap.size]? = some (.cells ((cur.setIfInBounds (pre.length * 2) (.int .i64 (bk : Nat))).setIfInBounds (pre.length * 2 + 1) (.slice (some ⟨g, ao + 8, none⟩) 512 512)) 143 (0, 0)) := by rw [hW5]; simp [World.setCell, Array.getElem?_modify, hcur4]
    have hk5 : ∀ b, b ≠ w.heap.size → W5.heap[b]? = W4.heap[b]? := fun b h1 => by rw [hW5]; exact (Below.heap_setCell _ _ _ _ h1).trans (Below.heap_setCell _ _ _ _ h1)
    have hs5 : W5.heap.size = W4.heap.size := by rw [hW5]; simp [World.setCell]
    have hB5 : Below w.heap.size W4 W5 := by rw [hW5]; exact ((Below.refl _ W4).setCell (p := ⟨w.heap.size, pre.length * 2, none⟩) (Nat.le_refl _) _).setCell (p := ⟨w.heap.size, pre.length * 2 + 1, none⟩) (Nat.le_refl _) _
    have hv5 : Boxed W5 w1.heap.size 66 (.slice (some ⟨w.heap.size, 0, none⟩) pre.length n) := (hk5 _ hgb).trans hv4
    have hc4 := hv4.cell
    have hc5 := hv5.cell
    have hf5 := hv5.frozen
    obtain ⟨W6, hW6⟩ : ∃ W6, W6 = W5.setCell ⟨w1.heap.size, 0, none⟩ (.slice (some ⟨w.heap.size, 0, none⟩) (pre.length + 1) n) := ⟨_, rfl⟩
    have HCX : Hid (∀ (j : Nat) x, (fl pre)[j]? = some x → cur[j]? = some x) := hcx
    gi_wp2_with fail
    refine region_done hmix (by kernel_rfl) (fun b ac wd => ac = { tmps := #[.slice (some ⟨g, o, none⟩) L cp, undef, .slice none 0 0, .int .i64 n, .pointer (some ⟨w1.heap.size, 0, none⟩), .slice (some ⟨g, ao, none⟩) 520 520, .slice (some ⟨g, o, none⟩) L cp, .int .i64 n, .int .i64 n, .slice (some ⟨w.heap.size, 0, none⟩) 0 n, .slice (some ⟨g, o, none⟩) L cp, .int .i64 n, .int .i64 (n * 520), .int .i64 (8 + n * 520), .slice (some ⟨g, o + 8, none⟩) (n * 520) (cp - 8), .func (.func 133) #[] #[.pointer (some ⟨w2.heap.size, 0, none⟩), .pointer (some ⟨w2.heap.size + 1, 0, none⟩)], .slice (some ⟨g, ao, none⟩) 520 520, (if b 0 = true then .slice (some ⟨w.heap.size, 0, none⟩) pre.length n else undef), (if b 1 = true then .slice (some ⟨g, ao, none⟩) 520 520 else undef), (if b 2 = true then .int .i64 (bk : Nat) else undef), (if b 3 = true then .slice (some ⟨g, ao, none⟩) 520 520 else undef), (if b 4 = true then .slice (some ⟨g, ao + 8, none⟩) 512 512 else undef), (if b 5 = true then .agg #[.int .i64 (bk : Nat), .slice (some ⟨g, ao + 8, none⟩) 512 512] else undef), (if b 6 = true then .slice (some ⟨W.heap.size, 0, none⟩) 1 1 else undef), (if b 7 = true then .slice (some ⟨w.heap.size, 0, none⟩) (pre.length + 1) n else undef), undef], defers := [] } ∧ wd = (if b 8 = true then W6 else if b 7 = true then W5 else if b 6 = true then W4 else W.drew)) ?_ ?_ ?_
    · exact ⟨rfl, rfl⟩
    · rintro b ac wd i op ⟨rfl, rfl⟩ hcl hop hbi hd
      have h86 : b 8 = true → b 7 = true := fun h => hcl 8 _ rfl h ⟨7, .data⟩ (by simp) rfl
      have h70 : b 7 = true → b 0 = true := fun h => hcl 7 _ rfl h ⟨0, .data⟩ (by simp) rfl
      have h76 : b 7 = true → b 6 = true := fun h => hcl 7 _ rfl h ⟨6, .data⟩ (by simp) rfl
      have h65 : b 6 = true → b 5 = true := fun h => hcl 6 _ rfl h ⟨5, .data⟩ (by simp) rfl
      have h52 : b 5 = true → b 2 = true := fun h => hcl 5 _ rfl h ⟨2, .data⟩ (by simp) rfl
      match i with
      | 0 =>
        simp only [List.getElem?_toArray, List.getElem?_cons_zero, Option.some.injEq] at hop
        subst hop
        have h7 : b 7 = false := by cases h : b 7; rfl; rw [h70 h] at hbi; cases hbi
        have h8 : b 8 = false := by cases h : b 8; rfl; rw [h86 h] at h7; cases h7
        refine op_value rfl rfl (by intro c h; cases h) (v := .slice (some ⟨w.heap.size, 0, none⟩) pre.length n) (w' := if b 8 = true then W6 else if b 7 = true then W5 else if b 6 = true then W4 else W.drew) ?_ ?_
        · rw [h7, h8]
          cases b 6
          · simp [execOp, go_sem, hc]
          · simp [execOp, go_sem, hc4]
        · exact ⟨by simp [Act.put, did], by simp [did]⟩
      | 1 =>
        simp only [List.getElem?_toArray, List.getElem?_cons_zero, List.getElem?_cons_succ, Option.some.injEq] at hop
        subst hop
        refine op_value rfl rfl (by intro c h; cases h) (v := .slice (some ⟨g, ao, none⟩) 520 520) (w' := if b 8 = true then W6 else if b 7 = true then W5 else if b 6 = true then W4 else W.drew) ?_ ?_
        · simp [execOp, go_sem]
        · exact ⟨by simp [Act.put, did], by simp [did]⟩
      | 2 =>
        simp only [List.getElem?_toArray, List.getElem?_cons_zero, List.getElem?_cons_succ, Option.some.injEq] at hop
        subst hop
        have p1 : b 1 = true := hd ⟨1, .data⟩ (by simp) rfl
        have h5 : b 5 = false := by cases h : b 5; rfl; rw [h52 h] at hbi; cases hbi
        have h6 : b 6 = false := by cases h : b 6; rfl; rw [h65 h] at h5; cases h5
        have h7 : b 7 = false := by cases h : b 7; rfl; rw [h76 h] at h6; cases h6
        have h8 : b 8 = false := by cases h : b 8; rfl; rw [h86 h] at h7; cases h7
        refine op_enter rfl rfl (by intro c h; cases h) (f := 77) (args := #[.slice (some ⟨g, ao, none⟩) 520 520]) (w' := W.drew) ?_ ?_
        · rw [h6, h7, h8]
          simp [execOp, go_sem, p1]
        · refine (c38' _ hR).mono ?_
          rintro e w' ⟨rfl, rfl⟩
          exact ⟨_, rfl, by simp [Act.put, did], by simp [did, h6, h7, h8]⟩
      | 3 =>
        simp only [List.getElem?_toArray, List.getElem?_cons_zero, List.getElem?_cons_succ, Option.some.injEq] at hop
        subst hop
        refine op_value rfl rfl (by intro c h; cases h) (v := .slice (some ⟨g, ao, none⟩) 520 520) (w' := if b 8 = true then W6 else if b 7 = true then W5 else if b 6 = true then W4 else W.drew) ?_ ?_
        · simp [execOp, go_sem]
        · exact ⟨by simp [Act.put, did], by simp [did]⟩
      | 4 =>
        simp only [List.getElem?_toArray, List.getElem?_cons_zero, List.getElem?_cons_succ, Option.some.injEq] at hop
        subst hop
        have p3 : b 3 = true := hd ⟨3, .data⟩ (by simp) rfl
        refine op_value rfl rfl (by intro c h; cases h) (v := .slice (some ⟨g, ao + 8, none⟩) 512 512) (w' := if b 8 = true then W6 else if b 7 = true then W5 else if b 6 = true then W4 else W.drew) ?_ ?_
        · simp [execOp, go_sem, p3]
        · exact ⟨by simp [Act.put, did], by simp [did]⟩
      | 5 =>
        simp only [List.getElem?_toArray, List.getElem?_cons_zero, List.getElem?_cons_succ, Option.some.injEq] at hop
        subst hop
        have p2 : b 2 = true := hd ⟨2, .data⟩ (by simp) rfl
        have p4 : b 4 = true := hd ⟨4, .data⟩ (by simp) rfl
        refine op_value rfl rfl (by intro c h; cases h) (v := .agg #[.int .i64 (bk : Nat), .slice (some ⟨g, ao + 8, none⟩) 512 512]) (w' := if b 8 = true then W6 else if b 7 = true then W5 else if b 6 = true then W4 else W.drew) ?_ ?_
        · simp [execOp, go_sem, p2, p4]
        · exact ⟨by simp [Act.put, did], by simp [did]⟩
      | 6 =>
        simp only [List.getElem?_toArray, List.getElem?_cons_zero, List.getElem?_cons_succ, Option.some.injEq] at hop
        subst hop
        have p5 : b 5 = true := hd ⟨5, .data⟩ (by simp) rfl
        have h7 : b 7 = false := by cases h : b 7; rfl; rw [h76 h] at hbi; cases hbi
        have h8 : b 8 = false := by cases h : b 8; rfl; rw [h86 h] at h7; cases h7
        refine op_value rfl rfl (by intro c h; cases h) (v := .slice (some ⟨W.heap.size, 0, none⟩) 1 1) (w' := W4) ?_ ?_
        · rw [hbi, h7, h8]
          simp [execOp, go_sem, p5, hW4]
        · exact ⟨by simp [Act.put, did], by simp [did, h7, h8]⟩
      | 7 =>
        simp only [List.getElem?_toArray, List.getElem?_cons_zero, List.getElem?_cons_succ, Option.some.injEq] at hop
        subst hop
        have p0 : b 0 = true := hd ⟨0, .data⟩ (by simp) rfl
        have p6 : b 6 = true := hd ⟨6, .data⟩ (by simp) rfl
        have h8 : b 8 = false := by cases h : b 8; rfl; rw [h86 h] at hbi; cases hbi
        refine op_value rfl rfl (by intro c h; cases h) (v := .slice (some ⟨w.heap.size, 0, none⟩) (pre.length + 1) n) (w' := W5) ?_ ?_
        · rw [hbi, h8, p6]
          simp [execOp, go_sem, p0, hroom, y0, y1, storeCells, z0, f0, z1, f1, hW5]
        · exact ⟨by simp [Act.put, did], by simp [did, h8]⟩
      | 8 =>
        simp only [List.getElem?_toArray, List.getElem?_cons_zero, List.getElem?_cons_succ, Option.some.injEq] at hop
        subst hop
        have p7 : b 7 = true := hd ⟨7, .data⟩ (by simp) rfl
        refine op_skip rfl rfl (by intro c h; cases h) (w' := W6) ?_ ?_
        · rw [hbi, p7]
          simp [execOp, go_sem, hc5, hf5, hW6]
        · exact ⟨by simp [Act.put, did], by simp [did]⟩
      | k + 9 => simp at hop
    · rintro b ac wd ⟨rfl, rfl⟩ hall
      have h8 := hall 8 (by simp)
      rw [if_pos h8]
      have hv6 : Boxed W6 w1.heap.size 66 (.slice (some ⟨w.heap.size, 0, none⟩) (pre.length + 1) n) := by rw [hW6]; exact hv5.set _
      have hk6 : ∀ b, b ≠ w1.heap.size → W6.heap[b]? = W5.heap[b]? := fun b h1 => by rw [hW6]; exact Below.heap_setCell _ _ _ _ h1
      have hB6 : Below w.heap.size W W6 := by
        have h1 : Below w.heap.size W W5 := (hB4.mono hB.size).trans hB5
        rw [hW6]
        exact h1.setCell (p := ⟨w1.heap.size, 0, none⟩) (by have := hB1.size; exact this) _
      have hK6 : KeepsOthers W W6 := by
        rw [hW6, hW5, hW4]
        exact ((((KeepsOthers.alloc W _).trans (KeepsOthers.drew _)).trans (KeepsOthers.setCell _ _ _)).trans (KeepsOthers.setCell _ _ _)).trans (KeepsOthers.setCell _ _ _)
      refine ⟨hK6.from _, ?_, ?_, ?_, hB.trans hB6⟩
      · intro hK
        have hlt : ∀ b o, W.heap[b]? = some o → w1.heap.size < b → W6.heap[b]? = W.heap[b]? := fun b o hb h1 => by
          have h2 := hB1.size
          rw [hk6 b (by omega), hk5 b (by omega), below_block hb hB4, hb]
        have hs2 := HS2.out
        exact ⟨(hlt _ _ (hK.1.trans bS) (by omega)).trans hK.1, (hlt _ _ (hK.2.trans bN) (by omega)).trans hK.2⟩
      · simpa using hv6
      · refine ⟨_, (hk6 _ hgb.symm).trans hcur5, by simp [hcs], fun j x hj => ?_⟩
        have hfl : fl (pre ++ [⟨k, hkn⟩]) = fl pre ++ putCells (putK g o r k) := by rw [HFL.out]; simp
        have hpk : putCells (putK g o r k) = [.int .i64 (bk : Nat), .slice (some ⟨g, ao + 8, none⟩) 512 512] := by
          have h1 : ((r.drop (8 + k * 520 + 8)).take 512).length = 512 := by rw [List.length_take, List.length_drop]; omega
          unfold putCells putK
          simp only [h1]
          rw [← HBKD.out, show o + (8 + k * 520 + 8) = ao + 8 by rw [HAO.out]; omega]
        have hfn : (fl pre).length = pre.length * 2 := by rw [HFL.out]; exact fl_length _ _
        rw [hfl, hpk, List.getElem?_append] at hj
        split at hj
        · rename_i hjl
          rw [Array.getElem?_setIfInBounds, if_neg (by omega), Array.getElem?_setIfInBounds, if_neg (by omega)]
          exact HCX.out j x hj
        · rename_i hjl
          have hj2 : j = pre.length * 2 ∨ j = pre.length * 2 + 1 := by
            have := (List.getElem?_eq_some_iff.1 hj).1
            simp at this
            omega
          rcases hj2 with rfl | rfl
          · rw [hfn, Nat.sub_self] at hj
            rw [Array.getElem?_setIfInBounds, if_neg (by omega), Array.getElem?_setIfInBounds, if_pos rfl, if_pos (by omega)]
            simpa using hj
          · rw [hfn, show pre.length * 2 + 1 - pre.length * 2 = 1 by omega] at hj
            rw [Array.getElem?_setIfInBounds, if_pos rfl, if_pos (by simp; omega)]
            simpa using hj
  case done =>
    rintro D ys W hD hys ⟨hv, ⟨cur, hcur, hcs, hcx⟩, hB⟩ hK
    have hc := hv.cell
    have hlen : ys.length = n := by have := congrArg List.length hys; simpa using this
    rw [hlen] at hc
    have HF : Hid (W.heap[w.heap.size]? = some (.cells cur 143 (0, 0)) ∧ cur.size = n * 2 ∧ ∀ (j : Nat) x, (fl ys)[j]? = some x → cur[j]? = some x) := ⟨hcur, hcs, hcx⟩
    have HB9 : Hid (Below w.heap.size w W) := hB
    clear hcur hcs hcx hB
    gi_wp2
    refine ⟨by simp, .inl ⟨_, _, rfl, run_takeDeferred hK, ?_⟩⟩
    have hdD : w.heap.size ≤ D := by have := hB3.size; have := HS3.out; omega
    have hB' : Below w.heap.size w (W.putObj D (.deferred none)) := HB9.out.trans (belowK_b (w := w) (Nat.le_refl _) W D _ _ hdD hK rfl rfl)
    refine ⟨_, results_tmp rfl _ _ _, _, _, rfl, hB', Nat.le_refl _, ?_⟩
    obtain ⟨hcur, hcs, hcx⟩ := HF.out
    have hcur' : (W.putObj D (.deferred none)).heap[w.heap.size]? = some (.cells cur 143 (0, 0)) := by
      refine ((grownBy_putObj' W D (.deferred none)).block _ (Array.getElem?_eq_some_iff.1 hcur).1 (fun e => ?_)).trans hcur
      simp at e
      rw [e, hK] at hcur
      cases hcur
    have hflv : fl ys = ((List.range n).map fun k => putCells (putK g o r k)).flatten := by
      rw [HFL.out, ← hys]
      simp [Function.comp_def]
    refine ⟨fun _ => ⟨w.heap.size, 0, rfl, ⟨_, _, hcur'⟩, fun j x hj => ?_⟩, fun j x hj => ?_⟩
    · have hjn : j < n := by have := (List.getElem?_eq_some_iff.1 hj).1; simpa using this
      have hx : x = putK g o r j := by rw [List.getElem?_map, List.getElem?_range hjn] at hj; simpa using hj.symm
      have h0 : (fl ys)[j * 2]? = (putCells x)[0]? := by rw [hflv, hx]; exact flat_get _ _ _ (by omega) 0 (by omega)
      have h1 : (fl ys)[j * 2 + 1]? = (putCells x)[1]? := by rw [hflv, hx]; exact flat_get _ _ _ (by omega) 1 (by omega)
      rw [Nat.zero_add]
      exact ⟨(cellOf hcur' _).trans (hcx _ _ (h0.trans rfl)), (cellOf hcur' _).trans (hcx _ _ (h1.trans rfl))⟩
    · have hjn : j < n := by have := (List.getElem?_eq_some_iff.1 hj).1; simpa using this
      have hx : x = putK g o r j := by rw [List.getElem?_map, List.getElem?_range hjn] at hj; simpa using hj.symm
      subst hx
      have hk1 : (j + 1) * 520 ≤ n * 520 := Nat.mul_le_mul_right _ hjn
      have hl : ((r.drop (8 + j * 520 + 8)).take 512).length = 512 := by rw [List.length_take, List.length_drop]; omega
      refine ⟨by show ((r.drop (8 + j * 520 + 8)).take 512).length ≤ 512; omega, bytes_drop (below_bytes hB' HB.out) (8 + j * 520 + 8) 512, fun b o' e => ?_⟩
      cases e
      obtain ⟨cs, fr, ht⟩ := htg
      exact ⟨cs, fr, below_block ht hB'⟩
  case stop =>
    rintro D c pre W _ _ h _
    exact h.elim

end Go.Proofs.YtebdgcoandfocaaGreatDoor
