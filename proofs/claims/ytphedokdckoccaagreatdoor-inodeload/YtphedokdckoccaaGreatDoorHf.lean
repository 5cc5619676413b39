/-
  What every proof of package inode's law begins with: the two tables.
-/
import Derived.Test.YtphedokdckoccaaGreatDoorHd
import Derived.Deep.DeepAppendRoom
import Derived.Test.YtphedokdckoccaaGreatDoorHe
import Derived.Test.YtphedokdckoccaaGreatDoorHm
import Derived.Test.YtphedokdckoccaaGreatDoorRfixw
import Derived.WalkKit
import Derived.OrdersIn
import Derived.CallsIn
import Derived.ControlIn
import Derived.TacticsInMore
import Derived.OwnWalkIn
import Derived.Laws.EntriesVeiled
import Derived.Lib.SlBytesConst
import Derived.Test.YtphedokdckoccaaGreatDoorCtable

/-
  append, and what becomes of the slice that was appended to: it holds what it held.
-/
namespace Go.Proofs.YtphedokdckoccaaGreatDoor
open Go.RowKit Go.Maps Go.Sort Go.Shelf

theorem run_append_keeps {P : Program} (w : World) (base : Nat) (t ty e : TypeId) (i : TypeInfo) (z : Value) (size bytes : Nat) (ht : P.underlying t = some (.slice e)) (hi : P.info? e = some i) (hz : i.zero = some z)
    (hsize : i.size = size) (hby : i.bytes = bytes) (hzs : z.cells.size = size) (hsz : 0 < size)
    (g n cap : Nat) (xs : List Value) (hown : w.ownsRow base e size (.slice (some ⟨g, 0, none⟩) n cap) n xs)
    (ad : Addr) (m c : Nat) (news : List Value) (hl : news.length = m * size) (hnews : ∀ j u, news[j]? = some u → w.cell? (ad.add j) = some u) (h1 : ∀ u ∈ news, u.oneCell' = true)
    (h63 : n + m ≤ maxLen) (hbytes : (n + m) * bytes ≤ 140737488355328) (hbase : base ≤ w.heap.size) :
    ∃ v' w', (Builtin.append_ #[t, t] ty #[.slice (some ⟨g, 0, none⟩) n cap, .slice (some ad) m c]).run P w = .ok v' w' ∧ w'.ownsRow base e size v' (n + m) (xs ++ news) ∧ w.grownBy w' (some g) ∧ w'.ownsRow base e size (.slice (some ⟨g, 0, none⟩) n cap) n xs := by
  have hlx := hown.1
  by_cases hroom : n + m ≤ cap
  · obtain ⟨w', hr, h2, h3⟩ := run_append_own_spare (P := P) w base t ty e i size ht hi hsize g n cap xs hown ad m c news hl hnews h1 hroom
    refine ⟨_, w', hr, h2, h3, hlx, .inr ?_⟩
    rcases h2.2 with ⟨e0, _⟩ | ⟨g', cap', cur, e0, hb, hblk, _, hcm, hcs, htk⟩
    · cases e0
    · cases e0
      refine ⟨g, cap, cur, rfl, hb, hblk, by omega, hcm, hcs, ?_⟩
      have e1 : (cur.toList.take ((n + m) * size)).take (n * size) = (xs ++ news).take (n * size) := by rw [htk]
      rw [List.take_take, Nat.min_eq_left (Nat.mul_le_mul_right _ (by omega)), ← hlx, List.take_left] at e1
      rw [← hlx]
      exact e1
  · obtain ⟨v', w', hr, h2, h3, _, _⟩ := run_append_own_at (P := P) w base t ty e i z size bytes ht hi hz hsize hby hzs hsz (.slice (some ⟨g, 0, none⟩) n cap) n xs hown ad m c news hl hnews h1 h63 hbytes hbase
    refine ⟨v', w', hr, h2, h3, hlx, .inr ?_⟩
    have holds : ∀ j u, xs[j]? = some u → w.cell? ((⟨g, 0, none⟩ : Addr).add j) = some u := hown.cells (g := g) rfl
    subst hsize
    subst hby
    have hr2 := run_append_grow (P := P) w t ty e i z ht hi hz ⟨g, 0, none⟩ n cap xs hlx holds ad m c news hl hnews (by omega) (by unfold maxLen at h63; omega) (growslice_fits (by omega) hbytes)
    rw [hr] at hr2
    cases hr2
    rcases hown.2 with ⟨e0, _⟩ | ⟨g', cap', cur, e0, hb, hblk, hnc, hcm, hcs, htk⟩
    · cases e0
    · cases e0
      exact ⟨g, cap, cur, rfl, hb, (Below.heap_alloc w.drew _ g (Array.getElem?_eq_some_iff.1 hblk).1).trans hblk, hnc, hcm, hcs, htk⟩

theorem wpList_append_keeps {P : Program} (w : World) {ops : Array Oper} {rest : List Oper} {o : Oper} {a : Act} {Q : Exit → Act → World → Prop} (hgd : o.guard = none) (s x : Operand) (t : TypeId)
    (ho : o.op = .call { callee := .builtin .append, args := #[s, x], argTypes := #[t, t] })
    (base : Nat) (e : TypeId) (i : TypeInfo) (z : Value) (size bytes : Nat) (ht : P.underlying t = some (.slice e)) (hi : P.info? e = some i) (hz : i.zero = some z)
    (hsize : i.size = size) (hby : i.bytes = bytes) (hzs : z.cells.size = size) (hsz : 0 < size)
    (g n cap : Nat) (xs : List Value) (hs : a.eval s = .slice (some ⟨g, 0, none⟩) n cap) (hown : w.ownsRow base e size (.slice (some ⟨g, 0, none⟩) n cap) n xs)
    (ad : Addr) (m c : Nat) (news : List Value) (hx : a.eval x = .slice (some ad) m c) (hl : news.length = m * size) (hnews : ∀ j u, news[j]? = some u → w.cell? (ad.add j) = some u) (h1 : ∀ u ∈ news, u.oneCell' = true)
    (h63 : n + m ≤ maxLen) (hbytes : (n + m) * bytes ≤ 140737488355328) (hbase : base ≤ w.heap.size)
    (h : ∀ v' w', w'.ownsRow base e size v' (n + m) (xs ++ news) → w.grownBy w' (some g) → w'.ownsRow base e size (.slice (some ⟨g, 0, none⟩) n cap) n xs → wpList P ops Q rest (a.put o.dst v') w') :
    wpList P ops Q (o :: rest) a w := by
  refine wpList_plain hgd fun K hK => ?_
  obtain ⟨v', w', hr, h2, h3, h4⟩ := run_append_keeps (P := P) w base t o.type e i z size bytes ht hi hz hsize hby hzs hsz g n cap xs hown ad m c news hl hnews h1 h63 hbytes hbase
  unfold Oper.wp execOp
  simp only [ho, resolve, invoke, builtin, Sem.run_bind, Sem.run_pure, Result.andThen_ok, List.map_toArray, List.map_cons, List.map_nil, hs, hx, hr]
  exact hK _ _ (h v' w' h2 h3 h4)

/-- Two cells that were just laid. -/
theorem cell_two_new (w : World) (x y : Value) (t : TypeId) : ∀ j u, [x, y][j]? = some u → (w.alloc (.cells #[x, y] t)).cell? ((⟨w.heap.size, 0, none⟩ : Addr).add j) = some u := by
  intro j u hj
  rw [Addr.add_lit, Nat.zero_add, cellOf (heap_alloc_new w _) j]
  simpa using hj

/-- A slice that was just laid. -/
theorem own_new (w : World) (base : Nat) (e : TypeId) (size n : Nat) (cs : List Value) (hl : cs.length = n * size) (hn : n ≤ maxLen) (hb : base ≤ w.heap.size) : (w.alloc (.cells cs.toArray e)).ownsRow base e size (.slice (some ⟨w.heap.size, 0, none⟩) n n) n cs := by
  refine ⟨hl, .inr ⟨w.heap.size, n, cs.toArray, rfl, hb, heap_alloc_new w _, Nat.le_refl _, hn, by simpa using hl, ?_⟩⟩
  rw [← hl]
  simp

theorem run_append_bytes47 {W : World} {base : Nat} {v : Value} {n : Nat} {xs : List Value} (ty : TypeId) (hown : W.ownsRow base 5 1 v n xs) (p : Option Addr) (bs : By) (cp : Nat) (hb : Bytes W p bs)
    (h63 : n + bs.length ≤ 140737488355328) (hbase : base ≤ W.heap.size) :
    ∃ v' W', (Builtin.append_ #[55, 55] ty #[v, .slice p bs.length cp]).run Tryz.prog W = .ok v' W' ∧ W'.ownsRow base 5 1 v' (n + bs.length) (xs ++ bs.map u8v) ∧ W.grownBy W' v.ownBlock := by
  obtain ⟨i0, hi0, hz0, hz1, hz2⟩ := info_parts Tryz.info5
  rcases p with _ | ad
  · have h0 : bs = [] := by
      by_cases hl : 0 < bs.length
      · obtain ⟨_, _, h, _⟩ := hb hl; cases h
      · exact List.eq_nil_of_length_eq_zero (by omega)
    subst h0
    exact ⟨v, W, run_append_none_any base 55 ty 5 i0 1 Tryz.underlying55 hi0 v n xs hown cp, by simpa using hown, ⟨rfl, rfl, rfl, Nat.le_refl _, fun _ _ _ => rfl⟩⟩
  · obtain ⟨v', w', hr, h2, h3, _, _⟩ := run_append_own_at (P := Tryz.prog) W base 55 ty 5 i0 (.int .u8 0) 1 1 Tryz.underlying55 hi0 hz0 hz1 hz2 rfl (by decide) v n xs hown ad bs.length cp (bs.map u8v) (by simp)
      (fun j u hj => by
        rw [List.getElem?_map] at hj
        obtain ⟨x, hx, rfl⟩ := Option.map_eq_some_iff.1 hj
        obtain ⟨b, o, e, hc⟩ := hb (Nat.lt_of_le_of_lt (Nat.zero_le _) (List.getElem?_eq_some_iff.1 hx).1)
        cases e
        rw [Addr.add_lit]
        exact hc j x hx) (u8v_one bs) (by unfold maxLen; omega) (by omega) hbase
    exact ⟨v', w', hr, h2, h3⟩

theorem wpList_append_bytes47 {W : World} {ops : Array Oper} {rest : List Oper} {o : Oper} {a : Act} {Q : Exit → Act → World → Prop} (hgd : o.guard = none) (s x : Operand)
    (ho : o.op = .call { callee := .builtin .append, args := #[s, x], argTypes := #[55, 55] })
    (base : Nat) (v : Value) (n : Nat) (xs : List Value) (hs : a.eval s = v) (hown : W.ownsRow base 5 1 v n xs)
    (p : Option Addr) (bs : By) (cp : Nat) (hx : a.eval x = .slice p bs.length cp) (hb : Bytes W p bs) (h63 : n + bs.length ≤ 140737488355328) (hbase : base ≤ W.heap.size)
    (h : ∀ v' w', w'.ownsRow base 5 1 v' (n + bs.length) (xs ++ bs.map u8v) → W.grownBy w' v.ownBlock → wpList Tryz.prog ops Q rest (a.put o.dst v') w') :
    wpList Tryz.prog ops Q (o :: rest) a W := by
  refine wpList_plain hgd fun K hK => ?_
  obtain ⟨v', w', hr, h2, h3⟩ := run_append_bytes47 (ty := o.type) hown p bs cp hb h63 hbase
  unfold Oper.wp execOp
  simp only [ho, resolve, invoke, builtin, Sem.run_bind, Sem.run_pure, Result.andThen_ok, List.map_toArray, List.map_cons, List.map_nil, hs, hx, hr]
  exact hK _ _ (h v' w' h2 h3)

/-- A row stays where another block grows. -/
theorem own_grownT {W W' : World} {base : Nat} {e : TypeId} {size : Nat} {v : Value} {n : Nat} {xs : List Value} {row : Option Nat} (h : W.ownsRow base e size v n xs) (hg : W.grownBy W' row)
    (hne : ∀ g cs, row = some g → W.heap[g]? = some (.cells cs e (0, 0)) → False) : W'.ownsRow base e size v n xs := by
  refine ⟨h.1, ?_⟩
  rcases h.2 with h0 | ⟨g, cap, cur, hv, hb, hblk, r⟩
  · exact .inl h0
  · refine .inr ⟨g, cap, cur, hv, hb, (hg.block g (Array.getElem?_eq_some_iff.1 hblk).1 (fun e => hne g cur e.symm hblk)).trans hblk, r⟩

theorem u8v_small (k : Nat) (h : k < 256) : u8v (BitVec.ofNat 8 k) = .int .u8 (k : Nat) := by
  unfold u8v
  rw [BitVec.toNat_ofNat, Nat.mod_eq_of_lt (by simpa using h)]

end Go.Proofs.YtphedokdckoccaaGreatDoor

/-
  What WalWhole's loops keep.
-/
namespace Go.Proofs.YtphedokdckoccaaGreatDoor
open Go.RowKit Go.Maps Go.Sort Go.Shelf

/-- What block i is behind the commit of number t. -/
def wb (b : By) (t i : Nat) : By := fullB (BitVec.ofNat 8 i :: BitVec.ofNat 8 t :: b) 512
theorem wb_length (b : By) (t i : Nat) : (wb b t i).length = 512 := fullB_length _ _
def wput (b : By) (t : Nat) (gs : List Nat) (j : Nat) : PutM := ⟨(j : Int), some ⟨gs.getD j 0, 0, none⟩, 512, wb b t j⟩
def wrow (gs : List Nat) (j : Nat) : Value := .slice (some ⟨gs.getD j 0, 0, none⟩) 512 512

/-- The inner loop: k puts and rows are laid. -/
structure IInv (wr W : World) (b : By) (t : Nat) (lv xv : Value) (gs : List Nat) : Prop where
  puts : W.ownsRow wr.heap.size 91 2 lv gs.length (((List.range gs.length).map fun j => putCells (wput b t gs j)).flatten)
  rows : W.ownsRow wr.heap.size 55 1 xv gs.length ((List.range gs.length).map (wrow gs))
  blk : ∀ j, j < gs.length → W.heap[gs.getD j 0]? = some (.cells ((wb b t j).map u8v).toArray 5 (0, 0))
  below : Below wr.heap.size wr W

theorem getD_snoc (gs : List Nat) (x j : Nat) (h : j < gs.length) : (gs ++ [x]).getD j 0 = gs.getD j 0 := by
  simp [List.getD, List.getElem?_append_left h]
theorem getD_last (gs : List Nat) (x : Nat) : (gs ++ [x]).getD gs.length 0 = x := by simp [List.getD]

theorem putsL_snoc (b : By) (t : Nat) (gs : List Nat) (x : Nat) : ((List.range (gs ++ [x]).length).map fun j => putCells (wput b t (gs ++ [x]) j)).flatten =
    ((List.range gs.length).map fun j => putCells (wput b t gs j)).flatten ++ [.int .i64 gs.length, .slice (some ⟨x, 0, none⟩) 512 512] := by
  have hl : (gs ++ [x]).length = gs.length + 1 := by simp
  rw [hl, List.range_succ, List.map_append, List.flatten_append]
  have e1 : (List.range gs.length).map (fun j => putCells (wput b t (gs ++ [x]) j)) = (List.range gs.length).map fun j => putCells (wput b t gs j) :=
    List.map_congr_left fun j hj => by unfold wput; rw [getD_snoc gs x j (List.mem_range.1 hj)]
  rw [e1]
  congr 1
  simp only [List.map_cons, List.map_nil, List.flatten_cons, List.flatten_nil, List.append_nil]
  unfold putCells wput
  rw [getD_last, wb_length]
theorem rowsL_snoc (gs : List Nat) (x : Nat) : (List.range (gs ++ [x]).length).map (wrow (gs ++ [x])) = (List.range gs.length).map (wrow gs) ++ [.slice (some ⟨x, 0, none⟩) 512 512] := by
  have hl : (gs ++ [x]).length = gs.length + 1 := by simp
  rw [hl, List.range_succ, List.map_append]
  have e1 : (List.range gs.length).map (wrow (gs ++ [x])) = (List.range gs.length).map (wrow gs) :=
    List.map_congr_left fun j hj => by unfold wrow; rw [getD_snoc gs x j (List.mem_range.1 hj)]
  rw [e1]
  congr 1
  simp only [List.map_cons, List.map_nil]
  unfold wrow
  rw [getD_last]

theorem IInv.nil (wr : World) (b : By) (t : Nat) : IInv wr wr b t (.slice none 0 0) (.slice none 0 0) [] :=
  ⟨World.ownsRow_nil _ _ _ _, World.ownsRow_nil _ _ _ _, fun _ hj => absurd hj (Nat.not_lt_zero _), Below.refl _ _⟩

/-- The puts, as Commit takes them. -/
theorem IInv.putsAt {wr W : World} {b : By} {t : Nat} {lv xv : Value} {gs : List Nat} (h : IInv wr W b t lv xv gs) (hn : 0 < gs.length) : ∃ p c, lv = .slice p gs.length c ∧ PutsAt W p ((List.range gs.length).map (wput b t gs)) :=
  puts_of_own h.puts hn fun k hk => ⟨by simp [wput, wb_length], by simp only [wput]; exact bytes_block (h.blk k hk), fun b' o e => by
    have e' : gs.getD k 0 = b' := by
      have := Option.some.inj e
      exact congrArg Addr.block this
    rw [← e']
    exact ⟨_, _, h.blk k hk⟩⟩

/-- The rows, as the model holds them. -/
theorem IInv.rowsAt {wr W : World} {b : By} {t : Nat} {lv xv : Value} {gs : List Nat} (h : IInv wr W b t lv xv gs) (hn : 0 < gs.length) : ∃ p c, xv = .slice p gs.length c ∧ RowsAt W p gs.length (wb b t) := by
  rcases h.rows.2 with ⟨_, h0⟩ | ⟨g, cap, cur, rfl, hg, hblk, hcap, _⟩
  · omega
  · refine ⟨_, cap, rfl, fun _ => ⟨g, 0, rfl, ⟨_, _, hblk⟩, fun i hi => ?_⟩⟩
    have hc := h.rows.cellAt i (by simpa using hi)
    rw [List.getElem?_map, List.getElem?_range hi] at hc
    refine ⟨gs.getD i 0, 0, 512, ?_, bytes_block (h.blk i hi), wb_length _ _ _, _, _, h.blk i hi⟩
    rw [Nat.zero_add]
    exact hc

/-- Where a row's own block is, its cells are of the row's type. -/
theorem own_tag {W : World} {base : Nat} {e : TypeId} {size : Nat} {v : Value} {n : Nat} {xs : List Value} (h : W.ownsRow base e size v n xs) {g : Nat} {cs : Array Value} {t : TypeId} {fr : Nat × Nat} (hg : v.ownBlock = some g) (hc : W.heap[g]? = some (.cells cs t fr)) : t = e := by
  rcases h.2 with ⟨rfl, _⟩ | ⟨g', cap, cur, rfl, _, hblk, _⟩
  · simp [Value.ownBlock] at hg
  · have e' : g' = g := by simpa [Value.ownBlock] using hg
    rw [e', hc] at hblk
    simp only [Option.some.injEq, Obj.cells.injEq] at hblk
    exact hblk.2.1

/-- The rows ahead of their own append. -/
theorem IInv.rows4 {wr W w3 w4 : World} {b : By} {t : Nat} {lv xv : Value} {gs : List Nat} (h : IInv wr W b t lv xv gs) (hB : Below W.heap.size W w3) (o1 o2 : Obj) (hg4 : (w3.alloc o1).grownBy w4 lv.ownBlock) :
    (w4.alloc o2).ownsRow wr.heap.size 55 1 xv gs.length ((List.range gs.length).map (wrow gs)) := by
  have r3 := own_belowT (own_belowT h.rows hB) ((Below.refl w3.heap.size w3).alloc (Nat.le_refl _) o1)
  have p3 := own_belowT (own_belowT h.puts hB) ((Below.refl w3.heap.size w3).alloc (Nat.le_refl _) o1)
  have r4 := own_grownT r3 hg4 (fun g cs e hc => absurd (own_tag p3 e hc) (by decide))
  exact own_belowT r4 ((Below.refl _ w4).alloc (Nat.le_refl _) o2)

/-- One put and one row more. -/
theorem IInv.snoc {wr W w3 w4 w5 : World} {b : By} {t x : Nat} {lv xv lv' xv' : Value} {gs : List Nat} {o1 o2 : Obj} (h : IInv wr W b t lv xv gs) (hB : Below W.heap.size W w3) (hz : w3.heap[x]? = some (.cells ((wb b t gs.length).map u8v).toArray 5 (0, 0)))
    (hown4 : w4.ownsRow wr.heap.size 91 2 lv' (gs.length + 1) (((List.range gs.length).map fun j => putCells (wput b t gs j)).flatten ++ [.int .i64 gs.length, .slice (some ⟨x, 0, none⟩) 512 512])) (hg4 : (w3.alloc o1).grownBy w4 lv.ownBlock)
    (hown5 : w5.ownsRow wr.heap.size 55 1 xv' (gs.length + 1) ((List.range gs.length).map (wrow gs) ++ [.slice (some ⟨x, 0, none⟩) 512 512])) (hg5 : (w4.alloc o2).grownBy w5 xv.ownBlock) : IInv wr w5 b t lv' xv' (gs ++ [x]) := by
  have r4 := h.rows4 hB o1 o2 hg4
  have p3 := own_belowT (own_belowT h.puts hB) ((Below.refl w3.heap.size w3).alloc (Nat.le_refl _) o1)
  have hl : (gs ++ [x]).length = gs.length + 1 := by simp
  have keep : ∀ (g : Nat) cs, w3.heap[g]? = some (Obj.cells cs 5 (0, 0)) → w5.heap[g]? = some (Obj.cells cs 5 (0, 0)) := by
    intro g cs hx
    have a3 : (w3.alloc o1).heap[g]? = some (Obj.cells cs 5 (0, 0)) := (Below.heap_alloc _ _ g (Array.getElem?_eq_some_iff.1 hx).1).trans hx
    have a4 : w4.heap[g]? = some (Obj.cells cs 5 (0, 0)) := (hg4.block g (Array.getElem?_eq_some_iff.1 a3).1 (fun e => absurd (own_tag p3 e.symm a3) (by decide))).trans a3
    have a4' : (w4.alloc o2).heap[g]? = some (Obj.cells cs 5 (0, 0)) := (Below.heap_alloc _ _ g (Array.getElem?_eq_some_iff.1 a4).1).trans a4
    exact (hg5.block g (Array.getElem?_eq_some_iff.1 a4').1 (fun e => absurd (own_tag r4 e.symm a4') (by decide))).trans a4'
  refine ⟨?_, ?_, fun j hj => ?_, ?_⟩
  · rw [putsL_snoc, hl]
    exact own_grownT (own_belowT hown4 ((Below.refl _ w4).alloc (Nat.le_refl _) o2)) hg5 (fun g cs e hc => absurd (own_tag r4 e hc) (by decide))
  · rw [rowsL_snoc, hl]
    exact hown5
  · rw [hl] at hj
    by_cases hlt : j < gs.length
    · rw [getD_snoc gs x j hlt]
      exact keep _ _ (below_block (h.blk j hlt) hB)
    · obtain rfl : j = gs.length := by omega
      rw [getD_last]
      exact keep _ _ hz
  · have B3 : Below wr.heap.size wr w3 := h.below.trans (hB.mono h.below.size)
    have low : ∀ {e : TypeId} {size : Nat} {v : Value} {n : Nat} {xs : List Value} {V : World}, V.ownsRow wr.heap.size e size v n xs → ∀ g, v.ownBlock = some g → wr.heap.size ≤ g := by
      intro e size v n xs V hr g hg
      rcases hr.2 with ⟨rfl, _⟩ | ⟨g', cap, cur, rfl, hb, _⟩
      · simp [Value.ownBlock] at hg
      · have : g' = g := by simpa [Value.ownBlock] using hg
        omega
    have B4 : Below wr.heap.size wr w4 := (B3.alloc B3.size o1).grown hg4 (by have := B3.size; simp; omega) (low p3)
    exact (B4.alloc B4.size o2).grown hg5 (by have := B4.size; simp; omega) (low r4)

end Go.Proofs.YtphedokdckoccaaGreatDoor

/-
  The puts of WalWhole's commits: that of all blocks, and that of one put more.
-/
namespace Go.Proofs.YtphedokdckoccaaGreatDoor
open Go.RowKit Go.Maps Go.Sort Go.Shelf

theorem laidOn_range (g : Nat → By) : ∀ (m i : Nat), laidOn (fun _ => none) ((List.range m).map fun j => (j, g j)) i = if i < m then some (g i) else none
  | 0, i => by simp [laidOn]
  | m + 1, i => by
    rw [List.range_succ, List.map_append, laidOn_append]
    have e : ∀ st : Nat → Option By, laidOn st ([m].map fun j => (j, g j)) i = if i = m then some (g m) else st i := fun _ => rfl
    rw [e, laidOn_range g m i]
    by_cases h : i = m
    · subst h; simp
    · rw [if_neg h]
      by_cases h2 : i < m
      · rw [if_pos h2, if_pos (by omega)]
      · rw [if_neg h2, if_neg (by omega)]

def wputs (b : By) (t : Nat) (gs : List Nat) (nb : Nat) : List PutM := (List.range nb).map (wput b t gs)
theorem wputs_length (b : By) (t : Nat) (gs : List Nat) (nb : Nat) : (wputs b t gs nb).length = nb := by simp [wputs]
theorem wputs_rec (b : By) (t : Nat) (gs : List Nat) (nb : Nat) : recOf (wputs b t gs nb) = (List.range nb).map fun j => (j, wb b t j) := by
  unfold recOf wputs
  rw [List.map_map]
  exact List.map_congr_left fun j _ => by simp [wput]
theorem wputs_good (b : By) (t : Nat) (gs : List Nat) (nb : Nat) : (wputs b t gs nb).all (goodPut nb) = true := by
  rw [List.all_eq_true]
  intro x hx
  obtain ⟨j, hj, rfl⟩ := List.mem_map.1 hx
  have := List.mem_range.1 hj
  simp [goodPut, wput, wb_length]
  omega
/-- What a block is behind the commit. -/
theorem wputs_laid (b : By) (t : Nat) (gs : List Nat) (nb i : Nat) (hi : i < nb) (x : By) : (laidOn (fun _ => none) (recOf (wputs b t gs nb)) i).getD x = wb b t i := by
  have e := laidOn_range (wb b t) nb i
  rw [if_pos hi] at e
  rw [wputs_rec, e]
  exact Option.getD_some

/-- One put more: of block 0, zeros. -/
def wmore (b : By) (t : Nat) (gs : List Nat) (nb z j : Nat) : PutM := if j < nb then wput b t gs j else ⟨0, some ⟨z, 0, none⟩, 512, zeroB⟩
theorem wmore_cells (b : By) (t : Nat) (gs : List Nat) (nb z : Nat) : ((List.range (nb + 1)).map fun j => putCells (wmore b t gs nb z j)).flatten = ((List.range nb).map fun j => putCells (wput b t gs j)).flatten ++ [.int .i64 0, .slice (some ⟨z, 0, none⟩) 512 512] := by
  rw [List.range_succ, List.map_append, List.flatten_append]
  have e1 : (List.range nb).map (fun j => putCells (wmore b t gs nb z j)) = (List.range nb).map fun j => putCells (wput b t gs j) :=
    List.map_congr_left fun j hj => by unfold wmore; rw [if_pos (List.mem_range.1 hj)]
  rw [e1]
  congr 1
  simp only [List.map_cons, List.map_nil, List.flatten_cons, List.flatten_nil, List.append_nil]
  unfold wmore
  rw [if_neg (Nat.lt_irrefl _)]
  simp [putCells, zeroB_length]
theorem puts_more {W : World} {base : Nat} {v : Value} {b : By} {t nb z : Nat} {gs : List Nat} (hown : W.ownsRow base 91 2 v (nb + 1) (((List.range nb).map fun j => putCells (wput b t gs j)).flatten ++ [.int .i64 0, .slice (some ⟨z, 0, none⟩) 512 512]))
    (hblk : ∀ j, j < nb → W.heap[gs.getD j 0]? = some (.cells ((wb b t j).map u8v).toArray 5 (0, 0))) (hz : W.heap[z]? = some (.cells (zeroB.map u8v).toArray 5 (0, 0))) :
    ∃ p c, v = .slice p (nb + 1) c ∧ PutsAt W p ((List.range (nb + 1)).map (wmore b t gs nb z)) := by
  rw [← wmore_cells] at hown
  refine puts_of_own hown (Nat.succ_pos _) fun k _ => ?_
  by_cases h : k < nb
  · have e : wmore b t gs nb z k = wput b t gs k := by unfold wmore; rw [if_pos h]
    rw [e]
    refine ⟨by simp [wput, wb_length], by simp only [wput]; exact bytes_block (hblk k h), fun b' o e => ?_⟩
    have e' : gs.getD k 0 = b' := congrArg Addr.block (Option.some.inj e)
    rw [← e']
    exact ⟨_, _, hblk k h⟩
  · have e : wmore b t gs nb z k = ⟨0, some ⟨z, 0, none⟩, 512, zeroB⟩ := by unfold wmore; rw [if_neg h]
    rw [e]
    refine ⟨by simp [zeroB_length], bytes_block hz, fun b' o e => ?_⟩
    have e' : z = b' := congrArg Addr.block (Option.some.inj e)
    rw [← e']
    exact ⟨_, _, hz⟩
theorem wmore_no (b : By) (t : Nat) (gs : List Nat) (nb z : Nat) : takesB nb ((List.range (nb + 1)).map (wmore b t gs nb z)) = false := by
  unfold takesB
  rw [List.length_map, List.length_range, decide_eq_false (by omega)]
  rfl

theorem ModelAt.below {W W' : World} {base mB k : Nat} {p : Option Addr} {nb c : Nat} (h : ModelAt W base mB k p nb c) (hB : Below W.heap.size W W') : ModelAt W' base mB k p nb c := by
  obtain ⟨v, y, cs, h1, h2, h3⟩ := h.at_
  exact ⟨v, y, cs, below_block h1 hB, own_belowT h2 hB, h3⟩
theorem ModelAt.but {W W' : World} {base mB k : Nat} {p : Option Addr} {nb c : Nat} {S : Nat → Prop} (h : ModelAt W base mB k p nb c) (hb : But S W W') (hS : ∀ g cs t fr, W.heap[g]? = some (.cells cs t fr) → t = 40 ∨ t = 35 → ¬ S g) : ModelAt W' base mB k p nb c := by
  obtain ⟨v, y, cs, h1, h2, h3⟩ := h.at_
  refine ⟨v, y, cs, (hb.block mB (Array.getElem?_eq_some_iff.1 h1).1 (hS _ _ _ _ h1 (.inl rfl))).trans h1, ⟨h2.1, ?_⟩, h3⟩
  rcases h2.2 with h0 | ⟨g, cap, cur, e, hg, hblk, r⟩
  · exact .inl h0
  · exact .inr ⟨g, cap, cur, e, hg, (hb.block g (Array.getElem?_eq_some_iff.1 hblk).1 (hS _ _ _ _ hblk (.inr rfl))).trans hblk, r⟩
/-- What now reads. -/
theorem ModelAt.last {W : World} {base mB k : Nat} {p : Option Addr} {nb c : Nat} (h : ModelAt W base mB k p nb c) : ∃ g cg, W.cell? ⟨mB, 0, none⟩ = some (.slice (some ⟨g, 0, none⟩) (k + 1) cg) ∧ W.cell? ⟨g, k, none⟩ = some (.slice p nb c) := by
  obtain ⟨v, y, cs, h1, h2, h3⟩ := h.at_
  obtain ⟨g, cap, rfl, _, _⟩ := h2.form (Nat.succ_pos _)
  refine ⟨g, cap, by have := cellOf h1 0; simpa using this, ?_⟩
  rw [h2.cellAt k (by omega), List.getElem?_append_right (by omega), h3, Nat.sub_self]
  rfl

/-- A volume is kept where nothing of its own, no bytes and no device's block is turned. -/
theorem VI.but {w w' : World} {s : VS} (h : VI w s) {S : Nat → Prop} (hb : But S w w') (hS : ∀ k, s.mine k → ¬ S k) (h5 : ∀ g cs t fr, w.heap[g]? = some (.cells cs t fr) → t = 5 ∨ t = 237 → ¬ S g) : VI w' s :=
  ⟨h.vol.but hb (hS _ (.inl rfl)), h.dev.but hb (fun k hk => hS k (.inr (.inr hk))) (fun g _ hg => h5 g _ _ _ hg (.inr rfl)), h.fresh.but hb (hS _ (.inr (.inl rfl))) (fun k cs fr hk => h5 k cs 5 fr hk (.inl rfl)), h.fm, h.fused, h.n16, h.n200, h.lg⟩

/-- The model takes one row more. -/
theorem ModelAt.push {W W' : World} {base mB k : Nat} {p' : Option Addr} {nb c' : Nat} {v v' y : Value} {cs : List Value} (hm : W.heap[mB]? = some (.cells #[v, y] 40 (0, 0))) (hcs : cs.length = k + 1) (hown : W'.ownsRow base 35 1 v' (k + 1 + 1) (cs ++ [.slice p' nb c'])) (hg : W.grownBy W' v.ownBlock)
    (hv : ∀ g cs' t fr, v.ownBlock = some g → W.heap[g]? = some (.cells cs' t fr) → t = 35) : ModelAt (W'.setCell ⟨mB, 0, none⟩ v') base mB (k + 1) p' nb c' := by
  have hm' : W'.heap[mB]? = some (.cells #[v, y] 40 (0, 0)) := (hg.block mB (Array.getElem?_eq_some_iff.1 hm).1 (fun e => absurd (hv mB _ _ _ e.symm hm) (by decide))).trans hm
  refine ⟨v', y, cs, by simp [World.setCell, Array.getElem?_modify, hm'], ⟨hown.1, ?_⟩, hcs⟩
  rcases hown.2 with h0 | ⟨g, cap, cur, e, hb, hblk, r⟩
  · exact .inl h0
  · refine .inr ⟨g, cap, cur, e, hb, (Below.heap_setCell W' ⟨mB, 0, none⟩ _ g ?_).trans hblk, r⟩
    show g ≠ mB
    exact cell_ne_tag hblk hm' (by decide)

end Go.Proofs.YtphedokdckoccaaGreatDoor

/-
  Package inode: what a change gathers.
-/
namespace Go.Proofs.YtphedokdckoccaaGreatDoor
open Go.RowKit Go.Maps Go.Sort Go.Shelf

theorem Tryz.infoI : (Tryz.prog.info? 3).map (fun i => (i.zero, i.size, i.bytes)) = some (some (.int .i64 0), 1, 8) := by kernel_rfl
theorem Tryz.infoSpot : (Tryz.prog.info? 192).map (fun i => (i.zero, i.size, i.bytes)) = some (some (.agg #[.int .i64 0, .int .u32 0, .bool false]), 3, 16) := by kernel_rfl
theorem Tryz.infoAPut : (Tryz.prog.info? 91).map (fun i => (i.zero, i.size, i.bytes)) = some (some (.agg #[.int .i64 0, .slice none 0 0]), 2, 32) := by kernel_rfl

/-- A block of cells, whole. -/
def BlkAt (w : World) (g : Nat) (cs : List Value) (t : TypeId) : Prop := w.heap[g]? = some (.cells cs.toArray t (0, 0))
theorem BlkAt.cell {w : World} {g : Nat} {cs : List Value} {t : TypeId} (h : BlkAt w g cs t) {i : Nat} {v : Value} (hv : cs[i]? = some v) : w.cell? ⟨g, i, none⟩ = some v := by
  rw [cellOf h i, List.getElem?_toArray]; exact hv
theorem BlkAt.lt {w : World} {g : Nat} {cs : List Value} {t : TypeId} (h : BlkAt w g cs t) : g < w.heap.size := (Array.getElem?_eq_some_iff.1 h).1
theorem BlkAt.but {w w' : World} {g : Nat} {cs : List Value} {t : TypeId} {S : Nat → Prop} (h : BlkAt w g cs t) (hb : But S w w') (hS : ¬ S g) : BlkAt w' g cs t := (hb.block g h.lt hS).trans h
theorem BlkAt.below {w w' : World} {g : Nat} {cs : List Value} {t : TypeId} (h : BlkAt w g cs t) (hb : Below w.heap.size w w') : BlkAt w' g cs t := (hb.block g h.lt).trans h
theorem BlkAt.set {w : World} {g : Nat} {cs : List Value} {t : TypeId} (h : BlkAt w g cs t) (i : Nat) (v : Value) : BlkAt (w.setCell ⟨g, i, none⟩ v) g (cs.set i v) t := by
  unfold BlkAt at *
  simp [World.setCell, Array.getElem?_modify, h]
theorem BlkAt.ne {w : World} {g g' : Nat} {cs cs' : List Value} {t t' : TypeId} (h : BlkAt w g cs t) (h' : BlkAt w g' cs' t') (ht : t ≠ t') : g ≠ g' := fun e => by
  subst e
  have h1 : w.heap[g]? = _ := h
  rw [show w.heap[g]? = _ from h'] at h1
  simp only [Option.some.injEq, Obj.cells.injEq] at h1
  exact ht h1.2.1.symm

/-- The least free number is r. -/
def Least (m : Bm.MS) (r : Nat) : Prop := r < m.n ∧ Bm.used m.ws r = false ∧ ∀ i, i < r → Bm.used m.ws i = true
theorem take_least {m : Bm.MS} {r : Nat} {e : Ending} {m' : Bm.MS} (h : Least m r) (ht : Bm.TakeOut m e m') : e = .returned (.tuple #[.int .i64 r, .int .i64 0]) ∧ m' = m.turn r := by
  obtain ⟨q, hq, h1⟩ := ht
  have hr : q = r := by
    rcases Nat.lt_trichotomy q r with h2 | h2 | h2
    · have h3 := hq.yes (by have := h.1; omega)
      rw [h.2.2 q h2] at h3
      cases h3
    · exact h2
    · have h3 := hq.not r (Nat.zero_le _) h2
      rw [h.2.1] at h3
      cases h3
  subst hr
  rcases h1 with ⟨h2, _⟩ | ⟨_, h3, h4⟩
  · have := h.1; omega
  · exact ⟨h3, h4⟩
theorem only_but {S : Nat → Prop} {w w' : World} (h : Bm.Only S w w') : But S w w' := ⟨h.os, h.tape, h.output, h.size, h.block⟩
theorem but_only {S : Nat → Prop} {w w' : World} (h : But S w w') : Bm.Only S w w' := ⟨h.os, h.tape, h.output, h.size, h.block⟩
theorem map_b_ne {w : World} {m : Bm.MS} (hm : Bm.MapAt w m) {g : Nat} {cs : List Value} {t : TypeId} (h : BlkAt w g cs t) (ht : t ≠ 142) : g ≠ m.b := fun e => by
  subst e
  obtain ⟨cs', h1, _⟩ := hm.row
  rw [show w.heap[m.b]? = _ from h] at h1
  simp only [Option.some.injEq, Obj.cells.injEq] at h1
  exact ht h1.2.1
theorem map_a_ne {w : World} {m : Bm.MS} (hm : Bm.MapAt w m) {g : Nat} {cs : List Value} {t : TypeId} (h : BlkAt w g cs t) (ht : t ≠ 141) : g ≠ m.a := fun e => by
  subst e
  have h1 := hm.st
  rw [show w.heap[m.a]? = _ from h] at h1
  simp only [Option.some.injEq, Obj.cells.injEq] at h1
  exact ht h1.2.1

theorem own_ne {g b k n cap : Nat} (h : g ≠ b) (hk : (Value.slice (some ⟨g, 0, none⟩) n cap).ownBlock = some k) : k ≠ b := by
  have e : g = k := by simpa [Value.ownBlock] using hk
  rw [← e]; exact h
theorem own_set {W : World} {base : Nat} {e : TypeId} {size : Nat} {v : Value} {n : Nat} {xs : List Value} (h : W.ownsRow base e size v n xs) {b : Nat} (hb : ∀ k, v.ownBlock = some k → k ≠ b) (o : Nat) (u : Value) : (W.setCell ⟨b, o, none⟩ u).ownsRow base e size v n xs := by
  refine ⟨h.1, ?_⟩
  rcases h.2 with h0 | ⟨g, cap, cur, rfl, hg, hblk, r⟩
  · exact .inl h0
  · exact .inr ⟨g, cap, cur, rfl, hg, (Below.heap_setCell _ _ _ _ (fun e => hb g rfl e)).trans hblk, r⟩
theorem own_butI {W W' : World} {base : Nat} {e : TypeId} {size : Nat} {v : Value} {n : Nat} {xs : List Value} {S : Nat → Prop} (h : W.ownsRow base e size v n xs) (hb : But S W W') (hS : ∀ k cs, v.ownBlock = some k → W.heap[k]? = some (.cells cs e (0, 0)) → ¬ S k) : W'.ownsRow base e size v n xs := by
  refine ⟨h.1, ?_⟩
  rcases h.2 with h0 | ⟨g, cap, cur, rfl, hg, hblk, r⟩
  · exact .inl h0
  · exact .inr ⟨g, cap, cur, rfl, hg, (hb.block g (Array.getElem?_eq_some_iff.1 hblk).1 (hS g cur rfl hblk)).trans hblk, r⟩

set_option maxRecDepth 8000 in
set_option maxHeartbeats 1000000 in
theorem take_one (wb r : Nat) (cs : List Value) (t : TypeId) (mf : Bm.MS) (w : World) (hw : BlkAt w wb cs t) (h1 : cs[1]? = some (.pointer (some ⟨mf.a, 0, none⟩))) (h2 : cs[2]? = some (.slice none 0 0)) (hm : Bm.MapAt w mf) (ht : Bm.Tab64 w) (hL : Least mf r) (hr : r < 65536) (htt : t ≠ 141 ∧ t ≠ 142) :
    Calls Tryz.prog 173 #[.pointer (some ⟨wb, 0, none⟩)] w fun e w' => e = .returned (.tuple #[.int .u32 (r : Nat), .int .i64 0]) ∧ ∃ g cap, BlkAt w' wb (cs.set 2 (.slice (some ⟨g, 0, none⟩) 1 cap)) t ∧ w'.ownsRow w.heap.size 3 1 (.slice (some ⟨g, 0, none⟩) 1 cap) 1 [.int .i64 (r : Nat)] ∧ Bm.MapAt w' (mf.turn r) ∧ But (fun k => k = mf.b ∨ k = wb) w w' := by
  have ct := Bm.take_any mf w hm ht
  have d1 := hw.cell h1
  have hcv : IntKind.u32.wrap (r : Int) = (r : Int) := by rw [IntKind.wrap_u32]; omega
  obtain ⟨k0, hk0, hx0, hx1, hx2⟩ := info_parts Tryz.infoI
  have HW : Hid (BlkAt w wb cs t ∧ wb ≠ mf.b ∧ wb ≠ mf.a) := ⟨hw, map_b_ne hm hw htt.2, map_a_ne hm hw htt.1⟩
  clear hm ht hw
  go_enter Tryz.func173, Tryz.ntmps173
  go_wp2_with (go_at_call 191; refine ct.mono ?_; rintro e w1 ⟨m1, ho, hm1, hb1⟩; obtain ⟨rfl, rfl⟩ := take_least hL ho; clear ct ho; refine Stop.out ?_)
  refine Stop.mk ?_
  have hw1 : BlkAt w1 wb cs t := HW.out.1.but (only_but hb1) HW.out.2.1
  have d2 := hw1.cell h2
  have H1 : Hid (Bm.MapAt w1 (mf.turn r) ∧ But (fun k => k = mf.b) w w1 ∧ BlkAt w1 wb cs t) := ⟨hm1, only_but hb1, hw1⟩
  have hz1 := hb1.size
  clear hm1 hb1 hw1
  go_wp2_with (at_builtin; refine Stop.out ?_)
  refine Stop.mk ?_
  refine wpList_append_own_at _ rfl _ _ 106 rfl w.heap.size 3 k0 (.int .i64 0) 1 8 Tryz.underlying106 hk0 hx0 hx1 hx2 rfl (by decide) (.slice none 0 0) 0 [] rfl ⟨rfl, .inl ⟨rfl, rfl⟩⟩ ⟨w1.heap.size, 0, none⟩ 1 1 [.int .i64 (r : Nat)] rfl rfl (cell_one_new _ _ _) (by intro u hu; rw [List.mem_singleton.1 hu]; rfl) (by unfold maxLen; omega) (by omega) (by simp; omega) ?_
  intro v2 w2 hown2 hg2 _ hat2
  obtain ⟨g, cap, rfl, _, _⟩ := hown2.form (by omega)
  have hb2 : Below w1.heap.size w1 w2 := ((Below.refl _ w1).alloc (Nat.le_refl _) _).grown hg2 (by simp) (fun k e => by cases e)
  have hg : g = w1.heap.size + 1 := by
    rcases hat2 with e | e
    · cases e
    · simpa [Value.ownBlock] using e
  have hw2 : BlkAt w2 wb cs t := H1.out.2.2.below hb2
  have d3 := hw2.cell h2
  have f3 : w2.frozen? ⟨wb, 2, none⟩ = false := frozenOf hw2 _
  have hltw := H1.out.2.2.lt
  have hgwb : g ≠ wb := by omega
  have hma2 : wb ≠ mf.a ∧ wb ≠ mf.b := ⟨HW.out.2.2, HW.out.2.1⟩
  have hb12 : But (fun k => k = mf.b ∨ k = wb) w (w2.setCell ⟨wb, 2, none⟩ (.slice (some ⟨g, 0, none⟩) 1 cap)) := ((H1.out.2.1.mono (fun k _ e => .inl e)).trans (But.of_below hb2)).setCell _ (.inr rfl) _
  have hm2 : Bm.MapAt (w2.setCell ⟨wb, 2, none⟩ (.slice (some ⟨g, 0, none⟩) 1 cap)) (mf.turn r) := (H1.out.1.below hb2).keep (Bm.Only.setCell (S := fun k => k = wb) w2 _ _ rfl) (fun e => hma2.1 e.symm) (fun e => hma2.2 e.symm)
  have ho2 : (w2.setCell ⟨wb, 2, none⟩ (.slice (some ⟨g, 0, none⟩) 1 cap)).ownsRow w.heap.size 3 1 (.slice (some ⟨g, 0, none⟩) 1 cap) 1 [.int .i64 (r : Nat)] := own_set hown2 (fun k hk => own_ne hgwb hk) _ _
  have H2 : Hid (BlkAt (w2.setCell ⟨wb, 2, none⟩ (.slice (some ⟨g, 0, none⟩) 1 cap)) wb (cs.set 2 (.slice (some ⟨g, 0, none⟩) 1 cap)) t ∧ (w2.setCell ⟨wb, 2, none⟩ (.slice (some ⟨g, 0, none⟩) 1 cap)).ownsRow w.heap.size 3 1 (.slice (some ⟨g, 0, none⟩) 1 cap) 1 [.int .i64 (r : Nat)] ∧ Bm.MapAt (w2.setCell ⟨wb, 2, none⟩ (.slice (some ⟨g, 0, none⟩) 1 cap)) (mf.turn r) ∧ But (fun k => k = mf.b ∨ k = wb) w (w2.setCell ⟨wb, 2, none⟩ (.slice (some ⟨g, 0, none⟩) 1 cap))) := ⟨hw2.set 2 _, ho2, hm2, hb12⟩
  clear hown2 hg2 hat2 hb2 hw2 hb12 hm2 ho2 hg hltw
  go_wp2
  go_ret2
  exact ⟨rfl, g, cap, H2.out⟩

end Go.Proofs.YtphedokdckoccaaGreatDoor

/-
  A cache of which all is known, and what else lies in memory.
-/
namespace Go.Proofs.YtphedokdckoccaaGreatDoor
open Go.RowKit Go.Maps Go.Sort Go.Shelf

/-- A type of cells that neither a cache nor a volume has. -/
def foreignT (t : TypeId) : Prop := t ≠ 115 ∧ t ≠ 116 ∧ t ≠ 122 ∧ t ≠ 105 ∧ t ≠ 102 ∧ t ≠ 97 ∧ t ≠ 5 ∧ t ≠ 237
def Foreign (w : World) (S : Nat → Prop) : Prop := ∀ k, S k → ∃ cs t fr, w.heap[k]? = some (.cells cs t fr) ∧ foreignT t
theorem CI.foreign {w w' : World} {s : CS} {vs : VS} {B : Nat → By} {S : Nat → Prop} (h : CI w s vs B) (hb : But S w w') (hF : Foreign w S) : CI w' s vs B := by
  have h5 : ∀ g cs t fr, w.heap[g]? = some (.cells cs t fr) → t = 5 ∨ t = 237 → ¬ S g := fun g cs t fr hg ht hS => by
    obtain ⟨cs', t', fr', hk, hf⟩ := hF g hS
    rw [hg] at hk
    simp only [Option.some.injEq, Obj.cells.injEq] at hk
    obtain ⟨_, rfl, _⟩ := hk
    rcases ht with rfl | rfl
    · exact hf.2.2.2.2.2.2.1 rfl
    · exact hf.2.2.2.2.2.2.2 rfl
  refine ⟨h.cm.but hb (fun hS => ?_) (fun k cs t fr hk ht hS => ?_), vi_but h.vi hb (fun k hk hS => ?_) h5, h.vv, h.hf, h.hd, fun a ha => (h.dat a ha).but hb (fun k cs fr hk => h5 k cs 5 fr hk (.inl rfl)), h.hx, h.ord, h.idle, h.dirty, h.dnd, h.used, h.uinj, h.blk, h.clean, h.room⟩
  · obtain ⟨cs', t', fr', hk, _⟩ := hF _ hS
    exact h.cm.hne hk rfl
  · obtain ⟨cs', t', fr', hk', hf⟩ := hF _ hS
    rw [hk] at hk'
    simp only [Option.some.injEq, Obj.cells.injEq] at hk'
    obtain ⟨_, rfl, _⟩ := hk'
    rcases ht with e | e | e
    · exact hf.1 e
    · exact hf.2.1 e
    · exact hf.2.2.1 e
  · obtain ⟨cs', t', fr', hk', hf⟩ := hF _ hS
    exact h.vi.other hk' hf.2.2.2.1 hf.2.2.2.2.1 hf.2.2.2.2.2.1 hk

/-- A cache, known as A. -/
structure CW (w0 w : World) (c : Nat) (vs : VS) (A : AC) (b : Nat) : Prop where
  st : ∃ s B, CI w s vs B ∧ CB s b ∧ s.c = c ∧ acOf s B = A ∧ w0.heap.size ≤ s.h
/-- What a cache's call may turn. -/
def Cmn (w0 w : World) (k : Nat) : Prop := w0.heap.size ≤ k ∧ ∀ cs t fr, w.heap[k]? = some (.cells cs t fr) → cTag t
theorem cmn_of {w0 w : World} {s : CS} {vs : VS} {B : Nat → By} (h : CI w s vs B) (hl : w0.heap.size ≤ s.h) : ∀ k, cMine w s.h k → Cmn w0 w k := by
  rintro k (rfl | ⟨hk, cs, t, fr, hb, ht⟩)
  · exact ⟨hl, fun cs t fr hk => absurd rfl (h.cm.hne hk)⟩
  · refine ⟨Nat.le_trans hl hk, fun cs' t' fr' hk' => ?_⟩
    rw [hb] at hk'
    simp only [Option.some.injEq, Obj.cells.injEq] at hk'
    rw [← hk'.2.1]; exact ht
theorem cmn_not {w0 w : World} {g : Nat} {cs : Array Value} {t : TypeId} {fr : Nat × Nat} (h : w.heap[g]? = some (.cells cs t fr)) (ht : ¬ cTag t) : ¬ Cmn w0 w g := fun hc => ht (hc.2 _ _ _ h)
theorem cTag_not {t : TypeId} (h1 : t ≠ 115) (h2 : t ≠ 116) (h3 : t ≠ 122) : ¬ cTag t := by
  rintro (e | e | e)
  · exact h1 e
  · exact h2 e
  · exact h3 e
theorem BlkAt.cache {w0 w w' : World} {g : Nat} {cs : List Value} {t : TypeId} (h : BlkAt w g cs t) (hb : But (Cmn w0 w) w w') (ht : ¬ cTag t) : BlkAt w' g cs t := h.but hb (cmn_not h ht)
theorem CW.below {w0 w w' : World} {c : Nat} {vs : VS} {A : AC} {b : Nat} (h : CW w0 w c vs A b) (hb : Below w.heap.size w w') : CW w0 w' c vs A b := by
  obtain ⟨s, B, h1, h2, h3, h4, h5⟩ := h.st
  exact ⟨s, B, h1.below hb, h2, h3, h4, h5⟩
theorem CW.foreign {w0 w w' : World} {c : Nat} {vs : VS} {A : AC} {b : Nat} {S : Nat → Prop} (h : CW w0 w c vs A b) (hb : But S w w') (hF : Foreign w S) : CW w0 w' c vs A b := by
  obtain ⟨s, B, h1, h2, h3, h4, h5⟩ := h.st
  exact ⟨s, B, h1.foreign hb hF, h2, h3, h4, h5⟩

theorem cw_pin (w0 w : World) (c : Nat) (vs : VS) (A : AC) (b x : Nat) (h : CW w0 w c vs A b) (hb : b < 800000) (hx : x < nbOf vs.d.n) (hok : A.held x = true ∨ A.full = false) (hp : ∀ e ∈ A.L, e.pins < 1000000) :
    Calls Tryz.prog 26 #[ep c, .int .i64 (x : Nat)] w fun e w' => e = .returned (.int .i64 0) ∧ CW w0 w' c vs (A.meet x (vs.cont x) (fun x => { x with pins := x.pins + 1 })) (b + 1) ∧ But (Cmn w0 w) w w' := by
  obtain ⟨s, B, h1, h2, rfl, rfl, h5⟩ := h.st
  refine (pin_ok s vs B x b w h1 h2 hb hx hok (fun a ha => hp (heOf s.U B a) (List.mem_map.2 ⟨a, ha, rfl⟩))).mono ?_
  rintro e w' ⟨rfl, s', B', hC, hA⟩
  exact ⟨rfl, ⟨s', B', hC.ci, hC.cb, hC.c, hA, by rw [hC.h]; exact h5⟩, hC.but.mono (fun k _ hk => cmn_of h1 h5 k hk)⟩
theorem cw_put (w0 w : World) (c : Nat) (vs : VS) (A : AC) (b x : Nat) (q : Option Addr) (cp : Nat) (bs : By) (h : CW w0 w c vs A b) (hb : b < 800000) (he : ∃ e ∈ A.L, e.block = x ∧ e.dirty = false) (hbs : Bytes w q bs) (hbl : bs.length = 512) (htag : ∀ g o, q = some ⟨g, o, none⟩ → ∃ cs fr, w.heap[g]? = some (.cells cs 5 fr)) :
    Calls Tryz.prog 31 #[ep c, .int .i64 (x : Nat), .slice q 512 cp] w fun e w' => e = .returned (.int .i64 0) ∧ CW w0 w' c vs (A.put x bs) (b + 1) ∧ But (Cmn w0 w) w w' := by
  obtain ⟨s, B, h1, h2, rfl, rfl, h5⟩ := h.st
  obtain ⟨e, hm, rfl, hd⟩ := he
  obtain ⟨a, ha, rfl⟩ := List.mem_map.1 hm
  refine (put_held s vs B a b q cp bs w h1 h2 ha hd hbs hbl hb htag).mono ?_
  rintro e w' ⟨rfl, s', B', hC, hA⟩
  exact ⟨rfl, ⟨s', B', hC.ci, hC.cb, hC.c, hA, by rw [hC.h]; exact h5⟩, hC.but.mono (fun k _ hk => cmn_of h1 h5 k hk)⟩
theorem cw_unpin (w0 w : World) (c : Nat) (vs : VS) (A : AC) (b x : Nat) (h : CW w0 w c vs A b) (he : ∃ e ∈ A.L, e.block = x ∧ 0 < e.pins ∧ e.pins < 1000000) :
    Calls Tryz.prog 28 #[ep c, .int .i64 (x : Nat)] w fun e w' => e = .returned (.int .i64 0) ∧ CW w0 w' c vs (A.unpin x) (b + 1) ∧ But (Cmn w0 w) w w' := by
  obtain ⟨s, B, h1, h2, rfl, rfl, h5⟩ := h.st
  obtain ⟨e, hm, rfl, hp, hp2⟩ := he
  obtain ⟨a, ha, rfl⟩ := List.mem_map.1 hm
  refine (unpin_ok s vs B a b w h1 h2 ha hp hp2).mono ?_
  rintro e w' ⟨rfl, s', hC, hA⟩
  exact ⟨rfl, ⟨s', B, hC.ci, hC.cb, hC.c, hA, by rw [hC.h]; exact h5⟩, hC.but.mono (fun k _ hk => cmn_of h1 h5 k hk)⟩
theorem cw_get (w0 w : World) (c : Nat) (vs : VS) (A : AC) (b x : Nat) (h : CW w0 w c vs A b) (hb : b < 800000) (hx : x < nbOf vs.d.n) (hok : A.held x = true ∨ A.full = false) :
    Calls Tryz.prog 24 #[ep c, .int .i64 (x : Nat)] w fun e w' => ∃ g cap, e = .returned (.tuple #[.slice (some ⟨g, 0, none⟩) 512 cap, .int .i64 0]) ∧ CW w0 w' c vs (A.meet x (vs.cont x) id) (b + 1) ∧ But (Cmn w0 w) w w' ∧ Bytes w' (some ⟨g, 0, none⟩) ((A.meet x (vs.cont x) id).dataOf x) ∧ ((A.meet x (vs.cont x) id).dataOf x).length = 512 := by
  obtain ⟨s, B, h1, h2, rfl, rfl, h5⟩ := h.st
  refine (get_ok s vs B x b w h1 h2 hb hx hok).mono ?_
  rintro e w' ⟨g, cap, rfl, s', B', hC, hA, hby, hlen⟩
  rw [hA] at hby hlen
  exact ⟨g, cap, rfl, ⟨s', B', hC.ci, hC.cb, hC.c, hA, by rw [hC.h]; exact h5⟩, hC.but.mono (fun k _ hk => cmn_of h1 h5 k hk), hby, hlen⟩

end Go.Proofs.YtphedokdckoccaaGreatDoor

/-
  Package inode: a write's parts: put, find, fill.
-/
namespace Go.Proofs.YtphedokdckoccaaGreatDoor
open Go.RowKit Go.Maps Go.Sort Go.Shelf

/-- A first element is appended, and the field that holds the slice is set. -/
theorem app_first {w1 w2 : World} {wb base : Nat} {cs : List Value} {t e : TypeId} {size : Nat} {v2 : Value} {xs : List Value} {o : Obj} (hw : BlkAt w1 wb cs t) (hown : w2.ownsRow base e size v2 1 xs) (hg : (w1.alloc o).grownBy w2 none)
    (hat : v2.ownBlock = (Value.slice none 0 0).ownBlock ∨ v2.ownBlock = some (w1.alloc o).heap.size) :
    ∃ g cap, v2 = .slice (some ⟨g, 0, none⟩) 1 cap ∧ BlkAt w2 wb cs t ∧ Below w1.heap.size w1 w2 ∧ w1.heap.size < g ∧ ∀ i, BlkAt (w2.setCell ⟨wb, i, none⟩ (.slice (some ⟨g, 0, none⟩) 1 cap)) wb (cs.set i (.slice (some ⟨g, 0, none⟩) 1 cap)) t ∧ (w2.setCell ⟨wb, i, none⟩ (.slice (some ⟨g, 0, none⟩) 1 cap)).ownsRow base e size (.slice (some ⟨g, 0, none⟩) 1 cap) 1 xs ∧ But (fun k => k = wb) w1 (w2.setCell ⟨wb, i, none⟩ (.slice (some ⟨g, 0, none⟩) 1 cap)) := by
  obtain ⟨g, cap, rfl, _, _⟩ := hown.form (by omega)
  have hb : Below w1.heap.size w1 w2 := ((Below.refl _ w1).alloc (Nat.le_refl _) _).grown hg (by simp) (fun k e => by cases e)
  have hgs : g = w1.heap.size + 1 := by
    rcases hat with e | e
    · cases e
    · simpa [Value.ownBlock] using e
  have hlt := hw.lt
  have hw2 : BlkAt w2 wb cs t := hw.below hb
  exact ⟨g, cap, rfl, hw2, hb, by omega, fun i => ⟨hw2.set i _, own_set hown (fun k hk => own_ne (by omega) hk) _ _, (But.of_below (S := fun k => k = wb) hb).setCell _ rfl _⟩⟩

set_option maxRecDepth 8000 in
set_option maxHeartbeats 1000000 in
theorem iput_first (wb n dg dc : Nat) (cs : List Value) (t : TypeId) (w : World) (hw : BlkAt w wb cs t) (h4 : cs[4]? = some (.slice none 0 0)) (hn : n < 65536) :
    Calls Tryz.prog 174 #[.pointer (some ⟨wb, 0, none⟩), .int .u32 (n : Nat), .slice (some ⟨dg, 0, none⟩) 512 dc] w fun e w' => e = .returned (.tuple #[]) ∧ ∃ g cap, BlkAt w' wb (cs.set 4 (.slice (some ⟨g, 0, none⟩) 1 cap)) t ∧ w'.ownsRow w.heap.size 91 2 (.slice (some ⟨g, 0, none⟩) 1 cap) 1 [.int .i64 (n : Nat), .slice (some ⟨dg, 0, none⟩) 512 dc] ∧ But (fun k => k = wb) w w' := by
  have d1 := hw.cell h4
  obtain ⟨k0, hk0, hx0, hx1, hx2⟩ := info_parts Tryz.infoAPut
  have hcv : IntKind.i64.wrap (n : Int) = (n : Int) := by rw [IntKind.wrap_i64]; omega
  have HW : Hid (BlkAt w wb cs t) := hw
  clear hw
  go_enter Tryz.func174, Tryz.ntmps174
  go_wp2_with (at_builtin; refine Stop.out ?_)
  refine Stop.mk ?_
  refine wpList_append_own_at _ rfl _ _ 92 rfl w.heap.size 91 k0 (.agg #[.int .i64 0, .slice none 0 0]) 2 32 Tryz.underlying92 hk0 hx0 hx1 hx2 rfl (by decide) (.slice none 0 0) 0 [] rfl ⟨rfl, .inl ⟨rfl, rfl⟩⟩ ⟨w.heap.size, 0, none⟩ 1 1 [.int .i64 (n : Nat), .slice (some ⟨dg, 0, none⟩) 512 dc] rfl rfl (cell_two_new _ _ _ _) (by intro u hu; simp at hu; rcases hu with rfl | rfl <;> rfl) (by unfold maxLen; omega) (by omega) (by simp) ?_
  intro v2 w2 hown2 hg2 _ hat2
  obtain ⟨g, cap, rfl, hw2, hb2, hgl, H⟩ := app_first HW.out hown2 hg2 hat2
  have d3 := hw2.cell h4
  have f3 : w2.frozen? ⟨wb, 4, none⟩ = false := frozenOf hw2 _
  have H2 : Hid _ := H 4
  clear hown2 hg2 hat2 hb2 hw2 H
  go_wp2
  go_end0
  exact ⟨rfl, g, cap, H2.out⟩

theorem cell_three_new (w : World) (x y z : Value) (t : TypeId) : ∀ j u, [x, y, z][j]? = some u → (w.alloc (.cells #[x, y, z] t)).cell? ((⟨w.heap.size, 0, none⟩ : Addr).add j) = some u := by
  intro j u hj
  rw [Addr.add_lit, Nat.zero_add, cellOf (heap_alloc_new w _) j]
  simpa using hj

set_option maxRecDepth 8000 in
set_option maxHeartbeats 1000000 in
theorem find_one (wb r q : Nat) (cs : List Value) (mf : Bm.MS) (w : World) (hw : BlkAt w wb cs 150) (h1 : cs[1]? = some (.pointer (some ⟨mf.a, 0, none⟩))) (h2 : cs[2]? = some (.slice none 0 0)) (h7 : cs[7]? = some (.slice none 0 0)) (hm : Bm.MapAt w mf) (ht : Bm.Tab64 w) (hL : Least mf r) (hr : r < 65536) :
    Calls Tryz.prog 134 #[.pointer (some ⟨wb, 0, none⟩), .int .i64 (q : Nat), .int .u32 0] w fun e w' => e = .returned (.tuple #[.int .u32 (r : Nat), .int .i64 0]) ∧ ∃ g cap g7 cap7, BlkAt w' wb ((cs.set 2 (.slice (some ⟨g, 0, none⟩) 1 cap)).set 7 (.slice (some ⟨g7, 0, none⟩) 1 cap7)) 150 ∧ w'.ownsRow w.heap.size 3 1 (.slice (some ⟨g, 0, none⟩) 1 cap) 1 [.int .i64 (r : Nat)] ∧ w'.ownsRow w.heap.size 192 3 (.slice (some ⟨g7, 0, none⟩) 1 cap7) 1 [.int .i64 (q : Nat), .int .u32 (r : Nat), .bool true] ∧ Bm.MapAt w' (mf.turn r) ∧ But (fun k => k = mf.b ∨ k = wb) w w' := by
  have cT := take_one wb r cs 150 mf w hw h1 h2 hm ht hL hr (by decide)
  obtain ⟨k0, hk0, hx0, hx1, hx2⟩ := info_parts Tryz.infoSpot
  have hmn := hm.ne
  have HW : Hid (wb ≠ mf.b ∧ wb ≠ mf.a) := ⟨map_b_ne hm hw (by decide), map_a_ne hm hw (by decide)⟩
  clear hm ht hw
  go_enter Tryz.func134, Tryz.ntmps134
  go_wp2_with (go_at_call 173; refine cT.mono ?_; rintro e w1 ⟨rfl, g, cap, hw1, ho1, hm1, hb1⟩; clear cT; refine Stop.out ?_)
  refine Stop.mk ?_
  have h7' : (cs.set 2 (.slice (some ⟨g, 0, none⟩) 1 cap))[7]? = some (.slice none 0 0) := by rw [List.getElem?_set_ne (by decide)]; exact h7
  have d7 := hw1.cell h7'
  have hz1 := hb1.size
  have H1 : Hid (BlkAt w1 wb (cs.set 2 (.slice (some ⟨g, 0, none⟩) 1 cap)) 150 ∧ w1.ownsRow w.heap.size 3 1 (.slice (some ⟨g, 0, none⟩) 1 cap) 1 [.int .i64 (r : Nat)] ∧ Bm.MapAt w1 (mf.turn r) ∧ But (fun k => k = mf.b ∨ k = wb) w w1) := ⟨hw1, ho1, hm1, hb1⟩
  clear hw1 ho1 hm1 hb1
  go_wp2_with (at_builtin; refine Stop.out ?_)
  refine Stop.mk ?_
  refine wpList_append_own_at _ rfl _ _ 148 rfl w.heap.size 192 k0 (.agg #[.int .i64 0, .int .u32 0, .bool false]) 3 16 Tryz.underlying148 hk0 hx0 hx1 hx2 rfl (by decide) (.slice none 0 0) 0 [] rfl ⟨rfl, .inl ⟨rfl, rfl⟩⟩ ⟨w1.heap.size, 0, none⟩ 1 1 [.int .i64 (q : Nat), .int .u32 (r : Nat), .bool true] rfl rfl (cell_three_new _ _ _ _ _) (by intro u hu; simp at hu; rcases hu with rfl | rfl | rfl <;> rfl) (by unfold maxLen; omega) (by omega) (by simp; omega) ?_
  intro v2 w2 hown2 hg2 _ hat2
  obtain ⟨g7, cap7, rfl, hw2, hb2, hgl, H⟩ := app_first H1.out.1 hown2 hg2 hat2
  have d3 := hw2.cell h7'
  have f3 : w2.frozen? ⟨wb, 7, none⟩ = false := frozenOf hw2 _
  obtain ⟨x1, x2, x3⟩ := H 7
  have hgw : g ≠ wb := fun e => by
    obtain ⟨g', _, cur, e', _, hblk, _⟩ : ∃ g' cap' cur, (Value.slice (some ⟨g, 0, none⟩) 1 cap) = .slice (some ⟨g', 0, none⟩) 1 cap' ∧ w.heap.size ≤ g' ∧ w1.heap[g']? = some (.cells cur 3 (0, 0)) ∧ True := by
      rcases H1.out.2.1.2 with ⟨e, _⟩ | ⟨g', cap', cur, e, hge, hblk, _⟩
      · cases e
      · exact ⟨g', cap', cur, e, hge, hblk, trivial⟩
    cases e'
    subst e
    rw [show w1.heap[g]? = _ from H1.out.1] at hblk
    simp only [Option.some.injEq, Obj.cells.injEq] at hblk
    exact absurd hblk.2.1 (by decide)
  have H2 : Hid (BlkAt (w2.setCell ⟨wb, 7, none⟩ (.slice (some ⟨g7, 0, none⟩) 1 cap7)) wb ((cs.set 2 (.slice (some ⟨g, 0, none⟩) 1 cap)).set 7 (.slice (some ⟨g7, 0, none⟩) 1 cap7)) 150 ∧ (w2.setCell ⟨wb, 7, none⟩ (.slice (some ⟨g7, 0, none⟩) 1 cap7)).ownsRow w.heap.size 3 1 (.slice (some ⟨g, 0, none⟩) 1 cap) 1 [.int .i64 (r : Nat)] ∧ (w2.setCell ⟨wb, 7, none⟩ (.slice (some ⟨g7, 0, none⟩) 1 cap7)).ownsRow w.heap.size 192 3 (.slice (some ⟨g7, 0, none⟩) 1 cap7) 1 [.int .i64 (q : Nat), .int .u32 (r : Nat), .bool true] ∧ Bm.MapAt (w2.setCell ⟨wb, 7, none⟩ (.slice (some ⟨g7, 0, none⟩) 1 cap7)) (mf.turn r) ∧ But (fun k => k = mf.b ∨ k = wb) w (w2.setCell ⟨wb, 7, none⟩ (.slice (some ⟨g7, 0, none⟩) 1 cap7))) :=
    ⟨x1, own_set (own_belowT H1.out.2.1 hb2) (fun k hk => own_ne hgw hk) _ _, x2, H1.out.2.2.1.keep (but_only x3) (fun e => HW.out.2 e.symm) (fun e => HW.out.1 e.symm), H1.out.2.2.2.trans (x3.mono (fun k _ e => .inr e))⟩
  clear hown2 hg2 hat2 hb2 hw2 H x1 x2 x3 hgl
  go_wp2
  go_ret2
  exact ⟨rfl, g, cap, g7, cap7, H2.out⟩

end Go.Proofs.YtphedokdckoccaaGreatDoor

/-
  Package inode: a change of one block is done.
-/
namespace Go.Proofs.YtphedokdckoccaaGreatDoor
open Go.RowKit Go.Maps Go.Sort Go.Shelf

/-- One put that lies in a row. -/
structure Put1 (w : World) (g cap r dg : Nat) (D : By) : Prop where
  row : ∃ cur, w.heap[g]? = some (.cells cur 91 (0, 0)) ∧ cur[0]? = some (.int .i64 (r : Nat)) ∧ cur[1]? = some (.slice (some ⟨dg, 0, none⟩) 512 512)
  dat : w.heap[dg]? = some (.cells (D.map u8v).toArray 5 (0, 0))
theorem Put1.c0 {w : World} {g cap r dg : Nat} {D : By} (h : Put1 w g cap r dg D) : w.cell? ⟨g, 0, none⟩ = some (.int .i64 (r : Nat)) := by
  obtain ⟨cur, h1, h2, _⟩ := h.row; rw [cellOf h1 0]; exact h2
theorem Put1.c1 {w : World} {g cap r dg : Nat} {D : By} (h : Put1 w g cap r dg D) : w.cell? ⟨g, 1, none⟩ = some (.slice (some ⟨dg, 0, none⟩) 512 512) := by
  obtain ⟨cur, h1, _, h2⟩ := h.row; rw [cellOf h1 1]; exact h2
theorem Put1.below {w w' : World} {g cap r dg : Nat} {D : By} (h : Put1 w g cap r dg D) (hb : Below w.heap.size w w') : Put1 w' g cap r dg D := by
  obtain ⟨cur, h1, h2, h3⟩ := h.row
  exact ⟨⟨cur, (hb.block g (Array.getElem?_eq_some_iff.1 h1).1).trans h1, h2, h3⟩, (hb.block dg (Array.getElem?_eq_some_iff.1 h.dat).1).trans h.dat⟩
theorem Put1.cache {w0 w w' : World} {g cap r dg : Nat} {D : By} (h : Put1 w g cap r dg D) (hb : But (Cmn w0 w) w w') : Put1 w' g cap r dg D := by
  obtain ⟨cur, h1, h2, h3⟩ := h.row
  exact ⟨⟨cur, (hb.block g (Array.getElem?_eq_some_iff.1 h1).1 (cmn_not h1 (cTag_not (by decide) (by decide) (by decide)))).trans h1, h2, h3⟩, (hb.block dg (Array.getElem?_eq_some_iff.1 h.dat).1 (cmn_not h.dat (cTag_not (by decide) (by decide) (by decide)))).trans h.dat⟩

/-- A cache in which one block was put. -/
def pinned1 (A : AC) (x : Nat) (d : By) : AC := A.meet x d (fun e => { e with pins := e.pins + 1 })

theorem cmn_after {w0 w w1 w2 : World} (hb : Below w.heap.size w w1) (h : But (Cmn w0 w1) w1 w2) : But (Cmn w0 w) w w2 :=
  (But.of_below (S := Cmn w0 w) hb).after h fun i hi hc => ⟨hc.1, fun cs t fr hk => hc.2 cs t fr ((hb.block i hi).trans hk)⟩
theorem cmn_trans {w0 w w1 w2 : World} (h1 : But (Cmn w0 w) w w1) (h2 : But (Cmn w0 w1) w1 w2) : But (Cmn w0 w) w w2 := by
  refine h1.after h2 fun i hi hc => ⟨hc.1, fun cs t fr hk => ?_⟩
  apply Classical.byContradiction
  intro hn
  have := h1.block i hi (fun hc' => hn (hc'.2 cs t fr hk))
  exact hn (hc.2 cs t fr (this.trans hk))

set_option maxRecDepth 8000 in
set_option maxHeartbeats 1000000 in
theorem unpin_one (w0 w : World) (wb c g cap r dg b : Nat) (cs : List Value) (t : TypeId) (D : By) (vs : VS) (A : AC) (hw : BlkAt w wb cs t) (h0 : cs[0]? = some (ep c)) (hP : Put1 w g cap r dg D) (hC : CW w0 w c vs A b) (he : ∃ e ∈ A.L, e.block = r ∧ 0 < e.pins ∧ e.pins < 1000000) :
    Calls Tryz.prog 192 #[.pointer (some ⟨wb, 0, none⟩), .slice (some ⟨g, 0, none⟩) 1 cap] w fun e w' => e = .returned (.tuple #[]) ∧ CW w0 w' c vs (A.unpin r) (b + 1) ∧ But (Cmn w0 w) w w' := by
  have p0 := hP.c0
  have p1 := hP.c1
  have HW : Hid (BlkAt w wb cs t ∧ Put1 w g cap r dg D ∧ CW w0 w c vs A b) := ⟨hw, hP, hC⟩
  clear hw hP hC
  go_enter Tryz.func192, Tryz.ntmps192
  go_wp2_with fail
  go_loopw [8] (fun ii wr => ∃ i : Nat, i ≤ 1 ∧ ii = .int .i64 i ∧ Hid ((i = 0 ∧ wr = w) ∨ (i = 1 ∧ CW w0 wr c vs (A.unpin r) (b + 1) ∧ But (Cmn w0 w) w wr))) (fun ii _ => 1 - (intOf ii).toNat)
  case atStart => exact ⟨0, by omega, rfl, .inl ⟨rfl, rfl⟩⟩
  case round =>
    obtain ⟨i, hi, rfl, HI⟩ := hrel
    by_cases hi0 : i = 0
    · subst hi0
      obtain rfl : wr = w := by
        rcases HI.out with ⟨_, e⟩ | ⟨e, _⟩
        · exact e
        · cases e
      clear HI
      obtain ⟨w1, hw1⟩ : ∃ w1, w1 = wr.alloc (.cells #[.int .i64 (r : Nat), .slice (some ⟨dg, 0, none⟩) 512 512] 91) := ⟨_, rfl⟩
      have hB1 : Below wr.heap.size wr w1 := by rw [hw1]; exact (Below.refl _ wr).alloc (Nat.le_refl _) _
      have d0 := (HW.out.1.below hB1).cell h0
      have q0 : w1.cell? ⟨wr.heap.size, 0, none⟩ = some (.int .i64 (r : Nat)) := by rw [hw1, cellOf (heap_alloc_new wr _) 0]; rfl
      have cU := cw_unpin w0 w1.drew c vs A b r ((HW.out.2.2.below hB1).below ((Below.refl _ w1).drew)) he
      have H1 : Hid (Below wr.heap.size wr w1) := hB1
      clear hB1
      go_wp2_with fail
      rw [← hw1]
      clear hw1 p0 p1
      go_region_with (go_at_call 28; refine cU.mono ?_; rintro e w2 ⟨rfl, hC2, hb2⟩)
      all_goals
        have H2 : Hid (CW w0 w2 c vs (A.unpin r) (b + 1) ∧ But (Cmn w0 wr) wr w2) := ⟨hC2, cmn_after H1.out.drew hb2⟩
        clear cU hC2 hb2 d0 q0
        go_wp2
        exact ⟨⟨1, by omega, rfl, .inr ⟨rfl, H2.out⟩⟩, by simp [intOf]⟩
    · obtain rfl : i = 1 := by omega
      go_wp2
      go_end0
      rcases HI.out with ⟨e, _⟩ | ⟨_, h⟩
      · omega
      · exact ⟨rfl, h⟩

end Go.Proofs.YtphedokdckoccaaGreatDoor

/-
  Package inode: putAll of one put.
-/
namespace Go.Proofs.YtphedokdckoccaaGreatDoor
open Go.RowKit Go.Maps Go.Sort Go.Shelf

set_option maxRecDepth 8000 in
set_option maxHeartbeats 4000000 in
theorem putAll_one (w0 w : World) (wb c g cap r dg b : Nat) (cs : List Value) (t : TypeId) (D : By) (vs : VS) (A : AC) (hw : BlkAt w wb cs t) (ht : ¬ cTag t) (h0 : cs[0]? = some (ep c)) (h4 : cs[4]? = some (.slice (some ⟨g, 0, none⟩) 1 cap)) (hP : Put1 w g cap r dg D) (hDl : D.length = 512) (hC : CW w0 w c vs A b) (hb : b < 700000) (hr : r < nbOf vs.d.n) (hok : A.held r = true ∨ A.full = false) (hp : ∀ e ∈ A.L, e.pins < 1000000)
    (he1 : ∃ e ∈ (pinned1 A r (vs.cont r)).L, e.block = r ∧ e.dirty = false) (he2 : ∃ e ∈ ((pinned1 A r (vs.cont r)).put r D).L, e.block = r ∧ 0 < e.pins ∧ e.pins < 1000000) :
    Calls Tryz.prog 175 #[.pointer (some ⟨wb, 0, none⟩)] w fun e w' => e = .returned (.int .i64 0) ∧ CW w0 w' c vs (((pinned1 A r (vs.cont r)).put r D).unpin r) (b + 3) ∧ But (Cmn w0 w) w w' := by
  have d4 := hw.cell h4
  have p0 := hP.c0
  have p1 := hP.c1
  have HW : Hid (BlkAt w wb cs t ∧ Put1 w g cap r dg D ∧ CW w0 w c vs A b) := ⟨hw, hP, hC⟩
  clear hw hP hC
  go_enter Tryz.func175, Tryz.ntmps175
  go_wp2_with fail
  go_loopw [13] (fun ii wr => ∃ i : Nat, i ≤ 1 ∧ ii = .int .i64 i ∧ Hid ((i = 0 ∧ wr = w) ∨ (i = 1 ∧ CW w0 wr c vs (pinned1 A r (vs.cont r)) (b + 1) ∧ But (Cmn w0 w) w wr))) (fun ii _ => 1 - (intOf ii).toNat)
  case atStart => exact ⟨0, by omega, rfl, .inl ⟨rfl, rfl⟩⟩
  case round =>
    obtain ⟨i, hi, rfl, HI⟩ := hrel
    by_cases hi0 : i = 0
    · subst hi0
      obtain rfl : wr = w := by
        rcases HI.out with ⟨_, e⟩ | ⟨e, _⟩
        · exact e
        · cases e
      clear HI
      obtain ⟨w1, hw1⟩ : ∃ w1, w1 = wr.alloc (.cells #[.int .i64 (r : Nat), .slice (some ⟨dg, 0, none⟩) 512 512] 91) := ⟨_, rfl⟩
      have hB1 : Below wr.heap.size wr w1 := by rw [hw1]; exact (Below.refl _ wr).alloc (Nat.le_refl _) _
      have d0 := (HW.out.1.below hB1).cell h0
      have q0 : w1.cell? ⟨wr.heap.size, 0, none⟩ = some (.int .i64 (r : Nat)) := by rw [hw1, cellOf (heap_alloc_new wr _) 0]; rfl
      have cU := cw_pin w0 w1.drew c vs A b r ((HW.out.2.2.below hB1).below ((Below.refl _ w1).drew)) (by omega) hr hok hp
      have H1 : Hid (Below wr.heap.size wr w1) := hB1
      clear hB1
      go_wp2_with fail
      rw [← hw1]
      clear hw1 p0 p1
      go_region_with (go_at_call 26; refine cU.mono ?_; rintro e w2 ⟨rfl, hC2, hb2⟩)
      all_goals
        have H2 : Hid (CW w0 w2 c vs (pinned1 A r (vs.cont r)) (b + 1) ∧ But (Cmn w0 wr) wr w2) := ⟨hC2, cmn_after H1.out.drew hb2⟩
        clear cU hC2 hb2 d0 q0
        go_wp2
        exact ⟨⟨1, by omega, rfl, .inr ⟨rfl, H2.out⟩⟩, by simp [intOf]⟩
    · obtain rfl : i = 1 := by omega
      have H1 : Hid (CW w0 wr c vs (pinned1 A r (vs.cont r)) (b + 1) ∧ But (Cmn w0 w) w wr) := by
        rcases HI.out with ⟨e, _⟩ | ⟨_, h⟩
        · omega
        · exact h
      clear HI d4 p0 p1
      have hw1 := HW.out.1.cache H1.out.2 ht
      have d4 := hw1.cell h4
      have hP1 := HW.out.2.1.cache H1.out.2
      have p0 := hP1.c0
      have p1 := hP1.c1
      clear hw1 hP1
      obtain ⟨wa, rfl⟩ : ∃ wa, wa = wr := ⟨_, rfl⟩
      go_wp2_with fail
      go_loopw [42] (fun ii wr => ∃ i : Nat, i ≤ 1 ∧ ii = .int .i64 i ∧ Hid ((i = 0 ∧ wr = wa) ∨ (i = 1 ∧ CW w0 wr c vs ((pinned1 A r (vs.cont r)).put r D) (b + 2) ∧ But (Cmn w0 w) w wr))) (fun ii _ => 1 - (intOf ii).toNat)
      case atStart => exact ⟨0, by omega, rfl, .inl ⟨rfl, rfl⟩⟩
      case round =>
        obtain ⟨j, hj, rfl, HJ⟩ := hrel
        by_cases hj0 : j = 0
        · subst hj0
          obtain rfl : wr = wa := by
            rcases HJ.out with ⟨_, e⟩ | ⟨e, _⟩
            · exact e
            · cases e
          clear HJ d4
          obtain ⟨w1, hw1⟩ : ∃ w1, w1 = wr.alloc (.cells #[.int .i64 (r : Nat), .slice (some ⟨dg, 0, none⟩) 512 512] 91) := ⟨_, rfl⟩
          have hB1 : Below wr.heap.size wr w1 := by rw [hw1]; exact (Below.refl _ wr).alloc (Nat.le_refl _) _
          have d0 := ((HW.out.1.cache H1.out.2 ht).below hB1).cell h0
          have q0 : w1.cell? ⟨wr.heap.size, 0, none⟩ = some (.int .i64 (r : Nat)) := by rw [hw1, cellOf (heap_alloc_new wr _) 0]; rfl
          have q1 : w1.cell? ⟨wr.heap.size, 1, none⟩ = some (.slice (some ⟨dg, 0, none⟩) 512 512) := by rw [hw1, cellOf (heap_alloc_new wr _) 1]; rfl
          have hPb := (HW.out.2.1.cache H1.out.2).below hB1
          have cU := cw_put w0 w1.drew c vs (pinned1 A r (vs.cont r)) (b + 1) r (some ⟨dg, 0, none⟩) 512 D ((H1.out.1.below hB1).below ((Below.refl _ w1).drew)) (by omega) he1 (bytes_block hPb.dat) hDl (fun g' o' e => by
            cases e
            exact ⟨_, _, hPb.dat⟩)
          have HB1 : Hid (Below wr.heap.size wr w1) := hB1
          clear hB1 hPb
          go_wp2_with fail
          rw [← hw1]
          clear hw1 p0 p1
          go_region_with (go_at_call 31; refine cU.mono ?_; rintro e w2 ⟨rfl, hC2, hb2⟩)
          all_goals
            have H2 : Hid (CW w0 w2 c vs ((pinned1 A r (vs.cont r)).put r D) (b + 2) ∧ But (Cmn w0 w) w w2) := ⟨hC2, cmn_trans H1.out.2 (cmn_after HB1.out.drew hb2)⟩
            clear cU hC2 hb2 d0 q0 q1
            go_wp2
            go_roundw
            case rel => exact ⟨_, _, _, _, _, _, _, _, _, _, _, _, _, _, _, ⟨1, by omega, rfl, .inr ⟨rfl, H2.out⟩⟩, rfl⟩
            case measure => simp [intOf]
        · obtain rfl : j = 1 := by omega
          have H2 : Hid (CW w0 wr c vs ((pinned1 A r (vs.cont r)).put r D) (b + 2) ∧ But (Cmn w0 w) w wr) := by
            rcases HJ.out with ⟨e, _⟩ | ⟨_, h⟩
            · omega
            · exact h
          clear HJ d4 p0 p1
          have hw2 := HW.out.1.cache H2.out.2 ht
          have d4 := hw2.cell h4
          have cU := unpin_one w0 wr wb c g cap r dg (b + 2) cs t D vs _ hw2 h0 (HW.out.2.1.cache H2.out.2) H2.out.1 he2
          clear hw2
          go_wp2_with (go_at_call 192; refine cU.mono ?_; rintro e w3 ⟨rfl, hC3, hb3⟩; clear cU)
          go_ret
          exact ⟨rfl, hC3, cmn_trans H2.out.2 hb3⟩

end Go.Proofs.YtphedokdckoccaaGreatDoor

/-
  Package inode: a spot of a write is filled (three bytes at 700, the block is fresh).
-/
namespace Go.Proofs.YtphedokdckoccaaGreatDoor
open Go.RowKit Go.Maps Go.Sort Go.Shelf

/-- A block of zeros but for three bytes at 188. -/
def abcB (x0 x1 x2 : BitVec 8) : By := List.replicate 188 0#8 ++ ([x0, x1, x2] ++ List.replicate 321 0#8)

theorem own_low_base {W : World} {base base' : Nat} {e : TypeId} {size : Nat} {v : Value} {n : Nat} {xs : List Value} (h : W.ownsRow base e size v n xs) (hb : base' ≤ base) : W.ownsRow base' e size v n xs := by
  refine ⟨h.1, ?_⟩
  rcases h.2 with h0 | ⟨g, cap, cur, e1, hg, r⟩
  · exact .inl h0
  · exact .inr ⟨g, cap, cur, e1, Nat.le_trans hb hg, r⟩

set_option maxRecDepth 8000 in
set_option maxHeartbeats 2000000 in
theorem fill_first (wb bg r : Nat) (cs : List Value) (x0 x1 x2 : BitVec 8) (w : World) (hw : BlkAt w wb cs 150) (h4 : cs[4]? = some (.slice none 0 0)) (h5 : cs[5]? = some (.int .i64 700)) (h6 : cs[6]? = some (.slice (some ⟨bg, 0, none⟩) 3 3)) (hr : r < 65536)
    (hb : w.heap[bg]? = some (.cells #[u8v x0, u8v x1, u8v x2] 5 (3, 4)) ∨ w.heap[bg]? = some (.cells #[u8v x0, u8v x1, u8v x2] 5 (0, 0))) :
    Calls Tryz.prog 135 #[.pointer (some ⟨wb, 0, none⟩), .agg #[.int .i64 1, .int .u32 (r : Nat), .bool true]] w fun e w' => e = .returned (.int .i64 0) ∧ ∃ g cap, BlkAt w' wb (cs.set 4 (.slice (some ⟨g, 0, none⟩) 1 cap)) 150 ∧ w'.ownsRow w.heap.size 91 2 (.slice (some ⟨g, 0, none⟩) 1 cap) 1 [.int .i64 (r : Nat), .slice (some ⟨w.heap.size + 1, 0, none⟩) 512 512] ∧
      w'.heap[w.heap.size + 1]? = some (.cells ((abcB x0 x1 x2).map u8v).toArray 5 (0, 0)) ∧ But (fun k => k = wb) w w' := by
  obtain ⟨w1, hw1⟩ : ∃ w1, w1 = w.alloc (.cells #[.int .i64 1, .int .u32 (r : Nat), .bool true] 192) := ⟨_, rfl⟩
  have hs1 : w1.heap.size = w.heap.size + 1 := by rw [hw1]; simp
  have hB1 : Below w.heap.size w w1 := by rw [hw1]; exact (Below.refl _ w).alloc (Nat.le_refl _) _
  have hx1 : BlkAt w1 w.heap.size [.int .i64 1, .int .u32 (r : Nat), .bool true] 192 := by rw [hw1]; exact heap_alloc_new w _
  have a0 := hx1.cell (i := 0) rfl
  have a1 := hx1.cell (i := 1) rfl
  have a2 := hx1.cell (i := 2) rfl
  have hwb1 := hw.below hB1
  have b5 := hwb1.cell h5
  have b6 := hwb1.cell h6
  go_enter Tryz.func135, Tryz.ntmps135
  go_wp2_with fail
  rw [← hw1]
  clear hw1
  obtain ⟨zs, hzs⟩ : ∃ zs, zs = List.replicate 512 (Value.int .u8 0) := ⟨_, rfl⟩
  have hmk : ∀ W : World, (Instr.makeSlice 55 (.int .i64 512) (.int .i64 512)).run Tryz.prog W = .ok (.slice (some ⟨W.heap.size, 0, none⟩) 512 512) (W.alloc (.cells zs.toArray 5)) := fun W => by rw [hzs]; exact imake W 512 (by omega)
  have HZ : Hid (zs = List.replicate 512 (Value.int .u8 0)) := hzs
  have hmx : (max 700 512 : Int) = 700 := by decide
  have hmn : (min 703 1024 : Int) = 703 := by decide
  have HW : Hid (BlkAt w wb cs 150 ∧ Below w.heap.size w w1 ∧ (w.heap[bg]? = some (.cells #[u8v x0, u8v x1, u8v x2] 5 (3, 4)) ∨ w.heap[bg]? = some (.cells #[u8v x0, u8v x1, u8v x2] 5 (0, 0)))) := ⟨hw, hB1, hb⟩
  have hbg : bg < w.heap.size := by rcases hb with h | h <;> exact (Array.getElem?_eq_some_iff.1 h).1
  clear hzs hw hB1 hb hwb1
  go_quiet (fail)
  go_wp2_with fail
  generalize hw2 : (w1.drewN nq).alloc (.cells zs.toArray 5) = w2
  have hB2 : Below w1.heap.size w1 w2 := by rw [← hw2]; exact (below_drewN (Below.refl _ w1) nq).alloc (Nat.le_refl _) _
  have hx2 : w2.heap[w.heap.size + 1]? = some (.cells zs.toArray 5 (0, 0)) := by rw [← hs1, ← hw2]; exact heap_alloc_new (w1.drewN nq) _
  have hB02 : Below w.heap.size w w2 := HW.out.2.1.trans (hB2.mono (by omega))
  clear hw2 a0 a1 a2 b5 b6
  have hx1' := hx1.below hB2
  have a1 := hx1'.cell (i := 1) rfl
  have hwb2 := HW.out.1.below hB02
  have b5 := hwb2.cell h5
  have b6 := hwb2.cell h6
  have hbg2 : ∀ j v, [u8v x0, u8v x1, u8v x2][j]? = some v → w2.drew.cell? ((⟨bg, 0, none⟩ : Addr).add j) = some v := by
    intro j v hj
    rw [Addr.add_lit, Nat.zero_add]
    have e : w2.heap[bg]? = w.heap[bg]? := hB02.block bg hbg
    show w2.cell? ⟨bg, j, none⟩ = some v
    rcases HW.out.2.2 with h | h
    · rw [cellOf (e.trans h) j, ← hj]; simp
    · rw [cellOf (e.trans h) j, ← hj]; simp
  have hzl : zs.toArray.size = 512 := by rw [HZ.out]; simp
  have hcp : ∀ ty, (Builtin.copy_ #[55, 55] ty #[.slice (some ⟨w.heap.size + 1, 188, none⟩) 324 324, .slice (some ⟨bg, 0, none⟩) 3 3]).run Tryz.prog w2.drew = .ok (.int .i64 3) (w2.drew.setRow (w.heap.size + 1) (zs.toArray.toList.take 188 ++ [u8v x0, u8v x1, u8v x2] ++ zs.toArray.toList.drop (188 + 3)).toArray) :=
    fun ty => run_copy_row (P := Tryz.prog) w2.drew 55 55 ty 5 (w.heap.size + 1) 188 324 324 ⟨bg, 0, none⟩ 3 3 zs.toArray 5 [u8v x0, u8v x1, u8v x2] Tryz.underlying55 Tryz.size5 hx2 rfl hbg2 (by rw [hzl]; exact Nat.le_of_ble_eq_true rfl) (by intro v hv; simp at hv; rcases hv with rfl | rfl | rfl <;> rfl)
  obtain ⟨w3, hw3⟩ : ∃ w3, w3 = w2.drew.setRow (w.heap.size + 1) (zs.toArray.toList.take 188 ++ [u8v x0, u8v x1, u8v x2] ++ zs.toArray.toList.drop (188 + 3)).toArray := ⟨_, rfl⟩
  rw [← hw3] at hcp
  have hx3 : w3.heap[w.heap.size + 1]? = some (.cells ((abcB x0 x1 x2).map u8v).toArray 5 (0, 0)) := by
    rw [hw3, setRow_heap w2.drew _ zs.toArray _ 5 (0, 0) hx2, HZ.out]
    simp [abcB, u8v]
  have hB3 : Below (w.heap.size + 1) w2 w3 := by rw [hw3]; exact below_setRow (Below.refl _ w2).drew (Nat.le_refl _) _
  have hB13 : Below w1.heap.size w1 w3 := hB2.trans (by rw [hs1]; exact hB3)
  have hx13 := hx1.below hB13
  have hB03 : Below w.heap.size w w3 := HW.out.2.1.trans (hB13.mono (by omega))
  have hwb3 := HW.out.1.below hB03
  have p1 := hx13.cell (i := 1) rfl
  have cP := iput_first wb r (w.heap.size + 1) 512 cs 150 w3.drew hwb3 h4 hr
  have H3 : Hid (BlkAt w3 wb cs 150 ∧ Below w.heap.size w w3 ∧ w3.heap[w.heap.size + 1]? = some (.cells ((abcB x0 x1 x2).map u8v).toArray 5 (0, 0))) := ⟨hwb3, hB03, hx3⟩
  clear hw3 hx3 hB3 hB13 hx13 hwb3 hB03 hbg2 hzl hx1' hwb2 hx2 hB2 hB02 hx1
  go_region
  go_wp2_with fail
  go_region_with (go_at_call 174; refine cP.mono ?_; rintro e w4 ⟨rfl, g, cap, y1, y2, y3⟩)
  all_goals
    have H4 : Hid (BlkAt w4 wb (cs.set 4 (.slice (some ⟨g, 0, none⟩) 1 cap)) 150 ∧ w4.ownsRow w.heap.size 91 2 (.slice (some ⟨g, 0, none⟩) 1 cap) 1 [.int .i64 (r : Nat), .slice (some ⟨w.heap.size + 1, 0, none⟩) 512 512] ∧ w4.heap[w.heap.size + 1]? = some (.cells ((abcB x0 x1 x2).map u8v).toArray 5 (0, 0)) ∧ But (fun k => k = wb) w w4) := by
      have hlt := H3.out.1.lt
      have hlw := HW.out.1.lt
      have hs3 := H3.out.2.1.size
      refine ⟨y1, own_low_base y2 (show w.heap.size ≤ w3.drew.heap.size from hs3), (y3.block _ (Array.getElem?_eq_some_iff.1 H3.out.2.2).1 (by omega)).trans H3.out.2.2, (But.of_below H3.out.2.1).trans (S := fun k => k = wb) ⟨y3.os, y3.tape, y3.output, y3.size, y3.block⟩⟩
    clear cP y1 y2 y3
    go_wp2
    go_ret
    exact ⟨rfl, g, cap, H4.out⟩

end Go.Proofs.YtphedokdckoccaaGreatDoor

/-
  A region that draws its order: one proof for each operation, whatever the order; the frame as what each operation has yielded.
-/
namespace Go.Proofs.YtphedokdckoccaaGreatDoor
open Go.RowKit Go.Maps Go.Sort Go.Shelf

/-- Where operation k writes. -/
def slotOf (ops : Array Oper) (k : Nat) : Option Tmp := (ops[k]?).bind (·.dst)

/-- The frame: each operation that is done has written its value. -/
def lay (base : Array Value) (ops : Array Oper) (val : Nat → Value) (b : Nat → Bool) : Nat → Array Value
  | 0 => base
  | k + 1 => match slotOf ops k with
    | some s => if b k = true then (lay base ops val b k).setIfInBounds s (val k) else lay base ops val b k
    | none => lay base ops val b k

/-- No two operations write one place, and each place is there. -/
def apartB (ops : Array Oper) (m : Nat) : Bool := (List.range ops.size).all fun i => match slotOf ops i with
  | some s => decide (s < m) && (List.range ops.size).all fun j => j == i || slotOf ops j != some s
  | none => true
theorem apart_lt {ops : Array Oper} {m i s : Nat} (h : apartB ops m = true) (hi : slotOf ops i = some s) : s < m ∧ ∀ j, j ≠ i → slotOf ops j ≠ some s := by
  have hlt : i < ops.size := by
    by_cases hx : i < ops.size
    · exact hx
    · unfold slotOf at hi
      rw [Array.getElem?_eq_none (by omega)] at hi
      cases hi
  have := (List.all_eq_true.1 h) i (List.mem_range.2 hlt)
  rw [hi] at this
  simp only [Bool.and_eq_true, decide_eq_true_eq] at this
  refine ⟨this.1, fun j hj e => ?_⟩
  have hjlt : j < ops.size := by
    by_cases hx : j < ops.size
    · exact hx
    · unfold slotOf at e
      rw [Array.getElem?_eq_none (by omega)] at e
      cases e
  have := (List.all_eq_true.1 this.2) j (List.mem_range.2 hjlt)
  simp [hj, e] at this

section
variable {base : Array Value} {ops : Array Oper} {val : Nat → Value} {b : Nat → Bool}
theorem lay_size (n : Nat) : (lay base ops val b n).size = base.size := by
  induction n with
  | zero => rfl
  | succ k ih =>
    unfold lay
    split
    · split
      · simpa using ih
      · exact ih
    · exact ih
theorem lay_out (n : Nat) {s : Nat} (h : ∀ j, slotOf ops j ≠ some s) : (lay base ops val b n)[s]? = base[s]? := by
  induction n with
  | zero => rfl
  | succ k ih =>
    unfold lay
    split
    · rename_i t ht
      split
      · rw [Array.getElem?_setIfInBounds_ne (fun e => h k (by rw [ht, e]))]; exact ih
      · exact ih
    · exact ih
theorem lay_in (n : Nat) {i s : Nat} (hi : slotOf ops i = some s) (hn : i < n) (hs : s < base.size) (ha : ∀ j, j ≠ i → slotOf ops j ≠ some s) (hb : b i = true) : (lay base ops val b n)[s]? = some (val i) := by
  induction n with
  | zero => omega
  | succ k ih =>
    by_cases hk : k = i
    · subst hk
      unfold lay
      simp only [hi, hb, if_true]
      rw [Array.getElem?_setIfInBounds_self_of_lt (by rw [lay_size]; exact hs)]
    · unfold lay
      split
      · rename_i t ht
        split
        · rw [Array.getElem?_setIfInBounds_ne (fun e => ha k hk (by rw [ht, e]))]; exact ih (by omega)
        · exact ih (by omega)
      · exact ih (by omega)
theorem lay_did (n : Nat) {i s : Nat} (hi : slotOf ops i = some s) (hn : i < n) (ha : ∀ j, j ≠ i → slotOf ops j ≠ some s) (hb : b i = false) :
    lay base ops val (did b i) n = (lay base ops val b n).setIfInBounds s (val i) := by
  have low : ∀ k, k ≤ i → lay base ops val (did b i) k = lay base ops val b k := by
    intro k
    induction k with
    | zero => intro _; rfl
    | succ k ih =>
      intro hk
      unfold lay
      rw [ih (by omega)]
      have : did b i k = b k := by unfold did; rw [if_neg (by omega)]
      rw [this]
  induction n with
  | zero => omega
  | succ k ih =>
    by_cases hk : k = i
    · subst hk
      unfold lay
      rw [low k (Nat.le_refl _)]
      simp [hi, did, hb]
    · have hd : did b i k = b k := by unfold did; rw [if_neg hk]
      unfold lay
      rw [ih (by omega), hd]
      split
      · rename_i t ht
        split
        · apply Array.ext_getElem?
          intro x
          have hst : t ≠ s := fun e => ha k hk (by rw [ht, e])
          simp only [Array.getElem?_setIfInBounds, Array.size_setIfInBounds]
          by_cases h1 : t = x
          · have h2 : ¬ s = x := fun e => hst (h1.trans e.symm)
            simp [h1, h2]
          · simp [h1]
        · rfl
      · rfl
theorem lay_none (n : Nat) {i : Nat} (hi : slotOf ops i = none) : lay base ops val (did b i) n = lay base ops val b n := by
  induction n with
  | zero => rfl
  | succ k ih =>
    unfold lay
    rw [ih]
    by_cases hk : k = i
    · subst hk; simp [hi]
    · have hd : did b i k = b k := by unfold did; rw [if_neg hk]
      rw [hd]
end

/-- What the frame tells of the place that operation j wrote. -/
theorem lay_eval {base : Array Value} {ops : Array Oper} {val : Nat → Value} {b : Nat → Bool} {d : List Deferred} {m : Nat} (hsz : base.size = m) (hap : apartB ops m = true) (j s : Nat) (hs : slotOf ops j = some s) (hb : b j = true) :
    Act.eval ⟨lay base ops val b ops.size, d⟩ (.tmp s) = val j := by
  subst hsz
  obtain ⟨h1, h2⟩ := apart_lt hap hs
  have hlt : j < ops.size := by
    by_cases hx : j < ops.size
    · exact hx
    · unfold slotOf at hs
      rw [Array.getElem?_eq_none (by omega)] at hs
      cases hs
  have := lay_in (val := val) ops.size hs hlt h1 h2 hb
  show (lay base ops val b ops.size).getD s undef = _
  rw [Array.getD_eq_getD_getElem?, this]
  rfl
/-- .. and of a place that none writes. -/
def noneB (ops : Array Oper) (s : Nat) : Bool := (List.range ops.size).all fun i => slotOf ops i != some s
theorem lay_keep {base : Array Value} {ops : Array Oper} {val : Nat → Value} {b : Nat → Bool} {d : List Deferred} (s : Nat) (h : noneB ops s = true) :
    Act.eval ⟨lay base ops val b ops.size, d⟩ (.tmp s) = base.getD s undef := by
  have h' : ∀ j, slotOf ops j ≠ some s := by
    intro j e
    have hlt : j < ops.size := by
      by_cases hx : j < ops.size
      · exact hx
      · unfold slotOf at e
        rw [Array.getElem?_eq_none (by omega)] at e
        cases e
    have := (List.all_eq_true.1 h) j (List.mem_range.2 hlt)
    simp [e] at this
  show (lay base ops val b ops.size).getD s undef = _
  rw [Array.getD_eq_getD_getElem?, lay_out ops.size h', Array.getD_eq_getD_getElem?]
/-- .. and of a place that is not yet written. -/
theorem lay_till {base : Array Value} {ops : Array Oper} {val : Nat → Value} {b : Nat → Bool} {s : Nat} (h : ∀ j, slotOf ops j = some s → b j = false) : ∀ n, (lay base ops val b n)[s]? = base[s]?
  | 0 => rfl
  | k + 1 => by
    unfold lay
    split
    · rename_i t ht
      split
      · rename_i hb
        have hne : t ≠ s := by
          intro e
          subst e
          rw [h k ht] at hb
          cases hb
        rw [Array.getElem?_setIfInBounds, if_neg hne]
        exact lay_till h k
      · exact lay_till h k
    · exact lay_till h k
def oneB (ops : Array Oper) (s j : Nat) : Bool := (List.range ops.size).all fun i => i == j || slotOf ops i != some s
theorem one_till {ops : Array Oper} {s j : Nat} {b : Nat → Bool} (h : oneB ops s j = true) (hb : b j = false) : ∀ i, slotOf ops i = some s → b i = false := by
  intro i e
  have hlt : i < ops.size := by
    by_cases hx : i < ops.size
    · exact hx
    · unfold slotOf at e
      rw [Array.getElem?_eq_none (by omega)] at e
      cases e
  have := (List.all_eq_true.1 h) i (List.mem_range.2 hlt)
  simp [e] at this
  rw [this]
  exact hb
theorem none_till {ops : Array Oper} {s : Nat} {b : Nat → Bool} (h : noneB ops s = true) : ∀ i, slotOf ops i = some s → b i = false := by
  intro i e
  have hlt : i < ops.size := by
    by_cases hx : i < ops.size
    · exact hx
    · unfold slotOf at e
      rw [Array.getElem?_eq_none (by omega)] at e
      cases e
  have := (List.all_eq_true.1 h) i (List.mem_range.2 hlt)
  simp [e] at this
/-- A guard that is decided. -/
theorem lay_yield {base : Array Value} {ops : Array Oper} {val : Nat → Value} {b : Nat → Bool} {m : Nat} (hsz : base.size = m) (hap : apartB ops m = true) (j s : Nat) (x : Bool) (hs : slotOf ops j = some s) (hb : b j = true) (hv : val j = .bool x) :
    yielded ops (lay base ops val b ops.size) j = some x := by
  subst hsz
  obtain ⟨h1, h2⟩ := apart_lt hap hs
  have hlt : j < ops.size := by
    by_cases hx : j < ops.size
    · exact hx
    · unfold slotOf at hs
      rw [Array.getElem?_eq_none (by omega)] at hs
      cases hs
  have := lay_in (val := val) ops.size hs hlt h1 h2 hb
  unfold yielded
  have e : (ops[j]?).bind (·.dst) = some s := hs
  rw [e, Option.bind_some, this, hv]

/-- The value of operation k, out of a list. -/
def vals (L : List (Option Tmp × Value)) (k : Nat) : Value := (L.getD k (none, undef)).2
/-- All of them written. -/
def putAll (base : Array Value) : List (Option Tmp × Value) → Array Value
  | [] => base
  | (some s, v) :: r => putAll (base.setIfInBounds s v) r
  | (none, _) :: r => putAll base r
theorem putAll_snoc (L : List (Option Tmp × Value)) (x : Option Tmp × Value) : ∀ base, putAll base (L ++ [x]) = match x with | (some s, v) => (putAll base L).setIfInBounds s v | (none, _) => putAll base L := by
  induction L with
  | nil => intro base; obtain ⟨s, v⟩ := x; cases s <;> rfl
  | cons y L ih =>
    intro base
    obtain ⟨s, v⟩ := y
    cases s
    · exact ih base
    · exact ih _
theorem lay_all {base : Array Value} {ops : Array Oper} {L : List (Option Tmp × Value)} (hL : L.map (·.1) = ops.toList.map (·.dst)) : lay base ops (vals L) (fun _ => true) ops.size = putAll base L := by
  have hlen : L.length = ops.size := by
    have := congrArg List.length hL
    simpa using this
  have key : ∀ n, n ≤ ops.size → lay base ops (vals L) (fun _ => true) n = putAll base (L.take n) := by
    intro n
    induction n with
    | zero => intro _; rfl
    | succ k ih =>
      intro hk
      have hkL : k < L.length := by omega
      have hsl : slotOf ops k = (L[k]).1 := by
        have h1 : (L.map (·.1))[k]? = (ops.toList.map (·.dst))[k]? := by rw [hL]
        rw [List.getElem?_map, List.getElem?_map, List.getElem?_eq_getElem hkL] at h1
        have h2 : ops.toList[k]? = ops[k]? := by simp
        rw [h2] at h1
        unfold slotOf
        rw [Array.getElem?_eq_getElem (by omega)] at h1 ⊢
        simpa using h1.symm
      have hv : vals L k = (L[k]).2 := by
        unfold vals
        rw [List.getD, List.getElem?_eq_getElem hkL]
        rfl
      rw [List.take_add_one, List.getElem?_eq_getElem hkL, Option.toList_some, putAll_snoc, ← ih (by omega)]
      have e : lay base ops (vals L) (fun _ => true) (k + 1) = match slotOf ops k with
        | some s => if true = true then (lay base ops (vals L) (fun _ => true) k).setIfInBounds s (vals L k) else lay base ops (vals L) (fun _ => true) k
        | none => lay base ops (vals L) (fun _ => true) k := rfl
      rw [e, hsl, hv]
      cases h : L[k] with
      | mk s v => cases s <;> simp
  rw [key _ (Nat.le_refl _), List.take_of_length_le (by omega)]

/-- What one operation does. -/
inductive Does (P : Program) (ops : Array Oper) (a : Act) (w : World) (o : Oper) (v : Value) (K : World → Prop) : Prop
  | value (w' : World) (hw : Region.wanted o (yielded ops a.tmps) = true) (hnd : ∀ c, o.op ≠ .defer c) (hrun : (execOp a.eval o).run P w = .ok (.value v) w') (hK : K w')
  | call (f : FuncId) (args : Array Value) (hw : Region.wanted o (yielded ops a.tmps) = true) (hnd : ∀ c, o.op ≠ .defer c) (hrun : (execOp a.eval o).run P w = .ok (.enter f args) w)
      (hc : Calls P f args w fun e w'' => e = .returned v ∧ K w'')
  | pass (hw : Region.wanted o (yielded ops a.tmps) = false) (hv : v = undef) (hK : K w)

section
variable {P : Program} {ops : Array Oper} {a : Act} {w w' : World} {o : Oper} {v : Value} {K : World → Prop}
theorem does_value (hg : o.guard = none) (hnd : ∀ c, o.op ≠ .defer c) (hrun : (execOp a.eval o).run P w = .ok (.value v) w') (hK : K w') : Does P ops a w o v K :=
  .value w' (by unfold Region.wanted; rw [hg]) hnd hrun hK
theorem does_value_g {j : Nat} {x : Bool} (hg : o.guard = some (j, x)) (hy : yielded ops a.tmps j = some x) (hnd : ∀ c, o.op ≠ .defer c) (hrun : (execOp a.eval o).run P w = .ok (.value v) w') (hK : K w') : Does P ops a w o v K :=
  .value w' (by unfold Region.wanted; rw [hg]; simp [hy]) hnd hrun hK
theorem does_call {f : FuncId} {args : Array Value} (hg : o.guard = none) (hnd : ∀ c, o.op ≠ .defer c) (hrun : (execOp a.eval o).run P w = .ok (.enter f args) w) (hc : Calls P f args w fun e w'' => e = .returned v ∧ K w'') : Does P ops a w o v K :=
  .call f args (by unfold Region.wanted; rw [hg]) hnd hrun hc
theorem does_call_g {j : Nat} {x : Bool} {f : FuncId} {args : Array Value} (hg : o.guard = some (j, x)) (hy : yielded ops a.tmps j = some x) (hnd : ∀ c, o.op ≠ .defer c) (hrun : (execOp a.eval o).run P w = .ok (.enter f args) w) (hc : Calls P f args w fun e w'' => e = .returned v ∧ K w'') : Does P ops a w o v K :=
  .call f args (by unfold Region.wanted; rw [hg]; simp [hy]) hnd hrun hc
theorem does_pass {j : Nat} {x y : Bool} (hg : o.guard = some (j, x)) (hy : yielded ops a.tmps j = some y) (hne : x ≠ y) (hv : v = undef) (hK : K w) : Does P ops a w o v K :=
  .pass (by unfold Region.wanted; rw [hg]; simp [hy]; exact fun e => hne e.symm) hv hK
theorem does_pass_none {j : Nat} {x : Bool} (hg : o.guard = some (j, x)) (hy : yielded ops a.tmps j = none) (hv : v = undef) (hK : K w) : Does P ops a w o v K :=
  .pass (by unfold Region.wanted; rw [hg]; simp [hy]) hv hK
end

/-- The region, whatever the order: St tells of the world, by what is done. -/
theorem region_laid {P : Program} {id : Nat} {ops : Array Oper} {Q : Exit → Act → World → Prop} {base : Array Value} {d : List Deferred} {w0 : World} (hm : P.follows .mixedOrders = true)
    (hdep : inRow ops = true) (m : Nat) (hsz : base.size = m) (hap : apartB ops m = true) (L : List (Option Tmp × Value)) (hL : L.map (·.1) = ops.toList.map (·.dst)) (St : (Nat → Bool) → World → Prop)
    (h0 : St (fun _ => false) w0.drew)
    (hstep : ∀ b w (i : Nat) (o : Oper) (a : Act), St b w → (∀ (j : Nat) (u : Oper), ops[j]? = some u → b j = true → ∀ e ∈ u.after.toList, Region.binds .any e = true → b e.on = true) → ops[i]? = some o → b i = false →
      (∀ e ∈ o.after.toList, Region.binds .any e = true → b e.on = true) →
      (∀ j s, slotOf ops j = some s → b j = true → a.tmps[s]?.getD undef = vals L j) → (∀ s, noneB ops s = true → a.tmps[s]?.getD undef = base.getD s undef) → (∀ j s x, slotOf ops j = some s → b j = true → vals L j = .bool x → yielded ops a.tmps j = some x) →
      Does P ops a w o (vals L i) (St (did b i)))
    (hend : ∀ b w, St b w → (∀ i, i < ops.size → b i = true) → Q .normal ⟨putAll base L, d⟩ w) :
    (Code.region id ops true).wp P Q ⟨base, d⟩ w0 := by
  subst hsz
  rw [← lay_all hL] at hend
  refine (wpIn_wide (n := 6)).1 ?_
  refine region_done hm hdep (fun b a w => a = ⟨lay base ops (vals L) b ops.size, d⟩ ∧ St b w) ⟨?_, h0⟩ ?_ ?_
  · have : ∀ n, lay base ops (vals L) (fun _ => false) n = base := by
      intro n
      induction n with
      | zero => rfl
      | succ k ih => unfold lay; split <;> simp [ih]
    rw [this]
  · rintro b a w i o ⟨rfl, hS⟩ hcl ho hb hd
    have hlt := (Array.getElem?_eq_some_iff.1 ho).1
    have hput : ∀ w', St (did b i) w' → (Act.put ⟨lay base ops (vals L) b ops.size, d⟩ o.dst (vals L i)) = ⟨lay base ops (vals L) (did b i) ops.size, d⟩ ∧ St (did b i) w' := by
      intro w' h
      refine ⟨?_, h⟩
      cases hdst : o.dst with
      | none =>
        have hsl : slotOf ops i = none := by unfold slotOf; rw [ho]; exact hdst
        rw [lay_none ops.size hsl]
        rfl
      | some s =>
        have hsl : slotOf ops i = some s := by unfold slotOf; rw [ho]; exact hdst
        obtain ⟨_, h2⟩ := apart_lt hap hsl
        rw [lay_did ops.size hsl hlt h2 hb]
        rfl
    unfold wpOpIn
    rw [ho]
    cases hstep b w i o _ hS hcl ho hb hd (fun j s h1 h2 => by rw [← Array.getD_eq_getD_getElem?]; exact lay_eval (d := d) rfl hap j s h1 h2) (fun s h => by rw [← Array.getD_eq_getD_getElem?]; exact lay_keep (d := d) s h) (fun j s x h1 h2 h3 => lay_yield rfl hap j s x h1 h2 h3) with
    | value w' hw hnd hrun hK =>
      simp only [hw, if_true]
      refine ⟨fun _ _ => trivial, ?_⟩
      rw [Oper.semAt_plain _ _ _ hnd, hrun]
      exact hput _ hK
    | call f args hw hnd hrun hc =>
      simp only [hw, if_true]
      refine ⟨fun _ _ => trivial, ?_⟩
      rw [Oper.semAt_plain _ _ _ hnd, hrun]
      refine ⟨fun h => by simp [Fence.wide] at h, ?_⟩
      refine callsIn_wide.2 (hc.mono ?_)
      rintro e w'' ⟨rfl, hK⟩
      exact hput _ hK
    | pass hw hv hK =>
      simp only [hw, Bool.false_eq_true, if_false]
      refine ⟨fun _ _ => trivial, ?_⟩
      rw [← hv]
      exact hput _ hK
  · rintro b a w ⟨rfl, hS⟩ hall
    have e : lay base ops (vals L) b ops.size = lay base ops (vals L) (fun _ => true) ops.size := by
      have : ∀ n, n ≤ ops.size → lay base ops (vals L) b n = lay base ops (vals L) (fun _ => true) n := by
        intro n
        induction n with
        | zero => intro _; rfl
        | succ k ih => intro hk; unfold lay; rw [ih (by omega), hall k (by omega)]
      exact this _ (Nat.le_refl _)
    rw [e]
    exact hend b w hS hall

/-- What one operation does, its value and the world as they come. -/
inductive Doesg (P : Program) (ops : Array Oper) (a : Act) (w : World) (o : Oper) (K : Value → World → Prop) : Prop
  | value (v : Value) (w' : World) (hw : Region.wanted o (yielded ops a.tmps) = true) (hnd : ∀ c, o.op ≠ .defer c) (hrun : (execOp a.eval o).run P w = .ok (.value v) w') (hK : K v w')
  | call (f : FuncId) (args : Array Value) (hw : Region.wanted o (yielded ops a.tmps) = true) (hnd : ∀ c, o.op ≠ .defer c) (hrun : (execOp a.eval o).run P w = .ok (.enter f args) w)
      (hc : Calls P f args w fun e w'' => ∃ v, e = .returned v ∧ K v w'')
  | skip (w' : World) (hw : Region.wanted o (yielded ops a.tmps) = true) (hnd : ∀ c, o.op ≠ .defer c) (hrun : (execOp a.eval o).run P w = .ok .skip w') (hK : K undef w')
  | pass (hw : Region.wanted o (yielded ops a.tmps) = false) (hK : K undef w)

section
variable {P : Program} {ops : Array Oper} {a : Act} {w w' : World} {o : Oper} {v : Value} {K : Value → World → Prop}
theorem doesg_value (hg : o.guard = none) (hnd : ∀ c, o.op ≠ .defer c) (hrun : (execOp a.eval o).run P w = .ok (.value v) w') (hK : K v w') : Doesg P ops a w o K :=
  .value v w' (by unfold Region.wanted; rw [hg]) hnd hrun hK
theorem doesg_value_g {j : Nat} {x : Bool} (hg : o.guard = some (j, x)) (hy : yielded ops a.tmps j = some x) (hnd : ∀ c, o.op ≠ .defer c) (hrun : (execOp a.eval o).run P w = .ok (.value v) w') (hK : K v w') : Doesg P ops a w o K :=
  .value v w' (by unfold Region.wanted; rw [hg]; simp [hy]) hnd hrun hK
theorem doesg_skip (hg : o.guard = none) (hnd : ∀ c, o.op ≠ .defer c) (hrun : (execOp a.eval o).run P w = .ok .skip w') (hK : K undef w') : Doesg P ops a w o K :=
  .skip w' (by unfold Region.wanted; rw [hg]) hnd hrun hK
theorem doesg_call {f : FuncId} {args : Array Value} (hg : o.guard = none) (hnd : ∀ c, o.op ≠ .defer c) (hrun : (execOp a.eval o).run P w = .ok (.enter f args) w) (hc : Calls P f args w fun e w'' => ∃ v, e = .returned v ∧ K v w'') : Doesg P ops a w o K :=
  .call f args (by unfold Region.wanted; rw [hg]) hnd hrun hc
end

theorem lay_congr {base : Array Value} {ops : Array Oper} {val val' : Nat → Value} {b : Nat → Bool} (h : ∀ j, b j = true → val' j = val j) (n : Nat) : lay base ops val' b n = lay base ops val b n := by
  induction n with
  | zero => rfl
  | succ k ih =>
    unfold lay
    split
    · split
      · rename_i hb
        rw [ih, h k hb]
      · exact ih
    · exact ih

/-- The region, whatever the order, where what is yielded shows on the way: g tells it. -/
theorem region_laidg {P : Program} {id : Nat} {ops : Array Oper} {Q : Exit → Act → World → Prop} {base : Array Value} {d : List Deferred} {w0 : World} (hm : P.follows .mixedOrders = true)
    (hdep : inRow ops = true) (m : Nat) (hsz : base.size = m) (hap : apartB ops m = true) {G : Type} (g0 : G) (L : G → List (Option Tmp × Value)) (hL : ∀ g, (L g).map (·.1) = ops.toList.map (·.dst)) (St : G → (Nat → Bool) → World → Prop)
    (h0 : St g0 (fun _ => false) w0.drew)
    (hstep : ∀ g b w (i : Nat) (o : Oper) (a : Act), St g b w → (∀ (j : Nat) (u : Oper), ops[j]? = some u → b j = true → ∀ e ∈ u.after.toList, Region.binds .any e = true → b e.on = true) → ops[i]? = some o → b i = false →
      (∀ e ∈ o.after.toList, Region.binds .any e = true → b e.on = true) →
      (∀ j s, slotOf ops j = some s → b j = true → a.tmps[s]?.getD undef = vals (L g) j) → (∀ s, (∀ j, slotOf ops j = some s → b j = false) → a.tmps[s]?.getD undef = base.getD s undef) → (∀ j s x, slotOf ops j = some s → b j = true → vals (L g) j = .bool x → yielded ops a.tmps j = some x) →
      Doesg P ops a w o (fun v w' => ∃ g', (∀ j, b j = true → vals (L g') j = vals (L g) j) ∧ v = vals (L g') i ∧ St g' (did b i) w'))
    (hend : ∀ g b w, St g b w → (∀ i, i < ops.size → b i = true) → Q .normal ⟨putAll base (L g), d⟩ w) :
    (Code.region id ops true).wp P Q ⟨base, d⟩ w0 := by
  subst hsz
  refine (wpIn_wide (n := 6)).1 ?_
  refine region_done hm hdep (fun b a w => ∃ g, a = ⟨lay base ops (vals (L g)) b ops.size, d⟩ ∧ St g b w) ⟨g0, ?_, h0⟩ ?_ ?_
  · have : ∀ n, lay base ops (vals (L g0)) (fun _ => false) n = base := by
      intro n
      induction n with
      | zero => rfl
      | succ k ih => unfold lay; split <;> simp [ih]
    rw [this]
  · rintro b a w i o ⟨g, rfl, hS⟩ hcl ho hb hd
    have hlt := (Array.getElem?_eq_some_iff.1 ho).1
    have hput : ∀ v w', (∃ g', (∀ j, b j = true → vals (L g') j = vals (L g) j) ∧ v = vals (L g') i ∧ St g' (did b i) w') → ∃ g', (Act.put ⟨lay base ops (vals (L g)) b ops.size, d⟩ o.dst v) = ⟨lay base ops (vals (L g')) (did b i) ops.size, d⟩ ∧ St g' (did b i) w' := by
      rintro v w' ⟨g', hc, rfl, h⟩
      refine ⟨g', ?_, h⟩
      rw [← lay_congr hc]
      cases hdst : o.dst with
      | none =>
        have hsl : slotOf ops i = none := by unfold slotOf; rw [ho]; exact hdst
        rw [lay_none ops.size hsl]
        rfl
      | some s =>
        have hsl : slotOf ops i = some s := by unfold slotOf; rw [ho]; exact hdst
        obtain ⟨_, h2⟩ := apart_lt hap hsl
        rw [lay_did ops.size hsl hlt h2 hb]
        rfl
    unfold wpOpIn
    rw [ho]
    cases hstep g b w i o _ hS hcl ho hb hd (fun j s h1 h2 => by rw [← Array.getD_eq_getD_getElem?]; exact lay_eval (d := d) rfl hap j s h1 h2) (fun s h => by rw [lay_till h ops.size, Array.getD_eq_getD_getElem?]) (fun j s x h1 h2 h3 => lay_yield rfl hap j s x h1 h2 h3) with
    | value v w' hw hnd hrun hK =>
      simp only [hw, if_true]
      refine ⟨fun _ _ => trivial, ?_⟩
      rw [Oper.semAt_plain _ _ _ hnd, hrun]
      exact hput _ _ hK
    | call f args hw hnd hrun hc =>
      simp only [hw, if_true]
      refine ⟨fun _ _ => trivial, ?_⟩
      rw [Oper.semAt_plain _ _ _ hnd, hrun]
      refine ⟨fun h => by simp [Fence.wide] at h, ?_⟩
      refine callsIn_wide.2 (hc.mono ?_)
      rintro e w'' ⟨v, rfl, hK⟩
      exact hput _ _ hK
    | skip w' hw hnd hrun hK =>
      simp only [hw, if_true]
      refine ⟨fun _ _ => trivial, ?_⟩
      rw [Oper.semAt_plain _ _ _ hnd, hrun]
      exact hput _ _ hK
    | pass hw hK =>
      simp only [hw, Bool.false_eq_true, if_false]
      refine ⟨fun _ _ => trivial, ?_⟩
      exact hput _ _ hK
  · rintro b a w ⟨g, rfl, hS⟩ hall
    have e : lay base ops (vals (L g)) b ops.size = putAll base (L g) := by
      rw [← lay_all (hL g)]
      have : ∀ n, n ≤ ops.size → lay base ops (vals (L g)) b n = lay base ops (vals (L g)) (fun _ => true) n := by
        intro n
        induction n with
        | zero => intro _; rfl
        | succ k ih => intro hk; unfold lay; rw [ih (by omega), hall k (by omega)]
      exact this _ (Nat.le_refl _)
    rw [e]
    exact hend g b w hS hall

end Go.Proofs.YtphedokdckoccaaGreatDoor

/-
  A drawn region whose values show on the way, with the orders of text and compiler that do not bind.
-/
namespace Go.Proofs.YtphedokdckoccaaGreatDoor
open Go.RowKit Go.Maps Go.Sort Go.Shelf

theorem region_fixedb {F : Fence} {n : Nat} {P : Program} {id : Nat} {ops : Array Oper} {Q : Exit → Act → World → Prop} {a0 : Act} {w0 : World} (hm : P.follows .mixedOrders = true)
    (hdep : ∀ (i : Nat) (o : Oper), ops[i]? = some o → ∀ e ∈ o.after, Region.binds .any e = true → e.on < i) (Adm : Array Bool → Act → World → Prop)
    (h0 : Adm (Array.replicate ops.size false) a0 w0.drew)
    (hstep : ∀ listed a w (i : Nat) (o : Oper), listed.size = ops.size → Adm listed a w → ops[i]? = some o → listed.getD i true = false → (∀ e ∈ o.after, Region.binds .any e = true → listed.getD e.on false = true) →
      wpOpIn F n P ops Q i (fun a' w' => Adm (listed.setIfInBounds i true) a' w') a w)
    (hend : ∀ listed a w, listed.size = ops.size → Adm listed a w → (∀ i, i < ops.size → listed.getD i false = true) → Q .normal a w) :
    (Code.region id ops true).wpIn F n P Q a0 w0 := by
  refine wpIn_region_any hm ?_
  have noReady : ∀ listed : Array Bool, listed.size = ops.size → Region.ready .any ops listed = [] → ∀ i, i < ops.size → listed.getD i false = true := by
    intro listed hs hr i
    induction i using Nat.strongRecOn with
    | ind i ih =>
      intro hi
      cases hx : listed.getD i false
      · exfalso
        have hlt : i < listed.size := by omega
        have hx' : listed.getD i true = false := by simp [hlt] at hx ⊢; exact hx
        obtain ⟨o, ho⟩ : ∃ o, ops[i]? = some o := ⟨_, Array.getElem?_eq_getElem hi⟩
        have : i ∈ Region.ready .any ops listed := mem_ready.2 ⟨hx', o, ho, fun e he hbe => by
          have := hdep i o ho e he hbe
          exact ih e.on this (by omega)⟩
        rw [hr] at this
        cases this
      · rfl
  have main : ∀ (fuel : Nat) (listed : Array Bool) (a : Act) (w : World), listed.size = ops.size → toCome ops.size listed = fuel → Adm listed a w → wpAnyIn F n P .any ops Q fuel listed a w := by
    intro fuel
    induction fuel with
    | zero =>
      intro listed a w hs ht hA
      have hall := toCome_zero hs ht
      refine ⟨?_, hend listed a w hs hA hall⟩
      rw [List.eq_nil_iff_forall_not_mem]
      intro i hi
      obtain ⟨h1, o, ho, _⟩ := mem_ready.1 hi
      have hlt := (Array.getElem?_eq_some_iff.1 ho).1
      have h2 := hall i hlt
      have hlt' : i < listed.size := by omega
      simp [hlt'] at h1 h2
      rw [h1] at h2
      cases h2
    | succ fuel ih =>
      intro listed a w hs ht hA
      refine ⟨fun hr => hend listed a w hs hA (noReady listed hs hr), fun i hi => ?_⟩
      obtain ⟨h1, o, ho, hd⟩ := mem_ready.1 hi
      have hlt := (Array.getElem?_eq_some_iff.1 ho).1
      have h2 := toCome_set hlt hs h1
      exact wpOpIn_mono (fun a' w' h => ih _ a' w' (by simpa using hs) (by omega) h) (hstep listed a w i o hs hA ho h1 hd)
  refine main _ _ _ _ (by simp) ?_ h0
  unfold toCome
  rw [List.filter_eq_self.2]
  · simp
  · intro i hi
    have := List.mem_range.1 hi
    simp [this]

/-- Each operation stands behind those that it waits for, whatever else the orders of text and compiler say. -/
def inRowB (ops : Array Oper) : Bool := (List.range ops.size).all fun i => match ops[i]? with | some o => o.after.toList.all fun e => !Region.binds .any e || decide (e.on < i) | none => true
theorem inRowB_spec {ops : Array Oper} (h : inRowB ops = true) : ∀ (i : Nat) (o : Oper), ops[i]? = some o → ∀ e ∈ o.after, Region.binds .any e = true → e.on < i := by
  intro i o ho e he hbe
  have hlt := (Array.getElem?_eq_some_iff.1 ho).1
  have := (List.all_eq_true.1 h) i (List.mem_range.2 hlt)
  rw [ho] at this
  have := (List.all_eq_true.1 this) e (by simpa using he)
  simpa [hbe] using this

theorem region_doneb {F : Fence} {n : Nat} {P : Program} {id : Nat} {ops : Array Oper} {Q : Exit → Act → World → Prop} {a0 : Act} {w0 : World} (hm : P.follows .mixedOrders = true)
    (hdep : inRowB ops = true) (Adm : (Nat → Bool) → Act → World → Prop)
    (h0 : Adm (fun _ => false) a0 w0.drew)
    (hstep : ∀ b a w (i : Nat) (o : Oper), Adm b a w → (∀ (j : Nat) (u : Oper), ops[j]? = some u → b j = true → ∀ e ∈ u.after.toList, Region.binds .any e = true → b e.on = true) → ops[i]? = some o → b i = false →
      (∀ e ∈ o.after.toList, Region.binds .any e = true → b e.on = true) → wpOpIn F n P ops Q i (fun a' w' => Adm (did b i) a' w') a w)
    (hend : ∀ b a w, Adm b a w → (∀ i, i < ops.size → b i = true) → Q .normal a w) :
    (Code.region id ops true).wpIn F n P Q a0 w0 := by
  refine region_fixedb hm (inRowB_spec hdep) (fun ls a w => Adm (fun j => ls.getD j false) a w ∧ ∀ (j : Nat) (u : Oper), ops[j]? = some u → ls.getD j false = true → ∀ e ∈ u.after.toList, Region.binds .any e = true → ls.getD e.on false = true) ?_ ?_ ?_
  · have e : (fun j => (Array.replicate ops.size false).getD j false) = fun _ => false := by
      funext j
      by_cases hj : j < ops.size <;> simp [hj]
    refine ⟨by rw [e]; exact h0, fun j u _ hj => ?_⟩
    have ej : (Array.replicate ops.size false).getD j false = false := congrFun e j
    rw [ej] at hj
    cases hj
  · rintro ls a w i o hs ⟨hA, hcl⟩ ho hl hd
    have hlt := (Array.getElem?_eq_some_iff.1 ho).1
    have hb : ls.getD i false = false := by
      have : i < ls.size := by omega
      simp [this] at hl ⊢; exact hl
    refine wpOpIn_mono (fun a' w' h => ?_) (hstep _ a w i o hA hcl ho hb (fun e he => hd e (by simpa using he)))
    have e : (fun j => (ls.setIfInBounds i true).getD j false) = did (fun j => ls.getD j false) i := by
      funext j
      unfold did
      by_cases hj : j = i
      · subst hj
        have : j < ls.size := by omega
        simp [this]
      · rw [if_neg hj, getD_set_ne false (fun e => hj e.symm)]
    refine ⟨by rw [e]; exact h, fun j u hu hj x hx hbx => ?_⟩
    have ej := congrFun e j
    have ex := congrFun e x.on
    simp only [did] at ej ex
    rw [ej] at hj
    rw [ex]
    by_cases hxi : x.on = i
    · rw [if_pos hxi]
    · rw [if_neg hxi]
      by_cases hji : j = i
      · subst hji
        rw [ho] at hu
        cases hu
        exact hd x (by simpa using hx) hbx
      · rw [if_neg hji] at hj
        exact hcl j u hu hj x hx hbx
  · rintro ls a w hs ⟨hA, _⟩ hall
    exact hend _ a w hA hall

variable {l n : Nat} {P : Program} {ops : Array Oper} {Q : Exit → Act → World → Prop} {i : Nat} {o : Oper} {K : Act → World → Prop} {a : Act} {w w' : World}

theorem region_laidb {P : Program} {id : Nat} {ops : Array Oper} {Q : Exit → Act → World → Prop} {base : Array Value} {d : List Deferred} {w0 : World} (hm : P.follows .mixedOrders = true)
    (hdep : inRowB ops = true) (m : Nat) (hsz : base.size = m) (hap : apartB ops m = true) {G : Type} (g0 : G) (L : G → List (Option Tmp × Value)) (hL : ∀ g, (L g).map (·.1) = ops.toList.map (·.dst)) (St : G → (Nat → Bool) → World → Prop)
    (h0 : St g0 (fun _ => false) w0.drew)
    (hstep : ∀ g b w (i : Nat) (o : Oper) (a : Act), St g b w → (∀ (j : Nat) (u : Oper), ops[j]? = some u → b j = true → ∀ e ∈ u.after.toList, Region.binds .any e = true → b e.on = true) → ops[i]? = some o → b i = false →
      (∀ e ∈ o.after.toList, Region.binds .any e = true → b e.on = true) →
      (∀ j s, slotOf ops j = some s → b j = true → a.tmps[s]?.getD undef = vals (L g) j) → (∀ s, (∀ j, slotOf ops j = some s → b j = false) → a.tmps[s]?.getD undef = base.getD s undef) → (∀ j s x, slotOf ops j = some s → b j = true → vals (L g) j = .bool x → yielded ops a.tmps j = some x) →
      Doesg P ops a w o (fun v w' => ∃ g', (∀ j, b j = true → vals (L g') j = vals (L g) j) ∧ v = vals (L g') i ∧ St g' (did b i) w'))
    (hend : ∀ g b w, St g b w → (∀ i, i < ops.size → b i = true) → Q .normal ⟨putAll base (L g), d⟩ w) :
    (Code.region id ops true).wp P Q ⟨base, d⟩ w0 := by
  subst hsz
  refine (wpIn_wide (n := 6)).1 ?_
  refine region_doneb hm hdep (fun b a w => ∃ g, a = ⟨lay base ops (vals (L g)) b ops.size, d⟩ ∧ St g b w) ⟨g0, ?_, h0⟩ ?_ ?_
  · have : ∀ n, lay base ops (vals (L g0)) (fun _ => false) n = base := by
      intro n
      induction n with
      | zero => rfl
      | succ k ih => unfold lay; split <;> simp [ih]
    rw [this]
  · rintro b a w i o ⟨g, rfl, hS⟩ hcl ho hb hd
    have hlt := (Array.getElem?_eq_some_iff.1 ho).1
    have hput : ∀ v w', (∃ g', (∀ j, b j = true → vals (L g') j = vals (L g) j) ∧ v = vals (L g') i ∧ St g' (did b i) w') → ∃ g', (Act.put ⟨lay base ops (vals (L g)) b ops.size, d⟩ o.dst v) = ⟨lay base ops (vals (L g')) (did b i) ops.size, d⟩ ∧ St g' (did b i) w' := by
      rintro v w' ⟨g', hc, rfl, h⟩
      refine ⟨g', ?_, h⟩
      rw [← lay_congr hc]
      cases hdst : o.dst with
      | none =>
        have hsl : slotOf ops i = none := by unfold slotOf; rw [ho]; exact hdst
        rw [lay_none ops.size hsl]
        rfl
      | some s =>
        have hsl : slotOf ops i = some s := by unfold slotOf; rw [ho]; exact hdst
        obtain ⟨_, h2⟩ := apart_lt hap hsl
        rw [lay_did ops.size hsl hlt h2 hb]
        rfl
    unfold wpOpIn
    rw [ho]
    cases hstep g b w i o _ hS hcl ho hb hd (fun j s h1 h2 => by rw [← Array.getD_eq_getD_getElem?]; exact lay_eval (d := d) rfl hap j s h1 h2) (fun s h => by rw [lay_till h ops.size, Array.getD_eq_getD_getElem?]) (fun j s x h1 h2 h3 => lay_yield rfl hap j s x h1 h2 h3) with
    | value v w' hw hnd hrun hK =>
      simp only [hw, if_true]
      refine ⟨fun _ _ => trivial, ?_⟩
      rw [Oper.semAt_plain _ _ _ hnd, hrun]
      exact hput _ _ hK
    | call f args hw hnd hrun hc =>
      simp only [hw, if_true]
      refine ⟨fun _ _ => trivial, ?_⟩
      rw [Oper.semAt_plain _ _ _ hnd, hrun]
      refine ⟨fun h => by simp [Fence.wide] at h, ?_⟩
      refine callsIn_wide.2 (hc.mono ?_)
      rintro e w'' ⟨v, rfl, hK⟩
      exact hput _ _ hK
    | skip w' hw hnd hrun hK =>
      simp only [hw, if_true]
      refine ⟨fun _ _ => trivial, ?_⟩
      rw [Oper.semAt_plain _ _ _ hnd, hrun]
      exact hput _ _ hK
    | pass hw hK =>
      simp only [hw, Bool.false_eq_true, if_false]
      refine ⟨fun _ _ => trivial, ?_⟩
      exact hput _ _ hK
  · rintro b a w ⟨g, rfl, hS⟩ hall
    have e : lay base ops (vals (L g)) b ops.size = putAll base (L g) := by
      rw [← lay_all (hL g)]
      have : ∀ n, n ≤ ops.size → lay base ops (vals (L g)) b n = lay base ops (vals (L g)) (fun _ => true) n := by
        intro n
        induction n with
        | zero => intro _; rfl
        | succ k ih => intro hk; unfold lay; rw [ih (by omega), hall k (by omega)]
      exact this _ (Nat.le_refl _)
    rw [e]
    exact hend g b w hS hall

end Go.Proofs.YtphedokdckoccaaGreatDoor

/-
  Package inode: a write is planned (three bytes at 700 of a file that has no block there).
-/
namespace Go.Proofs.YtphedokdckoccaaGreatDoor
open Go.RowKit Go.Maps Go.Sort Go.Shelf

/-- What the making of a walk leaves. -/
def planL (wb bg s : Nat) : List (Option Tmp × Value) := [(some 10, .pointer (some ⟨wb, 0, none⟩)), (some 11, .pointer (some ⟨wb, 0, none⟩)), (some 12, .pointer (some ⟨wb, 0, none⟩)), (some 13, .pointer (some ⟨wb, 0, none⟩)), (some 14, .pointer (some ⟨wb, 0, none⟩)), (some 15, .pointer (some ⟨wb, 5, none⟩)), (some 16, .int .i64 700), (some 17, .int .i64 1), (some 18, .pointer (some ⟨wb, 0, none⟩)), (some 19, .pointer (some ⟨wb, 0, none⟩)), (some 20, .pointer (some ⟨wb, 5, none⟩)), (some 21, .int .i64 700), (some 22, .pointer (some ⟨wb, 0, none⟩)), (some 23, .pointer (some ⟨wb, 0, none⟩)), (some 24, .pointer (some ⟨wb, 6, none⟩)), (some 25, .slice (some ⟨bg, 0, none⟩) 3 3), (some 26, .int .i64 3), (some 27, .int .i64 703), (some 28, .int .i64 2), (some 29, .pointer (some ⟨wb, 0, none⟩)), (some 30, .func (.func 134) #[.pointer (some ⟨wb, 0, none⟩)] #[]), (some 31, .agg #[.pointer (some ⟨wb, 0, none⟩), .int .i64 1, .int .i64 2, .bool true, .func (.func 134) #[.pointer (some ⟨wb, 0, none⟩)] #[]]), (some 5, .pointer (some ⟨s, 0, none⟩)), (none, undef)]
theorem walk_bel {w W : World} {x y : Bool} {o p : Obj} (h : W = if x = true then w.drew.alloc o else if y = true then w.drew.alloc p else w.drew) : Below w.heap.size w W := by
  rw [h]
  split
  · exact ((Below.refl _ w).drew).alloc (Nat.le_refl _) _
  · split
    · exact ((Below.refl _ w).drew).alloc (Nat.le_refl _) _
    · exact (Below.refl _ w).drew

/-- What a plan leaves. -/
structure Planned (w w' : World) (wb nb : Nat) (cs : List Value) (ns : List (BitVec 32)) (mf : Bm.MS) (r : Nat) (x0 x1 x2 : BitVec 8) : Prop where
  blk : ∃ g cap g7 cap7 g4 cap4 dg, BlkAt w' wb (((cs.set 2 (.slice (some ⟨g, 0, none⟩) 1 cap)).set 7 (.slice (some ⟨g7, 0, none⟩) 1 cap7)).set 4 (.slice (some ⟨g4, 0, none⟩) 1 cap4)) 150 ∧ w'.ownsRow w.heap.size 3 1 (.slice (some ⟨g, 0, none⟩) 1 cap) 1 [.int .i64 (r : Nat)] ∧
    w'.ownsRow w.heap.size 91 2 (.slice (some ⟨g4, 0, none⟩) 1 cap4) 1 [.int .i64 (r : Nat), .slice (some ⟨dg, 0, none⟩) 512 512] ∧ w'.heap[dg]? = some (.cells ((abcB x0 x1 x2).map u8v).toArray 5 (0, 0)) ∧ w.heap.size ≤ dg
  nums : NumsAt w' nb (ns.set 1 (BitVec.ofNat 32 r))
  map : Bm.MapAt w' (mf.turn r)
  but : But (fun k => k = mf.b ∨ k = wb ∨ k = nb) w w'

theorem own_cell1 {W : World} {base : Nat} {e : TypeId} {size g cap : Nat} {xs : List Value} (h : W.ownsRow base e size (.slice (some ⟨g, 0, none⟩) 1 cap) 1 xs) {j : Nat} {v : Value} (hv : xs[j]? = some v) : W.cell? ⟨g, j, none⟩ = some v := by
  rcases h.2 with ⟨e, _⟩ | ⟨g', cap', cur, e, _, hblk, _, _, _, htk⟩
  · cases e
  · cases e
    rw [cellOf hblk j]
    rw [← htk, List.getElem?_take] at hv
    split at hv
    · simpa using hv
    · cases hv
theorem u32v_nat (r : Nat) (h : r < 65536) : u32v (BitVec.ofNat 32 r) = .int .u32 (r : Nat) := by
  unfold u32v
  rw [BitVec.toNat_ofNat, Nat.mod_eq_of_lt (by omega)]

set_option maxRecDepth 8000 in
set_option maxHeartbeats 4000000 in
theorem plan_first (wb nb bg r : Nat) (cs : List Value) (ns : List (BitVec 32)) (mf : Bm.MS) (x0 x1 x2 : BitVec 8) (w : World) (hw : BlkAt w wb cs 150) (hl : cs.length = 8) (h1 : cs[1]? = some (.pointer (some ⟨mf.a, 0, none⟩))) (h2 : cs[2]? = some (.slice none 0 0)) (h4 : cs[4]? = some (.slice none 0 0)) (h5 : cs[5]? = some (.int .i64 700)) (h6 : cs[6]? = some (.slice (some ⟨bg, 0, none⟩) 3 3)) (h7 : cs[7]? = some (.slice none 0 0))
    (hb : w.heap[bg]? = some (.cells #[u8v x0, u8v x1, u8v x2] 5 (3, 4))) (hm : Bm.MapAt w mf) (ht : Bm.Tab64 w) (hL : Least mf r) (hr : r < 65536) (hn : NumsAt w nb ns) (hnl : ns.length = 10) (hn1 : ns[1]? = some 0#32) :
    Calls Tryz.prog 93 #[.pointer (some ⟨wb, 0, none⟩), .pointer (some ⟨nb, 0, none⟩)] w fun e w' => e = .returned (.int .i64 0) ∧ Planned w w' wb nb cs ns mf r x0 x1 x2 := by
  have hmix : Tryz.prog.follows .mixedOrders = true := by kernel_rfl
  have hmf : ∀ (fn : Fn) (first cap : Array Value) (w : World), (Instr.makeFunc fn first cap).run Tryz.prog w = .ok (.func fn first cap) w := fun _ _ _ _ => rfl
  have cU : ∀ W, Calls Tryz.prog 88 #[.int .i64 703] W fun e w' => e = .returned (.int .i64 2) ∧ w' = W := fun W => upTo_any 703 (by omega) W
  have b5 := hw.cell h5
  have b6 := hw.cell h6
  have hwl : wb < w.heap.size := hw.lt
  have hwn : ¬ w.heap.size = wb := by omega
  have hwn' : ¬ wb = w.heap.size := by omega
  have hbl : bg < w.heap.size := (Array.getElem?_eq_some_iff.1 hb).1
  have HW : Hid (BlkAt w wb cs 150 ∧ Bm.MapAt w mf ∧ Bm.Tab64 w ∧ NumsAt w nb ns ∧ w.heap[bg]? = some (.cells #[u8v x0, u8v x1, u8v x2] 5 (3, 4))) := ⟨hw, hm, ht, hn, hb⟩
  clear hw hm ht hn hb
  go_enter Tryz.func93, Tryz.ntmps93
  go_wp2_with fail
  have vv0 : ∀ g, vals ((fun _ : Unit => planL wb bg w.heap.size) g) 0 = .pointer (some ⟨wb, 0, none⟩) := fun g => rfl
  have vv1 : ∀ g, vals ((fun _ : Unit => planL wb bg w.heap.size) g) 1 = .pointer (some ⟨wb, 0, none⟩) := fun g => rfl
  have vv2 : ∀ g, vals ((fun _ : Unit => planL wb bg w.heap.size) g) 2 = .pointer (some ⟨wb, 0, none⟩) := fun g => rfl
  have vv3 : ∀ g, vals ((fun _ : Unit => planL wb bg w.heap.size) g) 3 = .pointer (some ⟨wb, 0, none⟩) := fun g => rfl
  have vv4 : ∀ g, vals ((fun _ : Unit => planL wb bg w.heap.size) g) 4 = .pointer (some ⟨wb, 0, none⟩) := fun g => rfl
  have vv5 : ∀ g, vals ((fun _ : Unit => planL wb bg w.heap.size) g) 5 = .pointer (some ⟨wb, 5, none⟩) := fun g => rfl
  have vv6 : ∀ g, vals ((fun _ : Unit => planL wb bg w.heap.size) g) 6 = .int .i64 700 := fun g => rfl
  have vv7 : ∀ g, vals ((fun _ : Unit => planL wb bg w.heap.size) g) 7 = .int .i64 1 := fun g => rfl
  have vv8 : ∀ g, vals ((fun _ : Unit => planL wb bg w.heap.size) g) 8 = .pointer (some ⟨wb, 0, none⟩) := fun g => rfl
  have vv9 : ∀ g, vals ((fun _ : Unit => planL wb bg w.heap.size) g) 9 = .pointer (some ⟨wb, 0, none⟩) := fun g => rfl
  have vv10 : ∀ g, vals ((fun _ : Unit => planL wb bg w.heap.size) g) 10 = .pointer (some ⟨wb, 5, none⟩) := fun g => rfl
  have vv11 : ∀ g, vals ((fun _ : Unit => planL wb bg w.heap.size) g) 11 = .int .i64 700 := fun g => rfl
  have vv12 : ∀ g, vals ((fun _ : Unit => planL wb bg w.heap.size) g) 12 = .pointer (some ⟨wb, 0, none⟩) := fun g => rfl
  have vv13 : ∀ g, vals ((fun _ : Unit => planL wb bg w.heap.size) g) 13 = .pointer (some ⟨wb, 0, none⟩) := fun g => rfl
  have vv14 : ∀ g, vals ((fun _ : Unit => planL wb bg w.heap.size) g) 14 = .pointer (some ⟨wb, 6, none⟩) := fun g => rfl
  have vv15 : ∀ g, vals ((fun _ : Unit => planL wb bg w.heap.size) g) 15 = .slice (some ⟨bg, 0, none⟩) 3 3 := fun g => rfl
  have vv16 : ∀ g, vals ((fun _ : Unit => planL wb bg w.heap.size) g) 16 = .int .i64 3 := fun g => rfl
  have vv17 : ∀ g, vals ((fun _ : Unit => planL wb bg w.heap.size) g) 17 = .int .i64 703 := fun g => rfl
  have vv18 : ∀ g, vals ((fun _ : Unit => planL wb bg w.heap.size) g) 18 = .int .i64 2 := fun g => rfl
  have vv19 : ∀ g, vals ((fun _ : Unit => planL wb bg w.heap.size) g) 19 = .pointer (some ⟨wb, 0, none⟩) := fun g => rfl
  have vv20 : ∀ g, vals ((fun _ : Unit => planL wb bg w.heap.size) g) 20 = .func (.func 134) #[.pointer (some ⟨wb, 0, none⟩)] #[] := fun g => rfl
  have vv21 : ∀ g, vals ((fun _ : Unit => planL wb bg w.heap.size) g) 21 = .agg #[.pointer (some ⟨wb, 0, none⟩), .int .i64 1, .int .i64 2, .bool true, .func (.func 134) #[.pointer (some ⟨wb, 0, none⟩)] #[]] := fun g => rfl
  have vv22 : ∀ g, vals ((fun _ : Unit => planL wb bg w.heap.size) g) 22 = .pointer (some ⟨w.heap.size, 0, none⟩) := fun g => rfl
  have vv23 : ∀ g, vals ((fun _ : Unit => planL wb bg w.heap.size) g) 23 = undef := fun g => rfl
  refine region_laidg hmix (by kernel_rfl) 53 rfl (by kernel_rfl) () ((fun _ : Unit => planL wb bg w.heap.size)) (fun g => rfl) (fun (_ : Unit) b W => W = if b 23 = true then w.drew.alloc (.cells #[.pointer (some ⟨wb, 0, none⟩), .int .i64 1, .int .i64 2, .bool true, .func (.func 134) #[.pointer (some ⟨wb, 0, none⟩)] #[]] 160) else if b 22 = true then w.drew.alloc (.cells #[.pointer none, .int .i64 0, .int .i64 0, .bool false, .nilFunc] 160) else w.drew) rfl ?_ ?_
  · intro g b W io o a hS hcl ho hb hd ev kp yl
    match io with
    | 0 =>
      simp only [List.getElem?_toArray, List.getElem?_cons_zero, Option.some.injEq] at ho
      subst ho
      have e0 : a.tmps[0]?.getD undef = .pointer (some ⟨wb, 0, none⟩) := kp 0 (none_till (by kernel_rfl))
      refine doesg_value rfl (by intro c h; cases h) (v := .pointer (some ⟨wb, 0, none⟩)) (w' := W) ?_ ⟨g, fun _ _ => rfl, (vv0 g).symm, ?_⟩
      · simp [execOp, go_sem, e0]
      · simpa [did] using hS
    | 1 =>
      simp only [List.getElem?_toArray, List.getElem?_cons_zero, List.getElem?_cons_succ, Option.some.injEq] at ho
      subst ho
      have p0 : b 0 = true := hd ⟨0, .data⟩ (by simp) rfl
      have e10 := (ev 0 10 rfl p0).trans (vv0 g)
      refine doesg_value rfl (by intro c h; cases h) (v := .pointer (some ⟨wb, 0, none⟩)) (w' := W) ?_ ⟨g, fun _ _ => rfl, (vv1 g).symm, ?_⟩
      · simp [execOp, go_sem, e10]
      · simpa [did] using hS
    | 2 =>
      simp only [List.getElem?_toArray, List.getElem?_cons_zero, List.getElem?_cons_succ, Option.some.injEq] at ho
      subst ho
      have p1 : b 1 = true := hd ⟨1, .data⟩ (by simp) rfl
      have e11 := (ev 1 11 rfl p1).trans (vv1 g)
      refine doesg_value rfl (by intro c h; cases h) (v := .pointer (some ⟨wb, 0, none⟩)) (w' := W) ?_ ⟨g, fun _ _ => rfl, (vv2 g).symm, ?_⟩
      · simp [execOp, go_sem, e11]
      · simpa [did] using hS
    | 3 =>
      simp only [List.getElem?_toArray, List.getElem?_cons_zero, List.getElem?_cons_succ, Option.some.injEq] at ho
      subst ho
      have e0 : a.tmps[0]?.getD undef = .pointer (some ⟨wb, 0, none⟩) := kp 0 (none_till (by kernel_rfl))
      refine doesg_value rfl (by intro c h; cases h) (v := .pointer (some ⟨wb, 0, none⟩)) (w' := W) ?_ ⟨g, fun _ _ => rfl, (vv3 g).symm, ?_⟩
      · simp [execOp, go_sem, e0]
      · simpa [did] using hS
    | 4 =>
      simp only [List.getElem?_toArray, List.getElem?_cons_zero, List.getElem?_cons_succ, Option.some.injEq] at ho
      subst ho
      have p3 : b 3 = true := hd ⟨3, .data⟩ (by simp) rfl
      have e13 := (ev 3 13 rfl p3).trans (vv3 g)
      refine doesg_value rfl (by intro c h; cases h) (v := .pointer (some ⟨wb, 0, none⟩)) (w' := W) ?_ ⟨g, fun _ _ => rfl, (vv4 g).symm, ?_⟩
      · simp [execOp, go_sem, e13]
      · simpa [did] using hS
    | 5 =>
      simp only [List.getElem?_toArray, List.getElem?_cons_zero, List.getElem?_cons_succ, Option.some.injEq] at ho
      subst ho
      have p4 : b 4 = true := hd ⟨4, .data⟩ (by simp) rfl
      have e14 := (ev 4 14 rfl p4).trans (vv4 g)
      refine doesg_value rfl (by intro c h; cases h) (v := .pointer (some ⟨wb, 5, none⟩)) (w' := W) ?_ ⟨g, fun _ _ => rfl, (vv5 g).symm, ?_⟩
      · simp [execOp, go_sem, e14]
      · simpa [did] using hS
    | 6 =>
      simp only [List.getElem?_toArray, List.getElem?_cons_zero, List.getElem?_cons_succ, Option.some.injEq] at ho
      subst ho
      have p5 : b 5 = true := hd ⟨5, .data⟩ (by simp) rfl
      have e15 := (ev 5 15 rfl p5).trans (vv5 g)
      have hbel : Below w.heap.size w W := walk_bel hS
      have hl := (hbel.cell (p := ⟨wb, 5, none⟩) (cell_lt b5)).trans b5
      refine doesg_value rfl (by intro c h; cases h) (v := .int .i64 700) (w' := W) ?_ ⟨g, fun _ _ => rfl, (vv6 g).symm, ?_⟩
      · simp [execOp, go_sem, e15, hl]
      · simpa [did] using hS
    | 7 =>
      simp only [List.getElem?_toArray, List.getElem?_cons_zero, List.getElem?_cons_succ, Option.some.injEq] at ho
      subst ho
      have p6 : b 6 = true := hd ⟨6, .data⟩ (by simp) rfl
      have e16 := (ev 6 16 rfl p6).trans (vv6 g)
      refine doesg_value rfl (by intro c h; cases h) (v := .int .i64 1) (w' := W) ?_ ⟨g, fun _ _ => rfl, (vv7 g).symm, ?_⟩
      · simp [execOp, go_sem, e16]; rfl
      · simpa [did] using hS
    | 8 =>
      simp only [List.getElem?_toArray, List.getElem?_cons_zero, List.getElem?_cons_succ, Option.some.injEq] at ho
      subst ho
      have e0 : a.tmps[0]?.getD undef = .pointer (some ⟨wb, 0, none⟩) := kp 0 (none_till (by kernel_rfl))
      refine doesg_value rfl (by intro c h; cases h) (v := .pointer (some ⟨wb, 0, none⟩)) (w' := W) ?_ ⟨g, fun _ _ => rfl, (vv8 g).symm, ?_⟩
      · simp [execOp, go_sem, e0]
      · simpa [did] using hS
    | 9 =>
      simp only [List.getElem?_toArray, List.getElem?_cons_zero, List.getElem?_cons_succ, Option.some.injEq] at ho
      subst ho
      have p8 : b 8 = true := hd ⟨8, .data⟩ (by simp) rfl
      have e18 := (ev 8 18 rfl p8).trans (vv8 g)
      refine doesg_value rfl (by intro c h; cases h) (v := .pointer (some ⟨wb, 0, none⟩)) (w' := W) ?_ ⟨g, fun _ _ => rfl, (vv9 g).symm, ?_⟩
      · simp [execOp, go_sem, e18]
      · simpa [did] using hS
    | 10 =>
      simp only [List.getElem?_toArray, List.getElem?_cons_zero, List.getElem?_cons_succ, Option.some.injEq] at ho
      subst ho
      have p9 : b 9 = true := hd ⟨9, .data⟩ (by simp) rfl
      have e19 := (ev 9 19 rfl p9).trans (vv9 g)
      refine doesg_value rfl (by intro c h; cases h) (v := .pointer (some ⟨wb, 5, none⟩)) (w' := W) ?_ ⟨g, fun _ _ => rfl, (vv10 g).symm, ?_⟩
      · simp [execOp, go_sem, e19]
      · simpa [did] using hS
    | 11 =>
      simp only [List.getElem?_toArray, List.getElem?_cons_zero, List.getElem?_cons_succ, Option.some.injEq] at ho
      subst ho
      have p10 : b 10 = true := hd ⟨10, .data⟩ (by simp) rfl
      have e20 := (ev 10 20 rfl p10).trans (vv10 g)
      have hbel : Below w.heap.size w W := walk_bel hS
      have hl := (hbel.cell (p := ⟨wb, 5, none⟩) (cell_lt b5)).trans b5
      refine doesg_value rfl (by intro c h; cases h) (v := .int .i64 700) (w' := W) ?_ ⟨g, fun _ _ => rfl, (vv11 g).symm, ?_⟩
      · simp [execOp, go_sem, e20, hl]
      · simpa [did] using hS
    | 12 =>
      simp only [List.getElem?_toArray, List.getElem?_cons_zero, List.getElem?_cons_succ, Option.some.injEq] at ho
      subst ho
      have e0 : a.tmps[0]?.getD undef = .pointer (some ⟨wb, 0, none⟩) := kp 0 (none_till (by kernel_rfl))
      refine doesg_value rfl (by intro c h; cases h) (v := .pointer (some ⟨wb, 0, none⟩)) (w' := W) ?_ ⟨g, fun _ _ => rfl, (vv12 g).symm, ?_⟩
      · simp [execOp, go_sem, e0]
      · simpa [did] using hS
    | 13 =>
      simp only [List.getElem?_toArray, List.getElem?_cons_zero, List.getElem?_cons_succ, Option.some.injEq] at ho
      subst ho
      have p12 : b 12 = true := hd ⟨12, .data⟩ (by simp) rfl
      have e22 := (ev 12 22 rfl p12).trans (vv12 g)
      refine doesg_value rfl (by intro c h; cases h) (v := .pointer (some ⟨wb, 0, none⟩)) (w' := W) ?_ ⟨g, fun _ _ => rfl, (vv13 g).symm, ?_⟩
      · simp [execOp, go_sem, e22]
      · simpa [did] using hS
    | 14 =>
      simp only [List.getElem?_toArray, List.getElem?_cons_zero, List.getElem?_cons_succ, Option.some.injEq] at ho
      subst ho
      have p13 : b 13 = true := hd ⟨13, .data⟩ (by simp) rfl
      have e23 := (ev 13 23 rfl p13).trans (vv13 g)
      refine doesg_value rfl (by intro c h; cases h) (v := .pointer (some ⟨wb, 6, none⟩)) (w' := W) ?_ ⟨g, fun _ _ => rfl, (vv14 g).symm, ?_⟩
      · simp [execOp, go_sem, e23]
      · simpa [did] using hS
    | 15 =>
      simp only [List.getElem?_toArray, List.getElem?_cons_zero, List.getElem?_cons_succ, Option.some.injEq] at ho
      subst ho
      have p14 : b 14 = true := hd ⟨14, .data⟩ (by simp) rfl
      have e24 := (ev 14 24 rfl p14).trans (vv14 g)
      have hbel : Below w.heap.size w W := walk_bel hS
      have hl := (hbel.cell (p := ⟨wb, 6, none⟩) (cell_lt b6)).trans b6
      refine doesg_value rfl (by intro c h; cases h) (v := .slice (some ⟨bg, 0, none⟩) 3 3) (w' := W) ?_ ⟨g, fun _ _ => rfl, (vv15 g).symm, ?_⟩
      · simp [execOp, go_sem, e24, hl]
      · simpa [did] using hS
    | 16 =>
      simp only [List.getElem?_toArray, List.getElem?_cons_zero, List.getElem?_cons_succ, Option.some.injEq] at ho
      subst ho
      have p15 : b 15 = true := hd ⟨15, .data⟩ (by simp) rfl
      have e25 := (ev 15 25 rfl p15).trans (vv15 g)
      refine doesg_value rfl (by intro c h; cases h) (v := .int .i64 3) (w' := W) ?_ ⟨g, fun _ _ => rfl, (vv16 g).symm, ?_⟩
      · simp [go_sem, e25]
      · simpa [did] using hS
    | 17 =>
      simp only [List.getElem?_toArray, List.getElem?_cons_zero, List.getElem?_cons_succ, Option.some.injEq] at ho
      subst ho
      have p11 : b 11 = true := hd ⟨11, .data⟩ (by simp) rfl
      have p16 : b 16 = true := hd ⟨16, .data⟩ (by simp) rfl
      have e21 := (ev 11 21 rfl p11).trans (vv11 g)
      have e26 := (ev 16 26 rfl p16).trans (vv16 g)
      refine doesg_value rfl (by intro c h; cases h) (v := .int .i64 703) (w' := W) ?_ ⟨g, fun _ _ => rfl, (vv17 g).symm, ?_⟩
      · simp [execOp, go_sem, e21, e26]; rfl
      · simpa [did] using hS
    | 18 =>
      simp only [List.getElem?_toArray, List.getElem?_cons_zero, List.getElem?_cons_succ, Option.some.injEq] at ho
      subst ho
      have p17 : b 17 = true := hd ⟨17, .data⟩ (by simp) rfl
      have e27 := (ev 17 27 rfl p17).trans (vv17 g)
      refine doesg_call rfl (by intro c h; cases h) (f := 88) (args := #[.int .i64 703]) ?_ ?_
      · simp [go_sem, e27]
      · (refine (cU W).mono ?_; rintro e w' ⟨rfl, rfl⟩; exact ⟨_, rfl, g, fun _ _ => rfl, (vv18 g).symm, by simpa [did] using hS⟩)
    | 19 =>
      simp only [List.getElem?_toArray, List.getElem?_cons_zero, List.getElem?_cons_succ, Option.some.injEq] at ho
      subst ho
      have e0 : a.tmps[0]?.getD undef = .pointer (some ⟨wb, 0, none⟩) := kp 0 (none_till (by kernel_rfl))
      refine doesg_value rfl (by intro c h; cases h) (v := .pointer (some ⟨wb, 0, none⟩)) (w' := W) ?_ ⟨g, fun _ _ => rfl, (vv19 g).symm, ?_⟩
      · simp [execOp, go_sem, e0]
      · simpa [did] using hS
    | 20 =>
      simp only [List.getElem?_toArray, List.getElem?_cons_zero, List.getElem?_cons_succ, Option.some.injEq] at ho
      subst ho
      have p19 : b 19 = true := hd ⟨19, .data⟩ (by simp) rfl
      have e29 := (ev 19 29 rfl p19).trans (vv19 g)
      refine doesg_value rfl (by intro c h; cases h) (v := .func (.func 134) #[.pointer (some ⟨wb, 0, none⟩)] #[]) (w' := W) ?_ ⟨g, fun _ _ => rfl, (vv20 g).symm, ?_⟩
      · simp [execOp, go_sem, e29]
      · simpa [did] using hS
    | 21 =>
      simp only [List.getElem?_toArray, List.getElem?_cons_zero, List.getElem?_cons_succ, Option.some.injEq] at ho
      subst ho
      have p2 : b 2 = true := hd ⟨2, .data⟩ (by simp) rfl
      have p7 : b 7 = true := hd ⟨7, .data⟩ (by simp) rfl
      have p18 : b 18 = true := hd ⟨18, .data⟩ (by simp) rfl
      have p20 : b 20 = true := hd ⟨20, .data⟩ (by simp) rfl
      have e12 := (ev 2 12 rfl p2).trans (vv2 g)
      have e17 := (ev 7 17 rfl p7).trans (vv7 g)
      have e28 := (ev 18 28 rfl p18).trans (vv18 g)
      have e30 := (ev 20 30 rfl p20).trans (vv20 g)
      refine doesg_value rfl (by intro c h; cases h) (v := .agg #[.pointer (some ⟨wb, 0, none⟩), .int .i64 1, .int .i64 2, .bool true, .func (.func 134) #[.pointer (some ⟨wb, 0, none⟩)] #[]]) (w' := W) ?_ ⟨g, fun _ _ => rfl, (vv21 g).symm, ?_⟩
      · simp [execOp, go_sem, e12, e17, e28, e30]
      · simpa [did] using hS
    | 22 =>
      simp only [List.getElem?_toArray, List.getElem?_cons_zero, List.getElem?_cons_succ, Option.some.injEq] at ho
      subst ho
      have h23 : b 23 = false := by cases h : b 23; rfl; rw [hcl 23 _ rfl h ⟨22, .data⟩ (by simp) rfl] at hb; cases hb
      have hW : W = w.drew := by rw [hS, h23, hb]; rfl
      subst hW
      refine doesg_value rfl (by intro c h; cases h) (v := .pointer (some ⟨w.heap.size, 0, none⟩)) (w' := w.drew.alloc (.cells #[.pointer none, .int .i64 0, .int .i64 0, .bool false, .nilFunc] 160)) ?_ ⟨g, fun _ _ => rfl, (vv22 g).symm, ?_⟩
      · simp [execOp, go_sem]
      · simp [did, h23]
    | 23 =>
      simp only [List.getElem?_toArray, List.getElem?_cons_zero, List.getElem?_cons_succ, Option.some.injEq] at ho
      subst ho
      have p22 : b 22 = true := hd ⟨22, .data⟩ (by simp) rfl
      have p21 : b 21 = true := hd ⟨21, .data⟩ (by simp) rfl
      have e5 := (ev 22 5 rfl p22).trans (vv22 g)
      have e31 := (ev 21 31 rfl p21).trans (vv21 g)
      have hW : W = w.drew.alloc (.cells #[.pointer none, .int .i64 0, .int .i64 0, .bool false, .nilFunc] 160) := by rw [hS, hb, p22]; rfl
      subst hW
      refine doesg_skip rfl (by intro c h; cases h) (w' := w.drew.alloc (.cells #[.pointer (some ⟨wb, 0, none⟩), .int .i64 1, .int .i64 2, .bool true, .func (.func 134) #[.pointer (some ⟨wb, 0, none⟩)] #[]] 160)) ?_ ⟨g, fun _ _ => rfl, (vv23 g).symm, ?_⟩
      · simp [execOp, go_sem, e5, e31]
      · exact by simp [did]
    | k + 24 => simp at ho
  · intro g b W hS hall
    have hW : W = w.drew.alloc (.cells #[.pointer (some ⟨wb, 0, none⟩), .int .i64 1, .int .i64 2, .bool true, .func (.func 134) #[.pointer (some ⟨wb, 0, none⟩)] #[]] 160) := by rw [hS, hall 23 (by simp)]; rfl
    have hBW : Below w.heap.size w W := walk_bel hS
    have hWs : W.heap.size = w.heap.size + 1 := by rw [hW]; simp
    have hWk : WalkAt W w.heap.size (.pointer (some ⟨wb, 0, none⟩)) 1 2 true (.func (.func 134) #[.pointer (some ⟨wb, 0, none⟩)] #[]) := by rw [hW]; exact heap_alloc_new w.drew _
    obtain ⟨hw, hm, ht, hn, hb⟩ := HW.out
    have hV := find_one wb r 1 cs mf W (hw.below hBW) h1 h2 h7 (hm.below hBW) (ht.below hBW) hL hr
    have hbm : mf.b < w.heap.size := by obtain ⟨_, hx, _⟩ := hm.row; exact (Array.getElem?_eq_some_iff.1 hx).1
    have hnb : BlkAt w nb (ns.map u32v) 136 := hn
    have hnw : nb ≠ wb := hnb.ne hw (by decide)
    have hnm : nb ≠ mf.b := map_b_ne hm hnb (by decide)
    have hnma : nb ≠ mf.a := map_a_ne hm hnb (by decide)
    have hnl2 : nb < w.heap.size := hnb.lt
    have cO := over_one w.heap.size nb 1 2 134 1 (.pointer (some ⟨wb, 0, none⟩)) true (.pointer (some ⟨wb, 0, none⟩)) ns 0#32 (BitVec.ofNat 32 r) W (fun k => k = mf.b ∨ k = wb)
      (fun w' => ∃ g cap g7 cap7, BlkAt w' wb ((cs.set 2 (.slice (some ⟨g, 0, none⟩) 1 cap)).set 7 (.slice (some ⟨g7, 0, none⟩) 1 cap7)) 150 ∧ w'.ownsRow W.heap.size 3 1 (.slice (some ⟨g, 0, none⟩) 1 cap) 1 [.int .i64 (r : Nat)] ∧ w'.ownsRow W.heap.size 192 3 (.slice (some ⟨g7, 0, none⟩) 1 cap7) 1 [.int .i64 ((1 : Nat) : Int), .int .u32 (r : Nat), .bool true] ∧ Bm.MapAt w' (mf.turn r))
      hWk (hn.below hBW hnl2) hnl (by omega) rfl rfl hn1 (by omega) (fun e => by rcases e with e | e; exact hnm e; exact hnw e) (enters_of Tryz.func134 (by kernel_rfl) rfl)
      (hV.mono (by
        rintro e w' ⟨rfl, g, cap, g7, cap7, y1, y2, y3, y4, y5⟩
        exact ⟨by rw [u32v_nat r hr], y5, g, cap, g7, cap7, y1, y2, y3, y4⟩))
    have HO : Hid (Below w.heap.size w W ∧ W.heap.size = w.heap.size + 1 ∧ nb ≠ wb ∧ nb ≠ mf.b ∧ nb ≠ mf.a ∧ nb < w.heap.size ∧ mf.b < w.heap.size) := ⟨hBW, hWs, hnw, hnm, hnma, hnl2, hbm⟩
    clear hS hall hW hWk hV hw hm ht hn hb hnb hnw hnm hnma hnl2 hbm hBW b5 b6
    simp only [planL, putAll, List.setIfInBounds_toArray, List.set_cons_zero, List.set_cons_succ]
    go_wp2_with (go_at_call 96; refine cO.mono ?_; rintro e w2 ⟨rfl, hv⟩; clear cO; refine Stop.out ?_)
    refine Stop.mk ?_
    obtain ⟨w1, hb1, ⟨g, cap, g7, cap7, y1, y2, y3, y4⟩, hw2⟩ := hv
    obtain ⟨hw, hm, ht, hn, hb⟩ := HW.out
    obtain ⟨hBW, hWs, hnw, hnm, hnma, hnl2, hbm⟩ := HO.out
    have hw1 : BlkAt W wb cs 150 := hw.below hBW
    have hbW : W.heap[bg]? = some (.cells #[u8v x0, u8v x1, u8v x2] 5 (3, 4)) := (hBW.block bg hbl).trans hb
    have tagne : ∀ {k : Nat} {cs' : Array Value} {t' : TypeId} {fr : Nat × Nat}, W.heap[k]? = some (.cells cs' t' fr) → t' ≠ 150 → t' ≠ 142 → ¬ (k = mf.b ∨ k = wb) := by
      intro k cs' t' fr hk h1 h2 e
      rcases e with e | e
      · obtain ⟨c3, h3, _⟩ := (hm.below hBW).row
        rw [e, h3] at hk
        simp only [Option.some.injEq, Obj.cells.injEq] at hk
        exact h2 hk.2.1.symm
      · rw [e, show W.heap[wb]? = _ from hw1] at hk
        simp only [Option.some.injEq, Obj.cells.injEq] at hk
        exact h1 hk.2.1.symm
    have hb1' : w1.heap[bg]? = some (.cells #[u8v x0, u8v x1, u8v x2] 5 (3, 4)) := (hb1.block bg (by omega) (tagne hbW (by decide) (by decide))).trans hbW
    have hbn : bg ≠ nb := fun e => by
      have h3 : w.heap[nb]? = _ := hn
      rw [← e, hb] at h3
      simp only [Option.some.injEq, Obj.cells.injEq] at h3
      exact absurd h3.2.1 (by decide)
    have hn1' : NumsAt w1 nb ns := (hn.below hBW hnl2).but hb1 (fun e => by rcases e with e | e; exact hnm e; exact hnw e)
    have own2 : ∀ {e : TypeId} {size g cap : Nat} {xs : List Value}, e ≠ 136 → w1.ownsRow W.heap.size e size (.slice (some ⟨g, 0, none⟩) 1 cap) 1 xs → w2.ownsRow w.heap.size e size (.slice (some ⟨g, 0, none⟩) 1 cap) 1 xs := by
      intro e size g cap xs he ho
      have hgn : g ≠ nb := fun eg => by
        obtain ⟨g', cap', cur, e', _, hblk, _⟩ : ∃ g' cap' cur, (Value.slice (some ⟨g, 0, none⟩) 1 cap) = .slice (some ⟨g', 0, none⟩) 1 cap' ∧ W.heap.size ≤ g' ∧ w1.heap[g']? = some (.cells cur e (0, 0)) ∧ True := by
          rcases ho.2 with ⟨e, _⟩ | ⟨g', cap', cur, e, hge, hblk, _⟩
          · cases e
          · exact ⟨g', cap', cur, e, hge, hblk, trivial⟩
        cases e'
        rw [eg, show w1.heap[nb]? = _ from hn1'] at hblk
        simp only [Option.some.injEq, Obj.cells.injEq] at hblk
        exact he hblk.2.1.symm
      rw [hw2]
      exact own_low_base (own_set ho (fun k hk => own_ne hgn hk) _ _) (by omega)
    have z2 := own2 (by decide) y2
    have z3 := own2 (by decide) y3
    have z1 : BlkAt w2 wb ((cs.set 2 (.slice (some ⟨g, 0, none⟩) 1 cap)).set 7 (.slice (some ⟨g7, 0, none⟩) 1 cap7)) 150 := by rw [hw2]; exact (Below.heap_setCell _ _ _ _ (fun e => hnw e.symm)).trans y1
    have zn : NumsAt w2 nb (ns.set 1 (BitVec.ofNat 32 r)) := by rw [hw2]; exact hn1'.set 1 _
    have zm : Bm.MapAt w2 (mf.turn r) := by rw [hw2]; exact y4.keep (Bm.Only.setCell (S := fun k => k = nb) w1 _ _ rfl) (fun e => hnma e.symm) (fun e => hnm e.symm)
    have zb : w2.heap[bg]? = some (.cells #[u8v x0, u8v x1, u8v x2] 5 (3, 4)) := by rw [hw2]; exact (Below.heap_setCell _ _ _ _ hbn).trans hb1'
    have zB : But (fun k => k = mf.b ∨ k = wb ∨ k = nb) w w2 := by
      rw [hw2]
      exact ((But.of_below hBW).trans (hb1.mono (fun k _ e => by rcases e with e | e; exact .inl e; exact .inr (.inl e)))).setCell _ (.inr (.inr rfl)) _
    have s0 := own_cell1 z3 (j := 0) rfl
    have s1 := own_cell1 z3 (j := 1) rfl
    have s2 := own_cell1 z3 (j := 2) rfl
    have l7 : ((cs.set 2 (.slice (some ⟨g, 0, none⟩) 1 cap)).set 7 (.slice (some ⟨g7, 0, none⟩) 1 cap7))[7]? = some (.slice (some ⟨g7, 0, none⟩) 1 cap7) := by rw [List.getElem?_set_self (by rw [List.length_set]; omega)]
    have d7 := z1.cell l7
    have HZ : Hid (BlkAt w2 wb ((cs.set 2 (.slice (some ⟨g, 0, none⟩) 1 cap)).set 7 (.slice (some ⟨g7, 0, none⟩) 1 cap7)) 150 ∧ w2.ownsRow w.heap.size 3 1 (.slice (some ⟨g, 0, none⟩) 1 cap) 1 [.int .i64 (r : Nat)] ∧ NumsAt w2 nb (ns.set 1 (BitVec.ofNat 32 r)) ∧ Bm.MapAt w2 (mf.turn r) ∧ w2.heap[bg]? = some (.cells #[u8v x0, u8v x1, u8v x2] 5 (3, 4)) ∧ But (fun k => k = mf.b ∨ k = wb ∨ k = nb) w w2 ∧ nb ≠ wb ∧ wb ≠ mf.b ∧ wb ≠ mf.a) := ⟨z1, z2, zn, zm, zb, zB, hnw, map_b_ne hm hw (by decide), map_a_ne hm hw (by decide)⟩
    clear hw hm ht hn hb hBW hWs hnm hnma hnl2 hbm hw1 hbW tagne hb1' hbn hn1' own2 z1 z2 z3 zn zm zb zB l7 y1 y2 y3 y4 hb1 hw2 hnw
    go_wp2_with fail
    go_loopw [42] (fun ii wr => ∃ i : Nat, i ≤ 1 ∧ ii = .int .i64 i ∧ Hid ((i = 0 ∧ wr = w2) ∨ (i = 1 ∧ Planned w wr wb nb cs ns mf r x0 x1 x2))) (fun ii _ => 1 - (intOf ii).toNat)
    case atStart => exact ⟨0, by omega, rfl, .inl ⟨rfl, rfl⟩⟩
    case round =>
      obtain ⟨i, hi, rfl, HI⟩ := hrel
      by_cases hi0 : i = 0
      · subst hi0
        obtain rfl : wr = w2 := by
          rcases HI.out with ⟨_, e⟩ | ⟨e, _⟩
          · exact e
          · cases e
        clear HI d7
        have l4 : ((cs.set 2 (.slice (some ⟨g, 0, none⟩) 1 cap)).set 7 (.slice (some ⟨g7, 0, none⟩) 1 cap7))[4]? = some (.slice none 0 0) := by rw [List.getElem?_set_ne (by decide), List.getElem?_set_ne (by decide)]; exact h4
        have l5 : ((cs.set 2 (.slice (some ⟨g, 0, none⟩) 1 cap)).set 7 (.slice (some ⟨g7, 0, none⟩) 1 cap7))[5]? = some (.int .i64 700) := by rw [List.getElem?_set_ne (by decide), List.getElem?_set_ne (by decide)]; exact h5
        have l6 : ((cs.set 2 (.slice (some ⟨g, 0, none⟩) 1 cap)).set 7 (.slice (some ⟨g7, 0, none⟩) 1 cap7))[6]? = some (.slice (some ⟨bg, 0, none⟩) 3 3) := by rw [List.getElem?_set_ne (by decide), List.getElem?_set_ne (by decide)]; exact h6
        obtain ⟨w3, hw3⟩ : ∃ w3, w3 = wr.alloc (.cells #[.int .i64 1, .int .u32 (r : Nat), .bool true] 192) := ⟨_, rfl⟩
        have hB3 : Below wr.heap.size wr w3 := by rw [hw3]; exact (Below.refl _ wr).alloc (Nat.le_refl _) _
        obtain ⟨z1, z2, zn, zm, zb, zB, hnw, hwb, hwa⟩ := HZ.out
        have cF := fill_first wb bg r _ x0 x1 x2 w3 (z1.below hB3) l4 l5 l6 hr (.inl ((hB3.block bg (Array.getElem?_eq_some_iff.1 zb).1).trans zb))
        have H3 : Hid (Below wr.heap.size wr w3) := hB3
        clear hB3 z1 z2 zn zm zb zB hnw hwb hwa l4 l5 l6
        go_wp2_with (go_at_call 135; rw [← hw3]; refine cF.mono ?_; rintro e w4 ⟨rfl, hv⟩; clear cF hw3; refine Stop.out ?_)
        refine Stop.mk ?_
        obtain ⟨g4, cap4, v1, v2, v3, v4⟩ := hv
        obtain ⟨z1, z2, zn, zm, zb, zB, hnw, hwb, hwa⟩ := HZ.out
        have hs3 := H3.out.size
        have hsB := zB.size
        have HP : Hid (Planned w w4 wb nb cs ns mf r x0 x1 x2) := by
          refine ⟨⟨g, cap, g7, cap7, g4, cap4, w3.heap.size + 1, v1, own_butI (own_belowT z2 H3.out) v4 (fun k c3 hk hc e => ?_), own_low_base v2 (by omega), v3, by omega⟩, (zn.below H3.out zn.lt).but v4 hnw, (zm.below H3.out).keep (but_only v4) (fun e => hwa e.symm) (fun e => hwb e.symm), zB.trans ((But.of_below H3.out).trans (v4.mono (fun k _ e => .inr (.inl e))))⟩
          rw [e, show w3.heap[wb]? = _ from z1.below H3.out] at hc
          simp only [Option.some.injEq, Obj.cells.injEq] at hc
          exact absurd hc.2.1 (by decide)
        clear v1 v2 v3 v4 z1 z2 zn zm zb zB hnw hwb hwa hs3 hsB s0 s1 s2
        go_wp2
        exact ⟨⟨1, by omega, rfl, .inr ⟨rfl, HP.out⟩⟩, by simp [intOf]⟩
      · obtain rfl : i = 1 := by omega
        have HP : Hid (Planned w wr wb nb cs ns mf r x0 x1 x2) := by
          rcases HI.out with ⟨e, _⟩ | ⟨_, h⟩
          · omega
          · exact h
        clear HI
        go_wp2
        go_ret
        exact ⟨rfl, HP.out⟩

end Go.Proofs.YtphedokdckoccaaGreatDoor

/-
  Package inode: a change of one block, taken, is done; the inode becomes what it is to be.
-/
namespace Go.Proofs.YtphedokdckoccaaGreatDoor
open Go.RowKit Go.Maps Go.Sort Go.Shelf

theorem set_free (r : Nat) (m : Bm.MS) (w : World) (hm : Bm.MapAt w m) (hr : r < m.n) (hu : Bm.used m.ws r = false) : Calls Tryz.prog 90 #[.pointer (some ⟨m.a, 0, none⟩), .int .i64 r] w fun e w' => e = .returned (.int .i64 0) ∧ Bm.MapAt w' (m.turn r) ∧ But (fun k => k = m.b) w w' := by
  refine (Bm.set_in r m w hm hr).mono ?_
  rintro e w' ⟨m2, ho, hm2, hb2⟩
  rcases ho with ⟨h, _, _⟩ | ⟨_, h, rfl⟩
  · rw [hu] at h; cases h
  · exact ⟨h, hm2, only_but hb2⟩

set_option maxRecDepth 8000 in
set_option maxHeartbeats 4000000 in
theorem do_one (w0 w : World) (wb c g cap gt capt r dg b : Nat) (cs : List Value) (t : TypeId) (D : By) (vs : VS) (A : AC) (m : Bm.MS) (hw : BlkAt w wb cs t) (htf : foreignT t) (htu : t ≠ 142) (h0 : cs[0]? = some (ep c)) (h2 : cs[2]? = some (.slice (some ⟨gt, 0, none⟩) 1 capt)) (h3 : cs[3]? = some (.slice none 0 0)) (h4 : cs[4]? = some (.slice (some ⟨g, 0, none⟩) 1 cap)) (hT : w.ownsRow 0 3 1 (.slice (some ⟨gt, 0, none⟩) 1 capt) 1 [.int .i64 (r : Nat)]) (hP : Put1 w g cap r dg D) (hDl : D.length = 512) (hC : CW w0 w c vs A b) (hb : b < 700000) (hr : r < nbOf vs.d.n) (hok : A.held r = true ∨ A.full = false) (hp : ∀ e ∈ A.L, e.pins < 1000000)
    (he1 : ∃ e ∈ (pinned1 A r (vs.cont r)).L, e.block = r ∧ e.dirty = false) (he2 : ∃ e ∈ ((pinned1 A r (vs.cont r)).put r D).L, e.block = r ∧ 0 < e.pins ∧ e.pins < 1000000)
    (hm : Bm.MapAt w m) (hmr : r < m.n) (hmu : Bm.used m.ws r = false) :
    Calls Tryz.prog 136 #[.pointer (some ⟨wb, 0, none⟩), .pointer (some ⟨m.a, 0, none⟩)] w fun e w' => e = .returned (.int .i64 0) ∧ CW w0 w' c vs (((pinned1 A r (vs.cont r)).put r D).unpin r) (b + 3) ∧ Bm.MapAt w' (m.turn r) ∧ But (fun k => Cmn w0 w k ∨ k = m.b) w w' := by
  have ht : ¬ cTag t := cTag_not htf.1 htf.2.1 htf.2.2.1
  have cP := putAll_one w0 w wb c g cap r dg b cs t D vs A hw ht h0 h4 hP hDl hC hb hr hok hp he1 he2
  obtain ⟨c3, hmrow, _⟩ := hm.row
  have hmb : ¬ Cmn w0 w m.b := cmn_not hmrow (cTag_not (by decide) (by decide) (by decide))
  have hma : ¬ Cmn w0 w m.a := cmn_not hm.st (cTag_not (by decide) (by decide) (by decide))
  have HW : Hid (BlkAt w wb cs t ∧ Bm.MapAt w m ∧ w.ownsRow 0 3 1 (.slice (some ⟨gt, 0, none⟩) 1 capt) 1 [.int .i64 (r : Nat)] ∧ ¬ Cmn w0 w m.b ∧ ¬ Cmn w0 w m.a) := ⟨hw, hm, hT, hmb, hma⟩
  clear hw hm hT hP hC hmb hma hmrow
  go_enter Tryz.func136, Tryz.ntmps136
  go_wp2_with (go_at_call 175; refine cP.mono ?_; rintro e w1 ⟨rfl, hC1, hb1⟩; clear cP; refine Stop.out ?_)
  refine Stop.mk ?_
  have hw1 := HW.out.1.cache hb1 ht
  have d2 := hw1.cell h2
  have hT1 := own_butI HW.out.2.2.1 hb1 (fun k c4 _ hk => cmn_not hk (cTag_not (by decide) (by decide) (by decide)))
  have p0 := own_cell1 hT1 (j := 0) rfl
  have hm1 : Bm.MapAt w1 m := HW.out.2.1.keep (but_only hb1) HW.out.2.2.2.2 HW.out.2.2.2.1
  have cS := set_free r m w1 hm1 hmr hmu
  have H1 : Hid (CW w0 w1 c vs (((pinned1 A r (vs.cont r)).put r D).unpin r) (b + 3) ∧ But (Cmn w0 w) w w1 ∧ BlkAt w1 wb cs t ∧ Bm.MapAt w1 m) := ⟨hC1, hb1, hw1, hm1⟩
  clear hC1 hb1 hw1 hT1 hm1
  go_wp2_with fail
  go_loopw [20] (fun ii wr => ∃ i : Nat, i ≤ 1 ∧ ii = .int .i64 i ∧ Hid ((i = 0 ∧ wr = w1) ∨ (i = 1 ∧ Bm.MapAt wr (m.turn r) ∧ But (fun k => k = m.b) w1 wr))) (fun ii _ => 1 - (intOf ii).toNat)
  case atStart => exact ⟨0, by omega, rfl, .inl ⟨rfl, rfl⟩⟩
  case round =>
    obtain ⟨i, hi, hii, HI⟩ := hrel
    by_cases hi0 : i = 0
    · subst hi0
      subst hii
      obtain rfl : wr = w1 := by
        rcases HI.out with ⟨_, e⟩ | ⟨e, _⟩
        · exact e
        · cases e
      clear HI d2
      go_wp2_with (go_at_call 90; refine cS.mono ?_; rintro e w2 ⟨rfl, hm2, hb2⟩; clear cS; have H2 : Hid (Bm.MapAt w2 (m.turn r) ∧ But (fun k => k = m.b) wr w2) := ⟨hm2, hb2⟩; clear hm2 hb2)
      exact ⟨⟨1, by omega, rfl, .inr ⟨rfl, H2.out⟩⟩, by simp [intOf]⟩
    · have hi1 : i = 1 := by omega
      have H2 : Hid (Bm.MapAt wr (m.turn r) ∧ But (fun k => k = m.b) w1 wr) := by
        rcases HI.out with ⟨e, _⟩ | ⟨_, h⟩
        · exact absurd e hi0
        · exact h
      rw [hi1] at hii
      have hii' : _ = Value.int .i64 1 := hii
      clear hii HI hi hi0 hi1 d2 p0 cS
      subst hii'
      have hw2 : BlkAt wr wb cs t := H1.out.2.2.1.but H2.out.2 (map_b_ne H1.out.2.2.2 H1.out.2.2.1 htu)
      have d3 := hw2.cell h3
      clear hw2
      go_wp2_with fail
      go_loop [33] (fun ii => ii = .int .i64 0) (fun _ => 0)
      case atStart => rfl
      case round =>
        subst hrel
        go_wp2
        go_ret
        refine ⟨rfl, H1.out.1.foreign H2.out.2 (fun k hk => ?_), H2.out.1, (H1.out.2.1.mono (fun k _ h => .inl h)).trans (H2.out.2.mono (fun k _ h => .inr h))⟩
        obtain ⟨c5, hx, _⟩ := H1.out.2.2.2.row
        rw [show k = m.b from hk]
        exact ⟨_, _, _, hx, by unfold foreignT; decide⟩

end Go.Proofs.YtphedokdckoccaaGreatDoor

/-
  Package inode: an inode becomes what it is to be.
-/
namespace Go.Proofs.YtphedokdckoccaaGreatDoor
open Go.RowKit Go.Maps Go.Sort Go.Shelf

theorem InoAt.but {w w' : World} {a sz : Nat} {ns : List (BitVec 32)} {S : Nat → Prop} (h : InoAt w a sz ns) (hb : But S w w') (hS : ¬ S a) : InoAt w' a sz ns := (hb.block a h.lt hS).trans h

theorem InoAt.drewI {w : World} {a sz : Nat} {ns : List (BitVec 32)} (h : InoAt w a sz ns) : InoAt w.drew a sz ns := h
theorem InoAt.setSize {w : World} {a sz : Nat} {ns : List (BitVec 32)} (h : InoAt w a sz ns) (size : Nat) : InoAt (w.setCell ⟨a, 0, none⟩ (.int .i64 (size : Nat))) a size ns := by
  unfold InoAt at *
  simp [World.setCell, Array.getElem?_modify, h, inoCells]

theorem InoAt.put {w : World} {a sz : Nat} {ns : List (BitVec 32)} (h : InoAt w a sz ns) (i j : Nat) (n : BitVec 32) (hj : 1 + i = j) : InoAt (w.setCell ⟨a, j, none⟩ (.int .u32 (n.toNat : Int))) a sz (ns.set i n) := by
  subst hj
  exact h.set i n
theorem ino_all {w : World} {a sz : Nat} (size : Nat) (n0 n1 n2 n3 n4 n5 n6 n7 n8 n9 o0 o1 o2 o3 o4 o5 o6 o7 o8 o9 : BitVec 32) (h : InoAt w a sz [o0, o1, o2, o3, o4, o5, o6, o7, o8, o9]) :
    InoAt (((((((((((w.setCell ⟨a, 0, none⟩ (.int .i64 (size : Nat))).setCell ⟨a, 1, none⟩ (.int .u32 (n0.toNat : Int))).setCell ⟨a, 2, none⟩ (.int .u32 (n1.toNat : Int))).setCell ⟨a, 3, none⟩ (.int .u32 (n2.toNat : Int))).setCell ⟨a, 4, none⟩ (.int .u32 (n3.toNat : Int))).setCell ⟨a, 5, none⟩ (.int .u32 (n4.toNat : Int))).setCell ⟨a, 6, none⟩ (.int .u32 (n5.toNat : Int))).setCell ⟨a, 7, none⟩ (.int .u32 (n6.toNat : Int))).setCell ⟨a, 8, none⟩ (.int .u32 (n7.toNat : Int))).setCell ⟨a, 9, none⟩ (.int .u32 (n8.toNat : Int))).setCell ⟨a, 10, none⟩ (.int .u32 (n9.toNat : Int))) a size [n0, n1, n2, n3, n4, n5, n6, n7, n8, n9] ∧ But (fun k => k = a) w (((((((((((w.setCell ⟨a, 0, none⟩ (.int .i64 (size : Nat))).setCell ⟨a, 1, none⟩ (.int .u32 (n0.toNat : Int))).setCell ⟨a, 2, none⟩ (.int .u32 (n1.toNat : Int))).setCell ⟨a, 3, none⟩ (.int .u32 (n2.toNat : Int))).setCell ⟨a, 4, none⟩ (.int .u32 (n3.toNat : Int))).setCell ⟨a, 5, none⟩ (.int .u32 (n4.toNat : Int))).setCell ⟨a, 6, none⟩ (.int .u32 (n5.toNat : Int))).setCell ⟨a, 7, none⟩ (.int .u32 (n6.toNat : Int))).setCell ⟨a, 8, none⟩ (.int .u32 (n7.toNat : Int))).setCell ⟨a, 9, none⟩ (.int .u32 (n8.toNat : Int))).setCell ⟨a, 10, none⟩ (.int .u32 (n9.toNat : Int))) := by
  have hh := (((((((((((h.setSize size).put 0 1 n0 rfl).put 1 2 n1 rfl).put 2 3 n2 rfl).put 3 4 n3 rfl).put 4 5 n4 rfl).put 5 6 n5 rfl).put 6 7 n6 rfl).put 7 8 n7 rfl).put 8 9 n8 rfl).put 9 10 n9 rfl)
  simp only [List.set_cons_zero, List.set_cons_succ] at hh
  refine ⟨hh, ?_⟩
  iterate 11 (refine But.setCell (S := fun k => k = a) ?_ _ rfl _)
  exact But.refl _ _

set_option maxRecDepth 8000 in
set_option maxHeartbeats 4000000 in
/-- do leaves the inode; then it is set. -/
theorem become_any (w : World) (a sz size wb ma : Nat) (ns ns' : List (BitVec 32)) (R : World → Prop) (S : Nat → Prop) (hn : InoAt w a sz ns) (hnl : ns.length = 10) (hnl' : ns'.length = 10)
    (W : World) (hW : W = w.alloc (.cells (ns'.map u32v).toArray 136)) (hD : Calls Tryz.prog 136 #[.pointer (some ⟨wb, 0, none⟩), .pointer (some ⟨ma, 0, none⟩)] W fun e w' => e = .returned (.int .i64 0) ∧ R w' ∧ But S W w') (hSa : ¬ S a) (hSn : ¬ S w.heap.size) :
    Calls Tryz.prog 94 #[.pointer (some ⟨a, 0, none⟩), .int .i64 (size : Nat), .agg (ns'.map u32v).toArray, .pointer (some ⟨wb, 0, none⟩), .pointer (some ⟨ma, 0, none⟩)] w fun e w' => e = .returned (.int .i64 0) ∧ ∃ w1, R w1 ∧ But S w w1 ∧ InoAt w' a size ns' ∧ But (fun k => k = a) w1 w' := by
  obtain ⟨n0, n1, n2, n3, n4, n5, n6, n7, n8, n9, rfl⟩ := list10 hnl'
  obtain ⟨o0, o1, o2, o3, o4, o5, o6, o7, o8, o9, rfl⟩ := list10 hnl
  obtain ⟨w1, hw1⟩ : ∃ w1, w1 = w.alloc (.cells #[u32v n0, u32v n1, u32v n2, u32v n3, u32v n4, u32v n5, u32v n6, u32v n7, u32v n8, u32v n9] 136) := ⟨_, rfl⟩
  have hB1 : Below w.heap.size w w1 := by rw [hw1]; exact (Below.refl _ w).alloc (Nat.le_refl _) _
  have hx1 : NumsAt w1 w.heap.size [n0, n1, n2, n3, n4, n5, n6, n7, n8, n9] := by rw [hw1]; exact heap_alloc_new w _
  obtain rfl : w1 = W := by rw [hw1, hW]; rfl
  have cD := hD
  have HW : Hid (InoAt w a sz [o0, o1, o2, o3, o4, o5, o6, o7, o8, o9] ∧ Below w.heap.size w w1 ∧ NumsAt w1 w.heap.size [n0, n1, n2, n3, n4, n5, n6, n7, n8, n9]) := ⟨hn, hB1, hx1⟩
  clear hD hn hB1 hx1 hW
  go_enter Tryz.func94, Tryz.ntmps94
  go_wp2_with (go_at_call 136; rw [← hw1]; refine cD.mono ?_; rintro e w2 ⟨rfl, hR2, hb2⟩; clear cD hw1; refine Stop.out ?_)
  refine Stop.mk ?_
  have hi2 : InoAt w2 a sz [o0, o1, o2, o3, o4, o5, o6, o7, o8, o9] := (HW.out.1.below HW.out.2.1 HW.out.1.lt).but hb2 hSa
  have hx2 : NumsAt w2 w.heap.size [n0, n1, n2, n3, n4, n5, n6, n7, n8, n9] := HW.out.2.2.but hb2 hSn
  have c0 := hi2.size
  have f0 : w2.frozen? ⟨a, 0, none⟩ = false := frozenOf hi2 _
  have c1 : w2.cell? ⟨a, 1, none⟩ = some (u32v o0) := hi2.num (i := 0) rfl
  have f1 : w2.frozen? ⟨a, 1, none⟩ = false := frozenOf hi2 _
  have q0 : w2.cell? ⟨w.heap.size, 0, none⟩ = some (u32v n0) := hx2.num (i := 0) rfl
  have c2 : w2.cell? ⟨a, 2, none⟩ = some (u32v o1) := hi2.num (i := 1) rfl
  have f2 : w2.frozen? ⟨a, 2, none⟩ = false := frozenOf hi2 _
  have q1 : w2.cell? ⟨w.heap.size, 1, none⟩ = some (u32v n1) := hx2.num (i := 1) rfl
  have c3 : w2.cell? ⟨a, 3, none⟩ = some (u32v o2) := hi2.num (i := 2) rfl
  have f3 : w2.frozen? ⟨a, 3, none⟩ = false := frozenOf hi2 _
  have q2 : w2.cell? ⟨w.heap.size, 2, none⟩ = some (u32v n2) := hx2.num (i := 2) rfl
  have c4 : w2.cell? ⟨a, 4, none⟩ = some (u32v o3) := hi2.num (i := 3) rfl
  have f4 : w2.frozen? ⟨a, 4, none⟩ = false := frozenOf hi2 _
  have q3 : w2.cell? ⟨w.heap.size, 3, none⟩ = some (u32v n3) := hx2.num (i := 3) rfl
  have c5 : w2.cell? ⟨a, 5, none⟩ = some (u32v o4) := hi2.num (i := 4) rfl
  have f5 : w2.frozen? ⟨a, 5, none⟩ = false := frozenOf hi2 _
  have q4 : w2.cell? ⟨w.heap.size, 4, none⟩ = some (u32v n4) := hx2.num (i := 4) rfl
  have c6 : w2.cell? ⟨a, 6, none⟩ = some (u32v o5) := hi2.num (i := 5) rfl
  have f6 : w2.frozen? ⟨a, 6, none⟩ = false := frozenOf hi2 _
  have q5 : w2.cell? ⟨w.heap.size, 5, none⟩ = some (u32v n5) := hx2.num (i := 5) rfl
  have c7 : w2.cell? ⟨a, 7, none⟩ = some (u32v o6) := hi2.num (i := 6) rfl
  have f7 : w2.frozen? ⟨a, 7, none⟩ = false := frozenOf hi2 _
  have q6 : w2.cell? ⟨w.heap.size, 6, none⟩ = some (u32v n6) := hx2.num (i := 6) rfl
  have c8 : w2.cell? ⟨a, 8, none⟩ = some (u32v o7) := hi2.num (i := 7) rfl
  have f8 : w2.frozen? ⟨a, 8, none⟩ = false := frozenOf hi2 _
  have q7 : w2.cell? ⟨w.heap.size, 7, none⟩ = some (u32v n7) := hx2.num (i := 7) rfl
  have c9 : w2.cell? ⟨a, 9, none⟩ = some (u32v o8) := hi2.num (i := 8) rfl
  have f9 : w2.frozen? ⟨a, 9, none⟩ = false := frozenOf hi2 _
  have q8 : w2.cell? ⟨w.heap.size, 8, none⟩ = some (u32v n8) := hx2.num (i := 8) rfl
  have c10 : w2.cell? ⟨a, 10, none⟩ = some (u32v o9) := hi2.num (i := 9) rfl
  have f10 : w2.frozen? ⟨a, 10, none⟩ = false := frozenOf hi2 _
  have q9 : w2.cell? ⟨w.heap.size, 9, none⟩ = some (u32v n9) := hx2.num (i := 9) rfl
  have H2 : Hid (R w2 ∧ But S w w2 ∧ InoAt w2 a sz [o0, o1, o2, o3, o4, o5, o6, o7, o8, o9]) := ⟨hR2, (But.of_below HW.out.2.1).trans hb2, hi2⟩
  have hal := HW.out.1.lt
  have han : ¬ a = w.heap.size := by omega
  have han' : ¬ w.heap.size = a := by omega
  unfold u32v at *
  clear hi2 hx2 hR2 hb2 hal
  go_wp2_with fail
  go_region
  have HF : Hid _ := ino_all size n0 n1 n2 n3 n4 n5 n6 n7 n8 n9 _ _ _ _ _ _ _ _ _ _ H2.out.2.2
  generalize hw3 : ((((((((((w2.setCell ⟨a, 0, none⟩ (.int .i64 (size : Nat))).setCell ⟨a, 1, none⟩ (.int .u32 (n0.toNat : Int))).setCell ⟨a, 2, none⟩ (.int .u32 (n1.toNat : Int))).setCell ⟨a, 3, none⟩ (.int .u32 (n2.toNat : Int))).setCell ⟨a, 4, none⟩ (.int .u32 (n3.toNat : Int))).setCell ⟨a, 5, none⟩ (.int .u32 (n4.toNat : Int))).setCell ⟨a, 6, none⟩ (.int .u32 (n5.toNat : Int))).setCell ⟨a, 7, none⟩ (.int .u32 (n6.toNat : Int))).setCell ⟨a, 8, none⟩ (.int .u32 (n7.toNat : Int))).setCell ⟨a, 9, none⟩ (.int .u32 (n8.toNat : Int))).setCell ⟨a, 10, none⟩ (.int .u32 (n9.toNat : Int)) = w3 at HF ⊢
  clear hw3
  go_wp2
  go_ret
  exact ⟨rfl, w2, H2.out.1, H2.out.2.1, HF.out.1, HF.out.2.drew⟩

end Go.Proofs.YtphedokdckoccaaGreatDoor

/-
  Package inode: Write of three bytes at 700 into a file of no bytes.
-/
namespace Go.Proofs.YtphedokdckoccaaGreatDoor
open Go.RowKit Go.Maps Go.Sort Go.Shelf

set_option maxRecDepth 8000 in
set_option maxHeartbeats 1000000 in
theorem freeOf_used (m : Bm.MS) (w : World) (hm : Bm.MapAt w m) (ht : Bm.Tab64 w) (h0 : Bm.used m.ws 0 = true) (hn : 0 < m.n) : Calls Tryz.prog 92 #[.pointer (some ⟨m.a, 0, none⟩)] w fun e w' => ∃ m' : Bm.MS, e = .returned (.pointer (some ⟨m'.a, 0, none⟩)) ∧ m'.n = m.n ∧ m'.ws = m.ws ∧ Bm.MapAt w' m' ∧ w.heap.size ≤ m'.a ∧ w.heap.size ≤ m'.b ∧ Below w.heap.size w w' := by
  have cC := Bm.copy_any m w hm ht.lt
  go_enter Tryz.func92, Tryz.ntmps92
  go_wp2_with (go_at_call 133; refine cC.mono ?_; rintro e w1 ⟨m1, rfl, hn1, hs1, hm1, ha1, hb1, hB1⟩; clear cC; refine Stop.out ?_)
  refine Stop.mk ?_
  have cS := Bm.set_in 0 m1 w1 hm1 (by omega)
  have cS' : Calls Tryz.prog 90 #[.pointer (some ⟨m1.a, 0, none⟩), .int .i64 0] w1 fun e w' => e = .returned (.int .i64 16) ∧ Bm.MapAt w' m1 ∧ Below w.heap.size w w' := by
    refine cS.mono ?_
    rintro e w' ⟨m2, ho, hm2, hb2⟩
    rcases ho with ⟨_, h, rfl⟩ | ⟨h, _, _⟩
    · exact ⟨h, hm2, hB1.trans ((only_but hb2).below hB1.size (fun k e => by omega))⟩
    · rw [hs1, h0] at h; cases h
  have H1 : Hid (m1.n = m.n ∧ m1.ws = m.ws ∧ w.heap.size ≤ m1.a ∧ w.heap.size ≤ m1.b) := ⟨hn1, hs1, ha1, hb1⟩
  clear cS hm1 hB1 hn1 hs1 ha1 hb1
  go_wp2_with (go_at_call 90; refine cS'.mono ?_; rintro e w2 ⟨rfl, hm2, hB2⟩; clear cS')
  go_ret
  exact ⟨m1, rfl, H1.out.1, H1.out.2.1, hm2, H1.out.2.2.1, H1.out.2.2.2, hB2⟩

/-- The cache behind the write. -/
def wroteA (A : AC) (d D : By) : AC := (((pinned1 A 1 d).put 1 D).unpin 1)

theorem abcB_length {x0 x1 x2 : BitVec 8} : (abcB x0 x1 x2).length = 512 := by
  unfold abcB
  rw [List.length_append, List.length_append, List.length_replicate, List.length_replicate]
  simp only [List.length_cons, List.length_nil]
theorem put1_of {w : World} {base g cap r dg : Nat} {D : By} (h : w.ownsRow base 91 2 (.slice (some ⟨g, 0, none⟩) 1 cap) 1 [.int .i64 (r : Nat), .slice (some ⟨dg, 0, none⟩) 512 512]) (hd : w.heap[dg]? = some (.cells (D.map u8v).toArray 5 (0, 0))) : Put1 w g cap r dg D := by
  refine ⟨?_, hd⟩
  rcases h.2 with ⟨e, _⟩ | ⟨g', cap', cur, e, _, hblk, _, _, _, htk⟩
  · cases e
  · cases e
    have hx : ∀ (j : Nat) (v : Value), [Value.int .i64 (r : Nat), .slice (some ⟨dg, 0, none⟩) 512 512][j]? = some v → cur[j]? = some v := by
      intro j v hv
      rw [← htk, List.getElem?_take] at hv
      split at hv
      · simpa using hv
      · cases hv
    exact ⟨cur, hblk, hx 0 _ rfl, hx 1 _ rfl⟩

set_option maxRecDepth 8000 in
set_option maxHeartbeats 4000000 in
theorem write_first (w0 w : World) (a c bg b : Nat) (x0 x1 x2 : BitVec 8) (vs : VS) (A : AC) (m : Bm.MS) (hn : InoAt w a 0 noNums) (hC : CW w0 w c vs A b) (hb : b < 700000) (hr : 1 < nbOf vs.d.n) (hok : A.held 1 = true ∨ A.full = false) (hp : ∀ e ∈ A.L, e.pins < 1000000)
    (he1 : ∃ e ∈ (pinned1 A 1 (vs.cont 1)).L, e.block = 1 ∧ e.dirty = false) (he2 : ∃ e ∈ ((pinned1 A 1 (vs.cont 1)).put 1 (abcB x0 x1 x2)).L, e.block = 1 ∧ 0 < e.pins ∧ e.pins < 1000000)
    (hm : Bm.MapAt w m) (ht : Bm.Tab64 w) (hmn : 1 < m.n) (hu0 : Bm.used m.ws 0 = true) (hu1 : Bm.used m.ws 1 = false) (hbg : w.heap[bg]? = some (.cells #[u8v x0, u8v x1, u8v x2] 5 (3, 4))) :
    Calls Tryz.prog 45 #[.pointer (some ⟨a, 0, none⟩), ep c, .pointer (some ⟨m.a, 0, none⟩), .int .i64 700, .slice (some ⟨bg, 0, none⟩) 3 3] w fun e w' => e = .returned (.int .i64 0) ∧ InoAt w' a 703 (noNums.set 1 1#32) ∧ CW w0 w' c vs (wroteA A (vs.cont 1) (abcB x0 x1 x2)) (b + 3) ∧ Bm.MapAt w' (m.turn 1) ∧ But (fun k => Cmn w0 w k ∨ k = m.b ∨ k = a) w w' := by
  have cF := freeOf_used m w hm ht hu0 (by omega)
  have HW : Hid (InoAt w a 0 noNums ∧ CW w0 w c vs A b ∧ Bm.MapAt w m ∧ Bm.Tab64 w ∧ w.heap[bg]? = some (.cells #[u8v x0, u8v x1, u8v x2] 5 (3, 4))) := ⟨hn, hC, hm, ht, hbg⟩
  clear hn hC hm ht hbg
  go_enter Tryz.func45, Tryz.ntmps45
  go_wp2_with (go_at_call 92; refine cF.mono ?_; rintro e w1 ⟨mf, rfl, hf1, hf2, hf3, hf4, hf5, hB1⟩; clear cF; refine Stop.out ?_)
  refine Stop.mk ?_
  obtain ⟨w2, hw2⟩ : ∃ w2, w2 = w1.alloc (.cells #[ep c, .pointer (some ⟨mf.a, 0, none⟩), .slice none 0 0, .slice none 0 0, .slice none 0 0, .int .i64 700, .slice (some ⟨bg, 0, none⟩) 3 3, .slice none 0 0] 150) := ⟨_, rfl⟩
  have hB2 : Below w1.heap.size w1 w2 := by rw [hw2]; exact (Below.refl _ w1).alloc (Nat.le_refl _) _
  have hx2 : BlkAt w2 w1.heap.size [ep c, .pointer (some ⟨mf.a, 0, none⟩), .slice none 0 0, .slice none 0 0, .slice none 0 0, .int .i64 700, .slice (some ⟨bg, 0, none⟩) 3 3, .slice none 0 0] 150 := by rw [hw2]; exact heap_alloc_new w1 _
  have hB02 : Below w.heap.size w w2 := hB1.trans (hB2.mono hB1.size)
  have hn1 : InoAt w1 a 0 noNums := HW.out.1.below hB1 HW.out.1.lt
  have d0 : w1.cell? ⟨a, 1, none⟩ = some (.int .u32 0) := hn1.num (i := 0) (n := 0#32) rfl
  have d1 : w1.cell? ⟨a, 2, none⟩ = some (.int .u32 0) := hn1.num (i := 1) (n := 0#32) rfl
  have d2 : w1.cell? ⟨a, 3, none⟩ = some (.int .u32 0) := hn1.num (i := 2) (n := 0#32) rfl
  have d3 : w1.cell? ⟨a, 4, none⟩ = some (.int .u32 0) := hn1.num (i := 3) (n := 0#32) rfl
  have d4 : w1.cell? ⟨a, 5, none⟩ = some (.int .u32 0) := hn1.num (i := 4) (n := 0#32) rfl
  have d5 : w1.cell? ⟨a, 6, none⟩ = some (.int .u32 0) := hn1.num (i := 5) (n := 0#32) rfl
  have d6 : w1.cell? ⟨a, 7, none⟩ = some (.int .u32 0) := hn1.num (i := 6) (n := 0#32) rfl
  have d7 : w1.cell? ⟨a, 8, none⟩ = some (.int .u32 0) := hn1.num (i := 7) (n := 0#32) rfl
  have d8 : w1.cell? ⟨a, 9, none⟩ = some (.int .u32 0) := hn1.num (i := 8) (n := 0#32) rfl
  have d9 : w1.cell? ⟨a, 10, none⟩ = some (.int .u32 0) := hn1.num (i := 9) (n := 0#32) rfl
  have hal := hn1.lt
  have han : ¬ a = w1.heap.size := by omega
  have han' : ¬ w1.heap.size = a := by omega
  have H2 : Hid (w2 = w1.alloc (.cells #[ep c, .pointer (some ⟨mf.a, 0, none⟩), .slice none 0 0, .slice none 0 0, .slice none 0 0, .int .i64 700, .slice (some ⟨bg, 0, none⟩) 3 3, .slice none 0 0] 150)) := hw2
  clear hw2 hn1
  obtain ⟨w3, hw3⟩ : ∃ w3, w3 = (w1.alloc (.cells #[ep c, .pointer (some ⟨mf.a, 0, none⟩), .slice none 0 0, .slice none 0 0, .slice none 0 0, .int .i64 700, .slice (some ⟨bg, 0, none⟩) 3 3, .slice none 0 0] 150)).alloc (.cells #[.int .u32 0, .int .u32 0, .int .u32 0, .int .u32 0, .int .u32 0, .int .u32 0, .int .u32 0, .int .u32 0, .int .u32 0, .int .u32 0] 136) := ⟨_, rfl⟩
  have hB3 : Below w2.heap.size w2 w3 := by rw [hw3, ← H2.out]; exact (Below.refl _ w2).alloc (Nat.le_refl _) _
  have hs2 : w2.heap.size = w1.heap.size + 1 := by rw [H2.out]; simp
  have hx3 : NumsAt w3 (w1.heap.size + 1) noNums := by rw [hw3, ← H2.out, ← hs2]; exact heap_alloc_new w2 _
  have hs3 : w3.heap.size = w1.heap.size + 2 := by rw [hw3]; simp
  have hB03 : Below w.heap.size w w3 := hB02.trans (hB3.mono hB02.size)
  have hB13 : Below w1.heap.size w1 w3 := hB2.trans (hB3.mono hB2.size)
  have hbgl : bg < w.heap.size := (Array.getElem?_eq_some_iff.1 HW.out.2.2.2.2).1
  have hL : Least mf 1 := ⟨by omega, by rw [hf2]; exact hu1, fun i hi => (show i = 0 by omega) ▸ (by rw [hf2]; exact hu0)⟩
  have cP := plan_first w1.heap.size (w1.heap.size + 1) bg 1 [ep c, .pointer (some ⟨mf.a, 0, none⟩), .slice none 0 0, .slice none 0 0, .slice none 0 0, .int .i64 700, .slice (some ⟨bg, 0, none⟩) 3 3, .slice none 0 0] noNums mf x0 x1 x2 w3 (hx2.below hB3) rfl rfl rfl rfl rfl rfl rfl ((hB03.block bg hbgl).trans HW.out.2.2.2.2) (hf3.below hB13) (HW.out.2.2.2.1.below hB03) hL (by omega) hx3 rfl rfl
  have hal0 := HW.out.1.lt
  have hs1 := hB1.size
  have HP : Hid (Below w.heap.size w w3 ∧ w.heap.size ≤ mf.b ∧ Bm.MapAt w3 mf ∧ BlkAt w3 w1.heap.size [ep c, .pointer (some ⟨mf.a, 0, none⟩), .slice none 0 0, .slice none 0 0, .slice none 0 0, .int .i64 700, .slice (some ⟨bg, 0, none⟩) 3 3, .slice none 0 0] 150 ∧ NumsAt w3 (w1.heap.size + 1) noNums) := ⟨hB03, hf5, hf3.below hB13, hx2.below hB3, hx3⟩
  clear hB2 hB02 hB3 hB03 hB13 hx2 hx3 hL hf1 hf2 hf3 hf4 hf5 hB1 H2 hs2
  go_wp2_with (go_at_call 93; rw [← hw3]; refine cP.mono ?_; rintro e w4 ⟨rfl, hP4⟩; clear cP hw3 d0 d1 d2 d3 d4 d5 d6 d7 d8 d9; refine Stop.out ?_)
  refine Stop.mk ?_
  obtain ⟨hB03, hmfb, hmf3, hwb3, hnb3⟩ := HP.out
  obtain ⟨⟨gt, capt, g7, cap7, g4, cap4, dg, y1, y2, y3, y4, y5⟩, hN4, hM4, hb4⟩ := hP4
  have hB04 : Below w.heap.size w w4 := hB03.trans (hb4.below hB03.size (fun k e => by rcases e with e | e | e <;> omega))
  have hi4 : InoAt w4 a 0 noNums := HW.out.1.below hB04 hal0
  have c0 := hi4.size
  have q0 : w4.cell? ⟨w1.heap.size + 1, 0, none⟩ = some (.int .u32 0) := hN4.num (i := 0) (n := 0#32) rfl
  have q1 : w4.cell? ⟨w1.heap.size + 1, 1, none⟩ = some (.int .u32 1) := hN4.num (i := 1) (n := 1#32) rfl
  have q2 : w4.cell? ⟨w1.heap.size + 1, 2, none⟩ = some (.int .u32 0) := hN4.num (i := 2) (n := 0#32) rfl
  have q3 : w4.cell? ⟨w1.heap.size + 1, 3, none⟩ = some (.int .u32 0) := hN4.num (i := 3) (n := 0#32) rfl
  have q4 : w4.cell? ⟨w1.heap.size + 1, 4, none⟩ = some (.int .u32 0) := hN4.num (i := 4) (n := 0#32) rfl
  have q5 : w4.cell? ⟨w1.heap.size + 1, 5, none⟩ = some (.int .u32 0) := hN4.num (i := 5) (n := 0#32) rfl
  have q6 : w4.cell? ⟨w1.heap.size + 1, 6, none⟩ = some (.int .u32 0) := hN4.num (i := 6) (n := 0#32) rfl
  have q7 : w4.cell? ⟨w1.heap.size + 1, 7, none⟩ = some (.int .u32 0) := hN4.num (i := 7) (n := 0#32) rfl
  have q8 : w4.cell? ⟨w1.heap.size + 1, 8, none⟩ = some (.int .u32 0) := hN4.num (i := 8) (n := 0#32) rfl
  have q9 : w4.cell? ⟨w1.heap.size + 1, 9, none⟩ = some (.int .u32 0) := hN4.num (i := 9) (n := 0#32) rfl
  have hmx : (max 0 703 : Int) = 703 := by decide
  obtain ⟨W, hW⟩ : ∃ W, W = w4.drew.alloc (.cells ((noNums.set 1 1#32).map u32v).toArray 136) := ⟨_, rfl⟩
  have hBW : Below w4.heap.size w4 W := by rw [hW]; exact ((Below.refl _ w4).drew).alloc (Nat.le_refl _) _
  have hB0W : Below w.heap.size w W := hB04.trans (hBW.mono hB04.size)
  have hxW : NumsAt W w4.heap.size (noNums.set 1 1#32) := by rw [hW]; exact heap_alloc_new w4.drew _
  have hmW : Bm.MapAt W m := HW.out.2.2.1.below hB0W
  have hCW : CW w0 W c vs A b := ((HW.out.2.1.below hB03).foreign hb4 (fun k hk => by
    rcases hk with rfl | rfl | rfl
    · obtain ⟨_, h, _⟩ := hmf3.row
      exact ⟨_, _, _, h, by unfold foreignT; decide⟩
    · exact ⟨_, _, _, hwb3, by unfold foreignT; decide⟩
    · exact ⟨_, _, _, hnb3, by unfold foreignT; decide⟩)).below hBW
  have hPW : Put1 W g4 cap4 1 dg (abcB x0 x1 x2) := (put1_of y3 y4).below hBW
  have cD := do_one w0 W w1.heap.size c g4 cap4 gt capt 1 dg b _ 150 (abcB x0 x1 x2) vs A m (y1.below hBW) (by unfold foreignT; decide) (by decide) rfl rfl rfl rfl (own_low_base (own_belowT y2 hBW) (Nat.zero_le _)) hPW abcB_length hCW hb hr hok hp he1 he2 hmW hmn hu1
  have hiW : InoAt W a 0 noNums := hi4.below hBW hi4.lt
  have hna : ¬ (Cmn w0 W a ∨ a = m.b) := fun e => by
    rcases e with e | e
    · exact cmn_not hiW (cTag_not (by decide) (by decide) (by decide)) e
    · exact map_b_ne hmW (show BlkAt W a _ _ from hiW) (by decide) e
  have cB := become_any w4.drew a 0 703 w1.heap.size m.a noNums (noNums.set 1 1#32) (fun w' => CW w0 w' c vs (wroteA A (vs.cont 1) (abcB x0 x1 x2)) (b + 3) ∧ Bm.MapAt w' (m.turn 1)) (fun k => Cmn w0 W k ∨ k = m.b) hi4 rfl rfl W hW (cD.mono (by rintro e w' ⟨rfl, z1, z2, z3⟩; exact ⟨rfl, ⟨z1, z2⟩, z3⟩)) hna (fun e => by
    rcases e with e | e
    · exact cmn_not hxW (cTag_not (by decide) (by decide) (by decide)) e
    · exact map_b_ne hmW (show BlkAt W w4.heap.size _ _ from hxW) (by decide) e)
  have H4 : Hid (Below w.heap.size w w4 ∧ Below w4.heap.size w4 W ∧ Bm.MapAt W m ∧ InoAt W a 0 noNums ∧ ¬ (Cmn w0 W a ∨ a = m.b) ∧ InoAt w4 a 0 noNums) := ⟨hB04, hBW, hmW, hiW, hna, hi4⟩
  clear hB03 hmfb hmf3 hwb3 hnb3 y1 y2 y3 y4 y5 hN4 hM4 hb4 hB04 hi4 hW hBW hB0W hxW hmW hCW hPW cD hiW hna
  go_wp2_with fail
  go_region_with (go_at_call 94; refine cB.mono ?_; rintro e w6 ⟨rfl, w5, ⟨z1, z2⟩, z3, z4, z5⟩)
  all_goals
    have HF : Hid (InoAt w6 a 703 (noNums.set 1 1#32) ∧ CW w0 w6 c vs (wroteA A (vs.cont 1) (abcB x0 x1 x2)) (b + 3) ∧ Bm.MapAt w6 (m.turn 1) ∧ But (fun k => Cmn w0 w k ∨ k = m.b ∨ k = a) w w6) := by
      obtain ⟨hB04, hBW, hmW, hiW, hna, hi4⟩ := H4.out
      have z3' : But (fun k => Cmn w0 W k ∨ k = m.b) w4 w5 := ⟨z3.os, z3.tape, z3.output, z3.size, z3.block⟩
      have hi5 : InoAt w5 a 0 noNums := hi4.but z3' hna
      have hma : a ≠ m.a := map_a_ne hmW (show BlkAt W a _ _ from hiW) (by decide)
      have hmb : a ≠ m.b := map_b_ne hmW (show BlkAt W a _ _ from hiW) (by decide)
      refine ⟨z4, z1.foreign z5 (fun k hk => ?_), z2.keep (but_only z5) (fun e => hma e.symm) (fun e => hmb e.symm), ((But.of_below (S := fun k => Cmn w0 w k ∨ k = m.b ∨ k = a) hB04).after z3' (fun i hi hc => ?_)).after z5 (fun i _ e => .inr (.inr e))⟩
      · rw [show k = a from hk]
        exact ⟨_, _, _, hi5, by unfold foreignT; decide⟩
      · rcases hc with hc | hc
        · have e : W.heap[i]? = w.heap[i]? := (hB04.trans (hBW.mono hB04.size)).block i hi
          exact .inl ⟨hc.1, fun cs t fr hk => hc.2 cs t fr (e.trans hk)⟩
        · exact .inr (.inl hc)
    clear cB z1 z2 z3 z4 z5 q0 q1 q2 q3 q4 q5 q6 q7 q8 q9 c0
    go_wp2
    go_ret
    exact ⟨rfl, HF.out⟩

end Go.Proofs.YtphedokdckoccaaGreatDoor

/-
  Package inode: Read of what was written (four bytes at 699).
-/
namespace Go.Proofs.YtphedokdckoccaaGreatDoor
open Go.RowKit Go.Maps Go.Sort Go.Shelf

set_option maxRecDepth 8000 in
set_option maxHeartbeats 1000000 in
theorem get_ok2 (s : CS) (vs : VS) (B : Nat → By) (block b : Nat) (w : World) (h : CI w s vs B) (hz : CB s b) (hbz : b < 800000) (hb : block < nbOf vs.d.n) (hok : (acOf s B).held block = true ∨ (acOf s B).full = false) :
    Calls Tryz.prog 24 #[ep s.c, .int .i64 (block : Nat)] w fun e w' => ∃ g cap, e = .returned (.tuple #[.slice (some ⟨g, 0, none⟩) 512 cap, .int .i64 0]) ∧ ∃ s' B', Cst w w' s s' vs B' b ∧ acOf s' B' = (acOf s B).meet block (vs.cont block) id ∧ Bytes w' (some ⟨g, 0, none⟩) ((acOf s' B').dataOf block) ∧ ((acOf s' B').dataOf block).length = 512 ∧ 512 ≤ cap ∧ w.heap.size ≤ g := by
  have cM := meet_ok s vs B block b w h hz (by omega) hb hok
  clear h
  go_enter Tryz.func24, Tryz.ntmps24
  go_wp2_with (go_at_call 72; refine cM.mono ?_; rintro e w1 ⟨a, s1, B1, rfl, hM⟩; clear cM; refine Stop.out ?_)
  refine Stop.mk ?_
  have cU := use_cx hM.cx hM.inA hM.cb.1 (by omega)
  rw [hM.c] at cU
  have H1 : Hid (Mx w w1 s s1 vs B B1 block a b) := hM
  clear hM
  go_wp2_with (go_at_call 73; refine cU.mono ?_; rintro e w2 ⟨rfl, s2, hI2, hU2, hac2⟩; clear cU; refine Stop.out ?_)
  refine Stop.mk ?_
  obtain ⟨ip, icap, I', he2⟩ := hU2.eq
  have ha2 : a ∈ s2.A := by rw [he2]; exact H1.out.inA
  obtain ⟨x, hE⟩ := hI2.cm.entAny ha2
  obtain ⟨hn, hl, hcp, g0, hp, hbb, htg⟩ := hI2.dat a ha2
  have d1 : w2.cell? ⟨a, 1, none⟩ = some (.slice (some ⟨g0, 0, none⟩) 512 (s2.U a).cp) := by
    rw [cellOf hE 1, ← hp]
    show some (Value.slice (s2.U a).p (s2.U a).n (s2.U a).cp) = _
    rw [hn]
  have cl := clone_bytes g0 0 (B1 a) (s2.U a).cp w2 hbb (by omega) (by omega)
  rw [hl] at cl
  have hblk2 : (s2.U a).block = block := by
    rw [he2]
    show (updU s1.U a _ a).block = block
    rw [updU_same]; exact H1.out.blk
  have hdat : (acOf s2 B1).dataOf block = B1 a := by rw [← hblk2]; exact dataOf_ent hI2.cm ha2
  have hB2 : But (cMine w s.h) w w2 := cMine_trans H1.out.but (by rw [← H1.out.h]; exact hU2.but)
  have hac : acOf s2 B1 = (acOf s B).meet block (vs.cont block) id := by
    rw [hac2, H1.out.blk, H1.out.ac]
    unfold AC.meet
    split <;> rfl
  have hcb : CB s2 (b + 1) := by
    obtain ⟨⟨q1, q2, q3, q4, q5⟩, q6⟩ := H1.out.cb
    have := hz.uses
    rw [he2]
    exact ⟨q1, by show s1.uses + 1 ≤ _; omega, q3, q4, q5⟩
  have hc2 : s2.c = s.c := by rw [he2]; exact H1.out.c
  have hh2 : s2.h = s.h := by rw [he2]; exact H1.out.h
  have H2 : Hid (CI w2 s2 vs B1 ∧ CB s2 (b + 1) ∧ s2.c = s.c ∧ s2.h = s.h ∧ But (cMine w s.h) w w2 ∧ acOf s2 B1 = (acOf s B).meet block (vs.cont block) id ∧ (acOf s2 B1).dataOf block = B1 a ∧ (B1 a).length = 512) := ⟨hI2, hcb, hc2, hh2, hB2, hac, hdat, hl⟩
  clear hI2 hU2 hac2 he2 ha2 hE hn hcp hp hbb htg hblk2 hdat hB2 hac hcb hc2 hh2 H1 hl
  go_wp2_with (go_at_call 74; refine cl.mono ?_; rintro e w3 ⟨g, cap, rfl, hg, hcap, hb3, hB3, ht3⟩; clear cl)
  go_ret2
  obtain ⟨hI2, hcb, hc2, hh2, hB2, hac, hdat, hl⟩ := H2.out
  exact ⟨g, cap, rfl, s2, B1, ⟨hI2.below hB3, hcb, hc2, hh2, hB2.after (But.of_below (S := fun _ => False) hB3) (fun _ _ h => h.elim)⟩, hac, by rw [hdat]; exact hb3, by rw [hdat]; exact hl, hcap, Nat.le_trans hB2.size hg⟩


theorem cw_get2 (w0 w : World) (c : Nat) (vs : VS) (A : AC) (b x : Nat) (h : CW w0 w c vs A b) (hb : b < 800000) (hx : x < nbOf vs.d.n) (hok : A.held x = true ∨ A.full = false) :
    Calls Tryz.prog 24 #[ep c, .int .i64 (x : Nat)] w fun e w' => ∃ g cap, e = .returned (.tuple #[.slice (some ⟨g, 0, none⟩) 512 cap, .int .i64 0]) ∧ CW w0 w' c vs (A.meet x (vs.cont x) id) (b + 1) ∧ But (Cmn w0 w) w w' ∧ Bytes w' (some ⟨g, 0, none⟩) ((A.meet x (vs.cont x) id).dataOf x) ∧ ((A.meet x (vs.cont x) id).dataOf x).length = 512 ∧ 512 ≤ cap ∧ w.heap.size ≤ g := by
  obtain ⟨s, B, h1, h2, rfl, rfl, h5⟩ := h.st
  refine (get_ok2 s vs B x b w h1 h2 hb hx hok).mono ?_
  rintro e w' ⟨g, cap, rfl, s', B', hC, hA, hby, hlen, hcap, hg⟩
  rw [hA] at hby hlen
  exact ⟨g, cap, rfl, ⟨s', B', hC.ci, hC.cb, hC.c, hA, by rw [hC.h]; exact h5⟩, hC.but.mono (fun k _ hk => cmn_of h1 h5 k hk), hby, hlen, hcap, hg⟩

set_option maxRecDepth 8000 in
set_option maxHeartbeats 1000000 in
theorem iget_any (w0 w : World) (rb c x b : Nat) (cs : List Value) (t : TypeId) (vs : VS) (A : AC) (hw : BlkAt w rb cs t) (h0 : cs[0]? = some (ep c)) (hC : CW w0 w c vs A b) (hb : b < 800000) (hx : x < nbOf vs.d.n) (hok : A.held x = true ∨ A.full = false) :
    Calls Tryz.prog 140 #[.pointer (some ⟨rb, 0, none⟩), .int .u32 (x : Nat)] w fun e w' => ∃ g cap, e = .returned (.tuple #[.slice (some ⟨g, 0, none⟩) 512 cap, .int .i64 0]) ∧ CW w0 w' c vs (A.meet x (vs.cont x) id) (b + 1) ∧ But (Cmn w0 w) w w' ∧ Bytes w' (some ⟨g, 0, none⟩) ((A.meet x (vs.cont x) id).dataOf x) ∧ ((A.meet x (vs.cont x) id).dataOf x).length = 512 ∧ 512 ≤ cap ∧ w.heap.size ≤ g := by
  have d0 := hw.cell h0
  have hn : nbOf vs.d.n ≤ 48 := by obtain ⟨s, B, h1, _⟩ := hC.st; exact h1.nb
  have hcv : IntKind.i64.wrap (x : Int) = (x : Int) := by rw [IntKind.wrap_i64]; omega
  have cG := cw_get2 w0 w c vs A b x hC hb hx hok
  clear hw hC
  go_enter Tryz.func140, Tryz.ntmps140
  go_wp2_with (go_at_call 24; refine cG.mono ?_; rintro e w1 ⟨g, cap, rfl, h⟩; clear cG)
  go_ret2
  exact ⟨g, cap, rfl, h⟩

set_option maxRecDepth 8000 in
set_option maxHeartbeats 2000000 in
theorem copyOut_one (w0 w : World) (rb c og b : Nat) (cs : List Value) (y0 y1 y2 y3 : BitVec 8) (zs : List Value) (vs : VS) (A : AC) (hw : BlkAt w rb cs 163) (h0 : cs[0]? = some (ep c)) (h5 : cs[5]? = some (.int .i64 699)) (h6 : cs[6]? = some (.slice (some ⟨og, 0, none⟩) 4 4)) (ho : w.heap[og]? = some (.cells zs.toArray 5 (0, 0))) (hzl : zs.length = 4) (hC : CW w0 w c vs A b) (hb : b < 800000) (hx : 1 < nbOf vs.d.n) (hok : A.held 1 = true ∨ A.full = false)
    (hD0 : ((A.meet 1 (vs.cont 1) id).dataOf 1)[187]? = some y0) (hD1 : ((A.meet 1 (vs.cont 1) id).dataOf 1)[188]? = some y1) (hD2 : ((A.meet 1 (vs.cont 1) id).dataOf 1)[189]? = some y2) (hD3 : ((A.meet 1 (vs.cont 1) id).dataOf 1)[190]? = some y3) :
    Calls Tryz.prog 97 #[.pointer (some ⟨rb, 0, none⟩), .int .i64 1, .int .u32 1] w fun e w' => e = .returned (.tuple #[.int .u32 1, .int .i64 0]) ∧ w'.heap[og]? = some (.cells #[u8v y0, u8v y1, u8v y2, u8v y3] 5 (0, 0)) ∧ BlkAt w' rb cs 163 ∧ But (fun k => Cmn w0 w k ∨ k = og) w w' := by
  have cG : Calls Tryz.prog 140 #[.pointer (some ⟨rb, 0, none⟩), .int .u32 1] w _ := iget_any w0 w rb c 1 b cs 163 vs A hw h0 hC hb hx hok
  have HW : Hid (BlkAt w rb cs 163 ∧ w.heap[og]? = some (.cells zs.toArray 5 (0, 0))) := ⟨hw, ho⟩
  clear hw hC ho
  go_enter Tryz.func97, Tryz.ntmps97
  go_wp2_with (go_at_call 140; refine cG.mono ?_; rintro e w1 ⟨g, cap, rfl, hC1, hb1, hby, hlen, hcap, hgl⟩; clear cG; refine Stop.out ?_)
  refine Stop.mk ?_
  have hw1 := HW.out.1.cache hb1 (cTag_not (by decide) (by decide) (by decide))
  have ho1 : w1.heap[og]? = some (.cells zs.toArray 5 (0, 0)) := (hb1.block og (Array.getElem?_eq_some_iff.1 HW.out.2).1 (cmn_not HW.out.2 (cTag_not (by decide) (by decide) (by decide)))).trans HW.out.2
  have d5 := hw1.cell h5
  have d6 := hw1.cell h6
  have hmx : (max 699 512 : Int) = 699 := by decide
  obtain ⟨g', o', e', hxy⟩ := hby (by omega)
  cases e'
  have hsrc : ∀ (j : Nat) (v : Value), [u8v y0, u8v y1, u8v y2, u8v y3][j]? = some v → w1.drew.cell? ((⟨g, 187, none⟩ : Addr).add j) = some v := by
    intro j v hj
    rw [Addr.add_lit]
    match j, hj with
    | 0, hj => cases hj; simpa using hxy 187 y0 hD0
    | 1, hj => cases hj; simpa using hxy 188 y1 hD1
    | 2, hj => cases hj; simpa using hxy 189 y2 hD2
    | 3, hj => cases hj; simpa using hxy 190 y3 hD3
  have hcp : ∀ ty, (Builtin.copy_ #[55, 55] ty #[.slice (some ⟨og, 0, none⟩) 4 4, .slice (some ⟨g, 187, none⟩) 325 (cap - 187)]).run Tryz.prog w1.drew = .ok (.int .i64 4) (w1.drew.setRow og (zs.toArray.toList.take 0 ++ [u8v y0, u8v y1, u8v y2, u8v y3] ++ zs.toArray.toList.drop (0 + 4)).toArray) :=
    fun ty => run_copy_row (P := Tryz.prog) w1.drew 55 55 ty 5 og 0 4 4 ⟨g, 187, none⟩ 325 (cap - 187) zs.toArray 5 [u8v y0, u8v y1, u8v y2, u8v y3] Tryz.underlying55 Tryz.size5 ho1 rfl hsrc (by simp [hzl]) (by intro v hv; simp at hv; rcases hv with rfl | rfl | rfl | rfl <;> rfl)
  obtain ⟨w3, hw3⟩ : ∃ w3, w3 = w1.drew.setRow og (zs.toArray.toList.take 0 ++ [u8v y0, u8v y1, u8v y2, u8v y3] ++ zs.toArray.toList.drop (0 + 4)).toArray := ⟨_, rfl⟩
  rw [← hw3] at hcp
  have hx3 : w3.heap[og]? = some (.cells #[u8v y0, u8v y1, u8v y2, u8v y3] 5 (0, 0)) := by
    rw [hw3, setRow_heap w1.drew _ zs.toArray _ 5 (0, 0) ho1]
    simp [List.drop_of_length_le (show zs.length ≤ 4 by omega)]
  have hb3 : But (fun k => k = og) w1 w3 := by
    rw [hw3]
    exact ⟨rfl, rfl, rfl, by simp, fun k hk hn => setRow_other w1.drew og k _ hn⟩
  have hne : rb ≠ og := fun e => by
    have h1 := HW.out.1
    unfold BlkAt at h1
    rw [e, HW.out.2] at h1
    simp only [Option.some.injEq, Obj.cells.injEq] at h1
    exact absurd h1.2.1 (by decide)
  have H3 : Hid (w3.heap[og]? = some (.cells #[u8v y0, u8v y1, u8v y2, u8v y3] 5 (0, 0)) ∧ BlkAt w3 rb cs 163 ∧ But (fun k => Cmn w0 w k ∨ k = og) w w3) := ⟨hx3, hw1.but hb3 hne, (hb1.mono (fun k _ h => .inl h)).trans (hb3.mono (fun k _ h => .inr h))⟩
  clear hw3 hx3 hb3 hne hsrc hxy hby hw1 ho1 hb1 hC1 hlen hgl
  go_wp2_with fail
  go_region
  go_wp2
  go_ret2
  exact ⟨rfl, H3.out⟩

end Go.Proofs.YtphedokdckoccaaGreatDoor

/-
  Package inode: Read of four bytes at 699.
-/
namespace Go.Proofs.YtphedokdckoccaaGreatDoor
open Go.RowKit Go.Maps Go.Sort Go.Shelf

/-- What the making of a walk leaves. -/
def readL (rb s : Nat) : List (Option Tmp × Value) := [(some 41, .pointer (some ⟨rb, 0, none⟩)), (some 42, .pointer (some ⟨rb, 0, none⟩)), (some 43, .pointer (some ⟨rb, 0, none⟩)), (some 44, .int .i64 699), (some 45, .int .i64 1), (some 46, .int .i64 699), (some 47, .int .i64 4), (some 48, .int .i64 703), (some 49, .int .i64 2), (some 50, .pointer (some ⟨rb, 0, none⟩)), (some 51, .func (.func 97) #[.pointer (some ⟨rb, 0, none⟩)] #[]), (some 52, .agg #[.pointer (some ⟨rb, 0, none⟩), .int .i64 1, .int .i64 2, .bool false, .func (.func 97) #[.pointer (some ⟨rb, 0, none⟩)] #[]]), (some 11, .pointer (some ⟨s, 0, none⟩)), (none, undef)]
set_option maxRecDepth 8000 in
set_option maxHeartbeats 1500000 in
theorem read_first (w0 w : World) (a c b : Nat) (y0 y1 y2 y3 : BitVec 8) (vs : VS) (A : AC) (hn : InoAt w a 703 (noNums.set 1 1#32)) (hC : CW w0 w c vs A b) (hb : b < 800000) (hx : 1 < nbOf vs.d.n) (hok : A.held 1 = true ∨ A.full = false)
    (hD0 : ((A.meet 1 (vs.cont 1) id).dataOf 1)[187]? = some y0) (hD1 : ((A.meet 1 (vs.cont 1) id).dataOf 1)[188]? = some y1) (hD2 : ((A.meet 1 (vs.cont 1) id).dataOf 1)[189]? = some y2) (hD3 : ((A.meet 1 (vs.cont 1) id).dataOf 1)[190]? = some y3) :
    Calls Tryz.prog 48 #[.pointer (some ⟨a, 0, none⟩), ep c, .int .i64 699, .int .i64 10] w fun e w' => ∃ og, e = .returned (.tuple #[.slice (some ⟨og, 0, none⟩) 4 4, .int .i64 0]) ∧ w'.heap[og]? = some (.cells #[u8v y0, u8v y1, u8v y2, u8v y3] 5 (0, 0)) ∧ w.heap.size ≤ og ∧ But (Cmn w0 w) w w' := by
  have hmix : Tryz.prog.follows .mixedOrders = true := by kernel_rfl
  have cU : ∀ W, Calls Tryz.prog 88 #[.int .i64 703] W fun e w' => e = .returned (.int .i64 2) ∧ w' = W := fun W => upTo_any 703 (by omega) W
  have hmn : (min 10 4 : Int) = 4 := by decide
  have c0 := hn.size
  have hmk : ∀ W : World, (Instr.makeSlice 55 (.int .i64 4) (.int .i64 4)).run Tryz.prog W = .ok (.slice (some ⟨W.heap.size, 0, none⟩) 4 4) (W.alloc (.cells (List.replicate 4 (.int .u8 0)).toArray 5)) := fun W => imake W 4 (by omega)
  have HW : Hid (InoAt w a 703 (noNums.set 1 1#32) ∧ CW w0 w c vs A b) := ⟨hn, hC⟩
  clear hn hC
  go_enter Tryz.func48, Tryz.ntmps48
  go_wp2_with fail
  obtain ⟨w2, hw2⟩ : ∃ w2, w2 = (w.alloc (.cells #[.int .u8 0, .int .u8 0, .int .u8 0, .int .u8 0] 5)).alloc (.cells #[ep c, .pointer none, .slice none 0 0, .slice none 0 0, .slice none 0 0, .int .i64 699, .slice (some ⟨w.heap.size, 0, none⟩) 4 4] 163) := ⟨_, rfl⟩
  have hB2 : Below w.heap.size w w2 := by rw [hw2]; exact ((Below.refl _ w).alloc (Nat.le_refl _) _).alloc (by simp) _
  have hs2 : w2.heap.size = w.heap.size + 2 := by rw [hw2]; simp
  have hr2 : BlkAt w2 (w.heap.size + 1) [ep c, .pointer none, .slice none 0 0, .slice none 0 0, .slice none 0 0, .int .i64 699, .slice (some ⟨w.heap.size, 0, none⟩) 4 4] 163 := by
    rw [hw2]
    have := heap_alloc_new (w.alloc (.cells #[.int .u8 0, .int .u8 0, .int .u8 0, .int .u8 0] 5)) (.cells #[ep c, .pointer none, .slice none 0 0, .slice none 0 0, .slice none 0 0, .int .i64 699, .slice (some ⟨w.heap.size, 0, none⟩) 4 4] 163)
    rw [World.size_alloc] at this
    exact this
  have ho2 : w2.heap[w.heap.size]? = some (.cells #[.int .u8 0, .int .u8 0, .int .u8 0, .int .u8 0] 5 (0, 0)) := by
    rw [hw2]
    exact (Below.heap_alloc _ _ _ (by simp)).trans (heap_alloc_new w _)
  rw [← hw2]
  have H2 : Hid (Below w.heap.size w w2 ∧ BlkAt w2 (w.heap.size + 1) [ep c, .pointer none, .slice none 0 0, .slice none 0 0, .slice none 0 0, .int .i64 699, .slice (some ⟨w.heap.size, 0, none⟩) 4 4] 163 ∧ w2.heap[w.heap.size]? = some (.cells #[.int .u8 0, .int .u8 0, .int .u8 0, .int .u8 0] 5 (0, 0))) := ⟨hB2, hr2, ho2⟩
  clear hw2 hB2 hr2 ho2 c0 hmk
  have vv0 : ∀ g, vals ((fun _ : Unit => readL (w.heap.size + 1) w2.heap.size) g) 0 = .pointer (some ⟨w.heap.size + 1, 0, none⟩) := fun g => rfl
  have vv1 : ∀ g, vals ((fun _ : Unit => readL (w.heap.size + 1) w2.heap.size) g) 1 = .pointer (some ⟨w.heap.size + 1, 0, none⟩) := fun g => rfl
  have vv2 : ∀ g, vals ((fun _ : Unit => readL (w.heap.size + 1) w2.heap.size) g) 2 = .pointer (some ⟨w.heap.size + 1, 0, none⟩) := fun g => rfl
  have vv3 : ∀ g, vals ((fun _ : Unit => readL (w.heap.size + 1) w2.heap.size) g) 3 = .int .i64 699 := fun g => rfl
  have vv4 : ∀ g, vals ((fun _ : Unit => readL (w.heap.size + 1) w2.heap.size) g) 4 = .int .i64 1 := fun g => rfl
  have vv5 : ∀ g, vals ((fun _ : Unit => readL (w.heap.size + 1) w2.heap.size) g) 5 = .int .i64 699 := fun g => rfl
  have vv6 : ∀ g, vals ((fun _ : Unit => readL (w.heap.size + 1) w2.heap.size) g) 6 = .int .i64 4 := fun g => rfl
  have vv7 : ∀ g, vals ((fun _ : Unit => readL (w.heap.size + 1) w2.heap.size) g) 7 = .int .i64 703 := fun g => rfl
  have vv8 : ∀ g, vals ((fun _ : Unit => readL (w.heap.size + 1) w2.heap.size) g) 8 = .int .i64 2 := fun g => rfl
  have vv9 : ∀ g, vals ((fun _ : Unit => readL (w.heap.size + 1) w2.heap.size) g) 9 = .pointer (some ⟨w.heap.size + 1, 0, none⟩) := fun g => rfl
  have vv10 : ∀ g, vals ((fun _ : Unit => readL (w.heap.size + 1) w2.heap.size) g) 10 = .func (.func 97) #[.pointer (some ⟨w.heap.size + 1, 0, none⟩)] #[] := fun g => rfl
  have vv11 : ∀ g, vals ((fun _ : Unit => readL (w.heap.size + 1) w2.heap.size) g) 11 = .agg #[.pointer (some ⟨w.heap.size + 1, 0, none⟩), .int .i64 1, .int .i64 2, .bool false, .func (.func 97) #[.pointer (some ⟨w.heap.size + 1, 0, none⟩)] #[]] := fun g => rfl
  have vv12 : ∀ g, vals ((fun _ : Unit => readL (w.heap.size + 1) w2.heap.size) g) 12 = .pointer (some ⟨w2.heap.size, 0, none⟩) := fun g => rfl
  have vv13 : ∀ g, vals ((fun _ : Unit => readL (w.heap.size + 1) w2.heap.size) g) 13 = undef := fun g => rfl
  refine region_laidg hmix (by kernel_rfl) 65 rfl (by kernel_rfl) () ((fun _ : Unit => readL (w.heap.size + 1) w2.heap.size)) (fun g => rfl) (fun (_ : Unit) b W => W = if b 13 = true then w2.drew.alloc (.cells #[.pointer (some ⟨w.heap.size + 1, 0, none⟩), .int .i64 1, .int .i64 2, .bool false, .func (.func 97) #[.pointer (some ⟨w.heap.size + 1, 0, none⟩)] #[]] 160) else if b 12 = true then w2.drew.alloc (.cells #[.pointer none, .int .i64 0, .int .i64 0, .bool false, .nilFunc] 160) else w2.drew) rfl ?_ ?_
  · intro g b W io o a hS hcl ho hb hd ev kp yl
    match io with
    | 0 =>
      simp only [List.getElem?_toArray, List.getElem?_cons_zero, Option.some.injEq] at ho
      subst ho
      have e10 : a.tmps[10]?.getD undef = .pointer (some ⟨w.heap.size + 1, 0, none⟩) := kp 10 (none_till (by kernel_rfl))
      refine doesg_value rfl (by intro c h; cases h) (v := .pointer (some ⟨w.heap.size + 1, 0, none⟩)) (w' := W) ?_ ⟨g, fun _ _ => rfl, (vv0 g).symm, ?_⟩
      · simp [execOp, go_sem, e10]
      · simpa [did] using hS
    | 1 =>
      simp only [List.getElem?_toArray, List.getElem?_cons_zero, List.getElem?_cons_succ, Option.some.injEq] at ho
      subst ho
      have p0 : b 0 = true := hd ⟨0, .data⟩ (by simp) rfl
      have e41 := (ev 0 41 rfl p0).trans (vv0 g)
      refine doesg_value rfl (by intro c h; cases h) (v := .pointer (some ⟨w.heap.size + 1, 0, none⟩)) (w' := W) ?_ ⟨g, fun _ _ => rfl, (vv1 g).symm, ?_⟩
      · simp [execOp, go_sem, e41]
      · simpa [did] using hS
    | 2 =>
      simp only [List.getElem?_toArray, List.getElem?_cons_zero, List.getElem?_cons_succ, Option.some.injEq] at ho
      subst ho
      have p1 : b 1 = true := hd ⟨1, .data⟩ (by simp) rfl
      have e42 := (ev 1 42 rfl p1).trans (vv1 g)
      refine doesg_value rfl (by intro c h; cases h) (v := .pointer (some ⟨w.heap.size + 1, 0, none⟩)) (w' := W) ?_ ⟨g, fun _ _ => rfl, (vv2 g).symm, ?_⟩
      · simp [execOp, go_sem, e42]
      · simpa [did] using hS
    | 3 =>
      simp only [List.getElem?_toArray, List.getElem?_cons_zero, List.getElem?_cons_succ, Option.some.injEq] at ho
      subst ho
      have e2 : a.tmps[2]?.getD undef = .int .i64 699 := kp 2 (none_till (by kernel_rfl))
      refine doesg_value rfl (by intro c h; cases h) (v := .int .i64 699) (w' := W) ?_ ⟨g, fun _ _ => rfl, (vv3 g).symm, ?_⟩
      · simp [execOp, go_sem, e2]
      · simpa [did] using hS
    | 4 =>
      simp only [List.getElem?_toArray, List.getElem?_cons_zero, List.getElem?_cons_succ, Option.some.injEq] at ho
      subst ho
      have p3 : b 3 = true := hd ⟨3, .data⟩ (by simp) rfl
      have e44 := (ev 3 44 rfl p3).trans (vv3 g)
      refine doesg_value rfl (by intro c h; cases h) (v := .int .i64 1) (w' := W) ?_ ⟨g, fun _ _ => rfl, (vv4 g).symm, ?_⟩
      · simp [execOp, go_sem, e44]; rfl
      · simpa [did] using hS
    | 5 =>
      simp only [List.getElem?_toArray, List.getElem?_cons_zero, List.getElem?_cons_succ, Option.some.injEq] at ho
      subst ho
      have e2 : a.tmps[2]?.getD undef = .int .i64 699 := kp 2 (none_till (by kernel_rfl))
      refine doesg_value rfl (by intro c h; cases h) (v := .int .i64 699) (w' := W) ?_ ⟨g, fun _ _ => rfl, (vv5 g).symm, ?_⟩
      · simp [execOp, go_sem, e2]
      · simpa [did] using hS
    | 6 =>
      simp only [List.getElem?_toArray, List.getElem?_cons_zero, List.getElem?_cons_succ, Option.some.injEq] at ho
      subst ho
      have e3 : a.tmps[3]?.getD undef = .int .i64 4 := kp 3 (none_till (by kernel_rfl))
      refine doesg_value rfl (by intro c h; cases h) (v := .int .i64 4) (w' := W) ?_ ⟨g, fun _ _ => rfl, (vv6 g).symm, ?_⟩
      · simp [execOp, go_sem, e3]
      · simpa [did] using hS
    | 7 =>
      simp only [List.getElem?_toArray, List.getElem?_cons_zero, List.getElem?_cons_succ, Option.some.injEq] at ho
      subst ho
      have p5 : b 5 = true := hd ⟨5, .data⟩ (by simp) rfl
      have p6 : b 6 = true := hd ⟨6, .data⟩ (by simp) rfl
      have e46 := (ev 5 46 rfl p5).trans (vv5 g)
      have e47 := (ev 6 47 rfl p6).trans (vv6 g)
      refine doesg_value rfl (by intro c h; cases h) (v := .int .i64 703) (w' := W) ?_ ⟨g, fun _ _ => rfl, (vv7 g).symm, ?_⟩
      · simp [execOp, go_sem, e46, e47]; rfl
      · simpa [did] using hS
    | 8 =>
      simp only [List.getElem?_toArray, List.getElem?_cons_zero, List.getElem?_cons_succ, Option.some.injEq] at ho
      subst ho
      have p7 : b 7 = true := hd ⟨7, .data⟩ (by simp) rfl
      have e48 := (ev 7 48 rfl p7).trans (vv7 g)
      refine doesg_call rfl (by intro c h; cases h) (f := 88) (args := #[.int .i64 703]) ?_ ?_
      · simp [go_sem, e48]
      · (refine (cU W).mono ?_; rintro e w' ⟨rfl, rfl⟩; exact ⟨_, rfl, g, fun _ _ => rfl, (vv8 g).symm, by simpa [did] using hS⟩)
    | 9 =>
      simp only [List.getElem?_toArray, List.getElem?_cons_zero, List.getElem?_cons_succ, Option.some.injEq] at ho
      subst ho
      have e10 : a.tmps[10]?.getD undef = .pointer (some ⟨w.heap.size + 1, 0, none⟩) := kp 10 (none_till (by kernel_rfl))
      refine doesg_value rfl (by intro c h; cases h) (v := .pointer (some ⟨w.heap.size + 1, 0, none⟩)) (w' := W) ?_ ⟨g, fun _ _ => rfl, (vv9 g).symm, ?_⟩
      · simp [execOp, go_sem, e10]
      · simpa [did] using hS
    | 10 =>
      simp only [List.getElem?_toArray, List.getElem?_cons_zero, List.getElem?_cons_succ, Option.some.injEq] at ho
      subst ho
      have p9 : b 9 = true := hd ⟨9, .data⟩ (by simp) rfl
      have e50 := (ev 9 50 rfl p9).trans (vv9 g)
      refine doesg_value rfl (by intro c h; cases h) (v := .func (.func 97) #[.pointer (some ⟨w.heap.size + 1, 0, none⟩)] #[]) (w' := W) ?_ ⟨g, fun _ _ => rfl, (vv10 g).symm, ?_⟩
      · simp [execOp, go_sem, e50]
      · simpa [did] using hS
    | 11 =>
      simp only [List.getElem?_toArray, List.getElem?_cons_zero, List.getElem?_cons_succ, Option.some.injEq] at ho
      subst ho
      have p2 : b 2 = true := hd ⟨2, .data⟩ (by simp) rfl
      have p4 : b 4 = true := hd ⟨4, .data⟩ (by simp) rfl
      have p8 : b 8 = true := hd ⟨8, .data⟩ (by simp) rfl
      have p10 : b 10 = true := hd ⟨10, .data⟩ (by simp) rfl
      have e43 := (ev 2 43 rfl p2).trans (vv2 g)
      have e45 := (ev 4 45 rfl p4).trans (vv4 g)
      have e49 := (ev 8 49 rfl p8).trans (vv8 g)
      have e51 := (ev 10 51 rfl p10).trans (vv10 g)
      refine doesg_value rfl (by intro c h; cases h) (v := .agg #[.pointer (some ⟨w.heap.size + 1, 0, none⟩), .int .i64 1, .int .i64 2, .bool false, .func (.func 97) #[.pointer (some ⟨w.heap.size + 1, 0, none⟩)] #[]]) (w' := W) ?_ ⟨g, fun _ _ => rfl, (vv11 g).symm, ?_⟩
      · simp [execOp, go_sem, e43, e45, e49, e51]
      · simpa [did] using hS
    | 12 =>
      simp only [List.getElem?_toArray, List.getElem?_cons_zero, List.getElem?_cons_succ, Option.some.injEq] at ho
      subst ho
      have h13 : b 13 = false := by cases h : b 13; rfl; rw [hcl 13 _ rfl h ⟨12, .data⟩ (by simp) rfl] at hb; cases hb
      have hW : W = w2.drew := by rw [hS, h13, hb]; rfl
      subst hW
      refine doesg_value rfl (by intro c h; cases h) (v := .pointer (some ⟨w2.heap.size, 0, none⟩)) (w' := w2.drew.alloc (.cells #[.pointer none, .int .i64 0, .int .i64 0, .bool false, .nilFunc] 160)) ?_ ⟨g, fun _ _ => rfl, (vv12 g).symm, ?_⟩
      · simp [execOp, go_sem]
      · simp [did, h13]
    | 13 =>
      simp only [List.getElem?_toArray, List.getElem?_cons_zero, List.getElem?_cons_succ, Option.some.injEq] at ho
      subst ho
      have p12 : b 12 = true := hd ⟨12, .data⟩ (by simp) rfl
      have p11 : b 11 = true := hd ⟨11, .data⟩ (by simp) rfl
      have e11 := (ev 12 11 rfl p12).trans (vv12 g)
      have e52 := (ev 11 52 rfl p11).trans (vv11 g)
      have hW : W = w2.drew.alloc (.cells #[.pointer none, .int .i64 0, .int .i64 0, .bool false, .nilFunc] 160) := by rw [hS, hb, p12]; rfl
      subst hW
      refine doesg_skip rfl (by intro c h; cases h) (w' := w2.drew.alloc (.cells #[.pointer (some ⟨w.heap.size + 1, 0, none⟩), .int .i64 1, .int .i64 2, .bool false, .func (.func 97) #[.pointer (some ⟨w.heap.size + 1, 0, none⟩)] #[]] 160)) ?_ ⟨g, fun _ _ => rfl, (vv13 g).symm, ?_⟩
      · simp [execOp, go_sem, e11, e52]
      · exact by simp [did]
    | k + 14 => simp at ho
  · intro g b' W hS hall
    have hW : W = w2.drew.alloc (.cells #[.pointer (some ⟨w.heap.size + 1, 0, none⟩), .int .i64 1, .int .i64 2, .bool false, .func (.func 97) #[.pointer (some ⟨w.heap.size + 1, 0, none⟩)] #[]] 160) := by rw [hS, hall 13 (by simp)]; rfl
    have hBW : Below w2.heap.size w2 W := walk_bel hS
    have hWs : W.heap.size = w.heap.size + 3 := by rw [hW]; simp [hs2]
    have hWk : WalkAt W w2.heap.size (.pointer (some ⟨w.heap.size + 1, 0, none⟩)) 1 2 false (.func (.func 97) #[.pointer (some ⟨w.heap.size + 1, 0, none⟩)] #[]) := by rw [hW]; exact heap_alloc_new w2.drew _
    obtain ⟨w3, rfl⟩ : ∃ w3, w3 = W := ⟨_, rfl⟩
    clear hS hall hW
    obtain ⟨hB2, hr2, ho2⟩ := H2.out
    have hB03 : Below w.heap.size w w3 := hB2.trans (hBW.mono hB2.size)
    have hi3 : InoAt w3 a 703 (noNums.set 1 1#32) := HW.out.1.below hB03 HW.out.1.lt
    have d0 : w3.cell? ⟨a, 1, none⟩ = some (.int .u32 0) := hi3.num (i := 0) (n := 0#32) rfl
    have d1 : w3.cell? ⟨a, 2, none⟩ = some (.int .u32 1) := hi3.num (i := 1) (n := 1#32) rfl
    have d2 : w3.cell? ⟨a, 3, none⟩ = some (.int .u32 0) := hi3.num (i := 2) (n := 0#32) rfl
    have d3 : w3.cell? ⟨a, 4, none⟩ = some (.int .u32 0) := hi3.num (i := 3) (n := 0#32) rfl
    have d4 : w3.cell? ⟨a, 5, none⟩ = some (.int .u32 0) := hi3.num (i := 4) (n := 0#32) rfl
    have d5 : w3.cell? ⟨a, 6, none⟩ = some (.int .u32 0) := hi3.num (i := 5) (n := 0#32) rfl
    have d6 : w3.cell? ⟨a, 7, none⟩ = some (.int .u32 0) := hi3.num (i := 6) (n := 0#32) rfl
    have d7 : w3.cell? ⟨a, 8, none⟩ = some (.int .u32 0) := hi3.num (i := 7) (n := 0#32) rfl
    have d8 : w3.cell? ⟨a, 9, none⟩ = some (.int .u32 0) := hi3.num (i := 8) (n := 0#32) rfl
    have d9 : w3.cell? ⟨a, 10, none⟩ = some (.int .u32 0) := hi3.num (i := 9) (n := 0#32) rfl
    have hal := HW.out.1.lt
    have han : ¬ a = w3.heap.size := by omega
    have han' : ¬ w3.heap.size = a := by omega
    obtain ⟨w4, hw4⟩ : ∃ w4, w4 = w3.alloc (.cells #[.int .u32 0, .int .u32 1, .int .u32 0, .int .u32 0, .int .u32 0, .int .u32 0, .int .u32 0, .int .u32 0, .int .u32 0, .int .u32 0] 136) := ⟨_, rfl⟩
    have hB4 : Below w3.heap.size w3 w4 := by rw [hw4]; exact (Below.refl _ w3).alloc (Nat.le_refl _) _
    have hx4 : NumsAt w4 w3.heap.size (noNums.set 1 1#32) := by rw [hw4]; exact heap_alloc_new w3 _
    have hB24 : Below w2.heap.size w2 w4 := hBW.trans (hB4.mono hBW.size)
    have hB04 : Below w.heap.size w w4 := hB03.trans (hB4.mono hB03.size)
    have hr4 := hr2.below hB24
    have ho4 : w4.heap[w.heap.size]? = some (.cells #[.int .u8 0, .int .u8 0, .int .u8 0, .int .u8 0] 5 (0, 0)) := (hB24.block _ (by omega)).trans ho2
    have hk4 : WalkAt w4 w2.heap.size (.pointer (some ⟨w.heap.size + 1, 0, none⟩)) 1 2 false (.func (.func 97) #[.pointer (some ⟨w.heap.size + 1, 0, none⟩)] #[]) := (hB4.block _ (by omega)).trans hWk
    have hV := copyOut_one w0 w4 (w.heap.size + 1) c w.heap.size b [ep c, .pointer none, .slice none 0 0, .slice none 0 0, .slice none 0 0, .int .i64 699, .slice (some ⟨w.heap.size, 0, none⟩) 4 4] y0 y1 y2 y3 [.int .u8 0, .int .u8 0, .int .u8 0, .int .u8 0] vs A hr4 rfl rfl rfl ho4 rfl (HW.out.2.below hB04) hb hx hok hD0 hD1 hD2 hD3
    have cO := over_one w2.heap.size w3.heap.size 1 2 97 1 (.pointer (some ⟨w.heap.size + 1, 0, none⟩)) false (.pointer (some ⟨w.heap.size + 1, 0, none⟩)) (noNums.set 1 1#32) 1#32 1#32 w4 (fun k => Cmn w0 w4 k ∨ k = w.heap.size)
      (fun w' => w'.heap[w.heap.size]? = some (.cells #[u8v y0, u8v y1, u8v y2, u8v y3] 5 (0, 0)) ∧ BlkAt w' (w.heap.size + 1) [ep c, .pointer none, .slice none 0 0, .slice none 0 0, .slice none 0 0, .int .i64 699, .slice (some ⟨w.heap.size, 0, none⟩) 4 4] 163)
      hk4 hx4 rfl (by omega) rfl rfl rfl (fun e => by
        rcases e with e | e
        · exact cmn_not hk4 (cTag_not (by decide) (by decide) (by decide)) e
        · omega) (fun e => by
        rcases e with e | e
        · exact cmn_not hx4 (cTag_not (by decide) (by decide) (by decide)) e
        · omega) (enters_of Tryz.func97 (by kernel_rfl) rfl)
      (hV.mono (by
        rintro e w' ⟨rfl, v1, v2, v3⟩
        exact ⟨rfl, v3, v1, v2⟩))
    rw [hs2, hWs] at cO
    have H4 : Hid (Below w.heap.size w w4) := hB04
    clear hV hB2 hr2 ho2 hB03 hi3 hB4 hx4 hB24 hB04 hr4 ho4 hk4 hBW hWk hal
    simp only [readL, putAll, List.setIfInBounds_toArray, List.set_cons_zero, List.set_cons_succ]
    go_wp2_with (go_at_call 96; rw [← hw4]; refine cO.mono ?_; rintro e w5 ⟨rfl, hv⟩; clear cO hw4 d0 d1 d2 d3 d4 d5 d6 d7 d8 d9; refine Stop.out ?_)
    refine Stop.mk ?_
    obtain ⟨w1, hb1, ⟨v1, v2⟩, hw5⟩ := hv
    have z2 : BlkAt w5 (w.heap.size + 1) [ep c, .pointer none, .slice none 0 0, .slice none 0 0, .slice none 0 0, .int .i64 699, .slice (some ⟨w.heap.size, 0, none⟩) 4 4] 163 := by rw [hw5]; exact (Below.heap_setCell _ _ _ _ (fun e => absurd (show w.heap.size + 1 = w.heap.size + 3 from e) (by omega))).trans v2
    have z1 : w5.heap[w.heap.size]? = some (.cells #[u8v y0, u8v y1, u8v y2, u8v y3] 5 (0, 0)) := by rw [hw5]; exact (Below.heap_setCell _ _ _ _ (fun e => absurd (show w.heap.size = w.heap.size + 3 from e) (by omega))).trans v1
    have z3 : But (Cmn w0 w) w w5 := by
      rw [hw5]
      refine ((But.of_below (S := Cmn w0 w) H4.out).after hb1 (fun i hi hc => ?_)).after (((But.refl (fun k => k = w.heap.size + 3) w1)).setCell _ rfl _) (fun i hi e => by
        have e' : i = w.heap.size + 3 := e
        omega)
      rcases hc with hc | hc
      · exact ⟨hc.1, fun cs t fr hk => hc.2 cs t fr ((H4.out.block i hi).trans hk)⟩
      · omega
    have d6 := z2.cell (i := 6) rfl
    have HZ : Hid (w5.heap[w.heap.size]? = some (.cells #[u8v y0, u8v y1, u8v y2, u8v y3] 5 (0, 0)) ∧ But (Cmn w0 w) w w5) := ⟨z1, z3⟩
    clear hb1 v1 v2 hw5 z1 z2 z3
    go_wp2
    go_ret2
    exact ⟨w.heap.size, rfl, HZ.out.1, Nat.le_refl _, HZ.out.2⟩

end Go.Proofs.YtphedokdckoccaaGreatDoor

/-
  disk and begun of the law of package inode.
-/
namespace Go.Proofs.YtphedokdckoccaaGreatDoor
open Go.RowKit Go.Maps Go.Sort Go.Shelf

def newA : AC := ⟨1000, [], 0, 0, 0, 0⟩

set_option maxRecDepth 8000 in
set_option maxHeartbeats 2000000 in
theorem disk_any (blocks : Nat) (w : World) (ht : Tab w) (ht6 : Bm.Tab64 w) (h2 : 2 ≤ blocks) (h48 : blocks ≤ 48) :
    Calls Tryz.prog 42 #[.int .i64 (blocks : Nat)] w fun e w' => ∃ (c s : Nat) (vs : VS), e = .returned (.tuple #[ep c, .pointer (some ⟨s + 1, 0, none⟩)]) ∧ CW w w' c vs newA 0 ∧ nbOf vs.d.n = blocks ∧ (∀ i, i < blocks → vs.cont i = zeroB) ∧ Bm.MapAt w' ((Bm.newMS s blocks).turn 0) ∧ w.heap.size ≤ s ∧ Below w.heap.size w w' := by
  have cV := volume_any blocks w ht (by omega) (by omega)
  have HT : Hid (Tab w ∧ Bm.Tab64 w) := ⟨ht, ht6⟩
  clear ht ht6
  go_enter Tryz.func42, Tryz.ntmps42
  go_wp2_with (go_at_call 22; refine cV.mono ?_; rintro e w1 ⟨vs, rfl, hI1, hz1, hnb1, hc1, hB1, hlo1⟩; clear cV; refine Stop.out ?_)
  refine Stop.mk ?_
  have cN : Calls Tryz.prog 23 #[dp vs.v, .int .i64 1000] w1 _ := new_ok 1000 vs w1 hI1 (by omega) (by omega)
  have H1 : Hid (nbOf vs.d.n = blocks ∧ (∀ i, i < blocks → vs.cont i = zeroB) ∧ Below w.heap.size w w1) := ⟨hnb1, hc1, hB1⟩
  clear hI1 hz1 hnb1 hc1 hB1 hlo1
  go_wp2_with (go_at_call 23; refine cN.mono ?_; rintro e w2 ⟨c, hh, rfl, hI2, hB2, hhl, hcl⟩; clear cN; refine Stop.out ?_)
  refine Stop.mk ?_
  have hB02 : Below w.heap.size w w2 := H1.out.2.2.trans (hB2.mono H1.out.2.2.size)
  have cM := Bm.new_in blocks w2 (by omega) (HT.out.2.below hB02).lt
  have hs12 := H1.out.2.2.size
  have hs02 := hB02.size
  have H2 : Hid (CW w w2 c vs newA 0 ∧ Below w.heap.size w w2 ∧ w.heap.size ≤ w2.heap.size) := ⟨⟨newS c vs.v 1000 hh, fun _ => [], hI2, ⟨Nat.zero_le _, Nat.zero_le _, Nat.zero_le _, Nat.zero_le _, Nat.zero_le _⟩, rfl, rfl, by show w.heap.size ≤ hh; omega⟩, hB02, hs02⟩
  clear hI2 hB2 hhl hcl hB02 hs12 hs02
  go_wp2_with (go_at_call 89; refine cM.mono ?_; rintro e w3 ⟨rfl, hm3, hB3⟩; clear cM; refine Stop.out ?_)
  refine Stop.mk ?_
  have cS := set_free 0 _ w3 hm3 (show 0 < blocks by omega) (Bm.used_zero _ _)
  have H3 : Hid (CW w w3 c vs newA 0 ∧ Below w.heap.size w w3 ∧ Bm.MapAt w3 (Bm.newMS w2.heap.size blocks)) := ⟨H2.out.1.below hB3, H2.out.2.1.trans (hB3.mono H2.out.2.2), hm3⟩
  clear hm3 hB3
  have cS' : Calls Tryz.prog 90 #[.pointer (some ⟨w2.heap.size + 1, 0, none⟩), .int .i64 0] w3 _ := cS
  clear cS
  go_wp2_with (go_at_call 90; refine cS'.mono ?_; rintro e w4 ⟨rfl, hm4, hb4⟩; clear cS')
  go_ret2
  refine ⟨c, w2.heap.size, vs, rfl, H3.out.1.foreign hb4 (fun k hk => ?_), H1.out.1, H1.out.2.1, hm4, H2.out.2.2, H3.out.2.1.trans (hb4.below H3.out.2.1.size (fun k hk => ?_))⟩
  · obtain ⟨_, h, _⟩ := H3.out.2.2.row
    rw [show k = _ from hk]
    exact ⟨_, _, _, h, by unfold foreignT; decide⟩
  · have e : k = w2.heap.size := hk
    have := H2.out.2.2
    omega

theorem abc_at0 (x0 x1 x2 : BitVec 8) : (abcB x0 x1 x2)[187]? = some 0#8 := by
  unfold abcB
  rw [List.getElem?_append_left (by rw [List.length_replicate]; omega), List.getElem?_replicate, if_pos (by omega)]
theorem abc_at (x0 x1 x2 : BitVec 8) (j : Nat) (x : BitVec 8) (hj : [x0, x1, x2][j]? = some x) (h3 : j < 3) : (abcB x0 x1 x2)[188 + j]? = some x := by
  unfold abcB
  rw [List.getElem?_append_right (by rw [List.length_replicate]; omega), List.length_replicate, List.getElem?_append_left (by simp only [List.length_cons, List.length_nil]; omega), show 188 + j - 188 = j by omega]
  exact hj
theorem wrote_L (d D : By) : wroteA newA d D = ⟨1000, [⟨1, 0, 2, true, D⟩], 2, 0, 1, 0⟩ := rfl
theorem wrote_data (d d' D : By) : ((wroteA newA d D).meet 1 d' id).dataOf 1 = D := rfl
theorem num703 : (numOf (inoBytes 703#32 (noNums.set 1 1#32)) 0).toNat = 703 := by decide
theorem used_t0 (s j : Nat) : Bm.used ((Bm.newMS s 20).turn 0).ws j = decide (j = 0) := by
  show Bm.used (Bm.turned (List.replicate ((20 + 63) / 64) 0) 0) j = _
  rw [Bm.turned_used (by rw [List.length_replicate]; decide), Bm.used_zero, Bm.used_zero]
  by_cases h : j = 0
  · rw [if_pos h]; simp [h]
  · rw [if_neg h]; simp [h]
theorem used_t1 (s j : Nat) : Bm.used (((Bm.newMS s 20).turn 0).turn 1).ws j = decide (j ≤ 1) := by
  show Bm.used (Bm.turned ((Bm.newMS s 20).turn 0).ws 1) j = _
  rw [Bm.turned_used (by show 1 / 64 < (Bm.turned (List.replicate ((20 + 63) / 64) 0) 0).length; rw [Bm.turned_length, List.length_replicate]; decide), used_t0, used_t0]
  by_cases h : j = 1
  · rw [if_pos h]; simp [h]
  · rw [if_neg h, Bool.eq_iff_iff]; simp; omega
theorem free18 (s : Nat) : (20 - Bm.cnt (Bm.used (((Bm.newMS s 20).turn 0).turn 1).ws) 20 : Nat) = 18 := by
  rw [Bm.cnt_congr 20 (V := fun j => decide (j ≤ 1)) (fun i _ => used_t1 s i)]
  decide
theorem str4 : strOf [0#8, 97#8, 98#8, 99#8] = ⟨#[0, 97, 98, 99]⟩ := rfl

set_option maxRecDepth 8000 in
set_option maxHeartbeats 4000000 in
theorem begun9_true (w : World) (ht : Tab w) (ht6 : Bm.Tab64 w) : Calls Tryz.prog 39 #[] w fun e w' => e = .returned (.bool true) ∧ Below w.heap.size w w' := by
  have cD : Calls Tryz.prog 42 #[.int .i64 20] w _ := disk_any 20 w ht ht6 (by omega) (by omega)
  have HT : Hid (Tab w ∧ Bm.Tab64 w) := ⟨ht, ht6⟩
  clear ht ht6
  go_enter Tryz.func39, Tryz.ntmps39
  go_wp2_with (go_at_call 42; refine cD.mono ?_; rintro e w1 ⟨c, s, vs, rfl, hC1, hnb, hcont, hm1, hsl, hB1⟩; clear cD; refine Stop.out ?_)
  refine Stop.mk ?_
  have cN := inew_any w1
  have H1 : Hid (CW w w1 c vs newA 0 ∧ nbOf vs.d.n = 20 ∧ Bm.MapAt w1 ((Bm.newMS s 20).turn 0) ∧ w.heap.size ≤ s ∧ Below w.heap.size w w1) := ⟨hC1, hnb, hm1, hsl, hB1⟩
  clear hC1 hnb hcont hm1 hsl hB1
  go_wp2_with (go_at_call 43; refine cN.mono ?_; rintro e w2 ⟨rfl, hi2, hB2⟩; clear cN; refine Stop.out ?_)
  refine Stop.mk ?_
  obtain ⟨hC1, hnb, hm1, hsl, hB1⟩ := H1.out
  have cv : (convert 55 55 (.slice (some ⟨w2.heap.size, 0, none⟩) 3 3)).run Tryz.prog (w2.alloc (.cells #[.int .u8 97, .int .u8 98, .int .u8 99] 5)) = .ok (.slice (some ⟨w2.heap.size, 0, none⟩) 3 3) (w2.alloc (.cells #[.int .u8 97, .int .u8 98, .int .u8 99] 5 (3, 4))) := Lib.run_convert_bytes_const w2 55 5 #[.int .u8 97, .int .u8 98, .int .u8 99] 3 3 Tryz.underlying55 Tryz.underlying5
  obtain ⟨w3, hw3⟩ : ∃ w3, w3 = w2.alloc (.cells #[.int .u8 97, .int .u8 98, .int .u8 99] 5 (3, 4)) := ⟨_, rfl⟩
  have hB3 : Below w2.heap.size w2 w3 := by rw [hw3]; exact (Below.refl _ w2).alloc (Nat.le_refl _) _
  have hx3 : w3.heap[w2.heap.size]? = some (.cells #[u8v 97#8, u8v 98#8, u8v 99#8] 5 (3, 4)) := by rw [hw3]; exact heap_alloc_new w2 _
  have hB13 : Below w1.heap.size w1 w3 := hB2.trans (hB3.mono hB2.size)
  have hB03 : Below w.heap.size w w3 := hB1.trans (hB13.mono hB1.size)
  have cW := write_first w w3 w1.heap.size c w2.heap.size 0 97#8 98#8 99#8 vs newA ((Bm.newMS s 20).turn 0) (hi2.below hB3 hi2.lt) (hC1.below hB13) (by omega) (by omega) (.inr rfl) (fun e he => by cases he) ⟨⟨1, 1, 1, false, vs.cont 1⟩, List.mem_singleton.2 rfl, rfl, rfl⟩ ⟨⟨1, 1, 2, true, abcB 97#8 98#8 99#8⟩, List.mem_singleton.2 rfl, rfl, Nat.one_pos, by decide⟩ (hm1.below hB13) (HT.out.2.below hB03) (by show 1 < 20; omega) (by rw [used_t0]; rfl) (by rw [used_t0]; rfl) hx3
  have hs1 := hB1.size
  have H3 : Hid (Below w.heap.size w w3) := hB03
  clear hC1 hm1 hsl hB1 hi2 hB2 hB3 hx3 hB13 hB03
  go_wp2_with (go_at_call 45; rw [← hw3]; refine cW.mono ?_; rintro e w4 ⟨rfl, hi4, hC4, hm4, hb4⟩; clear cW cv hw3; refine Stop.out ?_)
  refine Stop.mk ?_
  have cR := read_first w w4 w1.heap.size c 3 0#8 97#8 98#8 99#8 vs _ hi4 hC4 (by omega) (by omega) (.inl rfl) (by rw [wrote_data]; exact abc_at0 _ _ _) (by rw [wrote_data]; exact abc_at _ _ _ 0 _ rfl (by omega)) (by rw [wrote_data]; exact abc_at _ _ _ 1 _ rfl (by omega)) (by rw [wrote_data]; exact abc_at _ _ _ 2 _ rfl (by omega))
  have hB04 : Below w.heap.size w w4 := H3.out.trans (hb4.below H3.out.size (fun k hk => by
    rcases hk with hk | hk | hk
    · exact hk.1
    · have e : k = s := hk
      have := H1.out.2.2.2.1
      omega
    · omega))
  have H4 : Hid (InoAt w4 w1.heap.size 703 (noNums.set 1 1#32) ∧ Bm.MapAt w4 (((Bm.newMS s 20).turn 0).turn 1) ∧ Below w.heap.size w w4) := ⟨hi4, hm4, hB04⟩
  clear hi4 hC4 hm4 hb4 hB04
  go_wp2_with (go_at_call 48; refine cR.mono ?_; rintro e w5 ⟨og, rfl, ho5, hog, hb5⟩; clear cR; refine Stop.out ?_)
  refine Stop.mk ?_
  obtain ⟨hi4, hm4, hB04⟩ := H4.out
  have hi5 : InoAt w5 w1.heap.size 703 (noNums.set 1 1#32) := hi4.but hb5 (cmn_not hi4 (cTag_not (by decide) (by decide) (by decide)))
  obtain ⟨c6, hrow4, _⟩ := hm4.row
  have hm5 : Bm.MapAt w5 (((Bm.newMS s 20).turn 0).turn 1) := hm4.keep (but_only hb5) (cmn_not hm4.st (cTag_not (by decide) (by decide) (by decide))) (cmn_not hrow4 (cTag_not (by decide) (by decide) (by decide)))
  have hB05 : Below w.heap.size w w5 := hB04.trans (hb5.below hB04.size (fun k hk => hk.1))
  have cB := ibytes_any w1.heap.size 703#32 (noNums.set 1 1#32) rfl w5 hi5
  have H5 : Hid (InoAt w5 w1.heap.size 703 (noNums.set 1 1#32) ∧ Bm.MapAt w5 (((Bm.newMS s 20).turn 0).turn 1) ∧ Below w.heap.size w w5 ∧ w5.heap[og]? = some (.cells #[u8v 0#8, u8v 97#8, u8v 98#8, u8v 99#8] 5 (0, 0))) := ⟨hi5, hm5, hB05, ho5⟩
  clear hi4 hm4 hB04 hi5 hrow4 hm5 hB05 ho5 hb5
  go_wp2_with (go_at_call 50; refine cB.mono ?_; rintro e w6 ⟨rfl, hx6, hB6⟩; clear cB; refine Stop.out ?_)
  refine Stop.mk ?_
  obtain ⟨bs, hbs⟩ : ∃ bs, bs = inoBytes 703#32 (noNums.set 1 1#32) := ⟨_, rfl⟩
  have hbl : bs.length = 44 := by rw [hbs]; rfl
  have hn7 : (numOf bs 0).toNat = 703 := by rw [hbs]; exact num703
  rw [← hbs] at hx6
  have cL := load_ok (some ⟨w5.heap.size, 0, none⟩) bs 44 w6 (bytes_block hx6) (by omega) hbl (by omega)
  rw [hbl, hn7] at cL
  have H6 : Hid (Below w5.heap.size w5 w6) := hB6
  clear hbs hx6 hB6 hbl
  go_wp2_with (go_at_call 49; refine cL.mono ?_; rintro e w7 ⟨rfl, hi7, hB7⟩; clear cL; refine Stop.out ?_)
  refine Stop.mk ?_
  obtain ⟨hi5, hm5, hB05, ho5⟩ := H5.out
  have hB57 : Below w5.heap.size w5 w7 := H6.out.trans (hB7.mono H6.out.size)
  have hm7 := hm5.below hB57
  have ho7 : w7.heap[og]? = some (.cells #[u8v 0#8, u8v 97#8, u8v 98#8, u8v 99#8] 5 (0, 0)) := (hB57.block og (Array.getElem?_eq_some_iff.1 ho5).1).trans ho5
  have hstr : (convert 55 9 (.slice (some ⟨og, 0, none⟩) 4 4)).run Tryz.prog w7 = .ok (.string ⟨#[0, 97, 98, 99]⟩) w7 := by
    have := run_str w7 (some ⟨og, 0, none⟩) [0#8, 97#8, 98#8, 99#8] 4 (bytes_block ho7)
    rw [str4] at this
    exact this
  have cS := isize_any w6.heap.size 703 _ w7 hi7
  have tight : Bm.Tight 20 (((Bm.newMS s 20).turn 0).turn 1).ws := by
    have f0 : Bm.Tight 20 (Bm.newMS s 20).ws := fun i _ => Bm.used_zero _ _
    exact (f0.turned (H1.out.2.2.1.fit.turned 0 |> fun _ => (show Bm.Fit 20 (Bm.newMS s 20).ws from ⟨rfl, by omega, fun j x hj => by
      have : x ∈ (Bm.newMS s 20).ws := List.mem_of_getElem? hj
      have : x = 0 := List.eq_of_mem_replicate this
      omega⟩)) (by omega)).turned H1.out.2.2.1.fit (by omega)
  have cF := Bm.free_any _ w7 hm7 tight
  rw [show (((Bm.newMS s 20).turn 0).turn 1).n = 20 from rfl, free18 s] at cF
  have cC := cost_any 513 w7
  rw [show costI 513 = 2 by decide] at cC
  have H7 : Hid (Below w.heap.size w w7) := hB05.trans (hB57.mono hB05.size)
  clear hi5 hm5 hB05 ho5 hB57 hm7 ho7 tight hi7 hB7
  go_wp2_with (first
    | (go_at_call 51; refine Calls_on cS ?_; clear cS)
    | (go_at_call 44; refine Calls_on cF ?_; clear cF)
    | (go_at_call 40; refine Calls_on cC ?_; clear cC))
  go_ret
  exact ⟨rfl, H7.out⟩

end Go.Proofs.YtphedokdckoccaaGreatDoor

namespace Go.Proofs.YtphedokdckoccaaGreatDoor
open Go.ChangeShapes Go.WideShapes Go.ChangeAt Go.RowKit

theorem laid_tail {P : Program} {x : String × DataW Unit} {rest : List (String × DataW Unit)} {W : World} (h : laidMet P (x :: rest) W) : laidMet P rest W := by
  obtain ⟨ps, ⟨g', t', cs, fuel, p, q, hg', ht', hvar, hd, hrest, hps⟩, hnd, hall⟩ := h
  subst hps
  exact ⟨q, hrest, (List.nodup_append.1 hnd).2.1, fun b off hm => hall b off (List.mem_append_right _ hm)⟩

theorem gTab64 : Tryz.prog.globalNamed "math/bits.deBruijn64tab" = some 1 := by kernel_rfl
theorem gTab64Type : (Tryz.prog.globals[1]?).map (·.type) = some 279 := by kernel_rfl
theorem cellsTab64 : Tryz.prog.cellsOf 279 = 64 := by kernel_rfl
theorem cellsU8 : Tryz.prog.cellsOf 5 = 1 := by kernel_rfl
def deB : List Int := Lib.deBruijn64tab.map fun (n : Nat) => (n : Int)

theorem tabs_of_laid {W : World} (h : laidMetH Tryz.prog [("lagoon/crc.steps", Rows.laid_lagoon_crc_steps), ("math/bits.deBruijn64tab", Rows.laid_math_bits_deBruijn64tab)] W) : Tab W ∧ Bm.Tab64 W := by
  have h' : laidMet Tryz.prog [("lagoon/crc.steps", Rows.laid_lagoon_crc_steps), ("math/bits.deBruijn64tab", Rows.laid_math_bits_deBruijn64tab)] W := h
  have ht : Lib.TabIs Tryz.prog W "lagoon/crc.steps" .u32 [0, 498536548, 997073096, 651767980, 1994146192, 1802195444, 1303535960, 1342533948, 3988292384, 4027552580, 3604390888, 3412177804, 2607071920, 2262029012, 2685067896, 3183342108] :=
    Lib.tabIs_of_head gTab gTabType Tryz.underlying274 Tryz.underlying134 cellsU32 cellsTab h'
  have ht2 : Lib.TabIs Tryz.prog W "math/bits.deBruijn64tab" .u8 deB :=
    Lib.tabIs_of_head (rest := []) gTab64 gTab64Type Tryz.underlying279 Tryz.underlying5 cellsU8 cellsTab64 (laid_tail h')
  constructor
  · intro k z hk
    have hlt : k < 16 := (List.getElem?_eq_some_iff.1 hk).1
    have hc := ht.cell gTab k (by simpa using hlt)
    rw [hc]
    match k, hlt with
    | 0, _ | 1, _ | 2, _ | 3, _ | 4, _ | 5, _ | 6, _ | 7, _ | 8, _ | 9, _ | 10, _ | 11, _ | 12, _ | 13, _ | 14, _ | 15, _ => cases hk; rfl
  · intro k hk
    have hc := ht2.cell gTab64 k (show k < deB.length from hk)
    rw [hc]
    have : deB.getD k 0 = ((Lib.deBruijn64tab.getD k 0 : Nat) : Int) := by
      unfold deB
      rw [List.getD, List.getElem?_map, List.getD]
      have hl : k < Lib.deBruijn64tab.length := hk
      rw [List.getElem?_eq_getElem hl]
      rfl
    rw [← this]

/- The laws. -/

set_option maxRecDepth 8000 in
set_option maxHeartbeats 400000 in
theorem cost_law (size : Int) (w : World) (ht : Tab w) (ht6 : Bm.Tab64 w) : Calls Tryz.prog 5 #[.int .i64 size] w fun e w' => e = .returned (.bool true) ∧ Below w.heap.size w w' := by
  have cb := begun9_true w ht ht6
  have c1 := fun W => cost_any size W
  have c2 := fun W => rcost_any size W
  generalize costI size = R at *
  go_enter Tryz.func5, Tryz.ntmps5
  go_wp2_with (first
    | (go_at_call 39; refine cb.mono ?_; rintro e w1 ⟨rfl, hB⟩; have HB : Hid (Below w.heap.size w w1) := hB; clear hB cb)
    | (go_at_call 40; refine Calls_on (c1 _) ?_)
    | (go_at_call 41; refine Calls_on (c2 _) ?_))
  go_ret
  exact ⟨by simp, HB.out⟩

set_option maxRecDepth 8000 in
set_option maxHeartbeats 400000 in
theorem iread_nil (c : Nat) (x y : Int) (w : World) : Calls Tryz.prog 48 #[.pointer none, ep c, .int .i64 x, .int .i64 y] w fun e w' => e = .returned (.tuple #[.slice none 0 0, .int .i64 22]) ∧ w' = w := by
  go_enter Tryz.func48, Tryz.ntmps48
  go_wp2
  go_ret2
  exact ⟨rfl, rfl⟩
set_option maxRecDepth 8000 in
set_option maxHeartbeats 400000 in
theorem iwrite_nil (c m : Nat) (x : Int) (p : Option Addr) (n cp : Nat) (w : World) : Calls Tryz.prog 45 #[.pointer none, ep c, .pointer (some ⟨m, 0, none⟩), .int .i64 x, .slice p n cp] w fun e w' => e = .returned (.int .i64 22) ∧ w' = w := by
  go_enter Tryz.func45, Tryz.ntmps45
  go_wp2
  go_ret
  exact ⟨rfl, rfl⟩
set_option maxRecDepth 8000 in
set_option maxHeartbeats 400000 in
theorem itrunc_nil (c m : Nat) (x : Int) (w : World) : Calls Tryz.prog 47 #[.pointer none, ep c, .pointer (some ⟨m, 0, none⟩), .int .i64 x] w fun e w' => e = .returned (.int .i64 22) ∧ w' = w := by
  go_enter Tryz.func47, Tryz.ntmps47
  go_wp2
  go_ret
  exact ⟨rfl, rfl⟩

set_option maxRecDepth 8000 in
set_option maxHeartbeats 1000000 in
theorem none_law (w : World) (ht : Tab w) (ht6 : Bm.Tab64 w) : Calls Tryz.prog 8 #[] w fun e w' => e = .returned (.bool true) ∧ Below w.heap.size w w' := by
  have cD : Calls Tryz.prog 42 #[.int .i64 10] w _ := disk_any 10 w ht ht6 (by omega) (by omega)
  have HT : Hid (Tab w ∧ Bm.Tab64 w) := ⟨ht, ht6⟩
  clear ht ht6
  go_enter Tryz.func8, Tryz.ntmps8
  go_wp2_with (first
    | (go_at_call 42; refine cD.mono ?_; rintro e w1 ⟨c, s, vs, rfl, hC1, hnb, hcont, hm1, hsl, hB1⟩; have H1 : Hid (Below w.heap.size w w1) := hB1; clear cD hC1 hnb hcont hm1 hsl hB1)
    | (go_at_call 48; refine Calls_on (iread_nil _ _ _ _) ?_)
    | (go_at_call 43; refine (inew_any _).mono ?_; rintro e w2 ⟨rfl, hi2, hB2⟩; refine Stop.out ?_))
  refine Stop.mk ?_
  have hB02 : Below w.heap.size w w2 := H1.out.trans (hB2.mono H1.out.size)
  have cb := begun9_true w2 (below_tab hB02 HT.out.1.lt HT.out.1) (HT.out.2.below hB02)
  have H2 : Hid (Below w.heap.size w w2 ∧ InoAt w2 w1.heap.size 0 noNums) := ⟨hB02, hi2⟩
  clear hB02 hi2 hB2
  go_wp2_with (go_at_call 39; refine cb.mono ?_; rintro e w3 ⟨rfl, hB3⟩; clear cb; refine Stop.out ?_)
  refine Stop.mk ?_
  have cv : (convert 55 55 (.slice (some ⟨w3.heap.size, 0, none⟩) 1 1)).run Tryz.prog (w3.alloc (.cells #[.int .u8 97] 5)) = .ok (.slice (some ⟨w3.heap.size, 0, none⟩) 1 1) (w3.alloc (.cells #[.int .u8 97] 5 (1, 2))) := Lib.run_convert_bytes_const w3 55 5 #[.int .u8 97] 1 1 Tryz.underlying55 Tryz.underlying5
  obtain ⟨w4, hw4⟩ : ∃ w4, w4 = w3.alloc (.cells #[.int .u8 97] 5 (1, 2)) := ⟨_, rfl⟩
  have hB4 : Below w3.heap.size w3 w4 := by rw [hw4]; exact (Below.refl _ w3).alloc (Nat.le_refl _) _
  have hB24 : Below w2.heap.size w2 w4 := hB3.trans (hB4.mono hB3.size)
  have hi4 : InoAt w4 w1.heap.size 0 noNums := H2.out.2.below hB24 H2.out.2.lt
  have cB := ibytes_any w1.heap.size 0#32 noNums rfl w4 hi4
  have H4 : Hid (Below w.heap.size w w4) := H2.out.1.trans (hB24.mono H2.out.1.size)
  have cC : ∀ W, Calls Tryz.prog 40 #[.int .i64 65536] W fun e w' => e = .returned (.int .i64 131) ∧ w' = W := fun W => by
    have := cost_any 65536 W
    rw [show costI 65536 = 131 by decide] at this
    exact this
  clear hB3 hB4 hB24 hi4
  go_wp2_with (first
    | (go_at_call 45; rw [← hw4]; refine Calls_on (iwrite_nil _ _ _ _ _ _ _) ?_; clear hw4)
    | (go_at_call 47; refine Calls_on (itrunc_nil _ _ _ _) ?_)
    | (go_at_call 51; refine Calls_on (isize_nil _) ?_)
    | (go_at_call 50; refine cB.mono ?_; rintro e w5 ⟨rfl, hx5, hB5⟩; have H5 : Hid (Below w4.heap.size w4 w5) := hB5; clear cB hx5 hB5)
    | (go_at_call 40; refine Calls_on (cC _) ?_))
  go_ret
  exact ⟨rfl, H4.out.trans (H5.out.mono H4.out.size)⟩

end Go.Proofs.YtphedokdckoccaaGreatDoor
