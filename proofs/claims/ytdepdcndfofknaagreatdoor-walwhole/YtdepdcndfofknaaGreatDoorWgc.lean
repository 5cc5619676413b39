/-
  begun of the law: a device of 40 blocks, formatted, mounted, one commit, synced, crashed, mounted again.
-/
import Derived.Test.YtdepdcndfofknaaGreatDoorWgb
import Derived.Deep.DeepAppendRoom
import Derived.Test.YtdepdcndfofknaaGreatDoorWga
import Derived.Lib.SlBytesConst

/-
  What WalWhole lays in memory: a block of bytes over and over; a row of puts.
-/
namespace Go.Proofs.YtdepdcndfofknaaGreatDoor
open Go.RowKit Go.Maps Go.Sort Go.Shelf

/-- n bytes of some bytes, over and over. -/
def fullB (bs : By) (n : Nat) : By := (List.range n).map fun i => (bs[i % bs.length]?).getD 0
theorem fullB_length (bs : By) (n : Nat) : (fullB bs n).length = n := by simp [fullB]

theorem full_bytes (bs : By) (bp : Option Addr) (bc n : Nat) (w : World) (hn : n ≤ 70000) (hbl : bs.length < 9223372036854775808) (hb : Bytes w bp bs) :
    Calls Tryz.prog 18 #[.slice bp bs.length bc, .int .i64 n] w fun e w' => e = .returned (.slice (some ⟨w.heap.size, 0, none⟩) n n) ∧
      w'.heap[w.heap.size]? = some (.cells ((fullB bs n).map u8v).toArray 5 (0, 0)) ∧ Below w.heap.size w w' := by
  have hl : (bs.map fun b => (b.toNat : Int)).length = bs.length := by simp
  have := full_any (bs.map fun b => (b.toNat : Int)) bp bc n w hn (by rw [hl]; exact hbl) (fun hp => by
    rw [hl] at hp
    obtain ⟨bb, bo, e, hx⟩ := hb hp
    refine ⟨bb, bo, e, fun j x hj => ?_⟩
    rw [List.getElem?_map] at hj
    obtain ⟨y, hy, rfl⟩ := Option.map_eq_some_iff.1 hj
    exact hx j y hy)
  rw [hl] at this
  refine this.mono ?_
  rintro e w' ⟨rfl, h1, h2⟩
  refine ⟨rfl, ?_, h2⟩
  rw [h1]
  have : (full (bs.map fun b => (b.toNat : Int)) n).map u8 = (fullB bs n).map u8v := by
    unfold full fullB
    rw [List.map_map, List.map_map]
    refine List.map_congr_left (fun i _ => ?_)
    simp only [Function.comp, List.length_map, List.getElem?_map]
    cases bs[i % bs.length]? with
    | none => rfl
    | some b => rfl
  rw [this]

/-- A row of puts that the call has made. -/
theorem puts_of_own {W : World} {base : Nat} {v : Value} {n : Nat} {f : Nat → PutM} (hown : W.ownsRow base 76 2 v n (((List.range n).map fun k => putCells (f k)).flatten)) (hn : 0 < n)
    (hd : ∀ k, k < n → (f k).bytes.length ≤ (f k).cap ∧ Bytes W (f k).at_ (f k).bytes ∧ ∀ b o, (f k).at_ = some ⟨b, o, none⟩ → ∃ cs fr, W.heap[b]? = some (.cells cs 5 fr)) :
    ∃ p c, v = .slice p n c ∧ PutsAt W p ((List.range n).map f) := by
  rcases hown.2 with ⟨e, h0⟩ | ⟨g, cap, cur, rfl, hg, hblk, hcap, _⟩
  · omega
  · have hget : ∀ j x, ((List.range n).map f)[j]? = some x → j < n ∧ x = f j := by
      intro j x hj
      have hlt := (List.getElem?_eq_some_iff.1 hj).1
      rw [List.length_map, List.length_range] at hlt
      rw [List.getElem?_map, List.getElem?_range hlt] at hj
      exact ⟨hlt, (Option.some.inj hj).symm⟩
    refine ⟨_, cap, rfl, fun _ => ⟨g, 0, rfl, ⟨_, _, hblk⟩, fun j x hj => ?_⟩, fun j x hj => ?_⟩
    · obtain ⟨hlt, rfl⟩ := hget j x hj
      have hll : (((List.range n).map fun k => putCells (f k)).flatten).length = n * 2 := hown.1
      have c0 := hown.cellAt (j * 2 + 0) (by omega)
      have c1 := hown.cellAt (j * 2 + 1) (by omega)
      rw [flat_get f n j hlt 0 (by omega)] at c0
      rw [flat_get f n j hlt 1 (by omega)] at c1
      refine ⟨?_, ?_⟩
      · rw [Nat.zero_add]; simpa [putCells] using c0
      · rw [Nat.zero_add]; simpa [putCells] using c1
    · obtain ⟨hlt, rfl⟩ := hget j x hj
      exact hd j hlt

end Go.Proofs.YtdepdcndfofknaaGreatDoor

/-
  append, and what becomes of the slice that was appended to: it holds what it held.
-/
namespace Go.Proofs.YtdepdcndfofknaaGreatDoor
open Go.RowKit Go.Maps Go.Sort Go.Shelf

theorem run_append_keeps {P : Program} (w : World) (base : Nat) (t ty e : TypeId) (i : TypeInfo) (z : Value) (size bytes : Nat) (ht : P.underlying t = some (.slice e)) (hi : P.info? e = some i) (hz : i.zero = some z)
    (hsize : i.size = size) (hby : i.bytes = bytes) (hzs : z.cells.size = size) (hsz : 0 < size)
    (g n cap : Nat) (xs : List Value) (hown : w.ownsRow base e size (.slice (some ⟨g, 0, none⟩) n cap) n xs)
    (ad : Addr) (m c : Nat) (news : List Value) (hl : news.length = m * size) (hnews : ∀ j u, news[j]? = some u → w.cell? (ad.add j) = some u) (h1 : ∀ u ∈ news, u.oneCell' = true)
    (h63 : n + m ≤ maxLen) (hbytes : (n + m) * bytes ≤ 140737488355328) (hbase : base ≤ w.heap.size) :
    ∃ v' w', (Builtin.append_ #[t, t] ty #[.slice (some ⟨g, 0, none⟩) n cap, .slice (some ad) m c]).run P w = .ok v' w' ∧ w'.ownsRow base e size v' (n + m) (xs ++ news) ∧ w.grownBy w' (some g) ∧ w'.ownsRow base e size (.slice (some ⟨g, 0, none⟩) n cap) n xs := by
  have hlx := hown.1
  by_cases hroom : n + m ≤ cap
  · obtain ⟨w', hr, h2, h3⟩ := run_append_own_spare (P := P) w base t ty e i size ht hi hsize g n cap xs hown ad m c news hl hnews h1 hroom
    refine ⟨_, w', hr, h2, h3, hlx, .inr ?_⟩
    rcases h2.2 with ⟨e0, _⟩ | ⟨g', cap', cur, e0, hb, hblk, _, hcm, hcs, htk⟩
    · cases e0
    · cases e0
      refine ⟨g, cap, cur, rfl, hb, hblk, by omega, hcm, hcs, ?_⟩
      have e1 : (cur.toList.take ((n + m) * size)).take (n * size) = (xs ++ news).take (n * size) := by rw [htk]
      rw [List.take_take, Nat.min_eq_left (Nat.mul_le_mul_right _ (by omega)), ← hlx, List.take_left] at e1
      rw [← hlx]
      exact e1
  · obtain ⟨v', w', hr, h2, h3, _, _⟩ := run_append_own_at (P := P) w base t ty e i z size bytes ht hi hz hsize hby hzs hsz (.slice (some ⟨g, 0, none⟩) n cap) n xs hown ad m c news hl hnews h1 h63 hbytes hbase
    refine ⟨v', w', hr, h2, h3, hlx, .inr ?_⟩
    have holds : ∀ j u, xs[j]? = some u → w.cell? ((⟨g, 0, none⟩ : Addr).add j) = some u := hown.cells (g := g) rfl
    subst hsize
    subst hby
    have hr2 := run_append_grow (P := P) w t ty e i z ht hi hz ⟨g, 0, none⟩ n cap xs hlx holds ad m c news hl hnews (by omega) (by unfold maxLen at h63; omega) (growslice_fits (by omega) hbytes)
    rw [hr] at hr2
    cases hr2
    rcases hown.2 with ⟨e0, _⟩ | ⟨g', cap', cur, e0, hb, hblk, hnc, hcm, hcs, htk⟩
    · cases e0
    · cases e0
      exact ⟨g, cap, cur, rfl, hb, (Below.heap_alloc w.drew _ g (Array.getElem?_eq_some_iff.1 hblk).1).trans hblk, hnc, hcm, hcs, htk⟩

theorem wpList_append_keeps {P : Program} (w : World) {ops : Array Oper} {rest : List Oper} {o : Oper} {a : Act} {Q : Exit → Act → World → Prop} (hgd : o.guard = none) (s x : Operand) (t : TypeId)
    (ho : o.op = .call { callee := .builtin .append, args := #[s, x], argTypes := #[t, t] })
    (base : Nat) (e : TypeId) (i : TypeInfo) (z : Value) (size bytes : Nat) (ht : P.underlying t = some (.slice e)) (hi : P.info? e = some i) (hz : i.zero = some z)
    (hsize : i.size = size) (hby : i.bytes = bytes) (hzs : z.cells.size = size) (hsz : 0 < size)
    (g n cap : Nat) (xs : List Value) (hs : a.eval s = .slice (some ⟨g, 0, none⟩) n cap) (hown : w.ownsRow base e size (.slice (some ⟨g, 0, none⟩) n cap) n xs)
    (ad : Addr) (m c : Nat) (news : List Value) (hx : a.eval x = .slice (some ad) m c) (hl : news.length = m * size) (hnews : ∀ j u, news[j]? = some u → w.cell? (ad.add j) = some u) (h1 : ∀ u ∈ news, u.oneCell' = true)
    (h63 : n + m ≤ maxLen) (hbytes : (n + m) * bytes ≤ 140737488355328) (hbase : base ≤ w.heap.size)
    (h : ∀ v' w', w'.ownsRow base e size v' (n + m) (xs ++ news) → w.grownBy w' (some g) → w'.ownsRow base e size (.slice (some ⟨g, 0, none⟩) n cap) n xs → wpList P ops Q rest (a.put o.dst v') w') :
    wpList P ops Q (o :: rest) a w := by
  refine wpList_plain hgd fun K hK => ?_
  obtain ⟨v', w', hr, h2, h3, h4⟩ := run_append_keeps (P := P) w base t o.type e i z size bytes ht hi hz hsize hby hzs hsz g n cap xs hown ad m c news hl hnews h1 h63 hbytes hbase
  unfold Oper.wp execOp
  simp only [ho, resolve, invoke, builtin, Sem.run_bind, Sem.run_pure, Result.andThen_ok, List.map_toArray, List.map_cons, List.map_nil, hs, hx, hr]
  exact hK _ _ (h v' w' h2 h3 h4)

/-- Two cells that were just laid. -/
theorem cell_two_new (w : World) (x y : Value) (t : TypeId) : ∀ j u, [x, y][j]? = some u → (w.alloc (.cells #[x, y] t)).cell? ((⟨w.heap.size, 0, none⟩ : Addr).add j) = some u := by
  intro j u hj
  rw [Addr.add_lit, Nat.zero_add, cellOf (heap_alloc_new w _) j]
  simpa using hj

/-- A slice that was just laid. -/
theorem own_new (w : World) (base : Nat) (e : TypeId) (size n : Nat) (cs : List Value) (hl : cs.length = n * size) (hn : n ≤ maxLen) (hb : base ≤ w.heap.size) : (w.alloc (.cells cs.toArray e)).ownsRow base e size (.slice (some ⟨w.heap.size, 0, none⟩) n n) n cs := by
  refine ⟨hl, .inr ⟨w.heap.size, n, cs.toArray, rfl, hb, heap_alloc_new w _, Nat.le_refl _, hn, by simpa using hl, ?_⟩⟩
  rw [← hl]
  simp

theorem run_append_bytes47 {W : World} {base : Nat} {v : Value} {n : Nat} {xs : List Value} (ty : TypeId) (hown : W.ownsRow base 5 1 v n xs) (p : Option Addr) (bs : By) (cp : Nat) (hb : Bytes W p bs)
    (h63 : n + bs.length ≤ 140737488355328) (hbase : base ≤ W.heap.size) :
    ∃ v' W', (Builtin.append_ #[33, 33] ty #[v, .slice p bs.length cp]).run Tryz.prog W = .ok v' W' ∧ W'.ownsRow base 5 1 v' (n + bs.length) (xs ++ bs.map u8v) ∧ W.grownBy W' v.ownBlock := by
  obtain ⟨i0, hi0, hz0, hz1, hz2⟩ := info_parts Tryz.info5
  rcases p with _ | ad
  · have h0 : bs = [] := by
      by_cases hl : 0 < bs.length
      · obtain ⟨_, _, h, _⟩ := hb hl; cases h
      · exact List.eq_nil_of_length_eq_zero (by omega)
    subst h0
    exact ⟨v, W, run_append_none_any base 33 ty 5 i0 1 Tryz.underlying33 hi0 v n xs hown cp, by simpa using hown, ⟨rfl, rfl, rfl, Nat.le_refl _, fun _ _ _ => rfl⟩⟩
  · obtain ⟨v', w', hr, h2, h3, _, _⟩ := run_append_own_at (P := Tryz.prog) W base 33 ty 5 i0 (.int .u8 0) 1 1 Tryz.underlying33 hi0 hz0 hz1 hz2 rfl (by decide) v n xs hown ad bs.length cp (bs.map u8v) (by simp)
      (fun j u hj => by
        rw [List.getElem?_map] at hj
        obtain ⟨x, hx, rfl⟩ := Option.map_eq_some_iff.1 hj
        obtain ⟨b, o, e, hc⟩ := hb (Nat.lt_of_le_of_lt (Nat.zero_le _) (List.getElem?_eq_some_iff.1 hx).1)
        cases e
        rw [Addr.add_lit]
        exact hc j x hx) (u8v_one bs) (by unfold maxLen; omega) (by omega) hbase
    exact ⟨v', w', hr, h2, h3⟩

theorem wpList_append_bytes47 {W : World} {ops : Array Oper} {rest : List Oper} {o : Oper} {a : Act} {Q : Exit → Act → World → Prop} (hgd : o.guard = none) (s x : Operand)
    (ho : o.op = .call { callee := .builtin .append, args := #[s, x], argTypes := #[33, 33] })
    (base : Nat) (v : Value) (n : Nat) (xs : List Value) (hs : a.eval s = v) (hown : W.ownsRow base 5 1 v n xs)
    (p : Option Addr) (bs : By) (cp : Nat) (hx : a.eval x = .slice p bs.length cp) (hb : Bytes W p bs) (h63 : n + bs.length ≤ 140737488355328) (hbase : base ≤ W.heap.size)
    (h : ∀ v' w', w'.ownsRow base 5 1 v' (n + bs.length) (xs ++ bs.map u8v) → W.grownBy w' v.ownBlock → wpList Tryz.prog ops Q rest (a.put o.dst v') w') :
    wpList Tryz.prog ops Q (o :: rest) a W := by
  refine wpList_plain hgd fun K hK => ?_
  obtain ⟨v', w', hr, h2, h3⟩ := run_append_bytes47 (ty := o.type) hown p bs cp hb h63 hbase
  unfold Oper.wp execOp
  simp only [ho, resolve, invoke, builtin, Sem.run_bind, Sem.run_pure, Result.andThen_ok, List.map_toArray, List.map_cons, List.map_nil, hs, hx, hr]
  exact hK _ _ (h v' w' h2 h3)

/-- A row stays where another block grows. -/
theorem own_grownT {W W' : World} {base : Nat} {e : TypeId} {size : Nat} {v : Value} {n : Nat} {xs : List Value} {row : Option Nat} (h : W.ownsRow base e size v n xs) (hg : W.grownBy W' row)
    (hne : ∀ g cs, row = some g → W.heap[g]? = some (.cells cs e (0, 0)) → False) : W'.ownsRow base e size v n xs := by
  refine ⟨h.1, ?_⟩
  rcases h.2 with h0 | ⟨g, cap, cur, hv, hb, hblk, r⟩
  · exact .inl h0
  · refine .inr ⟨g, cap, cur, hv, hb, (hg.block g (Array.getElem?_eq_some_iff.1 hblk).1 (fun e => hne g cur e.symm hblk)).trans hblk, r⟩

theorem u8v_small (k : Nat) (h : k < 256) : u8v (BitVec.ofNat 8 k) = .int .u8 (k : Nat) := by
  unfold u8v
  rw [BitVec.toNat_ofNat, Nat.mod_eq_of_lt (by simpa using h)]

end Go.Proofs.YtdepdcndfofknaaGreatDoor

/-
  What WalWhole's loops keep.
-/
namespace Go.Proofs.YtdepdcndfofknaaGreatDoor
open Go.RowKit Go.Maps Go.Sort Go.Shelf

/-- What block i is behind the commit of number t. -/
def wb (b : By) (t i : Nat) : By := fullB (BitVec.ofNat 8 i :: BitVec.ofNat 8 t :: b) 512
theorem wb_length (b : By) (t i : Nat) : (wb b t i).length = 512 := fullB_length _ _
def wput (b : By) (t : Nat) (gs : List Nat) (j : Nat) : PutM := ⟨(j : Int), some ⟨gs.getD j 0, 0, none⟩, 512, wb b t j⟩
def wrow (gs : List Nat) (j : Nat) : Value := .slice (some ⟨gs.getD j 0, 0, none⟩) 512 512

/-- The inner loop: k puts and rows are laid. -/
structure IInv (wr W : World) (b : By) (t : Nat) (lv xv : Value) (gs : List Nat) : Prop where
  puts : W.ownsRow wr.heap.size 76 2 lv gs.length (((List.range gs.length).map fun j => putCells (wput b t gs j)).flatten)
  rows : W.ownsRow wr.heap.size 33 1 xv gs.length ((List.range gs.length).map (wrow gs))
  blk : ∀ j, j < gs.length → W.heap[gs.getD j 0]? = some (.cells ((wb b t j).map u8v).toArray 5 (0, 0))
  below : Below wr.heap.size wr W

theorem getD_snoc (gs : List Nat) (x j : Nat) (h : j < gs.length) : (gs ++ [x]).getD j 0 = gs.getD j 0 := by
  simp [List.getD, List.getElem?_append_left h]
theorem getD_last (gs : List Nat) (x : Nat) : (gs ++ [x]).getD gs.length 0 = x := by simp [List.getD]

theorem putsL_snoc (b : By) (t : Nat) (gs : List Nat) (x : Nat) : ((List.range (gs ++ [x]).length).map fun j => putCells (wput b t (gs ++ [x]) j)).flatten =
    ((List.range gs.length).map fun j => putCells (wput b t gs j)).flatten ++ [.int .i64 gs.length, .slice (some ⟨x, 0, none⟩) 512 512] := by
  have hl : (gs ++ [x]).length = gs.length + 1 := by simp
  rw [hl, List.range_succ, List.map_append, List.flatten_append]
  have e1 : (List.range gs.length).map (fun j => putCells (wput b t (gs ++ [x]) j)) = (List.range gs.length).map fun j => putCells (wput b t gs j) :=
    List.map_congr_left fun j hj => by unfold wput; rw [getD_snoc gs x j (List.mem_range.1 hj)]
  rw [e1]
  congr 1
  simp only [List.map_cons, List.map_nil, List.flatten_cons, List.flatten_nil, List.append_nil]
  unfold putCells wput
  rw [getD_last, wb_length]
theorem rowsL_snoc (gs : List Nat) (x : Nat) : (List.range (gs ++ [x]).length).map (wrow (gs ++ [x])) = (List.range gs.length).map (wrow gs) ++ [.slice (some ⟨x, 0, none⟩) 512 512] := by
  have hl : (gs ++ [x]).length = gs.length + 1 := by simp
  rw [hl, List.range_succ, List.map_append]
  have e1 : (List.range gs.length).map (wrow (gs ++ [x])) = (List.range gs.length).map (wrow gs) :=
    List.map_congr_left fun j hj => by unfold wrow; rw [getD_snoc gs x j (List.mem_range.1 hj)]
  rw [e1]
  congr 1
  simp only [List.map_cons, List.map_nil]
  unfold wrow
  rw [getD_last]

theorem IInv.nil (wr : World) (b : By) (t : Nat) : IInv wr wr b t (.slice none 0 0) (.slice none 0 0) [] :=
  ⟨World.ownsRow_nil _ _ _ _, World.ownsRow_nil _ _ _ _, fun _ hj => absurd hj (Nat.not_lt_zero _), Below.refl _ _⟩

/-- The puts, as Commit takes them. -/
theorem IInv.putsAt {wr W : World} {b : By} {t : Nat} {lv xv : Value} {gs : List Nat} (h : IInv wr W b t lv xv gs) (hn : 0 < gs.length) : ∃ p c, lv = .slice p gs.length c ∧ PutsAt W p ((List.range gs.length).map (wput b t gs)) :=
  puts_of_own h.puts hn fun k hk => ⟨by simp [wput, wb_length], by simp only [wput]; exact bytes_block (h.blk k hk), fun b' o e => by
    have e' : gs.getD k 0 = b' := by
      have := Option.some.inj e
      exact congrArg Addr.block this
    rw [← e']
    exact ⟨_, _, h.blk k hk⟩⟩

/-- The rows, as the model holds them. -/
theorem IInv.rowsAt {wr W : World} {b : By} {t : Nat} {lv xv : Value} {gs : List Nat} (h : IInv wr W b t lv xv gs) (hn : 0 < gs.length) : ∃ p c, xv = .slice p gs.length c ∧ RowsAt W p gs.length (wb b t) := by
  rcases h.rows.2 with ⟨_, h0⟩ | ⟨g, cap, cur, rfl, hg, hblk, hcap, _⟩
  · omega
  · refine ⟨_, cap, rfl, fun _ => ⟨g, 0, rfl, ⟨_, _, hblk⟩, fun i hi => ?_⟩⟩
    have hc := h.rows.cellAt i (by simpa using hi)
    rw [List.getElem?_map, List.getElem?_range hi] at hc
    refine ⟨gs.getD i 0, 0, 512, ?_, bytes_block (h.blk i hi), wb_length _ _ _, _, _, h.blk i hi⟩
    rw [Nat.zero_add]
    exact hc

/-- Where a row's own block is, its cells are of the row's type. -/
theorem own_tag {W : World} {base : Nat} {e : TypeId} {size : Nat} {v : Value} {n : Nat} {xs : List Value} (h : W.ownsRow base e size v n xs) {g : Nat} {cs : Array Value} {t : TypeId} {fr : Nat × Nat} (hg : v.ownBlock = some g) (hc : W.heap[g]? = some (.cells cs t fr)) : t = e := by
  rcases h.2 with ⟨rfl, _⟩ | ⟨g', cap, cur, rfl, _, hblk, _⟩
  · simp [Value.ownBlock] at hg
  · have e' : g' = g := by simpa [Value.ownBlock] using hg
    rw [e', hc] at hblk
    simp only [Option.some.injEq, Obj.cells.injEq] at hblk
    exact hblk.2.1

/-- The rows ahead of their own append. -/
theorem IInv.rows4 {wr W w3 w4 : World} {b : By} {t : Nat} {lv xv : Value} {gs : List Nat} (h : IInv wr W b t lv xv gs) (hB : Below W.heap.size W w3) (o1 o2 : Obj) (hg4 : (w3.alloc o1).grownBy w4 lv.ownBlock) :
    (w4.alloc o2).ownsRow wr.heap.size 33 1 xv gs.length ((List.range gs.length).map (wrow gs)) := by
  have r3 := own_belowT (own_belowT h.rows hB) ((Below.refl w3.heap.size w3).alloc (Nat.le_refl _) o1)
  have p3 := own_belowT (own_belowT h.puts hB) ((Below.refl w3.heap.size w3).alloc (Nat.le_refl _) o1)
  have r4 := own_grownT r3 hg4 (fun g cs e hc => absurd (own_tag p3 e hc) (by decide))
  exact own_belowT r4 ((Below.refl _ w4).alloc (Nat.le_refl _) o2)

/-- One put and one row more. -/
theorem IInv.snoc {wr W w3 w4 w5 : World} {b : By} {t x : Nat} {lv xv lv' xv' : Value} {gs : List Nat} {o1 o2 : Obj} (h : IInv wr W b t lv xv gs) (hB : Below W.heap.size W w3) (hz : w3.heap[x]? = some (.cells ((wb b t gs.length).map u8v).toArray 5 (0, 0)))
    (hown4 : w4.ownsRow wr.heap.size 76 2 lv' (gs.length + 1) (((List.range gs.length).map fun j => putCells (wput b t gs j)).flatten ++ [.int .i64 gs.length, .slice (some ⟨x, 0, none⟩) 512 512])) (hg4 : (w3.alloc o1).grownBy w4 lv.ownBlock)
    (hown5 : w5.ownsRow wr.heap.size 33 1 xv' (gs.length + 1) ((List.range gs.length).map (wrow gs) ++ [.slice (some ⟨x, 0, none⟩) 512 512])) (hg5 : (w4.alloc o2).grownBy w5 xv.ownBlock) : IInv wr w5 b t lv' xv' (gs ++ [x]) := by
  have r4 := h.rows4 hB o1 o2 hg4
  have p3 := own_belowT (own_belowT h.puts hB) ((Below.refl w3.heap.size w3).alloc (Nat.le_refl _) o1)
  have hl : (gs ++ [x]).length = gs.length + 1 := by simp
  have keep : ∀ (g : Nat) cs, w3.heap[g]? = some (Obj.cells cs 5 (0, 0)) → w5.heap[g]? = some (Obj.cells cs 5 (0, 0)) := by
    intro g cs hx
    have a3 : (w3.alloc o1).heap[g]? = some (Obj.cells cs 5 (0, 0)) := (Below.heap_alloc _ _ g (Array.getElem?_eq_some_iff.1 hx).1).trans hx
    have a4 : w4.heap[g]? = some (Obj.cells cs 5 (0, 0)) := (hg4.block g (Array.getElem?_eq_some_iff.1 a3).1 (fun e => absurd (own_tag p3 e.symm a3) (by decide))).trans a3
    have a4' : (w4.alloc o2).heap[g]? = some (Obj.cells cs 5 (0, 0)) := (Below.heap_alloc _ _ g (Array.getElem?_eq_some_iff.1 a4).1).trans a4
    exact (hg5.block g (Array.getElem?_eq_some_iff.1 a4').1 (fun e => absurd (own_tag r4 e.symm a4') (by decide))).trans a4'
  refine ⟨?_, ?_, fun j hj => ?_, ?_⟩
  · rw [putsL_snoc, hl]
    exact own_grownT (own_belowT hown4 ((Below.refl _ w4).alloc (Nat.le_refl _) o2)) hg5 (fun g cs e hc => absurd (own_tag r4 e hc) (by decide))
  · rw [rowsL_snoc, hl]
    exact hown5
  · rw [hl] at hj
    by_cases hlt : j < gs.length
    · rw [getD_snoc gs x j hlt]
      exact keep _ _ (below_block (h.blk j hlt) hB)
    · obtain rfl : j = gs.length := by omega
      rw [getD_last]
      exact keep _ _ hz
  · have B3 : Below wr.heap.size wr w3 := h.below.trans (hB.mono h.below.size)
    have low : ∀ {e : TypeId} {size : Nat} {v : Value} {n : Nat} {xs : List Value} {V : World}, V.ownsRow wr.heap.size e size v n xs → ∀ g, v.ownBlock = some g → wr.heap.size ≤ g := by
      intro e size v n xs V hr g hg
      rcases hr.2 with ⟨rfl, _⟩ | ⟨g', cap, cur, rfl, hb, _⟩
      · simp [Value.ownBlock] at hg
      · have : g' = g := by simpa [Value.ownBlock] using hg
        omega
    have B4 : Below wr.heap.size wr w4 := (B3.alloc B3.size o1).grown hg4 (by have := B3.size; simp; omega) (low p3)
    exact (B4.alloc B4.size o2).grown hg5 (by have := B4.size; simp; omega) (low r4)

end Go.Proofs.YtdepdcndfofknaaGreatDoor

/-
  The puts of WalWhole's commits: that of all blocks, and that of one put more.
-/
namespace Go.Proofs.YtdepdcndfofknaaGreatDoor
open Go.RowKit Go.Maps Go.Sort Go.Shelf

theorem laidOn_range (g : Nat → By) : ∀ (m i : Nat), laidOn (fun _ => none) ((List.range m).map fun j => (j, g j)) i = if i < m then some (g i) else none
  | 0, i => by simp [laidOn]
  | m + 1, i => by
    rw [List.range_succ, List.map_append, laidOn_append]
    have e : ∀ st : Nat → Option By, laidOn st ([m].map fun j => (j, g j)) i = if i = m then some (g m) else st i := fun _ => rfl
    rw [e, laidOn_range g m i]
    by_cases h : i = m
    · subst h; simp
    · rw [if_neg h]
      by_cases h2 : i < m
      · rw [if_pos h2, if_pos (by omega)]
      · rw [if_neg h2, if_neg (by omega)]

def wputs (b : By) (t : Nat) (gs : List Nat) (nb : Nat) : List PutM := (List.range nb).map (wput b t gs)
theorem wputs_length (b : By) (t : Nat) (gs : List Nat) (nb : Nat) : (wputs b t gs nb).length = nb := by simp [wputs]
theorem wputs_rec (b : By) (t : Nat) (gs : List Nat) (nb : Nat) : recOf (wputs b t gs nb) = (List.range nb).map fun j => (j, wb b t j) := by
  unfold recOf wputs
  rw [List.map_map]
  exact List.map_congr_left fun j _ => by simp [wput]
theorem wputs_good (b : By) (t : Nat) (gs : List Nat) (nb : Nat) : (wputs b t gs nb).all (goodPut nb) = true := by
  rw [List.all_eq_true]
  intro x hx
  obtain ⟨j, hj, rfl⟩ := List.mem_map.1 hx
  have := List.mem_range.1 hj
  simp [goodPut, wput, wb_length]
  omega
/-- What a block is behind the commit. -/
theorem wputs_laid (b : By) (t : Nat) (gs : List Nat) (nb i : Nat) (hi : i < nb) (x : By) : (laidOn (fun _ => none) (recOf (wputs b t gs nb)) i).getD x = wb b t i := by
  have e := laidOn_range (wb b t) nb i
  rw [if_pos hi] at e
  rw [wputs_rec, e]
  exact Option.getD_some

/-- One put more: of block 0, zeros. -/
def wmore (b : By) (t : Nat) (gs : List Nat) (nb z j : Nat) : PutM := if j < nb then wput b t gs j else ⟨0, some ⟨z, 0, none⟩, 512, zeroB⟩
theorem wmore_cells (b : By) (t : Nat) (gs : List Nat) (nb z : Nat) : ((List.range (nb + 1)).map fun j => putCells (wmore b t gs nb z j)).flatten = ((List.range nb).map fun j => putCells (wput b t gs j)).flatten ++ [.int .i64 0, .slice (some ⟨z, 0, none⟩) 512 512] := by
  rw [List.range_succ, List.map_append, List.flatten_append]
  have e1 : (List.range nb).map (fun j => putCells (wmore b t gs nb z j)) = (List.range nb).map fun j => putCells (wput b t gs j) :=
    List.map_congr_left fun j hj => by unfold wmore; rw [if_pos (List.mem_range.1 hj)]
  rw [e1]
  congr 1
  simp only [List.map_cons, List.map_nil, List.flatten_cons, List.flatten_nil, List.append_nil]
  unfold wmore
  rw [if_neg (Nat.lt_irrefl _)]
  simp [putCells, zeroB_length]
theorem puts_more {W : World} {base : Nat} {v : Value} {b : By} {t nb z : Nat} {gs : List Nat} (hown : W.ownsRow base 76 2 v (nb + 1) (((List.range nb).map fun j => putCells (wput b t gs j)).flatten ++ [.int .i64 0, .slice (some ⟨z, 0, none⟩) 512 512]))
    (hblk : ∀ j, j < nb → W.heap[gs.getD j 0]? = some (.cells ((wb b t j).map u8v).toArray 5 (0, 0))) (hz : W.heap[z]? = some (.cells (zeroB.map u8v).toArray 5 (0, 0))) :
    ∃ p c, v = .slice p (nb + 1) c ∧ PutsAt W p ((List.range (nb + 1)).map (wmore b t gs nb z)) := by
  rw [← wmore_cells] at hown
  refine puts_of_own hown (Nat.succ_pos _) fun k _ => ?_
  by_cases h : k < nb
  · have e : wmore b t gs nb z k = wput b t gs k := by unfold wmore; rw [if_pos h]
    rw [e]
    refine ⟨by simp [wput, wb_length], by simp only [wput]; exact bytes_block (hblk k h), fun b' o e => ?_⟩
    have e' : gs.getD k 0 = b' := congrArg Addr.block (Option.some.inj e)
    rw [← e']
    exact ⟨_, _, hblk k h⟩
  · have e : wmore b t gs nb z k = ⟨0, some ⟨z, 0, none⟩, 512, zeroB⟩ := by unfold wmore; rw [if_neg h]
    rw [e]
    refine ⟨by simp [zeroB_length], bytes_block hz, fun b' o e => ?_⟩
    have e' : z = b' := congrArg Addr.block (Option.some.inj e)
    rw [← e']
    exact ⟨_, _, hz⟩
theorem wmore_no (b : By) (t : Nat) (gs : List Nat) (nb z : Nat) : takesB nb ((List.range (nb + 1)).map (wmore b t gs nb z)) = false := by
  unfold takesB
  rw [List.length_map, List.length_range, decide_eq_false (by omega)]
  rfl

theorem ModelAt.below {W W' : World} {base mB k : Nat} {p : Option Addr} {nb c : Nat} (h : ModelAt W base mB k p nb c) (hB : Below W.heap.size W W') : ModelAt W' base mB k p nb c := by
  obtain ⟨v, y, cs, h1, h2, h3⟩ := h.at_
  exact ⟨v, y, cs, below_block h1 hB, own_belowT h2 hB, h3⟩
theorem ModelAt.but {W W' : World} {base mB k : Nat} {p : Option Addr} {nb c : Nat} {S : Nat → Prop} (h : ModelAt W base mB k p nb c) (hb : But S W W') (hS : ∀ g cs t fr, W.heap[g]? = some (.cells cs t fr) → t = 68 ∨ t = 29 → ¬ S g) : ModelAt W' base mB k p nb c := by
  obtain ⟨v, y, cs, h1, h2, h3⟩ := h.at_
  refine ⟨v, y, cs, (hb.block mB (Array.getElem?_eq_some_iff.1 h1).1 (hS _ _ _ _ h1 (.inl rfl))).trans h1, ⟨h2.1, ?_⟩, h3⟩
  rcases h2.2 with h0 | ⟨g, cap, cur, e, hg, hblk, r⟩
  · exact .inl h0
  · exact .inr ⟨g, cap, cur, e, hg, (hb.block g (Array.getElem?_eq_some_iff.1 hblk).1 (hS _ _ _ _ hblk (.inr rfl))).trans hblk, r⟩
/-- What now reads. -/
theorem ModelAt.last {W : World} {base mB k : Nat} {p : Option Addr} {nb c : Nat} (h : ModelAt W base mB k p nb c) : ∃ g cg, W.cell? ⟨mB, 0, none⟩ = some (.slice (some ⟨g, 0, none⟩) (k + 1) cg) ∧ W.cell? ⟨g, k, none⟩ = some (.slice p nb c) := by
  obtain ⟨v, y, cs, h1, h2, h3⟩ := h.at_
  obtain ⟨g, cap, rfl, _, _⟩ := h2.form (Nat.succ_pos _)
  refine ⟨g, cap, by have := cellOf h1 0; simpa using this, ?_⟩
  rw [h2.cellAt k (by omega), List.getElem?_append_right (by omega), h3, Nat.sub_self]
  rfl

/-- A volume is kept where nothing of its own, no bytes and no device's block is turned. -/
theorem VI.but {w w' : World} {s : VS} (h : VI w s) {S : Nat → Prop} (hb : But S w w') (hS : ∀ k, s.mine k → ¬ S k) (h5 : ∀ g cs t fr, w.heap[g]? = some (.cells cs t fr) → t = 5 ∨ t = 178 → ¬ S g) : VI w' s :=
  ⟨h.vol.but hb (hS _ (.inl rfl)), h.dev.but hb (fun k hk => hS k (.inr (.inr hk))) (fun g _ hg => h5 g _ _ _ hg (.inr rfl)), h.fresh.but hb (hS _ (.inr (.inl rfl))) (fun k cs fr hk => h5 k cs 5 fr hk (.inl rfl)), h.fm, h.fused, h.n16, h.n200, h.lg⟩

/-- The model takes one row more. -/
theorem ModelAt.push {W W' : World} {base mB k : Nat} {p' : Option Addr} {nb c' : Nat} {v v' y : Value} {cs : List Value} (hm : W.heap[mB]? = some (.cells #[v, y] 68 (0, 0))) (hcs : cs.length = k + 1) (hown : W'.ownsRow base 29 1 v' (k + 1 + 1) (cs ++ [.slice p' nb c'])) (hg : W.grownBy W' v.ownBlock)
    (hv : ∀ g cs' t fr, v.ownBlock = some g → W.heap[g]? = some (.cells cs' t fr) → t = 29) : ModelAt (W'.setCell ⟨mB, 0, none⟩ v') base mB (k + 1) p' nb c' := by
  have hm' : W'.heap[mB]? = some (.cells #[v, y] 68 (0, 0)) := (hg.block mB (Array.getElem?_eq_some_iff.1 hm).1 (fun e => absurd (hv mB _ _ _ e.symm hm) (by decide))).trans hm
  refine ⟨v', y, cs, by simp [World.setCell, Array.getElem?_modify, hm'], ⟨hown.1, ?_⟩, hcs⟩
  rcases hown.2 with h0 | ⟨g, cap, cur, e, hb, hblk, r⟩
  · exact .inl h0
  · refine .inr ⟨g, cap, cur, e, hb, (Below.heap_setCell W' ⟨mB, 0, none⟩ _ g ?_).trans hblk, r⟩
    show g ≠ mB
    exact cell_ne_tag hblk hm' (by decide)

end Go.Proofs.YtdepdcndfofknaaGreatDoor

namespace Go.Proofs.YtdepdcndfofknaaGreatDoor
open Go.RowKit Go.Maps Go.Sort Go.Shelf

set_option maxRecDepth 8000 in
set_option maxHeartbeats 4000000 in
theorem begun_true (w : World) (ht : Tab w) : Calls Tryz.prog 31 #[] w fun e w' => e = .returned (.bool true) ∧ Below w.heap.size w w' := by
  have c21 := dev_new 40 w (by omega) (by omega)
  have HT : Hid (Tab w) := ht
  clear ht
  go_enter Tryz.func31, Tryz.ntmps31
  go_wp2_with (go_at_call 43; refine c21.mono ?_; rintro e w1 ⟨a, s, c, m, rfl, hd1, hB1, ha1, hs1, hm1⟩; clear c21; refine Stop.out ?_)
  refine Stop.mk ?_
  have ht1 : Tab w1 := below_tab hB1 HT.out.lt HT.out
  have cF := format_ok (newDS a s c m 40) w1 hd1 ht1 (by simp [newDS]) (fun i _ => rfl) (fun h => by cases h) (by simp [newDS])
  have H1 : Hid (Dev w1 (newDS a s c m 40) ∧ Tab w1) := ⟨hd1, ht1⟩
  have HL1 : Hid (Below w.heap.size w w1 ∧ ∀ k, (newDS a s c m 40).mine k → w.heap.size ≤ k) := ⟨hB1, by rintro k (rfl | rfl | rfl); exact ha1; exact hs1; exact hm1⟩
  clear hd1 hB1 ha1 hs1 hm1 ht1
  go_wp2_with (go_at_call 44; refine cF.mono ?_; rintro e w2 ⟨d2, rfl, hb2, hn2, hd2, hdn2, hD2, hB2, hcn2, hfu2⟩; clear cF; refine Stop.out ?_)
  refine Stop.mk ?_
  have ht2 : Tab w2 := hb2.tab H1.out.2 (H1.out.1.noTab H1.out.2)
  have hn40 : d2.n = 40 := hdn2
  have hnb : nbOf d2.n = 8 := by rw [hn40]; rfl
  have hfu2' : d2.fused = false := hfu2
  have hcn2' : d2.count = 4 := hcn2
  have hdd2 : d2.dead = false := by unfold DS.dead; rw [hfu2']; rfl
  have cM := mount_ok [] 1 0 d2 w2 hd2 ht2 (by omega) hdd2 hD2 (by rw [hB2, hdn2]; simp [upd]) (by omega) (by omega) (by
    refine ⟨by omega, fun _ => ?_⟩
    rw [hB2, hnb]
    simp only [upd]
    exact oldB_zero _)
  have ea2 : d2.a = a := hn2.a
  rw [ea2] at cM
  have H2 : Hid (Dev w2 d2 ∧ Tab w2) := ⟨hd2, ht2⟩
  have HL2 : Hid (Below w.heap.size w w2 ∧ ∀ k, d2.mine k → w.heap.size ≤ k) := by
    obtain ⟨h1, h2⟩ := HL1.out
    refine ⟨h1.trans (hb2.below h1.size h2), ?_⟩
    rintro k (e | e | e)
    · exact h2 k (.inl (e.trans hn2.a))
    · exact h2 k (.inr (.inl (e.trans hn2.s)))
    · rcases hn2.m with e2 | e2
      · exact h2 k (.inr (.inr (e.trans e2)))
      · have := h1.size; omega
  clear hd2 ht2 hb2
  go_wp2_with (go_at_call 39; refine cM.mono ?_; rintro e w3 ⟨v, f, rfl, hM⟩; clear cM; refine Stop.out ?_)
  refine Stop.mk ?_
  have HM : Hid (Mounted w2 w3 v d2 (0 + ([] : List Rec).length) 1 f []) := hM
  clear hM
  have cv : (convert 33 33 (.slice (some ⟨w3.heap.size, 0, none⟩) 1 1)).run Tryz.prog (w3.alloc (.cells #[.int .u8 120] 5)) = .ok (.slice (some ⟨w3.heap.size, 0, none⟩) 1 1) (w3.alloc (.cells #[.int .u8 120] 5 (1, 2))) := Lib.run_convert_bytes_const w3 33 5 #[.int .u8 120] 1 1 Tryz.underlying33 Tryz.underlying5
  obtain ⟨w4, hw4⟩ : ∃ w4, w4 = w3.alloc (.cells #[.int .u8 120] 5 (1, 2)) := ⟨_, rfl⟩
  have hB4 : Below w3.heap.size w3 w4 := by rw [hw4]; exact (Below.refl _ w3).alloc (Nat.le_refl _) _
  have hx4 : w4.heap[w3.heap.size]? = some (.cells #[.int .u8 120] 5 (1, 2)) := by rw [hw4]; exact heap_alloc_new w3 _
  have cFu : Calls Tryz.prog 18 #[.slice (some ⟨w3.heap.size, 0, none⟩) 1 1, .int .i64 512] w4 fun e w' => e = .returned (.slice (some ⟨w4.heap.size, 0, none⟩) 512 512) ∧ w'.heap[w4.heap.size]? = some (.cells ((List.replicate 512 (120 : BitVec 8)).map u8v).toArray 5 (0, 0)) ∧ Below w4.heap.size w4 w' := by
    have := full_any [120] (some ⟨w3.heap.size, 0, none⟩) 1 512 w4 (by omega) (by simp) (fun _ => ⟨_, _, rfl, fun j x hj => by
      have h0 : j = 0 := by have := (List.getElem?_eq_some_iff.1 hj).1; simp at this; omega
      subst h0
      have e := cellOf hx4 0
      simp at hj
      subst hj
      simpa using e⟩)
    refine this.mono ?_
    rintro e w' ⟨rfl, h1, h2⟩
    refine ⟨rfl, ?_, h2⟩
    rw [h1]
    have : (full [120] 512).map u8 = (List.replicate 512 (120 : BitVec 8)).map u8v := by
      apply List.ext_getElem?
      intro i
      by_cases hi : i < 512
      · rw [List.getElem?_map, List.getElem?_map, List.getElem?_replicate, if_pos hi]
        simp [full, hi, u8, u8v, Nat.mod_one]
      · rw [List.getElem?_eq_none (by simp [full]; omega), List.getElem?_eq_none (by simp; omega)]
    rw [this]
  go_wp2_with (go_at_call 18; rw [← hw4]; refine cFu.mono ?_; rintro e w5 ⟨rfl, hx5, hB5⟩; clear cFu cv; refine Stop.out ?_)
  refine Stop.mk ?_
  have hs4 : w4.heap.size = w3.heap.size + 1 := by rw [hw4]; simp
  clear hw4
  rw [hs4] at hx5
  have hB35 : Below w3.heap.size w3 w5 := hB4.trans (hB5.mono hB4.size)
  obtain ⟨pm, hpm⟩ : ∃ pm : List PutM, pm = [⟨3, some ⟨w3.heap.size + 1, 0, none⟩, 512, List.replicate 512 120⟩] := ⟨_, rfl⟩
  have hpl : pm.length = 1 := by rw [hpm]; rfl
  have hpg : pagesFor pm.length = 2 := by rw [hpl]; rfl
  obtain ⟨w6, hw6⟩ : ∃ w6, w6 = w5.alloc (.cells #[.int .i64 3, .slice (some ⟨w3.heap.size + 1, 0, none⟩) 512 512] 76) := ⟨_, rfl⟩
  have hB56 : Below w5.heap.size w5 w6 := by rw [hw6]; exact (Below.refl _ w5).alloc (Nat.le_refl _) _
  have hx6 : w6.heap[w5.heap.size]? = some (.cells #[.int .i64 3, .slice (some ⟨w3.heap.size + 1, 0, none⟩) 512 512] 76 (0, 0)) := by rw [hw6]; exact heap_alloc_new w5 _
  have hy6 : w6.heap[w3.heap.size + 1]? = some (.cells ((List.replicate 512 (120 : BitVec 8)).map u8v).toArray 5 (0, 0)) := below_block hx5 hB56
  have hB36 : Below w3.heap.size w3 w6 := hB35.trans (hB56.mono hB35.size)
  have hM := HM.out
  have hv6 : IsVol w6 v (dp d2.a) 0 1 d2.n (some f) d2.count := hM.vol.below hB36
  have hd3 : Dev w3 d2 := H2.out.1.below hM.below
  have hd6 : Dev w6 d2 := hd3.below hB36
  have ht3 : Tab w3 := below_tab hM.below H2.out.2.lt H2.out.2
  have ht6 : Tab w6 := below_tab hB36 ht3.lt ht3
  have hown : w6.ownsMap Tryz.prog 3 slElem f 0 (.map []) := by
    obtain ⟨F, hF⟩ := hM.fr
    have hlt := hF.own.lt
    obtain ⟨es, clock, he, hk, hle, hF'⟩ := hF.own
    have hes : es = #[] := by apply Array.eq_empty_of_size_eq_zero; simpa using hle
    subst hes
    exact ⟨#[], clock, (hB36.block f hlt).trans he, hk, Nat.le_refl _, rfl⟩
  have hfm : f ≠ d2.m := by
    have h1 := hM.flt
    have h2 := H2.out.1.mlt
    omega
  have hps : PutsAt w6 (some ⟨w5.heap.size, 0, none⟩) pm := by
    refine ⟨fun _ => ⟨_, _, rfl, ⟨_, _, hx6⟩, fun j x hj => ?_⟩, fun j x hj => ?_⟩
    · have h0 : j = 0 := by have := (List.getElem?_eq_some_iff.1 hj).1; omega
      subst h0
      rw [hpm] at hj
      simp only [List.getElem?_cons_zero, Option.some.injEq] at hj
      subst hj
      refine ⟨by have := cellOf hx6 0; simpa using this, by have := cellOf hx6 1; simpa using this⟩
    · have h0 : j = 0 := by have := (List.getElem?_eq_some_iff.1 hj).1; omega
      subst h0
      rw [hpm] at hj
      simp only [List.getElem?_cons_zero, Option.some.injEq] at hj
      subst hj
      refine ⟨by simp, bytes_block hy6, fun b o e => ?_⟩
      simp only [Option.some.injEq, Addr.mk.injEq] at e
      rw [← e.1]
      exact ⟨_, _, hy6⟩
  have hrec : recOf pm = [(3, List.replicate 512 120)] := by rw [hpm]; rfl
  have hgood : pm.all (goodPut (nbOf d2.n)) = true := by rw [hpm, hnb]; simp [goodPut]
  have cC := vCommit_restart (some ⟨w5.heap.size, 0, none⟩) pm 1 v 0 1 d2.n f 0 d2 w6 hv6 hd6 ht6 (by omega) hps hgood (by omega) (by omega) (by rw [hpg]; omega) (Nat.le_refl _) (by rw [hpg]; omega) hown hfm (by omega) (by omega) hfu2' (by omega)
  rw [hpl] at cC
  have H6 : Hid (Tab w6 ∧ IsVol w6 v (dp d2.a) 0 1 d2.n (some f) d2.count ∧ Dev w6 d2) := ⟨ht6, hv6, hd6⟩
  have HL6 : Hid (Below w.heap.size w w6 ∧ w.heap.size ≤ v) := by
    have h1 := HL2.out.1
    have h3 := h1.trans (hM.below.mono h1.size)
    exact ⟨h3.trans (hB36.mono h3.size), Nat.le_trans h1.size hM.vlt⟩
  clear hB35 hB56 hx6 hy6 hB36 hM hv6 hd3 hd6 ht3 ht6 hown hps hgood hx5 hB5 hx4 hB4 hs4
  go_wp2_with (go_at_call 42; rw [← hw6]; refine cC.mono ?_; rintro e w7 ⟨rfl, d7, f7, hC⟩; clear cC; refine Stop.out ?_)
  refine Stop.mk ?_
  clear hw6
  have ea7 : d7.a = a := hC.near.a.trans ea2
  have hc7 : d7.count = 10 := by rw [hC.count, hcn2', hpg]; rfl
  have hf7 : d7.fused = false := hC.fused.trans hfu2'
  have hv7 := hC.vol
  rw [← hC.near.a] at hv7
  have ht7 : Tab w7 := hC.but.tab H6.out.1 (by rintro (e | e); exact H6.out.2.1.noTab H6.out.1 e; exact H6.out.2.2.noTab H6.out.1 e)
  have cS := vSync_ok v _ _ _ _ d7 w7 hv7 hC.dev (fun h => by rw [hf7] at h; cases h) (by omega)
  have H7 : Hid (Cmt w6 w7 v 0 1 pm d2 d7 f7 ∧ Tab w7) := ⟨hC, ht7⟩
  have HL7 : Hid (Below w.heap.size w w7 ∧ ∀ k, (k = v ∨ d7.mine k) → w.heap.size ≤ k) := by
    obtain ⟨h1, h2⟩ := HL6.out
    have h3 := HL2.out.2
    refine ⟨h1.trans (hC.but.below h1.size (by rintro k (e | e); exact e ▸ h2; exact h3 k e)), ?_⟩
    rintro k (e | e | e | e)
    · exact e ▸ h2
    · exact h3 k (.inl (e.trans hC.near.a))
    · exact h3 k (.inr (.inl (e.trans hC.near.s)))
    · rcases hC.near.m with e2 | e2
      · exact h3 k (.inr (.inr (e.trans e2)))
      · have := h1.size; omega
  clear hC hv7 ht7
  go_wp2_with (go_at_call 38; refine cS.mono ?_; rintro e w8 ⟨m8, rfl, hm8, hv8, hd8, hb8⟩; clear cS; refine Stop.out ?_)
  refine Stop.mk ?_
  have ht8 : Tab w8 := by
    have hv7 := H7.out.1.vol
    exact hb8.tab H7.out.2 (by rintro (e | e); exact hv7.noTab H7.out.2 e; exact H7.out.1.dev.noTab H7.out.2 e)
  have cX := dev_crash_flushed (d7.flushed m8) w8 hd8 rfl
  rw [show (d7.flushed m8).a = a from ea7] at cX
  have H8 : Hid (Tab w8) := ht8
  have HL8 : Hid (Below w.heap.size w w8) := HL7.out.1.trans (hb8.below HL7.out.1.size HL7.out.2)
  clear hv8 hd8 hb8 ht8 hm8
  go_wp2_with (go_at_call 40; refine cX.mono ?_; rintro e w9 ⟨a9, s9, c9, m9, rfl, hd9, hB9, _, _, _⟩; clear cX; refine Stop.out ?_)
  refine Stop.mk ?_
  have ht9 : Tab w9 := below_tab hB9 H8.out.lt H8.out
  obtain ⟨d9, hd9e⟩ : ∃ d9, d9 = { newDS a9 s9 c9 m9 (d7.flushed m8).n with B := (d7.flushed m8).B } := ⟨_, rfl⟩
  rw [← hd9e] at hd9
  have hn9 : d9.n = 40 := by rw [hd9e]; exact H7.out.1.n.trans hn40
  have hnb9 : nbOf d9.n = 8 := by rw [hn9]; rfl
  have ea9 : d9.a = a9 := by rw [hd9e]; rfl
  have hB9' : d9.B = laidP (upd d2.B 0 (headB 2 0 d2.n)) 9 ((List.range 2).map fun k => pageB 2 (recOf pm) k) := by
    rw [hd9e]
    show d7.B = _
    rw [H7.out.1.B, hpg, hnb]
  have hD9 : d9.D = .map [] := by rw [hd9e]; rfl
  have hdd9 : d9.dead = false := by rw [hd9e]; rfl
  have cM2 := mount_ok [recOf pm] 2 0 d9 w9 hd9 ht9 (by omega) hdd9 hD9 (by rw [hB9', hn9, ← hn40]; simp [laidP, upd]) (by omega) (by omega) (by
    rw [hnb9]
    refine ⟨⟨by rw [hrec]; simp, by rw [hrec]; simp, fun p hp => ?_⟩, ?_, fun i hi => ?_, ?_, fun _ => ?_⟩
    · rw [hrec] at hp
      simp only [List.mem_singleton] at hp
      subst hp
      simp
    · rw [hrec, hn9]; decide
    · have hi2 : i < 2 := by rw [hrec] at hi; exact hi
      rw [hB9']
      unfold laidP
      rw [if_pos (by omega), show 1 + 8 + i - 9 = i by omega, List.getElem?_map, List.getElem?_range hi2]
      rfl
    · rw [hrec, hn9]; decide
    · rw [hrec, hB9', hB2]
      show OldB 2 (laidP _ 9 _ 11)
      simp only [laidP, upd]
      exact oldB_zero _)
  rw [ea9] at cM2
  have H9 : Hid (Dev w9 d9) := hd9
  have HL9 : Hid (Below w.heap.size w w9) := HL8.out.trans (hB9.mono HL8.out.size)
  clear hd9 hB9 ht9 hB9' hD9
  go_wp2_with (go_at_call 39; refine cM2.mono ?_; rintro e wa ⟨va, fa, rfl, hMa⟩; clear cM2; refine Stop.out ?_)
  refine Stop.mk ?_
  obtain ⟨F, hF⟩ := hMa.fr
  have hda : Dev wa d9 := H9.out.below hMa.below
  have hva := hMa.vol
  have cR := vRead_fresh 3 (List.replicate 512 120) va _ _ _ fa _ F _ d9 wa hva hda (by omega) hF (by omega) (by rw [hrec]; rfl)
  have HA : Hid (IsVol wa va (dp d9.a) 1 2 d9.n (some fa) d9.count ∧ Dev wa d9) := ⟨hva, hda⟩
  have HLa : Hid (Below w.heap.size w wa) := HL9.out.trans (hMa.below.mono HL9.out.size)
  clear hF hda hva hMa
  go_wp2_with (go_at_call 26; refine cR.mono ?_; rintro e wb ⟨gb, cpb, rfl, hcpb, _, hbb, hBb, hgb⟩; clear cR; refine Stop.out ?_)
  refine Stop.mk ?_
  obtain ⟨g', o', e', hxb⟩ := hbb (by simp)
  cases e'
  have xb : ∀ W : World, Below wb.heap.size wb W → W.cell? ⟨gb, 9, none⟩ = some (.int .u8 120) := by
    intro W hW
    have hc := hxb 9 120 (by simp)
    have hc' : wb.cell? ⟨gb, 9, none⟩ = some (.int .u8 120) := by simpa [u8v] using hc
    exact (hW.cell (p := ⟨gb, 9, none⟩) (cell_lt hc')).trans hc'
  have hvb := HA.out.1.below hBb
  have hdb := HA.out.2.below hBb
  have cCm := fun k => vCommits va 1 2 d9.n (some fa) d9 (wb.drewN k) hvb (hdb.drewN k)
  have cBl := fun k => vBlocks va 1 2 d9.n (some fa) d9.count d9 (wb.drewN k) hvb (hdb.drewN k) (by omega)
  rw [hnb9] at cBl
  have HLb : Hid (Below w.heap.size w wb) := HLa.out.trans (hBb.mono HLa.out.size)
  have xb0 := xb wb (Below.refl _ _)
  clear hxb hvb hdb xb
  have cC0 : Calls Tryz.prog 37 #[dp va] wb fun e w' => e = .returned (.int .i64 1) ∧ ∃ k, w' = wb.drewN k := cCm 0
  clear cCm
  go_wp2_with (first
    | (go_at_call 37; refine cC0.mono ?_; rintro e wc ⟨rfl, kc, rfl⟩; clear cC0; have cB0 := cBl kc; clear cBl)
    | (go_at_call 41; refine Calls_on cB0 ?_))
  go_ret
  exact ⟨rfl, below_drewN HLb.out _⟩

end Go.Proofs.YtdepdcndfofknaaGreatDoor
