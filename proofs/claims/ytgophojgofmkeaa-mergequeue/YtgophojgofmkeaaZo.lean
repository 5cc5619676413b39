/-
  The law MergeSorted.
-/
import Derived.Test.YtgophojgofmkeaaZn
namespace Go.Proofs.Ytgophojgofmkeaa.Ck
open Go.RowKit Go.Maps

/-- Stamps that a slice that came in shows. -/
def IDRow (w : World) (p : Option Addr) (ids : List (Int × Int)) : Prop :=
  0 < ids.length → ∃ g o, p = some ⟨g, o, none⟩ ∧ ∀ (j : Nat) (t n : Int), ids[j]? = some (t, n) → w.cell? ⟨g, o + j * 2, none⟩ = some (.int .i64 t) ∧ w.cell? ⟨g, o + j * 2 + 1, none⟩ = some (.int .i64 n) ∧ Rng t n
theorem cell_below {w w' : World} {a : Addr} {v : Value} (h : w.cell? a = some v) (hb : Below w.heap.size w w') : w'.cell? a = some v := by
  obtain ⟨b, o, s⟩ := a
  have hs : b < w.heap.size := by
    by_cases hb : b < w.heap.size
    · exact hb
    · simp [World.cell?, Array.getElem?_eq_none (Nat.not_lt.1 hb)] at h
  exact (World.cell?_of_block (w := w) (a := ⟨b, o, s⟩) (hb.block b hs)).trans h
theorem IDRow.below {w w' : World} {p : Option Addr} {ids : List (Int × Int)} (h : IDRow w p ids) (hb : Below w.heap.size w w') : IDRow w' p ids := fun h0 => by
  obtain ⟨g, o, e, hc⟩ := h h0
  exact ⟨g, o, e, fun j t n hj => ⟨cell_below (hc j t n hj).1 hb, cell_below (hc j t n hj).2.1 hb, (hc j t n hj).2.2⟩⟩
structure IDS where
  p : Option Addr
  ids : List (Int × Int)
  c : Nat
def IDRows (w : World) (p : Option Addr) (xs : List IDS) : Prop :=
  0 < xs.length → ∃ g o, p = some ⟨g, o, none⟩ ∧ ∀ (j : Nat) (x : IDS), xs[j]? = some x → w.cell? ⟨g, o + j, none⟩ = some (.slice x.p x.ids.length x.c) ∧ IDRow w x.p x.ids
theorem IDRows.below {w w' : World} {p : Option Addr} {xs : List IDS} (h : IDRows w p xs) (hb : Below w.heap.size w w') : IDRows w' p xs := fun h0 => by
  obtain ⟨g, o, e, hc⟩ := h h0
  exact ⟨g, o, e, fun j x hj => ⟨cell_below (hc j x hj).1 hb, (hc j x hj).2.below hb⟩⟩

/-- What the law's loop keeps. -/
structure LawI (w wr : World) (i : Nat) (vL vA : Value) (vs : List Value) (Ls : List (List OT)) : Prop where
  row : wr.ownsRow w.heap.size 25 1 vL i vs
  all : RowO wr w.heap.size vA Ls.flatten
  each : ∀ (j : Nat) (v : Value) (l : List OT), vs[j]? = some v → Ls[j]? = some l → RowO wr w.heap.size v l
  apart : ∀ (j : Nat) (v : Value) (g : Nat), vs[j]? = some v → v.ownBlock = some g → vA.ownBlock ≠ some g
  len : vs.length = i ∧ Ls.length = i
  rng : RngL Ls.flatten
  size : Ls.flatten.length ≤ 20 * i
  bel : Below w.heap.size w wr
theorem LawI.start (w wr : World) (h : Below w.heap.size w wr) : LawI w wr 0 (.slice none 0 0) (.slice none 0 0) [] [] :=
  ⟨⟨rfl, .inl ⟨rfl, rfl⟩⟩, RowO.nil _ _, fun j v l hv => by simp at hv, fun j v g hv => by simp at hv, ⟨rfl, rfl⟩, fun x hx => by simp at hx, by simp, h⟩
theorem LawI.below {w wr W : World} {i : Nat} {vL vA : Value} {vs : List Value} {Ls : List (List OT)} (h : LawI w wr i vL vA vs Ls) (hb : Below wr.heap.size wr W) : LawI w W i vL vA vs Ls :=
  ⟨own_below h.row hb, h.all.below hb, fun j v l hv hl => (h.each j v l hv hl).below hb, h.apart, h.len, h.rng, h.size, h.bel.trans (hb.mono h.bel.size)⟩
/-- All that was there is kept where only a block behind them turns. -/
theorem grown_low {wr W W' : World} {B : Nat} {v : Value} {l : List OT} (hb : Below B wr W) (hs : B ≤ W.heap.size) (hr : RowO W B v l) (hg : W.grownBy W' v.ownBlock) : Below B wr W' :=
  ⟨hg.os.trans hb.os, hg.tape.trans hb.tape, hg.output.trans hb.output, Nat.le_trans hb.size hg.size, fun k hk => (hg.block k (by omega) (fun e => by
    obtain ⟨_, _, h⟩ := hr.tag e.symm
    omega)).trans (hb.block k hk)⟩
theorem RowO.tagged {W W' : World} {b base n : Nat} {v vL : Value} {l : List OT} {vs : List Value} (h : RowO W b v l) (hL : W.ownsRow base 25 1 vL n vs) (hg : W.grownBy W' vL.ownBlock) : RowO W' b v l := by
  refine ⟨h.1, ?_⟩
  rcases h.2 with e | ⟨g, cp, cur, hv, hbs, hblk, r⟩
  · exact .inl e
  · refine .inr ⟨g, cp, cur, hv, hbs, (hg.block g (block_lt hblk) (fun e => ?_)).trans hblk, r⟩
    exact absurd (own_tagT hL e.symm hblk).1 (by decide)
theorem RowO.grownO {W W' : World} {b : Nat} {v : Value} {l : List OT} {r : Option Nat} (h : RowO W b v l) (hg : W.grownBy W' r) (hn : ∀ g, v.ownBlock = some g → r ≠ some g) : RowO W' b v l := by
  refine ⟨h.1, ?_⟩
  rcases h.2 with e | ⟨g, cp, cur, hv, hbs, hblk, r'⟩
  · exact .inl e
  · exact .inr ⟨g, cp, cur, hv, hbs, (hg.block g (block_lt hblk) (fun e => hn g (by rw [hv]; rfl) e.symm)).trans hblk, r'⟩
theorem own_lt {W : World} {b : Nat} {v : Value} {l : List OT} (h : RowO W b v l) {g : Nat} (hg : v.ownBlock = some g) : g < W.heap.size := by
  obtain ⟨cs, hc, _⟩ := h.tag hg
  exact block_lt hc
/-- One list more. -/
theorem LawI.more {w wo wr W4 W5 W6 : World} {i nA : Nat} {vL vL' vM : Value} {vs : List Value} {Ls : List (List OT)} {lm : List OT} {pA : Option Addr} {cA : Nat} {vA' : Value} (h : LawI w wo i vL (.slice pA nA cA) vs Ls)
    (hb : Below wo.heap.size wo wr) (hm : RowO wr wo.heap.size vM lm) (hml : lm.length ≤ 20) (hmr : RngL lm) (h4 : Below wr.heap.size wr W4) (h5 : W5.ownsRow w.heap.size 25 1 vL' (i + 1) (vs ++ [vM])) (g5 : W4.grownBy W5 vL.ownBlock)
    (h6 : RowO W6 w.heap.size vA' (Ls.flatten ++ lm)) (g6 : W5.grownBy W6 (Value.slice pA nA cA).ownBlock) (e6 : vA'.ownBlock = (Value.slice pA nA cA).ownBlock ∨ vA'.ownBlock = some W5.heap.size) : LawI w W6 (i + 1) vL' vA' (vs ++ [vM]) (Ls ++ [lm]) := by
  have b4 : Below wo.heap.size wo W4 := hb.trans (h4.mono hb.size)
  have r4 := own_below h.row b4
  have hs := b4.size
  have hs5 := g5.size
  have b5 : Below w.heap.size w W5 := by
    have b := h.bel.trans (b4.mono h.bel.size)
    refine ⟨g5.os.trans b.os, g5.tape.trans b.tape, g5.output.trans b.output, Nat.le_trans b.size g5.size, fun k hk => (g5.block k (by have := b.size; omega) (fun e => ?_)).trans (b.block k hk)⟩
    obtain ⟨_, _, _, hlo⟩ := own_at r4 e.symm
    omega
  have m5 : RowO W5 wo.heap.size vM lm := (hm.below h4).tagged r4 g5
  have a5 : RowO W5 w.heap.size (.slice pA nA cA) Ls.flatten := (h.all.below b4).tagged r4 g5
  have l5 : ∀ (j : Nat) (v : Value) (l : List OT), vs[j]? = some v → Ls[j]? = some l → RowO W5 w.heap.size v l := fun j v l hv hl => ((h.each j v l hv hl).below b4).tagged r4 g5
  have lo : w.heap.size ≤ wo.heap.size := h.bel.size
  have alt : ∀ g, (Value.slice pA nA cA).ownBlock = some g → g < wo.heap.size := fun g hg => own_lt h.all hg
  refine ⟨?_, ?_, fun j v l hv hl => ?_, fun j v g hv hg => ?_, ⟨by rw [List.length_append, h.len.1]; rfl, by rw [List.length_append, h.len.2]; rfl⟩, ?_, ?_, ?_⟩
  · refine ⟨h5.1, ?_⟩
    rcases h5.2 with e | ⟨g, cp, cur, hv, hbs, hblk, r⟩
    · exact .inl e
    · refine .inr ⟨g, cp, cur, hv, hbs, (g6.block g (block_lt hblk) (fun e => ?_)).trans hblk, r⟩
      obtain ⟨cs, hc, _⟩ := a5.tag e.symm
      rw [hblk] at hc
      injection hc with hc
      injection hc with _ hc
      exact absurd hc (by decide)
  · rw [List.flatten_append]
    simpa using h6
  · by_cases hj : j < i
    · rw [List.getElem?_append_left (by rw [h.len.1]; exact hj)] at hv
      rw [List.getElem?_append_left (by rw [h.len.2]; exact hj)] at hl
      exact (l5 j v l hv hl).grownO g6 (fun g hg => h.apart j v g hv hg)
    · rw [List.getElem?_append_right (by rw [h.len.1]; omega)] at hv
      rw [List.getElem?_append_right (by rw [h.len.2]; omega)] at hl
      have hj0 : j - vs.length = 0 := by
        have := (List.getElem?_eq_some_iff.1 hv).1
        simp at this
        omega
      rw [hj0] at hv
      rw [h.len.2, ← h.len.1, hj0] at hl
      cases hv
      cases hl
      refine (m5.low lo).grownO g6 (fun g hg e => ?_)
      have a := alt g e
      obtain ⟨_, _, hlo⟩ := m5.tag hg
      omega
  · by_cases hj : j < i
    · rw [List.getElem?_append_left (by rw [h.len.1]; exact hj)] at hv
      have hgl : g < wo.heap.size := by
        obtain ⟨l, hl⟩ : ∃ l, Ls[j]? = some l := ⟨_, List.getElem?_eq_getElem (by rw [h.len.2]; exact hj)⟩
        exact own_lt (h.each j v l hv hl) hg
      rcases e6 with e | e
      · rw [e]; exact h.apart j v g hv hg
      · rw [e]
        intro e'
        injection e' with e'
        omega
    · rw [List.getElem?_append_right (by rw [h.len.1]; omega)] at hv
      have hj0 : j - vs.length = 0 := by
        have := (List.getElem?_eq_some_iff.1 hv).1
        simp at this
        omega
      rw [hj0] at hv
      cases hv
      obtain ⟨cs, hc, hlo⟩ := m5.tag hg
      have hgl := block_lt hc
      rcases e6 with e | e
      · rw [e]
        intro e'
        have := alt g e'
        omega
      · rw [e]
        intro e'
        injection e' with e'
        omega
  · rw [List.flatten_append]
    intro x hx
    simp at hx
    rcases hx with hx | hx
    · exact h.rng x (List.mem_flatten.2 hx)
    · exact hmr x hx
  · have := h.size
    rw [List.flatten_append]
    simp at this ⊢
    omega
  · refine ⟨g6.os.trans b5.os, g6.tape.trans b5.tape, g6.output.trans b5.output, Nat.le_trans b5.size g6.size, fun k hk => (g6.block k (by have := b5.size; omega) (fun e => ?_)).trans (b5.block k hk)⟩
    obtain ⟨_, _, hlo⟩ := a5.tag e.symm
    omega

theorem infoOps : ∃ i, Try.prog.info? 25 = some i ∧ i.zero = some (.slice none 0 0) ∧ i.size = 1 ∧ i.bytes = 24 := by
  have e : (Try.prog.info? 25).map (fun i => (i.zero, i.size, i.bytes)) = some (some (.slice none 0 0), 1, 24) := by kernel_rfl
  obtain ⟨i, hi, he⟩ := Option.map_eq_some_iff.1 e
  injection he with h1 h2
  injection h2 with h2 h3
  exact ⟨i, hi, h1, h2, h3⟩
/-- One list more. -/
theorem wpList_appList {w : World} {ops : Array Oper} {rest : List Oper} {o : Oper} {a : Act} {Q : Exit → Act → World → Prop} (hgd : o.guard = none) (s x : Operand) (ho : o.op = .call { callee := .builtin .append, args := #[s, x], argTypes := #[24, 24] })
    (base : Nat) (v : Value) (n : Nat) (vs : List Value) (u : Value) (hs : a.eval s = v) (g : Nat) (hx : a.eval x = .slice (some ⟨g, 0, none⟩) 1 1) (h : Hid (w.ownsRow base 25 1 v n vs ∧ w.heap[g]? = some (.cells #[u] 25 (0, 0)) ∧ u.oneCell' = true ∧ n < 1000000 ∧ base ≤ w.heap.size))
    (hK : ∀ p c w', Hid (w'.ownsRow base 25 1 (.slice p (n + 1) c) (n + 1) (vs ++ [u]) ∧ w.grownBy w' v.ownBlock) → wpList Try.prog ops Q rest (a.put o.dst (.slice p (n + 1) c)) w') : wpList Try.prog ops Q (o :: rest) a w := by
  obtain ⟨h1, hg, h1c, hl, hb⟩ := h.out
  obtain ⟨i0, hi0, hz0, hz1, hz2⟩ := infoOps
  refine wpList_append_own_at _ hgd s x 24 ho base 25 i0 _ 1 24 Try.underlying24 hi0 hz0 hz1 hz2 rfl (by decide) v n vs hs h1 ⟨g, 0, none⟩ 1 1 [u] hx rfl (fun j u' hj => by
    rw [Addr.add_lit, Nat.zero_add, cellOf hg j]
    simpa using hj) (fun u' hu => by rw [List.mem_singleton.1 hu]; exact h1c) (by unfold maxLen; omega) (by omega) hb ?_
  intro v' w' g1 g2 _ _
  obtain ⟨p, c, rfl⟩ := own_slice g1
  exact hK p c w' ⟨g1, g2⟩
/-- A list of operations is appended. -/
theorem wpList_appOps {w : World} {ops : Array Oper} {rest : List Oper} {o : Oper} {a : Act} {Q : Exit → Act → World → Prop} (hgd : o.guard = none) (s x : Operand) (ho : o.op = .call { callee := .builtin .append, args := #[s, x], argTypes := #[25, 25] })
    (base b2 : Nat) (v u : Value) (l k : List OT) (hs : a.eval s = v) (hx : a.eval x = u) (h : Hid (RowO w base v l ∧ RowO w b2 u k ∧ l.length + k.length < 1000000 ∧ base ≤ w.heap.size))
    (hK : ∀ p c w', Hid (RowO w' base (.slice p (l.length + k.length) c) (l ++ k) ∧ w.grownBy w' v.ownBlock ∧ ((Value.slice p (l.length + k.length) c).ownBlock = v.ownBlock ∨ (Value.slice p (l.length + k.length) c).ownBlock = some w.heap.size)) → wpList Try.prog ops Q rest (a.put o.dst (.slice p (l.length + k.length) c)) w') : wpList Try.prog ops Q (o :: rest) a w := by
  obtain ⟨h1, h2, hl, hb⟩ := h.out
  obtain ⟨i0, hi0, hz0, hz1, hz2⟩ := infoOpA
  by_cases hk : k = []
  · subst hk
    obtain ⟨p1, c1, rfl⟩ := h1.slice
    obtain ⟨p2, c2, rfl⟩ := h2.slice
    have hc : l.length ≤ c1 := by
      rcases h1.2 with ⟨e, e2⟩ | ⟨g, cap, cur, e, _, _, e3, _⟩
      · omega
      · injection e with _ _ e4; omega
    have hr : ∀ W ty, (Builtin.append_ #[25, 25] ty #[.slice p1 l.length c1, .slice p2 0 c2]).run Try.prog W = .ok (.slice p1 l.length c1) W := fun W ty => by
      cases p1 <;> cases p2 <;> simp [Builtin.append_, run_underlying Try.underlying25, sizeOf, typeInfo, hi0, Builtin.lenOf, Builtin.firstCells, hc, storeCells, loadCells, loadCellsFrom]
    refine wpList_plain hgd fun K hK' => ?_
    unfold Oper.wp execOp
    simp only [ho, resolve, invoke, builtin, Sem.run_bind, Sem.run_pure, Result.andThen_ok, List.map_toArray, List.map_cons, List.map_nil, hs, hx]
    have hr' := hr w o.type
    simp only [List.length_nil] at hr' ⊢
    simp only [hr', Result.andThen_ok]
    have := hK p1 c1 w ⟨by rw [List.append_nil]; exact h1, ⟨rfl, rfl, rfl, Nat.le_refl _, fun _ _ _ => rfl⟩, .inl rfl⟩
    exact hK' _ _ this
  · have hkp : 0 < k.length := List.length_pos_iff.2 hk
    obtain ⟨g, cap, cur, rfl, hblk, _, _, _, _, htk⟩ := h2.form hkp
    refine wpList_append_own_at _ hgd s x 25 ho base 33 i0 _ 11 128 Try.underlying25 hi0 hz0 hz1 hz2 rfl (by decide) v l.length (flatO l) hs h1 ⟨g, 0, none⟩ k.length cap (flatO k) hx (flatO_length k) (fun j u' hj => by
      have hjl := (List.getElem?_eq_some_iff.1 hj).1
      rw [flatO_length] at hjl
      rw [Addr.add_lit, Nat.zero_add, cellOf hblk j, ← Array.getElem?_toList]
      rw [← htk, List.getElem?_take, if_pos hjl] at hj
      exact hj) (flatO_one k) (by unfold maxLen; omega) (by omega) hb ?_
    intro v' w' g1 g2 _ g4
    obtain ⟨p, c, rfl⟩ := own_slice g1
    refine hK p c w' ⟨?_, g2, g4⟩
    unfold RowO
    rw [flatO_append, List.length_append]
    exact g1

set_option maxRecDepth 8000 in
set_option maxHeartbeats 4000000 in
theorem sl_reg21 {Q : Exit → Act → World → Prop} {base : Array Value} {dd : List Deferred} {ops : Array Oper} (hops : Try.f3.body.bind (regs 21) = some ops) (gG gW m cG cW K : Nat) (xt xn xk : Int) (w9 : World) (hsz : base.size = 99)
    (b9 : base.getD 9 undef = .slice (some ⟨gG, 0, none⟩) m cG)
    (b10 : base.getD 10 undef = .slice (some ⟨gW, 0, none⟩) m cW)
    (b11 : base.getD 11 undef = .int .i64 (K : Nat))
    (hKm : K < m)
    (hg0 : w9.cell? ⟨gG, K * 11, none⟩ = some (.int .i64 xt)) (hg1 : w9.cell? ⟨gG, K * 11 + 1, none⟩ = some (.int .i64 xn)) (hg3 : w9.cell? ⟨gG, K * 11 + 3, none⟩ = some (.int .i64 xk))
    (hw0 : w9.cell? ⟨gW, K * 11, none⟩ = some (.int .i64 xt)) (hw1 : w9.cell? ⟨gW, K * 11 + 1, none⟩ = some (.int .i64 xn)) (hw3 : w9.cell? ⟨gW, K * 11 + 3, none⟩ = some (.int .i64 xk))
    (cS : ∀ W, Below w9.heap.size w9 W → Calls Try.prog 9 #[idv xt xn, idv xt xn] W fun e w' => e = .returned (.bool true) ∧ Below W.heap.size W w')
    (hQ : ∀ W, Below w9.heap.size w9 W → Q .normal ⟨putAll base [(some 73, .slice (some ⟨gG, 0, none⟩) m cG), (some 74, .int .i64 (K : Nat)), (some 75, .pointer (some ⟨gG, K * 11, none⟩)), (some 76, .pointer (some ⟨gG, K * 11 + 3, none⟩)), (some 77, .int .i64 xk), (some 78, .slice (some ⟨gW, 0, none⟩) m cW), (some 79, .int .i64 (K : Nat)), (some 80, .pointer (some ⟨gW, K * 11, none⟩)), (some 81, .pointer (some ⟨gW, K * 11 + 3, none⟩)), (some 82, .int .i64 xk), (some 83, .bool false), (some 84, .bool false), (some 85, .slice (some ⟨gG, 0, none⟩) m cG), (some 86, .int .i64 (K : Nat)), (some 87, .pointer (some ⟨gG, K * 11, none⟩)), (some 88, .pointer (some ⟨gG, K * 11, none⟩)), (some 89, .agg #[.int .i64 xt, .int .i64 xn]), (some 90, .slice (some ⟨gW, 0, none⟩) m cW), (some 91, .int .i64 (K : Nat)), (some 92, .pointer (some ⟨gW, K * 11, none⟩)), (some 93, .pointer (some ⟨gW, K * 11, none⟩)), (some 94, .agg #[.int .i64 xt, .int .i64 xn]), (some 95, .bool true), (some 96, .bool false), (some 97, .bool false)], dd⟩ W) :
    (Code.region 21 ops true).wp Try.prog Q ⟨base, dd⟩ w9 := by
  have hmix : Try.prog.follows .mixedOrders = true := by kernel_rfl
  have h2 := (show Try.f3.body.bind (regs 21) = some _ from rfl).symm.trans hops
  obtain rfl := Option.some.inj h2
  clear h2 hops
  have below9 : Below w9.heap.size w9 w9.drew := (Below.refl _ _).drew
  obtain ⟨LL, hLe⟩ : ∃ LL : List (Option Tmp × Value), LL = [(some 73, .slice (some ⟨gG, 0, none⟩) m cG), (some 74, .int .i64 (K : Nat)), (some 75, .pointer (some ⟨gG, K * 11, none⟩)), (some 76, .pointer (some ⟨gG, K * 11 + 3, none⟩)), (some 77, .int .i64 xk), (some 78, .slice (some ⟨gW, 0, none⟩) m cW), (some 79, .int .i64 (K : Nat)), (some 80, .pointer (some ⟨gW, K * 11, none⟩)), (some 81, .pointer (some ⟨gW, K * 11 + 3, none⟩)), (some 82, .int .i64 xk), (some 83, .bool false), (some 84, .bool false), (some 85, .slice (some ⟨gG, 0, none⟩) m cG), (some 86, .int .i64 (K : Nat)), (some 87, .pointer (some ⟨gG, K * 11, none⟩)), (some 88, .pointer (some ⟨gG, K * 11, none⟩)), (some 89, .agg #[.int .i64 xt, .int .i64 xn]), (some 90, .slice (some ⟨gW, 0, none⟩) m cW), (some 91, .int .i64 (K : Nat)), (some 92, .pointer (some ⟨gW, K * 11, none⟩)), (some 93, .pointer (some ⟨gW, K * 11, none⟩)), (some 94, .agg #[.int .i64 xt, .int .i64 xn]), (some 95, .bool true), (some 96, .bool false), (some 97, .bool false)] := ⟨_, rfl⟩
  have vv0 : vals LL 0 = .slice (some ⟨gG, 0, none⟩) m cG := by rw [hLe]; rfl
  have vv1 : vals LL 1 = .int .i64 (K : Nat) := by rw [hLe]; rfl
  have vv2 : vals LL 2 = .pointer (some ⟨gG, K * 11, none⟩) := by rw [hLe]; rfl
  have vv3 : vals LL 3 = .pointer (some ⟨gG, K * 11 + 3, none⟩) := by rw [hLe]; rfl
  have vv4 : vals LL 4 = .int .i64 xk := by rw [hLe]; rfl
  have vv5 : vals LL 5 = .slice (some ⟨gW, 0, none⟩) m cW := by rw [hLe]; rfl
  have vv6 : vals LL 6 = .int .i64 (K : Nat) := by rw [hLe]; rfl
  have vv7 : vals LL 7 = .pointer (some ⟨gW, K * 11, none⟩) := by rw [hLe]; rfl
  have vv8 : vals LL 8 = .pointer (some ⟨gW, K * 11 + 3, none⟩) := by rw [hLe]; rfl
  have vv9 : vals LL 9 = .int .i64 xk := by rw [hLe]; rfl
  have vv10 : vals LL 10 = .bool false := by rw [hLe]; rfl
  have vv11 : vals LL 11 = .bool false := by rw [hLe]; rfl
  have vv12 : vals LL 12 = .slice (some ⟨gG, 0, none⟩) m cG := by rw [hLe]; rfl
  have vv13 : vals LL 13 = .int .i64 (K : Nat) := by rw [hLe]; rfl
  have vv14 : vals LL 14 = .pointer (some ⟨gG, K * 11, none⟩) := by rw [hLe]; rfl
  have vv15 : vals LL 15 = .pointer (some ⟨gG, K * 11, none⟩) := by rw [hLe]; rfl
  have vv16 : vals LL 16 = .agg #[.int .i64 xt, .int .i64 xn] := by rw [hLe]; rfl
  have vv17 : vals LL 17 = .slice (some ⟨gW, 0, none⟩) m cW := by rw [hLe]; rfl
  have vv18 : vals LL 18 = .int .i64 (K : Nat) := by rw [hLe]; rfl
  have vv19 : vals LL 19 = .pointer (some ⟨gW, K * 11, none⟩) := by rw [hLe]; rfl
  have vv20 : vals LL 20 = .pointer (some ⟨gW, K * 11, none⟩) := by rw [hLe]; rfl
  have vv21 : vals LL 21 = .agg #[.int .i64 xt, .int .i64 xn] := by rw [hLe]; rfl
  have vv22 : vals LL 22 = .bool true := by rw [hLe]; rfl
  have vv23 : vals LL 23 = .bool false := by rw [hLe]; rfl
  have vv24 : vals LL 24 = .bool false := by rw [hLe]; rfl
  refine region_laid hmix (by kernel_rfl) 99 hsz (by kernel_rfl) LL (by rw [hLe]; rfl) (fun _ W => Below w9.heap.size w9 W) below9 ?_ ?_
  · intro b W i o a hS hcl ho hb hd ev kp yl
    match i with
    | 0 =>
      simp only [List.getElem?_toArray, List.getElem?_cons_zero, Option.some.injEq] at ho
      subst ho
      have e9 : a.tmps[9]?.getD undef = .slice (some ⟨gG, 0, none⟩) m cG := (kp 9 (by kernel_rfl)).trans b9
      rw [vv0]
      refine does_value rfl (by intro c h; cases h) (w' := W) ?_ (hS)
      · simp [execOp, go_sem, e9]
    | 1 =>
      simp only [List.getElem?_toArray, List.getElem?_cons_zero, List.getElem?_cons_succ, Option.some.injEq] at ho
      subst ho
      have e11 : a.tmps[11]?.getD undef = .int .i64 (K : Nat) := (kp 11 (by kernel_rfl)).trans b11
      rw [vv1]
      refine does_value rfl (by intro c h; cases h) (w' := W) ?_ (hS)
      · simp [execOp, go_sem, e11]
    | 2 =>
      simp only [List.getElem?_toArray, List.getElem?_cons_zero, List.getElem?_cons_succ, Option.some.injEq] at ho
      subst ho
      have p0 : b 0 = true := hd ⟨0, .data⟩ (by simp) rfl
      have p1 : b 1 = true := hd ⟨1, .data⟩ (by simp) rfl
      have e73 := (ev 0 73 rfl p0).trans vv0
      have e74 := (ev 1 74 rfl p1).trans vv1
      rw [vv2]
      refine does_value rfl (by intro c h; cases h) (w' := W) ?_ (hS)
      · simp [execOp, go_sem, e73, e74, hKm]
    | 3 =>
      simp only [List.getElem?_toArray, List.getElem?_cons_zero, List.getElem?_cons_succ, Option.some.injEq] at ho
      subst ho
      have p2 : b 2 = true := hd ⟨2, .data⟩ (by simp) rfl
      have e75 := (ev 2 75 rfl p2).trans vv2
      rw [vv3]
      refine does_value rfl (by intro c h; cases h) (w' := W) ?_ (hS)
      · simp [execOp, go_sem, e75]
    | 4 =>
      simp only [List.getElem?_toArray, List.getElem?_cons_zero, List.getElem?_cons_succ, Option.some.injEq] at ho
      subst ho
      have p3 : b 3 = true := hd ⟨3, .data⟩ (by simp) rfl
      have e76 := (ev 3 76 rfl p3).trans vv3
      have d9_0 := (hS.cell (p := ⟨gG, K * 11 + 3, none⟩) (cell_lt hg3)).trans hg3
      rw [vv4]
      refine does_value rfl (by intro c h; cases h) (w' := W) ?_ (hS)
      · simp [execOp, go_sem, e76, d9_0]
    | 5 =>
      simp only [List.getElem?_toArray, List.getElem?_cons_zero, List.getElem?_cons_succ, Option.some.injEq] at ho
      subst ho
      have e10 : a.tmps[10]?.getD undef = .slice (some ⟨gW, 0, none⟩) m cW := (kp 10 (by kernel_rfl)).trans b10
      rw [vv5]
      refine does_value rfl (by intro c h; cases h) (w' := W) ?_ (hS)
      · simp [execOp, go_sem, e10]
    | 6 =>
      simp only [List.getElem?_toArray, List.getElem?_cons_zero, List.getElem?_cons_succ, Option.some.injEq] at ho
      subst ho
      have e11 : a.tmps[11]?.getD undef = .int .i64 (K : Nat) := (kp 11 (by kernel_rfl)).trans b11
      rw [vv6]
      refine does_value rfl (by intro c h; cases h) (w' := W) ?_ (hS)
      · simp [execOp, go_sem, e11]
    | 7 =>
      simp only [List.getElem?_toArray, List.getElem?_cons_zero, List.getElem?_cons_succ, Option.some.injEq] at ho
      subst ho
      have p5 : b 5 = true := hd ⟨5, .data⟩ (by simp) rfl
      have p6 : b 6 = true := hd ⟨6, .data⟩ (by simp) rfl
      have e78 := (ev 5 78 rfl p5).trans vv5
      have e79 := (ev 6 79 rfl p6).trans vv6
      rw [vv7]
      refine does_value rfl (by intro c h; cases h) (w' := W) ?_ (hS)
      · simp [execOp, go_sem, e78, e79, hKm]
    | 8 =>
      simp only [List.getElem?_toArray, List.getElem?_cons_zero, List.getElem?_cons_succ, Option.some.injEq] at ho
      subst ho
      have p7 : b 7 = true := hd ⟨7, .data⟩ (by simp) rfl
      have e80 := (ev 7 80 rfl p7).trans vv7
      rw [vv8]
      refine does_value rfl (by intro c h; cases h) (w' := W) ?_ (hS)
      · simp [execOp, go_sem, e80]
    | 9 =>
      simp only [List.getElem?_toArray, List.getElem?_cons_zero, List.getElem?_cons_succ, Option.some.injEq] at ho
      subst ho
      have p8 : b 8 = true := hd ⟨8, .data⟩ (by simp) rfl
      have e81 := (ev 8 81 rfl p8).trans vv8
      have d9_0 := (hS.cell (p := ⟨gW, K * 11 + 3, none⟩) (cell_lt hw3)).trans hw3
      rw [vv9]
      refine does_value rfl (by intro c h; cases h) (w' := W) ?_ (hS)
      · simp [execOp, go_sem, e81, d9_0]
    | 10 =>
      simp only [List.getElem?_toArray, List.getElem?_cons_zero, List.getElem?_cons_succ, Option.some.injEq] at ho
      subst ho
      have p4 : b 4 = true := hd ⟨4, .data⟩ (by simp) rfl
      have p9 : b 9 = true := hd ⟨9, .data⟩ (by simp) rfl
      have e77 := (ev 4 77 rfl p4).trans vv4
      have e82 := (ev 9 82 rfl p9).trans vv9
      rw [vv10]
      refine does_value rfl (by intro c h; cases h) (w' := W) ?_ (hS)
      · simp [execOp, go_sem, e77, e82]
    | 11 =>
      simp only [List.getElem?_toArray, List.getElem?_cons_zero, List.getElem?_cons_succ, Option.some.injEq] at ho
      subst ho
      have p10 : b 10 = true := hd ⟨10, .data⟩ (by simp) rfl
      have e83 := (ev 10 83 rfl p10).trans vv10
      rw [vv11]
      refine does_value rfl (by intro c h; cases h) (w' := W) ?_ (hS)
      · simp [execOp, go_sem, e83]
    | 12 =>
      simp only [List.getElem?_toArray, List.getElem?_cons_zero, List.getElem?_cons_succ, Option.some.injEq] at ho
      subst ho
      have p11 : b 11 = true := hd ⟨11, .guard⟩ (by simp) rfl
      have e9 : a.tmps[9]?.getD undef = .slice (some ⟨gG, 0, none⟩) m cG := (kp 9 (by kernel_rfl)).trans b9
      rw [vv12]
      refine does_value_g rfl (yl 11 84 false rfl p11 vv11) (by intro c h; cases h) (w' := W) ?_ (hS)
      · simp [execOp, go_sem, e9]
    | 13 =>
      simp only [List.getElem?_toArray, List.getElem?_cons_zero, List.getElem?_cons_succ, Option.some.injEq] at ho
      subst ho
      have p11 : b 11 = true := hd ⟨11, .guard⟩ (by simp) rfl
      have e11 : a.tmps[11]?.getD undef = .int .i64 (K : Nat) := (kp 11 (by kernel_rfl)).trans b11
      rw [vv13]
      refine does_value_g rfl (yl 11 84 false rfl p11 vv11) (by intro c h; cases h) (w' := W) ?_ (hS)
      · simp [execOp, go_sem, e11]
    | 14 =>
      simp only [List.getElem?_toArray, List.getElem?_cons_zero, List.getElem?_cons_succ, Option.some.injEq] at ho
      subst ho
      have p12 : b 12 = true := hd ⟨12, .data⟩ (by simp) rfl
      have p13 : b 13 = true := hd ⟨13, .data⟩ (by simp) rfl
      have p11 : b 11 = true := hd ⟨11, .guard⟩ (by simp) rfl
      have e85 := (ev 12 85 rfl p12).trans vv12
      have e86 := (ev 13 86 rfl p13).trans vv13
      rw [vv14]
      refine does_value_g rfl (yl 11 84 false rfl p11 vv11) (by intro c h; cases h) (w' := W) ?_ (hS)
      · simp [execOp, go_sem, e85, e86, hKm]
    | 15 =>
      simp only [List.getElem?_toArray, List.getElem?_cons_zero, List.getElem?_cons_succ, Option.some.injEq] at ho
      subst ho
      have p14 : b 14 = true := hd ⟨14, .data⟩ (by simp) rfl
      have p11 : b 11 = true := hd ⟨11, .guard⟩ (by simp) rfl
      have e87 := (ev 14 87 rfl p14).trans vv14
      rw [vv15]
      refine does_value_g rfl (yl 11 84 false rfl p11 vv11) (by intro c h; cases h) (w' := W) ?_ (hS)
      · simp [execOp, go_sem, e87]
    | 16 =>
      simp only [List.getElem?_toArray, List.getElem?_cons_zero, List.getElem?_cons_succ, Option.some.injEq] at ho
      subst ho
      have p15 : b 15 = true := hd ⟨15, .data⟩ (by simp) rfl
      have p11 : b 11 = true := hd ⟨11, .guard⟩ (by simp) rfl
      have e88 := (ev 15 88 rfl p15).trans vv15
      have d9_0 := (hS.cell (p := ⟨gG, K * 11, none⟩) (cell_lt hg0)).trans hg0
      have d9_1 := (hS.cell (p := ⟨gG, K * 11 + 1, none⟩) (cell_lt hg1)).trans hg1
      rw [vv16]
      refine does_value_g rfl (yl 11 84 false rfl p11 vv11) (by intro c h; cases h) (w' := W) ?_ (hS)
      · simp [execOp, go_sem, e88, d9_0, d9_1]
    | 17 =>
      simp only [List.getElem?_toArray, List.getElem?_cons_zero, List.getElem?_cons_succ, Option.some.injEq] at ho
      subst ho
      have p11 : b 11 = true := hd ⟨11, .guard⟩ (by simp) rfl
      have e10 : a.tmps[10]?.getD undef = .slice (some ⟨gW, 0, none⟩) m cW := (kp 10 (by kernel_rfl)).trans b10
      rw [vv17]
      refine does_value_g rfl (yl 11 84 false rfl p11 vv11) (by intro c h; cases h) (w' := W) ?_ (hS)
      · simp [execOp, go_sem, e10]
    | 18 =>
      simp only [List.getElem?_toArray, List.getElem?_cons_zero, List.getElem?_cons_succ, Option.some.injEq] at ho
      subst ho
      have p11 : b 11 = true := hd ⟨11, .guard⟩ (by simp) rfl
      have e11 : a.tmps[11]?.getD undef = .int .i64 (K : Nat) := (kp 11 (by kernel_rfl)).trans b11
      rw [vv18]
      refine does_value_g rfl (yl 11 84 false rfl p11 vv11) (by intro c h; cases h) (w' := W) ?_ (hS)
      · simp [execOp, go_sem, e11]
    | 19 =>
      simp only [List.getElem?_toArray, List.getElem?_cons_zero, List.getElem?_cons_succ, Option.some.injEq] at ho
      subst ho
      have p17 : b 17 = true := hd ⟨17, .data⟩ (by simp) rfl
      have p18 : b 18 = true := hd ⟨18, .data⟩ (by simp) rfl
      have p11 : b 11 = true := hd ⟨11, .guard⟩ (by simp) rfl
      have e90 := (ev 17 90 rfl p17).trans vv17
      have e91 := (ev 18 91 rfl p18).trans vv18
      rw [vv19]
      refine does_value_g rfl (yl 11 84 false rfl p11 vv11) (by intro c h; cases h) (w' := W) ?_ (hS)
      · simp [execOp, go_sem, e90, e91, hKm]
    | 20 =>
      simp only [List.getElem?_toArray, List.getElem?_cons_zero, List.getElem?_cons_succ, Option.some.injEq] at ho
      subst ho
      have p19 : b 19 = true := hd ⟨19, .data⟩ (by simp) rfl
      have p11 : b 11 = true := hd ⟨11, .guard⟩ (by simp) rfl
      have e92 := (ev 19 92 rfl p19).trans vv19
      rw [vv20]
      refine does_value_g rfl (yl 11 84 false rfl p11 vv11) (by intro c h; cases h) (w' := W) ?_ (hS)
      · simp [execOp, go_sem, e92]
    | 21 =>
      simp only [List.getElem?_toArray, List.getElem?_cons_zero, List.getElem?_cons_succ, Option.some.injEq] at ho
      subst ho
      have p20 : b 20 = true := hd ⟨20, .data⟩ (by simp) rfl
      have p11 : b 11 = true := hd ⟨11, .guard⟩ (by simp) rfl
      have e93 := (ev 20 93 rfl p20).trans vv20
      have d9_0 := (hS.cell (p := ⟨gW, K * 11, none⟩) (cell_lt hw0)).trans hw0
      have d9_1 := (hS.cell (p := ⟨gW, K * 11 + 1, none⟩) (cell_lt hw1)).trans hw1
      rw [vv21]
      refine does_value_g rfl (yl 11 84 false rfl p11 vv11) (by intro c h; cases h) (w' := W) ?_ (hS)
      · simp [execOp, go_sem, e93, d9_0, d9_1]
    | 22 =>
      simp only [List.getElem?_toArray, List.getElem?_cons_zero, List.getElem?_cons_succ, Option.some.injEq] at ho
      subst ho
      have p16 : b 16 = true := hd ⟨16, .data⟩ (by simp) rfl
      have p21 : b 21 = true := hd ⟨21, .data⟩ (by simp) rfl
      have p11 : b 11 = true := hd ⟨11, .guard⟩ (by simp) rfl
      have e89 := (ev 16 89 rfl p16).trans vv16
      have e94 := (ev 21 94 rfl p21).trans vv21
      rw [vv22]
      refine does_call_g rfl (yl 11 84 false rfl p11 vv11) (by intro c h; cases h) (f := 9) (args := #[.agg #[.int .i64 xt, .int .i64 xn], .agg #[.int .i64 xt, .int .i64 xn]]) ?_ ?_
      · simp [go_sem, e89, e94]
      · exact (cS W hS).mono (fun e w' h => ⟨h.1, hS.trans (h.2.mono hS.size)⟩)
    | 23 =>
      simp only [List.getElem?_toArray, List.getElem?_cons_zero, List.getElem?_cons_succ, Option.some.injEq] at ho
      subst ho
      have p22 : b 22 = true := hd ⟨22, .data⟩ (by simp) rfl
      have p11 : b 11 = true := hd ⟨11, .guard⟩ (by simp) rfl
      have e95 := (ev 22 95 rfl p22).trans vv22
      rw [vv23]
      refine does_value_g rfl (yl 11 84 false rfl p11 vv11) (by intro c h; cases h) (w' := W) ?_ (hS)
      · simp [execOp, go_sem, e95]
    | 24 =>
      simp only [List.getElem?_toArray, List.getElem?_cons_zero, List.getElem?_cons_succ, Option.some.injEq] at ho
      subst ho
      have p11 : b 11 = true := hd ⟨11, .data⟩ (by simp) rfl
      have p23 : b 23 = true := hd ⟨23, .data⟩ (by simp) rfl
      have e84 := (ev 11 84 rfl p11).trans vv11
      have e96 := (ev 23 96 rfl p23).trans vv23
      rw [vv24]
      refine does_value rfl (by intro c h; cases h) (w' := W) ?_ (hS)
      · simp [execOp, go_sem, e84, e96]
    | k + 25 => simp at ho
  · intro b' W hS _
    subst hLe
    exact hQ W hS

end Go.Proofs.Ytgophojgofmkeaa.Ck
