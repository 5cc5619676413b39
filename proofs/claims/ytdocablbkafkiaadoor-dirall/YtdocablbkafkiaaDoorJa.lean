/-
  Blocks are emptied: emptyFrom.
-/
import Derived.Test.YtdocablbkafkiaaDoorDt
import Derived.Test.YtdocablbkafkiaaDoorDq
namespace Go.Proofs.YtdocablbkafkiaaDoor.Cd
open Go.RowKit

theorem flatten_clear {E : List (List En)} {i : Nat} {b : List En} (h : E[i]? = some b) : (b ++ (E.set i []).flatten).Perm E.flatten := by
  induction E generalizing i with
  | nil => simp at h
  | cons x E ih =>
    cases i with
    | zero => simp at h; subst h; simp
    | succ i =>
      simp only [List.set_cons_succ, List.flatten_cons]
      refine (List.Perm.append_left b List.perm_append_comm).trans ?_
      rw [← List.append_assoc]
      refine (List.Perm.append_right x (ih (by simpa using h))).trans List.perm_append_comm
theorem dist_nx {n i t : Nat} (hi : i < n) (ht : t < n) : dist n i (nx n i t) = t ∧ nx n i t < n := by
  have a1 := @nx_cases n i t
  generalize nx n i t = k at *
  have a2 := @dist_cases n i k
  omega
theorem dist_lt {n i j : Nat} (hi : i < n) (hj : j < n) : dist n i j < n ∧ nx n i (dist n i j) = j := by
  have a2 := @dist_cases n i j
  generalize dist n i j = d at *
  have a1 := @nx_cases n i d
  omega

theorem append_eb (ty : TypeId) (v : Value) (x : Value) (w : World) (hv : ∃ p n c, v = .slice p n c) : (Builtin.append_ #[56, 57] ty #[v, x]).run Tryd.prog w = (Builtin.append_ #[56, 56] ty #[v, x]).run Tryd.prog w := by
  obtain ⟨p, n, c, rfl⟩ := hv
  simp [Builtin.append_, run_underlying Tryd.underlying57, run_underlying Tryd.underlying56, Tryd.sizeOf55]
theorem run_append_ents (ty : TypeId) (base : Nat) (v : Value) (l b : List En) (q : Option Addr) (c : Nat) (W : World) (h : Blk W base v l) (hb : Ents W q b) (hl : l.length + b.length ≤ 1000000) (hbase : base ≤ W.heap.size) :
    ∃ v' W', (Builtin.append_ #[56, 57] ty #[v, .slice q b.length c]).run Tryd.prog W = .ok v' W' ∧ Blk W' base v' (l ++ b) ∧ W.grownBy W' v.ownBlock ∧ (v'.ownBlock = v.ownBlock ∨ v'.ownBlock = some W.heap.size) := by
  obtain ⟨i0, hi0, hz0, hz1, hz2⟩ := entInfo
  obtain ⟨p, c', hv, _, _, _⟩ := h.form
  rw [append_eb _ _ _ _ ⟨p, _, c', hv⟩]
  rcases q with _ | ad
  · have h0 : b = [] := by
      by_cases hl : 0 < b.length
      · obtain ⟨_, _, h, _⟩ := hb hl; cases h
      · exact List.eq_nil_of_length_eq_zero (by omega)
    subst h0
    refine ⟨v, W, run_append_none_any base 56 ty 55 i0 2 Tryd.underlying56 hi0 v _ _ h c, by simpa using h, ⟨rfl, rfl, rfl, Nat.le_refl _, fun _ _ _ => rfl⟩, .inl rfl⟩
  · obtain ⟨v', w', hr, h2, h3, _, h5⟩ := run_append_own_at (P := Tryd.prog) W base 56 ty 55 i0 _ 2 24 Tryd.underlying56 hi0 hz0 hz1 hz2 rfl (by decide) v l.length (ents l) h ad b.length c (ents b) (ents_length b)
      (fun j u hj => by
        have hjl := (List.getElem?_eq_some_iff.1 hj).1
        rw [ents_length] at hjl
        obtain ⟨b0, o, e, hc⟩ := hb (by omega)
        cases e
        rw [Addr.add_lit]
        have hx := List.getElem?_eq_getElem (l := b) (i := j / 2) (by omega)
        have h1 := hc (j / 2) (j % 2) _ hx (by omega)
        have h2 := ents_at b (j / 2) (j % 2) _ hx (by omega)
        rw [show j / 2 * 2 + j % 2 = j by omega] at h1 h2
        rw [h1, ← h2, hj]) (ents_one b) (by unfold maxLen; omega) (by omega) hbase
    exact ⟨v', w', hr, Blk.ext h2 (by simp) (by rw [ents_append]), h3, h5⟩

/-- A block's row is turned, whatever its new one. -/
theorem DirAt.turned2 {w w' : World} {base a count : Nat} {bv : Value} {vs : List Value} {D : List (List En)} (h : DirAt w base a count bv vs D) {i B c : Nat} {cur : Array Value} {v v' : Value} {L L' : List En} (hi : D[i]? = some L) (hbv : bv = .slice (some ⟨B, 0, none⟩) D.length c) (hB : w.heap[B]? = some (.cells cur 57 (0, 0))) (hv : vs[i]? = some v)
    (hrow : w'.heap[B]? = some (.cells (cur.setIfInBounds i v') 57 (0, 0))) (hblk' : Blk w' base v' L') (honly : Only (fun j => j = B ∨ v.ownBlock = some j) w w') (hnew : ∀ g, v'.ownBlock = some g → v.ownBlock = some g) : DirAt w' base a count bv (vs.set i v') (D.set i L') := by
  have hblk := h.rows.row i v L hv hi
  have hil := (List.getElem?_eq_some_iff.1 hv).1
  have hnB : ∀ (j : Nat) u g, vs[j]? = some u → u.ownBlock = some g → g ≠ B := fun j u g hu hg e => by
    have hjl := (List.getElem?_eq_some_iff.1 hu).1
    obtain ⟨M, hM⟩ : ∃ M, D[j]? = some M := ⟨_, List.getElem?_eq_getElem (by have := h.rows.len; omega)⟩
    obtain ⟨_, _, cur', h3⟩ := (h.rows.row j u M hu hM).tag hg
    rw [e, hB] at h3; cases h3
  refine ⟨h.lo, ?_, ?_, ?_⟩
  · rw [honly.block a (block_lt h.dir) ?_]; exact h.dir
    rintro (e | e)
    · have := h.dir; rw [e, hB] at this; cases this
    · obtain ⟨_, _, cur', h3⟩ := hblk.tag e
      rw [h.dir] at h3; cases h3
  · rcases h.blocks.2 with ⟨e, h0⟩ | ⟨g, c', cur', e, hb, hg, hn, hm, hs, htk⟩
    · rw [hbv] at e; cases e
    · rw [hbv] at e; cases e
      rw [hB] at hg; cases hg
      refine ⟨by simp [h.rows.len], .inr ⟨B, c, _, by rw [List.length_set]; exact hbv, hb, hrow, by rw [List.length_set]; exact hn, hm, by simpa using hs, ?_⟩⟩
      rw [List.length_set, Array.toList_setIfInBounds, List.take_set, htk]
  · refine ⟨by simp [h.rows.len], fun j u M hu hM => ?_, fun j j' u u' g hne hu hu' hg => ?_⟩
    · by_cases e : i = j
      · subst e
        rw [List.getElem?_set_self hil] at hu
        rw [List.getElem?_set_self (List.getElem?_eq_some_iff.1 hi).1] at hM
        cases hu; cases hM; exact hblk'
      · rw [List.getElem?_set_ne e] at hu hM
        refine (h.rows.row j u M hu hM).kept honly (fun g hg hS => ?_)
        rcases hS with rfl | hS
        · exact hnB j u _ hu hg rfl
        · exact h.rows.apart i j v u g e hv hu hS hg
    · by_cases e : i = j <;> by_cases e' : i = j'
      · omega
      · subst e
        rw [List.getElem?_set_self hil] at hu; cases hu
        rw [List.getElem?_set_ne e'] at hu'
        exact h.rows.apart i j' v u' g e' hv hu' (hnew g hg)
      · subst e'
        rw [List.getElem?_set_self hil] at hu'; cases hu'
        rw [List.getElem?_set_ne e] at hu
        intro k'
        exact h.rows.apart i j v u g e hv hu (hnew g k') hg
      · rw [List.getElem?_set_ne e] at hu
        rw [List.getElem?_set_ne e'] at hu'
        exact h.rows.apart j j' u u' g hne hu hu' hg
/-- A directory whose blocks all lie below N. -/
structure Low (N a B : Nat) (vs : List Value) : Prop where
  dir : a < N
  blocks : B < N
  rows : ∀ (j : Nat) v g, vs[j]? = some v → v.ownBlock = some g → g < N
theorem DirAt.low {w : World} {base a count B n c : Nat} {vs : List Value} {D : List (List En)} (h : DirAt w base a count (.slice (some ⟨B, 0, none⟩) n c) vs D) : Low w.heap.size a B vs := by
  refine ⟨block_lt h.dir, ?_, fun j v g hv hg => ?_⟩
  · rcases h.blocks.2 with ⟨e, _⟩ | ⟨g, c', cur', e, hb, hg, _⟩
    · cases e
    · cases e; exact block_lt hg
  · have hjl := (List.getElem?_eq_some_iff.1 hv).1
    exact ((h.rows.row j v _ hv (List.getElem?_eq_getElem (by have := h.rows.len; omega))).tag hg).2.1
theorem DirAt.lowkept {w w' : World} {base a count B n c N : Nat} {vs : List Value} {D : List (List En)} (h : DirAt w base a count (.slice (some ⟨B, 0, none⟩) n c) vs D) (hl : Low N a B vs) {S : Nat → Prop} (ho : Only S w w') (hS : ∀ k, S k → N ≤ k) : DirAt w' base a count (.slice (some ⟨B, 0, none⟩) n c) vs D := by
  refine ⟨h.lo, (ho.block a (block_lt h.dir) (fun e => by have := hS _ e; have := hl.dir; omega)).trans h.dir, Only.ownsAny ho h.blocks ?_, h.rows.len, fun i v L hv hL => (h.rows.row i v L hv hL).kept ho ?_, h.rows.apart⟩
  · intro b hb e
    have := hS _ e
    have := hl.blocks
    simp [Value.ownBlock] at hb
    omega
  · intro b hb e
    have := hS _ e
    have := hl.rows i v b hv hb
    omega

/-- What holds in each round of emptyFrom. -/
structure EI (base a count B n c : Nat) (D1 : List (List En)) (w : World) (i1 t : Nat) (l : List En) (vt : Value) (vs' : List Value) (E : List (List En)) (wr : World) : Prop where
  dir : DirAt wr base a count (.slice (some ⟨B, 0, none⟩) n c) vs' E
  low : Low w.heap.size a B vs'
  row : Blk wr w.heap.size vt l
  len : E.length = n
  cut : ∀ j, j < n → E[j]? = if dist n i1 j < t then some [] else D1[j]?
  perm : (l ++ E.flatten).Perm D1.flatten
  only : Only (fun k => k = B) w wr

theorem EI.step {base a count B n c : Nat} {D1 : List (List En)} {w : World} {i1 t : Nat} {l : List En} {vt : Value} {vs' : List Value} {E : List (List En)} {wr w1 : World} (h : EI base a count B n c D1 w i1 t l vt vs' E wr) (hi1 : i1 < n) (ht : t < n) {b : List En} (hb : D1[nx n i1 t]? = some b) {v1 : Value}
    (hrow : Blk w1 w.heap.size v1 (l ++ b)) (hg : wr.grownBy w1 vt.ownBlock) :
    ∃ cur, w1.heap[B]? = some (.cells cur 57 (0, 0)) ∧ nx n i1 t < cur.size ∧ EI base a count B n c D1 w i1 (t + 1) (l ++ b) v1 (vs'.set (nx n i1 t) (.slice none 0 0)) (E.set (nx n i1 t) []) (w1.setCell ⟨B, nx n i1 t, none⟩ (.slice none 0 0)) := by
  obtain ⟨hd1, hd2⟩ := dist_nx hi1 ht
  have hE : E[nx n i1 t]? = some b := by rw [h.cut _ hd2, hd1, if_neg (by omega)]; exact hb
  have hN : w.heap.size ≤ wr.heap.size := h.only.size
  have hvt : ∀ g, vt.ownBlock = some g → w.heap.size ≤ g := fun g hg' => (h.row.tag hg').1
  have hd : DirAt w1 base a count (.slice (some ⟨B, 0, none⟩) n c) vs' E := h.dir.lowkept h.low (grown_only hg) hvt
  obtain ⟨B', c', cur, v, hbv, hB, hcur, hv, hblk⟩ := hd.at_ hE
  obtain ⟨rfl, rfl⟩ : B = B' ∧ c = c' := by
    injection hbv with e1 _ e3
    injection e1 with e1
    injection e1 with e1
    exact ⟨e1, e3⟩
  have hlt := (List.getElem?_eq_some_iff.1 hv).1
  have hv1 : ∀ g, v1.ownBlock = some g → w.heap.size ≤ g := fun g hg' => (hrow.tag hg').1
  have hoB : Only (fun j => j = B) w1 (w1.setCell ⟨B, nx n i1 t, none⟩ (.slice none 0 0)) := Only.setCell w1 ⟨B, nx n i1 t, none⟩ _ rfl
  refine ⟨cur, hB, ?_, ?_, ?_, hrow.kept hoB (fun g hg' e => by have := hv1 g hg'; have := h.low.blocks; omega), by rw [List.length_set]; exact h.len, fun j hj => ?_, ?_, ?_⟩
  · rw [Array.getElem?_eq_some_iff] at hcur; exact hcur.1
  · have := hd.turned2 (w' := w1.setCell ⟨B, nx n i1 t, none⟩ (.slice none 0 0)) (v' := .slice none 0 0) (L' := []) hE (by rw [h.len]) hB hv ?_ (Blk.nil _ _) (Only.weak hoB (fun _ _ e => .inl e)) (fun g e => by cases e)
    · exact this
    · simp only [World.setCell, Array.getElem?_modify, hB]
      simp
  · refine ⟨h.low.dir, h.low.blocks, fun j u g hu hg' => ?_⟩
    rw [List.getElem?_set] at hu
    split at hu
    · cases hu; cases hg'
    · exact h.low.rows j u g hu hg'
  · rw [List.getElem?_set]
    by_cases e : nx n i1 t = j
    · subst e
      rw [if_pos rfl, if_pos (by rw [h.len]; exact hd2), hd1, if_pos (by omega)]
    · rw [if_neg e, h.cut j hj]
      have := (dist_lt hi1 hj).2
      have hne : dist n i1 j ≠ t := fun e' => e (by rw [← e', this])
      by_cases hlt : dist n i1 j < t
      · rw [if_pos hlt, if_pos (by omega)]
      · rw [if_neg hlt, if_neg (by omega)]
  · rw [List.append_assoc]
    exact (List.Perm.append_left l (flatten_clear hE)).trans h.perm
  · have h1 : Only (fun k => k = B) w w1 := h.only.trans (grown_only hg) (fun i hi => .inr (hvt i hi))
    exact h1.next hoB

/-- What emptyFrom leaves. -/
def Emptied (base a count B n c : Nat) (D1 : List (List En)) (w : World) (i1 : Nat) (e : Ending) (w' : World) : Prop :=
  ∃ t l vt vs' E b, e = .returned vt ∧ t < n ∧ D1[nx n i1 t]? = some b ∧ b.length < 7 ∧ EI base a count B n c D1 w i1 (t + 1) l vt vs' E w'

set_option maxRecDepth 8000 in
set_option maxHeartbeats 4000000 in
theorem empty_any (base a count B n c i1 : Nat) (vs : List Value) (D1 : List (List En)) (w : World) (h : DirAt w base a count (.slice (some ⟨B, 0, none⟩) n c) vs D1) (hlen : D1.length = n) (hn : n < 100000) (hi1 : i1 < n) (hroom : ∃ b, D1[nx n i1 (n - 1)]? = some b ∧ b.length < 7) (hmost : D1.flatten.length ≤ 100000) :
    Calls Tryd.prog 44 #[.pointer (some ⟨a, 0, none⟩), .int .i64 (i1 : Nat)] w (Emptied base a count B n c D1 w i1) := by
  have H0 : Hid (EI base a count B n c D1 w i1 0 [] (.slice none 0 0) vs D1 w) := ⟨h, h.low, Blk.nil _ _, hlen, fun j hj => by simp, by simp, Only.refl _ _⟩
  have HR : Hid (∃ b, D1[nx n i1 (n - 1)]? = some b ∧ b.length < 7) := hroom
  clear h hroom
  go_enter Tryd.func44, Tryd.ntmps44
  go_wp2_with fail
  go_loopw [1, 5] (fun ii vt wr => ∃ t : Nat, ii = .int .i64 (nx n i1 t : Nat) ∧ t < n ∧ (∃ p k cc, vt = .slice p k cc) ∧ Hid (∃ l vs' E, EI base a count B n c D1 w i1 t l vt vs' E wr)) (fun ii _ _ => n - dist n i1 (intOf ii).toNat)
  case atStart => exact ⟨0, by have : nx n i1 0 = i1 := by { have := @nx_cases n i1 0; omega }; rw [this], by omega, ⟨_, _, _, rfl⟩, [], vs, D1, H0.out⟩
  case round =>
    obtain ⟨t, rfl, htn, ⟨p, k, cc, rfl⟩, HI⟩ := hrel
    obtain ⟨l, vs', E, hE⟩ := HI.out
    obtain ⟨hd1, hd2⟩ := dist_nx hi1 htn
    obtain ⟨b, hb⟩ : ∃ b, D1[nx n i1 t]? = some b := ⟨_, List.getElem?_eq_getElem (by omega)⟩
    have hEb : E[nx n i1 t]? = some b := by rw [hE.cut _ hd2, hd1, if_neg (by omega)]; exact hb
    obtain ⟨B', c', cur, v, hbv, hB, hcur, hv, hblk⟩ := hE.dir.at_ hEb
    obtain ⟨rfl, rfl⟩ : B = B' ∧ c = c' := by
      injection hbv with e1 _ e3
      injection e1 with e1
      injection e1 with e1
      exact ⟨e1, e3⟩
    obtain ⟨q, cq, rfl, _, _, hents⟩ := hblk.form
    have d1 : wr.cell? ⟨a, 1, none⟩ = some (.slice (some ⟨B, 0, none⟩) n c) := hE.dir.c1
    have x0 : wr.cell? ⟨B, nx n i1 t, none⟩ = some (.slice q b.length cq) := by rw [cellOf hB]; exact hcur
    have hsmall : l.length + b.length ≤ 1000000 := by
      have h1 := hE.perm.length_eq
      rw [List.length_append] at h1
      have h2 : b.length ≤ E.flatten.length := by
        have := (flatten_clear hEb).length_eq
        rw [List.length_append] at this
        omega
      omega
    obtain ⟨v1, w1, hrun, hrow1, hg1, hp1⟩ := run_append_ents 56 w.heap.size (.slice p k cc) l b q cq wr hE.row hents hsmall hE.only.size
    obtain ⟨cur1, hB1, hc1, hstep⟩ := hE.step hi1 htn hb hrow1 hg1
    obtain ⟨p1, k1, c1, rfl⟩ : ∃ p1 k1 c1, v1 = .slice p1 k1 c1 := by
      obtain ⟨p1, c1, e, _⟩ := hrow1.form
      exact ⟨p1, _, c1, e⟩
    obtain ⟨yv, y0⟩ : ∃ yv, w1.cell? ⟨B, nx n i1 t, none⟩ = some yv := ⟨cur1[nx n i1 t], by rw [cellOf hB1]; exact Array.getElem?_eq_getElem hc1⟩
    have f0 := frozenOf hB1 (nx n i1 t)
    have d1' : w1.cell? ⟨a, 1, none⟩ = some (.slice (some ⟨B, 0, none⟩) n c) := by
      refine (grown_only hg1).cell d1 (fun e => ?_)
      have := (hE.row.tag e).1
      have := hE.low.dir
      omega
    obtain ⟨w2, hw2⟩ : ∃ w2, w2 = w1.setCell ⟨B, nx n i1 t, none⟩ (.slice none 0 0) := ⟨_, rfl⟩
    rw [← hw2] at hstep
    have cN := next_any a (nx n i1 t) n c (some ⟨B, 0, none⟩) w2 hstep.dir.c1 hd2 hn
    have HS : Hid (EI base a count B n c D1 w i1 (t + 1) (l ++ b) (.slice p1 k1 c1) (vs'.set (nx n i1 t) (.slice none 0 0)) (E.set (nx n i1 t) []) w2) := hstep
    have HD : Hid (D1[nx n i1 t]? = some b ∧ D1.length = n) := ⟨hb, hlen⟩
    clear hE hEb hB hcur hv hblk hents hrow1 hg1 hp1 hB1 hstep hb HI hlen hbv hc1
    obtain ⟨m, hm⟩ : ∃ m, nx n i1 t = m := ⟨_, rfl⟩
    have hmI : (m : Int) < (n : Int) := by omega
    obtain ⟨lb_, hlb⟩ : ∃ lb_, b.length = lb_ := ⟨_, rfl⟩
    rw [hm] at x0 y0 f0 cN hw2 hd2
    rw [hlb] at x0 hrun
    rw [hm]
    by_cases h7 : lb_ < 7
    · have h7I : (lb_ : Int) < 7 := by omega
      clear cN
      go_wp2_with (at_builtin; refine Lib.wpList_append_run _ rfl _ _ _ _ rfl _ _ rfl rfl _ _ hrun ?_)
      rw [← hw2]
      go_ret
      exact ⟨t, l ++ b, _, _, _, b, rfl, htn, HD.out.1, by omega, HS.out⟩
    · have h7I : ¬ (lb_ : Int) < 7 := by omega
      have htn1 : t + 1 < n := by
        rcases Nat.lt_or_ge (t + 1) n with h | h
        · exact h
        · exfalso
          obtain ⟨b', hb', hl'⟩ := HR.out
          have : t = n - 1 := by omega
          rw [← this, HD.out.1] at hb'
          cases hb'
          omega
      have hnn : nx n m 1 = nx n i1 (t + 1) := by rw [← hm]; exact nx_nx hi1 (by omega)
      rw [hnn] at cN
      go_wp2_with (first | (at_builtin; refine Lib.wpList_append_run _ rfl _ _ _ _ rfl _ _ rfl rfl _ _ hrun ?_) | (go_at_call 39; rw [← hw2]; refine Calls_on cN ?_; clear cN))
      refine ⟨⟨t + 1, rfl, htn1, ⟨_, _, _, rfl⟩, _, _, _, hw2 ▸ HS.out⟩, ?_⟩
      have h1 := (dist_nx hi1 htn1).1
      have h2 : dist n i1 m = t := by rw [← hm]; exact hd1
      simp only [intOf, Int.toNat_natCast]
      rw [h1, h2]
      omega

end Go.Proofs.YtdocablbkafkiaaDoor.Cd
