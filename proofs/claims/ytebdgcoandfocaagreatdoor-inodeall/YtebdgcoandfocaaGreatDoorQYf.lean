/-
  InodeAll: the law (printed by mkall9.py).
-/
import Derived.Test.YtebdgcoandfocaaGreatDoorQXj
import Derived.Test.YtebdgcoandfocaaGreatDoorQBhp
import Derived.Test.YtebdgcoandfocaaGreatDoorQUt
import Derived.Lib.SlBytesConst
import Derived.Deep.Cut

/-
  InodeAll: copies of bytes, what a write or a cut makes of the bytes that are wanted, an inode there and back.
-/
namespace Go.Proofs.YtebdgcoandfocaaGreatDoor
open Go.RowKit Go.Maps Go.Sort Go.Shelf

/-- A copy of bytes into a row. -/
theorem copy_row (W : World) (og ln o1 : Nat) (O : By) (hO : W.heap[og]? = some (.cells (O.map u8v).toArray 5 (0, 0))) (hOl : O.length = ln) (p : Option Addr) (bs : By) (cp : Nat) (hb : Bytes W p bs) (ho1 : o1 ≤ ln) :
    ∃ W', (∀ ty, (Builtin.copy_ #[30, 30] ty #[.slice (some ⟨og, o1, none⟩) (ln - o1) (ln - o1), .slice p bs.length cp]).run Tryz.prog W = .ok (.int .i64 ((bs.take (ln - o1)).length : Nat)) W') ∧ W'.heap[og]? = some (.cells ((splB O o1 (bs.take (ln - o1))).map u8v).toArray 5 (0, 0)) ∧ But (fun k => k = og) W W' := by
  by_cases h0 : bs.length = 0
  · obtain rfl : bs = [] := List.eq_nil_of_length_eq_zero h0
    refine ⟨W, fun ty => ?_, ?_, But.refl _ _⟩
    · rw [run_copy_none (P := Tryz.prog) W 30 30 ty 5 (some ⟨og, o1, none⟩) p (ln - o1) (ln - o1) ([] : By).length cp Tryz.underlying30 Tryz.size5 (by simp)]
      simp [goInt]
    · rw [hO]
      unfold splB
      simp
  · obtain ⟨g, o2, rfl, hx⟩ := hb (by omega)
    have hdl : (bs.take (ln - o1)).length = min (ln - o1) bs.length := List.length_take
    refine ⟨_, fun ty => (run_copy_row (P := Tryz.prog) W 30 30 ty 5 og o1 (ln - o1) (ln - o1) ⟨g, o2, none⟩ bs.length cp (O.map u8v).toArray 5 ((bs.take (ln - o1)).map u8v) Tryz.underlying30 Tryz.size5 hO (by rw [List.length_map, hdl]; exact Nat.min_comm _ _) (fun j v hj => ?_) (by rw [List.length_map, hdl]; simp; omega) (u8v_one _)).trans (by rw [List.length_map]; rfl), ?_, ?_⟩
    · rw [List.getElem?_map] at hj
      obtain ⟨x, hx', rfl⟩ := Option.map_eq_some_iff.1 hj
      rw [List.getElem?_take] at hx'
      split at hx'
      · rw [Addr.add_lit]; exact hx j x hx'
      · cases hx'
    · rw [setRow_heap W og _ _ 5 (0, 0) hO, splB_map]
    · exact ⟨rfl, rfl, rfl, by simp, fun k _ hn => setRow_other W og k _ hn⟩

/-- The bytes of a file, as a list. -/
def getB (bs : By) : Nat → BitVec 8 := fun i => bs.getD i 0
theorem getB_in {bs : By} {i : Nat} {x : BitVec 8} (h : bs[i]? = some x) : getB bs i = x := by unfold getB; rw [List.getD_eq_getElem?_getD, h]; rfl
theorem getB_out {bs : By} {i : Nat} (h : bs.length ≤ i) : getB bs i = 0 := by unfold getB; rw [List.getD_eq_getElem?_getD, List.getElem?_eq_none h]; rfl
def listB (W : Nat → BitVec 8) (n : Nat) : By := (List.range n).map W
theorem listB_length (W : Nat → BitVec 8) (n : Nat) : (listB W n).length = n := by simp [listB]
theorem listB_get {W : Nat → BitVec 8} {n i : Nat} (h : i < n) : (listB W n)[i]? = some (W i) := by simp [listB, h]
theorem getB_listB {W : Nat → BitVec 8} {n : Nat} (hz : ∀ i, n ≤ i → W i = 0) : getB (listB W n) = W := funext fun i => by
  by_cases hi : i < n
  · exact getB_in (listB_get hi)
  · rw [getB_out (by rw [listB_length]; omega), hz i (by omega)]

/-- What a cut makes of bytes. -/
theorem cut_list (bs : By) (n : Nat) : splB (List.replicate n 0#8) 0 (bs.take n) = listB (cutW (getB bs) n) n := by
  have hl : (bs.take n).length = min n bs.length := List.length_take
  apply List.ext_getElem?
  intro i
  unfold splB
  rw [List.take_zero, List.nil_append, Nat.zero_add]
  by_cases hi : i < n
  · rw [listB_get hi]
    unfold cutW
    rw [if_pos hi]
    by_cases h1 : i < bs.length
    · rw [List.getElem?_append_left (by omega), List.getElem?_take, if_pos hi, List.getElem?_eq_getElem h1, getB_in (List.getElem?_eq_getElem h1)]
    · rw [List.getElem?_append_right (by omega), List.getElem?_drop, List.getElem?_replicate, if_pos (by omega), getB_out (by omega)]; rfl
  · rw [List.getElem?_eq_none (by rw [List.length_append, List.length_drop, List.length_replicate]; omega), List.getElem?_eq_none (by rw [listB_length]; omega)]
/-- What a write makes of bytes. -/
theorem grow_list (bs d : By) (at_ n : Nat) (hn : max bs.length (at_ + d.length) = n) : splB (splB (List.replicate n 0#8) 0 (bs.take n)) at_ (d.take (n - at_)) = listB (Ino.wrote (getB bs) at_ d) n := by
  rw [List.take_of_length_le (show bs.length ≤ n by omega), List.take_of_length_le (show d.length ≤ n - at_ by omega)]
  have h1 : splB (List.replicate n 0#8) 0 bs = listB (getB bs) n := by
    have := cut_list bs n
    rw [List.take_of_length_le (show bs.length ≤ n by omega)] at this
    rw [this]
    unfold listB
    refine List.map_congr_left fun i hi => ?_
    unfold cutW
    rw [if_pos (List.mem_range.1 hi)]
  rw [h1]
  have hl := listB_length (getB bs) n
  apply List.ext_getElem?
  intro i
  unfold splB
  by_cases hi : i < n
  · rw [listB_get hi]
    unfold Ino.wrote
    by_cases c1 : i < at_
    · rw [List.append_assoc, List.getElem?_append_left (by rw [List.length_take]; omega), List.getElem?_take, if_pos c1, listB_get hi, if_neg (by omega)]
    · by_cases c2 : i < at_ + d.length
      · rw [List.append_assoc, List.getElem?_append_right (by rw [List.length_take]; omega), List.length_take, List.getElem?_append_left (by omega), if_pos (by omega), show i - min at_ (listB (getB bs) n).length = i - at_ by omega, List.getElem?_eq_getElem (by omega), List.getD_eq_getElem?_getD, List.getElem?_eq_getElem (by omega)]
        rfl
      · rw [List.getElem?_append_right (by rw [List.length_append, List.length_take]; omega), List.length_append, List.length_take, List.getElem?_drop, if_neg (by omega), show at_ + d.length + (i - (min at_ (listB (getB bs) n).length + d.length)) = i by omega, listB_get hi]
  · rw [List.getElem?_eq_none (by rw [List.length_append, List.length_append, List.length_take, List.length_drop]; omega), List.getElem?_eq_none (by rw [listB_length]; omega)]

set_option maxRecDepth 8000 in
set_option maxHeartbeats 2000000 in
theorem grown_any (w : World) (p q : Option Addr) (cp cq at_ n : Nat) (bs d : By) (hb : RowB w p bs) (hd : Bytes w q d) (h1 : 1 ≤ d.length) (hn : max bs.length (at_ + d.length) = n) (hn2 : n ≤ 65536) :
    Calls Tryz.prog 12 #[.slice p bs.length cp, .int .i64 (at_ : Nat), .slice q d.length cq] w fun e w' => e = .returned (.slice (some ⟨w.heap.size, 0, none⟩) n n) ∧ w'.heap[w.heap.size]? = some (.cells ((listB (Ino.wrote (getB bs) at_ d) n).map u8v).toArray 5 (0, 0)) ∧ Below w.heap.size w w' := by
  obtain ⟨g, hg⟩ : ∃ g, w.heap.size = g := ⟨_, rfl⟩
  rw [hg]
  obtain ⟨w1, hw1⟩ : ∃ w1, w1 = w.alloc (.cells (List.replicate n (Value.int .u8 0)).toArray 5) := ⟨_, rfl⟩
  have hmk : (Instr.makeSlice 30 (.int .i64 (n : Nat)) (.int .i64 (n : Nat))).run Tryz.prog w = .ok (.slice (some ⟨g, 0, none⟩) n n) w1 := by rw [hw1, ← hg]; exact imake w n (by omega)
  have hr1 : w1.heap[g]? = some (.cells ((List.replicate n 0#8).map u8v).toArray 5 (0, 0)) := by rw [List.map_replicate, hw1, ← hg]; exact heap_alloc_new w _
  have hB1 : Below g w w1 := by rw [hw1, ← hg]; exact (Below.refl _ w).alloc (Nat.le_refl _) _
  have hB1' : Below w.heap.size w w1 := by rw [hg]; exact hB1
  obtain ⟨w2, hc2, hr2, hb2⟩ := copy_row w1 g n 0 _ hr1 List.length_replicate p bs cp (hb.below hB1').is (by omega)
  have hB2 : Below g w w2 := hB1.trans (hb2.below (by rw [← hg]; exact hB1'.size) (fun k hk => by rw [show k = g from hk]; exact Nat.le_refl _))
  have hB2' : Below w.heap.size w w2 := by rw [hg]; exact hB2
  rw [Nat.sub_zero] at hr2 hc2
  have hl2 : (splB (List.replicate n 0#8) 0 (bs.take n)).length = n := by rw [cut_list, listB_length]
  obtain ⟨w3, hc3, hr3, hb3⟩ := copy_row w2 g n at_ _ hr2 hl2 q d cq (below_bytes hB2' hd) (by omega)
  have hB3 : Below g w w3 := hB2.trans (hb3.below (by rw [← hg]; exact hB2'.size) (fun k hk => by rw [show k = g from hk]; exact Nat.le_refl _))
  rw [grow_list bs d at_ n hn] at hr3
  have HF := hide (⟨hr3, hB3⟩ : _ ∧ _)
  have hna : ¬ at_ = n := by omega
  have hna' : ¬ n = at_ := by omega
  have hle : at_ ≤ n := by omega
  clear hr1 hB1 hB1' hr2 hb2 hB2 hB2' hl2 hr3 hb3 hB3 hw1 hb hd hg
  by_cases hgt : bs.length < at_ + d.length
  · have hn' : at_ + d.length = n := by omega
    have e1 : (bs.length : Int) < (at_ : Int) + (d.length : Int) := by omega
    have e2 : (at_ : Int) + (d.length : Int) = (n : Nat) := by omega
    generalize bs.length = B at *
    generalize d.length = D at *
    clear hn hn'
    go_enter Tryz.func12, Tryz.ntmps12
    go_wp2
    go_ret
    exact ⟨rfl, HF.out⟩
  · have hn' : bs.length = n := by omega
    have e1 : ¬ ((n : Int) < (at_ : Int) + (d.length : Int)) := by omega
    rw [hn'] at hc2 ⊢
    generalize d.length = D at *
    clear hn hn' hgt
    go_enter Tryz.func12, Tryz.ntmps12
    go_wp2
    go_ret
    exact ⟨rfl, HF.out⟩

/-- Numbers out of an inode's bytes. -/
theorem num_ino (s : BitVec 32) (ns : List (BitVec 32)) : numOf (inoBytes s ns) 0 = s := by
  unfold numOf inoBytes
  rw [Nat.mul_zero, List.drop_zero, List.take_left' (le4_length s), leN_le4, BitVec.ofNat_toNat, BitVec.setWidth_eq]
theorem nums_ino (s : BitVec 32) (ns : List (BitVec 32)) (hn : ns.length = 10) : numsOf (inoBytes s ns) = ns := by
  apply List.ext_getElem?
  intro k
  by_cases hk : k < 10
  · obtain ⟨n, hx⟩ : ∃ n, ns[k]? = some n := ⟨_, List.getElem?_eq_getElem (by omega)⟩
    have hl : (le4 s ++ (ns.take k).flatMap le4).length = 4 * (1 + k) := by rw [List.length_append, le4_length, flat4_length, List.length_take]; omega
    have e : inoBytes s ns = (le4 s ++ (ns.take k).flatMap le4) ++ (le4 n ++ (ns.drop (k + 1)).flatMap le4) := by
      unfold inoBytes
      have h1 : ns = ns.take k ++ n :: ns.drop (k + 1) := by
        obtain ⟨h2, h3⟩ := List.getElem?_eq_some_iff.1 hx
        rw [← h3, List.getElem_cons_drop, List.take_append_drop]
      conv => lhs; rw [h1]
      rw [List.flatMap_append, List.flatMap_cons, List.append_assoc]
    unfold numsOf
    rw [List.getElem?_map, List.getElem?_range hk, hx]
    show some (numOf (inoBytes s ns) (1 + k)) = some n
    unfold numOf
    rw [e, List.drop_left' hl, List.take_left' (le4_length n), leN_le4, BitVec.ofNat_toNat, BitVec.setWidth_eq]
  · rw [List.getElem?_eq_none (by simp [numsOf]; omega), List.getElem?_eq_none (by omega)]

end Go.Proofs.YtebdgcoandfocaaGreatDoor

/-
  InodeAll: the file of the law, through all its calls.
-/
namespace Go.Proofs.YtebdgcoandfocaaGreatDoor
open Go.RowKit Go.Maps Go.Sort Go.Shelf

theorem Bytes.dropTake {w : World} {g : Nat} {bs : By} (h : Bytes w (some ⟨g, 0, none⟩) bs) (a n : Nat) : Bytes w (some ⟨g, a, none⟩) ((bs.drop a).take n) := by
  intro h0
  rw [List.length_take, List.length_drop] at h0
  obtain ⟨g', o', e, hx⟩ := h (by omega)
  cases e
  refine ⟨g, a, rfl, fun j x hj => ?_⟩
  rw [List.getElem?_take] at hj
  split at hj
  · rw [List.getElem?_drop] at hj
    have := hx (a + j) x hj
    rwa [Nat.zero_add] at this
  · cases hj

/-- What stays: rows of bytes, and operations. -/
def Keep9 (w w' : World) : Prop := ∀ (g : Nat) (cs : Array Value) (t : TypeId) (fr : Nat × Nat), w.heap[g]? = some (.cells cs t fr) → (t = 5 ∨ t = 33) → w'.heap[g]? = some (.cells cs t fr)
theorem Keep9.refl (w : World) : Keep9 w w := fun _ _ _ _ h _ => h
theorem Keep9.below {w w' : World} (h : Below w.heap.size w w') : Keep9 w w' := fun g _ _ _ hg _ => (h.block g (Array.getElem?_eq_some_iff.1 hg).1).trans hg
theorem RowB.keep9 {w w' : World} {p : Option Addr} {bs : By} (h : RowB w p bs) (hk : Keep9 w w') : RowB w' p bs := h.keep fun g cs fr hg => hk g cs 5 fr hg (.inl rfl)

/-- The law's file: k blocks are taken; bytes Ws; budget i. -/
structure FI (w1 w : World) (c s : Nat) (vs : VS) (nb i a k : Nat) (Ws : By) : Prop where
  ex : ∃ m G V, Fil w1 w a c vs m G V Ws.length (getB Ws) (i * 20000) ∧ m.a = s + 1 ∧ m.b = s ∧ m.n = nb ∧ Ino.cnt G = k
  low : Below w1.heap.size w1 w
  al : w1.heap.size ≤ a
  sl : w1.heap.size ≤ s

section
variable {w1 w w' : World} {c s : Nat} {vs : VS} {nb i a k : Nat} {Ws : By}

theorem FI.below (h : FI w1 w c s vs nb i a k Ws) (hB : Below w.heap.size w w') : FI w1 w' c s vs nb i a k Ws := by
  obtain ⟨m, G, V, hF, e1, e2, e3, e4⟩ := h.ex
  exact ⟨⟨m, G, V, hF.below hB, e1, e2, e3, e4⟩, h.low.trans (hB.mono h.low.size), h.al, h.sl⟩
theorem FI.more (h : FI w1 w c s vs nb i a k Ws) : FI w1 w c s vs nb (i + 1) a k Ws := by
  obtain ⟨m, G, V, hF, e1, e2, e3, e4⟩ := h.ex
  exact ⟨⟨m, G, V, ⟨hF.ino, hF.lc.more (by omega), hF.map, hF.file, hF.nn, hF.pos, hF.tight⟩, e1, e2, e3, e4⟩, h.low, h.al, h.sl⟩
theorem FI.le (h : FI w1 w c s vs nb i a k Ws) : Ws.length ≤ 65536 := by
  obtain ⟨m, G, V, hF, _⟩ := h.ex
  exact hF.file.le
theorem FI.cost (h : FI w1 w c s vs nb i a k Ws) : k ≤ Ino.costB ((Ws.length + 511) / 512) ∧ k + 1 ≤ nb := by
  obtain ⟨m, G, V, hF, e1, e2, rfl, rfl⟩ := h.ex
  exact ⟨hF.file.cost, hF.cntLe⟩
theorem FI.none (h : FI w1 w c s vs nb i a k []) : k = 0 := by
  have := h.cost.1
  rw [show Ino.costB ((([] : By).length + 511) / 512) = 0 by decide] at this
  omega

theorem fi_free (h : FI w1 w c s vs nb i a k Ws) : Calls Tryz.prog 9 #[.pointer (some ⟨s + 1, 0, none⟩)] w fun e w' => e = .returned (.int .i64 ((nb - 1 - k : Nat) : Int)) ∧ w' = w := by
  obtain ⟨m, G, V, hF, e1, e2, e3, e4⟩ := h.ex
  have := free_F hF
  rw [e1, e3, e4] at this
  exact this
theorem fi_size (h : FI w1 w c s vs nb i a k Ws) : Calls Tryz.prog 18 #[.pointer (some ⟨a, 0, none⟩)] w fun e w' => e = .returned (.int .i64 (Ws.length : Nat)) ∧ w' = w := by
  obtain ⟨m, G, V, hF, e1, e2, e3, e4⟩ := h.ex
  exact isize_any a Ws.length _ w hF.ino

theorem keep_but {m : Bm.MS} {G : Ino.Gs} {V : Nat → By} {sz b : Nat} {W : Nat → BitVec 8} (h : Fil w1 w a c vs m G V sz W b) (hb : But (fun k => Cmn w1 w k ∨ k = m.b ∨ k = a) w w') : Keep9 w w' := by
  intro g cs t fr hg ht
  refine (hb.block g (Array.getElem?_eq_some_iff.1 hg).1 ?_).trans hg
  rintro (e | rfl | rfl)
  · refine cmn_not hg (cTag_not ?_ ?_ ?_) e
    all_goals (rcases ht with rfl | rfl <;> decide)
  · obtain ⟨mcs, hmc⟩ := map_mbE h.map
    rw [hmc] at hg
    simp only [Option.some.injEq, Obj.cells.injEq] at hg
    rcases ht with rfl | rfl
    · exact absurd hg.2.1 (by decide)
    · exact absurd hg.2.1 (by decide)
  · have hi : w.heap[g]? = _ := h.ino
    rw [hi] at hg
    simp only [Option.some.injEq, Obj.cells.injEq] at hg
    rcases ht with rfl | rfl
    · exact absurd hg.2.1 (by decide)
    · exact absurd hg.2.1 (by decide)
theorem keep_cmn (hb : But (Cmn w1 w) w w') : Keep9 w w' := by
  intro g cs t fr hg ht
  refine (hb.block g (Array.getElem?_eq_some_iff.1 hg).1 fun e => cmn_not hg (cTag_not ?_ ?_ ?_) e).trans hg
  all_goals (rcases ht with rfl | rfl <;> decide)

theorem listB_zero {W : Nat → BitVec 8} {n : Nat} {x : Nat} {U : Nat → Bool} {V : Nat → By} {G : Ino.Gs} (h : Ino.File x U V G n W) : getB (listB W n) = W := getB_listB h.zero

/-- Write, where it may be. -/
theorem fi_write (h : FI w1 w c s vs nb i a k Ws) (hi : i ≤ 20) (ht : Bm.Tab64 w1) (bg bo bc at_ n : Nat) (d : By) (hd : Bytes w (some ⟨bg, bo, none⟩) d) (hout : bg < w.heap.size ∧ ¬ Cmn w1 w bg) (hd1 : 1 ≤ d.length) (hdc : d.length ≤ bc) (hat : at_ + d.length ≤ 65536) (hn : max Ws.length (at_ + d.length) = n) :
    Calls Tryz.prog 11 #[.pointer (some ⟨a, 0, none⟩), ep c, .pointer (some ⟨s + 1, 0, none⟩), .int .i64 (at_ : Nat), .slice (some ⟨bg, bo, none⟩) d.length bc] w fun e w' => ∃ er : Int, e = .returned (.int .i64 er) ∧ Keep9 w w' ∧
      ((er = 0 ∧ ∃ k', FI w1 w' c s vs nb (i + 1) a k' (listB (Ino.wrote (getB Ws) at_ d) n)) ∨ (er = 28 ∧ nb - 1 - k < Ino.costB ((n + 511) / 512) ∧ FI w1 w' c s vs nb (i + 1) a k Ws)) := by
  obtain ⟨m, G, V, hF, e1, e2, e3, e4⟩ := h.ex
  have := write_F hF (by omega) (ht.below h.low) ht.lt bg bo bc at_ d hd hout hd1 hdc hat
  rw [e1] at this
  refine this.mono ?_
  rintro e w' ⟨hb, hO⟩
  have hlow : Below w1.heap.size w1 w' := h.low.trans (Fil.lowB hb h.low.size (by rw [e2]; exact h.sl) h.al)
  rcases hO with ⟨rfl, m', G', V', f1, f2, f3, F', _, _⟩ | ⟨rfl, hlt, F'⟩
  · refine ⟨0, rfl, keep_but hF hb, .inl ⟨rfl, Ino.cnt G', ⟨⟨m', G', V', ?_, f1, f2.trans e2, f3.trans e3, rfl⟩, hlow, h.al, h.sl⟩⟩⟩
    rw [hn] at F'
    rw [listB_length, listB_zero F'.file, show (i + 1) * 20000 = i * 20000 + 20000 by omega]
    exact F'
  · refine ⟨28, rfl, keep_but hF hb, .inr ⟨rfl, ?_, ⟨⟨m, G, V, ?_, e1, e2, e3, e4⟩, hlow, h.al, h.sl⟩⟩⟩
    · rw [hF.frees, e3, e4] at hlt
      exact Nat.lt_of_lt_of_le hlt (Ino.costB_mono (by unfold blocksOf; omega))
    · rw [show (i + 1) * 20000 = i * 20000 + 20000 by omega]; exact F'

theorem fi_trunc (h : FI w1 w c s vs nb i a k Ws) (hi : i ≤ 20) (n : Nat) (hn : n ≤ 65536) :
    Calls Tryz.prog 13 #[.pointer (some ⟨a, 0, none⟩), ep c, .pointer (some ⟨s + 1, 0, none⟩), .int .i64 (n : Nat)] w fun e w' => e = .returned (.int .i64 0) ∧ Keep9 w w' ∧ ∃ k', FI w1 w' c s vs nb (i + 1) a k' (listB (cutW (getB Ws) n) n) := by
  obtain ⟨m, G, V, hF, e1, e2, e3, e4⟩ := h.ex
  have := trunc_F hF (by omega) n hn
  rw [e1] at this
  refine this.mono ?_
  rintro e w' ⟨hb, rfl, m', G', V', f1, f2, f3, F'⟩
  refine ⟨rfl, keep_but hF hb, Ino.cnt G', ⟨⟨m', G', V', ?_, f1, f2.trans e2, f3.trans e3, rfl⟩, h.low.trans (Fil.lowB hb h.low.size (by rw [e2]; exact h.sl) h.al), h.al, h.sl⟩⟩
  rw [listB_length, listB_zero F'.file, show (i + 1) * 20000 = i * 20000 + 20000 by omega]
  exact F'

theorem fi_read (h : FI w1 w c s vs nb i a k Ws) (hi : i ≤ 20) (at_ count ln : Nat) (hln : min count (Ws.length - at_) = ln) (hco : count < 9223372036854775808) (hat : at_ < 9223372036854775808) :
    Calls Tryz.prog 14 #[.pointer (some ⟨a, 0, none⟩), ep c, .int .i64 (at_ : Nat), .int .i64 (count : Nat)] w fun e w' => ∃ p cp, e = .returned (.tuple #[.slice p ln cp, .int .i64 0]) ∧ Keep9 w w' ∧ FI w1 w' c s vs nb (i + 1) a k Ws ∧ RowB w' p ((Ws.drop at_).take ln) := by
  obtain ⟨m, G, V, hF, e1, e2, e3, e4⟩ := h.ex
  refine (read_B hF (by omega) at_ count ln hln hco hat).mono ?_
  rintro e w' ⟨p, cp, rfl, F', hb, hr⟩
  have hl : (List.range ln).map (fun j => getB Ws (at_ + j)) = (Ws.drop at_).take ln := by
    apply List.ext_getElem?
    intro j
    rw [List.getElem?_map, List.getElem?_take, List.getElem?_drop]
    by_cases hj : j < ln
    · rw [List.getElem?_range hj, if_pos hj, List.getElem?_eq_getElem (by omega)]
      exact congrArg some (getB_in (List.getElem?_eq_getElem (by omega)))
    · rw [List.getElem?_eq_none (by simp; omega), if_neg hj]; rfl
  rw [hl] at hr
  refine ⟨p, cp, rfl, keep_cmn hb, ⟨⟨m, G, V, ?_, e1, e2, e3, e4⟩, h.low.trans (Fil.lowC hb h.low.size), h.al, h.sl⟩, hr⟩
  rw [show (i + 1) * 20000 = i * 20000 + 20000 by omega]; exact F'

/-- There. -/
theorem fi_there (h : FI w1 w c s vs nb i a k Ws) : Calls Tryz.prog 16 #[.pointer (some ⟨a, 0, none⟩)] w fun e w' => ∃ bs : By, e = .returned (.slice (some ⟨w.heap.size, 0, none⟩) 44 44) ∧ FI w1 w' c s vs nb i a k Ws ∧ Keep9 w w' ∧ bs.length = 44 ∧ (numOf bs 0).toNat = Ws.length ∧ w'.heap[w.heap.size]? = some (.cells (bs.map u8v).toArray 5 (0, 0)) ∧
      (∀ W a2, Below w'.heap.size w' W → w1.heap.size ≤ a2 → InoAt W a2 (numOf bs 0).toNat (numsOf bs) → FI w1 W c s vs nb (i + 1) a2 k Ws) := by
  obtain ⟨m, G, V, hF, e1, e2, e3, e4⟩ := h.ex
  have hle := h.le
  have hbv : (BitVec.ofNat 32 Ws.length).toNat = Ws.length := by rw [BitVec.toNat_ofNat, Nat.mod_eq_of_lt (by omega)]
  refine (ibytes_any a (BitVec.ofNat 32 Ws.length) (nums G) (nums_length G) w (by rw [hbv]; exact hF.ino)).mono ?_
  rintro e w' ⟨rfl, hx, hB⟩
  refine ⟨inoBytes (BitVec.ofNat 32 Ws.length) (nums G), rfl, h.below hB, Keep9.below hB, ?_, by rw [num_ino, hbv], hx, ?_⟩
  · unfold inoBytes
    rw [List.length_append, le4_length, flat4_length, nums_length]
  · intro W a2 hW ha2 hi2
    rw [num_ino, nums_ino _ _ (nums_length G), hbv] at hi2
    have h2 := (h.below hB).below hW
    obtain ⟨m', G', V', hF', f1, f2, f3, f4⟩ := h2.more.ex
    have hF2 := ((hF.below hB).below hW)
    refine ⟨⟨m, G, V, ⟨hi2, hF2.lc.more (by omega), hF2.map, hF2.file, hF2.nn, hF2.pos, hF2.tight⟩, e1, e2, e3, e4⟩, h2.low, ha2, h.sl⟩

end
end Go.Proofs.YtebdgcoandfocaaGreatDoor

/-
  InodeAll: what a read gave against what is wanted (printed by mkread9.py).
-/
namespace Go.Proofs.YtebdgcoandfocaaGreatDoor
open Go.RowKit Go.Maps Go.Sort Go.Shelf

def rd1L (g f t L : Nat) (p4 : Option Addr) (ln cp4 : Nat) (S : ByteArray) : List (Option Tmp × Value) := [(some 212, .int .i64 0), (some 213, .bool false), (some 214, .bool false), (some 215, .slice p4 ln cp4), (some 216, .string S), (some 217, .slice (some ⟨g, 0, none⟩) L L), (some 218, .int .i64 (f : Nat)), (some 219, .int .i64 (t : Nat)), (some 220, .slice (some ⟨g, f, none⟩) (t - f) (L - f)), (some 221, .string S), (some 222, .bool false), (some 223, .bool false)]

set_option maxRecDepth 8000 in
set_option maxHeartbeats 4000000 in
theorem rd1 {Q : Exit → Act → World → Prop} {base : Array Value} {dd : List Deferred} {ops : Array Oper} (hops : Tryz.f3.body.bind (regI 52) = some ops) (g f t L : Nat) (p4 : Option Addr) (ln cp4 : Nat) (S : ByteArray) (w9 : World) (hsz : base.size = 288)
    (b18 : base.getD 18 undef = .int .i64 0)
    (b17 : base.getD 17 undef = .slice p4 ln cp4)
    (b9 : base.getD 9 undef = .slice (some ⟨g, 0, none⟩) L L)
    (b19 : base.getD 19 undef = .int .i64 (f : Nat))
    (b20 : base.getD 20 undef = .int .i64 (t : Nat))
    (s1 : ∀ W, Below w9.heap.size w9 W → (convert 30 9 (.slice p4 ln cp4)).run Tryz.prog W = .ok (.string S) W)
    (s2 : ∀ W, Below w9.heap.size w9 W → (convert 30 9 (.slice (some ⟨g, f, none⟩) (t - f) (L - f))).run Tryz.prog W = .ok (.string S) W)
    (h1 : f ≤ t) (h2 : t ≤ L) (h4 : ¬ L = f)
    (hQ : ∀ W, Below w9.heap.size w9 W → Q .normal ⟨putAll base (rd1L g f t L p4 ln cp4 S), dd⟩ W) :
    (Code.region 52 ops true).wp Tryz.prog Q ⟨base, dd⟩ w9 := by
  have hmix : Tryz.prog.follows .mixedOrders = true := by kernel_rfl
  have h2 := (show Tryz.f3.body.bind (regI 52) = some _ from rfl).symm.trans hops
  obtain rfl := Option.some.inj h2
  clear h2 hops
  have below9 : Below w9.heap.size w9 w9.drew := (Below.refl _ _).drew
  obtain ⟨LL, hLe⟩ : ∃ LL : List (Option Tmp × Value), LL = [(some 212, .int .i64 0), (some 213, .bool false), (some 214, .bool false), (some 215, .slice p4 ln cp4), (some 216, .string S), (some 217, .slice (some ⟨g, 0, none⟩) L L), (some 218, .int .i64 (f : Nat)), (some 219, .int .i64 (t : Nat)), (some 220, .slice (some ⟨g, f, none⟩) (t - f) (L - f)), (some 221, .string S), (some 222, .bool false), (some 223, .bool false)] := ⟨_, rfl⟩
  have vv0 : vals LL 0 = .int .i64 0 := by rw [hLe]; rfl
  have vv1 : vals LL 1 = .bool false := by rw [hLe]; rfl
  have vv2 : vals LL 2 = .bool false := by rw [hLe]; rfl
  have vv3 : vals LL 3 = .slice p4 ln cp4 := by rw [hLe]; rfl
  have vv4 : vals LL 4 = .string S := by rw [hLe]; rfl
  have vv5 : vals LL 5 = .slice (some ⟨g, 0, none⟩) L L := by rw [hLe]; rfl
  have vv6 : vals LL 6 = .int .i64 (f : Nat) := by rw [hLe]; rfl
  have vv7 : vals LL 7 = .int .i64 (t : Nat) := by rw [hLe]; rfl
  have vv8 : vals LL 8 = .slice (some ⟨g, f, none⟩) (t - f) (L - f) := by rw [hLe]; rfl
  have vv9 : vals LL 9 = .string S := by rw [hLe]; rfl
  have vv10 : vals LL 10 = .bool false := by rw [hLe]; rfl
  have vv11 : vals LL 11 = .bool false := by rw [hLe]; rfl
  refine region_laid hmix (by kernel_rfl) 288 hsz (by kernel_rfl) LL (by rw [hLe]; rfl) (fun _ W => Below w9.heap.size w9 W) below9 ?_ ?_
  · intro b W i o a hS hcl ho hb hd ev kp yl
    match i with
    | 0 =>
      simp only [List.getElem?_toArray, List.getElem?_cons_zero, Option.some.injEq] at ho
      subst ho
      have e18 : a.tmps[18]?.getD undef = .int .i64 0 := (kp 18 (by kernel_rfl)).trans b18
      rw [vv0]
      refine does_value rfl (by intro c h; cases h) (w' := W) ?_ (hS)
      · simp [execOp, go_sem, e18]
    | 1 =>
      simp only [List.getElem?_toArray, List.getElem?_cons_zero, List.getElem?_cons_succ, Option.some.injEq] at ho
      subst ho
      have p0 : b 0 = true := hd ⟨0, .data⟩ (by simp) rfl
      have e212 := (ev 0 212 rfl p0).trans vv0
      rw [vv1]
      refine does_value rfl (by intro c h; cases h) (w' := W) ?_ (hS)
      · simp [execOp, go_sem, e212]
    | 2 =>
      simp only [List.getElem?_toArray, List.getElem?_cons_zero, List.getElem?_cons_succ, Option.some.injEq] at ho
      subst ho
      have p1 : b 1 = true := hd ⟨1, .data⟩ (by simp) rfl
      have e213 := (ev 1 213 rfl p1).trans vv1
      rw [vv2]
      refine does_value rfl (by intro c h; cases h) (w' := W) ?_ (hS)
      · simp [execOp, go_sem, e213]
    | 3 =>
      simp only [List.getElem?_toArray, List.getElem?_cons_zero, List.getElem?_cons_succ, Option.some.injEq] at ho
      subst ho
      have p2 : b 2 = true := hd ⟨2, .guard⟩ (by simp) rfl
      have e17 : a.tmps[17]?.getD undef = .slice p4 ln cp4 := (kp 17 (by kernel_rfl)).trans b17
      rw [vv3]
      refine does_value_g rfl (yl 2 214 false rfl p2 vv2) (by intro c h; cases h) (w' := W) ?_ (hS)
      · simp [execOp, go_sem, e17]
    | 4 =>
      simp only [List.getElem?_toArray, List.getElem?_cons_zero, List.getElem?_cons_succ, Option.some.injEq] at ho
      subst ho
      have p3 : b 3 = true := hd ⟨3, .data⟩ (by simp) rfl
      have p2 : b 2 = true := hd ⟨2, .guard⟩ (by simp) rfl
      have e215 := (ev 3 215 rfl p3).trans vv3
      have hcv := s1 W hS
      rw [vv4]
      refine does_value_g rfl (yl 2 214 false rfl p2 vv2) (by intro c h; cases h) (w' := W) ?_ (hS)
      · simp [execOp, go_sem, e215, hcv]
    | 5 =>
      simp only [List.getElem?_toArray, List.getElem?_cons_zero, List.getElem?_cons_succ, Option.some.injEq] at ho
      subst ho
      have p2 : b 2 = true := hd ⟨2, .guard⟩ (by simp) rfl
      have e9 : a.tmps[9]?.getD undef = .slice (some ⟨g, 0, none⟩) L L := (kp 9 (by kernel_rfl)).trans b9
      rw [vv5]
      refine does_value_g rfl (yl 2 214 false rfl p2 vv2) (by intro c h; cases h) (w' := W) ?_ (hS)
      · simp [execOp, go_sem, e9]
    | 6 =>
      simp only [List.getElem?_toArray, List.getElem?_cons_zero, List.getElem?_cons_succ, Option.some.injEq] at ho
      subst ho
      have p2 : b 2 = true := hd ⟨2, .guard⟩ (by simp) rfl
      have e19 : a.tmps[19]?.getD undef = .int .i64 (f : Nat) := (kp 19 (by kernel_rfl)).trans b19
      rw [vv6]
      refine does_value_g rfl (yl 2 214 false rfl p2 vv2) (by intro c h; cases h) (w' := W) ?_ (hS)
      · simp [execOp, go_sem, e19]
    | 7 =>
      simp only [List.getElem?_toArray, List.getElem?_cons_zero, List.getElem?_cons_succ, Option.some.injEq] at ho
      subst ho
      have p2 : b 2 = true := hd ⟨2, .guard⟩ (by simp) rfl
      have e20 : a.tmps[20]?.getD undef = .int .i64 (t : Nat) := (kp 20 (by kernel_rfl)).trans b20
      rw [vv7]
      refine does_value_g rfl (yl 2 214 false rfl p2 vv2) (by intro c h; cases h) (w' := W) ?_ (hS)
      · simp [execOp, go_sem, e20]
    | 8 =>
      simp only [List.getElem?_toArray, List.getElem?_cons_zero, List.getElem?_cons_succ, Option.some.injEq] at ho
      subst ho
      have p5 : b 5 = true := hd ⟨5, .data⟩ (by simp) rfl
      have p6 : b 6 = true := hd ⟨6, .data⟩ (by simp) rfl
      have p7 : b 7 = true := hd ⟨7, .data⟩ (by simp) rfl
      have p2 : b 2 = true := hd ⟨2, .guard⟩ (by simp) rfl
      have e217 := (ev 5 217 rfl p5).trans vv5
      have e218 := (ev 6 218 rfl p6).trans vv6
      have e219 := (ev 7 219 rfl p7).trans vv7
      rw [vv8]
      refine does_value_g rfl (yl 2 214 false rfl p2 vv2) (by intro c h; cases h) (w' := W) ?_ (hS)
      · simp [execOp, go_sem, e217, e218, e219, h1, h2, h4]
    | 9 =>
      simp only [List.getElem?_toArray, List.getElem?_cons_zero, List.getElem?_cons_succ, Option.some.injEq] at ho
      subst ho
      have p8 : b 8 = true := hd ⟨8, .data⟩ (by simp) rfl
      have p2 : b 2 = true := hd ⟨2, .guard⟩ (by simp) rfl
      have e220 := (ev 8 220 rfl p8).trans vv8
      have hcv := s2 W hS
      rw [vv9]
      refine does_value_g rfl (yl 2 214 false rfl p2 vv2) (by intro c h; cases h) (w' := W) ?_ (hS)
      · simp [execOp, go_sem, e220, hcv]
    | 10 =>
      simp only [List.getElem?_toArray, List.getElem?_cons_zero, List.getElem?_cons_succ, Option.some.injEq] at ho
      subst ho
      have p4 : b 4 = true := hd ⟨4, .data⟩ (by simp) rfl
      have p9 : b 9 = true := hd ⟨9, .data⟩ (by simp) rfl
      have p2 : b 2 = true := hd ⟨2, .guard⟩ (by simp) rfl
      have e216 := (ev 4 216 rfl p4).trans vv4
      have e221 := (ev 9 221 rfl p9).trans vv9
      rw [vv10]
      refine does_value_g rfl (yl 2 214 false rfl p2 vv2) (by intro c h; cases h) (w' := W) ?_ (hS)
      · simp [execOp, go_sem, e216, e221]
    | 11 =>
      simp only [List.getElem?_toArray, List.getElem?_cons_zero, List.getElem?_cons_succ, Option.some.injEq] at ho
      subst ho
      have p2 : b 2 = true := hd ⟨2, .data⟩ (by simp) rfl
      have p10 : b 10 = true := hd ⟨10, .data⟩ (by simp) rfl
      have e214 := (ev 2 214 rfl p2).trans vv2
      have e222 := (ev 10 222 rfl p10).trans vv10
      rw [vv11]
      refine does_value rfl (by intro c h; cases h) (w' := W) ?_ (hS)
      · simp [execOp, go_sem, e214, e222]
    | k + 12 => simp at ho
  · intro b' W hS _
    subst hLe
    exact hQ W hS

def rd2L (g L : Nat) (p4 : Option Addr) (ln cp4 : Nat) (S : ByteArray) : List (Option Tmp × Value) := [(some 212, .int .i64 0), (some 213, .bool false), (some 214, .bool false), (some 215, .slice p4 ln cp4), (some 216, .string S), (some 217, .slice (some ⟨g, 0, none⟩) L L), (some 218, .int .i64 (L : Nat)), (some 219, .int .i64 (L : Nat)), (some 220, .slice (some ⟨g, 0, none⟩) 0 0), (some 221, .string S), (some 222, .bool false), (some 223, .bool false)]

set_option maxRecDepth 8000 in
set_option maxHeartbeats 4000000 in
theorem rd2 {Q : Exit → Act → World → Prop} {base : Array Value} {dd : List Deferred} {ops : Array Oper} (hops : Tryz.f3.body.bind (regI 52) = some ops) (g L : Nat) (p4 : Option Addr) (ln cp4 : Nat) (S : ByteArray) (w9 : World) (hsz : base.size = 288)
    (b18 : base.getD 18 undef = .int .i64 0)
    (b17 : base.getD 17 undef = .slice p4 ln cp4)
    (b9 : base.getD 9 undef = .slice (some ⟨g, 0, none⟩) L L)
    (b19 : base.getD 19 undef = .int .i64 (L : Nat))
    (b20 : base.getD 20 undef = .int .i64 (L : Nat))
    (s1 : ∀ W, Below w9.heap.size w9 W → (convert 30 9 (.slice p4 ln cp4)).run Tryz.prog W = .ok (.string S) W)
    (s2 : ∀ W, Below w9.heap.size w9 W → (convert 30 9 (.slice (some ⟨g, 0, none⟩) 0 0)).run Tryz.prog W = .ok (.string S) W)
    
    (hQ : ∀ W, Below w9.heap.size w9 W → Q .normal ⟨putAll base (rd2L g L p4 ln cp4 S), dd⟩ W) :
    (Code.region 52 ops true).wp Tryz.prog Q ⟨base, dd⟩ w9 := by
  have hmix : Tryz.prog.follows .mixedOrders = true := by kernel_rfl
  have h2 := (show Tryz.f3.body.bind (regI 52) = some _ from rfl).symm.trans hops
  obtain rfl := Option.some.inj h2
  clear h2 hops
  have below9 : Below w9.heap.size w9 w9.drew := (Below.refl _ _).drew
  obtain ⟨LL, hLe⟩ : ∃ LL : List (Option Tmp × Value), LL = [(some 212, .int .i64 0), (some 213, .bool false), (some 214, .bool false), (some 215, .slice p4 ln cp4), (some 216, .string S), (some 217, .slice (some ⟨g, 0, none⟩) L L), (some 218, .int .i64 (L : Nat)), (some 219, .int .i64 (L : Nat)), (some 220, .slice (some ⟨g, 0, none⟩) 0 0), (some 221, .string S), (some 222, .bool false), (some 223, .bool false)] := ⟨_, rfl⟩
  have vv0 : vals LL 0 = .int .i64 0 := by rw [hLe]; rfl
  have vv1 : vals LL 1 = .bool false := by rw [hLe]; rfl
  have vv2 : vals LL 2 = .bool false := by rw [hLe]; rfl
  have vv3 : vals LL 3 = .slice p4 ln cp4 := by rw [hLe]; rfl
  have vv4 : vals LL 4 = .string S := by rw [hLe]; rfl
  have vv5 : vals LL 5 = .slice (some ⟨g, 0, none⟩) L L := by rw [hLe]; rfl
  have vv6 : vals LL 6 = .int .i64 (L : Nat) := by rw [hLe]; rfl
  have vv7 : vals LL 7 = .int .i64 (L : Nat) := by rw [hLe]; rfl
  have vv8 : vals LL 8 = .slice (some ⟨g, 0, none⟩) 0 0 := by rw [hLe]; rfl
  have vv9 : vals LL 9 = .string S := by rw [hLe]; rfl
  have vv10 : vals LL 10 = .bool false := by rw [hLe]; rfl
  have vv11 : vals LL 11 = .bool false := by rw [hLe]; rfl
  refine region_laid hmix (by kernel_rfl) 288 hsz (by kernel_rfl) LL (by rw [hLe]; rfl) (fun _ W => Below w9.heap.size w9 W) below9 ?_ ?_
  · intro b W i o a hS hcl ho hb hd ev kp yl
    match i with
    | 0 =>
      simp only [List.getElem?_toArray, List.getElem?_cons_zero, Option.some.injEq] at ho
      subst ho
      have e18 : a.tmps[18]?.getD undef = .int .i64 0 := (kp 18 (by kernel_rfl)).trans b18
      rw [vv0]
      refine does_value rfl (by intro c h; cases h) (w' := W) ?_ (hS)
      · simp [execOp, go_sem, e18]
    | 1 =>
      simp only [List.getElem?_toArray, List.getElem?_cons_zero, List.getElem?_cons_succ, Option.some.injEq] at ho
      subst ho
      have p0 : b 0 = true := hd ⟨0, .data⟩ (by simp) rfl
      have e212 := (ev 0 212 rfl p0).trans vv0
      rw [vv1]
      refine does_value rfl (by intro c h; cases h) (w' := W) ?_ (hS)
      · simp [execOp, go_sem, e212]
    | 2 =>
      simp only [List.getElem?_toArray, List.getElem?_cons_zero, List.getElem?_cons_succ, Option.some.injEq] at ho
      subst ho
      have p1 : b 1 = true := hd ⟨1, .data⟩ (by simp) rfl
      have e213 := (ev 1 213 rfl p1).trans vv1
      rw [vv2]
      refine does_value rfl (by intro c h; cases h) (w' := W) ?_ (hS)
      · simp [execOp, go_sem, e213]
    | 3 =>
      simp only [List.getElem?_toArray, List.getElem?_cons_zero, List.getElem?_cons_succ, Option.some.injEq] at ho
      subst ho
      have p2 : b 2 = true := hd ⟨2, .guard⟩ (by simp) rfl
      have e17 : a.tmps[17]?.getD undef = .slice p4 ln cp4 := (kp 17 (by kernel_rfl)).trans b17
      rw [vv3]
      refine does_value_g rfl (yl 2 214 false rfl p2 vv2) (by intro c h; cases h) (w' := W) ?_ (hS)
      · simp [execOp, go_sem, e17]
    | 4 =>
      simp only [List.getElem?_toArray, List.getElem?_cons_zero, List.getElem?_cons_succ, Option.some.injEq] at ho
      subst ho
      have p3 : b 3 = true := hd ⟨3, .data⟩ (by simp) rfl
      have p2 : b 2 = true := hd ⟨2, .guard⟩ (by simp) rfl
      have e215 := (ev 3 215 rfl p3).trans vv3
      have hcv := s1 W hS
      rw [vv4]
      refine does_value_g rfl (yl 2 214 false rfl p2 vv2) (by intro c h; cases h) (w' := W) ?_ (hS)
      · simp [execOp, go_sem, e215, hcv]
    | 5 =>
      simp only [List.getElem?_toArray, List.getElem?_cons_zero, List.getElem?_cons_succ, Option.some.injEq] at ho
      subst ho
      have p2 : b 2 = true := hd ⟨2, .guard⟩ (by simp) rfl
      have e9 : a.tmps[9]?.getD undef = .slice (some ⟨g, 0, none⟩) L L := (kp 9 (by kernel_rfl)).trans b9
      rw [vv5]
      refine does_value_g rfl (yl 2 214 false rfl p2 vv2) (by intro c h; cases h) (w' := W) ?_ (hS)
      · simp [execOp, go_sem, e9]
    | 6 =>
      simp only [List.getElem?_toArray, List.getElem?_cons_zero, List.getElem?_cons_succ, Option.some.injEq] at ho
      subst ho
      have p2 : b 2 = true := hd ⟨2, .guard⟩ (by simp) rfl
      have e19 : a.tmps[19]?.getD undef = .int .i64 (L : Nat) := (kp 19 (by kernel_rfl)).trans b19
      rw [vv6]
      refine does_value_g rfl (yl 2 214 false rfl p2 vv2) (by intro c h; cases h) (w' := W) ?_ (hS)
      · simp [execOp, go_sem, e19]
    | 7 =>
      simp only [List.getElem?_toArray, List.getElem?_cons_zero, List.getElem?_cons_succ, Option.some.injEq] at ho
      subst ho
      have p2 : b 2 = true := hd ⟨2, .guard⟩ (by simp) rfl
      have e20 : a.tmps[20]?.getD undef = .int .i64 (L : Nat) := (kp 20 (by kernel_rfl)).trans b20
      rw [vv7]
      refine does_value_g rfl (yl 2 214 false rfl p2 vv2) (by intro c h; cases h) (w' := W) ?_ (hS)
      · simp [execOp, go_sem, e20]
    | 8 =>
      simp only [List.getElem?_toArray, List.getElem?_cons_zero, List.getElem?_cons_succ, Option.some.injEq] at ho
      subst ho
      have p5 : b 5 = true := hd ⟨5, .data⟩ (by simp) rfl
      have p6 : b 6 = true := hd ⟨6, .data⟩ (by simp) rfl
      have p7 : b 7 = true := hd ⟨7, .data⟩ (by simp) rfl
      have p2 : b 2 = true := hd ⟨2, .guard⟩ (by simp) rfl
      have e217 := (ev 5 217 rfl p5).trans vv5
      have e218 := (ev 6 218 rfl p6).trans vv6
      have e219 := (ev 7 219 rfl p7).trans vv7
      rw [vv8]
      refine does_value_g rfl (yl 2 214 false rfl p2 vv2) (by intro c h; cases h) (w' := W) ?_ (hS)
      · simp [execOp, go_sem, e217, e218, e219]
    | 9 =>
      simp only [List.getElem?_toArray, List.getElem?_cons_zero, List.getElem?_cons_succ, Option.some.injEq] at ho
      subst ho
      have p8 : b 8 = true := hd ⟨8, .data⟩ (by simp) rfl
      have p2 : b 2 = true := hd ⟨2, .guard⟩ (by simp) rfl
      have e220 := (ev 8 220 rfl p8).trans vv8
      have hcv := s2 W hS
      rw [vv9]
      refine does_value_g rfl (yl 2 214 false rfl p2 vv2) (by intro c h; cases h) (w' := W) ?_ (hS)
      · simp [execOp, go_sem, e220, hcv]
    | 10 =>
      simp only [List.getElem?_toArray, List.getElem?_cons_zero, List.getElem?_cons_succ, Option.some.injEq] at ho
      subst ho
      have p4 : b 4 = true := hd ⟨4, .data⟩ (by simp) rfl
      have p9 : b 9 = true := hd ⟨9, .data⟩ (by simp) rfl
      have p2 : b 2 = true := hd ⟨2, .guard⟩ (by simp) rfl
      have e216 := (ev 4 216 rfl p4).trans vv4
      have e221 := (ev 9 221 rfl p9).trans vv9
      rw [vv10]
      refine does_value_g rfl (yl 2 214 false rfl p2 vv2) (by intro c h; cases h) (w' := W) ?_ (hS)
      · simp [execOp, go_sem, e216, e221]
    | 11 =>
      simp only [List.getElem?_toArray, List.getElem?_cons_zero, List.getElem?_cons_succ, Option.some.injEq] at ho
      subst ho
      have p2 : b 2 = true := hd ⟨2, .data⟩ (by simp) rfl
      have p10 : b 10 = true := hd ⟨10, .data⟩ (by simp) rfl
      have e214 := (ev 2 214 rfl p2).trans vv2
      have e222 := (ev 10 222 rfl p10).trans vv10
      rw [vv11]
      refine does_value rfl (by intro c h; cases h) (w' := W) ?_ (hS)
      · simp [execOp, go_sem, e214, e222]
    | k + 12 => simp at ho
  · intro b' W hS _
    subst hLe
    exact hQ W hS

def rd3L (L : Nat) (p4 : Option Addr) (ln cp4 : Nat) (S : ByteArray) : List (Option Tmp × Value) := [(some 212, .int .i64 0), (some 213, .bool false), (some 214, .bool false), (some 215, .slice p4 ln cp4), (some 216, .string S), (some 217, .slice none L L), (some 218, .int .i64 (L : Nat)), (some 219, .int .i64 (L : Nat)), (some 220, .slice none 0 0), (some 221, .string S), (some 222, .bool false), (some 223, .bool false)]

set_option maxRecDepth 8000 in
set_option maxHeartbeats 4000000 in
theorem rd3 {Q : Exit → Act → World → Prop} {base : Array Value} {dd : List Deferred} {ops : Array Oper} (hops : Tryz.f3.body.bind (regI 52) = some ops) (L : Nat) (p4 : Option Addr) (ln cp4 : Nat) (S : ByteArray) (w9 : World) (hsz : base.size = 288)
    (b18 : base.getD 18 undef = .int .i64 0)
    (b17 : base.getD 17 undef = .slice p4 ln cp4)
    (b9 : base.getD 9 undef = .slice none L L)
    (b19 : base.getD 19 undef = .int .i64 (L : Nat))
    (b20 : base.getD 20 undef = .int .i64 (L : Nat))
    (s1 : ∀ W, Below w9.heap.size w9 W → (convert 30 9 (.slice p4 ln cp4)).run Tryz.prog W = .ok (.string S) W)
    (s2 : ∀ W, Below w9.heap.size w9 W → (convert 30 9 (.slice none 0 0)).run Tryz.prog W = .ok (.string S) W)
    (h0 : L = 0)
    (hQ : ∀ W, Below w9.heap.size w9 W → Q .normal ⟨putAll base (rd3L L p4 ln cp4 S), dd⟩ W) :
    (Code.region 52 ops true).wp Tryz.prog Q ⟨base, dd⟩ w9 := by
  have hmix : Tryz.prog.follows .mixedOrders = true := by kernel_rfl
  have h2 := (show Tryz.f3.body.bind (regI 52) = some _ from rfl).symm.trans hops
  obtain rfl := Option.some.inj h2
  clear h2 hops
  have below9 : Below w9.heap.size w9 w9.drew := (Below.refl _ _).drew
  obtain ⟨LL, hLe⟩ : ∃ LL : List (Option Tmp × Value), LL = [(some 212, .int .i64 0), (some 213, .bool false), (some 214, .bool false), (some 215, .slice p4 ln cp4), (some 216, .string S), (some 217, .slice none L L), (some 218, .int .i64 (L : Nat)), (some 219, .int .i64 (L : Nat)), (some 220, .slice none 0 0), (some 221, .string S), (some 222, .bool false), (some 223, .bool false)] := ⟨_, rfl⟩
  have vv0 : vals LL 0 = .int .i64 0 := by rw [hLe]; rfl
  have vv1 : vals LL 1 = .bool false := by rw [hLe]; rfl
  have vv2 : vals LL 2 = .bool false := by rw [hLe]; rfl
  have vv3 : vals LL 3 = .slice p4 ln cp4 := by rw [hLe]; rfl
  have vv4 : vals LL 4 = .string S := by rw [hLe]; rfl
  have vv5 : vals LL 5 = .slice none L L := by rw [hLe]; rfl
  have vv6 : vals LL 6 = .int .i64 (L : Nat) := by rw [hLe]; rfl
  have vv7 : vals LL 7 = .int .i64 (L : Nat) := by rw [hLe]; rfl
  have vv8 : vals LL 8 = .slice none 0 0 := by rw [hLe]; rfl
  have vv9 : vals LL 9 = .string S := by rw [hLe]; rfl
  have vv10 : vals LL 10 = .bool false := by rw [hLe]; rfl
  have vv11 : vals LL 11 = .bool false := by rw [hLe]; rfl
  refine region_laid hmix (by kernel_rfl) 288 hsz (by kernel_rfl) LL (by rw [hLe]; rfl) (fun _ W => Below w9.heap.size w9 W) below9 ?_ ?_
  · intro b W i o a hS hcl ho hb hd ev kp yl
    match i with
    | 0 =>
      simp only [List.getElem?_toArray, List.getElem?_cons_zero, Option.some.injEq] at ho
      subst ho
      have e18 : a.tmps[18]?.getD undef = .int .i64 0 := (kp 18 (by kernel_rfl)).trans b18
      rw [vv0]
      refine does_value rfl (by intro c h; cases h) (w' := W) ?_ (hS)
      · simp [execOp, go_sem, e18]
    | 1 =>
      simp only [List.getElem?_toArray, List.getElem?_cons_zero, List.getElem?_cons_succ, Option.some.injEq] at ho
      subst ho
      have p0 : b 0 = true := hd ⟨0, .data⟩ (by simp) rfl
      have e212 := (ev 0 212 rfl p0).trans vv0
      rw [vv1]
      refine does_value rfl (by intro c h; cases h) (w' := W) ?_ (hS)
      · simp [execOp, go_sem, e212]
    | 2 =>
      simp only [List.getElem?_toArray, List.getElem?_cons_zero, List.getElem?_cons_succ, Option.some.injEq] at ho
      subst ho
      have p1 : b 1 = true := hd ⟨1, .data⟩ (by simp) rfl
      have e213 := (ev 1 213 rfl p1).trans vv1
      rw [vv2]
      refine does_value rfl (by intro c h; cases h) (w' := W) ?_ (hS)
      · simp [execOp, go_sem, e213]
    | 3 =>
      simp only [List.getElem?_toArray, List.getElem?_cons_zero, List.getElem?_cons_succ, Option.some.injEq] at ho
      subst ho
      have p2 : b 2 = true := hd ⟨2, .guard⟩ (by simp) rfl
      have e17 : a.tmps[17]?.getD undef = .slice p4 ln cp4 := (kp 17 (by kernel_rfl)).trans b17
      rw [vv3]
      refine does_value_g rfl (yl 2 214 false rfl p2 vv2) (by intro c h; cases h) (w' := W) ?_ (hS)
      · simp [execOp, go_sem, e17]
    | 4 =>
      simp only [List.getElem?_toArray, List.getElem?_cons_zero, List.getElem?_cons_succ, Option.some.injEq] at ho
      subst ho
      have p3 : b 3 = true := hd ⟨3, .data⟩ (by simp) rfl
      have p2 : b 2 = true := hd ⟨2, .guard⟩ (by simp) rfl
      have e215 := (ev 3 215 rfl p3).trans vv3
      have hcv := s1 W hS
      rw [vv4]
      refine does_value_g rfl (yl 2 214 false rfl p2 vv2) (by intro c h; cases h) (w' := W) ?_ (hS)
      · simp [execOp, go_sem, e215, hcv]
    | 5 =>
      simp only [List.getElem?_toArray, List.getElem?_cons_zero, List.getElem?_cons_succ, Option.some.injEq] at ho
      subst ho
      have p2 : b 2 = true := hd ⟨2, .guard⟩ (by simp) rfl
      have e9 : a.tmps[9]?.getD undef = .slice none L L := (kp 9 (by kernel_rfl)).trans b9
      rw [vv5]
      refine does_value_g rfl (yl 2 214 false rfl p2 vv2) (by intro c h; cases h) (w' := W) ?_ (hS)
      · simp [execOp, go_sem, e9]
    | 6 =>
      simp only [List.getElem?_toArray, List.getElem?_cons_zero, List.getElem?_cons_succ, Option.some.injEq] at ho
      subst ho
      have p2 : b 2 = true := hd ⟨2, .guard⟩ (by simp) rfl
      have e19 : a.tmps[19]?.getD undef = .int .i64 (L : Nat) := (kp 19 (by kernel_rfl)).trans b19
      rw [vv6]
      refine does_value_g rfl (yl 2 214 false rfl p2 vv2) (by intro c h; cases h) (w' := W) ?_ (hS)
      · simp [execOp, go_sem, e19]
    | 7 =>
      simp only [List.getElem?_toArray, List.getElem?_cons_zero, List.getElem?_cons_succ, Option.some.injEq] at ho
      subst ho
      have p2 : b 2 = true := hd ⟨2, .guard⟩ (by simp) rfl
      have e20 : a.tmps[20]?.getD undef = .int .i64 (L : Nat) := (kp 20 (by kernel_rfl)).trans b20
      rw [vv7]
      refine does_value_g rfl (yl 2 214 false rfl p2 vv2) (by intro c h; cases h) (w' := W) ?_ (hS)
      · simp [execOp, go_sem, e20]
    | 8 =>
      simp only [List.getElem?_toArray, List.getElem?_cons_zero, List.getElem?_cons_succ, Option.some.injEq] at ho
      subst ho
      have p5 : b 5 = true := hd ⟨5, .data⟩ (by simp) rfl
      have p6 : b 6 = true := hd ⟨6, .data⟩ (by simp) rfl
      have p7 : b 7 = true := hd ⟨7, .data⟩ (by simp) rfl
      have p2 : b 2 = true := hd ⟨2, .guard⟩ (by simp) rfl
      have e217 := (ev 5 217 rfl p5).trans vv5
      have e218 := (ev 6 218 rfl p6).trans vv6
      have e219 := (ev 7 219 rfl p7).trans vv7
      rw [vv8]
      refine does_value_g rfl (yl 2 214 false rfl p2 vv2) (by intro c h; cases h) (w' := W) ?_ (hS)
      · (subst h0; simp [execOp, go_sem, e217, e218, e219])
    | 9 =>
      simp only [List.getElem?_toArray, List.getElem?_cons_zero, List.getElem?_cons_succ, Option.some.injEq] at ho
      subst ho
      have p8 : b 8 = true := hd ⟨8, .data⟩ (by simp) rfl
      have p2 : b 2 = true := hd ⟨2, .guard⟩ (by simp) rfl
      have e220 := (ev 8 220 rfl p8).trans vv8
      have hcv := s2 W hS
      rw [vv9]
      refine does_value_g rfl (yl 2 214 false rfl p2 vv2) (by intro c h; cases h) (w' := W) ?_ (hS)
      · simp [execOp, go_sem, e220, hcv]
    | 10 =>
      simp only [List.getElem?_toArray, List.getElem?_cons_zero, List.getElem?_cons_succ, Option.some.injEq] at ho
      subst ho
      have p4 : b 4 = true := hd ⟨4, .data⟩ (by simp) rfl
      have p9 : b 9 = true := hd ⟨9, .data⟩ (by simp) rfl
      have p2 : b 2 = true := hd ⟨2, .guard⟩ (by simp) rfl
      have e216 := (ev 4 216 rfl p4).trans vv4
      have e221 := (ev 9 221 rfl p9).trans vv9
      rw [vv10]
      refine does_value_g rfl (yl 2 214 false rfl p2 vv2) (by intro c h; cases h) (w' := W) ?_ (hS)
      · simp [execOp, go_sem, e216, e221]
    | 11 =>
      simp only [List.getElem?_toArray, List.getElem?_cons_zero, List.getElem?_cons_succ, Option.some.injEq] at ho
      subst ho
      have p2 : b 2 = true := hd ⟨2, .data⟩ (by simp) rfl
      have p10 : b 10 = true := hd ⟨10, .data⟩ (by simp) rfl
      have e214 := (ev 2 214 rfl p2).trans vv2
      have e222 := (ev 10 222 rfl p10).trans vv10
      rw [vv11]
      refine does_value rfl (by intro c h; cases h) (w' := W) ?_ (hS)
      · simp [execOp, go_sem, e214, e222]
    | k + 12 => simp at ho
  · intro b' W hS _
    subst hLe
    exact hQ W hS

end Go.Proofs.YtebdgcoandfocaaGreatDoor

/-
  begun of the law of package inode, over the contracts for any file.
-/
namespace Go.Proofs.YtebdgcoandfocaaGreatDoor
open Go.RowKit Go.Maps Go.Sort Go.Shelf

theorem write_abc {w0 w : World} {a c : Nat} {vs : VS} {m : Bm.MS} {V : Nat → By} {b : Nat} (h : Fil w0 w a c vs m (fun _ => 0) V 0 (fun _ => 0) b) (hb : b + 30000 ≤ 700000) (hn : m.n = 20) (ht : Bm.Tab64 w) (h6 : 1 < w0.heap.size) (g : Nat) (fr : Nat × Nat) (hx : w.heap[g]? = some (.cells #[u8v 97#8, u8v 98#8, u8v 99#8] 5 fr)) :
    Calls Tryz.prog 11 #[.pointer (some ⟨a, 0, none⟩), ep c, .pointer (some ⟨m.a, 0, none⟩), .int .i64 700, .slice (some ⟨g, 0, none⟩) 3 3] w fun e w' => e = .returned (.int .i64 0) ∧ But (fun k => Cmn w0 w k ∨ k = m.b ∨ k = a) w w' ∧ ∃ m' G' V', m'.a = m.a ∧ m'.b = m.b ∧ m'.n = m.n ∧ Fil w0 w' a c vs m' G' V' 703 (Ino.wrote (fun _ => 0) 700 [97#8, 98#8, 99#8]) (b + 20000) ∧ 1 ≤ Ino.cnt G' := by
  refine (show Calls Tryz.prog 11 #[.pointer (some ⟨a, 0, none⟩), ep c, .pointer (some ⟨m.a, 0, none⟩), .int .i64 700, .slice (some ⟨g, 0, none⟩) 3 3] w _ from write_F h hb ht h6 g 0 3 700 [97#8, 98#8, 99#8] (bytes_block (bs := [97#8, 98#8, 99#8]) hx) (row_out hx) (by decide) (by decide) (by decide)).mono ?_
  rintro e w' ⟨hb5, ⟨rfl, m', G', V', ea, eb, en, F5, g1, _⟩ | ⟨_, hlt, _⟩⟩
  · refine ⟨rfl, hb5, m', G', V', ea, eb, en, F5, List.length_pos_of_mem (Ino.mem_hasL.2 ⟨(by decide : 1 < 131), g1 1 (by decide)⟩)⟩
  · exfalso
    have hfr := h.frees
    rw [show Ino.cnt (fun _ => 0) = 0 by decide, hn] at hfr
    rw [hn] at hlt
    rw [hfr, show Ino.costB (blocksOf (700 + [97#8, 98#8, 99#8].length)) = 2 by decide] at hlt
    omega

set_option maxRecDepth 8000 in
set_option maxHeartbeats 4000000 in
theorem begun9g_true (w : World) (ht : Tab w) (ht6 : Bm.Tab64 w) : Calls Tryz.prog 6 #[] w fun e w' => e = .returned (.bool true) ∧ Below w.heap.size w w' := by
  have cD : Calls Tryz.prog 7 #[.int .i64 20] w _ := disk_any 20 w ht ht6 (by omega) (by omega)
  have HT := hide (⟨ht, ht6⟩ : Tab w ∧ Bm.Tab64 w)
  clear ht ht6
  go_enter Tryz.func6, Tryz.ntmps6
  go_wp2_with (go_at_call 7; refine cD.mono ?_; rintro e w1 ⟨c, s, vs, rfl, hC1, hnb, hcont, hm1, hsl, hB1⟩; clear cD; refine Stop.out ?_)
  refine Stop.mk ?_
  have cN := inew_any w1
  have H1 := hide (⟨hC1, hnb, hm1, hsl, hB1⟩ : _ ∧ _ ∧ _ ∧ _ ∧ _)
  clear hC1 hnb hcont hm1 hsl hB1
  go_wp2_with (go_at_call 8; refine cN.mono ?_; rintro e w2 ⟨rfl, hi2, hB2⟩; clear cN; refine Stop.out ?_)
  refine Stop.mk ?_
  obtain ⟨hC1, hnb, hm1, hsl, hB1⟩ := H1.out
  obtain ⟨a, ha⟩ : ∃ a, w1.heap.size = a := ⟨_, rfl⟩
  rw [ha] at hi2 ⊢
  have F2 := Fil.start (by omega) hC1 hnb hm1 hB2 hi2
  have cv : (convert 30 30 (.slice (some ⟨w2.heap.size, 0, none⟩) 3 3)).run Tryz.prog (w2.alloc (.cells #[.int .u8 97, .int .u8 98, .int .u8 99] 5)) = .ok (.slice (some ⟨w2.heap.size, 0, none⟩) 3 3) (w2.alloc (.cells #[.int .u8 97, .int .u8 98, .int .u8 99] 5 (3, 4))) := Lib.run_convert_bytes_const w2 30 5 #[.int .u8 97, .int .u8 98, .int .u8 99] 3 3 Tryz.underlying30 Tryz.underlying5
  obtain ⟨w3, hw3⟩ : ∃ w3, w3 = w2.alloc (.cells #[.int .u8 97, .int .u8 98, .int .u8 99] 5 (3, 4)) := ⟨_, rfl⟩
  have hB3 : Below w2.heap.size w2 w3 := by rw [hw3]; exact (Below.refl _ w2).alloc (Nat.le_refl _) _
  have hx3 : w3.heap[w2.heap.size]? = some (.cells #[u8v 97#8, u8v 98#8, u8v 99#8] 5 (3, 4)) := by rw [hw3]; exact heap_alloc_new w2 _
  have hB13 : Below w1.heap.size w1 w3 := hB2.trans (hB3.mono hB2.size)
  have hB03 : Below w.heap.size w w3 := hB1.trans (hB13.mono hB1.size)
  have cW : Calls Tryz.prog 11 #[.pointer (some ⟨a, 0, none⟩), ep c, .pointer (some ⟨s + 1, 0, none⟩), .int .i64 700, .slice (some ⟨w2.heap.size, 0, none⟩) 3 3] w3 _ := write_abc (F2.below hB3) (by omega) rfl (HT.out.2.below hB03) HT.out.2.lt w2.heap.size (3, 4) hx3
  have hal : w.heap.size ≤ a := by rw [← ha]; exact hB1.size
  have H3 := hide (⟨hB03, hsl, hal⟩ : _ ∧ _ ∧ _)
  clear hC1 hnb hm1 hsl hB1 hi2 hB2 hB3 hx3 hB13 hB03 F2 H1 ha hal
  go_wp2_with (go_at_call 11; rw [← hw3]; refine cW.mono ?_; rintro e w4 ⟨rfl, hb4, m4, G4, V4, ea, eb, en, F4, q4⟩; clear cW cv hw3; refine Stop.out ?_)
  refine Stop.mk ?_
  have hB04 : Below w.heap.size w w4 := H3.out.1.trans (Fil.lowB hb4 H3.out.1.size H3.out.2.1 H3.out.2.2)
  have cR : Calls Tryz.prog 14 #[.pointer (some ⟨a, 0, none⟩), ep c, .int .i64 699, .int .i64 10] w4 _ := read_F F4 (by omega) 699 10 4 (by decide) (by decide) (by decide) (by decide)
  have ea' : m4.a = s + 1 := ea
  have en' : m4.n = 20 := en
  have H4 := hide (⟨hB04, ea', en', q4⟩ : _ ∧ _ ∧ _ ∧ _)
  clear hb4 ea eb en ea' en' F4 q4 hB04 H3
  go_wp2_with (go_at_call 14; refine cR.mono ?_; rintro e w5 ⟨F5, hb5, rfl, hr5⟩; clear cR; refine Stop.out ?_)
  refine Stop.mk ?_
  obtain ⟨og, hog⟩ : ∃ og, w4.heap.size = og := ⟨_, rfl⟩
  rw [hog] at hr5 ⊢
  have hlist : ((List.range 4).map fun i => Ino.wrote (fun _ => 0) 700 [97#8, 98#8, 99#8] (699 + i)) = [0#8, 97#8, 98#8, 99#8] := by decide
  rw [hlist] at hr5
  have hB05 : Below w.heap.size w w5 := H4.out.1.trans (Fil.lowC hb5 H4.out.1.size)
  have cB := ibytes_any a 703#32 (nums G4) (nums_length G4) w5 F5.ino
  have H5 := hide (⟨F5, hB05, hr5⟩ : _ ∧ _ ∧ _)
  clear F5 hb5 hr5 hB05 hog hlist
  go_wp2_with (go_at_call 16; refine cB.mono ?_; rintro e w6 ⟨rfl, hx6, hB6⟩; clear cB; refine Stop.out ?_)
  refine Stop.mk ?_
  obtain ⟨bs, hbs⟩ : ∃ bs, bs = inoBytes 703#32 (nums G4) := ⟨_, rfl⟩
  have hbl : bs.length = 44 := by rw [hbs]; unfold inoBytes; rw [List.length_append, le4_length, flat4_length, nums_length]
  have hn7 : (numOf bs 0).toNat = 703 := by rw [hbs, num_ino]; rfl
  rw [← hbs] at hx6
  have cL := load_ok (some ⟨w5.heap.size, 0, none⟩) bs 44 w6 (bytes_block hx6) (by omega) hbl (by omega)
  rw [hbl, hn7] at cL
  have H6 := hide hB6
  clear hbs hx6 hB6 hbl hn7
  go_wp2_with (go_at_call 15; refine cL.mono ?_; rintro e w7 ⟨rfl, hi7, hB7⟩; clear cL; refine Stop.out ?_)
  refine Stop.mk ?_
  obtain ⟨F5, hB05, hr5⟩ := H5.out
  have hB57 : Below w5.heap.size w5 w7 := H6.out.trans (hB7.mono H6.out.size)
  have hr7 : w7.heap[og]? = some (.cells ([0#8, 97#8, 98#8, 99#8].map u8v).toArray 5 (0, 0)) := (hB57.block og (Array.getElem?_eq_some_iff.1 hr5).1).trans hr5
  have hstr : (convert 30 9 (.slice (some ⟨og, 0, none⟩) 4 4)).run Tryz.prog w7 = .ok (.string ⟨#[0, 97, 98, 99]⟩) w7 := by
    have := run_str w7 (some ⟨og, 0, none⟩) [0#8, 97#8, 98#8, 99#8] 4 (bytes_block hr7)
    rw [str4] at this
    exact this
  have cS := isize_any w6.heap.size 703 _ w7 hi7
  have cF := free_F (F5.below hB57)
  rw [H4.out.2.1, H4.out.2.2.1] at cF
  have hq := H4.out.2.2.2
  obtain ⟨v, hv⟩ : ∃ v, 20 - 1 - Ino.cnt G4 = v := ⟨_, rfl⟩
  rw [hv] at cF
  have hv2 : (v : Int) < 19 := by omega
  have hv3 : v < 19 := by omega
  have cC := cost_any 513 w7
  rw [show costI 513 = 2 by decide] at cC
  have H7 := hide (hB05.trans (hB57.mono hB05.size))
  clear F5 hB05 hr5 hB57 hr7 hi7 hB7 hq hv H4 H5 H6
  go_wp2_with (first
    | (go_at_call 18; refine Calls_on cS ?_; clear cS)
    | (go_at_call 9; refine Calls_on cF ?_; clear cF)
    | (go_at_call 19; refine Calls_on cC ?_; clear cC))
  go_ret
  exact ⟨rfl, H7.out⟩

end Go.Proofs.YtebdgcoandfocaaGreatDoor

namespace Go.Proofs.YtebdgcoandfocaaGreatDoor
open Go.RowKit Go.Maps Go.Sort Go.Shelf

structure OpV9 where
  kd : Int
  at_ : Int
  n : Int
  p : Option Addr
  bs : By
  cp : Nat
def op9Cells (o : OpV9) : List Value := [.int .i64 o.kd, .int .i64 o.at_, .int .i64 o.n, .slice o.p o.bs.length o.cp]
/-- The operations that came in. -/
def OpsAt9 (w : World) (p : Option Addr) (l : List OpV9) : Prop := ∀ k o, l[k]? = some o → ∃ g f, p = some ⟨g, f, none⟩ ∧ (∀ j x, (op9Cells o)[j]? = some x → w.cell? ⟨g, f + k * 4 + j, none⟩ = some x) ∧ Bytes w o.p o.bs ∧ o.bs.length < 9223372036854775808 ∧ o.bs.length ≤ o.cp ∧ (-9223372036854775808 ≤ o.at_ ∧ o.at_ < 9223372036854775808) ∧ (-9223372036854775808 ≤ o.n ∧ o.n < 9223372036854775808)

/-- What the law's loop keeps: the file, the bytes that are wanted. -/
def LI (w1 w : World) (c s : Nat) (vs : VS) (nb i a L : Nat) (p : Option Addr) : Prop := ∃ k Ws, FI w1 w c s vs nb i a k Ws ∧ RowB w p Ws ∧ Ws.length = L ∧ ((p = none ∧ L = 0) ∨ ∃ g, p = some ⟨g, 0, none⟩)

/-- A block that is an operation. -/
theorem op9_cells {w w' : World} {B : Nat} {v0 v1 v2 v3 : Value} (h : w.heap[B]? = some (.cells #[v0, v1, v2, v3] 33 (0, 0))) (hk : Keep9 w w') : w'.cell? ⟨B, 0, none⟩ = some v0 ∧ w'.cell? ⟨B, 1, none⟩ = some v1 ∧ w'.cell? ⟨B, 2, none⟩ = some v2 ∧ w'.cell? ⟨B, 3, none⟩ = some v3 := by
  have := hk _ _ _ _ h (.inr rfl)
  exact ⟨by rw [cellOf this]; rfl, by rw [cellOf this]; rfl, by rw [cellOf this]; rfl, by rw [cellOf this]; rfl⟩

set_option maxRecDepth 8000 in
set_option maxHeartbeats 32000000 in
theorem all_law (blocks : Int) (nb : Nat) (h4 : 4 ≤ nb) (h200 : nb ≤ 200) (hnb : (4 ≤ blocks ∧ blocks ≤ 200 ∧ blocks = nb) ∨ ((blocks < 4 ∨ 200 < blocks) ∧ nb = 200)) (pl : Option Addr) (l : List OpV9) (cl : Nat) (w : World) (ht : Tab w) (ht6 : Bm.Tab64 w) (hops : OpsAt9 w pl l) (hl63 : l.length < 9223372036854775808) :
    Calls Tryz.prog 3 #[.int .i64 blocks, .slice pl l.length cl] w fun e w' => e = .returned (.bool true) ∧ Below w.heap.size w w' := by
  have cb := begun9g_true w ht ht6
  have HA := hide hops
  obtain ⟨N, hN⟩ : ∃ N, l.length = N := ⟨_, rfl⟩
  have HN := hide hN
  have hN63 : l.length < 9223372036854775808 := hl63
  clear hl63
  rw [hN] at hN63 ⊢
  have HT0 := hide (⟨ht, ht6⟩ : _ ∧ _)
  have HNB := hide hnb
  clear hops hN ht ht6 hnb
  go_enter Tryz.func3, Tryz.ntmps3
  go_wp2_with (go_at_call 6; refine cb.mono ?_; rintro e w1 ⟨rfl, hB1⟩; clear cb; refine Stop.out ?_)
  refine Stop.mk ?_
  have HT := hide (⟨below_tab hB1 HT0.out.1.lt HT0.out.1, HT0.out.2.below hB1⟩ : Tab w1 ∧ Bm.Tab64 w1)
  have H1 := hide hB1
  clear hB1
  have key : Hid ((blocks < 4 ∧ nb = 200) ∨ (¬ (blocks < 4) ∧ 200 < blocks ∧ nb = 200) ∨ (¬ (blocks < 4) ∧ ¬ (200 < blocks) ∧ blocks = (nb : Nat))) := by
    rcases HNB.out with h | h
    · exact .inr (.inr ⟨by omega, by omega, h.2.2⟩)
    · by_cases h1 : blocks < 4
      · exact .inl ⟨h1, h.2⟩
      · exact .inr (.inl ⟨h1, by omega, h.2⟩)
  obtain ⟨out, hout⟩ : ∃ out : Bool, out = (decide (blocks < 4) || decide (200 < blocks)) := ⟨_, rfl⟩
  have HO0 := hide hout
  clear hout
  go_upto_region 2 with fail
  go_cut [32] from 26 (fun v wc => v = .bool out ∧ w1 = wc)
  case first =>
   as_aux_lemma =>
    rcases key.out with ⟨k1, k9⟩ | ⟨k1, k2, k9⟩ | ⟨k1, k2, k9⟩
    all_goals clear k9
    · have ho : Hid (Value.bool true = .bool out) := by show _ = _; rw [HO0.out, decide_eq_true k1]; rfl
      go_wp2_with fail
      go_meet
      case rel => exact ⟨ho.out, rfl⟩
    · have ho : Hid (Value.bool true = .bool out) := by show _ = _; rw [HO0.out, decide_eq_false k1, decide_eq_true k2]; rfl
      go_wp2_with fail
      go_meet
      case rel => exact ⟨ho.out, rfl⟩
    · have ho : Hid (Value.bool false = .bool out) := by show _ = _; rw [HO0.out, decide_eq_false k1, decide_eq_false k2]; rfl
      go_wp2_with fail
      go_meet
      case rel => exact ⟨ho.out, rfl⟩
  case rest =>
    obtain ⟨rfl, rfl⟩ := hcut
    go_upto_if 32 with fail
    go_cut [0] from 26 (fun v wc => v = .int .i64 (nb : Nat) ∧ w1 = wc)
    case first =>
     as_aux_lemma =>
      rcases key.out with ⟨k1, k2⟩ | ⟨k1, k2, k3⟩ | ⟨k1, k2, k3⟩
      · obtain rfl : true = out := by rw [HO0.out, decide_eq_true k1]; rfl
        have HK := hide k2
        clear k2
        go_wp2_with fail
        go_meet
        case rel => exact ⟨by rw [HK.out]; rfl, rfl⟩
      · obtain rfl : true = out := by rw [HO0.out, decide_eq_false k1, decide_eq_true k2]; rfl
        have HK := hide k3
        clear k3
        go_wp2_with fail
        go_meet
        case rel => exact ⟨by rw [HK.out]; rfl, rfl⟩
      · obtain rfl : false = out := by rw [HO0.out, decide_eq_false k1, decide_eq_false k2]; rfl
        have HK := hide k3
        clear k3
        go_wp2_with fail
        go_meet
        case rel => exact ⟨by rw [HK.out], rfl⟩
    case rest =>
      obtain ⟨rfl, rfl⟩ := hcut
      clear key HO0 HNB
      have cD : Calls Tryz.prog 7 #[.int .i64 (nb : Nat)] w1 _ := disk_any nb w1 HT.out.1 HT.out.2 (by omega) h200
      go_wp2_with (go_at_call 7; refine cD.mono ?_; rintro e w2 ⟨c, s, vs, rfl, hC2, hnb2, hcont, hm2, hsl, hB2⟩; clear cD; refine Stop.out ?_)
      refine Stop.mk ?_
      have cN := inew_any w2
      have H2 := hide (⟨hC2, hnb2, hm2, hsl, hB2⟩ : _ ∧ _ ∧ _ ∧ _ ∧ _)
      clear hC2 hnb2 hcont hm2 hsl hB2
      go_wp2_with (go_at_call 8; refine cN.mono ?_; rintro e w3 ⟨rfl, hi3, hB3⟩; clear cN; refine Stop.out ?_)
      refine Stop.mk ?_
      obtain ⟨hC2, hnb2, hm2, hsl, hB2⟩ := H2.out
      obtain ⟨a0, ha0⟩ : ∃ a0, w2.heap.size = a0 := ⟨_, rfl⟩
      rw [ha0] at hi3 ⊢
      have F3 := Fil.start (by omega) hC2 hnb2 hm2 hB3 hi3
      have hal : w1.heap.size ≤ a0 := by rw [← ha0]; exact hB2.size
      have hF0 : FI w1 w3 c s vs nb 0 a0 0 [] := ⟨⟨_, _, _, F3, rfl, rfl, rfl, by decide⟩, hB2.trans (hB3.mono hB2.size), hal, hsl⟩
      obtain ⟨R, hR⟩ : ∃ R, nb - 1 - 0 = R := ⟨_, rfl⟩
      have cF := fi_free hF0
      rw [hR] at cF
      have HR : Hid (R = nb - 1) := by show _ = _; omega
      have hR2 : R < 200 := by omega
      have HL0 : Hid (LI w1 w3 c s vs nb 0 a0 0 none) := ⟨0, [], hF0, RowB.nil _ _, rfl, .inl ⟨rfl, rfl⟩⟩
      clear hC2 hnb2 hm2 hsl hB2 ha0 hi3 hB3 F3 hal hF0 hR H2
      go_wp2_with (go_at_call 9; refine Calls_on cF ?_; clear cF)
      go_loopw [8, 9, 11] (fun nn ww ii wr => ∃ (i a L : Nat) (p : Option Addr), ii = .int .i64 i ∧ i ≤ 16 ∧ i ≤ N ∧ nn = .pointer (some ⟨a, 0, none⟩) ∧ ww = .slice p L L ∧ Hid (LI w1 wr c s vs nb i a L p)) (fun _ _ ii _ => 16 - (intOf ii).toNat)
      case atStart => exact ⟨0, a0, 0, none, rfl, Nat.zero_le _, Nat.zero_le _, rfl, rfl, HL0⟩
      case round =>
        clear HL0
        obtain ⟨i, a, L, p, rfl, hi16, hiN, rfl, rfl, HI⟩ := hrel
        by_cases hlt : i < N ∧ i < 16
        · obtain ⟨g1, g2⟩ := hlt
          have g1' : (i : Int) < (N : Int) := by omega
          have g2' : (i : Int) < 16 := by omega
          obtain ⟨k, Ws, hF, hR, hL, hP⟩ := HI.out
          obtain ⟨o, ho⟩ : ∃ o, l[i]? = some o := ⟨_, List.getElem?_eq_getElem (by have := HN.out; omega)⟩
          obtain ⟨og, oo, hpe, hoc, hob, hob1, hob2, ⟨hA1, hA2⟩, hM1, hM2⟩ := HA.out i o ho
          obtain ⟨kd, A, M, q, bs, cq⟩ := o
          dsimp only at hob hob1 hob2 hA1 hA2 hM1 hM2
          have hbw : Below w.heap.size w wr := H1.out.trans (hF.low.mono H1.out.size)
          obtain ⟨bl, hbl⟩ : ∃ bl, bs.length = bl := ⟨_, rfl⟩
          have e0 := hoc 0 _ rfl
          have e1 := hoc 1 _ rfl
          have e2 := hoc 2 _ rfl
          have e3 := hoc 3 _ rfl
          dsimp only at e0 e1 e2 e3
          have d0 : wr.cell? ⟨og, oo + i * 4, none⟩ = some (.int .i64 kd) := (hbw.cell (cell_lt e0)).trans e0
          have d1 : wr.cell? ⟨og, oo + i * 4 + 1, none⟩ = some (.int .i64 A) := (hbw.cell (cell_lt e1)).trans e1
          have d2 : wr.cell? ⟨og, oo + i * 4 + 2, none⟩ = some (.int .i64 M) := (hbw.cell (cell_lt e2)).trans e2
          have d3 : wr.cell? ⟨og, oo + i * 4 + 3, none⟩ = some (.slice q bl cq) := by rw [← hbl]; exact (hbw.cell (cell_lt e3)).trans e3
          subst hpe
          rw [hbl] at hob1 hob2
          have hb63 := hob1
          have hbc := hob2
          have HQ : Hid (∀ W, Below w1.heap.size w1 W → Bytes W q bs) := fun W hW => below_bytes (H1.out.trans (hW.mono H1.out.size)) hob
          have HQL : Hid (∀ g o, q = some ⟨g, o, none⟩ → 0 < bs.length → g < w1.heap.size) := fun g o e h0 => by
            obtain ⟨g', o', e', hx⟩ := hob h0
            rw [e] at e'; cases e'
            have := cell_lt (hx 0 _ (List.getElem?_eq_getElem h0))
            exact Nat.lt_of_lt_of_le this H1.out.size
          obtain ⟨B, hB⟩ : ∃ B, wr.heap.size = B := ⟨_, rfl⟩
          obtain ⟨w2, hw2⟩ : ∃ w2, w2 = wr.alloc (.cells #[.int .i64 kd, .int .i64 A, .int .i64 M, .slice q bl cq] 33) := ⟨_, rfl⟩
          have hB2 : Below wr.heap.size wr w2 := by rw [hw2]; exact (Below.refl _ wr).alloc (Nat.le_refl _) _
          have HX2 : Hid (FI w1 w2 c s vs nb i a k Ws ∧ RowB w2 p Ws ∧ Ws.length = L ∧ ((p = none ∧ L = 0) ∨ ∃ g, p = some ⟨g, 0, none⟩)) := ⟨hF.below hB2, hR.below hB2, hL, hP⟩
          have HO2 : Hid (w2.heap[B]? = some (.cells #[.int .i64 kd, .int .i64 A, .int .i64 M, .slice q bl cq] 33 (0, 0))) := by rw [hw2, ← hB]; exact heap_alloc_new wr _
          clear hF hR hL hP HI e0 e1 e2 e3 hoc hob hob1 hob2 hbw hB2 ho
          by_cases k0 : kd = 0
          · subst k0
            by_cases hM : 0 < M ∧ M < 4000
            · obtain ⟨D, hMD⟩ : ∃ D : Nat, (D : Int) = M := ⟨M.toNat, by omega⟩
              obtain ⟨hm1, hm2⟩ := hM
              have cFu := full_bytes bs q cq D w2 (by omega) (by rw [hbl]; exact hb63) (HQ.out w2 HX2.out.1.low)
              rw [hbl, hMD] at cFu
              have HMD := hide hMD
              clear hMD
              go_wp2_with (go_at_call 10; rw [← hw2]; refine cFu.mono ?_; rintro e w3 ⟨rfl, hr3, hB3⟩; clear cFu hw2; refine Stop.out ?_)
              refine Stop.mk ?_
              have hB3' : Below w2.heap.size w2 w3 := hB3
              obtain ⟨qg, hqg⟩ : ∃ qg, w2.heap.size = qg := ⟨_, rfl⟩
              rw [hqg] at hr3 ⊢
              obtain ⟨d, hd⟩ : ∃ d, fullB bs D = d := ⟨_, rfl⟩
              have hdl : d.length = D := by rw [← hd, fullB_length]
              rw [hd] at hr3
              have HX : Hid (FI w1 w3 c s vs nb i a k Ws ∧ RowB w3 p Ws ∧ Ws.length = L ∧ ((p = none ∧ L = 0) ∨ ∃ g, p = some ⟨g, 0, none⟩)) := ⟨HX2.out.1.below hB3', HX2.out.2.1.below hB3', HX2.out.2.2.1, HX2.out.2.2.2⟩
              have HO : Hid (w3.heap[B]? = some (.cells #[.int .i64 0, .int .i64 A, .int .i64 M, .slice q bl cq] 33 (0, 0))) := Keep9.below hB3' _ _ _ _ HO2.out (.inr rfl)
              have HY : Hid (∀ W, Below w1.heap.size w1 W → Keep9 w3 W → Bytes W (some ⟨qg, 0, none⟩) d ∧ d.length = D) := fun W _ hK => ⟨((RowB.block hr3).keep9 hK).is, hdl⟩
              have HZ : Hid (∀ g o, (some ⟨qg, 0, none⟩ : Option Addr) = some ⟨g, o, none⟩ → 0 < D → g < w3.heap.size ∧ ¬ Cmn w1 w3 g) := fun g o e _ => by cases e; exact row_out hr3
              have hDc : D ≤ D := Nat.le_refl _
              have hD63 : D < 9223372036854775808 := by have := HMD.out; omega
              clear hr3 hB3 hB3' hd hdl HX2 HO2 HQ hqg HMD
              by_cases hA : A < 0
              · as_aux_lemma =>
                  have cW := write_neg (w := w3) a c (s + 1) D D A (some ⟨qg, 0, none⟩) hA
                  obtain ⟨o0, o1, o2, o3⟩ := op9_cells HO.out (Keep9.refl w3)
                  clear HO HY HZ
                  go_wp2_with (go_at_call 11; refine Calls_on cW ?_; clear cW; refine Stop.out ?_)
                  refine Stop.mk ?_

                  have HL9 : Hid (LI w1 w3 c s vs nb (i + 1) a L p) := ⟨_, _, HX.out.1.more, HX.out.2.1, HX.out.2.2.1, HX.out.2.2.2⟩
                  clear HX
                  go_wp2_with fail
                  refine ⟨⟨i + 1, a, L, p, by go_num, by omega, by omega, rfl, rfl, HL9⟩, by simp [intOf]; omega⟩
              · by_cases hbig : (65536 : Int) - (D : Int) < A
                · as_aux_lemma =>
                    have cW := write_big (w := w3) a c (s + 1) D D A (some ⟨qg, 0, none⟩) (by omega) hD63 hbig
                    obtain ⟨o0, o1, o2, o3⟩ := op9_cells HO.out (Keep9.refl w3)
                    have hnA : ¬ (A < 0) := by omega
                    clear HO HY HZ
                    by_cases hDb : (65536 : Int) < (D : Int)
                    · go_wp2_with (go_at_call 11; refine Calls_on cW ?_; clear cW; refine Stop.out ?_)
                      refine Stop.mk ?_
                      have HL9 : Hid (LI w1 w3 c s vs nb (i + 1) a L p) := ⟨_, _, HX.out.1.more, HX.out.2.1, HX.out.2.2.1, HX.out.2.2.2⟩
                      clear HX
                      go_wp2_with fail
                      refine ⟨⟨i + 1, a, L, p, by go_num, by omega, by omega, rfl, rfl, HL9⟩, by simp [intOf]; omega⟩
                    · obtain ⟨E, hE⟩ : ∃ E : Int, (65536 : Int) - (D : Int) = E := ⟨_, rfl⟩
                      have hE2 : E < A := by omega
                      have hE3 : -9223372036854775808 ≤ E ∧ E < 9223372036854775808 := by omega
                      rw [hE] at hbig
                      go_wp2_with (go_at_call 11; refine Calls_on cW ?_; clear cW; refine Stop.out ?_)
                      refine Stop.mk ?_
                      have HL9 : Hid (LI w1 w3 c s vs nb (i + 1) a L p) := ⟨_, _, HX.out.1.more, HX.out.2.1, HX.out.2.2.1, HX.out.2.2.2⟩
                      clear HX
                      go_wp2_with fail
                      refine ⟨⟨i + 1, a, L, p, by go_num, by omega, by omega, rfl, rfl, HL9⟩, by simp [intOf]; omega⟩
                · by_cases hD0 : D = 0
                  · as_aux_lemma =>
                      obtain ⟨At, hAt⟩ : ∃ At : Nat, (At : Int) = A := ⟨A.toNat, by omega⟩
                      have cW := write_zero (w := w3) a c (s + 1) At D (some ⟨qg, 0, none⟩) (by omega)
                      rw [hAt] at cW
                      obtain ⟨o0, o1, o2, o3⟩ := op9_cells HO.out (Keep9.refl w3)
                      have hn2 : ¬ ((65536 : Int) < A) := by omega
                      obtain ⟨f1, f2, f3, f4⟩ := HX.out
                      obtain ⟨k9, hk9⟩ : ∃ k9, k = k9 := ⟨_, rfl⟩
                      have F9 := f1.more
                      rw [hk9] at F9
                      have R9 := f2
                      have N9 := f3
                      have P9 := f4
                      clear HO HY HZ hbig hAt f1 f2 f3 f4 hk9 HX hDc hD63
                      subst hD0
                      go_wp2_with (go_at_call 11; refine Calls_on cW ?_; clear cW; refine Stop.out ?_)
                      refine Stop.mk ?_

                      obtain ⟨q1, q2⟩ := F9.cost
                      have hle9 := F9.le
                      have cS9 := fi_size F9
                      have cF9 := fi_free F9
                      have cC9 := rcost_any (L : Nat) w3
                      rw [N9] at q1 hle9 cS9
                      rw [costI_B L hle9] at cC9
                      generalize Ino.costB ((L + 511) / 512) = Q9 at *
                      obtain ⟨v9, hv9⟩ : ∃ v9, nb - 1 - k9 = v9 := ⟨_, rfl⟩
                      rw [hv9] at cF9
                      have hR := HR.out
                      have t1 : (R : Int) - (v9 : Int) = (k9 : Nat) := by omega
                      have t2 : ¬ ((Q9 : Int) < (k9 : Int)) := by omega
                      have t3 : v9 < 1000 := by omega
                      have t4 : k9 < 1000 := by omega
                      have HL9 : Hid (LI w1 w3 c s vs nb (i + 1) a L p) := ⟨k9, _, F9, R9, N9, P9⟩
                      clear F9 R9 N9 P9 q1 q2 hle9 hv9 hR
                      go_wp2_with (first
                        | (go_at_call 18; refine Calls_on cS9 ?_; clear cS9)
                        | (go_at_call 9; refine Calls_on cF9 ?_; clear cF9)
                        | (go_at_call 17; refine Calls_on cC9 ?_; clear cC9))
                      refine ⟨⟨i + 1, a, L, p, by go_num, by omega, by omega, rfl, rfl, HL9⟩, by simp [intOf]; omega⟩
                  · as_aux_lemma =>
                      obtain ⟨At, hAt⟩ : ∃ At : Nat, (At : Int) = A := ⟨A.toNat, by omega⟩
                      obtain ⟨hby, hdl⟩ := HY.out w3 HX.out.1.low (Keep9.refl w3)
                      obtain ⟨bg, bo, hqe, _⟩ := hby (by omega)
                      obtain ⟨n9, hn9⟩ : ∃ n9, max L (At + D) = n9 := ⟨_, rfl⟩
                      have hn65 : n9 ≤ 65536 := by have := HX.out.1.le; rw [HX.out.2.2.1] at this; omega
                      rw [hqe] at hby
                      have cW := fi_write HX.out.1 (by omega) HT.out.2 bg bo D At n9 d hby (HZ.out bg bo hqe (by omega)) (by omega) (by omega) (by omega) (by rw [HX.out.2.2.1, hdl]; exact hn9)
                      rw [hdl, ← hqe, hAt] at cW
                      have hE : ¬ ((65536 : Int) < (D : Int)) := by omega
                      obtain ⟨E, hE1⟩ : ∃ E : Int, (65536 : Int) - (D : Int) = E := ⟨_, rfl⟩
                      have hE2 : ¬ (E < A) := by omega
                      have hE3 : -9223372036854775808 ≤ E ∧ E < 9223372036854775808 := by omega
                      have hD1 : (0 : Int) < (D : Int) := by omega
                      have HN := hide (⟨hn9, hn65, hdl, hAt⟩ : _ ∧ _ ∧ _ ∧ _)
                      clear hby hbig hD0 hqe hn9 hn65 hdl hAt
                      obtain ⟨p0, p1, p2, p3⟩ := op9_cells HO.out (Keep9.refl w3)
                      go_wp2_with (go_at_call 11; refine cW.mono ?_; rintro e w4 ⟨er, rfl, hk4, hO4⟩; clear cW; refine Stop.out ?_)
                      refine Stop.mk ?_
                      clear p0 p1 p2 p3
                      obtain ⟨o0, o1, o2, o3⟩ := op9_cells HO.out hk4
                      have hlow4 : Below w1.heap.size w1 w4 := by
                        rcases hO4 with ⟨_, _, h⟩ | ⟨_, _, h⟩
                        · exact h.low
                        · exact h.low
                      have hr4 := HX.out.2.1.keep9 hk4
                      obtain ⟨hn9, hn65, hdl, hAt⟩ := HN.out
                      have cG := grown_any w4 p (some ⟨qg, 0, none⟩) L D At n9 Ws d hr4 (HY.out w4 hlow4 hk4).1 (by omega) (by rw [HX.out.2.2.1, hdl]; exact hn9) hn65
                      rw [HX.out.2.2.1, hdl, hAt] at cG
                      have H4 := hide (⟨hO4, hr4⟩ : _ ∧ _)
                      have her : er = 0 ∨ er = 28 := by
                        rcases hO4 with ⟨h, _⟩ | ⟨h, _⟩
                        · exact .inl h
                        · exact .inr h
                      have Her := hide her
                      clear hO4 hr4 hlow4 hk4 HO HY HZ hn9 hn65 hdl hAt her
                      go_wp2_with (go_at_call 12; refine cG.mono ?_; rintro e w5 ⟨rfl, hr5, hB5⟩; clear cG; refine Stop.out ?_)
                      refine Stop.mk ?_
                      obtain ⟨g5, hg5⟩ : ∃ g5, w4.heap.size = g5 := ⟨_, rfl⟩
                      have hB5' : Below w4.heap.size w4 w5 := hB5
                      rw [hg5] at hr5 ⊢
                      clear hB5 o0 o1 o2 o3 hE hE1 hE2 hE3
                      rcases Her.out with rfl | rfl
                      · obtain ⟨k9, hf9⟩ : ∃ k', FI w1 w4 c s vs nb (i + 1) a k' (listB (Ino.wrote (getB Ws) At d) n9) := by
                          rcases H4.out.1 with ⟨_, h⟩ | ⟨h, _⟩
                          · exact h
                          · exact absurd h (by decide)
                        have F9 := hf9.below hB5'
                        have R9 : RowB w5 (some ⟨g5, 0, none⟩) (listB (Ino.wrote (getB Ws) At d) n9) := RowB.block hr5
                        have N9 : (listB (Ino.wrote (getB Ws) At d) n9).length = n9 := listB_length _ _
                        have P9 : ((some ⟨g5, 0, none⟩ : Option Addr) = none ∧ n9 = 0) ∨ ∃ g, (some ⟨g5, 0, none⟩ : Option Addr) = some ⟨g, 0, none⟩ := .inr ⟨g5, rfl⟩
                        clear hf9 H4 HN hr5 hB5' HX hg5 Her
                        obtain ⟨q1, q2⟩ := F9.cost
                        have hle9 := F9.le
                        have cS9 := fi_size F9
                        have cF9 := fi_free F9
                        have cC9 := rcost_any (n9 : Nat) w5
                        rw [N9] at q1 hle9 cS9
                        rw [costI_B n9 hle9] at cC9
                        generalize Ino.costB ((n9 + 511) / 512) = Q9 at *
                        obtain ⟨v9, hv9⟩ : ∃ v9, nb - 1 - k9 = v9 := ⟨_, rfl⟩
                        rw [hv9] at cF9
                        have hR := HR.out
                        have t1 : (R : Int) - (v9 : Int) = (k9 : Nat) := by omega
                        have t2 : ¬ ((Q9 : Int) < (k9 : Int)) := by omega
                        have t3 : v9 < 1000 := by omega
                        have t4 : k9 < 1000 := by omega
                        have HL9 : Hid (LI w1 w5 c s vs nb (i + 1) a n9 (some ⟨g5, 0, none⟩)) := ⟨k9, _, F9, R9, N9, P9⟩
                        clear F9 R9 N9 P9 q1 q2 hle9 hv9 hR
                        go_wp2_with (first
                          | (go_at_call 18; refine Calls_on cS9 ?_; clear cS9)
                          | (go_at_call 9; refine Calls_on cF9 ?_; clear cF9)
                          | (go_at_call 17; refine Calls_on cC9 ?_; clear cC9))
                        refine ⟨⟨i + 1, a, n9, (some ⟨g5, 0, none⟩), by go_num, by omega, by omega, rfl, rfl, HL9⟩, by simp [intOf]; omega⟩
                      · obtain ⟨hlt, hf9⟩ : nb - 1 - k < Ino.costB ((n9 + 511) / 512) ∧ FI w1 w4 c s vs nb (i + 1) a k Ws := by
                          rcases H4.out.1 with ⟨h, _⟩ | ⟨_, h⟩
                          · exact absurd h (by decide)
                          · exact h
                        have F9 := hf9.below hB5'
                        have R9 := H4.out.2.below hB5'
                        have N9 := HX.out.2.2.1
                        have P9 := HX.out.2.2.2
                        obtain ⟨q1, q2⟩ := F9.cost
                        have hle9 := F9.le
                        have cS9 := fi_size F9
                        have cF9 := fi_free F9
                        have cC9 := rcost_any (L : Nat) w5
                        have cCn := rcost_any (n9 : Nat) w5
                        rw [N9] at q1 hle9 cS9
                        rw [costI_B L hle9] at cC9
                        rw [costI_B n9 HN.out.2.1] at cCn
                        obtain ⟨Q9, hQ9⟩ : ∃ Q9, Ino.costB ((L + 511) / 512) = Q9 := ⟨_, rfl⟩
                        obtain ⟨Qn, hQn⟩ : ∃ Qn, Ino.costB ((n9 + 511) / 512) = Qn := ⟨_, rfl⟩
                        obtain ⟨v9, hv9⟩ : ∃ v9, nb - 1 - k = v9 := ⟨_, rfl⟩
                        rw [hv9] at cF9 hlt
                        rw [hQ9] at cC9 q1
                        rw [hQn] at cCn hlt
                        have hR := HR.out
                        have t1 : (R : Int) - (v9 : Int) = (k : Nat) := by omega
                        have t2 : ¬ ((Q9 : Int) < (k : Int)) := by omega
                        have t3 : v9 < 1000 := by omega
                        have t4 : k < 1000 := by omega
                        have t5 : ¬ ((Qn : Int) ≤ (v9 : Int)) := by omega
                        have t6 : ¬ (Qn ≤ v9) := by omega
                        have HL9 : Hid (LI w1 w5 c s vs nb (i + 1) a L p) := ⟨k, _, F9, R9, N9, P9⟩
                        clear F9 R9 N9 P9 q1 q2 hle9 hv9 hR hQ9 hQn hlt hf9 H4 HN hr5 hB5' HX hg5 Her
                        go_wp2_with (first
                          | (go_at_call 18; refine Calls_on cS9 ?_)
                          | (go_at_call 9; refine Calls_on cF9 ?_)
                          | (go_at_call 17; first | (refine Calls_on cCn ?_; clear cCn) | refine Calls_on cC9 ?_))
                        refine ⟨⟨i + 1, a, L, p, by go_num, by omega, by omega, rfl, rfl, HL9⟩, by simp [intOf]; omega⟩
            · have hcs : ¬ (0 < M) ∨ (0 < M ∧ ¬ (M < 4000)) := by omega
              have HX := HX2
              have HO := HO2
              have HY : Hid (∀ W, Below w1.heap.size w1 W → Keep9 w2 W → Bytes W q bs ∧ bs.length = bl) := fun W hW _ => ⟨HQ.out W hW, hbl⟩
              have HZ : Hid (∀ g o, q = some ⟨g, o, none⟩ → 0 < bl → g < w2.heap.size ∧ ¬ Cmn w1 w2 g) := fun g o e h0 => low_out (HQL.out g o e (by rw [hbl]; exact h0)) HX2.out.1.low.size
              have hDc : bl ≤ cq := hbc
              have hD63 : bl < 9223372036854775808 := hb63
              clear HX2 HO2 HQ hbc hb63 hM
              rcases hcs with hm1 | ⟨hm1, hm2⟩
              all_goals
                by_cases hA : A < 0
                · as_aux_lemma =>
                    have cW := write_neg (w := w2) a c (s + 1) bl cq A q hA
                    obtain ⟨o0, o1, o2, o3⟩ := op9_cells HO.out (Keep9.refl w2)
                    clear HO HY HZ
                    go_wp2_with (go_at_call 11; rw [← hw2]; refine Calls_on cW ?_; clear cW hw2; refine Stop.out ?_)
                    refine Stop.mk ?_

                    have HL9 : Hid (LI w1 w2 c s vs nb (i + 1) a L p) := ⟨_, _, HX.out.1.more, HX.out.2.1, HX.out.2.2.1, HX.out.2.2.2⟩
                    clear HX
                    go_wp2_with fail
                    refine ⟨⟨i + 1, a, L, p, by go_num, by omega, by omega, rfl, rfl, HL9⟩, by simp [intOf]; omega⟩
                · by_cases hbig : (65536 : Int) - (bl : Int) < A
                  · as_aux_lemma =>
                      have cW := write_big (w := w2) a c (s + 1) bl cq A q (by omega) hD63 hbig
                      obtain ⟨o0, o1, o2, o3⟩ := op9_cells HO.out (Keep9.refl w2)
                      have hnA : ¬ (A < 0) := by omega
                      clear HO HY HZ
                      by_cases hDb : (65536 : Int) < (bl : Int)
                      · go_wp2_with (go_at_call 11; rw [← hw2]; refine Calls_on cW ?_; clear cW hw2; refine Stop.out ?_)
                        refine Stop.mk ?_
                        have HL9 : Hid (LI w1 w2 c s vs nb (i + 1) a L p) := ⟨_, _, HX.out.1.more, HX.out.2.1, HX.out.2.2.1, HX.out.2.2.2⟩
                        clear HX
                        go_wp2_with fail
                        refine ⟨⟨i + 1, a, L, p, by go_num, by omega, by omega, rfl, rfl, HL9⟩, by simp [intOf]; omega⟩
                      · obtain ⟨E, hE⟩ : ∃ E : Int, (65536 : Int) - (bl : Int) = E := ⟨_, rfl⟩
                        have hE2 : E < A := by omega
                        have hE3 : -9223372036854775808 ≤ E ∧ E < 9223372036854775808 := by omega
                        rw [hE] at hbig
                        go_wp2_with (go_at_call 11; rw [← hw2]; refine Calls_on cW ?_; clear cW hw2; refine Stop.out ?_)
                        refine Stop.mk ?_
                        have HL9 : Hid (LI w1 w2 c s vs nb (i + 1) a L p) := ⟨_, _, HX.out.1.more, HX.out.2.1, HX.out.2.2.1, HX.out.2.2.2⟩
                        clear HX
                        go_wp2_with fail
                        refine ⟨⟨i + 1, a, L, p, by go_num, by omega, by omega, rfl, rfl, HL9⟩, by simp [intOf]; omega⟩
                  · by_cases hD0 : bl = 0
                    · as_aux_lemma =>
                        obtain ⟨At, hAt⟩ : ∃ At : Nat, (At : Int) = A := ⟨A.toNat, by omega⟩
                        have cW := write_zero (w := w2) a c (s + 1) At cq q (by omega)
                        rw [hAt] at cW
                        obtain ⟨o0, o1, o2, o3⟩ := op9_cells HO.out (Keep9.refl w2)
                        have hn2 : ¬ ((65536 : Int) < A) := by omega
                        obtain ⟨f1, f2, f3, f4⟩ := HX.out
                        obtain ⟨k9, hk9⟩ : ∃ k9, k = k9 := ⟨_, rfl⟩
                        have F9 := f1.more
                        rw [hk9] at F9
                        have R9 := f2
                        have N9 := f3
                        have P9 := f4
                        clear HO HY HZ hbig hAt f1 f2 f3 f4 hk9 HX hDc hD63
                        subst hD0
                        go_wp2_with (go_at_call 11; rw [← hw2]; refine Calls_on cW ?_; clear cW hw2; refine Stop.out ?_)
                        refine Stop.mk ?_

                        obtain ⟨q1, q2⟩ := F9.cost
                        have hle9 := F9.le
                        have cS9 := fi_size F9
                        have cF9 := fi_free F9
                        have cC9 := rcost_any (L : Nat) w2
                        rw [N9] at q1 hle9 cS9
                        rw [costI_B L hle9] at cC9
                        generalize Ino.costB ((L + 511) / 512) = Q9 at *
                        obtain ⟨v9, hv9⟩ : ∃ v9, nb - 1 - k9 = v9 := ⟨_, rfl⟩
                        rw [hv9] at cF9
                        have hR := HR.out
                        have t1 : (R : Int) - (v9 : Int) = (k9 : Nat) := by omega
                        have t2 : ¬ ((Q9 : Int) < (k9 : Int)) := by omega
                        have t3 : v9 < 1000 := by omega
                        have t4 : k9 < 1000 := by omega
                        have HL9 : Hid (LI w1 w2 c s vs nb (i + 1) a L p) := ⟨k9, _, F9, R9, N9, P9⟩
                        clear F9 R9 N9 P9 q1 q2 hle9 hv9 hR
                        go_wp2_with (first
                          | (go_at_call 18; refine Calls_on cS9 ?_; clear cS9)
                          | (go_at_call 9; refine Calls_on cF9 ?_; clear cF9)
                          | (go_at_call 17; refine Calls_on cC9 ?_; clear cC9))
                        refine ⟨⟨i + 1, a, L, p, by go_num, by omega, by omega, rfl, rfl, HL9⟩, by simp [intOf]; omega⟩
                    · as_aux_lemma =>
                        obtain ⟨At, hAt⟩ : ∃ At : Nat, (At : Int) = A := ⟨A.toNat, by omega⟩
                        obtain ⟨hby, hdl⟩ := HY.out w2 HX.out.1.low (Keep9.refl w2)
                        obtain ⟨bg, bo, hqe, _⟩ := hby (by omega)
                        obtain ⟨n9, hn9⟩ : ∃ n9, max L (At + bl) = n9 := ⟨_, rfl⟩
                        have hn65 : n9 ≤ 65536 := by have := HX.out.1.le; rw [HX.out.2.2.1] at this; omega
                        rw [hqe] at hby
                        have cW := fi_write HX.out.1 (by omega) HT.out.2 bg bo cq At n9 bs hby (HZ.out bg bo hqe (by omega)) (by omega) (by omega) (by omega) (by rw [HX.out.2.2.1, hdl]; exact hn9)
                        rw [hdl, ← hqe, hAt] at cW
                        have hE : ¬ ((65536 : Int) < (bl : Int)) := by omega
                        obtain ⟨E, hE1⟩ : ∃ E : Int, (65536 : Int) - (bl : Int) = E := ⟨_, rfl⟩
                        have hE2 : ¬ (E < A) := by omega
                        have hE3 : -9223372036854775808 ≤ E ∧ E < 9223372036854775808 := by omega
                        have hD1 : (0 : Int) < (bl : Int) := by omega
                        have HN := hide (⟨hn9, hn65, hdl, hAt⟩ : _ ∧ _ ∧ _ ∧ _)
                        clear hby hbig hD0 hqe hn9 hn65 hdl hAt
                        obtain ⟨p0, p1, p2, p3⟩ := op9_cells HO.out (Keep9.refl w2)
                        go_wp2_with (go_at_call 11; rw [← hw2]; refine cW.mono ?_; rintro e w4 ⟨er, rfl, hk4, hO4⟩; clear cW hw2; refine Stop.out ?_)
                        refine Stop.mk ?_
                        clear p0 p1 p2 p3
                        obtain ⟨o0, o1, o2, o3⟩ := op9_cells HO.out hk4
                        have hlow4 : Below w1.heap.size w1 w4 := by
                          rcases hO4 with ⟨_, _, h⟩ | ⟨_, _, h⟩
                          · exact h.low
                          · exact h.low
                        have hr4 := HX.out.2.1.keep9 hk4
                        obtain ⟨hn9, hn65, hdl, hAt⟩ := HN.out
                        have cG := grown_any w4 p q L cq At n9 Ws bs hr4 (HY.out w4 hlow4 hk4).1 (by omega) (by rw [HX.out.2.2.1, hdl]; exact hn9) hn65
                        rw [HX.out.2.2.1, hdl, hAt] at cG
                        have H4 := hide (⟨hO4, hr4⟩ : _ ∧ _)
                        have her : er = 0 ∨ er = 28 := by
                          rcases hO4 with ⟨h, _⟩ | ⟨h, _⟩
                          · exact .inl h
                          · exact .inr h
                        have Her := hide her
                        clear hO4 hr4 hlow4 hk4 HO HY HZ hn9 hn65 hdl hAt her
                        go_wp2_with (go_at_call 12; refine cG.mono ?_; rintro e w5 ⟨rfl, hr5, hB5⟩; clear cG; refine Stop.out ?_)
                        refine Stop.mk ?_
                        obtain ⟨g5, hg5⟩ : ∃ g5, w4.heap.size = g5 := ⟨_, rfl⟩
                        have hB5' : Below w4.heap.size w4 w5 := hB5
                        rw [hg5] at hr5 ⊢
                        clear hB5 o0 o1 o2 o3 hE hE1 hE2 hE3
                        rcases Her.out with rfl | rfl
                        · obtain ⟨k9, hf9⟩ : ∃ k', FI w1 w4 c s vs nb (i + 1) a k' (listB (Ino.wrote (getB Ws) At bs) n9) := by
                            rcases H4.out.1 with ⟨_, h⟩ | ⟨h, _⟩
                            · exact h
                            · exact absurd h (by decide)
                          have F9 := hf9.below hB5'
                          have R9 : RowB w5 (some ⟨g5, 0, none⟩) (listB (Ino.wrote (getB Ws) At bs) n9) := RowB.block hr5
                          have N9 : (listB (Ino.wrote (getB Ws) At bs) n9).length = n9 := listB_length _ _
                          have P9 : ((some ⟨g5, 0, none⟩ : Option Addr) = none ∧ n9 = 0) ∨ ∃ g, (some ⟨g5, 0, none⟩ : Option Addr) = some ⟨g, 0, none⟩ := .inr ⟨g5, rfl⟩
                          clear hf9 H4 HN hr5 hB5' HX hg5 Her
                          obtain ⟨q1, q2⟩ := F9.cost
                          have hle9 := F9.le
                          have cS9 := fi_size F9
                          have cF9 := fi_free F9
                          have cC9 := rcost_any (n9 : Nat) w5
                          rw [N9] at q1 hle9 cS9
                          rw [costI_B n9 hle9] at cC9
                          generalize Ino.costB ((n9 + 511) / 512) = Q9 at *
                          obtain ⟨v9, hv9⟩ : ∃ v9, nb - 1 - k9 = v9 := ⟨_, rfl⟩
                          rw [hv9] at cF9
                          have hR := HR.out
                          have t1 : (R : Int) - (v9 : Int) = (k9 : Nat) := by omega
                          have t2 : ¬ ((Q9 : Int) < (k9 : Int)) := by omega
                          have t3 : v9 < 1000 := by omega
                          have t4 : k9 < 1000 := by omega
                          have HL9 : Hid (LI w1 w5 c s vs nb (i + 1) a n9 (some ⟨g5, 0, none⟩)) := ⟨k9, _, F9, R9, N9, P9⟩
                          clear F9 R9 N9 P9 q1 q2 hle9 hv9 hR
                          go_wp2_with (first
                            | (go_at_call 18; refine Calls_on cS9 ?_; clear cS9)
                            | (go_at_call 9; refine Calls_on cF9 ?_; clear cF9)
                            | (go_at_call 17; refine Calls_on cC9 ?_; clear cC9))
                          refine ⟨⟨i + 1, a, n9, (some ⟨g5, 0, none⟩), by go_num, by omega, by omega, rfl, rfl, HL9⟩, by simp [intOf]; omega⟩
                        · obtain ⟨hlt, hf9⟩ : nb - 1 - k < Ino.costB ((n9 + 511) / 512) ∧ FI w1 w4 c s vs nb (i + 1) a k Ws := by
                            rcases H4.out.1 with ⟨h, _⟩ | ⟨_, h⟩
                            · exact absurd h (by decide)
                            · exact h
                          have F9 := hf9.below hB5'
                          have R9 := H4.out.2.below hB5'
                          have N9 := HX.out.2.2.1
                          have P9 := HX.out.2.2.2
                          obtain ⟨q1, q2⟩ := F9.cost
                          have hle9 := F9.le
                          have cS9 := fi_size F9
                          have cF9 := fi_free F9
                          have cC9 := rcost_any (L : Nat) w5
                          have cCn := rcost_any (n9 : Nat) w5
                          rw [N9] at q1 hle9 cS9
                          rw [costI_B L hle9] at cC9
                          rw [costI_B n9 HN.out.2.1] at cCn
                          obtain ⟨Q9, hQ9⟩ : ∃ Q9, Ino.costB ((L + 511) / 512) = Q9 := ⟨_, rfl⟩
                          obtain ⟨Qn, hQn⟩ : ∃ Qn, Ino.costB ((n9 + 511) / 512) = Qn := ⟨_, rfl⟩
                          obtain ⟨v9, hv9⟩ : ∃ v9, nb - 1 - k = v9 := ⟨_, rfl⟩
                          rw [hv9] at cF9 hlt
                          rw [hQ9] at cC9 q1
                          rw [hQn] at cCn hlt
                          have hR := HR.out
                          have t1 : (R : Int) - (v9 : Int) = (k : Nat) := by omega
                          have t2 : ¬ ((Q9 : Int) < (k : Int)) := by omega
                          have t3 : v9 < 1000 := by omega
                          have t4 : k < 1000 := by omega
                          have t5 : ¬ ((Qn : Int) ≤ (v9 : Int)) := by omega
                          have t6 : ¬ (Qn ≤ v9) := by omega
                          have HL9 : Hid (LI w1 w5 c s vs nb (i + 1) a L p) := ⟨k, _, F9, R9, N9, P9⟩
                          clear F9 R9 N9 P9 q1 q2 hle9 hv9 hR hQ9 hQn hlt hf9 H4 HN hr5 hB5' HX hg5 Her
                          go_wp2_with (first
                            | (go_at_call 18; refine Calls_on cS9 ?_)
                            | (go_at_call 9; refine Calls_on cF9 ?_)
                            | (go_at_call 17; first | (refine Calls_on cCn ?_; clear cCn) | refine Calls_on cC9 ?_))
                          refine ⟨⟨i + 1, a, L, p, by go_num, by omega, by omega, rfl, rfl, HL9⟩, by simp [intOf]; omega⟩
          · have k0' : (kd == 0) = false := by simp [k0]
            by_cases k1 : kd = 1
            · subst k1
              clear k0 k0'
              by_cases hM : M < 0
              · as_aux_lemma =>
                  have cT := trunc_neg (w := w2) a c (s + 1) M hM
                  obtain ⟨o0, o1, o2, o3⟩ := op9_cells HO2.out (Keep9.refl w2)
                  have HX := HX2
                  clear HO2 HX2
                  go_wp2_with (go_at_call 13; rw [← hw2]; refine Calls_on cT ?_; clear cT hw2; refine Stop.out ?_)
                  refine Stop.mk ?_

                  have HL9 : Hid (LI w1 w2 c s vs nb (i + 1) a L p) := ⟨_, _, HX.out.1.more, HX.out.2.1, HX.out.2.2.1, HX.out.2.2.2⟩
                  clear HX
                  go_wp2_with fail
                  refine ⟨⟨i + 1, a, L, p, by go_num, by omega, by omega, rfl, rfl, HL9⟩, by simp [intOf]; omega⟩
              · by_cases hM2 : 65536 < M
                · as_aux_lemma =>
                    have cT := trunc_big (w := w2) a c (s + 1) M hM2
                    obtain ⟨o0, o1, o2, o3⟩ := op9_cells HO2.out (Keep9.refl w2)
                    have HX := HX2
                    clear HO2 HX2
                    go_wp2_with (go_at_call 13; rw [← hw2]; refine Calls_on cT ?_; clear cT hw2; refine Stop.out ?_)
                    refine Stop.mk ?_

                    have HL9 : Hid (LI w1 w2 c s vs nb (i + 1) a L p) := ⟨_, _, HX.out.1.more, HX.out.2.1, HX.out.2.2.1, HX.out.2.2.2⟩
                    clear HX
                    go_wp2_with fail
                    refine ⟨⟨i + 1, a, L, p, by go_num, by omega, by omega, rfl, rfl, HL9⟩, by simp [intOf]; omega⟩
                · as_aux_lemma =>
                    obtain ⟨n9, hM9⟩ : ∃ n9 : Nat, (n9 : Int) = M := ⟨M.toNat, by omega⟩
                    have hn65 : n9 ≤ 65536 := by omega
                    have cT := fi_trunc HX2.out.1 (by omega) n9 hn65
                    rw [hM9] at cT
                    have HM9 := hide (⟨hM9, hn65⟩ : _ ∧ _)
                    clear hM9 hn65
                    go_wp2_with (go_at_call 13; rw [← hw2]; refine cT.mono ?_; rintro e w4 ⟨rfl, hk4, k9, hf4⟩; clear cT hw2; refine Stop.out ?_)
                    refine Stop.mk ?_
                    obtain ⟨o0, o1, o2, o3⟩ := op9_cells HO2.out hk4
                    have hr4 := HX2.out.2.1.keep9 hk4
                    obtain ⟨hM9, hn65⟩ := HM9.out
                    obtain ⟨g5, hg5⟩ : ∃ g5, w4.heap.size = g5 := ⟨_, rfl⟩
                    obtain ⟨w5, hw5⟩ : ∃ w5, w5 = w4.alloc (.cells (List.replicate n9 (Value.int .u8 0)).toArray 5) := ⟨_, rfl⟩
                    have hmk : (Instr.makeSlice 30 (.int .i64 (n9 : Nat)) (.int .i64 (n9 : Nat))).run Tryz.prog w4 = .ok (.slice (some ⟨g5, 0, none⟩) n9 n9) w5 := by rw [hw5, ← hg5]; exact imake w4 n9 (by omega)
                    rw [hM9] at hmk
                    have hB5 : Below w4.heap.size w4 w5 := by rw [hw5]; exact (Below.refl _ w4).alloc (Nat.le_refl _) _
                    have hr5 : w5.heap[g5]? = some (.cells ((List.replicate n9 0#8).map u8v).toArray 5 (0, 0)) := by rw [List.map_replicate, hw5, ← hg5]; exact heap_alloc_new w4 _
                    obtain ⟨w6, hc6, hr6, hb6⟩ := copy_row w5 g5 n9 0 _ hr5 List.length_replicate p Ws L (hr4.below hB5).is (by omega)
                    rw [Nat.sub_zero] at hc6 hr6
                    rw [cut_list] at hr6
                    rw [HX2.out.2.2.1] at hc6
                    have hB46 : Below w4.heap.size w4 w6 := hB5.trans (hb6.below hB5.size (fun q hq => by rw [show q = g5 from hq, ← hg5]; exact Nat.le_refl _))
                    have F9 := hf4.below hB46
                    have R9 : RowB w6 (some ⟨g5, 0, none⟩) (listB (cutW (getB Ws) n9) n9) := RowB.block hr6
                    have N9 : (listB (cutW (getB Ws) n9) n9).length = n9 := listB_length _ _
                    have P9 : ((some ⟨g5, 0, none⟩ : Option Addr) = none ∧ n9 = 0) ∨ ∃ g, (some ⟨g5, 0, none⟩ : Option Addr) = some ⟨g, 0, none⟩ := .inr ⟨g5, rfl⟩
                    clear hw5 hB5 hr5 hr6 hb6 hB46 hf4 hk4 hr4 HO2 HX2 hg5 hn65 hM9 HM9

                    obtain ⟨q1, q2⟩ := F9.cost
                    have hle9 := F9.le
                    have cS9 := fi_size F9
                    have cF9 := fi_free F9
                    have cC9 := rcost_any (n9 : Nat) w6
                    rw [N9] at q1 hle9 cS9
                    rw [costI_B n9 hle9] at cC9
                    generalize Ino.costB ((n9 + 511) / 512) = Q9 at *
                    obtain ⟨v9, hv9⟩ : ∃ v9, nb - 1 - k9 = v9 := ⟨_, rfl⟩
                    rw [hv9] at cF9
                    have hR := HR.out
                    have t1 : (R : Int) - (v9 : Int) = (k9 : Nat) := by omega
                    have t2 : ¬ ((Q9 : Int) < (k9 : Int)) := by omega
                    have t3 : v9 < 1000 := by omega
                    have t4 : k9 < 1000 := by omega
                    have HL9 : Hid (LI w1 w6 c s vs nb (i + 1) a n9 (some ⟨g5, 0, none⟩)) := ⟨k9, _, F9, R9, N9, P9⟩
                    clear F9 R9 N9 P9 q1 q2 hle9 hv9 hR
                    go_wp2_with (first
                      | (go_at_call 18; refine Calls_on cS9 ?_; clear cS9)
                      | (go_at_call 9; refine Calls_on cF9 ?_; clear cF9)
                      | (go_at_call 17; refine Calls_on cC9 ?_; clear cC9))
                    refine ⟨⟨i + 1, a, n9, (some ⟨g5, 0, none⟩), by go_num, by omega, by omega, rfl, rfl, HL9⟩, by simp [intOf]; omega⟩
            · have k1' : (kd == 1) = false := by simp [k1]
              by_cases k2 : kd = 2
              · subst k2
                clear k0 k0' k1 k1'
                by_cases hbad : A < 0 ∨ M < 0
                · as_aux_lemma =>
                    have cT := iread_bad (w := w2) a c A M hbad
                    obtain ⟨o0, o1, o2, o3⟩ := op9_cells HO2.out (Keep9.refl w2)
                    have HX := HX2
                    have hcs : A < 0 ∨ (¬ A < 0 ∧ M < 0) := by omega
                    clear HO2 HX2 hbad
                    rcases hcs with h1 | ⟨h1, h2⟩
                    all_goals
                      go_wp2_with (go_at_call 14; rw [← hw2]; refine Calls_on cT ?_; clear cT hw2; refine Stop.out ?_)
                      refine Stop.mk ?_
                      have HL9 : Hid (LI w1 w2 c s vs nb (i + 1) a L p) := ⟨_, _, HX.out.1.more, HX.out.2.1, HX.out.2.2.1, HX.out.2.2.2⟩
                      clear HX
                      go_wp2_with fail
                      refine ⟨⟨i + 1, a, L, p, by go_num, by omega, by omega, rfl, rfl, HL9⟩, by simp [intOf]; omega⟩
                · as_aux_lemma =>
                    obtain ⟨At, hAt⟩ : ∃ At : Nat, (At : Int) = A := ⟨A.toNat, by omega⟩
                    obtain ⟨ct, hct⟩ : ∃ ct : Nat, (ct : Int) = M := ⟨M.toNat, by omega⟩
                    obtain ⟨ln, hln⟩ : ∃ ln, min ct (L - At) = ln := ⟨_, rfl⟩
                    have cR := fi_read HX2.out.1 (by omega) At ct ln (by rw [HX2.out.2.2.1]; exact hln) (by omega) (by omega)
                    rw [hAt, hct] at cR
                    have hA0 : ¬ (A < 0) := by omega
                    have hM0 : ¬ (M < 0) := by omega
                    have HNN := hide (⟨hAt, hct, hln⟩ : _ ∧ _ ∧ _)
                    clear hAt hct hln hbad
                    go_wp2_with (go_at_call 14; rw [← hw2]; refine cR.mono ?_; rintro e w4 ⟨p4, cp4, rfl, hk4, hf4, hr4⟩; clear cR hw2; refine Stop.out ?_)
                    refine Stop.mk ?_
                    obtain ⟨o0, o1, o2, o3⟩ := op9_cells HO2.out hk4
                    obtain ⟨hAt, hct, hln⟩ := HNN.out
                    have hL65 : L ≤ 65536 := by rw [← HX2.out.2.2.1]; exact hf4.le
                    have H4 := hide (⟨hf4, HX2.out.2.1.keep9 hk4, HX2.out.2.2.1, HX2.out.2.2.2, hr4⟩ : _ ∧ _ ∧ _ ∧ _ ∧ _)
                    have hl4 : ((Ws.drop At).take ln).length = ln := by rw [List.length_take, List.length_drop, HX2.out.2.2.1]; omega
                    have s1 : ∀ W, Below w4.heap.size w4 W → (convert 30 9 (.slice p4 ln cp4)).run Tryz.prog W = .ok (.string (strOf ((Ws.drop At).take ln))) W := fun W hW => by
                      have := run_str W p4 ((Ws.drop At).take ln) cp4 (hr4.below hW).is
                      rw [hl4] at this
                      exact this
                    clear hk4 hf4 hr4 HO2 HX2 hl4
                    by_cases hin : At < L
                    · have hPs : ∃ g, p = some ⟨g, 0, none⟩ := by
                        rcases H4.out.2.2.2.1 with ⟨_, h⟩ | h
                        · omega
                        · exact h
                      obtain ⟨g, rfl⟩ := hPs
                      have hAL : ¬ ((L : Int) < A) := by omega
                      have key : (M < (L : Int) - A ∧ ln = ct) ∨ (¬ (M < (L : Int) - A) ∧ ln = L - At) := by omega
                      rcases key with ⟨c1, c2⟩ | ⟨c1, c2⟩
                      · obtain ⟨t9, ht9⟩ : ∃ t9, At + ct = t9 := ⟨_, rfl⟩
                        have e9 : A + M = (t9 : Nat) := by omega
                        have ht9b : t9 < 100000 := by omega
                        have HT9 := hide ht9
                        have s2 : ∀ W, Below w4.heap.size w4 W → (convert 30 9 (.slice (some ⟨g, At, none⟩) (t9 - At) (L - At))).run Tryz.prog W = .ok (.string (strOf ((Ws.drop At).take ln))) W := fun W hW => by
                          have hsub := Bytes.dropTake (H4.out.2.1.below hW).is At ln
                          have := run_str W (some ⟨g, At, none⟩) ((Ws.drop At).take ln) (L - At) hsub
                          rw [show ((Ws.drop At).take ln).length = t9 - At by rw [List.length_take, List.length_drop, H4.out.2.2.1]; omega] at this
                          exact this
                        obtain ⟨d9, hd9⟩ : ∃ d9 : Int, (L : Int) - A = d9 := ⟨_, rfl⟩
                        have hd9' : -9223372036854775808 ≤ d9 ∧ d9 < 9223372036854775808 := by omega
                        rw [hd9] at c1
                        have hq1 : At ≤ t9 := by omega
                        have hq2 : t9 ≤ L := by omega
                        have hq3 : ¬ L = At := by omega
                        have HNN := hide (⟨hAt, hct, hln, hL65, hin⟩ : _ ∧ _ ∧ _ ∧ _ ∧ _)
                        clear hAt hct hln hL65 hin c2 ht9 HT9
                        generalize strOf ((Ws.drop At).take ln) = S at s1 s2
                        go_upto_region 52 with fail
                        simp only [← HNN.out.1]
                        refine rd1 (by kernel_rfl) g At t9 L p4 ln cp4 S w4 rfl rfl rfl rfl rfl rfl s1 s2 hq1 hq2 hq3 ?_
                        intro W hW
                        unfold rd1L
                        simp only [putAll, List.setIfInBounds_toArray, List.set_cons_zero, List.set_cons_succ]
                        obtain ⟨k9, hk9⟩ : ∃ k9, k = k9 := ⟨_, rfl⟩
                        have F9 := H4.out.1.below hW
                        rw [hk9] at F9
                        have R9 := H4.out.2.1.below hW
                        have N9 := H4.out.2.2.1
                        have P9 := H4.out.2.2.2.1
                        clear s1 s2 hW H4 hk9 o0 o1 o2 o3 c1 hq1 hq2 hq3 HNN hd9 hd9' e9 ht9b
                        obtain ⟨q1, q2⟩ := F9.cost
                        have hle9 := F9.le
                        have cS9 := fi_size F9
                        have cF9 := fi_free F9
                        have cC9 := rcost_any (L : Nat) W
                        rw [N9] at q1 hle9 cS9
                        rw [costI_B L hle9] at cC9
                        generalize Ino.costB ((L + 511) / 512) = Q9 at *
                        obtain ⟨v9, hv9⟩ : ∃ v9, nb - 1 - k9 = v9 := ⟨_, rfl⟩
                        rw [hv9] at cF9
                        have hR := HR.out
                        have t1 : (R : Int) - (v9 : Int) = (k9 : Nat) := by omega
                        have t2 : ¬ ((Q9 : Int) < (k9 : Int)) := by omega
                        have t3 : v9 < 1000 := by omega
                        have t4 : k9 < 1000 := by omega
                        have HL9 : Hid (LI w1 W c s vs nb (i + 1) a L (some ⟨g, 0, none⟩)) := ⟨k9, _, F9, R9, N9, P9⟩
                        clear F9 R9 N9 P9 q1 q2 hle9 hv9 hR
                        go_wp2_with (first
                          | (go_at_call 18; refine Calls_on cS9 ?_; clear cS9)
                          | (go_at_call 9; refine Calls_on cF9 ?_; clear cF9)
                          | (go_at_call 17; refine Calls_on cC9 ?_; clear cC9))
                        refine ⟨⟨i + 1, a, L, (some ⟨g, 0, none⟩), by go_num, by omega, by omega, rfl, rfl, HL9⟩, by simp [intOf]; omega⟩
                      · obtain ⟨t9, HT9⟩ : ∃ t9, L = t9 := ⟨_, rfl⟩
                        have hdd : t9 - At = L - At := by rw [HT9]
                        have s2 : ∀ W, Below w4.heap.size w4 W → (convert 30 9 (.slice (some ⟨g, At, none⟩) (t9 - At) (L - At))).run Tryz.prog W = .ok (.string (strOf ((Ws.drop At).take ln))) W := fun W hW => by
                          have hsub := Bytes.dropTake (H4.out.2.1.below hW).is At ln
                          have := run_str W (some ⟨g, At, none⟩) ((Ws.drop At).take ln) (L - At) hsub
                          rw [show ((Ws.drop At).take ln).length = t9 - At by rw [List.length_take, List.length_drop, H4.out.2.2.1]; omega] at this
                          exact this
                        obtain ⟨d9, hd9⟩ : ∃ d9 : Int, (L : Int) - A = d9 := ⟨_, rfl⟩
                        have hd9' : -9223372036854775808 ≤ d9 ∧ d9 < 9223372036854775808 := by omega
                        rw [hd9] at c1
                        have hq1 : At ≤ L := by omega
                        have hq2 : L ≤ L := Nat.le_refl _
                        rw [hdd] at s2
                        have hq3 : ¬ L = At := by omega
                        have HNN := hide (⟨hAt, hct, hln, hL65, hin⟩ : _ ∧ _ ∧ _ ∧ _ ∧ _)
                        clear hAt hct hln hL65 hin c2 HT9 hdd
                        generalize strOf ((Ws.drop At).take ln) = S at s1 s2
                        go_upto_region 52 with fail
                        simp only [← HNN.out.1]
                        refine rd1 (by kernel_rfl) g At L L p4 ln cp4 S w4 rfl rfl rfl rfl rfl rfl s1 s2 hq1 hq2 hq3 ?_
                        intro W hW
                        unfold rd1L
                        simp only [putAll, List.setIfInBounds_toArray, List.set_cons_zero, List.set_cons_succ]
                        obtain ⟨k9, hk9⟩ : ∃ k9, k = k9 := ⟨_, rfl⟩
                        have F9 := H4.out.1.below hW
                        rw [hk9] at F9
                        have R9 := H4.out.2.1.below hW
                        have N9 := H4.out.2.2.1
                        have P9 := H4.out.2.2.2.1
                        clear s1 s2 hW H4 hk9 o0 o1 o2 o3 c1 hq1 hq2 hq3 HNN hd9 hd9'
                        obtain ⟨q1, q2⟩ := F9.cost
                        have hle9 := F9.le
                        have cS9 := fi_size F9
                        have cF9 := fi_free F9
                        have cC9 := rcost_any (L : Nat) W
                        rw [N9] at q1 hle9 cS9
                        rw [costI_B L hle9] at cC9
                        generalize Ino.costB ((L + 511) / 512) = Q9 at *
                        obtain ⟨v9, hv9⟩ : ∃ v9, nb - 1 - k9 = v9 := ⟨_, rfl⟩
                        rw [hv9] at cF9
                        have hR := HR.out
                        have t1 : (R : Int) - (v9 : Int) = (k9 : Nat) := by omega
                        have t2 : ¬ ((Q9 : Int) < (k9 : Int)) := by omega
                        have t3 : v9 < 1000 := by omega
                        have t4 : k9 < 1000 := by omega
                        have HL9 : Hid (LI w1 W c s vs nb (i + 1) a L (some ⟨g, 0, none⟩)) := ⟨k9, _, F9, R9, N9, P9⟩
                        clear F9 R9 N9 P9 q1 q2 hle9 hv9 hR
                        go_wp2_with (first
                          | (go_at_call 18; refine Calls_on cS9 ?_; clear cS9)
                          | (go_at_call 9; refine Calls_on cF9 ?_; clear cF9)
                          | (go_at_call 17; refine Calls_on cC9 ?_; clear cC9))
                        refine ⟨⟨i + 1, a, L, (some ⟨g, 0, none⟩), by go_num, by omega, by omega, rfl, rfl, HL9⟩, by simp [intOf]; omega⟩
                    · have hln0 : ln = 0 := by omega
                      have hAL : (L : Int) ≤ A := by omega
                      obtain ⟨S, hS⟩ : ∃ S, strOf ((Ws.drop At).take ln) = S := ⟨_, rfl⟩
                      have hnil : (Ws.drop At).take ln = [] := by rw [hln0]; rfl
                      have s2 : ∀ q W, Below w4.heap.size w4 W → (convert 30 9 (.slice q 0 0)).run Tryz.prog W = .ok (.string S) W := fun q W hW => by
                        have := run_str W q ([] : By) 0 (RowB.nil W q).is
                        rw [← hS, hnil]
                        exact this
                      rw [hS] at s1
                      have HNN := hide (⟨hAt, hct, hln, hL65, hin⟩ : _ ∧ _ ∧ _ ∧ _ ∧ _)
                      have key : (L : Int) < A ∨ A = (L : Nat) := by omega
                      clear hAt hct hln hL65 hin hAL hln0 hS hnil
                      have hM0' : ¬ (M < 0) := by omega
                      rcases H4.out.2.2.2.1 with ⟨rfl, hL0⟩ | ⟨g, rfl⟩
                      · have HL0' := hide hL0
                        clear hL0
                        rcases key with c1 | c1
                        all_goals
                          have HC := hide c1
                          go_upto_region 52 with fail
                          refine rd3 (by kernel_rfl) L p4 ln cp4 S w4 rfl rfl rfl rfl (by first | rfl | rw [HC.out]) rfl s1 (s2 none) HL0'.out ?_
                          intro W hW
                          unfold rd3L
                          simp only [putAll, List.setIfInBounds_toArray, List.set_cons_zero, List.set_cons_succ]
                          obtain ⟨k9, hk9⟩ : ∃ k9, k = k9 := ⟨_, rfl⟩
                          have F9 := H4.out.1.below hW
                          rw [hk9] at F9
                          have R9 := H4.out.2.1.below hW
                          have N9 := H4.out.2.2.1
                          have P9 := H4.out.2.2.2.1
                          clear s1 s2 hW H4 hk9 o0 o1 o2 o3 HNN HL0' c1 HC
                          obtain ⟨q1, q2⟩ := F9.cost
                          have hle9 := F9.le
                          have cS9 := fi_size F9
                          have cF9 := fi_free F9
                          have cC9 := rcost_any (L : Nat) W
                          rw [N9] at q1 hle9 cS9
                          rw [costI_B L hle9] at cC9
                          generalize Ino.costB ((L + 511) / 512) = Q9 at *
                          obtain ⟨v9, hv9⟩ : ∃ v9, nb - 1 - k9 = v9 := ⟨_, rfl⟩
                          rw [hv9] at cF9
                          have hR := HR.out
                          have t1 : (R : Int) - (v9 : Int) = (k9 : Nat) := by omega
                          have t2 : ¬ ((Q9 : Int) < (k9 : Int)) := by omega
                          have t3 : v9 < 1000 := by omega
                          have t4 : k9 < 1000 := by omega
                          have HL9 : Hid (LI w1 W c s vs nb (i + 1) a L none) := ⟨k9, _, F9, R9, N9, P9⟩
                          clear F9 R9 N9 P9 q1 q2 hle9 hv9 hR
                          go_wp2_with (first
                            | (go_at_call 18; refine Calls_on cS9 ?_; clear cS9)
                            | (go_at_call 9; refine Calls_on cF9 ?_; clear cF9)
                            | (go_at_call 17; refine Calls_on cC9 ?_; clear cC9))
                          refine ⟨⟨i + 1, a, L, none, by go_num, by omega, by omega, rfl, rfl, HL9⟩, by simp [intOf]; omega⟩
                      · rcases key with c1 | c1
                        all_goals
                          have HC := hide c1
                          go_upto_region 52 with fail
                          refine rd2 (by kernel_rfl) g L p4 ln cp4 S w4 rfl rfl rfl rfl (by first | rfl | rw [HC.out]) rfl s1 (s2 _) ?_
                          intro W hW
                          unfold rd2L
                          simp only [putAll, List.setIfInBounds_toArray, List.set_cons_zero, List.set_cons_succ]
                          obtain ⟨k9, hk9⟩ : ∃ k9, k = k9 := ⟨_, rfl⟩
                          have F9 := H4.out.1.below hW
                          rw [hk9] at F9
                          have R9 := H4.out.2.1.below hW
                          have N9 := H4.out.2.2.1
                          have P9 := H4.out.2.2.2.1
                          clear s1 s2 hW H4 hk9 o0 o1 o2 o3 HNN c1 HC
                          obtain ⟨q1, q2⟩ := F9.cost
                          have hle9 := F9.le
                          have cS9 := fi_size F9
                          have cF9 := fi_free F9
                          have cC9 := rcost_any (L : Nat) W
                          rw [N9] at q1 hle9 cS9
                          rw [costI_B L hle9] at cC9
                          generalize Ino.costB ((L + 511) / 512) = Q9 at *
                          obtain ⟨v9, hv9⟩ : ∃ v9, nb - 1 - k9 = v9 := ⟨_, rfl⟩
                          rw [hv9] at cF9
                          have hR := HR.out
                          have t1 : (R : Int) - (v9 : Int) = (k9 : Nat) := by omega
                          have t2 : ¬ ((Q9 : Int) < (k9 : Int)) := by omega
                          have t3 : v9 < 1000 := by omega
                          have t4 : k9 < 1000 := by omega
                          have HL9 : Hid (LI w1 W c s vs nb (i + 1) a L (some ⟨g, 0, none⟩)) := ⟨k9, _, F9, R9, N9, P9⟩
                          clear F9 R9 N9 P9 q1 q2 hle9 hv9 hR
                          go_wp2_with (first
                            | (go_at_call 18; refine Calls_on cS9 ?_; clear cS9)
                            | (go_at_call 9; refine Calls_on cF9 ?_; clear cF9)
                            | (go_at_call 17; refine Calls_on cC9 ?_; clear cC9))
                          refine ⟨⟨i + 1, a, L, (some ⟨g, 0, none⟩), by go_num, by omega, by omega, rfl, rfl, HL9⟩, by simp [intOf]; omega⟩
              · have k2' : (kd == 2) = false := by simp [k2]
                as_aux_lemma =>
                  have cB := fi_there HX2.out.1
                  go_wp2_with (go_at_call 16; rw [← hw2]; refine cB.mono ?_; rintro e w4 ⟨b4, rfl, hf4, hk4, hbl4, hbn4, hr4, hback⟩; clear cB hw2; refine Stop.out ?_)
                  refine Stop.mk ?_
                  have hle4 := hf4.le
                  have cL := load_ok (some ⟨w2.heap.size, 0, none⟩) b4 44 w4 (bytes_block hr4) (by omega) hbl4 (by omega)
                  rw [hbl4] at cL
                  have H4 := hide (⟨hback, HX2.out.2.1.keep9 hk4, HX2.out.2.2.1, HX2.out.2.2.2, hf4.low⟩ : _ ∧ _ ∧ _ ∧ _ ∧ _)
                  clear hf4 hk4 hbl4 hbn4 hr4 hback HX2 HO2 hle4
                  go_wp2_with (go_at_call 15; refine cL.mono ?_; rintro e w5 ⟨rfl, hi5, hB5⟩; clear cL; refine Stop.out ?_)
                  refine Stop.mk ?_
                  obtain ⟨hback, hr4, N9, P9, hlow4⟩ := H4.out
                  obtain ⟨a9, ha9⟩ : ∃ a9, w4.heap.size = a9 := ⟨_, rfl⟩
                  have hal9 : w1.heap.size ≤ a9 := by rw [← ha9]; exact hlow4.size
                  obtain ⟨k9, hk9⟩ : ∃ k9, k = k9 := ⟨_, rfl⟩
                  rw [ha9] at hi5 ⊢
                  have F9 := hback w5 a9 hB5 hal9 hi5
                  rw [hk9] at F9
                  have R9 := hr4.below hB5
                  clear hback hr4 hlow4 hi5 hB5 hk9 hal9 H4 ha9

                  obtain ⟨q1, q2⟩ := F9.cost
                  have hle9 := F9.le
                  have cS9 := fi_size F9
                  have cF9 := fi_free F9
                  have cC9 := rcost_any (L : Nat) w5
                  rw [N9] at q1 hle9 cS9
                  rw [costI_B L hle9] at cC9
                  generalize Ino.costB ((L + 511) / 512) = Q9 at *
                  obtain ⟨v9, hv9⟩ : ∃ v9, nb - 1 - k9 = v9 := ⟨_, rfl⟩
                  rw [hv9] at cF9
                  have hR := HR.out
                  have t1 : (R : Int) - (v9 : Int) = (k9 : Nat) := by omega
                  have t2 : ¬ ((Q9 : Int) < (k9 : Int)) := by omega
                  have t3 : v9 < 1000 := by omega
                  have t4 : k9 < 1000 := by omega
                  have HL9 : Hid (LI w1 w5 c s vs nb (i + 1) a9 L p) := ⟨k9, _, F9, R9, N9, P9⟩
                  clear F9 R9 N9 P9 q1 q2 hle9 hv9 hR
                  go_wp2_with (first
                    | (go_at_call 18; refine Calls_on cS9 ?_; clear cS9)
                    | (go_at_call 9; refine Calls_on cF9 ?_; clear cF9)
                    | (go_at_call 17; refine Calls_on cC9 ?_; clear cC9))
                  refine ⟨⟨i + 1, a9, L, p, by go_num, by omega, by omega, rfl, rfl, HL9⟩, by simp [intOf]; omega⟩
        · as_aux_lemma =>
            obtain ⟨k, Ws, hF, hR, hL, hP⟩ := HI.out
            have hle := hF.le
            rw [hL] at hle
            have cR : Calls Tryz.prog 14 #[.pointer (some ⟨a, 0, none⟩), ep c, .int .i64 0, .int .i64 65536] wr _ := fi_read hF (by omega) 0 65536 L (by rw [hL]; omega) (by omega) (by omega)
            have HE := hide (⟨hR, hL⟩ : _ ∧ _)
            have hcs : ¬ (i < N) ∨ (i < N ∧ ¬ (i < 16)) := by omega
            clear hF hR hL hP hlt hle HI
            rcases hcs with g1 | ⟨g1, g2⟩
            all_goals
              go_wp2_with (go_at_call 14; refine cR.mono ?_; rintro e w4 ⟨p4, cp4, rfl, hk4, hf4, hr4⟩; clear cR; refine Stop.out ?_)
              refine Stop.mk ?_
              have cT : Calls Tryz.prog 13 #[.pointer (some ⟨a, 0, none⟩), ep c, .pointer (some ⟨s + 1, 0, none⟩), .int .i64 0] w4 _ := fi_trunc hf4 (by omega) 0 (by omega)
              have hL := HE.out.2
              rw [List.drop_zero, List.take_of_length_le (by omega)] at hr4
              have H4 := hide (⟨hr4, HE.out.1.keep9 hk4, hL⟩ : _ ∧ _ ∧ _)
              clear hk4 hf4 hr4 hL HE
              go_wp2_with (go_at_call 13; refine cT.mono ?_; rintro e w5 ⟨rfl, hk5, k5, hf5⟩; clear cT; refine Stop.out ?_)
              refine Stop.mk ?_
              obtain ⟨hr4, hR4, hL⟩ := H4.out
              have hk0 : k5 = 0 := hf5.none
              have cF := fi_free hf5
              have hRR := HR.out
              rw [hk0, show nb - 1 - 0 = R by omega] at cF
              have s1 : (convert 30 9 (.slice p4 L cp4)).run Tryz.prog w5 = .ok (.string (strOf Ws)) w5 := by
                have := run_str w5 p4 Ws cp4 (hr4.keep9 hk5).is
                rw [hL] at this
                exact this
              have s2 : (convert 30 9 (.slice p L L)).run Tryz.prog w5 = .ok (.string (strOf Ws)) w5 := by
                have := run_str w5 p Ws L (hR4.keep9 hk5).is
                rw [hL] at this
                exact this
              have HF := hide (H1.out.trans (hf5.low.mono H1.out.size))
              generalize strOf Ws = S at s1 s2
              clear hr4 hR4 hL hk0 hf5 hk5 hRR H4
              go_wp2_with (go_at_call 9; refine Calls_on cF ?_; clear cF)
              go_ret
              exact ⟨rfl, HF.out⟩

end Go.Proofs.YtebdgcoandfocaaGreatDoor
