/-
  Bytes of package bitmap.
-/
import Derived.Test.YtndefmchaohikaaDoorMnew
import Derived.Lib.SliceRun
namespace Go.Proofs.YtndefmchaohikaaDoor
open Go.RowKit

/-- A byte as a value. -/
def u8v (b : BitVec 8) : Value := .int .u8 (b.toNat : Int)
/-- The bytes bs lie from p on. -/
def Bytes (w : World) (p : Option Addr) (bs : List (BitVec 8)) : Prop :=
  0 < bs.length → ∃ b o, p = some ⟨b, o, none⟩ ∧ ∀ (j : Nat) x, bs[j]? = some x → w.cell? ⟨b, o + j, none⟩ = some (u8v x)
theorem Bytes.block {w : World} {g : Nat} {bs : List (BitVec 8)} {f : Nat × Nat} (h : w.heap[g]? = some (.cells (bs.map u8v).toArray 5 f)) : Bytes w (some ⟨g, 0, none⟩) bs := fun _ =>
  ⟨g, 0, rfl, fun j x hj => by rw [Nat.zero_add, cellOf h j]; simp [hj]⟩
theorem Bytes.keep {S : Nat → Prop} {w w' : World} {p : Option Addr} {bs : List (BitVec 8)} (h : Bytes w p bs) (ho : Only S w w') (hn : ∀ b o, p = some ⟨b, o, none⟩ → ¬ S b) : Bytes w' p bs := by
  intro hl
  obtain ⟨b, o, e, hx⟩ := h hl
  refine ⟨b, o, e, fun j x hj => ?_⟩
  have := hx j x hj
  exact (World.cell?_of_block (w := w) (ho.block b (cell_lt this) (hn b o e))).trans this
theorem Bytes.below {w w' : World} {p : Option Addr} {bs : List (BitVec 8)} (h : Bytes w p bs) (hb : Below w.heap.size w w') : Bytes w' p bs := h.keep (Below.only hb (fun _ => False)) (fun _ _ _ h => h)

/-- The bytes of n numbers: number i is the bit i mod 8 of byte i / 8. -/
structure BytesOf (n : Nat) (U : Nat → Bool) (bs : List (BitVec 8)) : Prop where
  len : bs.length = (n + 7) / 8
  bit : ∀ (i k : Nat) (b : BitVec 8), bs[i]? = some b → k < 8 → b.getLsbD k = U (8 * i + k)
theorem BytesOf.eq {n : Nat} {U V : Nat → Bool} {bs cs : List (BitVec 8)} (h : BytesOf n U bs) (h' : BytesOf n V cs) (he : ∀ i, i < 8 * ((n + 7) / 8) → U i = V i) : bs = cs := by
  apply List.ext_getElem?
  intro i
  by_cases hi : i < (n + 7) / 8
  · have h1 : i < bs.length := by rw [h.len]; exact hi
    have h2 : i < cs.length := by rw [h'.len]; exact hi
    rw [List.getElem?_eq_getElem h1, List.getElem?_eq_getElem h2]
    congr 1
    apply BitVec.eq_of_getLsbD_eq
    intro k hk
    rw [h.bit i k _ (List.getElem?_eq_getElem h1) hk, h'.bit i k _ (List.getElem?_eq_getElem h2) hk, he _ (by omega)]
  · rw [List.getElem?_eq_none (by rw [h.len]; omega), List.getElem?_eq_none (by rw [h'.len]; omega)]

/-- Byte i of the words. -/
def byteAt (ws : List Nat) (i : Nat) : BitVec 8 := BitVec.ofNat 8 (ws.getD (i / 8) 0 / 2 ^ (i % 8 * 8))
theorem byteAt_bit (ws : List Nat) (i k : Nat) (hk : k < 8) : (byteAt ws i).getLsbD k = used ws (8 * i + k) := by
  unfold byteAt used
  rw [BitVec.getLsbD_ofNat, Nat.testBit_div_two_pow, show (8 * i + k) / 64 = i / 8 by omega, show (8 * i + k) % 64 = k + i % 8 * 8 by omega]
  simp [hk]
/-- The first k of n bytes. -/
def fillB (ws : List Nat) (n k : Nat) : List (BitVec 8) := (List.range n).map fun i => if i < k then byteAt ws i else 0#8
theorem fillB_length (ws : List Nat) (n k : Nat) : (fillB ws n k).length = n := by simp [fillB]
theorem fillB_get (ws : List Nat) (n k i : Nat) (hi : i < n) : (fillB ws n k)[i]? = some (if i < k then byteAt ws i else 0#8) := by simp [fillB, hi]
theorem fillB_zero (ws : List Nat) (n : Nat) : (fillB ws n 0).map u8v = List.replicate n (.int .u8 0) := by
  apply List.ext_getElem?
  intro j
  by_cases hj : j < n <;> simp [fillB, hj, u8v]
theorem fillB_step (ws : List Nat) (n k : Nat) (hk : k < n) : ((fillB ws n k).map u8v).toArray.setIfInBounds k (u8v (byteAt ws k)) = ((fillB ws n (k + 1)).map u8v).toArray := by
  apply Array.ext_getElem?
  intro j
  rw [Array.getElem?_setIfInBounds]
  by_cases hkj : k = j
  · subst hkj
    rw [if_pos rfl, if_pos (by simp [fillB_length]; exact hk)]
    simp [fillB_get ws n (k + 1) k hk]
  · rw [if_neg hkj]
    simp only [List.getElem?_toArray, List.getElem?_map]
    by_cases hj : j < n
    · rw [fillB_get ws n k j hj, fillB_get ws n (k + 1) j hj]
      by_cases h1 : j < k
      · rw [if_pos h1, if_pos (by omega)]
      · rw [if_neg h1, if_neg (by omega)]
    · rw [List.getElem?_eq_none (by rw [fillB_length]; omega), List.getElem?_eq_none (by rw [fillB_length]; omega)]
theorem fillB_of (ws : List Nat) (n : Nat) : BytesOf n (used ws) (fillB ws ((n + 7) / 8) ((n + 7) / 8)) := by
  refine ⟨fillB_length _ _ _, fun i k b hb hk => ?_⟩
  have hi : i < (n + 7) / 8 := by have := (List.getElem?_eq_some_iff.1 hb).1; rwa [fillB_length] at this
  rw [fillB_get _ _ _ _ hi, if_pos hi] at hb
  cases hb
  exact byteAt_bit ws i k hk

set_option maxRecDepth 8000 in
set_option maxHeartbeats 400000 in
theorem bytes_nil (w : World) : Calls Tryd.prog 14 #[.pointer none] w fun e w' => e = .returned (.slice (some ⟨w.heap.size, 0, none⟩) 0 0) ∧ w' = w.alloc (.cells #[] 5) := by
  have hmk := run_make_rep w 39 5 (.int .u8 0) 1 Tryd.underlying39 Tryd.info5 rfl 0 (by omega) (by omega)
  simp at hmk
  go_enter Tryd.func14, Tryd.ntmps14
  go_wp2_with (go_at_call 25; refine Calls_on (count_nil _) ?_)
  go_loopw [10] (fun ii wr => ii = .int .i64 0 ∧ wr = w.alloc (.cells #[] 5)) (fun _ _ => 0)
  case atStart => exact ⟨rfl, rfl⟩
  case round =>
    obtain ⟨rfl, rfl⟩ := hrel
    go_wp2
    go_ret
    exact ⟨rfl, rfl⟩

set_option maxRecDepth 8000 in
set_option maxHeartbeats 1000000 in
theorem bytes_sz (m : MS) (w : World) (h : MapAt w m) : Calls Tryd.prog 14 #[.pointer (some ⟨m.a, 0, none⟩)] w fun e w' => ∃ bs, e = .returned (.slice (some ⟨w.heap.size, 0, none⟩) bs.length bs.length) ∧ BytesOf m.n (used m.ws) bs ∧ w'.heap[w.heap.size]? = some (.cells (bs.map u8v).toArray 5 (0, 0)) ∧ Below w.heap.size w w' ∧ w'.heap.size = w.heap.size + 1 := by
  have hm : m.n ≤ 65536 := h.fit.most
  have cc := count_any m w h
  obtain ⟨N, hN⟩ : ∃ N, (m.n + 7) / 8 = N := ⟨_, rfl⟩
  rw [hN] at cc
  have hmk := run_make_rep w 39 5 (.int .u8 0) 1 Tryd.underlying39 Tryd.info5 rfl N (by omega) (by omega)
  obtain ⟨w1, hw1⟩ : ∃ w1, w1 = w.alloc (.cells (List.replicate N (.int .u8 0)).toArray 5) := ⟨_, rfl⟩
  rw [← hw1] at hmk
  have hs1 : w1.heap.size = w.heap.size + 1 := by rw [hw1]; simp
  have H1 : Hid (w1.heap[w.heap.size]? = some (.cells (List.replicate N (.int .u8 0)).toArray 5 (0, 0)) ∧ Below w.heap.size w w1 ∧ w1.heap.size = w.heap.size + 1) := by
    rw [hw1]; exact ⟨heap_alloc_new w _, (below_new _ _).out, by simp⟩
  have HM : Hid (MapAt w m ∧ (m.n + 7) / 8 = N) := ⟨h, hN⟩
  clear h hN hw1
  go_enter Tryd.func14, Tryd.ntmps14
  go_wp2_with (go_at_call 25; refine Calls_on cc ?_)
  go_loopw [10] (fun ii wr => ∃ i : Nat, i ≤ N ∧ ii = .int .i64 i ∧ Hid (wr.heap[w.heap.size]? = some (.cells ((fillB m.ws N i).map u8v).toArray 5 (0, 0)) ∧ Below w.heap.size w wr ∧ wr.heap.size = w.heap.size + 1)) (fun ii _ => N - (intOf ii).toNat)
  case atStart =>
    refine ⟨0, Nat.zero_le _, rfl, ?_, H1.out.2⟩
    rw [fillB_zero]
    exact H1.out.1
  case round =>
    obtain ⟨i, hi, rfl, HJ⟩ := hrel
    by_cases hlt : i < N
    · have hM := HM.out.1.below HJ.out.2.1
      have hd : i / 8 < m.ws.length := by rw [hM.fit.len]; have := HM.out.2; omega
      have c1 := hM.c1
      have c2 := hM.row.cell (getD_some hd)
      have c3 : wr.cell? ⟨w.heap.size, i, none⟩ = some (.int .u8 0) := by
        rw [cellOf HJ.out.1 i]
        simp [fillB_get m.ws N i i hlt, u8v]
      have f3 : wr.frozen? ⟨w.heap.size, i, none⟩ = false := frozenOf HJ.out.1 i
      have hltI : (i : Int) < (N : Int) := by omega
      have HB : Hid ((byteAt m.ws i).toNat = m.ws.getD (i / 8) 0 / 2 ^ (i % 8 * 8) % 256) := by
        show _ = _
        unfold byteAt
        rw [BitVec.toNat_ofNat]
      generalize m.ws.getD (i / 8) 0 = x at *
      obtain ⟨q, hq⟩ : ∃ q, i / 8 = q := ⟨_, rfl⟩
      obtain ⟨r, hr⟩ : ∃ r, i % 8 * 8 = r := ⟨_, rfl⟩
      rw [hq] at hd c2
      rw [hr] at HB
      have hN2 : N ≤ 65536 := by have := HM.out.2; omega
      have eq : (i : Int) / 8 = (q : Int) := by omega
      have er : (i : Int) % 8 * 8 = (r : Int) := by omega
      have hr64 : r ≤ 64 := by omega
      have hq0 : q ≤ 65536 := by omega
      clear hM hq hr
      go_wp2
      obtain ⟨h1, h2, h3⟩ := HJ.out
      have hv : Value.int .u8 ((x : Int) / 2 ^ r % 256) = u8v (byteAt m.ws i) := by
        unfold u8v
        rw [HB.out]
        simp
      rw [hv]
      refine ⟨⟨i + 1, by omega, by go_num, ?_, h2.setCell (p := ⟨w.heap.size, i, none⟩) (Nat.le_refl _) _, by rw [← h3]; simp [World.setCell]⟩, by simp [intOf]; omega⟩
      rw [← fillB_step m.ws N i hlt]
      exact heap_set_same h1 _
    · obtain rfl : i = N := by omega
      go_wp2
      go_ret
      obtain ⟨h1, h2, h3⟩ := HJ.out
      have hl := HM.out.2
      refine ⟨fillB m.ws i i, by rw [fillB_length]; rfl, ?_, h1, h2, h3⟩
      rw [← hl]
      exact fillB_of m.ws m.n

theorem bytes_any (m : MS) (w : World) (h : MapAt w m) : Calls Tryd.prog 14 #[.pointer (some ⟨m.a, 0, none⟩)] w fun e w' => ∃ bs, e = .returned (.slice (some ⟨w.heap.size, 0, none⟩) bs.length bs.length) ∧ BytesOf m.n (used m.ws) bs ∧ w'.heap[w.heap.size]? = some (.cells (bs.map u8v).toArray 5 (0, 0)) ∧ Below w.heap.size w w' :=
  (bytes_sz m w h).mono fun _ _ ⟨bs, h1, h2, h3, h4, _⟩ => ⟨bs, h1, h2, h3, h4⟩

/- Copy. -/

theorem u64_one (ws : List Nat) : ∀ u ∈ ws.map (fun (x : Nat) => Value.int .u64 (x : Int)), u.oneCell' = true := by
  intro u hu
  obtain ⟨x, _, rfl⟩ := List.mem_map.1 hu
  rfl

/-- append, of which the run is known. -/
theorem wpList_append_run {W W' : World} {ops : Array Oper} {rest : List Oper} {o : Oper} {a : Act} {Q : Exit → Act → World → Prop} (hgd : o.guard = none) (s x : Operand) (t t' ty : TypeId)
    (ho : o.op = .call { callee := .builtin .append, args := #[s, x], argTypes := #[t, t'] }) (hty : o.type = ty) (v u v' : Value) (hs : a.eval s = v) (hx : a.eval x = u)
    (hr : (Builtin.append_ #[t, t'] ty #[v, u]).run Tryd.prog W = .ok v' W') (h : wpList Tryd.prog ops Q rest (a.put o.dst v') W') : wpList Tryd.prog ops Q (o :: rest) a W := by
  refine wpList_plain hgd fun K hK => ?_
  subst hty
  unfold Oper.wp execOp
  simp only [ho, resolve, invoke, builtin, Sem.run_bind, Sem.run_pure, Result.andThen_ok, List.map_toArray, List.map_cons, List.map_nil, hs, hx, hr]
  exact hK _ _ h
theorem below_of_drew {B : Nat} {w w' : World} (h : Below B w.drew w') : Below B w w' := ⟨h.os, h.tape, h.output, h.size, h.block⟩

set_option maxRecDepth 8000 in
set_option maxHeartbeats 400000 in
theorem clone_any (b : Nat) (ws : List Nat) (c : Nat) (w : World) (h : RowAt w b ws) (hl : ws.length ≤ 1024) : Calls Tryd.prog 27 #[.slice (some ⟨b, 0, none⟩) ws.length c] w fun e w' => ∃ g cap, e = .returned (.slice (some ⟨g, 0, none⟩) ws.length cap) ∧ w.heap.size ≤ g ∧ RowAt w' g ws ∧ Below w.heap.size w w' := by
  obtain ⟨i0, hi0, hz0, hz1, hz2⟩ := info_parts Tryd.infoU64
  obtain ⟨w1, hw1⟩ : ∃ w1, w1 = w.alloc (.cells #[] 51) := ⟨_, rfl⟩
  have hB1 : Below w.heap.size w w1 := by rw [hw1]; exact (below_new _ _).out
  have hs1 : w1.heap.size = w.heap.size + 1 := by rw [hw1]; simp
  have hown : w1.ownsRow w.heap.size 51 1 (.slice (some ⟨w.heap.size, 0, none⟩) 0 0) 0 [] := by
    rw [hw1]
    exact World.ownsRow_lit w #[] 0 (Nat.le_refl _) (by decide) rfl
  have h1 : RowAt w1 b ws := h.keep (Below.only hB1 (fun _ => False)) (fun h => h)
  obtain ⟨v', w2, hr, h2, h3, h4⟩ := run_append_own (P := Tryd.prog) w1 w.heap.size 46 46 51 i0 (.int .u64 0) 1 8 Tryd.underlying46 hi0 hz0 hz1 hz2 rfl (by decide) _ 0 [] hown ⟨b, 0, none⟩ ws.length c (ws.map (fun (x : Nat) => Value.int .u64 (x : Int))) (by simp)
    (fun j u hj => by
      rw [List.getElem?_map] at hj
      obtain ⟨x, hx, rfl⟩ := Option.map_eq_some_iff.1 hj
      rw [Addr.add_lit, Nat.zero_add]
      exact h1.cell hx) (u64_one ws) (by unfold maxLen; omega) (by omega) (by omega)
  have HR : Hid (∃ g cap, v' = .slice (some ⟨g, 0, none⟩) ws.length cap ∧ w.heap.size ≤ g ∧ RowAt w2 g ws) := by
    rcases h2.2 with ⟨e, _⟩ | ⟨g, cap, cur, e, hg, hblk, hcap, _, hcs, htk⟩
    · have := (h4.1 e).1
      cases this
    · rw [Nat.zero_add] at e
      refine ⟨g, cap, e, hg, cur, hblk, fun j x hj => ?_⟩
      have hjl := (List.getElem?_eq_some_iff.1 hj).1
      have : (cur.toList.take ((0 + ws.length) * 1))[j]? = some (.int .u64 (x : Int)) := by rw [htk]; simp [hj]
      rw [List.getElem?_take, if_pos (by omega)] at this
      simpa using this
  have HB : Hid (Below w.heap.size w w2) := (hB1.grown h3 (by omega) (by intro k hk; simp [Value.ownBlock] at hk; omega))
  clear h h1 h2 h3 h4 hown hB1 hs1 hi0 hz0 hz1 hz2
  obtain ⟨g, cap, rfl, h5, h6⟩ := HR.out
  have H5 : Hid (w.heap.size ≤ g ∧ RowAt w2 g ws) := ⟨h5, h6⟩
  clear h5 h6 HR
  have hnil : (binOp .eql 46 (.slice (some ⟨b, 0, none⟩) ws.length c) (.slice none 0 0)).run Tryd.prog w = .ok (.bool false) w := Lib.run_eql_slice_nil w 46 51 _ _ _ _ _ Tryd.underlying46
  go_enter Tryd.func27, Tryd.ntmps27
  go_wp2_with (at_builtin; rw [← hw1]; refine wpList_append_run rfl _ _ 46 46 46 rfl rfl _ _ _ rfl rfl hr ?_; clear hr hw1)
  go_ret
  exact ⟨g, cap, rfl, H5.out.1, H5.out.2, HB.out⟩

theorem copy_at {w w2 : World} {m : MS} {g cap : Nat} (h : MapAt w m) (hr : RowAt w2 g m.ws) (h0 : 0 < w.heap.size) (hg : w.heap.size ≤ g) :
    MapAt (w2.alloc (.cells #[.int .i64 m.n, .slice (some ⟨g, 0, none⟩) m.ws.length cap] 48)) ⟨w2.heap.size, g, m.n, cap, m.ws⟩ :=
  ⟨heap_alloc_new w2 _, hr.keep (Only.alloc (fun _ => False) w2 _) (fun h => h), h.fit, Nat.lt_of_lt_of_le h0 hg⟩

set_option maxRecDepth 8000 in
set_option maxHeartbeats 400000 in
theorem copy_any (m : MS) (w : World) (h : MapAt w m) (h0 : 0 < w.heap.size) : Calls Tryd.prog 15 #[.pointer (some ⟨m.a, 0, none⟩)] w fun e w' => ∃ m', e = .returned (.pointer (some ⟨m'.a, 0, none⟩)) ∧ m'.n = m.n ∧ m'.ws = m.ws ∧ MapAt w' m' ∧ w.heap.size ≤ m'.a ∧ w.heap.size ≤ m'.b ∧ Below w.heap.size w w' := by
  have c0 := h.c0
  have c1 := h.c1
  have hm := h.fit.most
  have cc := clone_any m.b m.ws m.c w.drew h.row (by rw [h.fit.len]; omega)
  have HM : Hid (MapAt w m ∧ 0 < w.heap.size) := ⟨h, h0⟩
  clear h h0
  go_enter Tryd.func15, Tryd.ntmps15
  go_wp2_with fail
  go_region_with (go_at_call 27; refine cc.mono ?_; rintro e w2 ⟨g, cap, rfl, h1, h2, h3⟩; have H : Hid (w.heap.size ≤ g ∧ RowAt w2 g m.ws ∧ Below w.heap.size w w2) := ⟨h1, h2, below_of_drew h3⟩; have d0 := (HM.out.1.below (below_of_drew h3)).c0; have d1 := (HM.out.1.below (below_of_drew h3)).c1; clear h1 h2 h3)
  all_goals go_wp2
  all_goals go_ret
  all_goals exact ⟨⟨w2.heap.size, g, m.n, cap, m.ws⟩, rfl, rfl, rfl, copy_at HM.out.1 H.out.2.1 HM.out.2 H.out.1, H.out.2.2.size, H.out.1, H.out.2.2.trans ((below_new w2 _).out.mono H.out.2.2.size)⟩

end Go.Proofs.YtndefmchaohikaaDoor
