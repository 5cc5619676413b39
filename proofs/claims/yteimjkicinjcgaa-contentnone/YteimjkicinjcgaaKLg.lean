/-
  The heads that are behind are taken out: slices.DeleteFunc.
-/
import Derived.Test.YteimjkicinjcgaaKLf

namespace Go.Proofs.Yteimjkicinjcgaa.Ck.Y.L
open Go.RowKit Go.Maps Go.Lib

def keepV (sn : List Int) (x : VG) : Bool := !seenB x.sq x.n sn
/-- What DeleteFunc answers. -/
def DelV (base : Nat) (v : Value) (M : List VG) (w : World) (e : Ending) (w' : World) : Prop := ∃ v', e = .returned v' ∧ RowV w' base v' M ∧ Only (fun b => v.ownBlock = some b) w w' ∧ v'.ownBlock = v.ownBlock

theorem del_none (fb : Nat) (sn : List Int) (base : Nat) (v : Value) (L : List VG) (w : World) (hr : RowV w base v L) (hl : L.length ≤ 1000) (hf : SeenF w fb sn) (hp : ∀ x ∈ L, seenB x.sq x.n sn = false) :
    Calls Try.prog 52 #[v, bhv fb] w (DelV base v (L.filter (keepV sn)) w) := by
  have e1 : L.filter (keepV sn) = L := List.filter_eq_self.2 fun x hx => by unfold keepV; rw [hp x hx]; rfl
  rw [e1]
  have c1 := idx_none fb sn base v L w hr hl hf hp
  obtain ⟨p, c, rfl, _⟩ := hr.caps
  have HR : Hid (RowV w base (.slice p L.length c) L) := hr
  clear hr hf hp e1 hl
  generalize L.length = n at *
  go_enter Try.func52, Try.ntmps52
  go_wp2_with (go_at_call 71; refine Calls_new c1 ?_; clear c1; intro w2 HB2)
  go_ret
  exact ⟨_, rfl, HR.out.below HB2.out, Below.only HB2.out _, rfl⟩

/-- The row while it is gone through: the first i are those that stay of the first j; from j on it is as it was. -/
structure Sift (sn : List Int) (L M : List VG) (i j : Nat) : Prop where
  len : M.length = L.length
  low : M.take i = (L.take j).filter (keepV sn)
  high : M.drop j = L.drop j
  lt : i < j
theorem Sift.at {sn : List Int} {L M : List VG} {i j : Nat} (h : Sift sn L M i j) : M[j]? = L[j]? := by
  have := congrArg (fun l => l[0]?) h.high
  simpa using this
theorem Sift.keep {sn : List Int} {L M : List VG} {i j : Nat} {x : VG} (h : Sift sn L M i j) (hx : L[j]? = some x) (hk : keepV sn x = true) : Sift sn L (M.set i x) (i + 1) (j + 1) := by
  have hj := (List.getElem?_eq_some_iff.1 hx).1
  have hlt := h.lt
  have hlen := h.len
  refine ⟨by simp [h.len], ?_, ?_, by omega⟩
  · rw [List.take_add_one, List.take_set_of_le (Nat.le_refl i), h.low, List.take_add_one, hx, List.filter_append]
    simp [hk, show i < M.length by omega]
  · rw [List.drop_set_of_lt (by omega)]
    have := congrArg (List.drop 1) h.high
    simpa [List.drop_drop, Nat.add_comm] using this
theorem Sift.drop {sn : List Int} {L M : List VG} {i j : Nat} {x : VG} (h : Sift sn L M i j) (hx : L[j]? = some x) (hk : keepV sn x = false) : Sift sn L M i (j + 1) := by
  refine ⟨h.len, ?_, ?_, by have := h.lt; omega⟩
  · rw [h.low, List.take_add_one, hx, List.filter_append]
    simp [hk]
  · have := congrArg (List.drop 1) h.high
    simpa [List.drop_drop, Nat.add_comm] using this
theorem Sift.start {sn : List Int} {L : List VG} {k : Nat} (hp : ∀ j x, j < k → L[j]? = some x → seenB x.sq x.n sn = false) (hpk : ∀ x, L[k]? = some x → seenB x.sq x.n sn = true) : Sift sn L L k (k + 1) := by
  refine ⟨rfl, ?_, rfl, by omega⟩
  rw [List.take_add_one, List.filter_append]
  have e1 : (L.take k).filter (keepV sn) = L.take k := List.filter_eq_self.2 fun x hx => by
    obtain ⟨j, hj, e⟩ := List.getElem_of_mem hx
    rw [List.length_take] at hj
    unfold keepV
    rw [hp j x (by omega) (by rw [List.getElem?_eq_getElem (by omega), ← e, List.getElem_take])]; rfl
  rw [e1]
  cases hk : L[k]? with
  | none => simp
  | some x => simp [keepV, hpk x hk]
theorem Sift.done {sn : List Int} {L M : List VG} {i : Nat} (h : Sift sn L M i L.length) : M.take i = L.filter (keepV sn) := by
  rw [h.low, List.take_length]

theorem zeros_ver : ∀ k, (Builtin.zeroCells (Value.agg #[.int .i64 0, .int .i64 0, .int .i64 0, .slice none 0 0, .slice none 0 0]).cells k).size = k * 5 := fun k => by rw [size_zeroCells]; rfl
/-- The cells of k versions that say nothing. -/
def zsV (k : Nat) : List Value := (Builtin.zeroCells (Value.agg #[.int .i64 0, .int .i64 0, .int .i64 0, .slice none 0 0, .slice none 0 0]).cells k).toList
theorem zsV_length (k : Nat) : (zsV k).length = k * 5 := by unfold zsV; rw [Array.length_toList, zeros_ver]
theorem zsV_one (k : Nat) : ∀ v ∈ zsV k, v.oneCell' = true := by
  intro v hv
  unfold zsV at hv
  rw [Array.mem_toList_iff] at hv
  unfold Builtin.zeroCells at hv
  rw [Array.mem_map] at hv
  obtain ⟨i, _, rfl⟩ := hv
  have key : ∀ r, r < 5 → ((Value.agg #[.int .i64 0, .int .i64 0, .int .i64 0, .slice none 0 0, .slice none 0 0]).cells[r]!).oneCell' = true := by
    intro r hr
    match r with
    | 0 => rfl
    | 1 => rfl
    | 2 => rfl
    | 3 => rfl
    | 4 => rfl
    | r + 5 => omega
  exact key _ (Nat.mod_lt _ (by decide))
/-- clear of the row's end, as a run. -/
theorem run_clearV (w : World) (ty : TypeId) (g o k c : Nat) (cur : Array Value) (hg : w.heap[g]? = some (.cells cur 43 (0, 0))) (hfit : o + k * 5 ≤ cur.size) (hk : 0 < k) :
    (Builtin.clear_ #[38] ty #[.slice (some ⟨g, o, none⟩) k c]).run Try.prog w = .ok (.tuple #[]) (w.setRow g (cur.toList.take o ++ zsV k ++ cur.toList.drop (o + k * 5)).toArray) := by
  have hst := run_storeCells_at Try.prog g o 43 (zsV k) 0 cur w hg (by rw [zsV_length]; simpa using hfit) (zsV_one k)
  rw [Nat.add_zero, zsV_length] at hst
  obtain ⟨k', rfl⟩ : ∃ k', k = k' + 1 := ⟨k - 1, by omega⟩
  have hz : (Builtin.zeroCells (Value.agg #[.int .i64 0, .int .i64 0, .int .i64 0, .slice none 0 0, .slice none 0 0]).cells (k' + 1)).toList = zsV (k' + 1) := rfl
  simp [Builtin.clear_, run_underlying Try.underlying38, Try.zeroValue43, hz, hst]

theorem only_subV {S T : Nat → Prop} {w w' : World} (h : Only S w w') (hs : ∀ b, S b → T b) : Only T w w' := ⟨h.os, h.tape, h.output, h.size, fun k hk hn => h.block k hk (fun e => hn (hs k e))⟩
theorem setRow_only (w : World) (g : Nat) (A : Array Value) : Only (fun b => b = g) w (w.setRow g A) := ⟨rfl, rfl, rfl, by simp, fun k _ hk => setRow_other w g k A hk⟩

set_option maxRecDepth 8000 in
set_option maxHeartbeats 2000000 in
theorem del_at (fb : Nat) (sn : List Int) (base g cap : Nat) (L : List VG) (k : Nat) (w : World) (hr : RowV w base (.slice (some ⟨g, 0, none⟩) L.length cap) L) (hl : L.length ≤ 1000) (hk : k < L.length) (hf : ∀ W, Only (fun b => b = g) w W → SeenF W fb sn)
    (hp : ∀ j x, j < k → L[j]? = some x → seenB x.sq x.n sn = false) (hpk : ∀ x, L[k]? = some x → seenB x.sq x.n sn = true) :
    Calls Try.prog 52 #[.slice (some ⟨g, 0, none⟩) L.length cap, bhv fb] w (DelV base (.slice (some ⟨g, 0, none⟩) L.length cap) (L.filter (keepV sn)) w) := by
  have c1 := idx_at fb sn base _ L k w hr hl (hf w (Only.refl _ _)) hk hp hpk
  have HS0 : Hid (Sift sn L L k (k + 1)) := Sift.start hp hpk
  have HR : Hid (RowV w base (.slice (some ⟨g, 0, none⟩) L.length cap) L) := hr
  have HF : Hid (∀ W, Only (fun b => b = g) w W → SeenF W fb sn) := hf
  have hkI : ¬ (k : Int) = -1 := by omega
  have hcap : L.length ≤ cap ∧ cap ≤ maxLen := by obtain ⟨cur, _, _, _, h1, h2, _⟩ := hr.cur; exact ⟨h1, h2⟩
  have hcap2 : cap ≤ 9223372036854775807 := by have := hcap.2; unfold maxLen at this; omega
  have hcap1 := hcap.1
  clear hr hf hp hpk hcap
  go_enter Try.func52, Try.ntmps52
  go_wp2_with (go_at_call 71; refine Calls_new c1 ?_; clear c1; intro w2 HB2)
  have H2 : Hid (Only (fun b => b = g) w w2) := Below.only HB2.out _
  have HR2 : Hid (RowV w2 base (.slice (some ⟨g, 0, none⟩) L.length cap) L) := HR.out.below HB2.out
  clear HB2
  go_loopw [5, 6] (fun ii jj wr => ∃ (i j : Nat) (M : List VG), ii = .int .i64 i ∧ jj = .int .i64 j ∧ j ≤ L.length ∧ Hid (Sift sn L M i j) ∧ Hid (RowV wr base (.slice (some ⟨g, 0, none⟩) L.length cap) M) ∧ Hid (Only (fun b => b = g) w wr)) (fun _ jj _ => L.length - (intOf jj).toNat)
  case atStart => exact ⟨k, k + 1, L, rfl, by go_num, by omega, HS0, HR2, H2⟩
  case round =>
    obtain ⟨i, j, M, rfl, rfl, hj, HS, HM, HO⟩ := hrel
    by_cases hlt : j < L.length
    · have hltI : (j : Int) < L.length := by omega
      obtain ⟨x, hx⟩ : ∃ x, L[j]? = some x := ⟨_, List.getElem?_eq_getElem hlt⟩
      obtain ⟨d0, d1, d2, d3, d4⟩ := RowV.cells HM.out (HS.out.at.trans hx)
      have hcall : ∀ W, Below wr.heap.size wr W → Calls Try.prog 53 #[.pointer (some ⟨fb, 0, none⟩), vgv x] W fun e w' => e = .returned (.bool (seenB x.sq x.n sn)) ∧ Below W.heap.size W w' := fun W hW => ((HF.out wr HO.out).below hW).call x
      have HX : Hid (L[j]? = some x) := hx
      clear hx
      have hbig : wr.heap.size ≠ g := by
        obtain ⟨cur, hb, _⟩ := HM.out.cur
        have := block_lt hb
        omega
      have HG : Hid (wr.heap.size ≠ g) := hbig
      clear hbig
      cases hs : seenB x.sq x.n sn with
      | false =>
        rw [hs] at hcall
        have HKP : Hid (keepV sn x = true) := by show _ = _; unfold keepV; rw [hs]; rfl
        have HC := (show Hid _ from hcall)
        have HMB : Hid (∀ W, Below wr.heap.size wr W → RowV W base (.slice (some ⟨g, 0, none⟩) L.length cap) M) := fun W hW => HM.out.below hW
        have HI : Hid (i < M.length) := by show i < _; have := HS.out.lt; have := HS.out.len; omega
        have hil : (i : Int) < L.length := by have := HS.out.lt; omega
        clear hcall hs
        obtain ⟨t, n, sq, ns, sp, sc, bs, dp, dc⟩ := x
        simp only [vgv, vgC] at *
        generalize hnl : ns.length = nl at *
        generalize hbl : bs.length = bl at *
        have HLN : Hid (ns.length = nl ∧ bs.length = bl) := ⟨hnl, hbl⟩
        clear hnl hbl
        go_wp2_with (first | (go_at_call 53; refine Calls_new (HC.out _ ?_) ?_; (exact (Below.refl _ _).alloc (Nat.le_refl _) _); intro w3 HB3; have q := (HB3.out.block wr.heap.size (by simp)).trans (heap_alloc_new wr (.cells #[.int .i64 t, .int .i64 n, .int .i64 sq, .slice sp nl sc, .slice dp bl dc] 43)); have H3 : Hid (Below wr.heap.size wr w3) := below_thenH (below_new wr _).out HB3.out; have e0 : w3.cell? ⟨wr.heap.size, 0, none⟩ = some (.int .i64 t) := cellOf q 0; have e1 : w3.cell? ⟨wr.heap.size, 1, none⟩ = some (.int .i64 n) := cellOf q 1; have e2 : w3.cell? ⟨wr.heap.size, 2, none⟩ = some (.int .i64 sq) := cellOf q 2; have e3 : w3.cell? ⟨wr.heap.size, 3, none⟩ = some (.slice sp nl sc) := cellOf q 3; have e4 : w3.cell? ⟨wr.heap.size, 4, none⟩ = some (.slice dp bl dc) := cellOf q 4; clear q d0 d1 d2 d3 d4) | (refine wpList_setV rfl _ _ rfl base g L.length cap i M ⟨t, n, sq, ns, sp, sc, bs, dp, dc⟩ rfl (by rw [← HLN.out.1, ← HLN.out.2]; rfl) ⟨HMB.out _ H3.out, HI.out⟩ ?_; intro w4 H4))
        go_roundw
        case rel =>
          (repeat apply Exists.intro)
          exact ⟨⟨i + 1, j + 1, M.set i ⟨t, n, sq, ns, sp, sc, bs, dp, dc⟩, by go_num, by go_num, by omega, HS.out.keep HX.out HKP.out, H4.out.1, (HO.out.next (Below.only H3.out _)).next H4.out.2.1⟩, rfl⟩
        case measure => simp [intOf]; omega
      | true =>
        rw [hs] at hcall
        have HKP : Hid (keepV sn x = false) := by show _ = _; unfold keepV; rw [hs]; rfl
        have HC := (show Hid _ from hcall)
        clear hcall hs
        obtain ⟨t, n, sq, ns, sp, sc, bs, dp, dc⟩ := x
        simp only [vgv, vgC] at *
        generalize hnl : ns.length = nl at *
        generalize hbl : bs.length = bl at *
        have HLN : Hid (ns.length = nl ∧ bs.length = bl) := ⟨hnl, hbl⟩
        clear hnl hbl
        go_wp2_with (go_at_call 53; refine Calls_new (HC.out _ ?_) ?_; (exact (Below.refl _ _).alloc (Nat.le_refl _) _); intro w3 HB3; have q := (HB3.out.block wr.heap.size (by simp)).trans (heap_alloc_new wr (.cells #[.int .i64 t, .int .i64 n, .int .i64 sq, .slice sp nl sc, .slice dp bl dc] 43)); have H3 : Hid (Below wr.heap.size wr w3) := below_thenH (below_new wr _).out HB3.out; have e0 : w3.cell? ⟨wr.heap.size, 0, none⟩ = some (.int .i64 t) := cellOf q 0; have e1 : w3.cell? ⟨wr.heap.size, 1, none⟩ = some (.int .i64 n) := cellOf q 1; have e2 : w3.cell? ⟨wr.heap.size, 2, none⟩ = some (.int .i64 sq) := cellOf q 2; have e3 : w3.cell? ⟨wr.heap.size, 3, none⟩ = some (.slice sp nl sc) := cellOf q 3; have e4 : w3.cell? ⟨wr.heap.size, 4, none⟩ = some (.slice dp bl dc) := cellOf q 4; clear q d0 d1 d2 d3 d4)
        go_roundw
        case rel =>
          (repeat apply Exists.intro)
          exact ⟨⟨i, j + 1, M, rfl, by go_num, by omega, HS.out.drop HX.out HKP.out, HM.out.below H3.out, HO.out.next (Below.only H3.out _)⟩, rfl⟩
        case measure => simp [intOf]; omega
    · obtain rfl : j = L.length := by omega
      obtain ⟨cur, hblk, hn, hb, h1, h2, h3, h4⟩ := HM.out.cur
      have hlen := HS.out.len
      have hil := HS.out.lt
      have hcl := fun ty c => run_clearV wr ty g (i * 5) (L.length - i) c cur hblk (by rw [h3]; omega) (by omega)
      have hzl := zsV_length (L.length - i)
      obtain ⟨A, hA⟩ : ∃ A, A = (cur.toList.take (i * 5) ++ zsV (L.length - i) ++ cur.toList.drop (i * 5 + (L.length - i) * 5)).toArray := ⟨_, rfl⟩
      rw [← hA] at hcl
      have H : Hid (DelV base (.slice (some ⟨g, 0, none⟩) L.length cap) (L.filter (keepV sn)) w (.returned (.slice (some ⟨g, 0, none⟩) i cap)) (wr.setRow g A)) := by
        have hdone := HS.out.done
        have hfl : (L.filter (keepV sn)).length = i := by rw [← hdone, List.length_take]; omega
        refine ⟨_, rfl, ⟨flatV_length _, .inr ⟨g, cap, A, by rw [hfl], hb, setRow_heap _ _ cur _ 43 (0, 0) hblk, by omega, h2, ?_, ?_⟩⟩, only_subV (HO.out.next (setRow_only wr g A)) (fun b hb => by rw [hb]; rfl), rfl⟩
        · rw [hA]
          have : cur.toList.length = cap * 5 := by rw [Array.length_toList, h3]
          simp [hzl]; omega
        · have hc : cur.toList.length = cap * 5 := by rw [Array.length_toList, h3]
          rw [hfl, hA, List.toList_toArray, List.append_assoc, List.take_append_of_le_length (by rw [List.length_take]; omega), List.take_take, Nat.min_self, ← hdone]
          have := congrArg (List.take (i * 5)) h4
          rw [List.take_take, Nat.min_eq_left (by omega)] at this
          rw [this, flatV_take]
      have hic : i ≤ cap := by omega
      have hii : i < L.length := hil
      clear hblk h4 h3 hA hzl hlen hn
      go_wp2
      go_ret
      exact H.out

theorem first_seen (sn : List Int) : ∀ L : List VG, (∀ x ∈ L, seenB x.sq x.n sn = false) ∨ ∃ k, k < L.length ∧ (∀ j x, j < k → L[j]? = some x → seenB x.sq x.n sn = false) ∧ ∀ x, L[k]? = some x → seenB x.sq x.n sn = true
  | [] => .inl (fun x hx => by simp at hx)
  | y :: L => by
    cases hy : seenB y.sq y.n sn with
    | true => exact .inr ⟨0, by simp, fun j x hj => by omega, fun x hx => by simp at hx; rw [← hx]; exact hy⟩
    | false =>
      rcases first_seen sn L with h | ⟨k, h1, h2, h3⟩
      · exact .inl (fun x hx => by rcases List.mem_cons.1 hx with rfl | hx; exact hy; exact h x hx)
      · refine .inr ⟨k + 1, by simp; omega, fun j x hj hx => ?_, fun x hx => h3 x (by simpa using hx)⟩
        cases j with
        | zero => simp at hx; rw [← hx]; exact hy
        | succ j => exact h2 j x (by omega) (by simpa using hx)
theorem del_any (fb : Nat) (sn : List Int) (base : Nat) (v : Value) (L : List VG) (w : World) (hr : RowV w base v L) (hl : L.length ≤ 1000) (hf : ∀ W, Only (fun b => v.ownBlock = some b) w W → SeenF W fb sn) :
    Calls Try.prog 52 #[v, bhv fb] w (DelV base v (L.filter (keepV sn)) w) := by
  rcases first_seen sn L with h | ⟨k, h1, h2, h3⟩
  · exact del_none fb sn base v L w hr hl (hf w (Only.refl _ _)) h
  · obtain ⟨g, cap, cur, rfl, _⟩ := hr.form (by omega)
    exact del_at fb sn base g cap L k w hr hl h1 (fun W hW => hf W (only_subV hW (fun b hb => by rw [hb]; rfl))) h2 h3

end Go.Proofs.Yteimjkicinjcgaa.Ck.Y.L
