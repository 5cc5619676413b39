/-
  The reads of a list of method values, in order.
-/
import Derived.Test.YtegjageenofbjaaGreatKrany
import Derived.Test.YtegjageenofbjaaGreatKeach
namespace Go.Proofs.YtegjageenofbjaaGreat.Cd
open Go.RowKit

def rseq : List Nat → St → List Nat × St
  | [], s => ([], s)
  | m :: r, s => ((rnum m s).1 :: (rseq r (rnum m s).2).1, (rseq r (rnum m s).2).2)
theorem rseq_length : ∀ (l : List Nat) (s : St), (rseq l s).1.length = l.length
  | [], _ => rfl
  | m :: r, s => by simp [rseq, rseq_length r]
theorem rseq_snoc (x : Nat) : ∀ (l : List Nat) (s : St), rseq (l ++ [x]) s = ((rseq l s).1 ++ [(rnum x (rseq l s).2).1], (rnum x (rseq l s).2).2)
  | [], s => rfl
  | m :: r, s => by simp [rseq, rseq_snoc x r]
theorem rseq_len : ∀ (l : List Nat) (s : St), ((rseq l s).2.getD []).length ≤ (s.getD []).length
  | [], _ => Nat.le_refl _
  | m :: r, s => Nat.le_trans (rseq_len r _) (rnum_len m s)
theorem rseq_replicate (m : Nat) : ∀ (n : Nat) (s : St), rseq (List.replicate n m) s = rnums m n s
  | 0, _ => rfl
  | n + 1, s => by simp [List.replicate_succ, rseq, rnums, rseq_replicate m n]

/-- A reader is left by what turns blocks in which no byte lies. -/
theorem Rd.leave {S : Nat → Prop} {t : TypeId} {w w' : World} {a : Nat} {s : St} (h : Rd t w a s) (ho : Only S w w') (hn : ¬ S a) (hs : ∀ b, b < w.heap.size → S b → ∃ cs t' f, w.heap[b]? = some (.cells cs t' f) ∧ ∀ (j : Nat) (x : BitVec 8), cs[j]? ≠ some (u8v x)) : Rd t w' a s := by
  obtain ⟨p, c, h0, h1, h2, h3, h4⟩ := h.at_
  suffices hno : ∀ b o, 0 < (s.getD []).length → p = some ⟨b, o, none⟩ → ¬ S b from ⟨p, c, h0, (ho.block a (block_lt h1) hn).trans h1, h2, ho.bytes h3 hno, ho.tg h4 hno⟩
  intro b o hl e hS
  subst e
  obtain ⟨b', o', e, hc⟩ := h3 hl
  cases e
  have hc0 := hc 0 _ (List.getElem?_eq_getElem hl)
  obtain ⟨cs, t', f, hb, hx⟩ := hs b (cell_lt hc0) hS
  rw [cellOf hb] at hc0
  exact hx _ _ hc0
theorem ints_no_byte (l : List Nat) : ∀ (j : Nat) (x : BitVec 8), (l.map nv).toArray[j]? ≠ some (u8v x) := by
  intro j x h
  rw [List.getElem?_toArray, List.getElem?_map] at h
  obtain ⟨y, _, hy⟩ := Option.map_eq_some_iff.1 h
  simp [u8v] at hy

theorem clear_run (W : World) (ty g n : Nat) (cur : List Value) (hg : W.heap[g]? = some (.cells cur.toArray 2 (0, 0))) (hn : cur.length = n) :
    ∃ W', (Builtin.clear_ #[25] ty #[.slice (some ⟨g, 0, none⟩) n n]).run Tryz.prog W = .ok (.tuple #[]) W' ∧ Hid (W'.heap[g]? = some (.cells ((List.replicate n 0).map nv).toArray 2 (0, 0))) ∧ Hid (Only (· = g) W W') := by
  cases n with
  | zero =>
    refine ⟨W, by simp [Builtin.clear_, run_underlying Tryz.underlying25], ?_, Only.refl _ _⟩
    rw [List.eq_nil_of_length_eq_zero hn] at hg
    exact hg
  | succ m =>
    obtain ⟨i0, hi0, hz0, hz1, hz2⟩ := info_parts Tryz.info2
    have hzc : (Builtin.zeroCells (Value.int .i64 0).cells (m + 1)).toList = List.replicate (m + 1) (Value.int .i64 0) := by
      rw [show (Value.int .i64 0).cells = #[.int .i64 0] from rfl]
      simp [Builtin.zeroCells]
      apply List.ext_getElem
      · simp
      · intro i h1 h2
        simp [Nat.mod_one]
    have hst := run_storeCells_at Tryz.prog g 0 2 (List.replicate (m + 1) (Value.int .i64 0)) 0 cur.toArray W hg (by simp [hn]) (by intro v hv; rw [List.eq_of_mem_replicate hv]; rfl)
    have hv : ∀ w, (zeroValue 2).run Tryz.prog w = .ok (.int .i64 0) w := fun w => by simp [zeroValue, typeInfo, hi0, hz0]
    refine ⟨_, by simp [Builtin.clear_, run_underlying Tryz.underlying25, hv, hzc]; exact by rw [show (⟨g, 0, none⟩ : Addr) = ⟨g, 0 + 0, none⟩ from rfl, hst]; rfl, ?_, ?_⟩
    · show _ = _
      rw [setRow_heap W g cur.toArray _ 2 (0, 0) hg]
      have : cur.toArray.toList.take (0 + 0) ++ List.replicate (m + 1) (Value.int .i64 0) ++ cur.toArray.toList.drop (0 + 0 + (List.replicate (m + 1) (Value.int .i64 0)).length) = (List.replicate (m + 1) 0).map nv := by
        rw [List.drop_of_length_le (by simp [hn])]
        simp
      rw [this]
    · exact ⟨rfl, rfl, rfl, by simp, fun k _ hk => setRow_other W g k _ hk⟩

/-- Function K reads a number of at most 'most'. -/
def IsR (K : Nat) (most : Nat) : Prop := (∀ args w, (callFunc K args).run Tryz.prog w = .ok (.enter K args) w) ∧ ∀ (a : Nat) (s : St) (w : World), Rd 92 w a s → Small s → Calls Tryz.prog K #[.pointer (some ⟨a, 0, none⟩)] w (Did w a (.int .i64 (rnum most s).1) (rnum most s).2)
theorem isR_time : IsR 84 1152921504606846976 := ⟨enters Tryz.func84 (by kernel_rfl) rfl, rtime_any⟩
theorem isR_node : IsR 85 63 := ⟨enters Tryz.func85 (by kernel_rfl) rfl, rnode_any⟩
theorem isR_count : IsR 88 1152921504606846976 := ⟨enters Tryz.func88 (by kernel_rfl) rfl, rcount_any⟩

/-- The numbers read so far, and zeros behind them. -/
def soFar (xs : List (Nat × Nat)) (s : St) (i : Nat) : List Nat := (rseq ((xs.map (·.2)).take i) s).1 ++ List.replicate (xs.length - i) 0
theorem soFar_length (xs : List (Nat × Nat)) (s : St) (i : Nat) (h : i ≤ xs.length) : (soFar xs s i).length = xs.length := by
  simp [soFar, rseq_length]; omega
theorem soFar_next (xs : List (Nat × Nat)) (s : St) (i : Nat) (x : Nat × Nat) (hx : xs[i]? = some x) :
    ((soFar xs s i).map nv).toArray.setIfInBounds i (nv (rnum x.2 (rseq ((xs.map (·.2)).take i) s).2).1) = ((soFar xs s (i + 1)).map nv).toArray := by
  have hi := (List.getElem?_eq_some_iff.1 hx).1
  have e1 : (xs.map (·.2)).take (i + 1) = (xs.map (·.2)).take i ++ [x.2] := by rw [List.take_add_one, List.getElem?_map, hx]; simp
  have hl : (rseq ((xs.map (·.2)).take i) s).1.length = i := by rw [rseq_length]; simp; omega
  unfold soFar
  rw [e1, rseq_snoc]
  simp only
  generalize (rseq ((xs.map (·.2)).take i) s).1 = A at hl
  generalize (rnum x.2 (rseq ((xs.map (·.2)).take i) s).2).1 = y
  rw [show xs.length - i = (xs.length - (i + 1)) + 1 by omega, List.replicate_succ]
  simp only [List.map_append, List.map_cons, List.append_assoc, List.singleton_append, List.setIfInBounds_toArray]
  rw [List.set_append_right _ _ (by simp [hl])]
  simp [hl]

/-- What the list of reads gives. -/
def eachOf (xs : List (Nat × Nat)) (s : St) : List Nat := if (rseq (xs.map (·.2)) s).2 = none then List.replicate xs.length 0 else (rseq (xs.map (·.2)) s).1

set_option maxRecDepth 8000 in
set_option maxRecDepth 8000 in
set_option maxHeartbeats 1000000 in
theorem readEach_any (a : Nat) (xs : List (Nat × Nat)) (q : Option Addr) (cq : Nat) (s : St) (w : World) (h : Rd 92 w a s) (hK : ∀ x ∈ xs, IsR x.1 x.2)
    (hq : Lies w q (xs.map fun x => fv x.1 a)) (hl : Small s) (hlen : xs.length ≤ 100) (hnq : ∀ b o, q = some ⟨b, o, none⟩ → b ≠ a) :
    Calls Tryz.prog 83 #[.pointer (some ⟨a, 0, none⟩), .slice q xs.length cq] w fun e w' => ∃ g, e = .returned (.slice (some ⟨g, 0, none⟩) xs.length xs.length) ∧ w.heap.size ≤ g ∧ w'.heap[g]? = some (.cells ((eachOf xs s).map nv).toArray 2 (0, 0)) ∧
      Rd 92 w' a (rseq (xs.map (·.2)) s).2 ∧ Only (· = a) w w' := by
  obtain ⟨i0, hi0, hz0, hz1, hz2⟩ := info_parts Tryz.info2
  obtain ⟨w1, hmk, hrow, hgr⟩ := run_make_full (P := Tryz.prog) w w.heap.size 25 2 i0 (.int .i64 0) 1 Tryz.underlying25 hi0 hz0 hz1 .i64 .i64 xs.length (by rw [hz2]; omega) (by unfold maxLen; omega) (Nat.le_refl _)
  have hB1 : Below w.heap.size w w1 := (Below.refl _ w).grown hgr (Nat.le_refl _) (by simp)
  have hb1 : w1.heap[w.heap.size]? = some (.cells ((soFar xs s 0).map nv).toArray 2 (0, 0)) := by
    rw [show (Value.int .i64 0).cells = #[.int .i64 0] from rfl, Nat.mul_one, toList_madeCells_one] at hrow
    obtain ⟨hl, h⟩ := hrow
    rcases h with ⟨h, _⟩ | ⟨g', cap, cur, hv, _, hg', _, _, hs, ht⟩
    · cases h
    · cases hv
      have e1 : cur.toList = List.replicate xs.length (.int .i64 0) := by rw [← ht, List.take_of_length_le]; simp [hs]
      rw [hg', show ((soFar xs s 0).map nv) = List.replicate xs.length (.int .i64 0) by simp [soFar, rseq], ← e1]
  have HG : Hid (w1.heap[w.heap.size]? = some (.cells ((soFar xs s 0).map nv).toArray 2 (0, 0))) := hb1
  have HR1 : Hid (Rd 92 w1 a s) := h.below hB1
  have HQ1 : Hid (Lies w1 q (xs.map fun x => fv x.1 a)) := below_lies hB1 hq
  have HO1 : Hid (Only (· = a) w w1) := Below.only hB1 _
  have HA : Hid (a < w.heap.size) := h.lt
  have HQW : Hid (Lies w q (xs.map fun x => fv x.1 a)) := hq
  have HL : Hid (Small s) := hl
  have HK : Hid (∀ x ∈ xs, IsR x.1 x.2) := hK
  have HNQ : Hid (∀ b o, q = some ⟨b, o, none⟩ → b ≠ a) := hnq
  clear h hq hl hK hnq hB1 hb1 hrow hgr hz0 hz1 hz2 hi0
  go_enter Tryz.func83, Tryz.ntmps83
  go_wp2_with fail
  clear hmk
  go_loopw [13] (fun ii wr => ∃ i : Nat, ii = .int .i64 i ∧ i ≤ xs.length ∧ Hid (Rd 92 wr a (rseq ((xs.map (·.2)).take i) s).2) ∧ Hid (wr.heap[w.heap.size]? = some (.cells ((soFar xs s i).map nv).toArray 2 (0, 0))) ∧ Hid (Only (· = a) w wr)) (fun ii _ => xs.length - (intOf ii).toNat)
  case atStart => exact ⟨0, rfl, Nat.zero_le _, HR1, HG, HO1⟩
  case round =>
    obtain ⟨i, rfl, hi, HR, HF, HO⟩ := hrel
    by_cases hlt : i < xs.length
    · have hltI : (i : Int) < xs.length := by omega
      obtain ⟨qb, qo, rfl, hqc⟩ := HQW.out (by simp; omega)
      obtain ⟨x, hx⟩ : ∃ x, xs[i]? = some x := ⟨_, List.getElem?_eq_getElem hlt⟩
      have c2 : wr.cell? ⟨qb, qo + i, none⟩ = some (.func (.func x.1) #[.pointer (some ⟨a, 0, none⟩)] #[]) := HO.out.cell (hqc i _ (by rw [List.getElem?_map, hx]; rfl)) (HNQ.out qb qo rfl)
      have hsm : Small (rseq ((xs.map (·.2)).take i) s).2 := Nat.le_trans (rseq_len _ _) HL.out
      obtain ⟨he, c3'⟩ := HK.out x (List.mem_of_getElem? hx)
      have c3 := c3' a _ wr HR.out hsm
      have HX : Hid (xs[i]? = some x) := hx
      clear hx hqc hsm c3'
      go_wp2_with fail
      refine c3.mono ?_
      rintro e w2 ⟨rfl, k1, k2⟩
      have hgw : w2.heap[w.heap.size]? = some (.cells ((soFar xs s i).map nv).toArray 2 (0, 0)) := (k2.block _ (block_lt HF.out) (by have := HA.out; omega)).trans HF.out
      have HGW : Hid (w2.heap[w.heap.size]? = some (.cells ((soFar xs s i).map nv).toArray 2 (0, 0))) := hgw
      obtain ⟨z, hz⟩ : ∃ z, (soFar xs s i)[i]? = some z := ⟨_, List.getElem?_eq_getElem (by rw [soFar_length xs s i hi]; exact hlt)⟩
      have c4 : w2.cell? ⟨w.heap.size, i, none⟩ = some (.int .i64 z) := by rw [cellOf hgw, List.getElem?_toArray, List.getElem?_map, hz]; rfl
      have f4 := frozenOf hgw i
      have K1 : Hid (Rd 92 w2 a (rnum x.2 (rseq ((xs.map (·.2)).take i) s).2).2) := k1
      have K2 : Hid (Only (· = a) wr w2) := k2
      clear k1 k2 c3 c2 hgw hz
      go_wp2
      go_roundw
      case rel =>
        have hS : Only (· = w.heap.size) w2 (w2.setCell ⟨w.heap.size, i, none⟩ (.int .i64 (rnum x.2 (rseq ((xs.map (·.2)).take i) s).2).1)) := Only.setCell _ _ _ rfl
        refine ⟨i + 1, by go_num, by omega, ?_, ?_, ?_⟩
        · have e1 : (xs.map (·.2)).take (i + 1) = (xs.map (·.2)).take i ++ [x.2] := by rw [List.take_add_one, List.getElem?_map, HX.out]; simp
          rw [e1, rseq_snoc]
          exact K1.out.leave hS (by have := HA.out; omega) (fun b _ hb => by subst hb; exact ⟨_, _, _, HGW.out, ints_no_byte _⟩)
        · show _ = _
          rw [heap_set_same HGW.out, soFar_next xs s i x HX.out]
        · exact (HO.out.next K2.out).trans hS (fun j hj => .inr (by omega))
      case measure => simp [intOf]; omega
    · obtain rfl : i = xs.length := by omega
      have hRd := HR.out
      have hF := HF.out
      unfold soFar at hF
      rw [List.take_of_length_le (by simp), Nat.sub_self, List.replicate_zero, List.append_nil] at hF
      rw [List.take_of_length_le (by simp)] at hRd
      have hl2 := rseq_length (xs.map (·.2)) s
      obtain ⟨⟨vs, s2⟩, hr⟩ : ∃ r, rseq (xs.map (·.2)) s = r := ⟨_, rfl⟩
      rw [hr] at hRd hF hl2
      simp only at hRd hF hl2
      have HE : Hid (eachOf xs s = if s2 = none then List.replicate xs.length 0 else vs) := by unfold eachOf; rw [hr]; rfl
      have HRR : Hid ((rseq (xs.map (·.2)) s).2 = s2) := by rw [hr]; rfl
      clear hr
      clear hlt HR HF
      cases s2 with
      | none =>
        have c18 := err_bad a wr hRd
        obtain ⟨w3, hcl, H3, HO3⟩ := clear_run wr 0 w.heap.size xs.length (vs.map nv) hF (by simp [hl2])
        have HF : Hid (wr.heap[w.heap.size]? = some (.cells (vs.map nv).toArray 2 (0, 0))) := hF
        have HRD : Hid (Rd 92 wr a none) := hRd
        clear hF hRd hl2
        go_wp2_with (go_at_call 91; refine Calls_on c18 ?_)
        go_ret
        refine ⟨_, rfl, Nat.le_refl _, ?_, ?_, ?_⟩
        · rw [HE.out, if_pos trivial]; exact H3.out
        · rw [HRR.out]; exact HRD.out.leave HO3.out (by have := HA.out; omega) (fun b _ hb => by subst hb; exact ⟨_, _, _, HF.out, ints_no_byte _⟩)
        · exact HO.out.trans HO3.out (fun j hj => .inr (by omega))
      | some bs =>
        have c18 := err_good a bs wr hRd
        have HF : Hid (wr.heap[w.heap.size]? = some (.cells (vs.map nv).toArray 2 (0, 0))) := hF
        have HRD : Hid (Rd 92 wr a (some bs)) := hRd
        clear hF hRd hl2
        go_wp2_with (go_at_call 91; refine Calls_on c18 ?_)
        go_ret
        refine ⟨_, rfl, Nat.le_refl _, ?_, by rw [HRR.out]; exact HRD.out, HO.out⟩
        rw [HE.out, if_neg (by simp)]; exact HF.out

end Go.Proofs.YtegjageenofbjaaGreat.Cd
