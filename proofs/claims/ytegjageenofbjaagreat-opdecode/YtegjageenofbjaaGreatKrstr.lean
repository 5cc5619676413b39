/-
  A reader's IDs and vectors; a writer's vectors.
-/
import Derived.Test.YtegjageenofbjaaGreatKreach
import Derived.Test.YtegjageenofbjaaGreatKrep
import Derived.Test.YtegjageenofbjaaGreatKtrim
namespace Go.Proofs.YtegjageenofbjaaGreat.Cd
open Go.RowKit

theorem rid_each (s : St) : eachOf [(84, 1152921504606846976), (85, 63)] s = [(rid s).1.1, (rid s).1.2] ∧ (rseq [1152921504606846976, 63] s).2 = (rid s).2 := by
  unfold eachOf rid
  simp only [List.map_cons, List.map_nil, rseq]
  cases h : (rnum 63 (rnum 1152921504606846976 s).2).2 with
  | none => exact ⟨rfl, rfl⟩
  | some bs => exact ⟨by simp, rfl⟩

set_option maxRecDepth 8000 in
set_option maxRecDepth 8000 in
set_option maxHeartbeats 400000 in
theorem id_read (a : Nat) (s : St) (w : World) (h : Rd 92 w a s) (hl : Small s) :
    Calls Tryz.prog 49 #[.pointer (some ⟨a, 0, none⟩)] w (Did w a (.agg #[.int .i64 (rid s).1.1, .int .i64 (rid s).1.2]) (rid s).2) := by
  have hmf : ∀ (fn : Fn) (first cap : Array Value) (w : World), (Instr.makeFunc fn first cap).run Tryz.prog w = .ok (.func fn first cap) w := fun _ _ _ _ => rfl
  obtain ⟨w1, hw1⟩ : ∃ w1, w1 = w.alloc (.cells #[.int .i64 0, .int .i64 0] 23) := ⟨_, rfl⟩
  obtain ⟨w2, hw2⟩ : ∃ w2, w2 = w1.alloc (.cells #[.func (.func 84) #[.pointer (some ⟨a, 0, none⟩)] #[], .func (.func 85) #[.pointer (some ⟨a, 0, none⟩)] #[]] 69) := ⟨_, rfl⟩
  have hB1 : Below w.heap.size w w1 := by rw [hw1]; exact (below_new _ _).out
  have hB2 : Below w1.heap.size w1 w2 := by rw [hw2]; exact (below_new _ _).out
  have z1 : w1.heap.size = w.heap.size + 1 := by rw [hw1]; simp
  have z2 : w2.heap.size = w.heap.size + 2 := by rw [hw2]; simp [z1]
  have hB : Below w.heap.size w w2 := hB1.trans (hB2.mono hB1.size)
  have b1 : w2.heap[w.heap.size]? = some (.cells #[.int .i64 0, .int .i64 0] 23 (0, 0)) := by rw [hB2.block _ (by omega), hw1]; exact heap_alloc_new w _
  have b2 : w2.heap[w1.heap.size]? = some (.cells #[.func (.func 84) #[.pointer (some ⟨a, 0, none⟩)] #[], .func (.func 85) #[.pointer (some ⟨a, 0, none⟩)] #[]] 69 (0, 0)) := by rw [hw2]; exact heap_alloc_new w1 _
  have hlt := h.lt
  have c := readEach_any a [(84, 1152921504606846976), (85, 63)] (some ⟨w1.heap.size, 0, none⟩) 2 s w2 (h.below hB)
    (fun x hx => by simp at hx; rcases hx with rfl | rfl; exact isR_time; exact isR_node) (lies_block (xs := [fv 84 a, fv 85 a]) b2) hl (by simp)
    (fun b o e => by cases e; omega)
  obtain ⟨e1, e2⟩ := rid_each s
  rw [e1, show ([(84, 1152921504606846976), (85, 63)] : List (Nat × Nat)).map (·.2) = [1152921504606846976, 63] from rfl, e2, z1, z2] at c
  generalize rid s = r at c ⊢
  have HO : Hid (Only (· = a) w w2) := Below.only hB _
  have HB1 : Hid (w2.heap[w.heap.size]? = some (.cells #[.int .i64 0, .int .i64 0] 23 (0, 0))) := b1
  have HLT : Hid (a < w.heap.size) := hlt
  have HZ : Hid (w2.heap.size = w.heap.size + 2) := z2
  clear hB1 hB2 hB b1 b2 h hl z1 z2 e1 e2 hlt
  go_enter Tryz.func49, Tryz.ntmps49
  go_wp2_with fail
  rw [← hw1, ← hw2]
  refine (show Calls Tryz.prog 83 #[.pointer (some ⟨a, 0, none⟩), .slice (some ⟨w.heap.size + 1, 0, none⟩) 2 2] _ _ from c).mono ?_
  rintro e w3 ⟨g, rfl, hg, j1, j2, j3⟩
  have c0 : w3.cell? ⟨g, 0, none⟩ = some (.int .i64 r.1.1) := cellOf j1 0
  have c1 : w3.cell? ⟨g, 1, none⟩ = some (.int .i64 r.1.2) := cellOf j1 1
  have b1 : w3.heap[w.heap.size]? = some (.cells #[.int .i64 0, .int .i64 0] 23 (0, 0)) := (j3.block _ (block_lt HB1.out) (by have := HLT.out; omega)).trans HB1.out
  have d0 : w3.cell? ⟨w.heap.size, 0, none⟩ = some (.int .i64 0) := cellOf b1 0
  have d1 : w3.cell? ⟨w.heap.size, 1, none⟩ = some (.int .i64 0) := cellOf b1 1
  have f0 : w3.frozen? ⟨w.heap.size, 0, none⟩ = false := frozenOf b1 0
  have f1 : w3.frozen? ⟨w.heap.size, 1, none⟩ = false := frozenOf b1 1
  have HB3 : Hid (w3.heap[w.heap.size]? = some (.cells #[.int .i64 0, .int .i64 0] 23 (0, 0))) := b1
  have J2 : Hid (Rd 92 w3 a r.2) := j2
  have J3 : Hid (Only (· = a) w2 w3) := j3
  clear c j1 j2 j3 hmf hw1 hw2 b1
  go_wp2
  go_region
  go_wp2
  refine bodyPost_ret (v := .agg #[.int .i64 r.1.1, .int .i64 r.1.2]) (by simp [results, Tryz.results49, go_sem, d0, d1]) rfl ?_
  have hS : Only (· = w.heap.size) w3 (((w3.setCell ⟨w.heap.size, 0, none⟩ (.int .i64 r.1.1)).setCell ⟨w.heap.size, 1, none⟩ (.int .i64 r.1.2)).drew) := by
    have := Only.next (Only.setCell (S := (· = w.heap.size)) w3 ⟨w.heap.size, 0, none⟩ (.int .i64 r.1.1) rfl) (Only.setCell _ ⟨w.heap.size, 1, none⟩ (.int .i64 r.1.2) rfl)
    exact ⟨this.os, this.tape, this.output, this.size, this.block⟩
  refine ⟨rfl, J2.out.leave hS (by have := HLT.out; omega) (fun b _ hb => by subst hb; exact ⟨_, _, _, HB3.out, ints_no_byte [0, 0]⟩), (HO.out.next J3.out).trans hS (fun j hj => .inr (by omega))⟩

theorem rvec_each (s : St) : let n := (rnum 64 s).1; let l := eachOf (List.replicate n (88, 1152921504606846976)) (rnum 64 s).2; let t := (rseq ((List.replicate n ((88 : Nat), 1152921504606846976)).map (·.2)) (rnum 64 s).2).2
    l.length = n ∧ (l.getLast? = some 0 → rvec s = ([], none)) ∧ (l.getLast? ≠ some 0 → rvec s = (l, t)) := by
  intro n l t
  have e1 : (List.replicate n ((88 : Nat), 1152921504606846976)).map (·.2) = List.replicate n 1152921504606846976 := by simp
  have ht : t = (rnums 1152921504606846976 n (rnum 64 s).2).2 := by show (rseq _ _).2 = _; rw [e1, rseq_replicate]
  have hl : l = if (rnums 1152921504606846976 n (rnum 64 s).2).2 = none then List.replicate n 0 else (rnums 1152921504606846976 n (rnum 64 s).2).1 := by
    show eachOf _ _ = _
    unfold eachOf
    rw [e1, rseq_replicate, List.length_replicate]
  have hr : rvec s = match (rnums 1152921504606846976 n (rnum 64 s).2).2 with
    | none => ([], none)
    | some bs => if (rnums 1152921504606846976 n (rnum 64 s).2).1.getLast? = some 0 then ([], none) else ((rnums 1152921504606846976 n (rnum 64 s).2).1, some bs) := rfl
  have hlen := rnums_length 1152921504606846976 n (rnum 64 s).2
  generalize rnums 1152921504606846976 n (rnum 64 s).2 = r at ht hl hr hlen
  obtain ⟨vs, s2⟩ := r
  simp only at ht hl hr hlen
  rw [hl, ht, hr]
  cases s2 with
  | none =>
    rw [if_pos rfl]
    refine ⟨by simp, fun _ => rfl, fun h => ?_⟩
    rcases Nat.eq_zero_or_pos n with h0 | h0
    · rw [h0]; rfl
    · exact absurd (by rw [List.getLast?_replicate, if_neg (by omega)]) h
  | some bs =>
    rw [if_neg (by simp)]
    exact ⟨hlen, fun h => if_pos h, fun h => if_neg h⟩

set_option maxRecDepth 8000 in
set_option maxRecDepth 8000 in
set_option maxHeartbeats 1000000 in
theorem vector_read (a : Nat) (s : St) (w : World) (h : Rd 92 w a s) (hl : Small s) :
    Calls Tryz.prog 52 #[.pointer (some ⟨a, 0, none⟩)] w fun e w' => ∃ p c, Did w a (.slice p (rvec s).1.length c) (rvec s).2 e w' ∧ (rvec s).1.length ≤ c ∧ Lies w' p ((rvec s).1.map nv) ∧ (∀ b o, p = some ⟨b, o, none⟩ → w.heap.size ≤ b) := by
  have hmf : ∀ (fn : Fn) (first cap : Array Value) (w : World), (Instr.makeFunc fn first cap).run Tryz.prog w = .ok (.func fn first cap) w := fun _ _ _ _ => rfl
  have c44 := rnumber_any 64 a s w h hl
  have hn := rnum_le 64 s
  have hsm : Small (rnum 64 s).2 := Nat.le_trans (rnum_len 64 s) hl
  obtain ⟨q1, q2, q3⟩ := rvec_each s
  obtain ⟨L, hL⟩ : ∃ L, eachOf (List.replicate (rnum 64 s).1 (88, 1152921504606846976)) (rnum 64 s).2 = L := ⟨_, rfl⟩
  obtain ⟨T, hT⟩ : ∃ T, (rseq ((List.replicate (rnum 64 s).1 ((88 : Nat), 1152921504606846976)).map (·.2)) (rnum 64 s).2).2 = T := ⟨_, rfl⟩
  rw [hL] at q1 q2 q3
  rw [hT] at q3
  generalize rvec s = R at q2 q3 ⊢
  generalize rnum 64 s = r at c44 hn hsm hL hT q1
  obtain ⟨n, s1⟩ := r
  simp only at c44 hn hsm hL hT q1
  have HSM : Hid (Small s1) := hsm
  have HLL : Hid (eachOf (List.replicate n (88, 1152921504606846976)) s1 = L) := hL
  have HT : Hid ((rseq ((List.replicate n ((88 : Nat), 1152921504606846976)).map (·.2)) s1).2 = T) := hT
  have HQ : Hid (L.length = n ∧ (L.getLast? = some 0 → R = ([], none)) ∧ (L.getLast? ≠ some 0 → R = (L, T))) := ⟨q1, q2, q3⟩
  have HLT : Hid (a < w.heap.size) := h.lt
  clear h hl hsm hL hT q1 q2 q3
  go_enter Tryz.func52, Tryz.ntmps52
  go_wp2_with fail
  refine (show Calls Tryz.prog 82 #[.pointer (some ⟨a, 0, none⟩), .int .i64 64] _ _ from c44).mono ?_
  rintro e w1 ⟨rfl, h1, h2⟩
  obtain ⟨w2, hw2⟩ : ∃ w2, w2 = w1.alloc (.cells #[.func (.func 88) #[.pointer (some ⟨a, 0, none⟩)] #[]] 69) := ⟨_, rfl⟩
  have hB2 : Below w1.heap.size w1 w2 := by rw [hw2]; exact (below_new _ _).out
  have b2 : w2.heap[w1.heap.size]? = some (.cells #[.func (.func 88) #[.pointer (some ⟨a, 0, none⟩)] #[]] 69 (0, 0)) := by rw [hw2]; exact heap_alloc_new w1 _
  have c53 := repeatR_any w1.heap.size _ n hn w2 b2 rfl
  have HR2 : Hid (Rd 92 w2 a s1) := h1.below hB2
  have HO2 : Hid (Only (· = a) w w2) := h2.more hB2
  clear c44 h1 h2 hB2 b2
  go_wp2_with fail
  rw [← hw2]
  refine c53.mono ?_
  rintro e w3 ⟨rfl, k1, k2⟩
  have c52 := readEach_any a (List.replicate n (88, 1152921504606846976)) (some ⟨w2.heap.size, 0, none⟩) n s1 w3 (HR2.out.below k2) (fun x hx => by rw [List.eq_of_mem_replicate hx]; exact isR_count)
    (by rw [List.map_replicate]; exact lies_block k1) HSM.out (by simp; omega) (fun b o e => by cases e; have := HLT.out; have := HO2.out.size; omega)
  rw [HLL.out, HT.out, List.length_replicate] at c52
  have HO3 : Hid (Only (· = a) w w3) := HO2.out.more k2
  clear c53 k1 k2 hw2
  go_wp2_with fail
  refine c52.mono ?_
  rintro e w4 ⟨g, rfl, hg, j1, j2, j3⟩
  have J1 : Hid (w4.heap[g]? = some (.cells (L.map nv).toArray 2 (0, 0))) := j1
  have J2 : Hid (Rd 92 w4 a T) := j2
  have J3 : Hid (Only (· = a) w w4) := HO3.out.next j3
  have HG : Hid (w.heap.size ≤ g) := Nat.le_trans HO3.out.size hg
  clear c52 j2 j3 hmf hg
  rcases L.eq_nil_or_concat with h0 | ⟨L', x, h0⟩
  · have HR' : Hid (R = ([], T)) := by
      have := HQ.out.2.2 (by rw [h0]; simp)
      rw [h0] at this; exact this
    have hn0 : n = 0 := by have := HQ.out.1; rw [h0] at this; exact this.symm
    subst hn0
    clear h0 j1
    go_wp2
    go_ret
    rw [HR'.out]
    refine ⟨_, _, ⟨rfl, J2.out, J3.out⟩, Nat.zero_le _, lies_nil _ _, fun b o e => by cases e; exact HG.out⟩
  · have hlen : n = L'.length + 1 := by have := HQ.out.1; rw [h0] at this; simpa using this.symm
    have c4 : w4.cell? ⟨g, L'.length, none⟩ = some (.int .i64 x) := by
      rw [cellOf j1, List.getElem?_toArray, List.getElem?_map, h0]; simp
    subst hlen
    have hn' : L'.length + 1 ≤ 64 := hn
    by_cases hz : x = 0
    · subst hz
      have HR' : Hid (R = ([], none)) := HQ.out.2.1 (by rw [h0]; simp)
      have c55 := rspoil_any a _ w4 J2.out
      clear h0 j1
      go_wp2_with fail
      refine c55.mono ?_
      rintro e w5 ⟨rfl, m1, m2⟩
      have M1 : Hid (Rd 92 w5 a none) := m1
      have M2 : Hid (Only (· = a) w4 w5) := m2
      clear c55 m1 m2 c4
      go_wp2
      go_ret
      rw [HR'.out]
      exact ⟨_, _, ⟨rfl, M1.out, J3.out.next M2.out⟩, Nat.le_refl _, lies_nil _ _, fun b o e => by cases e⟩
    · have HR' : Hid (R = (L, T)) := HQ.out.2.2 (by rw [h0]; simpa using hz)
      have HLN : Hid (L.length = L'.length + 1) := by rw [h0]; simp [Hid]
      have hz' : ((x : Int) == 0) = false := by simpa using hz
      clear h0 j1 hz
      go_wp2
      go_ret
      rw [HR'.out]
      refine ⟨_, _, ⟨by rw [HLN.out]; rfl, J2.out, J3.out⟩, by rw [HLN.out]; exact Nat.le_refl _, lies_block J1.out, fun b o e => by cases e; exact HG.out⟩

/-- A vector is written. -/
def wvec (ns : List Int) (s : St) : St :=
  if 64 < tl ns ns.length then none
  else wnums ((ns.take (tl ns ns.length)).map fun n => ⟨n, 71, 1152921504606846976⟩) (wnum (tl ns ns.length) 4611686018427387904 s)

set_option maxRecDepth 8000 in
set_option maxRecDepth 8000 in
set_option maxHeartbeats 1000000 in
theorem vector_write (p : Option Addr) (ns : List Int) (cp : Nat) (a : Nat) (s : St) (w : World) (h : Wr w a s) (hl : Few 70 s) (hc : ns.length ≤ cp) (hl1 : ns.length ≤ 1000) (hp : Lies w p (ns.map iv)) (hn : ∀ b o, 0 < ns.length → p = some ⟨b, o, none⟩ → ¬ wset w a b) :
    Calls Tryz.prog 39 #[.pointer (some ⟨a, 0, none⟩), .slice p ns.length cp] w (Wrote w a (wvec ns s)) := by
  have hmf : ∀ (fn : Fn) (first cap : Array Value) (w : World), (Instr.makeFunc fn first cap).run Tryz.prog w = .ok (.func fn first cap) w := fun _ _ _ _ => rfl
  have c46 := withoutEnd_any p ns cp w hc hl1 hp
  have hle := tl_le ns ns.length
  have HV : Hid (wvec ns s = if 64 < tl ns ns.length then none else wnums ((ns.take (tl ns ns.length)).map fun n => ⟨n, 71, 1152921504606846976⟩) (wnum (tl ns ns.length) 4611686018427387904 s)) := rfl
  generalize wvec ns s = S at HV ⊢
  generalize tl ns ns.length = k at c46 hle HV
  by_cases hk : 64 < k
  · have hkI : (64 : Int) < k := by omega
    have HV' : Hid (S = none) := HV.out.trans (if_pos hk)
    have c47 := wspoil_any a s w h
    clear h hl hp hn hl1 hc hk hle
    go_enter Tryz.func39, Tryz.ntmps39
    go_wp2_with (go_at_call 68; refine Calls_on c46 ?_)
    refine c47.mono ?_
    rintro e w1 ⟨rfl, h1⟩
    have H1 : Hid _ := h1
    clear c46 c47 h1
    go_wp2
    refine bodyPost_ret (results_none rfl _ _ _) rfl ?_
    rw [HV'.out]
    exact ⟨rfl, H1.out⟩
  · have hkI : ¬ (64 : Int) < k := by omega
    have HV' : Hid (S = _) := HV.out.trans (if_neg hk)
    have c15 := num_any k a s w h (hl.less (by omega))
    have HF : Hid (Few 69 (wnum k 4611686018427387904 s)) := wnum_few (by decide) hl
    have HTL : Hid ((ns.take k).length = k) := by show _ = _; simp; omega
    have HP : Hid (Lies w p ((ns.take k).map iv)) := by rw [List.map_take]; exact lies_take hp k
    have HN : Hid (∀ b o, 0 < k → p = some ⟨b, o, none⟩ → ¬ wset w a b) := fun b o hk0 => hn b o (by omega)
    have hk64 : k ≤ 64 := by omega
    have HW : Hid (Wr w a s) := h
    generalize ns.take k = ms at HV' HTL HP
    generalize wnum k 4611686018427387904 s = s1 at HV' c15 HF
    clear h hl hp hn hl1 hc hk hle HV
    go_enter Tryz.func39, Tryz.ntmps39
    go_wp2_with (go_at_call 68; refine Calls_on c46 ?_)
    refine c15.mono ?_
    rintro e w1 ⟨rfl, h1, h2⟩
    obtain ⟨w2, hw2⟩ : ∃ w2, w2 = w1.alloc (.cells #[.func (.func 71) #[.pointer (some ⟨a, 0, none⟩)] #[]] 60) := ⟨_, rfl⟩
    have hB2 : Below w1.heap.size w1 w2 := by rw [hw2]; exact (below_new _ _).out
    have b2 : w2.heap[w1.heap.size]? = some (.cells #[.func (.func 71) #[.pointer (some ⟨a, 0, none⟩)] #[]] 60 (0, 0)) := by rw [hw2]; exact heap_alloc_new w1 _
    have c49 := repeatW_any w1.heap.size _ k hk64 w2 b2 rfl
    have HR2 : Hid (Wr w2 a s1) := (h1.keep_below hB2).1
    have HS2 : Hid (Step w w2 a) := h2.trans (h1.keep_below hB2).2
    clear c46 c15 h1 h2 hB2 b2
    go_wp2_with fail
    rw [← hw2]
    refine c49.mono ?_
    rintro e w3 ⟨rfl, k1, k2⟩
    have HR3 : Hid (Wr w3 a s1) := (HR2.out.keep_below k2).1
    have HS3 : Hid (Step w w3 a) := HS2.out.trans (HR2.out.keep_below k2).2
    have hno : ∀ b, b < w.heap.size → ¬ wset w a b → ¬ wset w3 a b := fun b hb hw hs => by rcases HS3.out.sets b hs with h | h; exact hw h; omega
    have hold : ∀ b o, p = some ⟨b, o, none⟩ → 0 < ms.length → b < w.heap.size := fun b o e hl => by
      subst e
      obtain ⟨b', o', e, hx⟩ := HP.out (by simpa using hl)
      cases e
      exact cell_lt (hx 0 _ (List.getElem?_eq_getElem (by simpa using hl)))
    have hq : ¬ wset w3 a w2.heap.size := fun hs => by
      obtain ⟨v, hv⟩ := HR2.out
      have hv3 := hv.keep (Below.only k2 (fun _ => False)) (fun _ _ h => h)
      have := (Wr.lo ⟨v, hv⟩ (hv.sets hv3 _ hs)).2
      omega
    have hkl := HTL.out
    have c48 := writeEach_any a (ms.map fun n => ⟨n, 71, 1152921504606846976⟩) p (some ⟨w2.heap.size, 0, none⟩) cp k s1 w3 HR3.out
      (fun x hx => by obtain ⟨y, _, rfl⟩ := List.mem_map.1 hx; exact isW_count)
      (by rw [List.map_map]; exact HS3.out.only.lies HP.out (fun b o hl e => HN.out b o (by simp at hl; omega) e))
      (by
        have e1 : ((ms.map fun n => (⟨n, 71, 1152921504606846976⟩ : Put1)).map fun x => fv x.K a) = List.replicate k (fv 71 a) := by
          rw [List.map_map, ← hkl, List.eq_replicate_iff]; exact ⟨by simp, fun x hx => by obtain ⟨y, _, rfl⟩ := List.mem_map.1 hx; rfl⟩
        rw [e1]; exact lies_block k1)
      (HF.out.less (by simp; omega)) (by simp; omega)
      (fun b o hl e => hno b (hold b o e (by simpa using hl)) (HN.out b o (by simp at hl; omega) e)) (fun b o e => by cases e; exact hq)
    rw [List.length_map, hkl] at c48
    clear k1 k2 hno hold hq hkl c49 hw2
    go_wp2_with fail
    refine c48.mono ?_
    rintro e w4 ⟨rfl, m1, m2⟩
    have M1 : Hid (Wr w4 a S) := by rw [HV'.out]; exact m1
    have M2 : Hid (Step w3 w4 a) := m2
    clear c48 m1 m2
    go_wp2
    go_end0
    exact ⟨rfl, M1.out, HS3.out.trans M2.out⟩

end Go.Proofs.YtegjageenofbjaaGreat.Cd
