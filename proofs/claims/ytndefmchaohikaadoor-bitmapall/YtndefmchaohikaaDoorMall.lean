/-
  The law BitmapAll returns true.
-/
import Derived.Test.YtndefmchaohikaaDoorMck
import Derived.Deep.Cut
namespace Go.Proofs.YtndefmchaohikaaDoor
open Go.RowKit

theorem Tryd.infoBool : (Tryd.prog.info? 4).map (fun i => (i.zero, i.size, i.bytes)) = some (some (.bool false), 1, 1) := by kernel_rfl

/-- The ops lie from p on. -/
def OpsAt (w : World) (p : Option Addr) (os : List (Int × Int)) : Prop :=
  0 < os.length → ∃ b o, p = some ⟨b, o, none⟩ ∧ ∀ (j : Nat) (x : Int × Int), os[j]? = some x → w.cell? ⟨b, o + j * 2, none⟩ = some (.int .i64 x.1) ∧ w.cell? ⟨b, o + j * 2 + 1, none⟩ = some (.int .i64 x.2)
theorem OpsAt.below {w w' : World} {p : Option Addr} {os : List (Int × Int)} (h : OpsAt w p os) (hb : Below w.heap.size w w') : OpsAt w' p os := by
  intro hl
  obtain ⟨b, o, e, hx⟩ := h hl
  refine ⟨b, o, e, fun j x hj => ?_⟩
  obtain ⟨h1, h2⟩ := hx j x hj
  exact ⟨(hb.cell (p := ⟨b, o + j * 2, none⟩) (cell_lt h1)).trans h1, (hb.cell (p := ⟨b, o + j * 2 + 1, none⟩) (cell_lt h2)).trans h2⟩

/-- What the check leaves. -/
def checkIn (m : MS) (r : RS) (n oa : Nat) (N : Nat) (s0 : Nat) : List (Option Tmp × Value) := [(some 193, .pointer (some ⟨m.a, 0, none⟩)), (some 194, .slice (some ⟨s0, 0, none⟩) (bsOf m).length (bsOf m).length), (some 195, .string (strOf (bsOf m))), (some 196, .pointer (some ⟨r.a, 0, none⟩)), (some 197, .slice (some ⟨s0 + 1, 0, none⟩) (bsOf m).length (bsOf m).length), (some 198, .string (strOf (bsOf m))), (some 199, .bool false), (some 200, .bool false), (some 201, .pointer (some ⟨m.a, 0, none⟩)), (some 202, .int .i64 (frOf m : Nat)), (some 203, .pointer (some ⟨r.a, 0, none⟩)), (some 204, .int .i64 (frOf m : Nat)), (some 205, .bool false), (some 206, .bool false), (some 207, .bool false), (some 208, .pointer (some ⟨m.a, 0, none⟩)), (some 209, .int .i64 (n : Nat)), (some 210, .int .i64 (n : Nat)), (some 211, .bool false), (some 212, .bool false), (some 213, .bool false), (some 214, .pointer (some ⟨m.a, 0, none⟩)), (some 215, .pointer (some ⟨oa, 1, none⟩)), (some 216, .int .i64 (N : Nat)), (some 217, .bool (uat r.U N)), (some 218, .bool true), (some 219, .bool true), (some 220, .pointer (some ⟨r.a, 0, none⟩)), (some 221, .pointer (some ⟨r.a, 0, none⟩)), (some 222, .pointer (some ⟨r.a, 0, none⟩)), (some 223, .slice (some ⟨r.b, 0, none⟩) r.U.length r.U.length), (some 224, .pointer (some ⟨oa, 1, none⟩)), (some 225, .int .i64 (N : Nat)), (some 226, .pointer (some ⟨r.b, N, none⟩)), (some 227, .bool (uat r.U N)), (some 228, .bool (uat r.U N)), (some 229, .bool false), (some 230, .bool false)]
/-- What the check leaves. -/
def checkOut (m : MS) (r : RS) (n oa : Nat) (N : Int) (s0 : Nat) : List (Option Tmp × Value) := [(some 193, .pointer (some ⟨m.a, 0, none⟩)), (some 194, .slice (some ⟨s0, 0, none⟩) (bsOf m).length (bsOf m).length), (some 195, .string (strOf (bsOf m))), (some 196, .pointer (some ⟨r.a, 0, none⟩)), (some 197, .slice (some ⟨s0 + 1, 0, none⟩) (bsOf m).length (bsOf m).length), (some 198, .string (strOf (bsOf m))), (some 199, .bool false), (some 200, .bool false), (some 201, .pointer (some ⟨m.a, 0, none⟩)), (some 202, .int .i64 (frOf m : Nat)), (some 203, .pointer (some ⟨r.a, 0, none⟩)), (some 204, .int .i64 (frOf m : Nat)), (some 205, .bool false), (some 206, .bool false), (some 207, .bool false), (some 208, .pointer (some ⟨m.a, 0, none⟩)), (some 209, .int .i64 (n : Nat)), (some 210, .int .i64 (n : Nat)), (some 211, .bool false), (some 212, .bool false), (some 213, .bool false), (some 214, .pointer (some ⟨m.a, 0, none⟩)), (some 215, .pointer (some ⟨oa, 1, none⟩)), (some 216, .int .i64 N), (some 217, .bool false), (some 218, .bool false), (some 219, .bool false), (some 220, undef), (some 221, undef), (some 222, undef), (some 223, undef), (some 224, undef), (some 225, undef), (some 226, undef), (some 227, undef), (some 228, .bool false), (some 229, .bool false), (some 230, .bool false)]

set_option maxRecDepth 8000 in
set_option maxHeartbeats 16000000 in
theorem all_core (n : Nat) (p : Option Addr) (c : Nat) (os : List (Int × Int)) (w : World) (ht : Tab64 w) (hn : n ≤ 60) (hl : os.length < 9223372036854775808) (ho : OpsAt w p os) :
    Calls Tryd.prog 3 #[.int .i64 n, .slice p os.length c] w fun e w' => e = .returned (.bool true) ∧ Below w.heap.size w w' := by
  have hmix : Tryd.prog.follows .mixedOrders = true := by kernel_rfl
  have cb := begun8_true w ht
  have HT : Hid (Tab64 w ∧ OpsAt w p os) := ⟨ht, ho⟩
  clear ht ho
  go_enter Tryd.func3, Tryd.ntmps3
  go_wp2_with (first
    | (go_at_call 6; refine cb.mono ?_; rintro e w1 ⟨rfl, hB⟩; have HB : Hid (Below w.heap.size w w1) := hB; clear hB cb)
    | (go_at_call 7; refine Stop.out ?_))
  refine Stop.mk ?_
  have cn := new_mi n w w1 w.heap.size (by omega) (HT.out.1.below HB.out) HB.out HB.out.size HT.out.1.lt
  have hmk : ∀ W : World, (Instr.makeSlice 27 (.int .i64 n) (.int .i64 n)).run Tryd.prog W = .ok (.slice (some ⟨W.heap.size, 0, none⟩) n n) (W.alloc (.cells (List.replicate n (.bool false)).toArray 4)) := fun W => run_make_rep W 27 4 (.bool false) 1 Tryd.underlying27 Tryd.infoBool rfl n (by omega) (by omega)
  go_wp2_with (go_at_call 7; refine cn.mono ?_; rintro e w2 ⟨m, rfl, h1, _, h2, h3, _, _⟩; have H2 : Hid (MI w.heap.size w w2 m ∧ m.n = n ∧ ∀ i, used m.ws i = false) := ⟨h1, h2, h3⟩; clear h1 h2 h3 cn)
  obtain ⟨w3, hw3⟩ : ∃ w3, w3 = (w2.alloc (.cells (Array.replicate n (.bool false)) 4)).alloc (.cells #[.slice (some ⟨w2.heap.size, 0, none⟩) n n] 29) := ⟨_, rfl⟩
  rw [← hw3]
  have H3 : Hid (BI w.heap.size w w3 m ⟨w2.heap.size + 1, w2.heap.size, List.replicate n false⟩ n) := by
    obtain ⟨h1, h2, h3⟩ := H2.out
    have hB : Below w2.heap.size w2 w3 := by rw [hw3]; exact ((Below.refl _ _).alloc (Nat.le_refl _) _).alloc (by simp) _
    refine ⟨h1.beside hB, ⟨?_, ?_⟩, Nat.le_trans h1.size (Nat.le_succ _), h1.size, h2, by simp, fun i => ?_⟩
    · rw [hw3]
      have := heap_alloc_new (w2.alloc (.cells (Array.replicate n (.bool false)) 4)) (.cells #[.slice (some ⟨w2.heap.size, 0, none⟩) n n] 29)
      rw [show (w2.alloc (.cells (Array.replicate n (.bool false)) 4)).heap.size = w2.heap.size + 1 by simp] at this
      simpa using this
    · rw [hw3]
      have := (Below.heap_alloc (w2.alloc (.cells (Array.replicate n (.bool false)) 4)) (.cells #[.slice (some ⟨w2.heap.size, 0, none⟩) n n] 29) w2.heap.size (by simp)).trans (heap_alloc_new w2 _)
      simpa using this
    · rw [h3]
      unfold uat
      rw [List.getD, List.getElem?_replicate]
      split <;> rfl
  obtain ⟨ra, hra⟩ : ∃ ra, w2.heap.size + 1 = ra := ⟨_, rfl⟩
  have HRA : Hid (w2.heap.size + 1 = ra) := hra
  rw [hra] at H3 ⊢
  clear hw3 hra H2 hmk
  go_loopw [6, 8] (fun mm ii wr => ∃ (i : Nat) (m : MS) (r : RS), i ≤ os.length ∧ i ≤ 60 ∧ ii = .int .i64 i ∧ mm = .pointer (some ⟨m.a, 0, none⟩) ∧ r.a = ra ∧ Hid (BI w.heap.size w wr m r n)) (fun _ ii _ => os.length - (intOf ii).toNat)
  case atStart => exact ⟨0, m, _, Nat.zero_le _, Nat.zero_le _, rfl, rfl, rfl, H3.out⟩
  case round =>
    clear H3
    obtain ⟨i, m, r, hi1, hi2, rfl, rfl, hra, HJ⟩ := hrel
    by_cases hin : i < os.length ∧ i < 60
    · have hi3 : (i : Int) < os.length := by omega
      have hi4 : (i : Int) < 60 := by omega
      obtain ⟨b, o, rfl, hx⟩ := (HT.out.2.below HJ.out.mi.bel) (by omega)
      obtain ⟨⟨kd, N⟩, hop⟩ : ∃ x, os[i]? = some x := ⟨_, List.getElem?_eq_getElem hin.1⟩
      obtain ⟨c1, c2⟩ := hx i _ hop
      simp only at c1 c2
      clear hx
      by_cases hN : 0 ≤ N ∧ N < n
      · obtain ⟨hN1, hN2⟩ := hN
        obtain ⟨N, rfl⟩ := Int.eq_ofNat_of_zero_le hN1
        replace hN2 : N < n := by omega
        have hN3 : (N : Int) < n := by omega
        clear hN1
        as_aux_lemma =>
          go_upto_region 24 with fail
          rename_i K1 a1 K0 a0
          obtain ⟨W1, hW1⟩ : ∃ W1, W1 = wr.alloc (.cells #[.int .i64 kd, .int .i64 (N : Nat)] 31) := ⟨_, rfl⟩
          obtain ⟨oa, hoa⟩ : ∃ oa, wr.heap.size = oa := ⟨_, rfl⟩
          rw [← hW1, hoa]
          have HJ1 : Hid (BI w.heap.size w W1 m r n) := by rw [hW1]; exact HJ.out.beside (below_new wr _).out
          have oc0 : W1.cell? ⟨oa, 0, none⟩ = some (.int .i64 kd) := by rw [hW1, ← hoa]; exact cellOf (heap_alloc_new wr _) 0
          have oc1 : W1.cell? ⟨oa, 1, none⟩ = some (.int .i64 (N : Nat)) := by rw [hW1, ← hoa]; exact cellOf (heap_alloc_new wr _) 1
          have hom : ¬ oa = m.b := by have := HJ.out.mi.map.row.lt; omega
          have hor : ¬ oa = r.b := by have := block_lt HJ.out.ra.row; omega
          clear hW1 hoa HJ c1 c2
          refine get_ops a1 (fun ops => ∀ (Q : Exit → Act → World → Prop) (A : Array Value) (W : World) (m : MS) (r : RS), A.size = 232 → A.getD 0 undef = .int .i64 (n : Nat) → A.getD 6 undef = .pointer (some ⟨m.a, 0, none⟩) → A.getD 7 undef = .pointer (some ⟨r.a, 0, none⟩) → A.getD 9 undef = .pointer (some ⟨oa, 0, none⟩) → A.getD 10 undef = .bool true → BI w.heap.size w W m r n → W.cell? ⟨oa, 1, none⟩ = some (.int .i64 (N : Nat)) → (∀ W', BI w.heap.size w W' m r n → Q .normal ⟨putAll A (checkIn m r n oa N W.heap.size), []⟩ W') → (Code.region 52 ops true).wp Tryd.prog Q ⟨A, []⟩ W) ?_ _ (fun hR => ?_)
          · clear a0 a1 oc0 oc1 HJ1
            as_aux_lemma =>
              intro Q A W m r hsz h0 h6 h7 h9 h10 hB hcell hend
              obtain ⟨s0, hs0⟩ : ∃ s0, W.heap.size = s0 := ⟨_, rfl⟩
              rw [hs0] at hend
              obtain ⟨LL, hLe⟩ : ∃ LL : List (Option Tmp × Value), LL = checkIn m r n oa N s0 := ⟨_, rfl⟩
              have vv0 : vals LL 0 = .pointer (some ⟨m.a, 0, none⟩) := by rw [hLe]; rfl
              have vv1 : vals LL 1 = .slice (some ⟨s0, 0, none⟩) (bsOf m).length (bsOf m).length := by rw [hLe]; rfl
              have vv2 : vals LL 2 = .string (strOf (bsOf m)) := by rw [hLe]; rfl
              have vv3 : vals LL 3 = .pointer (some ⟨r.a, 0, none⟩) := by rw [hLe]; rfl
              have vv4 : vals LL 4 = .slice (some ⟨s0 + 1, 0, none⟩) (bsOf m).length (bsOf m).length := by rw [hLe]; rfl
              have vv5 : vals LL 5 = .string (strOf (bsOf m)) := by rw [hLe]; rfl
              have vv6 : vals LL 6 = .bool false := by rw [hLe]; rfl
              have vv7 : vals LL 7 = .bool false := by rw [hLe]; rfl
              have vv8 : vals LL 8 = .pointer (some ⟨m.a, 0, none⟩) := by rw [hLe]; rfl
              have vv9 : vals LL 9 = .int .i64 (frOf m : Nat) := by rw [hLe]; rfl
              have vv10 : vals LL 10 = .pointer (some ⟨r.a, 0, none⟩) := by rw [hLe]; rfl
              have vv11 : vals LL 11 = .int .i64 (frOf m : Nat) := by rw [hLe]; rfl
              have vv12 : vals LL 12 = .bool false := by rw [hLe]; rfl
              have vv13 : vals LL 13 = .bool false := by rw [hLe]; rfl
              have vv14 : vals LL 14 = .bool false := by rw [hLe]; rfl
              have vv15 : vals LL 15 = .pointer (some ⟨m.a, 0, none⟩) := by rw [hLe]; rfl
              have vv16 : vals LL 16 = .int .i64 (n : Nat) := by rw [hLe]; rfl
              have vv17 : vals LL 17 = .int .i64 (n : Nat) := by rw [hLe]; rfl
              have vv18 : vals LL 18 = .bool false := by rw [hLe]; rfl
              have vv19 : vals LL 19 = .bool false := by rw [hLe]; rfl
              have vv20 : vals LL 20 = .bool false := by rw [hLe]; rfl
              have vv21 : vals LL 21 = .pointer (some ⟨m.a, 0, none⟩) := by rw [hLe]; rfl
              have vv22 : vals LL 22 = .pointer (some ⟨oa, 1, none⟩) := by rw [hLe]; rfl
              have vv23 : vals LL 23 = .int .i64 (N : Nat) := by rw [hLe]; rfl
              have vv24 : vals LL 24 = .bool (uat r.U N) := by rw [hLe]; rfl
              have vv25 : vals LL 25 = .bool true := by rw [hLe]; rfl
              have vv26 : vals LL 26 = .bool true := by rw [hLe]; rfl
              have vv27 : vals LL 27 = .pointer (some ⟨r.a, 0, none⟩) := by rw [hLe]; rfl
              have vv28 : vals LL 28 = .pointer (some ⟨r.a, 0, none⟩) := by rw [hLe]; rfl
              have vv29 : vals LL 29 = .pointer (some ⟨r.a, 0, none⟩) := by rw [hLe]; rfl
              have vv30 : vals LL 30 = .slice (some ⟨r.b, 0, none⟩) r.U.length r.U.length := by rw [hLe]; rfl
              have vv31 : vals LL 31 = .pointer (some ⟨oa, 1, none⟩) := by rw [hLe]; rfl
              have vv32 : vals LL 32 = .int .i64 (N : Nat) := by rw [hLe]; rfl
              have vv33 : vals LL 33 = .pointer (some ⟨r.b, N, none⟩) := by rw [hLe]; rfl
              have vv34 : vals LL 34 = .bool (uat r.U N) := by rw [hLe]; rfl
              have vv35 : vals LL 35 = .bool (uat r.U N) := by rw [hLe]; rfl
              have vv36 : vals LL 36 = .bool false := by rw [hLe]; rfl
              have vv37 : vals LL 37 = .bool false := by rw [hLe]; rfl
              refine region_laid hmix (by kernel_rfl) 232 hsz (by kernel_rfl) LL (by rw [hLe]; rfl) (fun b W => CK w.heap.size w m r n oa (N : Nat) s0 (b 1) (b 4) W) ⟨hB.still ⟨1, rfl⟩, hcell, fun _ => hs0, (fun _ h => by cases h), (fun h => by cases h), (fun h => by cases h)⟩ ?_ ?_
              · intro b W i o a hS hcl ho hb hd ev kp yl
                match i with
                | 0 =>
                  simp only [List.getElem?_toArray, List.getElem?_cons_zero, Option.some.injEq] at ho
                  subst ho
                  have e6 : a.tmps[6]?.getD undef = .pointer (some ⟨m.a, 0, none⟩) := (kp 6 (by kernel_rfl)).trans h6
                  rw [vv0]
                  refine does_value rfl (by intro c h; cases h) (w' := W) ?_ (by simpa [did] using hS)
                  · simp [execOp, go_sem, e6]
                | 1 =>
                  simp only [List.getElem?_toArray, List.getElem?_cons_zero, List.getElem?_cons_succ, Option.some.injEq] at ho
                  subst ho
                  have p0 : b 0 = true := hd ⟨0, .data⟩ (by simp) rfl
                  have e193 := (ev 0 193 rfl p0).trans vv0
                  have h4 : b 4 = false := by cases h : b 4; rfl; rw [hcl 4 _ rfl h ⟨1, .chain⟩ (by simp) rfl] at hb; cases hb
                  rw [vv1]
                  refine does_call rfl (by intro c h; cases h) (f := 14) (args := #[.pointer (some ⟨m.a, 0, none⟩)]) ?_ ?_
                  · simp [go_sem, e193]
                  · (have hc := hS; rw [hb, h4] at hc; refine hc.bytes1.mono (fun e w' ⟨he, h⟩ => ⟨he, ?_⟩); simpa [did, h4] using h)
                | 2 =>
                  simp only [List.getElem?_toArray, List.getElem?_cons_zero, List.getElem?_cons_succ, Option.some.injEq] at ho
                  subst ho
                  have p1 : b 1 = true := hd ⟨1, .data⟩ (by simp) rfl
                  have e194 := (ev 1 194 rfl p1).trans vv1
                  have hc := hS
                  rw [p1] at hc
                  rw [vv2]
                  refine does_value rfl (by intro c h; cases h) (w' := W) ?_ (by simpa [did] using hS)
                  · simp [execOp, go_sem, e194, hc.conv1]
                | 3 =>
                  simp only [List.getElem?_toArray, List.getElem?_cons_zero, List.getElem?_cons_succ, Option.some.injEq] at ho
                  subst ho
                  have e7 : a.tmps[7]?.getD undef = .pointer (some ⟨r.a, 0, none⟩) := (kp 7 (by kernel_rfl)).trans h7
                  rw [vv3]
                  refine does_value rfl (by intro c h; cases h) (w' := W) ?_ (by simpa [did] using hS)
                  · simp [execOp, go_sem, e7]
                | 4 =>
                  simp only [List.getElem?_toArray, List.getElem?_cons_zero, List.getElem?_cons_succ, Option.some.injEq] at ho
                  subst ho
                  have p3 : b 3 = true := hd ⟨3, .data⟩ (by simp) rfl
                  have e196 := (ev 3 196 rfl p3).trans vv3
                  have p1 : b 1 = true := hd ⟨1, .chain⟩ (by simp) rfl
                  rw [vv4]
                  refine does_call rfl (by intro c h; cases h) (f := 16) (args := #[.pointer (some ⟨r.a, 0, none⟩)]) ?_ ?_
                  · simp [go_sem, e196]
                  · (have hc := hS; rw [hb, p1] at hc; refine hc.bytes2.mono (fun e w' ⟨he, h⟩ => ⟨he, ?_⟩); simpa [did, p1] using h)
                | 5 =>
                  simp only [List.getElem?_toArray, List.getElem?_cons_zero, List.getElem?_cons_succ, Option.some.injEq] at ho
                  subst ho
                  have p4 : b 4 = true := hd ⟨4, .data⟩ (by simp) rfl
                  have e197 := (ev 4 197 rfl p4).trans vv4
                  have hc := hS
                  rw [p4] at hc
                  rw [vv5]
                  refine does_value rfl (by intro c h; cases h) (w' := W) ?_ (by simpa [did] using hS)
                  · simp [execOp, go_sem, e197, hc.conv4]
                | 6 =>
                  simp only [List.getElem?_toArray, List.getElem?_cons_zero, List.getElem?_cons_succ, Option.some.injEq] at ho
                  subst ho
                  have p2 : b 2 = true := hd ⟨2, .data⟩ (by simp) rfl
                  have p5 : b 5 = true := hd ⟨5, .data⟩ (by simp) rfl
                  have e195 := (ev 2 195 rfl p2).trans vv2
                  have e198 := (ev 5 198 rfl p5).trans vv5
                  rw [vv6]
                  refine does_value rfl (by intro c h; cases h) (w' := W) ?_ (by simpa [did] using hS)
                  · simp [execOp, go_sem, e195, e198]
                | 7 =>
                  simp only [List.getElem?_toArray, List.getElem?_cons_zero, List.getElem?_cons_succ, Option.some.injEq] at ho
                  subst ho
                  have p6 : b 6 = true := hd ⟨6, .data⟩ (by simp) rfl
                  have e199 := (ev 6 199 rfl p6).trans vv6
                  rw [vv7]
                  refine does_value rfl (by intro c h; cases h) (w' := W) ?_ (by simpa [did] using hS)
                  · simp [execOp, go_sem, e199]
                | 8 =>
                  simp only [List.getElem?_toArray, List.getElem?_cons_zero, List.getElem?_cons_succ, Option.some.injEq] at ho
                  subst ho
                  have p7 : b 7 = true := hd ⟨7, .guard⟩ (by simp) rfl
                  have e6 : a.tmps[6]?.getD undef = .pointer (some ⟨m.a, 0, none⟩) := (kp 6 (by kernel_rfl)).trans h6
                  rw [vv8]
                  refine does_value_g rfl (yl 7 200 false rfl p7 vv7) (by intro c h; cases h) (w' := W) ?_ (by simpa [did] using hS)
                  · simp [execOp, go_sem, e6]
                | 9 =>
                  simp only [List.getElem?_toArray, List.getElem?_cons_zero, List.getElem?_cons_succ, Option.some.injEq] at ho
                  subst ho
                  have p8 : b 8 = true := hd ⟨8, .data⟩ (by simp) rfl
                  have p7 : b 7 = true := hd ⟨7, .guard⟩ (by simp) rfl
                  have e201 := (ev 8 201 rfl p8).trans vv8
                  rw [vv9]
                  refine does_call_g rfl (yl 7 200 false rfl p7 vv7) (by intro c h; cases h) (f := 17) (args := #[.pointer (some ⟨m.a, 0, none⟩)]) ?_ ?_
                  · simp [go_sem, e201]
                  · (refine (CK.free hS).mono (fun e w' ⟨he, h⟩ => ⟨he, ?_⟩); simpa [did] using h)
                | 10 =>
                  simp only [List.getElem?_toArray, List.getElem?_cons_zero, List.getElem?_cons_succ, Option.some.injEq] at ho
                  subst ho
                  have p7 : b 7 = true := hd ⟨7, .guard⟩ (by simp) rfl
                  have e7 : a.tmps[7]?.getD undef = .pointer (some ⟨r.a, 0, none⟩) := (kp 7 (by kernel_rfl)).trans h7
                  rw [vv10]
                  refine does_value_g rfl (yl 7 200 false rfl p7 vv7) (by intro c h; cases h) (w' := W) ?_ (by simpa [did] using hS)
                  · simp [execOp, go_sem, e7]
                | 11 =>
                  simp only [List.getElem?_toArray, List.getElem?_cons_zero, List.getElem?_cons_succ, Option.some.injEq] at ho
                  subst ho
                  have p10 : b 10 = true := hd ⟨10, .data⟩ (by simp) rfl
                  have p7 : b 7 = true := hd ⟨7, .guard⟩ (by simp) rfl
                  have e203 := (ev 10 203 rfl p10).trans vv10
                  rw [vv11]
                  refine does_call_g rfl (yl 7 200 false rfl p7 vv7) (by intro c h; cases h) (f := 18) (args := #[.pointer (some ⟨r.a, 0, none⟩)]) ?_ ?_
                  · simp [go_sem, e203]
                  · (refine (CK.rfree hS).mono (fun e w' ⟨he, h⟩ => ⟨he, ?_⟩); simpa [did] using h)
                | 12 =>
                  simp only [List.getElem?_toArray, List.getElem?_cons_zero, List.getElem?_cons_succ, Option.some.injEq] at ho
                  subst ho
                  have p9 : b 9 = true := hd ⟨9, .data⟩ (by simp) rfl
                  have p11 : b 11 = true := hd ⟨11, .data⟩ (by simp) rfl
                  have p7 : b 7 = true := hd ⟨7, .guard⟩ (by simp) rfl
                  have e202 := (ev 9 202 rfl p9).trans vv9
                  have e204 := (ev 11 204 rfl p11).trans vv11
                  rw [vv12]
                  refine does_value_g rfl (yl 7 200 false rfl p7 vv7) (by intro c h; cases h) (w' := W) ?_ (by simpa [did] using hS)
                  · simp [execOp, go_sem, e202, e204]
                | 13 =>
                  simp only [List.getElem?_toArray, List.getElem?_cons_zero, List.getElem?_cons_succ, Option.some.injEq] at ho
                  subst ho
                  have p7 : b 7 = true := hd ⟨7, .data⟩ (by simp) rfl
                  have p12 : b 12 = true := hd ⟨12, .data⟩ (by simp) rfl
                  have e200 := (ev 7 200 rfl p7).trans vv7
                  have e205 := (ev 12 205 rfl p12).trans vv12
                  rw [vv13]
                  refine does_value rfl (by intro c h; cases h) (w' := W) ?_ (by simpa [did] using hS)
                  · simp [execOp, go_sem, e200, e205]
                | 14 =>
                  simp only [List.getElem?_toArray, List.getElem?_cons_zero, List.getElem?_cons_succ, Option.some.injEq] at ho
                  subst ho
                  have p13 : b 13 = true := hd ⟨13, .data⟩ (by simp) rfl
                  have e206 := (ev 13 206 rfl p13).trans vv13
                  rw [vv14]
                  refine does_value rfl (by intro c h; cases h) (w' := W) ?_ (by simpa [did] using hS)
                  · simp [execOp, go_sem, e206]
                | 15 =>
                  simp only [List.getElem?_toArray, List.getElem?_cons_zero, List.getElem?_cons_succ, Option.some.injEq] at ho
                  subst ho
                  have p14 : b 14 = true := hd ⟨14, .guard⟩ (by simp) rfl
                  have e6 : a.tmps[6]?.getD undef = .pointer (some ⟨m.a, 0, none⟩) := (kp 6 (by kernel_rfl)).trans h6
                  rw [vv15]
                  refine does_value_g rfl (yl 14 207 false rfl p14 vv14) (by intro c h; cases h) (w' := W) ?_ (by simpa [did] using hS)
                  · simp [execOp, go_sem, e6]
                | 16 =>
                  simp only [List.getElem?_toArray, List.getElem?_cons_zero, List.getElem?_cons_succ, Option.some.injEq] at ho
                  subst ho
                  have p15 : b 15 = true := hd ⟨15, .data⟩ (by simp) rfl
                  have p14 : b 14 = true := hd ⟨14, .guard⟩ (by simp) rfl
                  have e208 := (ev 15 208 rfl p15).trans vv15
                  rw [vv16]
                  refine does_call_g rfl (yl 14 207 false rfl p14 vv14) (by intro c h; cases h) (f := 19) (args := #[.pointer (some ⟨m.a, 0, none⟩)]) ?_ ?_
                  · simp [go_sem, e208]
                  · (refine (CK.size hS).mono (fun e w' ⟨he, h⟩ => ⟨he, ?_⟩); simpa [did] using h)
                | 17 =>
                  simp only [List.getElem?_toArray, List.getElem?_cons_zero, List.getElem?_cons_succ, Option.some.injEq] at ho
                  subst ho
                  have p14 : b 14 = true := hd ⟨14, .guard⟩ (by simp) rfl
                  have e0 : a.tmps[0]?.getD undef = .int .i64 (n : Nat) := (kp 0 (by kernel_rfl)).trans h0
                  rw [vv17]
                  refine does_value_g rfl (yl 14 207 false rfl p14 vv14) (by intro c h; cases h) (w' := W) ?_ (by simpa [did] using hS)
                  · simp [execOp, go_sem, e0]
                | 18 =>
                  simp only [List.getElem?_toArray, List.getElem?_cons_zero, List.getElem?_cons_succ, Option.some.injEq] at ho
                  subst ho
                  have p16 : b 16 = true := hd ⟨16, .data⟩ (by simp) rfl
                  have p17 : b 17 = true := hd ⟨17, .data⟩ (by simp) rfl
                  have p14 : b 14 = true := hd ⟨14, .guard⟩ (by simp) rfl
                  have e209 := (ev 16 209 rfl p16).trans vv16
                  have e210 := (ev 17 210 rfl p17).trans vv17
                  rw [vv18]
                  refine does_value_g rfl (yl 14 207 false rfl p14 vv14) (by intro c h; cases h) (w' := W) ?_ (by simpa [did] using hS)
                  · simp [execOp, go_sem, e209, e210]
                | 19 =>
                  simp only [List.getElem?_toArray, List.getElem?_cons_zero, List.getElem?_cons_succ, Option.some.injEq] at ho
                  subst ho
                  have p14 : b 14 = true := hd ⟨14, .data⟩ (by simp) rfl
                  have p18 : b 18 = true := hd ⟨18, .data⟩ (by simp) rfl
                  have e207 := (ev 14 207 rfl p14).trans vv14
                  have e211 := (ev 18 211 rfl p18).trans vv18
                  rw [vv19]
                  refine does_value rfl (by intro c h; cases h) (w' := W) ?_ (by simpa [did] using hS)
                  · simp [execOp, go_sem, e207, e211]
                | 20 =>
                  simp only [List.getElem?_toArray, List.getElem?_cons_zero, List.getElem?_cons_succ, Option.some.injEq] at ho
                  subst ho
                  have p19 : b 19 = true := hd ⟨19, .data⟩ (by simp) rfl
                  have e212 := (ev 19 212 rfl p19).trans vv19
                  rw [vv20]
                  refine does_value rfl (by intro c h; cases h) (w' := W) ?_ (by simpa [did] using hS)
                  · simp [execOp, go_sem, e212]
                | 21 =>
                  simp only [List.getElem?_toArray, List.getElem?_cons_zero, List.getElem?_cons_succ, Option.some.injEq] at ho
                  subst ho
                  have p20 : b 20 = true := hd ⟨20, .guard⟩ (by simp) rfl
                  have e6 : a.tmps[6]?.getD undef = .pointer (some ⟨m.a, 0, none⟩) := (kp 6 (by kernel_rfl)).trans h6
                  rw [vv21]
                  refine does_value_g rfl (yl 20 213 false rfl p20 vv20) (by intro c h; cases h) (w' := W) ?_ (by simpa [did] using hS)
                  · simp [execOp, go_sem, e6]
                | 22 =>
                  simp only [List.getElem?_toArray, List.getElem?_cons_zero, List.getElem?_cons_succ, Option.some.injEq] at ho
                  subst ho
                  have p20 : b 20 = true := hd ⟨20, .guard⟩ (by simp) rfl
                  have e9 : a.tmps[9]?.getD undef = .pointer (some ⟨oa, 0, none⟩) := (kp 9 (by kernel_rfl)).trans h9
                  rw [vv22]
                  refine does_value_g rfl (yl 20 213 false rfl p20 vv20) (by intro c h; cases h) (w' := W) ?_ (by simpa [did] using hS)
                  · simp [execOp, go_sem, e9]
                | 23 =>
                  simp only [List.getElem?_toArray, List.getElem?_cons_zero, List.getElem?_cons_succ, Option.some.injEq] at ho
                  subst ho
                  have p22 : b 22 = true := hd ⟨22, .data⟩ (by simp) rfl
                  have p20 : b 20 = true := hd ⟨20, .guard⟩ (by simp) rfl
                  have e215 := (ev 22 215 rfl p22).trans vv22
                  rw [vv23]
                  refine does_value_g rfl (yl 20 213 false rfl p20 vv20) (by intro c h; cases h) (w' := W) ?_ (by simpa [did] using hS)
                  · simp [execOp, go_sem, e215, hS.oc]
                | 24 =>
                  simp only [List.getElem?_toArray, List.getElem?_cons_zero, List.getElem?_cons_succ, Option.some.injEq] at ho
                  subst ho
                  have p21 : b 21 = true := hd ⟨21, .data⟩ (by simp) rfl
                  have p23 : b 23 = true := hd ⟨23, .data⟩ (by simp) rfl
                  have p20 : b 20 = true := hd ⟨20, .guard⟩ (by simp) rfl
                  have e214 := (ev 21 214 rfl p21).trans vv21
                  have e216 := (ev 23 216 rfl p23).trans vv23
                  rw [vv24]
                  refine does_call_g rfl (yl 20 213 false rfl p20 vv20) (by intro c h; cases h) (f := 20) (args := #[.pointer (some ⟨m.a, 0, none⟩), .int .i64 (N : Nat)]) ?_ ?_
                  · simp [go_sem, e214, e216]
                  · (refine (CK.used hS N rfl hN2).mono (fun e w' ⟨he, h⟩ => ⟨he, ?_⟩); simpa [did] using h)
                | 25 =>
                  simp only [List.getElem?_toArray, List.getElem?_cons_zero, List.getElem?_cons_succ, Option.some.injEq] at ho
                  subst ho
                  have p20 : b 20 = true := hd ⟨20, .guard⟩ (by simp) rfl
                  have e10 : a.tmps[10]?.getD undef = .bool true := (kp 10 (by kernel_rfl)).trans h10
                  rw [vv25]
                  refine does_value_g rfl (yl 20 213 false rfl p20 vv20) (by intro c h; cases h) (w' := W) ?_ (by simpa [did] using hS)
                  · simp [execOp, go_sem, e10]
                | 26 =>
                  simp only [List.getElem?_toArray, List.getElem?_cons_zero, List.getElem?_cons_succ, Option.some.injEq] at ho
                  subst ho
                  have p25 : b 25 = true := hd ⟨25, .data⟩ (by simp) rfl
                  have p20 : b 20 = true := hd ⟨20, .guard⟩ (by simp) rfl
                  have e218 := (ev 25 218 rfl p25).trans vv25
                  rw [vv26]
                  refine does_value_g rfl (yl 20 213 false rfl p20 vv20) (by intro c h; cases h) (w' := W) ?_ (by simpa [did] using hS)
                  · simp [execOp, go_sem, e218]
                | 27 =>
                  simp only [List.getElem?_toArray, List.getElem?_cons_zero, List.getElem?_cons_succ, Option.some.injEq] at ho
                  subst ho
                  have p26 : b 26 = true := hd ⟨26, .guard⟩ (by simp) rfl
                  have e7 : a.tmps[7]?.getD undef = .pointer (some ⟨r.a, 0, none⟩) := (kp 7 (by kernel_rfl)).trans h7
                  rw [vv27]
                  refine does_value_g rfl (yl 26 219 true rfl p26 vv26) (by intro c h; cases h) (w' := W) ?_ (by simpa [did] using hS)
                  · simp [execOp, go_sem, e7]
                | 28 =>
                  simp only [List.getElem?_toArray, List.getElem?_cons_zero, List.getElem?_cons_succ, Option.some.injEq] at ho
                  subst ho
                  have p27 : b 27 = true := hd ⟨27, .data⟩ (by simp) rfl
                  have p26 : b 26 = true := hd ⟨26, .guard⟩ (by simp) rfl
                  have e220 := (ev 27 220 rfl p27).trans vv27
                  rw [vv28]
                  refine does_value_g rfl (yl 26 219 true rfl p26 vv26) (by intro c h; cases h) (w' := W) ?_ (by simpa [did] using hS)
                  · simp [execOp, go_sem, e220]
                | 29 =>
                  simp only [List.getElem?_toArray, List.getElem?_cons_zero, List.getElem?_cons_succ, Option.some.injEq] at ho
                  subst ho
                  have p28 : b 28 = true := hd ⟨28, .data⟩ (by simp) rfl
                  have p26 : b 26 = true := hd ⟨26, .guard⟩ (by simp) rfl
                  have e221 := (ev 28 221 rfl p28).trans vv28
                  rw [vv29]
                  refine does_value_g rfl (yl 26 219 true rfl p26 vv26) (by intro c h; cases h) (w' := W) ?_ (by simpa [did] using hS)
                  · simp [execOp, go_sem, e221]
                | 30 =>
                  simp only [List.getElem?_toArray, List.getElem?_cons_zero, List.getElem?_cons_succ, Option.some.injEq] at ho
                  subst ho
                  have p29 : b 29 = true := hd ⟨29, .data⟩ (by simp) rfl
                  have p26 : b 26 = true := hd ⟨26, .guard⟩ (by simp) rfl
                  have e222 := (ev 29 222 rfl p29).trans vv29
                  rw [vv30]
                  refine does_value_g rfl (yl 26 219 true rfl p26 vv26) (by intro c h; cases h) (w' := W) ?_ (by simpa [did] using hS)
                  · simp [execOp, go_sem, e222, hS.bi.ra.c0]
                | 31 =>
                  simp only [List.getElem?_toArray, List.getElem?_cons_zero, List.getElem?_cons_succ, Option.some.injEq] at ho
                  subst ho
                  have p26 : b 26 = true := hd ⟨26, .guard⟩ (by simp) rfl
                  have e9 : a.tmps[9]?.getD undef = .pointer (some ⟨oa, 0, none⟩) := (kp 9 (by kernel_rfl)).trans h9
                  rw [vv31]
                  refine does_value_g rfl (yl 26 219 true rfl p26 vv26) (by intro c h; cases h) (w' := W) ?_ (by simpa [did] using hS)
                  · simp [execOp, go_sem, e9]
                | 32 =>
                  simp only [List.getElem?_toArray, List.getElem?_cons_zero, List.getElem?_cons_succ, Option.some.injEq] at ho
                  subst ho
                  have p31 : b 31 = true := hd ⟨31, .data⟩ (by simp) rfl
                  have p26 : b 26 = true := hd ⟨26, .guard⟩ (by simp) rfl
                  have e224 := (ev 31 224 rfl p31).trans vv31
                  rw [vv32]
                  refine does_value_g rfl (yl 26 219 true rfl p26 vv26) (by intro c h; cases h) (w' := W) ?_ (by simpa [did] using hS)
                  · simp [execOp, go_sem, e224, hS.oc]
                | 33 =>
                  simp only [List.getElem?_toArray, List.getElem?_cons_zero, List.getElem?_cons_succ, Option.some.injEq] at ho
                  subst ho
                  have p30 : b 30 = true := hd ⟨30, .data⟩ (by simp) rfl
                  have p32 : b 32 = true := hd ⟨32, .data⟩ (by simp) rfl
                  have p26 : b 26 = true := hd ⟨26, .guard⟩ (by simp) rfl
                  have e223 := (ev 30 223 rfl p30).trans vv30
                  have e225 := (ev 32 225 rfl p32).trans vv32
                  have hrl : (N : Int) < (r.U.length : Int) := by rw [hS.bi.rn]; omega
                  rw [vv33]
                  refine does_value_g rfl (yl 26 219 true rfl p26 vv26) (by intro c h; cases h) (w' := W) ?_ (by simpa [did] using hS)
                  · simp [execOp, go_sem, e223, e225, hrl]
                | 34 =>
                  simp only [List.getElem?_toArray, List.getElem?_cons_zero, List.getElem?_cons_succ, Option.some.injEq] at ho
                  subst ho
                  have p33 : b 33 = true := hd ⟨33, .data⟩ (by simp) rfl
                  have p26 : b 26 = true := hd ⟨26, .guard⟩ (by simp) rfl
                  have e226 := (ev 33 226 rfl p33).trans vv33
                  have hcu := hS.bi.ra.cell (i := N) (by rw [hS.bi.rn]; omega)
                  rw [vv34]
                  refine does_value_g rfl (yl 26 219 true rfl p26 vv26) (by intro c h; cases h) (w' := W) ?_ (by simpa [did] using hS)
                  · simp [execOp, go_sem, e226, hcu]
                | 35 =>
                  simp only [List.getElem?_toArray, List.getElem?_cons_zero, List.getElem?_cons_succ, Option.some.injEq] at ho
                  subst ho
                  have p26 : b 26 = true := hd ⟨26, .data⟩ (by simp) rfl
                  have p34 : b 34 = true := hd ⟨34, .data⟩ (by simp) rfl
                  have p20 : b 20 = true := hd ⟨20, .guard⟩ (by simp) rfl
                  have e219 := (ev 26 219 rfl p26).trans vv26
                  have e227 := (ev 34 227 rfl p34).trans vv34
                  rw [vv35]
                  refine does_value_g rfl (yl 20 213 false rfl p20 vv20) (by intro c h; cases h) (w' := W) ?_ (by simpa [did] using hS)
                  · simp [execOp, go_sem, e219, e227]
                | 36 =>
                  simp only [List.getElem?_toArray, List.getElem?_cons_zero, List.getElem?_cons_succ, Option.some.injEq] at ho
                  subst ho
                  have p24 : b 24 = true := hd ⟨24, .data⟩ (by simp) rfl
                  have p35 : b 35 = true := hd ⟨35, .data⟩ (by simp) rfl
                  have p20 : b 20 = true := hd ⟨20, .guard⟩ (by simp) rfl
                  have e217 := (ev 24 217 rfl p24).trans vv24
                  have e228 := (ev 35 228 rfl p35).trans vv35
                  rw [vv36]
                  refine does_value_g rfl (yl 20 213 false rfl p20 vv20) (by intro c h; cases h) (w' := W) ?_ (by simpa [did] using hS)
                  · simp [execOp, go_sem, e217, e228]
                | 37 =>
                  simp only [List.getElem?_toArray, List.getElem?_cons_zero, List.getElem?_cons_succ, Option.some.injEq] at ho
                  subst ho
                  have p20 : b 20 = true := hd ⟨20, .data⟩ (by simp) rfl
                  have p36 : b 36 = true := hd ⟨36, .data⟩ (by simp) rfl
                  have e213 := (ev 20 213 rfl p20).trans vv20
                  have e229 := (ev 36 229 rfl p36).trans vv36
                  rw [vv37]
                  refine does_value rfl (by intro c h; cases h) (w' := W) ?_ (by simpa [did] using hS)
                  · simp [execOp, go_sem, e213, e229]
                | k + 38 => simp at ho
              · intro b W' hS _
                subst hLe
                exact hend W' hS.bi
          by_cases hk0 : kd = 0
          · subst hk0
            have hn0' : 0 < n := by omega
            have hnB : ((n : Int) == 0) = false := by simp; omega
            have ct := take_half HJ1.out
            go_wp2_with (first
              | (go_at_call 8; refine ct.mono ?_; rintro e W2 ⟨x, y, rfl, H2⟩; have cr := rrun_half H2.out.1.choose_spec (by omega) (by omega) (by omega); rw [hra] at cr; clear ct)
              | (go_at_call 9; refine cr.mono ?_; rintro e W3 ⟨rfl, H3⟩; clear cr))
            obtain ⟨m2, r2, ma2, rra2, hb2, ho2⟩ := H3.out
            have rra3 := rra2
            refine hR _ _ _ m2 r2 rfl rfl (by rw [ma2]; rfl) (by rw [rra3]; rfl) rfl rfl hb2 (oc_keep (oc_keep oc1 H2.out.2 hom) ho2 hor) ?_
            intro W' hB'
            have HB' : Hid (BI w.heap.size w W' m2 r2 n) := hB'
            clear hB' hR
            simp only [checkIn, putAll, List.setIfInBounds_toArray, List.set_cons_zero, List.set_cons_succ]
            go_wp2
            exact ⟨⟨i + 1, m2, r2, by omega, by omega, by go_num, by rw [ma2], rra3, HB'.out⟩, by simp [intOf]; omega⟩
          · by_cases hk1 : kd = 1
            · subst hk1
              by_cases hNk : 1 ≤ N
              · have ct := run_half HJ1.out N (by omega) (by omega)
                go_wp2_with (first
                  | (go_at_call 10; refine ct.mono ?_; rintro e W2 ⟨x, y, rfl, H2⟩; have oc2 := oc_keep oc1 H2.out.2 hom; have cr := rrun_half H2.out.1.choose_spec (by omega) (by omega) (by omega); rw [hra] at cr; clear ct)
                  | (go_at_call 9; refine cr.mono ?_; rintro e W3 ⟨rfl, H3⟩; clear cr))
                obtain ⟨m2, r2, ma2, rra2, hb2, ho2⟩ := H3.out
                have rra3 := rra2
                refine hR _ _ _ m2 r2 rfl rfl (by rw [ma2]; rfl) (by rw [rra3]; rfl) rfl rfl hb2 (oc_keep oc2 ho2 hor) ?_
                intro W' hB'
                have HB' : Hid (BI w.heap.size w W' m2 r2 n) := hB'
                clear hB' hR
                simp only [checkIn, putAll, List.setIfInBounds_toArray, List.set_cons_zero, List.set_cons_succ]
                go_wp2
                exact ⟨⟨i + 1, m2, r2, by omega, by omega, by go_num, by rw [ma2], rra3, HB'.out⟩, by simp [intOf]; omega⟩
              · have ct := run_out (N : Nat) m W1 HJ1.out.mi.map (by rw [HJ1.out.mn]; omega)
                have cr := rrun_out (N : Nat) r W1 HJ1.out.ra (by rw [HJ1.out.rn]; omega)
                rw [hra] at cr
                go_wp2_with (first
                  | (go_at_call 10; refine Calls_on ct ?_; clear ct)
                  | (go_at_call 9; refine Calls_on cr ?_; clear cr))
                refine hR _ _ _ m r rfl rfl (rfl) (by rw [hra]; rfl) rfl rfl HJ1.out oc1 ?_
                intro W' hB'
                have HB' : Hid (BI w.heap.size w W' m r n) := hB'
                clear hB' hR
                simp only [checkIn, putAll, List.setIfInBounds_toArray, List.set_cons_zero, List.set_cons_succ]
                go_wp2
                exact ⟨⟨i + 1, m, r, by omega, by omega, by go_num, rfl, hra, HB'.out⟩, by simp [intOf]; omega⟩
            · by_cases hk2 : kd = 2
              · subst hk2
                have hmf : ∀ (fn : Fn) (first cap : Array Value) (w : World), (Instr.makeFunc fn first cap).run Tryd.prog w = .ok (.func fn first cap) w := fun _ _ _ _ => rfl
                have hra2 : (r.put N true).a = ra := hra
                have hrl : (N : Int) < (r.U.length : Int) := by rw [HJ1.out.rn]; omega
                have rc0 := HJ1.out.ra.c0
                rw [hra] at rc0
                have rcN := HJ1.out.ra.cell (i := N) (by rw [HJ1.out.rn]; omega)
                have rfN : W1.frozen? ⟨r.b, N, none⟩ = false := HJ1.out.ra.frozen N
                cases hu : uat r.U N with
                | true =>
                  rw [hu] at rcN
                  have HU : Hid (uat r.U N = true) := hu
                  have ct : ∀ k, Calls Tryd.prog 12 #[.pointer (some ⟨m.a, 0, none⟩), .int .i64 N] (W1.drewN k) fun e w' => e = .returned (.int .i64 16) ∧ Hid (BI w.heap.size w w' m r n ∧ Only (· = m.b) (W1.drewN k) w') := fun k => set_same (HJ1.out.still ⟨k, rfl⟩) N hN2 HU.out
                  clear hu
                  go_wp2_with fail
                  go_quiet (fail)
                  go_wp2_with (go_at_call 12; refine (ct _).mono ?_; rintro e W2 ⟨rfl, H2⟩; clear ct)
                  refine hR _ _ _ m r rfl rfl (rfl) (by rw [hra]; rfl) rfl rfl H2.out.1 (oc_keep (w := W1.drewN _) oc1 H2.out.2 hom) ?_
                  intro W' hB'
                  have HB' : Hid (BI w.heap.size w W' m r n) := hB'
                  clear hB' hR
                  simp only [checkIn, putAll, List.setIfInBounds_toArray, List.set_cons_zero, List.set_cons_succ]
                  go_wp2
                  exact ⟨⟨i + 1, m, r, by omega, by omega, by go_num, rfl, hra, HB'.out⟩, by simp [intOf]; omega⟩
                | false =>
                  rw [hu] at rcN
                  have HU : Hid (uat r.U N = false) := hu
                  clear hu
                  go_wp2_with fail
                  go_quiet (fail)
                  go_wp2_with fail
                  go_region
                  go_wp2_with (go_at_call 12; refine Stop.out ?_)
                  refine Stop.mk ?_
                  have hM := mid_of (HJ1.out.still ⟨nq, rfl⟩) N true
                  have ct := set_turn hM hN2 HU.out
                  have oc2 : ((W1.drewN nq).setCell ⟨r.b, N, none⟩ (.bool true)).drew.cell? ⟨oa, 1, none⟩ = some (.int .i64 (N : Nat)) := oc_keep (w := W1) oc1 (Only.drew (Only.drewN' nq (Only.setCell (S := (· = r.b)) (W1.drewN nq) ⟨r.b, N, none⟩ (.bool true) rfl))) hor
                  clear hM
                  go_wp2_with (go_at_call 12; refine ct.mono ?_; rintro e W2 ⟨rfl, H2⟩; clear ct)
                  refine hR _ _ _ (m.turn N) (r.put N true) rfl rfl (rfl) (by rw [hra2]; rfl) rfl rfl H2.out.1 (oc_keep oc2 H2.out.2 hom) ?_
                  intro W' hB'
                  have HB' : Hid (BI w.heap.size w W' (m.turn N) (r.put N true) n) := hB'
                  clear hB' hR
                  simp only [checkIn, putAll, List.setIfInBounds_toArray, List.set_cons_zero, List.set_cons_succ]
                  go_wp2
                  exact ⟨⟨i + 1, (m.turn N), (r.put N true), by omega, by omega, by go_num, rfl, hra2, HB'.out⟩, by simp [intOf]; omega⟩
              · by_cases hk3 : kd = 3
                · subst hk3
                  have hmf : ∀ (fn : Fn) (first cap : Array Value) (w : World), (Instr.makeFunc fn first cap).run Tryd.prog w = .ok (.func fn first cap) w := fun _ _ _ _ => rfl
                  have hra2 : (r.put N false).a = ra := hra
                  have hrl : (N : Int) < (r.U.length : Int) := by rw [HJ1.out.rn]; omega
                  have rc0 := HJ1.out.ra.c0
                  rw [hra] at rc0
                  have rcN := HJ1.out.ra.cell (i := N) (by rw [HJ1.out.rn]; omega)
                  have rfN : W1.frozen? ⟨r.b, N, none⟩ = false := HJ1.out.ra.frozen N
                  cases hu : uat r.U N with
                  | false =>
                    rw [hu] at rcN
                    have HU : Hid (uat r.U N = false) := hu
                    have ct : ∀ k, Calls Tryd.prog 11 #[.pointer (some ⟨m.a, 0, none⟩), .int .i64 N] (W1.drewN k) fun e w' => e = .returned (.int .i64 2) ∧ Hid (BI w.heap.size w w' m r n ∧ Only (· = m.b) (W1.drewN k) w') := fun k => give_same (HJ1.out.still ⟨k, rfl⟩) N hN2 HU.out
                    clear hu
                    go_wp2_with fail
                    go_quiet (fail)
                    go_wp2_with (go_at_call 11; refine (ct _).mono ?_; rintro e W2 ⟨rfl, H2⟩; clear ct)
                    refine hR _ _ _ m r rfl rfl (rfl) (by rw [hra]; rfl) rfl rfl H2.out.1 (oc_keep (w := W1.drewN _) oc1 H2.out.2 hom) ?_
                    intro W' hB'
                    have HB' : Hid (BI w.heap.size w W' m r n) := hB'
                    clear hB' hR
                    simp only [checkIn, putAll, List.setIfInBounds_toArray, List.set_cons_zero, List.set_cons_succ]
                    go_wp2
                    exact ⟨⟨i + 1, m, r, by omega, by omega, by go_num, rfl, hra, HB'.out⟩, by simp [intOf]; omega⟩
                  | true =>
                    rw [hu] at rcN
                    have HU : Hid (uat r.U N = true) := hu
                    clear hu
                    go_wp2_with fail
                    go_quiet (fail)
                    go_wp2_with fail
                    go_region
                    go_wp2_with (go_at_call 11; refine Stop.out ?_)
                    refine Stop.mk ?_
                    have hM := mid_of (HJ1.out.still ⟨nq, rfl⟩) N false
                    have ct := give_turn hM hN2 HU.out
                    have oc2 : ((W1.drewN nq).setCell ⟨r.b, N, none⟩ (.bool false)).drew.cell? ⟨oa, 1, none⟩ = some (.int .i64 (N : Nat)) := oc_keep (w := W1) oc1 (Only.drew (Only.drewN' nq (Only.setCell (S := (· = r.b)) (W1.drewN nq) ⟨r.b, N, none⟩ (.bool false) rfl))) hor
                    clear hM
                    go_wp2_with (go_at_call 11; refine ct.mono ?_; rintro e W2 ⟨rfl, H2⟩; clear ct)
                    refine hR _ _ _ (m.turn N) (r.put N false) rfl rfl (rfl) (by rw [hra2]; rfl) rfl rfl H2.out.1 (oc_keep oc2 H2.out.2 hom) ?_
                    intro W' hB'
                    have HB' : Hid (BI w.heap.size w W' (m.turn N) (r.put N false) n) := hB'
                    clear hB' hR
                    simp only [checkIn, putAll, List.setIfInBounds_toArray, List.set_cons_zero, List.set_cons_succ]
                    go_wp2
                    exact ⟨⟨i + 1, (m.turn N), (r.put N false), by omega, by omega, by go_num, rfl, hra2, HB'.out⟩, by simp [intOf]; omega⟩
                · have hkb0 : (kd == 0) = false := by simp [hk0]
                  have hkb1 : (kd == 1) = false := by simp [hk1]
                  have hkb2 : (kd == 2) = false := by simp [hk2]
                  have hkb3 : (kd == 3) = false := by simp [hk3]
                  have cby := bytes_any m W1 HJ1.out.mi.map
                  go_wp2_with (go_at_call 14; refine cby.mono ?_; rintro e W2 ⟨bs, rfl, hof, hblk, hB2⟩; have H2 : Hid (BytesOf m.n (used m.ws) bs ∧ W2.heap[W1.heap.size]? = some (.cells (bs.map u8v).toArray 5 (0, 0)) ∧ Below W1.heap.size W1 W2) := ⟨hof, hblk, hB2⟩; clear hof hblk hB2 cby; refine Stop.out ?_)
                  refine Stop.mk ?_
                  have HJ2 : Hid (BI w.heap.size w W2 m r n) := HJ1.out.beside H2.out.2.2
                  have cl := load_bi HJ2.out (some ⟨W1.heap.size, 0, none⟩) bs bs.length (Bytes.block H2.out.2.1) H2.out.1
                  go_wp2_with (go_at_call 13; refine cl.mono ?_; rintro e W3 ⟨xa, rfl, H3⟩; clear cl; refine Stop.out ?_)
                  refine Stop.mk ?_
                  obtain ⟨x, hxa, hbx, hB3, hx1, hx2⟩ := H3.out
                  have HJ3 : Hid (BI w.heap.size w W3 x r n ∧ Below W2.heap.size W2 W3 ∧ W2.heap.size ≤ x.a ∧ W2.heap.size ≤ x.b ∧ MI w.heap.size w W3 m) := ⟨hbx, hB3, hx1, hx2, HJ2.out.mi.beside hB3⟩
                  subst hxa
                  clear hbx hB3 hx1 hx2 H3
                  have cc := copy_any m W3 HJ3.out.2.2.2.2.map HJ3.out.1.mi.tab.lt
                  go_wp2_with (go_at_call 15; refine cc.mono ?_; rintro e W4 ⟨y, rfl, hy1, hy2, hy3, hy4, hy5, hB4⟩; have H4 : Hid (y.n = m.n ∧ y.ws = m.ws ∧ MapAt W4 y ∧ W3.heap.size ≤ y.a ∧ W3.heap.size ≤ y.b ∧ Below W3.heap.size W3 W4) := ⟨hy1, hy2, hy3, hy4, hy5, hB4⟩; clear hy1 hy2 hy3 hy4 hy5 hB4 cc; refine Stop.out ?_)
                  refine Stop.mk ?_
                  have ct := take_mi (HJ3.out.2.2.2.2.beside H4.out.2.2.2.2.2)
                  have ct2 : Calls Tryd.prog 8 #[.pointer (some ⟨m.a, 0, none⟩)] W4 fun e w' => (∃ a1 a2, e = .returned (.tuple #[.int .i64 a1, .int .i64 a2])) ∧ Hid (Only (· = m.b) W4 w') := ct.mono (by
                    rintro e w' ⟨m', ⟨rr, _, hor⟩, _, hw, _⟩
                    refine ⟨?_, hw⟩
                    obtain ⟨_, he, _⟩ | ⟨_, he, _⟩ := hor
                    · exact ⟨_, _, he⟩
                    · exact ⟨_, _, he⟩)
                  clear ct
                  have hmb2 : m.b < W2.heap.size := HJ2.out.mi.map.row.lt
                  go_wp2_with (go_at_call 8; refine ct2.mono ?_; rintro e W5 ⟨⟨z1, z2, rfl⟩, H5⟩; clear ct2)
                  have HC : Hid (∀ s0, W5.heap.size = s0 → CL w.heap.size w x y r n oa (N : Nat) s0 false false W5.drew) := by
                    intro s0 hs0
                    obtain ⟨hbx, hB3, hx1, hx2, hm3⟩ := HJ3.out
                    obtain ⟨hy1, hy2, hy3, hy4, hy5, hB4⟩ := H4.out
                    have ho := H5.out
                    have hxb := hbx.beside hB4
                    have hs3 := hB3.size
                    have hbi : BI w.heap.size w W5 x r n := by
                      refine ⟨hxb.mi.only ho (by omega) (by omega) (fun i hi => by have := HJ2.out.mi.hb; omega), hxb.ra.keep ho ?_ ?_, hxb.hra, hxb.hrb, hxb.mn, hxb.rn, hxb.same⟩
                      · exact HJ2.out.apart.1
                      · exact HJ2.out.apart.2.1
                    refine ⟨hbi.still ⟨1, rfl⟩, (hy3.keep ho (by omega) (by omega)).drewN 1, hy1.trans HJ2.out.mn, fun i => by rw [hy2, HJ2.out.same, hbx.same], ?_, fun _ => hs0, (fun _ h => by cases h), (fun h => by cases h), (fun h => by cases h)⟩
                    have oc2 := (H2.out.2.2.cell (p := ⟨oa, 1, none⟩) (cell_lt oc1)).trans oc1
                    have oc3 := (hB3.cell (p := ⟨oa, 1, none⟩) (cell_lt oc2)).trans oc2
                    have oc4 := (hB4.cell (p := ⟨oa, 1, none⟩) (cell_lt oc3)).trans oc3
                    exact oc_keep (S := (· = m.b)) oc4 ho.drew hom
                  obtain ⟨s0, hs0⟩ : ∃ s0, W5.heap.size = s0 := ⟨_, rfl⟩
                  obtain ⟨LL, hLe⟩ : ∃ LL : List (Option Tmp × Value), LL = [(some 96, .pointer (some ⟨y.a, 0, none⟩)), (some 97, .bool false), (some 98, .bool false), (some 99, .pointer (some ⟨y.a, 0, none⟩)), (some 100, .slice (some ⟨s0, 0, none⟩) (bsOf x).length (bsOf x).length), (some 101, .string (strOf (bsOf x))), (some 102, .pointer (some ⟨x.a, 0, none⟩)), (some 103, .slice (some ⟨s0 + 1, 0, none⟩) (bsOf x).length (bsOf x).length), (some 104, .string (strOf (bsOf x))), (some 105, .bool false), (some 106, .bool false)] := ⟨_, rfl⟩
                  have vv0 : vals LL 0 = .pointer (some ⟨y.a, 0, none⟩) := by rw [hLe]; rfl
                  have vv1 : vals LL 1 = .bool false := by rw [hLe]; rfl
                  have vv2 : vals LL 2 = .bool false := by rw [hLe]; rfl
                  have vv3 : vals LL 3 = .pointer (some ⟨y.a, 0, none⟩) := by rw [hLe]; rfl
                  have vv4 : vals LL 4 = .slice (some ⟨s0, 0, none⟩) (bsOf x).length (bsOf x).length := by rw [hLe]; rfl
                  have vv5 : vals LL 5 = .string (strOf (bsOf x)) := by rw [hLe]; rfl
                  have vv6 : vals LL 6 = .pointer (some ⟨x.a, 0, none⟩) := by rw [hLe]; rfl
                  have vv7 : vals LL 7 = .slice (some ⟨s0 + 1, 0, none⟩) (bsOf x).length (bsOf x).length := by rw [hLe]; rfl
                  have vv8 : vals LL 8 = .string (strOf (bsOf x)) := by rw [hLe]; rfl
                  have vv9 : vals LL 9 = .bool false := by rw [hLe]; rfl
                  have vv10 : vals LL 10 = .bool false := by rw [hLe]; rfl
                  refine region_laid hmix (by kernel_rfl) 232 rfl (by kernel_rfl) LL (by rw [hLe]; rfl) (fun b W => CL w.heap.size w x y r n oa (N : Nat) s0 (b 4) (b 7) W) (HC.out s0 hs0) ?_ ?_
                  · intro b W i o a hS hcl ho hb hd ev kp yl
                    match i with
                    | 0 =>
                      simp only [List.getElem?_toArray, List.getElem?_cons_zero, Option.some.injEq] at ho
                      subst ho
                      have e24 : a.tmps[24]?.getD undef = .pointer (some ⟨y.a, 0, none⟩) := kp 24 (by kernel_rfl)
                      rw [vv0]
                      refine does_value rfl (by intro c h; cases h) (w' := W) ?_ (by simpa [did] using hS)
                      · simp [execOp, go_sem, e24]
                    | 1 =>
                      simp only [List.getElem?_toArray, List.getElem?_cons_zero, List.getElem?_cons_succ, Option.some.injEq] at ho
                      subst ho
                      have p0 : b 0 = true := hd ⟨0, .data⟩ (by simp) rfl
                      have e96 := (ev 0 96 rfl p0).trans vv0
                      rw [vv1]
                      refine does_value rfl (by intro c h; cases h) (w' := W) ?_ (by simpa [did] using hS)
                      · simp [execOp, go_sem, e96]
                    | 2 =>
                      simp only [List.getElem?_toArray, List.getElem?_cons_zero, List.getElem?_cons_succ, Option.some.injEq] at ho
                      subst ho
                      have p1 : b 1 = true := hd ⟨1, .data⟩ (by simp) rfl
                      have e97 := (ev 1 97 rfl p1).trans vv1
                      rw [vv2]
                      refine does_value rfl (by intro c h; cases h) (w' := W) ?_ (by simpa [did] using hS)
                      · simp [execOp, go_sem, e97]
                    | 3 =>
                      simp only [List.getElem?_toArray, List.getElem?_cons_zero, List.getElem?_cons_succ, Option.some.injEq] at ho
                      subst ho
                      have p2 : b 2 = true := hd ⟨2, .guard⟩ (by simp) rfl
                      have e24 : a.tmps[24]?.getD undef = .pointer (some ⟨y.a, 0, none⟩) := kp 24 (by kernel_rfl)
                      rw [vv3]
                      refine does_value_g rfl (yl 2 98 false rfl p2 vv2) (by intro c h; cases h) (w' := W) ?_ (by simpa [did] using hS)
                      · simp [execOp, go_sem, e24]
                    | 4 =>
                      simp only [List.getElem?_toArray, List.getElem?_cons_zero, List.getElem?_cons_succ, Option.some.injEq] at ho
                      subst ho
                      have p3 : b 3 = true := hd ⟨3, .data⟩ (by simp) rfl
                      have p2 : b 2 = true := hd ⟨2, .guard⟩ (by simp) rfl
                      have e99 := (ev 3 99 rfl p3).trans vv3
                      have h7 : b 7 = false := by cases h : b 7; rfl; rw [hcl 7 _ rfl h ⟨4, .chain⟩ (by simp) rfl] at hb; cases hb
                      rw [vv4]
                      refine does_call_g rfl (yl 2 98 false rfl p2 vv2) (by intro c h; cases h) (f := 14) (args := #[.pointer (some ⟨y.a, 0, none⟩)]) ?_ ?_
                      · simp [go_sem, e99]
                      · (have hc := hS; rw [hb, h7] at hc; refine hc.bytes1.mono (fun e w' ⟨he, h⟩ => ⟨he, ?_⟩); simpa [did, h7] using h)
                    | 5 =>
                      simp only [List.getElem?_toArray, List.getElem?_cons_zero, List.getElem?_cons_succ, Option.some.injEq] at ho
                      subst ho
                      have p4 : b 4 = true := hd ⟨4, .data⟩ (by simp) rfl
                      have p2 : b 2 = true := hd ⟨2, .guard⟩ (by simp) rfl
                      have e100 := (ev 4 100 rfl p4).trans vv4
                      have hc := hS
                      rw [p4] at hc
                      rw [vv5]
                      refine does_value_g rfl (yl 2 98 false rfl p2 vv2) (by intro c h; cases h) (w' := W) ?_ (by simpa [did] using hS)
                      · simp [execOp, go_sem, e100, hc.conv1]
                    | 6 =>
                      simp only [List.getElem?_toArray, List.getElem?_cons_zero, List.getElem?_cons_succ, Option.some.injEq] at ho
                      subst ho
                      have p2 : b 2 = true := hd ⟨2, .guard⟩ (by simp) rfl
                      have e22 : a.tmps[22]?.getD undef = .pointer (some ⟨x.a, 0, none⟩) := kp 22 (by kernel_rfl)
                      rw [vv6]
                      refine does_value_g rfl (yl 2 98 false rfl p2 vv2) (by intro c h; cases h) (w' := W) ?_ (by simpa [did] using hS)
                      · simp [execOp, go_sem, e22]
                    | 7 =>
                      simp only [List.getElem?_toArray, List.getElem?_cons_zero, List.getElem?_cons_succ, Option.some.injEq] at ho
                      subst ho
                      have p6 : b 6 = true := hd ⟨6, .data⟩ (by simp) rfl
                      have p2 : b 2 = true := hd ⟨2, .guard⟩ (by simp) rfl
                      have e102 := (ev 6 102 rfl p6).trans vv6
                      have p4 : b 4 = true := hd ⟨4, .chain⟩ (by simp) rfl
                      rw [vv7]
                      refine does_call_g rfl (yl 2 98 false rfl p2 vv2) (by intro c h; cases h) (f := 14) (args := #[.pointer (some ⟨x.a, 0, none⟩)]) ?_ ?_
                      · simp [go_sem, e102]
                      · (have hc := hS; rw [hb, p4] at hc; refine hc.bytes2.mono (fun e w' ⟨he, h⟩ => ⟨he, ?_⟩); simpa [did, p4] using h)
                    | 8 =>
                      simp only [List.getElem?_toArray, List.getElem?_cons_zero, List.getElem?_cons_succ, Option.some.injEq] at ho
                      subst ho
                      have p7 : b 7 = true := hd ⟨7, .data⟩ (by simp) rfl
                      have p2 : b 2 = true := hd ⟨2, .guard⟩ (by simp) rfl
                      have e103 := (ev 7 103 rfl p7).trans vv7
                      have hc := hS
                      rw [p7] at hc
                      rw [vv8]
                      refine does_value_g rfl (yl 2 98 false rfl p2 vv2) (by intro c h; cases h) (w' := W) ?_ (by simpa [did] using hS)
                      · simp [execOp, go_sem, e103, hc.conv4]
                    | 9 =>
                      simp only [List.getElem?_toArray, List.getElem?_cons_zero, List.getElem?_cons_succ, Option.some.injEq] at ho
                      subst ho
                      have p5 : b 5 = true := hd ⟨5, .data⟩ (by simp) rfl
                      have p8 : b 8 = true := hd ⟨8, .data⟩ (by simp) rfl
                      have p2 : b 2 = true := hd ⟨2, .guard⟩ (by simp) rfl
                      have e101 := (ev 5 101 rfl p5).trans vv5
                      have e104 := (ev 8 104 rfl p8).trans vv8
                      rw [vv9]
                      refine does_value_g rfl (yl 2 98 false rfl p2 vv2) (by intro c h; cases h) (w' := W) ?_ (by simpa [did] using hS)
                      · simp [execOp, go_sem, e101, e104]
                    | 10 =>
                      simp only [List.getElem?_toArray, List.getElem?_cons_zero, List.getElem?_cons_succ, Option.some.injEq] at ho
                      subst ho
                      have p2 : b 2 = true := hd ⟨2, .data⟩ (by simp) rfl
                      have p9 : b 9 = true := hd ⟨9, .data⟩ (by simp) rfl
                      have e98 := (ev 2 98 rfl p2).trans vv2
                      have e105 := (ev 9 105 rfl p9).trans vv9
                      rw [vv10]
                      refine does_value rfl (by intro c h; cases h) (w' := W) ?_ (by simpa [did] using hS)
                      · simp [execOp, go_sem, e98, e105]
                    | k + 11 => simp at ho
                  · intro b W6 hS _
                    subst hLe
                    have H6 : Hid (BI w.heap.size w W6 x r n ∧ W6.cell? ⟨oa, 1, none⟩ = some (.int .i64 (N : Nat))) := ⟨hS.bi, hS.oc⟩
                    clear hS HC
                    simp only [putAll, List.setIfInBounds_toArray, List.set_cons_zero, List.set_cons_succ]
                    go_wp2_with fail
                    refine hR _ _ _ x r rfl rfl (rfl) (by rw [hra]; rfl) rfl rfl H6.out.1 H6.out.2 ?_
                    intro W' hB'
                    have HB' : Hid (BI w.heap.size w W' x r n) := hB'
                    clear hB' hR
                    simp only [checkIn, putAll, List.setIfInBounds_toArray, List.set_cons_zero, List.set_cons_succ]
                    go_wp2
                    exact ⟨⟨i + 1, x, r, by omega, by omega, by go_num, rfl, hra, HB'.out⟩, by simp [intOf]; omega⟩
      · by_cases hN0 : N < 0
        · as_aux_lemma =>
            go_upto_region 24 with fail
            rename_i K1 a1 K0 a0
            obtain ⟨W1, hW1⟩ : ∃ W1, W1 = wr.alloc (.cells #[.int .i64 kd, .int .i64 N] 31) := ⟨_, rfl⟩
            obtain ⟨oa, hoa⟩ : ∃ oa, wr.heap.size = oa := ⟨_, rfl⟩
            rw [← hW1, hoa]
            have HJ1 : Hid (BI w.heap.size w W1 m r n) := by rw [hW1]; exact HJ.out.beside (below_new wr _).out
            have oc0 : W1.cell? ⟨oa, 0, none⟩ = some (.int .i64 kd) := by rw [hW1, ← hoa]; exact cellOf (heap_alloc_new wr _) 0
            have oc1 : W1.cell? ⟨oa, 1, none⟩ = some (.int .i64 N) := by rw [hW1, ← hoa]; exact cellOf (heap_alloc_new wr _) 1
            have hom : ¬ oa = m.b := by have := HJ.out.mi.map.row.lt; omega
            have hor : ¬ oa = r.b := by have := block_lt HJ.out.ra.row; omega
            clear hW1 hoa HJ c1 c2
            refine get_ops a1 (fun ops => ∀ (Q : Exit → Act → World → Prop) (A : Array Value) (W : World) (m : MS) (r : RS), A.size = 232 → A.getD 0 undef = .int .i64 (n : Nat) → A.getD 6 undef = .pointer (some ⟨m.a, 0, none⟩) → A.getD 7 undef = .pointer (some ⟨r.a, 0, none⟩) → A.getD 9 undef = .pointer (some ⟨oa, 0, none⟩) → A.getD 10 undef = .bool false → BI w.heap.size w W m r n → W.cell? ⟨oa, 1, none⟩ = some (.int .i64 N) → (∀ W', BI w.heap.size w W' m r n → Q .normal ⟨putAll A (checkOut m r n oa N W.heap.size), []⟩ W') → (Code.region 52 ops true).wp Tryd.prog Q ⟨A, []⟩ W) ?_ _ (fun hR => ?_)
            · clear a0 a1 oc0 oc1 HJ1
              as_aux_lemma =>
                intro Q A W m r hsz h0 h6 h7 h9 h10 hB hcell hend
                obtain ⟨s0, hs0⟩ : ∃ s0, W.heap.size = s0 := ⟨_, rfl⟩
                rw [hs0] at hend
                obtain ⟨LL, hLe⟩ : ∃ LL : List (Option Tmp × Value), LL = checkOut m r n oa N s0 := ⟨_, rfl⟩
                have vv0 : vals LL 0 = .pointer (some ⟨m.a, 0, none⟩) := by rw [hLe]; rfl
                have vv1 : vals LL 1 = .slice (some ⟨s0, 0, none⟩) (bsOf m).length (bsOf m).length := by rw [hLe]; rfl
                have vv2 : vals LL 2 = .string (strOf (bsOf m)) := by rw [hLe]; rfl
                have vv3 : vals LL 3 = .pointer (some ⟨r.a, 0, none⟩) := by rw [hLe]; rfl
                have vv4 : vals LL 4 = .slice (some ⟨s0 + 1, 0, none⟩) (bsOf m).length (bsOf m).length := by rw [hLe]; rfl
                have vv5 : vals LL 5 = .string (strOf (bsOf m)) := by rw [hLe]; rfl
                have vv6 : vals LL 6 = .bool false := by rw [hLe]; rfl
                have vv7 : vals LL 7 = .bool false := by rw [hLe]; rfl
                have vv8 : vals LL 8 = .pointer (some ⟨m.a, 0, none⟩) := by rw [hLe]; rfl
                have vv9 : vals LL 9 = .int .i64 (frOf m : Nat) := by rw [hLe]; rfl
                have vv10 : vals LL 10 = .pointer (some ⟨r.a, 0, none⟩) := by rw [hLe]; rfl
                have vv11 : vals LL 11 = .int .i64 (frOf m : Nat) := by rw [hLe]; rfl
                have vv12 : vals LL 12 = .bool false := by rw [hLe]; rfl
                have vv13 : vals LL 13 = .bool false := by rw [hLe]; rfl
                have vv14 : vals LL 14 = .bool false := by rw [hLe]; rfl
                have vv15 : vals LL 15 = .pointer (some ⟨m.a, 0, none⟩) := by rw [hLe]; rfl
                have vv16 : vals LL 16 = .int .i64 (n : Nat) := by rw [hLe]; rfl
                have vv17 : vals LL 17 = .int .i64 (n : Nat) := by rw [hLe]; rfl
                have vv18 : vals LL 18 = .bool false := by rw [hLe]; rfl
                have vv19 : vals LL 19 = .bool false := by rw [hLe]; rfl
                have vv20 : vals LL 20 = .bool false := by rw [hLe]; rfl
                have vv21 : vals LL 21 = .pointer (some ⟨m.a, 0, none⟩) := by rw [hLe]; rfl
                have vv22 : vals LL 22 = .pointer (some ⟨oa, 1, none⟩) := by rw [hLe]; rfl
                have vv23 : vals LL 23 = .int .i64 N := by rw [hLe]; rfl
                have vv24 : vals LL 24 = .bool false := by rw [hLe]; rfl
                have vv25 : vals LL 25 = .bool false := by rw [hLe]; rfl
                have vv26 : vals LL 26 = .bool false := by rw [hLe]; rfl
                have vv27 : vals LL 27 = undef := by rw [hLe]; rfl
                have vv28 : vals LL 28 = undef := by rw [hLe]; rfl
                have vv29 : vals LL 29 = undef := by rw [hLe]; rfl
                have vv30 : vals LL 30 = undef := by rw [hLe]; rfl
                have vv31 : vals LL 31 = undef := by rw [hLe]; rfl
                have vv32 : vals LL 32 = undef := by rw [hLe]; rfl
                have vv33 : vals LL 33 = undef := by rw [hLe]; rfl
                have vv34 : vals LL 34 = undef := by rw [hLe]; rfl
                have vv35 : vals LL 35 = .bool false := by rw [hLe]; rfl
                have vv36 : vals LL 36 = .bool false := by rw [hLe]; rfl
                have vv37 : vals LL 37 = .bool false := by rw [hLe]; rfl
                refine region_laid hmix (by kernel_rfl) 232 hsz (by kernel_rfl) LL (by rw [hLe]; rfl) (fun b W => CK w.heap.size w m r n oa N s0 (b 1) (b 4) W) ⟨hB.still ⟨1, rfl⟩, hcell, fun _ => hs0, (fun _ h => by cases h), (fun h => by cases h), (fun h => by cases h)⟩ ?_ ?_
                · intro b W i o a hS hcl ho hb hd ev kp yl
                  match i with
                  | 0 =>
                    simp only [List.getElem?_toArray, List.getElem?_cons_zero, Option.some.injEq] at ho
                    subst ho
                    have e6 : a.tmps[6]?.getD undef = .pointer (some ⟨m.a, 0, none⟩) := (kp 6 (by kernel_rfl)).trans h6
                    rw [vv0]
                    refine does_value rfl (by intro c h; cases h) (w' := W) ?_ (by simpa [did] using hS)
                    · simp [execOp, go_sem, e6]
                  | 1 =>
                    simp only [List.getElem?_toArray, List.getElem?_cons_zero, List.getElem?_cons_succ, Option.some.injEq] at ho
                    subst ho
                    have p0 : b 0 = true := hd ⟨0, .data⟩ (by simp) rfl
                    have e193 := (ev 0 193 rfl p0).trans vv0
                    have h4 : b 4 = false := by cases h : b 4; rfl; rw [hcl 4 _ rfl h ⟨1, .chain⟩ (by simp) rfl] at hb; cases hb
                    rw [vv1]
                    refine does_call rfl (by intro c h; cases h) (f := 14) (args := #[.pointer (some ⟨m.a, 0, none⟩)]) ?_ ?_
                    · simp [go_sem, e193]
                    · (have hc := hS; rw [hb, h4] at hc; refine hc.bytes1.mono (fun e w' ⟨he, h⟩ => ⟨he, ?_⟩); simpa [did, h4] using h)
                  | 2 =>
                    simp only [List.getElem?_toArray, List.getElem?_cons_zero, List.getElem?_cons_succ, Option.some.injEq] at ho
                    subst ho
                    have p1 : b 1 = true := hd ⟨1, .data⟩ (by simp) rfl
                    have e194 := (ev 1 194 rfl p1).trans vv1
                    have hc := hS
                    rw [p1] at hc
                    rw [vv2]
                    refine does_value rfl (by intro c h; cases h) (w' := W) ?_ (by simpa [did] using hS)
                    · simp [execOp, go_sem, e194, hc.conv1]
                  | 3 =>
                    simp only [List.getElem?_toArray, List.getElem?_cons_zero, List.getElem?_cons_succ, Option.some.injEq] at ho
                    subst ho
                    have e7 : a.tmps[7]?.getD undef = .pointer (some ⟨r.a, 0, none⟩) := (kp 7 (by kernel_rfl)).trans h7
                    rw [vv3]
                    refine does_value rfl (by intro c h; cases h) (w' := W) ?_ (by simpa [did] using hS)
                    · simp [execOp, go_sem, e7]
                  | 4 =>
                    simp only [List.getElem?_toArray, List.getElem?_cons_zero, List.getElem?_cons_succ, Option.some.injEq] at ho
                    subst ho
                    have p3 : b 3 = true := hd ⟨3, .data⟩ (by simp) rfl
                    have e196 := (ev 3 196 rfl p3).trans vv3
                    have p1 : b 1 = true := hd ⟨1, .chain⟩ (by simp) rfl
                    rw [vv4]
                    refine does_call rfl (by intro c h; cases h) (f := 16) (args := #[.pointer (some ⟨r.a, 0, none⟩)]) ?_ ?_
                    · simp [go_sem, e196]
                    · (have hc := hS; rw [hb, p1] at hc; refine hc.bytes2.mono (fun e w' ⟨he, h⟩ => ⟨he, ?_⟩); simpa [did, p1] using h)
                  | 5 =>
                    simp only [List.getElem?_toArray, List.getElem?_cons_zero, List.getElem?_cons_succ, Option.some.injEq] at ho
                    subst ho
                    have p4 : b 4 = true := hd ⟨4, .data⟩ (by simp) rfl
                    have e197 := (ev 4 197 rfl p4).trans vv4
                    have hc := hS
                    rw [p4] at hc
                    rw [vv5]
                    refine does_value rfl (by intro c h; cases h) (w' := W) ?_ (by simpa [did] using hS)
                    · simp [execOp, go_sem, e197, hc.conv4]
                  | 6 =>
                    simp only [List.getElem?_toArray, List.getElem?_cons_zero, List.getElem?_cons_succ, Option.some.injEq] at ho
                    subst ho
                    have p2 : b 2 = true := hd ⟨2, .data⟩ (by simp) rfl
                    have p5 : b 5 = true := hd ⟨5, .data⟩ (by simp) rfl
                    have e195 := (ev 2 195 rfl p2).trans vv2
                    have e198 := (ev 5 198 rfl p5).trans vv5
                    rw [vv6]
                    refine does_value rfl (by intro c h; cases h) (w' := W) ?_ (by simpa [did] using hS)
                    · simp [execOp, go_sem, e195, e198]
                  | 7 =>
                    simp only [List.getElem?_toArray, List.getElem?_cons_zero, List.getElem?_cons_succ, Option.some.injEq] at ho
                    subst ho
                    have p6 : b 6 = true := hd ⟨6, .data⟩ (by simp) rfl
                    have e199 := (ev 6 199 rfl p6).trans vv6
                    rw [vv7]
                    refine does_value rfl (by intro c h; cases h) (w' := W) ?_ (by simpa [did] using hS)
                    · simp [execOp, go_sem, e199]
                  | 8 =>
                    simp only [List.getElem?_toArray, List.getElem?_cons_zero, List.getElem?_cons_succ, Option.some.injEq] at ho
                    subst ho
                    have p7 : b 7 = true := hd ⟨7, .guard⟩ (by simp) rfl
                    have e6 : a.tmps[6]?.getD undef = .pointer (some ⟨m.a, 0, none⟩) := (kp 6 (by kernel_rfl)).trans h6
                    rw [vv8]
                    refine does_value_g rfl (yl 7 200 false rfl p7 vv7) (by intro c h; cases h) (w' := W) ?_ (by simpa [did] using hS)
                    · simp [execOp, go_sem, e6]
                  | 9 =>
                    simp only [List.getElem?_toArray, List.getElem?_cons_zero, List.getElem?_cons_succ, Option.some.injEq] at ho
                    subst ho
                    have p8 : b 8 = true := hd ⟨8, .data⟩ (by simp) rfl
                    have p7 : b 7 = true := hd ⟨7, .guard⟩ (by simp) rfl
                    have e201 := (ev 8 201 rfl p8).trans vv8
                    rw [vv9]
                    refine does_call_g rfl (yl 7 200 false rfl p7 vv7) (by intro c h; cases h) (f := 17) (args := #[.pointer (some ⟨m.a, 0, none⟩)]) ?_ ?_
                    · simp [go_sem, e201]
                    · (refine (CK.free hS).mono (fun e w' ⟨he, h⟩ => ⟨he, ?_⟩); simpa [did] using h)
                  | 10 =>
                    simp only [List.getElem?_toArray, List.getElem?_cons_zero, List.getElem?_cons_succ, Option.some.injEq] at ho
                    subst ho
                    have p7 : b 7 = true := hd ⟨7, .guard⟩ (by simp) rfl
                    have e7 : a.tmps[7]?.getD undef = .pointer (some ⟨r.a, 0, none⟩) := (kp 7 (by kernel_rfl)).trans h7
                    rw [vv10]
                    refine does_value_g rfl (yl 7 200 false rfl p7 vv7) (by intro c h; cases h) (w' := W) ?_ (by simpa [did] using hS)
                    · simp [execOp, go_sem, e7]
                  | 11 =>
                    simp only [List.getElem?_toArray, List.getElem?_cons_zero, List.getElem?_cons_succ, Option.some.injEq] at ho
                    subst ho
                    have p10 : b 10 = true := hd ⟨10, .data⟩ (by simp) rfl
                    have p7 : b 7 = true := hd ⟨7, .guard⟩ (by simp) rfl
                    have e203 := (ev 10 203 rfl p10).trans vv10
                    rw [vv11]
                    refine does_call_g rfl (yl 7 200 false rfl p7 vv7) (by intro c h; cases h) (f := 18) (args := #[.pointer (some ⟨r.a, 0, none⟩)]) ?_ ?_
                    · simp [go_sem, e203]
                    · (refine (CK.rfree hS).mono (fun e w' ⟨he, h⟩ => ⟨he, ?_⟩); simpa [did] using h)
                  | 12 =>
                    simp only [List.getElem?_toArray, List.getElem?_cons_zero, List.getElem?_cons_succ, Option.some.injEq] at ho
                    subst ho
                    have p9 : b 9 = true := hd ⟨9, .data⟩ (by simp) rfl
                    have p11 : b 11 = true := hd ⟨11, .data⟩ (by simp) rfl
                    have p7 : b 7 = true := hd ⟨7, .guard⟩ (by simp) rfl
                    have e202 := (ev 9 202 rfl p9).trans vv9
                    have e204 := (ev 11 204 rfl p11).trans vv11
                    rw [vv12]
                    refine does_value_g rfl (yl 7 200 false rfl p7 vv7) (by intro c h; cases h) (w' := W) ?_ (by simpa [did] using hS)
                    · simp [execOp, go_sem, e202, e204]
                  | 13 =>
                    simp only [List.getElem?_toArray, List.getElem?_cons_zero, List.getElem?_cons_succ, Option.some.injEq] at ho
                    subst ho
                    have p7 : b 7 = true := hd ⟨7, .data⟩ (by simp) rfl
                    have p12 : b 12 = true := hd ⟨12, .data⟩ (by simp) rfl
                    have e200 := (ev 7 200 rfl p7).trans vv7
                    have e205 := (ev 12 205 rfl p12).trans vv12
                    rw [vv13]
                    refine does_value rfl (by intro c h; cases h) (w' := W) ?_ (by simpa [did] using hS)
                    · simp [execOp, go_sem, e200, e205]
                  | 14 =>
                    simp only [List.getElem?_toArray, List.getElem?_cons_zero, List.getElem?_cons_succ, Option.some.injEq] at ho
                    subst ho
                    have p13 : b 13 = true := hd ⟨13, .data⟩ (by simp) rfl
                    have e206 := (ev 13 206 rfl p13).trans vv13
                    rw [vv14]
                    refine does_value rfl (by intro c h; cases h) (w' := W) ?_ (by simpa [did] using hS)
                    · simp [execOp, go_sem, e206]
                  | 15 =>
                    simp only [List.getElem?_toArray, List.getElem?_cons_zero, List.getElem?_cons_succ, Option.some.injEq] at ho
                    subst ho
                    have p14 : b 14 = true := hd ⟨14, .guard⟩ (by simp) rfl
                    have e6 : a.tmps[6]?.getD undef = .pointer (some ⟨m.a, 0, none⟩) := (kp 6 (by kernel_rfl)).trans h6
                    rw [vv15]
                    refine does_value_g rfl (yl 14 207 false rfl p14 vv14) (by intro c h; cases h) (w' := W) ?_ (by simpa [did] using hS)
                    · simp [execOp, go_sem, e6]
                  | 16 =>
                    simp only [List.getElem?_toArray, List.getElem?_cons_zero, List.getElem?_cons_succ, Option.some.injEq] at ho
                    subst ho
                    have p15 : b 15 = true := hd ⟨15, .data⟩ (by simp) rfl
                    have p14 : b 14 = true := hd ⟨14, .guard⟩ (by simp) rfl
                    have e208 := (ev 15 208 rfl p15).trans vv15
                    rw [vv16]
                    refine does_call_g rfl (yl 14 207 false rfl p14 vv14) (by intro c h; cases h) (f := 19) (args := #[.pointer (some ⟨m.a, 0, none⟩)]) ?_ ?_
                    · simp [go_sem, e208]
                    · (refine (CK.size hS).mono (fun e w' ⟨he, h⟩ => ⟨he, ?_⟩); simpa [did] using h)
                  | 17 =>
                    simp only [List.getElem?_toArray, List.getElem?_cons_zero, List.getElem?_cons_succ, Option.some.injEq] at ho
                    subst ho
                    have p14 : b 14 = true := hd ⟨14, .guard⟩ (by simp) rfl
                    have e0 : a.tmps[0]?.getD undef = .int .i64 (n : Nat) := (kp 0 (by kernel_rfl)).trans h0
                    rw [vv17]
                    refine does_value_g rfl (yl 14 207 false rfl p14 vv14) (by intro c h; cases h) (w' := W) ?_ (by simpa [did] using hS)
                    · simp [execOp, go_sem, e0]
                  | 18 =>
                    simp only [List.getElem?_toArray, List.getElem?_cons_zero, List.getElem?_cons_succ, Option.some.injEq] at ho
                    subst ho
                    have p16 : b 16 = true := hd ⟨16, .data⟩ (by simp) rfl
                    have p17 : b 17 = true := hd ⟨17, .data⟩ (by simp) rfl
                    have p14 : b 14 = true := hd ⟨14, .guard⟩ (by simp) rfl
                    have e209 := (ev 16 209 rfl p16).trans vv16
                    have e210 := (ev 17 210 rfl p17).trans vv17
                    rw [vv18]
                    refine does_value_g rfl (yl 14 207 false rfl p14 vv14) (by intro c h; cases h) (w' := W) ?_ (by simpa [did] using hS)
                    · simp [execOp, go_sem, e209, e210]
                  | 19 =>
                    simp only [List.getElem?_toArray, List.getElem?_cons_zero, List.getElem?_cons_succ, Option.some.injEq] at ho
                    subst ho
                    have p14 : b 14 = true := hd ⟨14, .data⟩ (by simp) rfl
                    have p18 : b 18 = true := hd ⟨18, .data⟩ (by simp) rfl
                    have e207 := (ev 14 207 rfl p14).trans vv14
                    have e211 := (ev 18 211 rfl p18).trans vv18
                    rw [vv19]
                    refine does_value rfl (by intro c h; cases h) (w' := W) ?_ (by simpa [did] using hS)
                    · simp [execOp, go_sem, e207, e211]
                  | 20 =>
                    simp only [List.getElem?_toArray, List.getElem?_cons_zero, List.getElem?_cons_succ, Option.some.injEq] at ho
                    subst ho
                    have p19 : b 19 = true := hd ⟨19, .data⟩ (by simp) rfl
                    have e212 := (ev 19 212 rfl p19).trans vv19
                    rw [vv20]
                    refine does_value rfl (by intro c h; cases h) (w' := W) ?_ (by simpa [did] using hS)
                    · simp [execOp, go_sem, e212]
                  | 21 =>
                    simp only [List.getElem?_toArray, List.getElem?_cons_zero, List.getElem?_cons_succ, Option.some.injEq] at ho
                    subst ho
                    have p20 : b 20 = true := hd ⟨20, .guard⟩ (by simp) rfl
                    have e6 : a.tmps[6]?.getD undef = .pointer (some ⟨m.a, 0, none⟩) := (kp 6 (by kernel_rfl)).trans h6
                    rw [vv21]
                    refine does_value_g rfl (yl 20 213 false rfl p20 vv20) (by intro c h; cases h) (w' := W) ?_ (by simpa [did] using hS)
                    · simp [execOp, go_sem, e6]
                  | 22 =>
                    simp only [List.getElem?_toArray, List.getElem?_cons_zero, List.getElem?_cons_succ, Option.some.injEq] at ho
                    subst ho
                    have p20 : b 20 = true := hd ⟨20, .guard⟩ (by simp) rfl
                    have e9 : a.tmps[9]?.getD undef = .pointer (some ⟨oa, 0, none⟩) := (kp 9 (by kernel_rfl)).trans h9
                    rw [vv22]
                    refine does_value_g rfl (yl 20 213 false rfl p20 vv20) (by intro c h; cases h) (w' := W) ?_ (by simpa [did] using hS)
                    · simp [execOp, go_sem, e9]
                  | 23 =>
                    simp only [List.getElem?_toArray, List.getElem?_cons_zero, List.getElem?_cons_succ, Option.some.injEq] at ho
                    subst ho
                    have p22 : b 22 = true := hd ⟨22, .data⟩ (by simp) rfl
                    have p20 : b 20 = true := hd ⟨20, .guard⟩ (by simp) rfl
                    have e215 := (ev 22 215 rfl p22).trans vv22
                    rw [vv23]
                    refine does_value_g rfl (yl 20 213 false rfl p20 vv20) (by intro c h; cases h) (w' := W) ?_ (by simpa [did] using hS)
                    · simp [execOp, go_sem, e215, hS.oc]
                  | 24 =>
                    simp only [List.getElem?_toArray, List.getElem?_cons_zero, List.getElem?_cons_succ, Option.some.injEq] at ho
                    subst ho
                    have p21 : b 21 = true := hd ⟨21, .data⟩ (by simp) rfl
                    have p23 : b 23 = true := hd ⟨23, .data⟩ (by simp) rfl
                    have p20 : b 20 = true := hd ⟨20, .guard⟩ (by simp) rfl
                    have e214 := (ev 21 214 rfl p21).trans vv21
                    have e216 := (ev 23 216 rfl p23).trans vv23
                    rw [vv24]
                    refine does_call_g rfl (yl 20 213 false rfl p20 vv20) (by intro c h; cases h) (f := 20) (args := #[.pointer (some ⟨m.a, 0, none⟩), .int .i64 N]) ?_ ?_
                    · simp [go_sem, e214, e216]
                    · (refine (CK.unused hS hN).mono (fun e w' ⟨he, h⟩ => ⟨he, ?_⟩); simpa [did] using h)
                  | 25 =>
                    simp only [List.getElem?_toArray, List.getElem?_cons_zero, List.getElem?_cons_succ, Option.some.injEq] at ho
                    subst ho
                    have p20 : b 20 = true := hd ⟨20, .guard⟩ (by simp) rfl
                    have e10 : a.tmps[10]?.getD undef = .bool false := (kp 10 (by kernel_rfl)).trans h10
                    rw [vv25]
                    refine does_value_g rfl (yl 20 213 false rfl p20 vv20) (by intro c h; cases h) (w' := W) ?_ (by simpa [did] using hS)
                    · simp [execOp, go_sem, e10]
                  | 26 =>
                    simp only [List.getElem?_toArray, List.getElem?_cons_zero, List.getElem?_cons_succ, Option.some.injEq] at ho
                    subst ho
                    have p25 : b 25 = true := hd ⟨25, .data⟩ (by simp) rfl
                    have p20 : b 20 = true := hd ⟨20, .guard⟩ (by simp) rfl
                    have e218 := (ev 25 218 rfl p25).trans vv25
                    rw [vv26]
                    refine does_value_g rfl (yl 20 213 false rfl p20 vv20) (by intro c h; cases h) (w' := W) ?_ (by simpa [did] using hS)
                    · simp [execOp, go_sem, e218]
                  | 27 =>
                    simp only [List.getElem?_toArray, List.getElem?_cons_zero, List.getElem?_cons_succ, Option.some.injEq] at ho
                    subst ho
                    have p26 : b 26 = true := hd ⟨26, .guard⟩ (by simp) rfl
                    exact does_pass rfl (yl 26 219 false rfl p26 vv26) (by decide) vv27 (by simpa [did] using hS)
                  | 28 =>
                    simp only [List.getElem?_toArray, List.getElem?_cons_zero, List.getElem?_cons_succ, Option.some.injEq] at ho
                    subst ho
                    have p27 : b 27 = true := hd ⟨27, .data⟩ (by simp) rfl
                    have p26 : b 26 = true := hd ⟨26, .guard⟩ (by simp) rfl
                    exact does_pass rfl (yl 26 219 false rfl p26 vv26) (by decide) vv28 (by simpa [did] using hS)
                  | 29 =>
                    simp only [List.getElem?_toArray, List.getElem?_cons_zero, List.getElem?_cons_succ, Option.some.injEq] at ho
                    subst ho
                    have p28 : b 28 = true := hd ⟨28, .data⟩ (by simp) rfl
                    have p26 : b 26 = true := hd ⟨26, .guard⟩ (by simp) rfl
                    exact does_pass rfl (yl 26 219 false rfl p26 vv26) (by decide) vv29 (by simpa [did] using hS)
                  | 30 =>
                    simp only [List.getElem?_toArray, List.getElem?_cons_zero, List.getElem?_cons_succ, Option.some.injEq] at ho
                    subst ho
                    have p29 : b 29 = true := hd ⟨29, .data⟩ (by simp) rfl
                    have p26 : b 26 = true := hd ⟨26, .guard⟩ (by simp) rfl
                    exact does_pass rfl (yl 26 219 false rfl p26 vv26) (by decide) vv30 (by simpa [did] using hS)
                  | 31 =>
                    simp only [List.getElem?_toArray, List.getElem?_cons_zero, List.getElem?_cons_succ, Option.some.injEq] at ho
                    subst ho
                    have p26 : b 26 = true := hd ⟨26, .guard⟩ (by simp) rfl
                    exact does_pass rfl (yl 26 219 false rfl p26 vv26) (by decide) vv31 (by simpa [did] using hS)
                  | 32 =>
                    simp only [List.getElem?_toArray, List.getElem?_cons_zero, List.getElem?_cons_succ, Option.some.injEq] at ho
                    subst ho
                    have p31 : b 31 = true := hd ⟨31, .data⟩ (by simp) rfl
                    have p26 : b 26 = true := hd ⟨26, .guard⟩ (by simp) rfl
                    exact does_pass rfl (yl 26 219 false rfl p26 vv26) (by decide) vv32 (by simpa [did] using hS)
                  | 33 =>
                    simp only [List.getElem?_toArray, List.getElem?_cons_zero, List.getElem?_cons_succ, Option.some.injEq] at ho
                    subst ho
                    have p30 : b 30 = true := hd ⟨30, .data⟩ (by simp) rfl
                    have p32 : b 32 = true := hd ⟨32, .data⟩ (by simp) rfl
                    have p26 : b 26 = true := hd ⟨26, .guard⟩ (by simp) rfl
                    exact does_pass rfl (yl 26 219 false rfl p26 vv26) (by decide) vv33 (by simpa [did] using hS)
                  | 34 =>
                    simp only [List.getElem?_toArray, List.getElem?_cons_zero, List.getElem?_cons_succ, Option.some.injEq] at ho
                    subst ho
                    have p33 : b 33 = true := hd ⟨33, .data⟩ (by simp) rfl
                    have p26 : b 26 = true := hd ⟨26, .guard⟩ (by simp) rfl
                    exact does_pass rfl (yl 26 219 false rfl p26 vv26) (by decide) vv34 (by simpa [did] using hS)
                  | 35 =>
                    simp only [List.getElem?_toArray, List.getElem?_cons_zero, List.getElem?_cons_succ, Option.some.injEq] at ho
                    subst ho
                    have p26 : b 26 = true := hd ⟨26, .data⟩ (by simp) rfl
                    have p34 : b 34 = true := hd ⟨34, .data⟩ (by simp) rfl
                    have p20 : b 20 = true := hd ⟨20, .guard⟩ (by simp) rfl
                    have e219 := (ev 26 219 rfl p26).trans vv26
                    rw [vv35]
                    refine does_value_g rfl (yl 20 213 false rfl p20 vv20) (by intro c h; cases h) (w' := W) ?_ (by simpa [did] using hS)
                    · simp [execOp, go_sem, e219]
                  | 36 =>
                    simp only [List.getElem?_toArray, List.getElem?_cons_zero, List.getElem?_cons_succ, Option.some.injEq] at ho
                    subst ho
                    have p24 : b 24 = true := hd ⟨24, .data⟩ (by simp) rfl
                    have p35 : b 35 = true := hd ⟨35, .data⟩ (by simp) rfl
                    have p20 : b 20 = true := hd ⟨20, .guard⟩ (by simp) rfl
                    have e217 := (ev 24 217 rfl p24).trans vv24
                    have e228 := (ev 35 228 rfl p35).trans vv35
                    rw [vv36]
                    refine does_value_g rfl (yl 20 213 false rfl p20 vv20) (by intro c h; cases h) (w' := W) ?_ (by simpa [did] using hS)
                    · simp [execOp, go_sem, e217, e228]
                  | 37 =>
                    simp only [List.getElem?_toArray, List.getElem?_cons_zero, List.getElem?_cons_succ, Option.some.injEq] at ho
                    subst ho
                    have p20 : b 20 = true := hd ⟨20, .data⟩ (by simp) rfl
                    have p36 : b 36 = true := hd ⟨36, .data⟩ (by simp) rfl
                    have e213 := (ev 20 213 rfl p20).trans vv20
                    have e229 := (ev 36 229 rfl p36).trans vv36
                    rw [vv37]
                    refine does_value rfl (by intro c h; cases h) (w' := W) ?_ (by simpa [did] using hS)
                    · simp [execOp, go_sem, e213, e229]
                  | k + 38 => simp at ho
                · intro b W' hS _
                  subst hLe
                  exact hend W' hS.bi
            by_cases hk0 : kd = 0
            · subst hk0
              by_cases hn0 : n = 0
              · have ct := take_none HJ1.out hn0
                have hnB : ((n : Int) == 0) = true := by simp; omega
                have HN0 : Hid (n = 0) := hn0
                clear hn0
                go_wp2_with (first
                  | (go_at_call 8; refine ct.mono ?_; rintro e W2 ⟨rfl, H2⟩; have cr := rrun_out 1 r W2 H2.out.1.ra (by rw [H2.out.1.rn]; have := HN0.out; omega); rw [hra] at cr; clear ct)
                  | (go_at_call 9; refine Calls_on cr ?_; clear cr))
                refine hR _ _ _ m r rfl rfl (rfl) (by rw [hra]; rfl) rfl rfl H2.out.1 (oc_keep oc1 H2.out.2 hom) ?_
                intro W' hB'
                have HB' : Hid (BI w.heap.size w W' m r n) := hB'
                clear hB' hR
                simp only [checkOut, putAll, List.setIfInBounds_toArray, List.set_cons_zero, List.set_cons_succ]
                go_wp2
                exact ⟨⟨i + 1, m, r, by omega, by omega, by go_num, rfl, hra, HB'.out⟩, by simp [intOf]; omega⟩
              · have hn0' : 0 < n := by omega
                have hnB : ((n : Int) == 0) = false := by simp; omega
                have ct := take_half HJ1.out
                go_wp2_with (first
                  | (go_at_call 8; refine ct.mono ?_; rintro e W2 ⟨x, y, rfl, H2⟩; have cr := rrun_half H2.out.1.choose_spec (by omega) (by omega) (by omega); rw [hra] at cr; clear ct)
                  | (go_at_call 9; refine cr.mono ?_; rintro e W3 ⟨rfl, H3⟩; clear cr))
                obtain ⟨m2, r2, ma2, rra2, hb2, ho2⟩ := H3.out
                have rra3 := rra2
                refine hR _ _ _ m2 r2 rfl rfl (by rw [ma2]; rfl) (by rw [rra3]; rfl) rfl rfl hb2 (oc_keep (oc_keep oc1 H2.out.2 hom) ho2 hor) ?_
                intro W' hB'
                have HB' : Hid (BI w.heap.size w W' m2 r2 n) := hB'
                clear hB' hR
                simp only [checkOut, putAll, List.setIfInBounds_toArray, List.set_cons_zero, List.set_cons_succ]
                go_wp2
                exact ⟨⟨i + 1, m2, r2, by omega, by omega, by go_num, by rw [ma2], rra3, HB'.out⟩, by simp [intOf]; omega⟩
            · by_cases hk1 : kd = 1
              · subst hk1
                by_cases hNk : 1 ≤ N ∧ N ≤ n
                · exact absurd hNk.1 (by omega)
                · have ct := run_out N m W1 HJ1.out.mi.map (by rw [HJ1.out.mn]; omega)
                  have cr := rrun_out N r W1 HJ1.out.ra (by rw [HJ1.out.rn]; omega)
                  rw [hra] at cr
                  go_wp2_with (first
                    | (go_at_call 10; refine Calls_on ct ?_; clear ct)
                    | (go_at_call 9; refine Calls_on cr ?_; clear cr))
                  refine hR _ _ _ m r rfl rfl (rfl) (by rw [hra]; rfl) rfl rfl HJ1.out oc1 ?_
                  intro W' hB'
                  have HB' : Hid (BI w.heap.size w W' m r n) := hB'
                  clear hB' hR
                  simp only [checkOut, putAll, List.setIfInBounds_toArray, List.set_cons_zero, List.set_cons_succ]
                  go_wp2
                  exact ⟨⟨i + 1, m, r, by omega, by omega, by go_num, rfl, hra, HB'.out⟩, by simp [intOf]; omega⟩
              · by_cases hk2 : kd = 2
                · subst hk2
                  have hmf : ∀ (fn : Fn) (first cap : Array Value) (w : World), (Instr.makeFunc fn first cap).run Tryd.prog w = .ok (.func fn first cap) w := fun _ _ _ _ => rfl
                  have ct : ∀ k, Calls Tryd.prog 12 #[.pointer (some ⟨m.a, 0, none⟩), .int .i64 N] (W1.drewN k) fun e w' => e = .returned (.int .i64 22) ∧ w' = W1.drewN k := fun k => set_out N m (W1.drewN k) (HJ1.out.mi.map.drewN k) (by rw [HJ1.out.mn]; exact hN)
                  have HK : ∀ k, BI w.heap.size w (W1.drewN k) m r n := fun k => HJ1.out.still ⟨k, rfl⟩
                  go_wp2_with fail
                  go_quiet (fail)
                  go_wp2_with (go_at_call 12; refine Calls_on (ct _) ?_; clear ct)
                  refine hR _ _ _ m r rfl rfl (rfl) (by rw [hra]; rfl) rfl rfl (HK _) oc1 ?_
                  intro W' hB'
                  have HB' : Hid (BI w.heap.size w W' m r n) := hB'
                  clear hB' hR
                  simp only [checkOut, putAll, List.setIfInBounds_toArray, List.set_cons_zero, List.set_cons_succ]
                  go_wp2
                  exact ⟨⟨i + 1, m, r, by omega, by omega, by go_num, rfl, hra, HB'.out⟩, by simp [intOf]; omega⟩
                · by_cases hk3 : kd = 3
                  · subst hk3
                    have hmf : ∀ (fn : Fn) (first cap : Array Value) (w : World), (Instr.makeFunc fn first cap).run Tryd.prog w = .ok (.func fn first cap) w := fun _ _ _ _ => rfl
                    have ct : ∀ k, Calls Tryd.prog 11 #[.pointer (some ⟨m.a, 0, none⟩), .int .i64 N] (W1.drewN k) fun e w' => e = .returned (.int .i64 22) ∧ w' = W1.drewN k := fun k => give_out N m (W1.drewN k) (HJ1.out.mi.map.drewN k) (by rw [HJ1.out.mn]; exact hN)
                    have HK : ∀ k, BI w.heap.size w (W1.drewN k) m r n := fun k => HJ1.out.still ⟨k, rfl⟩
                    go_wp2_with fail
                    go_quiet (fail)
                    go_wp2_with (go_at_call 11; refine Calls_on (ct _) ?_; clear ct)
                    refine hR _ _ _ m r rfl rfl (rfl) (by rw [hra]; rfl) rfl rfl (HK _) oc1 ?_
                    intro W' hB'
                    have HB' : Hid (BI w.heap.size w W' m r n) := hB'
                    clear hB' hR
                    simp only [checkOut, putAll, List.setIfInBounds_toArray, List.set_cons_zero, List.set_cons_succ]
                    go_wp2
                    exact ⟨⟨i + 1, m, r, by omega, by omega, by go_num, rfl, hra, HB'.out⟩, by simp [intOf]; omega⟩
                  · have hkb0 : (kd == 0) = false := by simp [hk0]
                    have hkb1 : (kd == 1) = false := by simp [hk1]
                    have hkb2 : (kd == 2) = false := by simp [hk2]
                    have hkb3 : (kd == 3) = false := by simp [hk3]
                    have cby := bytes_any m W1 HJ1.out.mi.map
                    go_wp2_with (go_at_call 14; refine cby.mono ?_; rintro e W2 ⟨bs, rfl, hof, hblk, hB2⟩; have H2 : Hid (BytesOf m.n (used m.ws) bs ∧ W2.heap[W1.heap.size]? = some (.cells (bs.map u8v).toArray 5 (0, 0)) ∧ Below W1.heap.size W1 W2) := ⟨hof, hblk, hB2⟩; clear hof hblk hB2 cby; refine Stop.out ?_)
                    refine Stop.mk ?_
                    have HJ2 : Hid (BI w.heap.size w W2 m r n) := HJ1.out.beside H2.out.2.2
                    have cl := load_bi HJ2.out (some ⟨W1.heap.size, 0, none⟩) bs bs.length (Bytes.block H2.out.2.1) H2.out.1
                    go_wp2_with (go_at_call 13; refine cl.mono ?_; rintro e W3 ⟨xa, rfl, H3⟩; clear cl; refine Stop.out ?_)
                    refine Stop.mk ?_
                    obtain ⟨x, hxa, hbx, hB3, hx1, hx2⟩ := H3.out
                    have HJ3 : Hid (BI w.heap.size w W3 x r n ∧ Below W2.heap.size W2 W3 ∧ W2.heap.size ≤ x.a ∧ W2.heap.size ≤ x.b ∧ MI w.heap.size w W3 m) := ⟨hbx, hB3, hx1, hx2, HJ2.out.mi.beside hB3⟩
                    subst hxa
                    clear hbx hB3 hx1 hx2 H3
                    have cc := copy_any m W3 HJ3.out.2.2.2.2.map HJ3.out.1.mi.tab.lt
                    go_wp2_with (go_at_call 15; refine cc.mono ?_; rintro e W4 ⟨y, rfl, hy1, hy2, hy3, hy4, hy5, hB4⟩; have H4 : Hid (y.n = m.n ∧ y.ws = m.ws ∧ MapAt W4 y ∧ W3.heap.size ≤ y.a ∧ W3.heap.size ≤ y.b ∧ Below W3.heap.size W3 W4) := ⟨hy1, hy2, hy3, hy4, hy5, hB4⟩; clear hy1 hy2 hy3 hy4 hy5 hB4 cc; refine Stop.out ?_)
                    refine Stop.mk ?_
                    have ct := take_mi (HJ3.out.2.2.2.2.beside H4.out.2.2.2.2.2)
                    have ct2 : Calls Tryd.prog 8 #[.pointer (some ⟨m.a, 0, none⟩)] W4 fun e w' => (∃ a1 a2, e = .returned (.tuple #[.int .i64 a1, .int .i64 a2])) ∧ Hid (Only (· = m.b) W4 w') := ct.mono (by
                      rintro e w' ⟨m', ⟨rr, _, hor⟩, _, hw, _⟩
                      refine ⟨?_, hw⟩
                      obtain ⟨_, he, _⟩ | ⟨_, he, _⟩ := hor
                      · exact ⟨_, _, he⟩
                      · exact ⟨_, _, he⟩)
                    clear ct
                    have hmb2 : m.b < W2.heap.size := HJ2.out.mi.map.row.lt
                    go_wp2_with (go_at_call 8; refine ct2.mono ?_; rintro e W5 ⟨⟨z1, z2, rfl⟩, H5⟩; clear ct2)
                    have HC : Hid (∀ s0, W5.heap.size = s0 → CL w.heap.size w x y r n oa N s0 false false W5.drew) := by
                      intro s0 hs0
                      obtain ⟨hbx, hB3, hx1, hx2, hm3⟩ := HJ3.out
                      obtain ⟨hy1, hy2, hy3, hy4, hy5, hB4⟩ := H4.out
                      have ho := H5.out
                      have hxb := hbx.beside hB4
                      have hs3 := hB3.size
                      have hbi : BI w.heap.size w W5 x r n := by
                        refine ⟨hxb.mi.only ho (by omega) (by omega) (fun i hi => by have := HJ2.out.mi.hb; omega), hxb.ra.keep ho ?_ ?_, hxb.hra, hxb.hrb, hxb.mn, hxb.rn, hxb.same⟩
                        · exact HJ2.out.apart.1
                        · exact HJ2.out.apart.2.1
                      refine ⟨hbi.still ⟨1, rfl⟩, (hy3.keep ho (by omega) (by omega)).drewN 1, hy1.trans HJ2.out.mn, fun i => by rw [hy2, HJ2.out.same, hbx.same], ?_, fun _ => hs0, (fun _ h => by cases h), (fun h => by cases h), (fun h => by cases h)⟩
                      have oc2 := (H2.out.2.2.cell (p := ⟨oa, 1, none⟩) (cell_lt oc1)).trans oc1
                      have oc3 := (hB3.cell (p := ⟨oa, 1, none⟩) (cell_lt oc2)).trans oc2
                      have oc4 := (hB4.cell (p := ⟨oa, 1, none⟩) (cell_lt oc3)).trans oc3
                      exact oc_keep (S := (· = m.b)) oc4 ho.drew hom
                    obtain ⟨s0, hs0⟩ : ∃ s0, W5.heap.size = s0 := ⟨_, rfl⟩
                    obtain ⟨LL, hLe⟩ : ∃ LL : List (Option Tmp × Value), LL = [(some 96, .pointer (some ⟨y.a, 0, none⟩)), (some 97, .bool false), (some 98, .bool false), (some 99, .pointer (some ⟨y.a, 0, none⟩)), (some 100, .slice (some ⟨s0, 0, none⟩) (bsOf x).length (bsOf x).length), (some 101, .string (strOf (bsOf x))), (some 102, .pointer (some ⟨x.a, 0, none⟩)), (some 103, .slice (some ⟨s0 + 1, 0, none⟩) (bsOf x).length (bsOf x).length), (some 104, .string (strOf (bsOf x))), (some 105, .bool false), (some 106, .bool false)] := ⟨_, rfl⟩
                    have vv0 : vals LL 0 = .pointer (some ⟨y.a, 0, none⟩) := by rw [hLe]; rfl
                    have vv1 : vals LL 1 = .bool false := by rw [hLe]; rfl
                    have vv2 : vals LL 2 = .bool false := by rw [hLe]; rfl
                    have vv3 : vals LL 3 = .pointer (some ⟨y.a, 0, none⟩) := by rw [hLe]; rfl
                    have vv4 : vals LL 4 = .slice (some ⟨s0, 0, none⟩) (bsOf x).length (bsOf x).length := by rw [hLe]; rfl
                    have vv5 : vals LL 5 = .string (strOf (bsOf x)) := by rw [hLe]; rfl
                    have vv6 : vals LL 6 = .pointer (some ⟨x.a, 0, none⟩) := by rw [hLe]; rfl
                    have vv7 : vals LL 7 = .slice (some ⟨s0 + 1, 0, none⟩) (bsOf x).length (bsOf x).length := by rw [hLe]; rfl
                    have vv8 : vals LL 8 = .string (strOf (bsOf x)) := by rw [hLe]; rfl
                    have vv9 : vals LL 9 = .bool false := by rw [hLe]; rfl
                    have vv10 : vals LL 10 = .bool false := by rw [hLe]; rfl
                    refine region_laid hmix (by kernel_rfl) 232 rfl (by kernel_rfl) LL (by rw [hLe]; rfl) (fun b W => CL w.heap.size w x y r n oa N s0 (b 4) (b 7) W) (HC.out s0 hs0) ?_ ?_
                    · intro b W i o a hS hcl ho hb hd ev kp yl
                      match i with
                      | 0 =>
                        simp only [List.getElem?_toArray, List.getElem?_cons_zero, Option.some.injEq] at ho
                        subst ho
                        have e24 : a.tmps[24]?.getD undef = .pointer (some ⟨y.a, 0, none⟩) := kp 24 (by kernel_rfl)
                        rw [vv0]
                        refine does_value rfl (by intro c h; cases h) (w' := W) ?_ (by simpa [did] using hS)
                        · simp [execOp, go_sem, e24]
                      | 1 =>
                        simp only [List.getElem?_toArray, List.getElem?_cons_zero, List.getElem?_cons_succ, Option.some.injEq] at ho
                        subst ho
                        have p0 : b 0 = true := hd ⟨0, .data⟩ (by simp) rfl
                        have e96 := (ev 0 96 rfl p0).trans vv0
                        rw [vv1]
                        refine does_value rfl (by intro c h; cases h) (w' := W) ?_ (by simpa [did] using hS)
                        · simp [execOp, go_sem, e96]
                      | 2 =>
                        simp only [List.getElem?_toArray, List.getElem?_cons_zero, List.getElem?_cons_succ, Option.some.injEq] at ho
                        subst ho
                        have p1 : b 1 = true := hd ⟨1, .data⟩ (by simp) rfl
                        have e97 := (ev 1 97 rfl p1).trans vv1
                        rw [vv2]
                        refine does_value rfl (by intro c h; cases h) (w' := W) ?_ (by simpa [did] using hS)
                        · simp [execOp, go_sem, e97]
                      | 3 =>
                        simp only [List.getElem?_toArray, List.getElem?_cons_zero, List.getElem?_cons_succ, Option.some.injEq] at ho
                        subst ho
                        have p2 : b 2 = true := hd ⟨2, .guard⟩ (by simp) rfl
                        have e24 : a.tmps[24]?.getD undef = .pointer (some ⟨y.a, 0, none⟩) := kp 24 (by kernel_rfl)
                        rw [vv3]
                        refine does_value_g rfl (yl 2 98 false rfl p2 vv2) (by intro c h; cases h) (w' := W) ?_ (by simpa [did] using hS)
                        · simp [execOp, go_sem, e24]
                      | 4 =>
                        simp only [List.getElem?_toArray, List.getElem?_cons_zero, List.getElem?_cons_succ, Option.some.injEq] at ho
                        subst ho
                        have p3 : b 3 = true := hd ⟨3, .data⟩ (by simp) rfl
                        have p2 : b 2 = true := hd ⟨2, .guard⟩ (by simp) rfl
                        have e99 := (ev 3 99 rfl p3).trans vv3
                        have h7 : b 7 = false := by cases h : b 7; rfl; rw [hcl 7 _ rfl h ⟨4, .chain⟩ (by simp) rfl] at hb; cases hb
                        rw [vv4]
                        refine does_call_g rfl (yl 2 98 false rfl p2 vv2) (by intro c h; cases h) (f := 14) (args := #[.pointer (some ⟨y.a, 0, none⟩)]) ?_ ?_
                        · simp [go_sem, e99]
                        · (have hc := hS; rw [hb, h7] at hc; refine hc.bytes1.mono (fun e w' ⟨he, h⟩ => ⟨he, ?_⟩); simpa [did, h7] using h)
                      | 5 =>
                        simp only [List.getElem?_toArray, List.getElem?_cons_zero, List.getElem?_cons_succ, Option.some.injEq] at ho
                        subst ho
                        have p4 : b 4 = true := hd ⟨4, .data⟩ (by simp) rfl
                        have p2 : b 2 = true := hd ⟨2, .guard⟩ (by simp) rfl
                        have e100 := (ev 4 100 rfl p4).trans vv4
                        have hc := hS
                        rw [p4] at hc
                        rw [vv5]
                        refine does_value_g rfl (yl 2 98 false rfl p2 vv2) (by intro c h; cases h) (w' := W) ?_ (by simpa [did] using hS)
                        · simp [execOp, go_sem, e100, hc.conv1]
                      | 6 =>
                        simp only [List.getElem?_toArray, List.getElem?_cons_zero, List.getElem?_cons_succ, Option.some.injEq] at ho
                        subst ho
                        have p2 : b 2 = true := hd ⟨2, .guard⟩ (by simp) rfl
                        have e22 : a.tmps[22]?.getD undef = .pointer (some ⟨x.a, 0, none⟩) := kp 22 (by kernel_rfl)
                        rw [vv6]
                        refine does_value_g rfl (yl 2 98 false rfl p2 vv2) (by intro c h; cases h) (w' := W) ?_ (by simpa [did] using hS)
                        · simp [execOp, go_sem, e22]
                      | 7 =>
                        simp only [List.getElem?_toArray, List.getElem?_cons_zero, List.getElem?_cons_succ, Option.some.injEq] at ho
                        subst ho
                        have p6 : b 6 = true := hd ⟨6, .data⟩ (by simp) rfl
                        have p2 : b 2 = true := hd ⟨2, .guard⟩ (by simp) rfl
                        have e102 := (ev 6 102 rfl p6).trans vv6
                        have p4 : b 4 = true := hd ⟨4, .chain⟩ (by simp) rfl
                        rw [vv7]
                        refine does_call_g rfl (yl 2 98 false rfl p2 vv2) (by intro c h; cases h) (f := 14) (args := #[.pointer (some ⟨x.a, 0, none⟩)]) ?_ ?_
                        · simp [go_sem, e102]
                        · (have hc := hS; rw [hb, p4] at hc; refine hc.bytes2.mono (fun e w' ⟨he, h⟩ => ⟨he, ?_⟩); simpa [did, p4] using h)
                      | 8 =>
                        simp only [List.getElem?_toArray, List.getElem?_cons_zero, List.getElem?_cons_succ, Option.some.injEq] at ho
                        subst ho
                        have p7 : b 7 = true := hd ⟨7, .data⟩ (by simp) rfl
                        have p2 : b 2 = true := hd ⟨2, .guard⟩ (by simp) rfl
                        have e103 := (ev 7 103 rfl p7).trans vv7
                        have hc := hS
                        rw [p7] at hc
                        rw [vv8]
                        refine does_value_g rfl (yl 2 98 false rfl p2 vv2) (by intro c h; cases h) (w' := W) ?_ (by simpa [did] using hS)
                        · simp [execOp, go_sem, e103, hc.conv4]
                      | 9 =>
                        simp only [List.getElem?_toArray, List.getElem?_cons_zero, List.getElem?_cons_succ, Option.some.injEq] at ho
                        subst ho
                        have p5 : b 5 = true := hd ⟨5, .data⟩ (by simp) rfl
                        have p8 : b 8 = true := hd ⟨8, .data⟩ (by simp) rfl
                        have p2 : b 2 = true := hd ⟨2, .guard⟩ (by simp) rfl
                        have e101 := (ev 5 101 rfl p5).trans vv5
                        have e104 := (ev 8 104 rfl p8).trans vv8
                        rw [vv9]
                        refine does_value_g rfl (yl 2 98 false rfl p2 vv2) (by intro c h; cases h) (w' := W) ?_ (by simpa [did] using hS)
                        · simp [execOp, go_sem, e101, e104]
                      | 10 =>
                        simp only [List.getElem?_toArray, List.getElem?_cons_zero, List.getElem?_cons_succ, Option.some.injEq] at ho
                        subst ho
                        have p2 : b 2 = true := hd ⟨2, .data⟩ (by simp) rfl
                        have p9 : b 9 = true := hd ⟨9, .data⟩ (by simp) rfl
                        have e98 := (ev 2 98 rfl p2).trans vv2
                        have e105 := (ev 9 105 rfl p9).trans vv9
                        rw [vv10]
                        refine does_value rfl (by intro c h; cases h) (w' := W) ?_ (by simpa [did] using hS)
                        · simp [execOp, go_sem, e98, e105]
                      | k + 11 => simp at ho
                    · intro b W6 hS _
                      subst hLe
                      have H6 : Hid (BI w.heap.size w W6 x r n ∧ W6.cell? ⟨oa, 1, none⟩ = some (.int .i64 N)) := ⟨hS.bi, hS.oc⟩
                      clear hS HC
                      simp only [putAll, List.setIfInBounds_toArray, List.set_cons_zero, List.set_cons_succ]
                      go_wp2_with fail
                      refine hR _ _ _ x r rfl rfl (rfl) (by rw [hra]; rfl) rfl rfl H6.out.1 H6.out.2 ?_
                      intro W' hB'
                      have HB' : Hid (BI w.heap.size w W' x r n) := hB'
                      clear hB' hR
                      simp only [checkOut, putAll, List.setIfInBounds_toArray, List.set_cons_zero, List.set_cons_succ]
                      go_wp2
                      exact ⟨⟨i + 1, x, r, by omega, by omega, by go_num, rfl, hra, HB'.out⟩, by simp [intOf]; omega⟩
        · have hN1 : 0 ≤ N := by omega
          have hNd : decide (N < (n : Int)) = false := by simp; omega
          as_aux_lemma =>
            go_upto_region 24 with fail
            rename_i K1 a1 K0 a0
            obtain ⟨W1, hW1⟩ : ∃ W1, W1 = wr.alloc (.cells #[.int .i64 kd, .int .i64 N] 31) := ⟨_, rfl⟩
            obtain ⟨oa, hoa⟩ : ∃ oa, wr.heap.size = oa := ⟨_, rfl⟩
            rw [← hW1, hoa]
            have HJ1 : Hid (BI w.heap.size w W1 m r n) := by rw [hW1]; exact HJ.out.beside (below_new wr _).out
            have oc0 : W1.cell? ⟨oa, 0, none⟩ = some (.int .i64 kd) := by rw [hW1, ← hoa]; exact cellOf (heap_alloc_new wr _) 0
            have oc1 : W1.cell? ⟨oa, 1, none⟩ = some (.int .i64 N) := by rw [hW1, ← hoa]; exact cellOf (heap_alloc_new wr _) 1
            have hom : ¬ oa = m.b := by have := HJ.out.mi.map.row.lt; omega
            have hor : ¬ oa = r.b := by have := block_lt HJ.out.ra.row; omega
            clear hW1 hoa HJ c1 c2
            refine get_ops a1 (fun ops => ∀ (Q : Exit → Act → World → Prop) (A : Array Value) (W : World) (m : MS) (r : RS), A.size = 232 → A.getD 0 undef = .int .i64 (n : Nat) → A.getD 6 undef = .pointer (some ⟨m.a, 0, none⟩) → A.getD 7 undef = .pointer (some ⟨r.a, 0, none⟩) → A.getD 9 undef = .pointer (some ⟨oa, 0, none⟩) → A.getD 10 undef = .bool false → BI w.heap.size w W m r n → W.cell? ⟨oa, 1, none⟩ = some (.int .i64 N) → (∀ W', BI w.heap.size w W' m r n → Q .normal ⟨putAll A (checkOut m r n oa N W.heap.size), []⟩ W') → (Code.region 52 ops true).wp Tryd.prog Q ⟨A, []⟩ W) ?_ _ (fun hR => ?_)
            · clear a0 a1 oc0 oc1 HJ1
              as_aux_lemma =>
                intro Q A W m r hsz h0 h6 h7 h9 h10 hB hcell hend
                obtain ⟨s0, hs0⟩ : ∃ s0, W.heap.size = s0 := ⟨_, rfl⟩
                rw [hs0] at hend
                obtain ⟨LL, hLe⟩ : ∃ LL : List (Option Tmp × Value), LL = checkOut m r n oa N s0 := ⟨_, rfl⟩
                have vv0 : vals LL 0 = .pointer (some ⟨m.a, 0, none⟩) := by rw [hLe]; rfl
                have vv1 : vals LL 1 = .slice (some ⟨s0, 0, none⟩) (bsOf m).length (bsOf m).length := by rw [hLe]; rfl
                have vv2 : vals LL 2 = .string (strOf (bsOf m)) := by rw [hLe]; rfl
                have vv3 : vals LL 3 = .pointer (some ⟨r.a, 0, none⟩) := by rw [hLe]; rfl
                have vv4 : vals LL 4 = .slice (some ⟨s0 + 1, 0, none⟩) (bsOf m).length (bsOf m).length := by rw [hLe]; rfl
                have vv5 : vals LL 5 = .string (strOf (bsOf m)) := by rw [hLe]; rfl
                have vv6 : vals LL 6 = .bool false := by rw [hLe]; rfl
                have vv7 : vals LL 7 = .bool false := by rw [hLe]; rfl
                have vv8 : vals LL 8 = .pointer (some ⟨m.a, 0, none⟩) := by rw [hLe]; rfl
                have vv9 : vals LL 9 = .int .i64 (frOf m : Nat) := by rw [hLe]; rfl
                have vv10 : vals LL 10 = .pointer (some ⟨r.a, 0, none⟩) := by rw [hLe]; rfl
                have vv11 : vals LL 11 = .int .i64 (frOf m : Nat) := by rw [hLe]; rfl
                have vv12 : vals LL 12 = .bool false := by rw [hLe]; rfl
                have vv13 : vals LL 13 = .bool false := by rw [hLe]; rfl
                have vv14 : vals LL 14 = .bool false := by rw [hLe]; rfl
                have vv15 : vals LL 15 = .pointer (some ⟨m.a, 0, none⟩) := by rw [hLe]; rfl
                have vv16 : vals LL 16 = .int .i64 (n : Nat) := by rw [hLe]; rfl
                have vv17 : vals LL 17 = .int .i64 (n : Nat) := by rw [hLe]; rfl
                have vv18 : vals LL 18 = .bool false := by rw [hLe]; rfl
                have vv19 : vals LL 19 = .bool false := by rw [hLe]; rfl
                have vv20 : vals LL 20 = .bool false := by rw [hLe]; rfl
                have vv21 : vals LL 21 = .pointer (some ⟨m.a, 0, none⟩) := by rw [hLe]; rfl
                have vv22 : vals LL 22 = .pointer (some ⟨oa, 1, none⟩) := by rw [hLe]; rfl
                have vv23 : vals LL 23 = .int .i64 N := by rw [hLe]; rfl
                have vv24 : vals LL 24 = .bool false := by rw [hLe]; rfl
                have vv25 : vals LL 25 = .bool false := by rw [hLe]; rfl
                have vv26 : vals LL 26 = .bool false := by rw [hLe]; rfl
                have vv27 : vals LL 27 = undef := by rw [hLe]; rfl
                have vv28 : vals LL 28 = undef := by rw [hLe]; rfl
                have vv29 : vals LL 29 = undef := by rw [hLe]; rfl
                have vv30 : vals LL 30 = undef := by rw [hLe]; rfl
                have vv31 : vals LL 31 = undef := by rw [hLe]; rfl
                have vv32 : vals LL 32 = undef := by rw [hLe]; rfl
                have vv33 : vals LL 33 = undef := by rw [hLe]; rfl
                have vv34 : vals LL 34 = undef := by rw [hLe]; rfl
                have vv35 : vals LL 35 = .bool false := by rw [hLe]; rfl
                have vv36 : vals LL 36 = .bool false := by rw [hLe]; rfl
                have vv37 : vals LL 37 = .bool false := by rw [hLe]; rfl
                refine region_laid hmix (by kernel_rfl) 232 hsz (by kernel_rfl) LL (by rw [hLe]; rfl) (fun b W => CK w.heap.size w m r n oa N s0 (b 1) (b 4) W) ⟨hB.still ⟨1, rfl⟩, hcell, fun _ => hs0, (fun _ h => by cases h), (fun h => by cases h), (fun h => by cases h)⟩ ?_ ?_
                · intro b W i o a hS hcl ho hb hd ev kp yl
                  match i with
                  | 0 =>
                    simp only [List.getElem?_toArray, List.getElem?_cons_zero, Option.some.injEq] at ho
                    subst ho
                    have e6 : a.tmps[6]?.getD undef = .pointer (some ⟨m.a, 0, none⟩) := (kp 6 (by kernel_rfl)).trans h6
                    rw [vv0]
                    refine does_value rfl (by intro c h; cases h) (w' := W) ?_ (by simpa [did] using hS)
                    · simp [execOp, go_sem, e6]
                  | 1 =>
                    simp only [List.getElem?_toArray, List.getElem?_cons_zero, List.getElem?_cons_succ, Option.some.injEq] at ho
                    subst ho
                    have p0 : b 0 = true := hd ⟨0, .data⟩ (by simp) rfl
                    have e193 := (ev 0 193 rfl p0).trans vv0
                    have h4 : b 4 = false := by cases h : b 4; rfl; rw [hcl 4 _ rfl h ⟨1, .chain⟩ (by simp) rfl] at hb; cases hb
                    rw [vv1]
                    refine does_call rfl (by intro c h; cases h) (f := 14) (args := #[.pointer (some ⟨m.a, 0, none⟩)]) ?_ ?_
                    · simp [go_sem, e193]
                    · (have hc := hS; rw [hb, h4] at hc; refine hc.bytes1.mono (fun e w' ⟨he, h⟩ => ⟨he, ?_⟩); simpa [did, h4] using h)
                  | 2 =>
                    simp only [List.getElem?_toArray, List.getElem?_cons_zero, List.getElem?_cons_succ, Option.some.injEq] at ho
                    subst ho
                    have p1 : b 1 = true := hd ⟨1, .data⟩ (by simp) rfl
                    have e194 := (ev 1 194 rfl p1).trans vv1
                    have hc := hS
                    rw [p1] at hc
                    rw [vv2]
                    refine does_value rfl (by intro c h; cases h) (w' := W) ?_ (by simpa [did] using hS)
                    · simp [execOp, go_sem, e194, hc.conv1]
                  | 3 =>
                    simp only [List.getElem?_toArray, List.getElem?_cons_zero, List.getElem?_cons_succ, Option.some.injEq] at ho
                    subst ho
                    have e7 : a.tmps[7]?.getD undef = .pointer (some ⟨r.a, 0, none⟩) := (kp 7 (by kernel_rfl)).trans h7
                    rw [vv3]
                    refine does_value rfl (by intro c h; cases h) (w' := W) ?_ (by simpa [did] using hS)
                    · simp [execOp, go_sem, e7]
                  | 4 =>
                    simp only [List.getElem?_toArray, List.getElem?_cons_zero, List.getElem?_cons_succ, Option.some.injEq] at ho
                    subst ho
                    have p3 : b 3 = true := hd ⟨3, .data⟩ (by simp) rfl
                    have e196 := (ev 3 196 rfl p3).trans vv3
                    have p1 : b 1 = true := hd ⟨1, .chain⟩ (by simp) rfl
                    rw [vv4]
                    refine does_call rfl (by intro c h; cases h) (f := 16) (args := #[.pointer (some ⟨r.a, 0, none⟩)]) ?_ ?_
                    · simp [go_sem, e196]
                    · (have hc := hS; rw [hb, p1] at hc; refine hc.bytes2.mono (fun e w' ⟨he, h⟩ => ⟨he, ?_⟩); simpa [did, p1] using h)
                  | 5 =>
                    simp only [List.getElem?_toArray, List.getElem?_cons_zero, List.getElem?_cons_succ, Option.some.injEq] at ho
                    subst ho
                    have p4 : b 4 = true := hd ⟨4, .data⟩ (by simp) rfl
                    have e197 := (ev 4 197 rfl p4).trans vv4
                    have hc := hS
                    rw [p4] at hc
                    rw [vv5]
                    refine does_value rfl (by intro c h; cases h) (w' := W) ?_ (by simpa [did] using hS)
                    · simp [execOp, go_sem, e197, hc.conv4]
                  | 6 =>
                    simp only [List.getElem?_toArray, List.getElem?_cons_zero, List.getElem?_cons_succ, Option.some.injEq] at ho
                    subst ho
                    have p2 : b 2 = true := hd ⟨2, .data⟩ (by simp) rfl
                    have p5 : b 5 = true := hd ⟨5, .data⟩ (by simp) rfl
                    have e195 := (ev 2 195 rfl p2).trans vv2
                    have e198 := (ev 5 198 rfl p5).trans vv5
                    rw [vv6]
                    refine does_value rfl (by intro c h; cases h) (w' := W) ?_ (by simpa [did] using hS)
                    · simp [execOp, go_sem, e195, e198]
                  | 7 =>
                    simp only [List.getElem?_toArray, List.getElem?_cons_zero, List.getElem?_cons_succ, Option.some.injEq] at ho
                    subst ho
                    have p6 : b 6 = true := hd ⟨6, .data⟩ (by simp) rfl
                    have e199 := (ev 6 199 rfl p6).trans vv6
                    rw [vv7]
                    refine does_value rfl (by intro c h; cases h) (w' := W) ?_ (by simpa [did] using hS)
                    · simp [execOp, go_sem, e199]
                  | 8 =>
                    simp only [List.getElem?_toArray, List.getElem?_cons_zero, List.getElem?_cons_succ, Option.some.injEq] at ho
                    subst ho
                    have p7 : b 7 = true := hd ⟨7, .guard⟩ (by simp) rfl
                    have e6 : a.tmps[6]?.getD undef = .pointer (some ⟨m.a, 0, none⟩) := (kp 6 (by kernel_rfl)).trans h6
                    rw [vv8]
                    refine does_value_g rfl (yl 7 200 false rfl p7 vv7) (by intro c h; cases h) (w' := W) ?_ (by simpa [did] using hS)
                    · simp [execOp, go_sem, e6]
                  | 9 =>
                    simp only [List.getElem?_toArray, List.getElem?_cons_zero, List.getElem?_cons_succ, Option.some.injEq] at ho
                    subst ho
                    have p8 : b 8 = true := hd ⟨8, .data⟩ (by simp) rfl
                    have p7 : b 7 = true := hd ⟨7, .guard⟩ (by simp) rfl
                    have e201 := (ev 8 201 rfl p8).trans vv8
                    rw [vv9]
                    refine does_call_g rfl (yl 7 200 false rfl p7 vv7) (by intro c h; cases h) (f := 17) (args := #[.pointer (some ⟨m.a, 0, none⟩)]) ?_ ?_
                    · simp [go_sem, e201]
                    · (refine (CK.free hS).mono (fun e w' ⟨he, h⟩ => ⟨he, ?_⟩); simpa [did] using h)
                  | 10 =>
                    simp only [List.getElem?_toArray, List.getElem?_cons_zero, List.getElem?_cons_succ, Option.some.injEq] at ho
                    subst ho
                    have p7 : b 7 = true := hd ⟨7, .guard⟩ (by simp) rfl
                    have e7 : a.tmps[7]?.getD undef = .pointer (some ⟨r.a, 0, none⟩) := (kp 7 (by kernel_rfl)).trans h7
                    rw [vv10]
                    refine does_value_g rfl (yl 7 200 false rfl p7 vv7) (by intro c h; cases h) (w' := W) ?_ (by simpa [did] using hS)
                    · simp [execOp, go_sem, e7]
                  | 11 =>
                    simp only [List.getElem?_toArray, List.getElem?_cons_zero, List.getElem?_cons_succ, Option.some.injEq] at ho
                    subst ho
                    have p10 : b 10 = true := hd ⟨10, .data⟩ (by simp) rfl
                    have p7 : b 7 = true := hd ⟨7, .guard⟩ (by simp) rfl
                    have e203 := (ev 10 203 rfl p10).trans vv10
                    rw [vv11]
                    refine does_call_g rfl (yl 7 200 false rfl p7 vv7) (by intro c h; cases h) (f := 18) (args := #[.pointer (some ⟨r.a, 0, none⟩)]) ?_ ?_
                    · simp [go_sem, e203]
                    · (refine (CK.rfree hS).mono (fun e w' ⟨he, h⟩ => ⟨he, ?_⟩); simpa [did] using h)
                  | 12 =>
                    simp only [List.getElem?_toArray, List.getElem?_cons_zero, List.getElem?_cons_succ, Option.some.injEq] at ho
                    subst ho
                    have p9 : b 9 = true := hd ⟨9, .data⟩ (by simp) rfl
                    have p11 : b 11 = true := hd ⟨11, .data⟩ (by simp) rfl
                    have p7 : b 7 = true := hd ⟨7, .guard⟩ (by simp) rfl
                    have e202 := (ev 9 202 rfl p9).trans vv9
                    have e204 := (ev 11 204 rfl p11).trans vv11
                    rw [vv12]
                    refine does_value_g rfl (yl 7 200 false rfl p7 vv7) (by intro c h; cases h) (w' := W) ?_ (by simpa [did] using hS)
                    · simp [execOp, go_sem, e202, e204]
                  | 13 =>
                    simp only [List.getElem?_toArray, List.getElem?_cons_zero, List.getElem?_cons_succ, Option.some.injEq] at ho
                    subst ho
                    have p7 : b 7 = true := hd ⟨7, .data⟩ (by simp) rfl
                    have p12 : b 12 = true := hd ⟨12, .data⟩ (by simp) rfl
                    have e200 := (ev 7 200 rfl p7).trans vv7
                    have e205 := (ev 12 205 rfl p12).trans vv12
                    rw [vv13]
                    refine does_value rfl (by intro c h; cases h) (w' := W) ?_ (by simpa [did] using hS)
                    · simp [execOp, go_sem, e200, e205]
                  | 14 =>
                    simp only [List.getElem?_toArray, List.getElem?_cons_zero, List.getElem?_cons_succ, Option.some.injEq] at ho
                    subst ho
                    have p13 : b 13 = true := hd ⟨13, .data⟩ (by simp) rfl
                    have e206 := (ev 13 206 rfl p13).trans vv13
                    rw [vv14]
                    refine does_value rfl (by intro c h; cases h) (w' := W) ?_ (by simpa [did] using hS)
                    · simp [execOp, go_sem, e206]
                  | 15 =>
                    simp only [List.getElem?_toArray, List.getElem?_cons_zero, List.getElem?_cons_succ, Option.some.injEq] at ho
                    subst ho
                    have p14 : b 14 = true := hd ⟨14, .guard⟩ (by simp) rfl
                    have e6 : a.tmps[6]?.getD undef = .pointer (some ⟨m.a, 0, none⟩) := (kp 6 (by kernel_rfl)).trans h6
                    rw [vv15]
                    refine does_value_g rfl (yl 14 207 false rfl p14 vv14) (by intro c h; cases h) (w' := W) ?_ (by simpa [did] using hS)
                    · simp [execOp, go_sem, e6]
                  | 16 =>
                    simp only [List.getElem?_toArray, List.getElem?_cons_zero, List.getElem?_cons_succ, Option.some.injEq] at ho
                    subst ho
                    have p15 : b 15 = true := hd ⟨15, .data⟩ (by simp) rfl
                    have p14 : b 14 = true := hd ⟨14, .guard⟩ (by simp) rfl
                    have e208 := (ev 15 208 rfl p15).trans vv15
                    rw [vv16]
                    refine does_call_g rfl (yl 14 207 false rfl p14 vv14) (by intro c h; cases h) (f := 19) (args := #[.pointer (some ⟨m.a, 0, none⟩)]) ?_ ?_
                    · simp [go_sem, e208]
                    · (refine (CK.size hS).mono (fun e w' ⟨he, h⟩ => ⟨he, ?_⟩); simpa [did] using h)
                  | 17 =>
                    simp only [List.getElem?_toArray, List.getElem?_cons_zero, List.getElem?_cons_succ, Option.some.injEq] at ho
                    subst ho
                    have p14 : b 14 = true := hd ⟨14, .guard⟩ (by simp) rfl
                    have e0 : a.tmps[0]?.getD undef = .int .i64 (n : Nat) := (kp 0 (by kernel_rfl)).trans h0
                    rw [vv17]
                    refine does_value_g rfl (yl 14 207 false rfl p14 vv14) (by intro c h; cases h) (w' := W) ?_ (by simpa [did] using hS)
                    · simp [execOp, go_sem, e0]
                  | 18 =>
                    simp only [List.getElem?_toArray, List.getElem?_cons_zero, List.getElem?_cons_succ, Option.some.injEq] at ho
                    subst ho
                    have p16 : b 16 = true := hd ⟨16, .data⟩ (by simp) rfl
                    have p17 : b 17 = true := hd ⟨17, .data⟩ (by simp) rfl
                    have p14 : b 14 = true := hd ⟨14, .guard⟩ (by simp) rfl
                    have e209 := (ev 16 209 rfl p16).trans vv16
                    have e210 := (ev 17 210 rfl p17).trans vv17
                    rw [vv18]
                    refine does_value_g rfl (yl 14 207 false rfl p14 vv14) (by intro c h; cases h) (w' := W) ?_ (by simpa [did] using hS)
                    · simp [execOp, go_sem, e209, e210]
                  | 19 =>
                    simp only [List.getElem?_toArray, List.getElem?_cons_zero, List.getElem?_cons_succ, Option.some.injEq] at ho
                    subst ho
                    have p14 : b 14 = true := hd ⟨14, .data⟩ (by simp) rfl
                    have p18 : b 18 = true := hd ⟨18, .data⟩ (by simp) rfl
                    have e207 := (ev 14 207 rfl p14).trans vv14
                    have e211 := (ev 18 211 rfl p18).trans vv18
                    rw [vv19]
                    refine does_value rfl (by intro c h; cases h) (w' := W) ?_ (by simpa [did] using hS)
                    · simp [execOp, go_sem, e207, e211]
                  | 20 =>
                    simp only [List.getElem?_toArray, List.getElem?_cons_zero, List.getElem?_cons_succ, Option.some.injEq] at ho
                    subst ho
                    have p19 : b 19 = true := hd ⟨19, .data⟩ (by simp) rfl
                    have e212 := (ev 19 212 rfl p19).trans vv19
                    rw [vv20]
                    refine does_value rfl (by intro c h; cases h) (w' := W) ?_ (by simpa [did] using hS)
                    · simp [execOp, go_sem, e212]
                  | 21 =>
                    simp only [List.getElem?_toArray, List.getElem?_cons_zero, List.getElem?_cons_succ, Option.some.injEq] at ho
                    subst ho
                    have p20 : b 20 = true := hd ⟨20, .guard⟩ (by simp) rfl
                    have e6 : a.tmps[6]?.getD undef = .pointer (some ⟨m.a, 0, none⟩) := (kp 6 (by kernel_rfl)).trans h6
                    rw [vv21]
                    refine does_value_g rfl (yl 20 213 false rfl p20 vv20) (by intro c h; cases h) (w' := W) ?_ (by simpa [did] using hS)
                    · simp [execOp, go_sem, e6]
                  | 22 =>
                    simp only [List.getElem?_toArray, List.getElem?_cons_zero, List.getElem?_cons_succ, Option.some.injEq] at ho
                    subst ho
                    have p20 : b 20 = true := hd ⟨20, .guard⟩ (by simp) rfl
                    have e9 : a.tmps[9]?.getD undef = .pointer (some ⟨oa, 0, none⟩) := (kp 9 (by kernel_rfl)).trans h9
                    rw [vv22]
                    refine does_value_g rfl (yl 20 213 false rfl p20 vv20) (by intro c h; cases h) (w' := W) ?_ (by simpa [did] using hS)
                    · simp [execOp, go_sem, e9]
                  | 23 =>
                    simp only [List.getElem?_toArray, List.getElem?_cons_zero, List.getElem?_cons_succ, Option.some.injEq] at ho
                    subst ho
                    have p22 : b 22 = true := hd ⟨22, .data⟩ (by simp) rfl
                    have p20 : b 20 = true := hd ⟨20, .guard⟩ (by simp) rfl
                    have e215 := (ev 22 215 rfl p22).trans vv22
                    rw [vv23]
                    refine does_value_g rfl (yl 20 213 false rfl p20 vv20) (by intro c h; cases h) (w' := W) ?_ (by simpa [did] using hS)
                    · simp [execOp, go_sem, e215, hS.oc]
                  | 24 =>
                    simp only [List.getElem?_toArray, List.getElem?_cons_zero, List.getElem?_cons_succ, Option.some.injEq] at ho
                    subst ho
                    have p21 : b 21 = true := hd ⟨21, .data⟩ (by simp) rfl
                    have p23 : b 23 = true := hd ⟨23, .data⟩ (by simp) rfl
                    have p20 : b 20 = true := hd ⟨20, .guard⟩ (by simp) rfl
                    have e214 := (ev 21 214 rfl p21).trans vv21
                    have e216 := (ev 23 216 rfl p23).trans vv23
                    rw [vv24]
                    refine does_call_g rfl (yl 20 213 false rfl p20 vv20) (by intro c h; cases h) (f := 20) (args := #[.pointer (some ⟨m.a, 0, none⟩), .int .i64 N]) ?_ ?_
                    · simp [go_sem, e214, e216]
                    · (refine (CK.unused hS hN).mono (fun e w' ⟨he, h⟩ => ⟨he, ?_⟩); simpa [did] using h)
                  | 25 =>
                    simp only [List.getElem?_toArray, List.getElem?_cons_zero, List.getElem?_cons_succ, Option.some.injEq] at ho
                    subst ho
                    have p20 : b 20 = true := hd ⟨20, .guard⟩ (by simp) rfl
                    have e10 : a.tmps[10]?.getD undef = .bool false := (kp 10 (by kernel_rfl)).trans h10
                    rw [vv25]
                    refine does_value_g rfl (yl 20 213 false rfl p20 vv20) (by intro c h; cases h) (w' := W) ?_ (by simpa [did] using hS)
                    · simp [execOp, go_sem, e10]
                  | 26 =>
                    simp only [List.getElem?_toArray, List.getElem?_cons_zero, List.getElem?_cons_succ, Option.some.injEq] at ho
                    subst ho
                    have p25 : b 25 = true := hd ⟨25, .data⟩ (by simp) rfl
                    have p20 : b 20 = true := hd ⟨20, .guard⟩ (by simp) rfl
                    have e218 := (ev 25 218 rfl p25).trans vv25
                    rw [vv26]
                    refine does_value_g rfl (yl 20 213 false rfl p20 vv20) (by intro c h; cases h) (w' := W) ?_ (by simpa [did] using hS)
                    · simp [execOp, go_sem, e218]
                  | 27 =>
                    simp only [List.getElem?_toArray, List.getElem?_cons_zero, List.getElem?_cons_succ, Option.some.injEq] at ho
                    subst ho
                    have p26 : b 26 = true := hd ⟨26, .guard⟩ (by simp) rfl
                    exact does_pass rfl (yl 26 219 false rfl p26 vv26) (by decide) vv27 (by simpa [did] using hS)
                  | 28 =>
                    simp only [List.getElem?_toArray, List.getElem?_cons_zero, List.getElem?_cons_succ, Option.some.injEq] at ho
                    subst ho
                    have p27 : b 27 = true := hd ⟨27, .data⟩ (by simp) rfl
                    have p26 : b 26 = true := hd ⟨26, .guard⟩ (by simp) rfl
                    exact does_pass rfl (yl 26 219 false rfl p26 vv26) (by decide) vv28 (by simpa [did] using hS)
                  | 29 =>
                    simp only [List.getElem?_toArray, List.getElem?_cons_zero, List.getElem?_cons_succ, Option.some.injEq] at ho
                    subst ho
                    have p28 : b 28 = true := hd ⟨28, .data⟩ (by simp) rfl
                    have p26 : b 26 = true := hd ⟨26, .guard⟩ (by simp) rfl
                    exact does_pass rfl (yl 26 219 false rfl p26 vv26) (by decide) vv29 (by simpa [did] using hS)
                  | 30 =>
                    simp only [List.getElem?_toArray, List.getElem?_cons_zero, List.getElem?_cons_succ, Option.some.injEq] at ho
                    subst ho
                    have p29 : b 29 = true := hd ⟨29, .data⟩ (by simp) rfl
                    have p26 : b 26 = true := hd ⟨26, .guard⟩ (by simp) rfl
                    exact does_pass rfl (yl 26 219 false rfl p26 vv26) (by decide) vv30 (by simpa [did] using hS)
                  | 31 =>
                    simp only [List.getElem?_toArray, List.getElem?_cons_zero, List.getElem?_cons_succ, Option.some.injEq] at ho
                    subst ho
                    have p26 : b 26 = true := hd ⟨26, .guard⟩ (by simp) rfl
                    exact does_pass rfl (yl 26 219 false rfl p26 vv26) (by decide) vv31 (by simpa [did] using hS)
                  | 32 =>
                    simp only [List.getElem?_toArray, List.getElem?_cons_zero, List.getElem?_cons_succ, Option.some.injEq] at ho
                    subst ho
                    have p31 : b 31 = true := hd ⟨31, .data⟩ (by simp) rfl
                    have p26 : b 26 = true := hd ⟨26, .guard⟩ (by simp) rfl
                    exact does_pass rfl (yl 26 219 false rfl p26 vv26) (by decide) vv32 (by simpa [did] using hS)
                  | 33 =>
                    simp only [List.getElem?_toArray, List.getElem?_cons_zero, List.getElem?_cons_succ, Option.some.injEq] at ho
                    subst ho
                    have p30 : b 30 = true := hd ⟨30, .data⟩ (by simp) rfl
                    have p32 : b 32 = true := hd ⟨32, .data⟩ (by simp) rfl
                    have p26 : b 26 = true := hd ⟨26, .guard⟩ (by simp) rfl
                    exact does_pass rfl (yl 26 219 false rfl p26 vv26) (by decide) vv33 (by simpa [did] using hS)
                  | 34 =>
                    simp only [List.getElem?_toArray, List.getElem?_cons_zero, List.getElem?_cons_succ, Option.some.injEq] at ho
                    subst ho
                    have p33 : b 33 = true := hd ⟨33, .data⟩ (by simp) rfl
                    have p26 : b 26 = true := hd ⟨26, .guard⟩ (by simp) rfl
                    exact does_pass rfl (yl 26 219 false rfl p26 vv26) (by decide) vv34 (by simpa [did] using hS)
                  | 35 =>
                    simp only [List.getElem?_toArray, List.getElem?_cons_zero, List.getElem?_cons_succ, Option.some.injEq] at ho
                    subst ho
                    have p26 : b 26 = true := hd ⟨26, .data⟩ (by simp) rfl
                    have p34 : b 34 = true := hd ⟨34, .data⟩ (by simp) rfl
                    have p20 : b 20 = true := hd ⟨20, .guard⟩ (by simp) rfl
                    have e219 := (ev 26 219 rfl p26).trans vv26
                    rw [vv35]
                    refine does_value_g rfl (yl 20 213 false rfl p20 vv20) (by intro c h; cases h) (w' := W) ?_ (by simpa [did] using hS)
                    · simp [execOp, go_sem, e219]
                  | 36 =>
                    simp only [List.getElem?_toArray, List.getElem?_cons_zero, List.getElem?_cons_succ, Option.some.injEq] at ho
                    subst ho
                    have p24 : b 24 = true := hd ⟨24, .data⟩ (by simp) rfl
                    have p35 : b 35 = true := hd ⟨35, .data⟩ (by simp) rfl
                    have p20 : b 20 = true := hd ⟨20, .guard⟩ (by simp) rfl
                    have e217 := (ev 24 217 rfl p24).trans vv24
                    have e228 := (ev 35 228 rfl p35).trans vv35
                    rw [vv36]
                    refine does_value_g rfl (yl 20 213 false rfl p20 vv20) (by intro c h; cases h) (w' := W) ?_ (by simpa [did] using hS)
                    · simp [execOp, go_sem, e217, e228]
                  | 37 =>
                    simp only [List.getElem?_toArray, List.getElem?_cons_zero, List.getElem?_cons_succ, Option.some.injEq] at ho
                    subst ho
                    have p20 : b 20 = true := hd ⟨20, .data⟩ (by simp) rfl
                    have p36 : b 36 = true := hd ⟨36, .data⟩ (by simp) rfl
                    have e213 := (ev 20 213 rfl p20).trans vv20
                    have e229 := (ev 36 229 rfl p36).trans vv36
                    rw [vv37]
                    refine does_value rfl (by intro c h; cases h) (w' := W) ?_ (by simpa [did] using hS)
                    · simp [execOp, go_sem, e213, e229]
                  | k + 38 => simp at ho
                · intro b W' hS _
                  subst hLe
                  exact hend W' hS.bi
            by_cases hk0 : kd = 0
            · subst hk0
              by_cases hn0 : n = 0
              · have ct := take_none HJ1.out hn0
                have hnB : ((n : Int) == 0) = true := by simp; omega
                have HN0 : Hid (n = 0) := hn0
                clear hn0
                go_wp2_with (first
                  | (go_at_call 8; refine ct.mono ?_; rintro e W2 ⟨rfl, H2⟩; have cr := rrun_out 1 r W2 H2.out.1.ra (by rw [H2.out.1.rn]; have := HN0.out; omega); rw [hra] at cr; clear ct)
                  | (go_at_call 9; refine Calls_on cr ?_; clear cr))
                refine hR _ _ _ m r rfl rfl (rfl) (by rw [hra]; rfl) rfl rfl H2.out.1 (oc_keep oc1 H2.out.2 hom) ?_
                intro W' hB'
                have HB' : Hid (BI w.heap.size w W' m r n) := hB'
                clear hB' hR
                simp only [checkOut, putAll, List.setIfInBounds_toArray, List.set_cons_zero, List.set_cons_succ]
                go_wp2
                exact ⟨⟨i + 1, m, r, by omega, by omega, by go_num, rfl, hra, HB'.out⟩, by simp [intOf]; omega⟩
              · have hn0' : 0 < n := by omega
                have hnB : ((n : Int) == 0) = false := by simp; omega
                have ct := take_half HJ1.out
                go_wp2_with (first
                  | (go_at_call 8; refine ct.mono ?_; rintro e W2 ⟨x, y, rfl, H2⟩; have cr := rrun_half H2.out.1.choose_spec (by omega) (by omega) (by omega); rw [hra] at cr; clear ct)
                  | (go_at_call 9; refine cr.mono ?_; rintro e W3 ⟨rfl, H3⟩; clear cr))
                obtain ⟨m2, r2, ma2, rra2, hb2, ho2⟩ := H3.out
                have rra3 := rra2
                refine hR _ _ _ m2 r2 rfl rfl (by rw [ma2]; rfl) (by rw [rra3]; rfl) rfl rfl hb2 (oc_keep (oc_keep oc1 H2.out.2 hom) ho2 hor) ?_
                intro W' hB'
                have HB' : Hid (BI w.heap.size w W' m2 r2 n) := hB'
                clear hB' hR
                simp only [checkOut, putAll, List.setIfInBounds_toArray, List.set_cons_zero, List.set_cons_succ]
                go_wp2
                exact ⟨⟨i + 1, m2, r2, by omega, by omega, by go_num, by rw [ma2], rra3, HB'.out⟩, by simp [intOf]; omega⟩
            · by_cases hk1 : kd = 1
              · subst hk1
                by_cases hNk : 1 ≤ N ∧ N ≤ n
                · obtain ⟨K, rfl⟩ := Int.eq_ofNat_of_zero_le (show 0 ≤ N by omega)
                  have ct := run_half HJ1.out K (by omega) (by omega)
                  go_wp2_with (first
                    | (go_at_call 10; refine ct.mono ?_; rintro e W2 ⟨x, y, rfl, H2⟩; have oc2 := oc_keep oc1 H2.out.2 hom; have cr := rrun_half H2.out.1.choose_spec (by omega) (by omega) (by omega); rw [hra] at cr; clear ct)
                    | (go_at_call 9; refine cr.mono ?_; rintro e W3 ⟨rfl, H3⟩; clear cr))
                  obtain ⟨m2, r2, ma2, rra2, hb2, ho2⟩ := H3.out
                  have rra3 := rra2
                  refine hR _ _ _ m2 r2 rfl rfl (by rw [ma2]; rfl) (by rw [rra3]; rfl) rfl rfl hb2 (oc_keep oc2 ho2 hor) ?_
                  intro W' hB'
                  have HB' : Hid (BI w.heap.size w W' m2 r2 n) := hB'
                  clear hB' hR
                  simp only [checkOut, putAll, List.setIfInBounds_toArray, List.set_cons_zero, List.set_cons_succ]
                  go_wp2
                  exact ⟨⟨i + 1, m2, r2, by omega, by omega, by go_num, by rw [ma2], rra3, HB'.out⟩, by simp [intOf]; omega⟩
                · have ct := run_out N m W1 HJ1.out.mi.map (by rw [HJ1.out.mn]; omega)
                  have cr := rrun_out N r W1 HJ1.out.ra (by rw [HJ1.out.rn]; omega)
                  rw [hra] at cr
                  go_wp2_with (first
                    | (go_at_call 10; refine Calls_on ct ?_; clear ct)
                    | (go_at_call 9; refine Calls_on cr ?_; clear cr))
                  refine hR _ _ _ m r rfl rfl (rfl) (by rw [hra]; rfl) rfl rfl HJ1.out oc1 ?_
                  intro W' hB'
                  have HB' : Hid (BI w.heap.size w W' m r n) := hB'
                  clear hB' hR
                  simp only [checkOut, putAll, List.setIfInBounds_toArray, List.set_cons_zero, List.set_cons_succ]
                  go_wp2
                  exact ⟨⟨i + 1, m, r, by omega, by omega, by go_num, rfl, hra, HB'.out⟩, by simp [intOf]; omega⟩
              · by_cases hk2 : kd = 2
                · subst hk2
                  have hmf : ∀ (fn : Fn) (first cap : Array Value) (w : World), (Instr.makeFunc fn first cap).run Tryd.prog w = .ok (.func fn first cap) w := fun _ _ _ _ => rfl
                  have ct : ∀ k, Calls Tryd.prog 12 #[.pointer (some ⟨m.a, 0, none⟩), .int .i64 N] (W1.drewN k) fun e w' => e = .returned (.int .i64 22) ∧ w' = W1.drewN k := fun k => set_out N m (W1.drewN k) (HJ1.out.mi.map.drewN k) (by rw [HJ1.out.mn]; exact hN)
                  have HK : ∀ k, BI w.heap.size w (W1.drewN k) m r n := fun k => HJ1.out.still ⟨k, rfl⟩
                  go_wp2_with fail
                  go_quiet (fail)
                  go_wp2_with (go_at_call 12; refine Calls_on (ct _) ?_; clear ct)
                  refine hR _ _ _ m r rfl rfl (rfl) (by rw [hra]; rfl) rfl rfl (HK _) oc1 ?_
                  intro W' hB'
                  have HB' : Hid (BI w.heap.size w W' m r n) := hB'
                  clear hB' hR
                  simp only [checkOut, putAll, List.setIfInBounds_toArray, List.set_cons_zero, List.set_cons_succ]
                  go_wp2
                  exact ⟨⟨i + 1, m, r, by omega, by omega, by go_num, rfl, hra, HB'.out⟩, by simp [intOf]; omega⟩
                · by_cases hk3 : kd = 3
                  · subst hk3
                    have hmf : ∀ (fn : Fn) (first cap : Array Value) (w : World), (Instr.makeFunc fn first cap).run Tryd.prog w = .ok (.func fn first cap) w := fun _ _ _ _ => rfl
                    have ct : ∀ k, Calls Tryd.prog 11 #[.pointer (some ⟨m.a, 0, none⟩), .int .i64 N] (W1.drewN k) fun e w' => e = .returned (.int .i64 22) ∧ w' = W1.drewN k := fun k => give_out N m (W1.drewN k) (HJ1.out.mi.map.drewN k) (by rw [HJ1.out.mn]; exact hN)
                    have HK : ∀ k, BI w.heap.size w (W1.drewN k) m r n := fun k => HJ1.out.still ⟨k, rfl⟩
                    go_wp2_with fail
                    go_quiet (fail)
                    go_wp2_with (go_at_call 11; refine Calls_on (ct _) ?_; clear ct)
                    refine hR _ _ _ m r rfl rfl (rfl) (by rw [hra]; rfl) rfl rfl (HK _) oc1 ?_
                    intro W' hB'
                    have HB' : Hid (BI w.heap.size w W' m r n) := hB'
                    clear hB' hR
                    simp only [checkOut, putAll, List.setIfInBounds_toArray, List.set_cons_zero, List.set_cons_succ]
                    go_wp2
                    exact ⟨⟨i + 1, m, r, by omega, by omega, by go_num, rfl, hra, HB'.out⟩, by simp [intOf]; omega⟩
                  · have hkb0 : (kd == 0) = false := by simp [hk0]
                    have hkb1 : (kd == 1) = false := by simp [hk1]
                    have hkb2 : (kd == 2) = false := by simp [hk2]
                    have hkb3 : (kd == 3) = false := by simp [hk3]
                    have cby := bytes_any m W1 HJ1.out.mi.map
                    go_wp2_with (go_at_call 14; refine cby.mono ?_; rintro e W2 ⟨bs, rfl, hof, hblk, hB2⟩; have H2 : Hid (BytesOf m.n (used m.ws) bs ∧ W2.heap[W1.heap.size]? = some (.cells (bs.map u8v).toArray 5 (0, 0)) ∧ Below W1.heap.size W1 W2) := ⟨hof, hblk, hB2⟩; clear hof hblk hB2 cby; refine Stop.out ?_)
                    refine Stop.mk ?_
                    have HJ2 : Hid (BI w.heap.size w W2 m r n) := HJ1.out.beside H2.out.2.2
                    have cl := load_bi HJ2.out (some ⟨W1.heap.size, 0, none⟩) bs bs.length (Bytes.block H2.out.2.1) H2.out.1
                    go_wp2_with (go_at_call 13; refine cl.mono ?_; rintro e W3 ⟨xa, rfl, H3⟩; clear cl; refine Stop.out ?_)
                    refine Stop.mk ?_
                    obtain ⟨x, hxa, hbx, hB3, hx1, hx2⟩ := H3.out
                    have HJ3 : Hid (BI w.heap.size w W3 x r n ∧ Below W2.heap.size W2 W3 ∧ W2.heap.size ≤ x.a ∧ W2.heap.size ≤ x.b ∧ MI w.heap.size w W3 m) := ⟨hbx, hB3, hx1, hx2, HJ2.out.mi.beside hB3⟩
                    subst hxa
                    clear hbx hB3 hx1 hx2 H3
                    have cc := copy_any m W3 HJ3.out.2.2.2.2.map HJ3.out.1.mi.tab.lt
                    go_wp2_with (go_at_call 15; refine cc.mono ?_; rintro e W4 ⟨y, rfl, hy1, hy2, hy3, hy4, hy5, hB4⟩; have H4 : Hid (y.n = m.n ∧ y.ws = m.ws ∧ MapAt W4 y ∧ W3.heap.size ≤ y.a ∧ W3.heap.size ≤ y.b ∧ Below W3.heap.size W3 W4) := ⟨hy1, hy2, hy3, hy4, hy5, hB4⟩; clear hy1 hy2 hy3 hy4 hy5 hB4 cc; refine Stop.out ?_)
                    refine Stop.mk ?_
                    have ct := take_mi (HJ3.out.2.2.2.2.beside H4.out.2.2.2.2.2)
                    have ct2 : Calls Tryd.prog 8 #[.pointer (some ⟨m.a, 0, none⟩)] W4 fun e w' => (∃ a1 a2, e = .returned (.tuple #[.int .i64 a1, .int .i64 a2])) ∧ Hid (Only (· = m.b) W4 w') := ct.mono (by
                      rintro e w' ⟨m', ⟨rr, _, hor⟩, _, hw, _⟩
                      refine ⟨?_, hw⟩
                      obtain ⟨_, he, _⟩ | ⟨_, he, _⟩ := hor
                      · exact ⟨_, _, he⟩
                      · exact ⟨_, _, he⟩)
                    clear ct
                    have hmb2 : m.b < W2.heap.size := HJ2.out.mi.map.row.lt
                    go_wp2_with (go_at_call 8; refine ct2.mono ?_; rintro e W5 ⟨⟨z1, z2, rfl⟩, H5⟩; clear ct2)
                    have HC : Hid (∀ s0, W5.heap.size = s0 → CL w.heap.size w x y r n oa N s0 false false W5.drew) := by
                      intro s0 hs0
                      obtain ⟨hbx, hB3, hx1, hx2, hm3⟩ := HJ3.out
                      obtain ⟨hy1, hy2, hy3, hy4, hy5, hB4⟩ := H4.out
                      have ho := H5.out
                      have hxb := hbx.beside hB4
                      have hs3 := hB3.size
                      have hbi : BI w.heap.size w W5 x r n := by
                        refine ⟨hxb.mi.only ho (by omega) (by omega) (fun i hi => by have := HJ2.out.mi.hb; omega), hxb.ra.keep ho ?_ ?_, hxb.hra, hxb.hrb, hxb.mn, hxb.rn, hxb.same⟩
                        · exact HJ2.out.apart.1
                        · exact HJ2.out.apart.2.1
                      refine ⟨hbi.still ⟨1, rfl⟩, (hy3.keep ho (by omega) (by omega)).drewN 1, hy1.trans HJ2.out.mn, fun i => by rw [hy2, HJ2.out.same, hbx.same], ?_, fun _ => hs0, (fun _ h => by cases h), (fun h => by cases h), (fun h => by cases h)⟩
                      have oc2 := (H2.out.2.2.cell (p := ⟨oa, 1, none⟩) (cell_lt oc1)).trans oc1
                      have oc3 := (hB3.cell (p := ⟨oa, 1, none⟩) (cell_lt oc2)).trans oc2
                      have oc4 := (hB4.cell (p := ⟨oa, 1, none⟩) (cell_lt oc3)).trans oc3
                      exact oc_keep (S := (· = m.b)) oc4 ho.drew hom
                    obtain ⟨s0, hs0⟩ : ∃ s0, W5.heap.size = s0 := ⟨_, rfl⟩
                    obtain ⟨LL, hLe⟩ : ∃ LL : List (Option Tmp × Value), LL = [(some 96, .pointer (some ⟨y.a, 0, none⟩)), (some 97, .bool false), (some 98, .bool false), (some 99, .pointer (some ⟨y.a, 0, none⟩)), (some 100, .slice (some ⟨s0, 0, none⟩) (bsOf x).length (bsOf x).length), (some 101, .string (strOf (bsOf x))), (some 102, .pointer (some ⟨x.a, 0, none⟩)), (some 103, .slice (some ⟨s0 + 1, 0, none⟩) (bsOf x).length (bsOf x).length), (some 104, .string (strOf (bsOf x))), (some 105, .bool false), (some 106, .bool false)] := ⟨_, rfl⟩
                    have vv0 : vals LL 0 = .pointer (some ⟨y.a, 0, none⟩) := by rw [hLe]; rfl
                    have vv1 : vals LL 1 = .bool false := by rw [hLe]; rfl
                    have vv2 : vals LL 2 = .bool false := by rw [hLe]; rfl
                    have vv3 : vals LL 3 = .pointer (some ⟨y.a, 0, none⟩) := by rw [hLe]; rfl
                    have vv4 : vals LL 4 = .slice (some ⟨s0, 0, none⟩) (bsOf x).length (bsOf x).length := by rw [hLe]; rfl
                    have vv5 : vals LL 5 = .string (strOf (bsOf x)) := by rw [hLe]; rfl
                    have vv6 : vals LL 6 = .pointer (some ⟨x.a, 0, none⟩) := by rw [hLe]; rfl
                    have vv7 : vals LL 7 = .slice (some ⟨s0 + 1, 0, none⟩) (bsOf x).length (bsOf x).length := by rw [hLe]; rfl
                    have vv8 : vals LL 8 = .string (strOf (bsOf x)) := by rw [hLe]; rfl
                    have vv9 : vals LL 9 = .bool false := by rw [hLe]; rfl
                    have vv10 : vals LL 10 = .bool false := by rw [hLe]; rfl
                    refine region_laid hmix (by kernel_rfl) 232 rfl (by kernel_rfl) LL (by rw [hLe]; rfl) (fun b W => CL w.heap.size w x y r n oa N s0 (b 4) (b 7) W) (HC.out s0 hs0) ?_ ?_
                    · intro b W i o a hS hcl ho hb hd ev kp yl
                      match i with
                      | 0 =>
                        simp only [List.getElem?_toArray, List.getElem?_cons_zero, Option.some.injEq] at ho
                        subst ho
                        have e24 : a.tmps[24]?.getD undef = .pointer (some ⟨y.a, 0, none⟩) := kp 24 (by kernel_rfl)
                        rw [vv0]
                        refine does_value rfl (by intro c h; cases h) (w' := W) ?_ (by simpa [did] using hS)
                        · simp [execOp, go_sem, e24]
                      | 1 =>
                        simp only [List.getElem?_toArray, List.getElem?_cons_zero, List.getElem?_cons_succ, Option.some.injEq] at ho
                        subst ho
                        have p0 : b 0 = true := hd ⟨0, .data⟩ (by simp) rfl
                        have e96 := (ev 0 96 rfl p0).trans vv0
                        rw [vv1]
                        refine does_value rfl (by intro c h; cases h) (w' := W) ?_ (by simpa [did] using hS)
                        · simp [execOp, go_sem, e96]
                      | 2 =>
                        simp only [List.getElem?_toArray, List.getElem?_cons_zero, List.getElem?_cons_succ, Option.some.injEq] at ho
                        subst ho
                        have p1 : b 1 = true := hd ⟨1, .data⟩ (by simp) rfl
                        have e97 := (ev 1 97 rfl p1).trans vv1
                        rw [vv2]
                        refine does_value rfl (by intro c h; cases h) (w' := W) ?_ (by simpa [did] using hS)
                        · simp [execOp, go_sem, e97]
                      | 3 =>
                        simp only [List.getElem?_toArray, List.getElem?_cons_zero, List.getElem?_cons_succ, Option.some.injEq] at ho
                        subst ho
                        have p2 : b 2 = true := hd ⟨2, .guard⟩ (by simp) rfl
                        have e24 : a.tmps[24]?.getD undef = .pointer (some ⟨y.a, 0, none⟩) := kp 24 (by kernel_rfl)
                        rw [vv3]
                        refine does_value_g rfl (yl 2 98 false rfl p2 vv2) (by intro c h; cases h) (w' := W) ?_ (by simpa [did] using hS)
                        · simp [execOp, go_sem, e24]
                      | 4 =>
                        simp only [List.getElem?_toArray, List.getElem?_cons_zero, List.getElem?_cons_succ, Option.some.injEq] at ho
                        subst ho
                        have p3 : b 3 = true := hd ⟨3, .data⟩ (by simp) rfl
                        have p2 : b 2 = true := hd ⟨2, .guard⟩ (by simp) rfl
                        have e99 := (ev 3 99 rfl p3).trans vv3
                        have h7 : b 7 = false := by cases h : b 7; rfl; rw [hcl 7 _ rfl h ⟨4, .chain⟩ (by simp) rfl] at hb; cases hb
                        rw [vv4]
                        refine does_call_g rfl (yl 2 98 false rfl p2 vv2) (by intro c h; cases h) (f := 14) (args := #[.pointer (some ⟨y.a, 0, none⟩)]) ?_ ?_
                        · simp [go_sem, e99]
                        · (have hc := hS; rw [hb, h7] at hc; refine hc.bytes1.mono (fun e w' ⟨he, h⟩ => ⟨he, ?_⟩); simpa [did, h7] using h)
                      | 5 =>
                        simp only [List.getElem?_toArray, List.getElem?_cons_zero, List.getElem?_cons_succ, Option.some.injEq] at ho
                        subst ho
                        have p4 : b 4 = true := hd ⟨4, .data⟩ (by simp) rfl
                        have p2 : b 2 = true := hd ⟨2, .guard⟩ (by simp) rfl
                        have e100 := (ev 4 100 rfl p4).trans vv4
                        have hc := hS
                        rw [p4] at hc
                        rw [vv5]
                        refine does_value_g rfl (yl 2 98 false rfl p2 vv2) (by intro c h; cases h) (w' := W) ?_ (by simpa [did] using hS)
                        · simp [execOp, go_sem, e100, hc.conv1]
                      | 6 =>
                        simp only [List.getElem?_toArray, List.getElem?_cons_zero, List.getElem?_cons_succ, Option.some.injEq] at ho
                        subst ho
                        have p2 : b 2 = true := hd ⟨2, .guard⟩ (by simp) rfl
                        have e22 : a.tmps[22]?.getD undef = .pointer (some ⟨x.a, 0, none⟩) := kp 22 (by kernel_rfl)
                        rw [vv6]
                        refine does_value_g rfl (yl 2 98 false rfl p2 vv2) (by intro c h; cases h) (w' := W) ?_ (by simpa [did] using hS)
                        · simp [execOp, go_sem, e22]
                      | 7 =>
                        simp only [List.getElem?_toArray, List.getElem?_cons_zero, List.getElem?_cons_succ, Option.some.injEq] at ho
                        subst ho
                        have p6 : b 6 = true := hd ⟨6, .data⟩ (by simp) rfl
                        have p2 : b 2 = true := hd ⟨2, .guard⟩ (by simp) rfl
                        have e102 := (ev 6 102 rfl p6).trans vv6
                        have p4 : b 4 = true := hd ⟨4, .chain⟩ (by simp) rfl
                        rw [vv7]
                        refine does_call_g rfl (yl 2 98 false rfl p2 vv2) (by intro c h; cases h) (f := 14) (args := #[.pointer (some ⟨x.a, 0, none⟩)]) ?_ ?_
                        · simp [go_sem, e102]
                        · (have hc := hS; rw [hb, p4] at hc; refine hc.bytes2.mono (fun e w' ⟨he, h⟩ => ⟨he, ?_⟩); simpa [did, p4] using h)
                      | 8 =>
                        simp only [List.getElem?_toArray, List.getElem?_cons_zero, List.getElem?_cons_succ, Option.some.injEq] at ho
                        subst ho
                        have p7 : b 7 = true := hd ⟨7, .data⟩ (by simp) rfl
                        have p2 : b 2 = true := hd ⟨2, .guard⟩ (by simp) rfl
                        have e103 := (ev 7 103 rfl p7).trans vv7
                        have hc := hS
                        rw [p7] at hc
                        rw [vv8]
                        refine does_value_g rfl (yl 2 98 false rfl p2 vv2) (by intro c h; cases h) (w' := W) ?_ (by simpa [did] using hS)
                        · simp [execOp, go_sem, e103, hc.conv4]
                      | 9 =>
                        simp only [List.getElem?_toArray, List.getElem?_cons_zero, List.getElem?_cons_succ, Option.some.injEq] at ho
                        subst ho
                        have p5 : b 5 = true := hd ⟨5, .data⟩ (by simp) rfl
                        have p8 : b 8 = true := hd ⟨8, .data⟩ (by simp) rfl
                        have p2 : b 2 = true := hd ⟨2, .guard⟩ (by simp) rfl
                        have e101 := (ev 5 101 rfl p5).trans vv5
                        have e104 := (ev 8 104 rfl p8).trans vv8
                        rw [vv9]
                        refine does_value_g rfl (yl 2 98 false rfl p2 vv2) (by intro c h; cases h) (w' := W) ?_ (by simpa [did] using hS)
                        · simp [execOp, go_sem, e101, e104]
                      | 10 =>
                        simp only [List.getElem?_toArray, List.getElem?_cons_zero, List.getElem?_cons_succ, Option.some.injEq] at ho
                        subst ho
                        have p2 : b 2 = true := hd ⟨2, .data⟩ (by simp) rfl
                        have p9 : b 9 = true := hd ⟨9, .data⟩ (by simp) rfl
                        have e98 := (ev 2 98 rfl p2).trans vv2
                        have e105 := (ev 9 105 rfl p9).trans vv9
                        rw [vv10]
                        refine does_value rfl (by intro c h; cases h) (w' := W) ?_ (by simpa [did] using hS)
                        · simp [execOp, go_sem, e98, e105]
                      | k + 11 => simp at ho
                    · intro b W6 hS _
                      subst hLe
                      have H6 : Hid (BI w.heap.size w W6 x r n ∧ W6.cell? ⟨oa, 1, none⟩ = some (.int .i64 N)) := ⟨hS.bi, hS.oc⟩
                      clear hS HC
                      simp only [putAll, List.setIfInBounds_toArray, List.set_cons_zero, List.set_cons_succ]
                      go_wp2_with fail
                      refine hR _ _ _ x r rfl rfl (rfl) (by rw [hra]; rfl) rfl rfl H6.out.1 H6.out.2 ?_
                      intro W' hB'
                      have HB' : Hid (BI w.heap.size w W' x r n) := hB'
                      clear hB' hR
                      simp only [checkOut, putAll, List.setIfInBounds_toArray, List.set_cons_zero, List.set_cons_succ]
                      go_wp2
                      exact ⟨⟨i + 1, x, r, by omega, by omega, by go_num, rfl, hra, HB'.out⟩, by simp [intOf]; omega⟩
    · by_cases hi3 : i < os.length
      · have hi4 : ¬ (i : Int) < 60 := by omega
        have hi5 : (i : Int) < os.length := by omega
        go_wp2
        go_ret
        exact ⟨rfl, HJ.out.mi.bel⟩
      · have hi5 : ¬ (i : Int) < os.length := by omega
        go_wp2
        go_ret
        exact ⟨rfl, HJ.out.mi.bel⟩
end Go.Proofs.YtndefmchaohikaaDoor
