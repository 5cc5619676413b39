/-
  One operation there and back: begun of the laws.
-/
import Derived.Test.YtegjageenofbjaaGreatOi
namespace Go.Proofs.YtegjageenofbjaaGreat.Cd
open Go.RowKit Go.Maps

attribute [local go_sem] Oper.semAt_some

def beg : Opn := ⟨5, 2, 1, 1, 5, 2, 0, 0, [97], [], []⟩
def begB : List (BitVec 8) := [1#8, 5#8, 2#8, 1#8, 5#8, 2#8, 0#8, 0#8, 1#8, 97#8, 0#8, 0#8]
theorem beg_may : mayO 5 2 1 1 5 2 0 0 [97] ([] : List (BitVec 8)).length [] = true := by decide +kernel
theorem beg_bytes : bytesO 5 2 1 1 5 2 0 0 [97] [] [] = begB := by
  have h : normOf [] = [] := by decide +kernel
  have h2 : mayB [] = true := by decide +kernel
  unfold bytesO partsO eNum eID eBytes eVec numsB begB
  rw [h, h2]
  simp only [bvs, List.map_cons, List.map_nil, List.length_cons, List.length_nil, List.flatMap_nil]
  rw [if_pos (by decide), if_pos (by decide), if_pos (by decide), if_pos (by decide), if_pos (by decide), if_pos (by decide)]
  rw [show Int.toNat 1 = 1 from rfl, show Int.toNat 5 = 5 from rfl, show Int.toNat 2 = 2 from rfl, show Int.toNat 0 = 0 from rfl, numB_lt (n := 1) (by decide), numB_lt (n := 5) (by decide), numB_lt (n := 2) (by decide), numB_lt (n := 0) (by decide)]
  rfl
theorem beg_read : readO begB = (beg, some []) := by
  unfold readO begB beg
  rw [show rnum 4611686018427387904 (some [1#8, 5#8, 2#8, 1#8, 5#8, 2#8, 0#8, 0#8, 1#8, 97#8, 0#8, 0#8]) = (1, some [5#8, 2#8, 1#8, 5#8, 2#8, 0#8, 0#8, 1#8, 97#8, 0#8, 0#8]) by decide +kernel]
  simp only
  rw [show rid (some [5#8, 2#8, 1#8, 5#8, 2#8, 0#8, 0#8, 1#8, 97#8, 0#8, 0#8]) = ((5, 2), some [1#8, 5#8, 2#8, 0#8, 0#8, 1#8, 97#8, 0#8, 0#8]) by decide +kernel]
  simp only
  rw [show rnum 4611686018427387904 (some [1#8, 5#8, 2#8, 0#8, 0#8, 1#8, 97#8, 0#8, 0#8]) = (1, some [5#8, 2#8, 0#8, 0#8, 1#8, 97#8, 0#8, 0#8]) by decide +kernel]
  simp only
  rw [show rid (some [5#8, 2#8, 0#8, 0#8, 1#8, 97#8, 0#8, 0#8]) = ((5, 2), some [0#8, 0#8, 1#8, 97#8, 0#8, 0#8]) by decide +kernel]
  simp only
  rw [show rid (some [0#8, 0#8, 1#8, 97#8, 0#8, 0#8]) = ((0, 0), some [1#8, 97#8, 0#8, 0#8]) by decide +kernel]
  simp only
  rw [show rbytes (some [1#8, 97#8, 0#8, 0#8]) = ([97#8], some [0#8, 0#8]) by decide +kernel]
  simp only
  rw [show rbytes (some [0#8, 0#8]) = ([], some [0#8]) by decide +kernel]
  simp only
  rw [show rvec (some [0#8]) = ([], some []) by decide +kernel]
  rfl
theorem beg_good : goodO begB = true := by
  unfold goodO
  rw [beg_read]
  exact beg_may
theorem beg_dec : decO begB = beg := by
  unfold decO
  rw [beg_good, if_pos rfl, beg_read]
theorem beg_name : nameN [97, 1] = 22 := by decide +kernel
theorem beg_eq : eqF 5 2 1 1 5 2 0 0 [97] [] [] 5 2 1 1 5 2 0 0 [97] [] [] = true := by decide +kernel

theorem fld1 (a b : Int) (w : World) : (Instr.field 23 (.agg #[.int .i64 a, .int .i64 b]) 1).run Tryz.prog w = .ok (.int .i64 b) w := by
  simp [Instr.field, run_underlying Tryz.underlying23, go_sem, asAgg]

set_option maxRecDepth 8000 in
set_option maxHeartbeats 4000000 in
theorem begun_any (w : World) : Calls Tryz.prog 5 #[] w fun e w' => e = .returned (.bool true) ∧ Below w.heap.size w w' := by
  have B0 : Hid (∀ x y, Below w.heap.size w ((w.alloc x).alloc y)) := fun x y => ((Below.refl _ _).alloc (Nat.le_refl _) _).alloc (by simp) _
  have H9 : Hid (∀ x, OpB ((w.alloc x).alloc (.cells #[.int .i64 5, .int .i64 2, .int .i64 1, .int .i64 1, .int .i64 5, .int .i64 2, .int .i64 0, .int .i64 0, .string ⟨#[97]⟩, .slice none 0 0, .slice none 0 0] 28)) (w.heap.size + 1) 5 2 1 1 5 2 0 0 [97] none none 0 0 0 0) := fun x => OpB.next w x 5 2 1 1 5 2 0 0 [97] none none 0 0 0 0
  have hf1 := fun W => fld1 0 1 W
  have hf0 := fun W => fld1 0 0 W
  have e97 : bas [97] = ⟨#[97]⟩ := rfl
  have HE : Hid (∀ W, Calls Tryz.prog 9 #[.agg #[.int .i64 5, .int .i64 2, .int .i64 1, .int .i64 1, .int .i64 5, .int .i64 2, .int .i64 0, .int .i64 0, .string ⟨#[97]⟩, .slice none 0 0, .slice none 0 0]] W (EncR W true begB)) := fun W => by
    have := encode_any 5 2 1 1 5 2 0 0 [97] none none 0 0 0 0 [] [] W (by decide) rfl (by decide) rfl (by decide) (by decide) (bytes_nil _ _) (lies_nil _ _)
    rw [beg_may, beg_bytes] at this
    exact this
  have HD : Hid (∀ W p c, Bytes W p begB → Calls Tryz.prog 14 #[.slice p 12 c] W fun e w' => ∃ p7 c7 p8 c8, e = .returned (.tuple #[.agg #[.int .i64 5, .int .i64 2, .int .i64 1, .int .i64 1, .int .i64 5, .int .i64 2, .int .i64 0, .int .i64 0, .string ⟨#[97]⟩, .slice p7 0 c7, .slice p8 0 c8], .int .i64 0]) ∧ Below W.heap.size W w') := fun W p c hb => by
    have := decode_any p begB c W (by decide) hb
    rw [beg_good, beg_dec] at this
    refine (show Calls Tryz.prog 14 #[.slice p 12 c] W _ from this).mono ?_
    rintro e w' ⟨v, rfl, ⟨p7, c7, p8, c8, rfl, _⟩, hB⟩
    exact ⟨p7, c7, p8, c8, rfl, hB⟩
  have HM : Hid (∀ W, Calls Tryz.prog 10 #[.agg #[.int .i64 5, .int .i64 2, .int .i64 1, .int .i64 1, .int .i64 5, .int .i64 2, .int .i64 0, .int .i64 0, .string ⟨#[97]⟩, .slice none 0 0, .slice none 0 0]] W fun e w' => e = .returned (.bool true) ∧ Below W.heap.size W w') := fun W => by
    have := omay_any 5 2 1 1 5 2 0 0 [97] none none 0 0 0 0 [] W (by decide) (by decide) rfl (by decide) (by decide) (lies_nil _ _)
    rw [show (0 : Nat) = ([] : List (BitVec 8)).length from rfl, beg_may] at this
    exact this
  have HQ : Hid (∀ W p7 c7 p8 c8, Calls Tryz.prog 12 #[.agg #[.int .i64 5, .int .i64 2, .int .i64 1, .int .i64 1, .int .i64 5, .int .i64 2, .int .i64 0, .int .i64 0, .string ⟨#[97]⟩, .slice p7 0 c7, .slice p8 0 c8], .agg #[.int .i64 5, .int .i64 2, .int .i64 1, .int .i64 1, .int .i64 5, .int .i64 2, .int .i64 0, .int .i64 0, .string ⟨#[97]⟩, .slice none 0 0, .slice none 0 0]] W fun e w' => e = .returned (.bool true) ∧ Below W.heap.size W w') := fun W p7 c7 p8 c8 => by
    have := oeq_any 5 2 1 1 5 2 0 0 [97] p7 p8 0 c7 0 c8 [] [] 5 2 1 1 5 2 0 0 [97] none none 0 0 0 0 [] [] W rfl rfl rfl rfl (bytes_nil _ _) (lies_nil _ _) (bytes_nil _ _) (lies_nil _ _)
    rw [beg_eq] at this
    exact this
  have HC : Hid (∀ W, Calls Tryz.prog 11 #[.agg #[.int .i64 5, .int .i64 2, .int .i64 1, .int .i64 1, .int .i64 5, .int .i64 2, .int .i64 0, .int .i64 0, .string ⟨#[97]⟩, .slice none 0 0, .slice none 0 0]] W fun e w' => e = .returned (.int .i64 12) ∧ Below W.heap.size W w') := fun W => by
    have := cost_any 5 2 1 1 5 2 0 0 [97] none none 0 0 0 0 [] [] W (by decide) rfl (by decide) rfl (by decide) (by decide) (bytes_nil _ _) (lies_nil _ _)
    rw [beg_may, beg_bytes] at this
    exact this
  have HN : Hid (∀ W, Calls Tryz.prog 20 #[.string ⟨#[97, 1]⟩] W fun e w' => e = .returned (.int .i64 22) ∧ w' = W) := fun W => by
    have := name_any [97, 1] W (by decide)
    rw [beg_name] at this
    exact this
  go_enter Tryz.func5, Tryz.ntmps5
  go_wp2_with fail
  refine (HE.out _).mono ?_
  rintro e w1 ⟨v, rfl, x1, x2⟩
  rw [if_pos rfl] at x1
  rw [if_pos rfl]
  obtain ⟨_, p1, c1, rfl, _, hb1, _⟩ := owns_bytes x1
  have HB1 : Hid (Bytes w1 p1 begB) := hb1
  have X1 : Hid (Below w.heap.size w w1) := (B0.out _ _).trans (x2.mono (B0.out _ _).size)
  have O1 : Hid (OpB w1 (w.heap.size + 1) 5 2 1 1 5 2 0 0 [97] none none 0 0 0 0) := (H9.out _).below x2
  rw [show begB.length = 12 from rfl]
  clear x1 x2 hb1 HE B0 H9
  go_wp2_with fail
  refine (HD.out w1 p1 c1 HB1.out).mono ?_
  rintro e w2 ⟨p7, c7, p8, c8, rfl, hb2⟩
  have X2 : Hid (Below w.heap.size w w2) := X1.out.trans (hb2.mono X1.out.size)
  have O2 : Hid (OpB w2 (w.heap.size + 1) 5 2 1 1 5 2 0 0 [97] none none 0 0 0 0) := O1.out.below hb2
  have N2 : Hid (∀ o, Below w.heap.size w (w2.alloc o)) := fun o => X2.out.alloc X2.out.size _
  have O3 : Hid (∀ o, OpB (w2.alloc o) (w.heap.size + 1) 5 2 1 1 5 2 0 0 [97] none none 0 0 0 0) := fun o => O2.out.below (below_new w2 o).out
  have P3 : Hid ((w2.alloc (.cells #[.int .i64 5, .int .i64 2, .int .i64 1, .int .i64 1, .int .i64 5, .int .i64 2, .int .i64 0, .int .i64 0, .string ⟨#[97]⟩, .slice p7 0 c7, .slice p8 0 c8] 28)).heap[w2.heap.size]? = some (.cells #[.int .i64 5, .int .i64 2, .int .i64 1, .int .i64 1, .int .i64 5, .int .i64 2, .int .i64 0, .int .i64 0, .string ⟨#[97]⟩, .slice p7 0 c7, .slice p8 0 c8] 28 (0, 0))) := heap_alloc_new w2 _
  have ⟨a0, a1, a2, a3, a4, a5, a6, a7, a8, a9, a10⟩ : (w2.alloc (.cells #[.int .i64 5, .int .i64 2, .int .i64 1, .int .i64 1, .int .i64 5, .int .i64 2, .int .i64 0, .int .i64 0, .string ⟨#[97]⟩, .slice p7 0 c7, .slice p8 0 c8] 28)).cell? ⟨w.heap.size + 1, 0, none⟩ = some (.int .i64 5) ∧ (w2.alloc (.cells #[.int .i64 5, .int .i64 2, .int .i64 1, .int .i64 1, .int .i64 5, .int .i64 2, .int .i64 0, .int .i64 0, .string ⟨#[97]⟩, .slice p7 0 c7, .slice p8 0 c8] 28)).cell? ⟨w.heap.size + 1, 1, none⟩ = some (.int .i64 2) ∧ (w2.alloc (.cells #[.int .i64 5, .int .i64 2, .int .i64 1, .int .i64 1, .int .i64 5, .int .i64 2, .int .i64 0, .int .i64 0, .string ⟨#[97]⟩, .slice p7 0 c7, .slice p8 0 c8] 28)).cell? ⟨w.heap.size + 1, 2, none⟩ = some (.int .i64 1) ∧ (w2.alloc (.cells #[.int .i64 5, .int .i64 2, .int .i64 1, .int .i64 1, .int .i64 5, .int .i64 2, .int .i64 0, .int .i64 0, .string ⟨#[97]⟩, .slice p7 0 c7, .slice p8 0 c8] 28)).cell? ⟨w.heap.size + 1, 3, none⟩ = some (.int .i64 1) ∧ (w2.alloc (.cells #[.int .i64 5, .int .i64 2, .int .i64 1, .int .i64 1, .int .i64 5, .int .i64 2, .int .i64 0, .int .i64 0, .string ⟨#[97]⟩, .slice p7 0 c7, .slice p8 0 c8] 28)).cell? ⟨w.heap.size + 1, 4, none⟩ = some (.int .i64 5) ∧ (w2.alloc (.cells #[.int .i64 5, .int .i64 2, .int .i64 1, .int .i64 1, .int .i64 5, .int .i64 2, .int .i64 0, .int .i64 0, .string ⟨#[97]⟩, .slice p7 0 c7, .slice p8 0 c8] 28)).cell? ⟨w.heap.size + 1, 5, none⟩ = some (.int .i64 2) ∧ (w2.alloc (.cells #[.int .i64 5, .int .i64 2, .int .i64 1, .int .i64 1, .int .i64 5, .int .i64 2, .int .i64 0, .int .i64 0, .string ⟨#[97]⟩, .slice p7 0 c7, .slice p8 0 c8] 28)).cell? ⟨w.heap.size + 1, 6, none⟩ = some (.int .i64 0) ∧ (w2.alloc (.cells #[.int .i64 5, .int .i64 2, .int .i64 1, .int .i64 1, .int .i64 5, .int .i64 2, .int .i64 0, .int .i64 0, .string ⟨#[97]⟩, .slice p7 0 c7, .slice p8 0 c8] 28)).cell? ⟨w.heap.size + 1, 7, none⟩ = some (.int .i64 0) ∧ (w2.alloc (.cells #[.int .i64 5, .int .i64 2, .int .i64 1, .int .i64 1, .int .i64 5, .int .i64 2, .int .i64 0, .int .i64 0, .string ⟨#[97]⟩, .slice p7 0 c7, .slice p8 0 c8] 28)).cell? ⟨w.heap.size + 1, 8, none⟩ = some (.string ⟨#[97]⟩) ∧ (w2.alloc (.cells #[.int .i64 5, .int .i64 2, .int .i64 1, .int .i64 1, .int .i64 5, .int .i64 2, .int .i64 0, .int .i64 0, .string ⟨#[97]⟩, .slice p7 0 c7, .slice p8 0 c8] 28)).cell? ⟨w.heap.size + 1, 9, none⟩ = some (.slice none 0 0) ∧ (w2.alloc (.cells #[.int .i64 5, .int .i64 2, .int .i64 1, .int .i64 1, .int .i64 5, .int .i64 2, .int .i64 0, .int .i64 0, .string ⟨#[97]⟩, .slice p7 0 c7, .slice p8 0 c8] 28)).cell? ⟨w.heap.size + 1, 10, none⟩ = some (.slice none 0 0) := ⟨cellOf (O3.out (.cells #[.int .i64 5, .int .i64 2, .int .i64 1, .int .i64 1, .int .i64 5, .int .i64 2, .int .i64 0, .int .i64 0, .string ⟨#[97]⟩, .slice p7 0 c7, .slice p8 0 c8] 28)) 0, cellOf (O3.out (.cells #[.int .i64 5, .int .i64 2, .int .i64 1, .int .i64 1, .int .i64 5, .int .i64 2, .int .i64 0, .int .i64 0, .string ⟨#[97]⟩, .slice p7 0 c7, .slice p8 0 c8] 28)) 1, cellOf (O3.out (.cells #[.int .i64 5, .int .i64 2, .int .i64 1, .int .i64 1, .int .i64 5, .int .i64 2, .int .i64 0, .int .i64 0, .string ⟨#[97]⟩, .slice p7 0 c7, .slice p8 0 c8] 28)) 2, cellOf (O3.out (.cells #[.int .i64 5, .int .i64 2, .int .i64 1, .int .i64 1, .int .i64 5, .int .i64 2, .int .i64 0, .int .i64 0, .string ⟨#[97]⟩, .slice p7 0 c7, .slice p8 0 c8] 28)) 3, cellOf (O3.out (.cells #[.int .i64 5, .int .i64 2, .int .i64 1, .int .i64 1, .int .i64 5, .int .i64 2, .int .i64 0, .int .i64 0, .string ⟨#[97]⟩, .slice p7 0 c7, .slice p8 0 c8] 28)) 4, cellOf (O3.out (.cells #[.int .i64 5, .int .i64 2, .int .i64 1, .int .i64 1, .int .i64 5, .int .i64 2, .int .i64 0, .int .i64 0, .string ⟨#[97]⟩, .slice p7 0 c7, .slice p8 0 c8] 28)) 5, cellOf (O3.out (.cells #[.int .i64 5, .int .i64 2, .int .i64 1, .int .i64 1, .int .i64 5, .int .i64 2, .int .i64 0, .int .i64 0, .string ⟨#[97]⟩, .slice p7 0 c7, .slice p8 0 c8] 28)) 6, cellOf (O3.out (.cells #[.int .i64 5, .int .i64 2, .int .i64 1, .int .i64 1, .int .i64 5, .int .i64 2, .int .i64 0, .int .i64 0, .string ⟨#[97]⟩, .slice p7 0 c7, .slice p8 0 c8] 28)) 7, cellOf (O3.out (.cells #[.int .i64 5, .int .i64 2, .int .i64 1, .int .i64 1, .int .i64 5, .int .i64 2, .int .i64 0, .int .i64 0, .string ⟨#[97]⟩, .slice p7 0 c7, .slice p8 0 c8] 28)) 8, cellOf (O3.out (.cells #[.int .i64 5, .int .i64 2, .int .i64 1, .int .i64 1, .int .i64 5, .int .i64 2, .int .i64 0, .int .i64 0, .string ⟨#[97]⟩, .slice p7 0 c7, .slice p8 0 c8] 28)) 9, cellOf (O3.out (.cells #[.int .i64 5, .int .i64 2, .int .i64 1, .int .i64 1, .int .i64 5, .int .i64 2, .int .i64 0, .int .i64 0, .string ⟨#[97]⟩, .slice p7 0 c7, .slice p8 0 c8] 28)) 10⟩
  clear hb2 HD HB1 X1 O1
  go_wp2_with (first | (go_at_call 10; refine Calls_new (HM.out _) ?_; clear HM; intro w3 hb3; have O4 : Hid (OpB w3 (w.heap.size + 1) 5 2 1 1 5 2 0 0 [97] none none 0 0 0 0) := (O3.out _).below hb3.out; have P4 : Hid (w3.heap[w2.heap.size]? = some (.cells #[.int .i64 5, .int .i64 2, .int .i64 1, .int .i64 1, .int .i64 5, .int .i64 2, .int .i64 0, .int .i64 0, .string ⟨#[97]⟩, .slice p7 0 c7, .slice p8 0 c8] 28 (0, 0))) := (hb3.out.block _ (block_lt P3.out)).trans P3.out; have X3 : Hid (Below w.heap.size w w3) := (N2.out _).trans (hb3.out.mono (N2.out _).size); have ⟨b0, b1, b2, b3, b4, b5, b6, b7, b8, b9, b10⟩ : w3.cell? ⟨w.heap.size + 1, 0, none⟩ = some (.int .i64 5) ∧ w3.cell? ⟨w.heap.size + 1, 1, none⟩ = some (.int .i64 2) ∧ w3.cell? ⟨w.heap.size + 1, 2, none⟩ = some (.int .i64 1) ∧ w3.cell? ⟨w.heap.size + 1, 3, none⟩ = some (.int .i64 1) ∧ w3.cell? ⟨w.heap.size + 1, 4, none⟩ = some (.int .i64 5) ∧ w3.cell? ⟨w.heap.size + 1, 5, none⟩ = some (.int .i64 2) ∧ w3.cell? ⟨w.heap.size + 1, 6, none⟩ = some (.int .i64 0) ∧ w3.cell? ⟨w.heap.size + 1, 7, none⟩ = some (.int .i64 0) ∧ w3.cell? ⟨w.heap.size + 1, 8, none⟩ = some (.string ⟨#[97]⟩) ∧ w3.cell? ⟨w.heap.size + 1, 9, none⟩ = some (.slice none 0 0) ∧ w3.cell? ⟨w.heap.size + 1, 10, none⟩ = some (.slice none 0 0) := ⟨cellOf O4.out 0, cellOf O4.out 1, cellOf O4.out 2, cellOf O4.out 3, cellOf O4.out 4, cellOf O4.out 5, cellOf O4.out 6, cellOf O4.out 7, cellOf O4.out 8, cellOf O4.out 9, cellOf O4.out 10⟩; have ⟨x0, x1, x2, x3, x4, x5, x6, x7, x8, x9, x10⟩ : w3.cell? ⟨w2.heap.size, 0, none⟩ = some (.int .i64 5) ∧ w3.cell? ⟨w2.heap.size, 1, none⟩ = some (.int .i64 2) ∧ w3.cell? ⟨w2.heap.size, 2, none⟩ = some (.int .i64 1) ∧ w3.cell? ⟨w2.heap.size, 3, none⟩ = some (.int .i64 1) ∧ w3.cell? ⟨w2.heap.size, 4, none⟩ = some (.int .i64 5) ∧ w3.cell? ⟨w2.heap.size, 5, none⟩ = some (.int .i64 2) ∧ w3.cell? ⟨w2.heap.size, 6, none⟩ = some (.int .i64 0) ∧ w3.cell? ⟨w2.heap.size, 7, none⟩ = some (.int .i64 0) ∧ w3.cell? ⟨w2.heap.size, 8, none⟩ = some (.string ⟨#[97]⟩) ∧ w3.cell? ⟨w2.heap.size, 9, none⟩ = some (.slice p7 0 c7) ∧ w3.cell? ⟨w2.heap.size, 10, none⟩ = some (.slice p8 0 c8) := ⟨cellOf P4.out 0, cellOf P4.out 1, cellOf P4.out 2, cellOf P4.out 3, cellOf P4.out 4, cellOf P4.out 5, cellOf P4.out 6, cellOf P4.out 7, cellOf P4.out 8, cellOf P4.out 9, cellOf P4.out 10⟩; clear hb3) | (go_at_call 12; refine Calls_new (HQ.out _ p7 c7 p8 c8) ?_; clear HQ; intro w4 hb4; have O5 : Hid (OpB w4 (w.heap.size + 1) 5 2 1 1 5 2 0 0 [97] none none 0 0 0 0) := O4.out.below hb4.out; have X4 : Hid (Below w.heap.size w w4) := X3.out.trans (hb4.out.mono X3.out.size); have ⟨d0, d1, d2, d3, d4, d5, d6, d7, d8, d9, d10⟩ : w4.cell? ⟨w.heap.size + 1, 0, none⟩ = some (.int .i64 5) ∧ w4.cell? ⟨w.heap.size + 1, 1, none⟩ = some (.int .i64 2) ∧ w4.cell? ⟨w.heap.size + 1, 2, none⟩ = some (.int .i64 1) ∧ w4.cell? ⟨w.heap.size + 1, 3, none⟩ = some (.int .i64 1) ∧ w4.cell? ⟨w.heap.size + 1, 4, none⟩ = some (.int .i64 5) ∧ w4.cell? ⟨w.heap.size + 1, 5, none⟩ = some (.int .i64 2) ∧ w4.cell? ⟨w.heap.size + 1, 6, none⟩ = some (.int .i64 0) ∧ w4.cell? ⟨w.heap.size + 1, 7, none⟩ = some (.int .i64 0) ∧ w4.cell? ⟨w.heap.size + 1, 8, none⟩ = some (.string ⟨#[97]⟩) ∧ w4.cell? ⟨w.heap.size + 1, 9, none⟩ = some (.slice none 0 0) ∧ w4.cell? ⟨w.heap.size + 1, 10, none⟩ = some (.slice none 0 0) := ⟨cellOf O5.out 0, cellOf O5.out 1, cellOf O5.out 2, cellOf O5.out 3, cellOf O5.out 4, cellOf O5.out 5, cellOf O5.out 6, cellOf O5.out 7, cellOf O5.out 8, cellOf O5.out 9, cellOf O5.out 10⟩; clear hb4) | (go_at_call 11; refine Calls_new (HC.out _) ?_; clear HC; intro w5 hb5; have X5 : Hid (Below w.heap.size w w5) := X4.out.trans (hb5.out.mono X4.out.size); clear hb5) | (go_at_call 18; refine Calls_new (trash_any _) ?_; intro w6 hb6; have X6 : Hid (Below w.heap.size w w6) := X5.out.trans (hb6.out.mono X5.out.size); clear hb6) | (go_at_call 19; refine Calls_new (root_any _) ?_; intro w7 hb7; have X7 : Hid (Below w.heap.size w w7) := X6.out.trans (hb7.out.mono X6.out.size); clear hb7) | (go_at_call 20; refine Calls_on (HN.out _) ?_))
  go_ret
  exact ⟨rfl, X7.out⟩

end Go.Proofs.YtegjageenofbjaaGreat.Cd
