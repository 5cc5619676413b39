/-
  The law CodecNone returns true.
-/
import Derived.Test.YthimmgbccpdkmaaBegun
namespace Go.Proofs.Ythimmgbccpdkmaa
open Go.RowKit

theorem make_run (w : World) (n : Nat) (hn : n ≤ 2000000) : ∃ w', (Instr.makeSlice 26 (.int .i64 n) (.int .i64 n)).run Try.prog w = .ok (.slice (some ⟨w.heap.size, 0, none⟩) n n) w' ∧
    Bytes w' (some ⟨w.heap.size, 0, none⟩) (List.replicate n 0#8) ∧ Below w.heap.size w w' := by
  obtain ⟨i0, hi0, hz0, hz1, hz2⟩ := info_parts Try.info5
  obtain ⟨w', h1, h2, h3⟩ := run_make_full (P := Try.prog) w w.heap.size 26 5 i0 (.int .u8 0) 1 Try.underlying26 hi0 hz0 hz1 .i64 .i64 n (by rw [hz2]; omega) (by unfold maxLen; omega) (Nat.le_refl _)
  refine ⟨w', h1, ?_, (Below.refl _ w).grown h3 (Nat.le_refl _) (by simp)⟩
  have h4 : w'.ownsRow w.heap.size 5 1 (.slice (some ⟨w.heap.size, 0, none⟩) n n) n ((List.replicate n 0#8).map u8v) := by
    rw [show (Value.int .u8 0).cells = #[.int .u8 0] from rfl, Nat.mul_one, toList_madeCells_one] at h2
    rw [List.map_replicate]
    exact h2
  obtain ⟨_, p, c, e, _, hb, _⟩ := owns_bytes h4
  simp only [Value.slice.injEq] at e
  rw [e.1]
  exact hb

theorem big_no : wbytes (List.replicate 65537 0#8) (some []) = none := by
  unfold wbytes wnum
  rw [List.length_replicate, if_neg (by decide)]
  rfl
theorem big_yes : ∃ bs, wbytes (List.replicate 65536 0#8) (some []) = some bs ∧ bs.length = 65539 := by
  unfold wbytes wnum
  rw [List.length_replicate, if_pos (by decide)]
  refine ⟨_, rfl, ?_⟩
  rw [show ((65536 : Nat) : Int).toNat = 65536 from rfl, numB_ge (by decide), numB_ge (by decide), numB_lt (by decide), List.length_append, List.length_replicate]
  rfl

/-- A new block is none of a writer's. -/
theorem Wr.fresh {w w' : World} {a : Nat} {s : St} (h : Wr w a s) (hB : Below w.heap.size w w') {b : Nat} (hb : w.heap.size ≤ b) : ¬ wset w' a b := by
  intro hs
  obtain ⟨v, hv⟩ := h
  have hv' := hv.keep (Below.only hB (fun _ => False)) (fun _ _ h => h)
  have := (Wr.lo ⟨v, hv⟩ (hv.sets hv' _ hs)).2
  omega

theorem newWriter_new (w : World) : Calls Try.prog 7 #[] w fun e w' => e = .returned (.pointer (some ⟨w.heap.size, 0, none⟩)) ∧ Wr w' w.heap.size (some []) ∧ Below w.heap.size w w' :=
  (newWriter_any w).mono (by rintro e w' ⟨rfl, rfl⟩; exact ⟨rfl, newWriter_wr w, (below_new _ _).out⟩)

set_option maxRecDepth 8000 in
set_option maxHeartbeats 1000000 in
theorem none_any (w : World) : Calls Try.prog 5 #[] w fun e w' => e = .returned (.bool true) ∧ Below w.heap.size w w' := by
  have F0 : Hid (Few 1 (some [])) := few_small (by decide) (by decide)
  have c7 := newWriter_new w
  go_enter Try.func5, Try.ntmps5
  go_wp2_with (first | (go_at_call 15; refine Calls_on (num_nil _ _) ?_) | (go_at_call 10; refine Calls_on (wdone_nil _) ?_) | (go_at_call 16; refine Calls_on (rnum_nil' _) ?_) | (go_at_call 7; fail))
  refine c7.mono ?_
  rintro e w1 ⟨rfl, hW1, hB1⟩
  obtain ⟨w2, hmk2, hb2, hB2⟩ := make_run w1 65537 (by omega)
  have hW2 := (hW1.keep_below hB2).1
  have HB2 : Hid (Below w.heap.size w w2) := hB1.trans (hB2.mono hB1.size)
  have c17 := bytes_any (some ⟨w1.heap.size, 0, none⟩) (List.replicate 65537 0#8) 65537 w.heap.size _ w2 hW2 F0.out hb2 (fun b o _ e => by cases e; exact hW1.fresh hB2 (Nat.le_refl _))
  rw [List.length_replicate, big_no] at c17
  rw [show ((65537 : Nat) : Int) = 65537 from rfl] at hmk2
  have HW2 : Hid (Wr w2 w.heap.size (some [])) := hW2
  clear hb2 hB2 hW2 hW1 hB1 c7
  go_wp2_with fail
  refine c17.mono ?_
  rintro e w3 ⟨rfl, h3, s3⟩
  have HB3 : Hid (Below w.heap.size w w3) := HB2.out.trans (s3.below HW2.out (Nat.le_refl _))
  have c10 := wdone_bad _ w3 h3
  have c7 := newWriter_new w3
  clear c17 h3 s3 hmk2
  go_wp2_with (first | (go_at_call 10; refine Calls_on c10 ?_) | (go_at_call 7; fail))
  refine c7.mono ?_
  rintro e w4 ⟨rfl, hW4, hB4⟩
  obtain ⟨w5, hmk5, hb5, hB5⟩ := make_run w4 65536 (by omega)
  have hW5 := (hW4.keep_below hB5).1
  have HB5 : Hid (Below w3.heap.size w3 w5) := hB4.trans (hB5.mono hB4.size)
  have c17 := bytes_any (some ⟨w4.heap.size, 0, none⟩) (List.replicate 65536 0#8) 65536 w3.heap.size _ w5 hW5 F0.out hb5 (fun b o _ e => by cases e; exact hW4.fresh hB5 (Nat.le_refl _))
  obtain ⟨bs, hbs, hlen⟩ := big_yes
  rw [List.length_replicate, hbs] at c17
  rw [show ((65536 : Nat) : Int) = 65536 from rfl] at hmk5
  have HW5 : Hid (Wr w5 w3.heap.size (some [])) := hW5
  have HL : Hid (bs.length = 65539) := hlen
  clear hb5 hB5 hW5 hW4 hB4 c7 c10 hbs hlen
  go_wp2_with fail
  refine c17.mono ?_
  rintro e w6 ⟨rfl, h6, s6⟩
  have HB6 : Hid (Below w.heap.size w w6) := HB3.out.trans ((HB5.out.trans (s6.below HW5.out (Nat.le_refl _))).mono HB3.out.size)
  have c10 := wdone_good _ bs w6 h6 (few_small (by rw [HL.out]; decide) (by decide))
  clear c17 h6 s6 hmk5
  go_wp2_with fail
  refine c10.mono ?_
  rintro e w7 ⟨v, rfl, k1, k2⟩
  obtain ⟨_, p, cp, rfl, _, _, _⟩ := owns_bytes k1
  have HB7 : Hid (Below w.heap.size w w7) := HB6.out.trans (k2.mono HB6.out.size)
  have c6 := begun_any w7
  rw [HL.out]
  clear c10 k1 k2
  go_wp2_with fail
  refine c6.mono ?_
  rintro e w8 ⟨rfl, h8⟩
  have HB8 : Hid (Below w.heap.size w w8) := HB7.out.trans (h8.mono HB7.out.size)
  clear c6 h8
  go_wp2_with (first | (go_at_call 18; refine Calls_on (err_nil _) ?_) | (go_at_call 19; refine Calls_on (left_nil _) ?_))
  go_ret
  exact ⟨rfl, HB8.out⟩

end Go.Proofs.Ythimmgbccpdkmaa
