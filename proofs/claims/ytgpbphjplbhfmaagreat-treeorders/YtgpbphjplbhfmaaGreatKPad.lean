import Derived.Test.YtgpbphjplbhfmaaGreatQPs

namespace Go.Proofs.YtgpbphjplbhfmaaGreat.Ck.Y
open Go.RowKit Go.Maps Go.Lib
def bo1 (vb : Nat) : OG := ⟨2, 0, 2, 2, 2, 0, 1, 0, ⟨#[102]⟩, none, 0, 0, some ⟨vb, 0, none⟩, 1, 1⟩
def bo2 : OG := ⟨1, 0, 1, 1, 1, 0, 0, 0, ⟨#[100]⟩, none, 0, 0, none, 0, 0⟩
theorem may1 (vb : Nat) : mayG (bo1 vb) [1] = true := by kernel_rfl
theorem may2 : mayG bo2 [] = true := by kernel_rfl
def bT : List OB := [⟨1, 0, 0, 0, ⟨#[100]⟩, true⟩, ⟨2, 0, 1, 0, ⟨#[102]⟩, false⟩]
theorem bfold (vb : Nat) : FoldT [] 0 [bo2, bo1 vb] bT 0 := by
  refine .cons (StepT.make (.inl rfl) rfl rfl rfl) (.cons (StepT.make (T := [madeO bo2]) (.inr rfl) rfl rfl rfl) ?_)
  exact .nil _ _
theorem bbel1 : Bel bT (2, 0) (1, 0) := .one rfl
theorem bbel0 : Bel bT (2, 0) (0, 0) := Bel.far (show upT bT (2, 0) = some (1, 0) from rfl) (Bel.one rfl)
theorem bpar : parV bT (2, 0) = .tuple #[idv 1 0, .string ⟨#[102]⟩, .bool true] := rfl
theorem bdir : dirT bT 1 0 = true := rfl
theorem bhas : hasT bT (2, 0) = true := rfl
theorem bkids {m : List PI} (h : IsKids bT 1 0 m) : m.length = 1 := by
  have := h.perm.length_eq
  exact this
structure BG (w : World) (F : Nat → Prop) (W : World) (gt A B : Nat) (l : List OG) : Prop where
  tw : TW F W gt l
  a : W.heap[A]? = some (.cells #[.int .i64 1, .int .i64 0] 29 (0, 0))
  b : W.heap[B]? = some (.cells #[.int .i64 2, .int .i64 0] 29 (0, 0))
  na : ¬ F A
  nb : ¬ F B
  lo : ∀ b, F b → w.heap.size ≤ b
  bel : Below w.heap.size w W
section
variable {w : World} {gt A B : Nat} {l : List OG}
theorem BG.next {F : Nat → Prop} {W W' : World} {l' : List OG} (h : BG w F W gt A B l) (ht : TW (growF F W W') W' gt l') (ho : Only F W W') : BG w (growF F W W') W' gt A B l' := by
  have z1 := h.bel.size
  have la := block_lt h.a
  have lb := block_lt h.b
  refine ⟨ht, (ho.block _ la h.na).trans h.a, (ho.block _ lb h.nb).trans h.b, ?_, ?_, fun b hb => ?_, h.bel.trans (ho.below z1 h.lo)⟩
  · rintro (e | e)
    · exact h.na e
    · omega
  · rintro (e | e)
    · exact h.nb e
    · omega
  · rcases hb with hb | hb
    · exact h.lo b hb
    · omega
theorem BG.below {F : Nat → Prop} {W W' : World} (h : BG w F W gt A B l) (hb : Below W.heap.size W W') : BG w F W' gt A B l :=
  ⟨h.tw.below hb, (hb.block _ (block_lt h.a)).trans h.a, (hb.block _ (block_lt h.b)).trans h.b, h.na, h.nb, h.lo, h.bel.trans (hb.mono h.bel.size)⟩
theorem BG.out {F : Nat → Prop} {W' : World} (h : BG w F W' gt A B l) : W'.cell? ⟨A, 0, none⟩ = some (.int .i64 1) ∧ W'.cell? ⟨A, 1, none⟩ = some (.int .i64 0) ∧ W'.cell? ⟨B, 0, none⟩ = some (.int .i64 2) ∧ W'.cell? ⟨B, 1, none⟩ = some (.int .i64 0) ∧ A < W'.heap.size ∧ B < W'.heap.size ∧ Hid (∃ F, BG w F W' gt A B l) := ⟨cellOf h.a 0, cellOf h.a 1, cellOf h.b 0, cellOf h.b 1, block_lt h.a, block_lt h.b, F, h⟩
end
def BGo (w : World) (gt A B : Nat) (l : List OG) (W' : World) : Prop := W'.cell? ⟨A, 0, none⟩ = some (.int .i64 1) ∧ W'.cell? ⟨A, 1, none⟩ = some (.int .i64 0) ∧ W'.cell? ⟨B, 0, none⟩ = some (.int .i64 2) ∧ W'.cell? ⟨B, 1, none⟩ = some (.int .i64 0) ∧ A < W'.heap.size ∧ B < W'.heap.size ∧ Hid (∃ F, BG w F W' gt A B l)
section
variable {w W : World} {gt A B V : Nat}
theorem bg_apply1 {F : Nat → Prop} (h : BG w F W gt A B []) (hv : W.heap[V]? = some (.cells #[.int .i64 1] 2 (0, 0))) : Calls Tryz.prog 9 #[.pointer (some ⟨gt, 0, none⟩), opgv (bo1 V)] W fun e W' => e = .returned (.tuple #[.int .i64 0, .int .i64 0]) ∧ BGo w gt A B [bo1 V] W' := by
  have hin : OpIn W (bo1 V) [1] := ⟨fun _ => ⟨V, 0, rfl, fun j x hj => by
    have := cellOf hv j
    rw [Nat.zero_add, this]
    simpa using hj⟩, rfl, Nat.le_refl _, by decide, (show (0 : Nat) < 9000000000000000000 by decide), (show (⟨#[102]⟩ : ByteArray).size ≤ 1000000 by decide)⟩
  refine (apply_new h.tw hin (may1 V) (fun x hx => by simp at hx) (Nat.zero_le _)).mono ?_
  rintro e W' ⟨i, rfl, hi, h1, h2⟩
  have h0 : i = 0 := by have := hi.le; simpa using this
  subst h0
  exact ⟨rfl, (h.next h1 h2).out⟩
theorem bg_apply2 (h : Hid (∃ F, BG w F W gt A B [bo1 V])) : Calls Tryz.prog 9 #[.pointer (some ⟨gt, 0, none⟩), opgv bo2] W fun e W' => e = .returned (.tuple #[.int .i64 1, .int .i64 0]) ∧ BGo w gt A B [bo2, bo1 V] W' := by
  obtain ⟨F, h⟩ := h.out
  have hin : OpIn W bo2 [] := ⟨Cd.lies_nil _ _, rfl, Nat.le_refl _, by decide, by decide, by decide⟩
  refine (apply_new h.tw hin may2 (fun x hx => by rw [List.mem_singleton.1 hx]; intro e; cases e) (show 1 ≤ 700 by decide)).mono ?_
  rintro e W' ⟨i, rfl, hi, h1, h2⟩
  have h0 : i = 0 := by
    have hle := hi.le
    by_cases h0 : i = 0
    · exact h0
    · have := hi.lo 0 (bo1 V) (by omega) rfl
      exact absurd this (show ¬ lessB 2 0 1 0 = true by decide)
  subst h0
  exact ⟨rfl, (h.next h1 h2).out⟩
theorem bg_parent (h : Hid (∃ F, BG w F W gt A B [bo2, bo1 V])) : Calls Tryz.prog 11 #[.pointer (some ⟨gt, 0, none⟩), idv 2 0] W fun e W' => e = .returned (.tuple #[idv 1 0, .string ⟨#[102]⟩, .bool true]) ∧ BGo w gt A B [bo2, bo1 V] W' := by
  obtain ⟨F, h⟩ := h.out
  refine (parent_any h.tw (bfold V) 2 0).mono ?_
  rintro e W' ⟨rfl, h1, h2⟩
  exact ⟨by rw [bpar], (h.next h1 h2).out⟩
theorem bg_same (h : Hid (∃ F, BG w F W gt A B [bo2, bo1 V])) : Calls Tryz.prog 12 #[idv 1 0, idv 1 0] (W.alloc (.cells #[.int .i64 1, .int .i64 0] 29)) fun e W' => e = .returned (.bool true) ∧ BGo w gt A B [bo2, bo1 V] W' := by
  obtain ⟨F, h⟩ := h.out
  refine (same_any 1 0 1 0 _).mono ?_
  rintro e W' ⟨rfl, hb⟩
  have h1 := h.below (W' := W.alloc (.cells #[.int .i64 1, .int .i64 0] 29)) ((Below.refl W.heap.size W).alloc (Nat.le_refl _) _)
  exact ⟨rfl, (h1.below hb).out⟩
theorem bg_live (h : Hid (∃ F, BG w F W gt A B [bo2, bo1 V])) : Calls Tryz.prog 13 #[.pointer (some ⟨gt, 0, none⟩), idv 2 0] W fun e W' => e = .returned (.bool true) ∧ BGo w gt A B [bo2, bo1 V] W' := by
  obtain ⟨F, h⟩ := h.out
  refine (plive_any h.tw (bfold V) 2 0).mono ?_
  rintro e W' ⟨r, rfl, hr, h1, h2⟩
  exact ⟨by rw [hr.2 (.inr bbel0)], (h.next h1 h2).out⟩
theorem bg_below (h : Hid (∃ F, BG w F W gt A B [bo2, bo1 V])) : Calls Tryz.prog 14 #[.pointer (some ⟨gt, 0, none⟩), idv 2 0, idv 1 0] W fun e W' => e = .returned (.bool true) ∧ BGo w gt A B [bo2, bo1 V] W' := by
  obtain ⟨F, h⟩ := h.out
  refine (pbelow_any h.tw (bfold V) 2 0 1 0).mono ?_
  rintro e W' ⟨r, rfl, hr, h1, h2⟩
  exact ⟨by rw [hr.2 bbel1], (h.next h1 h2).out⟩
theorem bg_len (h : Hid (∃ F, BG w F W gt A B [bo2, bo1 V])) : Calls Tryz.prog 15 #[.pointer (some ⟨gt, 0, none⟩)] W fun e W' => e = .returned (.int .i64 2) ∧ BGo w gt A B [bo2, bo1 V] W' := by
  obtain ⟨F, h⟩ := h.out
  refine (len_any h.tw (bfold V)).mono ?_
  rintro e W' ⟨rfl, h1, h2⟩
  exact ⟨rfl, (h.next h1 h2).out⟩
theorem bg_kids (h : Hid (∃ F, BG w F W gt A B [bo2, bo1 V])) : Calls Tryz.prog 16 #[.pointer (some ⟨gt, 0, none⟩), idv 1 0] W fun e W' => ∃ p c, e = .returned (.slice p 1 c) ∧ BGo w gt A B [bo2, bo1 V] W' := by
  obtain ⟨F, h⟩ := h.out
  refine (pkids_any h.tw (bfold V) 1 0).mono ?_
  rintro e W' ⟨v, m, rfl, hr, hk, _, h1, h2⟩
  obtain ⟨p, c, rfl⟩ := hr.slice
  rw [bkids hk]
  exact ⟨p, c, rfl, (h.next h1 h2).out⟩
theorem bg_dir (h : Hid (∃ F, BG w F W gt A B [bo2, bo1 V])) : Calls Tryz.prog 17 #[.pointer (some ⟨gt, 0, none⟩), idv 1 0] W fun e W' => e = .returned (.bool true) ∧ BGo w gt A B [bo2, bo1 V] W' := by
  obtain ⟨F, h⟩ := h.out
  refine (dir_any h.tw (bfold V) 1 0).mono ?_
  rintro e W' ⟨rfl, h1, h2⟩
  exact ⟨by rw [bdir], (h.next h1 h2).out⟩
theorem bg_has (h : Hid (∃ F, BG w F W gt A B [bo2, bo1 V])) : Calls Tryz.prog 18 #[.pointer (some ⟨gt, 0, none⟩), idv 2 0] W fun e W' => e = .returned (.bool true) ∧ BGo w gt A B [bo2, bo1 V] W' := by
  obtain ⟨F, h⟩ := h.out
  refine (has_any h.tw (bfold V) 2 0).mono ?_
  rintro e W' ⟨rfl, h1, h2⟩
  exact ⟨by rw [bhas], (h.next h1 h2).out⟩
theorem bg_skipped (h : Hid (∃ F, BG w F W gt A B [bo2, bo1 V])) : Calls Tryz.prog 19 #[.pointer (some ⟨gt, 0, none⟩)] W fun e W' => e = .returned (.int .i64 0) ∧ BGo w gt A B [bo2, bo1 V] W' := by
  obtain ⟨F, h⟩ := h.out
  refine (skipped_any h.tw (bfold V)).mono ?_
  rintro e W' ⟨rfl, h1, h2⟩
  exact ⟨rfl, (h.next h1 h2).out⟩
end
set_option maxRecDepth 8000 in
set_option maxHeartbeats 4000000 in
theorem begun_any (w : World) : Calls Tryz.prog 5 #[] w fun e w' => e = .returned (.bool true) ∧ Below w.heap.size w w' := by
  have hN : Calls Tryz.prog 6 #[] w fun e W0 => e = .returned (.pointer (some ⟨w.heap.size, 0, none⟩)) ∧ Calls Tryz.prog 9 #[.pointer (some ⟨w.heap.size, 0, none⟩), opgv (bo1 (W0.heap.size + 1 + 1))] (((W0.alloc (.cells #[.int .i64 1, .int .i64 0] 29)).alloc (.cells #[.int .i64 2, .int .i64 0] 29)).alloc (.cells #[.int .i64 1] 2)) fun e W' => e = .returned (.tuple #[.int .i64 0, .int .i64 0]) ∧ BGo w w.heap.size W0.heap.size (W0.heap.size + 1) [bo1 (W0.heap.size + 1 + 1)] W' := by
    refine (new_any w).mono ?_
    rintro e W0 ⟨rfl, hT, hb⟩
    refine ⟨rfl, ?_⟩
    have hB : Below W0.heap.size W0 (((W0.alloc (.cells #[.int .i64 1, .int .i64 0] 29)).alloc (.cells #[.int .i64 2, .int .i64 0] 29)).alloc (.cells #[.int .i64 1] 2)) := (((Below.refl W0.heap.size W0).alloc (Nat.le_refl _) _).alloc (by simp) _).alloc (by simp; omega) _
    have hl := hT.low
    have z := hb.size
    have hlt := hl w.heap.size rfl
    refine bg_apply1 (F := (· = w.heap.size)) ⟨hT.below hB, ?_, ?_, fun e => by omega, fun e => by omega, fun b hb => by omega, hb.trans (hB.mono z)⟩ ?_
    · rw [heap_alloc_old _ _ (by simp; omega), heap_alloc_old _ _ (by simp)]; exact heap_alloc_new W0 _
    · rw [heap_alloc_old _ _ (by simp)]
      have := heap_alloc_new (W0.alloc (.cells #[.int .i64 1, .int .i64 0] 29)) (.cells #[.int .i64 2, .int .i64 0] 29)
      simpa using this
    · have := heap_alloc_new ((W0.alloc (.cells #[.int .i64 1, .int .i64 0] 29)).alloc (.cells #[.int .i64 2, .int .i64 0] 29)) (.cells #[.int .i64 1] 2)
      simpa using this
  unfold bo1 at hN
  go_enter Tryz.func5, Tryz.ntmps5
  go_wp2_with (first
    | (go_at_call 6; refine hN.mono ?_; rintro e W0 ⟨rfl, hA1⟩; clear hN; obtain ⟨A, hA⟩ : ∃ A, A = W0.heap.size := ⟨_, rfl⟩; have HA0 : Hid (A = W0.heap.size) := hA; clear hA)
    | (go_at_call 9; refine hA1.mono ?_; rintro e W1 ⟨rfl, a0, a1, b0, b1, la, lb, hB1⟩; clear hA1; have hA2 := bg_apply2 (V := W0.heap.size + 1 + 1) hB1; unfold bo2 at hA2; clear hB1)
    | (go_at_call 9; refine hA2.mono ?_; rintro e W2 ⟨rfl, a20, a21, b20, b21, la2, lb2, hB2⟩; clear hA2 a0 a1 b0 b1 la lb)
    | (go_at_call 11; refine (bg_parent (V := W0.heap.size + 1 + 1) hB2).mono ?_; rintro e W3 ⟨rfl, a30, a31, b30, b31, la3, lb3, hB3⟩; clear hB2 a20 a21 b20 b21 la2 lb2)
    | (go_at_call 12; refine (bg_same (V := W0.heap.size + 1 + 1) hB3).mono ?_; rintro e W4 ⟨rfl, a40, a41, b40, b41, la4, lb4, hB4⟩; clear hB3 a30 a31 b30 b31 la3 lb3)
    | (go_at_call 13; refine (bg_live (V := W0.heap.size + 1 + 1) hB4).mono ?_; rintro e W5 ⟨rfl, a50, a51, b50, b51, la5, lb5, hB5⟩; clear hB4 a40 a41 b40 b41 la4 lb4)
    | (go_at_call 14; refine (bg_below (V := W0.heap.size + 1 + 1) hB5).mono ?_; rintro e W6 ⟨rfl, a60, a61, b60, b61, la6, lb6, hB6⟩; clear hB5 a50 a51 b50 b51 la5 lb5)
    | (go_at_call 15; refine (bg_len (V := W0.heap.size + 1 + 1) hB6).mono ?_; rintro e W7 ⟨rfl, a70, a71, b70, b71, la7, lb7, hB7⟩; clear hB6 a60 a61 b60 b61 la6 lb6)
    | (go_at_call 16; refine (bg_kids (V := W0.heap.size + 1 + 1) hB7).mono ?_; rintro e W8 ⟨p8, c8, rfl, a80, a81, b80, b81, la8, lb8, hB8⟩; clear hB7 a70 a71 b70 b71 la7 lb7)
    | (go_at_call 17; refine (bg_dir (V := W0.heap.size + 1 + 1) hB8).mono ?_; rintro e W9 ⟨rfl, a90, a91, b90, b91, la9, lb9, hB9⟩; clear hB8 a80 a81 b80 b81 la8 lb8)
    | (go_at_call 18; refine (bg_has (V := W0.heap.size + 1 + 1) hB9).mono ?_; rintro e Wa ⟨rfl, aa0, aa1, ba0, ba1, laa, lba, hBa⟩; clear hB9 a90 a91 b90 b91 la9 lb9)
    | (go_at_call 19; refine (bg_skipped (V := W0.heap.size + 1 + 1) hBa).mono ?_; rintro e Wb ⟨rfl, ab0, ab1, bb0, bb1, lab, lbb, hBb⟩; clear hBa aa0 aa1 ba0 ba1 laa lba))
  go_ret
  obtain ⟨F, hF⟩ := hBb.out
  exact ⟨rfl, hF.bel⟩
end Go.Proofs.YtgpbphjplbhfmaaGreat.Ck.Y
