/-
  Unframe of the document's own text.
-/
import Derived.Test.YtlmnhnimneimkaaDoorUnfr
namespace Go.Proofs.YtlmnhnimneimkaaDoor
open Go.RowKit

theorem below_drewN {B : Nat} {w W : World} (h : Below B w W) (n : Nat) : Below B w (W.drewN n) := ⟨h.os, h.tape, h.output, h.size, h.block⟩

/-- A row that the call owns, as a slice. -/
theorem owns_slice {W : World} {base : Nat} {v : Value} {n : Nat} {bs : List (BitVec 8)} (h : W.ownsRow base 5 1 v n (bs.map u8v)) : ∃ q c, v = .slice q n c ∧ Bytes W q bs := by
  by_cases hn : 0 < n
  · obtain ⟨g, cap, rfl, _, hb⟩ := owns_bytes h hn
    exact ⟨_, _, rfl, hb⟩
  · have hl := h.1
    rw [List.length_map] at hl
    have h0 : bs = [] := List.eq_nil_of_length_eq_zero (by omega)
    subst h0
    rcases h.2 with ⟨rfl, rfl⟩ | ⟨g, cap, cur, rfl, _⟩
    · exact ⟨_, _, rfl, bytes_nil _ _⟩
    · exact ⟨_, _, rfl, bytes_nil _ _⟩

theorem owns_nil (W : World) (base : Nat) : W.ownsRow base 5 1 (.slice none 0 0) 0 [] := ⟨rfl, .inl ⟨rfl, rfl⟩⟩

set_option maxHeartbeats 400000 in
theorem runframe_short (p : Option Addr) (bs : List (BitVec 8)) (cp : Nat) (w : World) (h : bs.length < 8) :
    Calls Tryd.prog 17 #[.slice p bs.length cp] w (Unframed w bs) := by
  have hu : unf bs = ([], 0, 22) := by unfold unf; rw [if_pos h]
  have hI : (bs.length : Int) < 8 := by omega
  have HU : Hid (unf bs = ([], 0, 22)) := hu
  clear hu
  go_enter Tryd.func17, Tryd.ntmps17
  go_wp2
  go_ret3
  unfold Unframed
  rw [HU.out]
  exact ⟨none, 0, rfl, bytes_nil _ _, Below.refl _ _⟩

set_option maxHeartbeats 1000000 in
theorem runframe_long (g o : Nat) (bs : List (BitVec 8)) (cp : Nat) (w : World) (h : 8 ≤ bs.length) (hlen : bs.length < 1099511627776) (hcap : bs.length ≤ cp) (hb : Bytes w (some ⟨g, o, none⟩) bs) :
    Calls Tryd.prog 17 #[.slice (some ⟨g, o, none⟩) bs.length cp] w (Unframed w bs) := by
  obtain ⟨b0, b1, b2, b3, e4⟩ := list4 (l := bs.take 4) (by rw [List.length_take]; omega)
  obtain ⟨b4, b5, b6, b7, e8⟩ := list4 (l := (bs.drop 4).take 4) (by rw [List.length_take, List.length_drop]; omega)
  have hB0 : Bytes w (some ⟨g, o, none⟩) [b0, b1, b2, b3] := by have := bytes_drop hb 0 4; rw [List.drop_zero, e4] at this; exact this
  have hB4 : Bytes w (some ⟨g, o + 4, none⟩) [b4, b5, b6, b7] := by have := bytes_drop hb 4 4; rw [e8] at this; exact this
  obtain ⟨n, hn⟩ : ∃ n, n = leN [b0, b1, b2, b3] := ⟨_, rfl⟩
  obtain ⟨m, hm⟩ : ∃ m, m = leN [b4, b5, b6, b7] := ⟨_, rfl⟩
  have hn32 : n < 4294967296 := by rw [hn]; exact Nat.lt_of_lt_of_eq (leN_lt [b0, b1, b2, b3]) (by simp)
  have hm32 : m < 4294967296 := by rw [hm]; exact Nat.lt_of_lt_of_eq (leN_lt [b4, b5, b6, b7]) (by simp)
  have c22a : ∀ c, Calls Tryd.prog 22 #[.slice (some ⟨g, o, none⟩) 4 c] w fun e w' => e = .returned (.int .i64 (n : Nat)) ∧ Below w.heap.size w w' := fun c => by
    rw [hn]; refine (num_any g o c b0 b1 b2 b3 w hB0).mono ?_; rintro e w' ⟨rfl, k, rfl⟩; exact ⟨rfl, below_drewN (Below.refl _ _) _⟩
  have c22b : ∀ W c, Below w.heap.size w W → Calls Tryd.prog 22 #[.slice (some ⟨g, o + 4, none⟩) 4 c] W fun e w' => e = .returned (.int .i64 (m : Nat)) ∧ Below w.heap.size w w' := fun W c hW => by
    rw [hm]; refine (num_any g (o + 4) c b4 b5 b6 b7 W (below_bytes hW hB4)).mono ?_; rintro e w' ⟨rfl, k, rfl⟩; exact ⟨rfl, below_drewN hW _⟩
  have hu : unf bs = if 1048576 < n ∨ bs.length - 8 < n then ([], 0, 22) else if (crcSum ((bs.drop 8).take n)).toNat ≠ m then ([], 0, 74) else ((bs.drop 8).take n, 8 + n, 0) := by
    unfold unf; rw [if_neg (by omega), e4, e8, ← hn, ← hm]
  have hI : ¬ (bs.length : Int) < 8 := by omega
  have HU : Hid (unf bs = if 1048576 < n ∨ bs.length - 8 < n then ([], 0, 22) else if (crcSum ((bs.drop 8).take n)).toNat ≠ m then ([], 0, 74) else ((bs.drop 8).take n, 8 + n, 0)) := hu
  have HB : Hid (Bytes w (some ⟨g, o, none⟩) bs) := hb
  clear hu hn hm e4 e8 hB0 hB4 hb
  by_cases h1 : 1048576 < n
  · have h1I : (1048576 : Int) < n := by omega
    go_enter Tryd.func17, Tryd.ntmps17
    go_wp2_with (go_at_call 22; refine (c22a _).mono ?_; rintro e w1 ⟨rfl, hB1⟩)
    go_ret3
    unfold Unframed
    rw [HU.out, if_pos (.inl h1)]
    exact ⟨none, 0, rfl, bytes_nil _ _, hB1⟩
  have h1I : ¬ (1048576 : Int) < n := by omega
  by_cases h2 : bs.length - 8 < n
  · have h2I : (bs.length : Int) - 8 < n := by omega
    go_enter Tryd.func17, Tryd.ntmps17
    go_wp2_with (go_at_call 22; refine (c22a _).mono ?_; rintro e w1 ⟨rfl, hB1⟩)
    go_ret3
    unfold Unframed
    rw [HU.out, if_pos (.inr h2)]
    exact ⟨none, 0, rfl, bytes_nil _ _, hB1⟩
  have h2I : ¬ (bs.length : Int) - 8 < n := by omega
  obtain ⟨inn, hinn⟩ : ∃ inn, inn = (bs.drop 8).take n := ⟨_, rfl⟩
  have hil : inn.length = n := by rw [hinn, List.length_take, List.length_drop]; omega
  have hBi : Bytes w (some ⟨g, o + 8, none⟩) inn := by rw [hinn]; exact bytes_drop HB.out 8 n
  have HU2 : Hid (unf bs = if (crcSum inn).toNat ≠ m then ([], 0, 74) else (inn, 8 + n, 0)) := by
    have := HU.out
    rw [if_neg (by omega), ← hinn] at this
    exact this
  clear hinn HU
  subst hil
  obtain ⟨cs, hcs⟩ : ∃ cs, cs = (crcSum inn).toNat := ⟨_, rfl⟩
  have hcs32 : cs < 4294967296 := by rw [hcs]; exact lt32 _
  rw [← hcs] at HU2
  have tok : True := trivial
  by_cases hc8 : cp = 8
  · have hnil : inn = [] := List.eq_nil_of_length_eq_zero (by omega)
    have c12 : ∀ W, Below w.heap.size w W → Calls Tryd.prog 12 #[.slice (some ⟨g, o, none⟩) 0 0] W fun e w' => e = .returned (.int .u32 (cs : Int)) ∧ w' = W := fun W hW => by
      have := refOf_any (some ⟨g, o, none⟩) inn 0 W (by omega) (by rw [hnil]; exact bytes_nil _ _)
      rw [show u32v (crcSum inn) = .int .u32 (cs : Int) by rw [hcs], hnil] at this
      exact this
    obtain ⟨inn', hi', hl'⟩ : ∃ inn' : List (BitVec 8), inn' = inn ∧ inn'.length = 0 := ⟨inn, rfl, by rw [hnil]; rfl⟩
    rw [← hi'] at HU2
    have HQ : Hid (Bytes w (some ⟨g, o, none⟩) inn') := by rw [hi', hnil]; exact bytes_nil _ _
    subst hnil
    clear hcs hi' hBi HB
    by_cases hmc : cs = m
    · have hmI : ((m : Int) != (cs : Int)) = false := by simp; omega
      have HU3 : Hid (unf bs = (inn', 8 + 0, 0)) := by have := HU2.out; rw [if_neg (fun hx => hx hmc), hl'] at this; exact this
      clear HU2
      go_enter Tryd.func17, Tryd.ntmps17
      go_wp2_with (first
        | (go_at_call 22; refine (c22a _).mono ?_; rintro e w1 ⟨rfl, hB1⟩; clear c22a)
        | (go_at_call 22; refine (c22b _ _ hB1).mono ?_; rintro e w2 ⟨rfl, hB2⟩; clear c22b)
        | (go_at_call 12; refine Calls_on (c12 _ hB2) ?_)
        | (have tk := tok
           refine wpList_append_bytes rfl _ _ rfl w.heap.size _ 0 [] rfl (owns_nil _ _) (some ⟨g, o, none⟩) inn' 0 (by rw [hl']; rfl) (below_bytes hB2 HQ.out) (by omega) hB2.size ?_
           clear tk tok
           intro v1 w3 hown1 hg1 _
           have HO1 : Hid (w3.ownsRow w.heap.size 5 1 v1 (0 + inn'.length) ([] ++ inn'.map u8v)) := hown1
           have HB3 : Hid (Below w.heap.size w w3) := hB2.grown hg1 hB2.size (by intro k hk; cases hk)
           clear hown1 hg1))
      go_ret3
      unfold Unframed
      rw [HU3.out]
      have ho := HO1.out
      rw [Nat.zero_add, List.nil_append] at ho
      obtain ⟨q', c', rfl, hbq⟩ := owns_slice ho
      refine ⟨q', c', ?_, hbq, HB3.out⟩
      rw [hl']
      rfl
    · have hmI : ((m : Int) != (cs : Int)) = true := by simp; omega
      have HU3 : Hid (unf bs = ([], 0, 74)) := by have := HU2.out; rw [if_pos hmc] at this; exact this
      clear HU2
      go_enter Tryd.func17, Tryd.ntmps17
      go_wp2_with (first
        | (go_at_call 22; refine (c22a _).mono ?_; rintro e w1 ⟨rfl, hB1⟩; clear c22a)
        | (go_at_call 22; refine (c22b _ _ hB1).mono ?_; rintro e w2 ⟨rfl, hB2⟩; clear c22b)
        | (go_at_call 12; refine Calls_on (c12 _ hB2) ?_))
      go_ret3
      unfold Unframed
      rw [HU3.out]
      exact ⟨none, 0, rfl, bytes_nil _ _, hB2⟩
  · have c12 : ∀ W, Below w.heap.size w W → Calls Tryd.prog 12 #[.slice (some ⟨g, o + 8, none⟩) inn.length (cp - 8)] W fun e w' => e = .returned (.int .u32 (cs : Int)) ∧ w' = W := fun W hW => by
      have := refOf_any (some ⟨g, o + 8, none⟩) inn (cp - 8) W (by omega) (below_bytes hW hBi)
      rw [show u32v (crcSum inn) = .int .u32 (cs : Int) by rw [hcs]] at this
      exact this
    obtain ⟨inn', hi', hl'⟩ : ∃ inn' : List (BitVec 8), inn' = inn ∧ Hid (inn'.length = inn.length) := ⟨inn, rfl, rfl⟩
    have hl' := hl'.out
    rw [← hi'] at HU2
    have HQ : Hid (Bytes w (some ⟨g, o + 8, none⟩) inn') := by rw [hi']; exact hBi
    have HL' : Hid (inn'.length = inn.length) := hl'
    clear hcs hi' hBi HB
    generalize inn.length = n at *
    by_cases hmc : cs = m
    · have hmI : ((m : Int) != (cs : Int)) = false := by simp; omega
      have HU3 : Hid (unf bs = (inn', 8 + n, 0)) := by have := HU2.out; rw [if_neg (fun hx => hx hmc), hl'] at this; exact this
      clear HU2
      go_enter Tryd.func17, Tryd.ntmps17
      go_wp2_with (first
        | (go_at_call 22; refine (c22a _).mono ?_; rintro e w1 ⟨rfl, hB1⟩; clear c22a)
        | (go_at_call 22; refine (c22b _ _ hB1).mono ?_; rintro e w2 ⟨rfl, hB2⟩; clear c22b)
        | (go_at_call 12; refine Calls_on (c12 _ hB2) ?_)
        | (have tk := tok
           refine wpList_append_bytes rfl _ _ rfl w.heap.size _ 0 [] rfl (owns_nil _ _) (some ⟨g, o + 8, none⟩) inn' (cp - 8) (by rw [hl']; rfl) (below_bytes hB2 HQ.out) (by omega) hB2.size ?_
           clear tk tok
           intro v1 w3 hown1 hg1 _
           have HO1 : Hid (w3.ownsRow w.heap.size 5 1 v1 (0 + inn'.length) ([] ++ inn'.map u8v)) := hown1
           have HB3 : Hid (Below w.heap.size w w3) := hB2.grown hg1 hB2.size (by intro k hk; cases hk)
           clear hown1 hg1))
      go_ret3
      unfold Unframed
      rw [HU3.out]
      have ho := HO1.out
      rw [Nat.zero_add, List.nil_append] at ho
      obtain ⟨q', c', rfl, hbq⟩ := owns_slice ho
      refine ⟨q', c', ?_, hbq, HB3.out⟩
      rw [hl']
      rfl
    · have hmI : ((m : Int) != (cs : Int)) = true := by simp; omega
      have HU3 : Hid (unf bs = ([], 0, 74)) := by have := HU2.out; rw [if_pos hmc] at this; exact this
      clear HU2
      go_enter Tryd.func17, Tryd.ntmps17
      go_wp2_with (first
        | (go_at_call 22; refine (c22a _).mono ?_; rintro e w1 ⟨rfl, hB1⟩; clear c22a)
        | (go_at_call 22; refine (c22b _ _ hB1).mono ?_; rintro e w2 ⟨rfl, hB2⟩; clear c22b)
        | (go_at_call 12; refine Calls_on (c12 _ hB2) ?_))
      go_ret3
      unfold Unframed
      rw [HU3.out]
      exact ⟨none, 0, rfl, bytes_nil _ _, hB2⟩

end Go.Proofs.YtlmnhnimneimkaaDoor
