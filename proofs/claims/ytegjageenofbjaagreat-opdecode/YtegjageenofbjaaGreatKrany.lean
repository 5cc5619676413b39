/-
  A reader: what is read of it; NewReader, Done.
-/
import Derived.Test.YtegjageenofbjaaGreatKrnum
namespace Go.Proofs.YtegjageenofbjaaGreat.Cd
open Go.RowKit

theorem rnum_nil' (w : World) : Calls Tryz.prog 48 #[.pointer none] w fun e w' => e = .returned (.int .i64 0) ∧ w' = w := by
  go_enter Tryz.func48, Tryz.ntmps48
  go_wp2_with (go_at_call 82; refine Calls_on (rnumber_nil _ _) ?_)
  go_ret
  exact ⟨rfl, rfl⟩

theorem rnum_any (a : Nat) (s : St) (w : World) (h : Rd 92 w a s) (hl : Small s) : Calls Tryz.prog 48 #[.pointer (some ⟨a, 0, none⟩)] w (Did w a (.int .i64 (rnum 4611686018427387904 s).1) (rnum 4611686018427387904 s).2) := by
  have c := rnumber_any 4611686018427387904 a s w h hl
  generalize rnum 4611686018427387904 s = r at c ⊢
  clear h hl
  go_enter Tryz.func48, Tryz.ntmps48
  go_wp2_with fail
  refine (show Calls Tryz.prog 82 #[.pointer (some ⟨a, 0, none⟩), .int .i64 4611686018427387904] _ _ from c).mono ?_
  rintro e w1 ⟨rfl, h1⟩
  have H1 : Hid _ := h1
  clear c h1
  go_wp2
  go_ret
  exact ⟨rfl, H1.out⟩
theorem rcount_any (a : Nat) (s : St) (w : World) (h : Rd 92 w a s) (hl : Small s) : Calls Tryz.prog 88 #[.pointer (some ⟨a, 0, none⟩)] w (Did w a (.int .i64 (rnum 1152921504606846976 s).1) (rnum 1152921504606846976 s).2) := by
  have c := rnumber_any 1152921504606846976 a s w h hl
  generalize rnum 1152921504606846976 s = r at c ⊢
  clear h hl
  go_enter Tryz.func88, Tryz.ntmps88
  go_wp2_with fail
  refine (show Calls Tryz.prog 82 #[.pointer (some ⟨a, 0, none⟩), .int .i64 1152921504606846976] _ _ from c).mono ?_
  rintro e w1 ⟨rfl, h1⟩
  have H1 : Hid _ := h1
  clear c h1
  go_wp2
  go_ret
  exact ⟨rfl, H1.out⟩
theorem rtime_any (a : Nat) (s : St) (w : World) (h : Rd 92 w a s) (hl : Small s) : Calls Tryz.prog 84 #[.pointer (some ⟨a, 0, none⟩)] w (Did w a (.int .i64 (rnum 1152921504606846976 s).1) (rnum 1152921504606846976 s).2) := by
  have c := rnumber_any 1152921504606846976 a s w h hl
  generalize rnum 1152921504606846976 s = r at c ⊢
  clear h hl
  go_enter Tryz.func84, Tryz.ntmps84
  go_wp2_with fail
  refine (show Calls Tryz.prog 82 #[.pointer (some ⟨a, 0, none⟩), .int .i64 1152921504606846976] _ _ from c).mono ?_
  rintro e w1 ⟨rfl, h1⟩
  have H1 : Hid _ := h1
  clear c h1
  go_wp2
  go_ret
  exact ⟨rfl, H1.out⟩
theorem rnode_any (a : Nat) (s : St) (w : World) (h : Rd 92 w a s) (hl : Small s) : Calls Tryz.prog 85 #[.pointer (some ⟨a, 0, none⟩)] w (Did w a (.int .i64 (rnum 63 s).1) (rnum 63 s).2) := by
  have c := rnumber_any 63 a s w h hl
  generalize rnum 63 s = r at c ⊢
  clear h hl
  go_enter Tryz.func85, Tryz.ntmps85
  go_wp2_with fail
  refine (show Calls Tryz.prog 82 #[.pointer (some ⟨a, 0, none⟩), .int .i64 63] _ _ from c).mono ?_
  rintro e w1 ⟨rfl, h1⟩
  have H1 : Hid _ := h1
  clear c h1
  go_wp2
  go_ret
  exact ⟨rfl, H1.out⟩
/-- Bytes that are taken lie where the reader holds them. -/
theorem run_any (a : Nat) (s : St) (w : World) (h : Rd 92 w a s) (hl : Small s) : Calls Tryz.prog 86 #[.pointer (some ⟨a, 0, none⟩)] w fun e w' => ∃ p c, Did w a (.slice p (rbytes s).1.length c) (rbytes s).2 e w' ∧ Bytes w' p (rbytes s).1 := by
  have c := rnumber_any 65536 a s w h hl
  have hlen := rnum_len 65536 s
  have hbad := rnum_bad (most := 65536) (s := s)
  have HR : Hid (rbytes s = match (rnum 65536 s).2 with | none => ([], none) | some bs => if bs.length < (rnum 65536 s).1 then ([], none) else (bs.take (rnum 65536 s).1, some (bs.drop (rnum 65536 s).1))) := rfl
  generalize rnum 65536 s = r at c hlen hbad HR
  generalize rbytes s = y at HR ⊢
  obtain ⟨n, s1⟩ := r
  simp only at c hlen hbad HR
  have HL : Hid (Small s1) := Nat.le_trans hlen hl
  clear h hl hlen
  go_enter Tryz.func86, Tryz.ntmps86
  go_wp2_with fail
  refine (show Calls Tryz.prog 82 #[.pointer (some ⟨a, 0, none⟩), .int .i64 65536] _ _ from c).mono ?_
  rintro e w1 ⟨rfl, h1, h2⟩
  have H1 : Hid (Rd 92 w1 a s1) := h1
  have H2 : Hid (Only (· = a) w w1) := h2
  clear c h1 h2
  cases s1 with
  | none =>
    have hn := hbad rfl
    subst hn
    have HR' : Hid (y = ([], none)) := HR
    have c64 := take_bad a w1 H1.out
    clear hbad
    go_wp2_with (go_at_call 105; refine Calls_on c64 ?_)
    go_ret
    rw [HR'.out]
    exact ⟨none, 0, ⟨rfl, H1.out, H2.out⟩, bytes_nil _ _⟩
  | some bs =>
    clear hbad
    by_cases hlt : bs.length < n
    · have HR' : Hid (y = ([], none)) := HR.out.trans (if_pos hlt)
      have c64 := take_more a n bs w1 H1.out hlt
      clear hlt
      go_wp2_with fail
      refine c64.mono ?_
      rintro e w2 ⟨rfl, k1, k2⟩
      have K1 : Hid (Rd 92 w2 a none) := k1
      have K2 : Hid (Only (· = a) w1 w2) := k2
      clear c64 k1 k2
      go_wp2
      go_ret
      rw [HR'.out]
      exact ⟨none, 0, ⟨rfl, K1.out, H2.out.next K2.out⟩, bytes_nil _ _⟩
    · have HR' : Hid (y = (bs.take n, some (bs.drop n))) := HR.out.trans (if_neg hlt)
      have c64 := take_good a n bs w1 H1.out HL.out (by omega)
      have HN : Hid ((bs.take n).length = n) := by show _ = _; simp; omega
      clear hlt
      go_wp2_with fail
      refine c64.mono ?_
      rintro e w2 ⟨p, c, ⟨rfl, k1, k2⟩, k3, k4⟩
      have K1 : Hid (Rd 92 w2 a (some (bs.drop n))) := k1
      have K2 : Hid (Only (· = a) w1 w2) := k2
      have K3 : Hid (Bytes w1 p (bs.take n)) := k3
      clear c64 k1 k2 k3
      go_wp2
      go_ret
      rw [HR'.out]
      refine ⟨p, c, ⟨by rw [HN.out]; rfl, K1.out, H2.out.next K2.out⟩, K2.out.bytes K3.out (fun b o hl e hba => ?_)⟩
      subst hba; subst e
      obtain ⟨p', c', _, hh, _⟩ := H1.out.at_
      exact bytes_apart hh ⟨_, _, _, rfl⟩ K3.out hl rfl

theorem rbytes_le (s : St) : (rbytes s).1.length ≤ 65536 := by
  have := rnum_le 65536 s
  unfold rbytes
  split
  · simp
  · split
    · simp
    · simp; omega

/-- Only block a, and what is new. -/
theorem Only.more {a : Nat} {w w1 w2 : World} (h : Only (· = a) w w1) (k : Below w1.heap.size w1 w2) : Only (· = a) w w2 := h.next (Below.only k _)

theorem bytes_read (a : Nat) (s : St) (w : World) (h : Rd 92 w a s) (hl : Small s) : Calls Tryz.prog 51 #[.pointer (some ⟨a, 0, none⟩)] w fun e w' => ∃ p c, Did w a (.slice p (rbytes s).1.length c) (rbytes s).2 e w' ∧ Bytes w' p (rbytes s).1 ∧ (∀ b o, 0 < (rbytes s).1.length → p = some ⟨b, o, none⟩ → w.heap.size ≤ b) := by
  have c := run_any a s w h hl
  have HN : Hid ((rbytes s).1.length ≤ 1000000000) := Nat.le_trans (rbytes_le s) (by decide)
  generalize rbytes s = y at c HN ⊢
  clear h hl
  go_enter Tryz.func51, Tryz.ntmps51
  go_wp2_with fail
  refine c.mono ?_
  rintro e w1 ⟨p, cp, ⟨rfl, h1, h2⟩, h3⟩
  have c32 := clone_any p y.1 cp w1 HN.out h3
  have H1 : Hid (Rd 92 w1 a y.2) := h1
  have H2 : Hid (Only (· = a) w w1) := h2
  clear c h1 h2 h3
  go_wp2_with fail
  refine c32.mono ?_
  rintro e w2 ⟨v, rfl, k1, k2⟩
  obtain ⟨_, p', c', rfl, _, k3, k4⟩ := owns_bytes k1
  have K1 : Hid (w2.ownsRow w1.heap.size 5 1 (.slice p' y.1.length c') y.1.length (y.1.map u8v)) := k1
  have K2 : Hid (Below w1.heap.size w1 w2) := k2
  have K3 : Hid (Bytes w2 p' y.1) := k3
  clear c32 k1 k2 k3 k4
  go_wp2
  go_ret
  refine ⟨p', c', ⟨rfl, H1.out.below K2.out, H2.out.more K2.out⟩, K3.out, fun b o _ e => ?_⟩
  subst e
  exact Nat.le_trans H2.out.size (own_lt K1.out rfl).1

theorem text_read (a : Nat) (s : St) (w : World) (h : Rd 92 w a s) (hl : Small s) : Calls Tryz.prog 50 #[.pointer (some ⟨a, 0, none⟩)] w (Did w a (.string (strOf (rbytes s).1)) (rbytes s).2) := by
  have c := run_any a s w h hl
  generalize rbytes s = y at c ⊢
  clear h hl
  go_enter Tryz.func50, Tryz.ntmps50
  go_wp2_with fail
  refine c.mono ?_
  rintro e w1 ⟨p, cp, ⟨rfl, h1, h2⟩, h3⟩
  have hs := run_str w1 p y.1 cp h3
  have H1 : Hid (Rd 92 w1 a y.2) := h1
  have H2 : Hid (Only (· = a) w w1) := h2
  clear c h1 h2 h3
  go_wp2
  go_ret
  exact ⟨rfl, H1.out, H2.out⟩

set_option maxRecDepth 8000 in
set_option maxHeartbeats 400000 in
theorem newReader_any (p : Option Addr) (bs : List (BitVec 8)) (cp : Nat) (w : World) (hl : bs.length ≤ 1000000000) (hb : Bytes w p bs) :
    Calls Tryz.prog 47 #[.slice p bs.length cp] w fun e w' => ∃ a, e = .returned (.pointer (some ⟨a, 0, none⟩)) ∧ w.heap.size ≤ a ∧ Rd 92 w' a (some bs) ∧ Below w.heap.size w w' := by
  have c := clone_any p bs cp w hl hb
  clear hl hb
  go_enter Tryz.func47, Tryz.ntmps47
  go_wp2_with fail
  refine c.mono ?_
  rintro e w1 ⟨v, rfl, k1, k2⟩
  obtain ⟨_, p', c', rfl, k5, k3, k4⟩ := owns_bytes k1
  have HP : Hid (Plain w1.heap.size p') := owns_plain k1
  have K2 : Hid (Below w.heap.size w w1) := k2
  have K3 : Hid (Bytes w1 p' bs) := k3
  have K5 : Hid (bs.length ≤ c') := k5
  have K6 : Hid (Tg w1 p' bs) := fun _ g o e => by obtain ⟨_, _, cur, hg⟩ := own_lt k1 (k4 g o e); exact ⟨cur, _, hg⟩
  clear c k1 k2 k3 k4 k5
  go_wp2
  go_ret
  refine ⟨_, rfl, K2.out.size, ⟨p', c', HP.out, heap_alloc_new w1 _, K5.out, below_bytes (below_new _ _).out K3.out, (Below.only (below_new _ _).out (fun _ => False)).tg K6.out (fun _ _ _ _ f => f)⟩, K2.out.alloc K2.out.size _⟩

set_option maxRecDepth 8000 in
set_option maxHeartbeats 400000 in
theorem rdone_any (a : Nat) (s : St) (w : World) (h : Rd 92 w a s) (hl : Small s) : Calls Tryz.prog 53 #[.pointer (some ⟨a, 0, none⟩)] w fun e w' => e = .returned (.int .i64 (if s = some [] then 0 else 74)) ∧ w' = w := by
  have c19 := left_any a s w h
  cases s with
  | none =>
    have c18 := err_bad a w h
    rw [show (((none : St).getD []).length : Int) = 0 from rfl] at c19
    rw [if_neg (by simp)]
    clear h hl
    go_enter Tryz.func53, Tryz.ntmps53
    go_wp2_with (first | (go_at_call 90; refine Calls_on c19 ?_) | (go_at_call 91; refine Calls_on c18 ?_))
    go_ret
    exact ⟨rfl, rfl⟩
  | some bs =>
    cases bs with
    | nil =>
      have c18 := err_good a [] w h
      rw [show (((some [] : St).getD []).length : Int) = 0 from rfl] at c19
      rw [if_pos rfl]
      clear h hl
      go_enter Tryz.func53, Tryz.ntmps53
      go_wp2_with (first | (go_at_call 90; refine Calls_on c19 ?_) | (go_at_call 91; refine Calls_on c18 ?_))
      go_ret
      exact ⟨rfl, rfl⟩
    | cons x l =>
      rw [show ((some (x :: l) : St).getD []).length = (x :: l).length from rfl] at c19
      have hp : (0 : Int) < ((x :: l).length : Int) := by rw [List.length_cons]; omega
      rw [if_neg (by simp)]
      generalize (x :: l).length = k at c19 hp
      clear h hl
      go_enter Tryz.func53, Tryz.ntmps53
      go_wp2_with (go_at_call 90; refine Calls_on c19 ?_)
      go_ret
      exact ⟨rfl, rfl⟩

end Go.Proofs.YtegjageenofbjaaGreat.Cd
