/-
  Take, Run, Set, Give of package bitmap.
-/
import Derived.Test.YtndefmchaohikaaDoorMnext
namespace Go.Proofs.YtndefmchaohikaaDoor
open Go.RowKit

theorem only_drewN {S : Nat → Prop} {w w' : World} (h : ∃ k, w' = w.drewN k) : Only S w w' := by
  obtain ⟨k, rfl⟩ := h
  exact (Only.refl S w).drewN k
theorem MapAt.still {w w' : World} {m : MS} (h : MapAt w m) (hk : ∃ k, w' = w.drewN k) : MapAt w' m := by
  obtain ⟨k, rfl⟩ := hk
  exact h.drewN k
theorem Tab64.still {w w' : World} (h : Tab64 w) (hk : ∃ k, w' = w.drewN k) : Tab64 w' := by
  obtain ⟨k, rfl⟩ := hk
  exact h

/-- What a call leaves of the table. -/
theorem MapAt.tab {w w' : World} {m : MS} (h : MapAt w m) (ht : Tab64 w) (ho : Only (· = m.b) w w') : Tab64 w' := ht.keep ho (fun e => by have := h.pos; omega)

set_option maxRecDepth 8000 in
set_option maxHeartbeats 400000 in
theorem take_nil (w : World) : Calls Tryd.prog 8 #[.pointer none] w fun e w' => e = .returned (.tuple #[.int .i64 0, .int .i64 28]) ∧ w' = w := by
  go_enter Tryd.func8, Tryd.ntmps8
  go_wp2_with (first | (go_at_call 21; refine Calls_on (nextFree_nil _) ?_) | (go_at_call 22; refine Calls_on (has_nil _ _) ?_))
  go_ret2
  exact ⟨rfl, rfl⟩

/-- Take, of what the numbers are used for: the least free one, and it is used then. -/
def TakeOut (m : MS) (e : Ending) (m' : MS) : Prop :=
  ∃ r, FreeFrom m 0 r ∧ ((r = m.n ∧ e = .returned (.tuple #[.int .i64 0, .int .i64 28]) ∧ m' = m) ∨ (r < m.n ∧ e = .returned (.tuple #[.int .i64 r, .int .i64 0]) ∧ m' = m.turn r))

set_option maxRecDepth 8000 in
set_option maxHeartbeats 400000 in
theorem take_any (m : MS) (w : World) (h : MapAt w m) (ht : Tab64 w) : Calls Tryd.prog 8 #[.pointer (some ⟨m.a, 0, none⟩)] w fun e w' => ∃ m', TakeOut m e m' ∧ MapAt w' m' ∧ Only (· = m.b) w w' := by
  have hm : m.n ≤ 65536 := h.fit.most
  have cn := nextFree_any 0 m w h ht (Nat.zero_le _)
  have HM : Hid (MapAt w m ∧ Tab64 w) := ⟨h, ht⟩
  clear h ht
  go_enter Tryd.func8, Tryd.ntmps8
  go_wp2_with (go_at_call 21; refine cn.mono ?_; rintro e w1 ⟨r, rfl, h1, h2⟩; have H : Hid (FreeFrom m 0 r ∧ ∃ k, w1 = w.drewN k) := ⟨h1, h2⟩; clear h1 h2 cn; refine Stop.out ?_)
  refine Stop.mk ?_
  have h1 := HM.out.1.still H.out.2
  have ch := has_any r m w1 h1
  have hr := H.out.1.high
  by_cases hlt : r < m.n
  · rw [show decide (0 ≤ (r : Int) ∧ (r : Int) < m.n) = true by simp; omega] at ch
    have ct := turn_any r m w1 h1 hlt
    clear h1
    go_wp2_with (first | (go_at_call 22; refine Calls_on ch ?_; clear ch) | (go_at_call 23; refine ct.mono ?_; rintro e w2 ⟨rfl, h2, o2⟩; have H2 : Hid (MapAt w2 (m.turn r) ∧ Only (· = m.b) w1 w2) := ⟨h2, o2⟩; clear h2 o2 ct))
    go_ret2
    exact ⟨_, ⟨r, H.out.1, .inr ⟨hlt, rfl, rfl⟩⟩, H2.out.1, (only_drewN H.out.2).next H2.out.2⟩
  · rw [show decide (0 ≤ (r : Int) ∧ (r : Int) < m.n) = false by simp; omega] at ch
    have H1 : Hid (MapAt w1 m) := h1
    clear h1
    go_wp2_with (go_at_call 22; refine Calls_on ch ?_; clear ch)
    go_ret2
    exact ⟨_, ⟨r, H.out.1, .inl ⟨by omega, rfl, rfl⟩⟩, H1.out, only_drewN H.out.2⟩

set_option maxRecDepth 8000 in
set_option maxHeartbeats 400000 in
theorem set_nil (i : Int) (w : World) : Calls Tryd.prog 12 #[.pointer none, .int .i64 i] w fun e w' => e = .returned (.int .i64 22) ∧ w' = w := by
  go_enter Tryd.func12, Tryd.ntmps12
  go_wp2_with (go_at_call 22; refine Calls_on (has_nil _ _) ?_)
  go_ret
  exact ⟨rfl, rfl⟩
set_option maxRecDepth 8000 in
set_option maxHeartbeats 400000 in
theorem give_nil (i : Int) (w : World) : Calls Tryd.prog 11 #[.pointer none, .int .i64 i] w fun e w' => e = .returned (.int .i64 22) ∧ w' = w := by
  go_enter Tryd.func11, Tryd.ntmps11
  go_wp2_with (go_at_call 22; refine Calls_on (has_nil _ _) ?_)
  go_ret
  exact ⟨rfl, rfl⟩
set_option maxRecDepth 8000 in
set_option maxHeartbeats 400000 in
theorem set_out (i : Int) (m : MS) (w : World) (h : MapAt w m) (hi : ¬ (0 ≤ i ∧ i < m.n)) : Calls Tryd.prog 12 #[.pointer (some ⟨m.a, 0, none⟩), .int .i64 i] w fun e w' => e = .returned (.int .i64 22) ∧ w' = w := by
  have ch := has_any i m w h
  rw [show decide (0 ≤ (i : Int) ∧ (i : Int) < m.n) = false by simpa using hi] at ch
  clear h hi
  go_enter Tryd.func12, Tryd.ntmps12
  go_wp2_with (go_at_call 22; refine Calls_on ch ?_)
  go_ret
  exact ⟨rfl, rfl⟩
set_option maxRecDepth 8000 in
set_option maxHeartbeats 400000 in
theorem give_out (i : Int) (m : MS) (w : World) (h : MapAt w m) (hi : ¬ (0 ≤ i ∧ i < m.n)) : Calls Tryd.prog 11 #[.pointer (some ⟨m.a, 0, none⟩), .int .i64 i] w fun e w' => e = .returned (.int .i64 22) ∧ w' = w := by
  have ch := has_any i m w h
  rw [show decide (0 ≤ (i : Int) ∧ (i : Int) < m.n) = false by simpa using hi] at ch
  clear h hi
  go_enter Tryd.func11, Tryd.ntmps11
  go_wp2_with (go_at_call 22; refine Calls_on ch ?_)
  go_ret
  exact ⟨rfl, rfl⟩

/-- Set and Give of a number of the map: refused, or the bit is turned. -/
def PutOut (m : MS) (i : Nat) (b : Bool) (no : Int) (e : Ending) (m' : MS) : Prop :=
  (used m.ws i = b ∧ e = .returned (.int .i64 no) ∧ m' = m) ∨ (used m.ws i = !b ∧ e = .returned (.int .i64 0) ∧ m' = m.turn i)

set_option maxRecDepth 8000 in
set_option maxHeartbeats 400000 in
theorem set_in (i : Nat) (m : MS) (w : World) (h : MapAt w m) (hi : i < m.n) : Calls Tryd.prog 12 #[.pointer (some ⟨m.a, 0, none⟩), .int .i64 i] w fun e w' => ∃ m', PutOut m i true 16 e m' ∧ MapAt w' m' ∧ Only (· = m.b) w w' := by
  have ch := has_any i m w h
  rw [show decide (0 ≤ (i : Int) ∧ (i : Int) < m.n) = true by simp; omega] at ch
  have cu := used_in i m w h hi
  have HM : Hid (MapAt w m) := h
  clear h
  cases hb : used m.ws i with
  | true =>
    rw [hb] at cu
    have HB : Hid (used m.ws i = true) := hb
    clear hb
    go_enter Tryd.func12, Tryd.ntmps12
    go_wp2_with (first | (go_at_call 22; refine Calls_on ch ?_) | (go_at_call 20; refine cu.mono ?_; rintro e w1 ⟨rfl, h1⟩; have H : Hid (∃ k, w1 = w.drewN k) := h1; clear h1 cu))
    go_ret
    exact ⟨m, .inl ⟨HB.out, rfl, rfl⟩, HM.out.still H.out, only_drewN H.out⟩
  | false =>
    rw [hb] at cu
    have HB : Hid (used m.ws i = false) := hb
    clear hb
    go_enter Tryd.func12, Tryd.ntmps12
    go_wp2_with (first | (go_at_call 22; refine Calls_on ch ?_) | (go_at_call 20; refine cu.mono ?_; rintro e w1 ⟨rfl, h1⟩; have H : Hid (∃ k, w1 = w.drewN k) := h1; clear h1 cu; refine Stop.out ?_))
    refine Stop.mk ?_
    have ct := turn_any i m w1 (HM.out.still H.out) hi
    go_wp2_with (go_at_call 23; refine ct.mono ?_; rintro e w2 ⟨rfl, h2, o2⟩; have H2 : Hid (MapAt w2 (m.turn i) ∧ Only (· = m.b) w1 w2) := ⟨h2, o2⟩; clear h2 o2 ct)
    go_ret
    exact ⟨_, .inr ⟨HB.out, rfl, rfl⟩, H2.out.1, (only_drewN H.out).next H2.out.2⟩

set_option maxRecDepth 8000 in
set_option maxHeartbeats 400000 in
theorem give_in (i : Nat) (m : MS) (w : World) (h : MapAt w m) (hi : i < m.n) : Calls Tryd.prog 11 #[.pointer (some ⟨m.a, 0, none⟩), .int .i64 i] w fun e w' => ∃ m', PutOut m i false 2 e m' ∧ MapAt w' m' ∧ Only (· = m.b) w w' := by
  have ch := has_any i m w h
  rw [show decide (0 ≤ (i : Int) ∧ (i : Int) < m.n) = true by simp; omega] at ch
  have cu := used_in i m w h hi
  have HM : Hid (MapAt w m) := h
  clear h
  cases hb : used m.ws i with
  | false =>
    rw [hb] at cu
    have HB : Hid (used m.ws i = false) := hb
    clear hb
    go_enter Tryd.func11, Tryd.ntmps11
    go_wp2_with (first | (go_at_call 22; refine Calls_on ch ?_) | (go_at_call 20; refine cu.mono ?_; rintro e w1 ⟨rfl, h1⟩; have H : Hid (∃ k, w1 = w.drewN k) := h1; clear h1 cu))
    go_ret
    exact ⟨m, .inl ⟨HB.out, rfl, rfl⟩, HM.out.still H.out, only_drewN H.out⟩
  | true =>
    rw [hb] at cu
    have HB : Hid (used m.ws i = true) := hb
    clear hb
    go_enter Tryd.func11, Tryd.ntmps11
    go_wp2_with (first | (go_at_call 22; refine Calls_on ch ?_) | (go_at_call 20; refine cu.mono ?_; rintro e w1 ⟨rfl, h1⟩; have H : Hid (∃ k, w1 = w.drewN k) := h1; clear h1 cu; refine Stop.out ?_))
    refine Stop.mk ?_
    have ct := turn_any i m w1 (HM.out.still H.out) hi
    go_wp2_with (go_at_call 23; refine ct.mono ?_; rintro e w2 ⟨rfl, h2, o2⟩; have H2 : Hid (MapAt w2 (m.turn i) ∧ Only (· = m.b) w1 w2) := ⟨h2, o2⟩; clear h2 o2 ct)
    go_ret
    exact ⟨_, .inr ⟨HB.out, rfl, rfl⟩, H2.out.1, (only_drewN H.out).next H2.out.2⟩

/- Run. -/

/-- The map behind the turn of j numbers from s on. -/
def turnsFrom (ws : List Nat) (s : Nat) : Nat → List Nat
  | 0 => ws
  | j + 1 => turned (turnsFrom ws s j) (s + j)
def MS.turns (m : MS) (s j : Nat) : MS := { m with ws := turnsFrom m.ws s j }
theorem turns_length (ws : List Nat) (s j : Nat) : (turnsFrom ws s j).length = ws.length := by
  induction j with
  | zero => rfl
  | succ j ih => unfold turnsFrom; rw [turned_length, ih]
theorem turns_used {ws : List Nat} {s : Nat} (j : Nat) (h : ∀ i, i < s + j → i / 64 < ws.length) (i : Nat) : used (turnsFrom ws s j) i = if s ≤ i ∧ i < s + j then !used ws i else used ws i := by
  induction j with
  | zero => rw [if_neg (by omega)]; rfl
  | succ j ih =>
    unfold turnsFrom
    rw [turned_used (by rw [turns_length]; exact h _ (by omega)), ih (fun i hi => h i (by omega))]
    by_cases hi : i = s + j
    · subst hi
      rw [if_pos rfl, if_pos (by omega), ih (fun i hi => h i (by omega)), if_neg (by omega)]
    · rw [if_neg hi]
      by_cases h2 : s ≤ i ∧ i < s + j
      · rw [if_pos h2, if_pos (by omega)]
      · rw [if_neg h2, if_neg (by omega)]

set_option maxRecDepth 8000 in
set_option maxHeartbeats 400000 in
theorem run_out (k : Int) (m : MS) (w : World) (h : MapAt w m) (hk : ¬ (1 ≤ k ∧ k ≤ m.n)) : Calls Tryd.prog 10 #[.pointer (some ⟨m.a, 0, none⟩), .int .i64 k] w fun e w' => e = .returned (.tuple #[.int .i64 0, .int .i64 22]) ∧ w' = w := by
  have cs := size_any m w h
  clear h
  by_cases h1 : k < 1
  · clear hk
    go_enter Tryd.func10, Tryd.ntmps10
    go_wp2_with (go_at_call 19; refine Calls_on cs ?_)
    go_ret2
    exact ⟨rfl, rfl⟩
  · have h2 : (m.n : Int) < k := by omega
    clear hk
    go_enter Tryd.func10, Tryd.ntmps10
    go_wp2_with (go_at_call 19; refine Calls_on cs ?_)
    go_ret2
    exact ⟨rfl, rfl⟩
set_option maxRecDepth 8000 in
set_option maxHeartbeats 400000 in
theorem run_nil (w : World) : Calls Tryd.prog 10 #[.pointer none, .int .i64 1] w fun e w' => e = .returned (.tuple #[.int .i64 0, .int .i64 22]) ∧ w' = w := by
  go_enter Tryd.func10, Tryd.ntmps10
  go_wp2_with (go_at_call 19; refine Calls_on (size_nil _) ?_)
  go_ret2
  exact ⟨rfl, rfl⟩

def RunOut (m : MS) (k : Nat) (e : Ending) (m' : MS) : Prop :=
  ∃ r, LeastRow (used m.ws) m.n k r ∧ ((r = m.n ∧ e = .returned (.tuple #[.int .i64 0, .int .i64 28]) ∧ m' = m) ∨ (r < m.n ∧ e = .returned (.tuple #[.int .i64 r, .int .i64 0]) ∧ m' = m.turns r k))

set_option maxRecDepth 8000 in
set_option maxHeartbeats 1000000 in
theorem run_in (k : Nat) (m : MS) (w : World) (h : MapAt w m) (ht : Tab64 w) (hk : 0 < k) (hkn : k ≤ m.n) : Calls Tryd.prog 10 #[.pointer (some ⟨m.a, 0, none⟩), .int .i64 k] w fun e w' => ∃ m', RunOut m k e m' ∧ MapAt w' m' ∧ Only (· = m.b) w w' := by
  have hm : m.n ≤ 65536 := h.fit.most
  have cs := size_any m w h
  have cr := row_any k m w h ht hk hkn
  have HM : Hid (MapAt w m ∧ Tab64 w) := ⟨h, ht⟩
  clear h ht
  have h1 : ¬ (k : Int) < 1 := by omega
  have h2 : ¬ (m.n : Int) < (k : Int) := by omega
  go_enter Tryd.func10, Tryd.ntmps10
  go_wp2_with (first | (go_at_call 19; refine Calls_on cs ?_) | (go_at_call 24; refine cr.mono ?_; rintro e w1 ⟨r, rfl, h1, h2⟩; have H : Hid (LeastRow (used m.ws) m.n k r ∧ ∃ k, w1 = w.drewN k) := ⟨h1, h2⟩; clear h1 h2 cr; refine Stop.out ?_))
  refine Stop.mk ?_
  have h1 := HM.out.1.still H.out.2
  have ch := has_any r m w1 h1
  have hr := H.out.1.high
  by_cases hlt : r < m.n
  · rw [show decide (0 ≤ (r : Int) ∧ (r : Int) < m.n) = true by simp; omega] at ch
    have hrk : r + k ≤ m.n := (H.out.1.yes hlt).1
    have H1 : Hid (MapAt w1 m) := h1
    clear h1
    go_wp2_with (go_at_call 22; refine Calls_on ch ?_; clear ch)
    go_loopw [7] (fun ii wr => ∃ j : Nat, j ≤ k ∧ ii = .int .i64 (r + j : Nat) ∧ Hid (MapAt wr (m.turns r j) ∧ Only (· = m.b) w wr)) (fun ii _ => r + k - (intOf ii).toNat)
    case atStart => exact ⟨0, Nat.zero_le _, rfl, H1.out, only_drewN H.out.2⟩
    case round =>
      obtain ⟨j, hj, rfl, HJ⟩ := hrel
      obtain ⟨p, hp⟩ : ∃ p, r + j = p := ⟨_, rfl⟩
      rw [hp]
      by_cases hjk : j < k
      · have ct := turn_any p (m.turns r j) wr HJ.out.1 (by show p < m.n; omega)
        have hlI : (p : Int) < (r : Int) + (k : Int) := by omega
        go_wp2_with (go_at_call 23; refine ct.mono ?_; rintro e w2 ⟨rfl, h2, o2⟩; have H2 : Hid (MapAt w2 ((m.turns r j).turn p) ∧ Only (· = m.b) wr w2) := ⟨h2, o2⟩; clear h2 o2 ct)
        refine ⟨⟨j + 1, by omega, ?_, ?_⟩, ?_⟩
        · have : (p : Int) + 1 = ((r + (j + 1) : Nat) : Int) := by omega
          rw [this]
        · have := H2.out.1
          rw [← hp] at this
          exact ⟨this, HJ.out.2.next H2.out.2⟩
        · simp [intOf]; omega
      · have hlI : ¬ (p : Int) < (r : Int) + (k : Int) := by omega
        obtain rfl : j = k := by omega
        go_wp2
        go_ret2
        exact ⟨_, ⟨r, H.out.1, .inr ⟨hlt, rfl, rfl⟩⟩, HJ.out⟩
  · rw [show decide (0 ≤ (r : Int) ∧ (r : Int) < m.n) = false by simp; omega] at ch
    have H1 : Hid (MapAt w1 m) := h1
    clear h1
    go_wp2_with (go_at_call 22; refine Calls_on ch ?_; clear ch)
    go_ret2
    exact ⟨_, ⟨r, H.out.1, .inl ⟨by omega, rfl, rfl⟩⟩, H1.out, only_drewN H.out.2⟩

end Go.Proofs.YtndefmchaohikaaDoor
