/-
  A reader: numbers, bytes, texts, truths; Left, Err, Done.
-/
import Derived.Test.YtegjageenofbjaaGreatKrfirst
import Derived.Test.YtegjageenofbjaaGreatKwany
namespace Go.Proofs.YtegjageenofbjaaGreat.Cd
open Go.RowKit

set_option maxRecDepth 8000 in
set_option maxHeartbeats 400000 in
theorem rest_nil (w : World) : Calls Tryz.prog 104 #[.pointer none] w fun e w' => e = .returned (.slice none 0 0) ∧ w' = w := by
  go_enter Tryz.func104, Tryz.ntmps104
  go_wp2
  go_ret
  exact ⟨rfl, rfl⟩
set_option maxRecDepth 8000 in
set_option maxHeartbeats 400000 in
theorem rest_at (a : Nat) (p : Option Addr) (l c : Nat) (b : Bool) (w : World) (h : w.heap[a]? = some (.cells #[.slice p l c, .bool b] 92 (0, 0))) :
    Calls Tryz.prog 104 #[.pointer (some ⟨a, 0, none⟩)] w fun e w' => e = .returned (.slice p l c) ∧ w' = w := by
  have h0 : w.cell? ⟨a, 0, none⟩ = some (.slice p l c) := cellOf h 0
  clear h
  go_enter Tryz.func104, Tryz.ntmps104
  go_wp2
  go_ret
  exact ⟨rfl, rfl⟩
set_option maxRecDepth 8000 in
set_option maxHeartbeats 400000 in
theorem left_nil (w : World) : Calls Tryz.prog 90 #[.pointer none] w fun e w' => e = .returned (.int .i64 0) ∧ w' = w := by
  go_enter Tryz.func90, Tryz.ntmps90
  go_wp2_with (go_at_call 104; refine Calls_on (rest_nil _) ?_)
  go_ret
  exact ⟨rfl, rfl⟩
set_option maxRecDepth 8000 in
set_option maxHeartbeats 400000 in
theorem left_any (a : Nat) (s : St) (w : World) (h : Rd 92 w a s) : Calls Tryz.prog 90 #[.pointer (some ⟨a, 0, none⟩)] w fun e w' => e = .returned (.int .i64 (s.getD []).length) ∧ w' = w := by
  obtain ⟨p, c, _, h1, _, _⟩ := h.at_
  have c45 := rest_at a p _ c _ w h1
  clear h1
  go_enter Tryz.func90, Tryz.ntmps90
  go_wp2_with (go_at_call 104; refine Calls_on c45 ?_)
  go_ret
  exact ⟨rfl, rfl⟩
set_option maxRecDepth 8000 in
set_option maxHeartbeats 400000 in
theorem err_nil (w : World) : Calls Tryz.prog 91 #[.pointer none] w fun e w' => e = .returned (.int .i64 74) ∧ w' = w := by
  go_enter Tryz.func91, Tryz.ntmps91
  go_wp2
  go_ret
  exact ⟨rfl, rfl⟩
set_option maxRecDepth 8000 in
set_option maxHeartbeats 400000 in
theorem err_bad (a : Nat) (w : World) (h : Rd 92 w a none) : Calls Tryz.prog 91 #[.pointer (some ⟨a, 0, none⟩)] w fun e w' => e = .returned (.int .i64 74) ∧ w' = w := by
  obtain ⟨p, c, _, h1, _, _⟩ := h.at_
  have h0 : w.cell? ⟨a, 1, none⟩ = some (.bool true) := cellOf h1 1
  clear h1 h
  go_enter Tryz.func91, Tryz.ntmps91
  go_wp2
  go_ret
  exact ⟨rfl, rfl⟩
set_option maxRecDepth 8000 in
set_option maxHeartbeats 400000 in
theorem err_good (a : Nat) (bs : List (BitVec 8)) (w : World) (h : Rd 92 w a (some bs)) : Calls Tryz.prog 91 #[.pointer (some ⟨a, 0, none⟩)] w fun e w' => e = .returned (.int .i64 0) ∧ w' = w := by
  obtain ⟨p, c, _, h1, _, _⟩ := h.at_
  have h0 : w.cell? ⟨a, 1, none⟩ = some (.bool false) := cellOf h1 1
  clear h1 h
  go_enter Tryz.func91, Tryz.ntmps91
  go_wp2
  go_ret
  exact ⟨rfl, rfl⟩
set_option maxRecDepth 8000 in
set_option maxHeartbeats 400000 in
theorem rspoil_nil (w : World) : Calls Tryz.prog 89 #[.pointer none] w fun e w' => e = .returned (.tuple #[]) ∧ w' = w := by
  go_enter Tryz.func89, Tryz.ntmps89
  go_wp2
  go_end0
  exact ⟨rfl, rfl⟩
set_option maxRecDepth 8000 in
set_option maxHeartbeats 400000 in
theorem rspoil_any (a : Nat) (s : St) (w : World) (h : Rd 92 w a s) : Calls Tryz.prog 89 #[.pointer (some ⟨a, 0, none⟩)] w fun e w' => e = .returned (.tuple #[]) ∧ Rd 92 w' a none ∧ Only (· = a) w w' := by
  obtain ⟨p, c, hpl, h1, h2, h3, h4⟩ := h.at_
  have c0 : w.cell? ⟨a, 0, none⟩ = some (.slice p (s.getD []).length c) := cellOf h1 0
  have c1 : w.cell? ⟨a, 1, none⟩ = some (.bool s.isNone) := cellOf h1 1
  have f0 := frozenOf h1 0
  have f1 := frozenOf h1 1
  have H1 : Hid (w.heap[a]? = some (.cells #[.slice p (s.getD []).length c, .bool s.isNone] 92 (0, 0))) := h1
  clear h1 h2 h3 h4 h hpl
  go_enter Tryz.func89, Tryz.ntmps89
  go_wp2
  go_end0
  refine ⟨rfl, ⟨none, 0, .inl rfl, ?_, Nat.le_refl _, bytes_nil _ _, fun hl => absurd hl (Nat.lt_irrefl 0)⟩, ?_⟩
  · rw [heap_set_same (heap_set_same H1.out _)]; rfl
  · exact Only.next (Only.setCell (S := (· = a)) w ⟨a, 0, none⟩ _ rfl) (Only.setCell _ ⟨a, 1, none⟩ _ rfl)

/-- What a call that reads leaves behind. -/
def Did (w : World) (a : Nat) (v : Value) (s : St) (e : Ending) (w' : World) : Prop := e = .returned v ∧ Rd 92 w' a s ∧ Only (· = a) w w'

/-- The first k bytes are taken. -/
theorem Rd.cut {t : TypeId} {w : World} {a : Nat} {bs : List (BitVec 8)} {p : Option Addr} {c k : Nat} (h : w.heap[a]? = some (.cells #[.slice p bs.length c, .bool false] t (0, 0))) (hc : bs.length ≤ c) (hb : Bytes w p bs) (htg : Tg w p bs) (hk : k ≤ bs.length) (q : Option Addr) (hpl : Plain a q)
    (hq : ∀ g o, p = some ⟨g, o, none⟩ → q = if k = c then some ⟨g, o, none⟩ else some ⟨g, o + k, none⟩) :
    Rd t (w.setCell ⟨a, 0, none⟩ (.slice q (bs.length - k) (c - k))) a (some (bs.drop k)) ∧ Only (· = a) w (w.setCell ⟨a, 0, none⟩ (.slice q (bs.length - k) (c - k))) := by
  have ho : Only (· = a) w (w.setCell ⟨a, 0, none⟩ (.slice q (bs.length - k) (c - k))) := Only.setCell _ _ _ rfl
  have hno : ∀ b o, 0 < (bs.drop k).length → q = some ⟨b, o, none⟩ → ¬ b = a := fun b o hl e hba => by
    subst hba
    subst e
    exact bytes_apart h ⟨_, _, _, rfl⟩ (cut_bytes hb hk hc _ hq) hl rfl
  refine ⟨⟨q, c - k, hpl, ?_, by simp; omega, ho.bytes (cut_bytes hb hk hc q hq) hno, ho.tg (fun hl g o e => ?_) hno⟩, ho⟩
  · rw [heap_set_same h]; simp
  · have hl' : 0 < (bs.drop k).length := hl
    rw [List.length_drop] at hl'
    obtain ⟨g', o', e', _⟩ := hb (by omega)
    have := hq g' o' e'
    rw [if_neg (by omega), e] at this
    injection this with this
    injection this with this
    rw [this]
    exact htg (by omega) g' o' e'

theorem not_none {w : World} {p : Option Addr} {bs : List (BitVec 8)} (hb : Bytes w p bs) : (∃ g o, p = some ⟨g, o, none⟩) ∨ bs = [] := by
  by_cases h : 0 < bs.length
  · obtain ⟨g, o, e, _⟩ := hb h; exact .inl ⟨g, o, e⟩
  · exact .inr (List.eq_nil_of_length_eq_zero (by omega))

set_option maxRecDepth 8000 in
set_option maxRecDepth 8000 in
set_option maxHeartbeats 400000 in
theorem take_good (a k : Nat) (bs : List (BitVec 8)) (w : World) (h : Rd 92 w a (some bs)) (hl : bs.length ≤ 1000000000) (hk : k ≤ bs.length) :
    Calls Tryz.prog 105 #[.pointer (some ⟨a, 0, none⟩), .int .i64 k] w fun e w' => ∃ p c, Did w a (.slice p k c) (some (bs.drop k)) e w' ∧ Bytes w p (bs.take k) ∧ k ≤ c := by
  have c19 := left_any a _ w h
  have c18 := err_good a _ w h
  rw [show ((some bs : St).getD []).length = bs.length from rfl] at c19
  obtain ⟨p, c, hpl, h1, h2, h3, h4⟩ := h.at_
  rw [show (some bs : St).getD [] = bs from rfl] at h1 h2 h3 h4
  have c0 : w.cell? ⟨a, 0, none⟩ = some (.slice p bs.length c) := cellOf h1 0
  have f0 := frozenOf h1 0
  have H1 : Hid (w.heap[a]? = some (.cells #[.slice p bs.length c, .bool false] 92 (0, 0))) := h1
  have HB : Hid (Bytes w p bs) := h3
  have HT : Hid (Tg w p bs) := h4
  have hno : ¬ (bs.length : Int) < k := by omega
  clear h1 h3 h4 h
  rcases hpl with rfl | ⟨g, o, rfl, hga⟩
  · obtain rfl : bs = [] := by rcases not_none HB.out with ⟨g, o, e⟩ | e; cases e; exact e
    obtain rfl : k = 0 := by simpa using hk
    have cA := Rd.cut (k := 0) H1.out h2 HB.out HT.out (Nat.le_refl _) none (.inl rfl) (by intro g o e; cases e)
    have HC : Hid _ := cA
    clear cA
    go_enter Tryz.func105, Tryz.ntmps105
    go_wp2_with (first | (go_at_call 90; refine Calls_on c19 ?_) | (go_at_call 91; refine Calls_on c18 ?_))
    go_ret
    exact ⟨_, _, ⟨rfl, HC.out.1, HC.out.2⟩, bytes_nil _ _, Nat.zero_le _⟩
  · by_cases hkc : k = c
    · have cA := Rd.cut (k := k) H1.out h2 HB.out HT.out hk (some ⟨g, o, none⟩) (.inr ⟨_, _, rfl, hga⟩) (by intro g o e; cases e; rw [if_pos hkc])
      obtain rfl : bs.length = k := by omega
      subst hkc
      rw [Nat.sub_self] at cA
      have HC : Hid _ := cA
      clear cA
      go_enter Tryz.func105, Tryz.ntmps105
      go_wp2_with (first | (go_at_call 90; refine Calls_on c19 ?_) | (go_at_call 91; refine Calls_on c18 ?_))
      go_ret
      exact ⟨_, _, ⟨rfl, HC.out.1, HC.out.2⟩, bytes_take HB.out _, by omega⟩
    · have cA := Rd.cut (k := k) H1.out h2 HB.out HT.out hk (some ⟨g, o + k, none⟩) (.inr ⟨_, _, rfl, hga⟩) (by intro g o e; cases e; rw [if_neg hkc])
      have HC : Hid _ := cA
      clear cA
      go_enter Tryz.func105, Tryz.ntmps105
      go_wp2_with (first | (go_at_call 90; refine Calls_on c19 ?_) | (go_at_call 91; refine Calls_on c18 ?_))
      go_ret
      exact ⟨_, _, ⟨rfl, HC.out.1, HC.out.2⟩, bytes_take HB.out k, by omega⟩

set_option maxRecDepth 8000 in
set_option maxRecDepth 8000 in
set_option maxHeartbeats 400000 in
theorem take_more (a k : Nat) (bs : List (BitVec 8)) (w : World) (h : Rd 92 w a (some bs)) (hk : bs.length < k) :
    Calls Tryz.prog 105 #[.pointer (some ⟨a, 0, none⟩), .int .i64 k] w (Did w a (.slice none 0 0) none) := by
  have c19 := left_any a _ w h
  rw [show ((some bs : St).getD []).length = bs.length from rfl] at c19
  have c55 := rspoil_any a _ w h
  have hno : (bs.length : Int) < k := by omega
  clear h
  go_enter Tryz.func105, Tryz.ntmps105
  go_wp2_with (go_at_call 90; refine Calls_on c19 ?_)
  refine c55.mono ?_
  rintro e w1 ⟨rfl, h1, h2⟩
  have c18 := err_bad a w1 h1
  have H1 : Hid (Rd 92 w1 a none) := h1
  have H2 : Hid (Only (· = a) w w1) := h2
  clear c19 c55 h1 h2
  go_wp2_with (go_at_call 91; refine Calls_on c18 ?_)
  go_ret
  exact ⟨rfl, H1.out, H2.out⟩

set_option maxRecDepth 8000 in
set_option maxRecDepth 8000 in
set_option maxHeartbeats 400000 in
theorem take_bad (a : Nat) (w : World) (h : Rd 92 w a none) :
    Calls Tryz.prog 105 #[.pointer (some ⟨a, 0, none⟩), .int .i64 0] w fun e w' => e = .returned (.slice none 0 0) ∧ w' = w := by
  have c19 := left_any a _ w h
  rw [show (((none : St).getD []).length : Int) = 0 from rfl] at c19
  have c18 := err_bad a w h
  clear h
  go_enter Tryz.func105, Tryz.ntmps105
  go_wp2_with (first | (go_at_call 90; refine Calls_on c19 ?_) | (go_at_call 91; refine Calls_on c18 ?_))
  go_ret
  exact ⟨rfl, rfl⟩

set_option maxRecDepth 8000 in
set_option maxHeartbeats 400000 in
theorem rnumber_nil (most : Int) (w : World) : Calls Tryz.prog 82 #[.pointer none, .int .i64 most] w fun e w' => e = .returned (.int .i64 0) ∧ w' = w := by
  have c63 := firstNumber_any none [] 0 w (by simp) (by simp) (bytes_nil _ _)
  go_enter Tryz.func82, Tryz.ntmps82
  go_wp2_with (first | (go_at_call 104; refine Calls_on (rest_nil _) ?_) | (go_at_call 103; refine Calls_on (show Calls Tryz.prog 103 #[.slice none 0 0] _ (fun e w' => e = .returned (.tuple #[.int .i64 0, .int .i64 0]) ∧ w' = w) from c63) ?_) | (go_at_call 89; refine Calls_on (rspoil_nil _) ?_))
  go_ret
  exact ⟨rfl, rfl⟩

/-- Short enough. -/
def Small (s : St) : Prop := (s.getD []).length ≤ 1000000000

set_option maxRecDepth 8000 in
set_option maxRecDepth 8000 in
set_option maxHeartbeats 400000 in
theorem rnumber_any (most : Nat) (a : Nat) (s : St) (w : World) (h : Rd 92 w a s) (hl : Small s) :
    Calls Tryz.prog 82 #[.pointer (some ⟨a, 0, none⟩), .int .i64 most] w (Did w a (.int .i64 (rnum most s).1) (rnum most s).2) := by
  have h' := h
  obtain ⟨p, c, hpl, h1, h2, h3, h4⟩ := h'.at_
  have c45 := rest_at a p _ c _ w h1
  have c63 := firstNumber_any p _ c w h2 hl h3
  clear h1 h2 h3 h4 hpl h'
  cases hf : first (s.getD []) with
  | none =>
    have HE : Hid (rnum most s = (0, none)) := by
      cases s with
      | none => rfl
      | some bs => show rnum most (some bs) = _; rw [rnum, show first bs = none from hf]
    rw [hf] at c63
    have c55 := rspoil_any a s w h
    clear hf hl h
    go_enter Tryz.func82, Tryz.ntmps82
    go_wp2_with (first | (go_at_call 104; refine Calls_on c45 ?_) | (go_at_call 103; refine Calls_on (show Calls Tryz.prog 103 _ _ (fun e w' => e = .returned (.tuple #[.int .i64 0, .int .i64 0]) ∧ w' = w) from c63) ?_))
    refine c55.mono ?_
    rintro e w1 ⟨rfl, h1, h2⟩
    have H1 : Hid (Rd 92 w1 a none) := h1
    have H2 : Hid (Only (· = a) w w1) := h2
    clear c55 h1 h2 c63 c45
    go_wp2
    go_ret
    rw [HE.out]
    exact ⟨rfl, H1.out, H2.out⟩
  | some nk =>
    obtain ⟨n, k⟩ := nk
    cases s with
    | none => cases hf
    | some bs =>
      have hf' : first bs = some (n, k) := hf
      obtain ⟨f1, f2, f3, f4⟩ := first_lt hf'
      rw [hf] at c63
      have c63' : Calls Tryz.prog 103 #[.slice p bs.length c] w fun e w' => e = .returned (.tuple #[.int .i64 n, .int .i64 k]) ∧ w' = w := c63
      have hk0 : ((k : Int) == 0) = false := by simp; omega
      by_cases hmn : most < n
      · have HE : Hid (rnum most (some bs) = (0, none)) := by
          show _ = _
          rw [rnum, hf']; simp only; rw [if_pos hmn]
        have hmI : (most : Int) < n := by omega
        have c55 := rspoil_any a _ w h
        clear hf hl h hf' c63 f1 f2 f3 f4 hmn
        go_enter Tryz.func82, Tryz.ntmps82
        go_wp2_with (first | (go_at_call 104; refine Calls_on c45 ?_) | (go_at_call 103; refine Calls_on c63' ?_))
        refine c55.mono ?_
        rintro e w1 ⟨rfl, h1, h2⟩
        have H1 : Hid (Rd 92 w1 a none) := h1
        have H2 : Hid (Only (· = a) w w1) := h2
        clear c55 h1 h2 c63' c45
        go_wp2
        go_ret
        rw [HE.out]
        exact ⟨rfl, H1.out, H2.out⟩
      · have HE : Hid (rnum most (some bs) = (n, some (bs.drop k))) := by
          show _ = _
          rw [rnum, hf']; simp only; rw [if_neg hmn]
        have hmI : ¬ (most : Int) < n := by omega
        have c64 := take_good a k bs w h hl f2
        clear hf hl h hf' c63 f1 f2 f3 f4 hmn
        go_enter Tryz.func82, Tryz.ntmps82
        go_wp2_with (first | (go_at_call 104; refine Calls_on c45 ?_) | (go_at_call 103; refine Calls_on c63' ?_))
        refine c64.mono ?_
        rintro e w1 ⟨p', c', ⟨rfl, h1, h2⟩, _, _⟩
        have H1 : Hid (Rd 92 w1 a (some (bs.drop k))) := h1
        have H2 : Hid (Only (· = a) w w1) := h2
        clear c64 h1 h2 c63' c45
        go_wp2
        go_ret
        rw [HE.out]
        exact ⟨rfl, H1.out, H2.out⟩

end Go.Proofs.YtegjageenofbjaaGreat.Cd
