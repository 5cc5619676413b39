/-
  next, nextFree, nextUsed, row of package bitmap.
-/
import Derived.Test.YtndefmchaohikaaDoorMtz
namespace Go.Proofs.YtndefmchaohikaaDoor
open Go.RowKit

/-- The first number from f on, below n, of which P is true; n, if there is none. -/
structure Found (n : Nat) (P : Nat → Bool) (f r : Nat) : Prop where
  low : f ≤ r
  high : r ≤ n
  not : ∀ i, f ≤ i → i < r → P i = false
  yes : r < n → P r = true

/-- Bits turned by F. -/
def hit (ws : List Nat) (F : Nat) (i : Nat) : Bool := used ws i ^^ F.testBit (i % 64)
theorem hit_used (ws : List Nat) : hit ws 0 = used ws := by funext i; simp [hit]
theorem hit_free (ws : List Nat) : hit ws 18446744073709551615 = fun i => !used ws i := by
  funext i
  have : (18446744073709551615 : Nat).testBit (i % 64) = true := by
    have := Nat.testBit_two_pow_sub_one 64 (i % 64)
    rw [show (18446744073709551615 : Nat) = 2 ^ 64 - 1 from rfl, this]
    simp; omega
  simp [hit, this]

/-- One word, turned and shifted. -/
theorem word_bit (ws : List Nat) (F f j : Nat) (hj : f % 64 + j < 64) : ((ws.getD (f / 64) 0 ^^^ F) / 2 ^ (f % 64)).testBit j = hit ws F (f + j) := by
  rw [Nat.testBit_div_two_pow, Nat.testBit_xor]
  unfold hit used
  rw [show (f + j) / 64 = f / 64 by omega, show (f + j) % 64 = j + f % 64 by omega]
theorem word_end (y f j : Nat) (hy : y < 18446744073709551616) (hj : 64 ≤ f % 64 + j) : (y / 2 ^ (f % 64)).testBit j = false := by
  rw [Nat.testBit_div_two_pow]
  exact Nat.testBit_lt_two_pow (Nat.lt_of_lt_of_le hy (show 2 ^ 64 ≤ _ from Nat.pow_le_pow_right (by decide) (by omega)))

/-- Nothing in this word. -/
theorem none_here {ws : List Nat} {F f : Nat} (hz : (ws.getD (f / 64) 0 ^^^ F) / 2 ^ (f % 64) = 0) (i : Nat) (h1 : f ≤ i) (h2 : i < f + (64 - f % 64)) : hit ws F i = false := by
  have := word_bit ws F f (i - f) (by omega)
  rw [hz, Nat.zero_testBit, show f + (i - f) = i by omega] at this
  exact this.symm
/-- The first in this word. -/
theorem some_here {ws : List Nat} {F f n k : Nat} (hy : (ws.getD (f / 64) 0 ^^^ F) < 18446744073709551616) (hk : Low ((ws.getD (f / 64) 0 ^^^ F) / 2 ^ (f % 64)) k) (hf : f < n) :
    Found n (hit ws F) f (min (f + k) n) := by
  have hin : f % 64 + k < 64 := by
    apply Nat.lt_of_not_le
    intro h
    have := word_end _ f k hy h
    rw [hk.at_] at this
    cases this
  refine ⟨by omega, by omega, fun i h1 h2 => ?_, fun h => ?_⟩
  · have := word_bit ws F f (i - f) (by omega)
    rw [hk.below _ (by omega), show f + (i - f) = i by omega] at this
    exact this.symm
  · have := word_bit ws F f k hin
    rw [hk.at_] at this
    rw [show min (f + k) n = f + k by omega]
    exact this.symm
theorem Found.back {n : Nat} {P : Nat → Bool} {f f' r : Nat} (h : Found n P f' r) (hf : f ≤ f') (hn : ∀ i, f ≤ i → i < f' → P i = false) : Found n P f r :=
  ⟨Nat.le_trans hf h.low, h.high, fun i h1 h2 => by by_cases hi : i < f'; exact hn i h1 hi; exact h.not i (by omega) h2, h.yes⟩

theorem drew_some {w wr : World} (h : ∃ k, wr = w.drewN k) : ∃ k, wr.drew = w.drewN k := by
  obtain ⟨k, rfl⟩ := h
  exact ⟨k + 1, rfl⟩

set_option maxRecDepth 8000 in
set_option maxHeartbeats 1000000 in
theorem next_any (f F : Nat) (m : MS) (w : World) (h : MapAt w m) (ht : Tab64 w) (hF : F < 18446744073709551616) (hf : f ≤ m.n) :
    Calls Tryd.prog 30 #[.pointer (some ⟨m.a, 0, none⟩), .int .i64 f, .int .u64 F] w fun e w' => ∃ r : Nat, e = .returned (.int .i64 r) ∧ Found m.n (hit m.ws F) f r ∧ ∃ k, w' = w.drewN k := by
  have hm : m.n ≤ 65536 := h.fit.most
  have HM : Hid (MapAt w m ∧ Tab64 w ∧ F < 18446744073709551616) := ⟨h, ht, hF⟩
  clear h ht hF
  go_enter Tryd.func30, Tryd.ntmps30
  go_wp2_with fail
  go_loopw [1] (fun ii wr => ∃ g : Nat, ii = .int .i64 g ∧ f ≤ g ∧ g ≤ 65600 ∧ Hid (∃ k, wr = w.drewN k) ∧ Hid (∀ i, f ≤ i → i < g → i < m.n → hit m.ws F i = false)) (fun ii _ => 65600 - (intOf ii).toNat)
  case atStart => exact ⟨f, rfl, Nat.le_refl _, by omega, ⟨0, rfl⟩, fun i h1 h2 => absurd h2 (by omega)⟩
  case round =>
    obtain ⟨g, rfl, hg, hg2, HW, HN⟩ := hrel
    obtain ⟨k, hk⟩ := HW.out
    have h : MapAt wr m := by rw [hk]; exact HM.out.1.drewN k
    have ht : Tab64 wr := by rw [hk]; exact HM.out.2.1
    clear hk
    have ch := has_any g m wr h
    by_cases hlt : g < m.n
    · rw [show decide (0 ≤ (g : Int) ∧ (g : Int) < m.n) = true by simp; omega] at ch
      have c0 := h.c0
      have c1 := h.c1
      have hd := h.fit.div hlt
      have c2 := h.row.cell (getD_some hd)
      have hy : m.ws.getD (g / 64) 0 ^^^ F < 18446744073709551616 := Nat.xor_lt_two_pow (n := 64) (h.fit.word _) HM.out.2.2
      have ex : bits .xor .u64 ((m.ws.getD (g / 64) 0 : Nat) : Int) (F : Int) = ((m.ws.getD (g / 64) 0 ^^^ F : Nat) : Int) := u64_xor_nat _ _ (h.fit.word _) HM.out.2.2
      have hzl : (m.ws.getD (g / 64) 0 ^^^ F) / 2 ^ (g % 64) < 18446744073709551616 := Nat.lt_of_le_of_lt (Nat.div_le_self _ _) hy
      have HL : Hid ((m.ws.getD (g / 64) 0 ^^^ F) / 2 ^ (g % 64) ≠ 0 → Found m.n (hit m.ws F) g (min (g + Lib.ctz 64 ((m.ws.getD (g / 64) 0 ^^^ F) / 2 ^ (g % 64))) m.n)) := fun h0 => some_here hy (low_ctz hzl h0) hlt
      have HZ : Hid ((m.ws.getD (g / 64) 0 ^^^ F) / 2 ^ (g % 64) = 0 → ∀ i, g ≤ i → i < g + (64 - g % 64) → hit m.ws F i = false) := fun hz i => none_here hz i
      have ez : ((m.ws.getD (g / 64) 0 ^^^ F : Nat) : Int) / 2 ^ (g % 64) = (((m.ws.getD (g / 64) 0 ^^^ F) / 2 ^ (g % 64) : Nat) : Int) := by simp
      generalize (m.ws.getD (g / 64) 0 ^^^ F) / 2 ^ (g % 64) = z at *
      generalize m.ws.getD (g / 64) 0 ^^^ F = y at *
      generalize m.ws.getD (g / 64) 0 = x at *
      obtain ⟨q, hq⟩ : ∃ q, g / 64 = q := ⟨_, rfl⟩
      obtain ⟨r, hr⟩ : ∃ r, g % 64 = r := ⟨_, rfl⟩
      rw [hq] at hd c2
      rw [hr] at ez HZ
      have eq : (g : Int) / 64 = (q : Int) := by omega
      have er : (g : Int) % 64 = (r : Int) := by omega
      have hr64 : r < 64 := by omega
      by_cases h0 : z = 0
      · have HZ' : Hid (∀ i, g ≤ i → i < g + (64 - r) → hit m.ws F i = false) := HZ.out h0
        subst h0
        have ez0 : (y : Int) / 2 ^ r = 0 := ez
        clear h ht HZ HL ez hzl hy
        go_wp2_with (go_at_call 22; refine Calls_on ch ?_; clear ch)
        refine ⟨⟨g + (64 - r), ?_, by omega, by omega, HW, ?_⟩, ?_⟩
        · have : (g : Int) + (64 - (r : Int)) = ((g + (64 - r) : Nat) : Int) := by omega
          rw [this]
        · intro i h1 h2 h3
          by_cases hi : i < g
          · exact HN.out i h1 hi h3
          · exact HZ'.out i (by omega) h2
        · simp [intOf]; omega
      · have ct : ∀ W, Tab64 W → Calls Tryd.prog 32 #[.int .u64 z] W fun e w' => e = .returned (.int .i64 (Lib.ctz 64 z : Nat)) ∧ w' = W := fun W hW => tz_any z hzl h0 W hW
        have HL' := HL.out h0
        have hk64 : Lib.ctz 64 z < 64 := (low_ctz hzl h0).lt
        have h0' : ((z : Int) != 0) = true := by simp; omega
        generalize Lib.ctz 64 z = t at *
        have ht' : Tab64 wr.drew := ht
        have ct' := ct wr.drew ht'
        have HF : Hid (Found m.n (hit m.ws F) f (min (g + t) m.n)) := HL'.back hg (fun i h1 h2 => HN.out i h1 h2 (by omega))
        obtain ⟨u, hu⟩ : ∃ u, g + t = u := ⟨_, rfl⟩
        rw [hu] at HF
        have hgt : IntKind.i64.wrap ((g : Int) + (t : Int)) = (u : Int) := by rw [← Int.natCast_add, hu]; exact wrapi (by omega)
        clear h ht HZ HL hzl hy HL' ct h0 ht' hu
        by_cases hmn : (m.n : Int) < (u : Int)
        · rw [show min u m.n = m.n by omega] at HF
          go_wp2_with (go_at_call 22; refine Calls_on ch ?_; clear ch)
          go_region_with (go_at_call 32; refine Calls_on ct' ?_)
          all_goals go_wp2
          all_goals go_ret
          all_goals exact ⟨_, rfl, HF.out, drew_some HW.out⟩
        · rw [show min u m.n = u by omega] at HF
          go_wp2_with (go_at_call 22; refine Calls_on ch ?_; clear ch)
          go_region_with (go_at_call 32; refine Calls_on ct' ?_)
          all_goals go_wp2
          all_goals go_ret
          all_goals exact ⟨_, rfl, HF.out, drew_some HW.out⟩
    · rw [show decide (0 ≤ (g : Int) ∧ (g : Int) < m.n) = false by simp; omega] at ch
      have cs := size_any m wr h
      clear h ht
      go_wp2_with (first | (go_at_call 22; refine Calls_on ch ?_; clear ch) | (go_at_call 19; refine Calls_on cs ?_; clear cs))
      go_ret
      exact ⟨m.n, rfl, ⟨hf, Nat.le_refl _, fun i h1 h2 => HN.out i h1 (by omega) h2, fun h => absurd h (by omega)⟩, HW.out⟩

/-- The first free number, the first used one. -/
def FreeFrom (m : MS) (f r : Nat) : Prop := Found m.n (fun i => !used m.ws i) f r
def UsedFrom (m : MS) (f r : Nat) : Prop := Found m.n (used m.ws) f r

set_option maxRecDepth 8000 in
set_option maxHeartbeats 400000 in
theorem nextFree_any (f : Nat) (m : MS) (w : World) (h : MapAt w m) (ht : Tab64 w) (hf : f ≤ m.n) :
    Calls Tryd.prog 21 #[.pointer (some ⟨m.a, 0, none⟩), .int .i64 f] w fun e w' => ∃ r : Nat, e = .returned (.int .i64 r) ∧ FreeFrom m f r ∧ ∃ k, w' = w.drewN k := by
  have cn := next_any f 18446744073709551615 m w h ht (by decide) hf
  rw [hit_free] at cn
  clear h ht hf
  go_enter Tryd.func21, Tryd.ntmps21
  go_wp2_with (go_at_call 30; refine cn.mono ?_; rintro e w' ⟨r, rfl, h1, h2⟩; have H : Hid (FreeFrom m f r ∧ ∃ k, w' = w.drewN k) := ⟨h1, h2⟩; clear h1 h2 cn)
  go_ret
  exact ⟨r, rfl, H.out⟩
set_option maxRecDepth 8000 in
set_option maxHeartbeats 400000 in
theorem nextUsed_any (f : Nat) (m : MS) (w : World) (h : MapAt w m) (ht : Tab64 w) (hf : f ≤ m.n) :
    Calls Tryd.prog 31 #[.pointer (some ⟨m.a, 0, none⟩), .int .i64 f] w fun e w' => ∃ r : Nat, e = .returned (.int .i64 r) ∧ UsedFrom m f r ∧ ∃ k, w' = w.drewN k := by
  have cn := next_any f 0 m w h ht (by decide) hf
  rw [hit_used] at cn
  clear h ht hf
  go_enter Tryd.func31, Tryd.ntmps31
  go_wp2_with (go_at_call 30; refine cn.mono ?_; rintro e w' ⟨r, rfl, h1, h2⟩; have H : Hid (UsedFrom m f r ∧ ∃ k, w' = w.drewN k) := ⟨h1, h2⟩; clear h1 h2 cn)
  go_ret
  exact ⟨r, rfl, H.out⟩
set_option maxRecDepth 8000 in
set_option maxHeartbeats 400000 in
theorem nextFree_nil (w : World) : Calls Tryd.prog 21 #[.pointer none, .int .i64 0] w fun e w' => e = .returned (.int .i64 0) ∧ w' = w := by
  have cn : Calls Tryd.prog 30 #[.pointer none, .int .i64 0, .int .u64 18446744073709551615] w fun e w' => e = .returned (.int .i64 0) ∧ w' = w := by
    go_enter Tryd.func30, Tryd.ntmps30
    go_wp2_with fail
    go_loopw [1] (fun ii wr => ii = .int .i64 0 ∧ wr = w) (fun _ _ => 0)
    case atStart => exact ⟨rfl, rfl⟩
    case round =>
      obtain ⟨rfl, rfl⟩ := hrel
      go_wp2_with (first | (go_at_call 22; refine Calls_on (has_nil 0 _) ?_) | (go_at_call 19; refine Calls_on (size_nil _) ?_))
      go_ret
      exact ⟨rfl, rfl⟩
  go_enter Tryd.func21, Tryd.ntmps21
  go_wp2_with (go_at_call 30; refine Calls_on cn ?_)
  go_ret
  exact ⟨rfl, rfl⟩

/- Rows of free numbers. -/

/-- k free numbers begin with s. -/
def IsRow (U : Nat → Bool) (n k s : Nat) : Prop := s + k ≤ n ∧ ∀ j, j < k → U (s + j) = false
/-- The least number with which k free ones begin; n, if there is none. -/
structure LeastRow (U : Nat → Bool) (n k r : Nat) : Prop where
  high : r ≤ n
  not : ∀ s, s < r → ¬ IsRow U n k s
  yes : r < n → IsRow U n k r

/-- A row that begins ahead of g begins ahead of f: behind free ones up to a used one there are too few. -/
theorem row_skip {U : Nat → Bool} {n k f e g : Nat} (h1 : ∀ s, s < f → ¬ IsRow U n k s) (he : Found n U f e) (hk : 0 < k) (hfew : e - f < k) (hg : Found n (fun i => !U i) e g) : ∀ s, s < g → ¬ IsRow U n k s := by
  intro s hs ⟨h2, h3⟩
  by_cases hf : s < f
  · exact h1 s hf ⟨h2, h3⟩
  by_cases hse : s < e
  · have he' : e < n := by omega
    have := h3 (e - s) (by omega)
    rw [show s + (e - s) = e by omega, he.yes he'] at this
    cases this
  · have := h3 0 hk
    have h4 := hg.not s (by omega) hs
    rw [Nat.add_zero] at this
    rw [this] at h4
    cases h4

set_option maxRecDepth 8000 in
set_option maxHeartbeats 1000000 in
theorem row_any (k : Nat) (m : MS) (w : World) (h : MapAt w m) (ht : Tab64 w) (hk : 0 < k) (hkn : k ≤ m.n) :
    Calls Tryd.prog 24 #[.pointer (some ⟨m.a, 0, none⟩), .int .i64 k] w fun e w' => ∃ r : Nat, e = .returned (.int .i64 r) ∧ LeastRow (used m.ws) m.n k r ∧ ∃ k, w' = w.drewN k := by
  have hm : m.n ≤ 65536 := h.fit.most
  have HM : Hid (MapAt w m ∧ Tab64 w) := ⟨h, ht⟩
  have cn := nextFree_any 0 m w h ht (Nat.zero_le _)
  clear h ht
  go_enter Tryd.func24, Tryd.ntmps24
  go_wp2_with (go_at_call 21; refine cn.mono ?_; rintro e w' ⟨r, rfl, h1, h2⟩; have H : Hid (FreeFrom m 0 r ∧ ∃ k, w' = w.drewN k) := ⟨h1, h2⟩; clear h1 h2 cn; refine Stop.out ?_)
  refine Stop.mk ?_
  go_wp2_with fail
  go_loopw [5] (fun ii wr => ∃ f : Nat, ii = .int .i64 f ∧ f ≤ m.n ∧ Hid ((∃ k, wr = w.drewN k) ∧ (f < m.n → used m.ws f = false) ∧ ∀ s, s < f → ¬ IsRow (used m.ws) m.n k s)) (fun ii _ => m.n - (intOf ii).toNat)
  case atStart =>
    obtain ⟨h1, h2⟩ := H.out
    refine ⟨r, rfl, h1.high, h2, fun h => by have := h1.yes h; simpa using this, fun s hs ⟨h3, h4⟩ => ?_⟩
    have := h1.not s (Nat.zero_le _) hs
    have h5 := h4 0 hk
    rw [Nat.add_zero] at h5
    rw [h5] at this
    cases this
  case round =>
    obtain ⟨f, rfl, hf, HW⟩ := hrel
    obtain ⟨⟨d, hd⟩, hfree, hno⟩ := HW.out
    have h : MapAt wr m := by rw [hd]; exact HM.out.1.drewN d
    have ht : Tab64 wr := by rw [hd]; exact HM.out.2
    clear hd hfree hno d
    have ch := has_any f m wr h
    by_cases hlt : f < m.n
    · rw [show decide (0 ≤ (f : Int) ∧ (f : Int) < m.n) = true by simp; omega] at ch
      have cu := nextUsed_any f m wr h ht hf
      have H1 : Hid (MapAt wr m ∧ Tab64 wr) := ⟨h, ht⟩
      clear h ht
      go_wp2_with (first | (go_at_call 22; refine Calls_on ch ?_; clear ch) | (go_at_call 31; refine cu.mono ?_; rintro e w1 ⟨g, rfl, h1, h2⟩; have HG : Hid (UsedFrom m f g ∧ ∃ k, w1 = wr.drewN k) := ⟨h1, h2⟩; clear h1 h2 cu; refine Stop.out ?_))
      refine Stop.mk ?_
      have hfg : f ≤ g := HG.out.1.low
      have hgn : g ≤ m.n := HG.out.1.high
      by_cases hrow : k ≤ g - f
      · have hrI : (k : Int) ≤ (g : Int) - (f : Int) := by omega
        go_wp2
        go_ret
        obtain ⟨⟨d, hd⟩, hfree, hno⟩ := HW.out
        obtain ⟨h1, d', hd'⟩ := HG.out
        refine ⟨f, rfl, ⟨hf, hno, fun _ => ⟨by omega, fun j hj => h1.not _ (by omega) (by omega)⟩⟩, d + d', ?_⟩
        rw [hd', hd, World.drewN_drewN]
      · have hrI : ¬ (k : Int) ≤ (g : Int) - (f : Int) := by omega
        obtain ⟨d', hd'⟩ := HG.out.2
        have cf := nextFree_any g m w1 (by rw [hd']; exact H1.out.1.drewN d') (by rw [hd']; exact H1.out.2) hgn
        clear hd' d'
        go_wp2_with (go_at_call 21; refine cf.mono ?_; rintro e w2 ⟨g2, rfl, h1, h2⟩; have HG2 : Hid (FreeFrom m g g2 ∧ ∃ k, w2 = w1.drewN k) := ⟨h1, h2⟩; clear h1 h2 cf; refine Stop.out ?_)
        refine Stop.mk ?_
        go_wp2
        have hg2 : g ≤ g2 := HG2.out.1.low
        have hg2n : g2 ≤ m.n := HG2.out.1.high
        obtain ⟨⟨d, hd⟩, hfree, hno⟩ := HW.out
        obtain ⟨h1, d', hd'⟩ := HG.out
        obtain ⟨h2, d2, hd2⟩ := HG2.out
        have hfg' : f < g := by
          apply Nat.lt_of_le_of_ne hfg
          intro e
          have := h1.yes (by omega)
          rw [← e, hfree hlt] at this
          cases this
        refine ⟨⟨g2, rfl, hg2n, ⟨d + d' + d2, ?_⟩, fun h => by have := h2.yes h; simpa using this, row_skip hno h1 hk (by omega) h2⟩, ?_⟩
        · rw [hd2, hd', hd, World.drewN_drewN, World.drewN_drewN, Nat.add_assoc]
        · simp [intOf]; omega
    · rw [show decide (0 ≤ (f : Int) ∧ (f : Int) < m.n) = false by simp; omega] at ch
      have cs := size_any m wr h
      clear h ht
      go_wp2_with (first | (go_at_call 22; refine Calls_on ch ?_; clear ch) | (go_at_call 19; refine Calls_on cs ?_; clear cs))
      go_ret
      obtain ⟨h2, hfree, hno⟩ := HW.out
      exact ⟨m.n, rfl, ⟨Nat.le_refl _, fun s hs => hno s (by omega), fun h => absurd h (by omega)⟩, h2⟩

end Go.Proofs.YtndefmchaohikaaDoor
