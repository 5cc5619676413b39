/-
  The law CodecRead returns true.
-/
import Derived.Test.YthimmgbccpdkmaaTake
import Derived.Test.YthimmgbccpdkmaaBegun
namespace Go.Proofs.Ythimmgbccpdkmaa
open Go.RowKit

def skips : List Int → St → St
  | [], s => s
  | k :: r, s => skips r (skip k s)
theorem skips_snoc (k : Int) : ∀ (l : List Int) (s : St), skips (l ++ [k]) s = skip k (skips l s)
  | [], _ => rfl
  | x :: l, s => skips_snoc k l (skip x s)
theorem skips_len : ∀ (l : List Int) (s : St), ((skips l s).getD []).length ≤ (s.getD []).length
  | [], _ => Nat.le_refl _
  | x :: l, s => Nat.le_trans (skips_len l _) (skip_len x s)

/-- Only two blocks that were made since. -/
theorem two_below {w w' w'' : World} {a c : Nat} (h : Below w.heap.size w w') (k : Only (fun b => b = a ∨ b = c) w' w'') (ha : w.heap.size ≤ a) (hc : w.heap.size ≤ c) : Below w.heap.size w w'' :=
  h.trans (k.below h.size (fun i hi => by rcases hi with rfl | rfl <;> assumption))

set_option maxRecDepth 8000 in
set_option maxHeartbeats 1000000 in
theorem read_any (p : Option Addr) (bs : List (BitVec 8)) (cp : Nat) (q : Option Addr) (ks : List Int) (cq : Nat) (w : World) (hcp : bs.length ≤ cp) (hb : Bytes w p bs) (hks : Lies w q (ks.map iv)) :
    Calls Try.prog 4 #[.slice p bs.length cp, .slice q ks.length cq] w fun e w' => e = .returned (.bool true) ∧ Below w.heap.size w w' := by
  have c6 := begun_any w
  have HB : Hid (Bytes w p bs) := hb
  have HCP : Hid (bs.length ≤ cp) := hcp
  have HK : Hid (Lies w q (ks.map iv)) := hks
  clear hcp hb hks
  go_enter Try.func4, Try.ntmps4
  go_wp2_with fail
  refine c6.mono ?_
  rintro e w1 ⟨rfl, hB1⟩
  have HB1 : Hid (Below w.heap.size w w1) := hB1
  obtain ⟨c8, b8, l8, m8⟩ := short_any p bs cp 200 w1 HCP.out (by decide) (below_bytes hB1 HB.out)
  have hlen : (bs.take 200).length ≤ 200 := m8
  have B8 : Hid (Bytes w1 p (bs.take 200)) := b8
  generalize bs.take 200 = b at c8 B8 hlen
  have c11 := newReader_any p b cp w1 (by omega) B8.out
  clear c6 hB1 b8 l8 m8
  go_wp2_with (first | (go_at_call 8; refine Calls_on (show Calls Try.prog 8 #[.slice p bs.length cp, .int .i64 200] _ _ from c8) ?_) | (go_at_call 11; fail))
  refine c11.mono ?_
  rintro e w2 ⟨a, rfl, ha, hR2, hB2⟩
  have HB2 : Hid (Below w.heap.size w w2) := HB1.out.trans (hB2.mono HB1.out.size)
  have HA : Hid (w.heap.size ≤ a) := Nat.le_trans HB1.out.size ha
  have HR2 : Hid (Rd 68 w2 a (some b)) := hR2
  have B2 : Hid (Bytes w2 p b) := below_bytes hB2 B8.out
  have HO : Hid (w2.ownsRow w2.heap.size 5 1 (.slice none 0 0) 0 []) := World.ownsRow_nil _ _ _ _
  have H63 : Hid (0 + b.length ≤ 1099511627776) := by show _ ≤ _; omega
  have HLB : Hid (b.length ≤ 200) := hlen
  have tok : True := trivial
  clear c8 c11 ha hR2 hB2
  go_wp2_with (have tk := tok; refine wpList_append_bytes rfl _ _ rfl w2.heap.size _ 0 [] rfl HO.out p b cp rfl B2.out H63.out (Nat.le_refl _) ?_; clear tk tok; intro v' w3 hown hg _; rw [Nat.zero_add, List.nil_append] at hown; obtain ⟨hl0, p3, c3, rfl, hc3, hb3, hp3⟩ := owns_bytes hown; have HP3 : Hid (Plain w3.heap.size p3) := owns_plain hown; have HC3 : Hid (b.length ≤ c3) := hc3; have B3 : Hid (Bytes w3 p3 b) := hb3; have hB3 : Below w2.heap.size w2 w3 := (Below.refl _ _).grown hg (Nat.le_refl _) (by intro k hk; cases hk); have HB3 : Hid (Below w2.heap.size w2 w3) := hB3; clear hown hg hl0 hc3 hb3 hp3 hB3)
  have HAW : Hid (Below w3.heap.size w3 (w3.alloc (.cells #[.slice p3 b.length c3, .bool false] 44))) := below_new _ _
  have HBO : Hid (Both (w3.alloc (.cells #[.slice p3 b.length c3, .bool false] 44)) a w3.heap.size (some b)) :=
    ⟨(HR2.out.below HB3.out).below HAW.out, ⟨p3, c3, HP3.out, heap_alloc_new w3 _, HC3.out, below_bytes HAW.out B3.out⟩⟩
  have HB4 : Hid (Below w.heap.size w (w3.alloc (.cells #[.slice p3 b.length c3, .bool false] 44))) := (HB2.out.trans (HB3.out.mono HB2.out.size)).trans (HAW.out.mono (Nat.le_trans HB2.out.size HB3.out.size))
  have HC : Hid (w.heap.size ≤ w3.heap.size) := Nat.le_trans HB2.out.size HB3.out.size
  generalize w3.alloc (.cells #[.slice p3 b.length c3, .bool false] 44) = w4 at HBO HB4 HAW ⊢
  generalize w3.heap.size = c at HBO HC ⊢
  clear HAW
  go_loopw [8] (fun ii wr => ∃ i : Nat, ii = .int .i64 i ∧ i ≤ ks.length ∧ i ≤ 20 ∧ Hid (Both wr a c (skips (ks.take i) (some b))) ∧ Hid (Below w.heap.size w wr)) (fun ii _ => 20 - (intOf ii).toNat)
  case atStart => exact ⟨0, rfl, Nat.zero_le _, by omega, HBO, HB4⟩
  case round =>
    obtain ⟨i, rfl, hi, hi20, HR, HBW⟩ := hrel
    have HSM : Hid (Small (skips (ks.take i) (some b))) := by
      have h1 := skips_len (ks.take i) (some b)
      have h2 := HLB.out
      show Small _
      unfold Small
      simp at h1
      omega
    by_cases hlt : i < ks.length ∧ i < 20
    · have hltI : (i : Int) < ks.length := by omega
      have hlt20 : (i : Int) < 20 := by omega
      obtain ⟨kb, ko, rfl, hkc⟩ := HK.out (by simp; omega)
      obtain ⟨x, hx⟩ : ∃ x, ks[i]? = some x := ⟨_, List.getElem?_eq_getElem hlt.1⟩
      have k1 := hkc i (iv x) (by rw [List.getElem?_map, hx]; rfl)
      have c1 : wr.cell? ⟨kb, ko + i, none⟩ = some (.int .i64 x) := (HBW.out.cell (p := ⟨kb, ko + i, none⟩) (cell_lt k1)).trans k1
      have c12 := take_any a c x _ wr HR.out HSM.out
      have HX : Hid (skips (ks.take (i + 1)) (some b) = skip x (skips (ks.take i) (some b))) := by
        show _ = _
        rw [List.take_add_one, hx]; exact skips_snoc _ _ _
      have hlt' : i < ks.length := hlt.1
      have hlt20' : i < 20 := hlt.2
      clear hkc hx k1 hlt
      go_wp2_with fail
      refine c12.mono ?_
      rintro e w5 ⟨rfl, m1, m2⟩
      have M1 : Hid (Both w5 a c (skip x (skips (ks.take i) (some b)))) := m1
      have M2 : Hid (Below w.heap.size w w5) := two_below HBW.out m2 HA.out HC.out
      clear c12 m1 m2 c1
      go_wp2
      go_roundw
      case rel => exact ⟨i + 1, by go_num, by omega, by omega, by rw [HX.out]; exact M1, M2⟩
      case measure => simp [intOf]; omega
    · have c13 := rdone_any a _ wr HR.out.r HSM.out
      have c14 := qdone_any c _ wr HR.out.q
      generalize skips (ks.take i) (some b) = S at c13 c14
      by_cases hS : S = some []
      · rw [if_pos hS] at c13
        rw [decide_eq_true hS] at c14
        clear hS HR HSM
        by_cases hlk : i < ks.length
        · have hlkI : (i : Int) < ks.length := by omega
          have h20 : i = 20 := by omega
          subst h20
          clear hlt
          go_wp2_with (first | (go_at_call 13; refine Calls_on c13 ?_) | (go_at_call 14; refine Calls_on c14 ?_))
          go_ret
          exact ⟨rfl, HBW.out⟩
        · have hlkI : ¬ (i : Int) < ks.length := by omega
          clear hlt
          go_wp2_with (first | (go_at_call 13; refine Calls_on c13 ?_) | (go_at_call 14; refine Calls_on c14 ?_))
          go_ret
          exact ⟨rfl, HBW.out⟩
      · rw [if_neg hS] at c13
        rw [decide_eq_false hS] at c14
        clear hS HR HSM
        by_cases hlk : i < ks.length
        · have hlkI : (i : Int) < ks.length := by omega
          have h20 : i = 20 := by omega
          subst h20
          clear hlt
          go_wp2_with (first | (go_at_call 13; refine Calls_on c13 ?_) | (go_at_call 14; refine Calls_on c14 ?_))
          go_ret
          exact ⟨rfl, HBW.out⟩
        · have hlkI : ¬ (i : Int) < ks.length := by omega
          clear hlt
          go_wp2_with (first | (go_at_call 13; refine Calls_on c13 ?_) | (go_at_call 14; refine Calls_on c14 ?_))
          go_ret
          exact ⟨rfl, HBW.out⟩

end Go.Proofs.Ythimmgbccpdkmaa
