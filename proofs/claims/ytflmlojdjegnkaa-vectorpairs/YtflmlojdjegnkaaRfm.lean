/-
  The document's own text: With, Max, Min.
-/
import Derived.Test.YtflmlojdjegnkaaRfn
namespace Go.Proofs.Ytflmlojdjegnkaa
open Go.RowKit

theorem withAt_here {ns : List Int} {k : Nat} {n : Int} (hk : k < 64) (hn : okN n = true) : withAt ns k n k = n := by
  unfold withAt
  rw [if_pos ⟨by omega, by omega, hn, rfl⟩]
theorem withAt_there {ns : List Int} {k i : Nat} {n : Int} (h : i ≠ k) : withAt ns k n i = atOf ns i := by
  unfold withAt
  rw [if_neg (by omega)]

set_option maxRecDepth 8000 in
set_option maxHeartbeats 400000 in
theorem rwith_no (p : Option Addr) (ns : List Int) (cp : Nat) (z n : Int) (w : World) (hp : Lies w p (ns.map iv)) (h : z < 0 ∨ 64 ≤ z ∨ n < 0 ∨ 1152921504606846976 < n) :
    Calls Try.prog 14 #[.slice p ns.length cp, .int .i64 z, .int .i64 n] w (Ans w (vec (withAt ns z n))) := by
  have hno : nodeB z = false ∨ okN n = false := by
    rcases h with h | h | h | h
    · exact .inl (nodeB_no (by omega))
    · exact .inl (nodeB_no (by omega))
    · exact .inr (by simp [okN]; omega)
    · exact .inr (by simp [okN]; omega)
  rw [vec_congr (fun k _ => withAt_no hno k)]
  have c26 := rnorm_any p ns cp w hp
  generalize vec (atOf ns) = l at *
  clear hp hno
  by_cases h0 : z < 0
  · clear h
    go_enter Try.func14, Try.ntmps14
    go_wp2_with (go_at_call 26; refine Calls_ans c26 ?_; intro p' c' w1 HL HB)
    go_ret
    exact ⟨p', c', rfl, HL.out, HB.out⟩
  · by_cases h1 : 64 ≤ z
    · clear h
      go_enter Try.func14, Try.ntmps14
      go_wp2_with (go_at_call 26; refine Calls_ans c26 ?_; intro p' c' w1 HL HB)
      go_ret
      exact ⟨p', c', rfl, HL.out, HB.out⟩
    · by_cases h2 : n < 0
      · clear h
        go_enter Try.func14, Try.ntmps14
        go_wp2_with (go_at_call 26; refine Calls_ans c26 ?_; intro p' c' w1 HL HB)
        go_ret
        exact ⟨p', c', rfl, HL.out, HB.out⟩
      · have h3 : (1152921504606846976 : Int) < n := by omega
        clear h
        go_enter Try.func14, Try.ntmps14
        go_wp2_with (go_at_call 26; refine Calls_ans c26 ?_; intro p' c' w1 HL HB)
        go_ret
        exact ⟨p', c', rfl, HL.out, HB.out⟩

set_option maxRecDepth 8000 in
set_option maxHeartbeats 400000 in
theorem rwith_any (p : Option Addr) (ns : List Int) (cp : Nat) (z n : Int) (w : World) (hp : Lies w p (ns.map iv)) :
    Calls Try.prog 14 #[.slice p ns.length cp, .int .i64 z, .int .i64 n] w (Ans w (vec (withAt ns z n))) := by
  by_cases h : z < 0 ∨ 64 ≤ z ∨ n < 0 ∨ 1152921504606846976 < n
  · exact rwith_no p ns cp z n w hp h
  · obtain ⟨k, rfl⟩ : ∃ k : Nat, z = k := Int.eq_ofNat_of_zero_le (by omega)
    have hk : k < 64 := by omega
    have hn : okN n = true := by simp [okN]; omega
    have h0 : ¬ (k : Int) < 0 := by omega
    have h1 : ¬ (64 : Int) ≤ k := by omega
    have h2 : ¬ n < 0 := by omega
    have h3 : ¬ (1152921504606846976 : Int) < n := by omega
    have C : Hid (∀ (w' : World) (k : Nat), Below w.heap.size w w' → k < 64 → Calls Try.prog 7 #[.slice p ns.length cp, .int .i64 k] w' fun e w'' => e = .returned (.int .i64 (atOf ns k)) ∧ w'' = w') :=
      fun w' k hB hk => rat_nat p ns cp k w' (below_lies hB hp) hk
    have HK : Hid (∀ i : Nat, withAt ns k n i = if i = k then n else atOf ns i) := fun i => by
      by_cases e : i = k
      · subst e; rw [if_pos rfl]; exact withAt_here hk hn
      · rw [if_neg e]; exact withAt_there e
    clear hp h hn
    generalize withAt ns k n = f at *
    generalize atOf ns = g at *
    go_enter Try.func14, Try.ntmps14
    go_wp2_with fail
    go_loopw [7, 8] (fun vv ii wr => ∃ i : Nat, ii = .int .i64 i ∧ i ≤ 64 ∧ Hid (wr.ownsRow w.heap.size 2 1 vv i ((numsTo f i).map iv)) ∧ Hid (Below w.heap.size w wr)) (fun _ ii _ => 64 - (intOf ii).toNat)
    case atStart => exact ⟨0, rfl, by omega, World.ownsRow_nil _ _ _ _, Below.refl _ _⟩
    case round =>
      obtain ⟨i, rfl, hi, HO, HB⟩ := hrel
      by_cases hlt : i < 64
      · have hltI : (i : Int) < 64 := by omega
        have H1 : Hid (i ≤ 1000000) := by show _ ≤ _; omega
        have H2 : Hid (w.heap.size ≤ wr.heap.size) := HB.out.size
        have tok : True := trivial
        by_cases hik : i = k
        · have hkk : ((i : Int) == (k : Int)) = true := by simp [hik]
          have HY : Hid (f i = n) := by show _ = _; rw [HK.out, if_pos hik]
          clear hik
          go_wp2_with (have tk := tok; refine wpList_append_num rfl _ _ 23 2 rfl Try.underlying23 Try.info2 w.heap.size _ i _ rfl wr n rfl HO rfl H1 H2 ?_; clear tk tok; intro v' w1 K1 K2)
          go_roundw
          case rel =>
            refine ⟨i + 1, by go_num, by omega, ?_, below_grown HB.out (Nat.le_refl _) HO.out K2.out⟩
            rw [numsTo_succ, List.map_append, HY.out]; exact K1
          case measure => simp [intOf]; omega
        · have hkk : ((i : Int) == (k : Int)) = false := by simp; omega
          have c7 := C.out wr i HB.out hlt
          have HY : Hid (f i = g i) := by show _ = _; rw [HK.out, if_neg hik]
          generalize g i = y at *
          clear hik
          go_wp2_with (first
            | (go_at_call 7; refine Calls_on c7 ?_)
            | (have tk := tok; refine wpList_append_num rfl _ _ 23 2 rfl Try.underlying23 Try.info2 w.heap.size _ i _ rfl wr y rfl HO rfl H1 H2 ?_; clear tk tok; intro v' w1 K1 K2))
          go_roundw
          case rel =>
            refine ⟨i + 1, by go_num, by omega, ?_, below_grown HB.out (Nat.le_refl _) HO.out K2.out⟩
            rw [numsTo_succ, List.map_append, HY.out]; exact K1
          case measure => simp [intOf]; omega
      · obtain rfl : i = 64 := by omega
        have c31 := short_own (f := f) HB.out HO.out
        obtain ⟨_, p', c', rfl, _, _⟩ := owns_lies HO.out
        clear hlt HO C
        generalize (List.map iv (numsTo f 64)).length = m at *
        go_wp2_with (go_at_call 31; refine Calls.mono c31 ?_; rintro e w2 ⟨p2, c2, rfl, hl2, hb2⟩; have HL : Hid (Lies w2 p2 ((vec f).map iv)) := hl2; have HB2 : Hid (Below w.heap.size w w2) := hb2; clear hl2 hb2)
        go_ret
        exact ⟨p2, c2, rfl, HL.out, HB2.out⟩

set_option maxRecDepth 8000 in
set_option maxHeartbeats 400000 in
theorem rmax_any (p q : Option Addr) (a b : List Int) (cp cq : Nat) (w : World) (hp : Lies w p (a.map iv)) (hq : Lies w q (b.map iv)) :
    Calls Try.prog 16 #[.slice p a.length cp, .slice q b.length cq] w (Ans w (vec (maxAt [a, b]))) := by
  have CA : Hid (∀ (w' : World) (k : Nat), Below w.heap.size w w' → k < 64 → Calls Try.prog 7 #[.slice p a.length cp, .int .i64 k] w' fun e w'' => e = .returned (.int .i64 (atOf a k)) ∧ w'' = w') :=
    fun w' k hB hk => rat_nat p a cp k w' (below_lies hB hp) hk
  have CB : Hid (∀ (w' : World) (k : Nat), Below w.heap.size w w' → k < 64 → Calls Try.prog 7 #[.slice q b.length cq, .int .i64 k] w' fun e w'' => e = .returned (.int .i64 (atOf b k)) ∧ w'' = w') :=
    fun w' k hB hk => rat_nat q b cq k w' (below_lies hB hq) hk
  have HK : Hid (∀ i : Nat, maxAt [a, b] i = if atOf b i < atOf a i then atOf a i else atOf b i) := fun i => by
    rw [maxAt_two]
    split <;> omega
  clear hp hq
  generalize maxAt [a, b] = f at *
  generalize atOf a = fa at *
  generalize atOf b = fb at *
  generalize a.length = la at *
  generalize b.length = lb at *
  go_enter Try.func16, Try.ntmps16
  go_wp2_with fail
  go_loopw [5, 6] (fun vv ii wr => ∃ i : Nat, ii = .int .i64 i ∧ i ≤ 64 ∧ Hid (wr.ownsRow w.heap.size 2 1 vv i ((numsTo f i).map iv)) ∧ Hid (Below w.heap.size w wr)) (fun _ ii _ => 64 - (intOf ii).toNat)
  case atStart => exact ⟨0, rfl, by omega, World.ownsRow_nil _ _ _ _, Below.refl _ _⟩
  case round =>
    obtain ⟨i, rfl, hi, HO, HB⟩ := hrel
    by_cases hlt : i < 64
    · have hltI : (i : Int) < 64 := by omega
      have H1 : Hid (i ≤ 1000000) := by show _ ≤ _; omega
      have H2 : Hid (w.heap.size ≤ wr.heap.size) := HB.out.size
      have tok : True := trivial
      have ca := CA.out wr i HB.out hlt
      have cb := CB.out wr i HB.out hlt
      have HY : Hid (f i = if fb i < fa i then fa i else fb i) := HK.out i
      generalize fa i = x at *
      generalize fb i = y at *
      have ca2 := ca
      have cb2 := cb
      by_cases hxy : y < x
      · have HF : Hid (f i = x) := by show _ = _; rw [HY.out, if_pos hxy]
        clear cb2
        go_wp2_with (first
          | (go_at_call 7; refine Calls_on ca ?_; clear ca)
          | (go_at_call 7; refine Calls_on cb ?_; clear cb)
          | (go_at_call 7; refine Calls_on ca2 ?_; clear ca2)
          | (have tk := tok; refine wpList_append_num rfl _ _ 23 2 rfl Try.underlying23 Try.info2 w.heap.size _ i _ rfl wr x rfl HO rfl H1 H2 ?_; clear tk tok; intro v' w1 K1 K2))
        go_roundw
        case rel =>
          refine ⟨i + 1, by go_num, by omega, ?_, below_grown HB.out (Nat.le_refl _) HO.out K2.out⟩
          rw [numsTo_succ, List.map_append, HF.out]; exact K1
        case measure => simp [intOf]; omega
      · have HF : Hid (f i = y) := by show _ = _; rw [HY.out, if_neg hxy]
        clear ca2
        go_wp2_with (first
          | (go_at_call 7; refine Calls_on ca ?_; clear ca)
          | (go_at_call 7; refine Calls_on cb ?_; clear cb)
          | (go_at_call 7; refine Calls_on cb2 ?_; clear cb2)
          | (have tk := tok; refine wpList_append_num rfl _ _ 23 2 rfl Try.underlying23 Try.info2 w.heap.size _ i _ rfl wr y rfl HO rfl H1 H2 ?_; clear tk tok; intro v' w1 K1 K2))
        go_roundw
        case rel =>
          refine ⟨i + 1, by go_num, by omega, ?_, below_grown HB.out (Nat.le_refl _) HO.out K2.out⟩
          rw [numsTo_succ, List.map_append, HF.out]; exact K1
        case measure => simp [intOf]; omega
    · obtain rfl : i = 64 := by omega
      have c31 := short_own (f := f) HB.out HO.out
      obtain ⟨_, p', c', rfl, _, _⟩ := owns_lies HO.out
      clear hlt HO CA CB
      generalize (List.map iv (numsTo f 64)).length = m at *
      go_wp2_with (go_at_call 31; refine Calls.mono c31 ?_; rintro e w2 ⟨p2, c2, rfl, hl2, hb2⟩; have HL : Hid (Lies w2 p2 ((vec f).map iv)) := hl2; have HB2 : Hid (Below w.heap.size w w2) := hb2; clear hl2 hb2)
      go_ret
      exact ⟨p2, c2, rfl, HL.out, HB2.out⟩

set_option maxRecDepth 8000 in
set_option maxHeartbeats 400000 in
theorem rmin_any (p q : Option Addr) (a b : List Int) (cp cq : Nat) (w : World) (hp : Lies w p (a.map iv)) (hq : Lies w q (b.map iv)) :
    Calls Try.prog 18 #[.slice p a.length cp, .slice q b.length cq] w (Ans w (vec (minAt a b))) := by
  have CA : Hid (∀ (w' : World) (k : Nat), Below w.heap.size w w' → k < 64 → Calls Try.prog 7 #[.slice p a.length cp, .int .i64 k] w' fun e w'' => e = .returned (.int .i64 (atOf a k)) ∧ w'' = w') :=
    fun w' k hB hk => rat_nat p a cp k w' (below_lies hB hp) hk
  have CB : Hid (∀ (w' : World) (k : Nat), Below w.heap.size w w' → k < 64 → Calls Try.prog 7 #[.slice q b.length cq, .int .i64 k] w' fun e w'' => e = .returned (.int .i64 (atOf b k)) ∧ w'' = w') :=
    fun w' k hB hk => rat_nat q b cq k w' (below_lies hB hq) hk
  have HK : Hid (∀ i : Nat, minAt a b i = if atOf a i < atOf b i then atOf a i else atOf b i) := fun i => by
    unfold minAt
    split <;> omega
  clear hp hq
  generalize minAt a b = f at *
  generalize atOf a = fa at *
  generalize atOf b = fb at *
  generalize a.length = la at *
  generalize b.length = lb at *
  go_enter Try.func18, Try.ntmps18
  go_wp2_with fail
  go_loopw [5, 6] (fun vv ii wr => ∃ i : Nat, ii = .int .i64 i ∧ i ≤ 64 ∧ Hid (wr.ownsRow w.heap.size 2 1 vv i ((numsTo f i).map iv)) ∧ Hid (Below w.heap.size w wr)) (fun _ ii _ => 64 - (intOf ii).toNat)
  case atStart => exact ⟨0, rfl, by omega, World.ownsRow_nil _ _ _ _, Below.refl _ _⟩
  case round =>
    obtain ⟨i, rfl, hi, HO, HB⟩ := hrel
    by_cases hlt : i < 64
    · have hltI : (i : Int) < 64 := by omega
      have H1 : Hid (i ≤ 1000000) := by show _ ≤ _; omega
      have H2 : Hid (w.heap.size ≤ wr.heap.size) := HB.out.size
      have tok : True := trivial
      have ca := CA.out wr i HB.out hlt
      have cb := CB.out wr i HB.out hlt
      have HY : Hid (f i = if fa i < fb i then fa i else fb i) := HK.out i
      generalize fa i = x at *
      generalize fb i = y at *
      have ca2 := ca
      have cb2 := cb
      by_cases hxy : x < y
      · have HF : Hid (f i = x) := by show _ = _; rw [HY.out, if_pos hxy]
        clear cb2
        go_wp2_with (first
          | (go_at_call 7; refine Calls_on ca ?_; clear ca)
          | (go_at_call 7; refine Calls_on cb ?_; clear cb)
          | (go_at_call 7; refine Calls_on ca2 ?_; clear ca2)
          | (have tk := tok; refine wpList_append_num rfl _ _ 23 2 rfl Try.underlying23 Try.info2 w.heap.size _ i _ rfl wr x rfl HO rfl H1 H2 ?_; clear tk tok; intro v' w1 K1 K2))
        go_roundw
        case rel =>
          refine ⟨i + 1, by go_num, by omega, ?_, below_grown HB.out (Nat.le_refl _) HO.out K2.out⟩
          rw [numsTo_succ, List.map_append, HF.out]; exact K1
        case measure => simp [intOf]; omega
      · have HF : Hid (f i = y) := by show _ = _; rw [HY.out, if_neg hxy]
        clear ca2
        go_wp2_with (first
          | (go_at_call 7; refine Calls_on ca ?_; clear ca)
          | (go_at_call 7; refine Calls_on cb ?_; clear cb)
          | (go_at_call 7; refine Calls_on cb2 ?_; clear cb2)
          | (have tk := tok; refine wpList_append_num rfl _ _ 23 2 rfl Try.underlying23 Try.info2 w.heap.size _ i _ rfl wr y rfl HO rfl H1 H2 ?_; clear tk tok; intro v' w1 K1 K2))
        go_roundw
        case rel =>
          refine ⟨i + 1, by go_num, by omega, ?_, below_grown HB.out (Nat.le_refl _) HO.out K2.out⟩
          rw [numsTo_succ, List.map_append, HF.out]; exact K1
        case measure => simp [intOf]; omega
    · obtain rfl : i = 64 := by omega
      have c31 := short_own (f := f) HB.out HO.out
      obtain ⟨_, p', c', rfl, _, _⟩ := owns_lies HO.out
      clear hlt HO CA CB
      generalize (List.map iv (numsTo f 64)).length = m at *
      go_wp2_with (go_at_call 31; refine Calls.mono c31 ?_; rintro e w2 ⟨p2, c2, rfl, hl2, hb2⟩; have HL : Hid (Lies w2 p2 ((vec f).map iv)) := hl2; have HB2 : Hid (Below w.heap.size w w2) := hb2; clear hl2 hb2)
      go_ret
      exact ⟨p2, c2, rfl, HL.out, HB2.out⟩

end Go.Proofs.Ytflmlojdjegnkaa
