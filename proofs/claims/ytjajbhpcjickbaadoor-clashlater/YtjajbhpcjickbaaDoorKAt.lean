/-
  ClashLater's law.
-/
import Derived.Test.YtjajbhpcjickbaaDoorKAs

namespace Go.Proofs.YtjajbhpcjickbaaDoor.Ck.Sh
open Go.RowKit Go.Lib Go.Maps

attribute [local go_sem] Oper.semAt_some

theorem idA_snoc {ids : List (Int × Int)} {x : Int × Int} {i : Nat} (h : i < ids.length) : idA (ids ++ [x]) i = idA ids i := by
  unfold idA
  rw [List.getD, List.getD, List.getElem?_append_left h]
theorem idA_last (ids : List (Int × Int)) (x : Int × Int) : idA (ids ++ [x]) ids.length = x := by
  unfold idA
  rw [List.getD, List.getElem?_append_right (Nat.le_refl _)]
  simp
theorem nmA_snoc {names : List (List UInt8)} {x : List UInt8} {i : Nat} (h : i < names.length) : nmA (names ++ [x]) i = nmA names i := by
  unfold nmA
  rw [List.getD, List.getD, List.getElem?_append_left h]
theorem nmA_last (names : List (List UInt8)) (x : List UInt8) : nmA (names ++ [x]) names.length = x := by
  unfold nmA
  rw [List.getD, List.getElem?_append_right (Nat.le_refl _)]
  simp
/-- Whether one of the first i has the name. -/
def tkB (names : List (List UInt8)) (nm : List UInt8) : Nat → Bool
  | 0 => false
  | i + 1 => tkB names nm i || decide (nmA names i = nm)
theorem tk_iff {names : List (List UInt8)} {nm : List UInt8} : ∀ {i : Nat}, tkB names nm i = true ↔ ∃ j, j < i ∧ nmA names j = nm
  | 0 => by simp [tkB]
  | i + 1 => by
    simp only [tkB, Bool.or_eq_true, decide_eq_true_eq, tk_iff (i := i)]
    constructor
    · rintro (⟨j, h1, h2⟩ | h)
      · exact ⟨j, by omega, h2⟩
      · exact ⟨i, by omega, h⟩
    · rintro ⟨j, h1, h2⟩
      by_cases e : j = i
      · subst e; exact .inr h2
      · exact .inl ⟨j, by omega, h2⟩
section
variable {ids : List (Int × Int)} {names : List (List UInt8)} {n : Nat} {x : Int × Int} {nm : List UInt8}
theorem later_old (h1 : ids.length = n) (h2 : names.length = n) (hl : ∀ j, j < n → lsA (idA ids j) x = true) {i : Nat} (hi : i < n) : shownAt (ids ++ [x]) (names ++ [nm]) (n + 1) i = shownAt ids names n i := by
  have e1 : idA (ids ++ [x]) i = idA ids i := idA_snoc (by omega)
  have e2 : nmA (names ++ [nm]) i = nmA names i := nmA_snoc (by omega)
  have hb : ∀ k, k < n → befB (ids ++ [x]) (names ++ [nm]) k i = befB ids names k i := fun k hk => by
    unfold befB
    rw [e1, e2, idA_snoc (by omega), nmA_snoc (by omega)]
  have hx : befB (ids ++ [x]) (names ++ [nm]) n i = false := by
    cases f : befB (ids ++ [x]) (names ++ [nm]) n i with
    | false => rfl
    | true =>
      exfalso
      obtain ⟨_, b2⟩ := bef_iff.1 f
      rw [e1, show idA (ids ++ [x]) n = x by rw [← h1]; exact idA_last ids x] at b2
      have hh := hl i hi
      rcases b2 with b2 | ⟨b2, _⟩
      · have := lsA_trans hh b2
        rw [lsA_irr] at this; cases this
      · omega
  have hk : keptB (ids ++ [x]) (names ++ [nm]) (n + 1) i = keptB ids names n i := by
    cases c : keptB ids names n i with
    | true =>
      refine kept_iff.2 fun k hk => ?_
      by_cases e : k = n
      · rw [e, hx]; decide
      · rw [hb k (by omega)]; exact kept_iff.1 c k (by omega)
    | false =>
      cases c' : keptB (ids ++ [x]) (names ++ [nm]) (n + 1) i with
      | false => rfl
      | true =>
        exfalso
        have k1 := kept_iff.1 c'
        have : keptB ids names n i = true := kept_iff.2 fun k hk => by rw [← hb k hk]; exact k1 k (by omega)
        rw [c] at this; cases this
  unfold shownAt
  rw [hk, e1, e2]
theorem later_new (h1 : ids.length = n) (h2 : names.length = n) (hl : ∀ j, j < n → lsA (idA ids j) x = true) : shownAt (ids ++ [x]) (names ++ [nm]) (n + 1) n = if tkB names nm n = true then nm ++ sufL x.1 x.2 else nm := by
  have e1 : idA (ids ++ [x]) n = x := by rw [← h1]; exact idA_last ids x
  have e2 : nmA (names ++ [nm]) n = nm := by rw [← h2]; exact nmA_last names nm
  have hb : ∀ k, k < n → (befB (ids ++ [x]) (names ++ [nm]) k n = true ↔ nmA names k = nm) := fun k hk => by
    rw [bef_iff, e1, e2, idA_snoc (by omega), nmA_snoc (by omega)]
    exact ⟨fun h => h.1, fun h => ⟨h, .inl (hl k hk)⟩⟩
  unfold shownAt
  rw [e1, e2]
  cases c : tkB names nm n with
  | true =>
    have hk : ¬ keptB (ids ++ [x]) (names ++ [nm]) (n + 1) n = true := fun hk => by
      obtain ⟨j, h3, h4⟩ := tk_iff.1 c
      exact kept_iff.1 hk j (by omega) ((hb j h3).2 h4)
    rw [if_neg hk, if_pos rfl]
  | false =>
    have hk : keptB (ids ++ [x]) (names ++ [nm]) (n + 1) n = true := by
      refine kept_iff.2 fun k hk hbf => ?_
      by_cases e : k = n
      · subst e
        obtain ⟨_, b2⟩ := bef_iff.1 hbf
        rcases b2 with b2 | ⟨b2, _⟩
        · rw [lsA_irr] at b2; cases b2
        · omega
      · have : tkB names nm n = true := tk_iff.2 ⟨k, by omega, (hb k (by omega)).1 hbf⟩
        rw [c] at this; cases this
    rw [if_pos hk, if_neg (by decide)]
end

set_option maxRecDepth 8000 in
set_option maxRecDepth 8000 in
set_option maxHeartbeats 8000000 in
theorem later_law (ids : List (Int × Int)) (names : List (List UInt8)) (nm : List UInt8) (p1 p2 : Option Addr) (L1 L2 m n c1 c2 : Nat) (w : World) (hL : Lb w) (h1 : Ids w p1 ids) (h2 : Nms w p2 names) (hc1 : L1 ≤ c1) (hc2 : L2 ≤ c2) (hA : (10 < L1 ∧ m = 10) ∨ (¬ 10 < L1 ∧ m = L1)) (hB : (m < L2 ∧ n = m) ∨ (¬ m < L2 ∧ n = L2)) (hl1 : ids.length = n) (hl2 : names.length = n) (hid : ∀ x ∈ ids, InI x.1 ∧ InI x.2) (hnm : ∀ x ∈ names, x.length ≤ 150000000000000) (hnl : nm.length ≤ 150000000000000) :
    Calls Tryd.prog 6 #[.slice p1 L1 c1, .slice p2 L2 c2, .string (bas nm)] w fun e w' => e = .returned (.bool true) ∧ Below w.heap.size w w' := by
  have hn10 : n ≤ 10 := by omega
  have cb := fun W (hW : Lb W) => begun_any W hW
  have T1 : InI (1152921504606846976 : Int) := ⟨by decide, by decide⟩
  have T2 : InI (63 : Int) := ⟨by decide, by decide⟩
  have cs : ∀ W, Below w.heap.size w W → Calls Tryd.prog 8 #[.slice p1 n c1, .slice p2 n c2] W fun e w' => ∃ p, e = .returned (.slice p n n) ∧ Nms w' p (shownL ids names n) ∧ Below W.heap.size W w' := fun W hb => by
    have := shown_any ids names p1 p2 c1 c2 W (hL.below hb) (h1.below hb) (h2.below hb) (by omega) (by omega) (by omega) hid hnm
    rw [hl1, hl2, Nat.min_self] at this
    exact this.mono fun e w' ⟨p, he, h⟩ => ⟨p, he, h.out.1, h.out.2⟩
  have HC : Hid (∀ w9, Below w.heap.size w w9 → ∀ (v v' : Value) W, Below w9.heap.size w9 W → W.ownsRow w9.heap.size 29 2 v (n + 1) (idsC (ids ++ [((1152921504606846976 : Int), (63 : Int))])) → W.ownsRow w9.heap.size 9 1 v' (n + 1) (strs (names ++ [nm])) → Calls Tryd.prog 8 #[v, v'] W fun e w' => ∃ x, e = .returned x ∧ Below W.heap.size W w' ∧ ∃ p, x = .slice p (n + 1) (n + 1) ∧ Nms w' p (shownL (ids ++ [((1152921504606846976 : Int), (63 : Int))]) (names ++ [nm]) (n + 1))) := fun w9 hb9 v v' W hb o1 o2 => by
    obtain ⟨pa, ca, e1, k1⟩ := own_slice o1
    obtain ⟨pb, cb, e2, k2⟩ := own_slice o2
    obtain ⟨pa', ca', e1', s1⟩ := Cs.of_own o1
    obtain ⟨pb', cb', e2', s2⟩ := Cs.of_own o2
    rw [e1] at e1'
    injection e1' with x1 _ _
    rw [e2] at e2'
    injection e2' with x2 _ _
    subst x1 x2
    have := shown_any (ids ++ [((1152921504606846976 : Int), (63 : Int))]) (names ++ [nm]) pa pb ca cb W (hL.below (below_then hb9 hb)) (ids_of_cs s1) (nms_of_cs s2) (by simp [hl1]; omega) (by simp [hl2]; omega) (by simp [hl1]; omega) (fun x hx => by
      rcases List.mem_append.1 hx with h | h
      · exact hid x h
      · rw [List.mem_singleton.1 h]; exact ⟨T1, T2⟩) (fun x hx => by
      rcases List.mem_append.1 hx with h | h
      · exact hnm x h
      · rw [List.mem_singleton.1 h]; exact hnl)
    rw [List.length_append, List.length_append, hl1, hl2, List.length_singleton, List.length_singleton, Nat.min_self] at this
    rw [e1, e2]
    exact this.mono fun e w' ⟨p, he, h⟩ => ⟨_, he, h.out.2, p, rfl, h.out.1⟩
  have HO : Hid ((∀ j, j < n → lsA (idA ids j) ((1152921504606846976 : Int), (63 : Int)) = true) → (∀ i, i < n → shownAt (ids ++ [((1152921504606846976 : Int), (63 : Int))]) (names ++ [nm]) (n + 1) i = shownAt ids names n i) ∧ shownAt (ids ++ [((1152921504606846976 : Int), (63 : Int))]) (names ++ [nm]) (n + 1) n = if tkB names nm n = true then nm ++ sufL 1152921504606846976 63 else nm) := fun hl => ⟨fun i hi => later_old hl1 hl2 hl hi, later_new hl1 hl2 hl⟩
  have cx := fun W (hW : Lb W) => suffix_any 1152921504606846976 63 T1 T2 W hW
  have ls : (sufL 1152921504606846976 63).length ≤ 100 := by
    have a1 := Lib.itoa_length_le 1152921504606846976 T1.1 T1.2
    have a2 := Lib.itoa_length_le 63 T2.1 T2.2
    unfold sufL
    simp
    omega
  have HL := Lib.hid hL
  have H1 := Lib.hid h1
  have H2 := Lib.hid h2
  have HN := Lib.hid (And.intro hl1 hl2)
  clear hL h1 h2 hid hnm hl1 hl2 T1 T2
  generalize sufL 1152921504606846976 63 = sf at cx ls HO
  obtain ⟨z, hz⟩ : ∃ z, z = nm ++ sf := ⟨_, rfl⟩
  have az : ∀ W, (Op.stringOp .add (bas nm) (bas sf)).run Tryd.prog W = .ok (.string (bas z)) W := fun W => by rw [hz]; exact cat_run nm sf W (by omega)
  rw [← hz] at HO
  clear hz ls hnl
  generalize hT : (1152921504606846976 : Int) = T at HC HO cx
  rcases hA with ⟨hA, rfl⟩ | ⟨hA, rfl⟩ <;> rcases hB with ⟨hB, rfl⟩ | ⟨hB, rfl⟩
  · have hAI : (10 : Int) < (L1 : Int) := by omega
    have hA12 : 10 ≤ c1 := by omega
    have hBI : (10 : Int) < (L2 : Int) := by omega
    have hB12 : 10 ≤ c2 := by omega
    go_enter Tryd.func6, Tryd.ntmps6
    go_wp2_with (go_at_call 7; refine (cb _ HL.out).mono ?_; rintro e w2 ⟨rfl, hb2⟩; have B2 := Lib.hid hb2; clear hb2 cb)
    clear hT
    go_loopw [9] (fun ii wr => ∃ (i : Nat), ii = .int .i64 i ∧ i ≤ 10 ∧ Hid ((∀ j, j < i → lsA (idA ids j) (T, 63) = true) ∧ IdC wr w2.heap.size T 63 ∧ Below w.heap.size w wr)) (fun ii _ => 10 - (RowKit.intOf ii).toNat)
    case atStart => exact ⟨0, rfl, Nat.zero_le _, (fun j hj => by omega), IdC.new w2 T 63, below_then B2.out (below_new w2 _).out⟩
    case round =>
      obtain ⟨i, rfl, hi, HI⟩ := hrel
      by_cases hlt : i < 10
      · have hltI : (i : Int) < 10 := by omega
        obtain ⟨gi, oi, rfl, q1, q2⟩ := (H1.out.below HI.out.2.2) i _ (idA_of (by rw [HN.out.1]; omega))
        have i1 := HI.out.2.1.c0
        have i2 := HI.out.2.1.c1
        have cl := fun W => rless_any (idA ids i).1 (idA ids i).2 T 63 W
        have hle : lessB (idA ids i).1 (idA ids i).2 T 63 = lsA (idA ids i) (T, 63) := rfl
        rw [hle] at cl
        clear hle
        obtain ⟨t, ht⟩ : ∃ t, (idA ids i).1 = t := ⟨_, rfl⟩
        obtain ⟨u, hu⟩ : ∃ u, (idA ids i).2 = u := ⟨_, rfl⟩
        rw [ht] at q1 cl
        rw [hu] at q2 cl
        clear ht hu
        have HS : ∀ W W', (W.cell? ⟨gi, oi + i * 2, none⟩ = some (.int .i64 t) ∧ W.cell? ⟨gi, oi + i * 2 + 1, none⟩ = some (.int .i64 u) ∧ W.cell? ⟨w2.heap.size, 0, none⟩ = some (.int .i64 T) ∧ W.cell? ⟨w2.heap.size, 1, none⟩ = some (.int .i64 63) ∧ Hid (Below wr.heap.size wr W)) → Hid (Below W.heap.size W W') → W'.cell? ⟨gi, oi + i * 2, none⟩ = some (.int .i64 t) ∧ W'.cell? ⟨gi, oi + i * 2 + 1, none⟩ = some (.int .i64 u) ∧ W'.cell? ⟨w2.heap.size, 0, none⟩ = some (.int .i64 T) ∧ W'.cell? ⟨w2.heap.size, 1, none⟩ = some (.int .i64 63) ∧ Hid (Below wr.heap.size wr W') := fun W W' h1 h2 =>
          have hb := below_then h1.2.2.2.2.out h2.out
          ⟨cell_kept q1 hb, cell_kept q2 hb, cell_kept i1 hb, cell_kept i2 hb, hb⟩
        have S1 : wr.drew.cell? ⟨gi, oi + i * 2, none⟩ = some (.int .i64 t) ∧ wr.drew.cell? ⟨gi, oi + i * 2 + 1, none⟩ = some (.int .i64 u) ∧ wr.drew.cell? ⟨w2.heap.size, 0, none⟩ = some (.int .i64 T) ∧ wr.drew.cell? ⟨w2.heap.size, 1, none⟩ = some (.int .i64 63) ∧ Hid (Below wr.heap.size wr wr.drew) := ⟨q1, q2, i1, i2, below_drewN wr 1⟩
        have S2 : wr.cell? ⟨gi, oi + i * 2, none⟩ = some (.int .i64 t) ∧ wr.cell? ⟨gi, oi + i * 2 + 1, none⟩ = some (.int .i64 u) ∧ wr.cell? ⟨w2.heap.size, 0, none⟩ = some (.int .i64 T) ∧ wr.cell? ⟨w2.heap.size, 1, none⟩ = some (.int .i64 63) ∧ Hid (Below wr.heap.size wr wr) := ⟨q1, q2, i1, i2, Below.refl _ _⟩
        have HF : ∀ W, (W.cell? ⟨gi, oi + i * 2, none⟩ = some (.int .i64 t) ∧ W.cell? ⟨gi, oi + i * 2 + 1, none⟩ = some (.int .i64 u) ∧ W.cell? ⟨w2.heap.size, 0, none⟩ = some (.int .i64 T) ∧ W.cell? ⟨w2.heap.size, 1, none⟩ = some (.int .i64 63) ∧ Hid (Below wr.heap.size wr W)) → Below wr.heap.size wr W := fun W hW => hW.2.2.2.2.out
        cases hr : lsA (idA ids i) (T, 63) with
        | true =>
          rw [hr] at cl
          have HR := Lib.hid hr
          clear hr
          go_wp2_with fail
          go_region_held3 (fun W => W.cell? ⟨gi, oi + i * 2, none⟩ = some (.int .i64 t) ∧ W.cell? ⟨gi, oi + i * 2 + 1, none⟩ = some (.int .i64 u) ∧ W.cell? ⟨w2.heap.size, 0, none⟩ = some (.int .i64 T) ∧ W.cell? ⟨w2.heap.size, 1, none⟩ = some (.int .i64 63) ∧ Hid (Below wr.heap.size wr W))
            (first | exact S1 | exact S2 | assumption | exact HS _ _ (by assumption) (by assumption))
            (first | (go_at_call 17; refine Calls_new (cl _) ?_; intro w5 HB5))
          have HW := Lib.hid (HF w5 (by assumption))
          go_wp2_with fail
          exact ⟨⟨i + 1, by simp, by omega, (fun j hj => by
            by_cases e : j = i
            · subst e; exact HR.out
            · exact HI.out.1 j (by omega)), HI.out.2.1.below HW.out, below_then HI.out.2.2 HW.out⟩, by simp [RowKit.intOf]; omega⟩
        | false =>
          rw [hr] at cl
          clear hr
          go_wp2_with fail
          go_region_held3 (fun W => W.cell? ⟨gi, oi + i * 2, none⟩ = some (.int .i64 t) ∧ W.cell? ⟨gi, oi + i * 2 + 1, none⟩ = some (.int .i64 u) ∧ W.cell? ⟨w2.heap.size, 0, none⟩ = some (.int .i64 T) ∧ W.cell? ⟨w2.heap.size, 1, none⟩ = some (.int .i64 63) ∧ Hid (Below wr.heap.size wr W))
            (first | exact S1 | exact S2 | assumption | exact HS _ _ (by assumption) (by assumption))
            (first | (go_at_call 17; refine Calls_new (cl _) ?_; intro w5 HB5))
          have HW := Lib.hid (HF w5 (by assumption))
          go_wp2_with fail
          go_ret
          exact ⟨rfl, below_then HI.out.2.2 HW.out⟩
      · have hltI : ¬ (i : Int) < 10 := by omega
        have HIE := Lib.hid (show i = 10 by omega)
        have HOO := Lib.hid (HO.out (fun j hj => HI.out.1 j (by have := HIE.out; omega)))
        clear HO
        rename World => wi
        go_wp2_with (go_at_call 8; refine (cs _ HI.out.2.2).mono ?_; rintro e w4 ⟨pl, rfl, hn4, hb4⟩; have B4 := Lib.hid (below_then HI.out.2.2 hb4); have N4 := Lib.hid hn4; have I4 := Lib.hid (HI.out.2.1.below hb4); clear hb4 hn4 cs)
        refine lt14 (by kernel_rfl) p1 p2 10 c1 c2 w2.heap.size nm T 63 ids names (fun x W => ∃ p, x = .slice p (10 + 1) (10 + 1) ∧ Nms W p (shownL (ids ++ [(T, 63)]) (names ++ [nm]) (10 + 1))) _ rfl rfl rfl rfl rfl I4.out (H1.out.below B4.out) (H2.out.below B4.out) HN.out.1 HN.out.2 (by omega) (HC.out _ B4.out) ?_
        rintro ⟨ga1, ga2, ga3, gb1, gb2, gb3, gr⟩ w5 hb5 ⟨pm, hgr, hn5⟩
        have hgr' : gr = .slice pm (10 + 1) (10 + 1) := hgr
        clear hgr
        subst hgr'
        have B5 := Lib.hid (below_then B4.out hb5)
        have N5 := Lib.hid (And.intro (N4.out.below hb5) hn5)
        have I5 := Lib.hid (I4.out.below hb5)
        clear hb5 hn5 HC
        simp only [putAll, List.setIfInBounds_toArray, List.set_cons_zero, List.set_cons_succ]
        go_wp2_with fail
        go_loopw [12, 13] (fun tk ii wr => ∃ (k : Nat) (q : Bool), tk = .bool q ∧ ii = .int .i64 k ∧ k ≤ 10 ∧ Hid (q = tkB names nm k ∧ Nms wr pl (shownL ids names 10) ∧ Nms wr pm (shownL (ids ++ [(T, 63)]) (names ++ [nm]) (10 + 1)) ∧ IdC wr w2.heap.size T 63 ∧ Below w.heap.size w wr)) (fun _ ii _ => 10 - (RowKit.intOf ii).toNat)
        case atStart => exact ⟨0, false, rfl, rfl, Nat.zero_le _, rfl, N5.out.1, N5.out.2, I5.out, B5.out⟩
        case round =>
          obtain ⟨k, q, rfl, rfl, hk, HK⟩ := hrel
          rename World => wk
          by_cases hkn : k < 10
          · have hkI : (k : Int) < 10 := by omega
            have hkJ : (k : Int) < 10 + 1 := by omega
            have hkK : (k : Int) < ((10 + 1 : Nat) : Int) := by omega
            obtain ⟨gl, ol, rfl, y1⟩ := HK.out.2.1 k _ (shown_at ids names hkn)
            obtain ⟨gm, om, rfl, y2⟩ := HK.out.2.2.1 k _ (shown_at (ids ++ [(T, 63)]) (names ++ [nm]) (by omega))
            rw [HOO.out.1 k hkn] at y2
            obtain ⟨gn, on, rfl, y3⟩ := (H2.out.below HK.out.2.2.2.2) k _ (nmA_of (by rw [HN.out.2]; omega))
            have qq : ((bas (shownAt ids names 10 k)).toList == (bas (shownAt ids names 10 k)).toList) = true := by rw [bas_beq]; exact decide_eq_true rfl
            have HNX : Hid (∀ e : Bool, e = ((bas (nmA names k)).toList == (bas nm).toList) → (tkB names nm k || e) = tkB names nm (k + 1)) := fun e he => by rw [he, bas_beq]; rfl
            generalize shownAt ids names 10 k = sk at *
            generalize nmA names k = nk at *
            obtain ⟨eb, heb⟩ : ∃ eb, ((bas nk).toList == (bas nm).toList) = eb := ⟨_, rfl⟩
            have HEB := Lib.hid (HNX.out eb heb.symm)
            cases q with
            | true =>
              have HT1 := Lib.hid HK.out.1
              clear HNX
              go_wp2_with fail
              go_quiet (fail)
              go_wp2_with fail
              exact ⟨⟨k + 1, true, rfl, by simp, by omega, (by have e := HEB.out; rw [← HT1.out] at e; rw [← e]; rfl), HK.out.2.1.below (below_drewN wk _), HK.out.2.2.1.below (below_drewN wk _), HK.out.2.2.2.1.below (below_drewN wk _), below_then HK.out.2.2.2.2 (below_drewN wk _)⟩, by simp [RowKit.intOf]; omega⟩
            | false =>
              have HT1 := Lib.hid HK.out.1
              clear HNX
              go_wp2_with fail
              go_quiet (fail)
              go_wp2_with fail
              exact ⟨⟨k + 1, eb, rfl, by simp, by omega, (by have e := HEB.out; rw [← HT1.out] at e; rw [← e]; rfl), HK.out.2.1.below (below_drewN wk _), HK.out.2.2.1.below (below_drewN wk _), HK.out.2.2.2.1.below (below_drewN wk _), below_then HK.out.2.2.2.2 (below_drewN wk _)⟩, by simp [RowKit.intOf]; omega⟩
          · have hkI : ¬ (k : Int) < 10 := by omega
            have HKE := Lib.hid (show k = 10 by omega)
            obtain ⟨gm, om, rfl, y2⟩ := HK.out.2.2.1 10 _ (shown_at (ids ++ [(T, 63)]) (names ++ [nm]) (by omega))
            rw [HOO.out.2] at y2
            have hNJ : 10 < 10 + 1 := by omega
            have i1 := HK.out.2.2.2.1.c0
            have i2 := HK.out.2.2.2.1.c1
            have hqe : q = tkB names nm 10 := by rw [← HKE.out]; exact HK.out.1
            rw [← hqe] at y2
            clear hqe
            cases q with
            | true =>
              rw [if_pos rfl] at y2
              have qq : ((bas z).toList == (bas z).toList) = true := by rw [bas_beq]; exact decide_eq_true rfl
              go_wp2_with (go_at_call 15; refine (cx _ (HL.out.below HK.out.2.2.2.2)).mono ?_; rintro e w8 ⟨rfl, hb8⟩; have y8 := cell_kept y2 hb8; have B8 := Lib.hid (below_then HK.out.2.2.2.2 hb8); clear hb8 cx)
              go_ret
              exact ⟨rfl, B8.out⟩
            | false =>
              rw [if_neg (by decide)] at y2
              have qq : ((bas nm).toList == (bas nm).toList) = true := by rw [bas_beq]; exact decide_eq_true rfl
              go_wp2_with fail
              go_ret
              exact ⟨rfl, HK.out.2.2.2.2⟩
  · have hAI : (10 : Int) < (L1 : Int) := by omega
    have hA12 : 10 ≤ c1 := by omega
    have hBI : ¬ (10 : Int) < (n : Int) := by omega
    have hn1 : n ≤ c1 := by omega
    have hnI : (n : Int) ≤ 10 := by omega
    go_enter Tryd.func6, Tryd.ntmps6
    go_wp2_with (go_at_call 7; refine (cb _ HL.out).mono ?_; rintro e w2 ⟨rfl, hb2⟩; have B2 := Lib.hid hb2; clear hb2 cb)
    clear hT
    go_loopw [9] (fun ii wr => ∃ (i : Nat), ii = .int .i64 i ∧ i ≤ n ∧ Hid ((∀ j, j < i → lsA (idA ids j) (T, 63) = true) ∧ IdC wr w2.heap.size T 63 ∧ Below w.heap.size w wr)) (fun ii _ => n - (RowKit.intOf ii).toNat)
    case atStart => exact ⟨0, rfl, Nat.zero_le _, (fun j hj => by omega), IdC.new w2 T 63, below_then B2.out (below_new w2 _).out⟩
    case round =>
      obtain ⟨i, rfl, hi, HI⟩ := hrel
      by_cases hlt : i < n
      · have hltI : (i : Int) < (n : Int) := by omega
        obtain ⟨gi, oi, rfl, q1, q2⟩ := (H1.out.below HI.out.2.2) i _ (idA_of (by rw [HN.out.1]; omega))
        have i1 := HI.out.2.1.c0
        have i2 := HI.out.2.1.c1
        have cl := fun W => rless_any (idA ids i).1 (idA ids i).2 T 63 W
        have hle : lessB (idA ids i).1 (idA ids i).2 T 63 = lsA (idA ids i) (T, 63) := rfl
        rw [hle] at cl
        clear hle
        obtain ⟨t, ht⟩ : ∃ t, (idA ids i).1 = t := ⟨_, rfl⟩
        obtain ⟨u, hu⟩ : ∃ u, (idA ids i).2 = u := ⟨_, rfl⟩
        rw [ht] at q1 cl
        rw [hu] at q2 cl
        clear ht hu
        have HS : ∀ W W', (W.cell? ⟨gi, oi + i * 2, none⟩ = some (.int .i64 t) ∧ W.cell? ⟨gi, oi + i * 2 + 1, none⟩ = some (.int .i64 u) ∧ W.cell? ⟨w2.heap.size, 0, none⟩ = some (.int .i64 T) ∧ W.cell? ⟨w2.heap.size, 1, none⟩ = some (.int .i64 63) ∧ Hid (Below wr.heap.size wr W)) → Hid (Below W.heap.size W W') → W'.cell? ⟨gi, oi + i * 2, none⟩ = some (.int .i64 t) ∧ W'.cell? ⟨gi, oi + i * 2 + 1, none⟩ = some (.int .i64 u) ∧ W'.cell? ⟨w2.heap.size, 0, none⟩ = some (.int .i64 T) ∧ W'.cell? ⟨w2.heap.size, 1, none⟩ = some (.int .i64 63) ∧ Hid (Below wr.heap.size wr W') := fun W W' h1 h2 =>
          have hb := below_then h1.2.2.2.2.out h2.out
          ⟨cell_kept q1 hb, cell_kept q2 hb, cell_kept i1 hb, cell_kept i2 hb, hb⟩
        have S1 : wr.drew.cell? ⟨gi, oi + i * 2, none⟩ = some (.int .i64 t) ∧ wr.drew.cell? ⟨gi, oi + i * 2 + 1, none⟩ = some (.int .i64 u) ∧ wr.drew.cell? ⟨w2.heap.size, 0, none⟩ = some (.int .i64 T) ∧ wr.drew.cell? ⟨w2.heap.size, 1, none⟩ = some (.int .i64 63) ∧ Hid (Below wr.heap.size wr wr.drew) := ⟨q1, q2, i1, i2, below_drewN wr 1⟩
        have S2 : wr.cell? ⟨gi, oi + i * 2, none⟩ = some (.int .i64 t) ∧ wr.cell? ⟨gi, oi + i * 2 + 1, none⟩ = some (.int .i64 u) ∧ wr.cell? ⟨w2.heap.size, 0, none⟩ = some (.int .i64 T) ∧ wr.cell? ⟨w2.heap.size, 1, none⟩ = some (.int .i64 63) ∧ Hid (Below wr.heap.size wr wr) := ⟨q1, q2, i1, i2, Below.refl _ _⟩
        have HF : ∀ W, (W.cell? ⟨gi, oi + i * 2, none⟩ = some (.int .i64 t) ∧ W.cell? ⟨gi, oi + i * 2 + 1, none⟩ = some (.int .i64 u) ∧ W.cell? ⟨w2.heap.size, 0, none⟩ = some (.int .i64 T) ∧ W.cell? ⟨w2.heap.size, 1, none⟩ = some (.int .i64 63) ∧ Hid (Below wr.heap.size wr W)) → Below wr.heap.size wr W := fun W hW => hW.2.2.2.2.out
        cases hr : lsA (idA ids i) (T, 63) with
        | true =>
          rw [hr] at cl
          have HR := Lib.hid hr
          clear hr
          go_wp2_with fail
          go_region_held3 (fun W => W.cell? ⟨gi, oi + i * 2, none⟩ = some (.int .i64 t) ∧ W.cell? ⟨gi, oi + i * 2 + 1, none⟩ = some (.int .i64 u) ∧ W.cell? ⟨w2.heap.size, 0, none⟩ = some (.int .i64 T) ∧ W.cell? ⟨w2.heap.size, 1, none⟩ = some (.int .i64 63) ∧ Hid (Below wr.heap.size wr W))
            (first | exact S1 | exact S2 | assumption | exact HS _ _ (by assumption) (by assumption))
            (first | (go_at_call 17; refine Calls_new (cl _) ?_; intro w5 HB5))
          have HW := Lib.hid (HF w5 (by assumption))
          go_wp2_with fail
          exact ⟨⟨i + 1, by simp, by omega, (fun j hj => by
            by_cases e : j = i
            · subst e; exact HR.out
            · exact HI.out.1 j (by omega)), HI.out.2.1.below HW.out, below_then HI.out.2.2 HW.out⟩, by simp [RowKit.intOf]; omega⟩
        | false =>
          rw [hr] at cl
          clear hr
          go_wp2_with fail
          go_region_held3 (fun W => W.cell? ⟨gi, oi + i * 2, none⟩ = some (.int .i64 t) ∧ W.cell? ⟨gi, oi + i * 2 + 1, none⟩ = some (.int .i64 u) ∧ W.cell? ⟨w2.heap.size, 0, none⟩ = some (.int .i64 T) ∧ W.cell? ⟨w2.heap.size, 1, none⟩ = some (.int .i64 63) ∧ Hid (Below wr.heap.size wr W))
            (first | exact S1 | exact S2 | assumption | exact HS _ _ (by assumption) (by assumption))
            (first | (go_at_call 17; refine Calls_new (cl _) ?_; intro w5 HB5))
          have HW := Lib.hid (HF w5 (by assumption))
          go_wp2_with fail
          go_ret
          exact ⟨rfl, below_then HI.out.2.2 HW.out⟩
      · have hltI : ¬ (i : Int) < (n : Int) := by omega
        have HIE := Lib.hid (show i = n by omega)
        have HOO := Lib.hid (HO.out (fun j hj => HI.out.1 j (by have := HIE.out; omega)))
        clear HO
        rename World => wi
        go_wp2_with (go_at_call 8; refine (cs _ HI.out.2.2).mono ?_; rintro e w4 ⟨pl, rfl, hn4, hb4⟩; have B4 := Lib.hid (below_then HI.out.2.2 hb4); have N4 := Lib.hid hn4; have I4 := Lib.hid (HI.out.2.1.below hb4); clear hb4 hn4 cs)
        refine lt14 (by kernel_rfl) p1 p2 n c1 c2 w2.heap.size nm T 63 ids names (fun x W => ∃ p, x = .slice p (n + 1) (n + 1) ∧ Nms W p (shownL (ids ++ [(T, 63)]) (names ++ [nm]) (n + 1))) _ rfl rfl rfl rfl rfl I4.out (H1.out.below B4.out) (H2.out.below B4.out) HN.out.1 HN.out.2 (by omega) (HC.out _ B4.out) ?_
        rintro ⟨ga1, ga2, ga3, gb1, gb2, gb3, gr⟩ w5 hb5 ⟨pm, hgr, hn5⟩
        have hgr' : gr = .slice pm (n + 1) (n + 1) := hgr
        clear hgr
        subst hgr'
        have B5 := Lib.hid (below_then B4.out hb5)
        have N5 := Lib.hid (And.intro (N4.out.below hb5) hn5)
        have I5 := Lib.hid (I4.out.below hb5)
        clear hb5 hn5 HC
        simp only [putAll, List.setIfInBounds_toArray, List.set_cons_zero, List.set_cons_succ]
        go_wp2_with fail
        go_loopw [12, 13] (fun tk ii wr => ∃ (k : Nat) (q : Bool), tk = .bool q ∧ ii = .int .i64 k ∧ k ≤ n ∧ Hid (q = tkB names nm k ∧ Nms wr pl (shownL ids names n) ∧ Nms wr pm (shownL (ids ++ [(T, 63)]) (names ++ [nm]) (n + 1)) ∧ IdC wr w2.heap.size T 63 ∧ Below w.heap.size w wr)) (fun _ ii _ => n - (RowKit.intOf ii).toNat)
        case atStart => exact ⟨0, false, rfl, rfl, Nat.zero_le _, rfl, N5.out.1, N5.out.2, I5.out, B5.out⟩
        case round =>
          obtain ⟨k, q, rfl, rfl, hk, HK⟩ := hrel
          rename World => wk
          by_cases hkn : k < n
          · have hkI : (k : Int) < (n : Int) := by omega
            have hkJ : (k : Int) < (n : Int) + 1 := by omega
            have hkK : (k : Int) < ((n + 1 : Nat) : Int) := by omega
            obtain ⟨gl, ol, rfl, y1⟩ := HK.out.2.1 k _ (shown_at ids names hkn)
            obtain ⟨gm, om, rfl, y2⟩ := HK.out.2.2.1 k _ (shown_at (ids ++ [(T, 63)]) (names ++ [nm]) (by omega))
            rw [HOO.out.1 k hkn] at y2
            obtain ⟨gn, on, rfl, y3⟩ := (H2.out.below HK.out.2.2.2.2) k _ (nmA_of (by rw [HN.out.2]; omega))
            have qq : ((bas (shownAt ids names n k)).toList == (bas (shownAt ids names n k)).toList) = true := by rw [bas_beq]; exact decide_eq_true rfl
            have HNX : Hid (∀ e : Bool, e = ((bas (nmA names k)).toList == (bas nm).toList) → (tkB names nm k || e) = tkB names nm (k + 1)) := fun e he => by rw [he, bas_beq]; rfl
            generalize shownAt ids names n k = sk at *
            generalize nmA names k = nk at *
            obtain ⟨eb, heb⟩ : ∃ eb, ((bas nk).toList == (bas nm).toList) = eb := ⟨_, rfl⟩
            have HEB := Lib.hid (HNX.out eb heb.symm)
            cases q with
            | true =>
              have HT1 := Lib.hid HK.out.1
              clear HNX
              go_wp2_with fail
              go_quiet (fail)
              go_wp2_with fail
              exact ⟨⟨k + 1, true, rfl, by simp, by omega, (by have e := HEB.out; rw [← HT1.out] at e; rw [← e]; rfl), HK.out.2.1.below (below_drewN wk _), HK.out.2.2.1.below (below_drewN wk _), HK.out.2.2.2.1.below (below_drewN wk _), below_then HK.out.2.2.2.2 (below_drewN wk _)⟩, by simp [RowKit.intOf]; omega⟩
            | false =>
              have HT1 := Lib.hid HK.out.1
              clear HNX
              go_wp2_with fail
              go_quiet (fail)
              go_wp2_with fail
              exact ⟨⟨k + 1, eb, rfl, by simp, by omega, (by have e := HEB.out; rw [← HT1.out] at e; rw [← e]; rfl), HK.out.2.1.below (below_drewN wk _), HK.out.2.2.1.below (below_drewN wk _), HK.out.2.2.2.1.below (below_drewN wk _), below_then HK.out.2.2.2.2 (below_drewN wk _)⟩, by simp [RowKit.intOf]; omega⟩
          · have hkI : ¬ (k : Int) < (n : Int) := by omega
            have HKE := Lib.hid (show k = n by omega)
            obtain ⟨gm, om, rfl, y2⟩ := HK.out.2.2.1 n _ (shown_at (ids ++ [(T, 63)]) (names ++ [nm]) (by omega))
            rw [HOO.out.2] at y2
            have hNJ : (n : Int) < (n : Int) + 1 := by omega
            have i1 := HK.out.2.2.2.1.c0
            have i2 := HK.out.2.2.2.1.c1
            have hqe : q = tkB names nm n := by rw [← HKE.out]; exact HK.out.1
            rw [← hqe] at y2
            clear hqe
            cases q with
            | true =>
              rw [if_pos rfl] at y2
              have qq : ((bas z).toList == (bas z).toList) = true := by rw [bas_beq]; exact decide_eq_true rfl
              go_wp2_with (go_at_call 15; refine (cx _ (HL.out.below HK.out.2.2.2.2)).mono ?_; rintro e w8 ⟨rfl, hb8⟩; have y8 := cell_kept y2 hb8; have B8 := Lib.hid (below_then HK.out.2.2.2.2 hb8); clear hb8 cx)
              go_ret
              exact ⟨rfl, B8.out⟩
            | false =>
              rw [if_neg (by decide)] at y2
              have qq : ((bas nm).toList == (bas nm).toList) = true := by rw [bas_beq]; exact decide_eq_true rfl
              go_wp2_with fail
              go_ret
              exact ⟨rfl, HK.out.2.2.2.2⟩
  · have hAI : ¬ (10 : Int) < (n : Int) := by omega
    have hBI : (n : Int) < (L2 : Int) := by omega
    have hn1 : n ≤ c1 := by omega
    have hn2 : n ≤ c2 := by omega
    go_enter Tryd.func6, Tryd.ntmps6
    go_wp2_with (go_at_call 7; refine (cb _ HL.out).mono ?_; rintro e w2 ⟨rfl, hb2⟩; have B2 := Lib.hid hb2; clear hb2 cb)
    clear hT
    go_loopw [9] (fun ii wr => ∃ (i : Nat), ii = .int .i64 i ∧ i ≤ n ∧ Hid ((∀ j, j < i → lsA (idA ids j) (T, 63) = true) ∧ IdC wr w2.heap.size T 63 ∧ Below w.heap.size w wr)) (fun ii _ => n - (RowKit.intOf ii).toNat)
    case atStart => exact ⟨0, rfl, Nat.zero_le _, (fun j hj => by omega), IdC.new w2 T 63, below_then B2.out (below_new w2 _).out⟩
    case round =>
      obtain ⟨i, rfl, hi, HI⟩ := hrel
      by_cases hlt : i < n
      · have hltI : (i : Int) < (n : Int) := by omega
        obtain ⟨gi, oi, rfl, q1, q2⟩ := (H1.out.below HI.out.2.2) i _ (idA_of (by rw [HN.out.1]; omega))
        have i1 := HI.out.2.1.c0
        have i2 := HI.out.2.1.c1
        have cl := fun W => rless_any (idA ids i).1 (idA ids i).2 T 63 W
        have hle : lessB (idA ids i).1 (idA ids i).2 T 63 = lsA (idA ids i) (T, 63) := rfl
        rw [hle] at cl
        clear hle
        obtain ⟨t, ht⟩ : ∃ t, (idA ids i).1 = t := ⟨_, rfl⟩
        obtain ⟨u, hu⟩ : ∃ u, (idA ids i).2 = u := ⟨_, rfl⟩
        rw [ht] at q1 cl
        rw [hu] at q2 cl
        clear ht hu
        have HS : ∀ W W', (W.cell? ⟨gi, oi + i * 2, none⟩ = some (.int .i64 t) ∧ W.cell? ⟨gi, oi + i * 2 + 1, none⟩ = some (.int .i64 u) ∧ W.cell? ⟨w2.heap.size, 0, none⟩ = some (.int .i64 T) ∧ W.cell? ⟨w2.heap.size, 1, none⟩ = some (.int .i64 63) ∧ Hid (Below wr.heap.size wr W)) → Hid (Below W.heap.size W W') → W'.cell? ⟨gi, oi + i * 2, none⟩ = some (.int .i64 t) ∧ W'.cell? ⟨gi, oi + i * 2 + 1, none⟩ = some (.int .i64 u) ∧ W'.cell? ⟨w2.heap.size, 0, none⟩ = some (.int .i64 T) ∧ W'.cell? ⟨w2.heap.size, 1, none⟩ = some (.int .i64 63) ∧ Hid (Below wr.heap.size wr W') := fun W W' h1 h2 =>
          have hb := below_then h1.2.2.2.2.out h2.out
          ⟨cell_kept q1 hb, cell_kept q2 hb, cell_kept i1 hb, cell_kept i2 hb, hb⟩
        have S1 : wr.drew.cell? ⟨gi, oi + i * 2, none⟩ = some (.int .i64 t) ∧ wr.drew.cell? ⟨gi, oi + i * 2 + 1, none⟩ = some (.int .i64 u) ∧ wr.drew.cell? ⟨w2.heap.size, 0, none⟩ = some (.int .i64 T) ∧ wr.drew.cell? ⟨w2.heap.size, 1, none⟩ = some (.int .i64 63) ∧ Hid (Below wr.heap.size wr wr.drew) := ⟨q1, q2, i1, i2, below_drewN wr 1⟩
        have S2 : wr.cell? ⟨gi, oi + i * 2, none⟩ = some (.int .i64 t) ∧ wr.cell? ⟨gi, oi + i * 2 + 1, none⟩ = some (.int .i64 u) ∧ wr.cell? ⟨w2.heap.size, 0, none⟩ = some (.int .i64 T) ∧ wr.cell? ⟨w2.heap.size, 1, none⟩ = some (.int .i64 63) ∧ Hid (Below wr.heap.size wr wr) := ⟨q1, q2, i1, i2, Below.refl _ _⟩
        have HF : ∀ W, (W.cell? ⟨gi, oi + i * 2, none⟩ = some (.int .i64 t) ∧ W.cell? ⟨gi, oi + i * 2 + 1, none⟩ = some (.int .i64 u) ∧ W.cell? ⟨w2.heap.size, 0, none⟩ = some (.int .i64 T) ∧ W.cell? ⟨w2.heap.size, 1, none⟩ = some (.int .i64 63) ∧ Hid (Below wr.heap.size wr W)) → Below wr.heap.size wr W := fun W hW => hW.2.2.2.2.out
        cases hr : lsA (idA ids i) (T, 63) with
        | true =>
          rw [hr] at cl
          have HR := Lib.hid hr
          clear hr
          go_wp2_with fail
          go_region_held3 (fun W => W.cell? ⟨gi, oi + i * 2, none⟩ = some (.int .i64 t) ∧ W.cell? ⟨gi, oi + i * 2 + 1, none⟩ = some (.int .i64 u) ∧ W.cell? ⟨w2.heap.size, 0, none⟩ = some (.int .i64 T) ∧ W.cell? ⟨w2.heap.size, 1, none⟩ = some (.int .i64 63) ∧ Hid (Below wr.heap.size wr W))
            (first | exact S1 | exact S2 | assumption | exact HS _ _ (by assumption) (by assumption))
            (first | (go_at_call 17; refine Calls_new (cl _) ?_; intro w5 HB5))
          have HW := Lib.hid (HF w5 (by assumption))
          go_wp2_with fail
          exact ⟨⟨i + 1, by simp, by omega, (fun j hj => by
            by_cases e : j = i
            · subst e; exact HR.out
            · exact HI.out.1 j (by omega)), HI.out.2.1.below HW.out, below_then HI.out.2.2 HW.out⟩, by simp [RowKit.intOf]; omega⟩
        | false =>
          rw [hr] at cl
          clear hr
          go_wp2_with fail
          go_region_held3 (fun W => W.cell? ⟨gi, oi + i * 2, none⟩ = some (.int .i64 t) ∧ W.cell? ⟨gi, oi + i * 2 + 1, none⟩ = some (.int .i64 u) ∧ W.cell? ⟨w2.heap.size, 0, none⟩ = some (.int .i64 T) ∧ W.cell? ⟨w2.heap.size, 1, none⟩ = some (.int .i64 63) ∧ Hid (Below wr.heap.size wr W))
            (first | exact S1 | exact S2 | assumption | exact HS _ _ (by assumption) (by assumption))
            (first | (go_at_call 17; refine Calls_new (cl _) ?_; intro w5 HB5))
          have HW := Lib.hid (HF w5 (by assumption))
          go_wp2_with fail
          go_ret
          exact ⟨rfl, below_then HI.out.2.2 HW.out⟩
      · have hltI : ¬ (i : Int) < (n : Int) := by omega
        have HIE := Lib.hid (show i = n by omega)
        have HOO := Lib.hid (HO.out (fun j hj => HI.out.1 j (by have := HIE.out; omega)))
        clear HO
        rename World => wi
        go_wp2_with (go_at_call 8; refine (cs _ HI.out.2.2).mono ?_; rintro e w4 ⟨pl, rfl, hn4, hb4⟩; have B4 := Lib.hid (below_then HI.out.2.2 hb4); have N4 := Lib.hid hn4; have I4 := Lib.hid (HI.out.2.1.below hb4); clear hb4 hn4 cs)
        refine lt14 (by kernel_rfl) p1 p2 n c1 c2 w2.heap.size nm T 63 ids names (fun x W => ∃ p, x = .slice p (n + 1) (n + 1) ∧ Nms W p (shownL (ids ++ [(T, 63)]) (names ++ [nm]) (n + 1))) _ rfl rfl rfl rfl rfl I4.out (H1.out.below B4.out) (H2.out.below B4.out) HN.out.1 HN.out.2 (by omega) (HC.out _ B4.out) ?_
        rintro ⟨ga1, ga2, ga3, gb1, gb2, gb3, gr⟩ w5 hb5 ⟨pm, hgr, hn5⟩
        have hgr' : gr = .slice pm (n + 1) (n + 1) := hgr
        clear hgr
        subst hgr'
        have B5 := Lib.hid (below_then B4.out hb5)
        have N5 := Lib.hid (And.intro (N4.out.below hb5) hn5)
        have I5 := Lib.hid (I4.out.below hb5)
        clear hb5 hn5 HC
        simp only [putAll, List.setIfInBounds_toArray, List.set_cons_zero, List.set_cons_succ]
        go_wp2_with fail
        go_loopw [12, 13] (fun tk ii wr => ∃ (k : Nat) (q : Bool), tk = .bool q ∧ ii = .int .i64 k ∧ k ≤ n ∧ Hid (q = tkB names nm k ∧ Nms wr pl (shownL ids names n) ∧ Nms wr pm (shownL (ids ++ [(T, 63)]) (names ++ [nm]) (n + 1)) ∧ IdC wr w2.heap.size T 63 ∧ Below w.heap.size w wr)) (fun _ ii _ => n - (RowKit.intOf ii).toNat)
        case atStart => exact ⟨0, false, rfl, rfl, Nat.zero_le _, rfl, N5.out.1, N5.out.2, I5.out, B5.out⟩
        case round =>
          obtain ⟨k, q, rfl, rfl, hk, HK⟩ := hrel
          rename World => wk
          by_cases hkn : k < n
          · have hkI : (k : Int) < (n : Int) := by omega
            have hkJ : (k : Int) < (n : Int) + 1 := by omega
            have hkK : (k : Int) < ((n + 1 : Nat) : Int) := by omega
            obtain ⟨gl, ol, rfl, y1⟩ := HK.out.2.1 k _ (shown_at ids names hkn)
            obtain ⟨gm, om, rfl, y2⟩ := HK.out.2.2.1 k _ (shown_at (ids ++ [(T, 63)]) (names ++ [nm]) (by omega))
            rw [HOO.out.1 k hkn] at y2
            obtain ⟨gn, on, rfl, y3⟩ := (H2.out.below HK.out.2.2.2.2) k _ (nmA_of (by rw [HN.out.2]; omega))
            have qq : ((bas (shownAt ids names n k)).toList == (bas (shownAt ids names n k)).toList) = true := by rw [bas_beq]; exact decide_eq_true rfl
            have HNX : Hid (∀ e : Bool, e = ((bas (nmA names k)).toList == (bas nm).toList) → (tkB names nm k || e) = tkB names nm (k + 1)) := fun e he => by rw [he, bas_beq]; rfl
            generalize shownAt ids names n k = sk at *
            generalize nmA names k = nk at *
            obtain ⟨eb, heb⟩ : ∃ eb, ((bas nk).toList == (bas nm).toList) = eb := ⟨_, rfl⟩
            have HEB := Lib.hid (HNX.out eb heb.symm)
            cases q with
            | true =>
              have HT1 := Lib.hid HK.out.1
              clear HNX
              go_wp2_with fail
              go_quiet (fail)
              go_wp2_with fail
              exact ⟨⟨k + 1, true, rfl, by simp, by omega, (by have e := HEB.out; rw [← HT1.out] at e; rw [← e]; rfl), HK.out.2.1.below (below_drewN wk _), HK.out.2.2.1.below (below_drewN wk _), HK.out.2.2.2.1.below (below_drewN wk _), below_then HK.out.2.2.2.2 (below_drewN wk _)⟩, by simp [RowKit.intOf]; omega⟩
            | false =>
              have HT1 := Lib.hid HK.out.1
              clear HNX
              go_wp2_with fail
              go_quiet (fail)
              go_wp2_with fail
              exact ⟨⟨k + 1, eb, rfl, by simp, by omega, (by have e := HEB.out; rw [← HT1.out] at e; rw [← e]; rfl), HK.out.2.1.below (below_drewN wk _), HK.out.2.2.1.below (below_drewN wk _), HK.out.2.2.2.1.below (below_drewN wk _), below_then HK.out.2.2.2.2 (below_drewN wk _)⟩, by simp [RowKit.intOf]; omega⟩
          · have hkI : ¬ (k : Int) < (n : Int) := by omega
            have HKE := Lib.hid (show k = n by omega)
            obtain ⟨gm, om, rfl, y2⟩ := HK.out.2.2.1 n _ (shown_at (ids ++ [(T, 63)]) (names ++ [nm]) (by omega))
            rw [HOO.out.2] at y2
            have hNJ : (n : Int) < (n : Int) + 1 := by omega
            have i1 := HK.out.2.2.2.1.c0
            have i2 := HK.out.2.2.2.1.c1
            have hqe : q = tkB names nm n := by rw [← HKE.out]; exact HK.out.1
            rw [← hqe] at y2
            clear hqe
            cases q with
            | true =>
              rw [if_pos rfl] at y2
              have qq : ((bas z).toList == (bas z).toList) = true := by rw [bas_beq]; exact decide_eq_true rfl
              go_wp2_with (go_at_call 15; refine (cx _ (HL.out.below HK.out.2.2.2.2)).mono ?_; rintro e w8 ⟨rfl, hb8⟩; have y8 := cell_kept y2 hb8; have B8 := Lib.hid (below_then HK.out.2.2.2.2 hb8); clear hb8 cx)
              go_ret
              exact ⟨rfl, B8.out⟩
            | false =>
              rw [if_neg (by decide)] at y2
              have qq : ((bas nm).toList == (bas nm).toList) = true := by rw [bas_beq]; exact decide_eq_true rfl
              go_wp2_with fail
              go_ret
              exact ⟨rfl, HK.out.2.2.2.2⟩
  · have hAI : ¬ (10 : Int) < (m : Int) := by omega
    have hBI : ¬ (m : Int) < (n : Int) := by omega
    have hn1 : n ≤ c1 := by omega
    have hn2 : n ≤ c2 := by omega
    have hnI : (n : Int) ≤ (m : Int) := by omega
    go_enter Tryd.func6, Tryd.ntmps6
    go_wp2_with (go_at_call 7; refine (cb _ HL.out).mono ?_; rintro e w2 ⟨rfl, hb2⟩; have B2 := Lib.hid hb2; clear hb2 cb)
    clear hT
    go_loopw [9] (fun ii wr => ∃ (i : Nat), ii = .int .i64 i ∧ i ≤ n ∧ Hid ((∀ j, j < i → lsA (idA ids j) (T, 63) = true) ∧ IdC wr w2.heap.size T 63 ∧ Below w.heap.size w wr)) (fun ii _ => n - (RowKit.intOf ii).toNat)
    case atStart => exact ⟨0, rfl, Nat.zero_le _, (fun j hj => by omega), IdC.new w2 T 63, below_then B2.out (below_new w2 _).out⟩
    case round =>
      obtain ⟨i, rfl, hi, HI⟩ := hrel
      by_cases hlt : i < n
      · have hltI : (i : Int) < (n : Int) := by omega
        obtain ⟨gi, oi, rfl, q1, q2⟩ := (H1.out.below HI.out.2.2) i _ (idA_of (by rw [HN.out.1]; omega))
        have i1 := HI.out.2.1.c0
        have i2 := HI.out.2.1.c1
        have cl := fun W => rless_any (idA ids i).1 (idA ids i).2 T 63 W
        have hle : lessB (idA ids i).1 (idA ids i).2 T 63 = lsA (idA ids i) (T, 63) := rfl
        rw [hle] at cl
        clear hle
        obtain ⟨t, ht⟩ : ∃ t, (idA ids i).1 = t := ⟨_, rfl⟩
        obtain ⟨u, hu⟩ : ∃ u, (idA ids i).2 = u := ⟨_, rfl⟩
        rw [ht] at q1 cl
        rw [hu] at q2 cl
        clear ht hu
        have HS : ∀ W W', (W.cell? ⟨gi, oi + i * 2, none⟩ = some (.int .i64 t) ∧ W.cell? ⟨gi, oi + i * 2 + 1, none⟩ = some (.int .i64 u) ∧ W.cell? ⟨w2.heap.size, 0, none⟩ = some (.int .i64 T) ∧ W.cell? ⟨w2.heap.size, 1, none⟩ = some (.int .i64 63) ∧ Hid (Below wr.heap.size wr W)) → Hid (Below W.heap.size W W') → W'.cell? ⟨gi, oi + i * 2, none⟩ = some (.int .i64 t) ∧ W'.cell? ⟨gi, oi + i * 2 + 1, none⟩ = some (.int .i64 u) ∧ W'.cell? ⟨w2.heap.size, 0, none⟩ = some (.int .i64 T) ∧ W'.cell? ⟨w2.heap.size, 1, none⟩ = some (.int .i64 63) ∧ Hid (Below wr.heap.size wr W') := fun W W' h1 h2 =>
          have hb := below_then h1.2.2.2.2.out h2.out
          ⟨cell_kept q1 hb, cell_kept q2 hb, cell_kept i1 hb, cell_kept i2 hb, hb⟩
        have S1 : wr.drew.cell? ⟨gi, oi + i * 2, none⟩ = some (.int .i64 t) ∧ wr.drew.cell? ⟨gi, oi + i * 2 + 1, none⟩ = some (.int .i64 u) ∧ wr.drew.cell? ⟨w2.heap.size, 0, none⟩ = some (.int .i64 T) ∧ wr.drew.cell? ⟨w2.heap.size, 1, none⟩ = some (.int .i64 63) ∧ Hid (Below wr.heap.size wr wr.drew) := ⟨q1, q2, i1, i2, below_drewN wr 1⟩
        have S2 : wr.cell? ⟨gi, oi + i * 2, none⟩ = some (.int .i64 t) ∧ wr.cell? ⟨gi, oi + i * 2 + 1, none⟩ = some (.int .i64 u) ∧ wr.cell? ⟨w2.heap.size, 0, none⟩ = some (.int .i64 T) ∧ wr.cell? ⟨w2.heap.size, 1, none⟩ = some (.int .i64 63) ∧ Hid (Below wr.heap.size wr wr) := ⟨q1, q2, i1, i2, Below.refl _ _⟩
        have HF : ∀ W, (W.cell? ⟨gi, oi + i * 2, none⟩ = some (.int .i64 t) ∧ W.cell? ⟨gi, oi + i * 2 + 1, none⟩ = some (.int .i64 u) ∧ W.cell? ⟨w2.heap.size, 0, none⟩ = some (.int .i64 T) ∧ W.cell? ⟨w2.heap.size, 1, none⟩ = some (.int .i64 63) ∧ Hid (Below wr.heap.size wr W)) → Below wr.heap.size wr W := fun W hW => hW.2.2.2.2.out
        cases hr : lsA (idA ids i) (T, 63) with
        | true =>
          rw [hr] at cl
          have HR := Lib.hid hr
          clear hr
          go_wp2_with fail
          go_region_held3 (fun W => W.cell? ⟨gi, oi + i * 2, none⟩ = some (.int .i64 t) ∧ W.cell? ⟨gi, oi + i * 2 + 1, none⟩ = some (.int .i64 u) ∧ W.cell? ⟨w2.heap.size, 0, none⟩ = some (.int .i64 T) ∧ W.cell? ⟨w2.heap.size, 1, none⟩ = some (.int .i64 63) ∧ Hid (Below wr.heap.size wr W))
            (first | exact S1 | exact S2 | assumption | exact HS _ _ (by assumption) (by assumption))
            (first | (go_at_call 17; refine Calls_new (cl _) ?_; intro w5 HB5))
          have HW := Lib.hid (HF w5 (by assumption))
          go_wp2_with fail
          exact ⟨⟨i + 1, by simp, by omega, (fun j hj => by
            by_cases e : j = i
            · subst e; exact HR.out
            · exact HI.out.1 j (by omega)), HI.out.2.1.below HW.out, below_then HI.out.2.2 HW.out⟩, by simp [RowKit.intOf]; omega⟩
        | false =>
          rw [hr] at cl
          clear hr
          go_wp2_with fail
          go_region_held3 (fun W => W.cell? ⟨gi, oi + i * 2, none⟩ = some (.int .i64 t) ∧ W.cell? ⟨gi, oi + i * 2 + 1, none⟩ = some (.int .i64 u) ∧ W.cell? ⟨w2.heap.size, 0, none⟩ = some (.int .i64 T) ∧ W.cell? ⟨w2.heap.size, 1, none⟩ = some (.int .i64 63) ∧ Hid (Below wr.heap.size wr W))
            (first | exact S1 | exact S2 | assumption | exact HS _ _ (by assumption) (by assumption))
            (first | (go_at_call 17; refine Calls_new (cl _) ?_; intro w5 HB5))
          have HW := Lib.hid (HF w5 (by assumption))
          go_wp2_with fail
          go_ret
          exact ⟨rfl, below_then HI.out.2.2 HW.out⟩
      · have hltI : ¬ (i : Int) < (n : Int) := by omega
        have HIE := Lib.hid (show i = n by omega)
        have HOO := Lib.hid (HO.out (fun j hj => HI.out.1 j (by have := HIE.out; omega)))
        clear HO
        rename World => wi
        go_wp2_with (go_at_call 8; refine (cs _ HI.out.2.2).mono ?_; rintro e w4 ⟨pl, rfl, hn4, hb4⟩; have B4 := Lib.hid (below_then HI.out.2.2 hb4); have N4 := Lib.hid hn4; have I4 := Lib.hid (HI.out.2.1.below hb4); clear hb4 hn4 cs)
        refine lt14 (by kernel_rfl) p1 p2 n c1 c2 w2.heap.size nm T 63 ids names (fun x W => ∃ p, x = .slice p (n + 1) (n + 1) ∧ Nms W p (shownL (ids ++ [(T, 63)]) (names ++ [nm]) (n + 1))) _ rfl rfl rfl rfl rfl I4.out (H1.out.below B4.out) (H2.out.below B4.out) HN.out.1 HN.out.2 (by omega) (HC.out _ B4.out) ?_
        rintro ⟨ga1, ga2, ga3, gb1, gb2, gb3, gr⟩ w5 hb5 ⟨pm, hgr, hn5⟩
        have hgr' : gr = .slice pm (n + 1) (n + 1) := hgr
        clear hgr
        subst hgr'
        have B5 := Lib.hid (below_then B4.out hb5)
        have N5 := Lib.hid (And.intro (N4.out.below hb5) hn5)
        have I5 := Lib.hid (I4.out.below hb5)
        clear hb5 hn5 HC
        simp only [putAll, List.setIfInBounds_toArray, List.set_cons_zero, List.set_cons_succ]
        go_wp2_with fail
        go_loopw [12, 13] (fun tk ii wr => ∃ (k : Nat) (q : Bool), tk = .bool q ∧ ii = .int .i64 k ∧ k ≤ n ∧ Hid (q = tkB names nm k ∧ Nms wr pl (shownL ids names n) ∧ Nms wr pm (shownL (ids ++ [(T, 63)]) (names ++ [nm]) (n + 1)) ∧ IdC wr w2.heap.size T 63 ∧ Below w.heap.size w wr)) (fun _ ii _ => n - (RowKit.intOf ii).toNat)
        case atStart => exact ⟨0, false, rfl, rfl, Nat.zero_le _, rfl, N5.out.1, N5.out.2, I5.out, B5.out⟩
        case round =>
          obtain ⟨k, q, rfl, rfl, hk, HK⟩ := hrel
          rename World => wk
          by_cases hkn : k < n
          · have hkI : (k : Int) < (n : Int) := by omega
            have hkJ : (k : Int) < (n : Int) + 1 := by omega
            have hkK : (k : Int) < ((n + 1 : Nat) : Int) := by omega
            obtain ⟨gl, ol, rfl, y1⟩ := HK.out.2.1 k _ (shown_at ids names hkn)
            obtain ⟨gm, om, rfl, y2⟩ := HK.out.2.2.1 k _ (shown_at (ids ++ [(T, 63)]) (names ++ [nm]) (by omega))
            rw [HOO.out.1 k hkn] at y2
            obtain ⟨gn, on, rfl, y3⟩ := (H2.out.below HK.out.2.2.2.2) k _ (nmA_of (by rw [HN.out.2]; omega))
            have qq : ((bas (shownAt ids names n k)).toList == (bas (shownAt ids names n k)).toList) = true := by rw [bas_beq]; exact decide_eq_true rfl
            have HNX : Hid (∀ e : Bool, e = ((bas (nmA names k)).toList == (bas nm).toList) → (tkB names nm k || e) = tkB names nm (k + 1)) := fun e he => by rw [he, bas_beq]; rfl
            generalize shownAt ids names n k = sk at *
            generalize nmA names k = nk at *
            obtain ⟨eb, heb⟩ : ∃ eb, ((bas nk).toList == (bas nm).toList) = eb := ⟨_, rfl⟩
            have HEB := Lib.hid (HNX.out eb heb.symm)
            cases q with
            | true =>
              have HT1 := Lib.hid HK.out.1
              clear HNX
              go_wp2_with fail
              go_quiet (fail)
              go_wp2_with fail
              exact ⟨⟨k + 1, true, rfl, by simp, by omega, (by have e := HEB.out; rw [← HT1.out] at e; rw [← e]; rfl), HK.out.2.1.below (below_drewN wk _), HK.out.2.2.1.below (below_drewN wk _), HK.out.2.2.2.1.below (below_drewN wk _), below_then HK.out.2.2.2.2 (below_drewN wk _)⟩, by simp [RowKit.intOf]; omega⟩
            | false =>
              have HT1 := Lib.hid HK.out.1
              clear HNX
              go_wp2_with fail
              go_quiet (fail)
              go_wp2_with fail
              exact ⟨⟨k + 1, eb, rfl, by simp, by omega, (by have e := HEB.out; rw [← HT1.out] at e; rw [← e]; rfl), HK.out.2.1.below (below_drewN wk _), HK.out.2.2.1.below (below_drewN wk _), HK.out.2.2.2.1.below (below_drewN wk _), below_then HK.out.2.2.2.2 (below_drewN wk _)⟩, by simp [RowKit.intOf]; omega⟩
          · have hkI : ¬ (k : Int) < (n : Int) := by omega
            have HKE := Lib.hid (show k = n by omega)
            obtain ⟨gm, om, rfl, y2⟩ := HK.out.2.2.1 n _ (shown_at (ids ++ [(T, 63)]) (names ++ [nm]) (by omega))
            rw [HOO.out.2] at y2
            have hNJ : (n : Int) < (n : Int) + 1 := by omega
            have i1 := HK.out.2.2.2.1.c0
            have i2 := HK.out.2.2.2.1.c1
            have hqe : q = tkB names nm n := by rw [← HKE.out]; exact HK.out.1
            rw [← hqe] at y2
            clear hqe
            cases q with
            | true =>
              rw [if_pos rfl] at y2
              have qq : ((bas z).toList == (bas z).toList) = true := by rw [bas_beq]; exact decide_eq_true rfl
              go_wp2_with (go_at_call 15; refine (cx _ (HL.out.below HK.out.2.2.2.2)).mono ?_; rintro e w8 ⟨rfl, hb8⟩; have y8 := cell_kept y2 hb8; have B8 := Lib.hid (below_then HK.out.2.2.2.2 hb8); clear hb8 cx)
              go_ret
              exact ⟨rfl, B8.out⟩
            | false =>
              rw [if_neg (by decide)] at y2
              have qq : ((bas nm).toList == (bas nm).toList) = true := by rw [bas_beq]; exact decide_eq_true rfl
              go_wp2_with fail
              go_ret
              exact ⟨rfl, HK.out.2.2.2.2⟩

end Go.Proofs.YtjajbhpcjickbaaDoor.Ck.Sh
