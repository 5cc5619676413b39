/-
  The law CrcFrame returns true.
-/
import Derived.Test.YtlmnhnimneimkaaDoorSpoilt
namespace Go.Proofs.YtlmnhnimneimkaaDoor
open Go.RowKit

/-- The row that is spoilt at one place. -/
theorem fr_place {base : Nat} {w5 : World} {v2 : Value} {L : List (BitVec 8)} (h : w5.ownsRow base 5 1 v2 L.length (L.map u8v)) (hpos : 0 < L.length) (m : Nat) (x : BitVec 8) :
    ∃ (g c k : Nat) (y z : BitVec 8), v2 = .slice (some ⟨g, 0, none⟩) L.length c ∧ L.length ≤ c ∧ base ≤ g ∧ m % L.length = k ∧ (m : Int) % (L.length : Int) = (k : Int) ∧ k < L.length ∧
      w5.cell? ⟨g, k, none⟩ = some (.int .u8 (y.toNat : Int)) ∧ w5.frozen? ⟨g, k, none⟩ = false ∧ bits .xor .u8 (y.toNat : Int) (x.toNat : Int) = (z.toNat : Int) ∧
      Bytes (w5.setCell ⟨g, k, none⟩ (.int .u8 (z.toNat : Int))) (some ⟨g, 0, none⟩) (L.set k z) := by
  have hk : m % L.length < L.length := Nat.mod_lt _ hpos
  obtain ⟨y, hy⟩ : ∃ y, L[m % L.length]? = some y := ⟨_, List.getElem?_eq_getElem hk⟩
  have h2 := h
  rcases h.2 with ⟨_, h0⟩ | ⟨g, c, cur, rfl, hb, hg, hnc, hm, hcs, htk⟩
  · omega
  refine ⟨g, c, m % L.length, y, y ^^^ x, rfl, hnc, hb, rfl, rfl, hk, ?_, h.frozenAt _, xor8 y x, ?_⟩
  · rw [h.cellAt _ (by omega), List.getElem?_map, hy]
    rfl
  · have h3 := (h.stored (m % L.length) (u8v (y ^^^ x))).1
    rw [← List.map_set] at h3
    obtain ⟨g', c', e, _, hbb⟩ := owns_bytes h3 hpos
    cases e
    exact hbb

set_option maxRecDepth 4000 in
set_option maxHeartbeats 2000000 in
theorem fr_any (p : Option Addr) (bs : List (BitVec 8)) (c : Nat) (p2 : Option Addr) (ms : List (BitVec 8)) (c2 : Nat) (a : Int) (x : BitVec 8) (w : World) (ht : Tab w) (hc : bs.length ≤ c) (hb : Bytes w p bs) (hc2 : ms.length ≤ c2) (hb2 : Bytes w p2 ms)
    (ha : -9223372036854775808 ≤ a) (ha' : a < 9223372036854775808) :
    Calls Tryd.prog 4 #[.slice p bs.length c, .slice p2 ms.length c2, .int .i64 a, u8v x] w fun e w' => e = .returned (.bool true) ∧ Below w.heap.size w w' := by
  have HT : Hid (Tab w) := ht
  have HB : Hid (Bytes w p bs) := hb
  have HM : Hid (Bytes w p2 ms) := hb2
  unfold u8v
  have cb := begun_any w ht
  clear ht hb hb2
  go_enter Tryd.func4, Tryd.ntmps4
  go_wp2_with fail
  refine cb.mono ?_
  rintro e w1 ⟨rfl, hB1⟩
  clear cb
  obtain ⟨c9, hb1, hc1, hn⟩ := short_any p bs c 300 w1 hc (by omega) (by omega) (below_bytes hB1 HB.out)
  obtain ⟨c9', hm1, hcm1, hm⟩ := short_any p2 ms c2 40 w1 hc2 (by omega) (by omega) (below_bytes hB1 HM.out)
  generalize hb2 : bs.take 300 = b2 at c9 hb1 hc1 hn
  generalize hm2 : ms.take 40 = m2 at c9' hm1 hcm1 hm
  clear hb2 hm2
  go_wp2_with fail
  refine Calls_on c9 ?_
  clear c9
  go_wp2_with fail
  refine Calls_on c9' ?_
  clear c9'
  have c14 := frame_yes p b2 c w1 (below_tab hB1 HT.out.lt HT.out) (by omega) hb1
  go_wp2_with fail
  refine c14.mono ?_
  rintro e w2 ⟨rfl, hf2, hB2⟩
  clear c14
  have hB2' : Below w.heap.size w w2 := hB1.trans (hB2.mono hB1.size)
  have c15 := rframe_yes p b2 c w2 (by omega) (below_bytes hB2 hb1)
  go_wp2_with fail
  refine c15.mono ?_
  rintro e w3 ⟨g3, cap3, rfl, hg3, hf3, hB3⟩
  clear c15
  have hB13 : Below w1.heap.size w1 w3 := hB2.trans (hB3.mono hB2.size)
  have hB3' : Below w.heap.size w w3 := hB2'.trans (hB3.mono hB2'.size)
  have hf23 : Bytes w3 (some ⟨w1.heap.size, 0, none⟩) (framed b2) := below_bytes hB3 (bytes_block hf2)
  have s1 := run_str w3 (some ⟨w1.heap.size, 0, none⟩) (framed b2) (8 + b2.length) hf23
  have s2 := run_str w3 (some ⟨g3, 0, none⟩) (framed b2) cap3 hf3
  rw [framed_length] at s1 s2
  generalize strOf (framed b2) = str at s1 s2
  have HF : Hid (Bytes w3 (some ⟨w1.heap.size, 0, none⟩) (framed b2)) := hf23
  have HB3 : Hid (Below w.heap.size w w3) := hB3'
  have HM3 : Hid (Bytes w3 p2 m2) := below_bytes hB13 hm1
  have tokA : True := trivial
  have hfl : Hid ((framed b2).length = 8 + b2.length) := framed_length b2
  clear hf2 hf3 hB2 hB2' hB3 hB3' hB13 hf23 hb1 hm1 hB1 HB HM
  by_cases hneg : a < 0
  · obtain ⟨m, hm'⟩ : ∃ m : Nat, a = -(m : Int) - 1 := ⟨(-a - 1).toNat, by omega⟩
    have hm63 : m < 9223372036854775808 := by omega
    subst hm'
    clear ha ha'
    go_wp2_with (first
      | (have tk := tokA
         refine wpList_append_bytes rfl _ _ rfl w3.heap.size _ 0 [] rfl (owns_nil _ _) (some ⟨w1.heap.size, 0, none⟩) (framed b2) (8 + b2.length) (by rw [hfl.out]; rfl) HF.out (by rw [hfl.out]; omega) (Nat.le_refl _) ?_
         clear tk tokA s1 s2
         intro v1 w4 hown1 hg1 _
         have HO1 : Hid (w4.ownsRow w3.heap.size 5 1 v1 (0 + (framed b2).length) ([] ++ (framed b2).map u8v)) := hown1
         have HB4 : Hid (Below w3.heap.size w3 w4) := (Below.refl _ _).grown hg1 (Nat.le_refl _) (by intro k hk; cases hk)
         clear hown1 hg1
         have tokB : True := trivial)
      | (have tk := tokB
         refine wpList_append_bytes rfl _ _ rfl w3.heap.size _ _ _ rfl HO1.out p2 m2 c2 rfl (below_bytes HB4.out HM3.out) (by rw [hfl.out]; omega) HB4.out.size ?_
         clear tk tokB
         intro v2 w5 hown2 hg2 _
         have HB5 : Hid (Below w3.heap.size w3 w5) := by
           obtain ⟨gg, cc, hv, hgg, _⟩ := HO1.out.form (by rw [hfl.out]; omega)
           exact HB4.out.grown hg2 HB4.out.size (by intro k hk; rw [hv] at hk; cases hk; exact hgg)
         have eL : 0 + (framed b2).length + m2.length = (framed b2 ++ m2).length := by simp
         rw [eL, List.nil_append, ← List.map_append] at hown2
         have hlL : Hid ((framed b2 ++ m2).length ≤ 348 ∧ 8 ≤ (framed b2 ++ m2).length) := by constructor <;> (rw [List.length_append, hfl.out]; omega)
         generalize hLL : framed b2 ++ m2 = L at hown2 hlL
         have hlL' := hlL.out
         obtain ⟨g5, c5, k, y, z, rfl, hc5, hg5, hkN, hkI, hk, hcy, hfy, hez, hbz⟩ := fr_place hown2 (by omega) m x
         have HBZ : Hid (Bytes (w5.setCell ⟨g5, k, none⟩ (.int .u8 (z.toNat : Int))) (some ⟨g5, 0, none⟩) (L.set k z)) := hbz
         have HG5 : Hid (w3.heap.size ≤ g5) := hg5
         have hkJ : (k : Int) < L.length := by omega
         have hl1 := hlL'.1
         have hl2 := hlL'.2
         clear hown2 hg2 HO1 HB4 eL hLL hlL hlL' hbz hg5))
    obtain ⟨W6, hW6⟩ : ∃ W6, W6 = w5.setCell ⟨g5, k, none⟩ (.int .u8 (z.toNat : Int)) := ⟨_, rfl⟩
    rw [← hW6] at HBZ ⊢
    have hB6 : Below w3.heap.size w3 W6 := by rw [hW6]; exact HB5.out.setCell HG5.out _
    have hB6' : Below w.heap.size w W6 := HB3.out.trans (hB6.mono HB3.out.size)
    have hlen : (L.set k z).length = L.length := List.length_set ..
    have c16 := unframe_any (some ⟨g5, 0, none⟩) (L.set k z) c5 W6 (below_tab hB6' HT.out.lt HT.out) (by rw [hlen]; omega) (by rw [hlen]; exact hc5) HBZ.out
    have c17 : ∀ W, Below W6.heap.size W6 W → Calls Tryd.prog 17 #[.slice (some ⟨g5, 0, none⟩) L.length c5] W (Unframed W (L.set k z)) := fun W hW => by
      have := runframe_any (some ⟨g5, 0, none⟩) (L.set k z) c5 W (by rw [hlen]; omega) (by rw [hlen]; exact hc5) (below_bytes hW HBZ.out)
      rw [hlen] at this
      exact this
    rw [hlen] at c16
    have m16 : ∀ W, Below W6.heap.size W6 W → Calls Tryd.prog 16 #[.slice p2 m2.length c2] W (Unframed W m2) := fun W hW =>
      unframe_any p2 m2 c2 W (below_tab (hB6'.trans (hW.mono hB6'.size)) HT.out.lt HT.out) (by omega) hcm1 (below_bytes hW (below_bytes hB6 HM3.out))
    have m17 : ∀ W, Below W6.heap.size W6 W → Calls Tryd.prog 17 #[.slice p2 m2.length c2] W (Unframed W m2) := fun W hW =>
      runframe_any p2 m2 c2 W (by omega) hcm1 (below_bytes hW (below_bytes hB6 HM3.out))
    have HB6 : Hid (Below w.heap.size w W6) := hB6'
    generalize L.set k z = L2 at c16 c17
    clear hB6 hB6' hlen HBZ hW6 hcy hfy hez HB5 HG5 HM3 HB3 HF
    go_wp2_with fail
    refine c16.mono ?_
    rintro e w7 ⟨q7, c7, rfl, hb7, hB7⟩
    clear c16
    go_wp2_with fail
    refine (c17 _ hB7).mono ?_
    rintro e w8 ⟨q8, c8, rfl, hb8, hB8'⟩
    clear c17
    have hB8 : Below W6.heap.size W6 w8 := hB7.trans (hB8'.mono hB7.size)
    have hb78 := below_bytes hB8' hb7
    clear hb7 hB7
    go_wp2_with fail
    refine (m16 _ hB8).mono ?_
    rintro e w9 ⟨q9, c9, rfl, hb9, hB9'⟩
    clear m16
    have hB9 : Below W6.heap.size W6 w9 := hB8.trans (hB9'.mono hB8.size)
    have hb79 := below_bytes hB9' hb78
    have hb89 := below_bytes hB9' hb8
    clear hb78 hb8 hB8 hB8'
    go_wp2_with fail
    refine (m17 _ hB9).mono ?_
    rintro e w10 ⟨q10, c10, rfl, hb10, hB10'⟩
    clear m17
    have HB10 : Hid (Below w.heap.size w w10) := HB6.out.trans ((hB9.trans (hB10'.mono hB9.size)).mono HB6.out.size)
    have t7 := run_str w10 q7 _ c7 (below_bytes hB10' hb79)
    have t8 := run_str w10 q8 _ c8 (below_bytes hB10' hb89)
    have t9 := run_str w10 q9 _ c9 (below_bytes hB10' hb9)
    have t10 := run_str w10 q10 _ c10 hb10
    clear hb79 hb89 hb9 hb10 hB9 hB9' hB10' HB6
    generalize strOf (unf L2).1 = st1 at t7 t8
    generalize strOf (unf m2).1 = st2 at t9 t10
    generalize (unf L2).1.length = lu1 at t7 t8 ⊢
    generalize (unf m2).1.length = lu2 at t9 t10 ⊢
    generalize (unf L2).2.1 = nu1
    generalize (unf m2).2.1 = nu2
    generalize (unf L2).2.2 = ec1
    generalize (unf m2).2.2 = ec2
    go_wp2
    go_ret
    exact ⟨by simp, HB10.out⟩
  · obtain ⟨m, hm'⟩ := Int.eq_ofNat_of_zero_le (show 0 ≤ a by omega)
    have hm63 : m < 9223372036854775808 := by omega
    subst hm'
    have hneg' : ¬ (m : Int) < 0 := by omega
    clear ha ha' hneg
    go_wp2_with (first
      | (have tk := tokA
         refine wpList_append_bytes rfl _ _ rfl w3.heap.size _ 0 [] rfl (owns_nil _ _) (some ⟨w1.heap.size, 0, none⟩) (framed b2) (8 + b2.length) (by rw [hfl.out]; rfl) HF.out (by rw [hfl.out]; omega) (Nat.le_refl _) ?_
         clear tk tokA s1 s2
         intro v1 w4 hown1 hg1 _
         have HO1 : Hid (w4.ownsRow w3.heap.size 5 1 v1 (0 + (framed b2).length) ([] ++ (framed b2).map u8v)) := hown1
         have HB4 : Hid (Below w3.heap.size w3 w4) := (Below.refl _ _).grown hg1 (Nat.le_refl _) (by intro k hk; cases hk)
         clear hown1 hg1
         have tokB : True := trivial)
      | (have tk := tokB
         refine wpList_append_bytes rfl _ _ rfl w3.heap.size _ _ _ rfl HO1.out p2 m2 c2 rfl (below_bytes HB4.out HM3.out) (by rw [hfl.out]; omega) HB4.out.size ?_
         clear tk tokB
         intro v2 w5 hown2 hg2 _
         have HB5 : Hid (Below w3.heap.size w3 w5) := by
           obtain ⟨gg, cc, hv, hgg, _⟩ := HO1.out.form (by rw [hfl.out]; omega)
           exact HB4.out.grown hg2 HB4.out.size (by intro k hk; rw [hv] at hk; cases hk; exact hgg)
         have eL : 0 + (framed b2).length + m2.length = (framed b2 ++ m2).length := by simp
         rw [eL, List.nil_append, ← List.map_append] at hown2
         have hlL : Hid ((framed b2 ++ m2).length ≤ 348 ∧ 8 ≤ (framed b2 ++ m2).length) := by constructor <;> (rw [List.length_append, hfl.out]; omega)
         generalize hLL : framed b2 ++ m2 = L at hown2 hlL
         have hlL' := hlL.out
         obtain ⟨g5, c5, k, y, z, rfl, hc5, hg5, hkN, hkI, hk, hcy, hfy, hez, hbz⟩ := fr_place hown2 (by omega) m x
         have HBZ : Hid (Bytes (w5.setCell ⟨g5, k, none⟩ (.int .u8 (z.toNat : Int))) (some ⟨g5, 0, none⟩) (L.set k z)) := hbz
         have HG5 : Hid (w3.heap.size ≤ g5) := hg5
         have hkJ : (k : Int) < L.length := by omega
         have hl1 := hlL'.1
         have hl2 := hlL'.2
         clear hown2 hg2 HO1 HB4 eL hLL hlL hlL' hbz hg5))
    obtain ⟨W6, hW6⟩ : ∃ W6, W6 = w5.setCell ⟨g5, k, none⟩ (.int .u8 (z.toNat : Int)) := ⟨_, rfl⟩
    rw [← hW6] at HBZ ⊢
    have hB6 : Below w3.heap.size w3 W6 := by rw [hW6]; exact HB5.out.setCell HG5.out _
    have hB6' : Below w.heap.size w W6 := HB3.out.trans (hB6.mono HB3.out.size)
    have hlen : (L.set k z).length = L.length := List.length_set ..
    have c16 := unframe_any (some ⟨g5, 0, none⟩) (L.set k z) c5 W6 (below_tab hB6' HT.out.lt HT.out) (by rw [hlen]; omega) (by rw [hlen]; exact hc5) HBZ.out
    have c17 : ∀ W, Below W6.heap.size W6 W → Calls Tryd.prog 17 #[.slice (some ⟨g5, 0, none⟩) L.length c5] W (Unframed W (L.set k z)) := fun W hW => by
      have := runframe_any (some ⟨g5, 0, none⟩) (L.set k z) c5 W (by rw [hlen]; omega) (by rw [hlen]; exact hc5) (below_bytes hW HBZ.out)
      rw [hlen] at this
      exact this
    rw [hlen] at c16
    have m16 : ∀ W, Below W6.heap.size W6 W → Calls Tryd.prog 16 #[.slice p2 m2.length c2] W (Unframed W m2) := fun W hW =>
      unframe_any p2 m2 c2 W (below_tab (hB6'.trans (hW.mono hB6'.size)) HT.out.lt HT.out) (by omega) hcm1 (below_bytes hW (below_bytes hB6 HM3.out))
    have m17 : ∀ W, Below W6.heap.size W6 W → Calls Tryd.prog 17 #[.slice p2 m2.length c2] W (Unframed W m2) := fun W hW =>
      runframe_any p2 m2 c2 W (by omega) hcm1 (below_bytes hW (below_bytes hB6 HM3.out))
    have HB6 : Hid (Below w.heap.size w W6) := hB6'
    generalize L.set k z = L2 at c16 c17
    clear hB6 hB6' hlen HBZ hW6 hcy hfy hez HB5 HG5 HM3 HB3 HF
    go_wp2_with fail
    refine c16.mono ?_
    rintro e w7 ⟨q7, c7, rfl, hb7, hB7⟩
    clear c16
    go_wp2_with fail
    refine (c17 _ hB7).mono ?_
    rintro e w8 ⟨q8, c8, rfl, hb8, hB8'⟩
    clear c17
    have hB8 : Below W6.heap.size W6 w8 := hB7.trans (hB8'.mono hB7.size)
    have hb78 := below_bytes hB8' hb7
    clear hb7 hB7
    go_wp2_with fail
    refine (m16 _ hB8).mono ?_
    rintro e w9 ⟨q9, c9, rfl, hb9, hB9'⟩
    clear m16
    have hB9 : Below W6.heap.size W6 w9 := hB8.trans (hB9'.mono hB8.size)
    have hb79 := below_bytes hB9' hb78
    have hb89 := below_bytes hB9' hb8
    clear hb78 hb8 hB8 hB8'
    go_wp2_with fail
    refine (m17 _ hB9).mono ?_
    rintro e w10 ⟨q10, c10, rfl, hb10, hB10'⟩
    clear m17
    have HB10 : Hid (Below w.heap.size w w10) := HB6.out.trans ((hB9.trans (hB10'.mono hB9.size)).mono HB6.out.size)
    have t7 := run_str w10 q7 _ c7 (below_bytes hB10' hb79)
    have t8 := run_str w10 q8 _ c8 (below_bytes hB10' hb89)
    have t9 := run_str w10 q9 _ c9 (below_bytes hB10' hb9)
    have t10 := run_str w10 q10 _ c10 hb10
    clear hb79 hb89 hb9 hb10 hB9 hB9' hB10' HB6
    generalize strOf (unf L2).1 = st1 at t7 t8
    generalize strOf (unf m2).1 = st2 at t9 t10
    generalize (unf L2).1.length = lu1 at t7 t8 ⊢
    generalize (unf m2).1.length = lu2 at t9 t10 ⊢
    generalize (unf L2).2.1 = nu1
    generalize (unf m2).2.1 = nu2
    generalize (unf L2).2.2 = ec1
    generalize (unf m2).2.2 = ec2
    go_wp2
    go_ret
    exact ⟨by simp, HB10.out⟩

end Go.Proofs.YtlmnhnimneimkaaDoor
