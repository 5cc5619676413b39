/-
  Put, walked.
-/
import Derived.Test.YtdocablbkafkiaaDoorDv
namespace Go.Proofs.YtdocablbkafkiaaDoor.Cd
open Go.RowKit

/-- What Put answers. -/
def Putd (base a : Nat) (D : List (List En)) (s : List UInt8) (k : Int) (w : World) (e : Ending) (w' : World) : Prop :=
  Fr base w w' ∧
  ((fineN s ≠ 0 ∧ e = .returned (.int .i64 (fineN s)) ∧ DirOk w' base a D) ∨
   (fineN s = 0 ∧ ¬ (1 ≤ k ∧ k ≤ 2147483647) ∧ e = .returned (.int .i64 22) ∧ DirOk w' base a D) ∨
   (fineN s = 0 ∧ (1 ≤ k ∧ k ≤ 2147483647) ∧ Absent D s ∧ total D = 2048 ∧ e = .returned (.int .i64 28) ∧ DirOk w' base a D) ∨
   (fineN s = 0 ∧ (1 ≤ k ∧ k ≤ 2147483647) ∧ ¬ (Absent D s ∧ total D = 2048) ∧ e = .returned (.int .i64 0) ∧ ∃ D', DirOk w' base a D' ∧ (∀ q, q ∈ D'.flatten ↔ (q ∈ D.flatten ∧ q.name ≠ s) ∨ q = ⟨s, k.toNat⟩) ∧
      (Absent D s → total D' = total D + 1) ∧ (¬ Absent D s → total D' = total D)))

theorem put_nil (s : ByteArray) (k : Int) (w : World) : Calls Tryd.prog 10 #[.pointer none, .string s, .int .i64 k] w fun e w' => e = .returned (.int .i64 22) ∧ w' = w := by
  go_enter Tryd.func10, Tryd.ntmps10
  go_wp2
  go_ret
  exact ⟨rfl, rfl⟩

set_option maxRecDepth 8000 in
set_option maxHeartbeats 4000000 in
theorem put_any (base a : Nat) (D : List (List En)) (s : ByteArray) (k : Int) (w : World) (ht : Tab w) (hgb : 1 < base) (h : DirOk w base a D) (hx : s.size < 1000000) :
    Calls Tryd.prog 10 #[.pointer (some ⟨a, 0, none⟩), .string s, .int .i64 k] w (Putd base a D s.data.toList k w) := by
  have cF := fine_any s w (by omega)
  by_cases hf : fineN s.data.toList = 0
  · rw [hf] at cF
    by_cases hk : 1 ≤ k ∧ k ≤ 2147483647
    · obtain ⟨k, rfl⟩ : ∃ m : Nat, k = (m : Nat) := ⟨k.toNat, by omega⟩
      have hk1 : ¬ (k : Int) < 1 := by omega
      have hk2 : ¬ (2147483647 : Int) < k := by omega
      have cS := seek_ok base a D s w ht hgb h hx
      have HO : Hid (DirOk w base a D ∧ fineN s.data.toList = 0 ∧ (1 ≤ k ∧ k ≤ 2147483647) ∧ Tab w ∧ 1 < base ∧ s.size < 1000000) := ⟨h, hf, by omega, ht, hgb, hx⟩
      clear h hf hk ht hx
      go_enter Tryd.func10, Tryd.ntmps10
      go_wp2_with (go_at_call 15; refine Calls_on cF ?_; clear cF)
      refine cS.mono ?_
      clear cS
      rintro e w1 ⟨hb1, ⟨i, j, L, x, hL, hx', hn, rfl⟩ | ⟨hA, rfl⟩⟩
      · have hb2 : Below w.heap.size w (w1.alloc (.cells #[.int .i64 (i : Nat), .int .i64 (j : Nat)] 51)).drew := (hb1.alloc hb1.size _).drew
        obtain ⟨⟨bv, vs, h1⟩, h2⟩ := HO.out.1.below hb2
        obtain ⟨B, c, cur, v, hbv, hB, hcur, hv, hblk⟩ := h1.at_ hL
        obtain ⟨p, cv, rfl, hlc, _, he⟩ := hblk.form
        have hj := (List.getElem?_eq_some_iff.1 hx').1
        obtain ⟨g, rfl⟩ : ∃ g, p = some ⟨g, 0, none⟩ := by
          rcases hblk.2 with ⟨e, h0⟩ | ⟨g, _, _, e, _⟩
          · omega
          · injection e with e1; exact ⟨g, e1⟩
        obtain ⟨g', o', e', hce⟩ := he (by omega)
        injection e' with e'
        injection e' with e1 e2
        subst e1
        subst e2
        have d1 : (w1.alloc (.cells #[.int .i64 (i : Nat), .int .i64 (j : Nat)] 51)).drew.cell? ⟨a, 1, none⟩ = some (.slice (some ⟨B, 0, none⟩) D.length c) := by rw [h1.c1, hbv]
        have dB : (w1.alloc (.cells #[.int .i64 (i : Nat), .int .i64 (j : Nat)] 51)).drew.cell? ⟨B, i, none⟩ = some (.slice (some ⟨g, 0, none⟩) L.length cv) := by rw [cellOf hB i]; exact hcur
        have dx : (w1.alloc (.cells #[.int .i64 (i : Nat), .int .i64 (j : Nat)] 51)).drew.cell? ⟨g, j * 2 + 1, none⟩ = some (.int .i64 (x.num : Nat)) := by have := hce j 1 x hx' (by omega); rw [Nat.zero_add] at this; exact this
        have hiD := (List.getElem?_eq_some_iff.1 hL).1
        have hl7 := h2.wf.room i L hL
        have hDl : D.length ≤ 512 := by rw [h2.len]; exact bfor_small _ h2.most
        obtain ⟨t1, t2, cur', t3⟩ := hblk.tag (g := g) rfl
        have fx : (w1.alloc (.cells #[.int .i64 (i : Nat), .int .i64 (j : Nat)] 51)).drew.frozen? ⟨g, j * 2 + 1, none⟩ = false := frozenOf t3 _
        obtain ⟨D', r1, r2, r3, r4⟩ := renum h1 h2 hL hx' HO.out.2.2.1 hv
        have HR : Hid (Putd base a D s.data.toList (k : Nat) w (.returned (.int .i64 0)) ((w1.alloc (.cells #[.int .i64 (i : Nat), .int .i64 (j : Nat)] 51)).drew.setCell ⟨g, j * 2 + 1, none⟩ (.int .i64 (k : Nat)))) := by
          have hin : ¬ Absent D s.data.toList := fun hA => hA i L hL x (List.mem_of_getElem? hx') hn
          refine ⟨(Fr.below hb2).trans r4, .inr (.inr (.inr ⟨HO.out.2.1, by have := HO.out.2.2.1; omega, fun hh => hin hh.1, rfl, D', r1, fun q => ?_, fun hA => absurd hA hin, fun _ => r3⟩))⟩
          rw [r2, hn]; simp
        have hal : a < w1.heap.size := by have := HO.out.1.lt; have := hb1.size; omega
        generalize L.length = m at *
        generalize D.length = n at *
        have hiI : (i : Int) < n := by omega
        have hjI : (j : Int) < m := by omega
        clear h1 h2 hL hx' hn hbv hB hcur hv hblk hlc he hce hb1 hb2 r1 r2 r3 r4 t3 t1
        go_wp2_with fail
        go_region
        go_wp2
        go_ret
        exact HR.out
      · have hb2 : Below w.heap.size w (w1.alloc (.cells #[.int .i64 0, .int .i64 0] 51)) := hb1.alloc hb1.size _
        obtain ⟨⟨bv, vs, h1⟩, h2⟩ := HO.out.1.below hb2
        have d0 : w1.cell? ⟨a, 0, none⟩ = some (.int .i64 (total D : Nat)) := by
          have := h1.c0
          rwa [World.cell?_alloc_past _ _ _ (by have := HO.out.1.lt; have := hb1.size; omega)] at this
        have hal : a < w1.heap.size := cell_lt d0
        have f0 : (w1.alloc (.cells #[.int .i64 0, .int .i64 0] 51)).frozen? ⟨a, 0, none⟩ = false := frozenOf h1.dir 0
        obtain ⟨t, htt⟩ : ∃ t, total D = t := ⟨_, rfl⟩
        have htm : t ≤ 2048 := by rw [← htt]; exact h2.most
        by_cases hfull : t = 2048
        · have HR : Hid (Putd base a D s.data.toList (k : Nat) w (.returned (.int .i64 28)) (w1.alloc (.cells #[.int .i64 0, .int .i64 0] 51))) :=
            ⟨Fr.below hb2, .inr (.inr (.inl ⟨HO.out.2.1, by have := HO.out.2.2.1; omega, hA, by rw [htt, hfull], rfl, ⟨bv, vs, h1⟩, h2⟩))⟩
          rw [htt, hfull] at d0
          clear h1 h2 hb1 hb2 hA htt
          go_wp2
          go_ret
          exact HR.out
        · have hne : ¬ (t : Int) = 2048 := by omega
          rw [htt] at d0 h1
          obtain ⟨w3, hw3, hw3'⟩ : ∃ w3, w3 = (w1.alloc (.cells #[.int .i64 0, .int .i64 0] 51)).setCell ⟨a, 0, none⟩ (.int .i64 ((t : Int) + 1)) ∧ w3 = (w1.setCell ⟨a, 0, none⟩ (.int .i64 ((t : Int) + 1))).alloc (.cells #[.int .i64 0, .int .i64 0] 51) := ⟨_, rfl, by simp [go_sem, hal]⟩
          have ho3 : Only (fun q => q = a) (w1.alloc (.cells #[.int .i64 0, .int .i64 0] 51)) w3 := by rw [hw3]; exact Only.setCell _ _ _ rfl
          have h3 : DirAt w3 base a (t + 1) bv vs D := by
            refine ⟨h1.lo, by rw [hw3, heap_set_same h1.dir]; rfl, Only.ownsAny ho3 h1.blocks (fun b hb e => ?_), h1.rows.len, fun m u M hu hM => (h1.rows.row m u M hu hM).kept ho3 (fun b hb e => ?_), h1.rows.apart⟩
            · rcases h1.blocks.2 with ⟨e', _⟩ | ⟨g', _, cur', e', _, hg', _⟩
              · rw [e'] at hb; cases hb
              · rw [e'] at hb
                have : g' = b := by injection hb
                rw [this, e, h1.dir] at hg'; cases hg'
            · obtain ⟨_, _, cur', t3⟩ := (h1.rows.row m u M hu hM).tag hb
              rw [e, h1.dir] at t3; cases t3
          have hf3 : Fr base w w3 := (Fr.below hb2).trans (Only.weak ho3 (fun q _ hq => by rw [hq]; exact ⟨h1.lo, _, _, _, h1.dir, .inl rfl⟩))
          have hbw : base ≤ w.heap.size := by have := HO.out.1.lt; omega
          have ht3 : Tab w3 := below_tab (hf3.toBelow hbw) HO.out.2.2.2.2.1 HO.out.2.2.2.1
          have hDl : D.length ≤ 512 := by rw [h2.len]; exact bfor_small _ h2.most
          have hshort : ∀ x ∈ D.flatten, x.name.length < 1000000 := fun x hx => by have := fine_short (h2.fine x hx).1; omega
          have cT := fit_any base a (t + 1) bv vs D w3 ht3 HO.out.2.2.2.2.1 h3 h2.wf (by omega) (by omega) (by omega) hshort
          have HN : Hid (∀ w4, Fitted base a (t + 1) D w3 w4 → ∀ w5, Below w4.heap.size w4 w5 → Calls Tryd.prog 23 #[.pointer (some ⟨a, 0, none⟩), .agg #[.string s, .int .i64 (k : Nat)]] w5 fun e w' => e = .returned (.tuple #[]) ∧ Putd base a D s.data.toList (k : Nat) w (.returned (.int .i64 0)) w') := fun w4 hF w5 hb5 => by
            obtain ⟨bv4, vs4, D4, q1, q2, q3, q4, q5⟩ := hF
            have hl4 := q2.len
            have h64 : s.data.toList.length ≤ 64 := fine_short HO.out.2.1
            have hroom := bfor_room (t + 1) (by omega)
            have hsm := bfor_small (t + 1) (by omega)
            have h45 : Fr base w w5 := (hf3.trans q5).trans (Fr.below hb5)
            have hp := place_any base a (t + 1) bv4 vs4 D4 ⟨s.data.toList, k⟩ w5 (below_tab (h45.toBelow hbw) HO.out.2.2.2.2.1 HO.out.2.2.2.1) HO.out.2.2.2.2.1 (q1.below hb5) (by rw [hl4]; exact q2) (by omega) (by omega) (by omega) (fun j b hb y hy => by
              obtain ⟨j', b', hb', hy'⟩ := (mem_at y).1 ((q3 y).1 ((mem_at y).2 ⟨j, b, hb, hy⟩))
              exact hA j' b' hb' y hy') (by show s.data.toList.length < 1000000; omega)
            rw [show bas (⟨s.data.toList, k⟩ : En).name = s from bas_of s] at hp
            refine hp.mono ?_
            rintro e w6 ⟨rfl, vs6, D6, p1, p2, p3, p4, p5⟩
            have htot6 : total D6 = t + 1 := by rw [p4, q4, htt]
            have hmem6 : ∀ q, q ∈ D6.flatten ↔ (q ∈ D.flatten ∧ q.name ≠ s.data.toList) ∨ q = ⟨s.data.toList, ((k : Nat) : Int).toNat⟩ := fun q => by
              rw [p3, q3, Int.toNat_natCast]
              constructor
              · rintro (hq | hq)
                · exact .inr hq
                · obtain ⟨j', b', hb', hy'⟩ := (mem_at q).1 hq
                  exact .inl ⟨hq, hA j' b' hb' q hy'⟩
              · rintro (hq | hq)
                · exact .inr hq.1
                · exact .inl hq
            refine ⟨rfl, h45.trans p5, .inr (.inr (.inr ⟨HO.out.2.1, by have := HO.out.2.2.1; omega, fun hh => by omega, rfl, D6, ⟨⟨bv4, vs6, by rw [htot6]; exact p1⟩, ?_⟩, hmem6, fun _ => by rw [htot6, htt], fun hn => absurd hA hn⟩))⟩
            have hl6 : D6.length = bfor (t + 1) := by rw [p2.len, hl4]
            refine ⟨by rw [hl6, ← hl4]; exact p2, by rw [hl6, htot6], by omega, fun q hq => ?_⟩
            rcases (hmem6 q).1 hq with hq' | rfl
            · exact h2.fine q hq'.1
            · exact ⟨HO.out.2.1, by rw [Int.toNat_natCast]; exact HO.out.2.2.1⟩
          have cC := fun W => sclone_any s W (by have := HO.out.2.2.2.2.2; omega)
          clear h1 h2 h3 hf3 ho3 ht3 hshort hb1 hb2 hA htt hbw hDl
          have HW3 : Hid (w3 = (w1.setCell ⟨a, 0, none⟩ (.int .i64 ((t : Int) + 1))).alloc (.cells #[.int .i64 0, .int .i64 0] 51)) := hw3'
          clear hw3 hw3'
          go_wp2_with fail
          rw [← HW3.out]
          refine cT.mono ?_
          rintro e w4 ⟨rfl, hF⟩
          clear cT
          go_wp2_with fail
          refine (cC w4).mono ?_
          rintro e w5 ⟨rfl, hb5⟩
          have cP := HN.out w4 hF w5 hb5
          clear cC hF hb5 HN
          go_wp2_with fail
          refine cP.mono ?_
          rintro e w6 ⟨rfl, hP⟩
          have HP : Hid (Putd base a D s.data.toList (k : Nat) w (.returned (.int .i64 0)) w6) := hP
          clear cP hP
          go_wp2
          go_ret
          exact HP.out
    · have HO : Hid (DirOk w base a D ∧ fineN s.data.toList = 0 ∧ ¬ (1 ≤ k ∧ k ≤ 2147483647)) := ⟨h, hf, hk⟩
      clear h hf ht
      by_cases hk1 : k < 1
      · clear hk
        go_enter Tryd.func10, Tryd.ntmps10
        go_wp2_with (go_at_call 15; refine Calls_on cF ?_; clear cF)
        go_ret
        exact ⟨Fr.refl _ _, .inr (.inl ⟨HO.out.2.1, HO.out.2.2, rfl, HO.out.1⟩)⟩
      · have hk2 : (2147483647 : Int) < k := by omega
        clear hk
        go_enter Tryd.func10, Tryd.ntmps10
        go_wp2_with (go_at_call 15; refine Calls_on cF ?_; clear cF)
        go_ret
        exact ⟨Fr.refl _ _, .inr (.inl ⟨HO.out.2.1, HO.out.2.2, rfl, HO.out.1⟩)⟩
  · obtain ⟨F, hF⟩ : ∃ F, fineN s.data.toList = F := ⟨_, rfl⟩
    have HO : Hid (DirOk w base a D ∧ fineN s.data.toList = F ∧ F ≠ 0) := ⟨h, hF, by rw [← hF]; exact hf⟩
    rw [hF] at cF hf
    clear h ht hF
    go_enter Tryd.func10, Tryd.ntmps10
    go_wp2_with (go_at_call 15; refine Calls_on cF ?_; clear cF)
    go_ret
    exact ⟨Fr.refl _ _, .inl ⟨by rw [HO.out.2.1]; exact HO.out.2.2, by rw [HO.out.2.1]; rfl, HO.out.1⟩⟩

end Go.Proofs.YtdocablbkafkiaaDoor.Cd
