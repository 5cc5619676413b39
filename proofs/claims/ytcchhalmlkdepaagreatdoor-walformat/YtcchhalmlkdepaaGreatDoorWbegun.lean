/-
  begun of the law: a device of 40 blocks, formatted, mounted, one commit, synced, crashed, mounted again.
-/
import Derived.Test.YtcchhalmlkdepaaGreatDoorWread
import Derived.Lib.SlBytesConst
namespace Go.Proofs.YtcchhalmlkdepaaGreatDoor
open Go.RowKit Go.Maps Go.Sort Go.Shelf

set_option maxRecDepth 8000 in
set_option maxHeartbeats 4000000 in
theorem begun_true (w : World) (ht : Tab w) : Calls Tryz.prog 6 #[] w fun e w' => e = .returned (.bool true) ∧ Below w.heap.size w w' := by
  have c21 := dev_new 40 w (by omega) (by omega)
  have HT : Hid (Tab w) := ht
  clear ht
  go_enter Tryz.func6, Tryz.ntmps6
  go_wp2_with (go_at_call 16; refine c21.mono ?_; rintro e w1 ⟨a, s, c, m, rfl, hd1, hB1, ha1, hs1, hm1⟩; clear c21; refine Stop.out ?_)
  refine Stop.mk ?_
  have ht1 : Tab w1 := below_tab hB1 HT.out.lt HT.out
  have cF := format_ok (newDS a s c m 40) w1 hd1 ht1 (by simp [newDS]) (fun i _ => rfl) (fun h => by cases h) (by simp [newDS])
  have H1 : Hid (Dev w1 (newDS a s c m 40) ∧ Tab w1) := ⟨hd1, ht1⟩
  have HL1 : Hid (Below w.heap.size w w1 ∧ ∀ k, (newDS a s c m 40).mine k → w.heap.size ≤ k) := ⟨hB1, by rintro k (rfl | rfl | rfl); exact ha1; exact hs1; exact hm1⟩
  clear hd1 hB1 ha1 hs1 hm1 ht1
  go_wp2_with (go_at_call 17; refine cF.mono ?_; rintro e w2 ⟨d2, rfl, hb2, hn2, hd2, hdn2, hD2, hB2, hcn2, hfu2⟩; clear cF; refine Stop.out ?_)
  refine Stop.mk ?_
  have ht2 : Tab w2 := hb2.tab H1.out.2 (H1.out.1.noTab H1.out.2)
  have hn40 : d2.n = 40 := hdn2
  have hnb : nbOf d2.n = 8 := by rw [hn40]; rfl
  have hfu2' : d2.fused = false := hfu2
  have hcn2' : d2.count = 4 := hcn2
  have hdd2 : d2.dead = false := by unfold DS.dead; rw [hfu2']; rfl
  have cM := mount_ok [] 1 0 d2 w2 hd2 ht2 (by omega) hdd2 hD2 (by rw [hB2, hdn2]; simp [upd]) (by omega) (by omega) (by
    refine ⟨by omega, fun _ => ?_⟩
    rw [hB2, hnb]
    simp only [upd]
    exact oldB_zero _)
  have ea2 : d2.a = a := hn2.a
  rw [ea2] at cM
  have H2 : Hid (Dev w2 d2 ∧ Tab w2) := ⟨hd2, ht2⟩
  have HL2 : Hid (Below w.heap.size w w2 ∧ ∀ k, d2.mine k → w.heap.size ≤ k) := by
    obtain ⟨h1, h2⟩ := HL1.out
    refine ⟨h1.trans (hb2.below h1.size h2), ?_⟩
    rintro k (e | e | e)
    · exact h2 k (.inl (e.trans hn2.a))
    · exact h2 k (.inr (.inl (e.trans hn2.s)))
    · rcases hn2.m with e2 | e2
      · exact h2 k (.inr (.inr (e.trans e2)))
      · have := h1.size; omega
  clear hd2 ht2 hb2
  go_wp2_with (go_at_call 14; refine cM.mono ?_; rintro e w3 ⟨v, f, rfl, hM⟩; clear cM; refine Stop.out ?_)
  refine Stop.mk ?_
  have HM : Hid (Mounted w2 w3 v d2 (0 + ([] : List Rec).length) 1 f []) := hM
  clear hM
  have cv : (convert 54 54 (.slice (some ⟨w3.heap.size, 0, none⟩) 1 1)).run Tryz.prog (w3.alloc (.cells #[.int .u8 120] 5)) = .ok (.slice (some ⟨w3.heap.size, 0, none⟩) 1 1) (w3.alloc (.cells #[.int .u8 120] 5 (1, 2))) := Lib.run_convert_bytes_const w3 54 5 #[.int .u8 120] 1 1 Tryz.underlying54 Tryz.underlying5
  obtain ⟨w4, hw4⟩ : ∃ w4, w4 = w3.alloc (.cells #[.int .u8 120] 5 (1, 2)) := ⟨_, rfl⟩
  have hB4 : Below w3.heap.size w3 w4 := by rw [hw4]; exact (Below.refl _ w3).alloc (Nat.le_refl _) _
  have hx4 : w4.heap[w3.heap.size]? = some (.cells #[.int .u8 120] 5 (1, 2)) := by rw [hw4]; exact heap_alloc_new w3 _
  have cFu : Calls Tryz.prog 22 #[.slice (some ⟨w3.heap.size, 0, none⟩) 1 1, .int .i64 512] w4 fun e w' => e = .returned (.slice (some ⟨w4.heap.size, 0, none⟩) 512 512) ∧ w'.heap[w4.heap.size]? = some (.cells ((List.replicate 512 (120 : BitVec 8)).map u8v).toArray 5 (0, 0)) ∧ Below w4.heap.size w4 w' := by
    have := full_any [120] (some ⟨w3.heap.size, 0, none⟩) 1 512 w4 (by omega) (by simp) (fun _ => ⟨_, _, rfl, fun j x hj => by
      have h0 : j = 0 := by have := (List.getElem?_eq_some_iff.1 hj).1; simp at this; omega
      subst h0
      have e := cellOf hx4 0
      simp at hj
      subst hj
      simpa using e⟩)
    refine this.mono ?_
    rintro e w' ⟨rfl, h1, h2⟩
    refine ⟨rfl, ?_, h2⟩
    rw [h1]
    have : (full [120] 512).map u8 = (List.replicate 512 (120 : BitVec 8)).map u8v := by
      apply List.ext_getElem?
      intro i
      by_cases hi : i < 512
      · rw [List.getElem?_map, List.getElem?_map, List.getElem?_replicate, if_pos hi]
        simp [full, hi, u8, u8v, Nat.mod_one]
      · rw [List.getElem?_eq_none (by simp [full]; omega), List.getElem?_eq_none (by simp; omega)]
    rw [this]
  go_wp2_with (go_at_call 22; rw [← hw4]; refine cFu.mono ?_; rintro e w5 ⟨rfl, hx5, hB5⟩; clear cFu cv; refine Stop.out ?_)
  refine Stop.mk ?_
  have hs4 : w4.heap.size = w3.heap.size + 1 := by rw [hw4]; simp
  clear hw4
  rw [hs4] at hx5
  have hB35 : Below w3.heap.size w3 w5 := hB4.trans (hB5.mono hB4.size)
  obtain ⟨pm, hpm⟩ : ∃ pm : List PutM, pm = [⟨3, some ⟨w3.heap.size + 1, 0, none⟩, 512, List.replicate 512 120⟩] := ⟨_, rfl⟩
  have hpl : pm.length = 1 := by rw [hpm]; rfl
  have hpg : pagesFor pm.length = 2 := by rw [hpl]; rfl
  obtain ⟨w6, hw6⟩ : ∃ w6, w6 = w5.alloc (.cells #[.int .i64 3, .slice (some ⟨w3.heap.size + 1, 0, none⟩) 512 512] 61) := ⟨_, rfl⟩
  have hB56 : Below w5.heap.size w5 w6 := by rw [hw6]; exact (Below.refl _ w5).alloc (Nat.le_refl _) _
  have hx6 : w6.heap[w5.heap.size]? = some (.cells #[.int .i64 3, .slice (some ⟨w3.heap.size + 1, 0, none⟩) 512 512] 61 (0, 0)) := by rw [hw6]; exact heap_alloc_new w5 _
  have hy6 : w6.heap[w3.heap.size + 1]? = some (.cells ((List.replicate 512 (120 : BitVec 8)).map u8v).toArray 5 (0, 0)) := below_block hx5 hB56
  have hB36 : Below w3.heap.size w3 w6 := hB35.trans (hB56.mono hB35.size)
  have hM := HM.out
  have hv6 : IsVol w6 v (dp d2.a) 0 1 d2.n (some f) d2.count := hM.vol.below hB36
  have hd3 : Dev w3 d2 := H2.out.1.below hM.below
  have hd6 : Dev w6 d2 := hd3.below hB36
  have ht3 : Tab w3 := below_tab hM.below H2.out.2.lt H2.out.2
  have ht6 : Tab w6 := below_tab hB36 ht3.lt ht3
  have hown : w6.ownsMap Tryz.prog 3 slElem f 0 (.map []) := by
    obtain ⟨F, hF⟩ := hM.fr
    have hlt := hF.own.lt
    obtain ⟨es, clock, he, hk, hle, hF'⟩ := hF.own
    have hes : es = #[] := by apply Array.eq_empty_of_size_eq_zero; simpa using hle
    subst hes
    exact ⟨#[], clock, (hB36.block f hlt).trans he, hk, Nat.le_refl _, rfl⟩
  have hfm : f ≠ d2.m := by
    have h1 := hM.flt
    have h2 := H2.out.1.mlt
    omega
  have hps : PutsAt w6 (some ⟨w5.heap.size, 0, none⟩) pm := by
    refine ⟨fun _ => ⟨_, _, rfl, ⟨_, _, hx6⟩, fun j x hj => ?_⟩, fun j x hj => ?_⟩
    · have h0 : j = 0 := by have := (List.getElem?_eq_some_iff.1 hj).1; omega
      subst h0
      rw [hpm] at hj
      simp only [List.getElem?_cons_zero, Option.some.injEq] at hj
      subst hj
      refine ⟨by have := cellOf hx6 0; simpa using this, by have := cellOf hx6 1; simpa using this⟩
    · have h0 : j = 0 := by have := (List.getElem?_eq_some_iff.1 hj).1; omega
      subst h0
      rw [hpm] at hj
      simp only [List.getElem?_cons_zero, Option.some.injEq] at hj
      subst hj
      refine ⟨by simp, bytes_block hy6, fun b o e => ?_⟩
      simp only [Option.some.injEq, Addr.mk.injEq] at e
      rw [← e.1]
      exact ⟨_, _, hy6⟩
  have hrec : recOf pm = [(3, List.replicate 512 120)] := by rw [hpm]; rfl
  have hgood : pm.all (goodPut (nbOf d2.n)) = true := by rw [hpm, hnb]; simp [goodPut]
  have cC := vCommit_restart (some ⟨w5.heap.size, 0, none⟩) pm 1 v 0 1 d2.n f 0 d2 w6 hv6 hd6 ht6 (by omega) hps hgood (by omega) (by omega) (by rw [hpg]; omega) (Nat.le_refl _) (by rw [hpg]; omega) hown hfm (by omega) (by omega) hfu2' (by omega)
  rw [hpl] at cC
  have H6 : Hid (Tab w6 ∧ IsVol w6 v (dp d2.a) 0 1 d2.n (some f) d2.count ∧ Dev w6 d2) := ⟨ht6, hv6, hd6⟩
  have HL6 : Hid (Below w.heap.size w w6 ∧ w.heap.size ≤ v) := by
    have h1 := HL2.out.1
    have h3 := h1.trans (hM.below.mono h1.size)
    exact ⟨h3.trans (hB36.mono h3.size), Nat.le_trans h1.size hM.vlt⟩
  clear hB35 hB56 hx6 hy6 hB36 hM hv6 hd3 hd6 ht3 ht6 hown hps hgood hx5 hB5 hx4 hB4 hs4
  go_wp2_with (go_at_call 23; rw [← hw6]; refine cC.mono ?_; rintro e w7 ⟨rfl, d7, f7, hC⟩; clear cC; refine Stop.out ?_)
  refine Stop.mk ?_
  clear hw6
  have ea7 : d7.a = a := hC.near.a.trans ea2
  have hc7 : d7.count = 10 := by rw [hC.count, hcn2', hpg]; rfl
  have hf7 : d7.fused = false := hC.fused.trans hfu2'
  have hv7 := hC.vol
  rw [← hC.near.a] at hv7
  have ht7 : Tab w7 := hC.but.tab H6.out.1 (by rintro (e | e); exact H6.out.2.1.noTab H6.out.1 e; exact H6.out.2.2.noTab H6.out.1 e)
  have cS := vSync_ok v _ _ _ _ d7 w7 hv7 hC.dev (fun h => by rw [hf7] at h; cases h) (by omega)
  have H7 : Hid (Cmt w6 w7 v 0 1 pm d2 d7 f7 ∧ Tab w7) := ⟨hC, ht7⟩
  have HL7 : Hid (Below w.heap.size w w7 ∧ ∀ k, (k = v ∨ d7.mine k) → w.heap.size ≤ k) := by
    obtain ⟨h1, h2⟩ := HL6.out
    have h3 := HL2.out.2
    refine ⟨h1.trans (hC.but.below h1.size (by rintro k (e | e); exact e ▸ h2; exact h3 k e)), ?_⟩
    rintro k (e | e | e | e)
    · exact e ▸ h2
    · exact h3 k (.inl (e.trans hC.near.a))
    · exact h3 k (.inr (.inl (e.trans hC.near.s)))
    · rcases hC.near.m with e2 | e2
      · exact h3 k (.inr (.inr (e.trans e2)))
      · have := h1.size; omega
  clear hC hv7 ht7
  go_wp2_with (go_at_call 13; refine cS.mono ?_; rintro e w8 ⟨m8, rfl, hm8, hv8, hd8, hb8⟩; clear cS; refine Stop.out ?_)
  refine Stop.mk ?_
  have ht8 : Tab w8 := by
    have hv7 := H7.out.1.vol
    exact hb8.tab H7.out.2 (by rintro (e | e); exact hv7.noTab H7.out.2 e; exact H7.out.1.dev.noTab H7.out.2 e)
  have cX := dev_crash_flushed (d7.flushed m8) w8 hd8 rfl
  rw [show (d7.flushed m8).a = a from ea7] at cX
  have H8 : Hid (Tab w8) := ht8
  have HL8 : Hid (Below w.heap.size w w8) := HL7.out.1.trans (hb8.below HL7.out.1.size HL7.out.2)
  clear hv8 hd8 hb8 ht8 hm8
  go_wp2_with (go_at_call 15; refine cX.mono ?_; rintro e w9 ⟨a9, s9, c9, m9, rfl, hd9, hB9, _, _, _⟩; clear cX; refine Stop.out ?_)
  refine Stop.mk ?_
  have ht9 : Tab w9 := below_tab hB9 H8.out.lt H8.out
  obtain ⟨d9, hd9e⟩ : ∃ d9, d9 = { newDS a9 s9 c9 m9 (d7.flushed m8).n with B := (d7.flushed m8).B } := ⟨_, rfl⟩
  rw [← hd9e] at hd9
  have hn9 : d9.n = 40 := by rw [hd9e]; exact H7.out.1.n.trans hn40
  have hnb9 : nbOf d9.n = 8 := by rw [hn9]; rfl
  have ea9 : d9.a = a9 := by rw [hd9e]; rfl
  have hB9' : d9.B = laidP (upd d2.B 0 (headB 2 0 d2.n)) 9 ((List.range 2).map fun k => pageB 2 (recOf pm) k) := by
    rw [hd9e]
    show d7.B = _
    rw [H7.out.1.B, hpg, hnb]
  have hD9 : d9.D = .map [] := by rw [hd9e]; rfl
  have hdd9 : d9.dead = false := by rw [hd9e]; rfl
  have cM2 := mount_ok [recOf pm] 2 0 d9 w9 hd9 ht9 (by omega) hdd9 hD9 (by rw [hB9', hn9, ← hn40]; simp [laidP, upd]) (by omega) (by omega) (by
    rw [hnb9]
    refine ⟨⟨by rw [hrec]; simp, by rw [hrec]; simp, fun p hp => ?_⟩, ?_, fun i hi => ?_, ?_, fun _ => ?_⟩
    · rw [hrec] at hp
      simp only [List.mem_singleton] at hp
      subst hp
      simp
    · rw [hrec, hn9]; decide
    · have hi2 : i < 2 := by rw [hrec] at hi; exact hi
      rw [hB9']
      unfold laidP
      rw [if_pos (by omega), show 1 + 8 + i - 9 = i by omega, List.getElem?_map, List.getElem?_range hi2]
      rfl
    · rw [hrec, hn9]; decide
    · rw [hrec, hB9', hB2]
      show OldB 2 (laidP _ 9 _ 11)
      simp only [laidP, upd]
      exact oldB_zero _)
  rw [ea9] at cM2
  have H9 : Hid (Dev w9 d9) := hd9
  have HL9 : Hid (Below w.heap.size w w9) := HL8.out.trans (hB9.mono HL8.out.size)
  clear hd9 hB9 ht9 hB9' hD9
  go_wp2_with (go_at_call 14; refine cM2.mono ?_; rintro e wa ⟨va, fa, rfl, hMa⟩; clear cM2; refine Stop.out ?_)
  refine Stop.mk ?_
  obtain ⟨F, hF⟩ := hMa.fr
  have hda : Dev wa d9 := H9.out.below hMa.below
  have hva := hMa.vol
  have cR := vRead_fresh 3 (List.replicate 512 120) va _ _ _ fa _ F _ d9 wa hva hda (by omega) hF (by omega) (by rw [hrec]; rfl)
  have HA : Hid (IsVol wa va (dp d9.a) 1 2 d9.n (some fa) d9.count ∧ Dev wa d9) := ⟨hva, hda⟩
  have HLa : Hid (Below w.heap.size w wa) := HL9.out.trans (hMa.below.mono HL9.out.size)
  clear hF hda hva hMa
  go_wp2_with (go_at_call 21; refine cR.mono ?_; rintro e wb ⟨gb, cpb, rfl, hcpb, _, hbb, hBb, hgb⟩; clear cR; refine Stop.out ?_)
  refine Stop.mk ?_
  obtain ⟨g', o', e', hxb⟩ := hbb (by simp)
  cases e'
  have xb : ∀ W : World, Below wb.heap.size wb W → W.cell? ⟨gb, 9, none⟩ = some (.int .u8 120) := by
    intro W hW
    have hc := hxb 9 120 (by simp)
    have hc' : wb.cell? ⟨gb, 9, none⟩ = some (.int .u8 120) := by simpa [u8v] using hc
    exact (hW.cell (p := ⟨gb, 9, none⟩) (cell_lt hc')).trans hc'
  have hvb := HA.out.1.below hBb
  have hdb := HA.out.2.below hBb
  have cCm := fun k => vCommits va 1 2 d9.n (some fa) d9 (wb.drewN k) hvb (hdb.drewN k)
  have cBl := fun k => vBlocks va 1 2 d9.n (some fa) d9.count d9 (wb.drewN k) hvb (hdb.drewN k) (by omega)
  rw [hnb9] at cBl
  have HLb : Hid (Below w.heap.size w wb) := HLa.out.trans (hBb.mono HLa.out.size)
  have xb0 := xb wb (Below.refl _ _)
  clear hxb hvb hdb xb
  have cC0 : Calls Tryz.prog 12 #[dp va] wb fun e w' => e = .returned (.int .i64 1) ∧ ∃ k, w' = wb.drewN k := cCm 0
  clear cCm
  go_wp2_with (first
    | (go_at_call 12; refine cC0.mono ?_; rintro e wc ⟨rfl, kc, rfl⟩; clear cC0; have cB0 := cBl kc; clear cBl)
    | (go_at_call 20; refine Calls_on cB0 ?_))
  go_ret
  exact ⟨rfl, below_drewN HLb.out _⟩

end Go.Proofs.YtcchhalmlkdepaaGreatDoor
