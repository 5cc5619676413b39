/-
  The law of DirAll: names are put, dropped, asked for, and written and read again, beside a plain list of names and numbers.
-/
import Derived.Test.YtdocablbkafkiaaDoorZe

namespace Go.Proofs.YtdocablbkafkiaaDoor.Cd
open Go.RowKit Go.Maps

attribute [local go_sem] Oper.semAt_some

structure O10 where
  kind : Int
  name : ByteArray
  n : Int
/-- The operations that came in. -/
def OpsAt (w : World) (p : Option Addr) (os : List O10) : Prop := ∀ (j : Nat) o, os[j]? = some o → ∃ b f, p = some ⟨b, f, none⟩ ∧ w.cell? ⟨b, f + j * 3, none⟩ = some (.int .i64 o.kind) ∧ w.cell? ⟨b, f + j * 3 + 1, none⟩ = some (.string o.name) ∧ w.cell? ⟨b, f + j * 3 + 2, none⟩ = some (.int .i64 o.n)
theorem OpsAt.below {w w' : World} {p : Option Addr} {os : List O10} (h : OpsAt w p os) (hb : Below w.heap.size w w') : OpsAt w' p os := fun j o hj => by
  obtain ⟨b, f, e, h0, h1, h2⟩ := h j o hj
  exact ⟨b, f, e, (hb.cell (p := ⟨b, f + j * 3, none⟩) (cell_lt h0)).trans h0, (hb.cell (p := ⟨b, f + j * 3 + 1, none⟩) (cell_lt h1)).trans h1, (hb.cell (p := ⟨b, f + j * 3 + 2, none⟩) (cell_lt h2)).trans h2⟩

theorem hasB_at {E : List En} {s : List UInt8} (h : hasB E s = true) : lb E s < E.length := by
  obtain ⟨x, hx, _⟩ := hasB_true h
  exact (List.getElem?_eq_some_iff.1 hx).1
theorem nm_ins {E : List En} {l : List UInt8} {k t : Nat} (h : lb E l = t) : (nmV E).take t ++ (.string (bas l)) :: (nmV E).drop t = nmV (ins E ⟨l, k⟩) := by
  subst h; simp [nmV, ins, List.map_take, List.map_drop]
theorem nu_ins {E : List En} {l : List UInt8} {t : Nat} (h : lb E l = t) : (nuV E).take t ++ (.int .i64 0) :: (nuV E).drop t = nuV (ins E ⟨l, 0⟩) := by
  subst h; simp [nuV, ins, List.map_take, List.map_drop]
theorem nu_set {E : List En} {l : List UInt8} {k t : Nat} (h : lb E l = t) : (nuV (ins E ⟨l, 0⟩)).set t (.int .i64 (k : Nat)) = nuV (ins E ⟨l, k⟩) := by
  subst h
  have hl := lb_le E l
  simp only [nuV, ins, List.map_append, List.map_cons]
  rw [List.set_append_right _ _ (by simp; omega)]
  have : lb E l - (List.map (fun x : En => Value.int .i64 (x.num : Nat)) (E.take (lb E l))).length = 0 := by simp; omega
  rw [this]
  rfl
theorem nm_cut (E : List En) (t : Nat) : (nmV E).take t ++ (nmV E).drop (t + 1) = nmV (E.take t ++ E.drop (t + 1)) := by simp [nmV, List.map_take, List.map_drop]
theorem nu_cut (E : List En) (t : Nat) : (nuV E).take t ++ (nuV E).drop (t + 1) = nuV (E.take t ++ E.drop (t + 1)) := by simp [nuV, List.map_take, List.map_drop]
theorem nu_put (E : List En) (t k : Nat) (l : List UInt8) : (nuV E).set t (.int .i64 (k : Nat)) = nuV (E.set t ⟨l, k⟩) := by simp [nuV, List.map_set]
theorem nm_put {E : List En} {t k : Nat} {l : List UInt8} {y : En} (hy : E[t]? = some y) (hn : y.name = l) : nmV E = nmV (E.set t ⟨l, k⟩) := by
  simp only [nmV, List.map_set]
  refine (List.ext_getElem? fun i => ?_)
  rw [List.getElem?_set]
  split
  · subst t
    have hl := (List.getElem?_eq_some_iff.1 hy).1
    rw [if_pos (by simpa using hl)]
    simp [hy, hn]
  · rfl
theorem cut_len {E : List En} {t : Nat} (h : t < E.length) : (E.take t ++ E.drop (t + 1)).length = E.length - 1 := by simp; omega
theorem LB.strs2 {w : World} {base kb : Nat} {v : Value} {L : List ByteArray} (h : LB w base kb v L) : ∃ p c, v = .slice p L.length c ∧ ∀ (j : Nat) s, L[j]? = some s → ∃ b o, p = some ⟨b, o, none⟩ ∧ w.cell? ⟨b, o + j, none⟩ = some (.string s) := by
  rcases h.row.2 with ⟨e1, e2⟩ | ⟨g, c, cur, e1, e2, e3, e4, e5, e6, e7⟩
  · have : L = [] := by simpa using e2
    subst this
    exact ⟨none, 0, e1, fun j s hj => by simp at hj⟩
  · refine ⟨_, _, e1, fun j s hj => ⟨g, 0, rfl, ?_⟩⟩
    rw [Nat.zero_add, cellOf e3]
    have hjl := (List.getElem?_eq_some_iff.1 hj).1
    have := congrArg (fun l => l[j]?) e7
    simp only [List.getElem?_take, List.getElem?_map, hj, Option.map_some] at this
    rw [if_pos (by omega), Array.getElem?_toList] at this
    exact this
/-- What the closure keeps. -/
def CJ (w9 : World) (fB kB t : Nat) (W : World) : Prop := Only (fun k => k = fB ∨ k = kB) w9 W ∧ W.heap[fB]? = some (.cells #[.bool true] 4 (0, 0)) ∧ W.heap[kB]? = some (.cells #[.int .i64 (t : Nat)] 3 (0, 0))
/-- All entries are told, each as the lists have it. -/
theorem each_law (w w8 : World) (NB a : Nat) (E : List En) (pN : Option Addr) (cN : Nat) (pM : Option Addr) (cM : Nat) (hL : LS w NB (NB + 1) a E pN cN pM cM w8) (hn : E.length ≤ 5000) (w9 : World) (hw9 : w9 = (w8.alloc (.cells #[.int .i64 0] 3)).alloc (.cells #[.bool true] 4)) :
    Calls Tryd.prog 18 #[.pointer (some ⟨a, 0, none⟩), .func (.func 19) #[] #[.pointer (some ⟨w8.heap.size + 1, 0, none⟩), .pointer (some ⟨w8.heap.size, 0, none⟩), .pointer (some ⟨NB, 0, none⟩), .pointer (some ⟨NB + 1, 0, none⟩)]] w9 fun e w' => e = .returned (.tuple #[]) ∧ w'.cell? ⟨w8.heap.size + 1, 0, none⟩ = some (.bool true) ∧ w'.cell? ⟨w8.heap.size, 0, none⟩ = some (.int .i64 (E.length : Nat)) ∧ Below w8.heap.size w8 w' := by
  have hb9 : Below w8.heap.size w8 w9 := by rw [hw9]; exact ((Below.refl _ w8).alloc (Nat.le_refl _) _).alloc (by simp) _
  have hk9 : w9.heap[w8.heap.size]? = some (.cells #[.int .i64 ((0 : Nat) : Int)] 3 (0, 0)) := by rw [hw9]; exact (Below.heap_alloc _ _ _ (by simp)).trans (heap_alloc_new w8 _)
  have hf9 : w9.heap[w8.heap.size + 1]? = some (.cells #[.bool true] 4 (0, 0)) := by
    rw [hw9]
    have := heap_alloc_new (w8.alloc (.cells #[.int .i64 0] 3)) (.cells #[.bool true] 4)
    rw [World.size_alloc] at this
    exact this
  have hsz9 : w9.heap.size = w8.heap.size + 2 := by rw [hw9]; simp
  obtain ⟨D, hD, hEp, hEs⟩ := hL.dir
  refine (each_clo w.heap.size a D E hEp hEs 19 _ _ _ _ w9 (hD.below hb9) (CJ w9 (w8.heap.size + 1) w8.heap.size) (fun args w => by simp [callFunc, Tryd.func19, go_sem]; rfl) (fun t W W' hJ ho => ?_) ⟨Only.refl _ _, hf9, hk9⟩ (fun t x W hx hJ _ => ?_)).mono ?_
  · refine ⟨hJ.1.trans ho (fun k hk => .inr hk.1), (ho.block _ (block_lt hJ.2.1) (fun h => by have := h.1; omega)).trans hJ.2.1, (ho.block _ (block_lt hJ.2.2) (fun h => by have := h.1; omega)).trans hJ.2.2⟩
  · obtain ⟨gN, rfl, cX, _⟩ := hL.rn.cell (nmV_at hx)
    obtain ⟨gM, rfl, cY, _⟩ := hL.rm.cell (nuV_at hx)
    have up : ∀ (b o : Nat) (v : Value), w8.cell? ⟨b, o, none⟩ = some v → W.cell? ⟨b, o, none⟩ = some v := fun b o v hc => by
      have hlt : b < w8.heap.size := cell_lt hc
      exact hJ.1.cell ((hb9.cell (p := ⟨b, o, none⟩) hlt).trans hc) (by omega)
    have htl := (List.getElem?_eq_some_iff.1 hx).1
    refine (clo_any (w8.heap.size + 1) w8.heap.size NB (NB + 1) E.length cN cM gN gM t (bas x.name) x.num W hJ.2.1 hJ.2.2 (up _ _ _ (cellOf hL.nb 0)) (up _ _ _ cX) (up _ _ _ (cellOf hL.mb 0)) (up _ _ _ cY) htl hn).mono ?_
    rintro e w' ⟨rfl, ho, h1, h2⟩
    refine ⟨rfl, ⟨hJ.1.next ho, h1, h2⟩, Only.weak ho (fun k _ hk => ?_)⟩
    rcases hk with rfl | rfl
    · exact not_HT hJ.2.1 (by decide) (by decide)
    · exact not_HT hJ.2.2 (by decide) (by decide)
  · rintro e w' ⟨rfl, hJ⟩
    refine ⟨rfl, cellOf hJ.2.1 0, cellOf hJ.2.2 0, hb9.trans ?_⟩
    exact Only.below hJ.1 hb9.size (fun k hk => by omega)

set_option maxRecDepth 8000 in
set_option maxHeartbeats 8000000 in
theorem all_law (po : Option Addr) (os : List O10) (co : Nat) (w : World) (ht : Tab w) (hos : OpsAt w po os) (hol : os.length < 1000000000000000) (hnb : ∀ o ∈ os, o.name.size < 1000000000000000) :
    Calls Tryd.prog 3 #[.slice po os.length co] w fun e w' => e = .returned (.bool true) ∧ Below w.heap.size w w' := by
  have cB := begun10_true w ht
  have HA : Hid (Tab w ∧ OpsAt w po os ∧ (∀ o ∈ os, o.name.size < 1000000000000000)) := ⟨ht, hos, hnb⟩
  obtain ⟨N, hN⟩ : ∃ N, os.length = N := ⟨_, rfl⟩
  rw [hN] at hol
  rw [hN]
  clear ht hos hnb
  go_enter Tryd.func3, Tryd.ntmps3
  go_wp2_with fail
  refine cB.mono ?_
  rintro e w1 ⟨rfl, hb1⟩
  have cN := new_dir w1
  obtain ⟨w2, hw2⟩ : ∃ w2, w2 = w1.alloc (.cells #[.int .i64 0, .slice none 0 0] 49) := ⟨_, rfl⟩
  rw [← hw2] at cN
  have hb2 : Below w1.heap.size w1 w2 := by rw [hw2]; exact (Below.refl _ w1).alloc (Nat.le_refl _) _
  have hd2 : DirOk w2 w1.heap.size w1.heap.size [] := dir_new (Nat.le_refl _) (by rw [hw2]; exact heap_alloc_new w1 _)
  obtain ⟨a0, ha0⟩ : ∃ a0, w1.heap.size = a0 := ⟨_, rfl⟩
  rw [ha0] at hd2 cN hb2
  have H2 : Hid (w.heap.size ≤ a0 ∧ Below w.heap.size w w2 ∧ DirOk w2 a0 a0 []) := ⟨by rw [← ha0]; exact hb1.size, hb1.trans (hb2.mono (by rw [← ha0]; exact hb1.size)), hd2⟩
  clear cB hb1 hw2 hd2 hb2
  go_wp2_with fail
  refine cN.mono ?_
  rintro e w2 ⟨rfl, rfl⟩
  clear cN
  go_wp2_with fail
  obtain ⟨w3, hw3⟩ : ∃ w3, w3 = (w2.alloc (.cells #[.slice none 0 0] 26)).alloc (.cells #[.slice none 0 0] 27) := ⟨_, rfl⟩
  rw [← hw3]
  have H3 : Hid (∃ E pN cN pM cM, E.length ≤ 0 ∧ LS w w2.heap.size (w2.heap.size + 1) a0 E pN cN pM cM w3) := by
    obtain ⟨h1, h2, h3⟩ := H2.out
    have hb3 : Below w2.heap.size w2 w3 := by rw [hw3]; exact ((Below.refl _ w2).alloc (Nat.le_refl _) _).alloc (by simp) _
    have hN3 : w3.heap[w2.heap.size]? = some (.cells #[.slice none 0 0] 26 (0, 0)) := by rw [hw3]; exact (Below.heap_alloc _ _ _ (by simp)).trans (heap_alloc_new w2 _)
    have hM3 : w3.heap[w2.heap.size + 1]? = some (.cells #[.slice none 0 0] 27 (0, 0)) := by
      rw [hw3]
      have := heap_alloc_new (w2.alloc (.cells #[.slice none 0 0] 26)) (.cells #[.slice none 0 0] 27)
      rw [World.size_alloc] at this
      exact this
    have hd3 : DirE w3 w.heap.size a0 [] := DirE.mono (base := a0) ⟨[], h3.below hb3, by simp, List.Pairwise.nil⟩ h1
    refine ⟨[], none, 0, none, 0, Nat.le_refl _, hd3, hN3, ⟨rfl, Nat.le_refl _, .inl ⟨rfl, rfl, rfl⟩⟩, hM3, ⟨rfl, Nat.le_refl _, .inl ⟨rfl, rfl, rfl⟩⟩, h2.trans (hb3.mono h2.size), h2.size, by have := h2.size; omega⟩
  obtain ⟨NB, hNB⟩ : ∃ NB, w2.heap.size = NB := ⟨_, rfl⟩
  rw [hNB] at H3
  rw [hNB]
  clear hw3 H2
  go_loopw [4, 7] (fun dd ii wr => ∃ i a : Nat, ii = .int .i64 i ∧ dd = .pointer (some ⟨a, 0, none⟩) ∧ i ≤ N ∧ i ≤ 60 ∧ Hid (∃ E pN cN pM cM, E.length ≤ i ∧ LS w NB (NB + 1) a E pN cN pM cM wr)) (fun _ ii _ => 60 - (intOf ii).toNat)
  case atStart => exact ⟨0, a0, rfl, rfl, by omega, by omega, H3.out⟩
  case round =>
    obtain ⟨i, a, rfl, rfl, hiN, hi60, HI⟩ := hrel
    by_cases hlt : i < N ∧ i < 60
    · have hltI : (i : Int) < (N : Int) := by omega
      have hltJ : (i : Int) < 60 := by omega
      obtain ⟨o, ho⟩ : ∃ o, os[i]? = some o := ⟨_, List.getElem?_eq_getElem (by omega)⟩
      obtain ⟨E, pN, cN, pM, cM, hEi, hL⟩ := HI.out
      obtain ⟨b, f, rfl, k0, k1, k2⟩ := (HA.out.2.1.below hL.bel) i o ho
      have hnz := HA.out.2.2 o (List.mem_of_getElem? ho)
      obtain ⟨kd, nm, on⟩ := o
      simp only at k0 k1 k2 hnz
      obtain ⟨wa, hwa⟩ : ∃ wa, wa = wr.alloc (.cells #[.int .i64 kd, .string nm, .int .i64 on] 29) := ⟨_, rfl⟩
      have cS := short10_any nm wa hnz
      rw [hwa] at cS
      have HL : Hid (LS w NB (NB + 1) a E pN cN pM cM wr) := hL
      clear hL ho HI
      go_wp2_with fail
      refine cS.mono ?_
      rintro e w4 ⟨⟨s', rfl, hs'⟩, rfl⟩
      clear cS
      go_wp2_with fail
      obtain ⟨wb, hwb⟩ : ∃ wb, wb = wr.alloc (.cells #[.int .i64 kd, .string s', .int .i64 on] 29) := ⟨_, rfl⟩
      rw [← hwb]
      have hbb : Below wr.heap.size wr wb := by rw [hwb]; exact (Below.refl _ wr).alloc (Nat.le_refl _) _
      have hOb : wb.heap[wr.heap.size]? = some (.cells #[.int .i64 kd, .string s', .int .i64 on] 29 (0, 0)) := by rw [hwb]; exact heap_alloc_new wr _
      have hs90 : s'.size < 1000000 := by rw [Lib.size_eq, hs', List.length_take]; omega
      obtain ⟨P, hP⟩ : ∃ P, lb E s'.data.toList = P := ⟨_, rfl⟩
      have hPn : P ≤ E.length := by rw [← hP]; exact lb_le _ _
      have HB : Hid (LS w NB (NB + 1) a E pN cN pM cM wb ∧ wb.heap[wr.heap.size]? = some (.cells #[.int .i64 kd, .string s', .int .i64 on] 29 (0, 0)) ∧ lb E s'.data.toList = P ∧ w.heap.size ≤ wr.heap.size ∧ NB < wr.heap.size) := ⟨HL.out.below hbb, hOb, hP, HL.out.bel.size, block_lt HL.out.nb⟩
      obtain ⟨ob, hob⟩ : ∃ ob, wr.heap.size = ob := ⟨_, rfl⟩
      rw [hob] at HB
      rw [hob]
      obtain ⟨n, hn⟩ : ∃ n, E.length = n := ⟨_, rfl⟩
      rw [hn] at hPn hEi
      clear hwb hbb hOb HL hP hob k0 k1 k2 hs' hnz
      go_loopw [9] (fun aa W => ∃ t : Nat, aa = .int .i64 t ∧ t ≤ P ∧ Hid (Below wb.heap.size wb W)) (fun aa _ => P - (intOf aa).toNat)
      case atStart => exact ⟨0, rfl, by omega, Below.refl _ _⟩
      case round =>
        obtain ⟨t, rfl, htP, HW⟩ := hrel
        have hLr := HB.out.1.below HW.out
        have dN : wr.cell? ⟨NB, 0, none⟩ = some (.slice pN n cN) := by rw [← hn]; exact cellOf hLr.nb 0
        have dO : wr.cell? ⟨ob, 1, none⟩ = some (.string s') := cellOf ((HW.out.block ob (block_lt HB.out.2.1)).trans HB.out.2.1) 1
        by_cases htp : t < P
        · obtain ⟨x, hx⟩ : ∃ x, E[t]? = some x := ⟨_, List.getElem?_eq_getElem (by omega)⟩
          obtain ⟨gN, hpN, cX, _⟩ := hLr.rn.cell (nmV_at hx)
          have hless : Op.bytesLess (bas x.name).toList s'.toList = true := by rw [bas_toList, Lib.toList_data]; exact lb_lt (by rw [HB.out.2.2.1]; exact htp) hx
          have htn : t < n := by omega
          clear hLr hx
          go_wp2_with fail
          refine all_reg13 (by kernel_rfl) NB ob n cN t pN s' true wr rfl rfl rfl rfl dN dO (.inr ⟨htn, gN, bas x.name, hpN, cX, hless⟩) ?_
          intro u49 u50 u51 u52 u53 u54 u55 u56 u57 W hbW
          simp only [putAll, List.setIfInBounds_toArray, List.set_cons_zero, List.set_cons_succ]
          have HW2 : Hid (Below wb.heap.size wb W) := HW.out.trans (hbW.mono HW.out.size)
          clear hbW dN dO cX hless
          go_wp2_with fail
          exact ⟨⟨t + 1, by go_num, by omega, HW2⟩, by simp [intOf]; omega⟩
        · have htE : t = P := by omega
          subst htE
          have hcase13 : Hid ((t = n ∧ false = false) ∨ (t < n ∧ ∃ gN sx, pN = some ⟨gN, 0, none⟩ ∧ wr.cell? ⟨gN, t, none⟩ = some (.string sx) ∧ Op.bytesLess sx.toList s'.toList = false)) := by
            rcases Nat.lt_or_ge t n with h | h
            · obtain ⟨x, hx⟩ : ∃ x, E[t]? = some x := ⟨_, List.getElem?_eq_getElem (by omega)⟩
              obtain ⟨gN, hpN, cX, _⟩ := hLr.rn.cell (nmV_at hx)
              exact .inr ⟨h, gN, bas x.name, hpN, cX, by rw [bas_toList, Lib.toList_data]; exact lb_at (by rw [HB.out.2.2.1]; exact hx)⟩
            · exact .inl ⟨by omega, rfl⟩
          obtain ⟨th, hth⟩ : ∃ th, hasB E s'.data.toList = th := ⟨_, rfl⟩
          have hcase15 : Hid (∀ W, Below wr.heap.size wr W → (t = n ∧ th = false) ∨ (t < n ∧ ∃ gN sx, pN = some ⟨gN, 0, none⟩ ∧ W.cell? ⟨gN, t, none⟩ = some (.string sx) ∧ (sx.toList == s'.toList) = th)) := fun W hb => by
            have hLW := hLr.below hb
            rcases Nat.lt_or_ge t n with h | h
            · obtain ⟨x, hx⟩ : ∃ x, E[t]? = some x := ⟨_, List.getElem?_eq_getElem (by omega)⟩
              obtain ⟨gN, hpN, cX, _⟩ := hLW.rn.cell (nmV_at hx)
              refine .inr ⟨h, gN, bas x.name, hpN, cX, ?_⟩
              rw [← hth, bas_toList, Lib.toList_data]
              unfold hasB
              rw [HB.out.2.2.1, hx]
            · refine .inl ⟨by omega, ?_⟩
              rw [← hth]
              unfold hasB
              rw [HB.out.2.2.1, List.getElem?_eq_none (by omega)]
          have HT : Hid (hasB E s'.data.toList = th) := hth
          clear hLr hth
          go_wp2_with fail
          refine all_reg13 (by kernel_rfl) NB ob n cN t pN s' false wr rfl rfl rfl rfl dN dO (by rcases hcase13.out with ⟨h, _⟩ | h; exact .inl ⟨h, rfl⟩; exact .inr h) ?_
          intro u49 u50 u51 u52 u53 u54 u55 u56 u57 W hbW
          simp only [putAll, List.setIfInBounds_toArray, List.set_cons_zero, List.set_cons_succ]
          have dN' := (hbW.cell (p := ⟨NB, 0, none⟩) (cell_lt dN)).trans dN
          have dO' := (hbW.cell (p := ⟨ob, 1, none⟩) (cell_lt dO)).trans dO
          have HW2 : Hid (Below wb.heap.size wb W) := HW.out.trans (hbW.mono HW.out.size)
          have hc15 := hcase15.out W hbW
          clear hbW dN dO hcase13 hcase15 HW
          go_wp2_with fail
          refine all_reg15 (by kernel_rfl) NB ob n cN t pN s' th W rfl rfl rfl rfl dN' dO' hc15 ?_
          intro u64 u65 u66 u67 u68 u69 u70 u71 u72 V hbV
          simp only [putAll, List.setIfInBounds_toArray, List.set_cons_zero, List.set_cons_succ]
          have HV : Hid (Below wb.heap.size wb V) := HW2.out.trans (hbV.mono HW2.out.size)
          clear hbV dN' dO' hc15 HW2
          have hOV := (HV.out.block ob (block_lt HB.out.2.1)).trans HB.out.2.1
          have d0 : V.cell? ⟨ob, 0, none⟩ = some (.int .i64 kd) := cellOf hOV 0
          have d1 : V.cell? ⟨ob, 1, none⟩ = some (.string s') := cellOf hOV 1
          have d2 : V.cell? ⟨ob, 2, none⟩ = some (.int .i64 on) := cellOf hOV 2
          have cLo := local_any s' V (by omega)
          obtain ⟨F, hF⟩ : ∃ F, fineN s'.data.toList = F := ⟨_, rfl⟩
          rw [hF] at cLo
          have HF : Hid (fineN s'.data.toList = F) := hF
          clear hF
          have HS : Hid (LS w NB (NB + 1) a E pN cN pM cM V ∧ V.heap[ob]? = some (.cells #[.int .i64 kd, .string s', .int .i64 on] 29 (0, 0)) ∧ Tab V ∧ 1 < w.heap.size) := ⟨HB.out.1.below HV.out, hOV, below_tab (HB.out.1.below HV.out).bel HA.out.1.lt HA.out.1, HA.out.1.lt⟩
          clear hOV
          have hkd : kd = 0 ∨ kd = 1 ∨ kd = 2 ∨ (¬ kd = 0 ∧ ¬ kd = 1 ∧ ¬ kd = 2) := by omega
          rcases hkd with rfl | rfl | rfl | ⟨hk0, hk1, hk2⟩
          ·
            have cP := put_E w.heap.size a E s' on V HS.out.2.2.1 HS.out.2.2.2 HS.out.1.dir hs90 (by omega)
            have HO : Hid (∀ w', Fr w.heap.size V w' → w'.cell? ⟨ob, 1, none⟩ = some (.string s') ∧ w'.cell? ⟨ob, 2, none⟩ = some (.int .i64 on)) := fun w' hf => by
              have := (hf.block ob (block_lt HS.out.2.1) (fun hk => not_DT HS.out.2.1 (by decide) (by decide) (by decide) hk.2)).trans HS.out.2.1
              exact ⟨cellOf this 1, cellOf this 2⟩
            rw [HF.out] at cP
            by_cases hF0 : F = 0
            · subst hF0
              by_cases hrg : 1 ≤ on ∧ on ≤ 2147483647
              · obtain ⟨k, rfl⟩ : ∃ k : Nat, on = (k : Nat) := ⟨on.toNat, by omega⟩
                have hk1 : ¬ (k : Int) < 1 := by omega
                have hk2 : ¬ (2147483647 : Int) < (k : Int) := by omega
                have HK : Hid (1 ≤ (k : Int) ∧ (k : Int) ≤ 2147483647) := hrg
                clear hrg
                cases th with
                | true =>
                  as_aux_lemma =>
                    obtain ⟨gM, HG⟩ : ∃ gM, Hid (pM = some ⟨gM, 0, none⟩ ∧ t < n ∧ ∃ y, E[t]? = some y ∧ y.name = s'.data.toList) := by
                      obtain ⟨y, hy, hyn⟩ := hasB_true HT.out
                      rw [HB.out.2.2.1] at hy
                      obtain ⟨gM, hpM, _⟩ := HS.out.1.rm.cell (nuV_at hy)
                      exact ⟨gM, hpM, by rw [← hn]; exact (List.getElem?_eq_some_iff.1 hy).1, y, hy, hyn⟩
                    have hpM := HG.out.1
                    subst hpM
                    have htn : t < n := HG.out.2.1
                    have htI : (t : Int) < (n : Int) := by omega
                    have cP' : Calls Tryd.prog 10 #[.pointer (some ⟨a, 0, none⟩), .string s', .int .i64 (k : Nat)] V fun e w' => e = .returned (.int .i64 0) ∧ w'.cell? ⟨ob, 2, none⟩ = some (.int .i64 (k : Nat)) ∧ w'.cell? ⟨NB + 1, 0, none⟩ = some (.slice (some ⟨gM, 0, none⟩) n cM) ∧ (∃ v, w'.cell? ⟨gM, t, none⟩ = some v) ∧ w'.frozen? ⟨gM, t, none⟩ = false ∧ Hid (LS w NB (NB + 1) a (E.set t ⟨s'.data.toList, k⟩) pN cN (some ⟨gM, 0, none⟩) cM (w'.setCell ⟨gM, t, none⟩ (.int .i64 (k : Nat))) ∧ (w'.setCell ⟨gM, t, none⟩ (.int .i64 (k : Nat))).cell? ⟨ob, 1, none⟩ = some (.string s')) := by
                      obtain ⟨_, _, y, hy, hyn⟩ := HG.out
                      have hput : putE E ⟨s'.data.toList, k⟩ = E.set t ⟨s'.data.toList, k⟩ := by unfold putE; rw [if_pos HT.out, HB.out.2.2.1]
                      refine cP.mono ?_
                      rintro e w' ⟨hf, ⟨h, _⟩ | ⟨_, h, _⟩ | ⟨_, _, rfl, hd⟩⟩
                      · exact absurd rfl h
                      · exact absurd HK.out h
                      · rw [Int.toNat_natCast, hput] at hd
                        have hLT := HS.out.1.gone hf hd
                        obtain ⟨g2, e2, hc2, _, cs2, hg2⟩ := hLT.rm.cell (nuV_at hy)
                        cases e2
                        have hLT2 := hLT.num (j := t) (g := gM) (by omega) rfl (nu_put E t k s'.data.toList)
                        have hl5 : (E.set t ⟨s'.data.toList, k⟩).length = E.length := by rw [List.length_set]
                        refine ⟨rfl, (HO.out w' hf).2, by rw [← hn]; exact cellOf hLT.mb 0, ⟨_, hc2⟩, frozenOf hg2 t, ⟨hLT2.dir, ?_, ?_, hLT2.mb, hLT2.rm, hLT2.bel, hLT2.loN, hLT2.loM⟩, ?_⟩
                        · rw [hl5]; exact hLT2.nb
                        · have := hLT2.rn; rw [nm_put (k := k) hy hyn] at this; rw [hl5]; exact this
                        · have hobw : w'.heap[ob]? = some (.cells #[.int .i64 0, .string s', .int .i64 (k : Nat)] 29 (0, 0)) := (hf.block ob (block_lt HS.out.2.1) (fun hk => not_DT HS.out.2.1 (by decide) (by decide) (by decide) hk.2)).trans HS.out.2.1
                          refine Only.cell (Only.setCell (S := (· = gM)) w' ⟨gM, t, none⟩ _ rfl) (HO.out w' hf).1 (fun e => ?_)
                          rw [e, hg2] at hobw
                          injection hobw with hobw
                          injection hobw with _ h2 _
                          exact absurd h2 (by decide)
                    clear cP HO
                    go_wp2_with (first | (go_at_call 9; refine Calls_on cLo ?_; clear cLo) | (go_at_call 10; refine cP'.mono ?_; rintro e W5 ⟨rfl, dO2, dM5, ⟨v5, c5⟩, f5, HL4⟩; clear cP'))
                    obtain ⟨W7, hW7⟩ : ∃ W7, W7 = W5.setCell ⟨gM, t, none⟩ (.int .i64 (k : Nat)) := ⟨_, rfl⟩
                    rw [← hW7] at HL4
                    rw [← hW7]
                    have dO5 := HL4.out.2
                    have hlen5 : (E.set t ⟨s'.data.toList, k⟩).length = n := by rw [List.length_set]; exact hn
                    clear hW7 dO2 dM5 c5 f5 HG
                    have HL5 : Hid (LS w NB (NB + 1) (a) (E.set t ⟨s'.data.toList, k⟩) pN cN _ _ W7) := HL4.out.1
                    have dN5 : W7.cell? ⟨NB, 0, none⟩ = some (.slice pN n cN) := by rw [← hlen5]; exact cellOf HL5.out.nb 0
                    have cF5 : ∀ W, Calls Tryd.prog 15 #[.string s'] W fun e w' => e = .returned (.int .i64 0) ∧ w' = W := fun W => by
                      have := fine_any s' W (by omega)
                      rw [HF.out] at this
                      exact this
                    have cL5 : ∀ W, Below W7.heap.size W7 W → Calls Tryd.prog 16 #[.pointer (some ⟨a, 0, none⟩)] W fun e w' => e = .returned (.int .i64 (n : Nat)) ∧ w' = W := fun W hb => len_any (a) n W (by rw [← hlen5]; exact (hb.cell (p := ⟨a, 0, none⟩) (cell_lt HL5.out.dir.len.1)).trans HL5.out.dir.len.1)
                    refine all_reg46 (by kernel_rfl) NB ob (a) n cN pN s' 0 W7 rfl rfl rfl rfl rfl dN5 dO5 cF5 cL5 ?_
                    intro W9 hb9
                    simp only [putAll, List.setIfInBounds_toArray, List.set_cons_zero, List.set_cons_succ]
                    have H9 : Hid (∃ E pN cN pM cM, E.length ≤ i + 1 ∧ LS w NB (NB + 1) (a) E pN cN pM cM W9) := ⟨(E.set t ⟨s'.data.toList, k⟩), _, _, _, _, by omega, HL5.out.below hb9⟩
                    clear hb9 dN5 dO5 cF5 cL5 HL5
                    go_wp2_with fail
                    exact ⟨⟨i + 1, a, by go_num, rfl, by omega, by omega, H9⟩, by simp [intOf]; omega⟩
                | false =>
                  as_aux_lemma =>
                    have cP' : Calls Tryd.prog 10 #[.pointer (some ⟨a, 0, none⟩), .string s', .int .i64 (k : Nat)] V fun e w' => e = .returned (.int .i64 0) ∧ w'.cell? ⟨ob, 2, none⟩ = some (.int .i64 (k : Nat)) ∧ Hid (LT w NB (NB + 1) a (ins E ⟨s'.data.toList, k⟩) E E pN cN pM cM w' ∧ w'.heap[ob]? = some (.cells #[.int .i64 0, .string s', .int .i64 (k : Nat)] 29 (0, 0))) := by
                      have hput : putE E ⟨s'.data.toList, k⟩ = ins E ⟨s'.data.toList, k⟩ := by unfold putE; rw [if_neg (by rw [HT.out]; simp)]
                      refine cP.mono ?_
                      rintro e w' ⟨hf, ⟨h, _⟩ | ⟨_, h, _⟩ | ⟨_, _, rfl, hd⟩⟩
                      · exact absurd rfl h
                      · exact absurd HK.out h
                      · rw [Int.toNat_natCast, hput] at hd
                        exact ⟨rfl, (HO.out w' hf).2, HS.out.1.gone hf hd, (hf.block ob (block_lt HS.out.2.1) (fun hk => not_DT HS.out.2.1 (by decide) (by decide) (by decide) hk.2)).trans HS.out.2.1⟩
                    have HC : Hid (lb E s'.data.toList = t) := HB.out.2.2.1
                    clear cP HO
                    go_wp2_with (first | (go_at_call 9; refine Calls_on cLo ?_; clear cLo) | (go_at_call 10; refine cP'.mono ?_; rintro e W5 ⟨rfl, dO2, HL4⟩; clear cP'))
                    have hnb5 := HL4.out.1.nb
                    have hrn5 := HL4.out.1.rn
                    rw [hn] at hnb5 hrn5
                    have dO5 : W5.cell? ⟨ob, 1, none⟩ = some (.string s') := cellOf HL4.out.2 1
                    have hobN : ¬ ob = NB := fun e => by have := HB.out.2.2.2.2; omega
                    refine all_reg32 (by kernel_rfl) NB ob n cN t w.heap.size pN s' (nmV E) W5 rfl rfl rfl rfl hnb5 hrn5 (by omega) (by omega) HL4.out.1.bel.size dO5 hobN ?_
                    intro g6 W6 p6 c6 ho6 hn6 hr6
                    simp only [putAll, List.setIfInBounds_toArray, List.set_cons_zero, List.set_cons_succ]
                    have HL6 : Hid (LT w NB (NB + 1) a (ins E ⟨s'.data.toList, k⟩) (ins E ⟨s'.data.toList, k⟩) E p6 c6 pM cM W6 ∧ W6.heap[ob]? = some (.cells #[.int .i64 0, .string s', .int .i64 (k : Nat)] 29 (0, 0))) := by
                      refine ⟨HL4.out.1.names (E3 := ins E ⟨s'.data.toList, k⟩) ho6 ?_ ?_, (ho6.block ob (block_lt HL4.out.2) hobN).trans HL4.out.2⟩
                      · rw [ins_length, hn]; exact hn6
                      · rw [ins_length, hn, ← nm_ins (k := k) HC.out, bas_of]; exact hr6
                    clear hnb5 hrn5 dO5 ho6 hn6 hr6 HL4 dO2
                    have hmb6 := HL6.out.1.mb
                    have hrm6 := HL6.out.1.rm
                    rw [hn] at hmb6 hrm6
                    go_wp2_with fail
                    refine all_reg33 (by kernel_rfl) (NB + 1) n cM t w.heap.size pM (nuV E) W6 rfl rfl rfl hmb6 hrm6 (by omega) (by omega) HL6.out.1.bel.size ?_
                    intro g7 W7 p7 c7 ho7 hn7 hr7
                    simp only [putAll, List.setIfInBounds_toArray, List.set_cons_zero, List.set_cons_succ]
                    have HL7 : Hid (LT w NB (NB + 1) a (ins E ⟨s'.data.toList, k⟩) (ins E ⟨s'.data.toList, k⟩) (ins E ⟨s'.data.toList, 0⟩) p6 c6 p7 c7 W7 ∧ W7.heap[ob]? = some (.cells #[.int .i64 0, .string s', .int .i64 (k : Nat)] 29 (0, 0))) := by
                      refine ⟨HL6.out.1.nums (E3 := ins E ⟨s'.data.toList, 0⟩) ho7 ?_ ?_, (ho7.block ob (block_lt HL6.out.2) (fun e => ?_)).trans HL6.out.2⟩
                      · rw [ins_length, hn]; exact hn7
                      · rw [ins_length, hn, ← nu_ins HC.out]; exact hr7
                      · have h1 := HL6.out.2
                        rw [e, HL6.out.1.mb] at h1
                        injection h1 with h1
                        injection h1 with _ h2 _
                        exact absurd h2 (by decide)
                    clear hmb6 hrm6 ho7 hn7 hr7 HL6
                    obtain ⟨gM, HG⟩ : ∃ gM, Hid (p7 = some ⟨gM, 0, none⟩ ∧ (∃ v, W7.cell? ⟨gM, t, none⟩ = some v) ∧ W7.frozen? ⟨gM, t, none⟩ = false ∧ LS w NB (NB + 1) a (ins E ⟨s'.data.toList, k⟩) p6 c6 p7 c7 (W7.setCell ⟨gM, t, none⟩ (.int .i64 (k : Nat))) ∧ (W7.setCell ⟨gM, t, none⟩ (.int .i64 (k : Nat))).cell? ⟨ob, 1, none⟩ = some (.string s')) := by
                      have htl : t < (ins E ⟨s'.data.toList, 0⟩).length := by rw [ins_length]; omega
                      obtain ⟨g2, e2, hc2, _, cs2, hg2⟩ := HL7.out.1.rm.cell (nuV_at (List.getElem?_eq_getElem htl))
                      refine ⟨g2, e2, ⟨_, hc2⟩, frozenOf hg2 t, (HL7.out.1.num htl e2 (nu_set HC.out)).back, ?_⟩
                      refine Only.cell (Only.setCell (S := (· = g2)) W7 ⟨g2, t, none⟩ _ rfl) (cellOf HL7.out.2 1) (fun e => ?_)
                      have h1 := HL7.out.2
                      rw [e, hg2] at h1
                      injection h1 with h1
                      injection h1 with _ h2 _
                      exact absurd h2 (by decide)
                    have hp7 := HG.out.1
                    subst hp7
                    obtain ⟨v7, c7t⟩ := HG.out.2.1
                    have f7 := HG.out.2.2.1
                    have dM7 : W7.cell? ⟨NB + 1, 0, none⟩ = some (.slice (some ⟨gM, 0, none⟩) (n + 1) c7) := by
                      have := cellOf HL7.out.1.mb 0
                      rw [ins_length, hn] at this
                      exact this
                    have dO7 : W7.cell? ⟨ob, 2, none⟩ = some (.int .i64 (k : Nat)) := cellOf HL7.out.2 2
                    have htI : (t : Int) < ((n + 1 : Nat) : Int) := by omega
                    have htJ : (t : Int) < (n : Int) + 1 := by omega
                    have htK : t < n + 1 := by omega
                    go_wp2_with fail
                    obtain ⟨W8, hW8⟩ : ∃ W8, W8 = W7.setCell ⟨gM, t, none⟩ (.int .i64 (k : Nat)) := ⟨_, rfl⟩
                    rw [← hW8]
                    have H8 := HG.out.2.2.2
                    rw [← hW8] at H8
                    have HL8 : Hid (LS w NB (NB + 1) a (ins E ⟨s'.data.toList, k⟩) p6 c6 (some ⟨gM, 0, none⟩) c7 W8) := H8.1
                    have dO5 := H8.2
                    have hlen5 : (ins E ⟨s'.data.toList, k⟩).length = n + 1 := by rw [ins_length, hn]
                    clear hW8 H8 HG HL7 c7t f7 dM7 dO7
                    have HL5 : Hid (LS w NB (NB + 1) (a) (ins E ⟨s'.data.toList, k⟩) p6 c6 _ _ W8) := HL8.out
                    have dN5 : W8.cell? ⟨NB, 0, none⟩ = some (.slice p6 (n + 1) c6) := by rw [← hlen5]; exact cellOf HL5.out.nb 0
                    have cF5 : ∀ W, Calls Tryd.prog 15 #[.string s'] W fun e w' => e = .returned (.int .i64 0) ∧ w' = W := fun W => by
                      have := fine_any s' W (by omega)
                      rw [HF.out] at this
                      exact this
                    have cL5 : ∀ W, Below W8.heap.size W8 W → Calls Tryd.prog 16 #[.pointer (some ⟨a, 0, none⟩)] W fun e w' => e = .returned (.int .i64 ((n + 1) : Nat)) ∧ w' = W := fun W hb => len_any (a) (n + 1) W (by rw [← hlen5]; exact (hb.cell (p := ⟨a, 0, none⟩) (cell_lt HL5.out.dir.len.1)).trans HL5.out.dir.len.1)
                    refine all_reg46 (by kernel_rfl) NB ob (a) (n + 1) c6 p6 s' 0 W8 rfl rfl rfl rfl rfl dN5 dO5 cF5 cL5 ?_
                    intro W9 hb9
                    simp only [putAll, List.setIfInBounds_toArray, List.set_cons_zero, List.set_cons_succ]
                    have H9 : Hid (∃ E pN cN pM cM, E.length ≤ i + 1 ∧ LS w NB (NB + 1) (a) E pN cN pM cM W9) := ⟨(ins E ⟨s'.data.toList, k⟩), _, _, _, _, by omega, HL5.out.below hb9⟩
                    clear hb9 dN5 dO5 cF5 cL5 HL5
                    go_wp2_with fail
                    exact ⟨⟨i + 1, a, by go_num, rfl, by omega, by omega, H9⟩, by simp [intOf]; omega⟩
              ·
                as_aux_lemma =>
                  have cP' : Calls Tryd.prog 10 #[.pointer (some ⟨a, 0, none⟩), .string s', .int .i64 on] V fun e w' => e = .returned (.int .i64 22) ∧ w'.cell? ⟨ob, 2, none⟩ = some (.int .i64 on) ∧ Hid (LS w NB (NB + 1) a E pN cN pM cM w') := by
                    refine cP.mono ?_
                    rintro e w' ⟨hf, ⟨h, _⟩ | ⟨_, _, rfl, hd⟩ | ⟨_, h, _⟩⟩
                    · exact absurd rfl h
                    · exact ⟨rfl, (HO.out w' hf).2, HS.out.1.fr hf hd⟩
                    · exact absurd h hrg
                  clear cP HO
                  have hor : on < 1 ∨ (¬ on < 1 ∧ 2147483647 < on) := by omega
                  clear hrg
                  rcases hor with ho1 | ⟨ho1, ho2⟩
                  all_goals
                    go_wp2_with (first | (go_at_call 9; refine Calls_on cLo ?_; clear cLo) | (go_at_call 10; refine cP'.mono ?_; rintro e W5 ⟨rfl, dO2, HL5⟩; clear cP'))
                    have H9 : Hid (∃ E pN cN pM cM, E.length ≤ i + 1 ∧ LS w NB (NB + 1) a E pN cN pM cM W5) := ⟨E, _, _, _, _, by omega, HL5.out⟩
                    exact ⟨⟨i + 1, a, by go_num, rfl, by omega, by omega, H9⟩, by simp [intOf]; omega⟩
            ·
              as_aux_lemma =>
                have cP' : Calls Tryd.prog 10 #[.pointer (some ⟨a, 0, none⟩), .string s', .int .i64 on] V fun e w' => e = .returned (.int .i64 F) ∧ Hid (LS w NB (NB + 1) a E pN cN pM cM w') := by
                  refine cP.mono ?_
                  rintro e w' ⟨hf, ⟨_, rfl, hd⟩ | ⟨h, _⟩ | ⟨h, _⟩⟩
                  · exact ⟨rfl, HS.out.1.fr hf hd⟩
                  · exact absurd h hF0
                  · exact absurd h hF0
                clear cP HO
                go_wp2_with (first | (go_at_call 9; refine Calls_on cLo ?_; clear cLo) | (go_at_call 10; refine cP'.mono ?_; rintro e W5 ⟨rfl, HL5⟩; clear cP'))
                have H9 : Hid (∃ E pN cN pM cM, E.length ≤ i + 1 ∧ LS w NB (NB + 1) a E pN cN pM cM W5) := ⟨E, _, _, _, _, by omega, HL5.out⟩
                exact ⟨⟨i + 1, a, by go_num, rfl, by omega, by omega, H9⟩, by simp [intOf]; omega⟩
          ·
            have cD := drop_E w.heap.size a E s' V HS.out.2.2.1 HS.out.2.2.2 HS.out.1.dir hs90
            have HO : Hid (∀ w', Fr w.heap.size V w' → w'.cell? ⟨ob, 1, none⟩ = some (.string s')) := fun w' hf => by
              have := (hf.block ob (block_lt HS.out.2.1) (fun hk => not_DT HS.out.2.1 (by decide) (by decide) (by decide) hk.2)).trans HS.out.2.1
              exact cellOf this 1
            cases th with
            | false =>
              as_aux_lemma =>
                have cD' : Calls Tryd.prog 11 #[.pointer (some ⟨a, 0, none⟩), .string s'] V fun e w' => e = .returned (.int .i64 2) ∧ Hid (LS w NB (NB + 1) a E pN cN pM cM w' ∧ w'.cell? ⟨ob, 1, none⟩ = some (.string s')) := by
                  refine cD.mono ?_
                  rintro e w' ⟨hf, ⟨_, rfl, hd⟩ | ⟨h, _⟩⟩
                  · exact ⟨rfl, HS.out.1.fr hf hd, HO.out w' hf⟩
                  · rw [HT.out] at h; cases h
                clear cD HO
                go_wp2_with (first | (go_at_call 9; refine Calls_on cLo ?_; clear cLo) | (go_at_call 11; refine cD'.mono ?_; rintro e W5 ⟨rfl, H5⟩; clear cD'))
                have dO5 := H5.out.2
                have hlen5 : E.length = n := hn
                have HL5 : Hid (LS w NB (NB + 1) (a) E pN cN _ _ W5) := H5.out.1
                have dN5 : W5.cell? ⟨NB, 0, none⟩ = some (.slice pN n cN) := by rw [← hlen5]; exact cellOf HL5.out.nb 0
                have cF5 : ∀ W, Calls Tryd.prog 15 #[.string s'] W fun e w' => e = .returned (.int .i64 F) ∧ w' = W := fun W => by
                  have := fine_any s' W (by omega)
                  rw [HF.out] at this
                  exact this
                have cL5 : ∀ W, Below W5.heap.size W5 W → Calls Tryd.prog 16 #[.pointer (some ⟨a, 0, none⟩)] W fun e w' => e = .returned (.int .i64 (n : Nat)) ∧ w' = W := fun W hb => len_any (a) n W (by rw [← hlen5]; exact (hb.cell (p := ⟨a, 0, none⟩) (cell_lt HL5.out.dir.len.1)).trans HL5.out.dir.len.1)
                refine all_reg46 (by kernel_rfl) NB ob (a) n cN pN s' F W5 rfl rfl rfl rfl rfl dN5 dO5 cF5 cL5 ?_
                intro W9 hb9
                simp only [putAll, List.setIfInBounds_toArray, List.set_cons_zero, List.set_cons_succ]
                have H9 : Hid (∃ E pN cN pM cM, E.length ≤ i + 1 ∧ LS w NB (NB + 1) (a) E pN cN pM cM W9) := ⟨E, _, _, _, _, by omega, HL5.out.below hb9⟩
                clear hb9 dN5 dO5 cF5 cL5 HL5
                go_wp2_with fail
                exact ⟨⟨i + 1, a, by go_num, rfl, by omega, by omega, H9⟩, by simp [intOf]; omega⟩
            | true =>
              as_aux_lemma =>
                have htn : t < n := by
                  have := hasB_at HT.out
                  rw [HB.out.2.2.1, hn] at this
                  exact this
                have cD' : Calls Tryd.prog 11 #[.pointer (some ⟨a, 0, none⟩), .string s'] V fun e w' => e = .returned (.int .i64 0) ∧ Hid (LT w NB (NB + 1) a (E.take t ++ E.drop (t + 1)) E E pN cN pM cM w' ∧ w'.heap[ob]? = some (.cells #[.int .i64 1, .string s', .int .i64 on] 29 (0, 0))) := by
                  refine cD.mono ?_
                  rintro e w' ⟨hf, ⟨h, _⟩ | ⟨_, rfl, hd⟩⟩
                  · rw [HT.out] at h; cases h
                  · rw [HB.out.2.2.1] at hd
                    exact ⟨rfl, HS.out.1.gone hf hd, (hf.block ob (block_lt HS.out.2.1) (fun hk => not_DT HS.out.2.1 (by decide) (by decide) (by decide) hk.2)).trans HS.out.2.1⟩
                clear cD HO
                have hlen5 : (E.take t ++ E.drop (t + 1)).length = n - 1 := by rw [cut_len (by omega), hn]
                go_wp2_with (first | (go_at_call 9; refine Calls_on cLo ?_; clear cLo) | (go_at_call 11; refine cD'.mono ?_; rintro e W5 ⟨rfl, HL4⟩; clear cD'))
                have hnb5 := HL4.out.1.nb
                have hrn5 := HL4.out.1.rn
                rw [hn] at hnb5 hrn5
                refine all_reg40 (by kernel_rfl) NB n cN t w.heap.size pN (nmV E) W5 rfl rfl rfl hnb5 hrn5 htn (by omega) HL4.out.1.bel.size ?_
                intro g6 W6 p6 c6 ho6 hn6 hr6
                simp only [putAll, List.setIfInBounds_toArray, List.set_cons_zero, List.set_cons_succ]
                have HL6 : Hid (LT w NB (NB + 1) a (E.take t ++ E.drop (t + 1)) (E.take t ++ E.drop (t + 1)) E p6 c6 pM cM W6 ∧ W6.heap[ob]? = some (.cells #[.int .i64 1, .string s', .int .i64 on] 29 (0, 0))) := by
                  refine ⟨HL4.out.1.names (E3 := E.take t ++ E.drop (t + 1)) ho6 ?_ ?_, (ho6.block ob (block_lt HL4.out.2) (fun e => by have := HB.out.2.2.2.2; omega)).trans HL4.out.2⟩
                  · rw [hlen5]; exact hn6
                  · rw [hlen5, ← nm_cut]; exact hr6
                clear hnb5 hrn5 ho6 hn6 hr6 HL4
                have hmb6 := HL6.out.1.mb
                have hrm6 := HL6.out.1.rm
                rw [hn] at hmb6 hrm6
                go_wp2_with fail
                refine all_reg41 (by kernel_rfl) (NB + 1) n cM t w.heap.size pM (nuV E) W6 rfl rfl rfl hmb6 hrm6 htn (by omega) HL6.out.1.bel.size ?_
                intro g7 W7 p7 c7 ho7 hn7 hr7
                simp only [putAll, List.setIfInBounds_toArray, List.set_cons_zero, List.set_cons_succ]
                have HL7 : Hid (LT w NB (NB + 1) a (E.take t ++ E.drop (t + 1)) (E.take t ++ E.drop (t + 1)) (E.take t ++ E.drop (t + 1)) p6 c6 p7 c7 W7 ∧ W7.heap[ob]? = some (.cells #[.int .i64 1, .string s', .int .i64 on] 29 (0, 0))) := by
                  refine ⟨HL6.out.1.nums (E3 := E.take t ++ E.drop (t + 1)) ho7 ?_ ?_, (ho7.block ob (block_lt HL6.out.2) (fun e => ?_)).trans HL6.out.2⟩
                  · rw [hlen5]; exact hn7
                  · rw [hlen5, ← nu_cut]; exact hr7
                  · have h1 := HL6.out.2
                    rw [e, HL6.out.1.mb] at h1
                    injection h1 with h1
                    injection h1 with _ h2 _
                    exact absurd h2 (by decide)
                clear hmb6 hrm6 ho7 hn7 hr7 HL6
                have dO5 : W7.cell? ⟨ob, 1, none⟩ = some (.string s') := cellOf HL7.out.2 1
                go_wp2_with fail
                have HL5 : Hid (LS w NB (NB + 1) (a) (E.take t ++ E.drop (t + 1)) p6 c6 _ _ W7) := HL7.out.1.back
                have dN5 : W7.cell? ⟨NB, 0, none⟩ = some (.slice p6 (n - 1) c6) := by rw [← hlen5]; exact cellOf HL5.out.nb 0
                have cF5 : ∀ W, Calls Tryd.prog 15 #[.string s'] W fun e w' => e = .returned (.int .i64 F) ∧ w' = W := fun W => by
                  have := fine_any s' W (by omega)
                  rw [HF.out] at this
                  exact this
                have cL5 : ∀ W, Below W7.heap.size W7 W → Calls Tryd.prog 16 #[.pointer (some ⟨a, 0, none⟩)] W fun e w' => e = .returned (.int .i64 ((n - 1) : Nat)) ∧ w' = W := fun W hb => len_any (a) (n - 1) W (by rw [← hlen5]; exact (hb.cell (p := ⟨a, 0, none⟩) (cell_lt HL5.out.dir.len.1)).trans HL5.out.dir.len.1)
                refine all_reg46 (by kernel_rfl) NB ob (a) (n - 1) c6 p6 s' F W7 rfl rfl rfl rfl rfl dN5 dO5 cF5 cL5 ?_
                intro W9 hb9
                simp only [putAll, List.setIfInBounds_toArray, List.set_cons_zero, List.set_cons_succ]
                have H9 : Hid (∃ E pN cN pM cM, E.length ≤ i + 1 ∧ LS w NB (NB + 1) (a) E pN cN pM cM W9) := ⟨(E.take t ++ E.drop (t + 1)), _, _, _, _, by omega, HL5.out.below hb9⟩
                clear hb9 dN5 dO5 cF5 cL5 HL5
                go_wp2_with fail
                exact ⟨⟨i + 1, a, by go_num, rfl, by omega, by omega, H9⟩, by simp [intOf]; omega⟩
          ·
            have cG := get_E w.heap.size a E s' V HS.out.2.2.1 HS.out.2.2.2 HS.out.1.dir hs90
            have hlen5 : E.length = n := hn
            cases th with
            | false =>
              as_aux_lemma =>
                have cG' : Calls Tryd.prog 12 #[.pointer (some ⟨a, 0, none⟩), .string s'] V fun e w' => e = .returned (.tuple #[.int .i64 0, .bool false]) ∧ Hid (Below V.heap.size V w') := by
                  refine cG.mono ?_
                  rintro e w' ⟨hb, ⟨_, rfl⟩ | ⟨x, _, h, _⟩⟩
                  · exact ⟨rfl, hb⟩
                  · rw [HT.out] at h; cases h
                clear cG
                go_wp2_with (first | (go_at_call 9; refine Calls_on cLo ?_; clear cLo) | (go_at_call 12; refine cG'.mono ?_; rintro e W5 ⟨rfl, H5⟩; clear cG'))
                have dO5 : W5.cell? ⟨ob, 1, none⟩ = some (.string s') := (H5.out.cell (p := ⟨ob, 1, none⟩) (cell_lt d1)).trans d1
                have HL5 : Hid (LS w NB (NB + 1) (a) E pN cN _ _ W5) := HS.out.1.below H5.out
                have dN5 : W5.cell? ⟨NB, 0, none⟩ = some (.slice pN n cN) := by rw [← hlen5]; exact cellOf HL5.out.nb 0
                have cF5 : ∀ W, Calls Tryd.prog 15 #[.string s'] W fun e w' => e = .returned (.int .i64 F) ∧ w' = W := fun W => by
                  have := fine_any s' W (by omega)
                  rw [HF.out] at this
                  exact this
                have cL5 : ∀ W, Below W5.heap.size W5 W → Calls Tryd.prog 16 #[.pointer (some ⟨a, 0, none⟩)] W fun e w' => e = .returned (.int .i64 (n : Nat)) ∧ w' = W := fun W hb => len_any (a) n W (by rw [← hlen5]; exact (hb.cell (p := ⟨a, 0, none⟩) (cell_lt HL5.out.dir.len.1)).trans HL5.out.dir.len.1)
                refine all_reg46 (by kernel_rfl) NB ob (a) n cN pN s' F W5 rfl rfl rfl rfl rfl dN5 dO5 cF5 cL5 ?_
                intro W9 hb9
                simp only [putAll, List.setIfInBounds_toArray, List.set_cons_zero, List.set_cons_succ]
                have H9 : Hid (∃ E pN cN pM cM, E.length ≤ i + 1 ∧ LS w NB (NB + 1) (a) E pN cN pM cM W9) := ⟨E, _, _, _, _, by omega, HL5.out.below hb9⟩
                clear hb9 dN5 dO5 cF5 cL5 HL5
                go_wp2_with fail
                exact ⟨⟨i + 1, a, by go_num, rfl, by omega, by omega, H9⟩, by simp [intOf]; omega⟩
            | true =>
              as_aux_lemma =>
                obtain ⟨gM, x, HG⟩ : ∃ gM x, Hid (pM = some ⟨gM, 0, none⟩ ∧ t < n ∧ E[t]? = some x) := by
                  obtain ⟨y, hy, hyn⟩ := hasB_true HT.out
                  rw [HB.out.2.2.1] at hy
                  obtain ⟨gM, hpM, _⟩ := HS.out.1.rm.cell (nuV_at hy)
                  exact ⟨gM, y, hpM, by rw [← hn]; exact (List.getElem?_eq_some_iff.1 hy).1, hy⟩
                have hpM := HG.out.1
                subst hpM
                have htn : t < n := HG.out.2.1
                have htI : (t : Int) < (n : Int) := by omega
                obtain ⟨q, hq⟩ : ∃ q, x.num = q := ⟨_, rfl⟩
                have cG' : Calls Tryd.prog 12 #[.pointer (some ⟨a, 0, none⟩), .string s'] V fun e w' => e = .returned (.tuple #[.int .i64 (q : Nat), .bool true]) ∧ Hid (Below V.heap.size V w') ∧ w'.cell? ⟨NB + 1, 0, none⟩ = some (.slice (some ⟨gM, 0, none⟩) n cM) ∧ w'.cell? ⟨gM, t, none⟩ = some (.int .i64 (q : Nat)) := by
                  refine cG.mono ?_
                  rintro e w' ⟨hb, ⟨h, _⟩ | ⟨y, hy, h, rfl⟩⟩
                  · rw [HT.out] at h; cases h
                  · rw [HB.out.2.2.1, HG.out.2.2] at hy
                    cases hy
                    have hL' := HS.out.1.below hb
                    obtain ⟨g2, e2, hc2, _⟩ := hL'.rm.cell (nuV_at HG.out.2.2)
                    cases e2
                    rw [hq] at hc2
                    exact ⟨by rw [hq], hb, by rw [← hn]; exact cellOf hL'.mb 0, hc2⟩
                clear cG hq
                go_wp2_with (first | (go_at_call 9; refine Calls_on cLo ?_; clear cLo) | (go_at_call 12; refine cG'.mono ?_; rintro e W5 ⟨rfl, H5, dM5, dX5⟩; clear cG'))
                have dO5 : W5.cell? ⟨ob, 1, none⟩ = some (.string s') := (H5.out.cell (p := ⟨ob, 1, none⟩) (cell_lt d1)).trans d1
                clear dM5 dX5 HG
                have HL5 : Hid (LS w NB (NB + 1) (a) E pN cN _ _ W5) := HS.out.1.below H5.out
                have dN5 : W5.cell? ⟨NB, 0, none⟩ = some (.slice pN n cN) := by rw [← hlen5]; exact cellOf HL5.out.nb 0
                have cF5 : ∀ W, Calls Tryd.prog 15 #[.string s'] W fun e w' => e = .returned (.int .i64 F) ∧ w' = W := fun W => by
                  have := fine_any s' W (by omega)
                  rw [HF.out] at this
                  exact this
                have cL5 : ∀ W, Below W5.heap.size W5 W → Calls Tryd.prog 16 #[.pointer (some ⟨a, 0, none⟩)] W fun e w' => e = .returned (.int .i64 (n : Nat)) ∧ w' = W := fun W hb => len_any (a) n W (by rw [← hlen5]; exact (hb.cell (p := ⟨a, 0, none⟩) (cell_lt HL5.out.dir.len.1)).trans HL5.out.dir.len.1)
                refine all_reg46 (by kernel_rfl) NB ob (a) n cN pN s' F W5 rfl rfl rfl rfl rfl dN5 dO5 cF5 cL5 ?_
                intro W9 hb9
                simp only [putAll, List.setIfInBounds_toArray, List.set_cons_zero, List.set_cons_succ]
                have H9 : Hid (∃ E pN cN pM cM, E.length ≤ i + 1 ∧ LS w NB (NB + 1) (a) E pN cN pM cM W9) := ⟨E, _, _, _, _, by omega, HL5.out.below hb9⟩
                clear hb9 dN5 dO5 cF5 cL5 HL5
                go_wp2_with fail
                exact ⟨⟨i + 1, a, by go_num, rfl, by omega, by omega, H9⟩, by simp [intOf]; omega⟩
          ·
            as_aux_lemma =>
              obtain ⟨m, hm4, cBy⟩ := back_E w.heap.size a E V HS.out.2.2.1 HS.out.1.dir
              obtain ⟨L, hL⟩ : ∃ L, m * 512 = L := ⟨_, rfl⟩
              rw [hL] at cBy
              rw [hn] at hm4
              have hL1 : (L : Int) % 512 = 0 := by omega
              have hL2 : (L : Int) / 512 = (m : Int) := by omega
              have hL3 : ¬ ((n : Int) + 3) / 4 + 1 < (m : Int) := by omega
              have hL4 : ¬ ((n : Int) + 3) / 4 + 1 < (L : Int) / 512 := by omega
              have hlen5 : E.length = n := hn
              clear hL
              have dNV : V.cell? ⟨NB, 0, none⟩ = some (.slice pN n cN) := by rw [← hn]; exact cellOf HS.out.1.nb 0
              go_wp2_with (first | (go_at_call 9; refine Calls_on cLo ?_; clear cLo) | (go_at_call 13; refine cBy.mono ?_; rintro e W4 ⟨rfl, hb4, cLd⟩; clear cBy) | (go_at_call 14; refine cLd.mono ?_; rintro e W5 ⟨rfl, hb5, hd5⟩; clear cLd; have H5 : Hid (Below V.heap.size V W5 ∧ DirE W5 W4.heap.size (W4.heap.size + 2) E ∧ w.heap.size ≤ W4.heap.size) := ⟨hb4.trans (hb5.mono hb4.size), hd5, Nat.le_trans HS.out.1.bel.size hb4.size⟩; have dN6 : W5.cell? ⟨NB, 0, none⟩ = some (.slice pN n cN) := (H5.out.1.cell (p := ⟨NB, 0, none⟩) (cell_lt dNV)).trans dNV; clear hb4 hb5 hd5))
              have dO5 : W5.cell? ⟨ob, 1, none⟩ = some (.string s') := (H5.out.1.cell (p := ⟨ob, 1, none⟩) (cell_lt d1)).trans d1
              have HL5 : Hid (LS w NB (NB + 1) (W4.heap.size + 2) E pN cN _ _ W5) := HS.out.1.fr (Fr.below H5.out.1) (H5.out.2.1.mono H5.out.2.2)
              have dN5 : W5.cell? ⟨NB, 0, none⟩ = some (.slice pN n cN) := by rw [← hlen5]; exact cellOf HL5.out.nb 0
              have cF5 : ∀ W, Calls Tryd.prog 15 #[.string s'] W fun e w' => e = .returned (.int .i64 F) ∧ w' = W := fun W => by
                have := fine_any s' W (by omega)
                rw [HF.out] at this
                exact this
              have cL5 : ∀ W, Below W5.heap.size W5 W → Calls Tryd.prog 16 #[.pointer (some ⟨W4.heap.size + 2, 0, none⟩)] W fun e w' => e = .returned (.int .i64 (n : Nat)) ∧ w' = W := fun W hb => len_any (W4.heap.size + 2) n W (by rw [← hlen5]; exact (hb.cell (p := ⟨W4.heap.size + 2, 0, none⟩) (cell_lt HL5.out.dir.len.1)).trans HL5.out.dir.len.1)
              refine all_reg46 (by kernel_rfl) NB ob (W4.heap.size + 2) n cN pN s' F W5 rfl rfl rfl rfl rfl dN5 dO5 cF5 cL5 ?_
              intro W9 hb9
              simp only [putAll, List.setIfInBounds_toArray, List.set_cons_zero, List.set_cons_succ]
              have H9 : Hid (∃ E pN cN pM cM, E.length ≤ i + 1 ∧ LS w NB (NB + 1) (W4.heap.size + 2) E pN cN pM cM W9) := ⟨E, _, _, _, _, by omega, HL5.out.below hb9⟩
              clear hb9 dN5 dO5 cF5 cL5 HL5
              go_wp2_with fail
              exact ⟨⟨i + 1, W4.heap.size + 2, by go_num, rfl, by omega, by omega, H9⟩, by simp [intOf]; omega⟩
    ·
      as_aux_lemma =>
        obtain ⟨E, pN, cN, pM, cM, hEi, hL⟩ := HI.out
        have cI := list_E w.heap.size a E wr hL.dir
        have hcase : (¬ (i : Int) < (N : Int)) ∨ ((i : Int) < (N : Int) ∧ ¬ (i : Int) < 60) := by omega
        have HL : Hid (LS w NB (NB + 1) a E pN cN pM cM wr) := hL
        have hn60 : E.length ≤ 60 := by omega
        obtain ⟨n, hn⟩ : ∃ n, E.length = n := ⟨_, rfl⟩
        rw [hn] at hn60
        clear hL HI hlt hEi
        rcases hcase with g1 | ⟨g1, g2⟩
        all_goals
          go_wp2_with (go_at_call 17; refine cI.mono ?_; rintro e w8 ⟨⟨v8, kb, rfl, hv8⟩, hb8⟩; obtain ⟨p8, c8, rfl, hst8⟩ := hv8.strs2; have hnm : (namesOf E).length = n := (by rw [← hn]; simp [namesOf]); rw [hnm]; have H8 : Hid (LS w NB (NB + 1) a E pN cN pM cM w8 ∧ ∀ (j : Nat) s, (namesOf E)[j]? = some s → ∃ b o, p8 = some ⟨b, o, none⟩ ∧ w8.cell? ⟨b, o + j, none⟩ = some (.string s)) := ⟨HL.out.below hb8, hst8⟩; have dN8 : w8.cell? ⟨NB, 0, none⟩ = some (.slice pN n cN) := (by rw [← hn]; exact cellOf H8.out.1.nb 0); have hNl : NB < w8.heap.size := block_lt H8.out.1.nb; clear cI hv8 hst8 hnm hb8)
          obtain ⟨w9, hw9⟩ : ∃ w9, w9 = (w8.alloc (.cells #[.int .i64 0] 3)).alloc (.cells #[.bool true] 4) := ⟨_, rfl⟩
          have cE := each_law w w8 NB a E pN cN pM cM H8.out.1 (by omega) w9 hw9
          rw [hn] at cE
          rw [hw9] at cE
          refine cE.mono ?_
          rintro e W10 ⟨rfl, cf, ck, hb10⟩
          have H10 : Hid (Below w8.heap.size w8 W10) := hb10
          clear cE hw9 hb10
          go_wp2_with fail
          go_loopw [23] (fun ii W => ∃ j : Nat, ii = .int .i64 j ∧ j ≤ n ∧ Hid (Below W10.heap.size W10 W)) (fun ii _ => n - (intOf ii).toNat)
          case atStart => exact ⟨0, rfl, by omega, Below.refl _ _⟩
          case round =>
            obtain ⟨j, rfl, hjn, HJ⟩ := hrel
            have hbj : Below w8.heap.size w8 wr := H10.out.trans (HJ.out.mono H10.out.size)
            have dNj : wr.cell? ⟨NB, 0, none⟩ = some (.slice pN n cN) := (hbj.cell (p := ⟨NB, 0, none⟩) (cell_lt dN8)).trans dN8
            by_cases hj : j < n
            · have hjI : (j : Int) < (n : Int) := by omega
              obtain ⟨x, hx⟩ : ∃ x, E[j]? = some x := ⟨_, List.getElem?_eq_getElem (by omega)⟩
              obtain ⟨gL, oL, rfl, cX8⟩ := H8.out.2 j (bas x.name) (by simp [namesOf, hx])
              obtain ⟨gN, hpN, cY8, _⟩ := H8.out.1.rn.cell (nmV_at hx)
              have dL := (hbj.cell (p := ⟨gL, oL + j, none⟩) (cell_lt cX8)).trans cX8
              have dX := (hbj.cell (p := ⟨gN, j, none⟩) (cell_lt cY8)).trans cY8
              clear hx cX8 cY8
              go_wp2_with fail
              refine all_reg57 (by kernel_rfl) NB n cN c8 gL oL gN j pN (bas x.name) wr rfl rfl rfl rfl dNj hj dL hpN dX ?_
              intro W hbW
              simp only [putAll, List.setIfInBounds_toArray, List.set_cons_zero, List.set_cons_succ]
              have HW : Hid (Below W10.heap.size W10 W) := HJ.out.trans (hbW.mono HJ.out.size)
              clear hbW dNj dL dX hbj hpN
              go_wp2_with fail
              exact ⟨⟨j + 1, by go_num, by omega, HW⟩, by simp [intOf]; omega⟩
            · have hjE : j = n := by omega
              subst hjE
              have hge : ¬ (j : Int) < (j : Int) := by omega
              have cf' := (HJ.out.cell (p := ⟨w8.heap.size + 1, 0, none⟩) (cell_lt cf)).trans cf
              have ck' := (HJ.out.cell (p := ⟨w8.heap.size, 0, none⟩) (cell_lt ck)).trans ck
              have cZ := each_zero a wr
              have HF : Hid (Below w.heap.size w wr) := H8.out.1.bel.trans (hbj.mono H8.out.1.bel.size)
              clear hbj
              go_wp2_with (go_at_call 18; refine Calls_on cZ ?_; clear cZ)
              go_ret
              exact ⟨rfl, HF.out⟩

end Go.Proofs.YtdocablbkafkiaaDoor.Cd
