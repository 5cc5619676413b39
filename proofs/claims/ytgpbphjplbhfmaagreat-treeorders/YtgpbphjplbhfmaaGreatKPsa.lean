import Derived.Test.YtgpbphjplbhfmaaGreatKQa
import Derived.Test.YtgpbphjplbhfmaaGreatQOd
import Derived.Test.YtgpbphjplbhfmaaGreatQOmx

namespace Go.Proofs.YtgpbphjplbhfmaaGreat.Ck.Y.S
open Go.RowKit Go.Maps Go.Lib
theorem cell_keptH {w w' : World} {b k : Nat} {v : Value} (h : w.cell? ⟨b, k, none⟩ = some v) (hb : Below w.heap.size w w') : w'.cell? ⟨b, k, none⟩ = some v := (hb.cell (p := ⟨b, k, none⟩) (cell_lt h)).trans h
theorem below_thenH {a b c : World} (h : Below a.heap.size a b) (k : Below b.heap.size b c) : Below a.heap.size a c := h.trans (k.mono h.size)
theorem below_drewH (w : World) : Below w.heap.size w w.drew := ⟨rfl, rfl, rfl, Nat.le_refl _, fun _ _ => rfl⟩
structure Stp (p : Prop) : Prop where
  out : p
def mayW (o : OG) (ns : List Int) : Bool := Cd.mayO o.t o.n o.sq o.kd o.ot o.on o.pt o.pn o.nm.data.toList o.dl ns
structure WIn (w : World) (o : OG) (ns : List Int) (bs : List (BitVec 8)) : Prop where
  seen : Cd.Lies w o.sp (ns.map Cd.iv)
  sl : ns.length = o.sl
  sc : ns.length ≤ o.sc
  le : ns.length ≤ 1000000
  data : Cd.Bytes w o.dp bs
  dl : bs.length = o.dl
  dc : bs.length ≤ o.dc
  bl : bs.length ≤ 1000000
  nm : o.nm.size ≤ 1000000
theorem WIn.below {w w' : World} {o : OG} {ns : List Int} {bs : List (BitVec 8)} (h : WIn w o ns bs) (hb : Below w.heap.size w w') : WIn w' o ns bs := ⟨Cd.below_lies hb h.seen, h.sl, h.sc, h.le, Cd.below_bytes hb h.data, h.dl, h.dc, h.bl, h.nm⟩
theorem may_call {w : World} {o : OG} {ns : List Int} {bs : List (BitVec 8)} (h : WIn w o ns bs) : Calls Tryz.prog 22 #[opgv o] w fun e w' => e = .returned (.bool (mayW o ns)) ∧ Below w.heap.size w w' := by
  have := Cd.omay_any o.t o.n o.sq o.kd o.ot o.on o.pt o.pn o.nm.data.toList o.dp o.sp o.dl o.dc o.sl o.sc ns w (by rw [← Lib.size_eq]; have := h.nm; omega) (by have := h.dl; have := h.bl; omega) h.sl h.le h.sc h.seen
  rw [Cd.bas_of] at this
  exact this
theorem RowG.caps {w : World} {base : Nat} {v : Value} {l : List OG} (h : RowG w base v l) : ∃ p c, v = .slice p l.length c ∧ ∀ (i : Nat) (x : OG), l[i]? = some x → ∃ g, p = some ⟨g, 0, none⟩ ∧
    w.cell? ⟨g, i * 11, none⟩ = some (.int .i64 x.t) ∧ w.cell? ⟨g, i * 11 + 1, none⟩ = some (.int .i64 x.n) ∧ w.cell? ⟨g, i * 11 + 2, none⟩ = some (.int .i64 x.sq) ∧ w.cell? ⟨g, i * 11 + 3, none⟩ = some (.int .i64 x.kd) ∧ w.cell? ⟨g, i * 11 + 4, none⟩ = some (.int .i64 x.ot) ∧ w.cell? ⟨g, i * 11 + 5, none⟩ = some (.int .i64 x.on) ∧ w.cell? ⟨g, i * 11 + 6, none⟩ = some (.int .i64 x.pt) ∧ w.cell? ⟨g, i * 11 + 7, none⟩ = some (.int .i64 x.pn) ∧ w.cell? ⟨g, i * 11 + 8, none⟩ = some (.string x.nm) ∧ w.cell? ⟨g, i * 11 + 9, none⟩ = some (.slice x.dp x.dl x.dc) ∧ w.cell? ⟨g, i * 11 + 10, none⟩ = some (.slice x.sp x.sl x.sc) := by
  rcases h.2 with ⟨rfl, h0⟩ | ⟨g, cap, cur, rfl, hb, hg, hn, hm, hs, ht⟩
  · exact ⟨none, 0, by rw [h0], fun i x hx => by have := List.eq_nil_of_length_eq_zero h0; subst this; simp at hx⟩
  · exact ⟨_, cap, rfl, fun i x hx => ⟨g, rfl, RowG.cells h hx⟩⟩
structure RawIn (w : World) (o : OG) (ns : List Int) (bs : List (BitVec 8)) : Prop where
  seen : Cd.Lies w o.sp (ns.map Cd.iv)
  sl : ns.length = o.sl
  sc : ns.length ≤ o.sc
  le : ns.length ≤ maxLen
  data : Cd.Bytes w o.dp bs
  dl : bs.length = o.dl
  dc : bs.length ≤ o.dc
theorem RawIn.below {w w' : World} {o : OG} {ns : List Int} {bs : List (BitVec 8)} (h : RawIn w o ns bs) (hb : Below w.heap.size w w') : RawIn w' o ns bs := ⟨Cd.below_lies hb h.seen, h.sl, h.sc, h.le, Cd.below_bytes hb h.data, h.dl, h.dc⟩
def OpsL (w : World) (p : Option Addr) (L : List OG) : Prop := 0 < L.length → ∃ g o, p = some ⟨g, o, none⟩ ∧ ∀ (i : Nat) (x : OG), L[i]? = some x → (w.cell? ⟨g, o + i * 11, none⟩ = some (.int .i64 x.t) ∧ w.cell? ⟨g, o + i * 11 + 1, none⟩ = some (.int .i64 x.n) ∧ w.cell? ⟨g, o + i * 11 + 2, none⟩ = some (.int .i64 x.sq) ∧ w.cell? ⟨g, o + i * 11 + 3, none⟩ = some (.int .i64 x.kd) ∧ w.cell? ⟨g, o + i * 11 + 4, none⟩ = some (.int .i64 x.ot) ∧ w.cell? ⟨g, o + i * 11 + 5, none⟩ = some (.int .i64 x.on) ∧ w.cell? ⟨g, o + i * 11 + 6, none⟩ = some (.int .i64 x.pt) ∧ w.cell? ⟨g, o + i * 11 + 7, none⟩ = some (.int .i64 x.pn) ∧ w.cell? ⟨g, o + i * 11 + 8, none⟩ = some (.string x.nm) ∧ w.cell? ⟨g, o + i * 11 + 9, none⟩ = some (.slice x.dp x.dl x.dc) ∧ w.cell? ⟨g, o + i * 11 + 10, none⟩ = some (.slice x.sp x.sl x.sc)) ∧ ∃ ns bs, RawIn w x ns bs
theorem OpsL.below {w w' : World} {p : Option Addr} {L : List OG} (h : OpsL w p L) (hb : Below w.heap.size w w') : OpsL w' p L := by
  intro hl
  obtain ⟨g, o, e, hc⟩ := h hl
  refine ⟨g, o, e, fun i x hx => ?_⟩
  obtain ⟨⟨a0, a1, a2, a3, a4, a5, a6, a7, a8, a9, a10⟩, ns, bs, hr⟩ := hc i x hx
  exact ⟨⟨cell_keptH a0 hb, cell_keptH a1 hb, cell_keptH a2 hb, cell_keptH a3 hb, cell_keptH a4 hb, cell_keptH a5 hb, cell_keptH a6 hb, cell_keptH a7 hb, cell_keptH a8 hb, cell_keptH a9 hb, cell_keptH a10 hb⟩, ns, bs, hr.below hb⟩
def cutO (o : OG) (ns : List Int) (bs : List (BitVec 8)) : OG := { o with nm := Cd.bas (o.nm.data.toList.take 100), dl := (bs.take 3000).length, sl := (Vc.cut ns).length }
theorem RawIn.cut {w : World} {o : OG} {ns : List Int} {bs : List (BitVec 8)} (h : RawIn w o ns bs) : WIn w (cutO o ns bs) (Vc.cut ns) (bs.take 3000) := by
  have h1 : (Vc.cut ns).length ≤ 80 := Vc.cut_le ns
  have h2 : (bs.take 3000).length ≤ 3000 := by rw [List.length_take]; omega
  refine ⟨?_, rfl, ?_, by omega, Cd.bytes_take h.data 3000, rfl, ?_, by omega, ?_⟩
  · unfold Vc.cut
    have := Cd.lies_take h.seen 80
    rwa [← List.map_take] at this
  · have := h.sc
    have : (Vc.cut ns).length ≤ ns.length := by unfold Vc.cut; rw [List.length_take]; omega
    show _ ≤ o.sc; omega
  · have := h.dc
    have : (bs.take 3000).length ≤ bs.length := by rw [List.length_take]; omega
    show _ ≤ o.dc; omega
  · show (Cd.bas (o.nm.data.toList.take 100)).size ≤ 1000000
    rw [Cd.bas_size, List.length_take]; omega
theorem cut_call {w : World} {o : OG} {ns : List Int} {bs : List (BitVec 8)} (h : RawIn w o ns bs) : Calls Tryz.prog 20 #[opgv o] w fun e w' => e = .returned (opgv (cutO o ns bs)) ∧ Below w.heap.size w w' := by
  have := Cd.cut12_any o.t o.n o.sq o.kd o.ot o.on o.pt o.pn o.nm.data.toList o.dp o.sp o.dl o.dc o.sl o.sc bs ns w h.dl.symm h.dc h.sl.symm h.sc h.le h.data
  rw [Cd.bas_of] at this
  exact this
theorem rmay_call {w : World} {o : OG} {ns : List Int} {bs : List (BitVec 8)} (h : WIn w o ns bs) (h1 : ns.length ≤ 1000) : Calls Tryz.prog 21 #[opgv o] w fun e w' => e = .returned (.bool (mayW o ns)) ∧ Below w.heap.size w w' := by
  have := Cd.rmay_any o.t o.n o.sq o.kd o.ot o.on o.pt o.pn o.nm.data.toList o.dp o.sp o.dl o.dc o.sl o.sc ns w (by rw [← Lib.size_eq]; have := h.nm; omega) (by have := h.dl; have := h.bl; omega) h.sl h1 h.seen
  rw [Cd.bas_of] at this
  exact this
structure Taken (w : World) (l : List OG) : Prop where
  each : ∀ o ∈ l, ∃ ns bs, WIn w o ns bs ∧ mayW o ns = true ∧ ns.length ≤ 80
  apart : l.Pairwise fun a b => (a.t, a.n) ≠ (b.t, b.n)
def SmI (u0 w wr : World) (v : Value) (M : List OG) (most : Nat) : Prop := RowG wr w.heap.size v M ∧ Taken u0 M ∧ M.length ≤ most ∧ Below w.heap.size w wr
theorem SmI.step {u0 w wr w2 w3 : World} {v : Value} {M : List OG} {most : Nat} (h : SmI u0 w wr v M most) {x : OG} {ns : List Int} {bs : List (BitVec 8)} (hx : WIn u0 x ns bs) (hm : mayW x ns = true) (hn : ns.length ≤ 80) (ha : ∀ y ∈ M, (y.t, y.n) ≠ (x.t, x.n)) (hl : M.length < most) (b2 : Below wr.heap.size wr w2) {p : Option Addr} {c : Nat}
    (hr : RowG w3 w.heap.size (.slice p (M.length + 1) c) (M ++ [x])) (hg : (w2.alloc (.cells (opgC x) 34)).grownBy w3 v.ownBlock) : SmI u0 w w3 (.slice p (M.length + 1) c) (M ++ [x]) most := by
  obtain ⟨h1, h2, h3, h4⟩ := h
  have b3 : Below w2.heap.size w2 (w2.alloc (.cells (opgC x) 34)) := (below_new _ _).out
  have hO : Only (fun b => v.ownBlock = some b) (w2.alloc (.cells (opgC x) 34)) w3 := ⟨hg.os, hg.tape, hg.output, hg.size, fun k hk hn => hg.block k hk (fun e => hn e.symm)⟩
  have hr2 := (h1.below b2).below b3
  refine ⟨hr, ⟨fun o ho => ?_, List.pairwise_append.2 ⟨h2.apart, by simp, fun a ha' b hb => ?_⟩⟩, by rw [List.length_append]; simp; omega, ?_⟩
  · rcases List.mem_append.1 ho with ho | ho
    · exact h2.each o ho
    · have : o = x := by simpa using ho
      subst this
      exact ⟨ns, bs, hx, hm, hn⟩
  · have : b = x := by simpa using hb
    subst this
    exact ha a ha'
  · have s2 := below_thenH h4 (below_thenH b2 b3)
    refine s2.trans (hO.below s2.size fun b hb => ?_)
    obtain ⟨_, _, hbase⟩ := hr2.tag hb
    exact hbase
def SomeR (u0 w : World) (most : Nat) (e : Ending) (w' : World) : Prop := ∃ v l, e = .returned v ∧ RowG w' w.heap.size v l ∧ Taken u0 l ∧ l.length ≤ most ∧ Below w.heap.size w w'
set_option maxRecDepth 8000 in
set_option maxHeartbeats 8000000 in
theorem some_any (p : Option Addr) (L : List OG) (c most : Nat) (u0 w : World) (huw : Below u0.heap.size u0 w) (hp : OpsL u0 p L) (hL : L.length ≤ maxLen) (hm : most ≤ 1000) :
    Calls Tryz.prog 7 #[.slice p L.length c, .int .i64 (most : Nat)] w (SomeR u0 w most) := by
  have HP : Hid (OpsL u0 p L) := hp
  have HUW : Hid (Below u0.heap.size u0 w) := huw
  have HL : Hid (L.length ≤ maxLen) := hL
  have hL2 : L.length ≤ 9223372036854775807 := by unfold maxLen at hL; omega
  have HI0 : Hid (SmI u0 w w (.slice none 0 0) [] most) := ⟨RowG.nil _ _, ⟨fun o ho => by simp at ho, List.Pairwise.nil⟩, by simp, Below.refl _ _⟩
  clear hp hL huw
  go_enter Tryz.func7, Tryz.ntmps7
  go_wp2
  go_loopw [5, 6] (fun ll ii wr => ∃ (i : Nat) (M : List OG) (p' : Option Addr) (c' : Nat), ll = .slice p' M.length c' ∧ ii = .int .i64 i ∧ i ≤ L.length ∧ Hid (SmI u0 w wr (.slice p' M.length c') M most)) (fun _ ii _ => L.length - (RowKit.intOf ii).toNat)
  case atStart => exact ⟨0, [], none, 0, rfl, rfl, by omega, HI0⟩
  case round =>
    obtain ⟨i, M, p', c', rfl, rfl, hi, HI⟩ := hrel
    generalize wr = wo at *
    by_cases hlt : i < L.length
    · have hltI : (i : Int) < L.length := by omega
      have HLT : Hid (i < L.length) := hlt
      by_cases hml : M.length < most
      · have hmlI : (M.length : Int) < most := by omega
        have HML : Hid (M.length < most) := hml
        obtain ⟨x, hx⟩ : ∃ x, L[i]? = some x := ⟨_, List.getElem?_eq_getElem hlt⟩
        obtain ⟨g, o, rfl, hc⟩ := (HP.out.below (below_thenH HUW.out HI.out.2.2.2)) (by omega)
        obtain ⟨⟨d0, d1, d2, d3, d4, d5, d6, d7, d8, d9, d10⟩, _⟩ := hc i x hx
        obtain ⟨ns, bs, hraw⟩ : ∃ ns bs, RawIn u0 x ns bs := by
          obtain ⟨g2, o2, _, hc2⟩ := HP.out (by omega)
          exact (hc2 i x hx).2
        have HR : Hid (RawIn u0 x ns bs) := hraw
        obtain ⟨z, hz⟩ : ∃ z, cutO x ns bs = z := ⟨_, rfl⟩
        have HZ : Hid (WIn u0 z (Vc.cut ns) (bs.take 3000)) := by rw [← hz]; exact hraw.cut
        have ccut := cut_call (hraw.below (below_thenH HUW.out HI.out.2.2.2))
        rw [hz] at ccut
        have hi9 : i + 1 ≤ 9223372036854775807 := by omega
        clear hc hx hraw hz hlt hml
        simp only [opgv, opgC] at ccut
        obtain ⟨r, hr⟩ : ∃ r, mayW z (Vc.cut ns) = r := ⟨_, rfl⟩
        have HMAY : Hid (mayW z (Vc.cut ns) = r) := hr
        have HRM : Hid (∀ W, Below wo.heap.size wo W → Calls Tryz.prog 21 #[opgv z] W fun e w' => e = .returned (.bool r) ∧ Below W.heap.size W w') := fun W hW => by
          have := rmay_call ((HZ.out.below (below_thenH HUW.out HI.out.2.2.2)).below hW) (Nat.le_trans (Vc.cut_le ns) (by decide))
          rwa [hr] at this
        clear hr
        simp only [opgv, opgC] at HRM
        go_wp2_with (first
          | (go_at_call 20; refine Calls_new ccut ?_; clear ccut; intro w1 HB1)
          | (go_at_call 21; refine Calls_new (HRM.out _ (below_thenH HB1.out (below_new _ _).out)) ?_; clear HRM; intro w2 HB2; have kz := (HB2.out.block w1.heap.size (by simp)).trans (heap_alloc_new w1 (.cells (opgC z) 34)); have HKZ : Hid (w2.heap[w1.heap.size]? = some (.cells (opgC z) 34 (0, 0)) ∧ Below wo.heap.size wo w2) := ⟨kz, below_thenH HB1.out (below_thenH (below_new _ _).out HB2.out)⟩; clear kz d0 d1 d2 d3 d4 d5 d6 d7 d8 d9 d10))
        go_loopw [8, 9] (fun bb kk wr => ∃ (k : Nat) (b : Bool), bb = .bool b ∧ kk = .int .i64 k ∧ k ≤ M.length ∧ Hid (b = true → r = true ∧ ∀ (j : Nat) (y : OG), j < k → M[j]? = some y → (y.t, y.n) ≠ (z.t, z.n)) ∧ Hid (Below w2.heap.size w2 wr)) (fun _ kk _ => M.length - (RowKit.intOf kk).toNat)
        case atStart => exact ⟨0, r, rfl, rfl, by omega, (show _ → _ from fun h => ⟨h, fun j y hj => by omega⟩), Below.refl _ _⟩
        case round =>
          obtain ⟨k, b, rfl, rfl, hk, HU, HB⟩ := hrel
          have hbw : Below wo.heap.size wo wr := below_thenH HKZ.out.2 HB.out
          have HBW : Hid (Below wo.heap.size wo wr) := hbw
          have kz := (HB.out.block _ (block_lt HKZ.out.1)).trans HKZ.out.1
          have HKW : Hid (wr.heap[w1.heap.size]? = some (.cells (opgC z) 34 (0, 0))) := kz
          have hM9 : M.length ≤ 1000 := by have := HML.out; omega
          clear hbw
          by_cases hkt : k < M.length
          · have hktI : (k : Int) < M.length := by omega
            have HKT : Hid (k < M.length) := hkt
            cases b with
            | false =>
              clear kz
              go_wp2_with fail
              go_roundw
              case rel =>
                exact ⟨i + 1, M, p', c', rfl, by go_num, HLT.out, HI.out.1.below HBW.out, HI.out.2.1, HI.out.2.2.1, below_thenH HI.out.2.2.2 HBW.out⟩
              case measure => have := HLT.out; simp [RowKit.intOf]; omega
            | true =>
              obtain ⟨y, hy⟩ : ∃ y, M[k]? = some y := ⟨_, List.getElem?_eq_getElem hkt⟩
              have HY : Hid (M[k]? = some y) := hy
              obtain ⟨p1, c1, e1, hc⟩ := RowG.caps (HI.out.1.below HBW.out)
              cases e1
              obtain ⟨gm, rfl, a0, a1, _⟩ := hc k y hy
              have z0 : wr.cell? ⟨w1.heap.size, 0, none⟩ = some (.int .i64 z.t) := cellOf kz 0
              have z1 : wr.cell? ⟨w1.heap.size, 1, none⟩ = some (.int .i64 z.n) := cellOf kz 1
              have hcall := fun W => same_any y.t y.n z.t z.n W
              obtain ⟨q, hq⟩ : ∃ q, sameB y.t y.n z.t z.n = q := ⟨_, rfl⟩
              rw [hq] at hcall
              have HN : Hid ((!q) = true → r = true ∧ ∀ (j : Nat) (u : OG), j < k + 1 → M[j]? = some u → (u.t, u.n) ≠ (z.t, z.n)) := fun hqf => by
                obtain ⟨h1, h2⟩ := HU.out rfl
                refine ⟨h1, fun j u hj hu => ?_⟩
                by_cases e : j = k
                · subst e
                  rw [HY.out] at hu; cases hu
                  intro e2
                  have e3 : sameB y.t y.n z.t z.n = true := by unfold sameB; rw [(Prod.mk.inj e2).1, (Prod.mk.inj e2).2]; simp
                  rw [e3] at hq
                  rw [← hq] at hqf; cases hqf
                · exact h2 j u (by omega) hu
              clear hc hy hq kz hkt
              go_wp2_with fail
              have HS : ∀ W W', (W.cell? ⟨gm, k * 11, none⟩ = some (.int .i64 y.t) ∧ W.cell? ⟨gm, k * 11 + 1, none⟩ = some (.int .i64 y.n) ∧ W.cell? ⟨w1.heap.size, 0, none⟩ = some (.int .i64 z.t) ∧ W.cell? ⟨w1.heap.size, 1, none⟩ = some (.int .i64 z.n) ∧ Hid (Below wr.heap.size wr W)) → Hid (Below W.heap.size W W') → W'.cell? ⟨gm, k * 11, none⟩ = some (.int .i64 y.t) ∧ W'.cell? ⟨gm, k * 11 + 1, none⟩ = some (.int .i64 y.n) ∧ W'.cell? ⟨w1.heap.size, 0, none⟩ = some (.int .i64 z.t) ∧ W'.cell? ⟨w1.heap.size, 1, none⟩ = some (.int .i64 z.n) ∧ Hid (Below wr.heap.size wr W') := fun W W' h1 h2 =>
                have hb := below_thenH h1.2.2.2.2.out h2.out
                ⟨cell_keptH a0 hb, cell_keptH a1 hb, cell_keptH z0 hb, cell_keptH z1 hb, hb⟩
              have S1 : wr.drew.cell? ⟨gm, k * 11, none⟩ = some (.int .i64 y.t) ∧ wr.drew.cell? ⟨gm, k * 11 + 1, none⟩ = some (.int .i64 y.n) ∧ wr.drew.cell? ⟨w1.heap.size, 0, none⟩ = some (.int .i64 z.t) ∧ wr.drew.cell? ⟨w1.heap.size, 1, none⟩ = some (.int .i64 z.n) ∧ Hid (Below wr.heap.size wr wr.drew) := ⟨a0, a1, z0, z1, below_drewH wr⟩
              have S2 : wr.cell? ⟨gm, k * 11, none⟩ = some (.int .i64 y.t) ∧ wr.cell? ⟨gm, k * 11 + 1, none⟩ = some (.int .i64 y.n) ∧ wr.cell? ⟨w1.heap.size, 0, none⟩ = some (.int .i64 z.t) ∧ wr.cell? ⟨w1.heap.size, 1, none⟩ = some (.int .i64 z.n) ∧ Hid (Below wr.heap.size wr wr) := ⟨a0, a1, z0, z1, Below.refl _ _⟩
              have HF : ∀ W, (W.cell? ⟨gm, k * 11, none⟩ = some (.int .i64 y.t) ∧ W.cell? ⟨gm, k * 11 + 1, none⟩ = some (.int .i64 y.n) ∧ W.cell? ⟨w1.heap.size, 0, none⟩ = some (.int .i64 z.t) ∧ W.cell? ⟨w1.heap.size, 1, none⟩ = some (.int .i64 z.n) ∧ Hid (Below wr.heap.size wr W)) → Below wr.heap.size wr W := fun W hW => hW.2.2.2.2.out
              go_region_held3 (fun W => W.cell? ⟨gm, k * 11, none⟩ = some (.int .i64 y.t) ∧ W.cell? ⟨gm, k * 11 + 1, none⟩ = some (.int .i64 y.n) ∧ W.cell? ⟨w1.heap.size, 0, none⟩ = some (.int .i64 z.t) ∧ W.cell? ⟨w1.heap.size, 1, none⟩ = some (.int .i64 z.n) ∧ Hid (Below wr.heap.size wr W))
                (first | exact S1 | exact S2 | assumption | exact HS _ _ (by assumption) (by assumption))
                (first | (go_at_call 12; refine Calls_new (hcall _) ?_; intro w3 HB3))
              have HB2 : Hid (Below wr.heap.size wr _) := HF _ (by assumption)
              go_wp2_with fail
              go_roundw
              case rel => exact ⟨k + 1, !q, rfl, by go_num, HKT.out, HN, below_thenH HB.out HB2.out⟩
              case measure => have := HKT.out; simp [RowKit.intOf]; omega
          · obtain rfl : k = M.length := by omega
            clear hkt
            cases b with
            | false =>
              clear kz
              go_wp2_with fail
              go_roundw
              case rel =>
                exact ⟨i + 1, M, p', c', rfl, by go_num, HLT.out, HI.out.1.below HBW.out, HI.out.2.1, HI.out.2.2.1, below_thenH HI.out.2.2.2 HBW.out⟩
              case measure => have := HLT.out; simp [RowKit.intOf]; omega
            | true =>
              obtain ⟨z0, z1, z2, z3, z4, z5, z6, z7, z8, z9, z10⟩ := op_cellsG kz
              clear kz
              go_wp2_with (at_builtin; refine wpList_appG rfl _ _ rfl w.heap.size _ M z rfl wr.heap.size rfl ⟨(HI.out.1.below HBW.out).below (below_new _ _).out, heap_alloc_new wr _, by omega, by have := HI.out.2.2.2.size; have := HBW.out.size; simp; omega⟩ ?_; intro p4 c4 w5 H5)
              go_roundw
              case rel =>
                refine ⟨i + 1, M ++ [z], p4, c4, ?_, by go_num, HLT.out, ?_⟩
                · rw [List.length_append]; rfl
                · have hap : ∀ y ∈ M, (y.t, y.n) ≠ (z.t, z.n) := fun y hy => by
                    obtain ⟨j, hj, e⟩ := List.getElem_of_mem hy
                    exact (HU.out rfl).2 j y hj (by rw [List.getElem?_eq_getElem hj, e])
                  have := HI.out.step HZ.out (by rw [HMAY.out]; exact (HU.out rfl).1) (Vc.cut_le ns) hap HML.out HBW.out H5.out.1 H5.out.2.1
                  show SmI u0 w w5 (.slice p4 (M ++ [z]).length c4) (M ++ [z]) most
                  rw [List.length_append]
                  exact this
              case measure => have := HLT.out; simp [RowKit.intOf]; omega
      · have hmlI : ¬ (M.length : Int) < most := by omega
        have hM9 : M.length ≤ 1000 := by have := HI.out.2.2.1; omega
        clear hml
        go_wp2
        go_ret
        exact ⟨_, M, rfl, HI.out⟩
    · obtain rfl : i = L.length := by omega
      go_wp2
      go_ret
      exact ⟨_, M, rfl, HI.out⟩
end Go.Proofs.YtgpbphjplbhfmaaGreat.Ck.Y.S
