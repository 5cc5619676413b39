/-
  An operation in memory; the small functions over operations, both sides.
-/
import Derived.Test.YteimjkicinjcgaaQLi
import Derived.Test.YteimjkicinjcgaaKKbase
import Derived.Test.YteimjkicinjcgaaKKcodm
import Derived.Test.YteimjkicinjcgaaKKwany
import Derived.Test.YteimjkicinjcgaaQVvecm
import Derived.Test.YteimjkicinjcgaaKNcmp
import Derived.Lib.Strings
import Derived.Lib.Bytealg
import Derived.Lib.Walk
import Derived.Lib.UnsafeStr
import Derived.Laws.MakeOwn
import Derived.Laws.Externs

/-
  A file in memory: its stamps, what was seen, its heads; what turns of it and what stays.
-/
namespace Go.Proofs.Yteimjkicinjcgaa.Ck.Y.L
open Go.RowKit Go.Maps Go.Lib

/-- A file in memory. -/
structure FMem (w : World) (fb : Nat) (E : List KP) (sn : List Int) (H : List VG) (mv : Value) (sp : Option Addr) (sc : Nat) (hv : Value) : Prop where
  blk : w.heap[fb]? = some (.cells #[mv, .slice sp sn.length sc, hv] 55 (0, 0))
  sown : w.ownsRow 0 2 1 (.slice sp sn.length sc) sn.length (sn.map Cd.iv)
  snl : sn.length ≤ 64
  map : (mv = .map none ∧ E = []) ∨ ∃ mb, mv = .map (some mb) ∧ MapS w mb E
  hrow : RowV w 0 hv H
  hown : ∀ x ∈ H, VOwn w 0 x
  hl : H.length ≤ 900
/-- The blocks that are the file's. -/
def Foot (fb : Nat) (mv hv : Value) (b : Nat) : Prop := b = fb ∨ mv = .map (some b) ∨ hv.ownBlock = some b
section
variable {w w' : World} {fb : Nat} {E : List KP} {sn : List Int} {H : List VG} {mv : Value} {sp : Option Addr} {sc : Nat} {hv : Value}
theorem RowV.tagged {w : World} {v : Value} {l : List VG} (h : RowV w 0 v l) {g : Nat} (hg : v.ownBlock = some g) : ∃ cs, w.heap[g]? = some (.cells cs 43 (0, 0)) := by
  obtain ⟨cs, h1, _⟩ := h.tag hg
  exact ⟨cs, h1⟩
theorem FMem.lt (h : FMem w fb E sn H mv sp sc hv) : ∀ b, Foot fb mv hv b → b < w.heap.size := by
  rintro b (rfl | rfl | hb)
  · exact block_lt h.blk
  · rcases h.map with ⟨e, _⟩ | ⟨mb, e, hm⟩
    · cases e
    · cases e; exact hm.lt
  · obtain ⟨cs, hc⟩ := RowV.tagged h.hrow hb
    exact block_lt hc
theorem FMem.hard (h : FMem w fb E sn H mv sp sc hv) : Hard w (Foot fb mv hv) := by
  rintro b (rfl | rfl | hb) cs t ht
  · rw [h.blk] at ht; cases ht; decide
  · rcases h.map with ⟨e, _⟩ | ⟨mb, e, es, clock, hm, _⟩
    · cases e
    · cases e; rw [hm] at ht; cases ht
  · obtain ⟨cs', hc⟩ := RowV.tagged h.hrow hb
    rw [hc] at ht; cases ht; decide
theorem hard_one {w : World} {b : Nat} {cs : Array Value} {t : TypeId} (h : w.heap[b]? = some (.cells cs t (0, 0))) (ht : t ≠ 2 ∧ t ≠ 5) : Hard w (fun k => k = b) := by
  rintro k rfl cs' t' h'
  rw [h] at h'; cases h'; exact ht
theorem RowV.keptH {w w' : World} {v : Value} {l : List VG} {S : Nat → Prop} (h : RowV w 0 v l) (ho : Only S w w') (hn : ∀ g, v.ownBlock = some g → ¬ S g) : RowV w' 0 v l := RowV.kept h ho hn
/-- Another's blocks are turned. -/
theorem FMem.kept {S : Nat → Prop} (h : FMem w fb E sn H mv sp sc hv) (ho : Only S w w') (hn : ∀ b, Foot fb mv hv b → ¬ S b) (hs : Hard w S) : FMem w' fb E sn H mv sp sc hv := by
  refine ⟨(ho.block fb (block_lt h.blk) (hn fb (.inl rfl))).trans h.blk, own_kept h.sown ho fun b hb cs t ht => (hs b hb cs t ht).1, h.snl, ?_, h.hrow.keptH ho fun g hg => hn g (.inr (.inr hg)), fun x hx => (h.hown x hx).kept ho hs, h.hl⟩
  rcases h.map with h0 | ⟨mb, e, hm⟩
  · exact .inl h0
  · exact .inr ⟨mb, e, hm.kept ho (hn mb (.inr (.inl e)))⟩
theorem FMem.below (h : FMem w fb E sn H mv sp sc hv) (hb : Below w.heap.size w w') : FMem w' fb E sn H mv sp sc hv :=
  h.kept (Below.only hb (fun _ => False)) (fun _ _ f => f) (fun _ f => f.elim)
theorem FMem.seenF (h : FMem w fb E sn H mv sp sc hv) : SeenF w fb sn := ⟨sp, sc, cellOf h.blk 1, (own_lies h.sown).1⟩
theorem FMem.mapne (h : FMem w fb E sn H mv sp sc hv) {mb : Nat} (e : mv = .map (some mb)) : mb ≠ fb ∧ hv.ownBlock ≠ some mb := by
  rcases h.map with ⟨e', _⟩ | ⟨mb', e', es, clock, hm, _⟩
  · rw [e] at e'; cases e'
  · rw [e] at e'; cases e'
    refine ⟨?_, fun hg => ?_⟩
    · rintro rfl; rw [h.blk] at hm; cases hm
    · obtain ⟨cs, hc⟩ := RowV.tagged h.hrow hg
      rw [hm] at hc; cases hc
theorem FMem.rowne (h : FMem w fb E sn H mv sp sc hv) : hv.ownBlock ≠ some fb := fun hg => by
  obtain ⟨cs, hc⟩ := RowV.tagged h.hrow hg
  exact apart_tags h.blk hc (by decide) rfl

/-- What was seen is turned. -/
theorem FMem.setSeen (h : FMem w fb E sn H mv sp sc hv) {sn' : List Int} {p : Option Addr} {c : Nat} (ho : w.ownsRow 0 2 1 (.slice p sn'.length c) sn'.length (sn'.map Cd.iv)) (hl : sn'.length ≤ 64) :
    FMem (w.setCell ⟨fb, 1, none⟩ (.slice p sn'.length c)) fb E sn' H mv p c hv ∧ Only (fun b => b = fb) w (w.setCell ⟨fb, 1, none⟩ (.slice p sn'.length c)) := by
  have hO : Only (fun b => b = fb) w (w.setCell ⟨fb, 1, none⟩ (.slice p sn'.length c)) := Only.setCell (S := fun b => b = fb) _ _ _ rfl
  have hh := hard_one h.blk (by decide)
  refine ⟨⟨heap_set_same h.blk _, own_kept ho hO fun b hb cs t ht => (hh b hb cs t ht).1, hl, ?_, h.hrow.keptH hO fun g hg e => h.rowne (by rw [hg, e]), fun x hx => (h.hown x hx).kept hO hh, h.hl⟩, hO⟩
  rcases h.map with h0 | ⟨mb, e, hm⟩
  · exact .inl h0
  · exact .inr ⟨mb, e, hm.kept hO (h.mapne e).1⟩
/-- The heads are turned. -/
theorem FMem.setHeads (h : FMem w fb E sn H mv sp sc hv) {v : Value} {M : List VG} (hO : Only (fun b => hv.ownBlock = some b) w w') (hr : RowV w' 0 v M) (hM : ∀ x ∈ M, VOwn w' 0 x) (hl : M.length ≤ 900) :
    FMem (w'.setCell ⟨fb, 2, none⟩ v) fb E sn M mv sp sc v ∧ Only (Foot fb mv hv) w (w'.setCell ⟨fb, 2, none⟩ v) := by
  have hb' : w'.heap[fb]? = some (.cells #[mv, .slice sp sn.length sc, hv] 55 (0, 0)) := (hO.block fb (block_lt h.blk) h.rowne).trans h.blk
  have hO2 : Only (fun b => b = fb) w' (w'.setCell ⟨fb, 2, none⟩ v) := Only.setCell (S := fun b => b = fb) _ _ _ rfl
  have hh2 := hard_one hb' (by decide)
  have hh1 : Hard w (fun b => hv.ownBlock = some b) := fun b hb => h.hard b (.inr (.inr hb))
  refine ⟨⟨heap_set_same hb' _, own_kept (own_kept h.sown hO fun b hb cs t ht => (hh1 b hb cs t ht).1) hO2 fun b hb cs t ht => (hh2 b hb cs t ht).1, h.snl, ?_, hr.keptH hO2 fun g hg e => ?_, fun x hx => (hM x hx).kept hO2 hh2, hl⟩, ?_⟩
  · rcases h.map with h0 | ⟨mb, e, hm⟩
    · exact .inl h0
    · exact .inr ⟨mb, e, (hm.kept hO (h.mapne e).2).kept hO2 (h.mapne e).1⟩
  · obtain ⟨cs, hc⟩ := RowV.tagged hr hg
    exact apart_tags hc hb' (by decide) e
  · exact (only_subV hO fun b hb => .inr (.inr hb)).next (only_subV hO2 fun b hb => .inl hb)
/-- A stamp more is kept. -/
theorem FMem.setMap (h : FMem w fb E sn H mv sp sc hv) {mb : Nat} {E' : List KP} (hb' : w'.heap[fb]? = some (.cells #[.map (some mb), .slice sp sn.length sc, hv] 55 (0, 0))) (hm : MapS w' mb E') (hO : Only (fun b => b = fb ∨ mv = .map (some b)) w w') :
    FMem w' fb E' sn H (.map (some mb)) sp sc hv := by
  have hh : Hard w (fun b => b = fb ∨ mv = .map (some b)) := fun b hb => h.hard b (hb.elim .inl fun e => .inr (.inl e))
  refine ⟨hb', own_kept h.sown hO fun b hb cs t ht => (hh b hb cs t ht).1, h.snl, .inr ⟨mb, rfl, hm⟩, h.hrow.keptH hO fun g hg e => ?_, fun x hx => (h.hown x hx).kept hO hh, h.hl⟩
  rcases e with e | e
  · exact h.rowne (by rw [hg, e])
  · exact (h.mapne e).2 hg
end

/-- mark. -/
theorem mark_any {w : World} {fb : Nat} {E : List KP} {sn : List Int} {H : List VG} {mv : Value} {sp : Option Addr} {sc : Nat} {hv : Value} (h : FMem w fb E sn H mv sp sc hv) {t n : Int} (hq : (t, n) ∉ E) :
    Calls Try.prog 28 #[.pointer (some ⟨fb, 0, none⟩), idv t n] w fun e w' => e = .returned (.tuple #[]) ∧ ∃ mb, FMem w' fb (E ++ [(t, n)]) sn H (.map (some mb)) sp sc hv ∧ Only (Foot fb mv hv) w w' ∧ (mv = .map (some mb) ∨ w.heap.size ≤ mb) := by
  rcases h.map with ⟨rfl, rfl⟩ | ⟨mb, rfl, hm⟩
  · refine (mark_nil fb t n _ _ w h.blk).mono ?_
    rintro e w' ⟨rfl, mb, h1, h2, h3, h4⟩
    exact ⟨rfl, mb, h.setMap h1 h2 (only_subV h3 fun b hb => .inl hb), only_subV h3 fun b hb => .inl hb, .inr h4⟩
  · refine (mark_some fb mb t n E w (cellOf h.blk 0) hm hq).mono ?_
    rintro e w' ⟨rfl, h1, h2⟩
    exact ⟨rfl, mb, h.setMap ((h2.block fb (block_lt h.blk) (Ne.symm (h.mapne rfl).1)).trans h.blk) h1 (only_subV h2 fun b hb => .inr (by rw [hb])), only_subV h2 fun b hb => .inr (.inl (by rw [hb])), .inl rfl⟩

end Go.Proofs.Yteimjkicinjcgaa.Ck.Y.L

/-
  see, put.
-/
namespace Go.Proofs.Yteimjkicinjcgaa.Ck.Y.L
open Go.RowKit Go.Maps Go.Lib

theorem FMem.seenAfter {w W : World} {fb : Nat} {E : List KP} {sn : List Int} {H : List VG} {mv : Value} {sp : Option Addr} {sc : Nat} {hv : Value} (h : FMem w fb E sn H mv sp sc hv) (hO : Only (fun b => hv.ownBlock = some b) w W) : SeenF W fb sn := by
  have hh : Hard w (fun b => hv.ownBlock = some b) := fun b hb => h.hard b (.inr (.inr hb))
  exact ⟨sp, sc, cellOf ((hO.block fb (block_lt h.blk) h.rowne).trans h.blk) 1, (own_lies (own_kept h.sown hO fun b hb cs t ht => (hh b hb cs t ht).1)).1⟩
theorem FMem.headsAfter {w W : World} {fb : Nat} {E : List KP} {sn : List Int} {H : List VG} {mv : Value} {sp : Option Addr} {sc : Nat} {hv : Value} (h : FMem w fb E sn H mv sp sc hv) (hO : Only (fun b => hv.ownBlock = some b) w W) : ∀ x ∈ H, VOwn W 0 x :=
  fun x hx => (h.hown x hx).kept hO fun b hb => h.hard b (.inr (.inr hb))

/-- What was seen behind a version that has seen ns. -/
def seeN (sn ns : List Int) : List Int := if Vc.leqB ns sn then sn else Vc.vec (Vc.maxAt [sn, ns])

set_option maxRecDepth 8000 in
set_option maxHeartbeats 2000000 in
theorem see_any {w : World} {fb : Nat} {E : List KP} {sn : List Int} {H : List VG} {mv : Value} {sp : Option Addr} {sc : Nat} {hv : Value} (h : FMem w fb E sn H mv sp sc hv) (hk : ∀ x ∈ H, seenB x.sq x.n sn = false)
    (q : Option Addr) (ns : List Int) (ml mc : Nat) (hml : ns.length = ml) (hq : Cd.Lies w q (ns.map Cd.iv)) :
    Calls Try.prog 29 #[.pointer (some ⟨fb, 0, none⟩), .slice q ml mc] w fun e w' => e = .returned (.tuple #[]) ∧ ∃ sp' sc' hv', FMem w' fb E (seeN sn ns) (H.filter (keepV (seeN sn ns))) mv sp' sc' hv' ∧ Only (Foot fb mv hv) w w' ∧ hv'.ownBlock = hv.ownBlock := by
  have HH : Hid (FMem w fb E sn H mv sp sc hv) := h
  have c1 := Vc.leq_any q sp ns sn mc sc w hq (own_lies h.sown).1
  rw [hml] at c1
  have f1 : w.cell? ⟨fb, 1, none⟩ = some (.slice sp sn.length sc) := cellOf h.blk 1
  have f2 : w.cell? ⟨fb, 2, none⟩ = some hv := cellOf h.blk 2
  have g1 := frozenOf h.blk 1
  cases hl : Vc.leqB ns sn with
  | true =>
    rw [hl] at c1
    have e1 : seeN sn ns = sn := by unfold seeN; rw [hl]; rfl
    have e2 : H.filter (keepV sn) = H := List.filter_eq_self.2 fun x hx => by unfold keepV; rw [hk x hx]; rfl
    rw [e1, e2]
    clear h hk hq e1 e2 hl f2 g1
    generalize sn.length = sl at *
    go_enter Try.func29, Try.ntmps29
    go_wp2_with (go_at_call 50; refine Calls_on c1 ?_; clear c1)
    refine bodyPost_ret (results_none rfl _ _ _) rfl ?_
    exact ⟨rfl, sp, sc, hv, HH.out, Only.refl _ _, rfl⟩
  | false =>
    rw [hl] at c1
    have e1 : seeN sn ns = Vc.vec (Vc.maxAt [sn, ns]) := by unfold seeN; rw [hl]; rfl
    rw [e1]
    obtain ⟨S2, hS2⟩ : ∃ S2, Vc.vec (Vc.maxAt [sn, ns]) = S2 := ⟨_, rfl⟩
    rw [hS2]
    have hS2l : S2.length ≤ 64 := by rw [← hS2]; exact Vc.vec_le _
    obtain ⟨A, hA⟩ : ∃ A, A = w.alloc (.cells #[.slice sp sn.length sc, .slice q ml mc] 33) := ⟨_, rfl⟩
    have bA : Below w.heap.size w A := by rw [hA]; exact (below_new w _).out
    have kA : A.heap[w.heap.size]? = some (.cells #[.slice sp sn.length sc, .slice q ml mc] 33 (0, 0)) := by rw [hA]; exact heap_alloc_new w _
    have HM : Hid (Calls Try.prog 51 #[.slice (some ⟨w.heap.size, 0, none⟩) 2 2] A (Vc.AnsO A S2)) := by
      have := Vc.max_own (some ⟨w.heap.size, 0, none⟩) [sn, ns] 2 A (by simp) (fun j v hv => by
        match j with
        | 0 => simp at hv; subst hv; exact ⟨w.heap.size, 0, sp, sc, rfl, cellOf kA 0, Cd.below_lies bA (own_lies h.sown).1⟩
        | 1 => simp at hv; subst hv; exact ⟨w.heap.size, 0, q, mc, rfl, by rw [← hml] at kA; exact cellOf kA 1, Cd.below_lies bA hq⟩
        | j + 2 => simp at hv)
      rw [hS2] at this
      exact this
    have HA : Hid (A = w.alloc (.cells #[.slice sp sn.length sc, .slice q ml mc] 33)) := hA
    have HB : Hid (FMem A fb E sn H mv sp sc hv ∧ Below w.heap.size w A) := ⟨h.below bA, bA⟩
    have HL : Hid (S2.length ≤ 64) := hS2l
    have HX : Hid (H.length ≤ 900) := h.hl
    clear h hk hq e1 hl hS2 hS2l bA kA hA
    go_enter Try.func29, Try.ntmps29
    go_wp2_with (first
      | (go_at_call 50; refine Calls_on c1 ?_; clear c1)
      | (go_at_call 51; rw [← HA.out]; refine HM.out.mono ?_; clear HM; rintro e w2 ⟨p2, c2, rfl, ho, hb⟩; have F2 := HB.out.1.below hb; have F3 := F2.setSeen (Vc.own_base ho (Nat.zero_le _)) HL.out; have H3 : Hid (FMem (w2.setCell ⟨fb, 1, none⟩ (.slice p2 S2.length c2)) fb E S2 H mv p2 c2 hv ∧ Only (fun b => b = fb) w2 (w2.setCell ⟨fb, 1, none⟩ (.slice p2 S2.length c2)) ∧ Below w.heap.size w w2) := ⟨F3.1, F3.2, below_thenH HB.out.2 hb⟩; have k1 : w2.cell? ⟨fb, 1, none⟩ = some (.slice sp sn.length sc) := cellOf F2.blk 1; have k2 := frozenOf F2.blk 1; have k3 : (w2.setCell ⟨fb, 1, none⟩ (.slice p2 S2.length c2)).cell? ⟨fb, 2, none⟩ = some hv := cellOf F3.1.blk 2; clear F2 F3 ho hb f1 f2 g1)
      | (go_at_call 52; refine (del_any fb S2 0 hv H _ H3.out.1.hrow (Nat.le_trans HX.out (by decide)) (fun W hW => H3.out.1.seenAfter hW)).mono ?_; rintro e w4 ⟨v4, rfl, hr4, ho4, hv4⟩; obtain ⟨p4, c4, rfl, _⟩ := hr4.shape; have F5 := H3.out.1.setHeads ho4 hr4 (fun x hx => H3.out.1.headsAfter ho4 x (List.mem_filter.1 hx).1) (Nat.le_trans (List.length_filter_le _ _) HX.out); have H5 : Hid (FMem (w4.setCell ⟨fb, 2, none⟩ (.slice p4 (H.filter (keepV S2)).length c4)) fb E S2 (H.filter (keepV S2)) mv p2 c2 (.slice p4 (H.filter (keepV S2)).length c4) ∧ Only (Foot fb mv hv) (w2.setCell ⟨fb, 1, none⟩ (.slice p2 S2.length c2)) (w4.setCell ⟨fb, 2, none⟩ (.slice p4 (H.filter (keepV S2)).length c4)) ∧ (Value.slice p4 (H.filter (keepV S2)).length c4).ownBlock = hv.ownBlock) := ⟨F5.1, F5.2, hv4⟩; have k4 := (ho4.block fb (block_lt H3.out.1.blk) H3.out.1.rowne).trans H3.out.1.blk; have k5 : w4.cell? ⟨fb, 2, none⟩ = some hv := cellOf k4 2; have k6 := frozenOf k4 2; clear F5 k4 hr4 ho4 hv4 k1 k2 k3))
    go_end0
    refine ⟨rfl, p2, c2, _, H5.out.1, ?_, H5.out.2.2⟩
    exact ((Below.only H3.out.2.2 _).next (only_subV H3.out.2.1 fun b hb => .inl hb)).next H5.out.2.1

end Go.Proofs.Yteimjkicinjcgaa.Ck.Y.L

/-
  put.
-/
namespace Go.Proofs.Yteimjkicinjcgaa.Ck.Y.L
open Go.RowKit Go.Maps Go.Lib

set_option maxRecDepth 8000 in
set_option maxHeartbeats 2000000 in
theorem put_seen {w : World} {fb : Nat} {E : List KP} {sn : List Int} {H : List VG} {mv : Value} {sp : Option Addr} {sc : Nat} {hv : Value} (h : FMem w fb E sn H mv sp sc hv) (x : VG) (hs : seenB x.sq x.n sn = true) :
    Calls Try.prog 30 #[.pointer (some ⟨fb, 0, none⟩), vgv x] w fun e w' => e = .returned (.tuple #[]) ∧ Below w.heap.size w w' := by
  obtain ⟨A, hA⟩ : ∃ A, A = w.alloc (.cells (vgC x) 43) := ⟨_, rfl⟩
  have bA : Below w.heap.size w A := by rw [hA]; exact (below_new w _).out
  have kA : A.heap[w.heap.size]? = some (.cells (vgC x) 43 (0, 0)) := by rw [hA]; exact heap_alloc_new w _
  have c1 := (h.below bA).seenF.call x
  rw [hs] at c1
  have HB : Hid (Below w.heap.size w A) := bA
  obtain ⟨a0, a1, a2, a3, a4⟩ := ver_cells kA
  have HA : Hid (A = w.alloc (.cells (vgC x) 43)) := hA
  rw [hA] at a0 a1 a2 a3 a4
  clear h hs bA kA hA
  obtain ⟨t, n, sq, ns, sp, sc, bs, dp, dc⟩ := x
  simp only [vgv, vgC] at *
  generalize ns.length = nl at *
  generalize bs.length = bl at *
  go_enter Try.func30, Try.ntmps30
  go_wp2_with (go_at_call 53; rw [← HA.out]; refine Calls_new c1 ?_; intro w1 HB1)
  refine bodyPost_ret (results_none rfl _ _ _) rfl ?_
  exact ⟨rfl, below_thenH HB.out HB1.out⟩

set_option maxRecDepth 8000 in
set_option maxHeartbeats 4000000 in
theorem put_new {w : World} {fb : Nat} {E : List KP} {sn : List Int} {H : List VG} {mv : Value} {sp : Option Addr} {sc : Nat} {hv : Value} (h : FMem w fb E sn H mv sp sc hv) (x : VG) (hx : VOwn w 0 x) (hs : seenB x.sq x.n sn = false) (hr : H.Pairwise ltV) (hl : H.length < 900) :
    Calls Try.prog 30 #[.pointer (some ⟨fb, 0, none⟩), vgv x] w fun e w' => e = .returned (.tuple #[]) ∧ ∃ i hv', PlcV H x.t x.n i ∧ FMem w' fb E sn (H.take i ++ x :: H.drop i) mv sp sc hv' ∧ Only (Foot fb mv hv) w w' ∧ (hv'.ownBlock = hv.ownBlock ∨ ∃ g, hv'.ownBlock = some g ∧ w.heap.size ≤ g) := by
  obtain ⟨A, hA⟩ : ∃ A, A = w.alloc (.cells (vgC x) 43) := ⟨_, rfl⟩
  have bA : Below w.heap.size w A := by rw [hA]; exact (below_new w _).out
  have kA : A.heap[w.heap.size]? = some (.cells (vgC x) 43 (0, 0)) := by rw [hA]; exact heap_alloc_new w _
  have c1 := (h.below bA).seenF.call x
  rw [hs] at c1
  have HB : Hid (Below w.heap.size w A) := bA
  obtain ⟨a0, a1, a2, a3, a4⟩ := ver_cells kA
  have HA : Hid (A = w.alloc (.cells (vgC x) 43)) := hA
  have HF : Hid (FMem A fb E sn H mv sp sc hv) := h.below bA
  have HK : Hid (A.heap[w.heap.size]? = some (.cells (vgC x) 43 (0, 0))) := kA
  have HV : Hid (VOwn w 0 x) := hx
  have HR : Hid (H.Pairwise ltV) := hr
  have HL : Hid (H.length < 900) := hl
  obtain ⟨ph, ch, rfl, _⟩ := h.hrow.shape
  rw [hA] at a0 a1 a2 a3 a4
  clear h hs bA kA hA hx hr hl
  simp only [vgv, vgC] at c1 a0 a1 a2 a3 a4
  have HSS : Hid (∀ W, Below A.heap.size A W → Calls Try.prog 54 #[.slice ph H.length ch, idv x.t x.n, cmv] W fun e w' => ∃ (i : Nat) (r : Bool), e = .returned (.tuple #[.int .i64 i, .bool r]) ∧ PlcV H x.t x.n i ∧ Below W.heap.size W w') := fun W hW => search_any 0 _ H x.t x.n W (HF.out.hrow.below hW) (by have := HL.out; omega) HR.out
  go_enter Try.func30, Try.ntmps30
  go_wp2_with (go_at_call 53; rw [← HA.out]; refine Calls_new c1 ?_; intro w1 HB1; clear c1 a0 a1 a2 a3 a4)
  have hF1 := HF.out.below HB1.out
  have cf := cellOf hF1.blk 2
  have k1 : w1.heap[w.heap.size]? = _ := (HB1.out.block _ (block_lt HK.out)).trans HK.out
  obtain ⟨a0, a1, a2, a3, a4⟩ := ver_cells k1
  have CF : w1.cell? ⟨fb, 2, none⟩ = some (.slice ph H.length ch) := cf
  clear hF1 cf k1
  have HS1 : ∀ W W', (W.cell? ⟨w.heap.size, 0, none⟩ = some (.int .i64 x.t) ∧ W.cell? ⟨w.heap.size, 1, none⟩ = some (.int .i64 x.n) ∧ W.cell? ⟨w.heap.size, 2, none⟩ = some (.int .i64 x.sq) ∧ W.cell? ⟨w.heap.size, 3, none⟩ = some (.slice x.sp x.ns.length x.sc) ∧ W.cell? ⟨w.heap.size, 4, none⟩ = some (.slice x.dp x.bs.length x.dc) ∧ W.cell? ⟨fb, 2, none⟩ = some (.slice ph H.length ch) ∧ Hid (Below w1.heap.size w1 W)) → Hid (Below W.heap.size W W') → W'.cell? ⟨w.heap.size, 0, none⟩ = some (.int .i64 x.t) ∧ W'.cell? ⟨w.heap.size, 1, none⟩ = some (.int .i64 x.n) ∧ W'.cell? ⟨w.heap.size, 2, none⟩ = some (.int .i64 x.sq) ∧ W'.cell? ⟨w.heap.size, 3, none⟩ = some (.slice x.sp x.ns.length x.sc) ∧ W'.cell? ⟨w.heap.size, 4, none⟩ = some (.slice x.dp x.bs.length x.dc) ∧ W'.cell? ⟨fb, 2, none⟩ = some (.slice ph H.length ch) ∧ Hid (Below w1.heap.size w1 W') := fun W W' h1 h2 =>
    have hb := below_thenH h1.2.2.2.2.2.2.out h2.out
    ⟨cell_keptH a0 hb, cell_keptH a1 hb, cell_keptH a2 hb, cell_keptH a3 hb, cell_keptH a4 hb, cell_keptH CF hb, hb⟩
  have S11 : w1.drew.cell? ⟨w.heap.size, 0, none⟩ = some (.int .i64 x.t) ∧ w1.drew.cell? ⟨w.heap.size, 1, none⟩ = some (.int .i64 x.n) ∧ w1.drew.cell? ⟨w.heap.size, 2, none⟩ = some (.int .i64 x.sq) ∧ w1.drew.cell? ⟨w.heap.size, 3, none⟩ = some (.slice x.sp x.ns.length x.sc) ∧ w1.drew.cell? ⟨w.heap.size, 4, none⟩ = some (.slice x.dp x.bs.length x.dc) ∧ w1.drew.cell? ⟨fb, 2, none⟩ = some (.slice ph H.length ch) ∧ Hid (Below w1.heap.size w1 w1.drew) := ⟨a0, a1, a2, a3, a4, CF, below_drewH w1⟩
  have S21 : w1.cell? ⟨w.heap.size, 0, none⟩ = some (.int .i64 x.t) ∧ w1.cell? ⟨w.heap.size, 1, none⟩ = some (.int .i64 x.n) ∧ w1.cell? ⟨w.heap.size, 2, none⟩ = some (.int .i64 x.sq) ∧ w1.cell? ⟨w.heap.size, 3, none⟩ = some (.slice x.sp x.ns.length x.sc) ∧ w1.cell? ⟨w.heap.size, 4, none⟩ = some (.slice x.dp x.bs.length x.dc) ∧ w1.cell? ⟨fb, 2, none⟩ = some (.slice ph H.length ch) ∧ Hid (Below w1.heap.size w1 w1) := ⟨a0, a1, a2, a3, a4, CF, Below.refl _ _⟩
  have HF1 : ∀ W, (W.cell? ⟨w.heap.size, 0, none⟩ = some (.int .i64 x.t) ∧ W.cell? ⟨w.heap.size, 1, none⟩ = some (.int .i64 x.n) ∧ W.cell? ⟨w.heap.size, 2, none⟩ = some (.int .i64 x.sq) ∧ W.cell? ⟨w.heap.size, 3, none⟩ = some (.slice x.sp x.ns.length x.sc) ∧ W.cell? ⟨w.heap.size, 4, none⟩ = some (.slice x.dp x.bs.length x.dc) ∧ W.cell? ⟨fb, 2, none⟩ = some (.slice ph H.length ch) ∧ Hid (Below w1.heap.size w1 W)) → Below w1.heap.size w1 W := fun W hW => hW.2.2.2.2.2.2.out
  go_region_held3 (fun W => W.cell? ⟨w.heap.size, 0, none⟩ = some (.int .i64 x.t) ∧ W.cell? ⟨w.heap.size, 1, none⟩ = some (.int .i64 x.n) ∧ W.cell? ⟨w.heap.size, 2, none⟩ = some (.int .i64 x.sq) ∧ W.cell? ⟨w.heap.size, 3, none⟩ = some (.slice x.sp x.ns.length x.sc) ∧ W.cell? ⟨w.heap.size, 4, none⟩ = some (.slice x.dp x.bs.length x.dc) ∧ W.cell? ⟨fb, 2, none⟩ = some (.slice ph H.length ch) ∧ Hid (Below w1.heap.size w1 W))
    (first | exact S11 | exact S21 | assumption | exact HS1 _ _ (by assumption) (by assumption))
    (first | (go_at_call 54; refine (HSS.out _ (below_thenH HB1.out (HF1 _ (by assumption)))).mono ?_; rintro e w2 ⟨i, r, rfl, hpl, hb2⟩; have HPL : Hid (PlcV H x.t x.n i) := hpl; have HB2 : Hid (Below _ _ w2) := hb2; clear hpl hb2))
  have HW2 : Hid (Below w1.heap.size w1 w2) := HF1 _ (by assumption)
  have b2 : Below A.heap.size A w2 := below_thenH HB1.out HW2.out
  have hF2 := HF.out.below b2
  have k2 : w2.heap[w.heap.size]? = _ := (b2.block _ (block_lt HK.out)).trans HK.out
  have HF2 : Hid (FMem w2 fb E sn H mv sp sc (.slice ph H.length ch) ∧ Below A.heap.size A w2) := ⟨hF2, b2⟩
  obtain ⟨e0, e1, e2, e3, e4⟩ := ver_cells k2
  have ef : w2.cell? ⟨fb, 2, none⟩ = some (.slice ph H.length ch) := cellOf hF2.blk 2
  clear hF2 b2 k2 HK
  obtain ⟨B, hB⟩ : ∃ B, B = (w2.alloc (.cells (vgC x) 43)).drew := ⟨_, rfl⟩
  have bB : Below w2.heap.size w2 B := by rw [hB]; exact below_thenH (below_new w2 _).out (below_drewH _)
  have kB : B.heap[w2.heap.size]? = some (.cells (verL x).toArray 43 (0, 0)) := by rw [hB]; exact heap_alloc_new w2 _
  have HBB : Hid (FMem B fb E sn H mv sp sc (.slice ph H.length ch) ∧ Below w2.heap.size w2 B ∧ B.heap[w2.heap.size]? = some (.cells (verL x).toArray 43 (0, 0))) := ⟨HF2.out.1.below bB, bB, kB⟩
  have HBE : Hid (B = (w2.alloc (.cells (vgC x) 43)).drew) := hB
  have HINS : Hid (Calls Try.prog 56 #[.slice ph H.length ch, .int .i64 (i : Nat), .slice (some ⟨w2.heap.size, 0, none⟩) 1 1] B (InsdV 0 (.slice ph H.length ch) (H.take i ++ x :: H.drop i) B)) :=
    insert_anyV 0 i w2.heap.size _ H x B HBB.out.1.hrow HPL.out.le (by have := HL.out; omega) (Nat.zero_le _) kB (fun e => by
      have := HF2.out.1.lt _ (.inr (.inr e))
      omega)
  have HLN : Hid ((H.take i ++ x :: H.drop i).length ≤ 900) := by
    have h1 := HL.out
    have h2 := HPL.out.le
    show _ ≤ _
    simp
    omega
  obtain ⟨M, hM⟩ : ∃ M, M = H.take i ++ x :: H.drop i := ⟨_, rfl⟩
  have HMM : Hid (M = H.take i ++ x :: H.drop i) := hM
  rw [← hM] at HINS HLN
  have l1 : fb < w2.heap.size := block_lt HF2.out.1.blk
  have l2 : w.heap.size < w2.heap.size := cell_lt e0
  clear hB bB kB hM
  go_wp2_with fail
  go_region_with (go_at_call 56; rw [show (w2.alloc (.cells #[.int .i64 x.t, .int .i64 x.n, .int .i64 x.sq, .slice x.sp x.ns.length x.sc, .slice x.dp x.bs.length x.dc] 43)).drew = B from HBE.out.symm]; refine HINS.out.mono ?_; clear HINS; rintro e w4 ⟨v4, rfl, hr4, hg4, ho4⟩; obtain ⟨p4, c4, rfl, _⟩ := hr4.shape; have H4 : Hid (RowV w4 0 (.slice p4 M.length c4) M ∧ B.grownBy w4 (Value.slice ph H.length ch).ownBlock ∧ ((Value.slice p4 M.length c4).ownBlock = (Value.slice ph H.length ch).ownBlock ∨ (Value.slice p4 M.length c4).ownBlock = some B.heap.size)) := ⟨hr4, hg4, ho4⟩; have hO4 : Only (fun b => (Value.slice ph H.length ch).ownBlock = some b) B w4 := ⟨hg4.os, hg4.tape, hg4.output, hg4.size, fun k hk hn => hg4.block k hk (fun e => hn e.symm)⟩; have k4 := (hO4.block fb (block_lt HBB.out.1.blk) HBB.out.1.rowne).trans HBB.out.1.blk; have k5 : w4.cell? ⟨fb, 2, none⟩ = some (.slice ph H.length ch) := cellOf k4 2; have k6 := frozenOf k4 2; have HO4 : Hid (Only (fun b => (Value.slice ph H.length ch).ownBlock = some b) B w4) := hO4; clear hr4 hg4 ho4 hO4 k4)
  all_goals
    have bwB : Below w.heap.size w B := below_thenH HB.out (below_thenH HF2.out.2 HBB.out.2.1)
    have hxw : VOwn w4 0 x := (HV.out.below bwB).kept HO4.out (fun b hb => HBB.out.1.hard b (.inr (.inr hb)))
    have F5 := HBB.out.1.setHeads HO4.out H4.out.1 (fun y hy => by
      rw [HMM.out, List.mem_append, List.mem_cons] at hy
      rcases hy with hy | rfl | hy
      · exact HBB.out.1.headsAfter HO4.out y (List.mem_of_mem_take hy)
      · exact hxw
      · exact HBB.out.1.headsAfter HO4.out y (List.mem_of_mem_drop hy)) HLN.out
    have HFF : Hid (FMem (w4.setCell ⟨fb, 2, none⟩ (.slice p4 M.length c4)) fb E sn M mv sp sc (.slice p4 M.length c4) ∧ Only (Foot fb mv (.slice ph H.length ch)) w (w4.setCell ⟨fb, 2, none⟩ (.slice p4 M.length c4))) := ⟨F5.1, (Below.only bwB _).next F5.2⟩
    have HOB : Hid ((Value.slice p4 M.length c4).ownBlock = (Value.slice ph H.length ch).ownBlock ∨ ∃ g, (Value.slice p4 M.length c4).ownBlock = some g ∧ w.heap.size ≤ g) := by
      rcases H4.out.2.2 with e | e
      · exact .inl e
      · exact .inr ⟨_, e, bwB.size⟩
    clear bwB hxw F5
    go_end0
    refine ⟨rfl, i, _, HPL.out, ?_, HFF.out.2, HOB.out⟩
    rw [← HMM.out]
    exact HFF.out.1

end Go.Proofs.Yteimjkicinjcgaa.Ck.Y.L

/-
  What a file knows of its versions, as lists alone.
-/
namespace Go.Proofs.Yteimjkicinjcgaa.Ck.Y.L
open Go.RowKit Go.Maps

def VC.key (c : VC) : KP := (c.t, c.n)
def ltC (x y : VC) : Prop := lessB x.t x.n y.t y.n = true
/-- What a file knows: for each node the most that was seen; its heads, by rising stamps. -/
structure HF (S : List VC) (sn : List Int) (H : List VC) : Prop where
  seen : ∀ k, k < 64 → Vc.atOf sn k = Vc.maxAt (S.map (·.ns)) k
  rise : H.Pairwise ltC
  mem : ∀ x, x ∈ H ↔ x ∈ S ∧ seenB x.sq x.n sn = false
theorem ltC_trans {x y z : VC} (h : ltC x y) (k : ltC y z) : ltC x z := by
  unfold ltC at *
  rw [lessB_true] at *; omega
theorem ltC_irrefl (x : VC) : ¬ ltC x x := by
  unfold ltC
  rw [lessB_true]; omega
theorem ltC_or {x y : VC} (h : ¬ ltC x y) (hk : x.key ≠ y.key) : ltC y x := by
  unfold ltC at *
  rw [lessB_true] at *
  have : ¬ (x.t = y.t ∧ x.n = y.n) := fun e => hk (Prod.ext e.1 e.2)
  omega
theorem HF.nil : HF [] [] [] := ⟨fun k _ => by simp [Vc.atOf, Vc.maxAt], List.Pairwise.nil, fun x => by simp⟩
theorem seeN_at {sn ns : List Int} (k : Nat) (hk : k < 64) : Vc.atOf (seeN sn ns) k = max (Vc.atOf sn k) (Vc.atOf ns k) := by
  unfold seeN
  split
  · next hl =>
    have := (Vc.leqB_iff ns sn).1 hl k hk
    omega
  · rw [Vc.at_max hk, Vc.maxAt_two]
theorem atZ_see {sn ns : List Int} (z : Int) : Vc.atZ (seeN sn ns) z = max (Vc.atZ sn z) (Vc.atZ ns z) := by
  unfold Vc.atZ
  split
  · next hz => exact seeN_at _ (by omega)
  · rfl
theorem HF.seen_add {S : List VC} {sn : List Int} {H : List VC} (h : HF S sn H) (c : VC) : ∀ k, k < 64 → Vc.atOf (seeN sn c.ns) k = Vc.maxAt ((S ++ [c]).map (·.ns)) k := by
  intro k hk
  rw [seeN_at k hk, List.map_append, List.map_cons, List.map_nil, Vc.maxAt_snoc, h.seen k hk]
theorem seenB_less {sn ns : List Int} {sq n : Int} (hf : seenB sq n (seeN sn ns) = false) : seenB sq n sn = false := by
  unfold seenB at *
  rw [atZ_see] at hf
  simp only [decide_eq_false_iff_not] at *
  omega
def keepC (sn : List Int) (x : VC) : Bool := !seenB x.sq x.n sn
theorem HF.mem_add {S : List VC} {sn : List Int} {H : List VC} (h : HF S sn H) (c x : VC) : x ∈ H.filter (keepC (seeN sn c.ns)) ↔ x ∈ S ∧ seenB x.sq x.n (seeN sn c.ns) = false := by
  rw [List.mem_filter, h.mem]
  unfold keepC
  constructor
  · rintro ⟨⟨h1, _⟩, h2⟩; exact ⟨h1, by simpa using h2⟩
  · rintro ⟨h1, h2⟩; exact ⟨⟨h1, seenB_less h2⟩, by simpa using h2⟩
/-- One more, that was seen already. -/
theorem HF.add_seen {S : List VC} {sn : List Int} {H : List VC} (h : HF S sn H) (c : VC) (hs : seenB c.sq c.n (seeN sn c.ns) = true) : HF (S ++ [c]) (seeN sn c.ns) (H.filter (keepC (seeN sn c.ns))) := by
  refine ⟨h.seen_add c, h.rise.filter _, fun x => ?_⟩
  rw [h.mem_add, List.mem_append, List.mem_singleton]
  constructor
  · rintro ⟨h1, h2⟩; exact ⟨.inl h1, h2⟩
  · rintro ⟨h1 | rfl, h2⟩
    · exact ⟨h1, h2⟩
    · rw [hs] at h2; cases h2
/-- One more head. -/
theorem HF.add_new {S : List VC} {sn : List Int} {H : List VC} (h : HF S sn H) (c : VC) (hk : c.key ∉ S.map VC.key) (hs : seenB c.sq c.n (seeN sn c.ns) = false) {i : Nat}
    (hlo : ∀ x ∈ (H.filter (keepC (seeN sn c.ns))).take i, ltC x c) (hhi : ∀ x ∈ (H.filter (keepC (seeN sn c.ns))).drop i, ¬ ltC x c) :
    HF (S ++ [c]) (seeN sn c.ns) ((H.filter (keepC (seeN sn c.ns))).take i ++ c :: (H.filter (keepC (seeN sn c.ns))).drop i) := by
  have hr : (H.filter (keepC (seeN sn c.ns))).Pairwise ltC := h.rise.filter _
  have hm : ∀ x, x ∈ (H.filter (keepC (seeN sn c.ns))).take i ++ (H.filter (keepC (seeN sn c.ns))).drop i ↔ x ∈ S ∧ seenB x.sq x.n (seeN sn c.ns) = false := fun x => by rw [List.take_append_drop]; exact h.mem_add c x
  have hr2 : ((H.filter (keepC (seeN sn c.ns))).take i ++ (H.filter (keepC (seeN sn c.ns))).drop i).Pairwise ltC := by rw [List.take_append_drop]; exact hr
  generalize (H.filter (keepC (seeN sn c.ns))).take i = A at *
  generalize (H.filter (keepC (seeN sn c.ns))).drop i = B at *
  have hp := List.pairwise_append.1 hr2
  refine ⟨h.seen_add c, List.pairwise_append.2 ⟨hp.1, List.pairwise_cons.2 ⟨fun b hb => ?_, hp.2.1⟩, fun a ha b hb => ?_⟩, fun x => ?_⟩
  · refine ltC_or (hhi b hb) fun e => hk ?_
    rw [← e]
    exact List.mem_map_of_mem ((hm b).1 (List.mem_append.2 (.inr hb))).1
  · rcases List.mem_cons.1 hb with rfl | hb
    · exact hlo a ha
    · exact hp.2.2 a ha b hb
  · have e : x ∈ A ++ c :: B ↔ x = c ∨ x ∈ A ++ B := by simp [or_left_comm]
    rw [e, hm, List.mem_append, List.mem_singleton]
    constructor
    · rintro (rfl | ⟨h1, h2⟩)
      · exact ⟨.inr rfl, hs⟩
      · exact ⟨.inl h1, h2⟩
    · rintro ⟨h1 | rfl, h2⟩
      · exact .inr ⟨h1, h2⟩
      · exact .inl rfl
/-- The heads are one list alone. -/
theorem rise_unique : ∀ {l m : List VC}, l.Pairwise ltC → m.Pairwise ltC → (∀ x, x ∈ l ↔ x ∈ m) → l = m
  | [], [], _, _, _ => rfl
  | [], y :: m, _, _, h => by have := (h y).2 List.mem_cons_self; simp at this
  | x :: l, [], _, _, h => by have := (h x).1 List.mem_cons_self; simp at this
  | x :: l, y :: m, hl, hm, h => by
    have h1 := List.pairwise_cons.1 hl
    have h2 := List.pairwise_cons.1 hm
    have e : x = y := by
      rcases List.mem_cons.1 ((h x).1 List.mem_cons_self) with e | e
      · exact e
      · rcases List.mem_cons.1 ((h y).2 List.mem_cons_self) with e' | e'
        · exact e'.symm
        · exact absurd (ltC_trans (h1.1 y e') (h2.1 x e)) (ltC_irrefl x)
    subst e
    rw [rise_unique h1.2 h2.2 fun z => ?_]
    constructor
    · intro hz
      rcases List.mem_cons.1 ((h z).1 (List.mem_cons_of_mem _ hz)) with e | e
      · subst e; exact absurd (h1.1 z hz) (ltC_irrefl z)
      · exact e
    · intro hz
      rcases List.mem_cons.1 ((h z).2 (List.mem_cons_of_mem _ hz)) with e | e
      · subst e; exact absurd (h2.1 z hz) (ltC_irrefl z)
      · exact e
/-- One that no other has seen. -/
def headC (S : List VC) (x : VC) : Bool := S.all fun c => !seenB x.sq x.n c.ns
theorem HF.headC {S : List VC} {sn : List Int} {H : List VC} (h : HF S sn H) {x : VC} (hq : 1 ≤ x.sq) : seenB x.sq x.n sn = false ↔ headC S x = true := by
  unfold L.headC seenB
  simp only [decide_eq_false_iff_not, List.all_eq_true, Bool.not_eq_true']
  unfold Vc.atZ
  by_cases hz : 0 ≤ x.n ∧ x.n < 64
  · simp only [hz, and_self, if_true]
    rw [h.seen _ (by omega)]
    have key' : ∀ l : List VC, (x.sq ≤ Vc.maxAt (l.reverse.map (·.ns)) x.n.toNat ↔ ∃ c ∈ l.reverse, x.sq ≤ Vc.atOf c.ns x.n.toNat) := by
      intro l
      induction l with
      | nil => simp [Vc.maxAt]; omega
      | cons c l ih =>
        rw [List.reverse_cons, List.map_append, List.map_cons, List.map_nil, Vc.maxAt_snoc]
        constructor
        · intro hm
          by_cases hc : x.sq ≤ Vc.atOf c.ns x.n.toNat
          · exact ⟨c, by simp, hc⟩
          · obtain ⟨d, hd, e⟩ := ih.1 (by omega)
            exact ⟨d, by simp [hd], e⟩
        · rintro ⟨d, hd, e⟩
          rcases List.mem_append.1 hd with hd | hd
          · have := ih.2 ⟨d, hd, e⟩; omega
          · have : d = c := by simpa using hd
            subst this; omega
    have key := key' S.reverse
    rw [List.reverse_reverse] at key
    rw [key]
    constructor
    · intro hn c hc hle
      exact hn ⟨c, hc, hle⟩
    · rintro hn ⟨c, hc, hle⟩
      exact hn c hc hle
  · simp only [hz, if_false]
    constructor
    · intro _ c _; omega
    · intro _; omega

end Go.Proofs.Yteimjkicinjcgaa.Ck.Y.L

/-
  A vector without the zeros at its end.
-/
namespace Go.Proofs.Yteimjkicinjcgaa.Cd
open Go.RowKit

/-- How many of the first k are left without the zeros at the end. -/
def tl (ns : List Int) : Nat → Nat
  | 0 => 0
  | k + 1 => if ns[k]? = some 0 then tl ns k else k + 1
theorem tl_le (ns : List Int) : ∀ k, tl ns k ≤ k
  | 0 => Nat.le_refl _
  | k + 1 => by
    rw [tl]; split
    · exact Nat.le_succ_of_le (tl_le ns k)
    · exact Nat.le_refl _
end Go.Proofs.Yteimjkicinjcgaa.Cd

/-
  Vectors of the document's own text: At, short, Norm, May, Is; Same of two IDs.
-/
namespace Go.Proofs.Yteimjkicinjcgaa.Cd
open Go.RowKit

def okN (x : Int) : Bool := decide (0 ≤ x) && decide (x ≤ 1152921504606846976)
def atOf (ns : List Int) (k : Nat) : Int := match ns[k]? with
  | some x => if okN x then x else 0
  | none => 0
def allOf (ns : List Int) (n : Nat) : List Int := (List.range n).map (atOf ns)
def normOf (ns : List Int) : List Int := (allOf ns 64).take (tl (allOf ns 64) 64)
def mayB (ns : List Int) : Bool := decide (tl ns ns.length ≤ 64) && (ns.take (tl ns ns.length)).all okN

set_option maxRecDepth 8000 in
set_option maxRecDepth 8000 in
set_option maxHeartbeats 400000 in
theorem at_any (p : Option Addr) (ns : List Int) (cp k : Nat) (w : World) (hp : Lies w p (ns.map iv)) (hk : k < 64) :
    Calls Try.prog 22 #[.slice p ns.length cp, .int .i64 k] w fun e w' => e = .returned (.int .i64 (atOf ns k)) ∧ w' = w := by
  have h0 : ¬ (k : Int) < 0 := by omega
  have h1 : ¬ (64 : Int) ≤ k := by omega
  by_cases hl : k < ns.length
  · obtain ⟨b, o, rfl, hx⟩ := hp (by simp; omega)
    obtain ⟨x, hxx⟩ : ∃ x, ns[k]? = some x := ⟨_, List.getElem?_eq_getElem hl⟩
    have c1 := hx k (iv x) (by rw [List.getElem?_map, hxx]; rfl)
    have HE : Hid (atOf ns k = if okN x then x else 0) := by show atOf ns k = _; unfold atOf; rw [hxx]
    have hl' : ¬ (ns.length : Int) ≤ k := by omega
    clear hx hxx hp
    by_cases hn : x < 0
    · have HO : Hid (okN x = false) := by simp [Hid, okN]; omega
      go_enter Try.func22, Try.ntmps22
      go_wp2
      go_ret
      rw [HE.out, HO.out]
      exact ⟨rfl, rfl⟩
    · by_cases hm : (1152921504606846976 : Int) < x
      · have HO : Hid (okN x = false) := by simp [Hid, okN]; omega
        go_enter Try.func22, Try.ntmps22
        go_wp2
        go_ret
        rw [HE.out, HO.out]
        exact ⟨rfl, rfl⟩
      · have HO : Hid (okN x = true) := by simp [Hid, okN]; omega
        go_enter Try.func22, Try.ntmps22
        go_wp2
        go_ret
        rw [HE.out, HO.out]
        exact ⟨rfl, rfl⟩
  · have HE : Hid (atOf ns k = 0) := by show atOf ns k = _; unfold atOf; rw [List.getElem?_eq_none (by omega)]
    have hl' : (ns.length : Int) ≤ k := by omega
    clear hp
    go_enter Try.func22, Try.ntmps22
    go_wp2
    go_ret
    rw [HE.out]
    exact ⟨rfl, rfl⟩

set_option maxRecDepth 8000 in
set_option maxRecDepth 8000 in
set_option maxHeartbeats 400000 in
theorem qshort_any (g : Nat) (ns : List Int) (cp : Nat) (w : World) (hl : ns.length ≤ cp) (hl1 : ns.length ≤ 1000) (hp : Lies w (some ⟨g, 0, none⟩) (ns.map iv)) :
    Calls Try.prog 38 #[.slice (some ⟨g, 0, none⟩) ns.length cp] w fun e w' => e = .returned (.slice (some ⟨g, 0, none⟩) (tl ns ns.length) (tl ns ns.length)) ∧ w' = w := by
  have HP : Hid (Lies w (some ⟨g, 0, none⟩) (ns.map iv)) := hp
  clear hp
  go_enter Try.func38, Try.ntmps38
  go_wp2_with fail
  go_loop [3] (fun vv => ∃ k : Nat, vv = .int .i64 k ∧ k ≤ ns.length ∧ Hid (tl ns k = tl ns ns.length)) (fun vv => (intOf vv).toNat)
  case atStart => exact ⟨_, rfl, Nat.le_refl _, rfl⟩
  case round =>
    obtain ⟨k, rfl, hk, HE⟩ := hrel
    cases k with
    | zero =>
      go_wp2
      go_ret
      refine ⟨?_, rfl⟩
      have := HE.out
      rw [tl] at this
      rw [← this]
      rfl
    | succ k =>
      obtain ⟨b, o, e, hc⟩ := HP.out (by simp; omega)
      cases e
      obtain ⟨x, hx⟩ : ∃ x, ns[k]? = some x := ⟨_, List.getElem?_eq_getElem (by omega)⟩
      have c1 := hc k (iv x) (by rw [List.getElem?_map, hx]; rfl)
      rw [Nat.zero_add] at c1
      have HX : Hid (ns[k]? = some x) := hx
      clear hc hx
      by_cases hz : x = 0
      · subst hz
        go_wp2
        go_round
        case rel =>
          refine ⟨k, by go_num, by omega, ?_⟩
          have := HE.out
          rw [tl, if_pos HX.out] at this
          exact this
        case measure => simp [intOf]
      · have hz' : (x == 0) = false := by simpa using hz
        go_wp2
        go_ret
        refine ⟨?_, rfl⟩
        have := HE.out
        rw [tl, if_neg (by rw [HX.out]; intro e; cases e; exact hz rfl)] at this
        rw [← this]
        rfl

theorem allOf_succ (ns : List Int) (n : Nat) : allOf ns (n + 1) = allOf ns n ++ [atOf ns n] := by simp [allOf, List.range_succ]
theorem allOf_length (ns : List Int) (n : Nat) : (allOf ns n).length = n := by simp [allOf]

theorem wpList_append_num {W : World} {ops : Array Oper} {rest : List Oper} {o : Oper} {a : Act} {Q : Exit → Act → World → Prop} (hgd : o.guard = none) (s x : Operand) (t e : TypeId)
    (ho : o.op = .call { callee := .builtin .append, args := #[s, x], argTypes := #[t, t] }) (ht : Try.prog.underlying t = some (.slice e)) (hie : (Try.prog.info? e).map (fun i => (i.zero, i.size, i.bytes)) = some (some (.int .i64 0), 1, 8))
    (base : Nat) (v : Value) (n : Nat) (xs : List Value) (hs : a.eval s = v) (W0 : World) (y : Int) (hW : W = W0.alloc (.cells #[.int .i64 y] e)) (hown : Hid (W0.ownsRow base e 1 v n xs))
    (hx : a.eval x = .slice (some ⟨W0.heap.size, 0, none⟩) 1 1) (h63 : Hid (n ≤ 1000000)) (hbase : Hid (base ≤ W0.heap.size))
    (h : ∀ v' w', Hid (w'.ownsRow base e 1 v' (n + 1) (xs ++ [.int .i64 y])) → Hid (W.grownBy w' v.ownBlock) → Hid (v'.ownBlock = v.ownBlock ∨ v'.ownBlock = some W.heap.size) → wpList Try.prog ops Q rest (a.put o.dst v') w') :
    wpList Try.prog ops Q (o :: rest) a W := by
  obtain ⟨i0, hi0, hz0, hz1, hz2⟩ := info_parts hie
  subst hW
  refine wpList_append_own_at _ hgd s x t ho base e i0 (.int .i64 0) 1 8 ht hi0 hz0 hz1 hz2 rfl (by decide) v n xs hs (hown.out.alloc _) ⟨W0.heap.size, 0, none⟩ 1 1 [.int .i64 y] hx rfl (cell_one_new _ _ _) (by simp [Value.oneCell'])
    (by have := h63.out; unfold maxLen; omega) (by have := h63.out; omega) (by have := hbase.out; simp; omega) ?_
  intro v' w' h1 h2 _ h4
  exact h v' w' h1 h2 h4

set_option maxRecDepth 8000 in
set_option maxRecDepth 8000 in
set_option maxHeartbeats 400000 in
theorem norm_any (p : Option Addr) (ns : List Int) (cp : Nat) (w : World) (hp : Lies w p (ns.map iv)) :
    Calls Try.prog 37 #[.slice p ns.length cp] w fun e w' => ∃ g c, e = .returned (.slice (some ⟨g, 0, none⟩) (normOf ns).length c) ∧ w.heap.size ≤ g ∧ Lies w' (some ⟨g, 0, none⟩) ((normOf ns).map iv) ∧ Below w.heap.size w w' := by
  have HP : Hid (Lies w p (ns.map iv)) := hp
  clear hp
  go_enter Try.func37, Try.ntmps37
  go_wp2_with fail
  go_loopw [3, 4] (fun vv ii wr => ∃ i : Nat, ii = .int .i64 i ∧ i ≤ 64 ∧ Hid (wr.ownsRow w.heap.size 2 1 vv i ((allOf ns i).map iv)) ∧ Hid (Below w.heap.size w wr)) (fun _ ii _ => 64 - (intOf ii).toNat)
  case atStart => exact ⟨0, rfl, by omega, World.ownsRow_nil _ _ _ _, Below.refl _ _⟩
  case round =>
    obtain ⟨i, rfl, hi, HO, HB⟩ := hrel
    by_cases hlt : i < 64
    · have hltI : (i : Int) < 64 := by omega
      have c66 := at_any p ns cp i wr (below_lies HB.out HP.out) hlt
      generalize hy : atOf ns i = y at c66
      have HY : Hid (atOf ns i = y) := hy
      have H1 : Hid (i ≤ 1000000) := by show _ ≤ _; omega
      have H2 : Hid (w.heap.size ≤ wr.heap.size) := HB.out.size
      have tok : True := trivial
      clear hy
      go_wp2_with (first
        | (go_at_call 22; refine Calls_on c66 ?_)
        | (have tk := tok; refine wpList_append_num rfl _ _ 33 2 rfl Try.underlying33 Try.info2 w.heap.size _ i _ rfl wr y rfl HO rfl H1 H2 ?_; clear tk tok; intro v' w1 K1 K2 K3))
      go_roundw
      case rel =>
        refine ⟨i + 1, by go_num, by omega, ?_, ?_⟩
        · rw [allOf_succ, List.map_append, HY.out]; exact K1
        · exact (HB.out.alloc HB.out.size _).grown K2.out (by have := H2.out; simp; omega) (fun k hk => (own_lt HO.out hk).1)
      case measure => simp [intOf]; omega
    · obtain rfl : i = 64 := by omega
      have hown := HO.out
      obtain ⟨g, cap, hv, hg, _⟩ := hown.form (by decide)
      subst hv
      obtain ⟨hl0, p', c', e1, hc', hlies, hob⟩ := owns_lies hown
      simp only [Value.slice.injEq] at e1
      obtain ⟨rfl, e2, rfl⟩ := e1
      have c67 := qshort_any g (allOf ns 64) cap wr (by rw [allOf_length]; simpa [allOf_length] using hc') (by rw [allOf_length]; decide) hlies
      rw [allOf_length] at c67
      have HL : Hid (Lies wr (some ⟨g, 0, none⟩) ((allOf ns 64).map iv)) := hlies
      have HG : Hid (w.heap.size ≤ g) := hg
      have HN : Hid ((normOf ns).length = tl (allOf ns 64) 64) := by
        show _ = _
        unfold normOf; rw [List.length_take, allOf_length]; exact Nat.min_eq_left (tl_le _ _)
      have HBW : Hid (Below w.heap.size w wr) := HB
      obtain ⟨t, ht⟩ : ∃ t, tl (allOf ns 64) 64 = t := ⟨_, rfl⟩
      rw [ht] at c67 HN
      clear hown hc' hlies hlt e2 hg ht hi HO hl0 hob
      go_wp2_with (go_at_call 38; refine Calls_on c67 ?_)
      go_ret
      refine ⟨g, _, by rw [HN.out]; rfl, HG.out, ?_, HB.out⟩
      unfold normOf
      rw [List.map_take]
      have := HL.out
      intro hl
      obtain ⟨b, o, e, hx⟩ := this (by simp [allOf_length])
      refine ⟨b, o, e, fun j x hj => hx j x ?_⟩
      rw [List.getElem?_take] at hj
      split at hj
      · exact hj
      · cases hj

set_option maxRecDepth 8000 in
set_option maxRecDepth 8000 in
set_option maxHeartbeats 400000 in
theorem may_any (p : Option Addr) (ns : List Int) (cp : Nat) (w : World) (hl1 : ns.length ≤ 1000) (hp : Lies w p (ns.map iv)) :
    Calls Try.prog 42 #[.slice p ns.length cp] w fun e w' => e = .returned (.bool (mayB ns)) ∧ w' = w := by
  have HP : Hid (Lies w p (ns.map iv)) := hp
  clear hp
  go_enter Try.func42, Try.ntmps42
  go_wp2_with fail
  go_loop [3] (fun vv => ∃ k : Nat, vv = .int .i64 k ∧ k ≤ ns.length ∧ Hid (tl ns k = tl ns ns.length)) (fun vv => (intOf vv).toNat)
  case atStart => exact ⟨_, rfl, Nat.le_refl _, rfl⟩
  case round =>
    obtain ⟨k, rfl, hk, HE⟩ := hrel
    have done : tl ns k = k → True := fun _ => trivial
    by_cases hend : k = 0 ∨ ∃ j x, k = j + 1 ∧ ns[j]? = some x ∧ x ≠ 0
    · have HT : Hid (tl ns ns.length = k) := by
        show _ = _
        rw [← HE.out]
        rcases hend with rfl | ⟨j, x, rfl, hx, hz⟩
        · rfl
        · rw [tl, if_neg (by rw [hx]; intro e; cases e; exact hz rfl)]
      have hM : Hid (mayB ns = (decide (k ≤ 64) && (ns.take k).all okN)) := by show mayB ns = _; unfold mayB; rw [HT.out]
      clear done HE
      by_cases h64 : 64 < k
      · have h64I : (64 : Int) < k := by omega
        have hMf : Hid (mayB ns = false) := by show _ = _; rw [hM.out, decide_eq_false (by omega)]; rfl
        rcases hend with rfl | ⟨j, x, rfl, hx, hz⟩
        · omega
        · obtain ⟨b, o, rfl, hc⟩ := HP.out (by simp; omega)
          have c1 := hc j (iv x) (by rw [List.getElem?_map, hx]; rfl)
          have hz' : (x == 0) = false := by simpa using hz
          clear hc hx h64
          go_wp2
          go_ret
          rw [hMf.out]
          exact ⟨rfl, rfl⟩
      · rcases hend with rfl | ⟨j, x, rfl, hx, hz⟩
        · clear h64
          go_wp2_with fail
          go_loop [4] (fun ii => ii = .int .i64 0) (fun _ => 0)
          case atStart => rfl
          case round =>
            subst hrel
            have HT : Hid (mayB ns = true) := by show _ = _; rw [hM.out]; rfl
            go_wp2
            go_ret
            rw [HT.out]
            exact ⟨rfl, rfl⟩
        · obtain ⟨b, o, rfl, hc⟩ := HP.out (by simp; omega)
          have c1 := hc j (iv x) (by rw [List.getElem?_map, hx]; rfl)
          have hz' : (x == 0) = false := by simpa using hz
          have h64' : ¬ (64 : Int) < (j : Int) + 1 := by omega
          clear hc hx hz
          go_wp2_with fail
          go_loop [4] (fun ii => ∃ i : Nat, ii = .int .i64 i ∧ i ≤ (j + 1) ∧ Hid ((ns.take i).all okN = true)) (fun ii => (j + 1) - (intOf ii).toNat)
          case atStart => exact ⟨0, rfl, by omega, by simp [Hid]⟩
          case round =>
            obtain ⟨i, rfl, hi, HA⟩ := hrel
            by_cases hlt : i < (j + 1)
            · have hltI : (i : Int) < (j : Int) + 1 := by omega
              obtain ⟨b2, o2, e2, hc2⟩ := HP.out (by simp; omega)
              cases e2
              obtain ⟨y, hy⟩ : ∃ y, ns[i]? = some y := ⟨_, List.getElem?_eq_getElem (by omega)⟩
              have c2 := hc2 i (iv y) (by rw [List.getElem?_map, hy]; rfl)
              have hgo : (ns.take (i + 1)).all okN = okN y := by rw [List.take_add_one, hy, List.all_append, HA.out]; simp
              have HGO : Hid ((ns.take (i + 1)).all okN = okN y) := hgo
              have HBAD : Hid (okN y = false → mayB ns = false) := fun hno => by
                rw [hM.out]
                have : ns.take (j + 1) = ns.take (i + 1) ++ (ns.take (j + 1)).drop (i + 1) := by
                  conv => lhs; rw [← List.take_append_drop (i + 1) (ns.take (j + 1)), List.take_take, Nat.min_eq_left (by omega)]
                rw [this, List.all_append, hgo, hno]; simp
              clear hc2 hy hgo
              by_cases hn : y < 0
              · have HN : Hid (okN y = false) := by simp [Hid, okN]; omega
                go_wp2
                go_ret
                rw [HBAD.out HN.out]
                exact ⟨rfl, rfl⟩
              · by_cases hm : (1152921504606846976 : Int) < y
                · have HN : Hid (okN y = false) := by simp [Hid, okN]; omega
                  go_wp2
                  go_ret
                  rw [HBAD.out HN.out]
                  exact ⟨rfl, rfl⟩
                · have HN : Hid (okN y = true) := by simp [Hid, okN]; omega
                  go_wp2
                  go_round
                  case rel => exact ⟨i + 1, by go_num, by omega, HGO.out.trans HN.out⟩
                  case measure => simp [intOf]; omega
            · obtain rfl : i = j + 1 := by omega
              have HT : Hid (mayB ns = true) := by show _ = _; rw [hM.out, HA.out, decide_eq_true (by omega)]; rfl
              clear hlt
              go_wp2
              go_ret
              rw [HT.out]
              exact ⟨rfl, rfl⟩
    · obtain ⟨j, rfl⟩ : ∃ j, k = j + 1 := ⟨k - 1, by rcases Nat.eq_zero_or_pos k with h | h; exact absurd (.inl h) hend; omega⟩
      obtain ⟨x, hx⟩ : ∃ x, ns[j]? = some x := ⟨_, List.getElem?_eq_getElem (by omega)⟩
      have hz : x = 0 := Decidable.byContradiction fun h => hend (.inr ⟨j, x, rfl, hx, h⟩)
      subst hz
      obtain ⟨b, o, rfl, hc⟩ := HP.out (by simp; omega)
      have c1 := hc j (iv 0) (by rw [List.getElem?_map, hx]; rfl)
      have HX : Hid (ns[j]? = some 0) := hx
      clear hc hx hend done
      go_wp2
      go_round
      case rel =>
        refine ⟨j, by go_num, by omega, ?_⟩
        have := HE.out
        rw [tl, if_pos HX.out] at this
        exact this
      case measure => simp [intOf]

end Go.Proofs.Yteimjkicinjcgaa.Cd

/-
  The document's own way to write: bytes, a truth, an ID, a vector.
-/
namespace Go.Proofs.Yteimjkicinjcgaa.Cd
open Go.RowKit

theorem own_base {W : World} {base base' e : Nat} {v : Value} {n : Nat} {xs : List Value} (h : W.ownsRow base e 1 v n xs) (hb : base' ≤ base) : W.ownsRow base' e 1 v n xs := by
  refine ⟨h.1, ?_⟩
  rcases h.2 with h0 | ⟨g, cap, cur, rfl, h1, r⟩
  · exact .inl h0
  · exact .inr ⟨g, cap, cur, rfl, Nat.le_trans hb h1, r⟩
theorem normOf_ok (ns : List Int) : ∀ x ∈ normOf ns, okN x = true := by
  intro x hx
  have := List.mem_of_mem_take hx
  unfold allOf at this
  obtain ⟨k, _, rfl⟩ := List.mem_map.1 this
  unfold atOf
  split
  · split
    · assumption
    · rfl
  · rfl
theorem normOf_le (ns : List Int) : (normOf ns).length ≤ 64 := by
  unfold normOf; rw [List.length_take, allOf_length]; omega
end Go.Proofs.Yteimjkicinjcgaa.Cd

/-
  The writes of a list of method values, in order; IDs.
-/
namespace Go.Proofs.Yteimjkicinjcgaa.Cd
open Go.RowKit

theorem enters {f : Nat} {fn : Func} {c : Code} (hf : Try.prog.funcs[f]? = some fn) (hname : (fn.name == "runtime.NumGoroutine") = false) (hb : fn.body = some c) : ∀ args w, (callFunc f args).run Try.prog w = .ok (.enter f args) w := by
  intro args w
  have h1 : fn.name ≠ "runtime.NumGoroutine" := by simpa using hname
  simp [callFunc, hf, h1, hb, mark]

theorem lies_take {w : World} {p : Option Addr} {xs : List Value} (h : Lies w p xs) (k : Nat) : Lies w p (xs.take k) := by
  intro hl
  obtain ⟨b, o, rfl, hx⟩ := h (by rw [List.length_take] at hl; omega)
  refine ⟨b, o, rfl, fun j x hj => hx j x ?_⟩
  rw [List.getElem?_take] at hj
  split at hj
  · exact hj
  · cases hj

end Go.Proofs.Yteimjkicinjcgaa.Cd

/-
  The reader of the document's own text: a vector.
-/
namespace Go.Proofs.Yteimjkicinjcgaa.Cd
open Go.RowKit

theorem tl_zero (ns : List Int) : ∀ (k j : Nat), tl ns k ≤ j → j < k → ns[j]? = some 0
  | 0, j => fun _ h => by omega
  | k + 1, j => fun h1 h2 => by
    rw [tl] at h1
    split at h1
    · by_cases hj : j = k
      · subst hj; assumption
      · exact tl_zero ns k j h1 (by omega)
    · omega
/-- Numbers as integers. -/
def zs (vs : List Nat) : List Int := vs.map fun n : Nat => (n : Int)
end Go.Proofs.Yteimjkicinjcgaa.Cd

/-
  What is written is what the document says, and is read again: as functions of lists of bytes.
-/
namespace Go.Proofs.Yteimjkicinjcgaa.Cd

theorem atOf_in (ns : List Int) (k : Nat) (x : Int) (h : ns[k]? = some x) (hx : okN x = true) : atOf ns k = x := by
  unfold atOf; rw [h]; simp [hx]
theorem allOf_get (ns : List Int) (n k : Nat) (h : k < n) : (allOf ns n)[k]? = some (atOf ns k) := by
  unfold allOf
  rw [List.getElem?_map, List.getElem?_range h]
  rfl
theorem tl_stop (ns : List Int) (m : Nat) (hm : m = 0 ∨ ∃ x, ns[m - 1]? = some x ∧ x ≠ 0) : ∀ k, m ≤ k → (∀ j, m ≤ j → j < k → ns[j]? = some 0) → tl ns k = m
  | 0, h, _ => by have : m = 0 := by omega
                  subst this; rfl
  | k + 1, h, hz => by
    by_cases hk : m = k + 1
    · subst hk
      rw [tl, if_neg]
      rcases hm with h | ⟨x, hx, hne⟩
      · omega
      · rw [show k = k + 1 - 1 from rfl, hx]; intro e; cases e; exact hne rfl
    · rw [tl, if_pos (hz k (by omega) (by omega))]
      exact tl_stop ns m hm k (by omega) (fun j h1 h2 => hz j h1 (by omega))
/-- What was written, and more; none: it cannot be. -/
def app (o s : St) : St := match o with
  | some e => s.map (· ++ e)
  | none => none

theorem tl_last (ns : List Int) : ∀ k, tl ns k = 0 ∨ ns[tl ns k - 1]? ≠ some 0
  | 0 => .inl rfl
  | k + 1 => by
    rw [tl]
    split
    · exact tl_last ns k
    · right; assumption
theorem norm_take (ns : List Int) (h : mayB ns = true) : normOf ns = ns.take (tl ns ns.length) := by
  unfold mayB at h
  rw [Bool.and_eq_true, decide_eq_true_eq, List.all_eq_true] at h
  obtain ⟨h1, h2⟩ := h
  have hle := tl_le ns ns.length
  obtain ⟨k, hk⟩ : ∃ k, tl ns ns.length = k := ⟨_, rfl⟩
  have hzero := fun j => tl_zero ns ns.length j
  rw [hk] at h1 h2 hle hzero ⊢
  have hA : ∀ j, j < k → (allOf ns 64)[j]? = ns[j]? := fun j hj => by
    have hjl : j < ns.length := by omega
    rw [allOf_get ns 64 j (by omega), List.getElem?_eq_getElem hjl, atOf_in ns j ns[j] (List.getElem?_eq_getElem hjl) (h2 _ (by
      rw [List.mem_iff_getElem?]; exact ⟨j, by rw [List.getElem?_take, if_pos hj, List.getElem?_eq_getElem hjl]⟩))]
  have hz : ∀ j, k ≤ j → j < 64 → (allOf ns 64)[j]? = some 0 := fun j g1 g2 => by
    rw [allOf_get ns 64 j g2]
    unfold atOf
    by_cases hjl : j < ns.length
    · rw [hzero j g1 hjl]; rfl
    · rw [List.getElem?_eq_none (by omega)]
  have hlast : k = 0 ∨ ∃ x, ns[k - 1]? = some x ∧ x ≠ 0 := by
    rcases Nat.eq_zero_or_pos k with h0 | h0
    · exact .inl h0
    · right
      refine ⟨ns[k - 1], List.getElem?_eq_getElem (by omega), fun e => ?_⟩
      rcases tl_last ns ns.length with h | h
      · omega
      · rw [hk, List.getElem?_eq_getElem (by omega), e] at h
        exact h rfl
  have ht : tl (allOf ns 64) 64 = k := tl_stop _ _ (by
    rcases hlast with h0 | ⟨x, hx, hne⟩
    · exact .inl h0
    · by_cases h0 : k = 0
      · exact .inl h0
      · exact .inr ⟨x, by rw [hA _ (by omega)]; exact hx, hne⟩) 64 h1 hz
  unfold normOf
  rw [ht]
  apply List.ext_getElem?
  intro j
  rw [List.getElem?_take, List.getElem?_take]
  split
  · exact hA j (by assumption)
  · rfl

end Go.Proofs.Yteimjkicinjcgaa.Cd

/-
  The document's own text: short, Norm, With, Max, Min, each a vector in normal form.
-/
namespace Go.Proofs.Yteimjkicinjcgaa.Vc
open Go.RowKit

set_option maxRecDepth 8000 in
set_option maxRecDepth 8000 in
set_option maxHeartbeats 400000 in
theorem short_any (g : Nat) (ns : List Int) (cp : Nat) (w : World) (hl : ns.length ≤ cp) (hl1 : ns.length ≤ 1000) (hp : Lies w (some ⟨g, 0, none⟩) (ns.map iv)) :
    Calls Try.prog 38 #[.slice (some ⟨g, 0, none⟩) ns.length cp] w fun e w' => e = .returned (.slice (some ⟨g, 0, none⟩) (tl ns ns.length) (tl ns ns.length)) ∧ w' = w := by
  have HP : Hid (Lies w (some ⟨g, 0, none⟩) (ns.map iv)) := hp
  clear hp
  go_enter Try.func38, Try.ntmps38
  go_wp2_with fail
  go_loop [3] (fun vv => ∃ k : Nat, vv = .int .i64 k ∧ k ≤ ns.length ∧ Hid (tl ns k = tl ns ns.length)) (fun vv => (intOf vv).toNat)
  case atStart => exact ⟨_, rfl, Nat.le_refl _, rfl⟩
  case round =>
    obtain ⟨k, rfl, hk, HE⟩ := hrel
    cases k with
    | zero =>
      go_wp2
      go_ret
      refine ⟨?_, rfl⟩
      have := HE.out
      rw [tl] at this
      rw [← this]
      rfl
    | succ k =>
      obtain ⟨x, hx⟩ : ∃ x, ns[k]? = some x := ⟨_, List.getElem?_eq_getElem (by omega)⟩
      obtain ⟨b, o, e, c1⟩ := lies_at HP.out hx
      cases e
      rw [Nat.zero_add] at c1
      have HX : Hid (ns[k]? = some x) := hx
      clear hx
      by_cases hz : x = 0
      · subst hz
        go_wp2
        go_round
        case rel =>
          refine ⟨k, by go_num, by omega, ?_⟩
          have := HE.out
          rw [tl, if_pos HX.out] at this
          exact this
        case measure => simp [intOf]
      · have hz' : (x == 0) = false := by simpa using hz
        go_wp2
        go_ret
        refine ⟨?_, rfl⟩
        have := HE.out
        rw [tl, if_neg (by rw [HX.out]; intro e; cases e; exact hz rfl)] at this
        rw [← this]
        rfl

end Go.Proofs.Yteimjkicinjcgaa.Vc

/-
  The document's own text: Leq, Eq, Ahead, Is; the statement's Cut.
-/
namespace Go.Proofs.Yteimjkicinjcgaa.Vc
open Go.RowKit

set_option maxRecDepth 8000 in
set_option maxRecDepth 8000 in
set_option maxHeartbeats 400000 in
theorem rleq_any (p q : Option Addr) (a b : List Int) (cp cq : Nat) (w : World) (hp : Lies w p (a.map iv)) (hq : Lies w q (b.map iv)) :
    Calls Try.prog 57 #[.slice p a.length cp, .slice q b.length cq] w fun e w' => e = .returned (.bool (leqB a b)) ∧ w' = w := by
  have CA : Hid (∀ (k : Nat), k < 64 → Calls Try.prog 22 #[.slice p a.length cp, .int .i64 k] w fun e w'' => e = .returned (.int .i64 (atOf a k)) ∧ w'' = w) :=
    fun k hk => rat_nat p a cp k w hp hk
  have CB : Hid (∀ (k : Nat), k < 64 → Calls Try.prog 22 #[.slice q b.length cq, .int .i64 k] w fun e w'' => e = .returned (.int .i64 (atOf b k)) ∧ w'' = w) :=
    fun k hk => rat_nat q b cq k w hq hk
  clear hp hq
  generalize a.length = la at *
  generalize b.length = lb at *
  go_enter Try.func57, Try.ntmps57
  go_wp2
  go_loop [5] (fun ii => ∃ i : Nat, ii = .int .i64 i ∧ i ≤ 64 ∧ Hid (leqTo a b i = true)) (fun ii => 64 - (intOf ii).toNat)
  case atStart => exact ⟨0, rfl, by omega, rfl⟩
  case round =>
    obtain ⟨i, rfl, hi, HA⟩ := hrel
    by_cases hlt : i < 64
    · have hltI : (i : Int) < 64 := by omega
      have ca := CA.out i hlt
      have cb := CB.out i hlt
      by_cases hn : atOf b i < atOf a i
      · have HF : Hid (leqB a b = false) := leqB_false hlt (by omega)
        generalize atOf a i = x at *
        generalize atOf b i = y at *
        go_wp2_with (first | (go_at_call 22; refine Calls_on ca ?_; clear ca) | (go_at_call 22; refine Calls_on cb ?_; clear cb))
        go_ret
        rw [HF.out]
        exact ⟨rfl, rfl⟩
      · have HN : Hid (leqTo a b (i + 1) = true) := by show _ = _; rw [leqTo, HA.out, decide_eq_true (by omega)]; rfl
        generalize atOf a i = x at *
        generalize atOf b i = y at *
        go_wp2_with (first | (go_at_call 22; refine Calls_on ca ?_; clear ca) | (go_at_call 22; refine Calls_on cb ?_; clear cb))
        go_round
        case rel => exact ⟨i + 1, by go_num, by omega, HN⟩
        case measure => simp [intOf]; omega
    · obtain rfl : i = 64 := by omega
      have HT : Hid (leqB a b = true) := HA
      clear hlt
      go_wp2
      go_ret
      rw [HT.out]
      exact ⟨rfl, rfl⟩

set_option maxRecDepth 8000 in
set_option maxHeartbeats 400000 in
theorem req_any (p q : Option Addr) (a b : List Int) (cp cq : Nat) (w : World) (hp : Lies w p (a.map iv)) (hq : Lies w q (b.map iv)) :
    Calls Try.prog 32 #[.slice p a.length cp, .slice q b.length cq] w fun e w' => e = .returned (.bool (eqB a b)) ∧ w' = w := by
  have ca := rleq_any p q a b cp cq w hp hq
  have cb := rleq_any q p b a cq cp w hq hp
  rw [eqB_leq]
  generalize a.length = la at *
  generalize b.length = lb at *
  clear hp hq
  cases h1 : leqB a b with
  | false =>
    rw [h1] at ca
    clear cb h1
    go_enter Try.func32, Try.ntmps32
    go_wp2_with (go_at_call 57; refine Calls_on ca ?_)
    go_ret
    exact ⟨rfl, rfl⟩
  | true =>
    rw [h1] at ca
    clear h1
    generalize leqB b a = r at cb
    go_enter Try.func32, Try.ntmps32
    go_wp2_with (first | (go_at_call 57; refine Calls_on ca ?_; clear ca) | (go_at_call 57; refine Calls_on cb ?_))
    go_ret
    exact ⟨by simp, rfl⟩

def cut (ns : List Int) : List Int := ns.take 80
theorem cut_le (ns : List Int) : (cut ns).length ≤ 80 := by unfold cut; rw [List.length_take]; omega
set_option maxRecDepth 8000 in
set_option maxHeartbeats 400000 in
theorem cut_any (p : Option Addr) (ns : List Int) (cp : Nat) (w : World) (hl : ns.length ≤ cp) (hm : ns.length ≤ maxLen) :
    Calls Try.prog 40 #[.slice p ns.length cp] w fun e w' => e = .returned (.slice p (cut ns).length cp) ∧ w' = w := by
  unfold maxLen at hm
  by_cases h : 80 < ns.length
  · have hI : (80 : Int) < ns.length := by omega
    have HC : Hid ((cut ns).length = 80) := by show _ = _; unfold cut; rw [List.length_take]; omega
    generalize ns.length = n at *
    go_enter Try.func40, Try.ntmps40
    go_wp2
    go_ret
    rw [HC.out]
    exact ⟨rfl, rfl⟩
  · have hI : ¬ (80 : Int) < ns.length := by omega
    have HC : Hid ((cut ns).length = ns.length) := by show _ = _; unfold cut; rw [List.length_take]; omega
    go_enter Try.func40, Try.ntmps40
    go_wp2
    go_ret
    rw [HC.out]
    exact ⟨rfl, rfl⟩

end Go.Proofs.Yteimjkicinjcgaa.Vc

/-
  Strings as lists of bytes; which names may be: ops.Name, and the document's Name and Local.
-/
namespace Go.Proofs.Yteimjkicinjcgaa.Cd
open Go.RowKit

attribute [local go_sem] Oper.semAt_some

/-- A text as the list of its bytes. -/
def bas (l : List UInt8) : ByteArray := ⟨l.toArray⟩
theorem bas_data (l : List UInt8) : (bas l).data.toList = l := rfl
theorem bas_toList (l : List UInt8) : (bas l).toList = l := by rw [Lib.toList_data, bas_data]
theorem bas_of (s : ByteArray) : bas s.data.toList = s := Lib.mk_data s
theorem bas_size (l : List UInt8) : (bas l).size = l.length := by rw [Lib.size_eq, bas_data]
def bvs (l : List UInt8) : List (BitVec 8) := l.map UInt8.toBitVec
set_option maxRecDepth 8000 in
set_option maxHeartbeats 1000000 in
theorem lindex_any (s : ByteArray) (c : Int) (w : World) : Calls Try.prog 94 #[.string s, .int .u8 c] w fun e w' => e = .returned (.int .i64 (Lib.indexByte s.data.toList c.toNat.toUInt8)) ∧ w' = w := by
  go_enter Try.func94, Try.ntmps94
  go_wp2
  rw [run_callFunc_extern Try.func95 (by kernel_rfl) (by kernel_rfl) (by kernel_rfl) (e := Extern.BytealgIndexByte.indexByte) (by kernel_rfl), Lib.run_indexByteString]
  simp only [Result.andThen]
  rw [Oper.upon_value]
  go_wp2
  go_ret
  exact ⟨rfl, rfl⟩
set_option maxRecDepth 8000 in
set_option maxHeartbeats 1000000 in
theorem index_any (s : ByteArray) (c : Int) (w : World) : Calls Try.prog 93 #[.string s, .int .u8 c] w fun e w' => e = .returned (.int .i64 (Lib.indexByte s.data.toList c.toNat.toUInt8)) ∧ w' = w := by
  have h := lindex_any s c w
  go_enter Try.func93, Try.ntmps93
  go_wp2_with (go_at_call 94; refine Calls_on h ?_)
  go_ret
  exact ⟨rfl, rfl⟩
theorem index_neg {l : List UInt8} {c : UInt8} : 0 ≤ Lib.indexByte l c ↔ c ∈ l := by
  induction l with
  | nil => simp [Lib.indexByte]
  | cons x l ih =>
    unfold Lib.indexByte
    have := Lib.indexByte_ge l c
    by_cases h : x = c
    · subst h; simp
    · have h' : ¬ c = x := fun e => h e.symm
      simp only [beq_iff_eq, h, if_false, List.mem_cons, h', false_or, ← ih]
      split <;> omega

/-- Which names there may be: 0, or the error; of the local layer, and of an operation. -/
def fineN (s : List UInt8) : Int :=
  if s = [] ∨ s = [46] ∨ s = [46, 46] then 22 else if 0 ∈ s ∨ 47 ∈ s then 22 else if 64 < s.length then 36 else 0
def nameN (s : List UInt8) : Int := if (1 : UInt8) ∈ s then 22 else fineN s
def wrongB (s : List UInt8) : Bool := decide (0 ∈ s) || decide (1 ∈ s) || decide (47 ∈ s)
theorem nameN_def (s : List UInt8) : nameN s = if s = [] ∨ s = [46] ∨ s = [46, 46] then 22 else if wrongB s = true then 22 else if 64 < s.length then 36 else 0 := by
  unfold nameN fineN wrongB
  simp only [Bool.or_eq_true, decide_eq_true_eq]
  by_cases h1 : (1 : UInt8) ∈ s
  · simp only [h1, if_true, or_true, true_or]
    split <;> rfl
  · simp only [h1, if_false, or_false]

set_option maxRecDepth 8000 in
set_option maxHeartbeats 1000000 in
theorem wrong_any (l : List UInt8) (w : World) : Calls Try.prog 89 #[.string (bas l)] w fun e w' => e = .returned (.bool (wrongB l)) ∧ w' = w := by
  have i0 := index_any (bas l) 0 w
  have i1 := index_any (bas l) 1 w
  have i2 := index_any (bas l) 47 w
  rw [bas_data] at i0 i1 i2
  obtain ⟨x0, hx0⟩ : ∃ x, Lib.indexByte l (0 : Int).toNat.toUInt8 = x := ⟨_, rfl⟩
  obtain ⟨x1, hx1⟩ : ∃ x, Lib.indexByte l (1 : Int).toNat.toUInt8 = x := ⟨_, rfl⟩
  obtain ⟨x2, hx2⟩ : ∃ x, Lib.indexByte l (47 : Int).toNat.toUInt8 = x := ⟨_, rfl⟩
  rw [hx0] at i0
  rw [hx1] at i1
  rw [hx2] at i2
  have k0 : 0 ≤ x0 ↔ (0 : UInt8) ∈ l := by rw [← hx0]; exact index_neg
  have k1 : 0 ≤ x1 ↔ (1 : UInt8) ∈ l := by rw [← hx1]; exact index_neg
  have k2 : 0 ≤ x2 ↔ (47 : UInt8) ∈ l := by rw [← hx2]; exact index_neg
  clear hx0 hx1 hx2
  have HW : Hid (wrongB l = (decide (0 ≤ x0) || decide (0 ≤ x1) || decide (0 ≤ x2))) := by
    show _ = _
    unfold wrongB
    simp only [k0, k1, k2]
  clear k0 k1 k2
  by_cases h0 : 0 ≤ x0
  · go_enter Try.func89, Try.ntmps89
    go_wp2_with (first | (go_at_call 93; refine Calls_on i0 ?_; clear i0) | (go_at_call 93; refine Calls_on i1 ?_; clear i1) | (go_at_call 93; refine Calls_on i2 ?_; clear i2))
    go_ret
    rw [HW.out]
    exact ⟨by simp [h0], rfl⟩
  by_cases h1 : 0 ≤ x1
  · go_enter Try.func89, Try.ntmps89
    go_wp2_with (first | (go_at_call 93; refine Calls_on i0 ?_; clear i0) | (go_at_call 93; refine Calls_on i1 ?_; clear i1) | (go_at_call 93; refine Calls_on i2 ?_; clear i2))
    go_ret
    rw [HW.out]
    exact ⟨by first | (simp; done) | (simp; omega), rfl⟩
  go_enter Try.func89, Try.ntmps89
  go_wp2_with (first | (go_at_call 93; refine Calls_on i0 ?_; clear i0) | (go_at_call 93; refine Calls_on i1 ?_; clear i1) | (go_at_call 93; refine Calls_on i2 ?_; clear i2))
  go_ret
  rw [HW.out]
  exact ⟨by first | (simp; done) | (simp; omega), rfl⟩

set_option maxRecDepth 8000 in
set_option maxHeartbeats 1000000 in
theorem name_any (l : List UInt8) (w : World) (hs : l.length < 1000000000000000) : Calls Try.prog 82 #[.string (bas l)] w fun e w' => e = .returned (.int .i64 (nameN l)) ∧ w' = w := by
  have c := wrong_any l w
  rw [nameN_def]
  have hsz := bas_size l
  by_cases h1 : l = [] ∨ l = [46] ∨ l = [46, 46]
  · rw [if_pos h1]
    rcases h1 with rfl | rfl | rfl
    all_goals
      have e0 : bas [] = ⟨#[]⟩ := rfl
      have e1 : bas [46] = ⟨#[46]⟩ := rfl
      have e2 : bas [46, 46] = ⟨#[46, 46]⟩ := rfl
      clear c
      go_enter Try.func82, Try.ntmps82
      go_wp2
      go_ret
      exact ⟨rfl, rfl⟩
  · rw [if_neg h1]
    have e1 : (bas l).toList.isEmpty = false := by rw [bas_toList]; simpa using fun e => h1 (.inl e)
    have e2 : ((bas l).toList == [46]) = false := by rw [bas_toList]; simpa using fun e => h1 (.inr (.inl e))
    have e3 : ((bas l).toList == [46, 46]) = false := by rw [bas_toList]; simpa using fun e => h1 (.inr (.inr e))
    clear h1
    cases hw : wrongB l with
    | true =>
      rw [hw] at c
      rw [if_pos rfl]
      clear hw
      go_enter Try.func82, Try.ntmps82
      go_wp2_with (go_at_call 89; refine Calls_on c ?_)
      go_ret
      exact ⟨rfl, rfl⟩
    | false =>
      rw [hw] at c
      rw [if_neg (by decide)]
      clear hw
      by_cases h64 : 64 < l.length
      · have h64I : (64 : Int) < (l.length : Int) := by omega
        rw [if_pos h64]
        go_enter Try.func82, Try.ntmps82
        go_wp2_with (go_at_call 89; refine Calls_on c ?_)
        go_ret
        exact ⟨rfl, rfl⟩
      · have h64I : ¬ (64 : Int) < (l.length : Int) := by omega
        rw [if_neg h64]
        go_enter Try.func82, Try.ntmps82
        go_wp2_with (go_at_call 89; refine Calls_on c ?_)
        go_ret
        exact ⟨rfl, rfl⟩

set_option maxRecDepth 8000 in
set_option maxHeartbeats 2000000 in
theorem local_any (s : ByteArray) (w : World) (hs : s.size < 1000000000000000) : Calls Try.prog 60 #[.string s] w fun e w' => e = .returned (.int .i64 (fineN s.data.toList)) ∧ w' = w := by
  obtain ⟨l, hl⟩ : ∃ l, s.data.toList = l := ⟨_, rfl⟩
  obtain rfl : s = bas l := by rw [← hl, bas_of]
  clear hl
  rw [bas_data]
  rw [bas_size] at hs
  by_cases h1 : l = [] ∨ l = [46] ∨ l = [46, 46]
  · have hf : fineN l = 22 := by unfold fineN; rw [if_pos h1]
    rw [hf]
    rcases h1 with rfl | rfl | rfl
    all_goals
      have e0 : bas [] = ⟨#[]⟩ := rfl
      have e1 : bas [46] = ⟨#[46]⟩ := rfl
      have e2 : bas [46, 46] = ⟨#[46, 46]⟩ := rfl
      go_enter Try.func60, Try.ntmps60
      go_wp2
      go_ret
      exact ⟨rfl, rfl⟩
  · have e1 : (bas l).toList.isEmpty = false := by rw [bas_toList]; simpa using fun e => h1 (.inl e)
    have e2 : ((bas l).toList == [46]) = false := by rw [bas_toList]; simpa using fun e => h1 (.inr (.inl e))
    have e3 : ((bas l).toList == [46, 46]) = false := by rw [bas_toList]; simpa using fun e => h1 (.inr (.inr e))
    have hsz := bas_size l
    have H1 : Hid (¬ (l = [] ∨ l = [46] ∨ l = [46, 46])) := h1
    clear h1
    go_enter Try.func60, Try.ntmps60
    go_wp2_with fail
    go_loopw [3] (fun ii wr => ∃ i : Nat, ii = .int .i64 i ∧ i ≤ l.length ∧ wr = w ∧ Hid (∀ j c, j < i → l[j]? = some c → c ≠ 0 ∧ c ≠ 47)) (fun ii _ => l.length - (intOf ii).toNat)
    case atStart => exact ⟨0, rfl, Nat.zero_le _, rfl, fun j c hj => by omega⟩
    case round =>
      obtain ⟨i, rfl, hi, rfl, HI⟩ := hrel
      by_cases hlt : i < l.length
      · have hltI : (i : Int) < (l.length : Int) := by omega
        obtain ⟨c, hc⟩ : ∃ c, l[i]? = some c := ⟨_, List.getElem?_eq_getElem hlt⟩
        have hci : ∀ h : i < (bas l).size, (bas l)[i]'h = c := fun h => by
          show (bas l).data[i] = c
          have := List.getElem?_eq_some_iff.1 hc
          exact this.2
        have hcm : c ∈ l := List.mem_of_getElem? hc
        obtain ⟨n, hn⟩ : ∃ n, c.toNat = n := ⟨_, rfl⟩
        by_cases h0 : n = 0
        · have HF : Hid (fineN l = 22) := by
            have : c = 0 := by apply UInt8.toNat_inj.1; rw [hn, h0]; rfl
            subst this
            show _ = _; unfold fineN; rw [if_neg H1.out, if_pos (.inl hcm)]
          subst h0
          have hq : ((0 : Nat) : Int) = 0 := rfl
          clear hc hcm
          go_wp2_with fail
          go_ret
          exact ⟨by rw [HF.out]; rfl, rfl⟩
        · have h0I : ((n : Int) == 0) = false := by rw [beq_eq_false_iff_ne]; omega
          by_cases h47 : n = 47
          · have HF : Hid (fineN l = 22) := by
              have : c = 47 := by apply UInt8.toNat_inj.1; rw [hn, h47]; rfl
              subst this
              show _ = _; unfold fineN; rw [if_neg H1.out, if_pos (.inr hcm)]
            subst h47
            clear hc hcm
            go_wp2_with fail
            go_ret
            exact ⟨by rw [HF.out]; rfl, rfl⟩
          · have h47I : ((n : Int) == 47) = false := by rw [beq_eq_false_iff_ne]; omega
            have HN : Hid (∀ j c, j < i + 1 → l[j]? = some c → c ≠ 0 ∧ c ≠ 47) := fun j d hj hd => by
              by_cases hji : j = i
              · subst hji
                rw [hc] at hd; cases hd
                exact ⟨fun e => by rw [e] at hn; exact h0 hn.symm, fun e => by rw [e] at hn; exact h47 hn.symm⟩
              · exact HI.out j d (by omega) hd
            clear hc hcm
            go_wp2_with fail
            exact ⟨⟨i + 1, by simp, by omega, trivial, HN⟩, by simp [intOf]; omega⟩
      · obtain rfl : i = l.length := by omega
        have hno : ¬ (0 ∈ l ∨ 47 ∈ l) := by
          rintro (h | h)
          · obtain ⟨j, hj⟩ := List.getElem?_of_mem h
            exact (HI.out j _ (List.getElem?_eq_some_iff.1 hj).1 hj).1 rfl
          · obtain ⟨j, hj⟩ := List.getElem?_of_mem h
            exact (HI.out j _ (List.getElem?_eq_some_iff.1 hj).1 hj).2 rfl
        by_cases h64 : 64 < l.length
        · have h64I : (64 : Int) < (l.length : Int) := by omega
          have HF : Hid (fineN l = 36) := by show _ = _; unfold fineN; rw [if_neg H1.out, if_neg hno, if_pos h64]
          clear hno
          go_wp2_with fail
          go_ret
          exact ⟨by rw [HF.out]; rfl, rfl⟩
        · have h64I : ¬ (64 : Int) < (l.length : Int) := by omega
          have HF : Hid (fineN l = 0) := by show _ = _; unfold fineN; rw [if_neg H1.out, if_neg hno, if_neg h64]
          clear hno
          go_wp2_with fail
          go_ret
          exact ⟨by rw [HF.out]; rfl, rfl⟩

set_option maxRecDepth 8000 in
set_option maxHeartbeats 1000000 in
theorem rname_any (l : List UInt8) (w : World) (hs : l.length < 1000000000000000) : Calls Try.prog 45 #[.string (bas l)] w fun e w' => e = .returned (.int .i64 (nameN l)) ∧ w' = w := by
  have c := local_any (bas l) w (by rw [bas_size]; exact hs)
  rw [bas_data] at c
  have hsz := bas_size l
  go_enter Try.func45, Try.ntmps45
  go_wp2_with fail
  go_loopw [3] (fun ii wr => ∃ i : Nat, ii = .int .i64 i ∧ i ≤ l.length ∧ wr = w ∧ Hid (∀ j c, j < i → l[j]? = some c → c ≠ 1)) (fun ii _ => l.length - (intOf ii).toNat)
  case atStart => exact ⟨0, rfl, Nat.zero_le _, rfl, fun j c hj => by omega⟩
  case round =>
    obtain ⟨i, rfl, hi, rfl, HI⟩ := hrel
    by_cases hlt : i < l.length
    · have hltI : (i : Int) < (l.length : Int) := by omega
      obtain ⟨c0, hc⟩ : ∃ c, l[i]? = some c := ⟨_, List.getElem?_eq_getElem hlt⟩
      have hci : ∀ h : i < (bas l).size, (bas l)[i]'h = c0 := fun h => by
        show (bas l).data[i] = c0
        have := List.getElem?_eq_some_iff.1 hc
        exact this.2
      have hcm : c0 ∈ l := List.mem_of_getElem? hc
      obtain ⟨n, hn⟩ : ∃ n, c0.toNat = n := ⟨_, rfl⟩
      by_cases h0 : n = 1
      · have HF : Hid (nameN l = 22) := by
          have : c0 = 1 := by apply UInt8.toNat_inj.1; rw [hn, h0]; rfl
          subst this
          show _ = _; unfold nameN; rw [if_pos hcm]
        subst h0
        have hq : ((1 : Nat) : Int) = 1 := rfl
        clear hc hcm c
        go_wp2_with fail
        go_ret
        exact ⟨by rw [HF.out]; rfl, rfl⟩
      · have h0I : ((n : Int) == 1) = false := by rw [beq_eq_false_iff_ne]; omega
        have HN : Hid (∀ j c, j < i + 1 → l[j]? = some c → c ≠ 1) := fun j d hj hd => by
          by_cases hji : j = i
          · subst hji
            rw [hc] at hd; cases hd
            exact fun e => by rw [e] at hn; exact h0 hn.symm
          · exact HI.out j d (by omega) hd
        clear hc hcm c
        go_wp2_with fail
        exact ⟨⟨i + 1, by simp, by omega, trivial, HN⟩, by simp [intOf]; omega⟩
    · obtain rfl : i = l.length := by omega
      have HF : Hid (nameN l = fineN l) := by
        show _ = _; unfold nameN
        rw [if_neg]
        intro h
        obtain ⟨j, hj⟩ := List.getElem?_of_mem h
        exact (HI.out j _ (List.getElem?_eq_some_iff.1 hj).1 hj) rfl
      go_wp2_with (go_at_call 60; refine Calls_on c ?_)
      go_ret
      exact ⟨by rw [HF.out]; rfl, rfl⟩

end Go.Proofs.Yteimjkicinjcgaa.Cd

namespace Go.Proofs.Yteimjkicinjcgaa.Cd
open Go.RowKit

attribute [local go_sem] Oper.semAt_some

/-- What lies in a block of an operation. -/
def OpB (W : World) (g : Nat) (t n sq kd ot on pt pn : Int) (nm : List UInt8) (p q : Option Addr) (l c m d : Nat) : Prop := W.heap[g]? = some (.cells #[.int .i64 t, .int .i64 n, .int .i64 sq, .int .i64 kd, .int .i64 ot, .int .i64 on, .int .i64 pt, .int .i64 pn, .string (bas nm), .slice p l c, .slice q m d] 35 (0, 0))
theorem OpB.lt {W : World} {g : Nat} {t n sq kd ot on pt pn : Int} {nm : List UInt8} {p q : Option Addr} {l c m d : Nat} (h : OpB W g t n sq kd ot on pt pn nm p q l c m d) : g < W.heap.size := block_lt h
theorem OpB.below {W W' : World} {g : Nat} {t n sq kd ot on pt pn : Int} {nm : List UInt8} {p q : Option Addr} {l c m d : Nat} (h : OpB W g t n sq kd ot on pt pn nm p q l c m d) (hb : Below W.heap.size W W') : OpB W' g t n sq kd ot on pt pn nm p q l c m d := (hb.block g h.lt).trans h
theorem OpB.made (w : World) (t n sq kd ot on pt pn : Int) (nm : List UInt8) (p q : Option Addr) (l c m d : Nat) : OpB (w.alloc (.cells #[.int .i64 t, .int .i64 n, .int .i64 sq, .int .i64 kd, .int .i64 ot, .int .i64 on, .int .i64 pt, .int .i64 pn, .string (bas nm), .slice p l c, .slice q m d] 35)) w.heap.size t n sq kd ot on pt pn nm p q l c m d := heap_alloc_new w _
theorem OpB.next (w : World) (o : Obj) (t n sq kd ot on pt pn : Int) (nm : List UInt8) (p q : Option Addr) (l c m d : Nat) : OpB ((w.alloc o).alloc (.cells #[.int .i64 t, .int .i64 n, .int .i64 sq, .int .i64 kd, .int .i64 ot, .int .i64 on, .int .i64 pt, .int .i64 pn, .string (bas nm), .slice p l c, .slice q m d] 35)) (w.heap.size + 1) t n sq kd ot on pt pn nm p q l c m d := by
  have := OpB.made (w.alloc o) t n sq kd ot on pt pn nm p q l c m d
  rwa [show (w.alloc o).heap.size = w.heap.size + 1 by simp] at this
theorem OpB.cells {W : World} {g : Nat} {t n sq kd ot on pt pn : Int} {nm : List UInt8} {p q : Option Addr} {l c m d : Nat} (h : OpB W g t n sq kd ot on pt pn nm p q l c m d) :
    W.cell? ⟨g, 0, none⟩ = some (.int .i64 t) ∧ W.cell? ⟨g, 1, none⟩ = some (.int .i64 n) ∧ W.cell? ⟨g, 2, none⟩ = some (.int .i64 sq) ∧ W.cell? ⟨g, 3, none⟩ = some (.int .i64 kd) ∧ W.cell? ⟨g, 4, none⟩ = some (.int .i64 ot) ∧ W.cell? ⟨g, 5, none⟩ = some (.int .i64 on) ∧ W.cell? ⟨g, 6, none⟩ = some (.int .i64 pt) ∧ W.cell? ⟨g, 7, none⟩ = some (.int .i64 pn) ∧ W.cell? ⟨g, 8, none⟩ = some (.string (bas nm)) ∧ W.cell? ⟨g, 9, none⟩ = some (.slice p l c) ∧ W.cell? ⟨g, 10, none⟩ = some (.slice q m d) :=
  ⟨cellOf h 0, cellOf h 1, cellOf h 2, cellOf h 3, cellOf h 4, cellOf h 5, cellOf h 6, cellOf h 7, cellOf h 8, cellOf h 9, cellOf h 10⟩
/-- A callee that makes new memory alone, met at its call. -/
theorem Calls_new {f : Nat} {args : Array Value} {w : World} {v : Ending} {K : Ending → World → Prop} (h : Calls Try.prog f args w fun e w' => e = v ∧ Below w.heap.size w w')
    (hk : ∀ w', Hid (Below w.heap.size w w') → K v w') : Calls Try.prog f args w K :=
  h.mono (by rintro e w' ⟨rfl, hb⟩; exact hk w' hb)

theorem root_any (w : World) : Calls Try.prog 81 #[] w fun e w' => e = .returned (.agg #[.int .i64 0, .int .i64 0]) ∧ Below w.heap.size w w' := by
  go_enter Try.func81, Try.ntmps81
  go_wp2
  refine bodyPost_ret (v := .agg #[.int .i64 0, .int .i64 0]) (by simp [results, Try.results81, go_sem]) rfl ?_
  exact ⟨rfl, (below_new w _).out⟩
theorem trash_any (w : World) : Calls Try.prog 67 #[] w fun e w' => e = .returned (.agg #[.int .i64 0, .int .i64 1]) ∧ Below w.heap.size w w' := by
  go_enter Try.func67, Try.ntmps67
  go_wp2
  refine bodyPost_ret (v := .agg #[.int .i64 0, .int .i64 1]) (by simp [results, Try.results67, go_sem]) rfl ?_
  exact ⟨rfl, (below_new w _).out⟩

abbrev idv (t n : Int) : Value := .agg #[.int .i64 t, .int .i64 n]
def olderB (t n t' n' : Int) : Bool := Ck.validB t n && Ck.lessB t n t' n'
def placedB (nm : List UInt8) (l : Nat) : Bool := decide (nameN nm = 0) && decide (l = 0)

set_option maxRecDepth 8000 in
set_option maxHeartbeats 1000000 in
theorem earlier_any (it ii : Int) (t n sq kd ot on pt pn : Int) (nm : List UInt8) (p q : Option Addr) (l c m d : Nat) (w : World) :
    Calls Try.prog 66 #[idv it ii, .agg #[.int .i64 t, .int .i64 n, .int .i64 sq, .int .i64 kd, .int .i64 ot, .int .i64 on, .int .i64 pt, .int .i64 pn, .string (bas nm), .slice p l c, .slice q m d]] w fun e w' => e = .returned (.bool (olderB it ii t n)) ∧ Below w.heap.size w w' := by
  obtain ⟨ob, hob⟩ : ∃ ob, ob = Obj.cells #[.int .i64 it, .int .i64 ii] 30 := ⟨_, rfl⟩
  obtain ⟨oc, hoc⟩ : ∃ oc, oc = Obj.cells #[.int .i64 t, .int .i64 n, .int .i64 sq, .int .i64 kd, .int .i64 ot, .int .i64 on, .int .i64 pt, .int .i64 pn, .string (bas nm), .slice p l c, .slice q m d] 35 := ⟨_, rfl⟩
  have B0 : Hid (Below w.heap.size w ((w.alloc ob).alloc oc)) := ((Below.refl _ _).alloc (Nat.le_refl _) _).alloc (by simp) _
  have hi : ((w.alloc ob).alloc oc).heap[w.heap.size]? = some (.cells #[.int .i64 it, .int .i64 ii] 30 (0, 0)) := by rw [Below.heap_alloc _ _ _ (by simp), hob]; exact heap_alloc_new w _
  have ho : OpB ((w.alloc ob).alloc oc) (w.heap.size + 1) t n sq kd ot on pt pn nm p q l c m d := by rw [hoc]; exact OpB.next _ _ t n sq kd ot on pt pn nm p q l c m d
  have HI : Hid (((w.alloc ob).alloc oc).heap[w.heap.size]? = some (.cells #[.int .i64 it, .int .i64 ii] 30 (0, 0))) := hi
  have HO : Hid (OpB ((w.alloc ob).alloc oc) (w.heap.size + 1) t n sq kd ot on pt pn nm p q l c m d) := ho
  have c1 := fun W => Ck.valid_any it ii W
  have c2 := fun W => Ck.less_any it ii t n W
  have tok : True := trivial
  cases hv : Ck.validB it ii with
  | true =>
    have HE : Hid (olderB it ii t n = Ck.lessB it ii t n) := by show _ = _; simp [olderB, hv]
    rw [hv] at c1
    clear hv hi ho
    subst hob; subst hoc
    go_enter Try.func66, Try.ntmps66
    go_wp2_with (first | (go_at_call 47; have tk := tok; refine Calls_new (c1 _) ?_; clear tk tok; intro w2 hb; have i0 : w2.cell? ⟨w.heap.size, 0, none⟩ = some (.int .i64 it) := cellOf ((hb.out.block _ (block_lt HI.out)).trans HI.out) 0; have i1 : w2.cell? ⟨w.heap.size, 1, none⟩ = some (.int .i64 ii) := cellOf ((hb.out.block _ (block_lt HI.out)).trans HI.out) 1; have c0 : w2.cell? ⟨w.heap.size + 1, 0, none⟩ = some (.int .i64 t) := cellOf (HO.out.below hb.out) 0; have c1' : w2.cell? ⟨w.heap.size + 1, 1, none⟩ = some (.int .i64 n) := cellOf (HO.out.below hb.out) 1) | (go_at_call 83; refine Calls_new (c2 _) ?_; intro w3 hb3))
    go_ret
    rw [HE.out]
    exact ⟨rfl, (B0.out.trans (hb.out.mono B0.out.size)).trans (hb3.out.mono (Nat.le_trans B0.out.size hb.out.size))⟩
  | false =>
    have HE : Hid (olderB it ii t n = false) := by show _ = _; simp [olderB, hv]
    rw [hv] at c1
    clear hv hi ho
    subst hob; subst hoc
    go_enter Try.func66, Try.ntmps66
    go_wp2_with (go_at_call 47; refine Calls_new (c1 _) ?_; intro w2 hb)
    go_ret
    rw [HE.out]
    exact ⟨rfl, B0.out.trans (hb.out.mono B0.out.size)⟩

set_option maxRecDepth 8000 in
set_option maxHeartbeats 1000000 in
theorem placed_any (t n sq kd ot on pt pn : Int) (nm : List UInt8) (p q : Option Addr) (l c m d : Nat) (w : World) (hs : nm.length < 1000000000000000) :
    Calls Try.prog 65 #[.agg #[.int .i64 t, .int .i64 n, .int .i64 sq, .int .i64 kd, .int .i64 ot, .int .i64 on, .int .i64 pt, .int .i64 pn, .string (bas nm), .slice p l c, .slice q m d]] w fun e w' => e = .returned (.bool (placedB nm l)) ∧ Below w.heap.size w w' := by
  have B0 : Hid (∀ o, Below w.heap.size w (w.alloc o)) := fun o => (below_new w o).out
  have c1 := fun W => name_any nm W hs
  obtain ⟨x, hx⟩ : ∃ x, nameN nm = x := ⟨_, rfl⟩
  rw [hx] at c1
  have HE : Hid (placedB nm l = (decide (x = 0) && decide (l = 0))) := by show _ = _; rw [← hx]; rfl
  clear hx
  by_cases h0 : x = 0
  · subst h0
    by_cases h1 : l = 0
    · subst h1
      go_enter Try.func65, Try.ntmps65
      go_wp2_with (go_at_call 82; refine Calls_on (c1 _) ?_)
      go_ret
      rw [HE.out]
      exact ⟨rfl, B0.out _⟩
    · have h1I : ¬ (l : Int) = 0 := by omega
      go_enter Try.func65, Try.ntmps65
      go_wp2_with (go_at_call 82; refine Calls_on (c1 _) ?_)
      go_ret
      rw [HE.out]
      exact ⟨by simp [h1], B0.out _⟩
  · go_enter Try.func65, Try.ntmps65
    go_wp2_with (go_at_call 82; refine Calls_on (c1 _) ?_)
    go_ret
    rw [HE.out]
    exact ⟨by simp [h0], B0.out _⟩

end Go.Proofs.Yteimjkicinjcgaa.Cd
