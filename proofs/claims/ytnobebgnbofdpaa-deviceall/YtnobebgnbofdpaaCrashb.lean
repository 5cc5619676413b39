/-
  A crash of both devices: the device asks the law's function of each loose block once, rising.
-/
import Derived.Test.YtnobebgnbofdpaaMain
namespace Go.Proofs.Ytnobebgnbofdpaa
open Go.RowKit Go.Maps Go.Sort Go.Shelf

theorem keys_lt {w : World} {m nn n : Nat} {D : DataW Value} (hown : w.ownsMap Try.prog 3 ptrElem m nn D) (hr : ∀ x : Int, Maps.has D (.int .i64 x) = true → 0 ≤ x ∧ x < n) : (keys D).Pairwise (· < ·) := by
  rw [keys_eq hown hr, List.pairwise_map]
  refine List.Pairwise.imp (R := (· < ·)) (fun h => by omega) ?_
  exact List.Pairwise.filter _ List.pairwise_lt_range

theorem pairwise_next {l : List Int} (h : l.Pairwise (· < ·)) {k : Nat} {x y : Int} (hx : l[k]? = some x) (hy : l[k + 1]? = some y) : x < y := by
  obtain ⟨hk, rfl⟩ := List.getElem?_eq_some_iff.1 hx
  obtain ⟨hk', rfl⟩ := List.getElem?_eq_some_iff.1 hy
  exact List.pairwise_iff_getElem.1 h k (k + 1) hk hk' (Nat.lt_succ_self _)

theorem key_has {w : World} {m nn n : Nat} {D : DataW Value} (hown : w.ownsMap Try.prog 3 ptrElem m nn D) (hr : ∀ x : Int, Maps.has D (.int .i64 x) = true → 0 ≤ x ∧ x < n) {x : Int} (hx : x ∈ keys D) :
    ∃ j : Nat, x = j ∧ j < n ∧ Maps.has D (.int .i64 (j : Int)) = true := by
  rw [keys_eq hown hr] at hx
  obtain ⟨j, hj, rfl⟩ := List.mem_map.1 hx
  obtain ⟨h1, h2⟩ := List.mem_filter.1 hj
  exact ⟨j, rfl, List.mem_range.1 h1, h2⟩

theorem crash_both {w0 W : World} {rB : Nat} {t : St} {lim : Nat} (h : Main w0 W rB t lim) (hlim : lim ≤ 1000) (fB lB oB : Nat) (kp : Option Addr) (kc : Nat) (ks : List Bool) (k0 k1 k2 k3 : Value)
    (hf : W.heap[fB]? = some (.cells #[.bool true] 4 (0, 0))) (hl : W.heap[lB]? = some (.cells #[.int .i64 (-1)] 3 (0, 0))) (hfw : w0.heap.size ≤ fB) (hlw : w0.heap.size ≤ lB) (hfL : fB ≠ t.sL)
    (ho : W.heap[oB]? = some (.cells #[k0, k1, k2, k3, .slice kp ks.length kc] 31 (0, 0))) (hkl : ks.length < 9223372036854775808)
    (hks : 0 < ks.length → ∃ kb ko, kp = some ⟨kb, ko, none⟩ ∧ ∀ j x, ks[j]? = some x → w0.cell? ⟨kb, ko + j, none⟩ = some (.bool x)) :
    Calls Try.prog 16 #[.pointer (some ⟨t.a, 0, none⟩), .func (.func 17) #[] #[.pointer (some ⟨fB, 0, none⟩), .pointer (some ⟨lB, 0, none⟩), .pointer (some ⟨rB, 0, none⟩), .pointer (some ⟨oB, 0, none⟩)]] W fun e W1 => ∃ a', e = .returned (.pointer (some ⟨a', 0, none⟩)) ∧ Kp W W1 ∧
      W1.heap[fB]? = some (.cells #[.bool true] 4 (0, 0)) ∧
      Calls Try.prog 18 #[.pointer (some ⟨t.r, 0, none⟩), .slice kp ks.length kc] W1 fun e2 W2 => ∃ r', e2 = .returned (.pointer (some ⟨r', 0, none⟩)) ∧ Kp W1 W2 ∧ W2.heap[fB]? = some (.cells #[.bool true] 4 (0, 0)) ∧
        ∃ t', Both W2 t' lim ∧ t'.a = a' ∧ t'.r = r' ∧ t'.n = t.n ∧ Below w0.heap.size w0 W2 ∧
          w0.heap.size ≤ t'.a ∧ w0.heap.size ≤ t'.s ∧ w0.heap.size ≤ t'.m ∧ w0.heap.size ≤ t'.r ∧ w0.heap.size ≤ t'.sS ∧ w0.heap.size ≤ t'.sN ∧ w0.heap.size ≤ t'.sL := by
  have hB := h.both
  have hn30 := hB.n30
  have hnn := hB.nnb
  have hbs := h.bel.size
  have hsz : Maps.size t.D ≤ 1000 := Nat.le_trans hB.dv.own.size_le (Nat.le_trans hnn hlim)
  have hflt := (Array.getElem?_eq_some_iff.1 hf).1
  have hllt := (Array.getElem?_eq_some_iff.1 hl).1
  have holt := (Array.getElem?_eq_some_iff.1 ho).1
  have hrlt := (Array.getElem?_eq_some_iff.1 h.rb).1
  have hof := ne_of_tag ho hf (by decide)
  have hol := ne_of_tag ho hl (by decide)
  have hfl := ne_of_tag hf hl (by decide)
  have rbf := ne_of_tag h.rb hf (by decide)
  have rbl := ne_of_tag h.rb hl (by decide)
  have rf := ne_of_tag hB.rv.ref hf (by decide)
  have rl := ne_of_tag hB.rv.ref hl (by decide)
  have sLl := ne_of_tag hB.rv.rL hl (by decide)
  have sSf := ne_of_tag hB.rv.rS hf (by decide)
  have sSl := ne_of_tag hB.rv.rS hl (by decide)
  have sNf := ne_of_tag hB.rv.rN hf (by decide)
  have sNl := ne_of_tag hB.rv.rN hl (by decide)
  have hfm := map_ne_cells hB.dv.own hf
  have hlm := map_ne_cells hB.dv.own hl
  have hlt := keys_lt hB.dv.own hB.rng
  have hkeq := keys_eq hB.dv.own hB.rng
  have hkr : ∀ x ∈ keys t.D, 0 ≤ x ∧ x < t.n := fun x hx => by
    obtain ⟨j, rfl, hj, _⟩ := key_has hB.dv.own hB.rng hx
    omega
  have hklen : (keys t.D).length ≤ 30 := by
    rw [hkeq, List.length_map]
    exact Nat.le_trans (List.length_filter_le _ _) (by simpa using hB.n30)
  have hcr := crash_any (.func (.func 17) #[] #[.pointer (some ⟨fB, 0, none⟩), .pointer (some ⟨lB, 0, none⟩), .pointer (some ⟨rB, 0, none⟩), .pointer (some ⟨oB, 0, none⟩)]) t.a t.s t.n t.c t.m t.nn t.D t.cur t.fused t.left t.count W
    hB.dv.dev hB.dv.row hB.dv.own hB.n1 (by omega) hB.szC (fun i hi => by obtain ⟨_, _, q, _, _, hq, _⟩ := hB.blk i hi; exact ⟨q, hq⟩) (by unfold maxLen; omega) (by omega) hkr (by omega)
    (fun x => keepsB ks x.toNat) (fun b => b = fB ∨ b = lB) (by rintro b (rfl | rfl); exact ⟨hflt, hfm⟩; exact ⟨hllt, hlm⟩)
    (fun k Wm => Wm.heap[fB]? = some (.cells #[.bool true] 4 (0, 0)) ∧ (∃ la : Int, Wm.heap[lB]? = some (.cells #[.int .i64 la] 3 (0, 0)) ∧ ∀ x, (keys t.D)[k]? = some x → la < x) ∧ But (fun b => b = fB ∨ b = lB) W Wm)
    ⟨hf, ⟨-1, hl, fun x hx => by have := (hkr x (List.mem_of_getElem? hx)).1; omega⟩, But.refl _ W⟩
    (by
      rintro k Wm Wm' ⟨j1, ⟨la, j2, j3⟩, j4⟩ hb
      have hs := j4.size
      refine ⟨(hb.block fB (by omega) (by omega)).trans j1, ⟨la, (hb.block lB (by omega) (by omega)).trans j2, j3⟩, ⟨hb.os.trans j4.os, hb.tape.trans j4.tape, hb.output.trans j4.output, Nat.le_trans j4.size hb.size, fun b hb1 hb2 => ?_⟩⟩
      exact (hb.block b (by omega) (by omega)).trans (j4.block b hb1 hb2))
    (by
      rintro k x Wm hx ⟨j1, ⟨la, j2, j3⟩, j4⟩
      obtain ⟨i, rfl, hi, hhas⟩ := key_has hB.dv.own hB.rng (List.mem_of_getElem? hx)
      obtain ⟨_, _, _, _, _, _, _, _, _, _, _, h7, _⟩ := hB.blk i hi
      rw [hhas] at h7
      have hrB : Wm.heap[rB]? = some (.cells #[.pointer (some ⟨t.r, 0, none⟩)] 26 (0, 0)) := (j4.block rB hrlt (by rintro (e | e); exact rbf e; exact rbl e)).trans h.rb
      have hr : IsRefAt Wm t.r _ _ _ _ _ := (j4.block t.r hB.rv.rlt (by rintro (e | e); exact rf e; exact rl e)).trans hB.rv.ref
      have hL : Wm.heap[t.sL]? = some (.cells t.aL 4 (0, 0)) := (j4.block t.sL hB.rv.Llt (by rintro (e | e); exact hfL e.symm; exact sLl e)).trans hB.rv.rL
      have hoo : Wm.heap[oB]? = some (.cells #[k0, k1, k2, k3, .slice kp ks.length kc] 31 (0, 0)) := (j4.block oB holt (by rintro (e | e); exact hof e; exact hol e)).trans ho
      have hask := ask_any i fB lB rB oB t.r t.sL t.n t.cL la kp kc ks Wm j1 j2 (cellOf hrB 0) (by have := cellOf hr 2; simpa [refCells] using this) ((cellOf hL i).trans h7) hi (j3 _ hx) (cellOf hoo 4) hkl hof hol hfl (fun hp => by
        obtain ⟨kb, ko, e, hc⟩ := hks hp
        have hk0 : kb < w0.heap.size := World.block_lt_of_cell? w0 _ (hc 0 _ (List.getElem?_eq_getElem hp))
        refine ⟨kb, ko, e, by omega, by omega, fun j y hj => ?_⟩
        rw [World.cell?_of_block (w := W) (a := ⟨kb, ko + j, none⟩) (j4.block kb (by omega) (by rintro (e | e) <;> omega)), h.bel.cell (p := ⟨kb, ko + j, none⟩) hk0]
        exact hc j y hj)
      refine (kept_fn (i : Int) 17 _ Wm (fun b W' => b = keepsB ks i ∧ W'.heap[fB]? = some (.cells #[.bool true] 4 (0, 0)) ∧ W'.heap[lB]? = some (.cells #[.int .i64 i] 3 (0, 0)) ∧ But (fun b => b = fB ∨ b = lB) Wm W') (enters_of Try.func17 (by kernel_rfl) rfl)
        (hask.mono (by rintro e W' ⟨rfl, h1, h2, h3⟩; exact ⟨_, rfl, rfl, h1, h2, h3⟩))).mono ?_
      rintro e W' ⟨b, rfl, rfl, h1, h2, h3⟩
      refine ⟨by rw [Int.toNat_natCast], ⟨h1, ⟨i, h2, fun y hy => pairwise_next hlt hx hy⟩, j4.trans h3⟩, h3⟩)
  refine hcr.mono ?_
  rintro e W1 ⟨a', g, cap, m', rfl, hin, j1, _, j4⟩
  have hTc : Clear (fun b => b = fB ∨ b = lB) W := by
    rintro b (rfl | rfl) x f
    · constructor <;> (intro e; rw [hf] at e; cases e)
    · constructor <;> (intro e; rw [hl] at e; cases e)
  have kp1 : Kp W W1 := Kp.of_but hin.but (by
    rintro b (rfl | rfl) arr ty ht
    · exact tag_ne hf (by rcases ht with rfl | rfl | rfl <;> decide)
    · exact tag_ne hl (by rcases ht with rfl | rfl | rfl <;> decide))
  have hr1 : RV W1 t.r t.n t.sS t.cS t.sN t.cN t.sL t.cL t.aS t.aN t.aL t.lef t.count := hB.rv.but hin.but (by rintro (e | e); exact rf e; exact rl e) (by rintro (e | e); exact sSf e; exact sSl e) (by rintro (e | e); exact sNf e; exact sNl e) (by rintro (e | e); exact hfL e.symm; exact sLl e)
  have hs1 := hin.but.size
  have bel1 : Below w0.heap.size w0 W1 := h.bel.trans (hin.but.below h.bel.size (by rintro k (e | e) <;> omega))
  refine ⟨a', rfl, kp1, j1, ?_⟩
  refine (rcrash_any kp kc ks t.r t.n t.sS t.cS t.sN t.cN t.sL t.cL t.aS t.aN t.aL t.lef t.count W1 hr1 hB.n1 (by omega)
    (fun j hj => by obtain ⟨_, _, _, _, _, _, _, _, _, h5, ⟨g, c, arr, rfl, _⟩, _⟩ := hB.blk j hj; exact ⟨_, _, _, h5⟩)
    (fun j hj => by obtain ⟨_, _, _, _, _, _, _, h3, ⟨g, c, arr, rfl, _⟩, _⟩ := hB.blk j hj; exact ⟨_, _, _, h3⟩)
    (fun j hj => by obtain ⟨_, _, _, _, _, _, _, _, _, _, _, h7, _⟩ := hB.blk j hj; exact ⟨_, h7⟩) hkl (fun hp => by
      obtain ⟨kb, ko, e, hc⟩ := hks hp
      refine ⟨kb, ko, e, fun j y hj => ?_⟩
      rw [bel1.cell (p := ⟨kb, ko + j, none⟩) (World.block_lt_of_cell? w0 _ (hc j y hj))]
      exact hc j y hj)).mono ?_
  rintro e W2 ⟨r', sS', cS', sN', cN', sL', A, B, L, rfl, hxi, hr'w, hsL'w, hLs, hLf⟩
  obtain ⟨curk, hboth⟩ := hB.crashed ks hTc hin hxi hLs hLf
  have ga := hin.ga
  have gg := hin.gg
  have gm := hin.gm
  have gS := hxi.gS
  have gN := hxi.gN
  refine ⟨r', rfl, Kp.of_below hxi.bel, (hxi.bel.block fB (by omega)).trans j1, _, hboth, rfl, rfl, rfl, bel1.trans (hxi.bel.mono bel1.size), ?_⟩
  refine ⟨?_, ?_, ?_, ?_, ?_, ?_, ?_⟩ <;> (simp only [crashedSt]; omega)

/-- The law stores the new one of the document's into its variable. -/
theorem Main.stored {w0 W : World} {rB : Nat} {t : St} {lim : Nat} (hB : Both W t lim) {u : Value} (hrb : W.heap[rB]? = some (.cells #[u] 26 (0, 0))) (bel : Below w0.heap.size w0 W)
    (lo : w0.heap.size ≤ t.a ∧ w0.heap.size ≤ t.s ∧ w0.heap.size ≤ t.m ∧ w0.heap.size ≤ t.r ∧ w0.heap.size ≤ t.sS ∧ w0.heap.size ≤ t.sN ∧ w0.heap.size ≤ t.sL) (lB : w0.heap.size ≤ rB) :
    Main w0 (W.setCell ⟨rB, 0, none⟩ (.pointer (some ⟨t.r, 0, none⟩))) rB t lim := by
  have hb : But (fun k => k = rB) W (W.setCell ⟨rB, 0, none⟩ (.pointer (some ⟨t.r, 0, none⟩))) := (But.refl (fun k => k = rB) W).setCell ⟨rB, 0, none⟩ rfl _
  have hcl : Clear (fun k => k = rB) W := by
    rintro b rfl x f
    constructor <;> (intro e; rw [hrb] at e; cases e)
  have n1 := ne_of_tag hB.dv.dev hrb (by decide)
  have n2 := ne_of_tag hB.dv.row hrb (by decide)
  have n3 := (map_ne_cells hB.dv.own hrb).symm
  refine ⟨{ hB with dv := hB.dv.but hb n1 n2 n3, rv := hB.rv.but hb (ne_of_tag hB.rv.ref hrb (by decide)) (ne_of_tag hB.rv.rS hrb (by decide)) (ne_of_tag hB.rv.rN hrb (by decide)) (ne_of_tag hB.rv.rL hrb (by decide)), blk := fun i hi => (hB.blk i hi).but hb hcl },
    ?_, bel.setCell (p := ⟨rB, 0, none⟩) lB _, lo.1, lo.2.1, lo.2.2.1, lo.2.2.2.1, lo.2.2.2.2.1, lo.2.2.2.2.2.1, lo.2.2.2.2.2.2, lB⟩
  simp [World.setCell, Array.getElem?_modify, hrb]

end Go.Proofs.Ytnobebgnbofdpaa
