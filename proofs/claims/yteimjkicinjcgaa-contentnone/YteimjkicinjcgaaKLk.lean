/-
  A file in memory: its stamps, what was seen, its heads; what turns of it and what stays.
-/
import Derived.Test.YteimjkicinjcgaaKLj

namespace Go.Proofs.Yteimjkicinjcgaa.Ck.Y.L
open Go.RowKit Go.Maps Go.Lib

/-- A file in memory. -/
structure FMem (w : World) (fb : Nat) (E : List KP) (sn : List Int) (H : List VG) (mv : Value) (sp : Option Addr) (sc : Nat) (hv : Value) : Prop where
  blk : w.heap[fb]? = some (.cells #[mv, .slice sp sn.length sc, hv] 55 (0, 0))
  sown : w.ownsRow 0 2 1 (.slice sp sn.length sc) sn.length (sn.map Cd.iv)
  snl : sn.length ≤ 64
  map : (mv = .map none ∧ E = []) ∨ ∃ mb, mv = .map (some mb) ∧ MapS w mb E
  hrow : RowV w 0 hv H
  hown : ∀ x ∈ H, VOwn w 0 x
  hl : H.length ≤ 900
/-- The blocks that are the file's. -/
def Foot (fb : Nat) (mv hv : Value) (b : Nat) : Prop := b = fb ∨ mv = .map (some b) ∨ hv.ownBlock = some b
section
variable {w w' : World} {fb : Nat} {E : List KP} {sn : List Int} {H : List VG} {mv : Value} {sp : Option Addr} {sc : Nat} {hv : Value}
theorem RowV.tagged {w : World} {v : Value} {l : List VG} (h : RowV w 0 v l) {g : Nat} (hg : v.ownBlock = some g) : ∃ cs, w.heap[g]? = some (.cells cs 43 (0, 0)) := by
  obtain ⟨cs, h1, _⟩ := h.tag hg
  exact ⟨cs, h1⟩
theorem FMem.lt (h : FMem w fb E sn H mv sp sc hv) : ∀ b, Foot fb mv hv b → b < w.heap.size := by
  rintro b (rfl | rfl | hb)
  · exact block_lt h.blk
  · rcases h.map with ⟨e, _⟩ | ⟨mb, e, hm⟩
    · cases e
    · cases e; exact hm.lt
  · obtain ⟨cs, hc⟩ := RowV.tagged h.hrow hb
    exact block_lt hc
theorem FMem.hard (h : FMem w fb E sn H mv sp sc hv) : Hard w (Foot fb mv hv) := by
  rintro b (rfl | rfl | hb) cs t ht
  · rw [h.blk] at ht; cases ht; decide
  · rcases h.map with ⟨e, _⟩ | ⟨mb, e, es, clock, hm, _⟩
    · cases e
    · cases e; rw [hm] at ht; cases ht
  · obtain ⟨cs', hc⟩ := RowV.tagged h.hrow hb
    rw [hc] at ht; cases ht; decide
theorem hard_one {w : World} {b : Nat} {cs : Array Value} {t : TypeId} (h : w.heap[b]? = some (.cells cs t (0, 0))) (ht : t ≠ 2 ∧ t ≠ 5) : Hard w (fun k => k = b) := by
  rintro k rfl cs' t' h'
  rw [h] at h'; cases h'; exact ht
theorem RowV.keptH {w w' : World} {v : Value} {l : List VG} {S : Nat → Prop} (h : RowV w 0 v l) (ho : Only S w w') (hn : ∀ g, v.ownBlock = some g → ¬ S g) : RowV w' 0 v l := RowV.kept h ho hn
/-- Another's blocks are turned. -/
theorem FMem.kept {S : Nat → Prop} (h : FMem w fb E sn H mv sp sc hv) (ho : Only S w w') (hn : ∀ b, Foot fb mv hv b → ¬ S b) (hs : Hard w S) : FMem w' fb E sn H mv sp sc hv := by
  refine ⟨(ho.block fb (block_lt h.blk) (hn fb (.inl rfl))).trans h.blk, own_kept h.sown ho fun b hb cs t ht => (hs b hb cs t ht).1, h.snl, ?_, h.hrow.keptH ho fun g hg => hn g (.inr (.inr hg)), fun x hx => (h.hown x hx).kept ho hs, h.hl⟩
  rcases h.map with h0 | ⟨mb, e, hm⟩
  · exact .inl h0
  · exact .inr ⟨mb, e, hm.kept ho (hn mb (.inr (.inl e)))⟩
theorem FMem.below (h : FMem w fb E sn H mv sp sc hv) (hb : Below w.heap.size w w') : FMem w' fb E sn H mv sp sc hv :=
  h.kept (Below.only hb (fun _ => False)) (fun _ _ f => f) (fun _ f => f.elim)
theorem FMem.seenF (h : FMem w fb E sn H mv sp sc hv) : SeenF w fb sn := ⟨sp, sc, cellOf h.blk 1, (own_lies h.sown).1⟩
theorem FMem.mapne (h : FMem w fb E sn H mv sp sc hv) {mb : Nat} (e : mv = .map (some mb)) : mb ≠ fb ∧ hv.ownBlock ≠ some mb := by
  rcases h.map with ⟨e', _⟩ | ⟨mb', e', es, clock, hm, _⟩
  · rw [e] at e'; cases e'
  · rw [e] at e'; cases e'
    refine ⟨?_, fun hg => ?_⟩
    · rintro rfl; rw [h.blk] at hm; cases hm
    · obtain ⟨cs, hc⟩ := RowV.tagged h.hrow hg
      rw [hm] at hc; cases hc
theorem FMem.rowne (h : FMem w fb E sn H mv sp sc hv) : hv.ownBlock ≠ some fb := fun hg => by
  obtain ⟨cs, hc⟩ := RowV.tagged h.hrow hg
  exact apart_tags h.blk hc (by decide) rfl

/-- What was seen is turned. -/
theorem FMem.setSeen (h : FMem w fb E sn H mv sp sc hv) {sn' : List Int} {p : Option Addr} {c : Nat} (ho : w.ownsRow 0 2 1 (.slice p sn'.length c) sn'.length (sn'.map Cd.iv)) (hl : sn'.length ≤ 64) :
    FMem (w.setCell ⟨fb, 1, none⟩ (.slice p sn'.length c)) fb E sn' H mv p c hv ∧ Only (fun b => b = fb) w (w.setCell ⟨fb, 1, none⟩ (.slice p sn'.length c)) := by
  have hO : Only (fun b => b = fb) w (w.setCell ⟨fb, 1, none⟩ (.slice p sn'.length c)) := Only.setCell (S := fun b => b = fb) _ _ _ rfl
  have hh := hard_one h.blk (by decide)
  refine ⟨⟨heap_set_same h.blk _, own_kept ho hO fun b hb cs t ht => (hh b hb cs t ht).1, hl, ?_, h.hrow.keptH hO fun g hg e => h.rowne (by rw [hg, e]), fun x hx => (h.hown x hx).kept hO hh, h.hl⟩, hO⟩
  rcases h.map with h0 | ⟨mb, e, hm⟩
  · exact .inl h0
  · exact .inr ⟨mb, e, hm.kept hO (h.mapne e).1⟩
/-- The heads are turned. -/
theorem FMem.setHeads (h : FMem w fb E sn H mv sp sc hv) {v : Value} {M : List VG} (hO : Only (fun b => hv.ownBlock = some b) w w') (hr : RowV w' 0 v M) (hM : ∀ x ∈ M, VOwn w' 0 x) (hl : M.length ≤ 900) :
    FMem (w'.setCell ⟨fb, 2, none⟩ v) fb E sn M mv sp sc v ∧ Only (Foot fb mv hv) w (w'.setCell ⟨fb, 2, none⟩ v) := by
  have hb' : w'.heap[fb]? = some (.cells #[mv, .slice sp sn.length sc, hv] 55 (0, 0)) := (hO.block fb (block_lt h.blk) h.rowne).trans h.blk
  have hO2 : Only (fun b => b = fb) w' (w'.setCell ⟨fb, 2, none⟩ v) := Only.setCell (S := fun b => b = fb) _ _ _ rfl
  have hh2 := hard_one hb' (by decide)
  have hh1 : Hard w (fun b => hv.ownBlock = some b) := fun b hb => h.hard b (.inr (.inr hb))
  refine ⟨⟨heap_set_same hb' _, own_kept (own_kept h.sown hO fun b hb cs t ht => (hh1 b hb cs t ht).1) hO2 fun b hb cs t ht => (hh2 b hb cs t ht).1, h.snl, ?_, hr.keptH hO2 fun g hg e => ?_, fun x hx => (hM x hx).kept hO2 hh2, hl⟩, ?_⟩
  · rcases h.map with h0 | ⟨mb, e, hm⟩
    · exact .inl h0
    · exact .inr ⟨mb, e, (hm.kept hO (h.mapne e).2).kept hO2 (h.mapne e).1⟩
  · obtain ⟨cs, hc⟩ := RowV.tagged hr hg
    exact apart_tags hc hb' (by decide) e
  · exact (only_subV hO fun b hb => .inr (.inr hb)).next (only_subV hO2 fun b hb => .inl hb)
/-- A stamp more is kept. -/
theorem FMem.setMap (h : FMem w fb E sn H mv sp sc hv) {mb : Nat} {E' : List KP} (hb' : w'.heap[fb]? = some (.cells #[.map (some mb), .slice sp sn.length sc, hv] 55 (0, 0))) (hm : MapS w' mb E') (hO : Only (fun b => b = fb ∨ mv = .map (some b)) w w') :
    FMem w' fb E' sn H (.map (some mb)) sp sc hv := by
  have hh : Hard w (fun b => b = fb ∨ mv = .map (some b)) := fun b hb => h.hard b (hb.elim .inl fun e => .inr (.inl e))
  refine ⟨hb', own_kept h.sown hO fun b hb cs t ht => (hh b hb cs t ht).1, h.snl, .inr ⟨mb, rfl, hm⟩, h.hrow.keptH hO fun g hg e => ?_, fun x hx => (h.hown x hx).kept hO hh, h.hl⟩
  rcases e with e | e
  · exact h.rowne (by rw [hg, e])
  · exact (h.mapne e).2 hg
end

/-- mark. -/
theorem mark_any {w : World} {fb : Nat} {E : List KP} {sn : List Int} {H : List VG} {mv : Value} {sp : Option Addr} {sc : Nat} {hv : Value} (h : FMem w fb E sn H mv sp sc hv) {t n : Int} (hq : (t, n) ∉ E) :
    Calls Try.prog 28 #[.pointer (some ⟨fb, 0, none⟩), idv t n] w fun e w' => e = .returned (.tuple #[]) ∧ ∃ mb, FMem w' fb (E ++ [(t, n)]) sn H (.map (some mb)) sp sc hv ∧ Only (Foot fb mv hv) w w' ∧ (mv = .map (some mb) ∨ w.heap.size ≤ mb) := by
  rcases h.map with ⟨rfl, rfl⟩ | ⟨mb, rfl, hm⟩
  · refine (mark_nil fb t n _ _ w h.blk).mono ?_
    rintro e w' ⟨rfl, mb, h1, h2, h3, h4⟩
    exact ⟨rfl, mb, h.setMap h1 h2 (only_subV h3 fun b hb => .inl hb), only_subV h3 fun b hb => .inl hb, .inr h4⟩
  · refine (mark_some fb mb t n E w (cellOf h.blk 0) hm hq).mono ?_
    rintro e w' ⟨rfl, h1, h2⟩
    exact ⟨rfl, mb, h.setMap ((h2.block fb (block_lt h.blk) (Ne.symm (h.mapne rfl).1)).trans h.blk) h1 (only_subV h2 fun b hb => .inr (by rw [hb])), only_subV h2 fun b hb => .inr (.inl (by rw [hb])), .inl rfl⟩

end Go.Proofs.Yteimjkicinjcgaa.Ck.Y.L
