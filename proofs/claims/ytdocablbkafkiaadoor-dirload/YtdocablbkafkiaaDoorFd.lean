/-
  Each and List of a directory that holds one name.
-/
import Derived.Test.YtdocablbkafkiaaDoorFc
namespace Go.Proofs.YtdocablbkafkiaaDoor.Cd
open Go.RowKit Go.Maps

attribute [local go_sem] Oper.semAt_some

theorem eql_visit (w : World) (k : Nat) (f c : Array Value) : (binOp .eql 43 (.func (.func k) f c) .nilFunc).run Tryd.prog w = .ok (.bool false) w := by
  have h : ∀ d : Nat, (Op.equalIn (d + 1) 43 (.func (.func k) f c) .nilFunc).run Tryd.prog w = .ok false w := fun d => by
    simp [Op.equalIn, run_underlying Tryd.underlying43]
  simp only [binOp]
  simp [Op.equal, Op.maxDepth, h 9999]

def vlen : Option Value → Nat
  | some (.slice _ n _) => n
  | _ => 0
def olen : Option Obj → Nat
  | some (.cells cs _ _) => vlen cs[0]?
  | _ => 0
def hlen (kb : Nat) (w : World) : Nat := olen w.heap[kb]?
theorem HB.len {w : World} {base kb : Nat} {v : Value} {L : List En} (h : HB w base kb v L) : hlen kb w = L.length := by
  obtain ⟨p, c, rfl, _⟩ := h.blk.form
  unfold hlen
  rw [h.box]
  rfl

/-- What holds while the heap is filled. -/
structure WI (w : World) (base a : Nat) (count : Nat) (bv : Value) (vs : List Value) (D : List (List En)) (hb kb : Nat) (x : En) (l : List En) (W : World) : Prop where
  dir : DirAt W base a count bv vs D
  bel : Below w.heap.size w W
  heap : l = [] ∨ l = [x] → ∃ v, HB W hb kb v l

set_option maxRecDepth 8000 in
set_option maxHeartbeats 2000000 in
theorem each_one (base a : Nat) (D : List (List En)) (x : En) (hD : D.flatten = [x]) (k : Nat) (pv : Value) (w : World) (h : DirOk w base a D) (J : World → Prop)
    (hent : ∀ args w, (callFunc k args).run Tryd.prog w = .ok (.enter k args) w)
    (hc : ∀ W, Below w.heap.size w W → Calls Tryd.prog k #[pv, .string (bas x.name), .int .i64 (x.num : Nat)] W fun e w' => e = .returned (.tuple #[]) ∧ J w' ∧ Only (fun k => k < w.heap.size) W w') :
    Calls Tryd.prog 18 #[.pointer (some ⟨a, 0, none⟩), .func (.func k) #[pv] #[]] w fun e w' => e = .returned (.tuple #[]) ∧ J w' := by
  have hq := eql_visit
  have hmf := mkf
  have hadd : ∀ args w, (callFunc 33 args).run Tryd.prog w = .ok (.enter 33 args) w := fun args w => by simp [callFunc, Tryd.func33, go_sem]; rfl
  have HH : Hid (DirOk w base a D ∧ D.flatten = [x] ∧ ∀ W, Below w.heap.size w W → Calls Tryd.prog k #[pv, .string (bas x.name), .int .i64 (x.num : Nat)] W fun e w' => e = .returned (.tuple #[]) ∧ J w' ∧ Only (fun k => k < w.heap.size) W w') := ⟨h, hD, hc⟩
  clear h hD hc
  go_enter Tryd.func18, Tryd.ntmps18
  go_wp2_with fail
  obtain ⟨w0, hw0⟩ : ∃ w0, w0 = (w.alloc (.cells #[] 55)).alloc (.cells #[.slice (some ⟨w.heap.size, 0, none⟩) 0 0] 69) := ⟨_, rfl⟩
  rw [← hw0]
  have hb0 : Below w.heap.size w w0 := by rw [hw0]; exact ((Below.refl _ w).alloc (Nat.le_refl _) _).alloc (by simp) _
  have hs0 : w0.heap.size = w.heap.size + 2 := by rw [hw0]; simp
  have hB0 : HB w0 w.heap.size (w.heap.size + 1) (.slice (some ⟨w.heap.size, 0, none⟩) 0 0) [] := by
    refine ⟨by omega, ?_, rfl, .inr ⟨w.heap.size, 0, #[], rfl, Nat.le_refl _, ?_, Nat.le_refl _, Nat.zero_le _, rfl, rfl⟩⟩
    · rw [hw0]
      have := heap_alloc_new (w.alloc (.cells #[] 55)) (.cells #[.slice (some ⟨w.heap.size, 0, none⟩) 0 0] 69)
      rw [World.size_alloc] at this
      exact this
    · rw [hw0]; exact (Below.heap_alloc _ _ _ (by simp)).trans (heap_alloc_new w _)
  obtain ⟨⟨bv, vs, hdir⟩, hgood⟩ := HH.out.1
  have cW := walk_any base a (total D) bv vs D 33 (.pointer (some ⟨w.heap.size + 1, 0, none⟩)) (WI w base a (total D) bv vs D w.heap.size (w.heap.size + 1) x) w0 (fun _ _ h => h.dir)
    (fun l W W' h hb => ⟨h.dir.below hb, h.bel.trans (hb.mono h.bel.size), fun hl => by obtain ⟨v, hv⟩ := h.heap hl; exact ⟨v, hv.below hb⟩⟩)
    (fun l y W hi hl => by
      obtain ⟨m, hm⟩ := hl
      rw [HH.out.2.1] at hm
      have hl0 : l = [] ∧ y = x := by
        cases l with
        | nil => simp at hm; exact ⟨rfl, hm.1.symm⟩
        | cons z l => simp at hm
      obtain ⟨rfl, rfl⟩ := hl0
      obtain ⟨v, hv⟩ := hi.heap (.inl rfl)
      refine (zhadd_one w.heap.size (w.heap.size + 1) v y W hv hi.bel.size).mono ?_
      rintro e W' ⟨rfl, hv', ho⟩
      have hbb := hv.toBelow ho hi.bel.size
      refine ⟨rfl, ?_, hi.bel.trans hbb, fun _ => hv'⟩
      exact hdir.below (hi.bel.trans hbb))
    hadd (by have := hgood.small; omega) (fun j b hj => hgood.wf.room j b hj) ⟨hdir.below hb0, hb0, fun _ => ⟨_, hB0⟩⟩
  rw [HH.out.2.1] at cW
  have HS : Hid (w0.heap.size = w.heap.size + 2 ∧ Below w.heap.size w w0) := ⟨hs0, hb0⟩
  clear hB0 hs0 hb0 hw0 hdir hgood
  refine cW.mono ?_
  rintro e w1 ⟨rfl, hw1⟩
  clear cW
  have H1 : Hid (Below w.heap.size w w1 ∧ ∃ v, HB w1 w.heap.size (w.heap.size + 1) v [x]) := ⟨hw1.bel, hw1.heap (.inr rfl)⟩
  clear hw1
  go_wp2_with fail
  go_loopw [13] (fun _ wr => Hid ((Below w.heap.size w wr ∧ ∃ v, HB wr w.heap.size (w.heap.size + 1) v [x]) ∨ (J wr ∧ ∃ v, HB wr w.heap.size (w.heap.size + 1) v []))) (fun _ wr => hlen (w.heap.size + 1) wr)
  case atStart => exact .inl H1.out
  case round =>
    rcases hrel.out with ⟨hbr, v, hv⟩ | ⟨hJ, v, hv⟩
    · obtain ⟨p, c, rfl, _⟩ := hv.blk.form
      have c0 := hv.cell
      have cL := zleast_one w.heap.size (w.heap.size + 1) _ x wr hv
      have hlen1 := hv.len
      have hbelow : ∀ w', Only (hS (w.heap.size + 1) (.slice p [x].length c)) wr w' → Below w.heap.size w w' := fun w' ho => hbr.trans (hv.toBelow ho hbr.size)
      have HX : Hid (∀ w', Only (hS (w.heap.size + 1) (.slice p [x].length c)) wr w' → Below w.heap.size w w') := hbelow
      clear hv hbelow hbr hrel
      simp only [List.length_singleton] at c0 cL hlen1 HX
      go_wp2_with (go_at_call 34; refine Calls_on (zlen_any _ _ _ _) ?_)
      refine cL.mono ?_
      rintro e w2 ⟨rfl, ⟨v2, hv2, _⟩, ho2⟩
      have hb2 := HX.out w2 ho2
      have hba : Below w2.heap.size w2 (w2.alloc (.cells #[.string (bas x.name), .int .i64 (x.num : Nat)] 55)) := (Below.refl _ w2).alloc (Nat.le_refl _) _
      have cT := tell_fn k pv x w2 (fun w' => J w' ∧ ∃ v, HB w' w.heap.size (w.heap.size + 1) v []) hent (by
        refine (HH.out.2.2 _ (hb2.trans (hba.mono hb2.size))).mono ?_
        rintro e w3 ⟨rfl, hJ, ho⟩
        refine ⟨rfl, hJ, v2, ?_⟩
        have hva := hv2.below hba
        refine ⟨hva.lo, (ho.block _ (block_lt hva.box) (by omega)).trans hva.box, hva.blk.kept ho (fun j hj hlt => ?_)⟩
        have := (hva.blk.tag hj).1
        omega)
      clear hv2 ho2 hb2 hba cL
      go_wp2_with fail
      refine cT.mono ?_
      rintro e w3 ⟨rfl, hJ, v3, hv3⟩
      have H3 : Hid (J w3 ∧ HB w3 w.heap.size (w.heap.size + 1) v3 []) := ⟨hJ, hv3⟩
      have hl3 := hv3.len
      clear hJ hv3 cT
      go_wp2
      go_roundw
      case rel => exact .inr ⟨H3.out.1, _, H3.out.2⟩
      case measure => rw [hl3, hlen1]; decide
    · obtain ⟨p, c, rfl, _⟩ := hv.blk.form
      have c0 := hv.cell
      have HJ : Hid (J wr) := hJ
      clear hv hJ hrel
      simp only [List.length_nil] at c0
      go_wp2_with (go_at_call 34; refine Calls_on (zlen_any _ _ _ _) ?_)
      go_end0
      exact ⟨rfl, HJ.out⟩

/-- List of a directory that holds one name. -/
theorem list_one (base a : Nat) (D : List (List En)) (x : En) (hD : D.flatten = [x]) (w : World) (h : DirOk w base a D) :
    Calls Tryd.prog 17 #[.pointer (some ⟨a, 0, none⟩)] w fun e w' => (∃ q c, e = .returned (.slice (some ⟨q, 0, none⟩) 1 c) ∧ w'.cell? ⟨q, 0, none⟩ = some (.string (bas x.name))) ∧ Below w.heap.size w w' := by
  have ht : total D = 1 := by unfold total; rw [hD]; rfl
  have cN : Calls Tryd.prog 16 #[.pointer (some ⟨a, 0, none⟩)] w fun e w' => e = .returned (.int .i64 1) ∧ w' = w := by
    obtain ⟨⟨bv, vs, h1⟩, _⟩ := h
    have := len_any a (total D) w h1.c0
    rw [ht] at this
    exact this
  obtain ⟨k0, hk0, hx0, hx1, hx2⟩ := info_parts Tryd.info9
  have hmk : (Instr.makeSlice 67 (.int .i64 0) (.int .i64 1)).run Tryd.prog w = .ok (.slice (some ⟨w.heap.size, 0, none⟩) 0 1) (w.alloc (.cells #[.string ⟨#[]⟩] 9)) := by
    have hh := run_make (P := Tryd.prog) w 67 9 k0 (.string ⟨#[]⟩) Tryd.underlying67 hk0 hx0 .i64 .i64 (0 : Int) (1 : Int) (by omega) (by omega) (by rw [hx2]; omega) (by omega)
    have hM : madeCells (Value.string ⟨#[]⟩).cells (((1 : Int).toNat) * k0.size) = #[.string ⟨#[]⟩] := by
      apply Array.toList_inj.1
      rw [hx1]
      refine (toList_madeCells_one _ _).trans ?_
      rfl
    rw [hM] at hh
    simpa using hh
  have hmf := mkf
  have hla : ∀ args w, (callFunc 31 args).run Tryd.prog w = .ok (.enter 31 args) w := fun args w => by simp [callFunc, Tryd.func31, go_sem]; rfl
  obtain ⟨W1, hW1⟩ : ∃ W1, W1 = (w.alloc (.cells #[.string ⟨#[]⟩] 9)).alloc (.cells #[.slice (some ⟨w.heap.size, 0, none⟩) 0 1] 67) := ⟨_, rfl⟩
  have hb1 : Below w.heap.size w W1 := by rw [hW1]; exact ((Below.refl _ w).alloc (Nat.le_refl _) _).alloc (by simp) _
  have hs1 : W1.heap.size = w.heap.size + 2 := by rw [hW1]; simp
  have hL1 : LB W1 w.heap.size (w.heap.size + 1) (.slice (some ⟨w.heap.size, 0, none⟩) 0 1) [] := by
    refine ⟨by omega, ?_, rfl, .inr ⟨w.heap.size, 1, #[.string ⟨#[]⟩], rfl, Nat.le_refl _, ?_, by decide, by decide, rfl, rfl⟩⟩
    · rw [hW1]
      have := heap_alloc_new (w.alloc (.cells #[.string ⟨#[]⟩] 9)) (.cells #[.slice (some ⟨w.heap.size, 0, none⟩) 0 1] 67)
      rw [World.size_alloc] at this
      exact this
    · rw [hW1]; exact (Below.heap_alloc _ _ _ (by simp)).trans (heap_alloc_new w _)
  have cE := each_one base a D x hD 31 (.pointer (some ⟨w.heap.size + 1, 0, none⟩)) W1 (h.below hb1) (fun w' => (∃ v, LB w' w.heap.size (w.heap.size + 1) v [bas x.name]) ∧ Below w.heap.size w w') hla
    (fun W hW => by
      have hL := hL1.below hW
      have hbW : w.heap.size ≤ W.heap.size := by have := hW.size; omega
      refine (listAdd_any w.heap.size (w.heap.size + 1) _ [] (bas x.name) (x.num : Nat) W hL (by simp) hbW).mono ?_
      rintro e w' ⟨rfl, hv, ho⟩
      refine ⟨rfl, ⟨hv, (hb1.trans (hW.mono (by omega))).trans (Only.below ho hbW (fun i hi => ?_))⟩, Only.weak ho (fun i _ hi => ?_)⟩
      · rcases hi with rfl | hi
        · omega
        · simp [Value.ownBlock] at hi; omega
      · rcases hi with rfl | hi
        · show _ < _; omega
        · simp [Value.ownBlock] at hi; show _ < _; omega)
  rw [hW1] at cE
  clear h hL1 hb1 hs1 hk0 hx0 hx1 hx2 ht hD hW1
  go_enter Tryd.func17, Tryd.ntmps17
  go_wp2_with (go_at_call 16; refine Calls_on cN ?_; clear cN)
  refine cE.mono ?_
  rintro e w2 ⟨rfl, ⟨v, hv⟩, hb2⟩
  obtain ⟨q, cap, cur, rfl, h1, h2, h3, h4, h5, h6⟩ : ∃ q cap cur, v = .slice (some ⟨q, 0, none⟩) 1 cap ∧ w.heap.size ≤ q ∧ w2.heap[q]? = some (.cells cur 9 (0, 0)) ∧ 1 ≤ cap ∧ cap ≤ maxLen ∧ cur.size = cap * 1 ∧ cur.toList.take (1 * 1) = [.string (bas x.name)] := by
    rcases hv.row.2 with ⟨_, e2⟩ | h
    · simp at e2
    · exact h
  have c0 : w2.cell? ⟨w.heap.size + 1, 0, none⟩ = some (.slice (some ⟨q, 0, none⟩) 1 cap) := by rw [cellOf hv.box 0]; rfl
  have HF : Hid (w2.cell? ⟨q, 0, none⟩ = some (.string (bas x.name)) ∧ Below w.heap.size w w2) := by
    refine ⟨?_, hb2⟩
    rw [cellOf h2 0]
    have := congrArg (fun l => l[0]?) h6
    simp only [List.getElem?_take] at this
    rw [if_pos (by omega)] at this
    simpa using this
  clear hv hb2 h1 h2 h3 h4 h5 h6 cE
  go_wp2
  go_ret
  exact ⟨⟨_, _, rfl, HF.out.1⟩, HF.out.2⟩

end Go.Proofs.YtdocablbkafkiaaDoor.Cd
