/-
  Package inode: a change is done.
-/
import Derived.Test.YtebdgcoandfocaaGreatDoorQUd
import Derived.Test.YtebdgcoandfocaaGreatDoorKIl

/-
  Package inode: the puts of a change are put into the cache.
-/
namespace Go.Proofs.YtebdgcoandfocaaGreatDoor
open Go.RowKit Go.Maps Go.Sort Go.Shelf

/-- Puts that lie in a row. -/
structure PR (w : World) (lo : Nat) (P : List (Nat × By)) (sP : Value) (D : List (Nat × Nat)) : Prop where
  p : w.ownsRow lo 143 2 sP P.length (putC P D)
  dl : D.length = P.length
  d : ∀ (i : Nat) (p : Nat × By) (d : Nat × Nat), P[i]? = some p → D[i]? = some d → Bytes w (some ⟨d.1, 0, none⟩) p.2 ∧ p.2.length = 512 ∧ (∃ cs fr, w.heap[d.1]? = some (.cells cs 5 fr)) ∧ lo ≤ d.1
theorem CR.pr {w : World} {lo : Nat} {T G : List Nat} {P : List (Nat × By)} {sT sG sP : Value} {D : List (Nat × Nat)} (h : CR w lo T G P sT sG sP D) : PR w lo P sP D := ⟨h.p, h.dl, h.d⟩
theorem PR.but {w w' : World} {lo : Nat} {P : List (Nat × By)} {sP : Value} {D : List (Nat × Nat)} {S : Nat → Prop} (h : PR w lo P sP D) (hb : But S w w') (hS : ∀ k cs t fr, w.heap[k]? = some (.cells cs t fr) → t = 143 ∨ t = 5 → ¬ S k) : PR w' lo P sP D := by
  refine ⟨own_butI h.p hb (fun k cs _ hk => hS k cs 143 _ hk (.inl rfl)), h.dl, ?_⟩
  intro i p d h1 h2
  obtain ⟨h3, h4, ⟨cs, fr, h5⟩, h8⟩ := h.d i p d h1 h2
  obtain ⟨h6, h7⟩ := bytes_kept h3 ⟨cs, fr, h5⟩ hb (hS d.1 cs 5 fr h5 (.inr rfl))
  exact ⟨h6, h4, h7, h8⟩
theorem PR.cache {w0 w w' : World} {lo : Nat} {P : List (Nat × By)} {sP : Value} {D : List (Nat × Nat)} (h : PR w lo P sP D) (hb : But (Cmn w0 w) w w') : PR w' lo P sP D := h.but hb (fun k cs t fr hk e => cmn_not hk (by rcases e with rfl | rfl <;> exact cTag_not (by decide) (by decide) (by decide)))
theorem PR.below {w w' : World} {lo : Nat} {P : List (Nat × By)} {sP : Value} {D : List (Nat × Nat)} (h : PR w lo P sP D) (hb : Below w.heap.size w w') : PR w' lo P sP D := h.but (But.of_below (S := fun _ => False) hb) (fun _ _ _ _ _ _ h => h)
theorem PR.cells {w : World} {lo : Nat} {P : List (Nat × By)} {g cap i : Nat} {D : List (Nat × Nat)} (h : PR w lo P (.slice (some ⟨g, 0, none⟩) P.length cap) D) {p : Nat × By} {d : Nat × Nat} (hp : P[i]? = some p) (hd : D[i]? = some d) : w.cell? ⟨g, i * 2, none⟩ = some (.int .i64 (p.1 : Nat)) ∧ w.cell? ⟨g, i * 2 + 1, none⟩ = some (.slice (some ⟨d.1, 0, none⟩) 512 d.2) := by
  obtain ⟨c0, c1⟩ := putC_get hp hd
  have d0 := h.p.cells (g := g) rfl _ _ c0
  have d1 := h.p.cells (g := g) rfl _ _ c1
  rw [Addr.add_lit, Nat.zero_add, Nat.mul_comm] at d0
  rw [Addr.add_lit, Nat.zero_add, Nat.mul_comm] at d1
  exact ⟨d0, d1⟩

def cntB (P : List (Nat × By)) (x : Nat) : Nat := (P.map Prod.fst).count x
theorem cntB_snoc (P : List (Nat × By)) (p : Nat × By) : cntB (P ++ [p]) = updF (cntB P) p.1 (cntB P p.1 + 1) := by
  funext x
  unfold cntB updF
  rw [List.map_append, List.count_append]
  by_cases h : x = p.1
  · subst h; simp
  · rw [if_neg h]
    simp [Ne.symm h]
theorem cntB_cons (P : List (Nat × By)) (p : Nat × By) : cntB P = updF (cntB (p :: P)) p.1 (cntB (p :: P) p.1 - 1) := by
  funext x
  unfold cntB updF
  rw [List.map_cons]
  by_cases h : x = p.1
  · subst h; simp
  · rw [if_neg h]
    simp [Ne.symm h]
theorem cntB_le (P : List (Nat × By)) (x : Nat) : cntB P x ≤ P.length := by
  have := List.count_le_length (a := x) (l := P.map Prod.fst)
  simpa [cntB] using this
theorem cntB_pos {P : List (Nat × By)} {p : Nat × By} (h : p ∈ P) : 0 < cntB P p.1 := List.count_pos_iff.2 (List.mem_map.2 ⟨p, h, rfl⟩)
theorem putsV_snoc : ∀ (P : List (Nat × By)) (V : Nat → By) (p : Nat × By), Ino.putsV V (P ++ [p]) = updF (Ino.putsV V P) p.1 p.2
  | [], V, p => by funext x; rfl
  | q :: P, V, p => by
    rw [List.cons_append, Ino.putsV, Ino.putsV, putsV_snoc P]

set_option maxRecDepth 8000 in
set_option maxHeartbeats 1000000 in
theorem unpin_L (w0 w : World) (wb c g cap b lo : Nat) (cs : List Value) (t : TypeId) (vs : VS) (V : Nat → By) (P : List (Nat × By)) (D : List (Nat × Nat)) (hw : BlkAt w wb cs t) (ht : ¬ cTag t) (h0 : cs[0]? = some (ep c)) (hP : PR w lo P (.slice (some ⟨g, 0, none⟩) P.length cap) D) (hC : LC w0 w c vs V (cntB P) b) (hl : P.length ≤ 1000) :
    Calls Tryz.prog 86 #[.pointer (some ⟨wb, 0, none⟩), .slice (some ⟨g, 0, none⟩) P.length cap] w fun e w' => e = .returned (.tuple #[]) ∧ LC w0 w' c vs V (fun _ => 0) (b + P.length) ∧ But (Cmn w0 w) w w' := by
  obtain ⟨L, hLn⟩ : ∃ L, P.length = L := ⟨_, rfl⟩
  have HW := hide (⟨hw, hP, hC, hLn⟩ : _ ∧ _ ∧ _ ∧ _)
  rw [hLn] at hl ⊢
  clear hw hP hC hLn
  go_enter Tryz.func86, Tryz.ntmps86
  go_wp2_with fail
  go_loopw [8] (fun ii wr => ∃ i : Nat, i ≤ L ∧ ii = .int .i64 i ∧ Hid (LC w0 wr c vs V (cntB (P.drop i)) (b + i) ∧ But (Cmn w0 w) w wr)) (fun ii _ => L - (intOf ii).toNat)
  case atStart => exact ⟨0, Nat.zero_le _, rfl, HW.out.2.2.1, But.refl _ _⟩
  case round =>
    obtain ⟨i, hi, rfl, HI⟩ := hrel
    by_cases hlt : i < L
    · have hlti : (i : Int) < L := by omega
      have hLn := HW.out.2.2.2
      obtain ⟨p, hp⟩ : ∃ p, P[i]? = some p := ⟨_, List.getElem?_eq_getElem (by omega)⟩
      obtain ⟨d, hd⟩ : ∃ d, D[i]? = some d := ⟨_, List.getElem?_eq_getElem (by rw [HW.out.2.1.dl]; omega)⟩
      obtain ⟨p0, p1⟩ := (HW.out.2.1.cache HI.out.2).cells hp hd
      obtain ⟨w1, hw1⟩ : ∃ w1, w1 = wr.alloc (.cells #[.int .i64 (p.1 : Nat), .slice (some ⟨d.1, 0, none⟩) 512 d.2] 143) := ⟨_, rfl⟩
      have hB1 : Below wr.heap.size wr w1 := by rw [hw1]; exact (Below.refl _ wr).alloc (Nat.le_refl _) _
      have d0 := ((HW.out.1.cache HI.out.2 ht).below hB1).cell h0
      have q0 : w1.cell? ⟨wr.heap.size, 0, none⟩ = some (.int .i64 (p.1 : Nat)) := by rw [hw1, cellOf (heap_alloc_new wr _) 0]; rfl
      have hdr : P.drop i = p :: P.drop (i + 1) := by
        obtain ⟨h1, h2⟩ := List.getElem?_eq_some_iff.1 hp
        rw [List.drop_eq_getElem_cons h1, h2]
      have hpos : 0 < cntB (P.drop i) p.1 := by rw [hdr]; exact cntB_pos List.mem_cons_self
      have hle := cntB_le (P.drop i) p.1
      rw [List.length_drop] at hle
      have cU := lc_unpin w0 w1.drew c vs V _ (b + i) p.1 ((HI.out.1.below hB1).below ((Below.refl _ w1).drew)) hpos (by omega)
      rw [hdr, ← cntB_cons] at cU
      have H1 : Hid (Below wr.heap.size wr w1 ∧ But (Cmn w0 w) w wr) := ⟨hB1, HI.out.2⟩
      clear hB1 hdr hpos hle hp hd HI hLn
      go_wp2_with fail
      rw [← hw1]
      clear hw1 p0 p1
      go_region_with (go_at_call 106; refine cU.mono ?_; rintro e w2 ⟨rfl, hC2, hb2⟩)
      all_goals
        have H2 : Hid (LC w0 w2 c vs V (cntB (P.drop (i + 1))) (b + (i + 1)) ∧ But (Cmn w0 w) w w2) := ⟨hC2, cmn_trans H1.out.2 (cmn_after H1.out.1.drew hb2)⟩
        clear cU hC2 hb2 d0 q0
        go_wp2
        exact ⟨⟨i + 1, by omega, by go_num, H2.out⟩, by simp [intOf]; omega⟩
    · obtain rfl : i = L := by omega
      have H1 : Hid (LC w0 wr c vs V (fun _ => 0) (b + i) ∧ But (Cmn w0 w) w wr) := by
        refine ⟨?_, HI.out.2⟩
        have h1 := HI.out.1
        rw [List.drop_of_length_le (by rw [HW.out.2.2.2]; exact Nat.le_refl _)] at h1
        exact h1
      clear HI
      go_wp2
      go_end0
      exact ⟨rfl, H1.out⟩

set_option maxRecDepth 8000 in
set_option maxHeartbeats 4000000 in
theorem putAll_L (w0 w : World) (wb c g cap b lo : Nat) (cs : List Value) (t : TypeId) (vs : VS) (V : Nat → By) (P : List (Nat × By)) (D : List (Nat × Nat)) (hw : BlkAt w wb cs t) (ht : ¬ cTag t) (h0 : cs[0]? = some (ep c)) (h4 : cs[4]? = some (.slice (some ⟨g, 0, none⟩) P.length cap)) (hP : PR w lo P (.slice (some ⟨g, 0, none⟩) P.length cap) D) (hC : LC w0 w c vs V (fun _ => 0) b) (hl : P.length ≤ 1000) (hb : b + 3000 ≤ 800000) (hlt : ∀ q ∈ P, q.1 < nbOf vs.d.n) :
    Calls Tryz.prog 65 #[.pointer (some ⟨wb, 0, none⟩)] w fun e w' => e = .returned (.int .i64 0) ∧ LC w0 w' c vs (Ino.putsV V P) (fun _ => 0) (b + P.length + P.length + P.length) ∧ But (Cmn w0 w) w w' := by
  obtain ⟨L, hLn⟩ : ∃ L, P.length = L := ⟨_, rfl⟩
  have HW := hide (⟨hw, hP, hC, hLn, hlt⟩ : _ ∧ _ ∧ _ ∧ _ ∧ _)
  have d4 := hw.cell h4
  rw [hLn] at hl d4 h4 ⊢
  have HLN := hide hLn
  clear hw hP hC hLn hlt
  go_enter Tryz.func65, Tryz.ntmps65
  go_wp2_with fail
  go_loopw [13] (fun ii wr => ∃ i : Nat, i ≤ L ∧ ii = .int .i64 i ∧ Hid (LC w0 wr c vs V (cntB (P.take i)) (b + i) ∧ But (Cmn w0 w) w wr)) (fun ii _ => L - (intOf ii).toNat)
  case atStart => exact ⟨0, Nat.zero_le _, rfl, HW.out.2.2.1, But.refl _ _⟩
  case round =>
    obtain ⟨i, hi, rfl, HI⟩ := hrel
    by_cases hlt : i < L
    · have hlti : (i : Int) < L := by omega
      have hLn := HW.out.2.2.2.1
      obtain ⟨p, hp⟩ : ∃ p, P[i]? = some p := ⟨_, List.getElem?_eq_getElem (by omega)⟩
      obtain ⟨d, hd⟩ : ∃ d, D[i]? = some d := ⟨_, List.getElem?_eq_getElem (by rw [HW.out.2.1.dl]; omega)⟩
      obtain ⟨p0, p1⟩ := (HW.out.2.1.cache HI.out.2).cells hp hd
      obtain ⟨w1, hw1⟩ : ∃ w1, w1 = wr.alloc (.cells #[.int .i64 (p.1 : Nat), .slice (some ⟨d.1, 0, none⟩) 512 d.2] 143) := ⟨_, rfl⟩
      have hB1 : Below wr.heap.size wr w1 := by rw [hw1]; exact (Below.refl _ wr).alloc (Nat.le_refl _) _
      have d0 := ((HW.out.1.cache HI.out.2 ht).below hB1).cell h0
      have q0 : w1.cell? ⟨wr.heap.size, 0, none⟩ = some (.int .i64 (p.1 : Nat)) := by rw [hw1, cellOf (heap_alloc_new wr _) 0]; rfl
      have htk : P.take (i + 1) = P.take i ++ [p] := by rw [List.take_add_one, hp]; rfl
      have cU := lc_pin w0 w1.drew c vs V _ (b + i) p.1 ((HI.out.1.below hB1).below ((Below.refl _ w1).drew)) (by omega) (HW.out.2.2.2.2 p (List.mem_of_getElem? hp)) (fun y => by have := cntB_le (P.take i) y; rw [List.length_take] at this; omega)
      rw [← cntB_snoc, ← htk] at cU
      have H1 : Hid (Below wr.heap.size wr w1 ∧ But (Cmn w0 w) w wr) := ⟨hB1, HI.out.2⟩
      clear hB1 htk hp hd HI hLn d4
      go_wp2_with fail
      rw [← hw1]
      clear hw1 p0 p1
      go_region_with (go_at_call 85; refine cU.mono ?_; rintro e w2 ⟨rfl, hC2, hb2⟩)
      all_goals
        have H2 : Hid (LC w0 w2 c vs V (cntB (P.take (i + 1))) (b + (i + 1)) ∧ But (Cmn w0 w) w w2) := ⟨hC2, cmn_trans H1.out.2 (cmn_after H1.out.1.drew hb2)⟩
        clear cU hC2 hb2 d0 q0
        go_wp2
        exact ⟨⟨i + 1, by omega, by go_num, H2.out⟩, by simp [intOf]; omega⟩
    · obtain rfl : i = L := by omega
      have H1 : Hid (LC w0 wr c vs V (cntB P) (b + i) ∧ But (Cmn w0 w) w wr) := by
        refine ⟨?_, HI.out.2⟩
        have h1 := HI.out.1
        rw [List.take_of_length_le (by rw [HLN.out]; exact Nat.le_refl _)] at h1
        exact h1
      clear HI d4
      have d4 := (HW.out.1.cache H1.out.2 ht).cell h4
      obtain ⟨wa, rfl⟩ : ∃ wa, wa = wr := ⟨_, rfl⟩
      go_wp2_with fail
      go_loopw [42] (fun ii wr => ∃ j : Nat, j ≤ i ∧ ii = .int .i64 j ∧ Hid (LC w0 wr c vs (Ino.putsV V (P.take j)) (cntB P) (b + i + j) ∧ But (Cmn w0 w) w wr)) (fun ii _ => i - (intOf ii).toNat)
      case atStart => exact ⟨0, Nat.zero_le _, rfl, H1.out.1, H1.out.2⟩
      case round =>
        obtain ⟨j, hj, rfl, HJ⟩ := hrel
        by_cases hlt : j < i
        · have hlti : (j : Int) < i := by omega
          have hLn := HW.out.2.2.2.1
          obtain ⟨p, hp⟩ : ∃ p, P[j]? = some p := ⟨_, List.getElem?_eq_getElem (by omega)⟩
          obtain ⟨d, hd⟩ : ∃ d, D[j]? = some d := ⟨_, List.getElem?_eq_getElem (by rw [HW.out.2.1.dl]; omega)⟩
          have hPr := HW.out.2.1.cache HJ.out.2
          obtain ⟨p0, p1⟩ := hPr.cells hp hd
          obtain ⟨w1, hw1⟩ : ∃ w1, w1 = wr.alloc (.cells #[.int .i64 (p.1 : Nat), .slice (some ⟨d.1, 0, none⟩) 512 d.2] 143) := ⟨_, rfl⟩
          have hB1 : Below wr.heap.size wr w1 := by rw [hw1]; exact (Below.refl _ wr).alloc (Nat.le_refl _) _
          have d0 := ((HW.out.1.cache HJ.out.2 ht).below hB1).cell h0
          have q0 : w1.cell? ⟨wr.heap.size, 0, none⟩ = some (.int .i64 (p.1 : Nat)) := by rw [hw1, cellOf (heap_alloc_new wr _) 0]; rfl
          have q1 : w1.cell? ⟨wr.heap.size, 1, none⟩ = some (.slice (some ⟨d.1, 0, none⟩) 512 d.2) := by rw [hw1, cellOf (heap_alloc_new wr _) 1]; rfl
          have htk : P.take (j + 1) = P.take j ++ [p] := by rw [List.take_add_one, hp]; rfl
          obtain ⟨e1, e2, e3, _⟩ := (hPr.below hB1.drew).d j p d hp hd
          have cU := lc_put w0 w1.drew c vs _ _ (b + i + j) p.1 (some ⟨d.1, 0, none⟩) d.2 p.2 (HJ.out.1.below hB1.drew) (by omega) (cntB_pos (List.mem_of_getElem? hp)) e1 e2 (fun g' o' e => by cases e; exact e3)
          rw [← putsV_snoc, ← htk] at cU
          have H3 : Hid (Below wr.heap.size wr w1 ∧ But (Cmn w0 w) w wr) := ⟨hB1, HJ.out.2⟩
          clear hB1 htk hp hd HJ hLn d4 hPr e1 e2 e3
          go_wp2_with fail
          rw [← hw1]
          clear hw1 p0 p1
          go_region_with (go_at_call 87; refine cU.mono ?_; rintro e w2 ⟨rfl, hC2, hb2⟩)
          all_goals
            have H2 : Hid (LC w0 w2 c vs (Ino.putsV V (P.take (j + 1))) (cntB P) (b + i + (j + 1)) ∧ But (Cmn w0 w) w w2) := ⟨hC2, cmn_trans H3.out.2 (cmn_after H3.out.1.drew hb2)⟩
            clear cU hC2 hb2 d0 q0 q1
            go_wp2
            go_roundw
            case rel => exact ⟨j + 1, by omega, by go_num, H2.out⟩
            case measure => simp [intOf]; omega
        · obtain rfl : j = i := by omega
          have H2 : Hid (LC w0 wr c vs (Ino.putsV V P) (cntB P) (b + j + j) ∧ But (Cmn w0 w) w wr) := by
            refine ⟨?_, HJ.out.2⟩
            have h1 := HJ.out.1
            rw [List.take_of_length_le (by rw [HLN.out]; exact Nat.le_refl _)] at h1
            exact h1
          clear HJ d4
          have hw2 := HW.out.1.cache H2.out.2 ht
          have d4 := hw2.cell h4
          have cU := unpin_L w0 wr wb c g cap (b + j + j) lo cs t vs (Ino.putsV V P) P D hw2 ht h0 (HW.out.2.1.cache H2.out.2) H2.out.1 (by rw [HLN.out]; exact hl)
          rw [HLN.out] at cU
          clear hw2
          go_wp2_with (go_at_call 86; refine cU.mono ?_; rintro e w3 ⟨rfl, hC3, hb3⟩; clear cU)
          go_ret
          exact ⟨rfl, hC3, cmn_trans H2.out.2 hb3⟩

end Go.Proofs.YtebdgcoandfocaaGreatDoor

namespace Go.Proofs.YtebdgcoandfocaaGreatDoor
open Go.RowKit Go.Maps Go.Sort Go.Shelf

def setM (m : Bm.MS) (i : Nat) : Bm.MS := if Bm.used m.ws i = true then m else m.turn i
def giveM (m : Bm.MS) (i : Nat) : Bm.MS := if Bm.used m.ws i = true then m.turn i else m
theorem setM_abn (m : Bm.MS) (i : Nat) : (setM m i).a = m.a ∧ (setM m i).b = m.b ∧ (setM m i).n = m.n := by unfold setM; split <;> exact ⟨rfl, rfl, rfl⟩
theorem giveM_abn (m : Bm.MS) (i : Nat) : (giveM m i).a = m.a ∧ (giveM m i).b = m.b ∧ (giveM m i).n = m.n := by unfold giveM; split <;> exact ⟨rfl, rfl, rfl⟩
theorem sets_abn : ∀ (T : List Nat) (m : Bm.MS), (T.foldl setM m).a = m.a ∧ (T.foldl setM m).b = m.b ∧ (T.foldl setM m).n = m.n
  | [], m => ⟨rfl, rfl, rfl⟩
  | i :: T, m => by
    obtain ⟨h1, h2, h3⟩ := sets_abn T (setM m i)
    obtain ⟨h4, h5, h6⟩ := setM_abn m i
    exact ⟨h1.trans h4, h2.trans h5, h3.trans h6⟩
theorem gives_abn : ∀ (T : List Nat) (m : Bm.MS), (T.foldl giveM m).a = m.a ∧ (T.foldl giveM m).b = m.b ∧ (T.foldl giveM m).n = m.n
  | [], m => ⟨rfl, rfl, rfl⟩
  | i :: T, m => by
    obtain ⟨h1, h2, h3⟩ := gives_abn T (giveM m i)
    obtain ⟨h4, h5, h6⟩ := giveM_abn m i
    exact ⟨h1.trans h4, h2.trans h5, h3.trans h6⟩

theorem set_M (r : Nat) (m : Bm.MS) (w : World) (hm : Bm.MapAt w m) (hr : r < m.n) : Calls Tryz.prog 23 #[.pointer (some ⟨m.a, 0, none⟩), .int .i64 r] w fun e w' => (∃ v : Int, e = .returned (.int .i64 v)) ∧ Bm.MapAt w' (setM m r) ∧ But (fun k => k = m.b) w w' := by
  refine (Bm.set_in r m w hm hr).mono ?_
  rintro e w' ⟨m2, ho, hm2, hb2⟩
  rcases ho with ⟨h1, h, rfl⟩ | ⟨h1, h, rfl⟩
  · exact ⟨⟨_, h⟩, by unfold setM; rw [if_pos h1]; exact hm2, only_but hb2⟩
  · exact ⟨⟨_, h⟩, by unfold setM; rw [if_neg (by rw [h1]; simp)]; exact hm2, only_but hb2⟩
theorem give_M (r : Nat) (m : Bm.MS) (w : World) (hm : Bm.MapAt w m) (hr : r < m.n) : Calls Tryz.prog 66 #[.pointer (some ⟨m.a, 0, none⟩), .int .i64 r] w fun e w' => (∃ v : Int, e = .returned (.int .i64 v)) ∧ Bm.MapAt w' (giveM m r) ∧ But (fun k => k = m.b) w w' := by
  refine (Bm.give_in r m w hm hr).mono ?_
  rintro e w' ⟨m2, ho, hm2, hb2⟩
  rcases ho with ⟨h1, h, rfl⟩ | ⟨h1, h, rfl⟩
  · exact ⟨⟨_, h⟩, by unfold giveM; rw [if_neg (by rw [h1]; simp)]; exact hm2, only_but hb2⟩
  · exact ⟨⟨_, h⟩, by unfold giveM; rw [if_pos (by simpa using h1)]; exact hm2, only_but hb2⟩

theorem map_mbE {w : World} {mf : Bm.MS} (h : Bm.MapAt w mf) : ∃ cs, w.heap[mf.b]? = some (.cells cs 61 (0, 0)) := by
  obtain ⟨cs, h1, _⟩ := h.row
  exact ⟨cs, h1⟩
theorem row_form {w : World} {base : Nat} {e : TypeId} {size : Nat} {v : Value} {n : Nat} {xs : List Value} (h : w.ownsRow base e size v n xs) : ∃ q cp, v = .slice q n cp ∧ (n = 0 ∨ ∃ g, q = some ⟨g, 0, none⟩) := by
  rcases h.2 with ⟨rfl, rfl⟩ | ⟨g, cap, _, rfl, _⟩
  · exact ⟨none, 0, rfl, .inl rfl⟩
  · exact ⟨some ⟨g, 0, none⟩, cap, rfl, .inr ⟨g, rfl⟩⟩

set_option maxRecDepth 8000 in
set_option maxHeartbeats 1000000 in
theorem putAll_none (w : World) (wb cap : Nat) (q : Option Addr) (cs : List Value) (t : TypeId) (hw : BlkAt w wb cs t) (h4 : cs[4]? = some (.slice q 0 cap)) : Calls Tryz.prog 65 #[.pointer (some ⟨wb, 0, none⟩)] w fun e w' => e = .returned (.int .i64 0) ∧ Below w.heap.size w w' := by
  have d4 := hw.cell h4
  obtain ⟨cs', t', hw'⟩ : ∃ cs' t', Hid (BlkAt w wb cs' t' ∧ cs'[4]? = some (.slice q 0 cap)) := ⟨cs, t, hw, h4⟩
  have cU : Calls Tryz.prog 86 #[.pointer (some ⟨wb, 0, none⟩), .slice q 0 cap] w fun e w' => e = .returned (.tuple #[]) ∧ w' = w := by
    clear hw
    go_enter Tryz.func86, Tryz.ntmps86
    go_wp2_with fail
    go_loop [8] (fun ii => ii = .int .i64 0) (fun _ => 0)
    case atStart => rfl
    case round =>
      subst hrel
      go_wp2
      go_end0
      exact ⟨rfl, rfl⟩
  clear hw
  go_enter Tryz.func65, Tryz.ntmps65
  go_wp2_with fail
  go_loop [13] (fun ii => ii = .int .i64 0) (fun _ => 0)
  case atStart => rfl
  case round =>
    subst hrel
    go_wp2_with fail
    go_loop [42] (fun ii => ii = .int .i64 0) (fun _ => 0)
    case atStart => rfl
    case round =>
      subst hrel
      go_wp2_with (go_at_call 86; refine Calls_on cU ?_; clear cU)
      go_ret
      exact ⟨rfl, Below.refl _ _⟩

/-- All puts, be there some or none. -/
theorem putAll_any (w0 w : World) (wb c b lo : Nat) (cs : List Value) (t : TypeId) (vs : VS) (V : Nat → By) (P : List (Nat × By)) (D : List (Nat × Nat)) (sP : Value) (hw : BlkAt w wb cs t) (ht : ¬ cTag t) (h0 : cs[0]? = some (ep c)) (h4 : cs[4]? = some sP) (hP : PR w lo P sP D) (hC : LC w0 w c vs V (fun _ => 0) b) (hl : P.length ≤ 1000) (hb : b + 3000 ≤ 800000) (hlt : ∀ q ∈ P, q.1 < nbOf vs.d.n) :
    Calls Tryz.prog 65 #[.pointer (some ⟨wb, 0, none⟩)] w fun e w' => e = .returned (.int .i64 0) ∧ LC w0 w' c vs (Ino.putsV V P) (fun _ => 0) (b + P.length + P.length + P.length) ∧ But (Cmn w0 w) w w' := by
  obtain ⟨q, cp, rfl, hq⟩ := row_form hP.p
  rcases hq with h | ⟨g, rfl⟩
  · have hn : P = [] := List.eq_nil_of_length_eq_zero h
    subst hn
    refine (putAll_none w wb cp q cs t hw h4).mono ?_
    rintro e w' ⟨rfl, hb'⟩
    exact ⟨rfl, hC.below hb', But.of_below hb'⟩
  · exact putAll_L w0 w wb c g cp b lo cs t vs V P D hw ht h0 h4 hP hC hl hb hlt

set_option maxRecDepth 8000 in
set_option maxHeartbeats 4000000 in
theorem do_L (w0 w : World) (wb c b lo : Nat) (fp : Value) (exs : List Value) (tt : TypeId) (htt : okTT tt) (vs : VS) (V : Nat → By) (T G : List Nat) (P : List (Nat × By)) (D : List (Nat × Nat)) (sT sG sP : Value) (m : Bm.MS) (hw : BlkAt w wb (ep c :: fp :: sT :: sG :: sP :: exs) tt) (hr : CR w lo T G P sT sG sP D) (hC : LC w0 w c vs V (fun _ => 0) b) (hl : P.length ≤ 1000 ∧ T.length ≤ 1000 ∧ G.length ≤ 1000) (hb : b + 3000 ≤ 800000) (hlt : ∀ q ∈ P, q.1 < nbOf vs.d.n) (hm : Bm.MapAt w m) (hT : ∀ i ∈ T, i < m.n) (hG : ∀ i ∈ G, i < m.n) :
    Calls Tryz.prog 43 #[.pointer (some ⟨wb, 0, none⟩), .pointer (some ⟨m.a, 0, none⟩)] w fun e w' => e = .returned (.int .i64 0) ∧ LC w0 w' c vs (Ino.putsV V P) (fun _ => 0) (b + P.length + P.length + P.length) ∧ Bm.MapAt w' (G.foldl giveM (T.foldl setM m)) ∧ But (fun k => Cmn w0 w k ∨ k = m.b) w w' := by
  have ht : ¬ cTag tt := cTag_not htt.f.1 htt.f.2.1 htt.f.2.2.1
  have cP := putAll_any w0 w wb c b lo _ tt vs V P D sP hw ht (by rfl) (by rfl) hr.pr hC hl.1 hb hlt
  obtain ⟨mcs, hmc⟩ := map_mbE hm
  have hmb : ∀ W, But (Cmn w0 w) w W → Bm.MapAt W m := fun W hW => hm.keep (but_only hW) (cmn_not hm.st (cTag_not (by decide) (by decide) (by decide))) (cmn_not hmc (cTag_not (by decide) (by decide) (by decide)))
  obtain ⟨qT, cT, rfl, hqT⟩ := row_form hr.t
  obtain ⟨qG, cG, rfl, hqG⟩ := row_form hr.g
  obtain ⟨LT, hLT⟩ : ∃ LT, T.length = LT := ⟨_, rfl⟩
  obtain ⟨LG, hLG⟩ : ∃ LG, G.length = LG := ⟨_, rfl⟩
  have HW := hide (⟨hw, hr, hT, hG, hLT, hLG, hmb⟩ : _ ∧ _ ∧ _ ∧ _ ∧ _ ∧ _ ∧ _)
  obtain ⟨l1, l2, l3⟩ := hl
  rw [hLT] at hqT l2
  rw [hLG] at hqG l3
  have d2 : ∀ W, But (fun k => Cmn w0 w k ∨ k = m.b) w W → W.cell? ⟨wb, 2, none⟩ = some (.slice qT LT cT) ∧ W.cell? ⟨wb, 3, none⟩ = some (.slice qG LG cG) ∧ BlkAt W wb (ep c :: fp :: .slice qT LT cT :: .slice qG LG cG :: sP :: exs) tt ∧ (∀ (k : Nat) cs, W.heap[k]? = some (.cells cs 3 (0, 0)) → True) ∧ CR W lo T G P (.slice qT LT cT) (.slice qG LG cG) sP D := by
    intro W hW
    have hS : ∀ k cs t fr, w.heap[k]? = some (.cells cs t fr) → ¬ cTag t → t ≠ 61 → ¬ (Cmn w0 w k ∨ k = m.b) := by
      rintro k cs t fr hk h1 h2 (e | rfl)
      · exact cmn_not hk h1 e
      · rw [hmc] at hk
        simp only [Option.some.injEq, Obj.cells.injEq] at hk
        exact h2 hk.2.1.symm
    rw [hLT, hLG] at hw hr
    have hw' := hw.but hW (hS _ _ _ _ hw ht htt.n.2.2.1)
    refine ⟨hw'.cell (i := 2) rfl, hw'.cell (i := 3) rfl, hw', fun _ _ _ => trivial, hr.but hW (fun k cs t fr hk e => ?_)⟩
    rcases e with rfl | rfl | rfl
    · exact hS _ _ _ _ hk (cTag_not (by decide) (by decide) (by decide)) (by decide)
    · exact hS _ _ _ _ hk (cTag_not (by decide) (by decide) (by decide)) (by decide)
    · exact hS _ _ _ _ hk (cTag_not (by decide) (by decide) (by decide)) (by decide)
  have HD := hide d2
  clear hw hr hC hm hT hG hLT hLG hmb hmc d2 hlt
  go_enter Tryz.func43, Tryz.ntmps43
  go_wp2_with (go_at_call 65; refine cP.mono ?_; rintro e w1 ⟨rfl, hC1, hb1⟩; clear cP; refine Stop.out ?_)
  refine Stop.mk ?_
  have hb1' : But (fun k => Cmn w0 w k ∨ k = m.b) w w1 := hb1.mono (fun _ _ h => .inl h)
  obtain ⟨d2, _⟩ := HD.out w1 hb1'
  have H1 := hide (⟨hC1, hb1', HW.out.2.2.2.2.2.2 w1 hb1⟩ : _ ∧ _ ∧ _)
  clear hC1 hb1 hb1'
  go_wp2_with fail
  go_loopw [20] (fun ii wr => ∃ i : Nat, i ≤ LT ∧ ii = .int .i64 i ∧ Hid (LC w0 wr c vs (Ino.putsV V P) (fun _ => 0) (b + P.length + P.length + P.length) ∧ But (fun k => Cmn w0 w k ∨ k = m.b) w wr ∧ Bm.MapAt wr ((T.take i).foldl setM m))) (fun ii _ => LT - (intOf ii).toNat)
  case atStart => exact ⟨0, Nat.zero_le _, rfl, H1.out⟩
  case round =>
    obtain ⟨i, hi, rfl, HI⟩ := hrel
    by_cases hlt : i < LT
    · have hlti : (i : Int) < LT := by omega
      obtain ⟨g, rfl⟩ : ∃ g, qT = some ⟨g, 0, none⟩ := by
        rcases hqT with h | h
        · omega
        · exact h
      obtain ⟨x, hx⟩ : ∃ x, T[i]? = some x := ⟨_, List.getElem?_eq_getElem (by have := HW.out.2.2.2.2.1; omega)⟩
      have p0 : wr.cell? ⟨g, i, none⟩ = some (.int .i64 (x : Nat)) := by
        have h1 := (HD.out wr HI.out.2.1).2.2.2.2.t.cells (g := g) rfl i (i64n x) (by rw [List.getElem?_map, hx]; rfl)
        rwa [Addr.add_lit, Nat.zero_add] at h1
      obtain ⟨ea, eb, en⟩ := sets_abn (T.take i) m
      have cS := set_M x _ wr HI.out.2.2 (by rw [en]; exact HW.out.2.2.1 x (List.mem_of_getElem? hx))
      rw [ea, eb] at cS
      have htk : (T.take (i + 1)).foldl setM m = setM ((T.take i).foldl setM m) x := by rw [List.take_add_one, hx, List.foldl_append]; rfl
      rw [← htk] at cS
      have hfor : ∀ W, But (fun k => k = m.b) wr W → LC w0 W c vs (Ino.putsV V P) (fun _ => 0) (b + P.length + P.length + P.length) := fun W hW => HI.out.1.foreign hW (by
        rintro k rfl
        obtain ⟨cs, hc⟩ := map_mbE HI.out.2.2
        rw [eb] at hc
        exact ⟨cs, _, _, hc, by unfold foreignT; decide⟩)
      have HI2 := hide (And.intro hfor HI.out.2.1)
      clear htk hx ea eb en hfor HI d2
      go_wp2_with (go_at_call 23; refine cS.mono ?_; rintro e w2 ⟨⟨v, rfl⟩, hm2, hb2⟩; clear cS; have H2 := hide (⟨HI2.out.1 w2 hb2, HI2.out.2.trans (hb2.mono (fun _ _ h => .inr h)), hm2⟩ : _ ∧ _ ∧ _); clear hm2 hb2)
      exact ⟨⟨i + 1, by omega, by go_num, H2.out⟩, by simp [intOf]; omega⟩
    · obtain rfl : i = LT := by omega
      have H2 : Hid (LC w0 wr c vs (Ino.putsV V P) (fun _ => 0) (b + P.length + P.length + P.length) ∧ But (fun k => Cmn w0 w k ∨ k = m.b) w wr ∧ Bm.MapAt wr (T.foldl setM m)) := by
        refine ⟨HI.out.1, HI.out.2.1, ?_⟩
        have h1 := HI.out.2.2
        rw [List.take_of_length_le (by rw [HW.out.2.2.2.2.1]; exact Nat.le_refl _)] at h1
        exact h1
      obtain ⟨_, d3, _⟩ := HD.out wr HI.out.2.1
      clear HI d2
      obtain ⟨wa, rfl⟩ : ∃ wa, wa = wr := ⟨_, rfl⟩
      go_wp2_with fail
      go_loopw [33] (fun ii wr => ∃ j : Nat, j ≤ LG ∧ ii = .int .i64 j ∧ Hid (LC w0 wr c vs (Ino.putsV V P) (fun _ => 0) (b + P.length + P.length + P.length) ∧ But (fun k => Cmn w0 w k ∨ k = m.b) w wr ∧ Bm.MapAt wr ((G.take j).foldl giveM (T.foldl setM m)))) (fun ii _ => LG - (intOf ii).toNat)
      case atStart => exact ⟨0, Nat.zero_le _, rfl, H2.out⟩
      case round =>
        obtain ⟨j, hi, rfl, HI⟩ := hrel
        by_cases hlt : j < LG
        · have hlti : (j : Int) < LG := by omega
          obtain ⟨g, rfl⟩ : ∃ g, qG = some ⟨g, 0, none⟩ := by
            rcases hqG with h | h
            · omega
            · exact h
          obtain ⟨x, hx⟩ : ∃ x, G[j]? = some x := ⟨_, List.getElem?_eq_getElem (by have := HW.out.2.2.2.2.2.1; omega)⟩
          have p0 : wr.cell? ⟨g, j, none⟩ = some (.int .i64 (x : Nat)) := by
            have h1 := (HD.out wr HI.out.2.1).2.2.2.2.g.cells (g := g) rfl j (i64n x) (by rw [List.getElem?_map, hx]; rfl)
            rwa [Addr.add_lit, Nat.zero_add] at h1
          obtain ⟨ea, eb, en⟩ := (by obtain ⟨h1, h2, h3⟩ := gives_abn (G.take j) (T.foldl setM m); obtain ⟨h4, h5, h6⟩ := sets_abn T m; exact ⟨h1.trans h4, h2.trans h5, h3.trans h6⟩ : ((G.take j).foldl giveM (T.foldl setM m)).a = m.a ∧ ((G.take j).foldl giveM (T.foldl setM m)).b = m.b ∧ ((G.take j).foldl giveM (T.foldl setM m)).n = m.n)
          have cS := give_M x _ wr HI.out.2.2 (by rw [en]; exact HW.out.2.2.2.1 x (List.mem_of_getElem? hx))
          rw [ea, eb] at cS
          have htk : (G.take (j + 1)).foldl giveM (T.foldl setM m) = giveM ((G.take j).foldl giveM (T.foldl setM m)) x := by rw [List.take_add_one, hx, List.foldl_append]; rfl
          rw [← htk] at cS
          have hfor : ∀ W, But (fun k => k = m.b) wr W → LC w0 W c vs (Ino.putsV V P) (fun _ => 0) (b + P.length + P.length + P.length) := fun W hW => HI.out.1.foreign hW (by
            rintro k rfl
            obtain ⟨cs, hc⟩ := map_mbE HI.out.2.2
            rw [eb] at hc
            exact ⟨cs, _, _, hc, by unfold foreignT; decide⟩)
          have HI2 := hide (And.intro hfor HI.out.2.1)
          clear htk hx ea eb en hfor HI d3
          go_wp2_with (go_at_call 66; refine cS.mono ?_; rintro e w2 ⟨⟨v, rfl⟩, hm2, hb2⟩; clear cS; have H2 := hide (⟨HI2.out.1 w2 hb2, HI2.out.2.trans (hb2.mono (fun _ _ h => .inr h)), hm2⟩ : _ ∧ _ ∧ _); clear hm2 hb2)
          exact ⟨⟨j + 1, by omega, by go_num, H2.out⟩, by simp [intOf]; omega⟩
        · obtain rfl : j = LG := by omega
          have H3 : Hid (LC w0 wr c vs (Ino.putsV V P) (fun _ => 0) (b + P.length + P.length + P.length) ∧ Bm.MapAt wr (G.foldl giveM (T.foldl setM m)) ∧ But (fun k => Cmn w0 w k ∨ k = m.b) w wr) := by
            refine ⟨HI.out.1, ?_, HI.out.2.1⟩
            have h1 := HI.out.2.2
            rw [List.take_of_length_le (by rw [HW.out.2.2.2.2.2.1]; exact Nat.le_refl _)] at h1
            exact h1
          clear HI d3
          go_wp2
          go_ret
          exact ⟨rfl, H3.out⟩

end Go.Proofs.YtebdgcoandfocaaGreatDoor
